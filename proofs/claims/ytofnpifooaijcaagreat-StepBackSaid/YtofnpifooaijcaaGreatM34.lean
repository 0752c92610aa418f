/-
  What is proved: what the library's stable sort of fields asks of a program ('SortP'), and its innermost call: two parts of a row exchanged, in every world of the sort's; all else is kept.
  two parts of a row side by side, turned by the library's sort, in every world of the sort's; all else is kept.
  the library's symMerge at fields, one field ahead of a row in order: it goes to its place; all else is kept.
  the library's symMerge at fields, one field behind a row in order: it goes to its place; all else is kept.
-/
import Derived.Test.YtofnpifooaijcaaGreatM33
import Derived.Test.YtofnpifooaijcaaGreatM10
import Derived.Shelf.SlSortCmp.KitK
import Derived.Sort.WalkB2
import Derived.Sort.WalkB12
import Derived.Deep.LoopGhost
namespace Go.Proofs.YtofnpifooaijcaaGreat
open Go.Shelf Go.RowKit Go.Lib Go.Sort
set_option linter.unusedVariables false
structure SortP (P : Program) (k : Nat) : Prop where
  mixed : P.follows .mixedOrders = true
  t0 : P.underlying 0 = some (TypeDesc.tuple #[])
  a0 : ∀ w, (isAgg 0).run P w = .ok false w
  z0 : ∀ w, (Go.sizeOf 0).run P w = .ok 1 w
  v0 : ∀ w, (zeroValue 0).run P w = .ok (Value.tuple #[]) w
  t3 : P.underlying 3 = some (TypeDesc.int IntKind.i64)
  a3 : ∀ w, (isAgg 3).run P w = .ok false w
  z3 : ∀ w, (Go.sizeOf 3).run P w = .ok 1 w
  v3 : ∀ w, (zeroValue 3).run P w = .ok (Value.int IntKind.i64 0) w
  t5 : P.underlying 128 = some (TypeDesc.int IntKind.u64)
  a5 : ∀ w, (isAgg 128).run P w = .ok false w
  z5 : ∀ w, (Go.sizeOf 128).run P w = .ok 1 w
  v5 : ∀ w, (zeroValue 128).run P w = .ok (Value.int IntKind.u64 0) w
  t4 : P.underlying 4 = some (TypeDesc.bool)
  a4 : ∀ w, (isAgg 4).run P w = .ok false w
  z4 : ∀ w, (Go.sizeOf 4).run P w = .ok 1 w
  v4 : ∀ w, (zeroValue 4).run P w = .ok (Value.bool false) w
  t22 : P.underlying 22 = some (TypeDesc.slice 28)
  a22 : ∀ w, (isAgg 22).run P w = .ok false w
  z22 : ∀ w, (Go.sizeOf 22).run P w = .ok 1 w
  v22 : ∀ w, (zeroValue 22).run P w = .ok (Value.slice none 0 0) w
  t25 : P.underlying 144 = some (TypeDesc.func #[28, 28] #[3] false)
  a25 : ∀ w, (isAgg 144).run P w = .ok false w
  z25 : ∀ w, (Go.sizeOf 144).run P w = .ok 1 w
  v25 : ∀ w, (zeroValue 144).run P w = .ok (Value.nilFunc) w
  aE : ∀ w, (isAgg 28).run P w = .ok true w
  zE : ∀ w, (Go.sizeOf 28).run P w = .ok k w
  fS : P.funcs[183]? = some Tryz.f183
  fR : P.funcs[174]? = some Tryz.f174
  fM : P.funcs[168]? = some Tryz.f168
theorem sortP : SortP Tryz.prog 6 where
  mixed := by kernel_rfl
  t0 := by kernel_rfl
  a0 := fun w => by kernel_rfl
  z0 := fun w => by kernel_rfl
  v0 := fun w => by kernel_rfl
  t3 := by kernel_rfl
  a3 := fun w => by kernel_rfl
  z3 := fun w => by kernel_rfl
  v3 := fun w => by kernel_rfl
  t5 := by kernel_rfl
  a5 := fun w => by kernel_rfl
  z5 := fun w => by kernel_rfl
  v5 := fun w => by kernel_rfl
  t4 := by kernel_rfl
  a4 := fun w => by kernel_rfl
  z4 := fun w => by kernel_rfl
  v4 := fun w => by kernel_rfl
  t22 := by kernel_rfl
  a22 := fun w => by kernel_rfl
  z22 := fun w => by kernel_rfl
  v22 := fun w => by kernel_rfl
  t25 := by kernel_rfl
  a25 := fun w => by kernel_rfl
  z25 := fun w => by kernel_rfl
  v25 := fun w => by kernel_rfl
  aE := fun w => by kernel_rfl
  zE := fun w => by kernel_rfl
  fS := by kernel_rfl
  fR := by kernel_rfl
  fM := by kernel_rfl
abbrev SWF (enc : Fd → List Value) (k : Nat) (w0 : World) (blk off : Nat) (L : List Fd) (W : World) : Prop := SWK enc k w0 blk off L.toArray W
variable {P : Program}
set_option maxHeartbeats 4000000 in
set_option maxRecDepth 1000000 in
theorem swr_any (k : Nat) (LP : SortP P k) (enc : Fd → List Value) (g : Nat) (cb : Array Value) (blk off cap sz a b n : Nat) (d0 : Array Fd) (w0 w : World) (R : RowK enc k w0 blk off d0) (hs : d0.size = sz) (hsz : sz < 1000000)
    (Pr A M B S : List Fd) (hA : A.length = n) (hB : B.length = n) (ha : a = Pr.length) (hb : b = Pr.length + n + M.length) (hL : Pr.length + n + M.length + n + S.length = sz) (H : SWF enc k w0 blk off (Pr ++ (A ++ (M ++ (B ++ S)))) w) :
    Calls P 183 #[.slice (some ⟨blk, off, none⟩) sz cap, .int .i64 a, .int .i64 b, .int .i64 n, .func (.func g) #[] cb] w fun e w' => e = .returned (.tuple #[]) ∧ SWF enc k w0 blk off (Pr ++ (B ++ (M ++ (A ++ S)))) w' := by
  have mixed := LP.mixed; have t0 := LP.t0; have a0 := LP.a0; have z0 := LP.z0; have v0 := LP.v0; have t3 := LP.t3; have a3 := LP.a3; have z3 := LP.z3; have v3 := LP.v3; have t4 := LP.t4; have a4 := LP.a4; have z4 := LP.z4; have v4 := LP.v4; have t22 := LP.t22; have a22 := LP.a22; have z22 := LP.z22; have v22 := LP.v22; have t25 := LP.t25; have a25 := LP.a25; have z25 := LP.z25; have v25 := LP.v25; have aE := LP.aE; have zE := LP.zE
  have FG := LP.fS
  have S0 : Aside (SWK enc k w0 blk off (xch Pr A M B S 0).toArray w) := by rw [xch_zero]; exact H
  have HE : Aside (xch Pr A M B S n = Pr ++ (B ++ (M ++ (A ++ S)))) := xch_all Pr A M B S hA hB
  have hbn : b + n ≤ sz := by omega
  have han : a + n ≤ b := by omega
  have HQ : Aside (A.length = n ∧ B.length = n ∧ a = Pr.length ∧ b = Pr.length + n + M.length ∧ Pr.length + n + M.length + n + S.length = sz) := ⟨hA, hB, ha, hb, hL⟩
  clear H hA hB ha hb hL
  go_enter FG, Tryz.ntmps183
  go_wp2
  go_loopg [10] n (fun kx s10 wr => ∃ i : Nat, s10 = .int .i64 i ∧ i ≤ n ∧ n - i ≤ kx ∧ Aside (SWK enc k w0 blk off (xch Pr A M B S i).toArray wr))
  case atStart => exact ⟨0, rfl, Nat.zero_le _, Nat.le_refl _, S0⟩
  case round =>
    clear S0
    obtain ⟨i, rfl, hi, hkx, S1⟩ := hrel
    by_cases hlt : i < n
    · have hltz : (i : Int) < (n : Int) := by omega
      have hdk : (xch Pr A M B S i).toArray.size = sz := by simp only [List.size_toArray]; rw [xch_len]; have := HQ.out; omega
      have ST : Aside (swp (xch Pr A M B S i).toArray (a + i) (b + i) = (xch Pr A M B S (i + 1)).toArray) := xch_step Pr A M B S HQ.out.1 HQ.out.2.1 hlt HQ.out.2.2.1 HQ.out.2.2.2.1
      generalize (xch Pr A M B S i).toArray = dk at S1 hdk ST
      have ea44 : ((a : Int) + (i : Int)).toNat = a + i := by omega
      have pa44 : (0 : Int) ≤ (a : Int) + (i : Int) := by omega
      have ba44 : (a : Int) + (i : Int) < (sz : Int) := by omega
      have ra44 : IntKind.i64.wrap ((a : Int) + (i : Int)) = (a : Int) + (i : Int) := by rw [IntKind.wrap_i64]; omega
      have ec44 : ((b : Int) + (i : Int)).toNat = b + i := by omega
      have pc44 : (0 : Int) ≤ (b : Int) + (i : Int) := by omega
      have bc44 : (b : Int) + (i : Int) < (sz : Int) := by omega
      have rc44 : IntKind.i64.wrap ((b : Int) + (i : Int)) = (b : Int) + (i : Int) := by rw [IntKind.wrap_i64]; omega
      have S2 : Aside (SWK enc k w0 blk off (swp dk (a + i) (b + i)) ((wr.drew.setCells blk (off + (a + i) * k) (enc dk[b + i]!)).setCells blk (off + (b + i) * k) (enc dk[a + i]!))) := S1.out.swapped R (a + i) (b + i) (by omega) (by omega)
      have l44a := S1.out.ld1 R (by omega) P (a + i) (by omega)
      have l44b := S1.out.ld1 R (by omega) P (b + i) (by omega)
      have s44a := S1.out.st1 R (by omega) P (a + i) (by omega) dk[b + i]!
      have s44b := S1.out.st2 R (by omega) P (a + i) (b + i) (by omega) (by omega) dk[b + i]! dk[a + i]!
      have n44a : (enc dk[a + i]!).length = k := R.hk _
      have n44b : (enc dk[b + i]!).length = k := R.hk _
      rw [ST.out] at S2
      generalize enc dk[a + i]! = cI44 at S2 l44a s44b n44a
      generalize enc dk[b + i]! = cJ44 at S2 l44b s44a s44b n44b
      clear S1 ST
      go_wp2_with fail
      go_big_region_o
      clear l44a l44b s44a s44b
      generalize (wr.drew.setCells blk (off + (a + i) * k) cJ44).setCells blk (off + (b + i) * k) cI44 = w2 at S2 ⊢
      go_wp2
      go_roundg (n - (i + 1))
      case measure => omega
      case rel => exact ⟨i + 1, by go_num, hlt, Nat.le_refl _, S2⟩
    · have hlz : ¬ (i : Int) < (n : Int) := by omega
      obtain rfl : i = n := by omega
      go_wp2
      go_end0
      refine ⟨rfl, ?_⟩
      rw [HE.out] at S1
      exact S1.out
variable {P : Program}
def Turns (T : List Fd) (m i j sz : Nat) (Pr U V S : List Fd) : Prop :=
  U.length = i ∧ V.length = j ∧ m = Pr.length + i ∧ Pr.length + i + j + S.length = sz ∧ Pr ++ (V ++ (U ++ S)) = T
set_option maxHeartbeats 4000000 in
set_option maxRecDepth 1000000 in
theorem rot_any (k : Nat) (LP : SortP P k) (enc : Fd → List Value) (g : Nat) (cb : Array Value) (blk off cap sz a m b : Nat) (d0 : Array Fd) (w0 w : World) (R : RowK enc k w0 blk off d0) (hs : d0.size = sz) (hsz : sz < 1000000)
    (Pr U V S : List Fd) (hU : 0 < U.length) (hV : 0 < V.length) (ha : a = Pr.length) (hm : m = Pr.length + U.length) (hb : b = Pr.length + U.length + V.length) (hL : b + S.length = sz) (H : SWF enc k w0 blk off (Pr ++ (U ++ (V ++ S))) w) :
    Calls P 174 #[.slice (some ⟨blk, off, none⟩) sz cap, .int .i64 a, .int .i64 m, .int .i64 b, .func (.func g) #[] cb] w fun e w' => e = .returned (.tuple #[]) ∧ SWF enc k w0 blk off (Pr ++ (V ++ (U ++ S))) w' := by
  have mixed := LP.mixed; have t0 := LP.t0; have a0 := LP.a0; have z0 := LP.z0; have v0 := LP.v0; have t3 := LP.t3; have a3 := LP.a3; have z3 := LP.z3; have v3 := LP.v3; have t4 := LP.t4; have a4 := LP.a4; have z4 := LP.z4; have v4 := LP.v4; have t22 := LP.t22; have a22 := LP.a22; have z22 := LP.z22; have v22 := LP.v22; have t25 := LP.t25; have a25 := LP.a25; have z25 := LP.z25; have v25 := LP.v25
  have FG := LP.fR
  have e89 : ∀ args w, (callFunc 183 args).run P w = .ok (.enter 183 args) w := enters_of LP.fS (by kernel_rfl) rfl
  obtain ⟨T, hT⟩ : ∃ T, Pr ++ (V ++ (U ++ S)) = T := ⟨_, rfl⟩
  have HW := Lib.hid (fun (n a b : Nat) (w : World) (Pr A M B S : List Fd) (h1 : A.length = n) (h2 : B.length = n) (h3 : a = Pr.length) (h4 : b = Pr.length + n + M.length) (h5 : Pr.length + n + M.length + n + S.length = sz) => swr_any k LP enc g cb blk off cap sz a b n d0 w0 w R hs hsz Pr A M B S h1 h2 h3 h4 h5)
  obtain ⟨i0, hi0⟩ : ∃ i0, U.length = i0 := ⟨_, rfl⟩
  obtain ⟨j0, hj0⟩ : ∃ j0, V.length = j0 := ⟨_, rfl⟩
  have HT0 := Lib.hid (show Turns T m i0 j0 sz Pr U V S from ⟨hi0, hj0, by omega, by omega, hT⟩)
  have hT1 : 0 < i0 := by omega
  have hT2 : 0 < j0 := by omega
  have r1 : IntKind.i64.wrap ((m : Int) - (a : Int)) = (i0 : Int) := by rw [IntKind.wrap_i64]; omega
  have r2 : IntKind.i64.wrap ((b : Int) - (m : Int)) = (j0 : Int) := by rw [IntKind.wrap_i64]; omega
  have hbz : m < 1000000 := by omega
  have hij : i0 + j0 < 1000000 := by omega
  rw [hT]
  have S0 : Aside (SWF enc k w0 blk off (Pr ++ (U ++ (V ++ S))) w) := H
  clear H hU hV ha hm hb hL hT hi0 hj0
  go_enter FG, Tryz.ntmps174
  go_wp2
  clear r1 r2
  go_loopg [10, 11] (i0 + j0) (fun kx s10 s11 wr => ∃ (i j : Nat) (Pr U V S : List Fd), s10 = .int .i64 i ∧ s11 = .int .i64 j ∧ 0 < i ∧ 0 < j ∧ i + j ≤ kx ∧ i + j < 1000000 ∧ Hid (Turns T m i j sz Pr U V S) ∧ Aside (SWF enc k w0 blk off (Pr ++ (U ++ (V ++ S))) wr))
  case atStart => exact ⟨i0, j0, Pr, U, V, S, rfl, rfl, hT1, hT2, Nat.le_refl _, hij, HT0, S0⟩
  case round =>
    clear S0 HT0 hT1 hT2 hij
    obtain ⟨i, j, Pr, U, V, S, rfl, rfl, hi, hj, hkx, hij, HT, S1⟩ := hrel
    obtain ⟨p, hp⟩ : ∃ p, Pr.length = p := ⟨_, rfl⟩
    have rp : IntKind.i64.wrap ((m : Int) - (i : Int)) = (p : Int) := by have := HT.out.2.2.1; rw [IntKind.wrap_i64]; omega
    have HP := Lib.hid hp
    clear hp
    rcases Nat.lt_trichotomy i j with h | h | h
    · have q1 : ((i : Int) == (j : Int)) = false := by rw [beq_eq_false_iff_ne]; omega
      have q1' : ¬ (i : Int) = (j : Int) := by omega
      have q2 : ¬ (j : Int) < (i : Int) := by omega
      have ra : IntKind.i64.wrap ((m : Int) + (j : Int)) = (m : Int) + (j : Int) := by rw [IntKind.wrap_i64]; omega
      have rb : IntKind.i64.wrap ((m : Int) + (j : Int) - (i : Int)) = ((m + j - i : Nat) : Int) := by rw [IntKind.wrap_i64]; omega
      have rc : IntKind.i64.wrap ((j : Int) - (i : Int)) = ((j - i : Nat) : Int) := by rw [IntKind.wrap_i64]; omega
      have hC := Lib.hid (HW.out i p (m + j - i) wr Pr U (V.take (j - i)) (V.drop (j - i)) S HT.out.1 (by rw [List.length_drop]; obtain ⟨h1, h2, h3, h4, _⟩ := HT.out; omega) HP.out.symm (by rw [List.length_take]; obtain ⟨h1, h2, h3, h4, _⟩ := HT.out; omega) (by rw [List.length_take]; obtain ⟨h1, h2, h3, h4, _⟩ := HT.out; omega) (by
        have e : U ++ (V.take (j - i) ++ (V.drop (j - i) ++ S)) = U ++ (V ++ S) := by rw [← List.append_assoc (V.take _), List.take_append_drop]
        show SWF _ _ _ _ _ _ _
        rw [e]; exact S1.out))
      generalize m + j - i = mji at rb hC
      have HN := Lib.hid (show Turns T m i (j - i) sz Pr (V.drop (j - i)) (V.take (j - i)) (U ++ S) from by
        obtain ⟨h1, h2, h3, h4, h5⟩ := HT.out
        refine ⟨by rw [List.length_drop]; omega, by rw [List.length_take]; omega, h3, by rw [List.length_append]; omega, ?_⟩
        rw [← h5, ← List.append_assoc (V.take _), List.take_append_drop])
      have hji : 0 < j - i := by omega
      have hjj : i + (j - i) ≤ i + j - 1 := by omega
      generalize j - i = ji at rc HN hji hjj hC
      clear S1
      go_wp2_with (go_at_fn 183; refine hC.out.mono ?_; rintro e w2 ⟨rfl, hS2⟩)
      go_roundg (i + j - 1)
      case measure => omega
      case rel => exact ⟨i, ji, Pr, _, _, _, rfl, rfl, hi, hji, hjj, by omega, HN, hS2⟩
    · subst h
      have q1 : ((i : Int) == (i : Int)) = true := by simp
      have hC := Lib.hid (HW.out i p m wr Pr U [] V S HT.out.1 HT.out.2.1 HP.out.symm (by obtain ⟨h1, h2, h3, h4, _⟩ := HT.out; simp; omega) (by obtain ⟨h1, h2, h3, h4, _⟩ := HT.out; simp; omega) S1.out)
      have HF := Lib.hid (show Pr ++ (V ++ ([] ++ (U ++ S))) = T from HT.out.2.2.2.2)
      clear S1
      go_wp2_with (go_at_fn 183; refine hC.out.mono ?_; rintro e w2 ⟨rfl, hS2⟩)
      go_end0
      refine ⟨rfl, ?_⟩
      rw [HF.out] at hS2
      exact hS2
    · have q1 : ((i : Int) == (j : Int)) = false := by rw [beq_eq_false_iff_ne]; omega
      have q1' : ¬ (i : Int) = (j : Int) := by omega
      have q2 : (j : Int) < (i : Int) := by omega
      have rc : IntKind.i64.wrap ((i : Int) - (j : Int)) = ((i - j : Nat) : Int) := by rw [IntKind.wrap_i64]; omega
      have hC := Lib.hid (HW.out j p m wr Pr (U.take j) (U.drop j) V S (by rw [List.length_take]; obtain ⟨h1, h2, h3, h4, _⟩ := HT.out; omega) HT.out.2.1 HP.out.symm (by rw [List.length_drop]; obtain ⟨h1, h2, h3, h4, _⟩ := HT.out; omega) (by rw [List.length_drop]; obtain ⟨h1, h2, h3, h4, _⟩ := HT.out; omega) (by
        have e : U.take j ++ (U.drop j ++ (V ++ S)) = U ++ (V ++ S) := by rw [← List.append_assoc (U.take _), List.take_append_drop]
        show SWF _ _ _ _ _ _ _
        rw [e]; exact S1.out))
      have HN := Lib.hid (show Turns T m (i - j) j sz (Pr ++ V) (U.drop j) (U.take j) S from by
        obtain ⟨h1, h2, h3, h4, h5⟩ := HT.out
        refine ⟨by rw [List.length_drop]; omega, by rw [List.length_take]; omega, by rw [List.length_append]; omega, by rw [List.length_append]; omega, ?_⟩
        rw [← h5, ← List.append_assoc (U.take _), List.take_append_drop, List.append_assoc])
      have hji : 0 < i - j := by omega
      have hjj : i - j + j ≤ i + j - 1 := by omega
      generalize i - j = ij at rc HN hji hjj
      clear S1
      go_wp2_with (go_at_fn 183; refine hC.out.mono ?_; rintro e w2 ⟨rfl, hS2⟩)
      go_roundg (i + j - 1)
      case measure => omega
      case rel => exact ⟨ij, j, _, _, _, S, rfl, rfl, hji, hj, hjj, by omega, HN, by rw [List.append_assoc]; exact hS2⟩
variable {P : Program}
def SymS (enc : Fd → List Value) (k : Nat) (w0 : World) (blk off : Nat) (Pr X Y S : List Fd) (e : Ending) (w' : World) : Prop :=
  e = .returned (.tuple #[]) ∧ ∃ Z, Z.length = X.length + Y.length ∧ Flat Z ∧ Stab Z (X ++ Y) ∧ SWF enc k w0 blk off (Pr ++ (Z ++ S)) w'
set_option maxHeartbeats 8000000 in
set_option maxRecDepth 1000000 in
theorem sym_one (k : Nat) (LP : SortP P k) (enc : Fd → List Value) (cf : Fd → Fd → Int) (hcf : ∀ x y, cf x y < 0 ↔ LtP x.p y.p) (g : Nat) (cb : Array Value) (blk off cap sz : Nat) (d0 : Array Fd) (w0 : World) (eg : ∀ args w, (callFunc g args).run P w = .ok (.enter g args) w) (hcmp : CmpLays P g cb enc k cf blk off d0.size w0) (R : RowK enc k w0 blk off d0) (hs : d0.size = sz) (hsz : sz < 1000000)
    (a m b : Nat) (Pr Y S : List Fd) (x : Fd) (w : World) (hY : 0 < Y.length) (ha : a = Pr.length) (hm : m = Pr.length + 1) (hb : b = Pr.length + 1 + Y.length) (hL : b + S.length = sz) (fY : Flat Y) (H : SWF enc k w0 blk off (Pr ++ ([x] ++ (Y ++ S))) w) :
    Calls P 168 #[.slice (some ⟨blk, off, none⟩) sz cap, .int .i64 a, .int .i64 m, .int .i64 b, .func (.func g) #[] cb] w (SymS enc k w0 blk off Pr [x] Y S) := by
  have mixed := LP.mixed; have t0 := LP.t0; have a0 := LP.a0; have z0 := LP.z0; have v0 := LP.v0; have t3 := LP.t3; have a3 := LP.a3; have z3 := LP.z3; have v3 := LP.v3; have t4 := LP.t4; have a4 := LP.a4; have z4 := LP.z4; have v4 := LP.v4; have t5 := LP.t5; have a5 := LP.a5; have z5 := LP.z5; have v5 := LP.v5; have t22 := LP.t22; have a22 := LP.a22; have z22 := LP.z22; have v22 := LP.v22; have t25 := LP.t25; have a25 := LP.a25; have z25 := LP.z25; have v25 := LP.v25; have aE := LP.aE; have zE := LP.zE
  have FG := LP.fM
  have HC : Aside _ := hcmp
  have HCF := Lib.hid hcf
  have HQ := Lib.hid (show a = Pr.length ∧ m = Pr.length + 1 ∧ b = Pr.length + 1 + Y.length ∧ b + S.length = sz ∧ Flat Y ∧ (Pr ++ ([x] ++ (Y ++ S))).length = sz from ⟨ha, hm, hb, hL, fY, by simp only [List.length_append, List.length_cons, List.length_nil]; omega⟩)
  have r1 : IntKind.i64.wrap ((m : Int) - (a : Int)) = 1 := by rw [IntKind.wrap_i64]; omega
  have ham : m = a + 1 := by omega
  have hmb : m < b := by omega
  have hbs : b ≤ sz := by omega
  have S0 : Aside (SWF enc k w0 blk off (Pr ++ ([x] ++ (Y ++ S))) w) := H
  have HAM := Lib.hid ham
  have ham2 : a < m := by omega
  have hms : a + 1 < 1000000 := by omega
  clear hcf hcmp H ha hm hb hL fY hY ham
  go_enter FG, Tryz.ntmps168
  go_wp2
  clear r1
  go_loopg [10, 11] (b - m) (fun kx s10 s11 wr => ∃ (i j : Nat), s10 = .int .i64 i ∧ s11 = .int .i64 j ∧ m ≤ i ∧ i ≤ j ∧ j ≤ b ∧ j - i ≤ kx ∧ Hid ((i = m ∨ ∃ y, Y[i - m - 1]? = some y ∧ LtP y.p x.p) ∧ (j = b ∨ ∃ y, Y[j - m]? = some y ∧ ¬ LtP y.p x.p)) ∧ Aside (SWF enc k w0 blk off (Pr ++ ([x] ++ (Y ++ S))) wr))
  case atStart => exact ⟨m, b, rfl, rfl, Nat.le_refl _, Nat.le_of_lt hmb, Nat.le_refl _, Nat.le_refl _, ⟨.inl rfl, .inl rfl⟩, S0⟩
  case round =>
    clear S0
    obtain ⟨i, j, rfl, rfl, hmi, hij, hjb, hkx, HI, S1⟩ := hrel
    by_cases hlt : i < j
    · have hltz : (i : Int) < (j : Int) := by omega
      have rs : IntKind.i64.wrap ((i : Int) + (j : Int)) = (i : Int) + (j : Int) := by rw [IntKind.wrap_i64]; omega
      have ru : IntKind.u64.wrap ((i : Int) + (j : Int)) = (i : Int) + (j : Int) := by rw [IntKind.wrap_u64]; omega
      obtain ⟨h, hh⟩ : ∃ h, (i + j) / 2 = h := ⟨_, rfl⟩
      have rh : ((i : Int) + (j : Int)) / 2 = (h : Int) := by omega
      have rw1 : IntKind.i64.wrap (h : Int) = (h : Int) := by rw [IntKind.wrap_i64]; omega
      have hih : i ≤ h := by omega
      have hhj : h < j := by omega
      clear hh
      have ea1 : ((h : Int)).toNat = h := by omega
      have pa1 : (0 : Int) ≤ (h : Int) := by omega
      have ba1 : (h : Int) < (sz : Int) := by omega
      have ea2 : ((a : Int)).toNat = a := by omega
      have pa2 : (0 : Int) ≤ (a : Int) := by omega
      have ba2 : (a : Int) < (sz : Int) := by omega
      obtain ⟨y, hy, hyd⟩ := four_y (P := Pr) (X := [x]) (Y := Y) (S := S) (c := h) (by have := HQ.out; simp only [List.length_cons, List.length_nil]; omega) (by have := HQ.out; simp only [List.length_cons, List.length_nil]; omega)
      have hxd : (Pr ++ ([x] ++ (Y ++ S))).toArray[a]! = x := arr_get Pr x (Y ++ S) HQ.out.1
      have hy2 : Y[h - m]? = some y := by
        rw [← hy]; congr 1
        have := HQ.out; simp only [List.length_cons, List.length_nil]; omega
      have hdk : (Pr ++ ([x] ++ (Y ++ S))).length = sz := HQ.out.2.2.2.2.2
      have l1a := S1.out.ld R (by simp only [List.size_toArray]; omega) P h (by simp only [List.size_toArray]; omega)
      have l1b := S1.out.ld R (by simp only [List.size_toArray]; omega) P a (by simp only [List.size_toArray]; omega)
      rw [hyd] at l1a
      rw [hxd] at l1b
      have hc1 := S1.out.cmp HC.out (by simp only [List.size_toArray]; omega) y x
      have HY := Lib.hid hy2
      have hwh : IntKind.i64.wrap ((h : Int) + 1) = (h : Int) + 1 := by rw [IntKind.wrap_i64]; omega
      clear hy hyd hxd hy2 hdk
      by_cases hl : LtP y.p x.p
      · have hv : cf y x < 0 := (HCF.out _ _).2 hl
        have hd : decide (cf y x < 0) = true := decide_eq_true hv
        have HN := Lib.hid (show (h + 1 = m ∨ ∃ y, Y[h + 1 - m - 1]? = some y ∧ LtP y.p x.p) ∧ (j = b ∨ ∃ y, Y[j - m]? = some y ∧ ¬ LtP y.p x.p) from ⟨.inr ⟨y, by rw [show h + 1 - m - 1 = h - m by omega]; exact HY.out, hl⟩, HI.out.2⟩)
        clear hl
        go_wp2_with fail
        go_quiet_grown (first | (go_at_fn g; refine Calls.grown_of (hc1 _ _)))
        have S2 : Aside _ := S1.out.grown nq osq
        clear l1a l1b hc1 S1
        generalize grow (wr.drewN nq) osq = w2 at S2 ⊢
        clear nq osq
        go_wp2_with fail
        go_roundg (j - (h + 1))
        case measure => omega
        case rel => exact ⟨h + 1, j, by go_num, rfl, by omega, hhj, hjb, Nat.le_refl _, HN, S2⟩
      · have hv : ¬ cf y x < 0 := fun e => hl ((HCF.out _ _).1 e)
        have hd : decide (cf y x < 0) = false := decide_eq_false hv
        have HN := Lib.hid (show (i = m ∨ ∃ y, Y[i - m - 1]? = some y ∧ LtP y.p x.p) ∧ (h = b ∨ ∃ y, Y[h - m]? = some y ∧ ¬ LtP y.p x.p) from ⟨HI.out.1, .inr ⟨y, HY.out, hl⟩⟩)
        clear hl
        go_wp2_with fail
        go_quiet_grown (first | (go_at_fn g; refine Calls.grown_of (hc1 _ _)))
        have S2 : Aside _ := S1.out.grown nq osq
        clear l1a l1b hc1 S1
        generalize grow (wr.drewN nq) osq = w2 at S2 ⊢
        clear nq osq
        go_wp2_with fail
        go_roundg (h - i)
        case measure => omega
        case rel => exact ⟨i, h, rfl, rfl, hmi, hih, by omega, Nat.le_refl _, HN, S2⟩
    · obtain rfl : i = j := by omega
      have hltz : ¬ (i : Int) < (i : Int) := by omega
      have HZ := Lib.hid (put_one (Y := Y) (x := x) (t := i - m) HQ.out.2.2.2.2.1 (by
        rcases HI.out.1 with e | e
        · exact .inl (by omega)
        · exact .inr e) (by
        rcases HI.out.2 with e | e
        · exact .inl (by have := HQ.out; omega)
        · exact .inr e))
      have HG : Aside (SWF enc k w0 blk off (goes Pr Y S x 0) wr) := by
        have e : goes Pr Y S x 0 = Pr ++ ([x] ++ (Y ++ S)) := by unfold goes; simp
        show SWF _ _ _ _ _ _ _
        rw [e]; exact S1.out
      have ri : IntKind.i64.wrap ((i : Int) - 1) = (i : Int) - 1 := by rw [IntKind.wrap_i64]; omega
      clear S1 HI hij hkx
      go_wp2_with fail
      go_loopg [13] (i - m) (fun kx s13 wr => ∃ (q t : Nat), s13 = .int .i64 q ∧ q = a + t ∧ t ≤ i - m ∧ i - m - t ≤ kx ∧ Aside (SWF enc k w0 blk off (goes Pr Y S x t) wr))
      case atStart => exact ⟨a, 0, rfl, rfl, Nat.zero_le _, Nat.le_refl _, HG⟩
      case round =>
        clear HG
        obtain ⟨q, t, rfl, hqt, ht, hkx, S1⟩ := hrel
        have HQT := Lib.hid hqt
        have haq : a ≤ q := by omega
        by_cases hlt : t < i - m
        · have hltz2 : (q : Int) < (i : Int) - 1 := by have := HAM.out; omega
          have hq1 : q + 1 < sz := by have := HAM.out; omega
          have hqw : IntKind.i64.wrap ((q : Int) + 1) = (q : Int) + 1 := by rw [IntKind.wrap_i64]; omega
          clear hqt
          have ea3 : ((q : Int)).toNat = q := by omega
          have pa3 : (0 : Int) ≤ (q : Int) := by omega
          have ba3 : (q : Int) < (sz : Int) := by omega
          have ea4 : ((q : Int) + 1).toNat = q + 1 := by omega
          have pa4 : (0 : Int) ≤ (q : Int) + 1 := by omega
          have ba4 : (q : Int) + 1 < (sz : Int) := by omega
          have hdk : (goes Pr Y S x t).length = sz := by rw [goes_len]; have := HQ.out; omega
          have HST := Lib.hid (goes_step Pr Y S x (t := t) (k := q) (by have := HQ.out; omega) (by have := HQ.out; have := HQT.out; omega))
          have S2 : Aside _ := S1.out.swapped R (q) (q + 1) (by simp only [List.size_toArray]; omega) (by simp only [List.size_toArray]; omega)
          have l3a := S1.out.ld1 R (by simp only [List.size_toArray]; omega) P (q) (by simp only [List.size_toArray]; omega)
          have l3b := S1.out.ld1 R (by simp only [List.size_toArray]; omega) P (q + 1) (by simp only [List.size_toArray]; omega)
          have s3a := S1.out.st1 R (by simp only [List.size_toArray]; omega) P (q) (by simp only [List.size_toArray]; omega) (goes Pr Y S x t).toArray[q + 1]!
          have s3b := S1.out.st2 R (by simp only [List.size_toArray]; omega) P (q) (q + 1) (by simp only [List.size_toArray]; omega) (by simp only [List.size_toArray]; omega) (goes Pr Y S x t).toArray[q + 1]! (goes Pr Y S x t).toArray[q]!
          have n3a : (enc (goes Pr Y S x t).toArray[q]!).length = k := R.hk _
          have n3b : (enc (goes Pr Y S x t).toArray[q + 1]!).length = k := R.hk _
          rw [HST.out] at S2
          generalize enc (goes Pr Y S x t).toArray[q]! = cI at S2 l3a s3b n3a
          generalize enc (goes Pr Y S x t).toArray[q + 1]! = cJ at S2 l3b s3a s3b n3b
          clear S1
          go_wp2_with fail
          go_big_region_o
          clear l3a l3b s3a s3b n3a n3b
          generalize (wr.drew.setCells blk (off + (q) * k) cJ).setCells blk (off + (q + 1) * k) cI = w2 at S2 ⊢
          go_wp2_with fail
          go_roundg (i - m - (t + 1))
          case measure => omega
          case rel => exact ⟨q + 1, t + 1, by go_num, by rw [HQT.out]; rfl, hlt, Nat.le_refl _, S2⟩
        · have hltz2 : ¬ (q : Int) < (i : Int) - 1 := by have := HAM.out; omega
          have HT := Lib.hid (show t = i - m by omega)
          clear hqt
          go_wp2_with fail
          go_end0
          rw [HT.out] at S1
          refine ⟨rfl, _, ?_, HZ.out.1, HZ.out.2, ?_⟩
          · simp only [List.length_append, List.length_take, List.length_cons, List.length_drop, List.length_nil]; have := HQ.out; omega
          · have e : Pr ++ (Y.take (i - m) ++ x :: Y.drop (i - m) ++ S) = goes Pr Y S x (i - m) := by unfold goes; simp
            rw [e]; exact S1.out
variable {P : Program}
set_option maxHeartbeats 8000000 in
set_option maxRecDepth 1000000 in
theorem sym_last (k : Nat) (LP : SortP P k) (enc : Fd → List Value) (cf : Fd → Fd → Int) (hcf : ∀ x y, cf x y < 0 ↔ LtP x.p y.p) (g : Nat) (cb : Array Value) (blk off cap sz : Nat) (d0 : Array Fd) (w0 : World) (eg : ∀ args w, (callFunc g args).run P w = .ok (.enter g args) w) (hcmp : CmpLays P g cb enc k cf blk off d0.size w0) (R : RowK enc k w0 blk off d0) (hs : d0.size = sz) (hsz : sz < 1000000)
    (a m b : Nat) (Pr X S : List Fd) (y : Fd) (w : World) (hX : 2 ≤ X.length) (ha : a = Pr.length) (hm : m = Pr.length + X.length) (hb : b = Pr.length + X.length + 1) (hL : b + S.length = sz) (fX : Flat X) (H : SWF enc k w0 blk off (Pr ++ (X ++ ([y] ++ S))) w) :
    Calls P 168 #[.slice (some ⟨blk, off, none⟩) sz cap, .int .i64 a, .int .i64 m, .int .i64 b, .func (.func g) #[] cb] w (SymS enc k w0 blk off Pr X [y] S) := by
  have mixed := LP.mixed; have t0 := LP.t0; have a0 := LP.a0; have z0 := LP.z0; have v0 := LP.v0; have t3 := LP.t3; have a3 := LP.a3; have z3 := LP.z3; have v3 := LP.v3; have t4 := LP.t4; have a4 := LP.a4; have z4 := LP.z4; have v4 := LP.v4; have t5 := LP.t5; have a5 := LP.a5; have z5 := LP.z5; have v5 := LP.v5; have t22 := LP.t22; have a22 := LP.a22; have z22 := LP.z22; have v22 := LP.v22; have t25 := LP.t25; have a25 := LP.a25; have z25 := LP.z25; have v25 := LP.v25; have aE := LP.aE; have zE := LP.zE
  have FG := LP.fM
  have HC : Aside _ := hcmp
  have HCF := Lib.hid hcf
  obtain ⟨lx, hlx⟩ : ∃ lx, X.length = lx := ⟨_, rfl⟩
  have HQ := Lib.hid (show a = Pr.length ∧ m = Pr.length + X.length ∧ b = Pr.length + X.length + 1 ∧ b + S.length = sz ∧ Flat X ∧ (Pr ++ (X ++ ([y] ++ S))).length = sz ∧ m = a + lx ∧ X.length = lx from ⟨ha, hm, hb, hL, fX, by simp only [List.length_append, List.length_cons, List.length_nil]; omega, by omega, hlx⟩)
  have r1 : IntKind.i64.wrap ((m : Int) - (a : Int)) = (lx : Int) := by rw [IntKind.wrap_i64]; omega
  have r2 : IntKind.i64.wrap ((b : Int) - (m : Int)) = 1 := by rw [IntKind.wrap_i64]; omega
  have q1 : ((lx : Int) == 1) = false := by rw [beq_eq_false_iff_ne]; omega
  have q1' : ¬ (lx : Int) = 1 := by omega
  have q1'' : ¬ lx = 1 := by omega
  have ham : a ≤ m := by omega
  have hmb : m < b := by omega
  have hbs : b ≤ sz := by omega
  have S0 : Aside (SWF enc k w0 blk off (Pr ++ (X ++ ([y] ++ S))) w) := H
  clear hcf hcmp H ha hm hb hL fX hX hlx
  go_enter FG, Tryz.ntmps168
  go_wp2
  clear r1 r2 q1 q1' q1''
  go_loopg [14, 15] (m - a) (fun kx s10 s11 wr => ∃ (i j : Nat), s10 = .int .i64 i ∧ s11 = .int .i64 j ∧ a ≤ i ∧ i ≤ j ∧ j ≤ m ∧ j - i ≤ kx ∧ Hid ((i = a ∨ ∃ x, X[i - a - 1]? = some x ∧ ¬ LtP y.p x.p) ∧ (j = m ∨ ∃ x, X[j - a]? = some x ∧ LtP y.p x.p)) ∧ Aside (SWF enc k w0 blk off (Pr ++ (X ++ ([y] ++ S))) wr))
  case atStart => exact ⟨a, m, rfl, rfl, Nat.le_refl _, ham, Nat.le_refl _, Nat.le_refl _, ⟨.inl rfl, .inl rfl⟩, S0⟩
  case round =>
    clear S0
    obtain ⟨i, j, rfl, rfl, hmi, hij, hjb, hkx, HI, S1⟩ := hrel
    by_cases hlt : i < j
    · have hltz : (i : Int) < (j : Int) := by omega
      have rs : IntKind.i64.wrap ((i : Int) + (j : Int)) = (i : Int) + (j : Int) := by rw [IntKind.wrap_i64]; omega
      have ru : IntKind.u64.wrap ((i : Int) + (j : Int)) = (i : Int) + (j : Int) := by rw [IntKind.wrap_u64]; omega
      obtain ⟨h, hh⟩ : ∃ h, (i + j) / 2 = h := ⟨_, rfl⟩
      have rh : ((i : Int) + (j : Int)) / 2 = (h : Int) := by omega
      have rw1 : IntKind.i64.wrap (h : Int) = (h : Int) := by rw [IntKind.wrap_i64]; omega
      have hih : i ≤ h := by omega
      have hhj : h < j := by omega
      clear hh
      have ea1 : ((h : Int)).toNat = h := by omega
      have pa1 : (0 : Int) ≤ (h : Int) := by omega
      have ba1 : (h : Int) < (sz : Int) := by omega
      have ea2 : ((m : Int)).toNat = m := by omega
      have pa2 : (0 : Int) ≤ (m : Int) := by omega
      have ba2 : (m : Int) < (sz : Int) := by omega
      obtain ⟨x, hx, hxd⟩ := four_x (P := Pr) (X := X) (Y := [y]) (S := S) (c := h) (by have := HQ.out; omega) (by have := HQ.out; omega)
      have hyd : (Pr ++ (X ++ ([y] ++ S))).toArray[m]! = y := by
        rw [← List.append_assoc Pr X]; exact arr_get (Pr ++ X) y S (by rw [List.length_append]; exact HQ.out.2.1)
      have hx2 : X[h - a]? = some x := by rw [← hx, ← HQ.out.1]
      have hdk : (Pr ++ (X ++ ([y] ++ S))).length = sz := HQ.out.2.2.2.2.2.1
      have l1a := S1.out.ld R (by simp only [List.size_toArray]; omega) P m (by simp only [List.size_toArray]; omega)
      have l1b := S1.out.ld R (by simp only [List.size_toArray]; omega) P h (by simp only [List.size_toArray]; omega)
      rw [hyd] at l1a
      rw [hxd] at l1b
      have hc1 := S1.out.cmp HC.out (by simp only [List.size_toArray]; omega) y x
      have HX := Lib.hid hx2
      have hwh : IntKind.i64.wrap ((h : Int) + 1) = (h : Int) + 1 := by rw [IntKind.wrap_i64]; omega
      clear hx hyd hxd hx2 hdk
      by_cases hl : LtP y.p x.p
      · have hv : cf y x < 0 := (HCF.out _ _).2 hl
        have hd : decide (cf y x < 0) = true := decide_eq_true hv
        have HN := Lib.hid (show (i = a ∨ ∃ x, X[i - a - 1]? = some x ∧ ¬ LtP y.p x.p) ∧ (h = m ∨ ∃ x, X[h - a]? = some x ∧ LtP y.p x.p) from ⟨HI.out.1, .inr ⟨x, HX.out, hl⟩⟩)
        clear hl
        go_wp2_with fail
        go_quiet_grown (first | (go_at_fn g; refine Calls.grown_of (hc1 _ _)))
        have S2 : Aside _ := S1.out.grown nq osq
        clear l1a l1b hc1 S1
        generalize grow (wr.drewN nq) osq = w2 at S2 ⊢
        clear nq osq
        go_wp2_with fail
        go_roundg (h - i)
        case measure => omega
        case rel => exact ⟨i, h, rfl, rfl, hmi, hih, by omega, Nat.le_refl _, HN, S2⟩
      · have hv : ¬ cf y x < 0 := fun e => hl ((HCF.out _ _).1 e)
        have hd : decide (cf y x < 0) = false := decide_eq_false hv
        have HN := Lib.hid (show (h + 1 = a ∨ ∃ x, X[h + 1 - a - 1]? = some x ∧ ¬ LtP y.p x.p) ∧ (j = m ∨ ∃ x, X[j - a]? = some x ∧ LtP y.p x.p) from ⟨.inr ⟨x, by rw [show h + 1 - a - 1 = h - a by omega]; exact HX.out, hl⟩, HI.out.2⟩)
        clear hl
        go_wp2_with fail
        go_quiet_grown (first | (go_at_fn g; refine Calls.grown_of (hc1 _ _)))
        have S2 : Aside _ := S1.out.grown nq osq
        clear l1a l1b hc1 S1
        generalize grow (wr.drewN nq) osq = w2 at S2 ⊢
        clear nq osq
        go_wp2_with fail
        go_roundg (j - (h + 1))
        case measure => omega
        case rel => exact ⟨h + 1, j, by go_num, rfl, by omega, hhj, hjb, Nat.le_refl _, HN, S2⟩
    · obtain rfl : i = j := by omega
      have hltz : ¬ (i : Int) < (i : Int) := by omega
      have HZ := Lib.hid (put_last (X := X) (y := y) (s := i - a) HQ.out.2.2.2.2.1 (by
        rcases HI.out.1 with e | e
        · exact .inl (by omega)
        · exact .inr e) (by
        rcases HI.out.2 with e | e
        · exact .inl (by have := HQ.out; omega)
        · exact .inr e))
      have HG : Aside (SWF enc k w0 blk off (goes Pr X S y lx) wr) := by
        have e : goes Pr X S y lx = Pr ++ (X ++ ([y] ++ S)) := by unfold goes; rw [← HQ.out.2.2.2.2.2.2.2]; simp
        show SWF _ _ _ _ _ _ _
        rw [e]; exact S1.out
      clear S1 HI hij hkx
      go_wp2_with fail
      go_loopg [17] (m - i) (fun kx s13 wr => ∃ (q t : Nat), s13 = .int .i64 q ∧ q = a + t ∧ i ≤ q ∧ q ≤ m ∧ q - i ≤ kx ∧ Aside (SWF enc k w0 blk off (goes Pr X S y t) wr))
      case atStart => exact ⟨m, lx, rfl, HQ.out.2.2.2.2.2.2.1, hjb, Nat.le_refl _, Nat.le_refl _, HG⟩
      case round =>
        clear HG
        obtain ⟨q, t, rfl, hqt, hiq, hqm, hkx, S1⟩ := hrel
        have HQT := Lib.hid hqt
        by_cases hlt : i < q
        · have hltz2 : (i : Int) < (q : Int) := by omega
          obtain ⟨t', ht'⟩ : ∃ t', t = t' + 1 := ⟨t - 1, by omega⟩
          obtain ⟨q', hq'⟩ : ∃ q', q = q' + 1 := ⟨q - 1, by omega⟩
          have hqw : IntKind.i64.wrap ((q : Int) - 1) = (q' : Int) := by rw [IntKind.wrap_i64]; omega
          have hqs : q < sz := by omega
          have hqs' : q' < sz := by omega
          have HQ' := Lib.hid hq'
          have HT' := Lib.hid ht'
          subst ht'
          clear hqt
          have ea3 : ((q : Int)).toNat = q := by omega
          have pa3 : (0 : Int) ≤ (q : Int) := by omega
          have ba3 : (q : Int) < (sz : Int) := by omega
          have ea4 : ((q' : Int)).toNat = q' := by omega
          have pa4 : (0 : Int) ≤ (q' : Int) := by omega
          have ba4 : (q' : Int) < (sz : Int) := by omega
          have hdk : (goes Pr X S y (t' + 1)).length = sz := by rw [goes_len]; have := HQ.out; omega
          have HST := Lib.hid (show swp (goes Pr X S y (t' + 1)).toArray q q' = (goes Pr X S y t').toArray by
            rw [hq']; exact goes_back Pr X S y (t := t') (k := q') (by have := HQ.out; have := HQT.out; omega) (by have := HQ.out; have := HQT.out; omega))
          clear hq'
          have S2 : Aside _ := S1.out.swapped R (q) (q') (by simp only [List.size_toArray]; omega) (by simp only [List.size_toArray]; omega)
          have l3a := S1.out.ld1 R (by simp only [List.size_toArray]; omega) P (q) (by simp only [List.size_toArray]; omega)
          have l3b := S1.out.ld1 R (by simp only [List.size_toArray]; omega) P (q') (by simp only [List.size_toArray]; omega)
          have s3a := S1.out.st1 R (by simp only [List.size_toArray]; omega) P (q) (by simp only [List.size_toArray]; omega) (goes Pr X S y (t' + 1)).toArray[q']!
          have s3b := S1.out.st2 R (by simp only [List.size_toArray]; omega) P (q) (q') (by simp only [List.size_toArray]; omega) (by simp only [List.size_toArray]; omega) (goes Pr X S y (t' + 1)).toArray[q']! (goes Pr X S y (t' + 1)).toArray[q]!
          have n3a : (enc (goes Pr X S y (t' + 1)).toArray[q]!).length = k := R.hk _
          have n3b : (enc (goes Pr X S y (t' + 1)).toArray[q']!).length = k := R.hk _
          rw [HST.out] at S2
          generalize enc (goes Pr X S y (t' + 1)).toArray[q]! = cI at S2 l3a s3b n3a
          generalize enc (goes Pr X S y (t' + 1)).toArray[q']! = cJ at S2 l3b s3a s3b n3b
          clear S1
          go_wp2_with fail
          go_big_region_o
          clear l3a l3b s3a s3b n3a n3b
          generalize (wr.drew.setCells blk (off + (q) * k) cJ).setCells blk (off + (q') * k) cI = w2 at S2 ⊢
          go_wp2_with fail
          go_roundg (q' - i)
          case measure => have := HQ'.out; omega
          case rel => exact ⟨q', t', rfl, by have := HQT.out; have := HQ'.out; omega, by have := HQ'.out; omega, by have := HQ'.out; omega, Nat.le_refl _, S2⟩
        · have hltz2 : ¬ (i : Int) < (q : Int) := by omega
          have HT := Lib.hid (show t = i - a by omega)
          clear hqt
          go_wp2_with fail
          go_end0
          rw [HT.out] at S1
          refine ⟨rfl, _, ?_, HZ.out.1, HZ.out.2, ?_⟩
          · simp only [List.length_append, List.length_take, List.length_cons, List.length_drop, List.length_nil]; have := HQ.out; omega
          · have e : Pr ++ (X.take (i - a) ++ y :: X.drop (i - a) ++ S) = goes Pr X S y (i - a) := by unfold goes; simp
            rw [e]; exact S1.out
end Go.Proofs.YtofnpifooaijcaaGreat
