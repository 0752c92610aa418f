/-
  What is proved: the library's symMerge at fields, one field ahead of a row in order: it goes to its place; all else is kept.
  the library's symMerge at fields, one field behind a row in order: it goes to its place; all else is kept.
-/
import Derived.Test.YtjieofiaoepccaaGreatDoorM13
namespace Go.Proofs.YtjieofiaoepccaaGreatDoor
open Go.Shelf Go.RowKit Go.Lib Go.Sort
set_option linter.unusedVariables false
variable {P : Program}
/-- What symMerge leaves. -/
def SymS (enc : Fd → List Value) (k : Nat) (w0 : World) (blk off : Nat) (Pr X Y S : List Fd) (e : Ending) (w' : World) : Prop :=
  e = .returned (.tuple #[]) ∧ ∃ Z, Z.length = X.length + Y.length ∧ Flat Z ∧ Stab Z (X ++ Y) ∧ SWF enc k w0 blk off (Pr ++ (Z ++ S)) w'
set_option maxHeartbeats 8000000 in
set_option maxRecDepth 1000000 in
theorem sym_one (k : Nat) (LP : SortP P k) (enc : Fd → List Value) (cf : Fd → Fd → Int) (hcf : ∀ x y, cf x y < 0 ↔ LtP x.p y.p) (g : Nat) (cb : Array Value) (blk off cap sz : Nat) (d0 : Array Fd) (w0 : World) (eg : ∀ args w, (callFunc g args).run P w = .ok (.enter g args) w) (hcmp : CmpLays P g cb enc k cf blk off d0.size w0) (R : RowK enc k w0 blk off d0) (hs : d0.size = sz) (hsz : sz < 1000000)
    (a m b : Nat) (Pr Y S : List Fd) (x : Fd) (w : World) (hY : 0 < Y.length) (ha : a = Pr.length) (hm : m = Pr.length + 1) (hb : b = Pr.length + 1 + Y.length) (hL : b + S.length = sz) (fY : Flat Y) (H : SWF enc k w0 blk off (Pr ++ ([x] ++ (Y ++ S))) w) :
    Calls P 101 #[.slice (some ⟨blk, off, none⟩) sz cap, .int .i64 a, .int .i64 m, .int .i64 b, .func (.func g) #[] cb] w (SymS enc k w0 blk off Pr [x] Y S) := by
  have mixed := LP.mixed; have t0 := LP.t0; have a0 := LP.a0; have z0 := LP.z0; have v0 := LP.v0; have t3 := LP.t3; have a3 := LP.a3; have z3 := LP.z3; have v3 := LP.v3; have t4 := LP.t4; have a4 := LP.a4; have z4 := LP.z4; have v4 := LP.v4; have t5 := LP.t5; have a5 := LP.a5; have z5 := LP.z5; have v5 := LP.v5; have t22 := LP.t22; have a22 := LP.a22; have z22 := LP.z22; have v22 := LP.v22; have t25 := LP.t25; have a25 := LP.a25; have z25 := LP.z25; have v25 := LP.v25; have aE := LP.aE; have zE := LP.zE
  have FG := LP.fM
  have HC : Aside _ := hcmp
  have HCF := Lib.hid hcf
  have HQ := Lib.hid (show a = Pr.length ∧ m = Pr.length + 1 ∧ b = Pr.length + 1 + Y.length ∧ b + S.length = sz ∧ Flat Y ∧ (Pr ++ ([x] ++ (Y ++ S))).length = sz from ⟨ha, hm, hb, hL, fY, by simp only [List.length_append, List.length_cons, List.length_nil]; omega⟩)
  have r1 : IntKind.i64.wrap ((m : Int) - (a : Int)) = 1 := by rw [IntKind.wrap_i64]; omega
  have ham : m = a + 1 := by omega
  have hmb : m < b := by omega
  have hbs : b ≤ sz := by omega
  have S0 : Aside (SWF enc k w0 blk off (Pr ++ ([x] ++ (Y ++ S))) w) := H
  have HAM := Lib.hid ham
  have ham2 : a < m := by omega
  have hms : a + 1 < 1000000 := by omega
  clear hcf hcmp H ha hm hb hL fY hY ham
  go_enter FG, Tryz.ntmps101
  go_wp2
  clear r1
  go_loopg [10, 11] (b - m) (fun kx s10 s11 wr => ∃ (i j : Nat), s10 = .int .i64 i ∧ s11 = .int .i64 j ∧ m ≤ i ∧ i ≤ j ∧ j ≤ b ∧ j - i ≤ kx ∧ Hid ((i = m ∨ ∃ y, Y[i - m - 1]? = some y ∧ LtP y.p x.p) ∧ (j = b ∨ ∃ y, Y[j - m]? = some y ∧ ¬ LtP y.p x.p)) ∧ Aside (SWF enc k w0 blk off (Pr ++ ([x] ++ (Y ++ S))) wr))
  case atStart => exact ⟨m, b, rfl, rfl, Nat.le_refl _, Nat.le_of_lt hmb, Nat.le_refl _, Nat.le_refl _, ⟨.inl rfl, .inl rfl⟩, S0⟩
  case round =>
    clear S0
    obtain ⟨i, j, rfl, rfl, hmi, hij, hjb, hkx, HI, S1⟩ := hrel
    by_cases hlt : i < j
    · have hltz : (i : Int) < (j : Int) := by omega
      have rs : IntKind.i64.wrap ((i : Int) + (j : Int)) = (i : Int) + (j : Int) := by rw [IntKind.wrap_i64]; omega
      have ru : IntKind.u64.wrap ((i : Int) + (j : Int)) = (i : Int) + (j : Int) := by rw [IntKind.wrap_u64]; omega
      obtain ⟨h, hh⟩ : ∃ h, (i + j) / 2 = h := ⟨_, rfl⟩
      have rh : ((i : Int) + (j : Int)) / 2 = (h : Int) := by omega
      have rw1 : IntKind.i64.wrap (h : Int) = (h : Int) := by rw [IntKind.wrap_i64]; omega
      have hih : i ≤ h := by omega
      have hhj : h < j := by omega
      clear hh
      have ea1 : ((h : Int)).toNat = h := by omega
      have pa1 : (0 : Int) ≤ (h : Int) := by omega
      have ba1 : (h : Int) < (sz : Int) := by omega
      have ea2 : ((a : Int)).toNat = a := by omega
      have pa2 : (0 : Int) ≤ (a : Int) := by omega
      have ba2 : (a : Int) < (sz : Int) := by omega
      obtain ⟨y, hy, hyd⟩ := four_y (P := Pr) (X := [x]) (Y := Y) (S := S) (c := h) (by have := HQ.out; simp only [List.length_cons, List.length_nil]; omega) (by have := HQ.out; simp only [List.length_cons, List.length_nil]; omega)
      have hxd : (Pr ++ ([x] ++ (Y ++ S))).toArray[a]! = x := arr_get Pr x (Y ++ S) HQ.out.1
      have hy2 : Y[h - m]? = some y := by
        rw [← hy]; congr 1
        have := HQ.out; simp only [List.length_cons, List.length_nil]; omega
      have hdk : (Pr ++ ([x] ++ (Y ++ S))).length = sz := HQ.out.2.2.2.2.2
      have l1a := S1.out.ld R (by simp only [List.size_toArray]; omega) P h (by simp only [List.size_toArray]; omega)
      have l1b := S1.out.ld R (by simp only [List.size_toArray]; omega) P a (by simp only [List.size_toArray]; omega)
      rw [hyd] at l1a
      rw [hxd] at l1b
      have hc1 := S1.out.cmp HC.out (by simp only [List.size_toArray]; omega) y x
      have HY := Lib.hid hy2
      have hwh : IntKind.i64.wrap ((h : Int) + 1) = (h : Int) + 1 := by rw [IntKind.wrap_i64]; omega
      clear hy hyd hxd hy2 hdk
      by_cases hl : LtP y.p x.p
      · have hv : cf y x < 0 := (HCF.out _ _).2 hl
        have hd : decide (cf y x < 0) = true := decide_eq_true hv
        have HN := Lib.hid (show (h + 1 = m ∨ ∃ y, Y[h + 1 - m - 1]? = some y ∧ LtP y.p x.p) ∧ (j = b ∨ ∃ y, Y[j - m]? = some y ∧ ¬ LtP y.p x.p) from ⟨.inr ⟨y, by rw [show h + 1 - m - 1 = h - m by omega]; exact HY.out, hl⟩, HI.out.2⟩)
        clear hl
        go_wp2_with fail
        go_quiet_grown (first | (go_at_fn g; refine Calls.grown_of (hc1 _ _)))
        have S2 : Aside _ := S1.out.grown nq osq
        clear l1a l1b hc1 S1
        generalize grow (wr.drewN nq) osq = w2 at S2 ⊢
        clear nq osq
        go_wp2_with fail
        go_roundg (j - (h + 1))
        case measure => omega
        case rel => exact ⟨h + 1, j, by go_num, rfl, by omega, hhj, hjb, Nat.le_refl _, HN, S2⟩
      · have hv : ¬ cf y x < 0 := fun e => hl ((HCF.out _ _).1 e)
        have hd : decide (cf y x < 0) = false := decide_eq_false hv
        have HN := Lib.hid (show (i = m ∨ ∃ y, Y[i - m - 1]? = some y ∧ LtP y.p x.p) ∧ (h = b ∨ ∃ y, Y[h - m]? = some y ∧ ¬ LtP y.p x.p) from ⟨HI.out.1, .inr ⟨y, HY.out, hl⟩⟩)
        clear hl
        go_wp2_with fail
        go_quiet_grown (first | (go_at_fn g; refine Calls.grown_of (hc1 _ _)))
        have S2 : Aside _ := S1.out.grown nq osq
        clear l1a l1b hc1 S1
        generalize grow (wr.drewN nq) osq = w2 at S2 ⊢
        clear nq osq
        go_wp2_with fail
        go_roundg (h - i)
        case measure => omega
        case rel => exact ⟨i, h, rfl, rfl, hmi, hih, by omega, Nat.le_refl _, HN, S2⟩
    · obtain rfl : i = j := by omega
      have hltz : ¬ (i : Int) < (i : Int) := by omega
      have HZ := Lib.hid (put_one (Y := Y) (x := x) (t := i - m) HQ.out.2.2.2.2.1 (by
        rcases HI.out.1 with e | e
        · exact .inl (by omega)
        · exact .inr e) (by
        rcases HI.out.2 with e | e
        · exact .inl (by have := HQ.out; omega)
        · exact .inr e))
      have HG : Aside (SWF enc k w0 blk off (goes Pr Y S x 0) wr) := by
        have e : goes Pr Y S x 0 = Pr ++ ([x] ++ (Y ++ S)) := by unfold goes; simp
        show SWF _ _ _ _ _ _ _
        rw [e]; exact S1.out
      have ri : IntKind.i64.wrap ((i : Int) - 1) = (i : Int) - 1 := by rw [IntKind.wrap_i64]; omega
      clear S1 HI hij hkx
      go_wp2_with fail
      go_loopg [13] (i - m) (fun kx s13 wr => ∃ (q t : Nat), s13 = .int .i64 q ∧ q = a + t ∧ t ≤ i - m ∧ i - m - t ≤ kx ∧ Aside (SWF enc k w0 blk off (goes Pr Y S x t) wr))
      case atStart => exact ⟨a, 0, rfl, rfl, Nat.zero_le _, Nat.le_refl _, HG⟩
      case round =>
        clear HG
        obtain ⟨q, t, rfl, hqt, ht, hkx, S1⟩ := hrel
        have HQT := Lib.hid hqt
        have haq : a ≤ q := by omega
        by_cases hlt : t < i - m
        · have hltz2 : (q : Int) < (i : Int) - 1 := by have := HAM.out; omega
          have hq1 : q + 1 < sz := by have := HAM.out; omega
          have hqw : IntKind.i64.wrap ((q : Int) + 1) = (q : Int) + 1 := by rw [IntKind.wrap_i64]; omega
          clear hqt
          have ea3 : ((q : Int)).toNat = q := by omega
          have pa3 : (0 : Int) ≤ (q : Int) := by omega
          have ba3 : (q : Int) < (sz : Int) := by omega
          have ea4 : ((q : Int) + 1).toNat = q + 1 := by omega
          have pa4 : (0 : Int) ≤ (q : Int) + 1 := by omega
          have ba4 : (q : Int) + 1 < (sz : Int) := by omega
          have hdk : (goes Pr Y S x t).length = sz := by rw [goes_len]; have := HQ.out; omega
          have HST := Lib.hid (goes_step Pr Y S x (t := t) (k := q) (by have := HQ.out; omega) (by have := HQ.out; have := HQT.out; omega))
          have S2 : Aside _ := S1.out.swapped R (q) (q + 1) (by simp only [List.size_toArray]; omega) (by simp only [List.size_toArray]; omega)
          have l3a := S1.out.ld1 R (by simp only [List.size_toArray]; omega) P (q) (by simp only [List.size_toArray]; omega)
          have l3b := S1.out.ld1 R (by simp only [List.size_toArray]; omega) P (q + 1) (by simp only [List.size_toArray]; omega)
          have s3a := S1.out.st1 R (by simp only [List.size_toArray]; omega) P (q) (by simp only [List.size_toArray]; omega) (goes Pr Y S x t).toArray[q + 1]!
          have s3b := S1.out.st2 R (by simp only [List.size_toArray]; omega) P (q) (q + 1) (by simp only [List.size_toArray]; omega) (by simp only [List.size_toArray]; omega) (goes Pr Y S x t).toArray[q + 1]! (goes Pr Y S x t).toArray[q]!
          have n3a : (enc (goes Pr Y S x t).toArray[q]!).length = k := R.hk _
          have n3b : (enc (goes Pr Y S x t).toArray[q + 1]!).length = k := R.hk _
          rw [HST.out] at S2
          generalize enc (goes Pr Y S x t).toArray[q]! = cI at S2 l3a s3b n3a
          generalize enc (goes Pr Y S x t).toArray[q + 1]! = cJ at S2 l3b s3a s3b n3b
          clear S1
          go_wp2_with fail
          go_big_region_o
          clear l3a l3b s3a s3b n3a n3b
          generalize (wr.drew.setCells blk (off + (q) * k) cJ).setCells blk (off + (q + 1) * k) cI = w2 at S2 ⊢
          go_wp2_with fail
          go_roundg (i - m - (t + 1))
          case measure => omega
          case rel => exact ⟨q + 1, t + 1, by go_num, by rw [HQT.out]; rfl, hlt, Nat.le_refl _, S2⟩
        · have hltz2 : ¬ (q : Int) < (i : Int) - 1 := by have := HAM.out; omega
          have HT := Lib.hid (show t = i - m by omega)
          clear hqt
          go_wp2_with fail
          go_end0
          rw [HT.out] at S1
          refine ⟨rfl, _, ?_, HZ.out.1, HZ.out.2, ?_⟩
          · simp only [List.length_append, List.length_take, List.length_cons, List.length_drop, List.length_nil]; have := HQ.out; omega
          · have e : Pr ++ (Y.take (i - m) ++ x :: Y.drop (i - m) ++ S) = goes Pr Y S x (i - m) := by unfold goes; simp
            rw [e]; exact S1.out
end Go.Proofs.YtjieofiaoepccaaGreatDoor

namespace Go.Proofs.YtjieofiaoepccaaGreatDoor
open Go.Shelf Go.RowKit Go.Lib Go.Sort
set_option linter.unusedVariables false
variable {P : Program}
set_option maxHeartbeats 8000000 in
set_option maxRecDepth 1000000 in
theorem sym_last (k : Nat) (LP : SortP P k) (enc : Fd → List Value) (cf : Fd → Fd → Int) (hcf : ∀ x y, cf x y < 0 ↔ LtP x.p y.p) (g : Nat) (cb : Array Value) (blk off cap sz : Nat) (d0 : Array Fd) (w0 : World) (eg : ∀ args w, (callFunc g args).run P w = .ok (.enter g args) w) (hcmp : CmpLays P g cb enc k cf blk off d0.size w0) (R : RowK enc k w0 blk off d0) (hs : d0.size = sz) (hsz : sz < 1000000)
    (a m b : Nat) (Pr X S : List Fd) (y : Fd) (w : World) (hX : 2 ≤ X.length) (ha : a = Pr.length) (hm : m = Pr.length + X.length) (hb : b = Pr.length + X.length + 1) (hL : b + S.length = sz) (fX : Flat X) (H : SWF enc k w0 blk off (Pr ++ (X ++ ([y] ++ S))) w) :
    Calls P 101 #[.slice (some ⟨blk, off, none⟩) sz cap, .int .i64 a, .int .i64 m, .int .i64 b, .func (.func g) #[] cb] w (SymS enc k w0 blk off Pr X [y] S) := by
  have mixed := LP.mixed; have t0 := LP.t0; have a0 := LP.a0; have z0 := LP.z0; have v0 := LP.v0; have t3 := LP.t3; have a3 := LP.a3; have z3 := LP.z3; have v3 := LP.v3; have t4 := LP.t4; have a4 := LP.a4; have z4 := LP.z4; have v4 := LP.v4; have t5 := LP.t5; have a5 := LP.a5; have z5 := LP.z5; have v5 := LP.v5; have t22 := LP.t22; have a22 := LP.a22; have z22 := LP.z22; have v22 := LP.v22; have t25 := LP.t25; have a25 := LP.a25; have z25 := LP.z25; have v25 := LP.v25; have aE := LP.aE; have zE := LP.zE
  have FG := LP.fM
  have HC : Aside _ := hcmp
  have HCF := Lib.hid hcf
  obtain ⟨lx, hlx⟩ : ∃ lx, X.length = lx := ⟨_, rfl⟩
  have HQ := Lib.hid (show a = Pr.length ∧ m = Pr.length + X.length ∧ b = Pr.length + X.length + 1 ∧ b + S.length = sz ∧ Flat X ∧ (Pr ++ (X ++ ([y] ++ S))).length = sz ∧ m = a + lx ∧ X.length = lx from ⟨ha, hm, hb, hL, fX, by simp only [List.length_append, List.length_cons, List.length_nil]; omega, by omega, hlx⟩)
  have r1 : IntKind.i64.wrap ((m : Int) - (a : Int)) = (lx : Int) := by rw [IntKind.wrap_i64]; omega
  have r2 : IntKind.i64.wrap ((b : Int) - (m : Int)) = 1 := by rw [IntKind.wrap_i64]; omega
  have q1 : ((lx : Int) == 1) = false := by rw [beq_eq_false_iff_ne]; omega
  have q1' : ¬ (lx : Int) = 1 := by omega
  have q1'' : ¬ lx = 1 := by omega
  have ham : a ≤ m := by omega
  have hmb : m < b := by omega
  have hbs : b ≤ sz := by omega
  have S0 : Aside (SWF enc k w0 blk off (Pr ++ (X ++ ([y] ++ S))) w) := H
  clear hcf hcmp H ha hm hb hL fX hX hlx
  go_enter FG, Tryz.ntmps101
  go_wp2
  clear r1 r2 q1 q1' q1''
  go_loopg [14, 15] (m - a) (fun kx s10 s11 wr => ∃ (i j : Nat), s10 = .int .i64 i ∧ s11 = .int .i64 j ∧ a ≤ i ∧ i ≤ j ∧ j ≤ m ∧ j - i ≤ kx ∧ Hid ((i = a ∨ ∃ x, X[i - a - 1]? = some x ∧ ¬ LtP y.p x.p) ∧ (j = m ∨ ∃ x, X[j - a]? = some x ∧ LtP y.p x.p)) ∧ Aside (SWF enc k w0 blk off (Pr ++ (X ++ ([y] ++ S))) wr))
  case atStart => exact ⟨a, m, rfl, rfl, Nat.le_refl _, ham, Nat.le_refl _, Nat.le_refl _, ⟨.inl rfl, .inl rfl⟩, S0⟩
  case round =>
    clear S0
    obtain ⟨i, j, rfl, rfl, hmi, hij, hjb, hkx, HI, S1⟩ := hrel
    by_cases hlt : i < j
    · have hltz : (i : Int) < (j : Int) := by omega
      have rs : IntKind.i64.wrap ((i : Int) + (j : Int)) = (i : Int) + (j : Int) := by rw [IntKind.wrap_i64]; omega
      have ru : IntKind.u64.wrap ((i : Int) + (j : Int)) = (i : Int) + (j : Int) := by rw [IntKind.wrap_u64]; omega
      obtain ⟨h, hh⟩ : ∃ h, (i + j) / 2 = h := ⟨_, rfl⟩
      have rh : ((i : Int) + (j : Int)) / 2 = (h : Int) := by omega
      have rw1 : IntKind.i64.wrap (h : Int) = (h : Int) := by rw [IntKind.wrap_i64]; omega
      have hih : i ≤ h := by omega
      have hhj : h < j := by omega
      clear hh
      have ea1 : ((h : Int)).toNat = h := by omega
      have pa1 : (0 : Int) ≤ (h : Int) := by omega
      have ba1 : (h : Int) < (sz : Int) := by omega
      have ea2 : ((m : Int)).toNat = m := by omega
      have pa2 : (0 : Int) ≤ (m : Int) := by omega
      have ba2 : (m : Int) < (sz : Int) := by omega
      obtain ⟨x, hx, hxd⟩ := four_x (P := Pr) (X := X) (Y := [y]) (S := S) (c := h) (by have := HQ.out; omega) (by have := HQ.out; omega)
      have hyd : (Pr ++ (X ++ ([y] ++ S))).toArray[m]! = y := by
        rw [← List.append_assoc Pr X]; exact arr_get (Pr ++ X) y S (by rw [List.length_append]; exact HQ.out.2.1)
      have hx2 : X[h - a]? = some x := by rw [← hx, ← HQ.out.1]
      have hdk : (Pr ++ (X ++ ([y] ++ S))).length = sz := HQ.out.2.2.2.2.2.1
      have l1a := S1.out.ld R (by simp only [List.size_toArray]; omega) P m (by simp only [List.size_toArray]; omega)
      have l1b := S1.out.ld R (by simp only [List.size_toArray]; omega) P h (by simp only [List.size_toArray]; omega)
      rw [hyd] at l1a
      rw [hxd] at l1b
      have hc1 := S1.out.cmp HC.out (by simp only [List.size_toArray]; omega) y x
      have HX := Lib.hid hx2
      have hwh : IntKind.i64.wrap ((h : Int) + 1) = (h : Int) + 1 := by rw [IntKind.wrap_i64]; omega
      clear hx hyd hxd hx2 hdk
      by_cases hl : LtP y.p x.p
      · have hv : cf y x < 0 := (HCF.out _ _).2 hl
        have hd : decide (cf y x < 0) = true := decide_eq_true hv
        have HN := Lib.hid (show (i = a ∨ ∃ x, X[i - a - 1]? = some x ∧ ¬ LtP y.p x.p) ∧ (h = m ∨ ∃ x, X[h - a]? = some x ∧ LtP y.p x.p) from ⟨HI.out.1, .inr ⟨x, HX.out, hl⟩⟩)
        clear hl
        go_wp2_with fail
        go_quiet_grown (first | (go_at_fn g; refine Calls.grown_of (hc1 _ _)))
        have S2 : Aside _ := S1.out.grown nq osq
        clear l1a l1b hc1 S1
        generalize grow (wr.drewN nq) osq = w2 at S2 ⊢
        clear nq osq
        go_wp2_with fail
        go_roundg (h - i)
        case measure => omega
        case rel => exact ⟨i, h, rfl, rfl, hmi, hih, by omega, Nat.le_refl _, HN, S2⟩
      · have hv : ¬ cf y x < 0 := fun e => hl ((HCF.out _ _).1 e)
        have hd : decide (cf y x < 0) = false := decide_eq_false hv
        have HN := Lib.hid (show (h + 1 = a ∨ ∃ x, X[h + 1 - a - 1]? = some x ∧ ¬ LtP y.p x.p) ∧ (j = m ∨ ∃ x, X[j - a]? = some x ∧ LtP y.p x.p) from ⟨.inr ⟨x, by rw [show h + 1 - a - 1 = h - a by omega]; exact HX.out, hl⟩, HI.out.2⟩)
        clear hl
        go_wp2_with fail
        go_quiet_grown (first | (go_at_fn g; refine Calls.grown_of (hc1 _ _)))
        have S2 : Aside _ := S1.out.grown nq osq
        clear l1a l1b hc1 S1
        generalize grow (wr.drewN nq) osq = w2 at S2 ⊢
        clear nq osq
        go_wp2_with fail
        go_roundg (j - (h + 1))
        case measure => omega
        case rel => exact ⟨h + 1, j, by go_num, rfl, by omega, hhj, hjb, Nat.le_refl _, HN, S2⟩
    · obtain rfl : i = j := by omega
      have hltz : ¬ (i : Int) < (i : Int) := by omega
      have HZ := Lib.hid (put_last (X := X) (y := y) (s := i - a) HQ.out.2.2.2.2.1 (by
        rcases HI.out.1 with e | e
        · exact .inl (by omega)
        · exact .inr e) (by
        rcases HI.out.2 with e | e
        · exact .inl (by have := HQ.out; omega)
        · exact .inr e))
      have HG : Aside (SWF enc k w0 blk off (goes Pr X S y lx) wr) := by
        have e : goes Pr X S y lx = Pr ++ (X ++ ([y] ++ S)) := by unfold goes; rw [← HQ.out.2.2.2.2.2.2.2]; simp
        show SWF _ _ _ _ _ _ _
        rw [e]; exact S1.out
      clear S1 HI hij hkx
      go_wp2_with fail
      go_loopg [17] (m - i) (fun kx s13 wr => ∃ (q t : Nat), s13 = .int .i64 q ∧ q = a + t ∧ i ≤ q ∧ q ≤ m ∧ q - i ≤ kx ∧ Aside (SWF enc k w0 blk off (goes Pr X S y t) wr))
      case atStart => exact ⟨m, lx, rfl, HQ.out.2.2.2.2.2.2.1, hjb, Nat.le_refl _, Nat.le_refl _, HG⟩
      case round =>
        clear HG
        obtain ⟨q, t, rfl, hqt, hiq, hqm, hkx, S1⟩ := hrel
        have HQT := Lib.hid hqt
        by_cases hlt : i < q
        · have hltz2 : (i : Int) < (q : Int) := by omega
          obtain ⟨t', ht'⟩ : ∃ t', t = t' + 1 := ⟨t - 1, by omega⟩
          obtain ⟨q', hq'⟩ : ∃ q', q = q' + 1 := ⟨q - 1, by omega⟩
          have hqw : IntKind.i64.wrap ((q : Int) - 1) = (q' : Int) := by rw [IntKind.wrap_i64]; omega
          have hqs : q < sz := by omega
          have hqs' : q' < sz := by omega
          have HQ' := Lib.hid hq'
          have HT' := Lib.hid ht'
          subst ht'
          clear hqt
          have ea3 : ((q : Int)).toNat = q := by omega
          have pa3 : (0 : Int) ≤ (q : Int) := by omega
          have ba3 : (q : Int) < (sz : Int) := by omega
          have ea4 : ((q' : Int)).toNat = q' := by omega
          have pa4 : (0 : Int) ≤ (q' : Int) := by omega
          have ba4 : (q' : Int) < (sz : Int) := by omega
          have hdk : (goes Pr X S y (t' + 1)).length = sz := by rw [goes_len]; have := HQ.out; omega
          have HST := Lib.hid (show swp (goes Pr X S y (t' + 1)).toArray q q' = (goes Pr X S y t').toArray by
            rw [hq']; exact goes_back Pr X S y (t := t') (k := q') (by have := HQ.out; have := HQT.out; omega) (by have := HQ.out; have := HQT.out; omega))
          clear hq'
          have S2 : Aside _ := S1.out.swapped R (q) (q') (by simp only [List.size_toArray]; omega) (by simp only [List.size_toArray]; omega)
          have l3a := S1.out.ld1 R (by simp only [List.size_toArray]; omega) P (q) (by simp only [List.size_toArray]; omega)
          have l3b := S1.out.ld1 R (by simp only [List.size_toArray]; omega) P (q') (by simp only [List.size_toArray]; omega)
          have s3a := S1.out.st1 R (by simp only [List.size_toArray]; omega) P (q) (by simp only [List.size_toArray]; omega) (goes Pr X S y (t' + 1)).toArray[q']!
          have s3b := S1.out.st2 R (by simp only [List.size_toArray]; omega) P (q) (q') (by simp only [List.size_toArray]; omega) (by simp only [List.size_toArray]; omega) (goes Pr X S y (t' + 1)).toArray[q']! (goes Pr X S y (t' + 1)).toArray[q]!
          have n3a : (enc (goes Pr X S y (t' + 1)).toArray[q]!).length = k := R.hk _
          have n3b : (enc (goes Pr X S y (t' + 1)).toArray[q']!).length = k := R.hk _
          rw [HST.out] at S2
          generalize enc (goes Pr X S y (t' + 1)).toArray[q]! = cI at S2 l3a s3b n3a
          generalize enc (goes Pr X S y (t' + 1)).toArray[q']! = cJ at S2 l3b s3a s3b n3b
          clear S1
          go_wp2_with fail
          go_big_region_o
          clear l3a l3b s3a s3b n3a n3b
          generalize (wr.drew.setCells blk (off + (q) * k) cJ).setCells blk (off + (q') * k) cI = w2 at S2 ⊢
          go_wp2_with fail
          go_roundg (q' - i)
          case measure => have := HQ'.out; omega
          case rel => exact ⟨q', t', rfl, by have := HQT.out; have := HQ'.out; omega, by have := HQ'.out; omega, by have := HQ'.out; omega, Nat.le_refl _, S2⟩
        · have hltz2 : ¬ (i : Int) < (q : Int) := by omega
          have HT := Lib.hid (show t = i - a by omega)
          clear hqt
          go_wp2_with fail
          go_end0
          rw [HT.out] at S1
          refine ⟨rfl, _, ?_, HZ.out.1, HZ.out.2, ?_⟩
          · simp only [List.length_append, List.length_take, List.length_cons, List.length_drop, List.length_nil]; have := HQ.out; omega
          · have e : Pr ++ (X.take (i - a) ++ y :: X.drop (i - a) ++ S) = goes Pr X S y (i - a) := by unfold goes; simp
            rw [e]; exact S1.out
end Go.Proofs.YtjieofiaoepccaaGreatDoor

