/-
  What is proved: the library's symMerge at fields, two rows in order of two fields or more each, the middle not ahead of where they meet, where shorter ones go right: they are one row in order; all else is kept.
  the library's symMerge at fields, whatever two rows in order side by side: they are one row in order, those of one path as they stood; all else is kept.
  this program bears the library's insertion sort at fields: its numbers here, laid for the library's contract.
  how schema's generic function compares two fields: by their paths, whatever the world of the sort; and rows of fields between the sort's words and this program's.
-/
import Derived.Test.YtofnpifooaijcaaGreatM34
import Derived.Test.YtofnpifooaijcaaGreatFSymMoreGt
import Derived.Shelf.SlSortCmp.KitK
import Derived.Test.YtofnpifooaijcaaGreatProg
import Derived.Test.YtofnpifooaijcaaGreatM33
import Derived.Test.YtofnpifooaijcaaGreatM10
import Derived.Test.YtofnpifooaijcaaGreatM2
namespace Go.Proofs.YtofnpifooaijcaaGreat
open Go.Shelf Go.RowKit Go.Lib Go.Sort
set_option linter.unusedVariables false
variable {P : Program}
variable {N : Nat}
set_option maxHeartbeats 8000000 in
set_option maxRecDepth 1000000 in
theorem sym_more_le (k : Nat) (LP : SortP P k) (enc : Fd → List Value) (cf : Fd → Fd → Int) (hcf : ∀ x y, cf x y < 0 ↔ LtP x.p y.p) (g : Nat) (cb : Array Value) (blk off cap sz : Nat) (d0 : Array Fd) (w0 : World) (eg : ∀ args w, (callFunc g args).run P w = .ok (.enter g args) w) (hcmp : CmpLays P g cb enc k cf blk off d0.size w0) (R : RowK enc k w0 blk off d0) (hs : d0.size = sz) (hsz : sz < 1000000)
    (IH : ∀ (a m b : Nat) (Pr X Y S : List Fd) (w : World), X.length + Y.length < N → 0 < X.length → 0 < Y.length → a = Pr.length → m = Pr.length + X.length → b = Pr.length + X.length + Y.length → b + S.length = sz → Flat X → Flat Y → SWF enc k w0 blk off (Pr ++ (X ++ (Y ++ S))) w → Calls P 168 #[.slice (some ⟨blk, off, none⟩) sz cap, .int .i64 a, .int .i64 m, .int .i64 b, .func (.func g) #[] cb] w (SymS enc k w0 blk off Pr X Y S))
    (a m b mid : Nat) (Pr X Y S : List Fd) (w : World) (hN : X.length + Y.length = N) (hX : 2 ≤ X.length) (hY : 2 ≤ Y.length) (ha : a = Pr.length) (hm : m = Pr.length + X.length) (hb : b = Pr.length + X.length + Y.length) (hL : b + S.length = sz) (hmid : mid = (a + b) / 2) (hc : m ≤ mid) (fX : Flat X) (fY : Flat Y) (H : SWF enc k w0 blk off (Pr ++ (X ++ (Y ++ S))) w) :
    Calls P 168 #[.slice (some ⟨blk, off, none⟩) sz cap, .int .i64 a, .int .i64 m, .int .i64 b, .func (.func g) #[] cb] w (SymS enc k w0 blk off Pr X Y S) := by
  have mixed := LP.mixed; have t0 := LP.t0; have a0 := LP.a0; have z0 := LP.z0; have v0 := LP.v0; have t3 := LP.t3; have a3 := LP.a3; have z3 := LP.z3; have v3 := LP.v3; have t4 := LP.t4; have a4 := LP.a4; have z4 := LP.z4; have v4 := LP.v4; have t5 := LP.t5; have a5 := LP.a5; have z5 := LP.z5; have v5 := LP.v5; have t22 := LP.t22; have a22 := LP.a22; have z22 := LP.z22; have v22 := LP.v22; have t25 := LP.t25; have a25 := LP.a25; have z25 := LP.z25; have v25 := LP.v25; have aE := LP.aE; have zE := LP.zE
  have FG := LP.fM
  have e85 : ∀ args w, (callFunc 174 args).run P w = .ok (.enter 174 args) w := enters_of LP.fR (by kernel_rfl) rfl
  have e78 : ∀ args w, (callFunc 168 args).run P w = .ok (.enter 168 args) w := enters_of LP.fM (by kernel_rfl) rfl
  have HC : Aside _ := hcmp
  have HCF := Lib.hid hcf
  have HIH := Lib.hid IH
  obtain ⟨lx, hlx⟩ : ∃ lx, X.length = lx := ⟨_, rfl⟩
  obtain ⟨ly, hly⟩ : ∃ ly, Y.length = ly := ⟨_, rfl⟩
  have HQ := Lib.hid (show Flat X ∧ Flat Y ∧ a = Pr.length ∧ X.length = lx ∧ Y.length = ly ∧ (Pr ++ (X ++ (Y ++ S))).length = sz ∧ b + S.length = sz ∧ lx + ly = N from ⟨fX, fY, ha, hlx, hly, by simp only [List.length_append]; omega, hL, by omega⟩)
  have hmx : m = a + lx := by omega
  have hbx : b = m + ly := by omega
  have h2x : 2 ≤ lx := by omega
  have h2y : 2 ≤ ly := by omega
  have r1 : IntKind.i64.wrap ((m : Int) - (a : Int)) = (lx : Int) := by rw [IntKind.wrap_i64]; omega
  have r2 : IntKind.i64.wrap ((b : Int) - (m : Int)) = (ly : Int) := by rw [IntKind.wrap_i64]; omega
  have q1 : ((lx : Int) == 1) = false := by rw [beq_eq_false_iff_ne]; omega
  have q1' : ¬ (lx : Int) = 1 := by omega
  have q1'' : ¬ lx = 1 := by omega
  have q2 : ((ly : Int) == 1) = false := by rw [beq_eq_false_iff_ne]; omega
  have q2' : ¬ (ly : Int) = 1 := by omega
  have q2'' : ¬ ly = 1 := by omega
  have ram : IntKind.i64.wrap ((a : Int) + (b : Int)) = (a : Int) + (b : Int) := by rw [IntKind.wrap_i64]; omega
  have rau : IntKind.u64.wrap ((a : Int) + (b : Int)) = (a : Int) + (b : Int) := by rw [IntKind.wrap_u64]; omega
  have rmid : ((a : Int) + (b : Int)) / 2 = (mid : Int) := by omega
  have rmw : IntKind.i64.wrap (mid : Int) = (mid : Int) := by rw [IntKind.wrap_i64]; omega
  have rn : IntKind.i64.wrap ((mid : Int) + (m : Int)) = ((mid + m : Nat) : Int) := by rw [IntKind.wrap_i64]; omega
  have hmm : ¬ (mid : Int) < (m : Int) := by omega
  have rp : IntKind.i64.wrap (((mid + m : Nat) : Int) - 1) = ((mid + m - 1 : Nat) : Int) := by rw [IntKind.wrap_i64]; omega
  obtain ⟨n, hn⟩ : ∃ n, mid + m = n := ⟨_, rfl⟩
  obtain ⟨s0, hs0⟩ : ∃ s0, a = s0 := ⟨_, rfl⟩
  obtain ⟨r0, hr0⟩ : ∃ r0, m = r0 := ⟨_, rfl⟩
  have HS := Lib.hid (show 2 * mid ≤ a + b ∧ a + b ≤ 2 * mid + 1 ∧ a = s0 ∧ m = r0 ∧ mid + m = n ∧ m ≤ mid from ⟨by omega, by omega, hs0, hr0, hn, hc⟩)
  rw [hn] at rn rp
  have hsr : s0 ≤ r0 := by omega
  have has : a ≤ s0 := by omega
  have hrm : r0 ≤ m := by omega
  have hrmid : r0 ≤ mid := by omega
  have hbs : b ≤ sz := by omega
  obtain ⟨p, hp⟩ : ∃ p, n - 1 = p := ⟨_, rfl⟩
  rw [hp] at rp
  have HP := Lib.hid hp
  have hmp : mid + m = p + 1 := by omega
  have HMP := Lib.hid hmp
  have S0 : Aside (SWF enc k w0 blk off (Pr ++ (X ++ (Y ++ S))) w) := H
  have HAB := Lib.hid (show m = a + lx ∧ b = m + ly from ⟨hmx, hbx⟩)
  have hpsz : p < 2000000 := by omega
  have hmsz : m < sz := by omega
  have hmidsz : mid < 1000000 := by omega
  clear hcf hcmp IH hN hX hY ha hm hb hL hmid hc fX fY H hlx hly hmx hbx hn hs0 hr0 hp hmp
  go_enter FG, Tryz.ntmps168
  go_wp2
  clear r1 r2 q1 q1' q1'' q2 q2' q2'' ram rau rmid rmw rn rp hmm
  go_loopg [20, 21] (r0 - s0) (fun kx s10 s11 wr => ∃ (i j : Nat), s10 = .int .i64 i ∧ s11 = .int .i64 j ∧ s0 ≤ i ∧ i ≤ j ∧ j ≤ r0 ∧ j - i ≤ kx ∧ Hid ((i = s0 ∨ ∃ x y, X[i - 1 - a]? = some x ∧ Y[mid - i]? = some y ∧ ¬ LtP y.p x.p) ∧ (j = r0 ∨ ∃ x y, X[j - a]? = some x ∧ Y[mid - j - 1]? = some y ∧ LtP y.p x.p)) ∧ Aside (SWF enc k w0 blk off (Pr ++ (X ++ (Y ++ S))) wr))
  case atStart => exact ⟨s0, r0, by rw [← HS.out.2.2.1], by rw [← HS.out.2.2.2.1], Nat.le_refl _, hsr, Nat.le_refl _, Nat.le_refl _, ⟨.inl rfl, .inl rfl⟩, S0⟩
  case round =>
    clear S0
    obtain ⟨i, j, rfl, rfl, hmi, hij, hjb, hkx, HI, S1⟩ := hrel
    by_cases hlt : i < j
    · have hltz : (i : Int) < (j : Int) := by omega
      have rs : IntKind.i64.wrap ((i : Int) + (j : Int)) = (i : Int) + (j : Int) := by rw [IntKind.wrap_i64]; omega
      have ru : IntKind.u64.wrap ((i : Int) + (j : Int)) = (i : Int) + (j : Int) := by rw [IntKind.wrap_u64]; omega
      obtain ⟨h, hh⟩ : ∃ h, (i + j) / 2 = h := ⟨_, rfl⟩
      have rh : ((i : Int) + (j : Int)) / 2 = (h : Int) := by omega
      have rw1 : IntKind.i64.wrap (h : Int) = (h : Int) := by rw [IntKind.wrap_i64]; omega
      have hih : i ≤ h := by omega
      have hhj : h < j := by omega
      clear hh
      obtain ⟨d, hd0⟩ : ∃ d, p - h = d := ⟨_, rfl⟩
      have HD := Lib.hid (show p - h = d ∧ m ≤ d ∧ d < b ∧ d - m = mid - h - 1 by have := HS.out; have := HMP.out; have := HAB.out; omega)
      have rd : IntKind.i64.wrap ((p : Int) - (h : Int)) = (d : Int) := by have := HMP.out; rw [IntKind.wrap_i64]; omega
      have hds : d < sz := by have := HD.out; omega
      clear hd0
      have ea1 : ((h : Int)).toNat = h := by omega
      have pa1 : (0 : Int) ≤ (h : Int) := by omega
      have ba1 : (h : Int) < (sz : Int) := by omega
      have ea2 : ((d : Int)).toNat = d := by omega
      have pa2 : (0 : Int) ≤ (d : Int) := by omega
      have ba2 : (d : Int) < (sz : Int) := by omega
      obtain ⟨x, hx, hxd⟩ := four_x (P := Pr) (X := X) (Y := Y) (S := S) (c := h) (by have := HQ.out; omega) (by have := HQ.out; have := HAB.out; omega)
      obtain ⟨y, hy, hyd⟩ := four_y (P := Pr) (X := X) (Y := Y) (S := S) (c := d) (by have := HQ.out; have := HAB.out; have := HD.out; omega) (by have := HQ.out; have := HAB.out; have := HD.out; omega)
      have hx2 : X[h - a]? = some x := by rw [← hx, ← HQ.out.2.2.1]
      have hy2 : Y[mid - h - 1]? = some y := by
        rw [← hy]; congr 1
        have := HQ.out; have := HAB.out; have := HD.out; omega
      have hdk : (Pr ++ (X ++ (Y ++ S))).length = sz := HQ.out.2.2.2.2.2.1
      have l1a := S1.out.ld R (by simp only [List.size_toArray]; omega) P d (by simp only [List.size_toArray]; omega)
      have l1b := S1.out.ld R (by simp only [List.size_toArray]; omega) P h (by simp only [List.size_toArray]; omega)
      rw [hyd] at l1a
      rw [hxd] at l1b
      have hc1 := S1.out.cmp HC.out (by simp only [List.size_toArray]; omega) y x
      have HX := Lib.hid hx2
      have HY := Lib.hid hy2
      have hwh : IntKind.i64.wrap ((h : Int) + 1) = (h : Int) + 1 := by rw [IntKind.wrap_i64]; omega
      clear hx hy hyd hxd hx2 hy2 hdk
      by_cases hl : LtP y.p x.p
      · have hv : cf y x < 0 := (HCF.out _ _).2 hl
        have hd : decide (cf y x < 0) = true := decide_eq_true hv
        have HN := Lib.hid (show (i = s0 ∨ ∃ x y, X[i - 1 - a]? = some x ∧ Y[mid - i]? = some y ∧ ¬ LtP y.p x.p) ∧ (h = r0 ∨ ∃ x y, X[h - a]? = some x ∧ Y[mid - h - 1]? = some y ∧ LtP y.p x.p) from ⟨HI.out.1, .inr ⟨x, y, HX.out, HY.out, hl⟩⟩)
        clear hl
        go_wp2_with fail
        go_quiet_grown (first | (go_at_fn g; refine Calls.grown_of (hc1 _ _)))
        have S2 : Aside _ := S1.out.grown nq osq
        clear l1a l1b hc1 S1
        generalize grow (wr.drewN nq) osq = w2 at S2 ⊢
        clear nq osq
        go_wp2_with fail
        go_roundg (h - i)
        case measure => omega
        case rel => exact ⟨i, h, rfl, rfl, hmi, hih, by omega, Nat.le_refl _, HN, S2⟩
      · have hv : ¬ cf y x < 0 := fun e => hl ((HCF.out _ _).1 e)
        have hd : decide (cf y x < 0) = false := decide_eq_false hv
        have HN := Lib.hid (show (h + 1 = s0 ∨ ∃ x y, X[h + 1 - 1 - a]? = some x ∧ Y[mid - (h + 1)]? = some y ∧ ¬ LtP y.p x.p) ∧ (j = r0 ∨ ∃ x y, X[j - a]? = some x ∧ Y[mid - j - 1]? = some y ∧ LtP y.p x.p) from ⟨.inr ⟨x, y, HX.out, by rw [show mid - (h + 1) = mid - h - 1 by omega]; exact HY.out, hl⟩, HI.out.2⟩)
        clear hl
        go_wp2_with fail
        go_quiet_grown (first | (go_at_fn g; refine Calls.grown_of (hc1 _ _)))
        have S2 : Aside _ := S1.out.grown nq osq
        clear l1a l1b hc1 S1
        generalize grow (wr.drewN nq) osq = w2 at S2 ⊢
        clear nq osq
        go_wp2_with fail
        go_roundg (j - (h + 1))
        case measure => omega
        case rel => exact ⟨h + 1, j, by go_num, rfl, by omega, hhj, hjb, Nat.le_refl _, HN, S2⟩
    · obtain rfl : i = j := by omega
      have hltz : ¬ (i : Int) < (i : Int) := by omega
      obtain ⟨s, hsd⟩ : ∃ s, i = s := ⟨_, rfl⟩
      subst hsd
      obtain ⟨t, ht⟩ : ∃ t, i - a = t := ⟨_, rfl⟩
      obtain ⟨u, hu⟩ : ∃ u, mid - i = u := ⟨_, rfl⟩
      obtain ⟨e, he⟩ : ∃ e, n - i = e := ⟨_, rfl⟩
      have re : IntKind.i64.wrap ((n : Int) - (i : Int)) = (e : Int) := by have := HS.out; rw [IntKind.wrap_i64]; omega
      have HB := Lib.hid (show m = a + lx ∧ b = m + ly ∧ i = a + t ∧ mid = i + u ∧ e = m + u ∧ e + i = mid + m ∧ t ≤ lx ∧ u ≤ ly ∧ i ≤ m ∧ i ≤ mid ∧ a < mid ∧ mid < b by have := HS.out; have := HAB.out; omega)
      have HPT := Lib.hid (show (t = 0 ∨ u = Y.length ∨ ∃ x y, X[t - 1]? = some x ∧ Y[u]? = some y ∧ ¬ LtP y.p x.p) ∧ (t = X.length ∨ u = 0 ∨ ∃ x y, X[t]? = some x ∧ Y[u - 1]? = some y ∧ LtP y.p x.p) by
        constructor
        · rcases HI.out.1 with q | ⟨x, y, q1, q2, q3⟩
          · exact .inl (by have := HS.out; omega)
          · by_cases h0 : t = 0
            · exact .inl h0
            · exact .inr (.inr ⟨x, y, by rw [← q1, ← ht]; congr 1; omega, by rw [← q2, ← hu], q3⟩)
        · rcases HI.out.2 with q | ⟨x, y, q1, q2, q3⟩
          · exact .inl (by rw [HQ.out.2.2.2.1]; have := HS.out; have := HAB.out; omega)
          · exact .inr (.inr ⟨x, y, by rw [← q1, ← ht], by rw [← q2, ← hu], q3⟩))
      obtain ⟨X1, hX1⟩ : ∃ X1, X.take t = X1 := ⟨_, rfl⟩
      obtain ⟨X2, hX2⟩ : ∃ X2, X.drop t = X2 := ⟨_, rfl⟩
      obtain ⟨Y1, hY1⟩ : ∃ Y1, Y.take u = Y1 := ⟨_, rfl⟩
      obtain ⟨Y2, hY2⟩ : ∃ Y2, Y.drop u = Y2 := ⟨_, rfl⟩
      have HLN := Lib.hid (show X1.length = t ∧ X2.length = lx - t ∧ Y1.length = u ∧ Y2.length = ly - u ∧ X1 ++ X2 = X ∧ Y1 ++ Y2 = Y by
        have := HQ.out; have := HB.out
        refine ⟨by rw [← hX1, List.length_take]; omega, by rw [← hX2, List.length_drop]; omega, by rw [← hY1, List.length_take]; omega, by rw [← hY2, List.length_drop]; omega, by rw [← hX1, ← hX2, List.take_append_drop], by rw [← hY1, ← hY2, List.take_append_drop]⟩)
      have HFL := Lib.hid (show Flat X1 ∧ Flat X2 ∧ Flat Y1 ∧ Flat Y2 from ⟨by rw [← hX1]; exact flat_take HQ.out.1 t, by rw [← hX2]; exact flat_drop HQ.out.1 t, by rw [← hY1]; exact flat_take HQ.out.2.1 u, by rw [← hY2]; exact flat_drop HQ.out.2.1 u⟩)
      have HNIL := Lib.hid (show (i = m → X2 = []) ∧ (i = mid → Y1 = []) ∧ (i = a → X1 = []) ∧ (e = b → Y2 = []) by
        have h1 := HLN.out; have h2 := HB.out
        refine ⟨fun q => List.eq_nil_of_length_eq_zero (by omega), fun q => List.eq_nil_of_length_eq_zero (by omega), fun q => List.eq_nil_of_length_eq_zero (by omega), fun q => List.eq_nil_of_length_eq_zero (by omega)⟩)
      have HFIN := Lib.hid (show ∀ Z1 Z2 wz, Flat Z1 → Flat Z2 → Stab Z1 (X1 ++ Y1) → Stab Z2 (X2 ++ Y2) → Z1.length = X1.length + Y1.length → Z2.length = X2.length + Y2.length → SWF enc k w0 blk off (Pr ++ (Z1 ++ (Z2 ++ S))) wz → SymS enc k w0 blk off Pr X Y S (.returned (.tuple #[])) wz from fun Z1 Z2 wz f1 f2 s1 s2 z1 z2 hz => by
        have hp := stab_split HQ.out.1 HQ.out.2.1 HPT.out.1 HPT.out.2 (Z1 := Z1) (Z2 := Z2) (by rw [hX1, hY1]; exact s1) (by rw [hX2, hY2]; exact s2) f1 f2
        refine ⟨rfl, Z1 ++ Z2, ?_, hp.1, hp.2, by rw [List.append_assoc]; exact hz⟩
        have h1 := HLN.out; have h2 := HQ.out; have h3 := HB.out
        rw [List.length_append]; omega)
      have HROT := Lib.hid (show ∀ wz, SWF enc k w0 blk off (Pr ++ (X1 ++ (X2 ++ (Y1 ++ (Y2 ++ S))))) wz → t < lx → 0 < u → Calls P 174 #[.slice (some ⟨blk, off, none⟩) sz cap, .int .i64 i, .int .i64 m, .int .i64 e, .func (.func g) #[] cb] wz fun e w' => e = .returned (.tuple #[]) ∧ SWF enc k w0 blk off (Pr ++ (X1 ++ (Y1 ++ (X2 ++ (Y2 ++ S))))) w' from fun wz hz h1 h2 => by
        have g1 := HLN.out; have g2 := HQ.out; have g3 := HB.out
        have := rot_any k LP enc g cb blk off cap sz i m e d0 w0 wz R hs hsz (Pr ++ X1) X2 Y1 (Y2 ++ S) (by omega) (by omega) (by rw [List.length_append]; omega) (by rw [List.length_append]; omega) (by rw [List.length_append]; omega) (by rw [List.length_append]; omega) (by rw [List.append_assoc]; exact hz)
        rw [List.append_assoc] at this
        exact this)
      have HLEFT := Lib.hid (show ∀ wz, SWF enc k w0 blk off (Pr ++ (X1 ++ (Y1 ++ (X2 ++ (Y2 ++ S))))) wz → 0 < t → 0 < u → Calls P 168 #[.slice (some ⟨blk, off, none⟩) sz cap, .int .i64 a, .int .i64 i, .int .i64 mid, .func (.func g) #[] cb] wz (SymS enc k w0 blk off Pr X1 Y1 (X2 ++ (Y2 ++ S))) from fun wz hz h1 h2 => by
        have g1 := HLN.out; have g2 := HQ.out; have g3 := HB.out
        exact HIH.out a i mid Pr X1 Y1 (X2 ++ (Y2 ++ S)) wz (by omega) (by omega) (by omega) g2.2.2.1 (by omega) (by omega) (by rw [List.length_append, List.length_append]; omega) HFL.out.1 HFL.out.2.2.1 hz)
      have HRIGHT := Lib.hid (show ∀ Z1 wz, Z1.length = X1.length + Y1.length → SWF enc k w0 blk off (Pr ++ (Z1 ++ (X2 ++ (Y2 ++ S)))) wz → t < lx → u < ly → Calls P 168 #[.slice (some ⟨blk, off, none⟩) sz cap, .int .i64 mid, .int .i64 e, .int .i64 b, .func (.func g) #[] cb] wz (fun e' w' => e' = .returned (.tuple #[]) ∧ ∃ Z2, Z2.length = X2.length + Y2.length ∧ Flat Z2 ∧ Stab Z2 (X2 ++ Y2) ∧ SWF enc k w0 blk off (Pr ++ (Z1 ++ (Z2 ++ S))) w') from fun Z1 wz hz1 hz h1 h2 => by
        have g1 := HLN.out; have g2 := HQ.out; have g3 := HB.out
        have := HIH.out mid e b (Pr ++ Z1) X2 Y2 S wz (by omega) (by omega) (by omega) (by rw [List.length_append]; omega) (by rw [List.length_append]; omega) (by rw [List.length_append]; omega) (by omega) HFL.out.2.1 HFL.out.2.2.2 (by rw [List.append_assoc]; exact hz)
        refine this.mono ?_
        rintro e' w' ⟨q1, Z2, q2, q3, q4, q5⟩
        exact ⟨q1, Z2, q2, q3, q4, by rw [List.append_assoc] at q5; exact q5⟩)
      replace S1 : Aside (SWF enc k w0 blk off (Pr ++ (X1 ++ (X2 ++ (Y1 ++ (Y2 ++ S))))) wr) := by
        have q : X1 ++ (X2 ++ (Y1 ++ (Y2 ++ S))) = X ++ (Y ++ S) := by rw [← List.append_assoc X1, HLN.out.2.2.2.2.1, ← List.append_assoc Y1, HLN.out.2.2.2.2.2]
        show SWF _ _ _ _ _ _ _
        rw [q]; exact S1.out
      have HX2 := Lib.hid HNIL.out.1; have HY1 := Lib.hid HNIL.out.2.1; have HX1 := Lib.hid HNIL.out.2.2.1; have HY2 := Lib.hid HNIL.out.2.2.2
      have bb := HB.out
      clear ht hu he hX1 hX2 hY1 hY2 HIH HC HI hij hmi hjb hkx hlt
      by_cases hB : i = m
      · by_cases hC : i = mid
        · have hX2 := Lib.hid (HX2.out hB)
          have hY1 := Lib.hid (HY1.out hC)
          have t1 : ¬ (i : Int) < (m : Int) := by omega
          have t2 : (a : Int) < (i : Int) := by omega
          have t3 : ¬ (i : Int) < (mid : Int) := by omega
          have t4 : ¬ (mid : Int) < (e : Int) := by omega
          clear bb hB hC
          go_wp2_with fail
          go_end0
          exact HFIN.out _ _ _ (by rw [hY1.out, List.append_nil]; exact HFL.out.1) (by rw [hX2.out, List.nil_append]; exact HFL.out.2.2.2) (Stab.refl _) (Stab.refl _) List.length_append List.length_append (by have := S1.out; simp only [hX2.out, hY1.out, List.nil_append, List.append_nil] at this ⊢; exact this)
        · have hX2 := Lib.hid (HX2.out hB)
          have t1 : ¬ (i : Int) < (m : Int) := by omega
          have t2 : (a : Int) < (i : Int) := by omega
          have t3 : (i : Int) < (mid : Int) := by omega
          have t4 : ¬ (mid : Int) < (e : Int) := by omega
          have hx1 : 0 < t := by omega
          have hy1 : 0 < u := by omega
          have hS5 : SWF enc k w0 blk off (Pr ++ (X1 ++ (Y1 ++ (X2 ++ (Y2 ++ S))))) wr := by have := S1.out; simp only [hX2.out, List.nil_append] at this ⊢; exact this
          have hL := Lib.hid (HLEFT.out _ hS5 hx1 hy1)
          clear bb hB hC hS5 S1
          go_wp2_with (go_at_fn 168; refine hL.out.mono ?_; rintro e w6 ⟨rfl, Z1, z1, f1, s1, hS6⟩)
          go_end0
          exact HFIN.out _ _ _ f1 (by rw [hX2.out, List.nil_append]; exact HFL.out.2.2.2) s1 (Stab.refl _) z1 List.length_append (by simp only [hX2.out, List.nil_append] at hS6 ⊢; exact hS6)
      · by_cases hC : i = mid
        · have hY1 := Lib.hid (HY1.out hC)
          have t1 : (i : Int) < (m : Int) := by omega
          have t1b : ¬ (m : Int) < (e : Int) := by omega
          have t2 : (a : Int) < (i : Int) := by omega
          have t3 : ¬ (i : Int) < (mid : Int) := by omega
          have t4 : (mid : Int) < (e : Int) := by omega
          have t5 : (e : Int) < (b : Int) := by omega
          have hx2 : t < lx := by omega
          have hy2 : u < ly := by omega
          have hS5 : SWF enc k w0 blk off (Pr ++ ((X1 ++ Y1) ++ (X2 ++ (Y2 ++ S)))) wr := by have := S1.out; simp only [hY1.out, List.nil_append, List.append_nil] at this ⊢; exact this
          have hR := Lib.hid (HRIGHT.out _ _ List.length_append hS5 hx2 hy2)
          clear bb hB hC hS5 S1
          go_wp2_with (go_at_fn 168; refine hR.out.mono ?_; rintro e w6 ⟨rfl, Z2, z2, f2, s2, hS6⟩)
          go_end0
          exact HFIN.out _ _ _ (by rw [hY1.out, List.append_nil]; exact HFL.out.1) f2 (Stab.refl _) s2 List.length_append z2 (by simp only [List.append_assoc] at hS6 ⊢; exact hS6)
        · by_cases hA : i = a
          · by_cases hD : e = b
            · have t1 : (i : Int) < (m : Int) := by omega
              have t1b : (m : Int) < (e : Int) := by omega
              have t2 : ¬ (a : Int) < (i : Int) := by omega
              have t3 : (i : Int) < (mid : Int) := by omega
              have t4 : (mid : Int) < (e : Int) := by omega
              have t5 : ¬ (e : Int) < (b : Int) := by omega
              have hx2 : t < lx := by omega
              have hy1 : 0 < u := by omega
              have hR := Lib.hid (HROT.out _ S1.out hx2 hy1)
              have hX1 := Lib.hid (HX1.out hA)
              have hY2 := Lib.hid (HY2.out hD)
              clear bb hA hB hC hD S1
              go_wp2_with (first | (go_at_fn 174; refine hR.out.mono ?_; rintro e w5 ⟨rfl, hS5⟩))
              go_end0
              exact HFIN.out _ _ _ (by rw [hX1.out, List.nil_append]; exact HFL.out.2.2.1) (by rw [hY2.out, List.append_nil]; exact HFL.out.2.1) (Stab.refl _) (Stab.refl _) List.length_append List.length_append (by simp only [hX1.out, hY2.out, List.nil_append, List.append_nil] at hS5 ⊢; exact hS5)
            · have t1 : (i : Int) < (m : Int) := by omega
              have t1b : (m : Int) < (e : Int) := by omega
              have t2 : ¬ (a : Int) < (i : Int) := by omega
              have t3 : (i : Int) < (mid : Int) := by omega
              have t4 : (mid : Int) < (e : Int) := by omega
              have t5 : (e : Int) < (b : Int) := by omega
              have hx2 : t < lx := by omega
              have hy1 : 0 < u := by omega
              have hR := Lib.hid (HROT.out _ S1.out hx2 hy1)
              have hX1 := Lib.hid (HX1.out hA)
              have hy2 : u < ly := by omega
              clear bb hA hB hC hD S1
              go_wp2_with (first | (go_at_fn 174; refine hR.out.mono ?_; rintro e w5 ⟨rfl, hS5⟩) | (go_at_fn 168; refine (HRIGHT.out (X1 ++ Y1) _ List.length_append (by simp only [hX1.out, List.nil_append] at hS5 ⊢; exact hS5) hx2 hy2).mono ?_; rintro e w7 ⟨rfl, Z2, z2, f2, s2, hS7⟩))
              go_end0
              exact HFIN.out _ _ _ (by rw [hX1.out, List.nil_append]; exact HFL.out.2.2.1) f2 (Stab.refl _) s2 List.length_append z2 (by simp only [hX1.out, List.nil_append] at hS7 ⊢; exact hS7)
          · by_cases hD : e = b
            · have t1 : (i : Int) < (m : Int) := by omega
              have t1b : (m : Int) < (e : Int) := by omega
              have t2 : (a : Int) < (i : Int) := by omega
              have t3 : (i : Int) < (mid : Int) := by omega
              have t4 : (mid : Int) < (e : Int) := by omega
              have t5 : ¬ (e : Int) < (b : Int) := by omega
              have hx2 : t < lx := by omega
              have hy1 : 0 < u := by omega
              have hR := Lib.hid (HROT.out _ S1.out hx2 hy1)
              have hx1 : 0 < t := by omega
              have hY2 := Lib.hid (HY2.out hD)
              clear bb hA hB hC hD S1
              go_wp2_with (first | (go_at_fn 174; refine hR.out.mono ?_; rintro e w5 ⟨rfl, hS5⟩) | (go_at_fn 168; refine (HLEFT.out _ (by assumption) hx1 hy1).mono ?_; rintro e w6 ⟨rfl, Z1, z1, f1, s1, hS6⟩))
              go_end0
              exact HFIN.out _ _ _ f1 (by rw [hY2.out, List.append_nil]; exact HFL.out.2.1) s1 (Stab.refl _) z1 List.length_append (by simp only [hY2.out, List.nil_append, List.append_nil] at hS6 ⊢; exact hS6)
            · have t1 : (i : Int) < (m : Int) := by omega
              have t1b : (m : Int) < (e : Int) := by omega
              have t2 : (a : Int) < (i : Int) := by omega
              have t3 : (i : Int) < (mid : Int) := by omega
              have t4 : (mid : Int) < (e : Int) := by omega
              have t5 : (e : Int) < (b : Int) := by omega
              have hx2 : t < lx := by omega
              have hy1 : 0 < u := by omega
              have hR := Lib.hid (HROT.out _ S1.out hx2 hy1)
              have hx1 : 0 < t := by omega
              have hy2 : u < ly := by omega
              clear bb hA hB hC hD S1
              go_wp2_with (first | (go_at_fn 174; refine hR.out.mono ?_; rintro e w5 ⟨rfl, hS5⟩) | (go_at_fn 168; refine (HLEFT.out _ (by assumption) hx1 hy1).mono ?_; rintro e w6 ⟨rfl, Z1, z1, f1, s1, hS6⟩) | (go_at_fn 168; refine (HRIGHT.out _ _ z1 hS6 hx2 hy2).mono ?_; rintro e w7 ⟨rfl, Z2, z2, f2, s2, hS7⟩))
              go_end0
              exact HFIN.out _ _ _ f1 f2 s1 s2 z1 z2 hS7
variable {P : Program}
theorem len_one {X : List Fd} (h : X.length = 1) : ∃ x, X = [x] := by
  match X, h with
  | [x], _ => exact ⟨x, rfl⟩
theorem sym_any (k : Nat) (LP : SortP P k) (enc : Fd → List Value) (cf : Fd → Fd → Int) (hcf : ∀ x y, cf x y < 0 ↔ LtP x.p y.p) (g : Nat) (cb : Array Value) (blk off cap sz : Nat) (d0 : Array Fd) (w0 : World) (eg : ∀ args w, (callFunc g args).run P w = .ok (.enter g args) w) (hcmp : CmpLays P g cb enc k cf blk off d0.size w0) (R : RowK enc k w0 blk off d0) (hs : d0.size = sz) (hsz : sz < 1000000) :
    ∀ (N a m b : Nat) (Pr X Y S : List Fd) (w : World), X.length + Y.length = N → 0 < X.length → 0 < Y.length → a = Pr.length → m = Pr.length + X.length → b = Pr.length + X.length + Y.length → b + S.length = sz → Flat X → Flat Y → SWF enc k w0 blk off (Pr ++ (X ++ (Y ++ S))) w →
      Calls P 168 #[.slice (some ⟨blk, off, none⟩) sz cap, .int .i64 a, .int .i64 m, .int .i64 b, .func (.func g) #[] cb] w (SymS enc k w0 blk off Pr X Y S) := by
  intro N
  induction N using Nat.strongRecOn with
  | ind N ih =>
    intro a m b Pr X Y S w hN hX hY ha hm hb hL fX fY H
    by_cases h1 : X.length = 1
    · obtain ⟨x, rfl⟩ := len_one h1
      exact sym_one k LP enc cf hcf g cb blk off cap sz d0 w0 eg hcmp R hs hsz a m b Pr Y S x w hY ha hm hb hL fY H
    · by_cases h2 : Y.length = 1
      · obtain ⟨y, rfl⟩ := len_one h2
        exact sym_last k LP enc cf hcf g cb blk off cap sz d0 w0 eg hcmp R hs hsz a m b Pr X S y w (by omega) ha hm hb hL fX H
      · have IH : ∀ (a m b : Nat) (Pr X Y S : List Fd) (w : World), X.length + Y.length < N → 0 < X.length → 0 < Y.length → a = Pr.length → m = Pr.length + X.length → b = Pr.length + X.length + Y.length → b + S.length = sz → Flat X → Flat Y → SWF enc k w0 blk off (Pr ++ (X ++ (Y ++ S))) w → Calls P 168 #[.slice (some ⟨blk, off, none⟩) sz cap, .int .i64 a, .int .i64 m, .int .i64 b, .func (.func g) #[] cb] w (SymS enc k w0 blk off Pr X Y S) :=
          fun a m b Pr X Y S w h => ih _ h a m b Pr X Y S w rfl
        by_cases hc : (a + b) / 2 < m
        · exact sym_more_gt k LP enc cf hcf g cb blk off cap sz d0 w0 eg hcmp R hs hsz IH a m b ((a + b) / 2) Pr X Y S w hN (by omega) (by omega) ha hm hb hL rfl hc fX fY H
        · exact sym_more_le k LP enc cf hcf g cb blk off cap sz d0 w0 eg hcmp R hs hsz IH a m b ((a + b) / 2) Pr X Y S w hN (by omega) (by omega) ha hm hb hL rfl (by omega) fX fY H
end Go.Proofs.YtofnpifooaijcaaGreat
namespace Go.Proofs
open Go.Shelf
def Tryz.insFields_ren : Go.Shelf.Ren := ⟨fun | 20 => 167 | n => n, fun | 24 => 28 | 22 => 22 | 3 => 3 | 25 => 144 | 4 => 4 | 0 => 0 | n => n, fun | n => n⟩
theorem Tryz.insFields : Go.Proofs.SlLaysF0.n20 Tryz.prog Tryz.insFields_ren := {
  mixed := by kernel_rfl
  f20 := ⟨Tryz.f167.name, by decide, Tryz.func167.trans (congrArg some (by kernel_rfl))⟩
  t0 := Tryz.underlying0
  a0 := Tryz.isAgg0
  z0 := Tryz.sizeOf0
  v0 := Tryz.zeroValue0
  t3 := Tryz.underlying3
  a3 := Tryz.isAgg3
  z3 := Tryz.sizeOf3
  v3 := Tryz.zeroValue3
  t4 := Tryz.underlying4
  a4 := Tryz.isAgg4
  z4 := Tryz.sizeOf4
  v4 := Tryz.zeroValue4
  t22 := Tryz.underlying22
  a22 := Tryz.isAgg22
  z22 := Tryz.sizeOf22
  v22 := Tryz.zeroValue22
  t25 := Tryz.underlying144
  a25 := Tryz.isAgg144
  z25 := Tryz.sizeOf144
  v25 := Tryz.zeroValue144 }
end Go.Proofs
namespace Go.Proofs.YtofnpifooaijcaaGreat
open Go.Shelf Go.RowKit Go.Lib Go.Sort
set_option linter.unusedVariables false
def cmpF (x y : Fd) : Int := cmpL x.p.data.toList y.p.data.toList
theorem cmpF_lt (x y : Fd) : cmpF x y < 0 ↔ LtP x.p y.p := by
  unfold cmpF cmpL LtP
  by_cases h : x.p.data.toList < y.p.data.toList
  · rw [if_pos h]; exact ⟨fun _ => h, fun _ => by decide⟩
  · rw [if_neg h]
    refine ⟨fun k => ?_, fun k => absurd k h⟩
    split at k <;> omega
theorem cmpF_lto : ltOf cmpF = ltF := by
  funext x y
  unfold ltOf ltF
  exact decide_eq_decide.2 (cmpF_lt x y)
theorem holdsK_of {w : World} {base g n cap : Nat} {e : TypeId} {L : List Fd} (h : w.ownsRow base e 6 (.slice (some ⟨g, 0, none⟩) n cap) n (flatF L)) : HoldsK cellF 6 w g 0 L.toArray := by
  intro j hj
  rw [size_flatK] at hj
  have hj6 : j / 6 < L.length := by simp at hj; omega
  rw [Nat.zero_add, get_flatK cellF 6 _ j hj]
  have hx : L[j / 6]? = some L[j / 6] := List.getElem?_eq_getElem hj6
  have hm : j % 6 < 6 := Nat.mod_lt _ (by decide)
  have hf := flatF_get L (j / 6) _ hx (j % 6) hm
  rw [arr_at hx, show j / 6 * 6 + j % 6 = j by omega] at *
  have hl : j % 6 < (cellF L[j / 6]).length := hm
  rw [List.getElem?_eq_getElem hl] at hf
  have hc := h.cells (g := g) rfl _ _ hf
  rw [Addr.add_lit, Nat.zero_add] at hc
  exact ⟨by rw [getElem!_pos (cellF L[j / 6]) (j % 6) hl]; exact hc, h.frozenAt _⟩
theorem fl_of {w : World} {g n cap : Nat} {L : List Fd} (h : HoldsK cellF 6 w g 0 L.toArray) (hn : n = L.length) (h1 : n ≤ cap) (h2 : cap ≤ maxLen) : Fl w (some ⟨g, 0, none⟩) n cap L := by
  refine ⟨hn, h1, h2, (fun e => by cases e), .inr ⟨g, 0, rfl, fun j x hj => ?_⟩⟩
  have hjl := (List.getElem?_eq_some_iff.1 hj).1
  refine FdO.of_flat fun i u hu => ?_
  have hi : i < 6 := (List.getElem?_eq_some_iff.1 hu).1
  have hc := (h (j * 6 + i) (by rw [size_flatK]; simp; omega)).1
  rw [get_flatK cellF 6 _ _ (by simp; omega), show (j * 6 + i) / 6 = j by omega, show (j * 6 + i) % 6 = i by omega, arr_at hj] at hc
  have hl : i < (cellF x).length := hi
  rw [getElem!_pos (cellF x) i hl] at hc
  rw [← (List.getElem?_eq_some_iff.1 hu).2, ← Nat.add_assoc] at *
  exact hc
theorem heap_sortK {w : World} {g m : Nat} {d : Array Fd} {os : Array Obj} {i : Nat} (hi : i < w.heap.size) (hg : i ≠ g) : (sortWorldK cellF 6 w g 0 m d os).heap[i]? = w.heap[i]? := by
  unfold sortWorldK
  rw [heap_grow_old _ _ (by simp [putRowK]; omega)]
  show (w.heap.modify g _)[i]? = _
  rw [Array.getElem?_modify, if_neg (by omega)]
theorem cell_sortK {w : World} {g m : Nat} {d : Array Fd} {os : Array Obj} {b o : Nat} {v : Value} (hb : b < w.heap.size) (hg : b ≠ g) (h : w.cell? ⟨b, o, none⟩ = some v) : (sortWorldK cellF 6 w g 0 m d os).cell? ⟨b, o, none⟩ = some v := by
  rw [← h]
  exact World.cell?_of_block (a := ⟨b, o, none⟩) (heap_sortK hb hg)
theorem kept_sortK {W w : World} {g m : Nat} {d : Array Fd} {os : Array Obj} (h : Kept W w) (hW : W.heap.size ≤ g) : Kept W (sortWorldK cellF 6 w g 0 m d os) := by
  obtain ⟨⟨h1, h2, h3⟩, hf, hs⟩ := h
  refine ⟨⟨h1, h2, fun i hi => ?_⟩, fun a ha => ?_, ?_⟩
  · rw [heap_sortK (by omega) (by omega)]; exact h3 i hi
  · rw [← hf a ha]
    exact World.frozen?_of_block (w := w) (heap_sortK (by omega) (by omega))
  · unfold sortWorldK
    rw [size_grow]
    simp [putRowK]; omega
theorem rowK_of {w : World} {g : Nat} {L : List Fd} (h : HoldsK cellF 6 w g 0 L.toArray) (hL : 0 < L.length) : RowK cellF 6 w g 0 L.toArray where
  hk := fun _ => rfl
  h1 := fun x v hv => flatF_one [x] v (by simpa [flatF] using hv)
  hH := h
  hblk := World.block_lt_of_cell? w _ (h 0 (by rw [size_flatK]; simp; omega)).1
theorem by_any (x : Fd) (w : World) : Calls Tryz.prog 91 #[.agg #[.string x.p, .int .i64 x.k, .int .i64 x.t, .int .i64 x.vk, .int .i64 x.vn, .string x.vt]] w fun e w' => e = .returned (.string x.p) ∧ ∃ q os, w' = grow (w.drewN q) os := by
  have HE := FdB.new w x 28
  have x0 := HE.c0; have x1 := HE.c1; have x2 := HE.c2; have x3 := HE.c3; have x4 := HE.c4; have x5 := HE.c5
  go_enter Tryz.func91, Tryz.ntmps91
  go_wp2
  go_ret
  exact ⟨rfl, 0, _, by rw [← alloc_eq_grow]; rfl⟩
set_option maxRecDepth 100000 in
set_option maxHeartbeats 4000000 in
theorem less_any (x y : Fd) (pb : Nat) (w : World) (hp : w.cell? ⟨pb, 0, none⟩ = some (.func (.func 91) #[] #[])) :
    Calls Tryz.prog 135 #[.agg #[.string x.p, .int .i64 x.k, .int .i64 x.t, .int .i64 x.vk, .int .i64 x.vn, .string x.vt], .agg #[.string y.p, .int .i64 y.k, .int .i64 y.t, .int .i64 y.vk, .int .i64 y.vn, .string y.vt], .pointer (some ⟨pb, 0, none⟩)] w fun e w' => e = .returned (.int .i64 (cmpF x y)) ∧ ∃ q os, w' = grow (w.drewN q) os := by
  have mixed : Tryz.prog.follows .mixedOrders = true := by kernel_rfl
  have hk1 := (Kept.refl w).alloc #[.string x.p, .int .i64 x.k, .int .i64 x.t, .int .i64 x.vk, .int .i64 x.vn, .string x.vt] 28
  have hk2 := (Kept.refl (w.alloc (.cells #[.string x.p, .int .i64 x.k, .int .i64 x.t, .int .i64 x.vk, .int .i64 x.vn, .string x.vt] 28))).alloc #[.string y.p, .int .i64 y.k, .int .i64 y.t, .int .i64 y.vk, .int .i64 y.vn, .string y.vt] 28
  have hx := (FdB.new w x 28).kept hk2
  have hy := FdB.new (w.alloc (.cells #[.string x.p, .int .i64 x.k, .int .i64 x.t, .int .i64 x.vk, .int .i64 x.vn, .string x.vt] 28)) y 28
  rw [show (w.alloc (.cells #[.string x.p, .int .i64 x.k, .int .i64 x.t, .int .i64 x.vk, .int .i64 x.vn, .string x.vt] 28)).heap.size = w.heap.size + 1 by simp] at hy
  have hpc := (hk1.trans hk2).cell hp
  obtain ⟨os0, hg⟩ : ∃ os0, (w.alloc (.cells #[.string x.p, .int .i64 x.k, .int .i64 x.t, .int .i64 x.vk, .int .i64 x.vn, .string x.vt] 28)).alloc (.cells #[.string y.p, .int .i64 y.k, .int .i64 y.t, .int .i64 y.vk, .int .i64 y.vn, .string y.vt] 28) = grow (w.drewN 0) os0 := ⟨_, by rw [alloc_eq_grow, alloc_eq_grow, grow_grow]; rfl⟩
  have hlt := World.block_lt_of_cell? _ _ hpc
  obtain ⟨W, hW⟩ : ∃ W, (w.alloc (.cells #[.string x.p, .int .i64 x.k, .int .i64 x.t, .int .i64 x.vk, .int .i64 x.vn, .string x.vt] 28)).alloc (.cells #[.string y.p, .int .i64 y.k, .int .i64 y.t, .int .i64 y.vk, .int .i64 y.vn, .string y.vt] 28) = W := ⟨_, rfl⟩
  rw [hW] at hx hy hpc hg hlt
  have HG := Lib.hid hg; have HW := Lib.hid hW
  have p0 := cell_grown hlt hpc
  have x0 := cell_grown hx.lt hx.c0; have x1 := cell_grown hx.lt hx.c1; have x2 := cell_grown hx.lt hx.c2; have x3 := cell_grown hx.lt hx.c3; have x4 := cell_grown hx.lt hx.c4; have x5 := cell_grown hx.lt hx.c5
  have y0 := cell_grown hy.lt hy.c0; have y1 := cell_grown hy.lt hy.c1; have y2 := cell_grown hy.lt hy.c2; have y3 := cell_grown hy.lt hy.c3; have y4 := cell_grown hy.lt hy.c4; have y5 := cell_grown hy.lt hy.c5
  have AX := Lib.hid (fun n os => by_any x (grow (W.drewN n) os))
  have AY := Lib.hid (fun n os => by_any y (grow (W.drewN n) os))
  have AC := Lib.hid (fun n os => (cmpStr_any x.p y.p (grow (W.drewN n) os)).mono (fun e w' (h : e = .returned (.int .i64 (cmpL x.p.data.toList y.p.data.toList)) ∧ grow (W.drewN n) os = w') => (show e = .returned (.int .i64 (cmpF x y)) ∧ ∃ q os', w' = grow ((grow (W.drewN n) os).drewN q) os' from ⟨h.1, 0, #[], by rw [grow_empty, ← h.2]; rfl⟩)))
  clear hk1 hk2 hx hy hpc hg hW hlt hp
  go_enter Tryz.func135, Tryz.ntmps135
  go_wp2_with fail
  rw [HW.out]
  go_wp2_with fail
  go_quiet_grown (first
    | (go_at_call 91; refine Calls.grown_of (AX.out _ _))
    | (go_at_call 91; refine Calls.grown_of (AY.out _ _))
    | (go_at_call 136; refine Calls.grown_of (AC.out _ _)))
  go_wp2_with fail
  go_ret
  refine ⟨rfl, 0 + nq, os0 ++ osq, ?_⟩
  rw [HG.out]
  show grow (grow ((w.drewN 0).drewN nq) os0) osq = _
  rw [grow_grow, World.drewN_drewN]
theorem cmpLaysF (pb g n : Nat) (w : World) (hp : w.cell? ⟨pb, 0, none⟩ = some (.func (.func 91) #[] #[])) (hg : pb ≠ g) : CmpLays Tryz.prog 135 #[.pointer (some ⟨pb, 0, none⟩)] cellF 6 cmpF g 0 n w :=
  fun m os dk _ x y => less_any x y pb _ (cell_sortK (World.block_lt_of_cell? w _ hp) hg hp)
end Go.Proofs.YtofnpifooaijcaaGreat
