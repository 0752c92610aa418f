/-
  What is proved: the Go function ValBack of layer 3's laws, called with any three values where the laid tables read as their initialisers lay them, returns true; the world has new blocks at most.
-/
import Derived.Test.YtooaiicbnfmnpaaDoorVAwake
import Derived.Test.YtooaiicbnfmnpaaDoorVBackMath
namespace Go.Proofs.YtooaiicbnfmnpaaDoor
open Go.RowKit

theorem same_or (k1 n1 : Int) (t1 : ByteArray) (k2 n2 : Int) (t2 : ByteArray) :
    (cmpV k1 n1 t1.data.toList k2 n2 t2.data.toList = 0 ∧ (k1 == k2) = true ∧ (n1 == n2) = true ∧ (t1.toList == t2.toList) = true) ∨
    (cmpV k1 n1 t1.data.toList k2 n2 t2.data.toList ≠ 0 ∧ ((k1 == k2) = false ∨ ((k1 == k2) = true ∧ (n1 == n2) = false) ∨ ((k1 == k2) = true ∧ (n1 == n2) = true ∧ (t1.toList == t2.toList) = false))) := by
  rcases differ k1 n1 t1 k2 n2 t2 with ⟨rfl, rfl, rfl⟩ | h | ⟨rfl, h⟩ | ⟨rfl, rfl, h⟩
  · exact .inl ⟨(cmpV_zero _ _ _ _ _ _).2 ⟨rfl, rfl, rfl⟩, by simp, by simp, by simp⟩
  · exact .inr ⟨fun e => by have := ((cmpV_zero _ _ _ _ _ _).1 e).1; subst this; simp at h, .inl h⟩
  · exact .inr ⟨fun e => by have := ((cmpV_zero _ _ _ _ _ _).1 e).2.1; subst this; simp at h, .inr (.inl ⟨by simp, h⟩)⟩
  · exact .inr ⟨fun e => by have := ba_ext ((cmpV_zero _ _ _ _ _ _).1 e).2.2; subst this; simp at h, .inr (.inr ⟨by simp, by simp, h⟩)⟩

section
variable (k1 n1 : Int) (t1 : ByteArray) (k2 n2 : Int) (t2 : ByteArray) (k3 n3 : Int) (t3 : ByteArray) (w : World)

theorem vback_big (s1 : t1.size ≤ 140737488351232) (s2 : t2.size ≤ 140737488351232) (s3 : t3.size ≤ 140737488351232) (hl : LaidW w) (hbig : 900 < t1.size + t2.size + t3.size) :
    Calls Tryd.prog 4 #[.agg #[.int .i64 k1, .int .i64 n1, .string t1], .agg #[.int .i64 k2, .int .i64 n2, .string t2], .agg #[.int .i64 k3, .int .i64 n3, .string t3]] w fun e w' => e = .returned (.bool true) ∧ Kept w w' := by
  have hK := ((kept_alloc w #[.int .i64 k1, .int .i64 n1, .string t1] 23).trans (kept_alloc _ #[.int .i64 k2, .int .i64 n2, .string t2] 23)).trans (kept_alloc _ #[.int .i64 k3, .int .i64 n3, .string t3] 23)
  have hL3 := hl.kept hK
  have d1 : decide (900 < t1.size + t2.size + t3.size) = true := by simpa using hbig
  have d2 : decide ((900 : Int) < (t1.size : Int) + (t2.size : Int) + (t3.size : Int)) = true := by simp; omega
  go_enter Tryd.func4, Tryd.ntmps4
  go_wp2_with (go_at_call 5; ((with_reducible refine (vawake_any _ hL3).mono ?_); rintro e w2 ⟨rfl, hg⟩))
  go_ret
  exact ⟨rfl, hK.trans (by assumption)⟩

set_option maxRecDepth 100000 in
set_option maxHeartbeats 8000000 in
theorem vback_small (h1 : -9223372036854775808 ≤ n1) (h2 : n1 ≤ 9223372036854775807) (s1 : t1.size ≤ 900) (s2 : t2.size ≤ 900) (s3 : t3.size ≤ 900) (hl : LaidW w) (hbig : t1.size + t2.size + t3.size ≤ 900) :
    Calls Tryd.prog 4 #[.agg #[.int .i64 k1, .int .i64 n1, .string t1], .agg #[.int .i64 k2, .int .i64 n2, .string t2], .agg #[.int .i64 k3, .int .i64 n3, .string t3]] w fun e w' => e = .returned (.bool true) ∧ Kept w w' := by
  have hW : Kept w (((w.alloc (.cells #[.int .i64 k1, .int .i64 n1, .string t1] 23)).alloc (.cells #[.int .i64 k2, .int .i64 n2, .string t2] 23)).alloc (.cells #[.int .i64 k3, .int .i64 n3, .string t3] 23)) := ((kept_alloc w #[.int .i64 k1, .int .i64 n1, .string t1] 23).trans (kept_alloc _ #[.int .i64 k2, .int .i64 n2, .string t2] 23)).trans (kept_alloc _ #[.int .i64 k3, .int .i64 n3, .string t3] 23)
  have hl0 := hl.kept hW
  have d1 : decide (900 < t1.size + t2.size + t3.size) = false := by simp; omega
  have d2 : decide ((900 : Int) < (t1.size : Int) + (t2.size : Int) + (t3.size : Int)) = false := by simp; omega
  have BOXA0 : BoxC (((w.alloc (.cells #[.int .i64 k1, .int .i64 n1, .string t1] 23)).alloc (.cells #[.int .i64 k2, .int .i64 n2, .string t2] 23)).alloc (.cells #[.int .i64 k3, .int .i64 n3, .string t3] 23)) w.heap.size (.int .i64 k1) (.int .i64 n1) (.string t1) := (BoxC.new w (.int .i64 k1) (.int .i64 n1) (.string t1) 23).kept ((kept_alloc _ _ _).trans (kept_alloc _ _ _))
  have BOXB0 : BoxC (((w.alloc (.cells #[.int .i64 k1, .int .i64 n1, .string t1] 23)).alloc (.cells #[.int .i64 k2, .int .i64 n2, .string t2] 23)).alloc (.cells #[.int .i64 k3, .int .i64 n3, .string t3] 23)) (w.heap.size + 1) (.int .i64 k2) (.int .i64 n2) (.string t2) := by
    have := (BoxC.new (w.alloc (.cells #[.int .i64 k1, .int .i64 n1, .string t1] 23)) (.int .i64 k2) (.int .i64 n2) (.string t2) 23).kept (kept_alloc _ #[.int .i64 k3, .int .i64 n3, .string t3] 23)
    rwa [show (w.alloc (.cells #[.int .i64 k1, .int .i64 n1, .string t1] 23)).heap.size = w.heap.size + 1 by simp] at this
  have BOXC0 : BoxC (((w.alloc (.cells #[.int .i64 k1, .int .i64 n1, .string t1] 23)).alloc (.cells #[.int .i64 k2, .int .i64 n2, .string t2] 23)).alloc (.cells #[.int .i64 k3, .int .i64 n3, .string t3] 23)) (w.heap.size + 2) (.int .i64 k3) (.int .i64 n3) (.string t3) := by
    have := BoxC.new ((w.alloc (.cells #[.int .i64 k1, .int .i64 n1, .string t1] 23)).alloc (.cells #[.int .i64 k2, .int .i64 n2, .string t2] 23)) (.int .i64 k3) (.int .i64 n3) (.string t3) 23
    rwa [show ((w.alloc (.cells #[.int .i64 k1, .int .i64 n1, .string t1] 23)).alloc (.cells #[.int .i64 k2, .int .i64 n2, .string t2] 23)).heap.size = w.heap.size + 2 by simp] at this
  have hK := Kept.refl (((w.alloc (.cells #[.int .i64 k1, .int .i64 n1, .string t1] 23)).alloc (.cells #[.int .i64 k2, .int .i64 n2, .string t2] 23)).alloc (.cells #[.int .i64 k3, .int .i64 n3, .string t3] 23))
  have HW := Lib.hid hW
  clear hW hl
  have bA := cmpV_bd k1 n1 t1.data.toList k2 n2 t2.data.toList
  have bB := cmpV_anti k1 n1 t1.data.toList k2 n2 t2.data.toList
  have bT := cmpV_trans k1 n1 t1.data.toList k2 n2 t2.data.toList k3 n3 t3.data.toList
  obtain ⟨z, hz⟩ : ∃ z, cmpV k2 n2 t2.data.toList k3 n3 t3.data.toList = z := ⟨_, rfl⟩
  obtain ⟨u, hu⟩ : ∃ u, cmpV k1 n1 t1.data.toList k3 n3 t3.data.toList = u := ⟨_, rfl⟩
  rw [hz, hu] at bT
  have HBC := Lib.hid hz
  have HAC := Lib.hid hu
  clear hz hu
  have E := same_or k1 n1 t1 k2 n2 t2
  have ways : ∃ x y : Int, cmpV k1 n1 t1.data.toList k2 n2 t2.data.toList = x ∧ cmpV k2 n2 t2.data.toList k1 n1 t1.data.toList = y ∧
      ((x = 0 ∧ y = 0 ∧ ((k1 == k2) = true ∧ (n1 == n2) = true ∧ (t1.toList == t2.toList) = true)) ∨ (((x = 1 ∧ y = -1) ∨ (x = -1 ∧ y = 1)) ∧ ((k1 == k2) = false ∨ ((k1 == k2) = true ∧ (n1 == n2) = false) ∨ ((k1 == k2) = true ∧ (n1 == n2) = true ∧ (t1.toList == t2.toList) = false)))) ∧
      (x ≤ 0 → z ≤ 0 → u ≤ 0) := by
    refine ⟨_, _, rfl, rfl, ?_, bT⟩
    rcases E with ⟨e0, e⟩ | ⟨e0, e⟩
    · exact .inl ⟨e0, by omega, e⟩
    · exact .inr ⟨by omega, e⟩
  clear bA bB bT E
  obtain ⟨x, y, hx, hy, hxy, bT⟩ := ways
  have HAB := Lib.hid hx
  have HBA := Lib.hid hy
  clear hx hy
  have Z : (decide (0 < z) = true) ∨ (decide (0 < z) = false ∧ (x ≤ 0 → decide (u ≤ 0) = true)) := by
    by_cases h : 0 < z
    · exact .inl (by simpa using h)
    · exact .inr ⟨by simpa using h, fun hx => by simpa using bT hx (by omega)⟩
  clear bT
  cases hr : rightB k1 n1 t1
  · have HR := Lib.hid hr
    clear hr h1 h2
    rcases hxy with ⟨rfl, rfl, e1, e2, e3⟩ | ⟨⟨rfl, rfl⟩ | ⟨rfl, rfl⟩, e1 | ⟨e1, e2⟩ | ⟨e1, e2, e3⟩⟩
    all_goals
      rcases Z with dz | ⟨dz, du0⟩
    all_goals
      (try have du := du0 (by omega)); (try clear du0)
      have a0 := (BOXA0.kept hK).c0
      have a1 := (BOXA0.kept hK).c1
      have a2 := (BOXA0.kept hK).c2
      have b0 := (BOXB0.kept hK).c0
      have b1 := (BOXB0.kept hK).c1
      have b2 := (BOXB0.kept hK).c2
      have c0 := (BOXC0.kept hK).c0
      have c1 := (BOXC0.kept hK).c1
      have c2 := (BOXC0.kept hK).c2
      go_enter Tryd.func4, Tryd.ntmps4
      go_wp2_with (first
      | (go_at_call 8; ((with_reducible refine (vright_c k1 n1 t1 false HR.out _ (by omega)).mono ?_); rintro e wk ⟨rfl, hg⟩; (first | (replace hK := hK.trans (kept_of hg)) | (replace hK := (hK.trans (kept_alloc _ _ _)).trans (kept_of hg))); clear hg a0 a1 a2 b0 b1 b2 c0 c1 c2; (try clear qa0 qa1 qa2 qb0 qb1 qb2 qc0 qc1 qc2); have a0 := (BOXA0.kept hK).c0; have a1 := (BOXA0.kept hK).c1; have a2 := (BOXA0.kept hK).c2; have b0 := (BOXB0.kept hK).c0; have b1 := (BOXB0.kept hK).c1; have b2 := (BOXB0.kept hK).c2; have c0 := (BOXC0.kept hK).c0; have c1 := (BOXC0.kept hK).c1; have c2 := (BOXC0.kept hK).c2))
      | (go_at_call 10; ((with_reducible refine (vcmp_c k1 n1 t1 k2 n2 t2 _ HAB.out _).mono ?_); rintro e wk ⟨rfl, hg⟩; (first | (replace hK := hK.trans (kept_of hg)) | (replace hK := (hK.trans (kept_alloc _ _ _)).trans (kept_of hg))); clear hg a0 a1 a2 b0 b1 b2 c0 c1 c2; (try clear qa0 qa1 qa2 qb0 qb1 qb2 qc0 qc1 qc2); have a0 := (BOXA0.kept hK).c0; have a1 := (BOXA0.kept hK).c1; have a2 := (BOXA0.kept hK).c2; have b0 := (BOXB0.kept hK).c0; have b1 := (BOXB0.kept hK).c1; have b2 := (BOXB0.kept hK).c2; have c0 := (BOXC0.kept hK).c0; have c1 := (BOXC0.kept hK).c1; have c2 := (BOXC0.kept hK).c2))
      | (go_at_call 10; ((with_reducible refine (vcmp_c k2 n2 t2 k1 n1 t1 _ HBA.out _).mono ?_); rintro e wk ⟨rfl, hg⟩; (first | (replace hK := hK.trans (kept_of hg)) | (replace hK := (hK.trans (kept_alloc _ _ _)).trans (kept_of hg))); clear hg a0 a1 a2 b0 b1 b2 c0 c1 c2; (try clear qa0 qa1 qa2 qb0 qb1 qb2 qc0 qc1 qc2); have a0 := (BOXA0.kept hK).c0; have a1 := (BOXA0.kept hK).c1; have a2 := (BOXA0.kept hK).c2; have b0 := (BOXB0.kept hK).c0; have b1 := (BOXB0.kept hK).c1; have b2 := (BOXB0.kept hK).c2; have c0 := (BOXC0.kept hK).c0; have c1 := (BOXC0.kept hK).c1; have c2 := (BOXC0.kept hK).c2))
      | (go_at_call 10; ((with_reducible refine (vcmp_c k2 n2 t2 k3 n3 t3 _ HBC.out _).mono ?_); rintro e wk ⟨rfl, hg⟩; (first | (replace hK := hK.trans (kept_of hg)) | (replace hK := (hK.trans (kept_alloc _ _ _)).trans (kept_of hg))); clear hg a0 a1 a2 b0 b1 b2 c0 c1 c2; (try clear qa0 qa1 qa2 qb0 qb1 qb2 qc0 qc1 qc2); have a0 := (BOXA0.kept hK).c0; have a1 := (BOXA0.kept hK).c1; have a2 := (BOXA0.kept hK).c2; have b0 := (BOXB0.kept hK).c0; have b1 := (BOXB0.kept hK).c1; have b2 := (BOXB0.kept hK).c2; have c0 := (BOXC0.kept hK).c0; have c1 := (BOXC0.kept hK).c1; have c2 := (BOXC0.kept hK).c2))
      | (go_at_call 10; ((with_reducible refine (vcmp_c k1 n1 t1 k3 n3 t3 _ HAC.out _).mono ?_); rintro e wk ⟨rfl, hg⟩; (first | (replace hK := hK.trans (kept_of hg)) | (replace hK := (hK.trans (kept_alloc _ _ _)).trans (kept_of hg))); clear hg a0 a1 a2 b0 b1 b2 c0 c1 c2; (try clear qa0 qa1 qa2 qb0 qb1 qb2 qc0 qc1 qc2); have a0 := (BOXA0.kept hK).c0; have a1 := (BOXA0.kept hK).c1; have a2 := (BOXA0.kept hK).c2; have b0 := (BOXB0.kept hK).c0; have b1 := (BOXB0.kept hK).c1; have b2 := (BOXB0.kept hK).c2; have c0 := (BOXC0.kept hK).c0; have c1 := (BOXC0.kept hK).c1; have c2 := (BOXC0.kept hK).c2))
      | (go_at_call 5; ((with_reducible refine (vawake_any _ (hl0.kept hK)).mono ?_); rintro e wk ⟨rfl, hg⟩; (first | (replace hK := hK.trans (hg)) | (replace hK := (hK.trans (kept_alloc _ _ _)).trans (hg))); clear hg a0 a1 a2 b0 b1 b2 c0 c1 c2; (try clear qa0 qa1 qa2 qb0 qb1 qb2 qc0 qc1 qc2); have a0 := (BOXA0.kept hK).c0; have a1 := (BOXA0.kept hK).c1; have a2 := (BOXA0.kept hK).c2; have b0 := (BOXB0.kept hK).c0; have b1 := (BOXB0.kept hK).c1; have b2 := (BOXB0.kept hK).c2; have c0 := (BOXC0.kept hK).c0; have c1 := (BOXC0.kept hK).c1; have c2 := (BOXC0.kept hK).c2))
      | fail)
      go_ret
      exact ⟨rfl, HW.out.trans hK⟩
  · have HR := Lib.hid hr
    have HT := Lib.hid (tv_put k1 n1 t1 ⟨#[120, 121, 122]⟩ h1 h2 hr)
    have hps := putV_size ⟨#[]⟩ k1 n1 t1
    have hps2 : (putV ⟨#[]⟩ k1 n1 t1).size ≤ 920 := by have : (⟨#[]⟩ : ByteArray).size = 0 := rfl; omega
    have HX := Lib.hid (show (putV ⟨#[]⟩ k1 n1 t1 ++ ⟨#[120, 121, 122]⟩).size ≤ 923 by rw [ByteArray.size_append, show (⟨#[120, 121, 122]⟩ : ByteArray).size = 3 from rfl]; omega)
    clear hr hps
    rcases hxy with ⟨rfl, rfl, e1, e2, e3⟩ | ⟨⟨rfl, rfl⟩ | ⟨rfl, rfl⟩, e1 | ⟨e1, e2⟩ | ⟨e1, e2, e3⟩⟩
    all_goals
      rcases Z with dz | ⟨dz, du0⟩
    all_goals
      (try have du := du0 (by omega)); (try clear du0)
      have a0 := (BOXA0.kept hK).c0
      have a1 := (BOXA0.kept hK).c1
      have a2 := (BOXA0.kept hK).c2
      have b0 := (BOXB0.kept hK).c0
      have b1 := (BOXB0.kept hK).c1
      have b2 := (BOXB0.kept hK).c2
      have c0 := (BOXC0.kept hK).c0
      have c1 := (BOXC0.kept hK).c1
      have c2 := (BOXC0.kept hK).c2
      go_enter Tryd.func4, Tryd.ntmps4
      go_wp2_with (first
      | (go_at_call 8; ((with_reducible refine (vright_c k1 n1 t1 true HR.out _ (by omega)).mono ?_); rintro e wk ⟨rfl, hg⟩; (first | (replace hK := hK.trans (kept_of hg)) | (replace hK := (hK.trans (kept_alloc _ _ _)).trans (kept_of hg))); clear hg a0 a1 a2 b0 b1 b2 c0 c1 c2; (try clear qa0 qa1 qa2 qb0 qb1 qb2 qc0 qc1 qc2); have a0 := (BOXA0.kept hK).c0; have a1 := (BOXA0.kept hK).c1; have a2 := (BOXA0.kept hK).c2; have b0 := (BOXB0.kept hK).c0; have b1 := (BOXB0.kept hK).c1; have b2 := (BOXB0.kept hK).c2; have c0 := (BOXC0.kept hK).c0; have c1 := (BOXC0.kept hK).c1; have c2 := (BOXC0.kept hK).c2))
      | (go_at_call 12; ((with_reducible refine (vput_any ⟨#[]⟩ k1 n1 t1 _ h1 h2 (by decide) (by omega)).mono ?_); rintro e wk ⟨rfl, hg⟩; (first | (replace hK := hK.trans (kept_of hg)) | (replace hK := (hK.trans (kept_alloc _ _ _)).trans (kept_of hg))); clear hg a0 a1 a2 b0 b1 b2 c0 c1 c2; (try clear qa0 qa1 qa2 qb0 qb1 qb2 qc0 qc1 qc2); have a0 := (BOXA0.kept hK).c0; have a1 := (BOXA0.kept hK).c1; have a2 := (BOXA0.kept hK).c2; have b0 := (BOXB0.kept hK).c0; have b1 := (BOXB0.kept hK).c1; have b2 := (BOXB0.kept hK).c2; have c0 := (BOXC0.kept hK).c0; have c1 := (BOXC0.kept hK).c1; have c2 := (BOXC0.kept hK).c2))
      | (go_at_call 6; ((with_reducible refine (vtake_c (putV ⟨#[]⟩ k1 n1 t1 ++ ⟨#[120, 121, 122]⟩) k1 n1 t1 ⟨#[120, 121, 122]⟩ 0 (congrArg (·.1) HT.out) (congrArg (·.2.1) HT.out) (congrArg (·.2.2.1) HT.out) (congrArg (·.2.2.2.1) HT.out) (congrArg (fun p => ((p.2.2.2.2 : Nat) : Int)) HT.out) (Nat.le_trans HX.out (by decide)) _).mono ?_); rintro e wk ⟨rfl, hg⟩; (first | (replace hK := hK.trans (kept_of hg)) | (replace hK := (hK.trans (kept_alloc _ _ _)).trans (kept_of hg))); clear hg a0 a1 a2 b0 b1 b2 c0 c1 c2; (try clear qa0 qa1 qa2 qb0 qb1 qb2 qc0 qc1 qc2); have a0 := (BOXA0.kept hK).c0; have a1 := (BOXA0.kept hK).c1; have a2 := (BOXA0.kept hK).c2; have b0 := (BOXB0.kept hK).c0; have b1 := (BOXB0.kept hK).c1; have b2 := (BOXB0.kept hK).c2; have c0 := (BOXC0.kept hK).c0; have c1 := (BOXC0.kept hK).c1; have c2 := (BOXC0.kept hK).c2; have qa0 := (fun (c : Array Value) (t : TypeId) => (BOXA0.kept (hK.trans (kept_alloc _ c t))).c0); have qa1 := (fun (c : Array Value) (t : TypeId) => (BOXA0.kept (hK.trans (kept_alloc _ c t))).c1); have qa2 := (fun (c : Array Value) (t : TypeId) => (BOXA0.kept (hK.trans (kept_alloc _ c t))).c2); have qb0 := (fun (c : Array Value) (t : TypeId) => (BOXB0.kept (hK.trans (kept_alloc _ c t))).c0); have qb1 := (fun (c : Array Value) (t : TypeId) => (BOXB0.kept (hK.trans (kept_alloc _ c t))).c1); have qb2 := (fun (c : Array Value) (t : TypeId) => (BOXB0.kept (hK.trans (kept_alloc _ c t))).c2); have qc0 := (fun (c : Array Value) (t : TypeId) => (BOXC0.kept (hK.trans (kept_alloc _ c t))).c0); have qc1 := (fun (c : Array Value) (t : TypeId) => (BOXC0.kept (hK.trans (kept_alloc _ c t))).c1); have qc2 := (fun (c : Array Value) (t : TypeId) => (BOXC0.kept (hK.trans (kept_alloc _ c t))).c2)))
      | (go_at_call 10; ((with_reducible refine (vcmp_c k1 n1 t1 k2 n2 t2 _ HAB.out _).mono ?_); rintro e wk ⟨rfl, hg⟩; (first | (replace hK := hK.trans (kept_of hg)) | (replace hK := (hK.trans (kept_alloc _ _ _)).trans (kept_of hg))); clear hg a0 a1 a2 b0 b1 b2 c0 c1 c2; (try clear qa0 qa1 qa2 qb0 qb1 qb2 qc0 qc1 qc2); have a0 := (BOXA0.kept hK).c0; have a1 := (BOXA0.kept hK).c1; have a2 := (BOXA0.kept hK).c2; have b0 := (BOXB0.kept hK).c0; have b1 := (BOXB0.kept hK).c1; have b2 := (BOXB0.kept hK).c2; have c0 := (BOXC0.kept hK).c0; have c1 := (BOXC0.kept hK).c1; have c2 := (BOXC0.kept hK).c2))
      | (go_at_call 10; ((with_reducible refine (vcmp_c k2 n2 t2 k1 n1 t1 _ HBA.out _).mono ?_); rintro e wk ⟨rfl, hg⟩; (first | (replace hK := hK.trans (kept_of hg)) | (replace hK := (hK.trans (kept_alloc _ _ _)).trans (kept_of hg))); clear hg a0 a1 a2 b0 b1 b2 c0 c1 c2; (try clear qa0 qa1 qa2 qb0 qb1 qb2 qc0 qc1 qc2); have a0 := (BOXA0.kept hK).c0; have a1 := (BOXA0.kept hK).c1; have a2 := (BOXA0.kept hK).c2; have b0 := (BOXB0.kept hK).c0; have b1 := (BOXB0.kept hK).c1; have b2 := (BOXB0.kept hK).c2; have c0 := (BOXC0.kept hK).c0; have c1 := (BOXC0.kept hK).c1; have c2 := (BOXC0.kept hK).c2))
      | (go_at_call 10; ((with_reducible refine (vcmp_c k2 n2 t2 k3 n3 t3 _ HBC.out _).mono ?_); rintro e wk ⟨rfl, hg⟩; (first | (replace hK := hK.trans (kept_of hg)) | (replace hK := (hK.trans (kept_alloc _ _ _)).trans (kept_of hg))); clear hg a0 a1 a2 b0 b1 b2 c0 c1 c2; (try clear qa0 qa1 qa2 qb0 qb1 qb2 qc0 qc1 qc2); have a0 := (BOXA0.kept hK).c0; have a1 := (BOXA0.kept hK).c1; have a2 := (BOXA0.kept hK).c2; have b0 := (BOXB0.kept hK).c0; have b1 := (BOXB0.kept hK).c1; have b2 := (BOXB0.kept hK).c2; have c0 := (BOXC0.kept hK).c0; have c1 := (BOXC0.kept hK).c1; have c2 := (BOXC0.kept hK).c2))
      | (go_at_call 10; ((with_reducible refine (vcmp_c k1 n1 t1 k3 n3 t3 _ HAC.out _).mono ?_); rintro e wk ⟨rfl, hg⟩; (first | (replace hK := hK.trans (kept_of hg)) | (replace hK := (hK.trans (kept_alloc _ _ _)).trans (kept_of hg))); clear hg a0 a1 a2 b0 b1 b2 c0 c1 c2; (try clear qa0 qa1 qa2 qb0 qb1 qb2 qc0 qc1 qc2); have a0 := (BOXA0.kept hK).c0; have a1 := (BOXA0.kept hK).c1; have a2 := (BOXA0.kept hK).c2; have b0 := (BOXB0.kept hK).c0; have b1 := (BOXB0.kept hK).c1; have b2 := (BOXB0.kept hK).c2; have c0 := (BOXC0.kept hK).c0; have c1 := (BOXC0.kept hK).c1; have c2 := (BOXC0.kept hK).c2))
      | (go_at_call 5; ((with_reducible refine (vawake_any _ (hl0.kept hK)).mono ?_); rintro e wk ⟨rfl, hg⟩; (first | (replace hK := hK.trans (hg)) | (replace hK := (hK.trans (kept_alloc _ _ _)).trans (hg))); clear hg a0 a1 a2 b0 b1 b2 c0 c1 c2; (try clear qa0 qa1 qa2 qb0 qb1 qb2 qc0 qc1 qc2); have a0 := (BOXA0.kept hK).c0; have a1 := (BOXA0.kept hK).c1; have a2 := (BOXA0.kept hK).c2; have b0 := (BOXB0.kept hK).c0; have b1 := (BOXB0.kept hK).c1; have b2 := (BOXB0.kept hK).c2; have c0 := (BOXC0.kept hK).c0; have c1 := (BOXC0.kept hK).c1; have c2 := (BOXC0.kept hK).c2))
      | fail)
      go_ret
      exact ⟨rfl, HW.out.trans hK⟩
end
end Go.Proofs.YtooaiicbnfmnpaaDoor
