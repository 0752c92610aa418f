/-
  What is proved: the Go function DotOrder of layer 5's laws, called with any three dots where the laid tables read as their initialisers lay them, returns true; the world has new blocks at most.
-/
import Derived.Test.YtnfchfldpdnjoaaDoorDAwake
namespace Go.Proofs.YtnfchfldpdnjoaaDoor
open Go.RowKit

theorem order_ways (x1 x2 y1 y2 z1 z2 : Int) : ∃ p q r s : Int, cmpD (x1, x2) (y1, y2) = p ∧ cmpD (y1, y2) (x1, x2) = q ∧ cmpD (y1, y2) (z1, z2) = r ∧ cmpD (x1, x2) (z1, z2) = s ∧
    ((p = 0 ∧ q = 0 ∧ ((x1 == y1) = true ∧ (x2 == y2) = true) ∧ (decide (0 < r) = true ∨ (decide (0 < r) = false ∧ decide (s ≤ 0) = true)) ∧ decide (y1 ≤ x1) = true) ∨
     (p = 1 ∧ q = -1 ∧ ((x1 == y1) = false ∨ ((x1 == y1) = true ∧ (x2 == y2) = false)) ∧ decide (y1 ≤ x1) = true) ∨
     (p = -1 ∧ q = 1 ∧ ((x1 == y1) = false ∨ ((x1 == y1) = true ∧ (x2 == y2) = false)) ∧ (decide (0 < r) = true ∨ (decide (0 < r) = false ∧ decide (s ≤ 0) = true)) ∧ (decide (y1 ≤ x1) = true ∨ decide (y1 ≤ x1) = false))) := by
  refine ⟨_, _, _, _, rfl, rfl, rfl, rfl, ?_⟩
  have ht : cmpD (x1, x2) (y1, y2) ≤ 0 → cmpD (y1, y2) (z1, z2) ≤ 0 → cmpD (x1, x2) (z1, z2) ≤ 0 := fun h1 h2 => by
    have g1 := mt (cmpD_gt (x1, x2) (y1, y2)).2 (by omega)
    have g2 := mt (cmpD_gt (y1, y2) (z1, z2)).2 (by omega)
    have g3 := mt (cmpD_gt (x1, x2) (z1, z2)).1
    have g4 : ¬ LtD (z1, z2) (x1, x2) := by unfold LtD at *; simp only at *; omega
    have := g3 g4
    omega
  have hr : cmpD (x1, x2) (y1, y2) ≤ 0 → (decide (0 < cmpD (y1, y2) (z1, z2)) = true ∨ (decide (0 < cmpD (y1, y2) (z1, z2)) = false ∧ decide (cmpD (x1, x2) (z1, z2) ≤ 0) = true)) := fun h => by
    by_cases h2 : 0 < cmpD (y1, y2) (z1, z2)
    · exact .inl (decide_eq_true h2)
    · exact .inr ⟨decide_eq_false h2, decide_eq_true (ht h (by omega))⟩
  have hq := cmpD_anti (x1, x2) (y1, y2)
  rcases LtD.tri (x1, x2) (y1, y2) with h | h | h
  · have hp : cmpD (x1, x2) (y1, y2) = -1 := by have := (cmpD_lt _ _).2 h; have := cmpD_bd (x1, x2) (y1, y2); omega
    refine .inr (.inr ⟨hp, by omega, ?_, hr (by omega), ?_⟩)
    · unfold LtD at h; simp only at h
      by_cases e : x1 = y1
      · exact .inr ⟨by simpa using e, by simp; omega⟩
      · exact .inl (by simpa using e)
    · cases decide (y1 ≤ x1) <;> simp
  · simp only [Prod.mk.injEq] at h
    obtain ⟨rfl, rfl⟩ := h
    have hp : cmpD (x1, x2) (x1, x2) = 0 := (cmpD_eq _ _).2 rfl
    exact .inl ⟨hp, hp, ⟨by simp, by simp⟩, hr (by omega), by simp⟩
  · have hp : cmpD (x1, x2) (y1, y2) = 1 := by have := (cmpD_gt _ _).2 h; have := cmpD_bd (x1, x2) (y1, y2); omega
    unfold LtD at h; simp only at h
    refine .inr (.inl ⟨hp, by omega, ?_, by simp; omega⟩)
    by_cases e : x1 = y1
    · exact .inr ⟨by simpa using e, by simp; omega⟩
    · exact .inl (by simpa using e)

set_option maxRecDepth 100000 in
set_option maxHeartbeats 8000000 in
theorem dorder_any (x1 x2 y1 y2 z1 z2 : Int) (w : World) (hl : LaidW w) :
    Calls Tryd.prog 5 #[.agg #[.int .i64 x1, .int .i64 x2], .agg #[.int .i64 y1, .int .i64 y2], .agg #[.int .i64 z1, .int .i64 z2]] w fun e w' => e = .returned (.bool true) ∧ Kept w w' := by
  have hK := (((Kept.refl w).alloc #[.int .i64 x1, .int .i64 x2] 24).alloc #[.int .i64 y1, .int .i64 y2] 24).alloc #[.int .i64 z1, .int .i64 z2] 24
  have A0 := (Box2.new w (.int .i64 x1) (.int .i64 x2) 24).kept (((Kept.refl _).alloc #[.int .i64 y1, .int .i64 y2] 24).alloc #[.int .i64 z1, .int .i64 z2] 24)
  have B0 := (Box2.new (w.alloc (.cells #[.int .i64 x1, .int .i64 x2] 24)) (.int .i64 y1) (.int .i64 y2) 24).kept ((Kept.refl _).alloc #[.int .i64 z1, .int .i64 z2] 24)
  have C0 := Box2.new ((w.alloc (.cells #[.int .i64 x1, .int .i64 x2] 24)).alloc (.cells #[.int .i64 y1, .int .i64 y2] 24)) (.int .i64 z1) (.int .i64 z2) 24
  rw [show (w.alloc (.cells #[.int .i64 x1, .int .i64 x2] 24)).heap.size = w.heap.size + 1 by simp] at B0
  rw [show ((w.alloc (.cells #[.int .i64 x1, .int .i64 x2] 24)).alloc (.cells #[.int .i64 y1, .int .i64 y2] 24)).heap.size = w.heap.size + 2 by simp] at C0
  have a0 := A0.c0; have a1 := A0.c1; have b0 := B0.c0; have b1 := B0.c1; have c0 := C0.c0; have c1 := C0.c1
  obtain ⟨p, q, r, s, hp, hq, hr, hs, hw⟩ := order_ways x1 x2 y1 y2 z1 z2
  have HP := Lib.hid (fun w => dcmp_c (x1, x2) (y1, y2) p hp w)
  have HQ := Lib.hid (fun w => dcmp_c (y1, y2) (x1, x2) q hq w)
  have HR := Lib.hid (fun w => dcmp_c (y1, y2) (z1, z2) r hr w)
  have HS := Lib.hid (fun w => dcmp_c (x1, x2) (z1, z2) s hs w)
  clear hp hq hr hs
  have HL := Lib.hid hl
  clear hl
  rcases hw with ⟨rfl, rfl, ⟨e1, e2⟩, f1 | ⟨f1, f2⟩, g⟩ | ⟨rfl, rfl, e1 | ⟨e1, e2⟩, g⟩ | ⟨rfl, rfl, e1 | ⟨e1, e2⟩, f1 | ⟨f1, f2⟩, g | g⟩
  all_goals
    go_enter Tryd.func5, Tryd.ntmps5
    go_wp2_with (first
    | (go_at_call 9; ((with_reducible refine (HP.out _).mono ?_); rintro e wk ⟨rfl, hk⟩; (replace A0 := A0.kept hk); (replace B0 := B0.kept hk); (replace C0 := C0.kept hk); (replace hK := hK.trans hk); clear a0 a1 b0 b1 c0 c1 hk; have a0 := A0.c0; have a1 := A0.c1; have b0 := B0.c0; have b1 := B0.c1; have c0 := C0.c0; have c1 := C0.c1))
    | (go_at_call 9; ((with_reducible refine (HQ.out _).mono ?_); rintro e wk ⟨rfl, hk⟩; (replace A0 := A0.kept hk); (replace B0 := B0.kept hk); (replace C0 := C0.kept hk); (replace hK := hK.trans hk); clear a0 a1 b0 b1 c0 c1 hk; have a0 := A0.c0; have a1 := A0.c1; have b0 := B0.c0; have b1 := B0.c1; have c0 := C0.c0; have c1 := C0.c1))
    | (go_at_call 9; ((with_reducible refine (HR.out _).mono ?_); rintro e wk ⟨rfl, hk⟩; (replace A0 := A0.kept hk); (replace B0 := B0.kept hk); (replace C0 := C0.kept hk); (replace hK := hK.trans hk); clear a0 a1 b0 b1 c0 c1 hk; have a0 := A0.c0; have a1 := A0.c1; have b0 := B0.c0; have b1 := B0.c1; have c0 := C0.c0; have c1 := C0.c1))
    | (go_at_call 9; ((with_reducible refine (HS.out _).mono ?_); rintro e wk ⟨rfl, hk⟩; (replace A0 := A0.kept hk); (replace B0 := B0.kept hk); (replace C0 := C0.kept hk); (replace hK := hK.trans hk); clear a0 a1 b0 b1 c0 c1 hk; have a0 := A0.c0; have a1 := A0.c1; have b0 := B0.c0; have b1 := B0.c1; have c0 := C0.c0; have c1 := C0.c1))
    | (go_at_call 6; ((with_reducible refine (dawake_any _ (HL.out.kept hK)).mono ?_); rintro e wk ⟨rfl, hk⟩; (replace hK := hK.trans hk))))
    go_ret
    exact ⟨rfl, hK⟩
end Go.Proofs.YtnfchfldpdnjoaaDoor
