/-
  What is proved: val.Cmp, called with any two values, returns their order (P3.2); the world has new blocks at most.
-/
import Derived.Test.YtooaiicbnfmnpaaDoorCmp
import Derived.StillTailTactics
namespace Go.Proofs.YtooaiicbnfmnpaaDoor
open Go.RowKit

theorem cmpInt_st (a b : Int) (w : World) : Calls Tryd.prog 25 #[.int .i64 a, .int .i64 b] w fun e w' => e = .returned (.int .i64 (cmpI a b)) ∧ w' = w :=
  (cmpInt_any a b w).mono fun _ _ ⟨he, hw⟩ => ⟨he, hw.symm⟩
theorem cmpStr_st (a b : ByteArray) (w : World) : Calls Tryd.prog 26 #[.string a, .string b] w fun e w' => e = .returned (.int .i64 (cmpL a.data.toList b.data.toList)) ∧ w' = w :=
  (cmpStr_any a b w).mono fun _ _ ⟨he, hw⟩ => ⟨he, hw.symm⟩

/-- A region whose first n operations only read, in whatever order, and whose others have one order: the world behind the draw under a name of its own. -/
theorem region_tail {P : Program} {id : Nat} {Q : Exit → Act → World → Prop} {a : Act} {w : World} {l : List Oper} (n : Nat) (hm : P.follows .mixedOrders = true) (hB : Region.lexTailB .any l.toArray n = true)
    (h : ∀ wd : World, wd = w.drew → wpStill P l.toArray wd (fun a' => wpList P l.toArray Q (l.drop n) a' wd) (l.take n) a) : (Code.region id l.toArray true).wp P Q a w :=
  wp_region_still_tail n hm hB (h _ rfl)

set_option maxRecDepth 100000 in
set_option maxHeartbeats 1000000 in
theorem vcmp_any (k1 n1 : Int) (t1 : ByteArray) (k2 n2 : Int) (t2 : ByteArray) (w : World) :
    Calls Tryd.prog 10 #[.agg #[.int .i64 k1, .int .i64 n1, .string t1], .agg #[.int .i64 k2, .int .i64 n2, .string t2]] w
      fun e w' => e = .returned (.int .i64 (cmpV k1 n1 t1.data.toList k2 n2 t2.data.toList)) ∧ Grown w w' := by
  go_enter Tryd.func10, Tryd.ntmps10
  go_wp2_with fail
  refine region_tail 15 (by kernel_rfl) (by kernel_rfl) ?_
  intro wd hwd
  have a0 : wd.cell? ⟨w.heap.size, 0, none⟩ = some (.int .i64 k1) := by rw [hwd]; simp [go_sem]
  have a1 : wd.cell? ⟨w.heap.size, 1, none⟩ = some (.int .i64 n1) := by rw [hwd]; simp [go_sem]
  have a2 : wd.cell? ⟨w.heap.size, 2, none⟩ = some (.string t1) := by rw [hwd]; simp [go_sem]
  have b0 : wd.cell? ⟨w.heap.size + 1, 0, none⟩ = some (.int .i64 k2) := by rw [hwd]; simp [go_sem]
  have b1 : wd.cell? ⟨w.heap.size + 1, 1, none⟩ = some (.int .i64 n2) := by rw [hwd]; simp [go_sem]
  have b2 : wd.cell? ⟨w.heap.size + 1, 2, none⟩ = some (.string t2) := by rw [hwd]; simp [go_sem]
  have hg : Grown w wd := by rw [hwd]; exact (((Grown.refl _).alloc _ _).alloc _ _).drew
  clear hwd
  simp only [List.take_succ_cons, List.take_zero, List.drop_succ_cons, List.drop_zero]
  repeat (first | still_step | (still_call (cmpInt_st _ _ _)) | (still_call (cmpStr_st _ _ _)))
  refine wpStill_nil ?_
  go_wp2_with (go_at_call 24; refine (or_any _ (cmpI k1 k2) (cmpI n1 n2) (cmpL t1.data.toList t2.data.toList) _ (by simp [go_sem]) (by simp [go_sem]) (by simp [go_sem])).mono ?_; rintro e w' ⟨rfl, rfl⟩)
  go_ret
  exact ⟨ret_int (cmpV_or _ _ _ _ _ _), hg.alloc _ _⟩
end Go.Proofs.YtooaiicbnfmnpaaDoor
