/-
  What is proved: the document's at, Has, Same and Most of layer 6, called with any sets that lie in memory, return what P6.2, P6.8 and P6.10 say; the world has new blocks at most.
-/
import Derived.Test.YtgofecnpmohmgaaCMem
import Derived.Test.YtgofecnpmohmgaaDHas
namespace Go.Proofs.Ytgofecnpmohmgaa
open Go.RowKit

set_option maxRecDepth 100000 in
theorem at_any (A : Option Addr) (n c : Nat) (V : List Int) (B : Option Addr) (m k : Nat) (r : Int) (w : World) (h : Il w A n c V) :
    Calls Try.prog 41 #[.agg #[.slice A n c, .slice B m k], .int .i64 r] w fun e w' => e = .returned (.int .i64 (atV V r)) ∧ Kept w w' := by
  have hcap := h.cap.1
  have hcap2 := h.cap.2
  rcases Int.lt_or_le r 0 with h0 | h0
  · have HR := Lib.hid (show 0 = atV V r from (atV_neg V h0).symm)
    clear h
    have d1 : decide (r < 0) = true := by simpa using h0
    go_enter Try.func41, Try.ntmps41
    go_wp2
    go_ret
    exact ⟨ret_int HR.out, (Kept.refl _).alloc _ _⟩
  · obtain ⟨j, rfl⟩ : ∃ j : Nat, r = j := ⟨r.toNat, by omega⟩
    have d1 : decide ((j : Int) < 0) = false := by rw [decide_eq_false_iff_not]; omega
    by_cases hj : j < n
    · obtain ⟨b, o, x, rfl, hx, g⟩ := (h.kept ((Kept.refl w).alloc #[.slice A n c, .slice B m k] 25)).get hj
      have HR := Lib.hid (show x = atV V j from (atV_in hx).symm)
      have d2 : decide ((n : Int) ≤ (j : Int)) = false := by rw [decide_eq_false_iff_not]; omega
      have d3 : decide (n ≤ j) = false := by rw [decide_eq_false_iff_not]; omega
      clear h hx h0
      go_enter Try.func41, Try.ntmps41
      go_wp2
      go_ret
      exact ⟨ret_int HR.out, (Kept.refl _).alloc _ _⟩
    · have HR := Lib.hid (show 0 = atV V j from (atV_out V (by have := h.1; omega)).symm)
      have d2 : decide ((n : Int) ≤ (j : Int)) = true := by rw [decide_eq_true_iff]; omega
      have d3 : decide (n ≤ j) = true := by rw [decide_eq_true_iff]; omega
      clear h h0
      go_enter Try.func41, Try.ntmps41
      go_wp2
      go_ret
      exact ⟨ret_int HR.out, (Kept.refl _).alloc _ _⟩
theorem at_c (A : Option Addr) (n c : Nat) (V : List Int) (B : Option Addr) (m k : Nat) (r x : Int) (hx : atV V r = x) (w : World) (h : Il w A n c V) :
    Calls Try.prog 41 #[.agg #[.slice A n c, .slice B m k], .int .i64 r] w fun e w' => e = .returned (.int .i64 x) ∧ Kept w w' := by
  subst hx; exact at_any A n c V B m k r w h

def hasB (V : List Int) (C : List (Int × Int)) (d : Int × Int) : Bool := decide (hasC V C d)
set_option maxRecDepth 100000 in
set_option maxHeartbeats 1000000 in
theorem rhasC_any (A : Option Addr) (n c : Nat) (V : List Int) (B : Option Addr) (m k : Nat) (C : List (Int × Int)) (x1 x2 : Int) (w : World) (h : Il w A n c V) (hd : Dl w B m k C) (r : Bool) (hr : decide (hasC V C (x1, x2)) = r) :
    Calls Try.prog 17 #[.agg #[.slice A n c, .slice B m k], .agg #[.int .i64 x1, .int .i64 x2]] w fun e w' => e = .returned (.bool r) ∧ Kept w w' := by
  have hK := ((Kept.refl w).alloc #[.slice A n c, .slice B m k] 25).alloc #[.int .i64 x1, .int .i64 x2] 36
  have c0 := KExt.cell (((Kept.refl (w.alloc (.cells #[.slice A n c, .slice B m k] 25))).alloc #[.int .i64 x1, .int .i64 x2] 36).box0)
  have c1 := KExt.cell (((Kept.refl (w.alloc (.cells #[.slice A n c, .slice B m k] 25))).alloc #[.int .i64 x1, .int .i64 x2] 36).box1)
  have c2 := KExt.cell (Kept.box0 (Kept.refl ((w.alloc (.cells #[.slice A n c, .slice B m k] 25)).alloc (.cells #[.int .i64 x1, .int .i64 x2] 36))))
  have c3 := KExt.cell (Kept.box1 (Kept.refl ((w.alloc (.cells #[.slice A n c, .slice B m k] 25)).alloc (.cells #[.int .i64 x1, .int .i64 x2] 36))))
  rw [show (w.alloc (.cells #[.slice A n c, .slice B m k] 25)).heap.size = w.heap.size + 1 by simp] at c2 c3
  obtain ⟨t, ht⟩ : ∃ t, atV V x1 = t := ⟨_, rfl⟩
  obtain ⟨z, hz⟩ : ∃ z, decide ((x1, x2) ∈ C) = z := ⟨_, rfl⟩
  have AA := Lib.hid (fun w h => at_c A n c V B m k x1 t ht w h)
  have AH := Lib.hid (fun w h => rhas_c B m k C (x1, x2) z hz w h)
  have HI := Lib.hid (h.kept hK)
  have HD := Lib.hid (hd.kept hK)
  have HK := Lib.hid hK
  have hrr : r = ((decide (1 ≤ x2) && decide (x2 ≤ t)) || z) := by
    rw [← hr, ← ht, ← hz, Bool.eq_iff_iff, decide_eq_true_iff]
    unfold hasC
    simp only [Bool.or_eq_true, Bool.and_eq_true, decide_eq_true_iff]
  clear h hd hK ht hz hr
  by_cases h1 : 1 ≤ x2
  · have d1 : decide (1 ≤ x2) = true := by simpa using h1
    by_cases h2 : x2 ≤ t
    · have d2 : decide (x2 ≤ t) = true := by simpa using h2
      have HR := Lib.hid (show true = r by rw [hrr, d1, d2]; rfl)
      clear hrr h1 h2
      go_enter Try.func17, Try.ntmps17
      go_wp2_with fail
      refine region_kept _ (by kernel_rfl) (by kernel_rfl) (Kept.refl _) ?_
      repeat (go_big_quiet_step ((first
        | (go_at_call 41; (with_reducible exact KExt.callsK (AA.out _ (HI.out.kept (KExt.g _)))))
        | (go_at_call 49; (with_reducible exact KExt.callsK (AH.out _ (HD.out.kept (KExt.g _)))))
        | fail)))
      refine wpQuiet_nil ?_
      intro G
      go_wp2_with fail
      go_ret
      exact ⟨ret_bool HR.out, HK.out.trans G.g⟩
    · have d2 : decide (x2 ≤ t) = false := by simpa using h2
      have HR := Lib.hid (show z = r by rw [hrr, d1, d2]; rfl)
      clear hrr h1 h2
      go_enter Try.func17, Try.ntmps17
      go_wp2_with fail
      refine region_kept _ (by kernel_rfl) (by kernel_rfl) (Kept.refl _) ?_
      repeat (go_big_quiet_step ((first
        | (go_at_call 41; (with_reducible exact KExt.callsK (AA.out _ (HI.out.kept (KExt.g _)))))
        | (go_at_call 49; (with_reducible exact KExt.callsK (AH.out _ (HD.out.kept (KExt.g _)))))
        | fail)))
      refine wpQuiet_nil ?_
      intro G
      go_wp2_with fail
      go_ret
      exact ⟨ret_bool HR.out, HK.out.trans G.g⟩
  · have d1 : decide (1 ≤ x2) = false := by simpa using h1
    have HR := Lib.hid (show z = r by rw [hrr, d1]; rfl)
    clear hrr h1
    go_enter Try.func17, Try.ntmps17
    go_wp2_with fail
    refine region_kept _ (by kernel_rfl) (by kernel_rfl) (Kept.refl _) ?_
    repeat (go_big_quiet_step ((first
      | (go_at_call 41; (with_reducible exact KExt.callsK (AA.out _ (HI.out.kept (KExt.g _)))))
      | (go_at_call 49; (with_reducible exact KExt.callsK (AH.out _ (HD.out.kept (KExt.g _)))))
      | fail)))
    refine wpQuiet_nil ?_
    intro G
    go_wp2_with fail
    go_ret
    exact ⟨ret_bool HR.out, HK.out.trans G.g⟩
end Go.Proofs.Ytgofecnpmohmgaa
