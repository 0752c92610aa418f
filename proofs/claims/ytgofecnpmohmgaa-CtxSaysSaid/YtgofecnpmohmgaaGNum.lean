/-
  What is proved: number, upTo, Has and Most of package ctx, called with any sets that lie in memory, return what P6.2 and P6.8 say; the world has new blocks at most.
-/
import Derived.Test.YtgofecnpmohmgaaCMem
import Derived.Test.YtgofecnpmohmgaaDHas
import Derived.Test.YtgofecnpmohmgaaCMost
namespace Go.Proofs.Ytgofecnpmohmgaa
open Go.RowKit

set_option maxRecDepth 100000 in
theorem num_any (A : Option Addr) (n c : Nat) (V : List Int) (B : Option Addr) (m k : Nat) (r : Int) (w : World) (h : Il w A n c V) :
    Calls Try.prog 51 #[.agg #[.slice A n c, .slice B m k], .int .i64 r] w fun e w' => e = .returned (.int .i64 (atV V r)) ∧ Kept w w' := by
  have hcap := h.cap.1
  have hcap2 := h.cap.2
  rcases Int.lt_or_le r 0 with h0 | h0
  · have HR := Lib.hid (show 0 = atV V r from (atV_neg V h0).symm)
    clear h
    have d1 : decide (r < 0) = true := by simpa using h0
    go_enter Try.func51, Try.ntmps51
    go_wp2
    go_ret
    exact ⟨ret_int HR.out, (Kept.refl _).alloc _ _⟩
  · obtain ⟨j, rfl⟩ : ∃ j : Nat, r = j := ⟨r.toNat, by omega⟩
    have d1 : decide ((j : Int) < 0) = false := by rw [decide_eq_false_iff_not]; omega
    by_cases hj : j < n
    · obtain ⟨b, o, x, rfl, hx, g⟩ := (h.kept ((Kept.refl w).alloc #[.slice A n c, .slice B m k] 25)).get hj
      have HR := Lib.hid (show x = atV V j from (atV_in hx).symm)
      have d2 : decide ((n : Int) ≤ (j : Int)) = false := by rw [decide_eq_false_iff_not]; omega
      have d3 : decide (n ≤ j) = false := by rw [decide_eq_false_iff_not]; omega
      clear h hx h0
      go_enter Try.func51, Try.ntmps51
      go_wp2
      go_ret
      exact ⟨ret_int HR.out, (Kept.refl _).alloc _ _⟩
    · have HR := Lib.hid (show 0 = atV V j from (atV_out V (by have := h.1; omega)).symm)
      have d2 : decide ((n : Int) ≤ (j : Int)) = true := by rw [decide_eq_true_iff]; omega
      have d3 : decide (n ≤ j) = true := by rw [decide_eq_true_iff]; omega
      clear h h0
      go_enter Try.func51, Try.ntmps51
      go_wp2
      go_ret
      exact ⟨ret_int HR.out, (Kept.refl _).alloc _ _⟩
theorem num_c (A : Option Addr) (n c : Nat) (V : List Int) (B : Option Addr) (m k : Nat) (r x : Int) (hx : atV V r = x) (w : World) (h : Il w A n c V) :
    Calls Try.prog 51 #[.agg #[.slice A n c, .slice B m k], .int .i64 r] w fun e w' => e = .returned (.int .i64 x) ∧ Kept w w' := by
  subst hx; exact num_any A n c V B m k r w h

def upB (V : List Int) (d : Int × Int) : Bool := decide (1 ≤ d.2) && decide (d.2 ≤ atV V d.1)
theorem upB_iff (V : List Int) (d : Int × Int) : upB V d = true ↔ 1 ≤ d.2 ∧ d.2 ≤ atV V d.1 := by unfold upB; rw [Bool.and_eq_true, decide_eq_true_iff, decide_eq_true_iff]
theorem hasC_up (V : List Int) (C : List (Int × Int)) (d : Int × Int) : decide (hasC V C d) = (upB V d || decide (d ∈ C)) := by
  rw [Bool.eq_iff_iff, decide_eq_true_iff, Bool.or_eq_true, upB_iff, decide_eq_true_iff]
  exact Iff.rfl
set_option maxRecDepth 100000 in
set_option maxHeartbeats 1000000 in
theorem up_any (A : Option Addr) (n c : Nat) (V : List Int) (B : Option Addr) (m k : Nat) (x1 x2 : Int) (w : World) (h : Il w A n c V) (r : Bool) (hr : upB V (x1, x2) = r) :
    Calls Try.prog 48 #[.agg #[.slice A n c, .slice B m k], .agg #[.int .i64 x1, .int .i64 x2]] w fun e w' => e = .returned (.bool r) ∧ Kept w w' := by
  have hK := ((Kept.refl w).alloc #[.slice A n c, .slice B m k] 25).alloc #[.int .i64 x1, .int .i64 x2] 36
  have c0 := KExt.cell (((Kept.refl (w.alloc (.cells #[.slice A n c, .slice B m k] 25))).alloc #[.int .i64 x1, .int .i64 x2] 36).box0)
  have c1 := KExt.cell (((Kept.refl (w.alloc (.cells #[.slice A n c, .slice B m k] 25))).alloc #[.int .i64 x1, .int .i64 x2] 36).box1)
  have c2 := KExt.cell (Kept.box0 (Kept.refl ((w.alloc (.cells #[.slice A n c, .slice B m k] 25)).alloc (.cells #[.int .i64 x1, .int .i64 x2] 36))))
  have c3 := KExt.cell (Kept.box1 (Kept.refl ((w.alloc (.cells #[.slice A n c, .slice B m k] 25)).alloc (.cells #[.int .i64 x1, .int .i64 x2] 36))))
  rw [show (w.alloc (.cells #[.slice A n c, .slice B m k] 25)).heap.size = w.heap.size + 1 by simp] at c2 c3
  obtain ⟨t, ht⟩ : ∃ t, atV V x1 = t := ⟨_, rfl⟩
  have AA := Lib.hid (fun w h => num_c A n c V B m k x1 t ht w h)
  have HI := Lib.hid (h.kept hK)
  have HK := Lib.hid hK
  have hrr : r = (decide (1 ≤ x2) && decide (x2 ≤ t)) := by rw [← hr, ← ht]; rfl
  clear h hK ht hr
  have ways : (decide (1 ≤ x2) = true ∧ decide (x2 ≤ t) = true) ∨ (decide (1 ≤ x2) = true ∧ decide (x2 ≤ t) = false) ∨ (decide (1 ≤ x2) = false ∧ decide (x2 ≤ t) = decide (x2 ≤ t)) := by
    cases decide (1 ≤ x2) <;> cases decide (x2 ≤ t) <;> simp
  rcases ways with ⟨d1, d2⟩ | ⟨d1, d2⟩ | ⟨d1, d2⟩
  all_goals
    rw [d1] at hrr
    try rw [d2] at hrr
    have HR := Lib.hid hrr.symm
    clear hrr
    go_enter Try.func48, Try.ntmps48
    go_wp2_with fail
    refine region_kept _ (by kernel_rfl) (by kernel_rfl) (Kept.refl _) ?_
    repeat (go_big_quiet_step ((first
      | (go_at_call 51; (with_reducible exact KExt.callsK (AA.out _ (HI.out.kept (KExt.g _)))))
      | fail)))
    refine wpQuiet_nil ?_
    intro G
    go_wp2_with fail
    go_ret
    exact ⟨ret_bool (by have := HR.out; simpa using this), HK.out.trans G.g⟩

set_option maxRecDepth 100000 in
set_option maxHeartbeats 1000000 in
theorem ghas_any (A : Option Addr) (n c : Nat) (V : List Int) (B : Option Addr) (m k : Nat) (C : List (Int × Int)) (x1 x2 : Int) (w : World) (h : Il w A n c V) (hd : Dl w B m k C) (r : Bool) (hr : decide (hasC V C (x1, x2)) = r) :
    Calls Try.prog 16 #[.agg #[.slice A n c, .slice B m k], .agg #[.int .i64 x1, .int .i64 x2]] w fun e w' => e = .returned (.bool r) ∧ Kept w w' := by
  have hK := ((Kept.refl w).alloc #[.slice A n c, .slice B m k] 25).alloc #[.int .i64 x1, .int .i64 x2] 36
  obtain ⟨u, hu⟩ : ∃ u, upB V (x1, x2) = u := ⟨_, rfl⟩
  obtain ⟨z, hz⟩ : ∃ z, decide ((x1, x2) ∈ C) = z := ⟨_, rfl⟩
  have AU := Lib.hid (up_any A n c V B m k x1 x2 _ (h.kept hK) u hu)
  have AH := Lib.hid (fun w h => dhas_c B m k C (x1, x2) z hz w h)
  have HD := Lib.hid (hd.kept hK)
  have HK := Lib.hid hK
  have hrr : r = (u || z) := by rw [← hr, hasC_up, hu, hz]
  clear h hd hK hz hr hu
  cases u with
  | true =>
    have HR := Lib.hid (show true = r by rw [hrr]; rfl)
    clear hrr
    go_enter Try.func16, Try.ntmps16
    go_wp2_with fail
    go_at_call 48
    refine AU.out.mono ?_
    rintro e w1 ⟨rfl, hk1⟩
    go_wp2_with fail
    go_ret
    exact ⟨ret_bool HR.out, HK.out.trans hk1⟩
  | false =>
    have HR := Lib.hid (show z = r by rw [hrr]; rfl)
    clear hrr
    go_enter Try.func16, Try.ntmps16
    go_wp2_with fail
    go_at_call 48
    refine AU.out.mono ?_
    rintro e w1 ⟨rfl, hk1⟩
    have AH2 := Lib.hid (AH.out w1 (HD.out.kept hk1))
    have e0 := ((Kept.refl (w.alloc (.cells #[.slice A n c, .slice B m k] 25))).alloc #[.int .i64 x1, .int .i64 x2] 36 |>.trans hk1).box0
    have e1 := ((Kept.refl (w.alloc (.cells #[.slice A n c, .slice B m k] 25))).alloc #[.int .i64 x1, .int .i64 x2] 36 |>.trans hk1).box1
    have e2 := hk1.box0
    have e3 := hk1.box1
    rw [show (w.alloc (.cells #[.slice A n c, .slice B m k] 25)).heap.size = w.heap.size + 1 by simp] at e2 e3
    go_wp2_with fail
    go_at_call 35
    refine AH2.out.mono ?_
    rintro e w2 ⟨rfl, hk2⟩
    go_wp2_with fail
    go_ret
    exact ⟨ret_bool HR.out, HK.out.trans (hk1.trans hk2)⟩

set_option maxRecDepth 100000 in
set_option maxHeartbeats 1000000 in
theorem gmost_any (A : Option Addr) (n c : Nat) (V : List Int) (B : Option Addr) (m k : Nat) (C : List (Int × Int)) (r : Int) (w : World) (h : Il w A n c V) (hd : Dl w B m k C) :
    Calls Try.prog 20 #[.agg #[.slice A n c, .slice B m k], .int .i64 r] w fun e w' => e = .returned (.int .i64 (mostC V C r)) ∧ Kept w w' := by
  have hK := (Kept.refl w).alloc #[.slice A n c, .slice B m k] 25
  have hcap := hd.cap.1
  have hcap2 := hd.cap.2
  have HM := Lib.hid hd.1
  have AA := Lib.hid (num_any A n c V B m k r _ (h.kept hK))
  have HD := Lib.hid hd
  have HK := Lib.hid hK
  clear h hd hK
  go_enter Try.func20, Try.ntmps20
  go_wp2_with fail
  go_at_call 51
  refine AA.out.mono ?_
  rintro e w1 ⟨rfl, hk1⟩
  have e0 := hk1.box0
  have e1 := hk1.box1
  have HW := Lib.hid (HK.out.trans hk1)
  clear hk1
  go_wp2_with fail
  go_loopw [5, 14] (fun x i wr => ∃ j : Nat, j ≤ m ∧ i = .int .i64 j ∧ x = .int .i64 (mostC V (C.take j) r) ∧ Kept w1 wr) (fun _ i _ => m - (intOf i).toNat)
  case atStart => exact ⟨0, Nat.zero_le _, rfl, rfl, Kept.refl _⟩
  case round =>
    obtain ⟨j, hj, rfl, rfl, hkr⟩ := hrel
    have HR := Lib.hid hkr
    clear hkr
    by_cases hlt : j < m
    · obtain ⟨g, o, ⟨y1, y2⟩, rfl, hy, g1, g2⟩ := (HD.out.kept (HW.out.trans HR.out)).get hlt
      simp only at g1 g2
      have HS := Lib.hid (mostC_step V C r j (y1, y2) hy)
      generalize mostC V (C.take j) r = x at HS
      clear hy e0 e1
      by_cases hr : y1 = r
      · have d1 : (y1 == r) = true := by simpa using hr
        have HE := Lib.hid (show mostC V (C.take (j + 1)) r = max x y2 by rw [HS.out, if_pos hr])
        clear hr
        go_wp2_with fail
        go_roundw
        case rel => exact ⟨j + 1, hlt, by go_num, by rw [HE.out], HR.out.alloc _ _⟩
        case measure => simp [intOf]; omega
      · have d1 : (y1 == r) = false := by simpa using hr
        have HE := Lib.hid (show mostC V (C.take (j + 1)) r = x by rw [HS.out, if_neg hr])
        clear hr
        go_wp2_with fail
        go_roundw
        case rel => exact ⟨j + 1, hlt, by go_num, by rw [HE.out], HR.out.alloc _ _⟩
        case measure => simp [intOf]; omega
    · obtain rfl : j = m := by omega
      clear e0 e1
      go_wp2_with fail
      go_ret
      exact ⟨ret_int (by rw [List.take_of_length_le (by rw [← HM.out]; exact Nat.le_refl _)]), HW.out.trans HR.out⟩

end Go.Proofs.Ytgofecnpmohmgaa
