/-
  What is proved: the helper Long of layer 6's laws, called with any set that lies in memory, tells whether it is long, or not right; the world has new blocks at most.
-/
import Derived.Test.YtcldbmhjfmbcfaaM13
namespace Go.Proofs.Ytcldbmhjfmbcfaa
open Go.RowKit

def Short (V : List Int) (C : List (Int × Int)) (n m : Nat) : Prop := n ≤ 64 ∧ m ≤ 60 ∧ RightC V C
open Classical in
set_option maxRecDepth 100000 in
set_option maxHeartbeats 1000000 in
theorem long_any (A : Option Addr) (n c : Nat) (V : List Int) (B : Option Addr) (m k : Nat) (C : List (Int × Int)) (w : World) (h : Il w A n c V) (hd : Dl w B m k C) (r : Bool) (hr : r = true ↔ ¬ Short V C n m) :
    Calls Try.prog 5 #[.agg #[.slice A n c, .slice B m k]] w fun e w' => e = .returned (.bool r) ∧ Kept w w' := by
  have hcap := h.cap.1; have hcap2 := h.cap.2; have hdap := hd.cap.1; have hdap2 := hd.cap.2
  have hK := (Kept.refl w).alloc #[.slice A n c, .slice B m k] 26
  obtain ⟨u, hu⟩ : ∃ u : Bool, u = true ↔ RightC V C := ⟨decide (RightC V C), by rw [decide_eq_true_iff]⟩
  have AR := Lib.hid (rrightC_any A n c V B m k C _ (h.kept hK) (hd.kept hK) u hu)
  have HK := Lib.hid hK
  by_cases h1 : 64 < n
  · have d1 : decide ((64 : Int) < n) = true := decide_eq_true (by omega)
    have d2 : decide (64 < n) = true := decide_eq_true h1
    have HF := Lib.hid (show true = r from (hr.2 fun hs => by have := hs.1; omega).symm)
    clear h hd hK h1 hr hu AR
    go_enter Try.func5, Try.ntmps5
    go_wp2_with fail
    go_ret
    exact ⟨ret_bool HF.out, HK.out⟩
  · have d1 : decide ((64 : Int) < n) = false := decide_eq_false (by omega)
    have d2 : decide (64 < n) = false := decide_eq_false h1
    by_cases h2 : 60 < m
    · have d3 : decide ((60 : Int) < m) = true := decide_eq_true (by omega)
      have d4 : decide (60 < m) = true := decide_eq_true h2
      have HF := Lib.hid (show true = r from (hr.2 fun hs => by have := hs.2.1; omega).symm)
      clear h hd hK h1 h2 hr hu AR
      go_enter Try.func5, Try.ntmps5
      go_wp2_with fail
      go_ret
      exact ⟨ret_bool HF.out, HK.out⟩
    · have d3 : decide ((60 : Int) < m) = false := decide_eq_false (by omega)
      have d4 : decide (60 < m) = false := decide_eq_false h2
      have hru : (!u) = r := by
        rw [Bool.eq_iff_iff, hr, Bool.not_eq_true', Bool.eq_false_iff, Ne, hu]
        exact ⟨fun hn hs => hn hs.2.2, fun hn hs => hn ⟨by omega, by omega, hs⟩⟩
      have HF := Lib.hid hru
      clear h hd hK h1 h2 hr hu hru
      go_enter Try.func5, Try.ntmps5
      go_wp2_with fail
      go_at_call 22
      refine AR.out.mono ?_
      rintro e w1 ⟨rfl, hk1⟩
      go_wp2_with fail
      go_ret
      exact ⟨ret_bool HF.out, HK.out.trans hk1⟩
end Go.Proofs.Ytcldbmhjfmbcfaa
