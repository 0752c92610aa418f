/-
  What is proved: the helper Same of layer 5's laws returns true of two slices that hold the same dots; it draws alone.
-/
import Derived.Test.YtgofecnpmohmgaaM1
import Derived.WalkSpells
import Derived.WalkLawsBesides
import Derived.LoopTactic
import Derived.Outline
import Derived.Deep.QuietTactic
import Derived.BigQuiet
namespace Go.Proofs.Ytgofecnpmohmgaa
open Go.RowKit

set_option maxRecDepth 100000 in
set_option maxHeartbeats 1000000 in
theorem same_yes (A1 A2 : Option Addr) (c1 c2 n : Nat) (L : List (Int × Int)) (w : World) (h1 : Dl w A1 n c1 L) (h2 : Dl w A2 n c2 L) :
    Calls Try.prog 29 #[.slice A1 n c1, .slice A2 n c2] w fun e w' => e = .returned (.bool true) ∧ Kept w w' := by
  have hc1 := h1.cap.1; have hm1 := h1.cap.2; have hc2 := h2.cap.1; have hm2 := h2.cap.2
  have H1 := Lib.hid h1; have H2 := Lib.hid h2
  clear h1 h2
  go_enter Try.func29, Try.ntmps29
  go_wp2
  go_loopw [13] (fun i wr => ∃ k j : Nat, k ≤ n ∧ i = .int .i64 k ∧ wr = w.drewN j) (fun i _ => n - (intOf i).toNat)
  case atStart => exact ⟨0, 0, Nat.zero_le _, rfl, rfl⟩
  case round =>
    obtain ⟨k, j, hk, rfl, rfl⟩ := hrel
    by_cases hlt : k < n
    · obtain ⟨b1, o1, ⟨x1, x2⟩, rfl, hx, g1, g2⟩ := H1.out.get hlt
      obtain ⟨b2, o2, y, rfl, hy, g3, g4⟩ := H2.out.get hlt
      obtain rfl : y = (x1, x2) := Option.some.inj (hy.symm.trans hx)
      clear hx hy
      simp only at g1 g2 g3 g4
      have e1 : (x1 == x1) = true := by simp
      have e2 : (x2 == x2) = true := by simp
      have k1 : (k : Int) < n := by omega
      have k0 : (0 : Int) ≤ k := by omega
      go_wp2
      go_quiet (fail)
      go_wp2
      go_roundw
      case rel => exact ⟨k + 1, _, hlt, by go_num, rfl⟩
      case measure => simp [intOf]; omega
    · go_wp2
      go_ret
      exact ⟨rfl, (Kept.refl _).drewN _⟩
theorem same_of (A1 A2 : Option Addr) (c1 c2 n1 n2 : Nat) (X Y : List (Int × Int)) (w : World) (h1 : Dl w A1 n1 c1 X) (h2 : Dl w A2 n2 c2 Y) (h : X = Y) :
    Calls Try.prog 29 #[.slice A1 n1 c1, .slice A2 n2 c2] w fun e w' => e = .returned (.bool true) ∧ Kept w w' := by
  subst h
  obtain rfl : n1 = n2 := h1.1.trans h2.1.symm
  exact same_yes A1 A2 c1 c2 n1 X w h1 h2
end Go.Proofs.Ytgofecnpmohmgaa
