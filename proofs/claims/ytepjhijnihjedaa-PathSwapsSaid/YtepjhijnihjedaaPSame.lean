/-
  What is proved: the helper 'same' of layer 4's laws returns true of two slices that hold the same texts; it draws alone.
-/
import Derived.Test.YtepjhijnihjedaaPMem
import Derived.WalkKit
import Derived.WalkSpells
import Derived.WalkLawsBesides
import Derived.LoopTactic
import Derived.RowKit3
import Derived.Outline
import Derived.Deep.QuietTactic
import Derived.BigQuiet
namespace Go.Proofs.Ytepjhijnihjedaa
open Go.RowKit

set_option maxRecDepth 100000 in
set_option maxHeartbeats 1000000 in
theorem same_yes (b1 o1 c1 b2 o2 c2 n : Nat) (L : List ByteArray) (w : World) (h1 : Sl w ⟨b1, o1, none⟩ n c1 L) (h2 : Sl w ⟨b2, o2, none⟩ n c2 L) :
    Calls Try.prog 7 #[.slice (some ⟨b1, o1, none⟩) n c1, .slice (some ⟨b2, o2, none⟩) n c2] w fun e w' => e = .returned (.bool true) ∧ Ke w w' := by
  have hc1 := h1.2.1; have hm1 := h1.2.2.1; have hc2 := h2.2.1; have hm2 := h2.2.2.1
  simp only [maxLen] at hm1 hm2
  have H1 := Lib.hid h1; have H2 := Lib.hid h2
  clear h1 h2
  go_enter Try.func7, Try.ntmps7
  go_wp2
  go_loopw [13] (fun i wr => ∃ k j : Nat, k ≤ n ∧ i = .int .i64 k ∧ wr = w.drewN j) (fun i _ => n - (intOf i).toNat)
  case atStart => exact ⟨0, 0, Nat.zero_le _, rfl, rfl⟩
  case round =>
    obtain ⟨k, j, hk, rfl, rfl⟩ := hrel
    by_cases hlt : k < n
    · have g1 := H1.out.get hlt
      have g2 := H2.out.get hlt
      generalize L.getD k ⟨#[]⟩ = x at g1 g2
      have k1 : (k : Int) < n := by omega
      have k0 : (0 : Int) ≤ k := by omega
      go_wp2
      go_quiet (fail)
      go_wp2
      go_roundw
      case rel => exact ⟨k + 1, _, hlt, by go_num, rfl⟩
      case measure => simp [intOf]; omega
    · go_wp2
      go_ret
      exact ⟨rfl, (Ke.refl _).drewN _⟩
end Go.Proofs.Ytepjhijnihjedaa
