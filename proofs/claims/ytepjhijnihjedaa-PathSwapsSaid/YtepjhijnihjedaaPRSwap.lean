/-
  What is proved: the document's Swap, called with any text of up to 2000 bytes, any place, and any slice of up to 1000 texts of up to 2000 bytes (nil let in), returns what P4.9 says; the world has new blocks at most.
-/
import Derived.Test.YtepjhijnihjedaaPSwap
import Derived.Test.YtepjhijnihjedaaPRSplit
namespace Go.Proofs.Ytepjhijnihjedaa
open Go.RowKit

/-- Three slices of texts, one behind the other, onto a new row without room. -/
theorem app3 (w : World) (A0 A1 A2 : Option Addr) (n0 c0 n1 c1 n2 c2 : Nat) (L0 L1 L2 : List ByteArray) (h0 : Src w A0 n0 c0 L0) (h1 : Src w A1 n1 c1 L1) (h2 : Src w A2 n2 c2 L2) (hT : n0 + n1 + n2 ≤ 1000000) :
    ∃ v1 w1 v2 w2 v3 w3, (Builtin.append_ #[24, 24] 24 #[.slice (some ⟨w.heap.size, 0, none⟩) 0 0, .slice A0 n0 c0]).run Try.prog (w.alloc (.cells #[] 9)) = .ok v1 w1 ∧
      (Builtin.append_ #[24, 24] 24 #[v1, .slice A1 n1 c1]).run Try.prog w1 = .ok v2 w2 ∧
      (Builtin.append_ #[24, 24] 24 #[v2, .slice A2 n2 c2]).run Try.prog w2 = .ok v3 w3 ∧
      w3.ownsRow w.heap.size 9 1 v3 (n0 + n1 + n2) ((L0 ++ L1 ++ L2).map strV) ∧ Ke w w1 ∧ Ke w w2 ∧ Ke w w3 ∧ v3 ≠ .slice none 0 0 := by
  have hk0 : Ke w (w.alloc (.cells #[] 9)) := (Ke.refl w).alloc _
  have ho0 : (w.alloc (.cells #[] 9)).ownsRow w.heap.size 9 1 (.slice (some ⟨w.heap.size, 0, none⟩) 0 0) 0 [] := World.ownsRow_made w #[] 0 (Nat.le_refl _) (by simp [maxLen]) rfl
  obtain ⟨v1, w1, hr1, ho1, hg1, hv1⟩ := app_src _ _ _ _ _ ho0 A0 n0 c0 L0 (h0.ke hk0) (by omega) hk0.size
  have hk1 : Ke w w1 := Below.grown hk0 hg1 hk0.size fun j hj => (ho0.lt j hj).1
  obtain ⟨v2, w2, hr2, ho2, hg2, hv2⟩ := app_src _ _ _ _ _ ho1 A1 n1 c1 L1 (h1.ke hk1) (by omega) hk1.size
  have hk2 : Ke w w2 := Below.grown hk1 hg2 hk1.size fun j hj => (ho1.lt j hj).1
  obtain ⟨v3, w3, hr3, ho3, hg3, hv3⟩ := app_src _ _ _ _ _ ho2 A2 n2 c2 L2 (h2.ke hk2) (by omega) hk2.size
  have hk3 : Ke w w3 := Below.grown hk2 hg3 hk2.size fun j hj => (ho2.lt j hj).1
  refine ⟨v1, w1, v2, w2, v3, w3, hr1, hr2, hr3, ?_, hk1, hk2, hk3, fun e => ?_⟩
  · rw [Nat.zero_add, List.nil_append, ← List.map_append, ← List.map_append] at ho3
    exact ho3
  · have := hv1 (hv2 (hv3 e)); simp at this

set_option maxRecDepth 100000 in
set_option maxHeartbeats 2000000 in
theorem rswap_any (p : ByteArray) (i : Int) (A : Option Addr) (n c : Nat) (M : List ByteArray) (w : World) (hp : p.size ≤ 2000) (hi1 : -9223372036854775808 ≤ i) (hi2 : i ≤ 9223372036854775807) (hs : Src w A n c M) (hn : n ≤ 1000) (hx : ∀ x ∈ M, x.size ≤ 2000) :
    Calls Try.prog 24 #[.string p, .int .i64 i, .slice A n c] w fun e w' => e = .returned (.string (swapS p i M)) ∧ Ke w w' := by
  have hl := splS_le p
  have hcc := hs.cap
  have HML := Lib.hid hs.len
  have HSRC := Lib.hid hs
  have HX := Lib.hid hx
  obtain ⟨hc1, hc2⟩ := hcc
  simp only [maxLen] at hc2
  clear hs hx
  by_cases hlo : i < 0
  · have HR := Lib.hid (show swapS p i M = p by unfold swapS; rw [if_neg (by omega)])
    go_enter Try.func24, Try.ntmps24
    go_wp2_with (go_at_call 9; ((with_reducible refine (rsplit_any p _ (by omega)).mono ?_); rintro e w1 ⟨b, c0, rfl, hs, hbb, hk⟩))
    go_ret
    exact ⟨ret_str HR.out.symm, hk⟩
  by_cases hhi : i < (splS p).length
  · obtain ⟨k, rfl⟩ : ∃ k : Nat, i = (k : Int) := ⟨i.toNat, by omega⟩
    have hkl : k < (splS p).length := by omega
    have HR := Lib.hid (show swapS p k M = joiS (swapT p k M) by unfold swapS; rw [if_pos (by omega), Int.toNat_natCast])
    have HF := Lib.hid (swapT_few p k M hkl hp (by have := HML.out; omega) HX.out)
    clear hlo hhi
    go_enter Try.func24, Try.ntmps24
    go_wp2_with fail
    go_at_call 9
    refine (rsplit_any p _ (by omega)).mono ?_
    rintro e w1 ⟨b, c0, rfl, hs, hbb, hk⟩
    obtain ⟨a2, ht, hr2, hr3⟩ := cut_tail b _ c0 k _ w1 hs hkl
    have hh := cut_head b _ c0 k _ w1 hs (by omega)
    have hcm := hs.2.1
    have hcx := hs.2.2.1
    simp only [maxLen] at hcx
    have hr0 := run_head b (splS p).length c0 k (by omega)
    have hr1 := run_head2 b (splS p).length c0 k (by omega)
    obtain ⟨v1, x1, v2, x2, v3, x3, ha1, ha2, ha3, ho, hq1, hq2, hq3, hv⟩ := app3 w1 (some ⟨b, 0, none⟩) A (some a2) k c0 n c ((splS p).length - (k + 1)) (c0 - (k + 1)) ((splS p).take k) M ((splS p).drop (k + 1))
      (.inr ⟨_, rfl, hh⟩) (HSRC.out.ke hk) (.inr ⟨_, rfl, ht⟩) (by omega)
    have HA1 := Lib.hid ha1
    have HA2 := Lib.hid ha2
    have HA3 := Lib.hid ha3
    have HJ := Lib.hid (rjoin_own _ _ v3 (swapT p k M) x3 ho HF.out hv)
    have HK := Lib.hid (hk.trans hq3)
    clear ha1 ha2 ha3 ho hq1 hq2 hq3 hv hh ht hk hs
    go_wp2_with (first
      | (at_builtin; refine Lib.wpList_append_run _ rfl _ _ _ _ rfl _ _ rfl rfl _ _ HA1.out ?_)
      | (at_builtin; refine Lib.wpList_append_run _ rfl _ _ _ _ rfl _ _ rfl rfl _ _ HA2.out ?_)
      | (at_builtin; refine Lib.wpList_append_run _ rfl _ _ _ _ rfl _ _ rfl rfl _ _ HA3.out ?_)
      | (go_at_call 29; ((with_reducible refine HJ.out.mono ?_); rintro e w3 ⟨rfl, hk3⟩)))
    go_ret
    exact ⟨ret_str HR.out.symm, HK.out.trans hk3⟩
  · have HR := Lib.hid (show swapS p i M = p by unfold swapS; rw [if_neg (by omega)])
    go_enter Try.func24, Try.ntmps24
    go_wp2_with (go_at_call 9; ((with_reducible refine (rsplit_any p _ (by omega)).mono ?_); rintro e w1 ⟨b, c0, rfl, hs, hbb, hk⟩))
    go_ret
    exact ⟨ret_str HR.out.symm, hk⟩
end Go.Proofs.Ytepjhijnihjedaa
