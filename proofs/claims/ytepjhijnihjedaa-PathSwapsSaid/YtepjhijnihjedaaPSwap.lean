/-
  What is proved: path.Swap, called with any text of up to 2000 bytes, any place, and any slice of up to 1000 texts of up to 2000 bytes (nil let in), returns what P4.9 says; the world has new blocks at most.
-/
import Derived.Test.YtepjhijnihjedaaPConcat
import Derived.StillTailTactics
import Derived.BigQuiet
import Derived.IntWalk
namespace Go.Proofs.Ytepjhijnihjedaa
open Go.RowKit

/-- A region whose first n operations only read, in whatever order, and whose others have one order: the world behind the draw under a name of its own. -/
theorem region_tail {P : Program} {id : Nat} {Q : Exit → Act → World → Prop} {a : Act} {w : World} {l : List Oper} (n : Nat) (hm : P.follows .mixedOrders = true) (hB : Region.lexTailB .any l.toArray n = true)
    (h : ∀ wd : World, wd = w.drew → wpStill P l.toArray wd (fun a' => wpList P l.toArray Q (l.drop n) a' wd) (l.take n) a) : (Code.region id l.toArray true).wp P Q a w :=
  wp_region_still_tail n hm hB (h _ rfl)

/-- P4.9, over texts. -/
def swapT (p : ByteArray) (k : Nat) (M : List ByteArray) : List ByteArray := (splS p).take k ++ M ++ (splS p).drop (k + 1)
def swapS (p : ByteArray) (at_ : Int) (M : List ByteArray) : ByteArray := if 0 ≤ at_ ∧ at_ < (splS p).length then joiS (swapT p at_.toNat M) else p
theorem swapT_len (p : ByteArray) (k : Nat) (M : List ByteArray) (h : k < (splS p).length) : (swapT p k M).length = k + M.length + ((splS p).length - (k + 1)) := by
  unfold swapT
  rw [List.length_append, List.length_append, List.length_take, List.length_drop]
  omega
theorem swapT_few (p : ByteArray) (k : Nat) (M : List ByteArray) (h : k < (splS p).length) (hp : p.size ≤ 2000) (hM : M.length ≤ 1000) (hx : ∀ x ∈ M, x.size ≤ 2000) : Few (swapT p k M) := by
  have h1 := splS_le p
  refine ⟨by rw [swapT_len p k M h]; omega, fun x hxx => ?_⟩
  unfold swapT at hxx
  rcases List.mem_append.1 hxx with h2 | h2
  · rcases List.mem_append.1 h2 with h3 | h3
    · have := splS_size p x (List.mem_of_mem_take h3); omega
    · have := hx x h3; omega
  · have := splS_size p x (List.mem_of_mem_drop h2); omega

/-- The slice of the first k, and the one behind the k-th. -/
theorem cut_head (b n c k : Nat) (L : List ByteArray) (w : World) (h : Sl w ⟨b, 0, none⟩ n c L) (hk : k ≤ n) : Sl w ⟨b, 0, none⟩ k c (L.take k) := by
  obtain ⟨h1, h2, h3, h4, h5⟩ := h
  refine ⟨by rw [List.length_take]; omega, by omega, h3, h4, fun j x hj => h5 j x ?_⟩
  rw [List.getElem?_take] at hj
  split at hj
  · exact hj
  · cases hj
theorem size24 (W : World) : (Go.sizeOf (Try.prog.elem 24)).run Try.prog W = .ok 1 W := by kernel_rfl
theorem run_head (b n c k : Nat) (hk : k ≤ c) (W : World) :
    (Instr.slice 24 (.slice (some ⟨b, 0, none⟩) n c) none (some (.int .i64 (k : Int))) none).run Try.prog W = .ok (.slice (some ⟨b, 0, none⟩) k c) W := by
  rw [run_slice_h W 24 _ n c (by kernel_rfl) .i64 (k : Int) (by omega) (by omega), size24]
  simp [Result.andThen, sliced, Addr.add]
theorem run_head2 (b n c k : Nat) (hk : k ≤ c) (W : World) :
    (Instr.sliceAt 24 (.slice (some ⟨b, 0, none⟩) n c) none (some (.int .i64 (k : Int))) none).run Try.prog W = .ok (.slice (some ⟨b, 0, none⟩) k c) W := by
  rw [run_sliceAt_slice W _ _ _ _ _ (by kernel_rfl)]; exact run_head b n c k hk W
theorem cut_tail (b n c k : Nat) (L : List ByteArray) (w : World) (h : Sl w ⟨b, 0, none⟩ n c L) (hk : k < n) : ∃ a2 : Addr, Sl w a2 (n - (k + 1)) (c - (k + 1)) (L.drop (k + 1)) ∧
    (∀ W : World, (Instr.slice 24 (.slice (some ⟨b, 0, none⟩) n c) (some (.int .i64 ((k : Int) + 1))) none none).run Try.prog W = .ok (.slice (some a2) (n - (k + 1)) (c - (k + 1))) W) ∧
    (∀ W : World, (Instr.sliceAt 24 (.slice (some ⟨b, 0, none⟩) n c) (some (.int .i64 ((k : Int) + 1))) none none).run Try.prog W = .ok (.slice (some a2) (n - (k + 1)) (c - (k + 1))) W) := by
  obtain ⟨h1, h2, h3, h4, h5⟩ := h
  have hr : ∀ W : World, (Instr.slice 24 (.slice (some ⟨b, 0, none⟩) n c) (some (.int .i64 ((k : Int) + 1))) none none).run Try.prog W = .ok (.slice (some (if c = k + 1 then ⟨b, 0, none⟩ else ⟨b, k + 1, none⟩)) (n - (k + 1)) (c - (k + 1))) W := fun W => by
    rw [run_slice_l W 24 _ n c (by kernel_rfl) .i64 ((k : Int) + 1) (by omega) (by omega), size24]
    simp only [Result.andThen, sliced, show ((k : Int) + 1).toNat = k + 1 by omega, Nat.mul_one, Option.map_some, Addr.add_lit, Nat.zero_add]
    split <;> rfl
  refine ⟨_, ?_, hr, fun W => by rw [run_sliceAt_slice W _ _ _ _ _ (by kernel_rfl)]; exact hr W⟩
  refine ⟨by rw [List.length_drop]; omega, by omega, by omega, by split <;> exact h4, fun j x hj => ?_⟩
  have hj2 : j < n - (k + 1) := by
    have := (List.getElem?_eq_some_iff.1 hj).1
    rw [List.length_drop] at this; omega
  rw [if_neg (by omega), Addr.add_lit]
  have := h5 (k + 1 + j) x (by rw [← hj, List.getElem?_drop])
  rwa [Addr.add_lit, Nat.zero_add] at this

theorem concat3 (wd : World) (s0 s1 s2 : S4) (h0 : Src wd s0.A s0.n s0.c s0.L) (h1 : Src wd s1.A s1.n s1.c s1.L) (h2 : Src wd s2.A s2.n s2.c s2.L) (hT : s0.n + s1.n + s2.n ≤ 1000000) :
    Calls Try.prog 28 #[.slice (some ⟨wd.heap.size, 0, none⟩) 3 3] (wd.alloc (.cells #[.slice s0.A s0.n s0.c, .slice s1.A s1.n s1.c, .slice s2.A s2.n s2.c] 24))
      fun e w' => ∃ v, e = .returned v ∧ w'.ownsRow (wd.heap.size + 1) 9 1 v (s0.n + s1.n + s2.n) ((s0.L ++ s1.L ++ s2.L).map strV) ∧ Ke wd w' := by
  have hk := (Ke.refl wd).alloc (.cells #[.slice s0.A s0.n s0.c, .slice s1.A s1.n s1.c, .slice s2.A s2.n s2.c] 24)
  have e1 : totK [s0, s1, s2] 3 = s0.n + s1.n + s2.n := by simp [totK]; omega
  have e2 : catK [s0, s1, s2] 3 = s0.L ++ s1.L ++ s2.L := by simp [catK]
  refine (concat_any wd.heap.size [s0, s1, s2] _ (by simp) (by show totK [s0, s1, s2] 3 ≤ _; omega) ?_ ?_).mono ?_
  · intro k s hks
    rw [World.cell?_alloc_new]
    match k, hks with
    | 0, hks => simp at hks; subst hks; rfl
    | 1, hks => simp at hks; subst hks; rfl
    | 2, hks => simp at hks; subst hks; rfl
    | k + 3, hks => simp at hks
  · intro s hs
    simp only [List.mem_cons, List.not_mem_nil, or_false] at hs
    rcases hs with rfl | rfl | rfl
    · exact h0.ke hk
    · exact h1.ke hk
    · exact h2.ke hk
  · rintro e w' ⟨v, rfl, ho, hw⟩
    have ho2 : w'.ownsRow (wd.alloc (.cells #[.slice s0.A s0.n s0.c, .slice s1.A s1.n s1.c, .slice s2.A s2.n s2.c] 24)).heap.size 9 1 v (totK [s0, s1, s2] 3) ((catK [s0, s1, s2] 3).map strV) := ho
    rw [e1, e2] at ho2
    exact ⟨v, rfl, by simpa using ho2, hk.trans hw⟩

set_option maxRecDepth 100000 in
set_option maxHeartbeats 2000000 in
theorem swap_any (p : ByteArray) (i : Int) (A : Option Addr) (n c : Nat) (M : List ByteArray) (w : World) (hp : p.size ≤ 2000) (hi1 : -9223372036854775808 ≤ i) (hi2 : i ≤ 9223372036854775807) (hs : Src w A n c M) (hn : n ≤ 1000) (hx : ∀ x ∈ M, x.size ≤ 2000) :
    Calls Try.prog 23 #[.string p, .int .i64 i, .slice A n c] w fun e w' => e = .returned (.string (swapS p i M)) ∧ Ke w w' := by
  have hl := splS_le p
  have hcc := hs.cap
  have HML := Lib.hid hs.len
  have HSRC := Lib.hid hs
  have HX := Lib.hid hx
  obtain ⟨hc1, hc2⟩ := hcc
  simp only [maxLen] at hc2
  clear hs hx
  by_cases hlo : i < 0
  · have HR := Lib.hid (show swapS p i M = p by unfold swapS; rw [if_neg (by omega)])
    go_enter Try.func23, Try.ntmps23
    go_wp2_with (go_at_call 8; ((with_reducible refine (split_any p _ (by omega)).mono ?_); rintro e w1 ⟨b, c0, rfl, hs, hbb, hk⟩))
    go_ret
    exact ⟨ret_str HR.out.symm, hk⟩
  by_cases hhi : i < (splS p).length
  · obtain ⟨k, rfl⟩ : ∃ k : Nat, i = (k : Int) := ⟨i.toNat, by omega⟩
    have hkl : k < (splS p).length := by omega
    have HR := Lib.hid (show swapS p k M = joiS (swapT p k M) by unfold swapS; rw [if_pos (by omega), Int.toNat_natCast])
    have HF := Lib.hid (swapT_few p k M hkl hp (by have := HML.out; omega) HX.out)
    clear hlo hhi
    go_enter Try.func23, Try.ntmps23
    go_wp2_with (go_at_call 8; ((with_reducible refine (split_any p _ (by omega)).mono ?_); rintro e w1 ⟨b, c0, rfl, hs, hbb, hk⟩))
    obtain ⟨a2, ht, hr2, hr3⟩ := cut_tail b _ c0 k _ w1 hs hkl
    have hh := cut_head b _ c0 k _ w1 hs (by omega)
    have hcm := hs.2.1
    have hcx := hs.2.2.1
    simp only [maxLen] at hcx
    have hr0 := run_head b (splS p).length c0 k (by omega)
    have hr1 := run_head2 b (splS p).length c0 k (by omega)
    have HH := Lib.hid hh
    have HT := Lib.hid ht
    have HK := Lib.hid hk
    clear hh ht hk hs
    have hwr : IntKind.i64.wrap ((k : Int) + 1) = (k : Int) + 1 := IntWalk.i64_in _ (by omega)
    refine region_tail 8 (by kernel_rfl) (by kernel_rfl) ?_
    intro wd hwd
    have hkd : Ke w1 wd := by rw [hwd]; exact (Ke.refl _).drew
    have HKD := Lib.hid hkd
    clear hwd hkd
    simp only [List.take_succ_cons, List.take_zero, List.drop_succ_cons, List.drop_zero]
    repeat still_step
    refine wpStill_nil ?_
    clear hwr
    have HC := Lib.hid (concat3 wd ⟨some ⟨b, 0, none⟩, k, c0, (splS p).take k⟩ ⟨A, n, c, M⟩ ⟨some a2, (splS p).length - (k + 1), c0 - (k + 1), (splS p).drop (k + 1)⟩
      (.inr ⟨_, rfl, HH.out.ke HKD.out⟩) (HSRC.out.ke (HK.out.trans HKD.out)) (.inr ⟨_, rfl, HT.out.ke HKD.out⟩) (by simp only; omega))
    go_wp2_with (go_at_call 28; ((with_reducible refine HC.out.mono ?_); rintro e w2 ⟨v, rfl, ho, hkw⟩))
    have HJ := Lib.hid (join_own _ _ v (swapT p k M) w2 ho HF.out)
    have HK2 := Lib.hid hkw
    clear ho hkw
    go_wp2_with (go_at_call 10; ((with_reducible refine HJ.out.mono ?_); rintro e w3 ⟨rfl, hk3⟩))
    go_ret
    exact ⟨ret_str HR.out.symm, HK.out.trans (HKD.out.trans (HK2.out.trans hk3))⟩
  · have HR := Lib.hid (show swapS p i M = p by unfold swapS; rw [if_neg (by omega)])
    go_enter Try.func23, Try.ntmps23
    go_wp2_with (go_at_call 8; ((with_reducible refine (split_any p _ (by omega)).mono ?_); rintro e w1 ⟨b, c0, rfl, hs, hbb, hk⟩))
    go_ret
    exact ⟨ret_str HR.out.symm, hk⟩
end Go.Proofs.Ytepjhijnihjedaa
