/-
  What is proved: slices.Grow of the nil slice, and slices.Concat of any slices of dots (a million dots at most in all), as the library's text has them, at dots: the result lies in a row of its own and holds the slices' dots, one slice behind the other; the world has new blocks at most.
-/
import Derived.Test.YtgofecnpmohmgaaDLib
namespace Go.Proofs.Ytgofecnpmohmgaa
open Go.RowKit

set_option maxRecDepth 100000 in
set_option maxHeartbeats 1000000 in
theorem grow_nilD (n : Nat) (w : World) (hn : n ≤ 1000000) :
    Calls Try.prog 77 #[.slice none 0 0, .int .i64 n] w fun e w' => ∃ v, e = .returned v ∧ w'.ownsRow w.heap.size 36 2 v 0 [] ∧ Kept w w' := by
  rcases Nat.eq_zero_or_pos n with h0 | h0
  · subst h0
    go_enter Try.func77, Try.ntmps77
    go_wp2
    go_ret
    exact ⟨_, rfl, World.ownsRow_nil _ _ _ _, Kept.refl _⟩
  · obtain ⟨i0, hi0, hz0, hz1, hz2⟩ := info_parts infoDot
    have hrz := Lib.run_append_grow_zeros (P := Try.prog) w 23 3 23 36 i0 (.agg #[.int .i64 0, .int .i64 0]) .i64 .i64 Try.underlying23 Try.underlying3 hi0 hz0 none 0 0 [] (run_firstCells_none w.drew i0.size 0 0 0) n h0 (by omega) (by omega) (by omega) (by rw [hz2]; omega)
      (growslice_fits (by omega) (by rw [hz2]; omega))
    have hG1 := grownCap_ge w (0 + n) 0 36
    have hG2 := grownCap_le_maxLen w (0 + n) 0 36 (by simp only [maxLen]; omega)
    generalize grownCap w (0 + n) 0 36 = G at hrz hG1 hG2
    have hsz : (([] : List Value).toArray ++ Builtin.zeroCells (Value.agg #[.int .i64 0, .int .i64 0]).cells n ++ Builtin.zeroCells (Value.agg #[.int .i64 0, .int .i64 0]).cells (G - (0 + n))).size = G * 2 := by
      rw [Array.size_append, Array.size_append, size_zeroCells, size_zeroCells]
      simp [Value.cells]; omega
    generalize ([] : List Value).toArray ++ Builtin.zeroCells (Value.agg #[.int .i64 0, .int .i64 0]).cells n ++ Builtin.zeroCells (Value.agg #[.int .i64 0, .int .i64 0]).cells (G - (0 + n)) = cs at hrz hsz
    rw [Nat.zero_add] at hrz hG1
    have HE := Lib.hid (show (w.drew.alloc (.cells cs 36)).ownsRow w.heap.size 36 2 (.slice (some ⟨w.heap.size, 0, none⟩) 0 G) 0 [] from
      World.ownsRow_made w.drew cs G (Nat.le_refl _) hG2 (by rw [hsz]))
    have HRZ := Lib.hid hrz
    simp only [maxLen] at hG2
    clear hi0 hz0 hz1 hz2 hsz hrz
    go_enter Try.func77, Try.ntmps77
    go_wp2_with (at_builtin; refine Lib.wpList_append_run _ rfl _ _ _ _ rfl _ _ rfl rfl _ _ HRZ.out ?_)
    go_ret
    exact ⟨_, rfl, HE.out, ((Kept.refl _).drew).alloc _ _⟩

structure SD where
  A : Option Addr
  n : Nat
  c : Nat
  L : List (Int × Int)
def totD (SS : List SD) (k : Nat) : Nat := ((SS.take k).map (·.n)).sum
def catD (SS : List SD) (k : Nat) : List (Int × Int) := (SS.take k).flatMap (·.L)
theorem totD_succ (SS : List SD) (k : Nat) (s : SD) (h : SS[k]? = some s) : totD SS (k + 1) = totD SS k + s.n := by
  unfold totD; rw [List.take_add_one, h]; simp
theorem catD_succ (SS : List SD) (k : Nat) (s : SD) (h : SS[k]? = some s) : catD SS (k + 1) = catD SS k ++ s.L := by
  unfold catD; rw [List.take_add_one, h]; simp
theorem totD_le (SS : List SD) (k : Nat) : totD SS k ≤ totD SS SS.length := by
  unfold totD
  rw [List.take_length]
  induction SS generalizing k with
  | nil => simp
  | cons a r ih =>
    cases k with
    | zero => simp
    | succ k => have := ih k; simp only [List.take_succ_cons, List.map_cons, List.sum_cons]; omega

set_option maxRecDepth 100000 in
set_option maxHeartbeats 2000000 in
theorem dconcat_any (bb : Nat) (SS : List SD) (w : World) (hN : SS.length ≤ 1000) (hT : totD SS SS.length ≤ 1000000)
    (hcell : ∀ k s, SS[k]? = some s → w.cell? ⟨bb, k, none⟩ = some (.slice s.A s.n s.c)) (hsrc : ∀ s ∈ SS, Dl w s.A s.n s.c s.L) :
    Calls Try.prog 56 #[.slice (some ⟨bb, 0, none⟩) SS.length SS.length] w fun e w' => ∃ v, e = .returned v ∧ w'.ownsRow w.heap.size 36 2 v (totD SS SS.length) (flatD (catD SS SS.length)) ∧ Kept w w' := by
  have HC := Lib.hid hcell
  have HS := Lib.hid hsrc
  have HT := Lib.hid (totD_le SS)
  clear hcell hsrc
  go_enter Try.func56, Try.ntmps56
  go_wp2
  go_loop [3, 11] (fun s i => ∃ k : Nat, k ≤ SS.length ∧ i = .int .i64 k ∧ s = .int .i64 (totD SS k)) (fun _ i => SS.length - (intOf i).toNat)
  case atStart => exact ⟨0, Nat.zero_le _, rfl, rfl⟩
  case round =>
    obtain ⟨k, hk, rfl, rfl⟩ := hrel
    have ht := HT.out k
    by_cases hlt : k < SS.length
    · obtain ⟨s, hs⟩ : ∃ s, SS[k]? = some s := ⟨_, List.getElem?_eq_getElem hlt⟩
      have g := HC.out k s hs
      have hcp := (HS.out s (List.mem_of_getElem? hs)).cap
      have hc1 := hcp.1
      have hc2 := hcp.2
      have ht2 := HT.out (k + 1)
      have HN := Lib.hid (totD_succ SS k s hs)
      have ht3 : totD SS k + s.n ≤ 1000000 := by have := HN.out; omega
      obtain ⟨sA, sn, sc, sL⟩ := s
      clear hs hcp ht2
      simp only at g hc1 hc2 ht3 HN
      go_wp2
      go_round
      case rel => exact ⟨k + 1, hlt, by go_num, by rw [HN.out]; go_num⟩
      case measure => simp [intOf]; omega
    · obtain rfl : k = SS.length := by omega
      clear ht
      go_wp2_with (go_at_call 77; ((with_reducible refine (grow_nilD _ _ hT).mono ?_); rintro e w1 ⟨v0, rfl, ho0, hk0⟩))
      have HO := Lib.hid ho0
      have HK := Lib.hid hk0
      clear ho0 hk0
      go_loopw [6, 27] (fun v i wr => ∃ k : Nat, k ≤ SS.length ∧ i = .int .i64 k ∧ wr.ownsRow w.heap.size 36 2 v (totD SS k) (flatD (catD SS k)) ∧ Kept w wr) (fun _ i _ => SS.length - (intOf i).toNat)
      case atStart => exact ⟨0, Nat.zero_le _, rfl, HO.out, HK.out⟩
      case round =>
        obtain ⟨k, hk, rfl, ho, hkw⟩ := hrel
        have HO2 := Lib.hid ho
        have HK2 := Lib.hid hkw
        clear ho hkw
        have ht := HT.out k
        by_cases hlt : k < SS.length
        · obtain ⟨s, hs⟩ : ∃ s, SS[k]? = some s := ⟨_, List.getElem?_eq_getElem hlt⟩
          have g := HK2.out.cell (HC.out k s hs)
          have HSR := Lib.hid ((HS.out s (List.mem_of_getElem? hs)).kept HK2.out)
          have hcp := HSR.out.cap
          have hc1 := hcp.1
          have hc2 := hcp.2
          have ht2 := HT.out (k + 1)
          have HN := Lib.hid (totD_succ SS k s hs)
          have HM := Lib.hid (catD_succ SS k s hs)
          have ht3 : totD SS k + s.n ≤ 1000000 := by have := HN.out; omega
          obtain ⟨sA, sn, sc, sL⟩ := s
          clear hs hcp ht2
          simp only at g hc1 hc2 ht3 HN HSR HM
          obtain ⟨v1, w1, hr1, ho1, hg1⟩ := app_dots _ _ _ _ _ HO2.out sA sn sc sL HSR.out (by omega) HK2.out.2.2
          have HR1 := Lib.hid hr1
          have HO3 := Lib.hid ho1
          have HK3 := Lib.hid (kept_grown HK2.out hg1 fun j hj => (HO2.out.lt j hj).1)
          clear hr1 ho1 hg1
          go_wp2_with (at_builtin; refine Lib.wpList_append_run _ rfl _ _ _ _ rfl _ _ rfl rfl _ _ HR1.out ?_)
          go_roundw
          case rel =>
            refine ⟨k + 1, hlt, by go_num, ?_, HK3.out⟩
            rw [HN.out, HM.out, flatD_app]
            exact HO3.out
          case measure => simp [intOf]; omega
        · obtain rfl : k = SS.length := by omega
          clear ht
          go_wp2
          go_ret
          exact ⟨_, rfl, HO2.out, HK2.out⟩
end Go.Proofs.Ytgofecnpmohmgaa
