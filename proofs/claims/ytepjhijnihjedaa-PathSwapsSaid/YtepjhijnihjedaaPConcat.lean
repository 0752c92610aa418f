/-
  What is proved: slices.Grow of the nil slice, and slices.Concat of any slices of texts (a million texts at most in all), as the library's text has them, at texts: the result lies in a row of its own and holds the slices' texts, one slice behind the other; the world has new blocks at most.
-/
import Derived.Test.YtepjhijnihjedaaPJoin
import Derived.Lib.AppendZerosOnto
import Derived.Lib.AppendZeros
import Derived.Lib.SliceRun
import Derived.Lib.Walk
namespace Go.Proofs.Ytepjhijnihjedaa
open Go.RowKit

/-- A slice of texts, nil let in. -/
def Src (w : World) (A : Option Addr) (n c : Nat) (L : List ByteArray) : Prop := (A = none ∧ n = 0 ∧ c = 0 ∧ L = []) ∨ ∃ ad, A = some ad ∧ Sl w ad n c L
theorem Src.ke {w w' : World} {A : Option Addr} {n c : Nat} {L : List ByteArray} (h : Src w A n c L) (hk : Ke w w') : Src w' A n c L :=
  h.elim .inl fun ⟨ad, e, hs⟩ => .inr ⟨ad, e, hs.ke hk⟩
theorem Src.len {w : World} {A : Option Addr} {n c : Nat} {L : List ByteArray} (h : Src w A n c L) : L.length = n := by
  rcases h with ⟨_, rfl, _, rfl⟩ | ⟨ad, _, hs⟩
  · rfl
  · exact hs.1.symm
theorem Src.cap {w : World} {A : Option Addr} {n c : Nat} {L : List ByteArray} (h : Src w A n c L) : n ≤ c ∧ c ≤ maxLen := by
  rcases h with ⟨_, rfl, rfl, rfl⟩ | ⟨ad, _, hs⟩
  · exact ⟨Nat.le_refl _, by simp [maxLen]⟩
  · exact ⟨hs.2.1, hs.2.2.1⟩

theorem app_src (w : World) (base : Nat) (v : Value) (n : Nat) (xs : List Value) (h : w.ownsRow base 9 1 v n xs) (A : Option Addr) (m c : Nat) (L : List ByteArray) (hs : Src w A m c L) (hb : n + m ≤ 8000000000000) (hbase : base ≤ w.heap.size) :
    ∃ v' w', (Builtin.append_ #[24, 24] 24 #[v, .slice A m c]).run Try.prog w = .ok v' w' ∧ w'.ownsRow base 9 1 v' (n + m) (xs ++ L.map strV) ∧ w.grownBy w' v.ownBlock ∧ (v' = .slice none 0 0 → v = .slice none 0 0) := by
  obtain ⟨i0, hi0, hz0, hz1, hz2⟩ := info_parts infoStr
  rcases hs with ⟨rfl, rfl, rfl, rfl⟩ | ⟨ad, rfl, h1, h2, h3, h4, h5⟩
  · exact ⟨v, w, run_append_owned_none w base _ _ _ i0 1 Try.underlying24 hi0 v n xs h, by simpa using h, World.grownBy.refl w _, id⟩
  · obtain ⟨v', w', hr, ho, hg, hv⟩ := run_append_own (P := Try.prog) w base 24 24 9 i0 (.string ⟨#[]⟩) 1 16 Try.underlying24 hi0 hz0 hz1 hz2 rfl (by decide) v n xs h ad m c (L.map strV)
      (by rw [List.length_map, h1, Nat.mul_one]) (fun j u hj => by
        rw [List.getElem?_map] at hj
        obtain ⟨x, hx, rfl⟩ := Option.map_eq_some_iff.1 hj
        exact h5 j x hx) (strV_one _) (by simp only [maxLen]; omega) (by omega) hbase
    exact ⟨v', w', hr, ho, hg, fun e => (hv.1 e).1⟩

set_option maxRecDepth 100000 in
set_option maxHeartbeats 1000000 in
theorem grow_nil (n : Nat) (w : World) (hn : n ≤ 1000000) :
    Calls Try.prog 34 #[.slice none 0 0, .int .i64 n] w fun e w' => ∃ v, e = .returned v ∧ w'.ownsRow w.heap.size 9 1 v 0 [] ∧ Ke w w' := by
  rcases Nat.eq_zero_or_pos n with h0 | h0
  · subst h0
    go_enter Try.func34, Try.ntmps34
    go_wp2
    go_ret
    exact ⟨_, rfl, World.ownsRow_nil _ _ _ _, Ke.refl _⟩
  · obtain ⟨i0, hi0, hz0, hz1, hz2⟩ := info_parts infoStr
    have hrz := Lib.run_append_grow_zeros (P := Try.prog) w 24 3 24 9 i0 (.string ⟨#[]⟩) .i64 .i64 Try.underlying24 Try.underlying3 hi0 hz0 none 0 0 [] (run_firstCells_none w.drew i0.size 0 0 0) n h0 (by omega) (by omega) (by omega) (by rw [hz2]; omega)
      (growslice_fits (by omega) (by rw [hz2]; omega))
    have hG1 := grownCap_ge w (0 + n) 0 9
    have hG2 := grownCap_le_maxLen w (0 + n) 0 9 (by simp only [maxLen]; omega)
    generalize grownCap w (0 + n) 0 9 = G at hrz hG1 hG2
    have hsz : (([] : List Value).toArray ++ Builtin.zeroCells (Value.string ⟨#[]⟩).cells n ++ Builtin.zeroCells (Value.string ⟨#[]⟩).cells (G - (0 + n))).size = G := by
      rw [Array.size_append, Array.size_append, size_zeroCells, size_zeroCells]
      simp [Value.cells]; omega
    generalize ([] : List Value).toArray ++ Builtin.zeroCells (Value.string ⟨#[]⟩).cells n ++ Builtin.zeroCells (Value.string ⟨#[]⟩).cells (G - (0 + n)) = cs at hrz hsz
    rw [Nat.zero_add] at hrz hG1
    have HE := Lib.hid (show (w.drew.alloc (.cells cs 9)).ownsRow w.heap.size 9 1 (.slice (some ⟨w.heap.size, 0, none⟩) 0 G) 0 [] from
      World.ownsRow_made w.drew cs G (Nat.le_refl _) hG2 (by rw [hsz, Nat.mul_one]))
    have HRZ := Lib.hid hrz
    simp only [maxLen] at hG2
    clear hi0 hz0 hz1 hz2 hsz hrz
    go_enter Try.func34, Try.ntmps34
    go_wp2_with (at_builtin; refine Lib.wpList_append_run _ rfl _ _ _ _ rfl _ _ rfl rfl _ _ HRZ.out ?_)
    go_ret
    exact ⟨_, rfl, HE.out, ((Ke.refl _).drew).alloc _⟩

structure S4 where
  A : Option Addr
  n : Nat
  c : Nat
  L : List ByteArray
def totK (SS : List S4) (k : Nat) : Nat := ((SS.take k).map (·.n)).sum
def catK (SS : List S4) (k : Nat) : List ByteArray := (SS.take k).flatMap (·.L)
theorem totK_succ (SS : List S4) (k : Nat) (s : S4) (h : SS[k]? = some s) : totK SS (k + 1) = totK SS k + s.n := by
  unfold totK; rw [List.take_add_one, h]; simp
theorem catK_succ (SS : List S4) (k : Nat) (s : S4) (h : SS[k]? = some s) : catK SS (k + 1) = catK SS k ++ s.L := by
  unfold catK; rw [List.take_add_one, h]; simp
theorem totK_le (SS : List S4) (k : Nat) : totK SS k ≤ totK SS SS.length := by
  unfold totK
  rw [List.take_length]
  induction SS generalizing k with
  | nil => simp
  | cons a r ih =>
    cases k with
    | zero => simp
    | succ k => have := ih k; simp only [List.take_succ_cons, List.map_cons, List.sum_cons]; omega

set_option maxRecDepth 100000 in
set_option maxHeartbeats 2000000 in
theorem concat_any (bb : Nat) (SS : List S4) (w : World) (hN : SS.length ≤ 1000) (hT : totK SS SS.length ≤ 1000000)
    (hcell : ∀ k s, SS[k]? = some s → w.cell? ⟨bb, k, none⟩ = some (.slice s.A s.n s.c)) (hsrc : ∀ s ∈ SS, Src w s.A s.n s.c s.L) :
    Calls Try.prog 28 #[.slice (some ⟨bb, 0, none⟩) SS.length SS.length] w fun e w' => ∃ v, e = .returned v ∧ w'.ownsRow w.heap.size 9 1 v (totK SS SS.length) ((catK SS SS.length).map strV) ∧ Ke w w' := by
  have HC := Lib.hid hcell
  have HS := Lib.hid hsrc
  have HT := Lib.hid (totK_le SS)
  clear hcell hsrc
  go_enter Try.func28, Try.ntmps28
  go_wp2
  go_loop [3, 11] (fun s i => ∃ k : Nat, k ≤ SS.length ∧ i = .int .i64 k ∧ s = .int .i64 (totK SS k)) (fun _ i => SS.length - (intOf i).toNat)
  case atStart => exact ⟨0, Nat.zero_le _, rfl, rfl⟩
  case round =>
    obtain ⟨k, hk, rfl, rfl⟩ := hrel
    have ht := HT.out k
    by_cases hlt : k < SS.length
    · obtain ⟨s, hs⟩ : ∃ s, SS[k]? = some s := ⟨_, List.getElem?_eq_getElem hlt⟩
      have g := HC.out k s hs
      have hcp := (HS.out s (List.mem_of_getElem? hs)).cap
      have hc1 := hcp.1
      have hc2 := hcp.2
      simp only [maxLen] at hc2
      have ht2 := HT.out (k + 1)
      have HN := Lib.hid (totK_succ SS k s hs)
      have ht3 : totK SS k + s.n ≤ 1000000 := by have := HN.out; omega
      obtain ⟨sA, sn, sc, sL⟩ := s
      clear hs hcp ht2
      simp only at g hc1 hc2 ht3 HN
      go_wp2
      go_round
      case rel => exact ⟨k + 1, hlt, by go_num, by rw [HN.out]; go_num⟩
      case measure => simp [intOf]; omega
    · obtain rfl : k = SS.length := by omega
      clear ht
      go_wp2_with (go_at_call 34; ((with_reducible refine (grow_nil _ _ hT).mono ?_); rintro e w1 ⟨v0, rfl, ho0, hk0⟩))
      have HO := Lib.hid ho0
      have HK := Lib.hid hk0
      clear ho0 hk0
      go_loopw [6, 27] (fun v i wr => ∃ k : Nat, k ≤ SS.length ∧ i = .int .i64 k ∧ wr.ownsRow w.heap.size 9 1 v (totK SS k) ((catK SS k).map strV) ∧ Ke w wr) (fun _ i _ => SS.length - (intOf i).toNat)
      case atStart => exact ⟨0, Nat.zero_le _, rfl, HO.out, HK.out⟩
      case round =>
        obtain ⟨k, hk, rfl, ho, hkw⟩ := hrel
        have HO2 := Lib.hid ho
        have HK2 := Lib.hid hkw
        clear ho hkw
        have ht := HT.out k
        by_cases hlt : k < SS.length
        · obtain ⟨s, hs⟩ : ∃ s, SS[k]? = some s := ⟨_, List.getElem?_eq_getElem hlt⟩
          have g := HK2.out.at_ (HC.out k s hs)
          have HSR := Lib.hid ((HS.out s (List.mem_of_getElem? hs)).ke HK2.out)
          have hcp := HSR.out.cap
          have hc1 := hcp.1
          have hc2 := hcp.2
          simp only [maxLen] at hc2
          have ht2 := HT.out (k + 1)
          have HN := Lib.hid (totK_succ SS k s hs)
          have HM := Lib.hid (catK_succ SS k s hs)
          have ht3 : totK SS k + s.n ≤ 1000000 := by have := HN.out; omega
          obtain ⟨sA, sn, sc, sL⟩ := s
          clear hs hcp ht2
          simp only at g hc1 hc2 ht3 HN HSR HM
          obtain ⟨v1, w1, hr1, ho1, hg1, _⟩ := app_src _ _ _ _ _ HO2.out sA sn sc sL HSR.out (by omega) HK2.out.size
          have HR1 := Lib.hid hr1
          have HO3 := Lib.hid ho1
          have HK3 := Lib.hid (show Ke w w1 from Below.grown HK2.out hg1 HK2.out.size fun j hj => (HO2.out.lt j hj).1)
          clear hr1 ho1 hg1
          go_wp2_with (at_builtin; refine Lib.wpList_append_run _ rfl _ _ _ _ rfl _ _ rfl rfl _ _ HR1.out ?_)
          go_roundw
          case rel =>
            refine ⟨k + 1, hlt, by go_num, ?_, HK3.out⟩
            rw [HN.out, HM.out, List.map_append]
            exact HO3.out
          case measure => simp [intOf]; omega
        · obtain rfl : k = SS.length := by omega
          clear ht
          go_wp2
          go_ret
          exact ⟨_, rfl, HO2.out, HK2.out⟩
end Go.Proofs.Ytepjhijnihjedaa
