/-
  What is proved: dot.Sort, called with any slice of dots that lies in memory, returns all of its dots, rising, each once (P5.6); the world has new blocks at most.
-/
import Derived.Test.YtgofecnpmohmgaaDCompact
namespace Go.Proofs.Ytgofecnpmohmgaa
open Go.RowKit Go.Lib

theorem compact_rise (d : Array (Int × Int)) (hs : ∀ i j, i < j → j < d.size → ¬ LtD d[j]! d[i]!) : ∀ m, m ≤ d.size → Rise (compactUpTo d m) ∧ ∀ x, x ∈ compactUpTo d m ↔ ∃ j, j < m ∧ d[j]! = x
  | 0, _ => ⟨rise_nil, fun x => ⟨fun h => by simp [compactUpTo] at h, fun ⟨j, hj, _⟩ => absurd hj (by omega)⟩⟩
  | m + 1, hm => by
    obtain ⟨ih1, ih2⟩ := compact_rise d hs m (by omega)
    rw [compactUpTo_succ]
    cases hk : keeps d m with
    | true =>
      rw [if_pos rfl]
      refine ⟨?_, fun x => ?_⟩
      · unfold Rise
        rw [List.pairwise_append]
        refine ⟨ih1, List.pairwise_singleton _ _, fun x hx y hy => ?_⟩
        obtain rfl : y = d[m]! := by simpa using hy
        obtain ⟨j, hj, rfl⟩ := (ih2 x).1 hx
        have h1 := hs j m hj (by omega)
        rcases LtD.tri d[j]! d[m]! with h | h | h
        · exact h
        · exfalso
          have h2 : m ≠ 0 := by omega
          have h3 : d[m]! ≠ d[m - 1]! := by
            unfold keeps at hk
            rw [decide_eq_true_iff] at hk
            exact hk.resolve_left h2
          rcases Nat.lt_or_ge j (m - 1) with h4 | h4
          · have h5 := hs j (m - 1) h4 (by omega)
            have h6 := hs (m - 1) m (by omega) (by omega)
            rw [h] at h5
            rcases LtD.tri d[m - 1]! d[m]! with h | h | h
            · exact h5 h
            · exact h3 h.symm
            · exact h6 h
          · rw [show j = m - 1 by omega] at h
            exact h3 h.symm
        · exact absurd h h1
      · rw [List.mem_append, ih2]
        constructor
        · rintro (⟨j, hj, e⟩ | h)
          · exact ⟨j, by omega, e⟩
          · exact ⟨m, by omega, (List.mem_singleton.1 h).symm⟩
        · rintro ⟨j, hj, e⟩
          rcases Nat.lt_or_ge j m with h | h
          · exact .inl ⟨j, h, e⟩
          · obtain rfl : j = m := by omega
            exact .inr (List.mem_singleton.2 e.symm)
    | false =>
      rw [if_neg (by simp), List.append_nil]
      refine ⟨ih1, fun x => ?_⟩
      rw [ih2]
      unfold keeps at hk
      rw [decide_eq_false_iff_not] at hk
      have h0 : m ≠ 0 := fun e => hk (.inl e)
      have h1 : d[m]! = d[m - 1]! := Classical.byContradiction fun e => hk (.inr e)
      constructor
      · rintro ⟨j, hj, e⟩; exact ⟨j, by omega, e⟩
      · rintro ⟨j, hj, e⟩
        rcases Nat.lt_or_ge j m with h | h
        · exact ⟨j, h, e⟩
        · obtain rfl : j = m := by omega
          exact ⟨j - 1, by omega, by rw [← h1]; exact e⟩
theorem compact_sort {L : List (Int × Int)} {d : Array (Int × Int)} (hp : d.toList.Perm L) (hs : ∀ i j, i < j → j < d.size → ¬ LtD d[j]! d[i]!) : SortD L (compactUpTo d d.size) := by
  obtain ⟨h1, h2⟩ := compact_rise d hs d.size (Nat.le_refl _)
  refine ⟨h1, fun x => ?_⟩
  rw [h2, ← hp.mem_iff]
  constructor
  · rintro ⟨j, hj, rfl⟩
    rw [getElem!_pos d j hj]
    exact Array.getElem_mem_toList hj
  · intro hx
    obtain ⟨j, hj, e⟩ := List.getElem_of_mem hx
    have hj' : j < d.size := by simpa using hj
    exact ⟨j, hj', by rw [getElem!_pos d j hj']; simpa using e⟩
theorem compact_len (d : Array (Int × Int)) (m : Nat) : (compactUpTo d m).length ≤ m := by
  unfold compactUpTo
  rw [List.length_map]
  exact Nat.le_trans (List.length_filter_le _ _) (by simp)

theorem compact_none (A : Option Addr) (cap : Nat) (w : World) :
    Calls Try.prog 71 #[.slice A 0 cap] w fun e w' => e = .returned (.slice A 0 cap) ∧ w' = w := by
  go_enter Try.func71, Try.ntmps71
  go_wp2
  go_ret
  exact ⟨rfl, rfl⟩

/-- What Sort leaves. -/
def Sorts (L : List (Int × Int)) (w : World) (e : Ending) (w' : World) : Prop :=
  ∃ A m c X, e = .returned (.slice A m c) ∧ Dl w' A m c X ∧ SortD L X ∧ m ≤ L.length ∧ Kept w w' ∧ ∀ ad, A = some ad → w.heap.size ≤ ad.block

set_option maxRecDepth 100000 in
set_option maxHeartbeats 1000000 in
theorem dsort_any (A : Option Addr) (n c : Nat) (L : List (Int × Int)) (w : World) (h : Dl w A n c L) (hn : n ≤ 1000000) :
    Calls Try.prog 36 #[.slice A n c] w (Sorts L w) := by
  have HL := Lib.hid h.1
  have HC := Lib.hid (clone_any A n c L w h hn)
  clear h
  go_enter Try.func36, Try.ntmps36
  go_wp2_with fail
  go_at_call 69
  refine HC.out.mono ?_
  rintro e w1 ⟨v, rfl, ho, hk⟩
  by_cases h0 : n = 0
  · subst h0
    obtain ⟨A1, c1, rfl, hd1, hf1⟩ := Dl.of_own' ho
    have HF := Lib.hid hf1
    have HD := Lib.hid hd1
    have HK := Lib.hid hk
    clear hd1 hk ho hf1
    go_wp2_with (first
      | (go_at_call 70; refine (sortF_none _ _ _).mono ?_; rintro e w2 ⟨rfl, rfl⟩)
      | (go_at_call 71; refine (compact_none _ _ _).mono ?_; rintro e w2 ⟨rfl, rfl⟩))
    go_ret
    have hL : L = [] := List.eq_nil_of_length_eq_zero HL.out.symm
    subst hL
    exact ⟨A1, 0, c1, [], rfl, HD.out, ⟨rise_nil, fun x => Iff.rfl⟩, Nat.zero_le _, HK.out, HF.out⟩
  · obtain ⟨g, cap, rfl, hb, hcap⟩ : ∃ g cap, v = .slice (some ⟨g, 0, none⟩) n cap ∧ w.heap.size ≤ g ∧ n ≤ cap ∧ cap ≤ maxLen := by
      rcases ho.2 with ⟨_, e⟩ | ⟨g, cap, cur, rfl, hb, _, h1, h2, _⟩
      · exact absurd e h0
      · exact ⟨g, cap, rfl, hb, h1, h2⟩
    have hds : L.toArray.size = n := by rw [List.size_toArray]; exact HL.out.symm
    have HO := Lib.hid (Own.of_owns ho)
    have HK := Lib.hid hk
    have hS := sortF_any g cap L.toArray w1 w HO.out (by omega) (by omega) HK.out hb
    rw [hds] at hS
    have HS := Lib.hid hS
    clear ho hk hS
    go_wp2_with fail
    go_at_call 70
    refine HS.out.mono ?_
    rintro e w2 ⟨rfl, d2, hz, hp, hr, ho2, hk2⟩
    have hM := compact_any g cap d2 w2 w (by omega) (by omega) ho2 hk2 hb
    rw [show d2.size = n by omega] at hM
    have HM := Lib.hid hM
    have HP := Lib.hid (compact_sort hp hr)
    have HZ := Lib.hid hz
    clear hM hp hr ho2 hk2 hz HS
    go_wp2_with fail
    go_at_call 71
    refine HM.out.mono ?_
    rintro e w3 ⟨rfl, hc3, hk3⟩
    go_wp2_with fail
    go_ret
    have hlen := compact_len d2 d2.size
    have hz2 := HZ.out
    have hcm := hcap.2
    refine ⟨some ⟨g, 0, none⟩, (compactUpTo d2 d2.size).length, cap, compactUpTo d2 d2.size, rfl, ⟨rfl, by omega, hcap.2, fun h => by simp at h, .inr ⟨g, 0, rfl, fun j x hj => ?_⟩⟩, HP.out, by rw [← HL.out]; omega, hk3, fun ad e => by obtain rfl := Option.some.inj e; exact hb⟩
    rw [Nat.zero_add]
    exact hc3 j x hj
end Go.Proofs.Ytgofecnpmohmgaa
