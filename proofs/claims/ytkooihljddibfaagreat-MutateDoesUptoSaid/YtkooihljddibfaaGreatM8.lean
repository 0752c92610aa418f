/-
  What is proved: slices.Grow of the nil slice, and slices.Concat of any slices of dots (a million dots at most in all), as the library's text has them, at dots: the result lies in a row of its own and holds the slices' dots, one slice behind the other; the world has new blocks at most.
  dot.With, called with any rising slice of dots that lies in memory and any dot, returns the slice's dots with that one at its place (P5.5); the world has new blocks at most.
  words for memory that layer 6's contracts use: a slice of ints that lies in memory ('Il'), append of such onto a row of the call's own, and what a world that has all that another one has keeps of it.
  the document's at, Has, Same and Most of layer 6, called with any sets that lie in memory, return what P6.2, P6.8 and P6.10 say; the world has new blocks at most.
  this program bears the library's slices.SortFunc at dots: its numbers here, laid for the library's contract.
-/
import Derived.Test.YtkooihljddibfaaGreatM7
import Derived.Maps.AppendAt
import Derived.Shelf.SlSortCmp.NoneTotal
import Derived.Test.YtkooihljddibfaaGreatProg
namespace Go.Proofs.YtkooihljddibfaaGreat
open Go.RowKit

set_option maxRecDepth 100000 in
set_option maxHeartbeats 1000000 in
theorem grow_nilD (n : Nat) (w : World) (hn : n ≤ 1000000) :
    Calls Tryz.prog 93 #[.slice none 0 0, .int .i64 n] w fun e w' => ∃ v, e = .returned v ∧ w'.ownsRow w.heap.size 30 2 v 0 [] ∧ Kept w w' := by
  rcases Nat.eq_zero_or_pos n with h0 | h0
  · subst h0
    go_enter Tryz.func93, Tryz.ntmps93
    go_wp2
    go_ret
    exact ⟨_, rfl, World.ownsRow_nil _ _ _ _, Kept.refl _⟩
  · obtain ⟨i0, hi0, hz0, hz1, hz2⟩ := info_parts infoDot
    have hrz := Lib.run_append_grow_zeros (P := Tryz.prog) w 24 3 24 30 i0 (.agg #[.int .i64 0, .int .i64 0]) .i64 .i64 Tryz.underlying24 Tryz.underlying3 hi0 hz0 none 0 0 [] (run_firstCells_none w.drew i0.size 0 0 0) n h0 (by omega) (by omega) (by omega) (by rw [hz2]; omega)
      (growslice_fits (by omega) (by rw [hz2]; omega))
    have hG1 := grownCap_ge w (0 + n) 0 30
    have hG2 := grownCap_le_maxLen w (0 + n) 0 30 (by simp only [maxLen]; omega)
    generalize grownCap w (0 + n) 0 30 = G at hrz hG1 hG2
    have hsz : (([] : List Value).toArray ++ Builtin.zeroCells (Value.agg #[.int .i64 0, .int .i64 0]).cells n ++ Builtin.zeroCells (Value.agg #[.int .i64 0, .int .i64 0]).cells (G - (0 + n))).size = G * 2 := by
      rw [Array.size_append, Array.size_append, size_zeroCells, size_zeroCells]
      simp [Value.cells]; omega
    generalize ([] : List Value).toArray ++ Builtin.zeroCells (Value.agg #[.int .i64 0, .int .i64 0]).cells n ++ Builtin.zeroCells (Value.agg #[.int .i64 0, .int .i64 0]).cells (G - (0 + n)) = cs at hrz hsz
    rw [Nat.zero_add] at hrz hG1
    have HE := Lib.hid (show (w.drew.alloc (.cells cs 30)).ownsRow w.heap.size 30 2 (.slice (some ⟨w.heap.size, 0, none⟩) 0 G) 0 [] from
      World.ownsRow_made w.drew cs G (Nat.le_refl _) hG2 (by rw [hsz]))
    have HRZ := Lib.hid hrz
    simp only [maxLen] at hG2
    clear hi0 hz0 hz1 hz2 hsz hrz
    go_enter Tryz.func93, Tryz.ntmps93
    go_wp2_with (at_builtin; refine Lib.wpList_append_run _ rfl _ _ _ _ rfl _ _ rfl rfl _ _ HRZ.out ?_)
    go_ret
    exact ⟨_, rfl, HE.out, ((Kept.refl _).drew).alloc _ _⟩

structure SD where
  A : Option Addr
  n : Nat
  c : Nat
  L : List (Int × Int)
def totD (SS : List SD) (k : Nat) : Nat := ((SS.take k).map (·.n)).sum
def catD (SS : List SD) (k : Nat) : List (Int × Int) := (SS.take k).flatMap (·.L)
theorem totD_succ (SS : List SD) (k : Nat) (s : SD) (h : SS[k]? = some s) : totD SS (k + 1) = totD SS k + s.n := by
  unfold totD; rw [List.take_add_one, h]; simp
theorem catD_succ (SS : List SD) (k : Nat) (s : SD) (h : SS[k]? = some s) : catD SS (k + 1) = catD SS k ++ s.L := by
  unfold catD; rw [List.take_add_one, h]; simp
theorem totD_le (SS : List SD) (k : Nat) : totD SS k ≤ totD SS SS.length := by
  unfold totD
  rw [List.take_length]
  induction SS generalizing k with
  | nil => simp
  | cons a r ih =>
    cases k with
    | zero => simp
    | succ k => have := ih k; simp only [List.take_succ_cons, List.map_cons, List.sum_cons]; omega

set_option maxRecDepth 100000 in
set_option maxHeartbeats 2000000 in
theorem dconcat_any (bb : Nat) (SS : List SD) (w : World) (hN : SS.length ≤ 1000) (hT : totD SS SS.length ≤ 1000000)
    (hcell : ∀ k s, SS[k]? = some s → w.cell? ⟨bb, k, none⟩ = some (.slice s.A s.n s.c)) (hsrc : ∀ s ∈ SS, Dl w s.A s.n s.c s.L) :
    Calls Tryz.prog 81 #[.slice (some ⟨bb, 0, none⟩) SS.length SS.length] w fun e w' => ∃ v, e = .returned v ∧ w'.ownsRow w.heap.size 30 2 v (totD SS SS.length) (flatD (catD SS SS.length)) ∧ Kept w w' := by
  have HC := Lib.hid hcell
  have HS := Lib.hid hsrc
  have HT := Lib.hid (totD_le SS)
  clear hcell hsrc
  go_enter Tryz.func81, Tryz.ntmps81
  go_wp2
  go_loop [3, 11] (fun s i => ∃ k : Nat, k ≤ SS.length ∧ i = .int .i64 k ∧ s = .int .i64 (totD SS k)) (fun _ i => SS.length - (intOf i).toNat)
  case atStart => exact ⟨0, Nat.zero_le _, rfl, rfl⟩
  case round =>
    obtain ⟨k, hk, rfl, rfl⟩ := hrel
    have ht := HT.out k
    by_cases hlt : k < SS.length
    · obtain ⟨s, hs⟩ : ∃ s, SS[k]? = some s := ⟨_, List.getElem?_eq_getElem hlt⟩
      have g := HC.out k s hs
      have hcp := (HS.out s (List.mem_of_getElem? hs)).cap
      have hc1 := hcp.1
      have hc2 := hcp.2
      have ht2 := HT.out (k + 1)
      have HN := Lib.hid (totD_succ SS k s hs)
      have ht3 : totD SS k + s.n ≤ 1000000 := by have := HN.out; omega
      obtain ⟨sA, sn, sc, sL⟩ := s
      clear hs hcp ht2
      simp only at g hc1 hc2 ht3 HN
      go_wp2
      go_round
      case rel => exact ⟨k + 1, hlt, by go_num, by rw [HN.out]; go_num⟩
      case measure => simp [intOf]; omega
    · obtain rfl : k = SS.length := by omega
      clear ht
      go_wp2_with (go_at_call 93; ((with_reducible refine (grow_nilD _ _ hT).mono ?_); rintro e w1 ⟨v0, rfl, ho0, hk0⟩))
      have HO := Lib.hid ho0
      have HK := Lib.hid hk0
      clear ho0 hk0
      go_loopw [6, 27] (fun v i wr => ∃ k : Nat, k ≤ SS.length ∧ i = .int .i64 k ∧ wr.ownsRow w.heap.size 30 2 v (totD SS k) (flatD (catD SS k)) ∧ Kept w wr) (fun _ i _ => SS.length - (intOf i).toNat)
      case atStart => exact ⟨0, Nat.zero_le _, rfl, HO.out, HK.out⟩
      case round =>
        obtain ⟨k, hk, rfl, ho, hkw⟩ := hrel
        have HO2 := Lib.hid ho
        have HK2 := Lib.hid hkw
        clear ho hkw
        have ht := HT.out k
        by_cases hlt : k < SS.length
        · obtain ⟨s, hs⟩ : ∃ s, SS[k]? = some s := ⟨_, List.getElem?_eq_getElem hlt⟩
          have g := HK2.out.cell (HC.out k s hs)
          have HSR := Lib.hid ((HS.out s (List.mem_of_getElem? hs)).kept HK2.out)
          have hcp := HSR.out.cap
          have hc1 := hcp.1
          have hc2 := hcp.2
          have ht2 := HT.out (k + 1)
          have HN := Lib.hid (totD_succ SS k s hs)
          have HM := Lib.hid (catD_succ SS k s hs)
          have ht3 : totD SS k + s.n ≤ 1000000 := by have := HN.out; omega
          obtain ⟨sA, sn, sc, sL⟩ := s
          clear hs hcp ht2
          simp only at g hc1 hc2 ht3 HN HSR HM
          obtain ⟨v1, w1, hr1, ho1, hg1⟩ := app_dots _ _ _ _ _ HO2.out sA sn sc sL HSR.out (by omega) HK2.out.2.2
          have HR1 := Lib.hid hr1
          have HO3 := Lib.hid ho1
          have HK3 := Lib.hid (kept_grown HK2.out hg1 fun j hj => (HO2.out.lt j hj).1)
          clear hr1 ho1 hg1
          go_wp2_with (at_builtin; refine Lib.wpList_append_run _ rfl _ _ _ _ rfl _ _ rfl rfl _ _ HR1.out ?_)
          go_roundw
          case rel =>
            refine ⟨k + 1, hlt, by go_num, ?_, HK3.out⟩
            rw [HN.out, HM.out, flatD_app]
            exact HO3.out
          case measure => simp [intOf]; omega
        · obtain rfl : k = SS.length := by omega
          clear ht
          go_wp2
          go_ret
          exact ⟨_, rfl, HO2.out, HK2.out⟩
end Go.Proofs.YtkooihljddibfaaGreat

namespace Go.Proofs.YtkooihljddibfaaGreat
open Go.RowKit

theorem sizeD (W : World) : (Go.sizeOf (Tryz.prog.elem 24)).run Tryz.prog W = .ok 2 W := by kernel_rfl
theorem dl_head {w : World} {A : Option Addr} {n c k : Nat} {L : List (Int × Int)} (h : Dl w A n c L) (hk : k ≤ n) : Dl w A k c (L.take k) := by
  obtain ⟨h1, h2, h3, h4, h5⟩ := h
  refine ⟨by rw [List.length_take]; omega, by omega, h3, h4, ?_⟩
  rcases h5 with h0 | ⟨b, o, hA, hc⟩
  · exact .inl (by omega)
  · refine .inr ⟨b, o, hA, fun j x hj => hc j x ?_⟩
    rw [List.getElem?_take] at hj
    split at hj
    · exact hj
    · cases hj
theorem run_dhead (A : Option Addr) (n c k : Nat) (hk : k ≤ c) (W : World) :
    (Instr.slice 24 (.slice A n c) none (some (.int .i64 (k : Int))) none).run Tryz.prog W = .ok (.slice A k c) W := by
  rw [run_slice_h W 24 _ n c (by kernel_rfl) .i64 (k : Int) (by omega) (by omega), sizeD]
  cases A <;> simp [Result.andThen, sliced, Addr.add]
theorem run_dhead2 (A : Option Addr) (n c k : Nat) (hk : k ≤ c) (W : World) :
    (Instr.sliceAt 24 (.slice A n c) none (some (.int .i64 (k : Int))) none).run Tryz.prog W = .ok (.slice A k c) W := by
  rw [run_sliceAt_slice W _ _ _ _ _ (by kernel_rfl)]; exact run_dhead A n c k hk W
theorem dl_tail {w : World} {A : Option Addr} {n c k : Nat} {L : List (Int × Int)} (h : Dl w A n c L) (hk : k ≤ n) : ∃ A2, Dl w A2 (n - k) (c - k) (L.drop k) ∧
    (∀ W : World, (Instr.slice 24 (.slice A n c) (some (.int .i64 (k : Int))) none none).run Tryz.prog W = .ok (.slice A2 (n - k) (c - k)) W) ∧
    (∀ W : World, (Instr.sliceAt 24 (.slice A n c) (some (.int .i64 (k : Int))) none none).run Tryz.prog W = .ok (.slice A2 (n - k) (c - k)) W) := by
  obtain ⟨h1, h2, h3, h4, h5⟩ := h
  have hr : ∀ W : World, (Instr.slice 24 (.slice A n c) (some (.int .i64 (k : Int))) none none).run Tryz.prog W = .ok (.slice (if c = k then A else A.map (·.add (k * 2))) (n - k) (c - k)) W := fun W => by
    rw [run_slice_l W 24 _ n c (by kernel_rfl) .i64 (k : Int) (by omega) (by omega), sizeD]
    simp only [Result.andThen, sliced, Int.toNat_natCast]
  refine ⟨_, ?_, hr, fun W => by rw [run_sliceAt_slice W _ _ _ _ _ (by kernel_rfl)]; exact hr W⟩
  refine ⟨by rw [List.length_drop]; omega, by omega, by omega, fun he => ?_, ?_⟩
  · by_cases hc : c = k
    · omega
    · rw [if_neg hc, Option.map_eq_none_iff] at he
      have := h4 he
      omega
  · rcases h5 with h0 | ⟨b, o, hA, hc⟩
    · exact .inl (by omega)
    · by_cases hkn : k = n
      · exact .inl (by omega)
      · refine .inr ⟨b, o + k * 2, ?_, fun j x hj => ?_⟩
        · rw [if_neg (by omega), hA, Option.map_some, Addr.add_lit]
        · rw [List.getElem?_drop] at hj
          have := hc _ x hj
          rw [show o + k * 2 + j * 2 = o + (k + j) * 2 by omega]
          exact this

theorem dl_one (w : World) (x1 x2 : Int) (t : TypeId) : Dl (w.alloc (.cells #[.int .i64 x1, .int .i64 x2] t)) (some ⟨w.heap.size, 0, none⟩) 1 1 [(x1, x2)] := by
  refine ⟨rfl, Nat.le_refl _, by simp [maxLen], (fun h => by cases h), .inr ⟨w.heap.size, 0, rfl, fun j x hj => ?_⟩⟩
  match j, hj with
  | 0, hj =>
    obtain rfl : (x1, x2) = x := by simpa using hj
    exact ⟨by rw [World.cell?_alloc_new]; rfl, by rw [World.cell?_alloc_new]; rfl⟩
  | j + 1, hj => simp at hj

theorem concat3D (wd : World) (hb : Nat) (he : wd.heap.size = hb) (s0 s1 s2 : SD) (h0 : Dl wd s0.A s0.n s0.c s0.L) (h1 : Dl wd s1.A s1.n s1.c s1.L) (h2 : Dl wd s2.A s2.n s2.c s2.L) (hT : s0.n + s1.n + s2.n ≤ 1000000) (t : TypeId) :
    Calls Tryz.prog 81 #[.slice (some ⟨hb, 0, none⟩) 3 3] (wd.alloc (.cells #[.slice s0.A s0.n s0.c, .slice s1.A s1.n s1.c, .slice s2.A s2.n s2.c] t))
      fun e w' => ∃ v, e = .returned v ∧ w'.ownsRow (hb + 1) 30 2 v (s0.n + s1.n + s2.n) (flatD (s0.L ++ s1.L ++ s2.L)) ∧ Kept wd w' := by
  subst he
  have hk := (Kept.refl wd).alloc #[.slice s0.A s0.n s0.c, .slice s1.A s1.n s1.c, .slice s2.A s2.n s2.c] t
  have e1 : totD [s0, s1, s2] 3 = s0.n + s1.n + s2.n := by simp [totD]; omega
  have e2 : catD [s0, s1, s2] 3 = s0.L ++ s1.L ++ s2.L := by simp [catD]
  refine (dconcat_any wd.heap.size [s0, s1, s2] _ (by simp) (by show totD [s0, s1, s2] 3 ≤ _; omega) ?_ ?_).mono ?_
  · intro k s hks
    rw [World.cell?_alloc_new]
    match k, hks with
    | 0, hks => simp at hks; subst hks; rfl
    | 1, hks => simp at hks; subst hks; rfl
    | 2, hks => simp at hks; subst hks; rfl
    | k + 3, hks => simp at hks
  · intro s hs
    simp only [List.mem_cons, List.not_mem_nil, or_false] at hs
    rcases hs with rfl | rfl | rfl
    · exact h0.kept hk
    · exact h1.kept hk
    · exact h2.kept hk
  · rintro e w' ⟨v, rfl, ho, hw⟩
    have ho2 : w'.ownsRow (wd.alloc (.cells #[.slice s0.A s0.n s0.c, .slice s1.A s1.n s1.c, .slice s2.A s2.n s2.c] t)).heap.size 30 2 v (totD [s0, s1, s2] 3) (flatD (catD [s0, s1, s2] 3)) := ho
    rw [e1, e2] at ho2
    exact ⟨v, rfl, by simpa using ho2, hk.trans hw⟩

/-- What With leaves. -/
def Withs (A0 : Option Addr) (L : List (Int × Int)) (x : Int × Int) (w : World) (e : Ending) (w' : World) : Prop :=
  ∃ A m c X, e = .returned (.slice A m c) ∧ Dl w' A m c X ∧ WithD L x X ∧ m ≤ L.length + 1 ∧ Kept w w' ∧ (A = A0 ∨ ∀ ad, A = some ad → w.heap.size ≤ ad.block)

set_option maxRecDepth 100000 in
set_option maxHeartbeats 1000000 in
theorem dwith_yes (A : Option Addr) (n c : Nat) (L : List (Int × Int)) (x1 x2 : Int) (w : World) (h : Dl w A n c L) (hr : Rise L) (hn : n ≤ 1000000) (hm : (x1, x2) ∈ L) :
    Calls Tryz.prog 75 #[.slice A n c, .agg #[.int .i64 x1, .int .i64 x2]] w (Withs A L (x1, x2) w) := by
  have hz : decide ((x1, x2) ∈ L) = true := by simpa using hm
  have HM := Lib.hid (WithD.self hr hm)
  have HD := Lib.hid h
  have HL := Lib.hid h.1
  have HS := Lib.hid (search_any A n c L x1 x2 (w.alloc (.cells #[.int .i64 x1, .int .i64 x2] 30)) (h.kept ((Kept.refl _).alloc _ _)) hr hn)
  rw [hz] at HS
  clear h hr hm hz
  go_enter Tryz.func75, Tryz.ntmps75
  go_wp2_with fail
  go_at_call 70
  refine HS.out.mono ?_
  rintro e w1 ⟨k, rfl, hk, _, _, hkp⟩
  have HK := Lib.hid (((Kept.refl w).alloc #[.int .i64 x1, .int .i64 x2] 30).trans hkp)
  clear hkp
  go_wp2_with fail
  go_at_call 90
  refine (clone_any A n c L _ (HD.out.kept HK.out) hn).mono ?_
  rintro e w2 ⟨v, rfl, ho, hk2⟩
  obtain ⟨A2, c2, rfl, hd, hf⟩ := Dl.of_own' ho
  have HF := Lib.hid hf
  have HE := Lib.hid hd
  have HK2 := Lib.hid hk2
  clear ho hd hk2 hf
  go_wp2_with fail
  go_ret
  exact ⟨A2, n, c2, L, rfl, HE.out, HM.out, by have := HL.out; omega, HK.out.trans HK2.out, .inr fun ad e => Nat.le_trans HK.out.2.2 (HF.out ad e)⟩

set_option maxRecDepth 100000 in
set_option maxHeartbeats 1000000 in
theorem dwith_no (A : Option Addr) (n c : Nat) (L : List (Int × Int)) (x1 x2 : Int) (w : World) (h : Dl w A n c L) (hr : Rise L) (hn : n ≤ 999999) (hm : (x1, x2) ∉ L) :
    Calls Tryz.prog 75 #[.slice A n c, .agg #[.int .i64 x1, .int .i64 x2]] w (Withs A L (x1, x2) w) := by
  have hz : decide ((x1, x2) ∈ L) = false := by simpa using hm
  have hcap := h.cap.1
  have hcap2 := h.cap.2
  have HR := Lib.hid hr
  have HD := Lib.hid h
  have HL := Lib.hid h.1
  have HS := Lib.hid (search_any A n c L x1 x2 (w.alloc (.cells #[.int .i64 x1, .int .i64 x2] 30)) (h.kept ((Kept.refl _).alloc _ _)) hr (by omega))
  rw [hz] at HS
  have HM := Lib.hid hm
  clear h hr hm hz
  go_enter Tryz.func75, Tryz.ntmps75
  go_wp2_with fail
  go_at_call 70
  refine HS.out.mono ?_
  rintro e w1 ⟨k, rfl, hk, hlo, hhi, hkp⟩
  have HW := Lib.hid (WithD.put HR.out k hlo (hhi HM.out))
  have d0 := KExt.cell hkp.box0
  have d1 := KExt.cell hkp.box1
  have HK := Lib.hid (((Kept.refl w).alloc #[.int .i64 x1, .int .i64 x2] 30).trans hkp)
  have HD1 := Lib.hid (HD.out.kept HK.out)
  have HH := Lib.hid (dl_head HD1.out hk)
  obtain ⟨A2, ht, hr2, hr3⟩ := dl_tail HD1.out hk
  have hr0 := run_dhead A n c k (by omega)
  have hr1 := run_dhead2 A n c k (by omega)
  have HT := Lib.hid ht
  clear hkp hlo hhi ht
  go_wp2_with fail
  refine region_mix w1 [([0, 1, 2, 3, 5, 6, 7], some 4), ([], some 8), ([], some 9), ([10], none)] (by kernel_rfl) (by kernel_rfl) (by kernel_rfl) (by kernel_rfl) (fun _ d _ _ _ h => by cases d <;> exact h) (Kept.refl _) ?_
  intro wd hwd
  rw [wpMix_call]
  simp only [pickOps_cons, pickOps_nil, consO_some, List.getElem?_cons_zero, List.getElem?_cons_succ]
  repeat (go_big_quiet_step (fail))
  refine wpQuiet_nil ?_
  go_wp2_with fail
  refine soloQ_both (hwd.alloc _ _) ?_
  have HA := Lib.hid ((Kept.refl wd).alloc #[.int .i64 x1, .int .i64 x2] 30)
  have HC := Lib.hid (concat3D (wd.alloc (.cells #[.int .i64 x1, .int .i64 x2] 30)) (wd.heap.size + 1) (by simp) ⟨A, k, c, L.take k⟩ ⟨some ⟨wd.heap.size, 0, none⟩, 1, 1, [(x1, x2)]⟩ ⟨A2, n - k, c - k, L.drop k⟩
    (HH.out.kept (hwd.trans HA.out)) (dl_one wd x1 x2 _) (HT.out.kept (hwd.trans HA.out)) (by simp only; omega) 24)
  have HWD := Lib.hid hwd
  clear hwd
  rw [wpMix_call]
  simp only [pickOps_cons, pickOps_nil, consO_some, List.getElem?_cons_zero, List.getElem?_cons_succ]
  refine wpQuiet_nil ?_
  go_wp2_with fail
  refine soloQ_both ((HWD.out.alloc _ _).alloc _ _) ?_
  rw [wpMix_call]
  simp only [pickOps_cons, pickOps_nil, consO_some, List.getElem?_cons_zero, List.getElem?_cons_succ]
  refine wpQuiet_nil ?_
  go_wp2_with (go_at_call 81; ((with_reducible refine HC.out.mono ?_); rintro e w2 ⟨v, rfl, ho, hkw⟩))
  obtain ⟨A3, c3, rfl, hd, hf⟩ := Dl.of_own' ho
  have HF := Lib.hid hf
  have HD3 := Lib.hid hd
  have HK3 := Lib.hid (HWD.out.trans (HA.out.trans hkw))
  clear ho hd hkw hf
  refine soloQ_both HK3.out ?_
  rw [wpMix_read]
  simp only [pickOps_cons, pickOps_nil, consO_some, List.getElem?_cons_zero, List.getElem?_cons_succ]
  repeat (go_big_quiet_step (fail))
  refine wpQuiet_nil ?_
  refine wpMix_nil ?_
  go_wp2_with fail
  go_ret
  exact ⟨A3, _, c3, L.take k ++ [(x1, x2)] ++ L.drop k, rfl, HD3.out, by rw [List.append_assoc]; exact HW.out, by have := HL.out; omega, HK.out.trans HK3.out, .inr fun ad e => by have := HF.out ad e; have := (HK.out.trans HWD.out).2.2; omega⟩

theorem dwith_any (A : Option Addr) (n c : Nat) (L : List (Int × Int)) (x1 x2 : Int) (w : World) (h : Dl w A n c L) (hr : Rise L) (hn : n ≤ 999999) :
    Calls Tryz.prog 75 #[.slice A n c, .agg #[.int .i64 x1, .int .i64 x2]] w (Withs A L (x1, x2) w) := by
  by_cases hm : (x1, x2) ∈ L
  · exact dwith_yes A n c L x1 x2 w h hr (by omega) hm
  · exact dwith_no A n c L x1 x2 w h hr hn hm
end Go.Proofs.YtkooihljddibfaaGreat

namespace Go.Proofs.YtkooihljddibfaaGreat
open Go.RowKit

def Il (w : World) (A : Option Addr) (n c : Nat) (V : List Int) : Prop :=
  n = V.length ∧ n ≤ c ∧ c ≤ maxLen ∧ (A = none → c = 0) ∧ (n = 0 ∨ ∃ b o, A = some ⟨b, o, none⟩ ∧ ∀ j x, V[j]? = some x → w.cell? ⟨b, o + j, none⟩ = some (.int .i64 x))
theorem Il.kept {w w' : World} {A : Option Addr} {n c : Nat} {V : List Int} (h : Il w A n c V) (hk : Kept w w') : Il w' A n c V :=
  ⟨h.1, h.2.1, h.2.2.1, h.2.2.2.1, h.2.2.2.2.imp id fun ⟨b, o, hA, hc⟩ => ⟨b, o, hA, fun j x hj => hk.cell (hc j x hj)⟩⟩
theorem Il.nil (w : World) : Il w none 0 0 [] := ⟨rfl, Nat.le_refl _, Nat.zero_le _, fun _ => rfl, .inl rfl⟩
theorem Il.cap {w : World} {A : Option Addr} {n c : Nat} {V : List Int} (h : Il w A n c V) : n ≤ c ∧ c ≤ 9223372036854775807 := ⟨h.2.1, h.2.2.1⟩
theorem Il.get {w : World} {A : Option Addr} {n c : Nat} {V : List Int} (h : Il w A n c V) {k : Nat} (hk : k < n) :
    ∃ b o x, A = some ⟨b, o, none⟩ ∧ V[k]? = some x ∧ w.cell? ⟨b, o + k, none⟩ = some (.int .i64 x) := by
  have hl : k < V.length := by rw [← h.1]; exact hk
  rcases h.2.2.2.2 with h0 | ⟨b, o, hA, hc⟩
  · omega
  · exact ⟨b, o, V[k], hA, List.getElem?_eq_getElem hl, hc k V[k] (List.getElem?_eq_getElem hl)⟩

/-- The cells of ints. -/
def intsV (V : List Int) : List Value := V.map fun x => .int .i64 x
theorem intsV_app (V W : List Int) : intsV (V ++ W) = intsV V ++ intsV W := List.map_append
theorem intsV_len (V : List Int) : (intsV V).length = V.length := List.length_map ..
theorem intsV_one (V : List Int) : ∀ u ∈ intsV V, u.oneCell' = true := by
  intro u hu
  obtain ⟨x, _, rfl⟩ := List.mem_map.1 hu
  rfl
theorem intsV_get {V : List Int} {j : Nat} {x : Int} (h : V[j]? = some x) : (intsV V)[j]? = some (.int .i64 x) := by
  unfold intsV; rw [List.getElem?_map, h]; rfl
theorem Il.of_own {w : World} {base n : Nat} {e : TypeId} {v : Value} {V : List Int} (h : w.ownsRow base e 1 v n (intsV V)) : ∃ A c, v = .slice A n c ∧ Il w A n c V := by
  have hl : n = V.length := by have := h.1; rw [intsV_len] at this; omega
  have hc := fun g (hg : v.ownBlock = some g) => h.cells (g := g) hg
  rcases h.2 with ⟨rfl, h0⟩ | ⟨g, cap, cur, rfl, hb, hg, h1, h2, _⟩
  · subst h0
    exact ⟨none, 0, rfl, hl, Nat.le_refl _, Nat.zero_le _, fun _ => rfl, .inl rfl⟩
  · refine ⟨some ⟨g, 0, none⟩, cap, rfl, hl, h1, h2, fun h => by simp at h, .inr ⟨g, 0, rfl, fun j x hj => ?_⟩⟩
    have := hc g rfl _ _ (intsV_get hj)
    rwa [Addr.add_lit] at this
theorem infoI : (Tryz.prog.info? 3).map (fun i => (i.zero, i.size, i.bytes)) = some (some (.int .i64 0), 1, 8) := by kernel_rfl
theorem app_ints (w : World) (base : Nat) (v : Value) (n : Nat) (xs : List Value) (h : w.ownsRow base 3 1 v n xs) (A : Option Addr) (m c : Nat) (V : List Int) (hs : Il w A m c V) (hb : n + m ≤ 8000000000000) (hbase : base ≤ w.heap.size) :
    ∃ v' w', (Builtin.append_ #[23, 23] 23 #[v, .slice A m c]).run Tryz.prog w = .ok v' w' ∧ w'.ownsRow base 3 1 v' (n + m) (xs ++ intsV V) ∧ w.grownBy w' v.ownBlock ∧ (v'.ownBlock = v.ownBlock ∨ v'.ownBlock = some w.heap.size) := by
  obtain ⟨i0, hi0, hz0, hz1, hz2⟩ := info_parts infoI
  cases A with
  | none =>
    obtain rfl := hs.2.2.2.1 rfl
    obtain rfl : m = 0 := by have := hs.2.1; omega
    have hV : V = [] := List.eq_nil_of_length_eq_zero hs.1.symm
    subst hV
    exact ⟨v, w, run_append_owned_none w base _ _ _ i0 1 Tryz.underlying23 hi0 v n xs h, by simpa [intsV] using h, World.grownBy.refl w _, .inl rfl⟩
  | some ad =>
    obtain ⟨v', w', hr, ho, hg, _, hat⟩ := run_append_own_at (P := Tryz.prog) w base 23 23 3 i0 (.int .i64 0) 1 8 Tryz.underlying23 hi0 hz0 hz1 hz2 rfl (by decide) v n xs h ad m c (intsV V)
      (by rw [intsV_len, hs.1, Nat.mul_one]) (fun j u hj => by
        unfold intsV at hj
        rw [List.getElem?_map] at hj
        obtain ⟨x, hx, rfl⟩ := Option.map_eq_some_iff.1 hj
        have hkl := (List.getElem?_eq_some_iff.1 hx).1
        obtain ⟨b, o, y, hA, hy, c1⟩ := hs.get (k := j) (by rw [hs.1]; exact hkl)
        obtain rfl : y = x := Option.some.inj (hy.symm.trans hx)
        obtain rfl := Option.some.inj hA
        rw [Addr.add_lit]
        exact c1) (intsV_one _) (by simp only [maxLen]; omega) (by omega) hbase
    exact ⟨v', w', hr, ho, hg, hat⟩
theorem il_head {w : World} {A : Option Addr} {n c k : Nat} {V : List Int} (h : Il w A n c V) (hk : k ≤ n) : Il w A k c (V.take k) := by
  obtain ⟨h1, h2, h3, h4, h5⟩ := h
  refine ⟨by rw [List.length_take]; omega, by omega, h3, h4, ?_⟩
  rcases h5 with h0 | ⟨b, o, hA, hc⟩
  · exact .inl (by omega)
  · refine .inr ⟨b, o, hA, fun j x hj => hc j x ?_⟩
    rw [List.getElem?_take] at hj
    split at hj
    · exact hj
    · cases hj
theorem sizeI (W : World) : (Go.sizeOf (Tryz.prog.elem 23)).run Tryz.prog W = .ok 1 W := by kernel_rfl
theorem run_ihead (A : Option Addr) (n c k : Nat) (hk : k ≤ c) (W : World) :
    (Instr.slice 23 (.slice A n c) none (some (.int .i64 (k : Int))) none).run Tryz.prog W = .ok (.slice A k c) W := by
  rw [run_slice_h W 23 _ n c (by kernel_rfl) .i64 (k : Int) (by omega) (by omega), sizeI]
  cases A <;> simp [Result.andThen, sliced, Addr.add]
theorem run_ihead2 (A : Option Addr) (n c k : Nat) (hk : k ≤ c) (W : World) :
    (Instr.sliceAt 23 (.slice A n c) none (some (.int .i64 (k : Int))) none).run Tryz.prog W = .ok (.slice A k c) W := by
  rw [run_sliceAt_slice W _ _ _ _ _ (by kernel_rfl)]; exact run_ihead A n c k hk W
end Go.Proofs.YtkooihljddibfaaGreat

namespace Go.Proofs.YtkooihljddibfaaGreat
open Go.RowKit

set_option maxRecDepth 100000 in
theorem at_any (A : Option Addr) (n c : Nat) (V : List Int) (B : Option Addr) (m k : Nat) (r : Int) (w : World) (h : Il w A n c V) :
    Calls Tryz.prog 52 #[.agg #[.slice A n c, .slice B m k], .int .i64 r] w fun e w' => e = .returned (.int .i64 (atV V r)) ∧ Kept w w' := by
  have hcap := h.cap.1
  have hcap2 := h.cap.2
  rcases Int.lt_or_le r 0 with h0 | h0
  · have HR := Lib.hid (show 0 = atV V r from (atV_neg V h0).symm)
    clear h
    have d1 : decide (r < 0) = true := by simpa using h0
    go_enter Tryz.func52, Tryz.ntmps52
    go_wp2
    go_ret
    exact ⟨ret_int HR.out, (Kept.refl _).alloc _ _⟩
  · obtain ⟨j, rfl⟩ : ∃ j : Nat, r = j := ⟨r.toNat, by omega⟩
    have d1 : decide ((j : Int) < 0) = false := by rw [decide_eq_false_iff_not]; omega
    by_cases hj : j < n
    · obtain ⟨b, o, x, rfl, hx, g⟩ := (h.kept ((Kept.refl w).alloc #[.slice A n c, .slice B m k] 26)).get hj
      have HR := Lib.hid (show x = atV V j from (atV_in hx).symm)
      have d2 : decide ((n : Int) ≤ (j : Int)) = false := by rw [decide_eq_false_iff_not]; omega
      have d3 : decide (n ≤ j) = false := by rw [decide_eq_false_iff_not]; omega
      clear h hx h0
      go_enter Tryz.func52, Tryz.ntmps52
      go_wp2
      go_ret
      exact ⟨ret_int HR.out, (Kept.refl _).alloc _ _⟩
    · have HR := Lib.hid (show 0 = atV V j from (atV_out V (by have := h.1; omega)).symm)
      have d2 : decide ((n : Int) ≤ (j : Int)) = true := by rw [decide_eq_true_iff]; omega
      have d3 : decide (n ≤ j) = true := by rw [decide_eq_true_iff]; omega
      clear h h0
      go_enter Tryz.func52, Tryz.ntmps52
      go_wp2
      go_ret
      exact ⟨ret_int HR.out, (Kept.refl _).alloc _ _⟩
theorem at_c (A : Option Addr) (n c : Nat) (V : List Int) (B : Option Addr) (m k : Nat) (r x : Int) (hx : atV V r = x) (w : World) (h : Il w A n c V) :
    Calls Tryz.prog 52 #[.agg #[.slice A n c, .slice B m k], .int .i64 r] w fun e w' => e = .returned (.int .i64 x) ∧ Kept w w' := by
  subst hx; exact at_any A n c V B m k r w h

def hasB (V : List Int) (C : List (Int × Int)) (d : Int × Int) : Bool := decide (hasC V C d)
set_option maxRecDepth 100000 in
set_option maxHeartbeats 1000000 in
theorem rhasC_any (A : Option Addr) (n c : Nat) (V : List Int) (B : Option Addr) (m k : Nat) (C : List (Int × Int)) (x1 x2 : Int) (w : World) (h : Il w A n c V) (hd : Dl w B m k C) (r : Bool) (hr : decide (hasC V C (x1, x2)) = r) :
    Calls Tryz.prog 23 #[.agg #[.slice A n c, .slice B m k], .agg #[.int .i64 x1, .int .i64 x2]] w fun e w' => e = .returned (.bool r) ∧ Kept w w' := by
  have hK := ((Kept.refl w).alloc #[.slice A n c, .slice B m k] 26).alloc #[.int .i64 x1, .int .i64 x2] 30
  have c0 := KExt.cell (((Kept.refl (w.alloc (.cells #[.slice A n c, .slice B m k] 26))).alloc #[.int .i64 x1, .int .i64 x2] 30).box0)
  have c1 := KExt.cell (((Kept.refl (w.alloc (.cells #[.slice A n c, .slice B m k] 26))).alloc #[.int .i64 x1, .int .i64 x2] 30).box1)
  have c2 := KExt.cell (Kept.box0 (Kept.refl ((w.alloc (.cells #[.slice A n c, .slice B m k] 26)).alloc (.cells #[.int .i64 x1, .int .i64 x2] 30))))
  have c3 := KExt.cell (Kept.box1 (Kept.refl ((w.alloc (.cells #[.slice A n c, .slice B m k] 26)).alloc (.cells #[.int .i64 x1, .int .i64 x2] 30))))
  rw [show (w.alloc (.cells #[.slice A n c, .slice B m k] 26)).heap.size = w.heap.size + 1 by simp] at c2 c3
  obtain ⟨t, ht⟩ : ∃ t, atV V x1 = t := ⟨_, rfl⟩
  obtain ⟨z, hz⟩ : ∃ z, decide ((x1, x2) ∈ C) = z := ⟨_, rfl⟩
  have AA := Lib.hid (fun w h => at_c A n c V B m k x1 t ht w h)
  have AH := Lib.hid (fun w h => rhas_c B m k C (x1, x2) z hz w h)
  have HI := Lib.hid (h.kept hK)
  have HD := Lib.hid (hd.kept hK)
  have HK := Lib.hid hK
  have hrr : r = ((decide (1 ≤ x2) && decide (x2 ≤ t)) || z) := by
    rw [← hr, ← ht, ← hz, Bool.eq_iff_iff, decide_eq_true_iff]
    unfold hasC
    simp only [Bool.or_eq_true, Bool.and_eq_true, decide_eq_true_iff]
  clear h hd hK ht hz hr
  by_cases h1 : 1 ≤ x2
  · have d1 : decide (1 ≤ x2) = true := by simpa using h1
    by_cases h2 : x2 ≤ t
    · have d2 : decide (x2 ≤ t) = true := by simpa using h2
      have HR := Lib.hid (show true = r by rw [hrr, d1, d2]; rfl)
      clear hrr h1 h2
      go_enter Tryz.func23, Tryz.ntmps23
      go_wp2_with fail
      refine region_kept _ (by kernel_rfl) (by kernel_rfl) (Kept.refl _) ?_
      repeat (go_big_quiet_step ((first
        | (go_at_call 52; (with_reducible exact KExt.callsK (AA.out _ (HI.out.kept (KExt.g _)))))
        | (go_at_call 53; (with_reducible exact KExt.callsK (AH.out _ (HD.out.kept (KExt.g _)))))
        | fail)))
      refine wpQuiet_nil ?_
      intro G
      go_wp2_with fail
      go_ret
      exact ⟨ret_bool HR.out, HK.out.trans G.g⟩
    · have d2 : decide (x2 ≤ t) = false := by simpa using h2
      have HR := Lib.hid (show z = r by rw [hrr, d1, d2]; rfl)
      clear hrr h1 h2
      go_enter Tryz.func23, Tryz.ntmps23
      go_wp2_with fail
      refine region_kept _ (by kernel_rfl) (by kernel_rfl) (Kept.refl _) ?_
      repeat (go_big_quiet_step ((first
        | (go_at_call 52; (with_reducible exact KExt.callsK (AA.out _ (HI.out.kept (KExt.g _)))))
        | (go_at_call 53; (with_reducible exact KExt.callsK (AH.out _ (HD.out.kept (KExt.g _)))))
        | fail)))
      refine wpQuiet_nil ?_
      intro G
      go_wp2_with fail
      go_ret
      exact ⟨ret_bool HR.out, HK.out.trans G.g⟩
  · have d1 : decide (1 ≤ x2) = false := by simpa using h1
    have HR := Lib.hid (show z = r by rw [hrr, d1]; rfl)
    clear hrr h1
    go_enter Tryz.func23, Tryz.ntmps23
    go_wp2_with fail
    refine region_kept _ (by kernel_rfl) (by kernel_rfl) (Kept.refl _) ?_
    repeat (go_big_quiet_step ((first
      | (go_at_call 52; (with_reducible exact KExt.callsK (AA.out _ (HI.out.kept (KExt.g _)))))
      | (go_at_call 53; (with_reducible exact KExt.callsK (AH.out _ (HD.out.kept (KExt.g _)))))
      | fail)))
    refine wpQuiet_nil ?_
    intro G
    go_wp2_with fail
    go_ret
    exact ⟨ret_bool HR.out, HK.out.trans G.g⟩
end Go.Proofs.YtkooihljddibfaaGreat

namespace Go.Proofs
open Go.Shelf
def Tryz.sortDots_ren : Go.Shelf.Ren := ⟨fun | 6 => 97 | 15 => 103 | 14 => 102 | 28 => 113 | 29 => 114 | 20 => 105 | 21 => 106 | 22 => 107 | 23 => 108 | 24 => 109 | 25 => 110 | 26 => 111 | 27 => 112 | 46 => 119 | 47 => 120 | 48 => 121 | 49 => 122 | 50 => 123 | 57 => 126 | n => n, fun | 22 => 24 | 24 => 30 | 25 => 70 | 3 => 3 | 39 => 46 | 0 => 0 | 53 => 115 | 55 => 117 | 4 => 4 | 46 => 109 | 45 => 108 | 50 => 68 | 5 => 5 | 9 => 9 | 66 => 119 | 70 => 123 | 76 => 127 | 77 => 128 | n => n, fun | n => n⟩
theorem Tryz.sortDots : Go.Proofs.SlLaysF0.n6 Tryz.prog Tryz.sortDots_ren := {
  mixed := by kernel_rfl
  f6 := ⟨Tryz.f97.name, by decide, Tryz.func97.trans (congrArg some (by kernel_rfl))⟩
  f14 := ⟨Tryz.f102.name, by decide, Tryz.func102.trans (congrArg some (by kernel_rfl))⟩
  f15 := Tryz.func103.trans (congrArg some (by kernel_rfl))
  f20 := ⟨Tryz.f105.name, by decide, Tryz.func105.trans (congrArg some (by kernel_rfl))⟩
  f21 := ⟨Tryz.f106.name, by decide, Tryz.func106.trans (congrArg some (by kernel_rfl))⟩
  f22 := ⟨Tryz.f107.name, by decide, Tryz.func107.trans (congrArg some (by kernel_rfl))⟩
  f23 := ⟨Tryz.f108.name, by decide, Tryz.func108.trans (congrArg some (by kernel_rfl))⟩
  f24 := ⟨Tryz.f109.name, by decide, Tryz.func109.trans (congrArg some (by kernel_rfl))⟩
  f25 := ⟨Tryz.f110.name, by decide, Tryz.func110.trans (congrArg some (by kernel_rfl))⟩
  f26 := ⟨Tryz.f111.name, by decide, Tryz.func111.trans (congrArg some (by kernel_rfl))⟩
  f27 := ⟨Tryz.f112.name, by decide, Tryz.func112.trans (congrArg some (by kernel_rfl))⟩
  f28 := Tryz.func113.trans (congrArg some (by kernel_rfl))
  f29 := Tryz.func114.trans (congrArg some (by kernel_rfl))
  f46 := ⟨Tryz.f119.name, by decide, Tryz.func119.trans (congrArg some (by kernel_rfl))⟩
  f47 := Tryz.func120.trans (congrArg some (by kernel_rfl))
  f48 := Tryz.func121.trans (congrArg some (by kernel_rfl))
  f49 := ⟨Tryz.f122.name, by decide, Tryz.func122.trans (congrArg some (by kernel_rfl))⟩
  f50 := ⟨Tryz.f123.name, by decide, Tryz.func123.trans (congrArg some (by kernel_rfl))⟩
  f57 := ⟨Tryz.f126.name, by decide, Tryz.func126.trans (congrArg some (by kernel_rfl))⟩
  t0 := Tryz.underlying0
  a0 := Tryz.isAgg0
  z0 := Tryz.sizeOf0
  v0 := Tryz.zeroValue0
  t3 := Tryz.underlying3
  a3 := Tryz.isAgg3
  z3 := Tryz.sizeOf3
  v3 := Tryz.zeroValue3
  t4 := Tryz.underlying4
  a4 := Tryz.isAgg4
  z4 := Tryz.sizeOf4
  v4 := Tryz.zeroValue4
  t5 := Tryz.underlying5
  a5 := Tryz.isAgg5
  z5 := Tryz.sizeOf5
  v5 := Tryz.zeroValue5
  t9 := Tryz.underlying9
  a9 := Tryz.isAgg9
  z9 := Tryz.sizeOf9
  v9 := Tryz.zeroValue9
  t22 := Tryz.underlying24
  a22 := Tryz.isAgg24
  z22 := Tryz.sizeOf24
  v22 := Tryz.zeroValue24
  t25 := Tryz.underlying70
  a25 := Tryz.isAgg70
  z25 := Tryz.sizeOf70
  v25 := Tryz.zeroValue70
  t39 := Tryz.underlying46
  a39 := Tryz.isAgg46
  z39 := Tryz.sizeOf46
  v39 := Tryz.zeroValue46
  t45 := Tryz.underlying108
  a45 := Tryz.isAgg108
  z45 := Tryz.sizeOf108
  v45 := Tryz.zeroValue108
  t46 := Tryz.underlying109
  a46 := Tryz.isAgg109
  z46 := Tryz.sizeOf109
  v46 := Tryz.zeroValue109
  t50 := Tryz.underlying68
  a50 := Tryz.isAgg68
  z50 := Tryz.sizeOf68
  v50 := Tryz.zeroValue68
  t53 := Tryz.underlying115
  a53 := Tryz.isAgg115
  z53 := Tryz.sizeOf115
  v53 := Tryz.zeroValue115
  t55 := Tryz.underlying117
  a55 := Tryz.isAgg117
  z55 := Tryz.sizeOf117
  v55 := Tryz.zeroValue117
  t66 := Tryz.underlying119
  a66 := Tryz.isAgg119
  z66 := Tryz.sizeOf119
  v66 := Tryz.zeroValue119
  t70 := Tryz.underlying123
  a70 := Tryz.isAgg123
  z70 := Tryz.sizeOf123
  v70 := Tryz.zeroValue123
  t76 := Tryz.underlying127
  a76 := Tryz.isAgg127
  z76 := Tryz.sizeOf127
  v76 := Tryz.zeroValue127
  t77 := Tryz.underlying128
  a77 := Tryz.isAgg128
  z77 := Tryz.sizeOf128
  v77 := Tryz.zeroValue128 }
end Go.Proofs

