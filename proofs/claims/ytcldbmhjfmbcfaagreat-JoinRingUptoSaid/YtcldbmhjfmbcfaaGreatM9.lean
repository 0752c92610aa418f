/-
  What is proved: dot.With, called with any rising slice of dots that lies in memory and any dot, returns the slice's dots with that one at its place (P5.5); the world has new blocks at most.
  words for memory that layer 6's contracts use: a slice of ints that lies in memory ('Il'), append of such onto a row of the call's own, and what a world that has all that another one has keeps of it.
  the document's at, Has, Same and Most of layer 6, called with any sets that lie in memory, return what P6.2, P6.8 and P6.10 say; the world has new blocks at most.
  this program bears the library's slices.SortFunc at dots: its numbers here, laid for the library's contract.
  slices.SortFunc at dots, with dot.Cmp, over a row of the call's own: the row holds the same dots, rising or level; all else is kept.
-/
import Derived.Test.YtcldbmhjfmbcfaaGreatM8
import Derived.Test.YtcldbmhjfmbcfaaGreatM7
import Derived.Maps.AppendAt
import Derived.Shelf.SlSortCmp.NoneTotal
import Derived.Test.YtcldbmhjfmbcfaaGreatProg
import Derived.Test.YtcldbmhjfmbcfaaGreatM6
namespace Go.Proofs.YtcldbmhjfmbcfaaGreat
open Go.RowKit

theorem sizeD (W : World) : (Go.sizeOf (Tryz.prog.elem 27)).run Tryz.prog W = .ok 2 W := by kernel_rfl
theorem dl_head {w : World} {A : Option Addr} {n c k : Nat} {L : List (Int × Int)} (h : Dl w A n c L) (hk : k ≤ n) : Dl w A k c (L.take k) := by
  obtain ⟨h1, h2, h3, h4, h5⟩ := h
  refine ⟨by rw [List.length_take]; omega, by omega, h3, h4, ?_⟩
  rcases h5 with h0 | ⟨b, o, hA, hc⟩
  · exact .inl (by omega)
  · refine .inr ⟨b, o, hA, fun j x hj => hc j x ?_⟩
    rw [List.getElem?_take] at hj
    split at hj
    · exact hj
    · cases hj
theorem run_dhead (A : Option Addr) (n c k : Nat) (hk : k ≤ c) (W : World) :
    (Instr.slice 27 (.slice A n c) none (some (.int .i64 (k : Int))) none).run Tryz.prog W = .ok (.slice A k c) W := by
  rw [run_slice_h W 27 _ n c (by kernel_rfl) .i64 (k : Int) (by omega) (by omega), sizeD]
  cases A <;> simp [Result.andThen, sliced, Addr.add]
theorem run_dhead2 (A : Option Addr) (n c k : Nat) (hk : k ≤ c) (W : World) :
    (Instr.sliceAt 27 (.slice A n c) none (some (.int .i64 (k : Int))) none).run Tryz.prog W = .ok (.slice A k c) W := by
  rw [run_sliceAt_slice W _ _ _ _ _ (by kernel_rfl)]; exact run_dhead A n c k hk W
theorem dl_tail {w : World} {A : Option Addr} {n c k : Nat} {L : List (Int × Int)} (h : Dl w A n c L) (hk : k ≤ n) : ∃ A2, Dl w A2 (n - k) (c - k) (L.drop k) ∧
    (∀ W : World, (Instr.slice 27 (.slice A n c) (some (.int .i64 (k : Int))) none none).run Tryz.prog W = .ok (.slice A2 (n - k) (c - k)) W) ∧
    (∀ W : World, (Instr.sliceAt 27 (.slice A n c) (some (.int .i64 (k : Int))) none none).run Tryz.prog W = .ok (.slice A2 (n - k) (c - k)) W) := by
  obtain ⟨h1, h2, h3, h4, h5⟩ := h
  have hr : ∀ W : World, (Instr.slice 27 (.slice A n c) (some (.int .i64 (k : Int))) none none).run Tryz.prog W = .ok (.slice (if c = k then A else A.map (·.add (k * 2))) (n - k) (c - k)) W := fun W => by
    rw [run_slice_l W 27 _ n c (by kernel_rfl) .i64 (k : Int) (by omega) (by omega), sizeD]
    simp only [Result.andThen, sliced, Int.toNat_natCast]
  refine ⟨_, ?_, hr, fun W => by rw [run_sliceAt_slice W _ _ _ _ _ (by kernel_rfl)]; exact hr W⟩
  refine ⟨by rw [List.length_drop]; omega, by omega, by omega, fun he => ?_, ?_⟩
  · by_cases hc : c = k
    · omega
    · rw [if_neg hc, Option.map_eq_none_iff] at he
      have := h4 he
      omega
  · rcases h5 with h0 | ⟨b, o, hA, hc⟩
    · exact .inl (by omega)
    · by_cases hkn : k = n
      · exact .inl (by omega)
      · refine .inr ⟨b, o + k * 2, ?_, fun j x hj => ?_⟩
        · rw [if_neg (by omega), hA, Option.map_some, Addr.add_lit]
        · rw [List.getElem?_drop] at hj
          have := hc _ x hj
          rw [show o + k * 2 + j * 2 = o + (k + j) * 2 by omega]
          exact this

theorem dl_one (w : World) (x1 x2 : Int) (t : TypeId) : Dl (w.alloc (.cells #[.int .i64 x1, .int .i64 x2] t)) (some ⟨w.heap.size, 0, none⟩) 1 1 [(x1, x2)] := by
  refine ⟨rfl, Nat.le_refl _, by simp [maxLen], (fun h => by cases h), .inr ⟨w.heap.size, 0, rfl, fun j x hj => ?_⟩⟩
  match j, hj with
  | 0, hj =>
    obtain rfl : (x1, x2) = x := by simpa using hj
    exact ⟨by rw [World.cell?_alloc_new]; rfl, by rw [World.cell?_alloc_new]; rfl⟩
  | j + 1, hj => simp at hj

theorem concat3D (wd : World) (hb : Nat) (he : wd.heap.size = hb) (s0 s1 s2 : SD) (h0 : Dl wd s0.A s0.n s0.c s0.L) (h1 : Dl wd s1.A s1.n s1.c s1.L) (h2 : Dl wd s2.A s2.n s2.c s2.L) (hT : s0.n + s1.n + s2.n ≤ 1000000) (t : TypeId) :
    Calls Tryz.prog 48 #[.slice (some ⟨hb, 0, none⟩) 3 3] (wd.alloc (.cells #[.slice s0.A s0.n s0.c, .slice s1.A s1.n s1.c, .slice s2.A s2.n s2.c] t))
      fun e w' => ∃ v, e = .returned v ∧ w'.ownsRow (hb + 1) 43 2 v (s0.n + s1.n + s2.n) (flatD (s0.L ++ s1.L ++ s2.L)) ∧ Kept wd w' := by
  subst he
  have hk := (Kept.refl wd).alloc #[.slice s0.A s0.n s0.c, .slice s1.A s1.n s1.c, .slice s2.A s2.n s2.c] t
  have e1 : totD [s0, s1, s2] 3 = s0.n + s1.n + s2.n := by simp [totD]; omega
  have e2 : catD [s0, s1, s2] 3 = s0.L ++ s1.L ++ s2.L := by simp [catD]
  refine (dconcat_any wd.heap.size [s0, s1, s2] _ (by simp) (by show totD [s0, s1, s2] 3 ≤ _; omega) ?_ ?_).mono ?_
  · intro k s hks
    rw [World.cell?_alloc_new]
    match k, hks with
    | 0, hks => simp at hks; subst hks; rfl
    | 1, hks => simp at hks; subst hks; rfl
    | 2, hks => simp at hks; subst hks; rfl
    | k + 3, hks => simp at hks
  · intro s hs
    simp only [List.mem_cons, List.not_mem_nil, or_false] at hs
    rcases hs with rfl | rfl | rfl
    · exact h0.kept hk
    · exact h1.kept hk
    · exact h2.kept hk
  · rintro e w' ⟨v, rfl, ho, hw⟩
    have ho2 : w'.ownsRow (wd.alloc (.cells #[.slice s0.A s0.n s0.c, .slice s1.A s1.n s1.c, .slice s2.A s2.n s2.c] t)).heap.size 43 2 v (totD [s0, s1, s2] 3) (flatD (catD [s0, s1, s2] 3)) := ho
    rw [e1, e2] at ho2
    exact ⟨v, rfl, by simpa using ho2, hk.trans hw⟩

/-- What With leaves. -/
def Withs (A0 : Option Addr) (L : List (Int × Int)) (x : Int × Int) (w : World) (e : Ending) (w' : World) : Prop :=
  ∃ A m c X, e = .returned (.slice A m c) ∧ Dl w' A m c X ∧ WithD L x X ∧ m ≤ L.length + 1 ∧ Kept w w' ∧ (A = A0 ∨ ∀ ad, A = some ad → w.heap.size ≤ ad.block)

set_option maxRecDepth 100000 in
set_option maxHeartbeats 1000000 in
theorem dwith_yes (A : Option Addr) (n c : Nat) (L : List (Int × Int)) (x1 x2 : Int) (w : World) (h : Dl w A n c L) (hr : Rise L) (hn : n ≤ 1000000) (hm : (x1, x2) ∈ L) :
    Calls Tryz.prog 78 #[.slice A n c, .agg #[.int .i64 x1, .int .i64 x2]] w (Withs A L (x1, x2) w) := by
  have hz : decide ((x1, x2) ∈ L) = true := by simpa using hm
  have HM := Lib.hid (WithD.self hr hm)
  have HD := Lib.hid h
  have HL := Lib.hid h.1
  have HS := Lib.hid (search_any A n c L x1 x2 (w.alloc (.cells #[.int .i64 x1, .int .i64 x2] 43)) (h.kept ((Kept.refl _).alloc _ _)) hr hn)
  rw [hz] at HS
  clear h hr hm hz
  go_enter Tryz.func78, Tryz.ntmps78
  go_wp2_with fail
  go_at_call 38
  refine HS.out.mono ?_
  rintro e w1 ⟨k, rfl, hk, _, _, hkp⟩
  have HK := Lib.hid (((Kept.refl w).alloc #[.int .i64 x1, .int .i64 x2] 43).trans hkp)
  clear hkp
  go_wp2_with fail
  go_at_call 72
  refine (clone_any A n c L _ (HD.out.kept HK.out) hn).mono ?_
  rintro e w2 ⟨v, rfl, ho, hk2⟩
  obtain ⟨A2, c2, rfl, hd, hf⟩ := Dl.of_own' ho
  have HF := Lib.hid hf
  have HE := Lib.hid hd
  have HK2 := Lib.hid hk2
  clear ho hd hk2 hf
  go_wp2_with fail
  go_ret
  exact ⟨A2, n, c2, L, rfl, HE.out, HM.out, by have := HL.out; omega, HK.out.trans HK2.out, .inr fun ad e => Nat.le_trans HK.out.2.2 (HF.out ad e)⟩

set_option maxRecDepth 100000 in
set_option maxHeartbeats 1000000 in
theorem dwith_no (A : Option Addr) (n c : Nat) (L : List (Int × Int)) (x1 x2 : Int) (w : World) (h : Dl w A n c L) (hr : Rise L) (hn : n ≤ 999999) (hm : (x1, x2) ∉ L) :
    Calls Tryz.prog 78 #[.slice A n c, .agg #[.int .i64 x1, .int .i64 x2]] w (Withs A L (x1, x2) w) := by
  have hz : decide ((x1, x2) ∈ L) = false := by simpa using hm
  have hcap := h.cap.1
  have hcap2 := h.cap.2
  have HR := Lib.hid hr
  have HD := Lib.hid h
  have HL := Lib.hid h.1
  have HS := Lib.hid (search_any A n c L x1 x2 (w.alloc (.cells #[.int .i64 x1, .int .i64 x2] 43)) (h.kept ((Kept.refl _).alloc _ _)) hr (by omega))
  rw [hz] at HS
  have HM := Lib.hid hm
  clear h hr hm hz
  go_enter Tryz.func78, Tryz.ntmps78
  go_wp2_with fail
  go_at_call 38
  refine HS.out.mono ?_
  rintro e w1 ⟨k, rfl, hk, hlo, hhi, hkp⟩
  have HW := Lib.hid (WithD.put HR.out k hlo (hhi HM.out))
  have d0 := KExt.cell hkp.box0
  have d1 := KExt.cell hkp.box1
  have HK := Lib.hid (((Kept.refl w).alloc #[.int .i64 x1, .int .i64 x2] 43).trans hkp)
  have HD1 := Lib.hid (HD.out.kept HK.out)
  have HH := Lib.hid (dl_head HD1.out hk)
  obtain ⟨A2, ht, hr2, hr3⟩ := dl_tail HD1.out hk
  have hr0 := run_dhead A n c k (by omega)
  have hr1 := run_dhead2 A n c k (by omega)
  have HT := Lib.hid ht
  clear hkp hlo hhi ht
  go_wp2_with fail
  refine region_mix w1 [([0, 1, 2, 3, 5, 6, 7], some 4), ([], some 8), ([], some 9), ([10], none)] (by kernel_rfl) (by kernel_rfl) (by kernel_rfl) (by kernel_rfl) (fun _ d _ _ _ h => by cases d <;> exact h) (Kept.refl _) ?_
  intro wd hwd
  rw [wpMix_call]
  simp only [pickOps_cons, pickOps_nil, consO_some, List.getElem?_cons_zero, List.getElem?_cons_succ]
  repeat (go_big_quiet_step (fail))
  refine wpQuiet_nil ?_
  go_wp2_with fail
  refine soloQ_both (hwd.alloc _ _) ?_
  have HA := Lib.hid ((Kept.refl wd).alloc #[.int .i64 x1, .int .i64 x2] 43)
  have HC := Lib.hid (concat3D (wd.alloc (.cells #[.int .i64 x1, .int .i64 x2] 43)) (wd.heap.size + 1) (by simp) ⟨A, k, c, L.take k⟩ ⟨some ⟨wd.heap.size, 0, none⟩, 1, 1, [(x1, x2)]⟩ ⟨A2, n - k, c - k, L.drop k⟩
    (HH.out.kept (hwd.trans HA.out)) (dl_one wd x1 x2 _) (HT.out.kept (hwd.trans HA.out)) (by simp only; omega) 27)
  have HWD := Lib.hid hwd
  clear hwd
  rw [wpMix_call]
  simp only [pickOps_cons, pickOps_nil, consO_some, List.getElem?_cons_zero, List.getElem?_cons_succ]
  refine wpQuiet_nil ?_
  go_wp2_with fail
  refine soloQ_both ((HWD.out.alloc _ _).alloc _ _) ?_
  rw [wpMix_call]
  simp only [pickOps_cons, pickOps_nil, consO_some, List.getElem?_cons_zero, List.getElem?_cons_succ]
  refine wpQuiet_nil ?_
  go_wp2_with (go_at_call 48; ((with_reducible refine HC.out.mono ?_); rintro e w2 ⟨v, rfl, ho, hkw⟩))
  obtain ⟨A3, c3, rfl, hd, hf⟩ := Dl.of_own' ho
  have HF := Lib.hid hf
  have HD3 := Lib.hid hd
  have HK3 := Lib.hid (HWD.out.trans (HA.out.trans hkw))
  clear ho hd hkw hf
  refine soloQ_both HK3.out ?_
  rw [wpMix_read]
  simp only [pickOps_cons, pickOps_nil, consO_some, List.getElem?_cons_zero, List.getElem?_cons_succ]
  repeat (go_big_quiet_step (fail))
  refine wpQuiet_nil ?_
  refine wpMix_nil ?_
  go_wp2_with fail
  go_ret
  exact ⟨A3, _, c3, L.take k ++ [(x1, x2)] ++ L.drop k, rfl, HD3.out, by rw [List.append_assoc]; exact HW.out, by have := HL.out; omega, HK.out.trans HK3.out, .inr fun ad e => by have := HF.out ad e; have := (HK.out.trans HWD.out).2.2; omega⟩

theorem dwith_any (A : Option Addr) (n c : Nat) (L : List (Int × Int)) (x1 x2 : Int) (w : World) (h : Dl w A n c L) (hr : Rise L) (hn : n ≤ 999999) :
    Calls Tryz.prog 78 #[.slice A n c, .agg #[.int .i64 x1, .int .i64 x2]] w (Withs A L (x1, x2) w) := by
  by_cases hm : (x1, x2) ∈ L
  · exact dwith_yes A n c L x1 x2 w h hr (by omega) hm
  · exact dwith_no A n c L x1 x2 w h hr hn hm
end Go.Proofs.YtcldbmhjfmbcfaaGreat

namespace Go.Proofs.YtcldbmhjfmbcfaaGreat
open Go.RowKit

def Il (w : World) (A : Option Addr) (n c : Nat) (V : List Int) : Prop :=
  n = V.length ∧ n ≤ c ∧ c ≤ maxLen ∧ (A = none → c = 0) ∧ (n = 0 ∨ ∃ b o, A = some ⟨b, o, none⟩ ∧ ∀ j x, V[j]? = some x → w.cell? ⟨b, o + j, none⟩ = some (.int .i64 x))
theorem Il.kept {w w' : World} {A : Option Addr} {n c : Nat} {V : List Int} (h : Il w A n c V) (hk : Kept w w') : Il w' A n c V :=
  ⟨h.1, h.2.1, h.2.2.1, h.2.2.2.1, h.2.2.2.2.imp id fun ⟨b, o, hA, hc⟩ => ⟨b, o, hA, fun j x hj => hk.cell (hc j x hj)⟩⟩
theorem Il.nil (w : World) : Il w none 0 0 [] := ⟨rfl, Nat.le_refl _, Nat.zero_le _, fun _ => rfl, .inl rfl⟩
theorem Il.cap {w : World} {A : Option Addr} {n c : Nat} {V : List Int} (h : Il w A n c V) : n ≤ c ∧ c ≤ 9223372036854775807 := ⟨h.2.1, h.2.2.1⟩
theorem Il.get {w : World} {A : Option Addr} {n c : Nat} {V : List Int} (h : Il w A n c V) {k : Nat} (hk : k < n) :
    ∃ b o x, A = some ⟨b, o, none⟩ ∧ V[k]? = some x ∧ w.cell? ⟨b, o + k, none⟩ = some (.int .i64 x) := by
  have hl : k < V.length := by rw [← h.1]; exact hk
  rcases h.2.2.2.2 with h0 | ⟨b, o, hA, hc⟩
  · omega
  · exact ⟨b, o, V[k], hA, List.getElem?_eq_getElem hl, hc k V[k] (List.getElem?_eq_getElem hl)⟩

/-- The cells of ints. -/
def intsV (V : List Int) : List Value := V.map fun x => .int .i64 x
theorem intsV_app (V W : List Int) : intsV (V ++ W) = intsV V ++ intsV W := List.map_append
theorem intsV_len (V : List Int) : (intsV V).length = V.length := List.length_map ..
theorem intsV_one (V : List Int) : ∀ u ∈ intsV V, u.oneCell' = true := by
  intro u hu
  obtain ⟨x, _, rfl⟩ := List.mem_map.1 hu
  rfl
theorem intsV_get {V : List Int} {j : Nat} {x : Int} (h : V[j]? = some x) : (intsV V)[j]? = some (.int .i64 x) := by
  unfold intsV; rw [List.getElem?_map, h]; rfl
theorem Il.of_own {w : World} {base n : Nat} {e : TypeId} {v : Value} {V : List Int} (h : w.ownsRow base e 1 v n (intsV V)) : ∃ A c, v = .slice A n c ∧ Il w A n c V := by
  have hl : n = V.length := by have := h.1; rw [intsV_len] at this; omega
  have hc := fun g (hg : v.ownBlock = some g) => h.cells (g := g) hg
  rcases h.2 with ⟨rfl, h0⟩ | ⟨g, cap, cur, rfl, hb, hg, h1, h2, _⟩
  · subst h0
    exact ⟨none, 0, rfl, hl, Nat.le_refl _, Nat.zero_le _, fun _ => rfl, .inl rfl⟩
  · refine ⟨some ⟨g, 0, none⟩, cap, rfl, hl, h1, h2, fun h => by simp at h, .inr ⟨g, 0, rfl, fun j x hj => ?_⟩⟩
    have := hc g rfl _ _ (intsV_get hj)
    rwa [Addr.add_lit] at this
theorem infoI : (Tryz.prog.info? 3).map (fun i => (i.zero, i.size, i.bytes)) = some (some (.int .i64 0), 1, 8) := by kernel_rfl
theorem app_ints (w : World) (base : Nat) (v : Value) (n : Nat) (xs : List Value) (h : w.ownsRow base 3 1 v n xs) (A : Option Addr) (m c : Nat) (V : List Int) (hs : Il w A m c V) (hb : n + m ≤ 8000000000000) (hbase : base ≤ w.heap.size) :
    ∃ v' w', (Builtin.append_ #[26, 26] 26 #[v, .slice A m c]).run Tryz.prog w = .ok v' w' ∧ w'.ownsRow base 3 1 v' (n + m) (xs ++ intsV V) ∧ w.grownBy w' v.ownBlock ∧ (v'.ownBlock = v.ownBlock ∨ v'.ownBlock = some w.heap.size) := by
  obtain ⟨i0, hi0, hz0, hz1, hz2⟩ := info_parts infoI
  cases A with
  | none =>
    obtain rfl := hs.2.2.2.1 rfl
    obtain rfl : m = 0 := by have := hs.2.1; omega
    have hV : V = [] := List.eq_nil_of_length_eq_zero hs.1.symm
    subst hV
    exact ⟨v, w, run_append_owned_none w base _ _ _ i0 1 Tryz.underlying26 hi0 v n xs h, by simpa [intsV] using h, World.grownBy.refl w _, .inl rfl⟩
  | some ad =>
    obtain ⟨v', w', hr, ho, hg, _, hat⟩ := run_append_own_at (P := Tryz.prog) w base 26 26 3 i0 (.int .i64 0) 1 8 Tryz.underlying26 hi0 hz0 hz1 hz2 rfl (by decide) v n xs h ad m c (intsV V)
      (by rw [intsV_len, hs.1, Nat.mul_one]) (fun j u hj => by
        unfold intsV at hj
        rw [List.getElem?_map] at hj
        obtain ⟨x, hx, rfl⟩ := Option.map_eq_some_iff.1 hj
        have hkl := (List.getElem?_eq_some_iff.1 hx).1
        obtain ⟨b, o, y, hA, hy, c1⟩ := hs.get (k := j) (by rw [hs.1]; exact hkl)
        obtain rfl : y = x := Option.some.inj (hy.symm.trans hx)
        obtain rfl := Option.some.inj hA
        rw [Addr.add_lit]
        exact c1) (intsV_one _) (by simp only [maxLen]; omega) (by omega) hbase
    exact ⟨v', w', hr, ho, hg, hat⟩
theorem il_head {w : World} {A : Option Addr} {n c k : Nat} {V : List Int} (h : Il w A n c V) (hk : k ≤ n) : Il w A k c (V.take k) := by
  obtain ⟨h1, h2, h3, h4, h5⟩ := h
  refine ⟨by rw [List.length_take]; omega, by omega, h3, h4, ?_⟩
  rcases h5 with h0 | ⟨b, o, hA, hc⟩
  · exact .inl (by omega)
  · refine .inr ⟨b, o, hA, fun j x hj => hc j x ?_⟩
    rw [List.getElem?_take] at hj
    split at hj
    · exact hj
    · cases hj
theorem sizeI (W : World) : (Go.sizeOf (Tryz.prog.elem 26)).run Tryz.prog W = .ok 1 W := by kernel_rfl
theorem run_ihead (A : Option Addr) (n c k : Nat) (hk : k ≤ c) (W : World) :
    (Instr.slice 26 (.slice A n c) none (some (.int .i64 (k : Int))) none).run Tryz.prog W = .ok (.slice A k c) W := by
  rw [run_slice_h W 26 _ n c (by kernel_rfl) .i64 (k : Int) (by omega) (by omega), sizeI]
  cases A <;> simp [Result.andThen, sliced, Addr.add]
theorem run_ihead2 (A : Option Addr) (n c k : Nat) (hk : k ≤ c) (W : World) :
    (Instr.sliceAt 26 (.slice A n c) none (some (.int .i64 (k : Int))) none).run Tryz.prog W = .ok (.slice A k c) W := by
  rw [run_sliceAt_slice W _ _ _ _ _ (by kernel_rfl)]; exact run_ihead A n c k hk W
end Go.Proofs.YtcldbmhjfmbcfaaGreat

namespace Go.Proofs.YtcldbmhjfmbcfaaGreat
open Go.RowKit

set_option maxRecDepth 100000 in
theorem at_any (A : Option Addr) (n c : Nat) (V : List Int) (B : Option Addr) (m k : Nat) (r : Int) (w : World) (h : Il w A n c V) :
    Calls Tryz.prog 54 #[.agg #[.slice A n c, .slice B m k], .int .i64 r] w fun e w' => e = .returned (.int .i64 (atV V r)) ∧ Kept w w' := by
  have hcap := h.cap.1
  have hcap2 := h.cap.2
  rcases Int.lt_or_le r 0 with h0 | h0
  · have HR := Lib.hid (show 0 = atV V r from (atV_neg V h0).symm)
    clear h
    have d1 : decide (r < 0) = true := by simpa using h0
    go_enter Tryz.func54, Tryz.ntmps54
    go_wp2
    go_ret
    exact ⟨ret_int HR.out, (Kept.refl _).alloc _ _⟩
  · obtain ⟨j, rfl⟩ : ∃ j : Nat, r = j := ⟨r.toNat, by omega⟩
    have d1 : decide ((j : Int) < 0) = false := by rw [decide_eq_false_iff_not]; omega
    by_cases hj : j < n
    · obtain ⟨b, o, x, rfl, hx, g⟩ := (h.kept ((Kept.refl w).alloc #[.slice A n c, .slice B m k] 29)).get hj
      have HR := Lib.hid (show x = atV V j from (atV_in hx).symm)
      have d2 : decide ((n : Int) ≤ (j : Int)) = false := by rw [decide_eq_false_iff_not]; omega
      have d3 : decide (n ≤ j) = false := by rw [decide_eq_false_iff_not]; omega
      clear h hx h0
      go_enter Tryz.func54, Tryz.ntmps54
      go_wp2
      go_ret
      exact ⟨ret_int HR.out, (Kept.refl _).alloc _ _⟩
    · have HR := Lib.hid (show 0 = atV V j from (atV_out V (by have := h.1; omega)).symm)
      have d2 : decide ((n : Int) ≤ (j : Int)) = true := by rw [decide_eq_true_iff]; omega
      have d3 : decide (n ≤ j) = true := by rw [decide_eq_true_iff]; omega
      clear h h0
      go_enter Tryz.func54, Tryz.ntmps54
      go_wp2
      go_ret
      exact ⟨ret_int HR.out, (Kept.refl _).alloc _ _⟩
theorem at_c (A : Option Addr) (n c : Nat) (V : List Int) (B : Option Addr) (m k : Nat) (r x : Int) (hx : atV V r = x) (w : World) (h : Il w A n c V) :
    Calls Tryz.prog 54 #[.agg #[.slice A n c, .slice B m k], .int .i64 r] w fun e w' => e = .returned (.int .i64 x) ∧ Kept w w' := by
  subst hx; exact at_any A n c V B m k r w h

def hasB (V : List Int) (C : List (Int × Int)) (d : Int × Int) : Bool := decide (hasC V C d)
set_option maxRecDepth 100000 in
set_option maxHeartbeats 1000000 in
theorem rhasC_any (A : Option Addr) (n c : Nat) (V : List Int) (B : Option Addr) (m k : Nat) (C : List (Int × Int)) (x1 x2 : Int) (w : World) (h : Il w A n c V) (hd : Dl w B m k C) (r : Bool) (hr : decide (hasC V C (x1, x2)) = r) :
    Calls Tryz.prog 86 #[.agg #[.slice A n c, .slice B m k], .agg #[.int .i64 x1, .int .i64 x2]] w fun e w' => e = .returned (.bool r) ∧ Kept w w' := by
  have hK := ((Kept.refl w).alloc #[.slice A n c, .slice B m k] 29).alloc #[.int .i64 x1, .int .i64 x2] 43
  have c0 := KExt.cell (((Kept.refl (w.alloc (.cells #[.slice A n c, .slice B m k] 29))).alloc #[.int .i64 x1, .int .i64 x2] 43).box0)
  have c1 := KExt.cell (((Kept.refl (w.alloc (.cells #[.slice A n c, .slice B m k] 29))).alloc #[.int .i64 x1, .int .i64 x2] 43).box1)
  have c2 := KExt.cell (Kept.box0 (Kept.refl ((w.alloc (.cells #[.slice A n c, .slice B m k] 29)).alloc (.cells #[.int .i64 x1, .int .i64 x2] 43))))
  have c3 := KExt.cell (Kept.box1 (Kept.refl ((w.alloc (.cells #[.slice A n c, .slice B m k] 29)).alloc (.cells #[.int .i64 x1, .int .i64 x2] 43))))
  rw [show (w.alloc (.cells #[.slice A n c, .slice B m k] 29)).heap.size = w.heap.size + 1 by simp] at c2 c3
  obtain ⟨t, ht⟩ : ∃ t, atV V x1 = t := ⟨_, rfl⟩
  obtain ⟨z, hz⟩ : ∃ z, decide ((x1, x2) ∈ C) = z := ⟨_, rfl⟩
  have AA := Lib.hid (fun w h => at_c A n c V B m k x1 t ht w h)
  have AH := Lib.hid (fun w h => rhas_c B m k C (x1, x2) z hz w h)
  have HI := Lib.hid (h.kept hK)
  have HD := Lib.hid (hd.kept hK)
  have HK := Lib.hid hK
  have hrr : r = ((decide (1 ≤ x2) && decide (x2 ≤ t)) || z) := by
    rw [← hr, ← ht, ← hz, Bool.eq_iff_iff, decide_eq_true_iff]
    unfold hasC
    simp only [Bool.or_eq_true, Bool.and_eq_true, decide_eq_true_iff]
  clear h hd hK ht hz hr
  by_cases h1 : 1 ≤ x2
  · have d1 : decide (1 ≤ x2) = true := by simpa using h1
    by_cases h2 : x2 ≤ t
    · have d2 : decide (x2 ≤ t) = true := by simpa using h2
      have HR := Lib.hid (show true = r by rw [hrr, d1, d2]; rfl)
      clear hrr h1 h2
      go_enter Tryz.func86, Tryz.ntmps86
      go_wp2_with fail
      refine region_kept _ (by kernel_rfl) (by kernel_rfl) (Kept.refl _) ?_
      repeat (go_big_quiet_step ((first
        | (go_at_call 54; (with_reducible exact KExt.callsK (AA.out _ (HI.out.kept (KExt.g _)))))
        | (go_at_call 56; (with_reducible exact KExt.callsK (AH.out _ (HD.out.kept (KExt.g _)))))
        | fail)))
      refine wpQuiet_nil ?_
      intro G
      go_wp2_with fail
      go_ret
      exact ⟨ret_bool HR.out, HK.out.trans G.g⟩
    · have d2 : decide (x2 ≤ t) = false := by simpa using h2
      have HR := Lib.hid (show z = r by rw [hrr, d1, d2]; rfl)
      clear hrr h1 h2
      go_enter Tryz.func86, Tryz.ntmps86
      go_wp2_with fail
      refine region_kept _ (by kernel_rfl) (by kernel_rfl) (Kept.refl _) ?_
      repeat (go_big_quiet_step ((first
        | (go_at_call 54; (with_reducible exact KExt.callsK (AA.out _ (HI.out.kept (KExt.g _)))))
        | (go_at_call 56; (with_reducible exact KExt.callsK (AH.out _ (HD.out.kept (KExt.g _)))))
        | fail)))
      refine wpQuiet_nil ?_
      intro G
      go_wp2_with fail
      go_ret
      exact ⟨ret_bool HR.out, HK.out.trans G.g⟩
  · have d1 : decide (1 ≤ x2) = false := by simpa using h1
    have HR := Lib.hid (show z = r by rw [hrr, d1]; rfl)
    clear hrr h1
    go_enter Tryz.func86, Tryz.ntmps86
    go_wp2_with fail
    refine region_kept _ (by kernel_rfl) (by kernel_rfl) (Kept.refl _) ?_
    repeat (go_big_quiet_step ((first
      | (go_at_call 54; (with_reducible exact KExt.callsK (AA.out _ (HI.out.kept (KExt.g _)))))
      | (go_at_call 56; (with_reducible exact KExt.callsK (AH.out _ (HD.out.kept (KExt.g _)))))
      | fail)))
    refine wpQuiet_nil ?_
    intro G
    go_wp2_with fail
    go_ret
    exact ⟨ret_bool HR.out, HK.out.trans G.g⟩
end Go.Proofs.YtcldbmhjfmbcfaaGreat

namespace Go.Proofs
open Go.Shelf
def Tryz.sortDots_ren : Go.Shelf.Ren := ⟨fun | 6 => 73 | 15 => 91 | 14 => 90 | 28 => 104 | 29 => 105 | 20 => 96 | 21 => 97 | 22 => 98 | 23 => 99 | 24 => 100 | 25 => 101 | 26 => 102 | 27 => 103 | 46 => 110 | 47 => 111 | 48 => 112 | 49 => 113 | 50 => 114 | 57 => 116 | n => n, fun | 22 => 27 | 24 => 43 | 25 => 69 | 3 => 3 | 39 => 91 | 0 => 0 | 53 => 118 | 55 => 55 | 4 => 4 | 46 => 112 | 45 => 111 | 50 => 67 | 5 => 5 | 9 => 9 | 66 => 121 | 70 => 125 | 76 => 127 | 77 => 128 | n => n, fun | n => n⟩
theorem Tryz.sortDots : Go.Proofs.SlLaysF0.n6 Tryz.prog Tryz.sortDots_ren := {
  mixed := by kernel_rfl
  f6 := ⟨Tryz.f73.name, by decide, Tryz.func73.trans (congrArg some (by kernel_rfl))⟩
  f14 := ⟨Tryz.f90.name, by decide, Tryz.func90.trans (congrArg some (by kernel_rfl))⟩
  f15 := Tryz.func91.trans (congrArg some (by kernel_rfl))
  f20 := ⟨Tryz.f96.name, by decide, Tryz.func96.trans (congrArg some (by kernel_rfl))⟩
  f21 := ⟨Tryz.f97.name, by decide, Tryz.func97.trans (congrArg some (by kernel_rfl))⟩
  f22 := ⟨Tryz.f98.name, by decide, Tryz.func98.trans (congrArg some (by kernel_rfl))⟩
  f23 := ⟨Tryz.f99.name, by decide, Tryz.func99.trans (congrArg some (by kernel_rfl))⟩
  f24 := ⟨Tryz.f100.name, by decide, Tryz.func100.trans (congrArg some (by kernel_rfl))⟩
  f25 := ⟨Tryz.f101.name, by decide, Tryz.func101.trans (congrArg some (by kernel_rfl))⟩
  f26 := ⟨Tryz.f102.name, by decide, Tryz.func102.trans (congrArg some (by kernel_rfl))⟩
  f27 := ⟨Tryz.f103.name, by decide, Tryz.func103.trans (congrArg some (by kernel_rfl))⟩
  f28 := Tryz.func104.trans (congrArg some (by kernel_rfl))
  f29 := Tryz.func105.trans (congrArg some (by kernel_rfl))
  f46 := ⟨Tryz.f110.name, by decide, Tryz.func110.trans (congrArg some (by kernel_rfl))⟩
  f47 := Tryz.func111.trans (congrArg some (by kernel_rfl))
  f48 := Tryz.func112.trans (congrArg some (by kernel_rfl))
  f49 := ⟨Tryz.f113.name, by decide, Tryz.func113.trans (congrArg some (by kernel_rfl))⟩
  f50 := ⟨Tryz.f114.name, by decide, Tryz.func114.trans (congrArg some (by kernel_rfl))⟩
  f57 := ⟨Tryz.f116.name, by decide, Tryz.func116.trans (congrArg some (by kernel_rfl))⟩
  t0 := Tryz.underlying0
  a0 := Tryz.isAgg0
  z0 := Tryz.sizeOf0
  v0 := Tryz.zeroValue0
  t3 := Tryz.underlying3
  a3 := Tryz.isAgg3
  z3 := Tryz.sizeOf3
  v3 := Tryz.zeroValue3
  t4 := Tryz.underlying4
  a4 := Tryz.isAgg4
  z4 := Tryz.sizeOf4
  v4 := Tryz.zeroValue4
  t5 := Tryz.underlying5
  a5 := Tryz.isAgg5
  z5 := Tryz.sizeOf5
  v5 := Tryz.zeroValue5
  t9 := Tryz.underlying9
  a9 := Tryz.isAgg9
  z9 := Tryz.sizeOf9
  v9 := Tryz.zeroValue9
  t22 := Tryz.underlying27
  a22 := Tryz.isAgg27
  z22 := Tryz.sizeOf27
  v22 := Tryz.zeroValue27
  t25 := Tryz.underlying69
  a25 := Tryz.isAgg69
  z25 := Tryz.sizeOf69
  v25 := Tryz.zeroValue69
  t39 := Tryz.underlying91
  a39 := Tryz.isAgg91
  z39 := Tryz.sizeOf91
  v39 := Tryz.zeroValue91
  t45 := Tryz.underlying111
  a45 := Tryz.isAgg111
  z45 := Tryz.sizeOf111
  v45 := Tryz.zeroValue111
  t46 := Tryz.underlying112
  a46 := Tryz.isAgg112
  z46 := Tryz.sizeOf112
  v46 := Tryz.zeroValue112
  t50 := Tryz.underlying67
  a50 := Tryz.isAgg67
  z50 := Tryz.sizeOf67
  v50 := Tryz.zeroValue67
  t53 := Tryz.underlying118
  a53 := Tryz.isAgg118
  z53 := Tryz.sizeOf118
  v53 := Tryz.zeroValue118
  t55 := Tryz.underlying55
  a55 := Tryz.isAgg55
  z55 := Tryz.sizeOf55
  v55 := Tryz.zeroValue55
  t66 := Tryz.underlying121
  a66 := Tryz.isAgg121
  z66 := Tryz.sizeOf121
  v66 := Tryz.zeroValue121
  t70 := Tryz.underlying125
  a70 := Tryz.isAgg125
  z70 := Tryz.sizeOf125
  v70 := Tryz.zeroValue125
  t76 := Tryz.underlying127
  a76 := Tryz.isAgg127
  z76 := Tryz.sizeOf127
  v76 := Tryz.zeroValue127
  t77 := Tryz.underlying128
  a77 := Tryz.isAgg128
  z77 := Tryz.sizeOf128
  v77 := Tryz.zeroValue128 }
end Go.Proofs

namespace Go.Proofs.YtcldbmhjfmbcfaaGreat
open Go.RowKit Go.Shelf Go.Sort

def encD (x : Int × Int) : List Value := [.int .i64 x.1, .int .i64 x.2]
/-- A row of dots that may be written. -/
def Own (w : World) (g : Nat) (d : Array (Int × Int)) : Prop :=
  ∀ j, j < d.size → w.cell? ⟨g, j * 2, none⟩ = some (.int .i64 d[j]!.1) ∧ w.cell? ⟨g, j * 2 + 1, none⟩ = some (.int .i64 d[j]!.2) ∧ w.frozen? ⟨g, j * 2, none⟩ = false ∧ w.frozen? ⟨g, j * 2 + 1, none⟩ = false
theorem Own.holdsK {w : World} {g : Nat} {d : Array (Int × Int)} (h : Own w g d) : HoldsK encD 2 w g 0 d := by
  intro j hj
  rw [size_flatK] at hj
  have hk := h (j / 2) (by omega)
  rw [Nat.zero_add, get_flatK encD 2 d j hj]
  rcases Nat.mod_two_eq_zero_or_one j with e | e
  · rw [e, show j = j / 2 * 2 by omega, show j / 2 * 2 / 2 = j / 2 by omega]
    exact ⟨hk.1, hk.2.2.1⟩
  · rw [e, show j = j / 2 * 2 + 1 by omega, show (j / 2 * 2 + 1) / 2 = j / 2 by omega]
    exact ⟨hk.2.1, hk.2.2.2⟩
theorem Own.of_holdsK {w : World} {g : Nat} {d : Array (Int × Int)} (h : HoldsK encD 2 w g 0 d) : Own w g d := by
  intro j hj
  have h0 := h (j * 2) (by rw [size_flatK]; omega)
  have h1 := h (j * 2 + 1) (by rw [size_flatK]; omega)
  rw [Nat.zero_add, get_flatK encD 2 d _ (by omega), show j * 2 / 2 = j by omega, show j * 2 % 2 = 0 by omega] at h0
  rw [Nat.zero_add, get_flatK encD 2 d _ (by omega), show (j * 2 + 1) / 2 = j by omega, show (j * 2 + 1) % 2 = 1 by omega] at h1
  exact ⟨h0.1, h1.1, h0.2, h1.2⟩
theorem toArr_get {L : List (Int × Int)} {j : Nat} {x : Int × Int} (h : L[j]? = some x) : L.toArray[j]! = x := by
  have hl := (List.getElem?_eq_some_iff.1 h).1
  rw [getElem!_pos _ j (by simpa using hl)]
  simpa using (List.getElem?_eq_some_iff.1 h).2
theorem Own.of_owns {w : World} {base g n cap : Nat} {e : TypeId} {L : List (Int × Int)} (h : w.ownsRow base e 2 (.slice (some ⟨g, 0, none⟩) n cap) n (flatD L)) : Own w g L.toArray := by
  intro j hj
  have hj' : j < L.length := by simpa using hj
  have hx := flatD_get L j L[j] (List.getElem?_eq_getElem hj')
  have hc := fun i u => h.cells (g := g) rfl i u
  have c0 := hc _ _ hx.1
  have c1 := hc _ _ hx.2
  rw [Addr.add_lit, Nat.zero_add] at c0 c1
  rw [toArr_get (List.getElem?_eq_getElem hj')]
  exact ⟨c0, c1, h.frozenAt _, h.frozenAt _⟩
theorem Own.lt {w : World} {g : Nat} {d : Array (Int × Int)} (h : Own w g d) (hd : 0 < d.size) : g < w.heap.size := World.block_lt_of_cell? w _ (h 0 hd).1

theorem kept_sortWorld {W w : World} {g m : Nat} {d : Array (Int × Int)} {os : Array Obj} (h : Kept W w) (hW : W.heap.size ≤ g) : Kept W (sortWorldK encD 2 w g 0 m d os) := by
  obtain ⟨⟨h1, h2, h3⟩, hf, hs⟩ := h
  have hb : ∀ i, i < W.heap.size → (sortWorldK encD 2 w g 0 m d os).heap[i]? = w.heap[i]? := fun i hi => by
    unfold sortWorldK
    rw [heap_grow_old _ _ (by simp [putRowK]; omega)]
    show (w.heap.modify g _)[i]? = _
    rw [Array.getElem?_modify, if_neg (by omega)]
  refine ⟨⟨h1, h2, fun i hi => ?_⟩, fun a ha => ?_, ?_⟩
  · rw [hb i hi]; exact h3 i hi
  · rw [← hf a ha]
    exact World.frozen?_of_block (w := w) (hb a.block ha)
  · unfold sortWorldK
    rw [size_grow]
    simp [putRowK]; omega
theorem own_sortWorld {w : World} {g m : Nat} {d d' : Array (Int × Int)} {os : Array Obj} (h : Own w g d) (hd : 0 < d.size) (hs : d'.size = d.size) : Own (sortWorldK encD 2 w g 0 m d' os) g d' := by
  have hg := h.lt hd
  refine Own.of_holdsK ?_
  unfold sortWorldK
  exact holdsK_grow encD 2 _ os g 0 d' (by simp [putRowK]; omega) (holdsK_putRowK encD 2 (Sort.ahead w m) g 0 d d' h.holdsK hs)

theorem ltOfD (x y : Int × Int) : ltOf cmpD x y = true ↔ LtD x y := by unfold ltOf; rw [decide_eq_true_iff, cmpD_lt]
theorem ltOfD_no (x y : Int × Int) : ltOf cmpD x y = false ↔ ¬ LtD x y := by unfold ltOf; rw [decide_eq_false_iff_not, cmpD_lt]
theorem swoD : SWO (ltOf cmpD) where
  irrefl x := (ltOfD_no x x).2 (LtD.irrefl x)
  trans x y z h1 h2 := (ltOfD x z).2 (((ltOfD x y).1 h1).trans ((ltOfD y z).1 h2))
  ntrans x y z h1 h2 := by rw [ltOfD_no] at *; unfold LtD at *; omega
theorem cmpLaysD (g n : Nat) (w : World) : CmpLays Tryz.prog 39 #[] encD 2 cmpD g 0 n w :=
  fun _ _ _ _ x y => dcmp_any x.1 x.2 y.1 y.2 _

/-- slices.SortFunc(row, dot.Cmp). -/
theorem sortF_any (g cap : Nat) (d : Array (Int × Int)) (w W : World) (h : Own w g d) (hd : 0 < d.size) (hn : d.size ≤ 1000000) (hK : Kept W w) (hW : W.heap.size ≤ g) :
    Calls Tryz.prog 73 #[.slice (some ⟨g, 0, none⟩) d.size cap, .func (.func 39) #[] #[]] w fun e w' => e = .returned (.tuple #[]) ∧
      ∃ d', d'.size = d.size ∧ d'.toList.Perm d.toList ∧ (∀ i j, i < j → j < d'.size → ¬ LtD d'[j]! d'[i]!) ∧ Own w' g d' ∧ Kept W w' := by
  have eg : ∀ args w, (callFunc 39 args).run Tryz.prog w = .ok (.enter 39 args) w := enters_of Tryz.func39 (by kernel_rfl) rfl
  have hcon := AnyQ.slices_SortFunc Tryz.sortDots 2 Tryz.isAgg43 Tryz.sizeOf43 encD (fun _ => rfl) (fun x v hv => by simp [encD] at hv; rcases hv with rfl | rfl <;> rfl) cmpD swoD 39 #[] g 0 cap d w eg (cmpLaysD g d.size w) h.holdsK (h.lt hd) (by omega)
  refine hcon.mono fun e w' ⟨he, d', m, os, hp, hs, hw⟩ => ⟨he, d', hp.1, ?_, fun i j hij hj => ?_, ?_, ?_⟩
  · have := hp.2.2
    rw [Array.extract_eq_self_of_le (by rw [hp.1]; exact Nat.le_refl _), Array.extract_eq_self_of_le (Nat.le_refl _)] at this
    exact this
  · exact (ltOfD_no _ _).1 (hs i j (Nat.zero_le _) hij (by rw [← hp.1]; exact hj))
  · rw [hw]; exact own_sortWorld h hd hp.1
  · rw [hw]; exact kept_sortWorld hK hW
theorem sortF_none (A : Option Addr) (cap : Nat) (w : World) :
    Calls Tryz.prog 73 #[.slice A 0 cap, .func (.func 39) #[] #[]] w fun e w' => e = .returned (.tuple #[]) ∧ w' = w :=
  AnyF.slices_SortFunc_none Tryz.sortDots A cap _ w
end Go.Proofs.YtcldbmhjfmbcfaaGreat

