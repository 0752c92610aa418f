/-
  What is proved: slices.SortFunc at dots, with dot.Cmp, over a row of the call's own: the row holds the same dots, rising or level; all else is kept.
  slices.Compact at dots over a row of the call's own, as the library's text has it: the slice is cut to the first of each run of equal dots, which lie at its head; all else is kept.
  dot.Sort, called with any slice of dots that lies in memory, returns all of its dots, rising, each once (P5.6); the world has new blocks at most.
-/
import Derived.Test.YtkooihljddibfaaGreatM7
import Derived.Test.YtkooihljddibfaaGreatM6
import Derived.Test.YtkooihljddibfaaGreatM8
import Derived.Lib.SlicesCompact
import Derived.Laws.IdiomCopy
import Derived.Deep.LoopGhost
import Derived.BigQuiet
namespace Go.Proofs.YtkooihljddibfaaGreat
open Go.RowKit Go.Shelf Go.Sort

def encD (x : Int × Int) : List Value := [.int .i64 x.1, .int .i64 x.2]
/-- A row of dots that may be written. -/
def Own (w : World) (g : Nat) (d : Array (Int × Int)) : Prop :=
  ∀ j, j < d.size → w.cell? ⟨g, j * 2, none⟩ = some (.int .i64 d[j]!.1) ∧ w.cell? ⟨g, j * 2 + 1, none⟩ = some (.int .i64 d[j]!.2) ∧ w.frozen? ⟨g, j * 2, none⟩ = false ∧ w.frozen? ⟨g, j * 2 + 1, none⟩ = false
theorem Own.holdsK {w : World} {g : Nat} {d : Array (Int × Int)} (h : Own w g d) : HoldsK encD 2 w g 0 d := by
  intro j hj
  rw [size_flatK] at hj
  have hk := h (j / 2) (by omega)
  rw [Nat.zero_add, get_flatK encD 2 d j hj]
  rcases Nat.mod_two_eq_zero_or_one j with e | e
  · rw [e, show j = j / 2 * 2 by omega, show j / 2 * 2 / 2 = j / 2 by omega]
    exact ⟨hk.1, hk.2.2.1⟩
  · rw [e, show j = j / 2 * 2 + 1 by omega, show (j / 2 * 2 + 1) / 2 = j / 2 by omega]
    exact ⟨hk.2.1, hk.2.2.2⟩
theorem Own.of_holdsK {w : World} {g : Nat} {d : Array (Int × Int)} (h : HoldsK encD 2 w g 0 d) : Own w g d := by
  intro j hj
  have h0 := h (j * 2) (by rw [size_flatK]; omega)
  have h1 := h (j * 2 + 1) (by rw [size_flatK]; omega)
  rw [Nat.zero_add, get_flatK encD 2 d _ (by omega), show j * 2 / 2 = j by omega, show j * 2 % 2 = 0 by omega] at h0
  rw [Nat.zero_add, get_flatK encD 2 d _ (by omega), show (j * 2 + 1) / 2 = j by omega, show (j * 2 + 1) % 2 = 1 by omega] at h1
  exact ⟨h0.1, h1.1, h0.2, h1.2⟩
theorem toArr_get {L : List (Int × Int)} {j : Nat} {x : Int × Int} (h : L[j]? = some x) : L.toArray[j]! = x := by
  have hl := (List.getElem?_eq_some_iff.1 h).1
  rw [getElem!_pos _ j (by simpa using hl)]
  simpa using (List.getElem?_eq_some_iff.1 h).2
theorem Own.of_owns {w : World} {base g n cap : Nat} {e : TypeId} {L : List (Int × Int)} (h : w.ownsRow base e 2 (.slice (some ⟨g, 0, none⟩) n cap) n (flatD L)) : Own w g L.toArray := by
  intro j hj
  have hj' : j < L.length := by simpa using hj
  have hx := flatD_get L j L[j] (List.getElem?_eq_getElem hj')
  have hc := fun i u => h.cells (g := g) rfl i u
  have c0 := hc _ _ hx.1
  have c1 := hc _ _ hx.2
  rw [Addr.add_lit, Nat.zero_add] at c0 c1
  rw [toArr_get (List.getElem?_eq_getElem hj')]
  exact ⟨c0, c1, h.frozenAt _, h.frozenAt _⟩
theorem Own.lt {w : World} {g : Nat} {d : Array (Int × Int)} (h : Own w g d) (hd : 0 < d.size) : g < w.heap.size := World.block_lt_of_cell? w _ (h 0 hd).1

theorem kept_sortWorld {W w : World} {g m : Nat} {d : Array (Int × Int)} {os : Array Obj} (h : Kept W w) (hW : W.heap.size ≤ g) : Kept W (sortWorldK encD 2 w g 0 m d os) := by
  obtain ⟨⟨h1, h2, h3⟩, hf, hs⟩ := h
  have hb : ∀ i, i < W.heap.size → (sortWorldK encD 2 w g 0 m d os).heap[i]? = w.heap[i]? := fun i hi => by
    unfold sortWorldK
    rw [heap_grow_old _ _ (by simp [putRowK]; omega)]
    show (w.heap.modify g _)[i]? = _
    rw [Array.getElem?_modify, if_neg (by omega)]
  refine ⟨⟨h1, h2, fun i hi => ?_⟩, fun a ha => ?_, ?_⟩
  · rw [hb i hi]; exact h3 i hi
  · rw [← hf a ha]
    exact World.frozen?_of_block (w := w) (hb a.block ha)
  · unfold sortWorldK
    rw [size_grow]
    simp [putRowK]; omega
theorem own_sortWorld {w : World} {g m : Nat} {d d' : Array (Int × Int)} {os : Array Obj} (h : Own w g d) (hd : 0 < d.size) (hs : d'.size = d.size) : Own (sortWorldK encD 2 w g 0 m d' os) g d' := by
  have hg := h.lt hd
  refine Own.of_holdsK ?_
  unfold sortWorldK
  exact holdsK_grow encD 2 _ os g 0 d' (by simp [putRowK]; omega) (holdsK_putRowK encD 2 (Sort.ahead w m) g 0 d d' h.holdsK hs)

theorem ltOfD (x y : Int × Int) : ltOf cmpD x y = true ↔ LtD x y := by unfold ltOf; rw [decide_eq_true_iff, cmpD_lt]
theorem ltOfD_no (x y : Int × Int) : ltOf cmpD x y = false ↔ ¬ LtD x y := by unfold ltOf; rw [decide_eq_false_iff_not, cmpD_lt]
theorem swoD : SWO (ltOf cmpD) where
  irrefl x := (ltOfD_no x x).2 (LtD.irrefl x)
  trans x y z h1 h2 := (ltOfD x z).2 (((ltOfD x y).1 h1).trans ((ltOfD y z).1 h2))
  ntrans x y z h1 h2 := by rw [ltOfD_no] at *; unfold LtD at *; omega
theorem cmpLaysD (g n : Nat) (w : World) : CmpLays Tryz.prog 67 #[] encD 2 cmpD g 0 n w :=
  fun _ _ _ _ x y => dcmp_any x.1 x.2 y.1 y.2 _

/-- slices.SortFunc(row, dot.Cmp). -/
theorem sortF_any (g cap : Nat) (d : Array (Int × Int)) (w W : World) (h : Own w g d) (hd : 0 < d.size) (hn : d.size ≤ 1000000) (hK : Kept W w) (hW : W.heap.size ≤ g) :
    Calls Tryz.prog 97 #[.slice (some ⟨g, 0, none⟩) d.size cap, .func (.func 67) #[] #[]] w fun e w' => e = .returned (.tuple #[]) ∧
      ∃ d', d'.size = d.size ∧ d'.toList.Perm d.toList ∧ (∀ i j, i < j → j < d'.size → ¬ LtD d'[j]! d'[i]!) ∧ Own w' g d' ∧ Kept W w' := by
  have eg : ∀ args w, (callFunc 67 args).run Tryz.prog w = .ok (.enter 67 args) w := enters_of Tryz.func67 (by kernel_rfl) rfl
  have hcon := AnyQ.slices_SortFunc Tryz.sortDots 2 Tryz.isAgg30 Tryz.sizeOf30 encD (fun _ => rfl) (fun x v hv => by simp [encD] at hv; rcases hv with rfl | rfl <;> rfl) cmpD swoD 67 #[] g 0 cap d w eg (cmpLaysD g d.size w) h.holdsK (h.lt hd) (by omega)
  refine hcon.mono fun e w' ⟨he, d', m, os, hp, hs, hw⟩ => ⟨he, d', hp.1, ?_, fun i j hij hj => ?_, ?_, ?_⟩
  · have := hp.2.2
    rw [Array.extract_eq_self_of_le (by rw [hp.1]; exact Nat.le_refl _), Array.extract_eq_self_of_le (Nat.le_refl _)] at this
    exact this
  · exact (ltOfD_no _ _).1 (hs i j (Nat.zero_le _) hij (by rw [← hp.1]; exact hj))
  · rw [hw]; exact own_sortWorld h hd hp.1
  · rw [hw]; exact kept_sortWorld hK hW
theorem sortF_none (A : Option Addr) (cap : Nat) (w : World) :
    Calls Tryz.prog 97 #[.slice A 0 cap, .func (.func 67) #[] #[]] w fun e w' => e = .returned (.tuple #[]) ∧ w' = w :=
  AnyF.slices_SortFunc_none Tryz.sortDots A cap _ w
end Go.Proofs.YtkooihljddibfaaGreat

namespace Go.Proofs.YtkooihljddibfaaGreat
open Go.RowKit Go.Lib

theorem Own.set {w : World} {g : Nat} {d : Array (Int × Int)} (h : Own w g d) {k : Nat} (hk : k < d.size) (u1 u2 : Int) :
    Own ((w.setCell ⟨g, k * 2, none⟩ (.int .i64 u1)).setCell ⟨g, k * 2 + 1, none⟩ (.int .i64 u2)) g (d.setIfInBounds k (u1, u2)) := by
  intro j hj
  rw [Array.size_setIfInBounds] at hj
  have hjj := h j hj
  by_cases e : j = k
  · subst e
    rw [Sort.getElem!_set_same d j _ hk]
    refine ⟨?_, ?_, ?_, ?_⟩
    · rw [World.cell?_setCell_other _ _ _ _ (by intro e'; injection e'; omega)]
      exact World.cell?_setCell_same _ _ _ hjj.1
    · refine World.cell?_setCell_same _ _ _ (u := .int .i64 d[j]!.2) ?_
      rw [World.cell?_setCell_other _ _ _ _ (by intro e'; injection e'; omega)]
      exact hjj.2.1
    · rw [World.frozen?_setCell, World.frozen?_setCell]; exact hjj.2.2.1
    · rw [World.frozen?_setCell, World.frozen?_setCell]; exact hjj.2.2.2
  · rw [Sort.getElem!_set_other d k j _ e]
    refine ⟨?_, ?_, ?_, ?_⟩
    · rw [World.cell?_setCell_other _ _ _ _ (by intro e'; injection e'; omega), World.cell?_setCell_other _ _ _ _ (by intro e'; injection e'; omega)]; exact hjj.1
    · rw [World.cell?_setCell_other _ _ _ _ (by intro e'; injection e'; omega), World.cell?_setCell_other _ _ _ _ (by intro e'; injection e'; omega)]; exact hjj.2.1
    · rw [World.frozen?_setCell, World.frozen?_setCell]; exact hjj.2.2.1
    · rw [World.frozen?_setCell, World.frozen?_setCell]; exact hjj.2.2.2
theorem Own.drew {w : World} {g : Nat} {d : Array (Int × Int)} (h : Own w g d) : Own w.drew g d := h
theorem Own.drewN {w : World} {g : Nat} {d : Array (Int × Int)} (h : Own w g d) (q : Nat) : Own (w.drewN q) g d := h

theorem kept_setCells {W : World} {b : Nat} (hb : W.heap.size ≤ b) : ∀ (vs : List Value) (o : Nat) (w : World), Kept W w → Kept W (w.setCells b o vs)
  | [], _, _, h => h
  | v :: r, o, _, h => kept_setCells hb r (o + 1) _ (h.setCell hb v)
theorem setCells_low {b j : Nat} : ∀ (vs : List Value) (o : Nat) (w : World), j < o → (w.setCells b o vs).cell? ⟨b, j, none⟩ = w.cell? ⟨b, j, none⟩
  | [], _, _, _ => rfl
  | v :: r, o, w, h => by
    rw [World.setCells, setCells_low r (o + 1) _ (by omega), World.cell?_setCell_other _ _ _ _ (by intro e'; injection e'; omega)]
theorem run_clear_dots (w : World) (g o n c : Nat) (ty : TypeId) (hn : 0 < n) (hc : ∀ j, j < n * 2 → (w.cell? ⟨g, o + j, none⟩).isSome = true) (hf : ∀ j, j < n * 2 → w.frozen? ⟨g, o + j, none⟩ = false) :
    (Builtin.clear_ #[24] ty #[.slice (some ⟨g, o, none⟩) n c]).run Tryz.prog w = .ok (.tuple #[]) (w.setCells g o (Builtin.zeroCells #[.int .i64 0, .int .i64 0] n).toList) := by
  have hl : (Builtin.zeroCells #[.int .i64 0, .int .i64 0] n).toList.length = n * 2 := by rw [Array.length_toList, size_zeroCells]; rfl
  have hst := run_storeCells_cells (P := Tryz.prog) g o (Builtin.zeroCells #[.int .i64 0, .int .i64 0] n).toList 0 w (by rw [hl]; simpa using hc) (by rw [hl]; simpa using hf) (by
    intro v hv
    simp [Builtin.zeroCells] at hv
    obtain ⟨a, _, rfl⟩ := hv
    rcases Nat.mod_two_eq_zero_or_one a with e | e <;> simp [e, Value.oneCell'])
  simp only [Nat.add_zero] at hst
  obtain ⟨m, rfl⟩ : ∃ m, n = m + 1 := ⟨n - 1, by omega⟩
  have hz : ∀ w, (zeroValue 30).run Tryz.prog w = .ok (.agg #[.int .i64 0, .int .i64 0]) w := Tryz.zeroValue30
  simp [Builtin.clear_, run_underlying Tryz.underlying24, hz, Value.cells, hst]

theorem pair_eq {x y : Int × Int} (h : x = y) : (x.1 == y.1) = true ∧ (x.2 == y.2) = true := by subst h; simp
theorem pair_ne {x y : Int × Int} (h : ¬ x = y) : (x.1 == y.1) = false ∨ ((x.1 == y.1) = true ∧ (x.2 == y.2) = false) := by
  obtain ⟨x1, x2⟩ := x
  obtain ⟨y1, y2⟩ := y
  simp only [Prod.mk.injEq, not_and] at h
  by_cases e : x1 = y1
  · exact .inr ⟨by simpa using e, by simpa using h e⟩
  · exact .inl (by simpa using e)
/-- What Compact leaves. -/
def Compacts (d : Array (Int × Int)) (g cap : Nat) (W : World) (e : Ending) (w' : World) : Prop :=
  e = .returned (.slice (some ⟨g, 0, none⟩) (compactUpTo d d.size).length cap) ∧ (∀ j x, (compactUpTo d d.size)[j]? = some x → w'.cell? ⟨g, j * 2, none⟩ = some (.int .i64 x.1) ∧ w'.cell? ⟨g, j * 2 + 1, none⟩ = some (.int .i64 x.2)) ∧ Kept W w'
theorem compacts_all {d : Array (Int × Int)} {g n cap : Nat} {W w : World} (hn : n = d.size) (h : Own w g d) (hK : Kept W w) (hall : ∀ j, j < d.size → keeps d j = true) : Compacts d g cap W (.returned (.slice (some ⟨g, 0, none⟩) n cap)) w := by
  subst hn
  have e : compactUpTo d d.size = d.toList := by rw [compactUpTo_all d _ hall, range_map_get]
  unfold Compacts
  rw [e]
  refine ⟨by simp, fun j x hj => ?_, hK⟩
  have hjl := (List.getElem?_eq_some_iff.1 hj).1
  have hjs : j < d.size := by simpa using hjl
  have := h j hjs
  have ex : d[j]! = x := by
    rw [getElem!_pos d j hjs]
    simpa using (List.getElem?_eq_some_iff.1 hj).2
  rw [ex] at this
  exact ⟨this.1, this.2.1⟩

set_option maxRecDepth 100000 in
set_option maxHeartbeats 4000000 in
theorem compact_any (g cap : Nat) (d : Array (Int × Int)) (w W : World) (hcap : d.size ≤ cap) (hn : d.size ≤ 1000000) (h : Own w g d) (hK : Kept W w) (hW : W.heap.size ≤ g) :
    Calls Tryz.prog 98 #[.slice (some ⟨g, 0, none⟩) d.size cap] w (Compacts d g cap W) := by
  have HD := Lib.hid h
  have HK := Lib.hid hK
  clear h hK
  by_cases h2 : d.size < 2
  · go_enter Tryz.func98, Tryz.ntmps98
    go_wp2
    go_ret
    exact compacts_all rfl HD.out HK.out (fun j hj => keeps_lt_one d j (by omega))
  · go_enter Tryz.func98, Tryz.ntmps98
    go_wp2
    go_loopw [3] (fun i wr => ∃ k q : Nat, 1 ≤ k ∧ k ≤ d.size ∧ i = .int .i64 k ∧ wr = w.drewN q ∧ ∀ j, j < k → keeps d j = true) (fun i _ => d.size - (intOf i).toNat)
    case atStart => exact ⟨1, 0, Nat.le_refl _, by omega, rfl, rfl, keeps_lt_one d⟩
    case round =>
      obtain ⟨k, q, hk1, hk, rfl, rfl, hall⟩ := hrel
      have HA := Lib.hid hall
      clear hall
      by_cases hlt : k < d.size
      · obtain ⟨c1, c2, _, _⟩ := HD.out k hlt
        obtain ⟨c3, c4, _, _⟩ := HD.out (k - 1) (by omega)
        generalize hx : d[k]! = x at c1 c2
        generalize hy : d[k - 1]! = y at c3 c4
        have HX := Lib.hid hx
        have HY := Lib.hid hy
        clear hx hy
        by_cases hdup : x = y
        · have HU := Lib.hid hdup
          obtain ⟨e1, e2⟩ := pair_eq hdup
          clear hdup
          obtain ⟨x1, x2⟩ := x
          obtain ⟨y1, y2⟩ := y
          simp only at c1 c2 c3 c4 e1 e2
          go_wp2_with fail
          go_quiet (fail)
          go_wp2_with fail
          clear c1 c2 c3 c4 e1 e2
          go_loopw [3, 5] (fun i i2 wr => ∃ (kk k2 : Nat) (dk : Array (Int × Int)), i = .int .i64 kk ∧ i2 = .int .i64 k2 ∧ 1 ≤ k2 ∧ k + k2 ≤ d.size ∧ Own wr g dk ∧ CompInv d (k + k2) kk dk ∧ Kept W wr) (fun _ i2 _ => d.size - (k + (intOf i2).toNat))
          case atStart => exact ⟨k, 1, d, rfl, rfl, Nat.le_refl _, by omega, HD.out, CompInv.start HA.out (keeps_neg (by omega) (by rw [HX.out, HY.out]; exact HU.out)), HK.out⟩
          case round =>
            obtain ⟨kk, k2, dk, rfl, rfl, h1, hle, ho, hI, hKr⟩ := hrel
            have hkk := hI.lt
            have hds := hI.size
            have HO := Lib.hid ho
            have HI := Lib.hid hI
            have HKR := Lib.hid hKr
            clear ho hI hKr
            by_cases hlt2 : k + k2 < d.size
            · obtain ⟨c1, c2, _, _⟩ := HO.out (k + k2) (by omega)
              obtain ⟨c3, c4, _, _⟩ := HO.out (k + k2 - 1) (by omega)
              obtain ⟨c5, c6, f5, f6⟩ := HO.out kk (by omega)
              rw [HI.out.high (k + k2) (by omega), show (k + k2) * 2 = k * 2 + k2 * 2 by omega] at c1 c2
              rw [HI.out.high (k + k2 - 1) (by omega), show (k + k2 - 1) * 2 = k * 2 + (k2 - 1) * 2 by omega] at c3 c4
              generalize hu : d[k + k2]! = u at c1 c2
              generalize hv : d[k + k2 - 1]! = v at c3 c4
              generalize dk[kk]!.1 = old1 at c5
              generalize dk[kk]!.2 = old2 at c6
              have HU2 := Lib.hid hu
              have HV2 := Lib.hid hv
              clear hu hv
              by_cases huv : u = v
              · have HE := Lib.hid huv
                obtain ⟨e1, e2⟩ := pair_eq huv
                clear huv
                obtain ⟨u1, u2⟩ := u
                obtain ⟨v1, v2⟩ := v
                simp only at c1 c2 c3 c4 e1 e2
                go_wp2_with fail
                go_quiet (fail)
                go_wp2_with fail
                go_roundw
                case rel => exact ⟨kk, k2 + 1, dk, rfl, by go_num, by omega, by omega, HO.out.drewN _, HI.out.skip (keeps_neg (by omega) (by rw [HU2.out, HV2.out]; exact HE.out)), HKR.out.drewN _⟩
                case measure => simp [intOf]; omega
              · have HE := Lib.hid huv
                have HNX := Lib.hid (show CompInv d (k + k2 + 1) (kk + 1) (dk.setIfInBounds kk u) by
                  have := HI.out.keep hlt2 (keeps_pos (by rw [HU2.out, HV2.out]; exact huv))
                  rwa [HU2.out] at this)
                rcases pair_ne huv with e1 | ⟨e1, e2⟩
                · clear huv
                  obtain ⟨u1, u2⟩ := u
                  obtain ⟨v1, v2⟩ := v
                  simp only at c1 c2 c3 c4 e1
                  go_wp2_with fail
                  go_quiet (fail)
                  go_wp2_with fail
                  go_roundw
                  case rel => exact ⟨kk + 1, k2 + 1, dk.setIfInBounds kk (u1, u2), by go_num, by go_num, by omega, by omega, (HO.out.drewN _).set (by omega) u1 u2, HNX.out, ((HKR.out.drewN _).setCell hW _).setCell hW _⟩
                  case measure => simp [intOf]; omega
                · clear huv
                  obtain ⟨u1, u2⟩ := u
                  obtain ⟨v1, v2⟩ := v
                  simp only at c1 c2 c3 c4 e1 e2
                  go_wp2_with fail
                  go_quiet (fail)
                  go_wp2_with fail
                  go_roundw
                  case rel => exact ⟨kk + 1, k2 + 1, dk.setIfInBounds kk (u1, u2), by go_num, by go_num, by omega, by omega, (HO.out.drewN _).set (by omega) u1 u2, HNX.out, ((HKR.out.drewN _).setCell hW _).setCell hW _⟩
                  case measure => simp [intOf]; omega
            · have hend : k + k2 = d.size := by omega
              have cellAt : ∀ j, j < (d.size - kk) * 2 → (wr.cell? ⟨g, kk * 2 + j, none⟩).isSome = true ∧ wr.frozen? ⟨g, kk * 2 + j, none⟩ = false := fun j hj => by
                obtain ⟨c1, c2, f1, f2⟩ := HO.out (kk + j / 2) (by omega)
                rcases Nat.mod_two_eq_zero_or_one j with e | e
                · rw [show kk * 2 + j = (kk + j / 2) * 2 by omega, c1]; exact ⟨rfl, f1⟩
                · rw [show kk * 2 + j = (kk + j / 2) * 2 + 1 by omega, c2]; exact ⟨rfl, f2⟩
              have hcl := fun ty => run_clear_dots wr g (kk * 2) (d.size - kk) (cap - kk) ty (by omega) (fun j hj => (cellAt j hj).1) (fun j hj => (cellAt j hj).2)
              generalize (Builtin.zeroCells #[Value.int .i64 0, Value.int .i64 0] (d.size - kk)).toList = zs at hcl
              have HLEN := Lib.hid HI.out.len
              have HLOW := Lib.hid HI.out.low
              rw [hend] at HLEN HLOW
              clear cellAt
              go_wp2_with fail
              go_ret
              refine ⟨by rw [HLEN.out]; rfl, fun j x hj => ?_, kept_setCells hW _ _ _ HKR.out⟩
              have hjl := (List.getElem?_eq_some_iff.1 hj).1
              rw [HLEN.out] at hjl
              have ex : dk[j]! = x := by
                have := HLOW.out j hjl
                rw [hj] at this
                exact (Option.some.inj this).symm
              obtain ⟨c1, c2, _, _⟩ := HO.out j (by omega)
              rw [ex] at c1 c2
              rw [setCells_low _ _ _ (by omega), setCells_low _ _ _ (by omega)]
              exact ⟨c1, c2⟩
        · have HNE := Lib.hid (show ∀ j, j < k + 1 → keeps d j = true from fun j hj => by
            by_cases e : j = k
            · subst e
              exact keeps_pos (by rw [HX.out, HY.out]; exact hdup)
            · exact HA.out j (by omega))
          rcases pair_ne hdup with e1 | ⟨e1, e2⟩
          · clear hdup
            obtain ⟨x1, x2⟩ := x
            obtain ⟨y1, y2⟩ := y
            simp only at c1 c2 c3 c4 e1
            go_wp2_with fail
            go_quiet (fail)
            go_wp2_with fail
            go_roundw
            case rel => exact ⟨k + 1, _, by omega, by omega, by go_num, rfl, HNE.out⟩
            case measure => simp [intOf]; omega
          · clear hdup
            obtain ⟨x1, x2⟩ := x
            obtain ⟨y1, y2⟩ := y
            simp only at c1 c2 c3 c4 e1 e2
            go_wp2_with fail
            go_quiet (fail)
            go_wp2_with fail
            go_roundw
            case rel => exact ⟨k + 1, _, by omega, by omega, by go_num, rfl, HNE.out⟩
            case measure => simp [intOf]; omega
      · obtain rfl : k = d.size := by omega
        go_wp2_with fail
        go_ret
        exact compacts_all rfl (HD.out.drewN _) (HK.out.drewN _) HA.out
end Go.Proofs.YtkooihljddibfaaGreat

namespace Go.Proofs.YtkooihljddibfaaGreat
open Go.RowKit Go.Lib

theorem compact_rise (d : Array (Int × Int)) (hs : ∀ i j, i < j → j < d.size → ¬ LtD d[j]! d[i]!) : ∀ m, m ≤ d.size → Rise (compactUpTo d m) ∧ ∀ x, x ∈ compactUpTo d m ↔ ∃ j, j < m ∧ d[j]! = x
  | 0, _ => ⟨rise_nil, fun x => ⟨fun h => by simp [compactUpTo] at h, fun ⟨j, hj, _⟩ => absurd hj (by omega)⟩⟩
  | m + 1, hm => by
    obtain ⟨ih1, ih2⟩ := compact_rise d hs m (by omega)
    rw [compactUpTo_succ]
    cases hk : keeps d m with
    | true =>
      rw [if_pos rfl]
      refine ⟨?_, fun x => ?_⟩
      · unfold Rise
        rw [List.pairwise_append]
        refine ⟨ih1, List.pairwise_singleton _ _, fun x hx y hy => ?_⟩
        obtain rfl : y = d[m]! := by simpa using hy
        obtain ⟨j, hj, rfl⟩ := (ih2 x).1 hx
        have h1 := hs j m hj (by omega)
        rcases LtD.tri d[j]! d[m]! with h | h | h
        · exact h
        · exfalso
          have h2 : m ≠ 0 := by omega
          have h3 : d[m]! ≠ d[m - 1]! := by
            unfold keeps at hk
            rw [decide_eq_true_iff] at hk
            exact hk.resolve_left h2
          rcases Nat.lt_or_ge j (m - 1) with h4 | h4
          · have h5 := hs j (m - 1) h4 (by omega)
            have h6 := hs (m - 1) m (by omega) (by omega)
            rw [h] at h5
            rcases LtD.tri d[m - 1]! d[m]! with h | h | h
            · exact h5 h
            · exact h3 h.symm
            · exact h6 h
          · rw [show j = m - 1 by omega] at h
            exact h3 h.symm
        · exact absurd h h1
      · rw [List.mem_append, ih2]
        constructor
        · rintro (⟨j, hj, e⟩ | h)
          · exact ⟨j, by omega, e⟩
          · exact ⟨m, by omega, (List.mem_singleton.1 h).symm⟩
        · rintro ⟨j, hj, e⟩
          rcases Nat.lt_or_ge j m with h | h
          · exact .inl ⟨j, h, e⟩
          · obtain rfl : j = m := by omega
            exact .inr (List.mem_singleton.2 e.symm)
    | false =>
      rw [if_neg (by simp), List.append_nil]
      refine ⟨ih1, fun x => ?_⟩
      rw [ih2]
      unfold keeps at hk
      rw [decide_eq_false_iff_not] at hk
      have h0 : m ≠ 0 := fun e => hk (.inl e)
      have h1 : d[m]! = d[m - 1]! := Classical.byContradiction fun e => hk (.inr e)
      constructor
      · rintro ⟨j, hj, e⟩; exact ⟨j, by omega, e⟩
      · rintro ⟨j, hj, e⟩
        rcases Nat.lt_or_ge j m with h | h
        · exact ⟨j, h, e⟩
        · obtain rfl : j = m := by omega
          exact ⟨j - 1, by omega, by rw [← h1]; exact e⟩
theorem compact_sort {L : List (Int × Int)} {d : Array (Int × Int)} (hp : d.toList.Perm L) (hs : ∀ i j, i < j → j < d.size → ¬ LtD d[j]! d[i]!) : SortD L (compactUpTo d d.size) := by
  obtain ⟨h1, h2⟩ := compact_rise d hs d.size (Nat.le_refl _)
  refine ⟨h1, fun x => ?_⟩
  rw [h2, ← hp.mem_iff]
  constructor
  · rintro ⟨j, hj, rfl⟩
    rw [getElem!_pos d j hj]
    exact Array.getElem_mem_toList hj
  · intro hx
    obtain ⟨j, hj, e⟩ := List.getElem_of_mem hx
    have hj' : j < d.size := by simpa using hj
    exact ⟨j, hj', by rw [getElem!_pos d j hj']; simpa using e⟩
theorem compact_len (d : Array (Int × Int)) (m : Nat) : (compactUpTo d m).length ≤ m := by
  unfold compactUpTo
  rw [List.length_map]
  exact Nat.le_trans (List.length_filter_le _ _) (by simp)

theorem compact_none (A : Option Addr) (cap : Nat) (w : World) :
    Calls Tryz.prog 98 #[.slice A 0 cap] w fun e w' => e = .returned (.slice A 0 cap) ∧ w' = w := by
  go_enter Tryz.func98, Tryz.ntmps98
  go_wp2
  go_ret
  exact ⟨rfl, rfl⟩

/-- What Sort leaves. -/
def Sorts (L : List (Int × Int)) (w : World) (e : Ending) (w' : World) : Prop :=
  ∃ A m c X, e = .returned (.slice A m c) ∧ Dl w' A m c X ∧ SortD L X ∧ m ≤ L.length ∧ Kept w w' ∧ ∀ ad, A = some ad → w.heap.size ≤ ad.block

set_option maxRecDepth 100000 in
set_option maxHeartbeats 1000000 in
theorem dsort_any (A : Option Addr) (n c : Nat) (L : List (Int × Int)) (w : World) (h : Dl w A n c L) (hn : n ≤ 1000000) :
    Calls Tryz.prog 88 #[.slice A n c] w (Sorts L w) := by
  have HL := Lib.hid h.1
  have HC := Lib.hid (clone_any A n c L w h hn)
  clear h
  go_enter Tryz.func88, Tryz.ntmps88
  go_wp2_with fail
  go_at_call 90
  refine HC.out.mono ?_
  rintro e w1 ⟨v, rfl, ho, hk⟩
  by_cases h0 : n = 0
  · subst h0
    obtain ⟨A1, c1, rfl, hd1, hf1⟩ := Dl.of_own' ho
    have HF := Lib.hid hf1
    have HD := Lib.hid hd1
    have HK := Lib.hid hk
    clear hd1 hk ho hf1
    go_wp2_with (first
      | (go_at_call 97; refine (sortF_none _ _ _).mono ?_; rintro e w2 ⟨rfl, rfl⟩)
      | (go_at_call 98; refine (compact_none _ _ _).mono ?_; rintro e w2 ⟨rfl, rfl⟩))
    go_ret
    have hL : L = [] := List.eq_nil_of_length_eq_zero HL.out.symm
    subst hL
    exact ⟨A1, 0, c1, [], rfl, HD.out, ⟨rise_nil, fun x => Iff.rfl⟩, Nat.zero_le _, HK.out, HF.out⟩
  · obtain ⟨g, cap, rfl, hb, hcap⟩ : ∃ g cap, v = .slice (some ⟨g, 0, none⟩) n cap ∧ w.heap.size ≤ g ∧ n ≤ cap ∧ cap ≤ maxLen := by
      rcases ho.2 with ⟨_, e⟩ | ⟨g, cap, cur, rfl, hb, _, h1, h2, _⟩
      · exact absurd e h0
      · exact ⟨g, cap, rfl, hb, h1, h2⟩
    have hds : L.toArray.size = n := by rw [List.size_toArray]; exact HL.out.symm
    have HO := Lib.hid (Own.of_owns ho)
    have HK := Lib.hid hk
    have hS := sortF_any g cap L.toArray w1 w HO.out (by omega) (by omega) HK.out hb
    rw [hds] at hS
    have HS := Lib.hid hS
    clear ho hk hS
    go_wp2_with fail
    go_at_call 97
    refine HS.out.mono ?_
    rintro e w2 ⟨rfl, d2, hz, hp, hr, ho2, hk2⟩
    have hM := compact_any g cap d2 w2 w (by omega) (by omega) ho2 hk2 hb
    rw [show d2.size = n by omega] at hM
    have HM := Lib.hid hM
    have HP := Lib.hid (compact_sort hp hr)
    have HZ := Lib.hid hz
    clear hM hp hr ho2 hk2 hz HS
    go_wp2_with fail
    go_at_call 98
    refine HM.out.mono ?_
    rintro e w3 ⟨rfl, hc3, hk3⟩
    go_wp2_with fail
    go_ret
    have hlen := compact_len d2 d2.size
    have hz2 := HZ.out
    have hcm := hcap.2
    refine ⟨some ⟨g, 0, none⟩, (compactUpTo d2 d2.size).length, cap, compactUpTo d2 d2.size, rfl, ⟨rfl, by omega, hcap.2, fun h => by simp at h, .inr ⟨g, 0, rfl, fun j x hj => ?_⟩⟩, HP.out, by rw [← HL.out]; omega, hk3, fun ad e => by obtain rfl := Option.some.inj e; exact hb⟩
    rw [Nat.zero_add]
    exact hc3 j x hj
end Go.Proofs.YtkooihljddibfaaGreat

