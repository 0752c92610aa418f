/-
  What is proved: slices.SortFunc at dots, with dot.Cmp, over a row of the call's own: the row holds the same dots, rising or level; all else is kept.
-/
import Derived.Test.YtgofecnpmohmgaaDLib
import Derived.Test.YtgofecnpmohmgaaDCmp
import Derived.Test.YtgofecnpmohmgaaDShelf
namespace Go.Proofs.Ytgofecnpmohmgaa
open Go.RowKit Go.Shelf Go.Sort

def encD (x : Int × Int) : List Value := [.int .i64 x.1, .int .i64 x.2]
/-- A row of dots that may be written. -/
def Own (w : World) (g : Nat) (d : Array (Int × Int)) : Prop :=
  ∀ j, j < d.size → w.cell? ⟨g, j * 2, none⟩ = some (.int .i64 d[j]!.1) ∧ w.cell? ⟨g, j * 2 + 1, none⟩ = some (.int .i64 d[j]!.2) ∧ w.frozen? ⟨g, j * 2, none⟩ = false ∧ w.frozen? ⟨g, j * 2 + 1, none⟩ = false
theorem Own.holdsK {w : World} {g : Nat} {d : Array (Int × Int)} (h : Own w g d) : HoldsK encD 2 w g 0 d := by
  intro j hj
  rw [size_flatK] at hj
  have hk := h (j / 2) (by omega)
  rw [Nat.zero_add, get_flatK encD 2 d j hj]
  rcases Nat.mod_two_eq_zero_or_one j with e | e
  · rw [e, show j = j / 2 * 2 by omega, show j / 2 * 2 / 2 = j / 2 by omega]
    exact ⟨hk.1, hk.2.2.1⟩
  · rw [e, show j = j / 2 * 2 + 1 by omega, show (j / 2 * 2 + 1) / 2 = j / 2 by omega]
    exact ⟨hk.2.1, hk.2.2.2⟩
theorem Own.of_holdsK {w : World} {g : Nat} {d : Array (Int × Int)} (h : HoldsK encD 2 w g 0 d) : Own w g d := by
  intro j hj
  have h0 := h (j * 2) (by rw [size_flatK]; omega)
  have h1 := h (j * 2 + 1) (by rw [size_flatK]; omega)
  rw [Nat.zero_add, get_flatK encD 2 d _ (by omega), show j * 2 / 2 = j by omega, show j * 2 % 2 = 0 by omega] at h0
  rw [Nat.zero_add, get_flatK encD 2 d _ (by omega), show (j * 2 + 1) / 2 = j by omega, show (j * 2 + 1) % 2 = 1 by omega] at h1
  exact ⟨h0.1, h1.1, h0.2, h1.2⟩
theorem toArr_get {L : List (Int × Int)} {j : Nat} {x : Int × Int} (h : L[j]? = some x) : L.toArray[j]! = x := by
  have hl := (List.getElem?_eq_some_iff.1 h).1
  rw [getElem!_pos _ j (by simpa using hl)]
  simpa using (List.getElem?_eq_some_iff.1 h).2
theorem Own.of_owns {w : World} {base g n cap : Nat} {e : TypeId} {L : List (Int × Int)} (h : w.ownsRow base e 2 (.slice (some ⟨g, 0, none⟩) n cap) n (flatD L)) : Own w g L.toArray := by
  intro j hj
  have hj' : j < L.length := by simpa using hj
  have hx := flatD_get L j L[j] (List.getElem?_eq_getElem hj')
  have hc := fun i u => h.cells (g := g) rfl i u
  have c0 := hc _ _ hx.1
  have c1 := hc _ _ hx.2
  rw [Addr.add_lit, Nat.zero_add] at c0 c1
  rw [toArr_get (List.getElem?_eq_getElem hj')]
  exact ⟨c0, c1, h.frozenAt _, h.frozenAt _⟩
theorem Own.lt {w : World} {g : Nat} {d : Array (Int × Int)} (h : Own w g d) (hd : 0 < d.size) : g < w.heap.size := World.block_lt_of_cell? w _ (h 0 hd).1

theorem kept_sortWorld {W w : World} {g m : Nat} {d : Array (Int × Int)} {os : Array Obj} (h : Kept W w) (hW : W.heap.size ≤ g) : Kept W (sortWorldK encD 2 w g 0 m d os) := by
  obtain ⟨⟨h1, h2, h3⟩, hf, hs⟩ := h
  have hb : ∀ i, i < W.heap.size → (sortWorldK encD 2 w g 0 m d os).heap[i]? = w.heap[i]? := fun i hi => by
    unfold sortWorldK
    rw [heap_grow_old _ _ (by simp [putRowK]; omega)]
    show (w.heap.modify g _)[i]? = _
    rw [Array.getElem?_modify, if_neg (by omega)]
  refine ⟨⟨h1, h2, fun i hi => ?_⟩, fun a ha => ?_, ?_⟩
  · rw [hb i hi]; exact h3 i hi
  · rw [← hf a ha]
    exact World.frozen?_of_block (w := w) (hb a.block ha)
  · unfold sortWorldK
    rw [size_grow]
    simp [putRowK]; omega
theorem own_sortWorld {w : World} {g m : Nat} {d d' : Array (Int × Int)} {os : Array Obj} (h : Own w g d) (hd : 0 < d.size) (hs : d'.size = d.size) : Own (sortWorldK encD 2 w g 0 m d' os) g d' := by
  have hg := h.lt hd
  refine Own.of_holdsK ?_
  unfold sortWorldK
  exact holdsK_grow encD 2 _ os g 0 d' (by simp [putRowK]; omega) (holdsK_putRowK encD 2 (Sort.ahead w m) g 0 d d' h.holdsK hs)

theorem ltOfD (x y : Int × Int) : ltOf cmpD x y = true ↔ LtD x y := by unfold ltOf; rw [decide_eq_true_iff, cmpD_lt]
theorem ltOfD_no (x y : Int × Int) : ltOf cmpD x y = false ↔ ¬ LtD x y := by unfold ltOf; rw [decide_eq_false_iff_not, cmpD_lt]
theorem swoD : SWO (ltOf cmpD) where
  irrefl x := (ltOfD_no x x).2 (LtD.irrefl x)
  trans x y z h1 h2 := (ltOfD x z).2 (((ltOfD x y).1 h1).trans ((ltOfD y z).1 h2))
  ntrans x y z h1 h2 := by rw [ltOfD_no] at *; unfold LtD at *; omega
theorem cmpLaysD (g n : Nat) (w : World) : CmpLays Try.prog 58 #[] encD 2 cmpD g 0 n w :=
  fun _ _ _ _ x y => dcmp_any x.1 x.2 y.1 y.2 _

/-- slices.SortFunc(row, dot.Cmp). -/
theorem sortF_any (g cap : Nat) (d : Array (Int × Int)) (w W : World) (h : Own w g d) (hd : 0 < d.size) (hn : d.size ≤ 1000000) (hK : Kept W w) (hW : W.heap.size ≤ g) :
    Calls Try.prog 70 #[.slice (some ⟨g, 0, none⟩) d.size cap, .func (.func 58) #[] #[]] w fun e w' => e = .returned (.tuple #[]) ∧
      ∃ d', d'.size = d.size ∧ d'.toList.Perm d.toList ∧ (∀ i j, i < j → j < d'.size → ¬ LtD d'[j]! d'[i]!) ∧ Own w' g d' ∧ Kept W w' := by
  have eg : ∀ args w, (callFunc 58 args).run Try.prog w = .ok (.enter 58 args) w := enters_of Try.func58 (by kernel_rfl) rfl
  have hcon := AnyQ.slices_SortFunc Try.sortDots 2 Try.isAgg36 Try.sizeOf36 encD (fun _ => rfl) (fun x v hv => by simp [encD] at hv; rcases hv with rfl | rfl <;> rfl) cmpD swoD 58 #[] g 0 cap d w eg (cmpLaysD g d.size w) h.holdsK (h.lt hd) (by omega)
  refine hcon.mono fun e w' ⟨he, d', m, os, hp, hs, hw⟩ => ⟨he, d', hp.1, ?_, fun i j hij hj => ?_, ?_, ?_⟩
  · have := hp.2.2
    rw [Array.extract_eq_self_of_le (by rw [hp.1]; exact Nat.le_refl _), Array.extract_eq_self_of_le (Nat.le_refl _)] at this
    exact this
  · exact (ltOfD_no _ _).1 (hs i j (Nat.zero_le _) hij (by rw [← hp.1]; exact hj))
  · rw [hw]; exact own_sortWorld h hd hp.1
  · rw [hw]; exact kept_sortWorld hK hW
theorem sortF_none (A : Option Addr) (cap : Nat) (w : World) :
    Calls Try.prog 70 #[.slice A 0 cap, .func (.func 58) #[] #[]] w fun e w' => e = .returned (.tuple #[]) ∧ w' = w :=
  AnyF.slices_SortFunc_none Try.sortDots A cap _ w
end Go.Proofs.Ytgofecnpmohmgaa
