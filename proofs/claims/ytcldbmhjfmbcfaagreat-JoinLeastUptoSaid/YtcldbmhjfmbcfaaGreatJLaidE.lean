/-
  What is proved: a slice of events among the arguments, opened: what it holds, and that its texts are no longer than the condition's bulk.
-/
import Derived.Test.YtcldbmhjfmbcfaaGreatRows
import Derived.Test.YtcldbmhjfmbcfaaGreatM18
import Derived.Test.YtcldbmhjfmbcfaaGreatM26
import Derived.ChangeArms
namespace Go.Proofs.YtcldbmhjfmbcfaaGreat
open Go.ChangeShapes Go.WideShapes Go.ChangeAt Go.RowKit Go.Joins

theorem cEvt : Tryz.prog.cellsOf 51 = 5 := by kernel_rfl
theorem cBool : Tryz.prog.cellsOf 4 = 1 := by kernel_rfl
def cellV (x : Ev) : List Value := [.int .i64 x.ea, .int .i64 x.ef, .string x.path, .bool x.clear_, .bool x.leave]
def dataEv {H : Type} (x : Ev) : DataW H := .agg [.lit (.int .i64 x.ea), .lit (.int .i64 x.ef), .lit (.string x.path.data.toList), .lit (.bool x.clear_), .lit (.bool x.leave)]
instance : Inhabited Ev := ⟨⟨0, 0, ⟨#[]⟩, false, false⟩⟩
section
variable {H : Type} {enc : TypeId × Value → H} {w : World} {base : Nat} {spare : Nat → Bool} {held : Bool}
theorem trod_ev {fuel : Nat} {l : List Value} {y : DataW H × List MemPlace} (hsz : l.length = 5) (hf : DataW.trod enc Tryz.prog w base spare held fuel 51 l = some y) :
    ∃ x : Ev, l = cellV x ∧ y = (dataEv x, []) := by
  obtain ⟨c0, c1, c2, c3, c4, rfl⟩ : ∃ c0 c1 c2 c3 c4, l = [c0, c1, c2, c3, c4] := by
    match l, hsz with
    | [c0, c1, c2, c3, c4], _ => exact ⟨c0, c1, c2, c3, c4, rfl⟩
  obtain ⟨xs, n, _, hx, _, hxl, hfs⟩ := DataW.trod_struct Tryz.underlying51 hf
  obtain ⟨y0, y1, y2, y3, y4, rfl⟩ : ∃ y0 y1 y2 y3 y4, xs = [y0, y1, y2, y3, y4] := by
    match xs, hxl with
    | [y0, y1, y2, y3, y4], _ => exact ⟨y0, y1, y2, y3, y4, rfl⟩
  have h0 : DataW.trod enc Tryz.prog w base spare held n 3 (List.take (Tryz.prog.cellsOf 3) [c0, c1, c2, c3, c4]) = some y0 := hfs 0 _ rfl
  rw [cInt] at h0
  replace h0 : DataW.trod enc Tryz.prog w base spare held n 3 [c0] = some y0 := h0
  have h1 : DataW.trod enc Tryz.prog w base spare held n 3 (List.take (Tryz.prog.cellsOf 3) [c1, c2, c3, c4]) = some y1 := hfs 1 _ rfl
  rw [cInt] at h1
  replace h1 : DataW.trod enc Tryz.prog w base spare held n 3 [c1] = some y1 := h1
  have h2 : DataW.trod enc Tryz.prog w base spare held n 9 (List.take (Tryz.prog.cellsOf 9) [c2, c3, c4]) = some y2 := hfs 2 _ rfl
  rw [cStr] at h2
  replace h2 : DataW.trod enc Tryz.prog w base spare held n 9 [c2] = some y2 := h2
  have h3 : DataW.trod enc Tryz.prog w base spare held n 4 (List.take (Tryz.prog.cellsOf 4) [c3, c4]) = some y3 := hfs 3 _ rfl
  rw [cBool] at h3
  replace h3 : DataW.trod enc Tryz.prog w base spare held n 4 [c3] = some y3 := h3
  have h4 : DataW.trod enc Tryz.prog w base spare held n 4 (List.take (Tryz.prog.cellsOf 4) [c4]) = some y4 := hfs 4 _ rfl
  rw [cBool] at h4
  replace h4 : DataW.trod enc Tryz.prog w base spare held n 4 [c4] = some y4 := h4
  obtain ⟨ea, e0, rfl, _⟩ := DataW.trod_int Tryz.underlying3 h0
  obtain ⟨ef, e1, rfl, _⟩ := DataW.trod_int Tryz.underlying3 h1
  obtain ⟨pp, e2, rfl, _⟩ := DataW.trod_string Tryz.underlying9 h2
  obtain ⟨b3, e3, rfl⟩ := DataW.trod_bool Tryz.underlying4 h3
  obtain ⟨b4, e4, rfl⟩ := DataW.trod_bool Tryz.underlying4 h4
  simp only [List.cons.injEq, and_true] at e0 e1 e2 e3 e4
  subst e0 e1 e2 e3 e4
  exact ⟨⟨ea, ef, pp, b3, b4⟩, rfl, by rw [hx]; rfl⟩
theorem EvO.of_flat {w : World} {b o : Nat} {x : Ev} (h : ∀ j u, (cellV x)[j]? = some u → w.cell? ⟨b, o + j, none⟩ = some u) : EvO w b o x :=
  ⟨h 0 _ rfl, h 1 _ rfl, h 2 _ rfl, h 3 _ rfl, h 4 _ rfl⟩
theorem open_evs {fuel : Nat} {v : Value} {x : DataW H × List MemPlace} (h : DataW.trod enc Tryz.prog w base spare held fuel 22 [v] = some x) :
    ∃ A n c L rest, v = .slice A n c ∧ Evl w A n c L ∧ (x.1 = .slice (L.map dataEv) rest ∨ L = []) := by
  rcases Deep.open_slice Tryz.underlying22 h with ⟨hcs, hx⟩ | ⟨a, len, cap, m, n, D, Pl, hcs, _, hl, hm, hmm, hx, hel⟩
  · simp at hcs
    subst hcs
    exact ⟨none, 0, 0, [], [], rfl, ⟨rfl, Nat.le_refl _, Nat.zero_le _, fun _ => rfl, .inl rfl⟩, .inr rfl⟩
  · simp at hcs
    subst hcs
    have hlm : len ≤ m := by rw [hmm]; split <;> omega
    rw [cEvt] at hel
    obtain ⟨f, hf⟩ := Deep.choose_lt (n := len) (p := fun i (x : Ev) => (∀ j u, (cellV x)[j]? = some u → w.cell? ((a.add (i * 5)).add j) = some u) ∧ D i = dataEv x) (fun i hi => by
      obtain ⟨cs', h1, h2⟩ := hel i (by omega)
      obtain ⟨_, hlen, hcell⟩ := World.cells?_some h1
      obtain ⟨x, rfl, hy⟩ := trod_ev hlen h2
      refine ⟨x, fun j u hu => ?_, congrArg Prod.fst hy⟩
      have hj : j < 5 := (List.getElem?_eq_some_iff.1 hu).1
      rw [hcell j hj]; exact hu)
    refine ⟨some a, len, cap, (List.range len).map f, (List.range (m - len)).map fun j => D (len + j), rfl, ⟨by simp, hl, hm, (fun h => by cases h), ?_⟩, .inl ?_⟩
    · rcases Nat.eq_zero_or_pos len with h0 | h0
      · exact .inl h0
      · obtain ⟨b, off, spot⟩ := a
        have hspot : spot = none := by simpa [Addr.add] using World.cell?_spot ((hf 0 h0).1 0 _ rfl)
        subst hspot
        refine .inr ⟨b, off, rfl, fun j x hj => ?_⟩
        have hj2 := (List.getElem?_eq_some_iff.1 hj).1
        rw [List.length_map, List.length_range] at hj2
        rw [List.getElem?_map, List.getElem?_range hj2] at hj
        obtain rfl := Option.some.inj hj
        refine EvO.of_flat fun i u hu => ?_
        have := (hf j hj2).1 i u hu
        rw [Addr.add_lit, Addr.add_lit] at this
        exact this
    · rw [hx]
      rw [List.map_map]
      exact congrArg (fun z => DataW.slice z _) (List.map_congr_left fun i hi => (hf i (List.mem_range.1 hi)).2)
theorem bulk_part {d : DataW H} {l : List (DataW H)} (h : d ∈ l) : Rows.uptoBulk d ≤ Rows.uptoBulkAll l := by
  induction l with
  | nil => cases h
  | cons x r ih =>
    simp only [Rows.uptoBulkAll]
    cases List.mem_cons.1 h with
    | inl e => subst e; omega
    | inr e => have := ih e; omega
theorem bulk_ev (x : Ev) : x.path.size ≤ Rows.uptoBulk (H := H) (dataEv x) := by
  simp only [dataEv, Rows.uptoBulk, Rows.uptoBulkAll]
  rw [show x.path.data.toList.length = x.path.size by simp]
  omega
set_option maxRecDepth 100000 in
theorem open_evsT {r : Reach} {b0 : Nat} {v : Value} {d : DataW H} {p : List MemPlace} (hv : Value.okWide Tryz.prog w r b0 22 v) (h : DataW.Trod enc Tryz.prog w base spare held 22 v d p) :
    ∃ A n c L, v = .slice A n c ∧ Evl w A n c L ∧ ∀ x ∈ L, x.path.size ≤ Rows.uptoBulk d := by
  obtain ⟨a0, len, cap, rfl⟩ := okWide_slice Tryz.underlying22 hv
  obtain ⟨fuel, hf⟩ := h
  obtain ⟨A, n, c, L, rest, hvv, hel, hx⟩ := open_evs (x := (d, p)) (by simpa [Value.cells] using hf)
  refine ⟨A, n, c, L, hvv, hel, fun x hx2 => ?_⟩
  rcases hx with hx | hx
  · simp only at hx
    have h1 := bulk_ev (H := H) x
    have h2 := bulk_part (H := H) (l := L.map dataEv) (List.mem_map.2 ⟨x, hx2, rfl⟩)
    rw [hx]
    simp only [Rows.uptoBulk]
    omega
  · rw [hx] at hx2; cases hx2
end
end Go.Proofs.YtcldbmhjfmbcfaaGreat
