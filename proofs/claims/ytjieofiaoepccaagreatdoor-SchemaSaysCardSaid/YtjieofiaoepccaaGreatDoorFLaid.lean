/-
  What is proved: a schema (a struct of a slice of fields, which are structs with texts and structs in them) among the arguments, opened; what is read of the arguments reads on, in a world with new blocks at most.
-/
import Derived.Test.YtjieofiaoepccaaGreatDoorRows
import Derived.Test.YtjieofiaoepccaaGreatDoorFSays
import Derived.ProofKit
import Derived.LaidMore
import Derived.OpenShut
import Derived.ChangeMaps5
import Derived.Stop.Joined
import Derived.Lib.SmallJoins
import Derived.Lib.LaidTab
import Derived.SizedLaws
import Derived.MakeChecks
import Derived.Carry
import Derived.WideKeyArgs
import Derived.Deep.Strs
import Derived.Deep.Frames
import Derived.Deep.SlicePairs
namespace Go.Proofs.YtjieofiaoepccaaGreatDoor
open Go.ChangeShapes Go.WideShapes Go.ChangeAt Go.RowKit Go.Joins

theorem own : ownKnob Tryz.prog.godebug = none := by kernel_rfl
theorem gPow : Tryz.prog.globalNamed "internal/strconv.uint64pow10" = some 4 := by kernel_rfl
theorem gTru : Tryz.prog.globalNamed "lorgnette/val.truths" = some 2 := by kernel_rfl
theorem gKin : Tryz.prog.globalNamed "lorgnette/schema.kinds" = some 0 := by kernel_rfl
theorem gTyp : Tryz.prog.globalNamed "lorgnette/schema.types" = some 1 := by kernel_rfl
theorem tPow : (Tryz.prog.globals[4]?).map (·.type) = some 117 := by kernel_rfl
theorem tTru : (Tryz.prog.globals[2]?).map (·.type) = some 90 := by kernel_rfl
theorem tKin : (Tryz.prog.globals[0]?).map (·.type) = some 72 := by kernel_rfl
theorem tTyp : (Tryz.prog.globals[1]?).map (·.type) = some 72 := by kernel_rfl
theorem cPow : Tryz.prog.cellsOf 117 = 20 := by kernel_rfl
theorem cU64 : Tryz.prog.cellsOf 47 = 1 := by kernel_rfl
theorem cTru : Tryz.prog.cellsOf 90 = 2 := by kernel_rfl
theorem cFour : Tryz.prog.cellsOf 72 = 4 := by kernel_rfl
theorem cStr : Tryz.prog.cellsOf 9 = 1 := by kernel_rfl
theorem cVal : Tryz.prog.cellsOf 28 = 3 := by kernel_rfl
theorem cInt : Tryz.prog.cellsOf 3 = 1 := by kernel_rfl
theorem cFld : Tryz.prog.cellsOf 30 = 6 := by kernel_rfl
theorem cFlds : Tryz.prog.cellsOf 22 = 1 := by kernel_rfl
theorem cSch : Tryz.prog.cellsOf 24 = 1 := by kernel_rfl
theorem dPow : (Rows.laid_internal_strconv_uint64pow10 : DataW Unit) = Lib.tabData .u64 Lib.pow10Tab := by
  unfold Rows.laid_internal_strconv_uint64pow10 Lib.tabData Lib.pow10Tab
  rfl
theorem laidOut : laidOutB Tryz.prog = true := by kernel_rfl
theorem wf_bd {a : Int} (h : (Lit.int .i64 a).wf = true) : -9223372036854775808 ≤ a ∧ a ≤ 9223372036854775807 := by
  simp [Lit.wf] at h
  have h1 : IntKind.i64.min = -9223372036854775808 := by decide
  have h2 : IntKind.i64.max = 9223372036854775807 := by decide
  omega
set_option maxRecDepth 100000 in
/-- A variable that is a table of two texts, of four. -/
theorem two_of {W : World} {name : String} {g : Nat} {cs : Array Value} {f : Nat} {d : DataW Unit} {p : List MemPlace} {a b : List UInt8} {enc : TypeId × Value → Unit} {base : Nat} {spare : Nat → Bool} {held : Bool}
    (hg : Tryz.prog.globalNamed name = some g) (hv : W.var? Tryz.prog name = some cs) (hd : DataW.trod enc Tryz.prog W base spare held f 90 cs.toList = some (d, p)) (hx : d = .agg [.lit (.string a), .lit (.string b)]) :
    W.cell? ⟨g, 0, none⟩ = some (.string ⟨a.toArray⟩) ∧ W.cell? ⟨g, 1, none⟩ = some (.string ⟨b.toArray⟩) := by
  subst hx
  obtain ⟨xs, m, rfl, hx2, hlen, hn, hel⟩ := DataW.trod_array Tryz.underlying90 hd
  have e0 := hel 0 (by decide)
  have e1 := hel 1 (by decide)
  obtain ⟨y0, y1, rfl⟩ : ∃ y0 y1, xs = [y0, y1] := by
    match xs, hn with
    | [y0, y1], _ => exact ⟨y0, y1, rfl⟩
  rw [cStr] at e0 e1
  obtain ⟨s0, a0, b0, _⟩ := DataW.trod_string Tryz.underlying9 (e0.trans rfl)
  obtain ⟨s1, a1, b1, _⟩ := DataW.trod_string Tryz.underlying9 (e1.trans rfl)
  have hx1 := congrArg Prod.fst hx2
  rw [b0, b1] at hx1
  simp only [List.map_cons, List.map_nil, DataW.agg.injEq, List.cons.injEq, DataW.lit.injEq, Lit.string.injEq, and_true] at hx1
  rw [cTru] at hlen
  obtain ⟨l⟩ := cs
  obtain ⟨c0, c1, rfl⟩ : ∃ c0 c1, l = [c0, c1] := by
    match l, hlen with
    | [c0, c1], _ => exact ⟨c0, c1, rfl⟩
  simp at a0 a1
  subst a0 a1
  have z0 : s0 = ⟨a.toArray⟩ := ba_ext hx1.1.symm
  have z1 : s1 = ⟨b.toArray⟩ := ba_ext hx1.2.symm
  subst z0 z1
  exact ⟨World.var?_cell hg hv 0, World.var?_cell hg hv 1⟩
set_option maxRecDepth 100000 in
theorem four_of {W : World} {name : String} {g : Nat} {cs : Array Value} {f : Nat} {d : DataW Unit} {p : List MemPlace} {a b c e : List UInt8} {enc : TypeId × Value → Unit} {base : Nat} {spare : Nat → Bool} {held : Bool}
    (hg : Tryz.prog.globalNamed name = some g) (hv : W.var? Tryz.prog name = some cs) (hd : DataW.trod enc Tryz.prog W base spare held f 72 cs.toList = some (d, p)) (hx : d = .agg [.lit (.string a), .lit (.string b), .lit (.string c), .lit (.string e)]) :
    W.cell? ⟨g, 0, none⟩ = some (.string ⟨a.toArray⟩) ∧ W.cell? ⟨g, 1, none⟩ = some (.string ⟨b.toArray⟩) ∧ W.cell? ⟨g, 2, none⟩ = some (.string ⟨c.toArray⟩) ∧ W.cell? ⟨g, 3, none⟩ = some (.string ⟨e.toArray⟩) := by
  subst hx
  obtain ⟨xs, m, rfl, hx2, hlen, hn, hel⟩ := DataW.trod_array Tryz.underlying72 hd
  have e0 := hel 0 (by decide)
  have e1 := hel 1 (by decide)
  have e2 := hel 2 (by decide)
  have e3 := hel 3 (by decide)
  obtain ⟨y0, y1, y2, y3, rfl⟩ : ∃ y0 y1 y2 y3, xs = [y0, y1, y2, y3] := by
    match xs, hn with
    | [y0, y1, y2, y3], _ => exact ⟨y0, y1, y2, y3, rfl⟩
  rw [cStr] at e0 e1 e2 e3
  obtain ⟨s0, a0, b0, _⟩ := DataW.trod_string Tryz.underlying9 (e0.trans rfl)
  obtain ⟨s1, a1, b1, _⟩ := DataW.trod_string Tryz.underlying9 (e1.trans rfl)
  obtain ⟨s2, a2, b2, _⟩ := DataW.trod_string Tryz.underlying9 (e2.trans rfl)
  obtain ⟨s3, a3, b3, _⟩ := DataW.trod_string Tryz.underlying9 (e3.trans rfl)
  have hx1 := congrArg Prod.fst hx2
  rw [b0, b1, b2, b3] at hx1
  simp only [List.map_cons, List.map_nil, DataW.agg.injEq, List.cons.injEq, DataW.lit.injEq, Lit.string.injEq, and_true] at hx1
  rw [cFour] at hlen
  obtain ⟨l⟩ := cs
  obtain ⟨c0, c1, c2, c3, rfl⟩ : ∃ c0 c1 c2 c3, l = [c0, c1, c2, c3] := by
    match l, hlen with
    | [c0, c1, c2, c3], _ => exact ⟨c0, c1, c2, c3, rfl⟩
  simp at a0 a1 a2 a3
  subst a0 a1 a2 a3
  have z0 : s0 = ⟨a.toArray⟩ := ba_ext hx1.1.symm
  have z1 : s1 = ⟨b.toArray⟩ := ba_ext hx1.2.1.symm
  have z2 : s2 = ⟨c.toArray⟩ := ba_ext hx1.2.2.1.symm
  have z3 : s3 = ⟨e.toArray⟩ := ba_ext hx1.2.2.2.symm
  subst z0 z1 z2 z3
  exact ⟨World.var?_cell hg hv 0, World.var?_cell hg hv 1, World.var?_cell hg hv 2, World.var?_cell hg hv 3⟩
/-- The numbers of a field are ints of the kind's width, its texts are texts. -/
structure FdW (x : Fd) : Prop where
  p : x.p.size ≤ maxLen
  vn : (Lit.int .i64 x.vn).wf = true
  vt : x.vt.size ≤ maxLen
theorem intF_of {L : List Fd} (h : ∀ x ∈ L, FdW x) : IntF L := fun x hx => by
  have h1 := (h x hx).p; have h2 := (h x hx).vt; have h3 := wf_bd (h x hx).vn
  unfold maxLen at h1 h2
  exact ⟨by omega, by omega, h3.1, h3.2⟩
section
variable {H : Type} {enc : TypeId × Value → H} {w : World} {base : Nat} {spare : Nat → Bool} {held : Bool}
theorem trod_valF {n : Nat} {c0 c1 c2 : Value} {y : DataW H × List MemPlace} (h : DataW.trod enc Tryz.prog w base spare held n 28 [c0, c1, c2] = some y) :
    ∃ (a b : Int) (t : ByteArray), c0 = .int .i64 a ∧ c1 = .int .i64 b ∧ c2 = .string t ∧ (Lit.int .i64 b).wf = true ∧ t.size ≤ maxLen := by
  obtain ⟨y0, y1, y2, m, rfl, _, h0, h1, h2⟩ := Deep.trod_struct3 Tryz.underlying28 h
  simp only [cInt, cStr] at h0 h1 h2
  obtain ⟨a, e0, rfl, w0⟩ := DataW.trod_int Tryz.underlying3 h0
  obtain ⟨b, e1, rfl, w1⟩ := DataW.trod_int Tryz.underlying3 h1
  obtain ⟨t, e2, rfl, w2⟩ := DataW.trod_string Tryz.underlying9 h2
  simp at e0 e1 e2
  subst e0 e1 e2
  exact ⟨a, b, t, rfl, rfl, rfl, w1, w2⟩
theorem trod_fd {fuel : Nat} {l : List Value} {y : DataW H × List MemPlace} (hsz : l.length = 6) (hf : DataW.trod enc Tryz.prog w base spare held fuel 30 l = some y) :
    ∃ x : Fd, l = cellF x ∧ FdW x := by
  obtain ⟨c0, c1, c2, c3, c4, c5, rfl⟩ : ∃ c0 c1 c2 c3 c4 c5, l = [c0, c1, c2, c3, c4, c5] := by
    match l, hsz with
    | [c0, c1, c2, c3, c4, c5], _ => exact ⟨c0, c1, c2, c3, c4, c5, rfl⟩
  obtain ⟨xs, n, _, hx, _, hxl, hfs⟩ := DataW.trod_struct Tryz.underlying30 hf
  obtain ⟨y0, y1, y2, y3, rfl⟩ : ∃ y0 y1 y2 y3, xs = [y0, y1, y2, y3] := by
    match xs, hxl with
    | [y0, y1, y2, y3], _ => exact ⟨y0, y1, y2, y3, rfl⟩
  have h0 : DataW.trod enc Tryz.prog w base spare held n 9 (List.take (Tryz.prog.cellsOf 9) [c0, c1, c2, c3, c4, c5]) = some y0 := hfs 0 _ rfl
  rw [cStr] at h0
  replace h0 : DataW.trod enc Tryz.prog w base spare held n 9 [c0] = some y0 := h0
  have h1 : DataW.trod enc Tryz.prog w base spare held n 3 (List.take (Tryz.prog.cellsOf 3) [c1, c2, c3, c4, c5]) = some y1 := hfs 1 _ rfl
  rw [cInt] at h1
  replace h1 : DataW.trod enc Tryz.prog w base spare held n 3 [c1] = some y1 := h1
  have h2 : DataW.trod enc Tryz.prog w base spare held n 3 (List.take (Tryz.prog.cellsOf 3) [c2, c3, c4, c5]) = some y2 := hfs 2 _ rfl
  rw [cInt] at h2
  replace h2 : DataW.trod enc Tryz.prog w base spare held n 3 [c2] = some y2 := h2
  have h3 : DataW.trod enc Tryz.prog w base spare held n 28 (List.take (Tryz.prog.cellsOf 28) [c3, c4, c5]) = some y3 := hfs 3 _ rfl
  rw [cVal] at h3
  replace h3 : DataW.trod enc Tryz.prog w base spare held n 28 [c3, c4, c5] = some y3 := h3
  obtain ⟨pp, e0, rfl, w0⟩ := DataW.trod_string Tryz.underlying9 h0
  obtain ⟨kk, e1, rfl, w1⟩ := DataW.trod_int Tryz.underlying3 h1
  obtain ⟨tt, e2, rfl, w2⟩ := DataW.trod_int Tryz.underlying3 h2
  obtain ⟨vk, vn, vt, rfl, rfl, rfl, w5, w6⟩ := trod_valF h3
  simp only [List.cons.injEq, and_true] at e0 e1 e2
  subst e0 e1 e2
  exact ⟨⟨pp, kk, tt, vk, vn, vt⟩, rfl, w0, w5, w6⟩
theorem open_fds {fuel : Nat} {v : Value} {x : DataW H × List MemPlace} (h : DataW.trod enc Tryz.prog w base spare held fuel 22 [v] = some x) :
    ∃ A n c L, v = .slice A n c ∧ Fl w A n c L ∧ (∀ y ∈ L, FdW y) := by
  rcases Deep.open_slice Tryz.underlying22 h with ⟨hcs, hx⟩ | ⟨a, len, cap, m, n, D, Pl, hcs, _, hl, hm, hmm, hx, hel⟩
  · simp at hcs
    subst hcs
    exact ⟨none, 0, 0, [], rfl, Fl.nil _, (fun y hy => by cases hy)⟩
  · simp at hcs
    subst hcs
    have hlm : len ≤ m := by rw [hmm]; split <;> omega
    rw [cFld] at hel
    obtain ⟨f, hf⟩ := Deep.choose_lt (n := len) (p := fun i (x : Fd) => (∀ j u, (cellF x)[j]? = some u → w.cell? ((a.add (i * 6)).add j) = some u) ∧ FdW x) (fun i hi => by
      obtain ⟨cs', h1, h2⟩ := hel i (by omega)
      obtain ⟨_, hlen, hcell⟩ := World.cells?_some h1
      obtain ⟨x, rfl, hw⟩ := trod_fd hlen h2
      refine ⟨x, fun j u hu => ?_, hw⟩
      have hj : j < 6 := (List.getElem?_eq_some_iff.1 hu).1
      rw [hcell j hj]; exact hu)
    refine ⟨some a, len, cap, (List.range len).map f, rfl, ⟨by simp, hl, hm, (fun h => by cases h), ?_⟩, fun y hy => ?_⟩
    · rcases Nat.eq_zero_or_pos len with h0 | h0
      · exact .inl h0
      · obtain ⟨b, off, spot⟩ := a
        have hspot : spot = none := by simpa [Addr.add] using World.cell?_spot ((hf 0 h0).1 0 _ rfl)
        subst hspot
        refine .inr ⟨b, off, rfl, fun j x hj => ?_⟩
        have hj2 := (List.getElem?_eq_some_iff.1 hj).1
        rw [List.length_map, List.length_range] at hj2
        rw [List.getElem?_map, List.getElem?_range hj2] at hj
        obtain rfl := Option.some.inj hj
        refine FdO.of_flat fun i u hu => ?_
        have := (hf j hj2).1 i u hu
        rw [Addr.add_lit, Addr.add_lit] at this
        exact this
    · obtain ⟨i, hi, rfl⟩ := List.mem_map.1 hy
      exact (hf i (List.mem_range.1 hi)).2
set_option maxRecDepth 100000 in
theorem open_schemaT {r : Reach} {b0 : Nat} {v : Value} {d : DataW H} {p : List MemPlace} (hv : Value.okWide Tryz.prog w r b0 24 v) (h : DataW.Trod enc Tryz.prog w base spare held 24 v d p) :
    ∃ A n c L, v = .agg #[.slice A n c] ∧ Fl w A n c L ∧ (∀ y ∈ L, FdW y) := by
  obtain ⟨cs, rfl, hsz⟩ := okWide_struct Tryz.underlying24 hv
  rw [cSch] at hsz
  obtain ⟨l⟩ := cs
  obtain ⟨c0, rfl⟩ : ∃ c0, l = [c0] := by
    match l, hsz with
    | [c0], _ => exact ⟨c0, rfl⟩
  obtain ⟨fuel, hf⟩ := h
  obtain ⟨xs, n, _, hx, _, hxl, hfs⟩ := DataW.trod_struct Tryz.underlying24 hf
  obtain ⟨y0, rfl⟩ : ∃ y0, xs = [y0] := by
    match xs, hxl with
    | [y0], _ => exact ⟨y0, rfl⟩
  have h0 : DataW.trod enc Tryz.prog w base spare held n 22 (List.take (Tryz.prog.cellsOf 22) [c0]) = some y0 := hfs 0 _ rfl
  rw [cFlds] at h0
  replace h0 : DataW.trod enc Tryz.prog w base spare held n 22 [c0] = some y0 := h0
  obtain ⟨A, n, c, L, rfl, hel, hw⟩ := open_fds h0
  exact ⟨A, n, c, L, rfl, hel, hw⟩
end
theorem Kept.same {W W' : World} (h : Kept W W') {p : MemPlace} (hp : p.block < W.heap.size) : W.sameAt W' p := by
  cases p with
  | cell b o => exact World.cell?_of_block (w := W) (h.blk hp)
  | map b => exact h.blk hp
theorem Kept.trod {H : Type} {enc : TypeId × Value → H} {t : TypeId} (hr : Tryz.prog.readableRec t = true) (hrow : t < Tryz.prog.types.size) {W W' : World} {v : Value} {d : DataW H} {ps : List MemPlace}
    (h : DataW.Trod enc Tryz.prog W 0 (fun _ => true) true t v d ps) (hb : Kept W W') (hlt : ∀ x ∈ ps, x.block < W.heap.size) :
    DataW.Trod enc Tryz.prog W' 0 (fun b => decide (b < W.heap.size)) true t v d ps :=
  WideElems.Trod_stays laidOut hr hrow h (fun x hx => hb.same (hlt x hx)) (fun x hx => by simpa using hlt x hx)
end Go.Proofs.YtjieofiaoepccaaGreatDoor
