/-
  What is proved: as region_plan (XPlan), where one block of the beginning's world may be written by the region itself.
  words for memory that layer 14's contracts use: a step (23 cells) in a block of its own, its cells a list that stays folded; loads of it whole, in plain regions and in those that draw their order.
  the laws' own test, whether a step is longer than what is gone through, called with any step, answers so; the world has new blocks at most.
  words for memory that layer 11's contracts use: a slice of fields that lies in memory ('Fl'), its head and its tail, append of such, or of one, onto a row of the call's own.
-/
import Derived.Test.YtofnpifooaijcaaGreatM4
import Derived.Test.YtofnpifooaijcaaGreatM6
import Derived.Test.YtofnpifooaijcaaGreatM9
import Derived.Deep.MidRow
import Derived.Test.YtofnpifooaijcaaGreatM7
namespace Go.Proofs.YtofnpifooaijcaaGreat
open Go.RowKit
structure KExtE (b : Nat) (W : World) where
  w : World
  g : KeptE b W w
instance (b : Nat) (W : World) : Nonempty (KExtE b W) := ⟨⟨W, .refl b W⟩⟩
theorem KExtE.cell {b : Nat} {W : World} {b' o : Nat} {v : Value} (hb : b' ≠ b) (hc : W.cell? ⟨b', o, none⟩ = some v) (g : KExtE b W) : g.w.cell? ⟨b', o, none⟩ = some v := g.g.cell hb hc
theorem soloE {b : Nat} {W : World} {P : Program} {ops : Array Oper} {Q : Exit → Act → World → Prop} {p : Plan} {a : Act} {w : World} (hk : KeptE b W w) (h : wpPlan P ops (fun w' => ∃ g : KExtE b W, w' = g.w) Q p a w) :
    soloQ (fun a' w' => (∃ g : KExtE b W, w' = g.w) ∧ wpPlan P ops (fun w' => ∃ g : KExtE b W, w' = g.w) Q p a' w') .normal a w := ⟨⟨⟨w, hk⟩, rfl⟩, h⟩
theorem region_planE {P : Program} (b : Nat) (W : World) {id : Nat} {Q : Exit → Act → World → Prop} {a : Act} {w : World} {l : List Oper} (n : Nat) (p : Plan) (hm : P.follows .mixedOrders = true) (hs : Region.noSelect l.toArray = true) (hl : l.length = n) (hn : planN p = n)
    (hB : planF l.toArray n p 0 = true) (hQ : ∀ c d v a w, Q (.panic c) (Act.put a d v) w → Q (.panic c) a w) (h0 : Kept W w)
    (h : ∀ wd : World, Kept w wd → wpPlan P l.toArray (fun w' => ∃ g : KExtE b W, w' = g.w) Q p a wd) : (Code.region id l.toArray true).wp P Q a w := by
  subst hl
  refine wp_region_held (S := fun w' => ∃ g : KExtE b W, w' = g.w) hm ?_
  have hk : Kept w { w with drawn := w.drawn + 1 } := (Kept.refl w).drew
  have hB2 := planF_B l.toArray p 0 (by rw [List.size_toArray]; exact hB)
  rw [List.size_toArray, ← bits_none] at hB2
  have := plan_any (Q := Q) (C := fun w' => ∃ g : KExtE b W, w' = g.w) hs hQ p (Array.replicate l.length false) a { w with drawn := w.drawn + 1 } hB2 ⟨⟨_, .of (h0.trans hk)⟩, rfl⟩ (h _ hk)
  rw [hn] at this
  rw [List.size_toArray]
  exact this
set_option linter.unusedVariables false
def cellS (A : Option Addr) (n c : Nat) (x : St) : List Value := [.int .i64 x.k, .string x.p, .string x.nm, .string x.f.p, .int .i64 x.f.k, .int .i64 x.f.t, .int .i64 x.f.vk, .int .i64 x.f.vn, .string x.f.vt, .int .i64 x.d.k, .int .i64 x.d.n, .string x.d.t, .int .i64 x.a, .int .i64 x.b, .slice A n c, .bool x.T.keep, .int .i64 x.T.d.k, .int .i64 x.T.d.n, .string x.T.d.t, .int .i64 x.T.b.k, .int .i64 x.T.b.n, .string x.T.b.t, .bool x.T.tu]
theorem cellS_len (A : Option Addr) (n c : Nat) (x : St) : (cellS A n c x).length = 23 := rfl
structure StB (w : World) (bl : Nat) (A : Option Addr) (n c : Nat) (x : St) : Prop where
  r : w.rangeAt bl 0 (cellS A n c x)
  f : ∀ j, w.frozen? ⟨bl, j, none⟩ = false
  lt : bl < w.heap.size
theorem StB.kept {w w' : World} {bl : Nat} {A : Option Addr} {n c : Nat} {x : St} (h : StB w bl A n c x) (hg : Kept w w') : StB w' bl A n c x :=
  ⟨fun j v hv => hg.cell (h.r j v hv), fun j => (hg.2.1 ⟨bl, j, none⟩ h.lt).trans (h.f j), Nat.lt_of_lt_of_le h.lt hg.2.2⟩
theorem StB.keptE {G : Nat} {w w' : World} {bl : Nat} {A : Option Addr} {n c : Nat} {x : St} (h : StB w bl A n c x) (k : KeptE G w w') (hb : bl ≠ G) : StB w' bl A n c x :=
  ⟨fun j v hv => k.cell hb (h.r j v hv), fun j => k.froz hb h.lt (h.f j), Nat.lt_of_lt_of_le h.lt k.size⟩
theorem StB.new (w : World) (A : Option Addr) (n c : Nat) (x : St) (ty : TypeId) : StB (w.alloc (.cells (cellS A n c x).toArray ty)) w.heap.size A n c x :=
  ⟨fun j v hv => by rw [Nat.zero_add]; exact (Kept.refl _).box j v (by rw [List.getElem?_toArray]; exact hv), fun j => by rw [frozen?_alloc_cells]; simp [World.frozen?], by simp⟩
section
variable {w : World} {bl : Nat} {A : Option Addr} {n c : Nat} {x : St}
theorem StB.c0 (h : StB w bl A n c x) : w.cell? ⟨bl, 0, none⟩ = some (.int .i64 x.k) := by have := h.r 0 _ rfl; rwa [Nat.zero_add] at this
theorem StB.c1 (h : StB w bl A n c x) : w.cell? ⟨bl, 1, none⟩ = some (.string x.p) := by have := h.r 1 _ rfl; rwa [Nat.zero_add] at this
theorem StB.c2 (h : StB w bl A n c x) : w.cell? ⟨bl, 2, none⟩ = some (.string x.nm) := by have := h.r 2 _ rfl; rwa [Nat.zero_add] at this
theorem StB.c3 (h : StB w bl A n c x) : w.cell? ⟨bl, 3, none⟩ = some (.string x.f.p) := by have := h.r 3 _ rfl; rwa [Nat.zero_add] at this
theorem StB.c4 (h : StB w bl A n c x) : w.cell? ⟨bl, 4, none⟩ = some (.int .i64 x.f.k) := by have := h.r 4 _ rfl; rwa [Nat.zero_add] at this
theorem StB.c5 (h : StB w bl A n c x) : w.cell? ⟨bl, 5, none⟩ = some (.int .i64 x.f.t) := by have := h.r 5 _ rfl; rwa [Nat.zero_add] at this
theorem StB.c6 (h : StB w bl A n c x) : w.cell? ⟨bl, 6, none⟩ = some (.int .i64 x.f.vk) := by have := h.r 6 _ rfl; rwa [Nat.zero_add] at this
theorem StB.c7 (h : StB w bl A n c x) : w.cell? ⟨bl, 7, none⟩ = some (.int .i64 x.f.vn) := by have := h.r 7 _ rfl; rwa [Nat.zero_add] at this
theorem StB.c8 (h : StB w bl A n c x) : w.cell? ⟨bl, 8, none⟩ = some (.string x.f.vt) := by have := h.r 8 _ rfl; rwa [Nat.zero_add] at this
theorem StB.c9 (h : StB w bl A n c x) : w.cell? ⟨bl, 9, none⟩ = some (.int .i64 x.d.k) := by have := h.r 9 _ rfl; rwa [Nat.zero_add] at this
theorem StB.c10 (h : StB w bl A n c x) : w.cell? ⟨bl, 10, none⟩ = some (.int .i64 x.d.n) := by have := h.r 10 _ rfl; rwa [Nat.zero_add] at this
theorem StB.c11 (h : StB w bl A n c x) : w.cell? ⟨bl, 11, none⟩ = some (.string x.d.t) := by have := h.r 11 _ rfl; rwa [Nat.zero_add] at this
theorem StB.c12 (h : StB w bl A n c x) : w.cell? ⟨bl, 12, none⟩ = some (.int .i64 x.a) := by have := h.r 12 _ rfl; rwa [Nat.zero_add] at this
theorem StB.c13 (h : StB w bl A n c x) : w.cell? ⟨bl, 13, none⟩ = some (.int .i64 x.b) := by have := h.r 13 _ rfl; rwa [Nat.zero_add] at this
theorem StB.c14 (h : StB w bl A n c x) : w.cell? ⟨bl, 14, none⟩ = some (.slice A n c) := by have := h.r 14 _ rfl; rwa [Nat.zero_add] at this
theorem StB.c15 (h : StB w bl A n c x) : w.cell? ⟨bl, 15, none⟩ = some (.bool x.T.keep) := by have := h.r 15 _ rfl; rwa [Nat.zero_add] at this
theorem StB.c16 (h : StB w bl A n c x) : w.cell? ⟨bl, 16, none⟩ = some (.int .i64 x.T.d.k) := by have := h.r 16 _ rfl; rwa [Nat.zero_add] at this
theorem StB.c17 (h : StB w bl A n c x) : w.cell? ⟨bl, 17, none⟩ = some (.int .i64 x.T.d.n) := by have := h.r 17 _ rfl; rwa [Nat.zero_add] at this
theorem StB.c18 (h : StB w bl A n c x) : w.cell? ⟨bl, 18, none⟩ = some (.string x.T.d.t) := by have := h.r 18 _ rfl; rwa [Nat.zero_add] at this
theorem StB.c19 (h : StB w bl A n c x) : w.cell? ⟨bl, 19, none⟩ = some (.int .i64 x.T.b.k) := by have := h.r 19 _ rfl; rwa [Nat.zero_add] at this
theorem StB.c20 (h : StB w bl A n c x) : w.cell? ⟨bl, 20, none⟩ = some (.int .i64 x.T.b.n) := by have := h.r 20 _ rfl; rwa [Nat.zero_add] at this
theorem StB.c21 (h : StB w bl A n c x) : w.cell? ⟨bl, 21, none⟩ = some (.string x.T.b.t) := by have := h.r 21 _ rfl; rwa [Nat.zero_add] at this
theorem StB.c22 (h : StB w bl A n c x) : w.cell? ⟨bl, 22, none⟩ = some (.bool x.T.tu) := by have := h.r 22 _ rfl; rwa [Nat.zero_add] at this
end
theorem step_info : (Tryz.prog.info? 33).map (·.size) = some 23 := by kernel_rfl
theorem step_size (A : Option Addr) (n c : Nat) (x : St) : (Tryz.prog.info? 33).map (·.size) = some (cellS A n c x).length := step_info
section
variable {Pr : Program} {ops : Array Oper} {C : World → Prop} {Q : Act → Prop} {rest : List Oper} {op : Oper} {a : Act}
theorem quiet_load (hw : Region.wanted op (yielded ops a.tmps) = true) (ty : TypeId) (x : Operand) (ho : op.op = .load ty x) (b o : Nat) (hx : a.eval x = .pointer (some ⟨b, o, none⟩)) (cs : List Value) (d : TypeDesc)
    (hc : ∀ w, C w → w.rangeAt b o cs) (hu : Pr.underlying ty = some d) (hd : d.isRow = true) (hi : (Pr.info? ty).map (·.size) = some cs.length)
    (h : wpQuiet Pr ops C Q rest (a.put op.dst (.agg cs.toArray))) : wpQuiet Pr ops C Q (op :: rest) a := by
  unfold wpQuiet
  rw [if_pos hw]
  refine ⟨.agg cs.toArray, fun w hC => ?_, h⟩
  unfold Oper.quietAt execOp
  simp only [ho, hx, run_loadAt_mid w b o ty cs d (hc w hC) hu hd hi, Sem.run_bind, Sem.run_pure, Result.andThen_ok, Oper.quietUpon, and_self]
end
theorem StB.ext {W : World} {bl : Nat} {A : Option Addr} {n c : Nat} {x : St} (h : StB W bl A n c x) : ∀ w, (∃ g : KExt W, w = g.w) → w.rangeAt bl 0 (cellS A n c x) := fun w ⟨g, e⟩ => by rw [e]; exact (h.kept g.g).r
theorem StB.extE {G : Nat} {W : World} {bl : Nat} {A : Option Addr} {n c : Nat} {x : St} (h : StB W bl A n c x) (hb : bl ≠ G) : ∀ w, (∃ g : KExtE G W, w = g.w) → w.rangeAt bl 0 (cellS A n c x) := fun w ⟨g, e⟩ => by rw [e]; exact (h.keptE g.g hb).r
structure HoldS (x : St) : Prop where
  p : x.p.size ≤ 140737488355328
  nm : x.nm.size ≤ 140737488355328
  fp : x.f.p.size ≤ 140737488355328
  fv : x.f.vt.size ≤ 140737488355328
  d : x.d.t.size ≤ 140737488355328
  T : HoldT x.T
structure ShortS (x : St) : Prop where
  pn : x.p.size + x.nm.size + x.f.p.size ≤ 400
  vd : x.f.vt.size + x.d.t.size ≤ 600
  T : ShortT x.T
set_option maxRecDepth 100000 in
set_option maxHeartbeats 8000000 in
theorem klong_any (A : Option Addr) (n c : Nat) (x : St) (w : World) (h : Pal w A n c x.T.L) (hz : HoldS x) (r : Bool) (hr : r = true ↔ ¬ ShortS x) :
    Calls Tryz.prog 6 #[.agg (cellS A n c x).toArray] w fun e w' => e = .returned (.bool r) ∧ Kept w w' := by
  have hk := (Kept.refl w).alloc (cellS A n c x).toArray 33
  have hs := StB.new w A n c x 33
  obtain ⟨U, hU⟩ : ∃ U, w.alloc (.cells (cellS A n c x).toArray 33) = U := ⟨_, rfl⟩
  rw [hU] at hk hs
  have hp := h.kept hk
  obtain ⟨m1, hm1⟩ : ∃ m, x.p.size + x.nm.size = m := ⟨_, rfl⟩
  obtain ⟨m2, hm2⟩ : ∃ m, m1 + x.f.p.size = m := ⟨_, rfl⟩
  obtain ⟨m3, hm3⟩ : ∃ m, x.f.vt.size + x.d.t.size = m := ⟨_, rfl⟩
  have b1 := hz.p; have b2 := hz.nm; have b3 := hz.fp; have b4 := hz.fv; have b5 := hz.d
  have hw1 : IntKind.i64.wrap ((x.p.size : Int) + (x.nm.size : Int)) = (m1 : Int) := by rw [IntWalk.i64_in _ (by omega)]; omega
  have hw2 : IntKind.i64.wrap ((m1 : Int) + (x.f.p.size : Int)) = (m2 : Int) := by rw [IntWalk.i64_in _ (by omega)]; omega
  have hw3 : IntKind.i64.wrap ((x.f.vt.size : Int) + (x.d.t.size : Int)) = (m3 : Int) := by rw [IntWalk.i64_in _ (by omega)]; omega
  have HK := Lib.hid hk; have HS := Lib.hid hs; have HP := Lib.hid hp; have HUU := Lib.hid hU; have HR := Lib.hid hr; have HZ := Lib.hid hz
  have HM1 := Lib.hid hm1; have HM2 := Lib.hid hm2; have HM3 := Lib.hid hm3
  clear hk hs hp hU hr hz h hm1 hm2 hm3 b1 b2 b3 b4 b5
  have c1 := HS.out.c1; have c2 := HS.out.c2; have c3 := HS.out.c3; have c8 := HS.out.c8; have c11 := HS.out.c11
  by_cases h1 : 400 < m2
  · have f1 : decide ((400 : Int) < (m2 : Int)) = true := decide_eq_true (by omega)
    have f2 : decide (400 < m2) = true := decide_eq_true h1
    have HF := Lib.hid (show true = r from (HR.out.2 fun hs => by have := hs.pn; have := HM1.out; have := HM2.out; omega).symm)
    clear h1
    go_enter Tryz.func6, Tryz.ntmps6
    go_wp2_with (rw [HUU.out])
    go_ret
    exact ⟨ret_bool HF.out, HK.out⟩
  have f1 : decide ((400 : Int) < (m2 : Int)) = false := decide_eq_false (by omega)
  have f2 : decide (400 < m2) = false := decide_eq_false h1
  by_cases h2 : 600 < m3
  · have f3 : decide ((600 : Int) < (m3 : Int)) = true := decide_eq_true (by omega)
    have f4 : decide (600 < m3) = true := decide_eq_true h2
    have HF := Lib.hid (show true = r from (HR.out.2 fun hs => by have := hs.vd; have := HM3.out; omega).symm)
    clear h1 h2
    go_enter Tryz.func6, Tryz.ntmps6
    go_wp2_with (rw [HUU.out])
    go_ret
    exact ⟨ret_bool HF.out, HK.out⟩
  have f3 : decide ((600 : Int) < (m3 : Int)) = false := decide_eq_false (by omega)
  have f4 : decide (600 < m3) = false := decide_eq_false h2
  have HH := Lib.hid (show x.p.size + x.nm.size + x.f.p.size ≤ 400 ∧ x.f.vt.size + x.d.t.size ≤ 600 from ⟨by have := HM1.out; have := HM2.out; omega, by have := HM3.out; omega⟩)
  have A1 := Lib.hid (fun w h => hlong_any A n c x.T w h HZ.out.T r (by
    rw [HR.out]
    exact not_congr ⟨fun k => k.T, fun k => ⟨HH.out.1, HH.out.2, k⟩⟩))
  clear h1 h2
  have c14 := HS.out.c14; have c15 := HS.out.c15; have c16 := HS.out.c16; have c17 := HS.out.c17; have c18 := HS.out.c18; have c19 := HS.out.c19; have c20 := HS.out.c20; have c21 := HS.out.c21; have c22 := HS.out.c22
  go_enter Tryz.func6, Tryz.ntmps6
  go_wp2_with (rw [HUU.out])
  go_at_call 25
  refine (A1.out _ HP.out).mono ?_
  rintro e w1 ⟨rfl, hk⟩
  have HK1 := Lib.hid (HK.out.trans hk)
  clear hk
  go_wp2_with fail
  go_ret
  exact ⟨rfl, HK1.out⟩
structure FdO (w : World) (b o : Nat) (x : Fd) : Prop where
  c0 : w.cell? ⟨b, o, none⟩ = some (.string x.p)
  c1 : w.cell? ⟨b, o + 1, none⟩ = some (.int .i64 x.k)
  c2 : w.cell? ⟨b, o + 2, none⟩ = some (.int .i64 x.t)
  c3 : w.cell? ⟨b, o + 3, none⟩ = some (.int .i64 x.vk)
  c4 : w.cell? ⟨b, o + 4, none⟩ = some (.int .i64 x.vn)
  c5 : w.cell? ⟨b, o + 5, none⟩ = some (.string x.vt)
theorem FdO.kept {w w' : World} {b o : Nat} {x : Fd} (h : FdO w b o x) (hg : Kept w w') : FdO w' b o x :=
  ⟨hg.cell h.c0, hg.cell h.c1, hg.cell h.c2, hg.cell h.c3, hg.cell h.c4, hg.cell h.c5⟩
structure FdB (w : World) (b : Nat) (x : Fd) : Prop where
  c0 : w.cell? ⟨b, 0, none⟩ = some (.string x.p)
  c1 : w.cell? ⟨b, 1, none⟩ = some (.int .i64 x.k)
  c2 : w.cell? ⟨b, 2, none⟩ = some (.int .i64 x.t)
  c3 : w.cell? ⟨b, 3, none⟩ = some (.int .i64 x.vk)
  c4 : w.cell? ⟨b, 4, none⟩ = some (.int .i64 x.vn)
  c5 : w.cell? ⟨b, 5, none⟩ = some (.string x.vt)
  f : ∀ j, w.frozen? ⟨b, j, none⟩ = false
  lt : b < w.heap.size
theorem FdB.kept {w w' : World} {b : Nat} {x : Fd} (h : FdB w b x) (hg : Kept w w') : FdB w' b x :=
  ⟨hg.cell h.c0, hg.cell h.c1, hg.cell h.c2, hg.cell h.c3, hg.cell h.c4, hg.cell h.c5, fun j => (hg.2.1 ⟨b, j, none⟩ h.lt).trans (h.f j), Nat.lt_of_lt_of_le h.lt hg.2.2⟩
theorem FdB.new (w : World) (x : Fd) (t : TypeId) : FdB (w.alloc (.cells #[.string x.p, .int .i64 x.k, .int .i64 x.t, .int .i64 x.vk, .int .i64 x.vn, .string x.vt] t)) w.heap.size x :=
  ⟨(Kept.refl _).box 0 _ rfl, (Kept.refl _).box 1 _ rfl, (Kept.refl _).box 2 _ rfl, (Kept.refl _).box 3 _ rfl, (Kept.refl _).box 4 _ rfl, (Kept.refl _).box 5 _ rfl, fun j => by rw [frozen?_alloc_cells]; simp [World.frozen?], by simp⟩
def Fl (w : World) (A : Option Addr) (n c : Nat) (L : List Fd) : Prop :=
  n = L.length ∧ n ≤ c ∧ c ≤ maxLen ∧ (A = none → c = 0) ∧ (n = 0 ∨ ∃ b o, A = some ⟨b, o, none⟩ ∧ ∀ j x, L[j]? = some x → FdO w b (o + j * 6) x)
theorem Fl.kept {w w' : World} {A : Option Addr} {n c : Nat} {L : List Fd} (h : Fl w A n c L) (hk : Kept w w') : Fl w' A n c L :=
  ⟨h.1, h.2.1, h.2.2.1, h.2.2.2.1, h.2.2.2.2.imp id fun ⟨b, o, hA, hc⟩ => ⟨b, o, hA, fun j x hj => (hc j x hj).kept hk⟩⟩
theorem Fl.nil (w : World) : Fl w none 0 0 [] := ⟨rfl, Nat.le_refl _, Nat.zero_le _, fun _ => rfl, .inl rfl⟩
theorem Fl.cap {w : World} {A : Option Addr} {n c : Nat} {L : List Fd} (h : Fl w A n c L) : n ≤ c ∧ c ≤ 9223372036854775807 := ⟨h.2.1, h.2.2.1⟩
theorem Fl.get {w : World} {A : Option Addr} {n c : Nat} {L : List Fd} (h : Fl w A n c L) {k : Nat} (hk : k < n) :
    ∃ b o x, A = some ⟨b, o, none⟩ ∧ L[k]? = some x ∧ FdO w b (o + k * 6) x := by
  have hl : k < L.length := by rw [← h.1]; exact hk
  rcases h.2.2.2.2 with h0 | ⟨b, o, hA, hc⟩
  · omega
  · exact ⟨b, o, L[k], hA, List.getElem?_eq_getElem hl, hc k L[k] (List.getElem?_eq_getElem hl)⟩
def cellF (x : Fd) : List Value := [.string x.p, .int .i64 x.k, .int .i64 x.t, .int .i64 x.vk, .int .i64 x.vn, .string x.vt]
def flatF (L : List Fd) : List Value := L.flatMap cellF
theorem flatF_nil : flatF [] = [] := rfl
theorem flatF_cons (x : Fd) (L : List Fd) : flatF (x :: L) = cellF x ++ flatF L := rfl
theorem flatF_app (L M : List Fd) : flatF (L ++ M) = flatF L ++ flatF M := List.flatMap_append
theorem flatF_len (L : List Fd) : (flatF L).length = L.length * 6 := by
  induction L with
  | nil => rfl
  | cons x L ih => rw [flatF_cons, List.length_append, List.length_cons, ih]; show 6 + _ = _; omega
theorem flatF_one (L : List Fd) : ∀ u ∈ flatF L, u.oneCell' = true := by
  intro u hu
  obtain ⟨x, _, hx⟩ := List.mem_flatMap.1 hu
  simp only [cellF, List.mem_cons, List.not_mem_nil, or_false] at hx
  rcases hx with rfl | rfl | rfl | rfl | rfl | rfl <;> rfl
theorem flatF_get : ∀ (L : List Fd) (j : Nat) (x : Fd), L[j]? = some x → ∀ i, i < 6 → (flatF L)[j * 6 + i]? = (cellF x)[i]?
  | [], j, x, h, _, _ => by simp at h
  | y :: L, 0, x, h, i, hi => by
    obtain rfl : y = x := by simpa using h
    rw [flatF_cons, List.getElem?_append_left (by show 0 * 6 + i < 6; omega), Nat.zero_mul, Nat.zero_add]
  | y :: L, j + 1, x, h, i, hi => by
    have ih := flatF_get L j x (by simpa using h) i hi
    rw [flatF_cons, List.getElem?_append_right (by show 6 ≤ _; omega), ← ih]
    congr 1
    show (j + 1) * 6 + i - 6 = _
    omega
theorem flatF_at : ∀ (L : List Fd) (i : Nat) (u : Value), (flatF L)[i]? = some u → ∃ j x r, L[j]? = some x ∧ i = j * 6 + r ∧ r < 6 ∧ (cellF x)[r]? = some u
  | [], i, u, h => by simp [flatF_nil] at h
  | y :: L, i, u, h => by
    rw [flatF_cons] at h
    by_cases hi : i < 6
    · rw [List.getElem?_append_left (by exact hi)] at h
      exact ⟨0, y, i, rfl, by omega, hi, h⟩
    · rw [List.getElem?_append_right (by show 6 ≤ i; omega)] at h
      obtain ⟨j, x, r, h1, h2, h3, h4⟩ := flatF_at L (i - 6) u h
      exact ⟨j + 1, x, r, by simpa using h1, by omega, h3, h4⟩
theorem FdO.of_flat {w : World} {b o : Nat} {x : Fd} (h : ∀ i u, (cellF x)[i]? = some u → w.cell? ⟨b, o + i, none⟩ = some u) : FdO w b o x :=
  ⟨h 0 _ rfl, h 1 _ rfl, h 2 _ rfl, h 3 _ rfl, h 4 _ rfl, h 5 _ rfl⟩
theorem FdO.flat {w : World} {b o : Nat} {x : Fd} (h : FdO w b o x) : ∀ i u, (cellF x)[i]? = some u → w.cell? ⟨b, o + i, none⟩ = some u := by
  intro i u hu
  match i, hu with
  | 0, hu => obtain rfl := Option.some.inj hu; exact h.c0
  | 1, hu => obtain rfl := Option.some.inj hu; exact h.c1
  | 2, hu => obtain rfl := Option.some.inj hu; exact h.c2
  | 3, hu => obtain rfl := Option.some.inj hu; exact h.c3
  | 4, hu => obtain rfl := Option.some.inj hu; exact h.c4
  | 5, hu => obtain rfl := Option.some.inj hu; exact h.c5
  | i + 6, hu => simp [cellF] at hu
theorem FdB.o {w : World} {b : Nat} {x : Fd} (h : FdB w b x) : FdO w b 0 x := ⟨h.c0, h.c1, h.c2, h.c3, h.c4, h.c5⟩
theorem Fl.of_own' {w : World} {base n : Nat} {e : TypeId} {v : Value} {L : List Fd} (h : w.ownsRow base e 6 v n (flatF L)) : ∃ A c, v = .slice A n c ∧ Fl w A n c L ∧ ∀ ad, A = some ad → base ≤ ad.block := by
  have hl : n = L.length := by have := h.1; rw [flatF_len] at this; omega
  have hc := fun g (hg : v.ownBlock = some g) => h.cells (g := g) hg
  have hlt := fun g (hg : v.ownBlock = some g) => h.lt g hg
  rcases h.2 with ⟨rfl, h0⟩ | ⟨g, cap, cur, rfl, hb, hg, h1, h2, _⟩
  · subst h0
    exact ⟨none, 0, rfl, ⟨hl, Nat.le_refl _, Nat.zero_le _, fun _ => rfl, .inl rfl⟩, fun ad he => by cases he⟩
  · refine ⟨some ⟨g, 0, none⟩, cap, rfl, ⟨hl, h1, h2, fun h => by simp at h, .inr ⟨g, 0, rfl, fun j x hj => ?_⟩⟩, fun ad he => by cases he; exact hb⟩
    refine FdO.of_flat fun i u hu => ?_
    have hi : i < 6 := (List.getElem?_eq_some_iff.1 hu).1
    have := hc g rfl _ u ((flatF_get L j x hj i hi).trans hu)
    rw [Addr.add_lit, Nat.zero_add] at this
    rw [Nat.zero_add]
    exact this
theorem Fl.of_own {w : World} {base n : Nat} {e : TypeId} {v : Value} {L : List Fd} (h : w.ownsRow base e 6 v n (flatF L)) : ∃ A c, v = .slice A n c ∧ Fl w A n c L := by
  obtain ⟨A, c, h1, h2, _⟩ := Fl.of_own' h
  exact ⟨A, c, h1, h2⟩
theorem info_fl : (Tryz.prog.info? 28).map (fun i => (i.zero, i.size, i.bytes)) = some (some (.agg #[.string ⟨#[]⟩, .int .i64 0, .int .i64 0, .int .i64 0, .int .i64 0, .string ⟨#[]⟩]), 6, 64) := by kernel_rfl
theorem app_fls (w : World) (base : Nat) (v : Value) (n : Nat) (xs : List Value) (h : w.ownsRow base 28 6 v n xs) (A : Option Addr) (m c : Nat) (L : List Fd) (hs : Fl w A m c L) (hb : n + m ≤ 1000000000) (hbase : base ≤ w.heap.size) :
    ∃ v' w', (Builtin.append_ #[22, 22] 22 #[v, .slice A m c]).run Tryz.prog w = .ok v' w' ∧ w'.ownsRow base 28 6 v' (n + m) (xs ++ flatF L) ∧ w.grownBy w' v.ownBlock ∧ (v'.ownBlock = v.ownBlock ∨ v'.ownBlock = some w.heap.size) := by
  obtain ⟨i0, hi0, hz0, hz1, hz2⟩ := info_parts info_fl
  cases A with
  | none =>
    obtain rfl := hs.2.2.2.1 rfl
    obtain rfl : m = 0 := by have := hs.2.1; omega
    have hL : L = [] := List.eq_nil_of_length_eq_zero hs.1.symm
    subst hL
    exact ⟨v, w, run_append_owned_none w base _ _ _ i0 6 Tryz.underlying22 hi0 v n xs h, by simpa [flatF_nil] using h, World.grownBy.refl w _, .inl rfl⟩
  | some ad =>
    obtain ⟨v', w', hr, ho, hg, _, hat⟩ := run_append_own_at (P := Tryz.prog) w base 22 22 28 i0 (.agg #[.string ⟨#[]⟩, .int .i64 0, .int .i64 0, .int .i64 0, .int .i64 0, .string ⟨#[]⟩]) 6 64 Tryz.underlying22 hi0 hz0 hz1 hz2 rfl (by decide) v n xs h ad m c (flatF L)
      (by rw [flatF_len, hs.1]) (fun j u hj => by
        obtain ⟨k, x, r, hk, rfl, hr9, hu⟩ := flatF_at L j u hj
        have hkl := (List.getElem?_eq_some_iff.1 hk).1
        obtain ⟨b, o, y, hA, hy, hc⟩ := hs.get (k := k) (by rw [hs.1]; exact hkl)
        obtain rfl : y = x := Option.some.inj (hy.symm.trans hk)
        obtain rfl := Option.some.inj hA
        rw [Addr.add_lit, ← Nat.add_assoc]
        exact hc.flat r u hu) (flatF_one _) (by simp only [maxLen]; omega) (by omega) hbase
    exact ⟨v', w', hr, ho, hg, hat⟩
structure OutF (U wr : World) (v : Value) (L : List Fd) : Prop where
  own : wr.ownsRow U.heap.size 28 6 v L.length (flatF L)
  ke : Kept U wr
theorem OutF.start (U : World) : OutF U U (.slice none 0 0) [] := ⟨World.ownsRow_nil _ _ _ _, Kept.refl _⟩
theorem OutF.kept {U wr w' : World} {v : Value} {L : List Fd} (h : OutF U wr v L) (hk : Kept wr w') : OutF U w' v L := ⟨own_kept h.own hk, h.ke.trans hk⟩
theorem OutF.form {U wr : World} {v : Value} {L : List Fd} (h : OutF U wr v L) : ∃ A c, v = .slice A L.length c ∧ Fl wr A L.length c L ∧ (∀ ad, A = some ad → U.heap.size ≤ ad.block) ∧ L.length ≤ c ∧ c ≤ 9223372036854775807 := by
  obtain ⟨A, c, h1, h2, h3⟩ := Fl.of_own' h.own
  exact ⟨A, c, h1, h2, h3, h2.cap.1, h2.cap.2⟩
theorem OutF.app {U wr : World} {v : Value} {L : List Fd} (h : OutF U wr v L) (A : Option Addr) (m c : Nat) (M : List Fd) (hs : Fl wr A m c M) (hb : L.length + m ≤ 1000000000) :
    ∃ v' w', (Builtin.append_ #[22, 22] 22 #[v, .slice A m c]).run Tryz.prog wr = .ok v' w' ∧ OutF U w' v' (L ++ M) := by
  obtain ⟨v', w', hr, ho, hg, _⟩ := app_fls wr U.heap.size v L.length (flatF L) h.own A m c M hs hb h.ke.2.2
  refine ⟨v', w', hr, ?_, kept_grown h.ke hg fun k hk => (h.own.lt k hk).1⟩
  rw [List.length_append, flatF_app, ← hs.1]
  exact ho
theorem fl_one {w : World} {x : Fd} {b : Nat} (h : FdB w b x) : Fl w (some ⟨b, 0, none⟩) 1 1 [x] := by
  refine ⟨rfl, Nat.le_refl _, by simp [maxLen], (fun h => by cases h), .inr ⟨b, 0, rfl, fun j y hj => ?_⟩⟩
  match j, hj with
  | 0, hj =>
    obtain rfl : x = y := by simpa using hj
    exact h.o
  | j + 1, hj => simp at hj
theorem size_fl (W : World) : (Go.sizeOf (Tryz.prog.elem 22)).run Tryz.prog W = .ok 6 W := by kernel_rfl
theorem fl_head {w : World} {A : Option Addr} {n c k : Nat} {L : List Fd} (h : Fl w A n c L) (hk : k ≤ n) {c' : Nat} (hc : k ≤ c') (hc2 : c' ≤ c) : Fl w A k c' (L.take k) := by
  obtain ⟨h1, h2, h3, h4, h5⟩ := h
  refine ⟨by rw [List.length_take]; omega, hc, by omega, fun e => by have := h4 e; omega, ?_⟩
  rcases h5 with h0 | ⟨b, o, hA, hc⟩
  · exact .inl (by omega)
  · refine .inr ⟨b, o, hA, fun j x hj => hc j x ?_⟩
    rw [List.getElem?_take] at hj
    split at hj
    · exact hj
    · cases hj
end Go.Proofs.YtofnpifooaijcaaGreat
