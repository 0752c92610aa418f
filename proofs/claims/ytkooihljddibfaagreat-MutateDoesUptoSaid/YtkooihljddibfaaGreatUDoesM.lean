/-
  What is proved: plain facts and words for memory that MutateDoes' walk uses: an entry given another dot; what both joins are.
-/
import Derived.Test.YtkooihljddibfaaGreatM24
namespace Go.Proofs.YtkooihljddibfaaGreat
open Go.RowKit
set_option linter.unusedVariables false

/-- An entry in nine cells, given another dot. -/
theorem EntF.redot {w : World} {b : Nat} {x y : En} (h : EntF w b x) (hp : y.p = x.p) (hk : y.k = x.k) (hvk : y.vk = x.vk) (hvn : y.vn = x.vn) (hvt : y.vt = x.vt) (he : y.e = x.e) :
    EntF ((w.setCell ⟨b, 0, none⟩ (.int .i64 y.d.1)).setCell ⟨b, 1, none⟩ (.int .i64 y.d.2)) b y := by
  have far : ∀ i, 2 ≤ i → ((w.setCell ⟨b, 0, none⟩ (.int .i64 y.d.1)).setCell ⟨b, 1, none⟩ (.int .i64 y.d.2)).cell? ⟨b, i, none⟩ = w.cell? ⟨b, i, none⟩ := fun i hi => by
    rw [World.cell?_setCell_other _ _ _ _ (by intro e; injection e; omega), World.cell?_setCell_other _ _ _ _ (by intro e; injection e; omega)]
  refine ⟨⟨?_, ?_, ?_, ?_, ?_, ?_, ?_, ?_, ?_⟩, fun j => by rw [World.frozen?_setCell, World.frozen?_setCell]; exact h.f j⟩
  · rw [World.cell?_setCell_other _ _ _ _ (by intro e; injection e; omega)]
    exact World.cell?_setCell_same _ _ _ h.ent.c0
  · refine World.cell?_setCell_same _ _ _ (u := .int .i64 x.d.2) ?_
    rw [World.cell?_setCell_other _ _ _ _ (by intro e; injection e; omega)]
    exact h.ent.c1
  · rw [far 2 (by omega), hp]; exact h.ent.c2
  · rw [far 3 (by omega), hk]; exact h.ent.c3
  · rw [far 4 (by omega), hvk]; exact h.ent.c4
  · rw [far 5 (by omega), hvn]; exact h.ent.c5
  · rw [far 6 (by omega), hvt]; exact h.ent.c6
  · rw [far 7 (by omega), he]; exact h.ent.c7
  · rw [far 8 (by omega), he]; exact h.ent.c8
theorem Box3.far2 {w : World} {b b' : Nat} {u0 u1 u2 : Value} (h : Box3 w b u0 u1 u2) (hb : b ≠ b') (v0 v1 : Value) : Box3 ((w.setCell ⟨b', 0, none⟩ v0).setCell ⟨b', 1, none⟩ v1) b u0 u1 u2 := by
  have n0 : ∀ i j : Nat, (⟨b, i, none⟩ : Addr) ≠ ⟨b', j, none⟩ := fun i j e => hb (congrArg Addr.block e)
  refine ⟨?_, ?_, ?_, fun j => by rw [World.frozen?_setCell, World.frozen?_setCell]; exact h.f j, by have := h.lt; simpa [World.setCell] using this⟩
  all_goals
    rw [World.cell?_setCell_other _ _ _ _ (by first | exact n0 _ _ | exact (n0 _ _).symm), World.cell?_setCell_other _ _ _ _ (by first | exact n0 _ _ | exact (n0 _ _).symm)]
  · exact h.c0
  · exact h.c1
  · exact h.c2
/-- The bit of m at k's place of eight. -/
def bitB (m : Int) (k : Nat) : Bool := Go.bits BinOp.and IntKind.u8 (m / 2 ^ (k % 8)) 1 == 1
/-- What MutateDoes' two joins are. -/
def DoesR (a : Sta) (y : En) (G : List (Int × Int)) (p q : Sta) : Prop := ∃ l t, LeaveS y G l ∧ TakeS y.d G t ∧ Joined a l p ∧ Joined a t q
structure DoesC (a : Sta) (y : En) (G : List (Int × Int)) (p q : Sta) : Prop where
  r : DoesR a y G p q
  ok : StOk a.L a.V a.C
  new : ¬ hasC a.V a.C y.d
  right : rightE y = true
  sub : G.Sublist (a.L.map (·.d))
section
variable {a p q : Sta} {y : En} {G : List (Int × Int)}
theorem does_hasp (h : DoesC a y G p q) : hasC p.V p.C y.d := by
  obtain ⟨l, t, hl, ht, hp, hq⟩ := h.r
  exact (hp.1.has y.d).2 (.inr ((hl.2.1.has _).2 ⟨rightE_dot h.right, .inr rfl⟩))
theorem does_hasq (h : DoesC a y G p q) : hasC q.V q.C y.d := by
  obtain ⟨l, t, hl, ht, hp, hq⟩ := h.r
  exact (hq.1.has y.d).2 (.inr ((ht.2.1.has _).2 ⟨rightE_dot h.right, .inr rfl⟩))
theorem does_okp (h : DoesC a y G p q) : StOk p.L p.V p.C := by
  obtain ⟨l, t, hl, ht, hp, hq⟩ := h.r
  refine (hp.1.ord h.ok.ord (leave_ord (rightE_dot h.right) hl.1 hl.2.1)).ok fun x hx => ?_
  rcases hp.1.from_ hx with k | k
  · exact h.ok.ent x k
  · rw [hl.1, List.mem_singleton] at k; subst k; exact h.right
theorem does_okq (h : DoesC a y G p q) : StOk q.L q.V q.C := by
  obtain ⟨l, t, hl, ht, hp, hq⟩ := h.r
  refine (hq.1.ord h.ok.ord (take_ord ht.1 ht.2.1)).ok fun x hx => ?_
  rcases hq.1.from_ hx with k | k
  · exact h.ok.ent x k
  · rw [ht.1] at k; cases k
theorem does_sizep (h : DoesC a y G p q) {m1 m2 : Nat} (h1 : ∀ x ∈ a.L, x.p.size ≤ m1 ∧ x.vt.size ≤ m2) (h2 : y.p.size ≤ m1) (h3 : y.vt.size ≤ m2) : ∀ x ∈ p.L, x.p.size ≤ m1 ∧ x.vt.size ≤ m2 := by
  obtain ⟨l, t, hl, ht, hp, hq⟩ := h.r
  intro x hx
  rcases hp.1.from_ hx with k | k
  · exact h1 x k
  · rw [hl.1, List.mem_singleton] at k; subst k; exact ⟨h2, h3⟩
theorem does_sizeq (h : DoesC a y G p q) {m1 m2 : Nat} (h1 : ∀ x ∈ a.L, x.p.size ≤ m1 ∧ x.vt.size ≤ m2) : ∀ x ∈ q.L, x.p.size ≤ m1 ∧ x.vt.size ≤ m2 := by
  obtain ⟨l, t, hl, ht, hp, hq⟩ := h.r
  intro x hx
  rcases hq.1.from_ hx with k | k
  · exact h1 x k
  · rw [ht.1] at k; cases k
theorem does_few (h : DoesC a y G p q) : p.L.length ≤ a.L.length + 1 ∧ p.C.length ≤ a.C.length + (G.length + 1) ∧ q.C.length ≤ a.C.length + (G.length + 1) := by
  obtain ⟨l, t, hl, ht, hp, hq⟩ := h.r
  have e1 := hp.2.1; have e2 := hp.2.2; have e3 := hq.2.2; have e4 := hl.2.2; have e5 := ht.2.2
  rw [hl.1] at e1
  simp only [List.length_cons, List.length_nil] at e1
  omega
theorem does_y (h : DoesC a y G p q) : y ∈ p.L := by
  obtain ⟨l, t, hl, ht, hp, hq⟩ := h.r
  exact does_x h.ok.ord h.new hl.1 hl.2.1 hp.1
theorem does_mem (h : DoesC a y G p q) {z : En} (hz : z ∈ a.L) : hasE p.L z.d = true ↔ z.d ∉ G := by
  obtain ⟨l, t, hl, ht, hp, hq⟩ := h.r
  exact does_has h.ok.ord h.new hl.1 hl.2.1 hp.1 hz
theorem does_in (h : DoesC a y G p q) {z : En} (hz : z ∈ a.L) (k : z.d ∉ G) : z ∈ p.L := by
  obtain ⟨l, t, hl, ht, hp, hq⟩ := h.r
  exact (does_z h.ok.ord h.new hl.1 hl.2.1 hp.1 hz).2 k
theorem does_len (h : DoesC a y G p q) : p.L.length = q.L.length + 1 ∧ q.L.length + G.length = a.L.length := by
  obtain ⟨l, t, hl, ht, hp, hq⟩ := h.r
  exact does_count h.ok.ord h.new h.sub hl.1 hl.2.1 ht.1 ht.2.1 hp.1 hq.1
/-- What Get tells of a dot that was there. -/
theorem does_got (h : DoesC a y G p q) {z v : En} (hz : z ∈ a.L) (hv : v ∈ p.L) (e : v.d = z.d) : v = z := by
  have hk : z.d ∉ G := (does_mem h hz).1 (hasE_iff.2 ⟨v, hv, e⟩)
  exact rise_one (does_okp h).rise hv (does_in h hz hk) e
theorem does_gety (h : DoesC a y G p q) {v : En} (hv : v ∈ p.L) (e : v.d = y.d) : v = y := rise_one (does_okp h).rise hv (does_y h) e
end
end Go.Proofs.YtkooihljddibfaaGreat
