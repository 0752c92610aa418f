/-
  What is proved: trim of package ctx, called with any slice of ints that lies in memory, returns it without the noughts at its end; the world is left alone.
  as region_plan (XPlan), where one block of the beginning's world may be written by the region itself.
-/
import Derived.Test.YtoggcpfogeoeaaaGreatDoorM14
import Derived.WalkMore
import Derived.ScopeJumps
import Derived.Test.YtoggcpfogeoeaaaGreatDoorPlan
import Derived.Test.YtoggcpfogeoeaaaGreatDoorM16
namespace Go.Proofs.YtoggcpfogeoeaaaGreatDoor
open Go.RowKit

/-- What trim leaves: the first q numbers, the last of which is not 0; all behind are. -/
def Trims (A : Option Addr) (n c : Nat) (V : List Int) (w : World) (e : Ending) (w' : World) : Prop :=
  ∃ q, q ≤ n ∧ e = .returned (.slice A q c) ∧ (∀ j, q ≤ j → V.getD j 0 = 0) ∧ (∀ k, q = k + 1 → V.getD k 0 ≠ 0) ∧ w = w'
def ZeroFrom (V : List Int) (q : Nat) : Prop := ∀ j, q ≤ j → V.getD j 0 = 0
theorem ZeroFrom.all {V : List Int} {n : Nat} (h : n = V.length) : ZeroFrom V n := fun j hj => by rw [List.getD_eq_getElem?_getD, List.getElem?_eq_none (by omega)]; rfl
theorem ZeroFrom.next {V : List Int} {p : Nat} (h : ZeroFrom V (p + 1)) (hp : V.getD p 0 = 0) : ZeroFrom V p := fun j hj => by
  rcases Nat.lt_or_ge p j with h1 | h1
  · exact h j h1
  · obtain rfl : j = p := by omega
    exact hp
theorem Trims.mk {A : Option Addr} {n c q : Nat} {V : List Int} {w : World} (hq : q ≤ n) (hz : ZeroFrom V q) (hl : ∀ k, q = k + 1 → V.getD k 0 ≠ 0) : Trims A n c V w (.returned (.slice A q c)) w := ⟨q, hq, rfl, hz, hl, rfl⟩

/-- What holds at the label. -/
def AtLabel (A : Option Addr) (n c : Nat) (V : List Int) (w : World) (a' : Act) (w' : World) : Prop :=
  w' = w ∧ ∃ (q : Nat) (u1 u4 u5 u6 u7 u8 u9 u10 u11 u12 u13 u14 u15 u16 u17 : Value), a' = { tmps := #[.slice A n c, u1, .slice none 0 0, .int .i64 q, u4, u5, u6, u7, u8, u9, u10, u11, u12, u13, u14, u15, u16, u17, undef, undef, undef], defers := [] } ∧ q ≤ n ∧ ZeroFrom V q
def lastOf : Act → Nat := fun a => (intOf (a.tmps.getD 3 undef)).toNat
theorem label_to {A : Option Addr} {n c : Nat} {V : List Int} {w : World} {q : Nat} {x : Int} {u1 u4 u5 u6 u7 u8 u9 u10 u11 u12 u13 u14 u15 u16 u17 : Value} (hx : x = (q : Int)) (hq : q ≤ n) (hz : ZeroFrom V q) :
    AtLabel A n c V w { tmps := #[.slice A n c, u1, .slice none 0 0, .int .i64 x, u4, u5, u6, u7, u8, u9, u10, u11, u12, u13, u14, u15, u16, u17, undef, undef, undef], defers := [] } w := by
  subst hx
  exact ⟨rfl, q, _, _, _, _, _, _, _, _, _, _, _, _, _, _, _, rfl, hq, hz⟩

set_option maxRecDepth 1000000 in
set_option maxHeartbeats 1000000 in
theorem trim_any (A : Option Addr) (n c : Nat) (V : List Int) (w : World) (h : Il w A n c V) :
    Calls Tryz.prog 77 #[.slice A n c] w (Trims A n c V w) := by
  have hcap := h.cap.1
  have hcap2 := h.cap.2
  have HI := Lib.hid h
  have HN := Lib.hid h.1
  clear h
  go_enter Tryz.func77, Tryz.ntmps77
  go_wp2
  refine wp_scope_jumps 0 (AtLabel A n c V w) (fun a' _ => lastOf a') rfl ?_ ?_
  · rcases Nat.eq_zero_or_pos n with h0 | h0
    · have d1 : decide ((0 : Int) < n) = false := by rw [decide_eq_false_iff_not]; omega
      have d2 : decide (0 < n) = false := by rw [decide_eq_false_iff_not]; omega
      have hr4 := run_ihead A n c n (by omega)
      have HT := Lib.hid (Trims.mk (A := A) (n := n) (c := c) (q := n) (w := w) (Nat.le_refl _) (ZeroFrom.all HN.out) fun k hk => by omega)
      clear h0
      go_wp2
      go_step3
      go_wp2
      simp only [Exit.jump]
      go_ret
      exact HT.out
    · obtain ⟨p, hp⟩ : ∃ p, n = p + 1 := ⟨n - 1, by omega⟩
      have d1 : decide ((0 : Int) < n) = true := by rw [decide_eq_true_iff]; omega
      have d2 : decide (0 < n) = true := by rw [decide_eq_true_iff]; omega
      have hsub : IntKind.i64.wrap ((n : Int) - 1) = (p : Int) := by rw [IntWalk.i64_in _ (by omega)]; omega
      have hpl : p < n := by omega
      obtain ⟨b, o, x, rfl, hx, g⟩ := HI.out.get hpl
      have HPP := Lib.hid hp
      have HXX := Lib.hid (show V.getD p 0 = x by rw [List.getD_eq_getElem?_getD, hx]; rfl)
      clear hp hx
      by_cases hx0 : x = 0
      · have d3 : (x == 0) = true := by simpa using hx0
        have HZ2 := Lib.hid (ZeroFrom.next (p := p) (V := V) (by rw [← HPP.out]; exact ZeroFrom.all HN.out) (by rw [HXX.out]; exact hx0))
        clear hx0
        go_wp2
        go_step3
        go_wp2
        go_step3
        exact ⟨rfl, label_to rfl (by omega) HZ2.out⟩
      · have d3 : (x == 0) = false := by simpa using hx0
        have hr4 := run_ihead (some ⟨b, o, none⟩) n c n (by omega)
        have HT := Lib.hid (Trims.mk (A := some ⟨b, o, none⟩) (n := n) (c := c) (q := n) (w := w) (Nat.le_refl _) (ZeroFrom.all HN.out) fun k hk => by
          obtain rfl : k = p := by have := HPP.out; omega
          rw [HXX.out]; exact hx0)
        clear hx0
        go_wp2
        go_step3
        go_wp2
        simp only [Exit.jump]
        go_ret
        exact HT.out
  · rintro a' w' ⟨rfl, q, u1, u4, u5, u6, u7, u8, u9, u10, u11, u12, u13, u14, u15, u16, u17, rfl, hq, hz⟩
    have HZ := Lib.hid hz
    clear hz
    rcases Nat.eq_zero_or_pos q with h0 | h0
    · have d1 : decide ((0 : Int) < q) = false := by rw [decide_eq_false_iff_not]; omega
      have d2 : decide (0 < q) = false := by rw [decide_eq_false_iff_not]; omega
      have hr4 := run_ihead A n c q (by omega)
      have HT := Lib.hid (Trims.mk (A := A) (n := n) (c := c) (q := q) (w := w') hq HZ.out fun k hk => by omega)
      clear h0
      go_wp2
      simp only [Exit.jump]
      go_ret
      exact HT.out
    · obtain ⟨p, hp⟩ : ∃ p, q = p + 1 := ⟨q - 1, by omega⟩
      have d1 : decide ((0 : Int) < q) = true := by rw [decide_eq_true_iff]; omega
      have d2 : decide (0 < q) = true := by rw [decide_eq_true_iff]; omega
      have hsub : IntKind.i64.wrap ((q : Int) - 1) = (p : Int) := by rw [IntWalk.i64_in _ (by omega)]; omega
      have hpl : p < n := by omega
      obtain ⟨b, o, x, rfl, hx, g⟩ := HI.out.get hpl
      have HPP := Lib.hid hp
      have HXX := Lib.hid (show V.getD p 0 = x by rw [List.getD_eq_getElem?_getD, hx]; rfl)
      clear hp hx
      by_cases hx0 : x = 0
      · have d3 : (x == 0) = true := by simpa using hx0
        have HZ2 := Lib.hid (ZeroFrom.next (p := p) (V := V) (by rw [← HPP.out]; exact HZ.out) (by rw [HXX.out]; exact hx0))
        clear hx0
        go_wp2
        go_step3
        exact ⟨rfl, label_to rfl (by omega) HZ2.out, by have := HPP.out; simp [lastOf, intOf]; omega⟩
      · have d3 : (x == 0) = false := by simpa using hx0
        have hr4 := run_ihead (some ⟨b, o, none⟩) n c q (by omega)
        have HT := Lib.hid (Trims.mk (A := some ⟨b, o, none⟩) (n := n) (c := c) (q := q) (w := w') hq HZ.out fun k hk => by
          obtain rfl : k = p := by have := HPP.out; omega
          rw [HXX.out]; exact hx0)
        clear hx0
        go_wp2
        simp only [Exit.jump]
        go_ret
        exact HT.out
end Go.Proofs.YtoggcpfogeoeaaaGreatDoor

namespace Go.Proofs.YtoggcpfogeoeaaaGreatDoor
open Go.RowKit

/-- A world that has all that W has, but for block b. -/
structure KExtE (b : Nat) (W : World) where
  w : World
  g : KeptE b W w
instance (b : Nat) (W : World) : Nonempty (KExtE b W) := ⟨⟨W, .refl b W⟩⟩
theorem KExtE.cell {b : Nat} {W : World} {b' o : Nat} {v : Value} (hb : b' ≠ b) (hc : W.cell? ⟨b', o, none⟩ = some v) (g : KExtE b W) : g.w.cell? ⟨b', o, none⟩ = some v := g.g.cell hb hc
theorem soloE {b : Nat} {W : World} {P : Program} {ops : Array Oper} {Q : Exit → Act → World → Prop} {p : Plan} {a : Act} {w : World} (hk : KeptE b W w) (h : wpPlan P ops (fun w' => ∃ g : KExtE b W, w' = g.w) Q p a w) :
    soloQ (fun a' w' => (∃ g : KExtE b W, w' = g.w) ∧ wpPlan P ops (fun w' => ∃ g : KExtE b W, w' = g.w) Q p a' w') .normal a w := ⟨⟨⟨w, hk⟩, rfl⟩, h⟩
theorem region_planE {P : Program} (b : Nat) (W : World) {id : Nat} {Q : Exit → Act → World → Prop} {a : Act} {w : World} {l : List Oper} (n : Nat) (p : Plan) (hm : P.follows .mixedOrders = true) (hs : Region.noSelect l.toArray = true) (hl : l.length = n) (hn : planN p = n)
    (hB : planF l.toArray n p 0 = true) (hQ : ∀ c d v a w, Q (.panic c) (Act.put a d v) w → Q (.panic c) a w) (h0 : Kept W w)
    (h : ∀ wd : World, Kept w wd → wpPlan P l.toArray (fun w' => ∃ g : KExtE b W, w' = g.w) Q p a wd) : (Code.region id l.toArray true).wp P Q a w := by
  subst hl
  refine wp_region_held (S := fun w' => ∃ g : KExtE b W, w' = g.w) hm ?_
  have hk : Kept w { w with drawn := w.drawn + 1 } := (Kept.refl w).drew
  have hB2 := planF_B l.toArray p 0 (by rw [List.size_toArray]; exact hB)
  rw [List.size_toArray, ← bits_none] at hB2
  have := plan_any (Q := Q) (C := fun w' => ∃ g : KExtE b W, w' = g.w) hs hQ p (Array.replicate l.length false) a { w with drawn := w.drawn + 1 } hB2 ⟨⟨_, .of (h0.trans hk)⟩, rfl⟩ (h _ hk)
  rw [hn] at this
  rw [List.size_toArray]
  exact this
end Go.Proofs.YtoggcpfogeoeaaaGreatDoor

