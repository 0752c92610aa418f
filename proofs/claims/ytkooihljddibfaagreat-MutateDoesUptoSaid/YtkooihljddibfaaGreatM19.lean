/-
  What is proved: plain facts on many states joined, whatever they give to a dot (P9.2): what is joined by halves is what is joined one by one: of what several have the first one's is it; in any order where they give unlike things to no dot; what two rows of entries, put together, are of a join; no program is spoken of here.
  a map keyed by dots whose elements say nothing (a set of dots): what its block reads as behind dots put in; whether a dot is there.
  number, upTo, Has and Most of package ctx, called with any sets that lie in memory, return what P6.2 and P6.8 say; the world has new blocks at most.
  join.having, called with any set that lies in memory and whose dots by themselves are right, hands back a function that tells of any dot whether it is in the set: so does that function, called in whatever world keeps what was laid; the world has new blocks at most.
  Get of package store (P8.2), called with any state whose entries rise and any dot, returns what the dot left, and whether there is such; the world has new blocks at most.
-/
import Derived.Test.YtkooihljddibfaaGreatM17
import Derived.Maps.OwnSet
import Derived.DeepKeys4
import Derived.MapViews
import Derived.ChangeSame
import Derived.Test.YtkooihljddibfaaGreatM8
import Derived.Test.YtkooihljddibfaaGreatM7
import Derived.Test.YtkooihljddibfaaGreatM18
import Derived.Test.YtkooihljddibfaaGreatM16
namespace Go.Proofs.YtkooihljddibfaaGreat
open Go.RowKit
set_option linter.unusedVariables false

/-- A dot that left something there, or was never known. -/
def Sta.alive (s : Sta) (d : Int × Int) : Prop := hasE s.L d = true ∨ ¬ s.has d
/-- The first one that knows an entry's dot has the entry. -/
def firstIn : List Sta → En → Prop
  | [], _ => False
  | s :: l, x => x ∈ s.L ∨ (¬ s.has x.d ∧ firstIn l x)
theorem firstIn_app (l1 l2 : List Sta) (x : En) : firstIn (l1 ++ l2) x ↔ firstIn l1 x ∨ ((∀ s ∈ l1, ¬ s.has x.d) ∧ firstIn l2 x) := by
  induction l1 with
  | nil => simp [firstIn]
  | cons s l ih =>
    simp only [List.cons_append, firstIn, ih, List.mem_cons, forall_eq_or_imp]
    constructor
    · rintro (h | ⟨h, h1 | ⟨h1, h2⟩⟩)
      · exact .inl (.inl h)
      · exact .inl (.inr ⟨h, h1⟩)
      · exact .inr ⟨⟨h, h1⟩, h2⟩
    · rintro ((h | ⟨h, h1⟩) | ⟨⟨h, h1⟩, h2⟩)
      · exact .inl h
      · exact .inr ⟨h, .inl h1⟩
      · exact .inr ⟨h, .inr ⟨h1, h2⟩⟩
theorem firstIn_some {l : List Sta} {d : Int × Int} (h : ∃ s ∈ l, s.has d) (ha : ∀ s ∈ l, s.alive d) : ∃ y, y.d = d ∧ firstIn l y := by
  induction l with
  | nil => obtain ⟨s, hs, _⟩ := h; cases hs
  | cons s l ih =>
    by_cases hs : s.has d
    · rcases ha s (List.mem_cons_self ..) with h1 | h1
      · obtain ⟨y, hy, hd⟩ := hasE_iff.1 h1
        exact ⟨y, hd, .inl hy⟩
      · exact absurd hs h1
    · obtain ⟨y, hd, hf⟩ := ih (by
        obtain ⟨t, ht, hh⟩ := h
        rcases List.mem_cons.1 ht with e | ht
        · subst e; exact absurd hh hs
        · exact ⟨t, ht, hh⟩) (fun t ht => ha t (List.mem_cons_of_mem _ ht))
      exact ⟨y, hd, .inr ⟨by rw [hd]; exact hs, hf⟩⟩
theorem firstIn_mem {l : List Sta} {x : En} (h : firstIn l x) : ∃ s ∈ l, x ∈ s.L := by
  induction l with
  | nil => cases h
  | cons s l ih =>
    rcases h with h | ⟨_, h⟩
    · exact ⟨s, List.mem_cons_self .., h⟩
    · obtain ⟨t, ht, hx⟩ := ih h
      exact ⟨t, List.mem_cons_of_mem _ ht, hx⟩
/-- P9.2. -/
structure AllR (l : List Sta) (r : Sta) : Prop where
  rise : RiseE r.L
  set : SetC (fun d => ∃ s ∈ l, s.has d) r.V r.C
  mem : ∀ x, x ∈ r.L ↔ firstIn l x ∧ ∀ s ∈ l, s.alive x.d
theorem AllR.one {l : List Sta} {r r' : Sta} (h : AllR l r) (k : AllR l r') : r = r' := by
  obtain ⟨h2, h3⟩ := h.set.same k.set (fun d => Iff.rfl)
  exact Sta.ext' (riseE_unique _ _ h.rise k.rise fun x => (h.mem x).trans (k.mem x).symm) h2 h3
theorem AllR.has {l : List Sta} {r : Sta} (h : AllR l r) (d : Int × Int) : r.has d ↔ ∃ s ∈ l, s.has d := h.set.has d
theorem AllR.ord {l : List Sta} {r : Sta} (h : AllR l r) (ho : ∀ s ∈ l, Ord s) : Ord r := by
  refine ⟨h.rise, h.set.right, fun x hx => (h.has _).2 ?_⟩
  obtain ⟨s, hs, hxs⟩ := firstIn_mem ((h.mem x).1 hx).1
  exact ⟨s, hs, (ho s hs).known x hxs⟩
theorem none_has (d : Int × Int) : ¬ Sta.none.has d := by unfold Sta.has Sta.none hasC; simp [atV_nil]; omega
theorem AllR.nil : AllR [] .none :=
  ⟨riseE_nil, ⟨Ord.none.ctx, fun d => ⟨fun h => absurd h (none_has d), (fun ⟨s, hs, _⟩ => by cases hs)⟩⟩, fun x => ⟨(fun h => by cases h), fun h => h.1.elim⟩⟩
theorem AllR.self {s : Sta} (h : Ord s) : AllR [s] s := by
  refine ⟨h.rise, ⟨h.ctx, fun d => ⟨fun k => ⟨s, List.mem_cons_self .., k⟩, ?_⟩⟩, fun x => ⟨fun k => ⟨.inl k, ?_⟩, ?_⟩⟩
  · rintro ⟨t, ht, k⟩
    obtain rfl : t = s := by simpa using ht
    exact k
  · intro t ht
    obtain rfl : t = s := by simpa using ht
    exact .inl (hasE_iff.2 ⟨x, k, rfl⟩)
  · rintro ⟨k | ⟨_, k⟩, _⟩
    · exact k
    · cases k
theorem AllR.alive {l : List Sta} {r : Sta} (h : AllR l r) (d : Int × Int) : r.alive d ↔ ∀ s ∈ l, s.alive d := by
  constructor
  · rintro (k | k)
    · obtain ⟨y, hy, rfl⟩ := hasE_iff.1 k
      exact ((h.mem y).1 hy).2
    · exact fun s hs => .inr fun e => k ((h.has d).2 ⟨s, hs, e⟩)
  · intro k
    by_cases e : r.has d
    · obtain ⟨y, rfl, hy⟩ := firstIn_some ((h.has d).1 e) k
      exact .inl (hasE_iff.2 ⟨y, (h.mem y).2 ⟨hy, k⟩, rfl⟩)
    · exact .inr e
theorem AllR.join {l1 l2 : List Sta} {a b r : Sta} (h1 : AllR l1 a) (h2 : AllR l2 b) (ho : ∀ s ∈ l1, Ord s) (h : JoinOf a b r) : AllR (l1 ++ l2) r := by
  have ha := h1.ord ho
  refine ⟨h.rise, ⟨h.set.right, fun d => ?_⟩, fun x => ?_⟩
  · refine (h.has d).trans ?_
    rw [h1.has, h2.has]
    constructor
    · rintro (⟨s, hs, k⟩ | ⟨s, hs, k⟩)
      · exact ⟨s, List.mem_append_left _ hs, k⟩
      · exact ⟨s, List.mem_append_right _ hs, k⟩
    · rintro ⟨s, hs, k⟩
      exact (List.mem_append.1 hs).imp (fun e => ⟨s, e, k⟩) (fun e => ⟨s, e, k⟩)
  · rw [h.mem, firstIn_app]
    have e1 : (hasE b.L x.d = true ∨ ¬ b.has x.d) ↔ ∀ s ∈ l2, s.alive x.d := h2.alive x.d
    have e2 : (¬ a.has x.d) ↔ ∀ s ∈ l1, ¬ s.has x.d := by
      rw [h1.has]; exact ⟨fun k s hs e => k ⟨s, hs, e⟩, fun k ⟨s, hs, e⟩ => k s hs e⟩
    have e3 : (∀ s ∈ l1 ++ l2, s.alive x.d) ↔ (∀ s ∈ l1, s.alive x.d) ∧ ∀ s ∈ l2, s.alive x.d :=
      ⟨fun k => ⟨fun s hs => k s (List.mem_append_left _ hs), fun s hs => k s (List.mem_append_right _ hs)⟩, fun k s hs => (List.mem_append.1 hs).elim (k.1 s) (k.2 s)⟩
    rw [e1, h1.mem, h2.mem, e3, e2]
    constructor
    · rintro (⟨⟨k1, k2⟩, k3⟩ | ⟨⟨k1, k2⟩, k3, k4⟩)
      · exact ⟨.inl k1, k2, k3⟩
      · exact ⟨.inr ⟨k4, k1⟩, fun s hs => .inr (k4 s hs), k2⟩
    · rintro ⟨k1 | ⟨k1, k2⟩, k3, k4⟩
      · exact .inl ⟨⟨k1, k3⟩, k4⟩
      · refine .inr ⟨⟨k2, k4⟩, ?_, k1⟩
        rw [← Bool.not_eq_true]
        exact fun e => absurd (hasE_known ha e) (e2.2 k1)
/-- Where they give unlike things to no dot. -/
theorem AllR.told {l : List Sta} {r : Sta} (h : AllR l r) (ho : ∀ s ∈ l, Ord s) (hg : ∀ s ∈ l, ∀ t ∈ l, Agree s t) (x : En) : r.lives x ↔ ∀ s ∈ l, s.lives x := by
  have hr := h.ord ho
  constructor
  · rintro (k | k) s hs
    · obtain ⟨k1, k2⟩ := (h.mem x).1 k
      obtain ⟨t, ht, hx⟩ := firstIn_mem k1
      rcases k2 s hs with k3 | k3
      · exact .inl (((hg t ht s hs).has hx).1 k3)
      · exact .inr k3
    · exact .inr fun e => k ((h.has _).2 ⟨s, hs, e⟩)
  · intro k
    by_cases e : r.has x.d
    · refine .inl ((h.mem x).2 ⟨?_, fun s hs => (k s hs).imp (fun m => hasE_iff.2 ⟨x, m, rfl⟩) id⟩)
      have : ∀ l : List Sta, (∃ s ∈ l, s.has x.d) → (∀ s ∈ l, s.lives x) → firstIn l x := by
        intro l
        induction l with
        | nil => rintro ⟨s, hs, _⟩; cases hs
        | cons s l ih =>
          rintro ⟨t, ht, hh⟩ hl
          by_cases e2 : s.has x.d
          · exact .inl ((hl s (List.mem_cons_self ..)).resolve_right (fun n => n e2))
          · refine .inr ⟨e2, ih ?_ (fun u hu => hl u (List.mem_cons_of_mem _ hu))⟩
            rcases List.mem_cons.1 ht with e3 | ht
            · subst e3; exact absurd hh e2
            · exact ⟨t, ht, hh⟩
      exact this l ((h.has _).1 e) k
    · exact .inr e
theorem AllR.turn {l l' : List Sta} {r r' : Sta} (h : AllR l r) (h' : AllR l' r') (ho : ∀ s ∈ l, Ord s) (hg : ∀ s ∈ l, ∀ t ∈ l, Agree s t) (hm : ∀ s, s ∈ l' ↔ s ∈ l) : r = r' := by
  have ho' : ∀ s ∈ l', Ord s := fun s hs => ho s ((hm s).1 hs)
  have hg' : ∀ s ∈ l', ∀ t ∈ l', Agree s t := fun s hs t ht => hg s ((hm s).1 hs) t ((hm t).1 ht)
  refine (h.ord ho).same (h'.ord ho') (fun d => ?_) fun x => ?_
  · rw [h.has, h'.has]
    exact ⟨fun ⟨s, hs, k⟩ => ⟨s, (hm s).2 hs, k⟩, fun ⟨s, hs, k⟩ => ⟨s, (hm s).1 hs, k⟩⟩
  · rw [h.told ho hg, h'.told ho' hg']
    exact ⟨fun k s hs => k s ((hm s).1 hs), fun k s hs => k s ((hm s).2 hs)⟩
end Go.Proofs.YtkooihljddibfaaGreat

namespace Go.Proofs.YtkooihljddibfaaGreat
open Go.RowKit Go.ChangeShapes Go.WideShapes
set_option linter.unusedVariables false

theorem laidOutK : laidOutB Tryz.prog = true := by kernel_rfl
theorem rowD : (30 : TypeId) < Tryz.prog.types.size := of_decide_eq_true (by kernel_rfl)
theorem wideD : (match Tryz.prog.underlying 30 with | some (.array _ _) | some (.struct _) => true | _ => false) = true := by kernel_rfl
theorem deepD : Tryz.prog.keyTypeAt (Tryz.prog.types.size + 1) 30 = true := by kernel_rfl
theorem cellsD : Tryz.prog.cellsOf 30 = 2 := by kernel_rfl
theorem cellsI : Tryz.prog.cellsOf 3 = 1 := by kernel_rfl
set_option maxRecDepth 100000 in
theorem keyedD : Maps.Keyed Tryz.prog 30 := Maps.Keyed.of_law (deep_law_laid laidOutK (m := 2) (by omega) rowD (by kernel_rfl) wideD)
theorem mapD : Tryz.prog.underlying 95 = some (.map 30 96) := by kernel_rfl
theorem zeroU (w : World) : (zeroValue 96).run Tryz.prog w = .ok (.agg #[]) w := by kernel_rfl
/-- What a dot's value is as a key. -/
def valD (d : Int × Int) : Value := .agg #[.int .i64 d.1, .int .i64 d.2]
def litD (d : Int × Int) : Lit := (DataW.agg (H := Unit) [.lit (.int .i64 d.1), .lit (.int .i64 d.2)]).asKey
structure WfD (d : Int × Int) : Prop where
  l1 : -9223372036854775808 ≤ d.1
  h1 : d.1 ≤ 9223372036854775807
  l2 : -9223372036854775808 ≤ d.2
  h2 : d.2 ≤ 9223372036854775807
theorem wf_int {a : Int} (h1 : -9223372036854775808 ≤ a) (h2 : a ≤ 9223372036854775807) : (Lit.int .i64 a).wf = true := by
  have e1 : IntKind.i64.min = -9223372036854775808 := by decide
  have e2 : IntKind.i64.max = 9223372036854775807 := by decide
  simp [Lit.wf]
  omega
theorem wf_right {d : Int × Int} (h : rightD d = true) : WfD d := by
  have := rightD_bd h
  exact ⟨by omega, by omega, by omega, by omega⟩
set_option maxRecDepth 100000 in
theorem trodD (w : World) (d : Int × Int) (h : WfD d) : DataW.Trod (H := Unit) (fun _ => ()) Tryz.prog w 0 (fun _ => true) true 30 (valD d) (.agg [.lit (.int .i64 d.1), .lit (.int .i64 d.2)]) [] :=
  ⟨2, trod_struct2_mk (y0 := (.lit (.int .i64 d.1), [])) (y1 := (.lit (.int .i64 d.2), [])) Tryz.underlying30 (by rw [cellsD]; rfl)
    (by simp [DataW.trod, valD, Value.cells, Tryz.underlying3, cellsI, wf_int h.l1 h.h1]) (by simp [DataW.trod, valD, Value.cells, Tryz.underlying3, cellsI, wf_int h.l2 h.h2])⟩
set_option maxRecDepth 100000 in
theorem keyD (d : Int × Int) (h : WfD d) : keyOf Tryz.prog 30 (valD d) = some (litD d) :=
  (keyOf_asKey deepD wideD (by kernel_rfl) (trodD (default : World) d h)).1
theorem litD_inj {a b : Int × Int} (ha : WfD a) (hb : WfD b) (h : litD a = litD b) : a = b := by
  have h1 := keyD a ha
  have h2 := keyD b hb
  rw [← h] at h2
  have := keyedD.inj h1 h2
  obtain ⟨a1, a2⟩ := a; obtain ⟨b1, b2⟩ := b
  simp only [valD, Value.agg.injEq] at this
  simpa using this
/-- The set that has the dots L. -/
def setL (L : List (Int × Int)) : DataW Unit := Maps.setOf (.agg []) (L.map litD)
theorem setL_put (L : List (Int × Int)) (d : Int × Int) : (setL L).put (litD d) (.agg []) = setL (L ++ [d]) := by
  unfold setL; rw [List.map_append, List.map_singleton, Maps.setOf_snoc]
theorem setL_has (L : List (Int × Int)) (hL : ∀ x ∈ L, WfD x) (d : Int × Int) (hd : WfD d) : Maps.has (setL L) (litD d) = decide (d ∈ L) := by
  unfold setL
  rw [Maps.has_setOf _ _ _ (fun x hx => by obtain ⟨y, hy, rfl⟩ := List.mem_map.1 hx; exact keyedD.key (keyD y (hL y hy))), Bool.eq_iff_iff, decide_eq_true_iff, List.any_eq_true]
  constructor
  · rintro ⟨l, hl, he⟩
    obtain ⟨y, hy, rfl⟩ := List.mem_map.1 hl
    rw [← litD_inj (hL y hy) hd (WideAt.sameKey_eq he)]
    exact hy
  · exact fun h => ⟨litD d, List.mem_map.2 ⟨d, h, rfl⟩, WideAt.sameKey_self (keyedD.key (keyD d hd))⟩
/-- Block b is the set of the dots L. -/
def SetM (w : World) (b : Nat) (L : List (Int × Int)) : Prop := w.ownsMap Tryz.prog 30 unitElem b L.length (setL L)
theorem SetM.made (w : World) : SetM (w.alloc (.map #[] 0)) w.heap.size [] := World.ownsMap_made _ _ _ _
theorem SetM.kept {w w' : World} {b : Nat} {L : List (Int × Int)} (h : SetM w b L) (hk : Kept w w') : SetM w' b L := by
  obtain ⟨es, clock, hb, r⟩ := h
  exact ⟨es, clock, by rw [hk.blk (Array.getElem?_eq_some_iff.1 hb).1]; exact hb, r⟩
theorem KeptE.turned {G : Nat} {W w u : World} (h : KeptE G W w) (k : w.mapTurned u G) : KeptE G W u := by
  refine ⟨k.grown.os.trans h.os, k.grown.output.trans h.output, Nat.le_trans h.size k.grown.size, fun i hi hg => (k.grown.block i (Nat.lt_of_lt_of_le hi h.size) (fun e => hg (Option.some.inj e))).trans (h.blk i hi hg)⟩
end Go.Proofs.YtkooihljddibfaaGreat

namespace Go.Proofs.YtkooihljddibfaaGreat
open Go.RowKit

set_option maxRecDepth 100000 in
theorem num_any (A : Option Addr) (n c : Nat) (V : List Int) (B : Option Addr) (m k : Nat) (r : Int) (w : World) (h : Il w A n c V) :
    Calls Tryz.prog 56 #[.agg #[.slice A n c, .slice B m k], .int .i64 r] w fun e w' => e = .returned (.int .i64 (atV V r)) ∧ Kept w w' := by
  have hcap := h.cap.1
  have hcap2 := h.cap.2
  rcases Int.lt_or_le r 0 with h0 | h0
  · have HR := Lib.hid (show 0 = atV V r from (atV_neg V h0).symm)
    clear h
    have d1 : decide (r < 0) = true := by simpa using h0
    go_enter Tryz.func56, Tryz.ntmps56
    go_wp2
    go_ret
    exact ⟨ret_int HR.out, (Kept.refl _).alloc _ _⟩
  · obtain ⟨j, rfl⟩ : ∃ j : Nat, r = j := ⟨r.toNat, by omega⟩
    have d1 : decide ((j : Int) < 0) = false := by rw [decide_eq_false_iff_not]; omega
    by_cases hj : j < n
    · obtain ⟨b, o, x, rfl, hx, g⟩ := (h.kept ((Kept.refl w).alloc #[.slice A n c, .slice B m k] 26)).get hj
      have HR := Lib.hid (show x = atV V j from (atV_in hx).symm)
      have d2 : decide ((n : Int) ≤ (j : Int)) = false := by rw [decide_eq_false_iff_not]; omega
      have d3 : decide (n ≤ j) = false := by rw [decide_eq_false_iff_not]; omega
      clear h hx h0
      go_enter Tryz.func56, Tryz.ntmps56
      go_wp2
      go_ret
      exact ⟨ret_int HR.out, (Kept.refl _).alloc _ _⟩
    · have HR := Lib.hid (show 0 = atV V j from (atV_out V (by have := h.1; omega)).symm)
      have d2 : decide ((n : Int) ≤ (j : Int)) = true := by rw [decide_eq_true_iff]; omega
      have d3 : decide (n ≤ j) = true := by rw [decide_eq_true_iff]; omega
      clear h h0
      go_enter Tryz.func56, Tryz.ntmps56
      go_wp2
      go_ret
      exact ⟨ret_int HR.out, (Kept.refl _).alloc _ _⟩
theorem num_c (A : Option Addr) (n c : Nat) (V : List Int) (B : Option Addr) (m k : Nat) (r x : Int) (hx : atV V r = x) (w : World) (h : Il w A n c V) :
    Calls Tryz.prog 56 #[.agg #[.slice A n c, .slice B m k], .int .i64 r] w fun e w' => e = .returned (.int .i64 x) ∧ Kept w w' := by
  subst hx; exact num_any A n c V B m k r w h

def upB (V : List Int) (d : Int × Int) : Bool := decide (1 ≤ d.2) && decide (d.2 ≤ atV V d.1)
theorem upB_iff (V : List Int) (d : Int × Int) : upB V d = true ↔ 1 ≤ d.2 ∧ d.2 ≤ atV V d.1 := by unfold upB; rw [Bool.and_eq_true, decide_eq_true_iff, decide_eq_true_iff]
theorem hasC_up (V : List Int) (C : List (Int × Int)) (d : Int × Int) : decide (hasC V C d) = (upB V d || decide (d ∈ C)) := by
  rw [Bool.eq_iff_iff, decide_eq_true_iff, Bool.or_eq_true, upB_iff, decide_eq_true_iff]
  exact Iff.rfl
set_option maxRecDepth 100000 in
set_option maxHeartbeats 1000000 in
theorem up_any (A : Option Addr) (n c : Nat) (V : List Int) (B : Option Addr) (m k : Nat) (x1 x2 : Int) (w : World) (h : Il w A n c V) (r : Bool) (hr : upB V (x1, x2) = r) :
    Calls Tryz.prog 42 #[.agg #[.slice A n c, .slice B m k], .agg #[.int .i64 x1, .int .i64 x2]] w fun e w' => e = .returned (.bool r) ∧ Kept w w' := by
  have hK := ((Kept.refl w).alloc #[.slice A n c, .slice B m k] 26).alloc #[.int .i64 x1, .int .i64 x2] 30
  have c0 := KExt.cell (((Kept.refl (w.alloc (.cells #[.slice A n c, .slice B m k] 26))).alloc #[.int .i64 x1, .int .i64 x2] 30).box0)
  have c1 := KExt.cell (((Kept.refl (w.alloc (.cells #[.slice A n c, .slice B m k] 26))).alloc #[.int .i64 x1, .int .i64 x2] 30).box1)
  have c2 := KExt.cell (Kept.box0 (Kept.refl ((w.alloc (.cells #[.slice A n c, .slice B m k] 26)).alloc (.cells #[.int .i64 x1, .int .i64 x2] 30))))
  have c3 := KExt.cell (Kept.box1 (Kept.refl ((w.alloc (.cells #[.slice A n c, .slice B m k] 26)).alloc (.cells #[.int .i64 x1, .int .i64 x2] 30))))
  rw [show (w.alloc (.cells #[.slice A n c, .slice B m k] 26)).heap.size = w.heap.size + 1 by simp] at c2 c3
  obtain ⟨t, ht⟩ : ∃ t, atV V x1 = t := ⟨_, rfl⟩
  have AA := Lib.hid (fun w h => num_c A n c V B m k x1 t ht w h)
  have HI := Lib.hid (h.kept hK)
  have HK := Lib.hid hK
  have hrr : r = (decide (1 ≤ x2) && decide (x2 ≤ t)) := by rw [← hr, ← ht]; rfl
  clear h hK ht hr
  have ways : (decide (1 ≤ x2) = true ∧ decide (x2 ≤ t) = true) ∨ (decide (1 ≤ x2) = true ∧ decide (x2 ≤ t) = false) ∨ (decide (1 ≤ x2) = false ∧ decide (x2 ≤ t) = decide (x2 ≤ t)) := by
    cases decide (1 ≤ x2) <;> cases decide (x2 ≤ t) <;> simp
  rcases ways with ⟨d1, d2⟩ | ⟨d1, d2⟩ | ⟨d1, d2⟩
  all_goals
    rw [d1] at hrr
    try rw [d2] at hrr
    have HR := Lib.hid hrr.symm
    clear hrr
    go_enter Tryz.func42, Tryz.ntmps42
    go_wp2_with fail
    refine region_kept _ (by kernel_rfl) (by kernel_rfl) (Kept.refl _) ?_
    repeat (go_big_quiet_step ((first
      | (go_at_call 56; (with_reducible exact KExt.callsK (AA.out _ (HI.out.kept (KExt.g _)))))
      | fail)))
    refine wpQuiet_nil ?_
    intro G
    go_wp2_with fail
    go_ret
    exact ⟨ret_bool (by have := HR.out; simpa using this), HK.out.trans G.g⟩

set_option maxRecDepth 100000 in
set_option maxHeartbeats 1000000 in
theorem ghas_any (A : Option Addr) (n c : Nat) (V : List Int) (B : Option Addr) (m k : Nat) (C : List (Int × Int)) (x1 x2 : Int) (w : World) (h : Il w A n c V) (hd : Dl w B m k C) (r : Bool) (hr : decide (hasC V C (x1, x2)) = r) :
    Calls Tryz.prog 18 #[.agg #[.slice A n c, .slice B m k], .agg #[.int .i64 x1, .int .i64 x2]] w fun e w' => e = .returned (.bool r) ∧ Kept w w' := by
  have hK := ((Kept.refl w).alloc #[.slice A n c, .slice B m k] 26).alloc #[.int .i64 x1, .int .i64 x2] 30
  obtain ⟨u, hu⟩ : ∃ u, upB V (x1, x2) = u := ⟨_, rfl⟩
  obtain ⟨z, hz⟩ : ∃ z, decide ((x1, x2) ∈ C) = z := ⟨_, rfl⟩
  have AU := Lib.hid (up_any A n c V B m k x1 x2 _ (h.kept hK) u hu)
  have AH := Lib.hid (fun w h => dhas_c B m k C (x1, x2) z hz w h)
  have HD := Lib.hid (hd.kept hK)
  have HK := Lib.hid hK
  have hrr : r = (u || z) := by rw [← hr, hasC_up, hu, hz]
  clear h hd hK hz hr hu
  cases u with
  | true =>
    have HR := Lib.hid (show true = r by rw [hrr]; rfl)
    clear hrr
    go_enter Tryz.func18, Tryz.ntmps18
    go_wp2_with fail
    go_at_call 42
    refine AU.out.mono ?_
    rintro e w1 ⟨rfl, hk1⟩
    go_wp2_with fail
    go_ret
    exact ⟨ret_bool HR.out, HK.out.trans hk1⟩
  | false =>
    have HR := Lib.hid (show z = r by rw [hrr]; rfl)
    clear hrr
    go_enter Tryz.func18, Tryz.ntmps18
    go_wp2_with fail
    go_at_call 42
    refine AU.out.mono ?_
    rintro e w1 ⟨rfl, hk1⟩
    have AH2 := Lib.hid (AH.out w1 (HD.out.kept hk1))
    have e0 := ((Kept.refl (w.alloc (.cells #[.slice A n c, .slice B m k] 26))).alloc #[.int .i64 x1, .int .i64 x2] 30 |>.trans hk1).box0
    have e1 := ((Kept.refl (w.alloc (.cells #[.slice A n c, .slice B m k] 26))).alloc #[.int .i64 x1, .int .i64 x2] 30 |>.trans hk1).box1
    have e2 := hk1.box0
    have e3 := hk1.box1
    rw [show (w.alloc (.cells #[.slice A n c, .slice B m k] 26)).heap.size = w.heap.size + 1 by simp] at e2 e3
    go_wp2_with fail
    go_at_call 21
    refine AH2.out.mono ?_
    rintro e w2 ⟨rfl, hk2⟩
    go_wp2_with fail
    go_ret
    exact ⟨ret_bool HR.out, HK.out.trans (hk1.trans hk2)⟩

set_option maxRecDepth 100000 in
set_option maxHeartbeats 1000000 in
theorem gmost_any (A : Option Addr) (n c : Nat) (V : List Int) (B : Option Addr) (m k : Nat) (C : List (Int × Int)) (r : Int) (w : World) (h : Il w A n c V) (hd : Dl w B m k C) :
    Calls Tryz.prog 28 #[.agg #[.slice A n c, .slice B m k], .int .i64 r] w fun e w' => e = .returned (.int .i64 (mostC V C r)) ∧ Kept w w' := by
  have hK := (Kept.refl w).alloc #[.slice A n c, .slice B m k] 26
  have hcap := hd.cap.1
  have hcap2 := hd.cap.2
  have HM := Lib.hid hd.1
  have AA := Lib.hid (num_any A n c V B m k r _ (h.kept hK))
  have HD := Lib.hid hd
  have HK := Lib.hid hK
  clear h hd hK
  go_enter Tryz.func28, Tryz.ntmps28
  go_wp2_with fail
  go_at_call 56
  refine AA.out.mono ?_
  rintro e w1 ⟨rfl, hk1⟩
  have e0 := hk1.box0
  have e1 := hk1.box1
  have HW := Lib.hid (HK.out.trans hk1)
  clear hk1
  go_wp2_with fail
  go_loopw [5, 14] (fun x i wr => ∃ j : Nat, j ≤ m ∧ i = .int .i64 j ∧ x = .int .i64 (mostC V (C.take j) r) ∧ Kept w1 wr) (fun _ i _ => m - (intOf i).toNat)
  case atStart => exact ⟨0, Nat.zero_le _, rfl, rfl, Kept.refl _⟩
  case round =>
    obtain ⟨j, hj, rfl, rfl, hkr⟩ := hrel
    have HR := Lib.hid hkr
    clear hkr
    by_cases hlt : j < m
    · obtain ⟨g, o, ⟨y1, y2⟩, rfl, hy, g1, g2⟩ := (HD.out.kept (HW.out.trans HR.out)).get hlt
      simp only at g1 g2
      have HS := Lib.hid (mostC_step V C r j (y1, y2) hy)
      generalize mostC V (C.take j) r = x at HS
      clear hy e0 e1
      by_cases hr : y1 = r
      · have d1 : (y1 == r) = true := by simpa using hr
        have HE := Lib.hid (show mostC V (C.take (j + 1)) r = max x y2 by rw [HS.out, if_pos hr])
        clear hr
        go_wp2_with fail
        go_roundw
        case rel => exact ⟨j + 1, hlt, by go_num, by rw [HE.out], HR.out.alloc _ _⟩
        case measure => simp [intOf]; omega
      · have d1 : (y1 == r) = false := by simpa using hr
        have HE := Lib.hid (show mostC V (C.take (j + 1)) r = x by rw [HS.out, if_neg hr])
        clear hr
        go_wp2_with fail
        go_roundw
        case rel => exact ⟨j + 1, hlt, by go_num, by rw [HE.out], HR.out.alloc _ _⟩
        case measure => simp [intOf]; omega
    · obtain rfl : j = m := by omega
      clear e0 e1
      go_wp2_with fail
      go_ret
      exact ⟨ret_int (by rw [List.take_of_length_le (by rw [← HM.out]; exact Nat.le_refl _)]), HW.out.trans HR.out⟩

end Go.Proofs.YtkooihljddibfaaGreat

namespace Go.Proofs.YtkooihljddibfaaGreat
open Go.RowKit
set_option linter.unusedVariables false

theorem run_makeMapN (n : Nat) (w : World) : (Instr.makeMap 95 (some (.int .i64 (n : Int)))).run Tryz.prog w = .ok (.map (some w.heap.size)) (w.alloc (.map #[] 0)) := by
  unfold Instr.makeMap
  simp [run_underlying mapD, asInt, asIntOf, Result.andThen]
/-- What lies in memory where 'having' was called: in block m the map's, in block b the set itself. -/
structure Hav (w : World) (m b : Nat) (V : List Int) (C : List (Int × Int)) : Prop where
  set : ∃ g, w.cell? ⟨m, 0, none⟩ = some (.map (some g)) ∧ SetM w g C
  ctx : ∃ A n c u, w.cell? ⟨b, 0, none⟩ = some (.slice A n c) ∧ w.cell? ⟨b, 1, none⟩ = some u ∧ Il w A n c V
theorem Hav.kept {w w' : World} {m b : Nat} {V : List Int} {C : List (Int × Int)} (h : Hav w m b V C) (hk : Kept w w') : Hav w' m b V C := by
  obtain ⟨⟨g, h1, h2⟩, A, n, c, u, h3, h4, h5⟩ := h
  exact ⟨⟨g, hk.cell h1, h2.kept hk⟩, A, n, c, u, hk.cell h3, hk.cell h4, h5.kept hk⟩
theorem has_parts (V : List Int) (C : List (Int × Int)) (d : Int × Int) : decide (hasC V C d) = (decide (d ∈ C) || decide (hasC V [] d)) := by
  rw [Bool.eq_iff_iff, Bool.or_eq_true, decide_eq_true_iff, decide_eq_true_iff, decide_eq_true_iff]
  unfold hasC
  simp only [List.not_mem_nil, or_false]
  exact or_comm

set_option maxRecDepth 100000 in
set_option maxHeartbeats 4000000 in
theorem hav1_any (m b : Nat) (V : List Int) (C : List (Int × Int)) (d1 d2 : Int) (w : World) (h : Hav w m b V C) (hC : ∀ x ∈ C, WfD x) (hd : WfD (d1, d2)) (r : Bool) (hr : decide (hasC V C (d1, d2)) = r) :
    Calls Tryz.prog 92 #[.agg #[.int .i64 d1, .int .i64 d2], .pointer (some ⟨m, 0, none⟩), .pointer (some ⟨b, 0, none⟩)] w fun e w' => e = .returned (.bool r) ∧ Kept w w' := by
  have hk := (Kept.refl w).alloc #[.int .i64 d1, .int .i64 d2] 30
  obtain ⟨⟨g, h1, h2⟩, A, n, c, u, h3, h4, h5⟩ := h.kept hk
  have HKEY := Lib.hid (keyD (d1, d2) hd)
  have b0 := Box2.new w (.int .i64 d1) (.int .i64 d2) 30
  have y0 := b0.c0; have y1 := b0.c1
  have hk2 := hk.alloc #[] 96
  have hk3 := (Kept.refl (w.alloc (.cells #[.int .i64 d1, .int .i64 d2] 30))).alloc #[] 96
  have HIL := Lib.hid (h5.kept hk3)
  have h6 := hk3.cell h3
  have HS := Lib.hid h2
  have HK2 := Lib.hid hk2
  obtain ⟨z, hz⟩ : ∃ z, decide ((d1, d2) ∈ C) = z := ⟨_, rfl⟩
  have hm := setL_has C hC (d1, d2) hd
  rw [hz] at hm
  have hp := has_parts V C (d1, d2)
  rw [hr, hz] at hp
  have HM := Lib.hid hm
  have HZZ := Lib.hid hz
  clear h hk h2 h5 hk2 hk3 hC hd hm hr b0 hz
  cases z with
  | true =>
    have HR := Lib.hid (show true = r by rw [hp]; rfl)
    clear hp
    go_enter Tryz.func92, Tryz.ntmps92
    go_wp2_with (at_lookup; refine wpList_lookup_own_unit _ rfl _ _ 95 rfl 30 96 keyedD mapD (zeroU _) g _ _ rfl HS.out _ _ rfl HKEY.out ?_; rw [HM.out])
    go_ret
    exact ⟨ret_bool HR.out, HK2.out⟩
  | false =>
    obtain ⟨q, hq⟩ : ∃ q, decide (hasC V [] (d1, d2)) = q := ⟨_, rfl⟩
    have HR := Lib.hid (show q = r by rw [hp, hq]; rfl)
    have HQ := Lib.hid hq
    have AH := Lib.hid (ghas_any A n c V none 0 0 [] d1 d2 _ HIL.out (Dl.nil _) q HQ.out)
    clear hp hq
    go_enter Tryz.func92, Tryz.ntmps92
    go_wp2_with (at_lookup; refine wpList_lookup_own_unit _ rfl _ _ 95 rfl 30 96 keyedD mapD (zeroU _) g _ _ rfl HS.out _ _ rfl HKEY.out ?_; rw [HM.out])
    go_at_call 18
    refine AH.out.mono ?_
    rintro e w1 ⟨rfl, hk1⟩
    go_wp2_with fail
    go_ret
    exact ⟨ret_bool HR.out, HK2.out.trans hk1⟩
theorem Kept.map {W w : World} (h : Kept W w) : Kept W (w.alloc (.map #[] 0)) := kept_grown h (World.grownBy_alloc w _ none) (fun k hk => by cases hk)
theorem SetM.put {w : World} {b : Nat} {L : List (Int × Int)} {d : Int × Int} (h : w.ownsMap Tryz.prog 30 unitElem b (L.length + 1) ((setL L).put (litD d) (.agg []))) : SetM w b (L ++ [d]) := by
  unfold SetM
  rw [List.length_append, ← setL_put]
  exact h
theorem take_snoc {L : List (Int × Int)} {t : Nat} {x : Int × Int} (h : L[t]? = some x) : L.take (t + 1) = L.take t ++ [x] := by
  rw [List.take_add_one, h]; rfl
set_option maxRecDepth 100000 in
set_option maxHeartbeats 4000000 in
theorem having_any (A : Option Addr) (n c : Nat) (V : List Int) (B : Option Addr) (m k : Nat) (C : List (Int × Int)) (w : World) (h : Il w A n c V) (hd : Dl w B m k C) (hC : ∀ x ∈ C, WfD x) (hm : m ≤ 1000000) :
    Calls Tryz.prog 77 #[.agg #[.slice A n c, .slice B m k]] w fun e w' => ∃ mm bb, e = .returned (.func (.func 92) #[] #[.pointer (some ⟨mm, 0, none⟩), .pointer (some ⟨bb, 0, none⟩)]) ∧ Hav w' mm bb V C ∧ Kept w w' := by
  have hmf : ∀ (fn : Fn) (first cap : Array Value) (w : World), (Instr.makeFunc fn first cap).run Tryz.prog w = .ok (.func fn first cap) w := fun _ _ _ _ => rfl
  have hmm := run_makeMapN m
  have hk1 := (Kept.refl w).alloc #[.slice A n c, .slice B m k] 26
  have hk2 := hk1.map
  have hk3 := hk2.alloc #[.map (some (w.heap.size + 1))] 95
  have hr2 := (Kept.refl (w.alloc (.cells #[.slice A n c, .slice B m k] 26))).map
  have hr3 := (Kept.refl ((w.alloc (.cells #[.slice A n c, .slice B m k] 26)).alloc (.map #[] 0))).alloc #[.map (some (w.heap.size + 1))] 95
  have b0 := Box2.new w (.slice A n c) (.slice B m k) 26
  have s0 := SetM.made (w.alloc (.cells #[.slice A n c, .slice B m k] 26))
  rw [show (w.alloc (.cells #[.slice A n c, .slice B m k] 26)).heap.size = w.heap.size + 1 by simp] at s0
  have q0 : (((w.alloc (.cells #[.slice A n c, .slice B m k] 26)).alloc (.map #[] 0)).alloc (.cells #[.map (some (w.heap.size + 1))] 95)).cell? ⟨w.heap.size + 1 + 1, 0, none⟩ = some (.map (some (w.heap.size + 1))) := by
    have := World.cell?_alloc_new ((w.alloc (.cells #[.slice A n c, .slice B m k] 26)).alloc (.map #[] 0)) #[.map (some (w.heap.size + 1))] 95 0
    rw [show ((w.alloc (.cells #[.slice A n c, .slice B m k] 26)).alloc (.map #[] 0)).heap.size = w.heap.size + 1 + 1 by simp] at this
    rw [this]; rfl
  have HB := Lib.hid ((b0.kept hr2).kept hr3)
  have HS := Lib.hid (s0.kept hr3)
  obtain ⟨U, hU⟩ : ∃ U, ((w.alloc (.cells #[.slice A n c, .slice B m k] 26)).alloc (.map #[] 0)).alloc (.cells #[.map (some (w.heap.size + 1))] 95) = U := ⟨_, rfl⟩
  rw [hU] at hk3 q0 HB HS
  have HQ := Lib.hid q0
  have HK := Lib.hid hk3
  have HUU := Lib.hid hU
  have HD := Lib.hid hd
  have HI := Lib.hid h
  have HC := Lib.hid hC
  have y0 := b0.c0; have y1 := b0.c1
  have hcap := hd.cap.1; have hcap2 := hd.cap.2
  have HML := Lib.hid hd.1
  clear h hd hC hk1 hk2 hk3 hr2 hr3 b0 s0 q0 hU
  go_enter Tryz.func77, Tryz.ntmps77
  go_wp2_with fail
  rw [HUU.out]
  clear y0 y1
  go_loopw [13] (fun i wr => ∃ t : Nat, t ≤ m ∧ i = .int .i64 t ∧ KeptE (w.heap.size + 1) U wr ∧ SetM wr (w.heap.size + 1) (C.take t)) (fun i _ => m - (intOf i).toNat)
  case atStart => exact ⟨0, Nat.zero_le _, rfl, KeptE.refl _ _, by rw [List.take_zero]; exact HS.out⟩
  case round =>
    obtain ⟨t, ht, rfl, hke, hsm⟩ := hrel
    have HE := Lib.hid hke
    have HSM := Lib.hid hsm
    have q1 := hke.cell (b := w.heap.size + 1 + 1) (by omega) HQ.out
    clear hke hsm
    by_cases hlt : t < m
    · obtain ⟨g, o, x, rfl, hx, x0, x1⟩ := (HD.out.kept (HE.out.kept HK.out (by omega))).get hlt
      have HKEY := Lib.hid (keyD x (HC.out x (List.mem_of_getElem? hx)))
      have HTK := Lib.hid (take_snoc hx)
      have hka := (Kept.refl wr).alloc #[.int .i64 x.1, .int .i64 x.2] 30
      have HSA := Lib.hid (HSM.out.kept hka)
      have HEA := Lib.hid (HE.out.trans hka)
      have HLT := Lib.hid (show (C.take t).length < maxLen by rw [List.length_take]; simp only [maxLen]; omega)
      have bx := Box2.new wr (.int .i64 x.1) (.int .i64 x.2) 30
      have z0 := bx.c0; have z1 := bx.c1
      have q2 := hka.cell q1
      clear hx hka bx
      go_wp2_with (at_mapUpdate; refine wpList_mapUpdate_in _ rfl _ _ _ 95 rfl 30 96 keyedD mapD unitElem (w.heap.size + 1) _ _ rfl HSA.out HLT.out _ _ _ rfl rfl HKEY.out _ [] unitElem_mk ?_; intro w1 hown1 hturn1; have HT1 := Lib.hid hturn1; have HO1 := Lib.hid hown1; clear hown1 hturn1)
      have HE1 := Lib.hid (HEA.out.turned HT1.out)
      have HS1 := Lib.hid (SetM.put HO1.out)
      go_roundw
      case rel => exact ⟨t + 1, hlt, by go_num, HE1.out, by rw [HTK.out]; exact HS1.out⟩
      case measure => simp [intOf]; omega
    · obtain rfl : t = m := by omega
      have HT := Lib.hid (show C.take t = C from List.take_of_length_le (by rw [← HML.out]; exact Nat.le_refl _))
      go_wp2_with fail
      go_ret
      have hkw := HE.out.kept HK.out (by omega)
      refine ⟨_, _, rfl, ⟨⟨w.heap.size + 1, q1, by rw [← HT.out]; exact HSM.out⟩, A, n, c, _, HE.out.cell (by omega) HB.out.c0, HE.out.cell (by omega) HB.out.c1, HI.out.kept hkw⟩, hkw⟩
end Go.Proofs.YtkooihljddibfaaGreat

namespace Go.Proofs.YtkooihljddibfaaGreat
open Go.RowKit
set_option linter.unusedVariables false

/-- P8.2. -/
def Gets (L : List En) (d : Int × Int) (z : Bool) (w : World) (e : Ending) (w' : World) : Prop :=
  ∃ y : En, e = .returned (.tuple #[.agg #[.int .i64 y.d.1, .int .i64 y.d.2, .string y.p, .int .i64 y.k, .int .i64 y.vk, .int .i64 y.vn, .string y.vt, .int .i64 y.e.1, .int .i64 y.e.2], .bool z]) ∧ (z = true → y ∈ L ∧ y.d = d) ∧ (z = false → y = .none) ∧ Kept w w'
set_option maxRecDepth 100000 in
set_option maxHeartbeats 4000000 in
theorem get_any (A : Option Addr) (n c : Nat) (L : List En) (u1 u2 : Value) (d1 d2 : Int) (w : World) (h : El w A n c L) (hr : RiseE L) (hn : n ≤ 1000000) (z : Bool) (hz : hasE L (d1, d2) = z) :
    Calls Tryz.prog 20 #[.agg #[.slice A n c, u1, u2], .agg #[.int .i64 d1, .int .i64 d2]] w (Gets L (d1, d2) z w) := by
  have hk := (((Kept.refl w).alloc #[.slice A n c, u1, u2] 28).alloc #[.int .i64 d1, .int .i64 d2] 30).alloc #[.int .i64 0, .int .i64 0, .string ⟨#[]⟩, .int .i64 0, .int .i64 0, .int .i64 0, .string ⟨#[]⟩, .int .i64 0, .int .i64 0] 34
  have HS := Lib.hid (find_any A n c L u1 u2 d1 d2 _ (h.kept hk) hr hn z hz)
  have HK := Lib.hid hk
  have HD := Lib.hid (h.kept hk)
  have hc1 := h.cap.1
  have hc2 := h.cap.2
  have HB := Lib.hid ((Box3.new w (.slice A n c) u1 u2 28).kept (((Kept.refl _).alloc #[.int .i64 d1, .int .i64 d2] 30).alloc #[.int .i64 0, .int .i64 0, .string ⟨#[]⟩, .int .i64 0, .int .i64 0, .int .i64 0, .string ⟨#[]⟩, .int .i64 0, .int .i64 0] 34))
  have hen0 := EntF.new ((w.alloc (.cells #[.slice A n c, u1, u2] 28)).alloc (.cells #[.int .i64 d1, .int .i64 d2] 30)) .none 34
  simp only [En.none] at hen0
  rw [show ((w.alloc (.cells #[.slice A n c, u1, u2] 28)).alloc (.cells #[.int .i64 d1, .int .i64 d2] 30)).heap.size = w.heap.size + 2 by simp] at hen0
  have HEN := Lib.hid hen0
  have HN := Lib.hid h.1
  have HZ := Lib.hid hz
  clear h hr hk hz hen0
  go_enter Tryz.func20, Tryz.ntmps20
  go_wp2_with fail
  go_at_call 48
  refine HS.out.mono ?_
  rintro e w1 ⟨k, rfl, hp, hk1⟩
  have hb := HB.out.kept hk1
  have b0 := hb.c0
  have HK1 := Lib.hid (HK.out.trans hk1)
  have HD1 := Lib.hid (HD.out.kept hk1)
  have hen := HEN.out.kept hk1
  have xf := hen.f
  have x0 := hen.ent.c0; have x1 := hen.ent.c1; have x2 := hen.ent.c2; have x3 := hen.ent.c3; have x4 := hen.ent.c4; have x5 := hen.ent.c5; have x6 := hen.ent.c6; have x7 := hen.ent.c7; have x8 := hen.ent.c8
  have HP := Lib.hid hp
  clear hb hk1 hp hen
  cases z with
  | false =>
    go_wp2_with fail
    refine bodyPost_ret (by simp [results, Tryz.results20, go_sem, En.none, *]) rfl ⟨.none, rfl, (fun h => by cases h), (fun _ => rfl), ?_⟩
    exact ((((((((((HK1.out.setCell (Nat.le_add_right _ 2) _).setCell (Nat.le_add_right _ 2) _).setCell (Nat.le_add_right _ 2) _).setCell (Nat.le_add_right _ 2) _).setCell (Nat.le_add_right _ 2) _).setCell (Nat.le_add_right _ 2) _).setCell (Nat.le_add_right _ 2) _).setCell (Nat.le_add_right _ 2) _).setCell (Nat.le_add_right _ 2) _))
  | true =>
    obtain ⟨y, hy, hyd⟩ := HP.out.yes HZ.out
    have hkn : k < n := by have := (List.getElem?_eq_some_iff.1 hy).1; have := HN.out; omega
    obtain ⟨g, o, y', rfl, hy', EY⟩ := HD1.out.get hkn
    obtain rfl := Option.some.inj (hy.symm.trans hy')
    have HY := Lib.hid (List.mem_of_getElem? hy)
    have HYD := Lib.hid hyd
    have y0 := EY.c0; have y1 := EY.c1; have y2 := EY.c2; have y3 := EY.c3; have y4 := EY.c4; have y5 := EY.c5; have y6 := EY.c6; have y7 := EY.c7; have y8 := EY.c8
    clear EY hy hy' hyd
    go_wp2_with fail
    refine bodyPost_ret (by simp [results, Tryz.results20, go_sem, *]) rfl ⟨y, rfl, (fun _ => ⟨HY.out, HYD.out⟩), (fun h => by cases h), ?_⟩
    exact ((((((((((HK1.out.setCell (Nat.le_add_right _ 2) _).setCell (Nat.le_add_right _ 2) _).setCell (Nat.le_add_right _ 2) _).setCell (Nat.le_add_right _ 2) _).setCell (Nat.le_add_right _ 2) _).setCell (Nat.le_add_right _ 2) _).setCell (Nat.le_add_right _ 2) _).setCell (Nat.le_add_right _ 2) _).setCell (Nat.le_add_right _ 2) _))
end Go.Proofs.YtkooihljddibfaaGreat

