/-
  What is proved: plain facts on many states joined, whatever they give to a dot (P9.2): what is joined by halves is what is joined one by one: of what several have the first one's is it; in any order where they give unlike things to no dot; what two rows of entries, put together, are of a join; no program is spoken of here.
  a map keyed by dots whose elements say nothing (a set of dots): what its block reads as behind dots put in; whether a dot is there.
  the document's Most and Same of layer 6, called with any sets that lie in memory, return what P6.8 and P6.10 say; the world has new blocks at most.
  number, upTo, Has and Most of package ctx, called with any sets that lie in memory, return what P6.2 and P6.8 say; the world has new blocks at most.
-/
import Derived.Test.YtcldbmhjfmbcfaaM19
import Derived.Test.YtcldbmhjfmbcfaaM18
import Derived.Maps.OwnSet
import Derived.DeepKeys4
import Derived.MapViews
import Derived.ChangeSame
import Derived.Test.YtcldbmhjfmbcfaaM10
import Derived.Test.YtcldbmhjfmbcfaaM9
namespace Go.Proofs.Ytcldbmhjfmbcfaa
open Go.RowKit
set_option linter.unusedVariables false

/-- A dot that left something there, or was never known. -/
def Sta.alive (s : Sta) (d : Int × Int) : Prop := hasE s.L d = true ∨ ¬ s.has d
/-- The first one that knows an entry's dot has the entry. -/
def firstIn : List Sta → En → Prop
  | [], _ => False
  | s :: l, x => x ∈ s.L ∨ (¬ s.has x.d ∧ firstIn l x)
theorem firstIn_app (l1 l2 : List Sta) (x : En) : firstIn (l1 ++ l2) x ↔ firstIn l1 x ∨ ((∀ s ∈ l1, ¬ s.has x.d) ∧ firstIn l2 x) := by
  induction l1 with
  | nil => simp [firstIn]
  | cons s l ih =>
    simp only [List.cons_append, firstIn, ih, List.mem_cons, forall_eq_or_imp]
    constructor
    · rintro (h | ⟨h, h1 | ⟨h1, h2⟩⟩)
      · exact .inl (.inl h)
      · exact .inl (.inr ⟨h, h1⟩)
      · exact .inr ⟨⟨h, h1⟩, h2⟩
    · rintro ((h | ⟨h, h1⟩) | ⟨⟨h, h1⟩, h2⟩)
      · exact .inl h
      · exact .inr ⟨h, .inl h1⟩
      · exact .inr ⟨h, .inr ⟨h1, h2⟩⟩
theorem firstIn_some {l : List Sta} {d : Int × Int} (h : ∃ s ∈ l, s.has d) (ha : ∀ s ∈ l, s.alive d) : ∃ y, y.d = d ∧ firstIn l y := by
  induction l with
  | nil => obtain ⟨s, hs, _⟩ := h; cases hs
  | cons s l ih =>
    by_cases hs : s.has d
    · rcases ha s (List.mem_cons_self ..) with h1 | h1
      · obtain ⟨y, hy, hd⟩ := hasE_iff.1 h1
        exact ⟨y, hd, .inl hy⟩
      · exact absurd hs h1
    · obtain ⟨y, hd, hf⟩ := ih (by
        obtain ⟨t, ht, hh⟩ := h
        rcases List.mem_cons.1 ht with e | ht
        · subst e; exact absurd hh hs
        · exact ⟨t, ht, hh⟩) (fun t ht => ha t (List.mem_cons_of_mem _ ht))
      exact ⟨y, hd, .inr ⟨by rw [hd]; exact hs, hf⟩⟩
theorem firstIn_mem {l : List Sta} {x : En} (h : firstIn l x) : ∃ s ∈ l, x ∈ s.L := by
  induction l with
  | nil => cases h
  | cons s l ih =>
    rcases h with h | ⟨_, h⟩
    · exact ⟨s, List.mem_cons_self .., h⟩
    · obtain ⟨t, ht, hx⟩ := ih h
      exact ⟨t, List.mem_cons_of_mem _ ht, hx⟩
/-- P9.2. -/
structure AllR (l : List Sta) (r : Sta) : Prop where
  rise : RiseE r.L
  set : SetC (fun d => ∃ s ∈ l, s.has d) r.V r.C
  mem : ∀ x, x ∈ r.L ↔ firstIn l x ∧ ∀ s ∈ l, s.alive x.d
theorem AllR.one {l : List Sta} {r r' : Sta} (h : AllR l r) (k : AllR l r') : r = r' := by
  obtain ⟨h2, h3⟩ := h.set.same k.set (fun d => Iff.rfl)
  exact Sta.ext' (riseE_unique _ _ h.rise k.rise fun x => (h.mem x).trans (k.mem x).symm) h2 h3
theorem AllR.has {l : List Sta} {r : Sta} (h : AllR l r) (d : Int × Int) : r.has d ↔ ∃ s ∈ l, s.has d := h.set.has d
theorem AllR.ord {l : List Sta} {r : Sta} (h : AllR l r) (ho : ∀ s ∈ l, Ord s) : Ord r := by
  refine ⟨h.rise, h.set.right, fun x hx => (h.has _).2 ?_⟩
  obtain ⟨s, hs, hxs⟩ := firstIn_mem ((h.mem x).1 hx).1
  exact ⟨s, hs, (ho s hs).known x hxs⟩
theorem none_has (d : Int × Int) : ¬ Sta.none.has d := by unfold Sta.has Sta.none hasC; simp [atV_nil]; omega
theorem AllR.nil : AllR [] .none :=
  ⟨riseE_nil, ⟨Ord.none.ctx, fun d => ⟨fun h => absurd h (none_has d), (fun ⟨s, hs, _⟩ => by cases hs)⟩⟩, fun x => ⟨(fun h => by cases h), fun h => h.1.elim⟩⟩
theorem AllR.self {s : Sta} (h : Ord s) : AllR [s] s := by
  refine ⟨h.rise, ⟨h.ctx, fun d => ⟨fun k => ⟨s, List.mem_cons_self .., k⟩, ?_⟩⟩, fun x => ⟨fun k => ⟨.inl k, ?_⟩, ?_⟩⟩
  · rintro ⟨t, ht, k⟩
    obtain rfl : t = s := by simpa using ht
    exact k
  · intro t ht
    obtain rfl : t = s := by simpa using ht
    exact .inl (hasE_iff.2 ⟨x, k, rfl⟩)
  · rintro ⟨k | ⟨_, k⟩, _⟩
    · exact k
    · cases k
theorem AllR.alive {l : List Sta} {r : Sta} (h : AllR l r) (d : Int × Int) : r.alive d ↔ ∀ s ∈ l, s.alive d := by
  constructor
  · rintro (k | k)
    · obtain ⟨y, hy, rfl⟩ := hasE_iff.1 k
      exact ((h.mem y).1 hy).2
    · exact fun s hs => .inr fun e => k ((h.has d).2 ⟨s, hs, e⟩)
  · intro k
    by_cases e : r.has d
    · obtain ⟨y, rfl, hy⟩ := firstIn_some ((h.has d).1 e) k
      exact .inl (hasE_iff.2 ⟨y, (h.mem y).2 ⟨hy, k⟩, rfl⟩)
    · exact .inr e
theorem AllR.join {l1 l2 : List Sta} {a b r : Sta} (h1 : AllR l1 a) (h2 : AllR l2 b) (ho : ∀ s ∈ l1, Ord s) (h : JoinOf a b r) : AllR (l1 ++ l2) r := by
  have ha := h1.ord ho
  refine ⟨h.rise, ⟨h.set.right, fun d => ?_⟩, fun x => ?_⟩
  · refine (h.has d).trans ?_
    rw [h1.has, h2.has]
    constructor
    · rintro (⟨s, hs, k⟩ | ⟨s, hs, k⟩)
      · exact ⟨s, List.mem_append_left _ hs, k⟩
      · exact ⟨s, List.mem_append_right _ hs, k⟩
    · rintro ⟨s, hs, k⟩
      exact (List.mem_append.1 hs).imp (fun e => ⟨s, e, k⟩) (fun e => ⟨s, e, k⟩)
  · rw [h.mem, firstIn_app]
    have e1 : (hasE b.L x.d = true ∨ ¬ b.has x.d) ↔ ∀ s ∈ l2, s.alive x.d := h2.alive x.d
    have e2 : (¬ a.has x.d) ↔ ∀ s ∈ l1, ¬ s.has x.d := by
      rw [h1.has]; exact ⟨fun k s hs e => k ⟨s, hs, e⟩, fun k ⟨s, hs, e⟩ => k s hs e⟩
    have e3 : (∀ s ∈ l1 ++ l2, s.alive x.d) ↔ (∀ s ∈ l1, s.alive x.d) ∧ ∀ s ∈ l2, s.alive x.d :=
      ⟨fun k => ⟨fun s hs => k s (List.mem_append_left _ hs), fun s hs => k s (List.mem_append_right _ hs)⟩, fun k s hs => (List.mem_append.1 hs).elim (k.1 s) (k.2 s)⟩
    rw [e1, h1.mem, h2.mem, e3, e2]
    constructor
    · rintro (⟨⟨k1, k2⟩, k3⟩ | ⟨⟨k1, k2⟩, k3, k4⟩)
      · exact ⟨.inl k1, k2, k3⟩
      · exact ⟨.inr ⟨k4, k1⟩, fun s hs => .inr (k4 s hs), k2⟩
    · rintro ⟨k1 | ⟨k1, k2⟩, k3, k4⟩
      · exact .inl ⟨⟨k1, k3⟩, k4⟩
      · refine .inr ⟨⟨k2, k4⟩, ?_, k1⟩
        rw [← Bool.not_eq_true]
        exact fun e => absurd (hasE_known ha e) (e2.2 k1)
/-- Where they give unlike things to no dot. -/
theorem AllR.told {l : List Sta} {r : Sta} (h : AllR l r) (ho : ∀ s ∈ l, Ord s) (hg : ∀ s ∈ l, ∀ t ∈ l, Agree s t) (x : En) : r.lives x ↔ ∀ s ∈ l, s.lives x := by
  have hr := h.ord ho
  constructor
  · rintro (k | k) s hs
    · obtain ⟨k1, k2⟩ := (h.mem x).1 k
      obtain ⟨t, ht, hx⟩ := firstIn_mem k1
      rcases k2 s hs with k3 | k3
      · exact .inl (((hg t ht s hs).has hx).1 k3)
      · exact .inr k3
    · exact .inr fun e => k ((h.has _).2 ⟨s, hs, e⟩)
  · intro k
    by_cases e : r.has x.d
    · refine .inl ((h.mem x).2 ⟨?_, fun s hs => (k s hs).imp (fun m => hasE_iff.2 ⟨x, m, rfl⟩) id⟩)
      have : ∀ l : List Sta, (∃ s ∈ l, s.has x.d) → (∀ s ∈ l, s.lives x) → firstIn l x := by
        intro l
        induction l with
        | nil => rintro ⟨s, hs, _⟩; cases hs
        | cons s l ih =>
          rintro ⟨t, ht, hh⟩ hl
          by_cases e2 : s.has x.d
          · exact .inl ((hl s (List.mem_cons_self ..)).resolve_right (fun n => n e2))
          · refine .inr ⟨e2, ih ?_ (fun u hu => hl u (List.mem_cons_of_mem _ hu))⟩
            rcases List.mem_cons.1 ht with e3 | ht
            · subst e3; exact absurd hh e2
            · exact ⟨t, ht, hh⟩
      exact this l ((h.has _).1 e) k
    · exact .inr e
theorem AllR.turn {l l' : List Sta} {r r' : Sta} (h : AllR l r) (h' : AllR l' r') (ho : ∀ s ∈ l, Ord s) (hg : ∀ s ∈ l, ∀ t ∈ l, Agree s t) (hm : ∀ s, s ∈ l' ↔ s ∈ l) : r = r' := by
  have ho' : ∀ s ∈ l', Ord s := fun s hs => ho s ((hm s).1 hs)
  have hg' : ∀ s ∈ l', ∀ t ∈ l', Agree s t := fun s hs t ht => hg s ((hm s).1 hs) t ((hm t).1 ht)
  refine (h.ord ho).same (h'.ord ho') (fun d => ?_) fun x => ?_
  · rw [h.has, h'.has]
    exact ⟨fun ⟨s, hs, k⟩ => ⟨s, (hm s).2 hs, k⟩, fun ⟨s, hs, k⟩ => ⟨s, (hm s).1 hs, k⟩⟩
  · rw [h.told ho hg, h'.told ho' hg']
    exact ⟨fun k s hs => k s ((hm s).1 hs), fun k s hs => k s ((hm s).2 hs)⟩
end Go.Proofs.Ytcldbmhjfmbcfaa

namespace Go.Proofs.Ytcldbmhjfmbcfaa
open Go.RowKit Go.ChangeShapes Go.WideShapes
set_option linter.unusedVariables false

theorem laidOutK : laidOutB Try.prog = true := by kernel_rfl
theorem rowD : (42 : TypeId) < Try.prog.types.size := of_decide_eq_true (by kernel_rfl)
theorem wideD : (match Try.prog.underlying 42 with | some (.array _ _) | some (.struct _) => true | _ => false) = true := by kernel_rfl
theorem deepD : Try.prog.keyTypeAt (Try.prog.types.size + 1) 42 = true := by kernel_rfl
theorem cellsD : Try.prog.cellsOf 42 = 2 := by kernel_rfl
theorem cellsI : Try.prog.cellsOf 3 = 1 := by kernel_rfl
set_option maxRecDepth 100000 in
theorem keyedD : Maps.Keyed Try.prog 42 := Maps.Keyed.of_law (deep_law_laid laidOutK (m := 2) (by omega) rowD (by kernel_rfl) wideD)
theorem mapD : Try.prog.underlying 74 = some (.map 42 75) := by kernel_rfl
theorem zeroU (w : World) : (zeroValue 75).run Try.prog w = .ok (.agg #[]) w := by kernel_rfl
/-- What a dot's value is as a key. -/
def valD (d : Int × Int) : Value := .agg #[.int .i64 d.1, .int .i64 d.2]
def litD (d : Int × Int) : Lit := (DataW.agg (H := Unit) [.lit (.int .i64 d.1), .lit (.int .i64 d.2)]).asKey
structure WfD (d : Int × Int) : Prop where
  l1 : -9223372036854775808 ≤ d.1
  h1 : d.1 ≤ 9223372036854775807
  l2 : -9223372036854775808 ≤ d.2
  h2 : d.2 ≤ 9223372036854775807
theorem wf_int {a : Int} (h1 : -9223372036854775808 ≤ a) (h2 : a ≤ 9223372036854775807) : (Lit.int .i64 a).wf = true := by
  have e1 : IntKind.i64.min = -9223372036854775808 := by decide
  have e2 : IntKind.i64.max = 9223372036854775807 := by decide
  simp [Lit.wf]
  omega
theorem wf_right {d : Int × Int} (h : rightD d = true) : WfD d := by
  have := rightD_bd h
  exact ⟨by omega, by omega, by omega, by omega⟩
set_option maxRecDepth 100000 in
theorem trodD (w : World) (d : Int × Int) (h : WfD d) : DataW.Trod (H := Unit) (fun _ => ()) Try.prog w 0 (fun _ => true) true 42 (valD d) (.agg [.lit (.int .i64 d.1), .lit (.int .i64 d.2)]) [] :=
  ⟨2, trod_struct2_mk (y0 := (.lit (.int .i64 d.1), [])) (y1 := (.lit (.int .i64 d.2), [])) Try.underlying42 (by rw [cellsD]; rfl)
    (by simp [DataW.trod, valD, Value.cells, Try.underlying3, cellsI, wf_int h.l1 h.h1]) (by simp [DataW.trod, valD, Value.cells, Try.underlying3, cellsI, wf_int h.l2 h.h2])⟩
set_option maxRecDepth 100000 in
theorem keyD (d : Int × Int) (h : WfD d) : keyOf Try.prog 42 (valD d) = some (litD d) :=
  (keyOf_asKey deepD wideD (by kernel_rfl) (trodD (default : World) d h)).1
theorem litD_inj {a b : Int × Int} (ha : WfD a) (hb : WfD b) (h : litD a = litD b) : a = b := by
  have h1 := keyD a ha
  have h2 := keyD b hb
  rw [← h] at h2
  have := keyedD.inj h1 h2
  obtain ⟨a1, a2⟩ := a; obtain ⟨b1, b2⟩ := b
  simp only [valD, Value.agg.injEq] at this
  simpa using this
/-- The set that has the dots L. -/
def setL (L : List (Int × Int)) : DataW Unit := Maps.setOf (.agg []) (L.map litD)
theorem setL_put (L : List (Int × Int)) (d : Int × Int) : (setL L).put (litD d) (.agg []) = setL (L ++ [d]) := by
  unfold setL; rw [List.map_append, List.map_singleton, Maps.setOf_snoc]
theorem setL_has (L : List (Int × Int)) (hL : ∀ x ∈ L, WfD x) (d : Int × Int) (hd : WfD d) : Maps.has (setL L) (litD d) = decide (d ∈ L) := by
  unfold setL
  rw [Maps.has_setOf _ _ _ (fun x hx => by obtain ⟨y, hy, rfl⟩ := List.mem_map.1 hx; exact keyedD.key (keyD y (hL y hy))), Bool.eq_iff_iff, decide_eq_true_iff, List.any_eq_true]
  constructor
  · rintro ⟨l, hl, he⟩
    obtain ⟨y, hy, rfl⟩ := List.mem_map.1 hl
    rw [← litD_inj (hL y hy) hd (WideAt.sameKey_eq he)]
    exact hy
  · exact fun h => ⟨litD d, List.mem_map.2 ⟨d, h, rfl⟩, WideAt.sameKey_self (keyedD.key (keyD d hd))⟩
/-- Block b is the set of the dots L. -/
def SetM (w : World) (b : Nat) (L : List (Int × Int)) : Prop := w.ownsMap Try.prog 42 unitElem b L.length (setL L)
theorem SetM.made (w : World) : SetM (w.alloc (.map #[] 0)) w.heap.size [] := World.ownsMap_made _ _ _ _
theorem SetM.kept {w w' : World} {b : Nat} {L : List (Int × Int)} (h : SetM w b L) (hk : Kept w w') : SetM w' b L := by
  obtain ⟨es, clock, hb, r⟩ := h
  exact ⟨es, clock, by rw [hk.blk (Array.getElem?_eq_some_iff.1 hb).1]; exact hb, r⟩
theorem KeptE.turned {G : Nat} {W w u : World} (h : KeptE G W w) (k : w.mapTurned u G) : KeptE G W u := by
  refine ⟨k.grown.os.trans h.os, k.grown.output.trans h.output, Nat.le_trans h.size k.grown.size, fun i hi hg => (k.grown.block i (Nat.lt_of_lt_of_le hi h.size) (fun e => hg (Option.some.inj e))).trans (h.blk i hi hg)⟩
end Go.Proofs.Ytcldbmhjfmbcfaa

namespace Go.Proofs.Ytcldbmhjfmbcfaa
open Go.RowKit

/-- P6.8. -/
def mostC (V : List Int) (C : List (Int × Int)) (r : Int) : Int := C.foldl (fun n d => if d.1 = r then max n d.2 else n) (atV V r)
theorem mostC_step (V : List Int) (C : List (Int × Int)) (r : Int) (k : Nat) (d : Int × Int) (h : C[k]? = some d) : mostC V (C.take (k + 1)) r = if d.1 = r then max (mostC V (C.take k) r) d.2 else mostC V (C.take k) r := by
  unfold mostC
  rw [List.take_add_one, h, Option.toList_some, List.foldl_append]
  rfl

set_option maxRecDepth 100000 in
set_option maxHeartbeats 2000000 in
theorem rsameC_any (A : Option Addr) (n c : Nat) (V : List Int) (B : Option Addr) (m k : Nat) (C : List (Int × Int)) (A' : Option Addr) (n' c' : Nat) (V' : List Int) (B' : Option Addr) (m' k' : Nat) (C' : List (Int × Int)) (w : World)
    (h : Il w A n c V) (hd : Dl w B m k C) (h' : Il w A' n' c' V') (hd' : Dl w B' m' k' C') (r : Bool) (hr : decide (V = V' ∧ C = C') = r) :
    Calls Try.prog 28 #[.agg #[.slice A n c, .slice B m k], .agg #[.slice A' n' c', .slice B' m' k']] w fun e w' => e = .returned (.bool r) ∧ Kept w w' := by
  have hcap := h.cap.1; have hcap2 := h.cap.2; have hdap := hd.cap.1; have hdap2 := hd.cap.2
  have hcap' := h'.cap.1; have hcap2' := h'.cap.2; have hdap' := hd'.cap.1; have hdap2' := hd'.cap.2
  have HN := Lib.hid h.1; have HM := Lib.hid hd.1; have HN' := Lib.hid h'.1; have HM' := Lib.hid hd'.1
  have HI := Lib.hid h; have HD := Lib.hid hd; have HI' := Lib.hid h'; have HD' := Lib.hid hd'
  have HR := Lib.hid hr
  have hK := ((Kept.refl w).alloc #[.slice A n c, .slice B m k] 26).alloc #[.slice A' n' c', .slice B' m' k'] 26
  have HK := Lib.hid hK
  clear h hd h' hd' hr hK
  by_cases hn : n = n'
  · by_cases hm : m = m'
    · subst hn hm
      go_enter Try.func28, Try.ntmps28
      go_wp2_with fail
      go_loopw [26] (fun i wr => ∃ j : Nat, j ≤ n ∧ i = .int .i64 j ∧ Kept ((w.alloc (.cells #[.slice A n c, .slice B m k] 26)).alloc (.cells #[.slice A' n c', .slice B' m k'] 26)) wr ∧ ∀ i, i < j → V[i]? = V'[i]?) (fun i _ => n - (intOf i).toNat)
      case atStart => exact ⟨0, Nat.zero_le _, rfl, Kept.refl _, fun i hi => absurd hi (by omega)⟩
      case round =>
        obtain ⟨j, hj, rfl, hkr, hall⟩ := hrel
        have HR2 := Lib.hid hkr
        have HA := Lib.hid hall
        have e0 := KExt.cell ((((Kept.refl (w.alloc (.cells #[.slice A n c, .slice B m k] 26))).alloc #[.slice A' n c', .slice B' m k'] 26).trans hkr).box0)
        have e1 := KExt.cell ((((Kept.refl (w.alloc (.cells #[.slice A n c, .slice B m k] 26))).alloc #[.slice A' n c', .slice B' m k'] 26).trans hkr).box1)
        have e2 := KExt.cell hkr.box0
        have e3 := KExt.cell hkr.box1
        rw [show (w.alloc (.cells #[.slice A n c, .slice B m k] 26)).heap.size = w.heap.size + 1 by simp] at e2 e3
        clear hkr hall
        by_cases hlt : j < n
        · obtain ⟨g, o, y, rfl, hy, g1⟩ := (HI.out.kept (HK.out.trans HR2.out)).get hlt
          obtain ⟨g', o', y', rfl, hy', g2⟩ := (HI'.out.kept (HK.out.trans HR2.out)).get hlt
          have f1 := KExt.cell g1
          have f2 := KExt.cell g2
          have HY := Lib.hid hy
          have HY' := Lib.hid hy'
          clear hy hy' g1 g2
          by_cases hyy : y = y'
          · have d1 : (y == y') = true := by simpa using hyy
            have HN2 := Lib.hid (show ∀ i, i < j + 1 → V[i]? = V'[i]? from fun i hi => by
              rcases Nat.lt_or_ge i j with h | h
              · exact HA.out i h
              · obtain rfl : i = j := by omega
                rw [HY.out, HY'.out, hyy])
            clear hyy
            go_wp2_with fail
            refine region_kept _ (by kernel_rfl) (by kernel_rfl) (Kept.refl _) ?_
            repeat (go_big_quiet_step (fail))
            refine wpQuiet_nil ?_
            intro G
            clear e0 e1 e2 e3 f1 f2
            go_wp2_with fail
            go_roundw
            case rel => exact ⟨j + 1, hlt, by go_num, HR2.out.trans G.g, HN2.out⟩
            case measure => simp [intOf]; omega
          · have d1 : (y == y') = false := by simpa using hyy
            have HF := Lib.hid (show false = r by
              rw [← HR.out, eq_comm, decide_eq_false_iff_not]
              rintro ⟨rfl, _⟩
              exact hyy (Option.some.inj (HY.out.symm.trans HY'.out)))
            clear hyy
            go_wp2_with fail
            refine region_kept _ (by kernel_rfl) (by kernel_rfl) (Kept.refl _) ?_
            repeat (go_big_quiet_step (fail))
            refine wpQuiet_nil ?_
            intro G
            clear e0 e1 e2 e3 f1 f2
            go_wp2_with fail
            go_ret
            exact ⟨ret_bool HF.out, HK.out.trans (HR2.out.trans G.g)⟩
        · obtain rfl : j = n := by omega
          have HV := Lib.hid (show V = V' from List.ext_getElem? fun i => by
            rcases Nat.lt_or_ge i j with h | h
            · exact HA.out i h
            · rw [List.getElem?_eq_none (by have := HN.out; omega), List.getElem?_eq_none (by have := HN'.out; omega)])
          have i0 := e0 ⟨wr, Kept.refl _⟩
          have i1 := e1 ⟨wr, Kept.refl _⟩
          simp only at i0 i1
          clear e0 e1 e2 e3
          go_wp2_with fail
          go_loopw [44] (fun i wr => ∃ t : Nat, t ≤ m ∧ i = .int .i64 t ∧ Kept ((w.alloc (.cells #[.slice A j c, .slice B m k] 26)).alloc (.cells #[.slice A' j c', .slice B' m k'] 26)) wr ∧ ∀ i, i < t → C[i]? = C'[i]?) (fun i _ => m - (intOf i).toNat)
          case atStart => exact ⟨0, Nat.zero_le _, rfl, HR2.out, fun i hi => absurd hi (by omega)⟩
          case round =>
            obtain ⟨q, hq, rfl, hkr, hall⟩ := hrel
            have HR3 := Lib.hid hkr
            have HA3 := Lib.hid hall
            have e0 := KExt.cell ((((Kept.refl (w.alloc (.cells #[.slice A j c, .slice B m k] 26))).alloc #[.slice A' j c', .slice B' m k'] 26).trans hkr).box0)
            have e1 := KExt.cell ((((Kept.refl (w.alloc (.cells #[.slice A j c, .slice B m k] 26))).alloc #[.slice A' j c', .slice B' m k'] 26).trans hkr).box1)
            have e2 := KExt.cell hkr.box0
            have e3 := KExt.cell hkr.box1
            rw [show (w.alloc (.cells #[.slice A j c, .slice B m k] 26)).heap.size = w.heap.size + 1 by simp] at e2 e3
            clear hkr hall
            by_cases hlt : q < m
            · obtain ⟨g, o, ⟨y1, y2⟩, rfl, hy, g1, g1'⟩ := (HD.out.kept (HK.out.trans HR3.out)).get hlt
              obtain ⟨g', o', ⟨z1, z2⟩, rfl, hy', g2, g2'⟩ := (HD'.out.kept (HK.out.trans HR3.out)).get hlt
              simp only at g1 g1' g2 g2'
              have f1 := KExt.cell g1
              have f1' := KExt.cell g1'
              have f2 := KExt.cell g2
              have f2' := KExt.cell g2'
              have HY := Lib.hid hy
              have HY' := Lib.hid hy'
              clear hy hy' g1 g1' g2 g2'
              by_cases hyy : ((y1, y2) : Int × Int) = (z1, z2)
              · have HN2 := Lib.hid (show ∀ i, i < q + 1 → C[i]? = C'[i]? from fun i hi => by
                  rcases Nat.lt_or_ge i q with h | h
                  · exact HA3.out i h
                  · obtain rfl : i = q := by omega
                    rw [HY.out, HY'.out, hyy])
                simp only [Prod.mk.injEq] at hyy
                have d1 : (y1 == z1) = true := by simpa using hyy.1
                have d2 : (y2 == z2) = true := by simpa using hyy.2
                clear hyy
                go_wp2_with fail
                refine region_kept _ (by kernel_rfl) (by kernel_rfl) (Kept.refl _) ?_
                repeat (go_big_quiet_step (fail))
                refine wpQuiet_nil ?_
                intro G
                clear e0 e1 e2 e3 f1 f2 f1' f2'
                go_wp2_with fail
                go_roundw
                case rel => exact ⟨q + 1, hlt, by go_num, HR3.out.trans G.g, HN2.out⟩
                case measure => simp [intOf]; omega
              · have HF := Lib.hid (show false = r by
                  rw [← HR.out, eq_comm, decide_eq_false_iff_not]
                  rintro ⟨_, rfl⟩
                  exact hyy (Option.some.inj (HY.out.symm.trans HY'.out)))
                have hne : ¬ ((z1, z2) : Int × Int) = (y1, y2) := fun e => hyy e.symm
                rcases dot_ne (fun e => hyy e) with d1 | ⟨d1, d2⟩
                all_goals
                  clear hyy hne
                  go_wp2_with fail
                  refine region_kept _ (by kernel_rfl) (by kernel_rfl) (Kept.refl _) ?_
                  repeat (go_big_quiet_step (fail))
                  refine wpQuiet_nil ?_
                  intro G
                  clear e0 e1 e2 e3 f1 f2 f1' f2'
                  go_wp2_with fail
                  go_ret
                  exact ⟨ret_bool HF.out, HK.out.trans (HR3.out.trans G.g)⟩
            · obtain rfl : q = m := by omega
              have HF := Lib.hid (show true = r by
                rw [← HR.out, eq_comm, decide_eq_true_iff]
                refine ⟨HV.out, List.ext_getElem? fun i => ?_⟩
                rcases Nat.lt_or_ge i q with h | h
                · exact HA3.out i h
                · rw [List.getElem?_eq_none (by have := HM.out; omega), List.getElem?_eq_none (by have := HM'.out; omega)])
              clear e0 e1 e2 e3
              go_wp2_with fail
              go_ret
              exact ⟨ret_bool HF.out, HK.out.trans HR3.out⟩
    · have d1 : ((n : Int) != n') = false := by simp [hn]
      have d2 : ((m : Int) != m') = true := by simp; omega
      have HF := Lib.hid (show false = r by
        rw [← HR.out, eq_comm, decide_eq_false_iff_not]
        rintro ⟨_, rfl⟩
        exact hm (HM.out.trans HM'.out.symm))
      clear hn hm
      go_enter Try.func28, Try.ntmps28
      go_wp2_with fail
      go_ret
      exact ⟨ret_bool HF.out, HK.out⟩
  · have d1 : ((n : Int) != n') = true := by simp; omega
    have HF := Lib.hid (show false = r by
      rw [← HR.out, eq_comm, decide_eq_false_iff_not]
      rintro ⟨rfl, _⟩
      exact hn (HN.out.trans HN'.out.symm))
    clear hn
    go_enter Try.func28, Try.ntmps28
    go_wp2_with fail
    go_ret
    exact ⟨ret_bool HF.out, HK.out⟩
end Go.Proofs.Ytcldbmhjfmbcfaa

namespace Go.Proofs.Ytcldbmhjfmbcfaa
open Go.RowKit

set_option maxRecDepth 100000 in
theorem num_any (A : Option Addr) (n c : Nat) (V : List Int) (B : Option Addr) (m k : Nat) (r : Int) (w : World) (h : Il w A n c V) :
    Calls Try.prog 86 #[.agg #[.slice A n c, .slice B m k], .int .i64 r] w fun e w' => e = .returned (.int .i64 (atV V r)) ∧ Kept w w' := by
  have hcap := h.cap.1
  have hcap2 := h.cap.2
  rcases Int.lt_or_le r 0 with h0 | h0
  · have HR := Lib.hid (show 0 = atV V r from (atV_neg V h0).symm)
    clear h
    have d1 : decide (r < 0) = true := by simpa using h0
    go_enter Try.func86, Try.ntmps86
    go_wp2
    go_ret
    exact ⟨ret_int HR.out, (Kept.refl _).alloc _ _⟩
  · obtain ⟨j, rfl⟩ : ∃ j : Nat, r = j := ⟨r.toNat, by omega⟩
    have d1 : decide ((j : Int) < 0) = false := by rw [decide_eq_false_iff_not]; omega
    by_cases hj : j < n
    · obtain ⟨b, o, x, rfl, hx, g⟩ := (h.kept ((Kept.refl w).alloc #[.slice A n c, .slice B m k] 26)).get hj
      have HR := Lib.hid (show x = atV V j from (atV_in hx).symm)
      have d2 : decide ((n : Int) ≤ (j : Int)) = false := by rw [decide_eq_false_iff_not]; omega
      have d3 : decide (n ≤ j) = false := by rw [decide_eq_false_iff_not]; omega
      clear h hx h0
      go_enter Try.func86, Try.ntmps86
      go_wp2
      go_ret
      exact ⟨ret_int HR.out, (Kept.refl _).alloc _ _⟩
    · have HR := Lib.hid (show 0 = atV V j from (atV_out V (by have := h.1; omega)).symm)
      have d2 : decide ((n : Int) ≤ (j : Int)) = true := by rw [decide_eq_true_iff]; omega
      have d3 : decide (n ≤ j) = true := by rw [decide_eq_true_iff]; omega
      clear h h0
      go_enter Try.func86, Try.ntmps86
      go_wp2
      go_ret
      exact ⟨ret_int HR.out, (Kept.refl _).alloc _ _⟩
theorem num_c (A : Option Addr) (n c : Nat) (V : List Int) (B : Option Addr) (m k : Nat) (r x : Int) (hx : atV V r = x) (w : World) (h : Il w A n c V) :
    Calls Try.prog 86 #[.agg #[.slice A n c, .slice B m k], .int .i64 r] w fun e w' => e = .returned (.int .i64 x) ∧ Kept w w' := by
  subst hx; exact num_any A n c V B m k r w h

def upB (V : List Int) (d : Int × Int) : Bool := decide (1 ≤ d.2) && decide (d.2 ≤ atV V d.1)
theorem upB_iff (V : List Int) (d : Int × Int) : upB V d = true ↔ 1 ≤ d.2 ∧ d.2 ≤ atV V d.1 := by unfold upB; rw [Bool.and_eq_true, decide_eq_true_iff, decide_eq_true_iff]
theorem hasC_up (V : List Int) (C : List (Int × Int)) (d : Int × Int) : decide (hasC V C d) = (upB V d || decide (d ∈ C)) := by
  rw [Bool.eq_iff_iff, decide_eq_true_iff, Bool.or_eq_true, upB_iff, decide_eq_true_iff]
  exact Iff.rfl
set_option maxRecDepth 100000 in
set_option maxHeartbeats 1000000 in
theorem up_any (A : Option Addr) (n c : Nat) (V : List Int) (B : Option Addr) (m k : Nat) (x1 x2 : Int) (w : World) (h : Il w A n c V) (r : Bool) (hr : upB V (x1, x2) = r) :
    Calls Try.prog 78 #[.agg #[.slice A n c, .slice B m k], .agg #[.int .i64 x1, .int .i64 x2]] w fun e w' => e = .returned (.bool r) ∧ Kept w w' := by
  have hK := ((Kept.refl w).alloc #[.slice A n c, .slice B m k] 26).alloc #[.int .i64 x1, .int .i64 x2] 42
  have c0 := KExt.cell (((Kept.refl (w.alloc (.cells #[.slice A n c, .slice B m k] 26))).alloc #[.int .i64 x1, .int .i64 x2] 42).box0)
  have c1 := KExt.cell (((Kept.refl (w.alloc (.cells #[.slice A n c, .slice B m k] 26))).alloc #[.int .i64 x1, .int .i64 x2] 42).box1)
  have c2 := KExt.cell (Kept.box0 (Kept.refl ((w.alloc (.cells #[.slice A n c, .slice B m k] 26)).alloc (.cells #[.int .i64 x1, .int .i64 x2] 42))))
  have c3 := KExt.cell (Kept.box1 (Kept.refl ((w.alloc (.cells #[.slice A n c, .slice B m k] 26)).alloc (.cells #[.int .i64 x1, .int .i64 x2] 42))))
  rw [show (w.alloc (.cells #[.slice A n c, .slice B m k] 26)).heap.size = w.heap.size + 1 by simp] at c2 c3
  obtain ⟨t, ht⟩ : ∃ t, atV V x1 = t := ⟨_, rfl⟩
  have AA := Lib.hid (fun w h => num_c A n c V B m k x1 t ht w h)
  have HI := Lib.hid (h.kept hK)
  have HK := Lib.hid hK
  have hrr : r = (decide (1 ≤ x2) && decide (x2 ≤ t)) := by rw [← hr, ← ht]; rfl
  clear h hK ht hr
  have ways : (decide (1 ≤ x2) = true ∧ decide (x2 ≤ t) = true) ∨ (decide (1 ≤ x2) = true ∧ decide (x2 ≤ t) = false) ∨ (decide (1 ≤ x2) = false ∧ decide (x2 ≤ t) = decide (x2 ≤ t)) := by
    cases decide (1 ≤ x2) <;> cases decide (x2 ≤ t) <;> simp
  rcases ways with ⟨d1, d2⟩ | ⟨d1, d2⟩ | ⟨d1, d2⟩
  all_goals
    rw [d1] at hrr
    try rw [d2] at hrr
    have HR := Lib.hid hrr.symm
    clear hrr
    go_enter Try.func78, Try.ntmps78
    go_wp2_with fail
    refine region_kept _ (by kernel_rfl) (by kernel_rfl) (Kept.refl _) ?_
    repeat (go_big_quiet_step ((first
      | (go_at_call 86; (with_reducible exact KExt.callsK (AA.out _ (HI.out.kept (KExt.g _)))))
      | fail)))
    refine wpQuiet_nil ?_
    intro G
    go_wp2_with fail
    go_ret
    exact ⟨ret_bool (by have := HR.out; simpa using this), HK.out.trans G.g⟩

set_option maxRecDepth 100000 in
set_option maxHeartbeats 1000000 in
theorem ghas_any (A : Option Addr) (n c : Nat) (V : List Int) (B : Option Addr) (m k : Nat) (C : List (Int × Int)) (x1 x2 : Int) (w : World) (h : Il w A n c V) (hd : Dl w B m k C) (r : Bool) (hr : decide (hasC V C (x1, x2)) = r) :
    Calls Try.prog 59 #[.agg #[.slice A n c, .slice B m k], .agg #[.int .i64 x1, .int .i64 x2]] w fun e w' => e = .returned (.bool r) ∧ Kept w w' := by
  have hK := ((Kept.refl w).alloc #[.slice A n c, .slice B m k] 26).alloc #[.int .i64 x1, .int .i64 x2] 42
  obtain ⟨u, hu⟩ : ∃ u, upB V (x1, x2) = u := ⟨_, rfl⟩
  obtain ⟨z, hz⟩ : ∃ z, decide ((x1, x2) ∈ C) = z := ⟨_, rfl⟩
  have AU := Lib.hid (up_any A n c V B m k x1 x2 _ (h.kept hK) u hu)
  have AH := Lib.hid (fun w h => dhas_c B m k C (x1, x2) z hz w h)
  have HD := Lib.hid (hd.kept hK)
  have HK := Lib.hid hK
  have hrr : r = (u || z) := by rw [← hr, hasC_up, hu, hz]
  clear h hd hK hz hr hu
  cases u with
  | true =>
    have HR := Lib.hid (show true = r by rw [hrr]; rfl)
    clear hrr
    go_enter Try.func59, Try.ntmps59
    go_wp2_with fail
    go_at_call 78
    refine AU.out.mono ?_
    rintro e w1 ⟨rfl, hk1⟩
    go_wp2_with fail
    go_ret
    exact ⟨ret_bool HR.out, HK.out.trans hk1⟩
  | false =>
    have HR := Lib.hid (show z = r by rw [hrr]; rfl)
    clear hrr
    go_enter Try.func59, Try.ntmps59
    go_wp2_with fail
    go_at_call 78
    refine AU.out.mono ?_
    rintro e w1 ⟨rfl, hk1⟩
    have AH2 := Lib.hid (AH.out w1 (HD.out.kept hk1))
    have e0 := ((Kept.refl (w.alloc (.cells #[.slice A n c, .slice B m k] 26))).alloc #[.int .i64 x1, .int .i64 x2] 42 |>.trans hk1).box0
    have e1 := ((Kept.refl (w.alloc (.cells #[.slice A n c, .slice B m k] 26))).alloc #[.int .i64 x1, .int .i64 x2] 42 |>.trans hk1).box1
    have e2 := hk1.box0
    have e3 := hk1.box1
    rw [show (w.alloc (.cells #[.slice A n c, .slice B m k] 26)).heap.size = w.heap.size + 1 by simp] at e2 e3
    go_wp2_with fail
    go_at_call 79
    refine AH2.out.mono ?_
    rintro e w2 ⟨rfl, hk2⟩
    go_wp2_with fail
    go_ret
    exact ⟨ret_bool HR.out, HK.out.trans (hk1.trans hk2)⟩

end Go.Proofs.Ytcldbmhjfmbcfaa

