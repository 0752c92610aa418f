/-
  What is proved: as region_plan (XPlan), where one block of the beginning's world may be written by the region itself.
  plain facts on tables that lose nothing (P13.5), and package table's exchanges, called with any table, tells whether its pairs lead from some values to just these, each once; the world has new blocks at most.
  package table's truthsComeBack, called with any table where the listed variable holds both truths, tells whether both come back; the world has new blocks at most.
  package table's Lossless of layer 13 (P13.5), called with any table of bounded texts and two kinds, where the listed variable holds both truths, tells whether it loses nothing; the world has new blocks at most.
-/
import Derived.Test.YtjcnjmlgedmmoaaDoorM6
import Derived.Test.YtjcnjmlgedmmoaaDoorM9
import Derived.Test.YtjcnjmlgedmmoaaDoorHTRight2
import Derived.Test.YtjcnjmlgedmmoaaDoorHLoss
import Derived.ChangeKeysEq
namespace Go.Proofs.YtjcnjmlgedmmoaaDoor
open Go.RowKit

/-- A world that has all that W has, but for block b. -/
structure KExtE (b : Nat) (W : World) where
  w : World
  g : KeptE b W w
instance (b : Nat) (W : World) : Nonempty (KExtE b W) := ⟨⟨W, .refl b W⟩⟩
theorem KExtE.cell {b : Nat} {W : World} {b' o : Nat} {v : Value} (hb : b' ≠ b) (hc : W.cell? ⟨b', o, none⟩ = some v) (g : KExtE b W) : g.w.cell? ⟨b', o, none⟩ = some v := g.g.cell hb hc
theorem soloE {b : Nat} {W : World} {P : Program} {ops : Array Oper} {Q : Exit → Act → World → Prop} {p : Plan} {a : Act} {w : World} (hk : KeptE b W w) (h : wpPlan P ops (fun w' => ∃ g : KExtE b W, w' = g.w) Q p a w) :
    soloQ (fun a' w' => (∃ g : KExtE b W, w' = g.w) ∧ wpPlan P ops (fun w' => ∃ g : KExtE b W, w' = g.w) Q p a' w') .normal a w := ⟨⟨⟨w, hk⟩, rfl⟩, h⟩
theorem region_planE {P : Program} (b : Nat) (W : World) {id : Nat} {Q : Exit → Act → World → Prop} {a : Act} {w : World} {l : List Oper} (n : Nat) (p : Plan) (hm : P.follows .mixedOrders = true) (hs : Region.noSelect l.toArray = true) (hl : l.length = n) (hn : planN p = n)
    (hB : planF l.toArray n p 0 = true) (hQ : ∀ c d v a w, Q (.panic c) (Act.put a d v) w → Q (.panic c) a w) (h0 : Kept W w)
    (h : ∀ wd : World, Kept w wd → wpPlan P l.toArray (fun w' => ∃ g : KExtE b W, w' = g.w) Q p a wd) : (Code.region id l.toArray true).wp P Q a w := by
  subst hl
  refine wp_region_held (S := fun w' => ∃ g : KExtE b W, w' = g.w) hm ?_
  have hk : Kept w { w with drawn := w.drawn + 1 } := (Kept.refl w).drew
  have hB2 := planF_B l.toArray p 0 (by rw [List.size_toArray]; exact hB)
  rw [List.size_toArray, ← bits_none] at hB2
  have := plan_any (Q := Q) (C := fun w' => ∃ g : KExtE b W, w' = g.w) hs hQ p (Array.replicate l.length false) a { w with drawn := w.drawn + 1 } hB2 ⟨⟨_, .of (h0.trans hk)⟩, rfl⟩ (h _ hk)
  rw [hn] at this
  rw [List.size_toArray]
  exact this
end Go.Proofs.YtjcnjmlgedmmoaaDoor

namespace Go.Proofs.YtjcnjmlgedmmoaaDoor
open Go.RowKit
set_option linter.unusedVariables false

theorem truth_of {v : Va} (h : rightVa v = true) (hk : v.k = 3) : v = noV ∨ v = yesV := by
  obtain ⟨k, n, t⟩ := v
  simp only at hk
  subst hk
  unfold rightVa rightB at h
  simp only [decide_eq_true_iff] at h
  rcases h with ⟨h, _⟩ | ⟨h, _⟩ | ⟨_, ht, h⟩
  · omega
  · omega
  · have ht2 : t = ⟨#[]⟩ := by
      obtain ⟨⟨l⟩⟩ := t
      have : l.length = 0 := ht
      rw [List.eq_nil_of_length_eq_zero this]
    rcases h with rfl | rfl
    · left; rw [ht2]; rfl
    · right; rw [ht2]; rfl
theorem right_no : rightVa noV = true ∧ noV.k = 3 := ⟨by decide, rfl⟩
theorem right_yes : rightVa yesV = true ∧ yesV.k = 3 := ⟨by decide, rfl⟩
theorem two_ways {f g : Va → Va} (hf0 : f noV = noV ∨ f noV = yesV) (hf1 : f yesV = noV ∨ f yesV = yesV) (hg0 : g noV = noV ∨ g noV = yesV) (hg1 : g yesV = noV ∨ g yesV = yesV) (h0 : g (f noV) = noV) (h1 : g (f yesV) = yesV) : f noV ≠ f yesV ∧ f (g noV) = noV ∧ f (g yesV) = yesV := by
  have hne := no_yes
  rcases hf0 with a | a <;> rcases hf1 with b | b <;> rw [a] at h0 <;> rw [b] at h1
  · exact absurd (h0.symm.trans h1) hne
  · exact ⟨by rw [a, b]; exact hne, by rw [h0, a], by rw [h1, b]⟩
  · exact ⟨by rw [a, b]; exact hne.symm, by rw [h1, b], by rw [h0, a]⟩
  · exact absurd (h0.symm.trans h1) hne
theorem truths_iff {T : Tb} (h : RightT T 3 3) : (backT T (forthT T noV) = noV ∧ backT T (forthT T yesV) = yesV) ↔ (applyT T noV ≠ applyT T yesV ∧ wayT T (applyT T noV) = noV ∧ wayT T (applyT T yesV) = yesV) := by
  have hU : RightU T 3 3 := by
    unfold RightT at h
    cases hu : T.tu with
    | true => rw [hu, if_pos rfl] at h; exact h
    | false => rw [hu, if_neg (by simp)] at h; exact h
  have f0 := truth_of (hU.forth right_no.1 right_no.2).1 (hU.forth right_no.1 right_no.2).2
  have f1 := truth_of (hU.forth right_yes.1 right_yes.2).1 (hU.forth right_yes.1 right_yes.2).2
  have g0 := truth_of (hU.back right_no.1 right_no.2).1 (hU.back right_no.1 right_no.2).2
  have g1 := truth_of (hU.back right_yes.1 right_yes.2).1 (hU.back right_yes.1 right_yes.2).2
  unfold applyT wayT
  cases hu : T.tu with
  | true =>
    simp only [if_true]
    constructor
    · rintro ⟨h0, h1⟩
      have k := two_ways f0 f1 g0 g1 h0 h1
      exact ⟨(two_ways g0 g1 f0 f1 k.2.1 k.2.2).1, k.2.1, k.2.2⟩
    · rintro ⟨_, h0, h1⟩
      have k := two_ways g0 g1 f0 f1 h0 h1
      exact ⟨k.2.1, k.2.2⟩
  | false =>
    simp only [Bool.false_eq_true, if_false]
    constructor
    · rintro ⟨h0, h1⟩
      exact ⟨(two_ways f0 f1 g0 g1 h0 h1).1, h0, h1⟩
    · rintro ⟨_, h0, h1⟩
      exact ⟨h0, h1⟩
theorem loss_keep {T : Tb} {a b : Int} (h : RightT T a b) (hk : T.keep = true) : LossT T a b ↔ OnL T.L T.L :=
  ⟨fun k => ⟨(k.2.1 hk).1, (k.2.1 hk).2⟩, fun k => ⟨h, fun _ => ⟨k.left, k.once⟩, fun e => by rw [hk] at e; cases e⟩⟩
theorem loss_not {T : Tb} {a b : Int} (h : RightT T a b) (hk : T.keep = false) : LossT T a b ↔ a = 3 ∧ b = 3 ∧ backT T (forthT T noV) = noV ∧ backT T (forthT T yesV) = yesV := by
  constructor
  · intro k
    obtain ⟨rfl, rfl, k3⟩ := k.2.2 hk
    exact ⟨rfl, rfl, (truths_iff h).2 k3⟩
  · rintro ⟨rfl, rfl, k⟩
    exact ⟨h, (fun e => by rw [hk] at e; cases e), fun _ => ⟨rfl, rfl, (truths_iff h).1 k⟩⟩
set_option maxRecDepth 100000 in
set_option maxHeartbeats 8000000 in
theorem texch_any (A : Option Addr) (n c : Nat) (T : Tb) (w : World) (h : Pal w A n c T.L) (r : Bool) (hr : r = true ↔ OnL T.L T.L) :
    Calls Tryd.prog 43 #[.agg #[.slice A n c, .bool T.keep, .int .i64 T.d.k, .int .i64 T.d.n, .string T.d.t, .int .i64 T.b.k, .int .i64 T.b.n, .string T.b.t, .bool T.tu]] w fun e w' => e = .returned (.bool r) ∧ Kept w w' := by
  have hk := (Kept.refl w).alloc #[.slice A n c, .bool T.keep, .int .i64 T.d.k, .int .i64 T.d.n, .string T.d.t, .int .i64 T.b.k, .int .i64 T.b.n, .string T.b.t, .bool T.tu] 26
  have hcap := h.cap.1; have hcap2 := h.cap.2
  have HNL := Lib.hid h.1; have HR := Lib.hid hr
  have HT := Lib.hid (TabB.new w A n c T 26)
  have HH := Lib.hid (h.kept hk)
  obtain ⟨U, hU⟩ : ∃ U, w.alloc (.cells #[.slice A n c, .bool T.keep, .int .i64 T.d.k, .int .i64 T.d.n, .string T.d.t, .int .i64 T.b.k, .int .i64 T.b.n, .string T.b.t, .bool T.tu] 26) = U := ⟨_, rfl⟩
  rw [hU] at hk HT HH
  have HK := Lib.hid hk; have HUU := Lib.hid hU
  have t0 := HT.out.c0
  clear h hr hk hU
  go_enter Tryd.func43, Tryd.ntmps43
  go_wp2_with fail
  rw [HUU.out]
  go_wp2_with fail
  clear t0
  go_loopw [8] (fun i wr => ∃ t : Nat, t ≤ n ∧ i = .int .i64 t ∧ Kept U wr ∧ OnL T.L (T.L.take t)) (fun i _ => n - (intOf i).toNat)
  case atStart => exact ⟨0, Nat.zero_le _, rfl, Kept.refl _, by rw [List.take_zero]; exact OnL.nil _⟩
  case round =>
    obtain ⟨t, ht, rfl, hkr, hpre⟩ := hrel
    have HKR := Lib.hid hkr; have HPRE := Lib.hid hpre
    clear hkr hpre
    by_cases hlt : t < n
    · obtain ⟨g, o, x, rfl, hx, EX⟩ := (HH.out.kept HKR.out).get hlt
      have x0 := EX.c0; have x1 := EX.c1; have x2 := EX.c2; have x3 := EX.c3; have x4 := EX.c4; have x5 := EX.c5
      have HXX := Lib.hid hx
      have hka := (Kept.refl wr).alloc #[.int .i64 x.f.k, .int .i64 x.f.n, .string x.f.t, .int .i64 x.t.k, .int .i64 x.t.n, .string x.t.t] 44
      have HE := Lib.hid (PaB.new wr x 44)
      obtain ⟨u, hu⟩ := plc_ex false T.L x.t
      obtain ⟨v, hv⟩ := plc_ex true T.L x.t
      have A1 := Lib.hid (fun w h => onL_any (some ⟨g, o, none⟩) n c T x.t w h u hu)
      have A2 := Lib.hid (fun w h => onR_any (some ⟨g, o, none⟩) n c T x.t w h v hv)
      have HPU := Lib.hid hu; have HPV := Lib.hid hv
      have HT2 := Lib.hid (HT.out.kept (HKR.out.trans hka))
      have e0 := HE.out.c0; have e1 := HE.out.c1; have e2 := HE.out.c2; have e3 := HE.out.c3; have e4 := HE.out.c4; have e5 := HE.out.c5
      have t0 := HT2.out.c0; have t1 := HT2.out.c1; have t2 := HT2.out.c2; have t3 := HT2.out.c3; have t4 := HT2.out.c4; have t5 := HT2.out.c5; have t6 := HT2.out.c6; have t7 := HT2.out.c7; have t8 := HT2.out.c8
      have HKA := Lib.hid (HKR.out.trans hka)
      obtain ⟨W1, hW1⟩ : ∃ W1, wr.alloc (.cells #[.int .i64 x.f.k, .int .i64 x.f.n, .string x.f.t, .int .i64 x.t.k, .int .i64 x.t.n, .string x.t.t] 44) = W1 := ⟨_, rfl⟩
      rw [hW1] at HKA HE HT2
      have HW1 := Lib.hid hW1
      clear EX hx hka hW1 hu hv
      go_wp2_with fail
      rw [HW1.out]
      clear x0 x1 x2 x3 x4 x5
      go_at_call 59
      refine (A1.out _ (HH.out.kept HKA.out)).mono ?_
      rintro e w1 ⟨rfl, hk1⟩
      replace HKA := Lib.hid (HKA.out.trans hk1); replace HE := Lib.hid (HE.out.kept hk1); replace HT2 := Lib.hid (HT2.out.kept hk1)
      clear hk1 e0 e1 e2 e3 e4 e5 t0 t1 t2 t3 t4 t5 t6 t7 t8
      have e0 := HE.out.c0; have e1 := HE.out.c1; have e2 := HE.out.c2; have e3 := HE.out.c3; have e4 := HE.out.c4; have e5 := HE.out.c5
      have t0 := HT2.out.c0; have t1 := HT2.out.c1; have t2 := HT2.out.c2; have t3 := HT2.out.c3; have t4 := HT2.out.c4; have t5 := HT2.out.c5; have t6 := HT2.out.c6; have t7 := HT2.out.c7; have t8 := HT2.out.c8
      by_cases h1 : u < 0
      · have d1 : decide (u < (0 : Int)) = true := decide_eq_true h1
        have HF := Lib.hid (show false = r by rw [eq_comm, ← Bool.not_eq_true, HR.out]; exact fun k => by obtain ⟨q, hq, e⟩ := k.left x (List.mem_of_getElem? HXX.out); exact (plc_neg HPU.out).1 h1 q hq e)
        clear h1
        go_wp2_with fail
        go_ret
        exact ⟨ret_bool HF.out, HK.out.trans HKA.out⟩
      · have HLE := Lib.hid (show ∃ q ∈ T.L, q.f = x.t from Classical.byContradiction fun e => h1 ((plc_neg HPU.out).2 fun y hy e2 => e ⟨y, hy, e2⟩))
        have d1 : decide (u < (0 : Int)) = false := decide_eq_false h1
        clear h1
        go_wp2_with fail
        go_at_call 58
        refine (A2.out _ (HH.out.kept HKA.out)).mono ?_
        rintro e w2 ⟨rfl, hk1⟩
        replace HKA := Lib.hid (HKA.out.trans hk1)
        clear hk1 e0 e1 e2 e3 e4 e5 t0 t1 t2 t3 t4 t5 t6 t7 t8
        by_cases h2 : v < (t : Int)
        · have d2 : decide (v < (t : Int)) = true := decide_eq_true h2
          have HF := Lib.hid (show false = r by rw [eq_comm, ← Bool.not_eq_true, HR.out]; exact fun k => by obtain ⟨y, hy, e⟩ := plc_low HPV.out HXX.out rfl h2; exact pw_twice HXX.out hy e k.once)
          clear h2
          go_wp2_with fail
          go_ret
          exact ⟨ret_bool HF.out, HK.out.trans HKA.out⟩
        · have HN := Lib.hid (HPRE.out.snoc HXX.out HLE.out (plc_high HPV.out h2))
          have d2 : decide (v < (t : Int)) = false := decide_eq_false h2
          clear h2
          go_wp2_with fail
          go_roundw
          case rel => exact ⟨t + 1, hlt, by go_num, HKA.out, HN.out⟩
          case measure => simp [intOf]; omega
    · obtain rfl : t = n := by omega
      have HF := Lib.hid (show true = r from (HR.out.2 (by
        have := HPRE.out
        rw [show T.L.take t = T.L from List.take_of_length_le (by rw [← HNL.out]; exact Nat.le_refl _)] at this
        exact this)).symm)
      go_wp2_with fail
      go_ret
      exact ⟨ret_bool HF.out, HK.out.trans HKR.out⟩
end Go.Proofs.YtjcnjmlgedmmoaaDoor

namespace Go.Proofs.YtjcnjmlgedmmoaaDoor
open Go.RowKit
set_option linter.unusedVariables false

/-- What the listed variable holds: both truths. -/
def TruW (w : World) : Prop := PaO w 0 0 ⟨noV, yesV⟩
theorem TruW.kept {w w' : World} (h : TruW w) (hg : Kept w w') : TruW w' := PaO.kept h hg
theorem cellsV : Tryd.prog.cellsOf 24 = 3 := by kernel_rfl
theorem infoV : (Tryd.prog.info? 24).isSome = true := by kernel_rfl
theorem part0 (a b c d e f : Value) (W : World) : (part 24 #[a, b, c, d, e, f] (0 * 3)).run Tryd.prog W = .ok (.agg #[a, b, c]) W := by kernel_rfl
theorem part1 (a b c d e f : Value) (W : World) : (part 24 #[a, b, c, d, e, f] 3).run Tryd.prog W = .ok (.agg #[d, e, f]) W := by kernel_rfl
theorem eqV (x y : Va) (W : World) (z : Bool) (h : decide (x = y) = z) : (Op.equalIn 9999 24 (.agg #[.int .i64 x.k, .int .i64 x.n, .string x.t]) (.agg #[.int .i64 y.k, .int .i64 y.n, .string y.t])).run Tryd.prog W = .ok z W := by
  cases z with
  | true =>
    obtain ⟨q0, q1, q2⟩ := va_eq (of_decide_eq_true h)
    clear h
    simp [go_sem, q0, q1, q2]
  | false =>
    rcases va_ne (of_decide_eq_false h) with q0 | ⟨q0, q1⟩ | ⟨q0, q1, q2⟩ <;> clear h
    · simp [go_sem, q0]
    · simp [go_sem, q0, q1]
    · simp [go_sem, q0, q1, q2]
theorem eqA (x y : Pa) (W : World) (z : Bool) (h : decide (x = y) = z) :
    (Op.equalIn 10000 80 (.agg #[.int .i64 x.f.k, .int .i64 x.f.n, .string x.f.t, .int .i64 x.t.k, .int .i64 x.t.n, .string x.t.t]) (.agg #[.int .i64 y.f.k, .int .i64 y.f.n, .string y.f.t, .int .i64 y.t.k, .int .i64 y.t.n, .string y.t.t])).run Tryd.prog W = .ok z W := by
  obtain ⟨i, hi⟩ := Option.isSome_iff_exists.1 infoV
  rw [run_equalIn_array W 9999 _ _ Tryd.underlying80 hi, cellsV, show List.range 2 = [0, 1] from rfl]
  simp only [Op.eqItems, Sem.run_bind, part0, Result.andThen_ok, eqV x.f y.f _ _ rfl]
  obtain ⟨xf, xt⟩ := x
  obtain ⟨yf, yt⟩ := y
  subst h
  by_cases h1 : xf = yf <;> by_cases h2 : xt = yt <;> simp [h1, h2, Sem.run_bind, part1, eqV _ _ _ _ rfl]
theorem idx0 (W : World) : (Instr.index 80 (.agg #[.int .i64 3, .int .i64 0, .string ⟨#[]⟩, .int .i64 3, .int .i64 1, .string ⟨#[]⟩]) (.int .i64 0)).run Tryd.prog W = .ok (.agg #[.int .i64 3, .int .i64 0, .string ⟨#[]⟩]) W := by kernel_rfl
theorem idx1 (W : World) : (Instr.index 80 (.agg #[.int .i64 3, .int .i64 0, .string ⟨#[]⟩, .int .i64 3, .int .i64 1, .string ⟨#[]⟩]) (.int .i64 1)).run Tryd.prog W = .ok (.agg #[.int .i64 3, .int .i64 1, .string ⟨#[]⟩]) W := by kernel_rfl
/-- What came so far. -/
def camP (R0 R1 : Va) (t : Nat) : Pa := ⟨if 0 < t then R0 else .zero, if 1 < t then R1 else .zero⟩
theorem PaB.setF {w : World} {b : Nat} {x : Pa} (h : PaB w b x) (v : Va) : PaB (((w.setCell ⟨b, 0, none⟩ (.int .i64 v.k)).setCell ⟨b, 1, none⟩ (.int .i64 v.n)).setCell ⟨b, 2, none⟩ (.string v.t)) b ⟨v, x.t⟩ :=
  ⟨cell_beside (by decide) (cell_beside (by decide) (World.cell?_setCell_same _ _ _ h.c0)), cell_beside (by decide) (World.cell?_setCell_same _ _ _ (cell_beside (by decide) h.c1)), World.cell?_setCell_same _ _ _ (cell_beside (by decide) (cell_beside (by decide) h.c2)),
   cell_beside (by decide) (cell_beside (by decide) (cell_beside (by decide) h.c3)), cell_beside (by decide) (cell_beside (by decide) (cell_beside (by decide) h.c4)), cell_beside (by decide) (cell_beside (by decide) (cell_beside (by decide) h.c5)),
   fun j => by rw [World.frozen?_setCell, World.frozen?_setCell, World.frozen?_setCell]; exact h.f j, by have := h.lt; simpa [World.setCell] using this⟩
theorem PaB.setT {w : World} {b : Nat} {x : Pa} (h : PaB w b x) (v : Va) : PaB (((w.setCell ⟨b, 3, none⟩ (.int .i64 v.k)).setCell ⟨b, 4, none⟩ (.int .i64 v.n)).setCell ⟨b, 5, none⟩ (.string v.t)) b ⟨x.f, v⟩ :=
  ⟨cell_beside (by decide) (cell_beside (by decide) (cell_beside (by decide) h.c0)), cell_beside (by decide) (cell_beside (by decide) (cell_beside (by decide) h.c1)), cell_beside (by decide) (cell_beside (by decide) (cell_beside (by decide) h.c2)),
   cell_beside (by decide) (cell_beside (by decide) (World.cell?_setCell_same _ _ _ h.c3)), cell_beside (by decide) (World.cell?_setCell_same _ _ _ (cell_beside (by decide) h.c4)), World.cell?_setCell_same _ _ _ (cell_beside (by decide) (cell_beside (by decide) h.c5)),
   fun j => by rw [World.frozen?_setCell, World.frozen?_setCell, World.frozen?_setCell]; exact h.f j, by have := h.lt; simpa [World.setCell] using this⟩
set_option maxRecDepth 100000 in
set_option maxHeartbeats 8000000 in
theorem ttruth_any (A : Option Addr) (n c : Nat) (T : Tb) (w : World) (h : Pal w A n c T.L) (htr : TruW w) (r : Bool) (hr : r = true ↔ backT T (forthT T noV) = noV ∧ backT T (forthT T yesV) = yesV) :
    Calls Tryd.prog 44 #[.agg #[.slice A n c, .bool T.keep, .int .i64 T.d.k, .int .i64 T.d.n, .string T.d.t, .int .i64 T.b.k, .int .i64 T.b.n, .string T.b.t, .bool T.tu]] w fun e w' => e = .returned (.bool r) ∧ Kept w w' := by
  have hk := (Kept.refl w).alloc #[.slice A n c, .bool T.keep, .int .i64 T.d.k, .int .i64 T.d.n, .string T.d.t, .int .i64 T.b.k, .int .i64 T.b.n, .string T.b.t, .bool T.tu] 26
  have hcap := h.cap.1; have hcap2 := h.cap.2
  have HNL := Lib.hid h.1; have HR := Lib.hid hr
  have HT := Lib.hid (TabB.new w A n c T 26)
  have HH := Lib.hid (h.kept hk)
  obtain ⟨U, hU⟩ : ∃ U, w.alloc (.cells #[.slice A n c, .bool T.keep, .int .i64 T.d.k, .int .i64 T.d.n, .string T.d.t, .int .i64 T.b.k, .int .i64 T.b.n, .string T.b.t, .bool T.tu] 26) = U := ⟨_, rfl⟩
  rw [hU] at hk HT HH
  have HK := Lib.hid hk; have HUU := Lib.hid hU
  obtain ⟨f0, hf0⟩ : ∃ v, forthT T noV = v := ⟨_, rfl⟩
  obtain ⟨f1, hf1⟩ : ∃ v, forthT T yesV = v := ⟨_, rfl⟩
  obtain ⟨R0, hR0⟩ : ∃ v, backT T f0 = v := ⟨_, rfl⟩
  obtain ⟨R1, hR1⟩ : ∃ v, backT T f1 = v := ⟨_, rfl⟩
  have AF0 := Lib.hid (fun w h => tforth_any A n c T noV f0 hf0 w h)
  have AF1 := Lib.hid (fun w h => tforth_any A n c T yesV f1 hf1 w h)
  have AB0 := Lib.hid (fun w h => tback_any A n c T f0 R0 hR0 w h)
  have AB1 := Lib.hid (fun w h => tback_any A n c T f1 R1 hR1 w h)
  have H0 := Lib.hid (show backT T (forthT T noV) = R0 by rw [hf0, hR0]); have H1 := Lib.hid (show backT T (forthT T yesV) = R1 by rw [hf1, hR1])
  have HTR := Lib.hid (htr.kept HK.out)
  have hsU : U.heap.size = w.heap.size + 1 := by rw [← HUU.out]; simp
  have hcm := PaB.new U .none 80
  simp only [Pa.none, Va.zero] at hcm
  rw [hsU] at hcm
  have HSU := Lib.hid hsU
  have hkV := (Kept.refl U).alloc #[.int .i64 0, .int .i64 0, .string ⟨#[]⟩, .int .i64 0, .int .i64 0, .string ⟨#[]⟩] 80
  obtain ⟨V, hV⟩ : ∃ V, U.alloc (.cells #[.int .i64 0, .int .i64 0, .string ⟨#[]⟩, .int .i64 0, .int .i64 0, .string ⟨#[]⟩] 80) = V := ⟨_, rfl⟩
  rw [hV] at hcm hkV
  have HCM := Lib.hid hcm; have HVV := Lib.hid hV; have HKV := Lib.hid hkV
  have g := HTR.out.kept HKV.out
  rw [← HVV.out, ← HUU.out] at g
  have g0 := g.c0; have g1 := g.c1; have g2 := g.c2; have g3 := g.c3; have g4 := g.c4; have g5 := g.c5
  simp only [noV, yesV] at g0 g1 g2 g3 g4 g5
  clear h htr hr hk hU hf0 hf1 hR0 hR1 hsU hcm hkV hV g
  go_enter Tryd.func44, Tryd.ntmps44
  go_wp2_with fail
  rw [HUU.out, HVV.out]
  clear g0 g1 g2 g3 g4 g5
  go_loopw [7] (fun i wr => ∃ t : Nat, t ≤ 2 ∧ i = .int .i64 t ∧ KeptE (w.heap.size + 1) V wr ∧ PaB wr (w.heap.size + 1) (camP R0 R1 t)) (fun i _ => 2 - (intOf i).toNat)
  case atStart => exact ⟨0, Nat.zero_le _, rfl, KeptE.refl _ _, HCM.out⟩
  case round =>
    obtain ⟨t, ht, rfl, hke, hca⟩ := hrel
    have HKU := Lib.hid (hke.kept HKV.out (by rw [HSU.out]; exact Nat.le_refl _))
    have HKE := Lib.hid hke; have HCA := Lib.hid hca
    clear hke hca
    rcases (show t = 0 ∨ t = 1 ∨ t = 2 by omega) with rfl | rfl | rfl
    · have hvb := VaO.new wr noV 24
      have hka := (Kept.refl wr).alloc #[.int .i64 3, .int .i64 0, .string ⟨#[]⟩] 24
      have hlw : w.heap.size + 1 < wr.heap.size := HCA.out.lt
      obtain ⟨W1, hW1⟩ : ∃ W1, wr.alloc (.cells #[.int .i64 3, .int .i64 0, .string ⟨#[]⟩] 24) = W1 := ⟨_, rfl⟩
      simp only [noV] at hvb
      rw [hW1] at hvb hka
      have HVB := Lib.hid hvb; have HKA := Lib.hid hka; have HW1 := Lib.hid hW1
      have HLW := Lib.hid hlw
      clear hvb hka hW1 hlw
      have hix := idx0
      go_wp2_with fail
      rw [HW1.out]
      go_wp2_with fail
      have hn1 : w.heap.size ≠ w.heap.size + 1 := by omega
      have hn2 : wr.heap.size ≠ w.heap.size + 1 := by have := HLW.out; omega
      have HT2 := Lib.hid (HT.out.kept (HKU.out.trans HKA.out))
      have T0 := KExtE.cell (b := w.heap.size + 1) hn1 HT2.out.c0; have T1 := KExtE.cell (b := w.heap.size + 1) hn1 HT2.out.c1; have T2 := KExtE.cell (b := w.heap.size + 1) hn1 HT2.out.c2; have T3 := KExtE.cell (b := w.heap.size + 1) hn1 HT2.out.c3; have T4 := KExtE.cell (b := w.heap.size + 1) hn1 HT2.out.c4; have T5 := KExtE.cell (b := w.heap.size + 1) hn1 HT2.out.c5; have T6 := KExtE.cell (b := w.heap.size + 1) hn1 HT2.out.c6; have T7 := KExtE.cell (b := w.heap.size + 1) hn1 HT2.out.c7; have T8 := KExtE.cell (b := w.heap.size + 1) hn1 HT2.out.c8
      have E0 := KExtE.cell (b := w.heap.size + 1) hn2 HVB.out.c0; have E1 := KExtE.cell (b := w.heap.size + 1) hn2 HVB.out.c1; have E2 := KExtE.cell (b := w.heap.size + 1) hn2 HVB.out.c2
      clear hn1 hn2
      refine region_planE (w.heap.size + 1) W1 8 (.read [0, 1, 2, 3] (.one 4 (.one 5 (.read [6] (.one 7 .stop))))) (by kernel_rfl) (by kernel_rfl) (by kernel_rfl) (by kernel_rfl) (by kernel_rfl) (fun _ d _ _ _ h => by cases d <;> exact h) (Kept.refl _) ?_
      intro wd hwd
      have HV := Lib.hid hwd
      clear hwd
      rw [wpPlan_read]
      simp only [pickOps_cons, pickOps_nil, consO_some, List.getElem?_cons_zero, List.getElem?_cons_succ]
      repeat (go_big_quiet_step (fail))
      refine wpQuiet_nil ?_
      clear T0 T1 T2 T3 T4 T5 T6 T7 T8 E0 E1 E2
      rw [wpPlan_one]
      simp only [pickOps_cons, pickOps_nil, consO_some, List.getElem?_cons_zero, List.getElem?_cons_succ]
      go_wp2_with (go_at_call 32; refine (AF0.out _ (HH.out.kept (HKU.out.trans (HKA.out.trans HV.out)))).mono ?_; rintro e u1 ⟨rfl, hkz⟩)
      replace HV := Lib.hid (HV.out.trans hkz)
      clear hkz
      refine soloE (.of HV.out) ?_
      rw [wpPlan_one]
      simp only [pickOps_cons, pickOps_nil, consO_some, List.getElem?_cons_zero, List.getElem?_cons_succ]
      go_wp2_with (go_at_call 31; refine (AB0.out _ (HH.out.kept (HKU.out.trans (HKA.out.trans HV.out)))).mono ?_; rintro e u2 ⟨rfl, hkz⟩)
      replace HV := Lib.hid (HV.out.trans hkz)
      clear hkz
      refine soloE (.of HV.out) ?_
      rw [wpPlan_read]
      simp only [pickOps_cons, pickOps_nil, consO_some, List.getElem?_cons_zero, List.getElem?_cons_succ]
      repeat (go_big_quiet_step (fail))
      refine wpQuiet_nil ?_
      rw [wpPlan_one]
      simp only [pickOps_cons, pickOps_nil, consO_some, List.getElem?_cons_zero, List.getElem?_cons_succ]
      have hcb := HCA.out.kept (HKA.out.trans HV.out)
      have HCB := Lib.hid ((show PaB _ (w.heap.size + 1) (camP R0 R1 1) from hcb.setF R0))
      have HKF := Lib.hid ((((HKE.out.trans (HKA.out.trans HV.out)).set (a := ⟨w.heap.size + 1, 0, none⟩) (.inl rfl) (.int .i64 R0.k)).set (a := ⟨w.heap.size + 1, 1, none⟩) (.inl rfl) (.int .i64 R0.n)).set (a := ⟨w.heap.size + 1, 2, none⟩) (.inl rfl) (.string R0.t))
      have HKG := Lib.hid ((((KeptE.of (G := w.heap.size + 1) HV.out).set (a := ⟨w.heap.size + 1, 0, none⟩) (.inl rfl) (.int .i64 R0.k)).set (a := ⟨w.heap.size + 1, 1, none⟩) (.inl rfl) (.int .i64 R0.n)).set (a := ⟨w.heap.size + 1, 2, none⟩) (.inl rfl) (.string R0.t))
      have b0 := hcb.c0; have b1 := hcb.c1; have b2 := hcb.c2; have b3 := hcb.c3; have b4 := hcb.c4; have b5 := hcb.c5; have bf := hcb.f
      clear hcb
      go_wp2_with fail
      clear b0 b1 b2 b3 b4 b5 bf
      refine soloE HKG.out ?_
      refine wpPlan_stop ?_
      go_wp2_with fail
      go_roundw
      case rel => exact ⟨1, by decide, by go_num, HKF.out, HCB.out⟩
      case measure => simp [intOf]
    · have hvb := VaO.new wr yesV 24
      have hka := (Kept.refl wr).alloc #[.int .i64 3, .int .i64 1, .string ⟨#[]⟩] 24
      have hlw : w.heap.size + 1 < wr.heap.size := HCA.out.lt
      obtain ⟨W1, hW1⟩ : ∃ W1, wr.alloc (.cells #[.int .i64 3, .int .i64 1, .string ⟨#[]⟩] 24) = W1 := ⟨_, rfl⟩
      simp only [yesV] at hvb
      rw [hW1] at hvb hka
      have HVB := Lib.hid hvb; have HKA := Lib.hid hka; have HW1 := Lib.hid hW1
      have HLW := Lib.hid hlw
      clear hvb hka hW1 hlw
      have hix := idx1
      go_wp2_with fail
      rw [HW1.out]
      go_wp2_with fail
      have hn1 : w.heap.size ≠ w.heap.size + 1 := by omega
      have hn2 : wr.heap.size ≠ w.heap.size + 1 := by have := HLW.out; omega
      have HT2 := Lib.hid (HT.out.kept (HKU.out.trans HKA.out))
      have T0 := KExtE.cell (b := w.heap.size + 1) hn1 HT2.out.c0; have T1 := KExtE.cell (b := w.heap.size + 1) hn1 HT2.out.c1; have T2 := KExtE.cell (b := w.heap.size + 1) hn1 HT2.out.c2; have T3 := KExtE.cell (b := w.heap.size + 1) hn1 HT2.out.c3; have T4 := KExtE.cell (b := w.heap.size + 1) hn1 HT2.out.c4; have T5 := KExtE.cell (b := w.heap.size + 1) hn1 HT2.out.c5; have T6 := KExtE.cell (b := w.heap.size + 1) hn1 HT2.out.c6; have T7 := KExtE.cell (b := w.heap.size + 1) hn1 HT2.out.c7; have T8 := KExtE.cell (b := w.heap.size + 1) hn1 HT2.out.c8
      have E0 := KExtE.cell (b := w.heap.size + 1) hn2 HVB.out.c0; have E1 := KExtE.cell (b := w.heap.size + 1) hn2 HVB.out.c1; have E2 := KExtE.cell (b := w.heap.size + 1) hn2 HVB.out.c2
      clear hn1 hn2
      refine region_planE (w.heap.size + 1) W1 8 (.read [0, 1, 2, 3] (.one 4 (.one 5 (.read [6] (.one 7 .stop))))) (by kernel_rfl) (by kernel_rfl) (by kernel_rfl) (by kernel_rfl) (by kernel_rfl) (fun _ d _ _ _ h => by cases d <;> exact h) (Kept.refl _) ?_
      intro wd hwd
      have HV := Lib.hid hwd
      clear hwd
      rw [wpPlan_read]
      simp only [pickOps_cons, pickOps_nil, consO_some, List.getElem?_cons_zero, List.getElem?_cons_succ]
      repeat (go_big_quiet_step (fail))
      refine wpQuiet_nil ?_
      clear T0 T1 T2 T3 T4 T5 T6 T7 T8 E0 E1 E2
      rw [wpPlan_one]
      simp only [pickOps_cons, pickOps_nil, consO_some, List.getElem?_cons_zero, List.getElem?_cons_succ]
      go_wp2_with (go_at_call 32; refine (AF1.out _ (HH.out.kept (HKU.out.trans (HKA.out.trans HV.out)))).mono ?_; rintro e u1 ⟨rfl, hkz⟩)
      replace HV := Lib.hid (HV.out.trans hkz)
      clear hkz
      refine soloE (.of HV.out) ?_
      rw [wpPlan_one]
      simp only [pickOps_cons, pickOps_nil, consO_some, List.getElem?_cons_zero, List.getElem?_cons_succ]
      go_wp2_with (go_at_call 31; refine (AB1.out _ (HH.out.kept (HKU.out.trans (HKA.out.trans HV.out)))).mono ?_; rintro e u2 ⟨rfl, hkz⟩)
      replace HV := Lib.hid (HV.out.trans hkz)
      clear hkz
      refine soloE (.of HV.out) ?_
      rw [wpPlan_read]
      simp only [pickOps_cons, pickOps_nil, consO_some, List.getElem?_cons_zero, List.getElem?_cons_succ]
      repeat (go_big_quiet_step (fail))
      refine wpQuiet_nil ?_
      rw [wpPlan_one]
      simp only [pickOps_cons, pickOps_nil, consO_some, List.getElem?_cons_zero, List.getElem?_cons_succ]
      have hcb := HCA.out.kept (HKA.out.trans HV.out)
      have HCB := Lib.hid ((show PaB _ (w.heap.size + 1) (camP R0 R1 2) from hcb.setT R1))
      have HKF := Lib.hid ((((HKE.out.trans (HKA.out.trans HV.out)).set (a := ⟨w.heap.size + 1, 3, none⟩) (.inl rfl) (.int .i64 R1.k)).set (a := ⟨w.heap.size + 1, 4, none⟩) (.inl rfl) (.int .i64 R1.n)).set (a := ⟨w.heap.size + 1, 5, none⟩) (.inl rfl) (.string R1.t))
      have HKG := Lib.hid ((((KeptE.of (G := w.heap.size + 1) HV.out).set (a := ⟨w.heap.size + 1, 3, none⟩) (.inl rfl) (.int .i64 R1.k)).set (a := ⟨w.heap.size + 1, 4, none⟩) (.inl rfl) (.int .i64 R1.n)).set (a := ⟨w.heap.size + 1, 5, none⟩) (.inl rfl) (.string R1.t))
      have b0 := hcb.c0; have b1 := hcb.c1; have b2 := hcb.c2; have b3 := hcb.c3; have b4 := hcb.c4; have b5 := hcb.c5; have bf := hcb.f
      clear hcb
      go_wp2_with fail
      clear b0 b1 b2 b3 b4 b5 bf
      refine soloE HKG.out ?_
      refine wpPlan_stop ?_
      go_wp2_with fail
      go_roundw
      case rel => exact ⟨2, by decide, by go_num, HKF.out, HCB.out⟩
      case measure => simp [intOf]
    · replace HTR := Lib.hid (HTR.out.kept HKU.out)
      have g := HTR.out
      have g0 := g.c0; have g1 := g.c1; have g2 := g.c2; have g3 := g.c3; have g4 := g.c4; have g5 := g.c5
      simp only [noV, yesV] at g0 g1 g2 g3 g4 g5
      have hcb : PaB wr (w.heap.size + 1) ⟨R0, R1⟩ := HCA.out
      have b0 := hcb.c0; have b1 := hcb.c1; have b2 := hcb.c2; have b3 := hcb.c3; have b4 := hcb.c4; have b5 := hcb.c5
      clear g hcb
      obtain ⟨z, hz⟩ : ∃ z, decide ((⟨R0, R1⟩ : Pa) = ⟨noV, yesV⟩) = z := ⟨_, rfl⟩
      have hqa := fun W => eqA ⟨R0, R1⟩ ⟨noV, yesV⟩ W z hz
      simp only [noV, yesV] at hqa
      have HF := Lib.hid (show z = r by
        rw [Bool.eq_iff_iff, HR.out, H0.out, H1.out, ← hz, decide_eq_true_iff, Pa.mk.injEq])
      clear hz
      go_wp2_with fail
      go_ret
      exact ⟨ret_bool HF.out, HK.out.trans HKU.out⟩
end Go.Proofs.YtjcnjmlgedmmoaaDoor

namespace Go.Proofs.YtjcnjmlgedmmoaaDoor
open Go.RowKit
set_option linter.unusedVariables false

set_option maxRecDepth 100000 in
set_option maxHeartbeats 8000000 in
theorem htloss_any (A : Option Addr) (n c : Nat) (T : Tb) (a b : Int) (w : World) (h : Pal w A n c T.L) (hz : SzT T) (r : Bool) (hr : r = true ↔ LossT T a b) (htr : T.keep = false → a = 3 → b = 3 → TruW w) :
    Calls Tryd.prog 20 #[.agg #[.slice A n c, .bool T.keep, .int .i64 T.d.k, .int .i64 T.d.n, .string T.d.t, .int .i64 T.b.k, .int .i64 T.b.n, .string T.b.t, .bool T.tu], .int .i64 a, .int .i64 b] w fun e w' => e = .returned (.bool r) ∧ Kept w w' := by
  have hk := (Kept.refl w).alloc #[.slice A n c, .bool T.keep, .int .i64 T.d.k, .int .i64 T.d.n, .string T.d.t, .int .i64 T.b.k, .int .i64 T.b.n, .string T.b.t, .bool T.tu] 26
  have hcap := h.cap.1; have hcap2 := h.cap.2
  have HNL := Lib.hid h.1; have HR := Lib.hid hr
  have HT := Lib.hid (TabB.new w A n c T 26)
  have HH := Lib.hid (h.kept hk)
  obtain ⟨U, hU⟩ : ∃ U, w.alloc (.cells #[.slice A n c, .bool T.keep, .int .i64 T.d.k, .int .i64 T.d.n, .string T.d.t, .int .i64 T.b.k, .int .i64 T.b.n, .string T.b.t, .bool T.tu] 26) = U := ⟨_, rfl⟩
  rw [hU] at hk HT HH
  have HK := Lib.hid hk; have HUU := Lib.hid hU
  obtain ⟨q, hq⟩ := bool_of (RightT T a b)
  have AR := Lib.hid (fun w h => htright_any A n c T a b w h hz q hq)
  have HQ := Lib.hid hq
  have HTR := Lib.hid htr
  have t0 := HT.out.c0; have t1 := HT.out.c1; have t2 := HT.out.c2; have t3 := HT.out.c3; have t4 := HT.out.c4; have t5 := HT.out.c5; have t6 := HT.out.c6; have t7 := HT.out.c7; have t8 := HT.out.c8
  clear h hz hr hk hU hq htr
  go_enter Tryd.func20, Tryd.ntmps20
  go_wp2_with fail
  rw [HUU.out]
  go_wp2_with fail
  go_at_call 18
  refine (AR.out _ HH.out).mono ?_
  rintro e w1 ⟨rfl, hk1⟩
  replace HK := Lib.hid (HK.out.trans hk1); replace HT := Lib.hid (HT.out.kept hk1); replace HH := Lib.hid (HH.out.kept hk1)
  clear hk1 t0 t1 t2 t3 t4 t5 t6 t7 t8
  have t0 := HT.out.c0; have t1 := HT.out.c1; have t2 := HT.out.c2; have t3 := HT.out.c3; have t4 := HT.out.c4; have t5 := HT.out.c5; have t6 := HT.out.c6; have t7 := HT.out.c7; have t8 := HT.out.c8
  cases q with
  | false =>
    have HF := Lib.hid (show false = r by rw [eq_comm, ← Bool.not_eq_true, HR.out]; exact fun k => by have := HQ.out.2 k.1; cases this)
    go_wp2_with fail
    go_ret
    exact ⟨ret_bool HF.out, HK.out⟩
  | true =>
    have HRT := Lib.hid (show RightT T a b from HQ.out.1 (by first | rfl | trivial))
    rcases Bool.eq_false_or_eq_true T.keep with hkp | hkp
    · obtain ⟨z, hz⟩ := bool_of (OnL T.L T.L)
      have HF := Lib.hid (show z = r by rw [Bool.eq_iff_iff, HR.out, loss_keep HRT.out hkp, hz])
      have AX := Lib.hid (fun w h => texch_any A n c T w h z hz)
      rw [hkp] at t1 AX
      clear hz hkp
      go_wp2_with fail
      go_at_call 43
      refine (AX.out _ HH.out).mono ?_
      rintro e w2 ⟨rfl, hk1⟩
      replace HK := Lib.hid (HK.out.trans hk1)
      clear hk1 t0 t1 t2 t3 t4 t5 t6 t7 t8
      go_wp2_with fail
      go_ret
      exact ⟨ret_bool HF.out, HK.out⟩
    · have HL := Lib.hid (loss_not HRT.out hkp)
      have HKP := Lib.hid hkp
      by_cases ha : a = 3
      · by_cases hb : b = 3
        · obtain ⟨z, hz⟩ := bool_of (backT T (forthT T noV) = noV ∧ backT T (forthT T yesV) = yesV)
          have HF := Lib.hid (show z = r by rw [Bool.eq_iff_iff, HR.out, HL.out, hz]; exact ⟨fun k => ⟨ha, hb, k⟩, fun k => k.2.2⟩)
          have AX := Lib.hid (fun w h k => ttruth_any A n c T w h k z hz)
          have HTW := Lib.hid ((HTR.out hkp ha hb).kept HK.out)
          rw [hkp] at t1 AX
          have ha1 : (a == 3) = true := by rw [ha]; simp
          have ha2 : (a != 3) = false := by rw [ha]; simp
          have ha3 : decide (a = 3) = true := decide_eq_true ha
          have hb1 : (b == 3) = true := by rw [hb]; simp
          have hb2 : (b != 3) = false := by rw [hb]; simp
          have hb3 : decide (b = 3) = true := decide_eq_true hb
          clear ha hb hz hkp
          go_wp2_with fail
          go_at_call 44
          refine (AX.out _ HH.out HTW.out).mono ?_
          rintro e w2 ⟨rfl, hk1⟩
          replace HK := Lib.hid (HK.out.trans hk1)
          clear hk1 t0 t1 t2 t3 t4 t5 t6 t7 t8
          go_wp2_with fail
          go_ret
          exact ⟨ret_bool HF.out, HK.out⟩
        · have HF := Lib.hid (show false = r by rw [eq_comm, ← Bool.not_eq_true, HR.out, HL.out]; exact fun k => hb k.2.1)
          rw [hkp] at t1
          have ha1 : (a == 3) = true := by rw [ha]; simp
          have ha2 : (a != 3) = false := by rw [ha]; simp
          have ha3 : decide (a = 3) = true := decide_eq_true ha
          have hb1 : (b == 3) = false := by simpa using hb
          have hb2 : (b != 3) = true := by simpa using hb
          have hb3 : decide (b = 3) = false := decide_eq_false hb
          clear ha hb hkp
          go_wp2_with fail
          go_ret
          exact ⟨ret_bool HF.out, HK.out⟩
      · have HF := Lib.hid (show false = r by rw [eq_comm, ← Bool.not_eq_true, HR.out, HL.out]; exact fun k => ha k.1)
        rw [hkp] at t1
        have ha1 : (a == 3) = false := by simpa using ha
        have ha2 : (a != 3) = true := by simpa using ha
        have ha3 : decide (a = 3) = false := decide_eq_false ha
        clear ha hkp
        go_wp2_with fail
        go_ret
        exact ⟨ret_bool HF.out, HK.out⟩
end Go.Proofs.YtjcnjmlgedmmoaaDoor

