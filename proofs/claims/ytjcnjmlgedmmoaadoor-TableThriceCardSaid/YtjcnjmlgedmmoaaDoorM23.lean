/-
  What is proved: slices.Equal at pairs, as the library's text has it, and package table's Same of layer 13 (P13.8), called with any tables, tell whether they are the same; the world has new blocks at most.
  nothing of its own: package table's contracts of layer 13 together.
  plain facts on the example's tables of layer 13's laws; no program is spoken of here.
-/
import Derived.Test.YtjcnjmlgedmmoaaDoorM12
import Derived.Test.YtjcnjmlgedmmoaaDoorHTFind
import Derived.Test.YtjcnjmlgedmmoaaDoorHTTurn
import Derived.Test.YtjcnjmlgedmmoaaDoorHTRight2
import Derived.Test.YtjcnjmlgedmmoaaDoorM19
import Derived.Test.YtjcnjmlgedmmoaaDoorM20
import Derived.Test.YtjcnjmlgedmmoaaDoorHTTake
namespace Go.Proofs.YtjcnjmlgedmmoaaDoor
open Go.RowKit
set_option linter.unusedVariables false

theorem pa_yes {x y : Pa} (h : x = y) : (x.f.k == y.f.k) = true ∧ (x.f.n == y.f.n) = true ∧ (x.f.t.toList == y.f.t.toList) = true ∧ (x.t.k == y.t.k) = true ∧ (x.t.n == y.t.n) = true ∧ (x.t.t.toList == y.t.t.toList) = true := by subst h; simp
set_option maxRecDepth 100000 in
set_option maxHeartbeats 8000000 in
theorem equalP_any (A : Option Addr) (n c : Nat) (V : List Pa) (A' : Option Addr) (n' c' : Nat) (V' : List Pa) (w : World) (h : Pal w A n c V) (h' : Pal w A' n' c' V') (r : Bool) (hr : r = true ↔ V = V') :
    Calls Tryd.prog 52 #[.slice A n c, .slice A' n' c'] w fun e w' => e = .returned (.bool r) ∧ Kept w w' := by
  have hcap := h.cap.1; have hcap2 := h.cap.2; have hcap' := h'.cap.1; have hcap2' := h'.cap.2
  have HN := Lib.hid h.1; have HN' := Lib.hid h'.1
  have HI := Lib.hid h; have HI' := Lib.hid h'
  have HR := Lib.hid hr
  clear h h' hr
  by_cases hn : n = n'
  · subst hn
    go_enter Tryd.func52, Tryd.ntmps52
    go_wp2_with fail
    go_loopw [13] (fun i wr => ∃ j : Nat, j ≤ n ∧ i = .int .i64 j ∧ Kept w wr ∧ ∀ i, i < j → V[i]? = V'[i]?) (fun i _ => n - (intOf i).toNat)
    case atStart => exact ⟨0, Nat.zero_le _, rfl, Kept.refl _, fun i hi => absurd hi (by omega)⟩
    case round =>
      obtain ⟨j, hj, rfl, hkr, hall⟩ := hrel
      have HR2 := Lib.hid hkr
      have HA := Lib.hid hall
      clear hkr hall
      by_cases hlt : j < n
      · obtain ⟨g, o, x, rfl, hx, EX⟩ := (HI.out.kept HR2.out).get hlt
        obtain ⟨g', o', y, rfl, hy, EY⟩ := (HI'.out.kept HR2.out).get hlt
        have x0 := KExt.cell EX.c0; have y0 := KExt.cell EY.c0; have x1 := KExt.cell EX.c1; have y1 := KExt.cell EY.c1; have x2 := KExt.cell EX.c2; have y2 := KExt.cell EY.c2; have x3 := KExt.cell EX.c3; have y3 := KExt.cell EY.c3; have x4 := KExt.cell EX.c4; have y4 := KExt.cell EY.c4; have x5 := KExt.cell EX.c5; have y5 := KExt.cell EY.c5
        have HY := Lib.hid hy
        have HX := Lib.hid hx
        clear hy hx EY EX
        by_cases hq : x = y
        · have HN2 := Lib.hid (show ∀ i, i < j + 1 → V[i]? = V'[i]? from fun i hi => by
            rcases Nat.lt_or_ge i j with h | h
            · exact HA.out i h
            · obtain rfl : i = j := by omega
              rw [HY.out, HX.out, hq])
          obtain ⟨d0, d1, d2, d3, d4, d5⟩ := pa_yes hq
          clear hq
          go_wp2_with fail
          refine region_kept _ (by kernel_rfl) (by kernel_rfl) (Kept.refl _) ?_
          repeat (go_big_quiet_step (fail))
          refine wpQuiet_nil ?_
          intro G
          clear x0 x1 x2 x3 x4 x5 y0 y1 y2 y3 y4 y5
          go_wp2_with fail
          go_roundw
          case rel => exact ⟨j + 1, hlt, by go_num, HR2.out.trans G.g, HN2.out⟩
          case measure => simp [intOf]; omega
        · have HF := Lib.hid (show false = r by
            rw [eq_comm, ← Bool.not_eq_true, HR.out]
            rintro rfl
            exact hq (Option.some.inj (HX.out.symm.trans HY.out)))
          rcases pa_ne hq with q | ⟨q, q2⟩
          · rcases va_ne q with d0 | ⟨d0, d1⟩ | ⟨d0, d1, d2⟩ <;>
            · clear hq q
              go_wp2_with fail
              refine region_kept _ (by kernel_rfl) (by kernel_rfl) (Kept.refl _) ?_
              repeat (go_big_quiet_step (fail))
              refine wpQuiet_nil ?_
              intro G
              clear x0 x1 x2 x3 x4 x5 y0 y1 y2 y3 y4 y5
              go_wp2_with fail
              go_ret
              exact ⟨ret_bool HF.out, HR2.out.trans G.g⟩
          · obtain ⟨d0, d1, d2⟩ := va_eq q
            rcases va_ne q2 with d3 | ⟨d3, d4⟩ | ⟨d3, d4, d5⟩ <;>
            · clear hq q q2
              go_wp2_with fail
              refine region_kept _ (by kernel_rfl) (by kernel_rfl) (Kept.refl _) ?_
              repeat (go_big_quiet_step (fail))
              refine wpQuiet_nil ?_
              intro G
              clear x0 x1 x2 x3 x4 x5 y0 y1 y2 y3 y4 y5
              go_wp2_with fail
              go_ret
              exact ⟨ret_bool HF.out, HR2.out.trans G.g⟩
      · obtain rfl : j = n := by omega
        have HF := Lib.hid (show true = r by
          rw [eq_comm, HR.out]
          refine List.ext_getElem? fun i => ?_
          rcases Nat.lt_or_ge i j with h | h
          · exact HA.out i h
          · rw [List.getElem?_eq_none (by have := HN.out; omega), List.getElem?_eq_none (by have := HN'.out; omega)])
        go_wp2_with fail
        go_ret
        exact ⟨ret_bool HF.out, HR2.out⟩
  · have d1 : ((n : Int) != n') = true := by simp; omega
    have HF := Lib.hid (show false = r by
      rw [eq_comm, ← Bool.not_eq_true, HR.out]
      rintro rfl
      exact hn (HN.out.trans HN'.out.symm))
    clear hn
    go_enter Tryd.func52, Tryd.ntmps52
    go_wp2_with fail
    go_ret
    exact ⟨ret_bool HF.out, Kept.refl _⟩
set_option maxRecDepth 100000 in
set_option maxHeartbeats 8000000 in
theorem htsame_any (A : Option Addr) (n c : Nat) (T : Tb) (A' : Option Addr) (n' c' : Nat) (S : Tb) (w : World) (h : Pal w A n c T.L) (h' : Pal w A' n' c' S.L) (r : Bool) (hr : r = true ↔ T = S) :
    Calls Tryd.prog 24 #[.agg #[.slice A n c, .bool T.keep, .int .i64 T.d.k, .int .i64 T.d.n, .string T.d.t, .int .i64 T.b.k, .int .i64 T.b.n, .string T.b.t, .bool T.tu], .agg #[.slice A' n' c', .bool S.keep, .int .i64 S.d.k, .int .i64 S.d.n, .string S.d.t, .int .i64 S.b.k, .int .i64 S.b.n, .string S.b.t, .bool S.tu]] w fun e w' => e = .returned (.bool r) ∧ Kept w w' := by
  have hk := ((Kept.refl w).alloc #[.slice A n c, .bool T.keep, .int .i64 T.d.k, .int .i64 T.d.n, .string T.d.t, .int .i64 T.b.k, .int .i64 T.b.n, .string T.b.t, .bool T.tu] 26).alloc #[.slice A' n' c', .bool S.keep, .int .i64 S.d.k, .int .i64 S.d.n, .string S.d.t, .int .i64 S.b.k, .int .i64 S.b.n, .string S.b.t, .bool S.tu] 26
  have HR := Lib.hid hr
  have hb := (TabB.new w A n c T 26).kept ((Kept.refl _).alloc #[.slice A' n' c', .bool S.keep, .int .i64 S.d.k, .int .i64 S.d.n, .string S.d.t, .int .i64 S.b.k, .int .i64 S.b.n, .string S.b.t, .bool S.tu] 26)
  have hb' := TabB.new (w.alloc (.cells #[.slice A n c, .bool T.keep, .int .i64 T.d.k, .int .i64 T.d.n, .string T.d.t, .int .i64 T.b.k, .int .i64 T.b.n, .string T.b.t, .bool T.tu] 26)) A' n' c' S 26
  rw [show (w.alloc (.cells #[.slice A n c, .bool T.keep, .int .i64 T.d.k, .int .i64 T.d.n, .string T.d.t, .int .i64 T.b.k, .int .i64 T.b.n, .string T.b.t, .bool T.tu] 26)).heap.size = w.heap.size + 1 by simp] at hb'
  have hi := h.kept hk; have hi' := h'.kept hk
  obtain ⟨U, hU⟩ : ∃ U, (w.alloc (.cells #[.slice A n c, .bool T.keep, .int .i64 T.d.k, .int .i64 T.d.n, .string T.d.t, .int .i64 T.b.k, .int .i64 T.b.n, .string T.b.t, .bool T.tu] 26)).alloc (.cells #[.slice A' n' c', .bool S.keep, .int .i64 S.d.k, .int .i64 S.d.n, .string S.d.t, .int .i64 S.b.k, .int .i64 S.b.n, .string S.b.t, .bool S.tu] 26) = U := ⟨_, rfl⟩
  rw [hU] at hi hi' hb hb' hk
  obtain ⟨z, hz⟩ := bool_of (T.L = S.L)
  have AE := Lib.hid (equalP_any A n c T.L A' n' c' S.L U hi hi' z hz)
  have HUU := Lib.hid hU; have HB := Lib.hid hb; have HB' := Lib.hid hb'; have HK := Lib.hid hk; have HZ := Lib.hid hz
  have t0 := HB.out.c0; have s0 := HB'.out.c0
  clear h h' hr hk hb hb' hi hi' hU hz
  go_enter Tryd.func24, Tryd.ntmps24
  go_wp2_with fail
  rw [HUU.out]
  go_wp2_with fail
  go_at_call 52
  refine AE.out.mono ?_
  rintro e w1 ⟨rfl, hk1⟩
  replace HK := Lib.hid (HK.out.trans hk1); replace HB := Lib.hid (HB.out.kept hk1); replace HB' := Lib.hid (HB'.out.kept hk1)
  clear hk1 t0 s0
  cases z with
  | false =>
    have HF := Lib.hid (show false = r by rw [eq_comm, ← Bool.not_eq_true, HR.out]; rintro rfl; have := HZ.out.2 rfl; cases this)
    go_wp2_with fail
    go_ret
    exact ⟨ret_bool HF.out, HK.out⟩
  | true =>
    have t1 := HB.out.c1; have s1 := HB'.out.c1
    have t2 := HB.out.c2; have s2 := HB'.out.c2
    have t3 := HB.out.c3; have s3 := HB'.out.c3
    have t4 := HB.out.c4; have s4 := HB'.out.c4
    have t5 := HB.out.c5; have s5 := HB'.out.c5
    have t6 := HB.out.c6; have s6 := HB'.out.c6
    have t7 := HB.out.c7; have s7 := HB'.out.c7
    have t8 := HB.out.c8; have s8 := HB'.out.c8
    by_cases qa : T.keep = S.keep
    · have HEqa := Lib.hid qa
      obtain ⟨qaa, qab⟩ := bool_eq qa
      clear qa
      by_cases qd : T.d = S.d
      · have HEqd := Lib.hid qd
        obtain ⟨qd0, qd1, qd2⟩ := va_eq qd
        clear qd
        by_cases qb : T.b = S.b
        · have HEqb := Lib.hid qb
          obtain ⟨qb0, qb1, qb2⟩ := va_eq qb
          clear qb
          by_cases qu : T.tu = S.tu
          · have HEqu := Lib.hid qu
            obtain ⟨qua, qub⟩ := bool_eq qu
            clear qu
            have HF := Lib.hid (show true = r from (HR.out.2 (tb_ext (HZ.out.1 rfl) HEqa.out HEqd.out HEqb.out HEqu.out)).symm)
            go_wp2_with fail
            go_ret
            exact ⟨ret_bool HF.out, HK.out⟩
          · have HF := Lib.hid (show false = r by rw [eq_comm, ← Bool.not_eq_true, HR.out]; rintro rfl; exact qu rfl)
            obtain ⟨qua, qub⟩ := bool_ne qu
            clear qu
            go_wp2_with fail
            go_ret
            exact ⟨ret_bool HF.out, HK.out⟩
        · have HF := Lib.hid (show false = r by rw [eq_comm, ← Bool.not_eq_true, HR.out]; rintro rfl; exact qb rfl)
          rcases va_ne qb with qb0 | ⟨qb0, qb1⟩ | ⟨qb0, qb1, qb2⟩ <;> clear qb
          · go_wp2_with fail
            go_ret
            exact ⟨ret_bool HF.out, HK.out⟩
          · go_wp2_with fail
            go_ret
            exact ⟨ret_bool HF.out, HK.out⟩
          · go_wp2_with fail
            go_ret
            exact ⟨ret_bool HF.out, HK.out⟩
      · have HF := Lib.hid (show false = r by rw [eq_comm, ← Bool.not_eq_true, HR.out]; rintro rfl; exact qd rfl)
        rcases va_ne qd with qd0 | ⟨qd0, qd1⟩ | ⟨qd0, qd1, qd2⟩ <;> clear qd
        · go_wp2_with fail
          go_ret
          exact ⟨ret_bool HF.out, HK.out⟩
        · go_wp2_with fail
          go_ret
          exact ⟨ret_bool HF.out, HK.out⟩
        · go_wp2_with fail
          go_ret
          exact ⟨ret_bool HF.out, HK.out⟩
    · have HF := Lib.hid (show false = r by rw [eq_comm, ← Bool.not_eq_true, HR.out]; rintro rfl; exact qa rfl)
      obtain ⟨qaa, qab⟩ := bool_ne qa
      clear qa
      go_wp2_with fail
      go_ret
      exact ⟨ret_bool HF.out, HK.out⟩
end Go.Proofs.YtjcnjmlgedmmoaaDoor

namespace Go.Proofs.YtjcnjmlgedmmoaaDoor
end Go.Proofs.YtjcnjmlgedmmoaaDoor

namespace Go.Proofs.YtjcnjmlgedmmoaaDoor
open Go.RowKit
set_option linter.unusedVariables false

def inV (k : Int) : Va := ⟨1, k, ⟨#[]⟩⟩
def oneV : Va := ⟨2, 0, ⟨#[111, 110, 101]⟩⟩
def emV : Va := ⟨2, 0, ⟨#[]⟩⟩
def xV : Va := ⟨2, 0, ⟨#[120]⟩⟩
def swL : List Pa := [⟨inV 1, inV 2⟩, ⟨inV 2, inV 1⟩]
def woL : List Pa := [⟨inV 1, oneV⟩, ⟨inV 0, emV⟩]
def swT : Tb := ⟨swL, true, .zero, .zero, false⟩
def woT : Tb := ⟨woL, false, emV, inV 0, false⟩
def baT : Tb := ⟨woL, false, emV, inV 7, false⟩
theorem sw_sz : SzT swT := ⟨fun p hp => by simp only [swT, swL, List.mem_cons, List.not_mem_nil, or_false] at hp; rcases hp with rfl | rfl <;> exact ⟨by decide, by decide⟩, by decide, by decide, by decide⟩
theorem wo_szL : SzP woL := fun p hp => by simp only [woL, List.mem_cons, List.not_mem_nil, or_false] at hp; rcases hp with rfl | rfl <;> exact ⟨by decide, by decide⟩
theorem wo_sz : SzT woT := ⟨wo_szL, by decide, by decide, by decide⟩
theorem ba_sz : SzT baT := ⟨wo_szL, by decide, by decide, by decide⟩
theorem wo_tbs : TbS woT := ⟨⟨by decide, by decide, by decide⟩, ⟨by decide, by decide, by decide⟩, fun p hp => by
  simp only [woT, woL, List.mem_cons, List.not_mem_nil, or_false] at hp
  rcases hp with rfl | rfl <;> exact ⟨⟨by decide, by decide, by decide⟩, ⟨by decide, by decide, by decide⟩⟩, by decide⟩
theorem sw_right : RightT swT 1 1 := by
  unfold RightT
  rw [if_neg (by decide)]
  refine ⟨by decide, by decide, by decide, fun p hp => ?_, ?_, (fun h => by cases h), fun _ => ⟨rfl, rfl, rfl, fun p hp => ?_⟩⟩
  · simp only [swT, swL, List.mem_cons, List.not_mem_nil, or_false] at hp
    rcases hp with rfl | rfl <;> exact ⟨by decide, by decide, rfl, rfl⟩
  · simp only [swT, swL, List.pairwise_cons, List.mem_cons, List.not_mem_nil, or_false, forall_eq, List.Pairwise.nil, and_true, false_implies, implies_true]
    decide
  · simp only [swT, swL, List.mem_cons, List.not_mem_nil, or_false] at hp
    rcases hp with rfl | rfl <;> (intro h; revert h; decide)
theorem sw_loss : LossT swT 1 1 := by
  refine ⟨sw_right, fun _ => ⟨fun p hp => ?_, ?_⟩, fun h => by cases h⟩
  · simp only [swT, swL, List.mem_cons, List.not_mem_nil, or_false] at hp
    rcases hp with rfl | rfl
    · exact ⟨⟨inV 2, inV 1⟩, by simp [swT, swL], rfl⟩
    · exact ⟨⟨inV 1, inV 2⟩, by simp [swT, swL], rfl⟩
  · simp only [swT, swL, List.pairwise_cons, List.mem_cons, List.not_mem_nil, or_false, forall_eq, List.Pairwise.nil, and_true, false_implies, implies_true]
    decide
theorem wo_rightU : RightU woT 1 2 := by
  refine ⟨by decide, by decide, by decide, fun p hp => ?_, ?_, fun _ => ⟨by decide, rfl, by decide, rfl, by decide, by decide⟩, fun h => by cases h⟩
  · simp only [woT, woL, List.mem_cons, List.not_mem_nil, or_false] at hp
    rcases hp with rfl | rfl <;> exact ⟨by decide, by decide, rfl, rfl⟩
  · simp only [woT, woL, List.pairwise_cons, List.mem_cons, List.not_mem_nil, or_false, forall_eq, List.Pairwise.nil, and_true, false_implies, implies_true]
    decide
theorem wo_right : RightT woT 1 2 := by
  unfold RightT
  rw [if_neg (by decide)]
  exact wo_rightU
theorem wo_loss : ¬ LossT woT 1 2 := fun h => by have := (h.2.2 rfl).1; revert this; decide
theorem ba_right : ¬ RightT baT 1 2 := fun h => by
  unfold RightT at h
  rw [if_neg (by decide)] at h
  have := (h.nk rfl).2.2.2.2.2
  revert this
  decide
theorem wo_turn : RightT (turnT woT) 2 1 := by
  unfold RightT
  rw [if_pos (by decide)]
  exact ⟨wo_rightU.ka, wo_rightU.kb, wo_rightU.few, wo_rightU.ok, wo_rightU.once, wo_rightU.nk, wo_rightU.kp⟩
theorem wo_not : ¬ RightT woT 2 1 := fun h => by
  unfold RightT at h
  rw [if_neg (by decide)] at h
  have := (h.ok ⟨inV 1, oneV⟩ (by simp [woT, woL])).2.2.1
  revert this
  decide
theorem aw_a1 : applyT swT (inV 2) = inV 1 := by decide
theorem aw_a2 : applyT swT (inV 5) = inV 5 := by decide
theorem aw_a3 : applyT woT (inV 9) = emV := by decide
theorem aw_b1 : wayT woT oneV = inV 1 := by decide
theorem aw_b2 : wayT woT xV = inV 0 := by decide
theorem aw_t1 : applyT (turnT woT) oneV = inV 1 := by decide
def woP : ByteArray := putTb ⟨#[]⟩ woT
theorem aw_put : putTb ⟨#[]⟩ woT = woP := rfl
theorem aw_take : ttbL (woP ++ ⟨#[122]⟩) = (woT, ⟨#[122]⟩, 0) := by kernel_rfl
theorem aw_bad : ttbL ⟨#[4]⟩ = (.none, ⟨#[]⟩, 3) := by kernel_rfl
theorem aw_same : true = true ↔ woT = woT := by simp
theorem aw_other : false = true ↔ woT = baT := ⟨(fun h => by cases h), fun h => by have := congrArg (fun T : Tb => T.b.n) h; revert this; decide⟩
end Go.Proofs.YtjcnjmlgedmmoaaDoor

