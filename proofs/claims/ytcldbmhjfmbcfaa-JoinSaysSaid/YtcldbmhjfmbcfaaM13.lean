/-
  What is proved: the document's Right of layer 6, called with any set that lies in memory, tells whether it is right (P6.1); the world has new blocks at most.
  worlds that have all that another one has but for one block ('KeptE'): what is read of other blocks reads on.
  rows that a call owns, beside one another: a row reads on behind what leaves older blocks alone; two rows of other kinds of elements are apart; an int of a row written; worlds that have all that another one has but for one block ('KeptE').
-/
import Derived.Test.YtcldbmhjfmbcfaaM10
import Derived.Test.YtcldbmhjfmbcfaaRDWith
import Derived.Test.YtcldbmhjfmbcfaaM7
import Derived.Deep.Heap
import Derived.OneCell
namespace Go.Proofs.Ytcldbmhjfmbcfaa
open Go.RowKit

/-- What is asked of the j-th dot. -/
def DotOk (V : List Int) (C : List (Int × Int)) (j : Nat) (d : Int × Int) : Prop := rightD d = true ∧ atV V d.1 < d.2 - 1 ∧ ∀ i e, j = i + 1 → C[i]? = some e → LtD e d
theorem right_of {V : List Int} {C : List (Int × Int)} (hb : ∀ i x, V[i]? = some x → 0 ≤ x ∧ x ≤ 1073741824 ∧ (i + 1 = V.length → x ≠ 0)) (hc : ∀ j d, C[j]? = some d → DotOk V C j d) (hl : V.length ≤ 64) : RightC V C := by
  have hrise : ∀ m, m ≤ C.length → Rise (C.take m) := by
    intro m
    induction m with
    | zero => intro _; rw [List.take_zero]; exact rise_nil
    | succ m ih =>
      intro hm
      have h1 := ih (by omega)
      have hd := List.getElem?_eq_getElem (show m < C.length by omega)
      rw [List.take_add_one, hd]
      unfold Rise
      rw [List.pairwise_append]
      refine ⟨h1, by simp, fun x hx y hy => ?_⟩
      obtain rfl : y = C[m] := by simpa using hy
      have hok := (hc m _ hd).2.2
      cases m with
      | zero => rw [List.take_zero] at hx; cases hx
      | succ i =>
        have he := List.getElem?_eq_getElem (show i < C.length by omega)
        have hlt := hok i _ rfl he
        obtain ⟨q, hq⟩ := List.getElem?_of_mem hx
        have hql := (List.getElem?_eq_some_iff.1 hq).1
        rw [List.length_take] at hql
        rcases Nat.lt_or_ge q i with h | h
        · have hi : (C.take (i + 1))[i]? = some C[i] := by rw [List.getElem?_take, if_pos (by omega)]; exact he
          exact (rise_get h1 hq hi h).trans hlt
        · obtain rfl : q = i := by omega
          rw [List.getElem?_take, if_pos (by omega), he] at hq
          obtain rfl := Option.some.inj hq
          exact hlt
  refine ⟨⟨hl, fun x hx => ?_⟩, fun k hk => ?_, ?_, fun d hd => ?_, fun d hd => ?_⟩
  · obtain ⟨i, hi⟩ := List.getElem?_of_mem hx
    exact ⟨(hb i x hi).1, (hb i x hi).2.1⟩
  · have hi := List.getElem?_eq_getElem (show k < V.length by omega)
    rw [List.getD_eq_getElem?_getD, hi]
    exact (hb k _ hi).2.2 hk.symm
  · have := hrise C.length (Nat.le_refl _)
    rwa [List.take_length] at this
  · obtain ⟨j, hj⟩ := List.getElem?_of_mem hd
    exact (hc j d hj).1
  · obtain ⟨j, hj⟩ := List.getElem?_of_mem hd
    exact (hc j d hj).2.1
theorem RightC.ok {V : List Int} {C : List (Int × Int)} (h : RightC V C) {j : Nat} {d : Int × Int} (hd : C[j]? = some d) : DotOk V C j d :=
  ⟨h.right d (List.mem_of_getElem? hd), h.apart d (List.mem_of_getElem? hd), fun i e hj he => rise_get h.rise he hd (by omega)⟩
theorem no_r {r : Bool} {P : Prop} (hr : r = true ↔ P) (h : ¬ P) : false = r := by
  cases r with
  | true => exact absurd (hr.1 rfl) h
  | false => rfl
theorem yes_r {r b : Bool} {P : Prop} (hr : r = true ↔ P) (h : b = true ↔ P) : b = r := by
  rw [Bool.eq_iff_iff, h, hr]

set_option maxRecDepth 100000 in
set_option maxHeartbeats 4000000 in
theorem rrightC_any (A : Option Addr) (n c : Nat) (V : List Int) (B : Option Addr) (m k : Nat) (C : List (Int × Int)) (w : World) (h : Il w A n c V) (hd : Dl w B m k C) (r : Bool) (hr : r = true ↔ RightC V C) :
    Calls Try.prog 22 #[.agg #[.slice A n c, .slice B m k]] w fun e w' => e = .returned (.bool r) ∧ Kept w w' := by
  have hcap := h.cap.1; have hcap2 := h.cap.2; have hdap := hd.cap.1; have hdap2 := hd.cap.2
  have HN := Lib.hid h.1; have HM := Lib.hid hd.1
  have HI := Lib.hid h; have HD := Lib.hid hd
  have HR := Lib.hid hr
  have HK := Lib.hid ((Kept.refl w).alloc #[.slice A n c, .slice B m k] 26)
  clear h hd hr
  go_enter Try.func22, Try.ntmps22
  go_wp2_with fail
  go_loopw [10] (fun i wr => ∃ t : Nat, t ≤ n ∧ i = .int .i64 t ∧ Kept (w.alloc (.cells #[.slice A n c, .slice B m k] 26)) wr ∧ ∀ i x, i < t → V[i]? = some x → 0 ≤ x ∧ x ≤ 1073741824 ∧ (i + 1 = V.length → x ≠ 0)) (fun i _ => n - (intOf i).toNat)
  case atStart => exact ⟨0, Nat.zero_le _, rfl, Kept.refl _, fun i x hi => absurd hi (by omega)⟩
  case round =>
    obtain ⟨t, ht, rfl, hkr, hall⟩ := hrel
    have HR1 := Lib.hid hkr
    have HA := Lib.hid hall
    have e0 := hkr.box0
    have e1 := hkr.box1
    clear hkr hall
    by_cases hlt : t < n
    · obtain ⟨g, o, x, rfl, hx, g1⟩ := (HI.out.kept (HK.out.trans HR1.out)).get hlt
      have HX := Lib.hid hx
      clear hx
      have hsub : IntKind.i64.wrap ((n : Int) - 1) = (n : Int) - 1 := by rw [IntWalk.i64_in _ (by omega)]
      by_cases h1 : x < 0
      · have d1 : decide (x < 0) = true := by simpa using h1
        have HF := Lib.hid (no_r HR.out fun hh => by have := (hh.vec.bd x (List.mem_of_getElem? HX.out)).1; omega)
        clear h1
        go_wp2_with fail
        go_ret
        exact ⟨ret_bool HF.out, HK.out.trans HR1.out⟩
      by_cases h2 : 1073741824 < x
      · have d1 : decide (x < 0) = false := by simpa using h1
        have d2 : decide (1073741824 < x) = true := by simpa using h2
        have HF := Lib.hid (no_r HR.out fun hh => by have := (hh.vec.bd x (List.mem_of_getElem? HX.out)).2; omega)
        clear h1 h2
        go_wp2_with fail
        go_ret
        exact ⟨ret_bool HF.out, HK.out.trans HR1.out⟩
      have d1 : decide (x < 0) = false := by simpa using h1
      have d2 : decide (1073741824 < x) = false := by simpa using h2
      by_cases h3 : t + 1 = n
      · have d3 : ((t : Int) == (n : Int) - 1) = true := by rw [beq_iff_eq]; omega
        by_cases h4 : x = 0
        · have d4 : (x == 0) = true := by simpa using h4
          have HF := Lib.hid (no_r HR.out fun hh => hh.last t (by have := HN.out; omega) (by rw [List.getD_eq_getElem?_getD, HX.out, h4]; rfl))
          clear h1 h2 h3 h4
          go_wp2_with fail
          go_ret
          exact ⟨ret_bool HF.out, HK.out.trans HR1.out⟩
        · have d4 : (x == 0) = false := by simpa using h4
          have HN2 := Lib.hid (show ∀ i y, i < t + 1 → V[i]? = some y → 0 ≤ y ∧ y ≤ 1073741824 ∧ (i + 1 = V.length → y ≠ 0) from fun i y hi hy => by
            rcases Nat.lt_or_ge i t with h | h
            · exact HA.out i y h hy
            · obtain rfl : i = t := by omega
              obtain rfl := Option.some.inj (hy.symm.trans HX.out)
              exact ⟨by omega, by omega, fun _ => h4⟩)
          clear h1 h2 h3 h4 e0 e1
          have e0 := HR1.out.box0
          go_wp2_with fail
          go_roundw
          case rel => exact ⟨t + 1, hlt, by go_num, HR1.out, HN2.out⟩
          case measure => simp [intOf]; omega
      · have d3 : ((t : Int) == (n : Int) - 1) = false := by rw [beq_eq_false_iff_ne]; omega
        have HN2 := Lib.hid (show ∀ i y, i < t + 1 → V[i]? = some y → 0 ≤ y ∧ y ≤ 1073741824 ∧ (i + 1 = V.length → y ≠ 0) from fun i y hi hy => by
          rcases Nat.lt_or_ge i t with h | h
          · exact HA.out i y h hy
          · obtain rfl : i = t := by omega
            obtain rfl := Option.some.inj (hy.symm.trans HX.out)
            exact ⟨by omega, by omega, fun hl => absurd hl (by have := HN.out; omega)⟩)
        clear h1 h2 h3 e0 e1
        have e0 := HR1.out.box0
        go_wp2_with fail
        go_roundw
        case rel => exact ⟨t + 1, hlt, by go_num, HR1.out, HN2.out⟩
        case measure => simp [intOf]; omega
    · have htn : t = n := by omega
      have HB := Lib.hid (show ∀ i x, V[i]? = some x → 0 ≤ x ∧ x ≤ 1073741824 ∧ (i + 1 = V.length → x ≠ 0) from fun i x hx => HA.out i x (by have := (List.getElem?_eq_some_iff.1 hx).1; have := HN.out; omega) hx)
      clear htn
      go_wp2_with fail
      go_loopw [37] (fun i wr => ∃ t : Nat, t ≤ m ∧ i = .int .i64 t ∧ Kept (w.alloc (.cells #[.slice A n c, .slice B m k] 26)) wr ∧ ∀ j d, j < t → C[j]? = some d → DotOk V C j d) (fun i _ => m - (intOf i).toNat)
      case atStart => exact ⟨0, Nat.zero_le _, rfl, HR1.out, fun i x hi => absurd hi (by omega)⟩
      case round =>
        clear hlt ht e0 e1
        obtain ⟨t, ht, rfl, hkr, hall⟩ := hrel
        have HR2 := Lib.hid hkr
        have HA2 := Lib.hid hall
        clear hkr hall
        by_cases hlt : t < m
        · obtain ⟨g, o, ⟨y1, y2⟩, hA, hy, g1, g2⟩ := (HD.out.kept (HK.out.trans HR2.out)).get hlt
          simp only at g1 g2
          have HY := Lib.hid hy
          clear hy
          have e0 := KExt.cell ((HR2.out.alloc #[.int .i64 y1, .int .i64 y2] 42).box0)
          have e1 := KExt.cell ((HR2.out.alloc #[.int .i64 y1, .int .i64 y2] 42).box1)
          have d0 := KExt.cell (Kept.box0 (Kept.refl (wr.alloc (.cells #[.int .i64 y1, .int .i64 y2] 42))))
          have d1 := KExt.cell (Kept.box1 (Kept.refl (wr.alloc (.cells #[.int .i64 y1, .int .i64 y2] 42))))
          obtain ⟨q, hq⟩ : ∃ q, rightD (y1, y2) = q := ⟨_, rfl⟩
          have AR := Lib.hid (fun w => rrightD_c (y1, y2) q hq w)
          obtain ⟨a, ha⟩ : ∃ a, atV V y1 = a := ⟨_, rfl⟩
          have AA := Lib.hid (fun w h => at_c A n c V B m k y1 a ha w h)
          have HI2 := Lib.hid (HI.out.kept (HK.out.trans (HR2.out.alloc #[.int .i64 y1, .int .i64 y2] 42)))
          have HQ := Lib.hid hq
          have HAV := Lib.hid ha
          clear hq ha
          cases q with
          | false =>
            have AC := AR
            have HF := Lib.hid (no_r HR.out fun hh => by have := hh.right _ (List.mem_of_getElem? HY.out); rw [HQ.out] at this; cases this)
            subst hA
            go_wp2_with fail
            refine region_kept _ (by kernel_rfl) (by kernel_rfl) (Kept.refl _) ?_
            repeat (go_big_quiet_step ((first
              | (go_at_call 41; (with_reducible exact KExt.callsK (AR.out _)))
              | (go_at_call 42; (with_reducible exact KExt.callsK (AA.out _ (HI2.out.kept (KExt.g _)))))
              | (go_at_call 43; (with_reducible exact KExt.callsK (AC.out _)))
              | fail)))
            refine wpQuiet_nil ?_
            intro G

            clear e0 e1 d0 d1 g1 g2
            go_wp2_with fail
            go_ret
            exact ⟨ret_bool HF.out, HK.out.trans (HR2.out.trans (((Kept.refl _).alloc _ _).trans G.g))⟩
          | true =>
            obtain ⟨b1, b2, b3, b4⟩ := rightD_bd HQ.out
            simp only at b1 b2 b3 b4
            have hsub : IntKind.i64.wrap (y2 - 1) = y2 - 1 := by rw [IntWalk.i64_in _ (by omega)]
            clear b1 b2
            by_cases h5 : y2 - 1 ≤ a
            · have f1 : decide (y2 - 1 ≤ a) = true := by simpa using h5
              have AC := AR
              have HF := Lib.hid (no_r HR.out fun hh => by have := hh.apart _ (List.mem_of_getElem? HY.out); simp only at this; rw [HAV.out] at this; omega)
              clear h5 b3 b4
              subst hA
              go_wp2_with fail
              refine region_kept _ (by kernel_rfl) (by kernel_rfl) (Kept.refl _) ?_
              repeat (go_big_quiet_step ((first
                | (go_at_call 41; (with_reducible exact KExt.callsK (AR.out _)))
                | (go_at_call 42; (with_reducible exact KExt.callsK (AA.out _ (HI2.out.kept (KExt.g _)))))
                | (go_at_call 43; (with_reducible exact KExt.callsK (AC.out _)))
                | fail)))
              refine wpQuiet_nil ?_
              intro G

              clear e0 e1 d0 d1 g1 g2
              go_wp2_with fail
              go_ret
              exact ⟨ret_bool HF.out, HK.out.trans (HR2.out.trans (((Kept.refl _).alloc _ _).trans G.g))⟩
            · have f1 : decide (y2 - 1 ≤ a) = false := by simpa using h5
              rcases Nat.eq_zero_or_pos t with h6 | h6
              · have f2 : decide ((0 : Int) < t) = false := by rw [decide_eq_false_iff_not]; omega
                have f3 : decide (0 < t) = false := by rw [decide_eq_false_iff_not]; omega
                have AC := AR
                have HN2 := Lib.hid (show ∀ j d, j < t + 1 → C[j]? = some d → DotOk V C j d from fun j d hj hd => by
                  obtain rfl : j = t := by omega
                  obtain rfl := Option.some.inj (hd.symm.trans HY.out)
                  exact ⟨HQ.out, by simp only; rw [HAV.out]; omega, fun i e hi => by omega⟩)
                clear h5 h6 b3 b4
                subst hA
                go_wp2_with fail
                refine region_kept _ (by kernel_rfl) (by kernel_rfl) (Kept.refl _) ?_
                repeat (go_big_quiet_step ((first
                  | (go_at_call 41; (with_reducible exact KExt.callsK (AR.out _)))
                  | (go_at_call 42; (with_reducible exact KExt.callsK (AA.out _ (HI2.out.kept (KExt.g _)))))
                  | (go_at_call 43; (with_reducible exact KExt.callsK (AC.out _)))
                  | fail)))
                refine wpQuiet_nil ?_
                intro G

                clear e0 e1 d0 d1 g1 g2
                go_wp2_with fail
                go_roundw
                case rel => exact ⟨t + 1, hlt, by go_num, HR2.out.trans (((Kept.refl _).alloc _ _).trans G.g), HN2.out⟩
                case measure => simp [intOf]; omega
              · have f2 : decide ((0 : Int) < t) = true := by rw [decide_eq_true_iff]; omega
                have f3 : decide (0 < t) = true := by rw [decide_eq_true_iff]; omega
                obtain ⟨j, hkj⟩ : ∃ j, t = j + 1 := ⟨t - 1, by omega⟩
                have hsub2 : IntKind.i64.wrap ((t : Int) - 1) = (j : Int) := by rw [IntWalk.i64_in _ (by omega)]; omega
                have hjm : j < m := by omega
                obtain ⟨g', o', ⟨z1, z2⟩, hA', hz, c3, c4⟩ := (HD.out.kept (HK.out.trans (HR2.out.alloc #[.int .i64 y1, .int .i64 y2] 42))).get hjm
                obtain ⟨rfl, rfl⟩ : g = g' ∧ o = o' := by simpa using hA.symm.trans hA'
                simp only at c3 c4
                have d3 := KExt.cell c3
                have d4 := KExt.cell c4
                have HZ := Lib.hid hz
                have HKJ := Lib.hid hkj
                obtain ⟨z, hzz⟩ : ∃ z, cmpD (z1, z2) (y1, y2) = z := ⟨_, rfl⟩
                have AC := Lib.hid (fun w => rcmp_c (z1, z2) (y1, y2) z hzz w)
                clear hz c3 c4 hA'
                by_cases h7 : 0 ≤ z
                · have f4 : decide (0 ≤ z) = true := by simpa using h7
                  have HF := Lib.hid (no_r HR.out fun hh => by
                    have := (cmpD_lt (z1, z2) (y1, y2)).2 ((hh.ok HY.out).2.2 j _ HKJ.out HZ.out)
                    omega)
                  clear h5 h6 h7 b3 b4 hzz hkj
                  subst hA
                  go_wp2_with fail
                  refine region_kept _ (by kernel_rfl) (by kernel_rfl) (Kept.refl _) ?_
                  repeat (go_big_quiet_step ((first
                    | (go_at_call 41; (with_reducible exact KExt.callsK (AR.out _)))
                    | (go_at_call 42; (with_reducible exact KExt.callsK (AA.out _ (HI2.out.kept (KExt.g _)))))
                    | (go_at_call 43; (with_reducible exact KExt.callsK (AC.out _)))
                    | fail)))
                  refine wpQuiet_nil ?_
                  intro G

                  clear e0 e1 d0 d1 g1 g2
                  go_wp2_with fail
                  go_ret
                  exact ⟨ret_bool HF.out, HK.out.trans (HR2.out.trans (((Kept.refl _).alloc _ _).trans G.g))⟩
                · have f4 : decide (0 ≤ z) = false := by simpa using h7
                  have HN2 := Lib.hid (show ∀ j d, j < t + 1 → C[j]? = some d → DotOk V C j d from fun j' d hj hd => by
                    rcases Nat.lt_or_ge j' t with h | h
                    · exact HA2.out j' d h hd
                    · obtain rfl : j' = t := by omega
                      obtain rfl := Option.some.inj (hd.symm.trans HY.out)
                      refine ⟨HQ.out, by simp only; rw [HAV.out]; omega, fun i e hi he => ?_⟩
                      obtain rfl : i = j := by omega
                      obtain rfl := Option.some.inj (he.symm.trans HZ.out)
                      exact (cmpD_lt _ _).1 (by rw [hzz]; omega))
                  clear h5 h6 h7 b3 b4 hzz hkj
                  subst hA
                  go_wp2_with fail
                  refine region_kept _ (by kernel_rfl) (by kernel_rfl) (Kept.refl _) ?_
                  repeat (go_big_quiet_step ((first
                    | (go_at_call 41; (with_reducible exact KExt.callsK (AR.out _)))
                    | (go_at_call 42; (with_reducible exact KExt.callsK (AA.out _ (HI2.out.kept (KExt.g _)))))
                    | (go_at_call 43; (with_reducible exact KExt.callsK (AC.out _)))
                    | fail)))
                  refine wpQuiet_nil ?_
                  intro G

                  clear e0 e1 d0 d1 g1 g2
                  go_wp2_with fail
                  go_roundw
                  case rel => exact ⟨t + 1, hlt, by go_num, HR2.out.trans (((Kept.refl _).alloc _ _).trans G.g), HN2.out⟩
                  case measure => simp [intOf]; omega
        · have htm : t = m := by omega
          have HC := Lib.hid (show ∀ j d, C[j]? = some d → DotOk V C j d from fun j d hd => HA2.out j d (by have := (List.getElem?_eq_some_iff.1 hd).1; have := HM.out; omega) hd)
          have e0 := HR2.out.box0
          have e1 := HR2.out.box1
          have HF := Lib.hid (yes_r (b := decide (n ≤ 64)) HR.out ⟨fun hb => right_of HB.out HC.out (by have := of_decide_eq_true hb; have := HN.out; omega), fun hh => by rw [decide_eq_true_iff]; have := hh.vec.len; have := HN.out; omega⟩)
          clear htm
          by_cases h64 : n ≤ 64
          · have f1 : decide ((n : Int) ≤ 64) = true := by rw [decide_eq_true_iff]; omega
            have f2 : decide (n ≤ 64) = true := by rw [decide_eq_true_iff]; omega
            rw [f2] at HF
            clear h64
            go_wp2_with fail
            go_ret
            exact ⟨ret_bool HF.out, HK.out.trans HR2.out⟩
          · have f1 : decide ((n : Int) ≤ 64) = false := by rw [decide_eq_false_iff_not]; omega
            have f2 : decide (n ≤ 64) = false := by rw [decide_eq_false_iff_not]; omega
            rw [f2] at HF
            clear h64
            go_wp2_with fail
            go_ret
            exact ⟨ret_bool HF.out, HK.out.trans HR2.out⟩
end Go.Proofs.Ytcldbmhjfmbcfaa

namespace Go.Proofs.Ytcldbmhjfmbcfaa
open Go.RowKit

theorem Kept.blk {W W' : World} (h : Kept W W') {i : Nat} (hi : i < W.heap.size) : W'.heap[i]? = W.heap[i]? := by
  have hk := h.1.2.2 i hi
  cases h1 : W.heap[i]? with
  | none => rw [h1] at hk; exact hk
  | some o =>
    rw [h1] at hk
    cases h2 : W'.heap[i]? with
    | none => rw [h2] at hk; cases o <;> simp at hk
    | some o' =>
      rw [h2] at hk
      cases o <;> cases o' <;> simp only [false_or, Option.some.injEq, reduceCtorEq] at hk ⊢
      case cells.cells c t fr c' t' fr' =>
        obtain ⟨rfl, rfl, _, he⟩ := hk
        have : c' = c := Array.ext_getElem? fun j => he j (fun f => f)
        subst this; rfl
      all_goals first | exact hk | (obtain ⟨rfl, rfl⟩ := hk; rfl)
theorem kept_blk {W W' : World} (h1 : W'.os = W.os) (h2 : W'.output = W.output) (h3 : W.heap.size ≤ W'.heap.size) (h : ∀ i, i < W.heap.size → W'.heap[i]? = W.heap[i]?) : Kept W W' := by
  refine ⟨⟨h1, h2, fun i hi => ?_⟩, fun a ha => World.frozen?_of_block (w := W) (h _ ha), h3⟩
  have := (World.keptBut_refl W (fun _ => False)).2.2 i hi
  rw [h i hi]
  exact this

/-- All that W has, but for block G. -/
structure KeptE (G : Nat) (W w : World) : Prop where
  os : w.os = W.os
  output : w.output = W.output
  size : W.heap.size ≤ w.heap.size
  blk : ∀ i, i < W.heap.size → i ≠ G → w.heap[i]? = W.heap[i]?
theorem KeptE.of {G : Nat} {W w : World} (h : Kept W w) : KeptE G W w := ⟨h.1.1, h.1.2.1, h.2.2, fun _ hi _ => h.blk hi⟩
theorem KeptE.refl (G : Nat) (W : World) : KeptE G W W := .of (Kept.refl W)
theorem KeptE.trans {G : Nat} {W w u : World} (h : KeptE G W w) (k : Kept w u) : KeptE G W u :=
  ⟨k.1.1.trans h.os, k.1.2.1.trans h.output, Nat.le_trans h.size k.2.2, fun i hi hg => (k.blk (Nat.lt_of_lt_of_le hi h.size)).trans (h.blk i hi hg)⟩
theorem KeptE.grown {G : Nat} {W w u : World} {row : Option Nat} (h : KeptE G W w) (k : w.grownBy u row) (hr : ∀ g, row = some g → g = G ∨ W.heap.size ≤ g) : KeptE G W u :=
  ⟨k.os.trans h.os, k.output.trans h.output, Nat.le_trans h.size k.size, fun i hi hg => (k.block i (Nat.lt_of_lt_of_le hi h.size) (fun e => by
    rcases hr i e.symm with h1 | h1
    · exact hg h1
    · omega)).trans (h.blk i hi hg)⟩
theorem KeptE.set {G : Nat} {W w : World} (h : KeptE G W w) {a : Addr} (ha : a.block = G ∨ W.heap.size ≤ a.block) (v : Value) : KeptE G W (w.setCell a v) :=
  ⟨h.os, h.output, by have := h.size; simpa [World.setCell] using this, fun i hi hg => by
    rw [Deep.blk_setCell_other w a v i (fun e => by rcases ha with h1 | h1 <;> omega)]
    exact h.blk i hi hg⟩
theorem KeptE.kept {G : Nat} {W0 W w : World} (h : KeptE G W w) (k : Kept W0 W) (hG : W0.heap.size ≤ G) : Kept W0 w :=
  kept_blk (h.os.trans k.1.1) (h.output.trans k.1.2.1) (Nat.le_trans k.2.2 h.size) fun i hi => (h.blk i (Nat.lt_of_lt_of_le hi k.2.2) (by omega)).trans (k.blk hi)
theorem KeptE.cell {G : Nat} {W w : World} (h : KeptE G W w) {b o : Nat} {v : Value} (hb : b ≠ G) (hc : W.cell? ⟨b, o, none⟩ = some v) : w.cell? ⟨b, o, none⟩ = some v := by
  rw [World.cell?_of_block (w := W) (h.blk b (World.block_lt_of_cell? W _ hc) hb)]
  exact hc
theorem KeptE.froz {G : Nat} {W w : World} (h : KeptE G W w) {b o : Nat} {f : Bool} (hb : b ≠ G) (hl : b < W.heap.size) (hc : W.frozen? ⟨b, o, none⟩ = f) : w.frozen? ⟨b, o, none⟩ = f := by
  rw [World.frozen?_of_block (w := W) (h.blk b hl hb)]
  exact hc
end Go.Proofs.Ytcldbmhjfmbcfaa

namespace Go.Proofs.Ytcldbmhjfmbcfaa
open Go.RowKit

theorem Dl.keptE {G : Nat} {w w' : World} {A : Option Addr} {n c : Nat} {L : List (Int × Int)} (h : Dl w A n c L) (hk : KeptE G w w') (hA : ∀ ad, A = some ad → ad.block ≠ G) : Dl w' A n c L :=
  ⟨h.1, h.2.1, h.2.2.1, h.2.2.2.1, h.2.2.2.2.imp id fun ⟨b, o, hA2, hc⟩ => ⟨b, o, hA2, fun j x hj => ⟨hk.cell (hA _ hA2) (hc j x hj).1, hk.cell (hA _ hA2) (hc j x hj).2⟩⟩⟩
theorem Il.keptE {G : Nat} {w w' : World} {A : Option Addr} {n c : Nat} {V : List Int} (h : Il w A n c V) (hk : KeptE G w w') (hA : ∀ ad, A = some ad → ad.block ≠ G) : Il w' A n c V :=
  ⟨h.1, h.2.1, h.2.2.1, h.2.2.2.1, h.2.2.2.2.imp id fun ⟨b, o, hA2, hc⟩ => ⟨b, o, hA2, fun j x hj => hk.cell (hA _ hA2) (hc j x hj)⟩⟩

theorem app_dots_at (w : World) (base : Nat) (v : Value) (n : Nat) (xs : List Value) (h : w.ownsRow base 42 2 v n xs) (A : Option Addr) (m c : Nat) (L : List (Int × Int)) (hs : Dl w A m c L) (hb : n + m ≤ 8000000000000) (hbase : base ≤ w.heap.size) :
    ∃ v' w', (Builtin.append_ #[24, 24] 24 #[v, .slice A m c]).run Try.prog w = .ok v' w' ∧ w'.ownsRow base 42 2 v' (n + m) (xs ++ flatD L) ∧ w.grownBy w' v.ownBlock ∧ (v'.ownBlock = v.ownBlock ∨ v'.ownBlock = some w.heap.size) := by
  obtain ⟨i0, hi0, hz0, hz1, hz2⟩ := info_parts infoDot
  cases A with
  | none =>
    obtain rfl := hs.2.2.2.1 rfl
    obtain rfl : m = 0 := by have := hs.2.1; omega
    have hL : L = [] := List.eq_nil_of_length_eq_zero hs.1.symm
    subst hL
    exact ⟨v, w, run_append_owned_none w base _ _ _ i0 2 Try.underlying24 hi0 v n xs h, by simpa [flatD_nil] using h, World.grownBy.refl w _, .inl rfl⟩
  | some ad =>
    obtain ⟨v', w', hr, ho, hg, _, hat⟩ := run_append_own_at (P := Try.prog) w base 24 24 42 i0 (.agg #[.int .i64 0, .int .i64 0]) 2 16 Try.underlying24 hi0 hz0 hz1 hz2 rfl (by decide) v n xs h ad m c (flatD L)
      (by rw [flatD_len, hs.1]) (fun j u hj => by
        obtain ⟨k, x, hk, hc⟩ := flatD_at L j u hj
        have hkl := (List.getElem?_eq_some_iff.1 hk).1
        obtain ⟨b, o, y, hA, hy, c1, c2⟩ := hs.get (k := k) (by rw [hs.1]; exact hkl)
        obtain rfl : y = x := Option.some.inj (hy.symm.trans hk)
        obtain rfl := Option.some.inj hA
        rw [Addr.add_lit]
        rcases hc with ⟨rfl, rfl⟩ | ⟨rfl, rfl⟩
        · exact c1
        · exact c2) (flatD_one _) (by simp only [maxLen]; omega) (by omega) hbase
    exact ⟨v', w', hr, ho, hg, hat⟩


section
variable {w : World} {base : Nat} {e : TypeId} {size : Nat} {v : Value} {n : Nat} {xs : List Value}
theorem own_blk {w' : World} (h : w.ownsRow base e size v n xs) (hb : ∀ g, v.ownBlock = some g → w'.heap[g]? = w.heap[g]?) : w'.ownsRow base e size v n xs := by
  obtain ⟨h1, h2⟩ := h
  refine ⟨h1, ?_⟩
  rcases h2 with h2 | ⟨g, cap, cur, rfl, hg, hh, r⟩
  · exact .inl h2
  · exact .inr ⟨g, cap, cur, rfl, hg, by rw [hb g rfl]; exact hh, r⟩
theorem own_kept {w' : World} (h : w.ownsRow base e size v n xs) (hk : Kept w w') : w'.ownsRow base e size v n xs :=
  own_blk h fun g hg => hk.blk (h.lt g hg).2
theorem own_kind (h : w.ownsRow base e size v n xs) {g : Nat} (hg : v.ownBlock = some g) : ∃ c, w.heap[g]? = some (.cells c e (0, 0)) := by
  rcases h.2 with ⟨rfl, _⟩ | ⟨g', cap, cur, rfl, _, hgg, _⟩
  · simp [Value.ownBlock] at hg
  · simp [Value.ownBlock] at hg
    subst hg
    exact ⟨cur, hgg⟩
/-- Rows of two kinds of elements lie in two blocks. -/
theorem own_apart {base' size' n' : Nat} {e' : TypeId} {u : Value} {ys : List Value} (h : w.ownsRow base e size v n xs) (k : w.ownsRow base' e' size' u n' ys) (he : e ≠ e') : v.ownBlock = none ∨ v.ownBlock ≠ u.ownBlock := by
  cases hv : v.ownBlock with
  | none => exact .inl rfl
  | some g =>
    refine .inr fun hu => ?_
    obtain ⟨c1, h1⟩ := own_kind h hv
    obtain ⟨c2, h2⟩ := own_kind k hu.symm
    rw [h1] at h2
    simp only [Option.some.injEq, Obj.cells.injEq] at h2
    exact he h2.2.1
end
theorem own_mono {w : World} {base base' : Nat} {e : TypeId} {size : Nat} {v : Value} {n : Nat} {xs : List Value} (h : w.ownsRow base e size v n xs) (hb : ∀ g, v.ownBlock = some g → base' ≤ g) : w.ownsRow base' e size v n xs := by
  obtain ⟨h1, h2⟩ := h
  refine ⟨h1, ?_⟩
  rcases h2 with h2 | ⟨g, cap, cur, rfl, hg, r⟩
  · exact .inl h2
  · exact .inr ⟨g, cap, cur, rfl, hb g rfl, r⟩
/-- A row of ints that is not empty: its cells may be read and written. -/
theorem own_int {w : World} {base : Nat} {e : TypeId} {v : Value} {n : Nat} {V : List Int} (h : w.ownsRow base e 1 v n (intsV V)) {k : Nat} {x : Int} (hx : V[k]? = some x) :
    ∃ g cap, v = .slice (some ⟨g, 0, none⟩) n cap ∧ base ≤ g ∧ n ≤ cap ∧ cap ≤ maxLen ∧ w.cell? ⟨g, k, none⟩ = some (.int .i64 x) ∧ w.frozen? ⟨g, k, none⟩ = false ∧
      ∀ y : Int, (w.setCell ⟨g, k, none⟩ (.int .i64 y)).ownsRow base e 1 v n (intsV (V.set k y)) := by
  have hk := (List.getElem?_eq_some_iff.1 hx).1
  have hcell := fun g (hg : v.ownBlock = some g) => h.cells (g := g) hg
  obtain ⟨h1, h2⟩ := h
  have hn : n = V.length := by rw [intsV_len] at h1; omega
  rcases h2 with ⟨rfl, h0⟩ | ⟨g, cap, cur, rfl, hg, hh, hnc, hcm, hcs, htk⟩
  · omega
  · have hc := hcell g rfl k _ (intsV_get hx)
    rw [Addr.add_lit, Nat.zero_add] at hc
    refine ⟨g, cap, rfl, hg, hnc, hcm, hc, by simp [World.frozen?, hh], fun y => ⟨by rw [intsV_len, List.length_set, ← intsV_len]; exact h1, .inr ⟨g, cap, cur.setIfInBounds k (.int .i64 y), rfl, hg, ?_, hnc, hcm, by rw [Array.size_setIfInBounds]; exact hcs, ?_⟩⟩⟩
    · show (w.heap.modify g _)[g]? = _
      rw [Array.getElem?_modify, if_pos rfl, hh]
      rfl
    · rw [Array.toList_setIfInBounds]
      apply List.ext_getElem?
      intro i
      have e1 : (cur.toList.take (n * 1))[i]? = (intsV V)[i]? := by rw [htk]
      rw [List.getElem?_take, List.getElem?_set]
      unfold intsV at e1 ⊢
      rw [List.getElem?_map] at e1 ⊢
      rw [List.getElem?_set]
      rw [List.getElem?_take] at e1
      by_cases hi : i < n * 1
      · rw [if_pos hi] at e1 ⊢
        by_cases hki : k = i
        · subst hki
          have hlt : k < cur.size := by omega
          simp [hlt, hk]
        · rw [if_neg hki, if_neg hki]
          exact e1
      · rw [if_neg hi] at e1 ⊢
        have hi2 : V.length ≤ i := by omega
        rw [if_neg (by omega), List.getElem?_eq_none hi2]; rfl
end Go.Proofs.Ytcldbmhjfmbcfaa

