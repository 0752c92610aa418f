/-
  What is proved: the document's kinds of layer 13 (a part of P13.4), called with any table of bounded texts and two kinds, tells whether all its values are of these kinds and right, none on the left twice, and not too many; the world has new blocks at most.
  the document's two of layer 13 (a part of P13.7): two values taken, one behind the other, whatever bytes there are; the world has new blocks at most.
  words for the taking of pairs (P13.7): a table while its pairs are taken, in a row that a block names; what Take hands back.
-/
import Derived.Test.YtjcnjmlgedmmoaaDoorM10
import Derived.Test.YtjcnjmlgedmmoaaDoorM6
import Derived.Test.YtjcnjmlgedmmoaaDoorM4
import Derived.Deep.DeepCutAuto
import Derived.Test.YtjcnjmlgedmmoaaDoorRVTake
namespace Go.Proofs.YtjcnjmlgedmmoaaDoor
open Go.RowKit
set_option linter.unusedVariables false

theorem bool_of (p : Prop) : ∃ r : Bool, r = true ↔ p := by
  by_cases h : p
  · exact ⟨true, by simp [h]⟩
  · exact ⟨false, by simp [h]⟩
theorem run_pahead (A : Option Addr) (n c k : Nat) (hk : k ≤ c) (W : World) :
    (Instr.slice 22 (.slice A n c) none (some (.int .i64 (k : Int))) none).run Tryd.prog W = .ok (.slice A k c) W := by
  rw [run_slice_h W 22 _ n c (by kernel_rfl) .i64 (k : Int) (by omega) (by omega), size_pa]
  cases A <;> simp [Result.andThen, sliced, Addr.add]
theorem run_pahead2 (A : Option Addr) (n c k : Nat) (hk : k ≤ c) (W : World) :
    (Instr.sliceAt 22 (.slice A n c) none (some (.int .i64 (k : Int))) none).run Tryd.prog W = .ok (.slice A k c) W := by
  rw [run_sliceAt_slice W _ _ _ _ _ (by kernel_rfl)]; exact run_pahead A n c k hk W
theorem rrightK (v : Va) (b : Bool) (h : rightVa v = b) (hs : v.t.size ≤ 1099511627776) (w : World) :
    Calls Tryd.prog 41 #[.agg #[.int .i64 v.k, .int .i64 v.n, .string v.t]] w fun e w' => e = .returned (.bool b) ∧ Kept w w' :=
  (rright_c v.k v.n v.t b h w (by omega)).mono fun _ _ ⟨he, hg⟩ => ⟨he, kept_of hg⟩
/-- The texts of a table's pairs are no longer than any machine holds. -/
def SzP (L : List Pa) : Prop := ∀ p ∈ L, p.f.t.size ≤ 1099511627776 ∧ p.t.t.size ≤ 1099511627776
/-- Values of two kinds, right, none on the left twice. -/
structure KinP (L : List Pa) (a b : Int) : Prop where
  ok : ∀ p ∈ L, rightVa p.f = true ∧ rightVa p.t = true ∧ p.f.k = a ∧ p.t.k = b
  once : L.Pairwise fun p q => p.f ≠ q.f
def KindsP (L : List Pa) (a b : Int) : Prop := KinP L a b ∧ L.length ≤ 8
theorem KinP.nil (a b : Int) : KinP [] a b := ⟨fun p hp => by simp at hp, .nil⟩
theorem KinP.snoc {L : List Pa} {a b : Int} {t : Nat} {x : Pa} (h : KinP (L.take t) a b) (hx : L[t]? = some x) (h1 : rightVa x.f = true ∧ rightVa x.t = true ∧ x.f.k = a ∧ x.t.k = b) (h2 : ∀ y ∈ L.take t, y.f ≠ x.f) : KinP (L.take (t + 1)) a b := by
  rw [List.take_add_one, hx, Option.toList_some]
  refine ⟨fun p hp => ?_, ?_⟩
  · rw [List.mem_append, List.mem_singleton] at hp
    rcases hp with hp | rfl
    · exact h.ok p hp
    · exact h1
  · rw [List.pairwise_append]
    exact ⟨h.once, List.pairwise_singleton _ _, fun p hp q hq => by rw [List.mem_singleton] at hq; subst hq; exact h2 p hp⟩
theorem kinP_not {L : List Pa} {a b : Int} {t : Nat} {x : Pa} (hx : L[t]? = some x) (h : ¬ (rightVa x.f = true ∧ rightVa x.t = true ∧ x.f.k = a ∧ x.t.k = b)) : ¬ KindsP L a b :=
  fun k => h (k.1.ok x (List.mem_of_getElem? hx))
theorem kinP_twice {L : List Pa} {a b : Int} {t : Nat} {x y : Pa} (hx : L[t]? = some x) (hy : y ∈ L.take t) (e : y.f = x.f) : ¬ KindsP L a b := fun k => by
  obtain ⟨i, hi⟩ := List.getElem?_of_mem hy
  rw [List.getElem?_take] at hi
  split at hi
  · rename_i hit
    obtain ⟨h1, e1⟩ := List.getElem?_eq_some_iff.1 hi
    obtain ⟨h2, e2⟩ := List.getElem?_eq_some_iff.1 hx
    have := List.pairwise_iff_getElem.1 k.1.once i t h1 h2 hit
    rw [e1, e2] at this
    exact this e
  · cases hi
theorem first_none {L : List Pa} {v : Va} {y : Pa} (h : firstR L v false = (y, false)) : ∀ p ∈ L, p.f ≠ v := by
  rw [firstR_F] at h
  split at h <;> rename_i e
  · cases (Prod.mk.inj h).2
  · exact fstF_none.1 e
theorem first_some {L : List Pa} {v : Va} {y : Pa} (h : firstR L v false = (y, true)) : y ∈ L ∧ y.f = v := by
  rw [firstR_F] at h
  split at h <;> rename_i e
  · obtain ⟨rfl, _⟩ := Prod.mk.inj h; exact fstF_some e
  · cases (Prod.mk.inj h).2
set_option maxRecDepth 100000 in
set_option maxHeartbeats 8000000 in
theorem rkinds_any (A : Option Addr) (n c : Nat) (T : Tb) (a b : Int) (w : World) (h : Pal w A n c T.L) (hz : SzP T.L) (r : Bool) (hr : r = true ↔ KindsP T.L a b) :
    Calls Tryd.prog 40 #[.agg #[.slice A n c, .bool T.keep, .int .i64 T.d.k, .int .i64 T.d.n, .string T.d.t, .int .i64 T.b.k, .int .i64 T.b.n, .string T.b.t, .bool T.tu], .int .i64 a, .int .i64 b] w fun e w' => e = .returned (.bool r) ∧ Kept w w' := by
  have hk := (Kept.refl w).alloc #[.slice A n c, .bool T.keep, .int .i64 T.d.k, .int .i64 T.d.n, .string T.d.t, .int .i64 T.b.k, .int .i64 T.b.n, .string T.b.t, .bool T.tu] 26
  have hcap := h.cap.1; have hcap2 := h.cap.2
  have HNL := Lib.hid h.1; have HSZ := Lib.hid hz; have HR := Lib.hid hr
  have HT := Lib.hid (TabB.new w A n c T 26)
  have HH := Lib.hid (h.kept hk)
  obtain ⟨U, hU⟩ : ∃ U, w.alloc (.cells #[.slice A n c, .bool T.keep, .int .i64 T.d.k, .int .i64 T.d.n, .string T.d.t, .int .i64 T.b.k, .int .i64 T.b.n, .string T.b.t, .bool T.tu] 26) = U := ⟨_, rfl⟩
  rw [hU] at hk HT HH
  have HK := Lib.hid hk; have HUU := Lib.hid hU
  have t0 := HT.out.c0
  clear h hz hr hk hU
  go_enter Tryd.func40, Tryd.ntmps40
  go_wp2_with fail
  rw [HUU.out]
  go_wp2_with fail
  clear t0
  go_loopw [14] (fun i wr => ∃ t : Nat, t ≤ n ∧ i = .int .i64 t ∧ Kept U wr ∧ KinP (T.L.take t) a b) (fun i _ => n - (intOf i).toNat)
  case atStart => exact ⟨0, Nat.zero_le _, rfl, Kept.refl _, by rw [List.take_zero]; exact KinP.nil a b⟩
  case round =>
    obtain ⟨t, ht, rfl, hkr, hpre⟩ := hrel
    have HKR := Lib.hid hkr; have HPRE := Lib.hid hpre
    clear hkr hpre
    by_cases hlt : t < n
    · obtain ⟨g, o, x, rfl, hx, EX⟩ := (HH.out.kept HKR.out).get hlt
      have x0 := EX.c0; have x1 := EX.c1; have x2 := EX.c2; have x3 := EX.c3; have x4 := EX.c4; have x5 := EX.c5
      have HXX := Lib.hid hx
      have hka := (Kept.refl wr).alloc #[.int .i64 x.f.k, .int .i64 x.f.n, .string x.f.t, .int .i64 x.t.k, .int .i64 x.t.n, .string x.t.t] 44
      have HE := Lib.hid (PaB.new wr x 44)
      have HZX := Lib.hid (HSZ.out x (List.mem_of_getElem? hx))
      obtain ⟨q1, hq1⟩ : ∃ b, rightVa x.f = b := ⟨_, rfl⟩
      obtain ⟨q2, hq2⟩ : ∃ b, rightVa x.t = b := ⟨_, rfl⟩
      have A1 := Lib.hid (fun w => rrightK x.f q1 hq1 HZX.out.1 w)
      have A2 := Lib.hid (fun w => rrightK x.t q2 hq2 HZX.out.2 w)
      have HQ1 := Lib.hid hq1; have HQ2 := Lib.hid hq2
      obtain ⟨W1, hW1⟩ : ∃ W1, wr.alloc (.cells #[.int .i64 x.f.k, .int .i64 x.f.n, .string x.f.t, .int .i64 x.t.k, .int .i64 x.t.n, .string x.t.t] 44) = W1 := ⟨_, rfl⟩
      have HKA := Lib.hid (HKR.out.trans hka)
      have hsz1 : W1.heap.size = wr.heap.size + 1 := by rw [← hW1]; simp
      rw [hW1] at HKA HE
      have HW1 := Lib.hid hW1
      clear EX hx hka hq1 hq2 hW1
      have e0 := HE.out.c0; have e1 := HE.out.c1; have e2 := HE.out.c2
      go_wp2_with fail
      rw [HW1.out]
      clear x0 x1 x2 x3 x4 x5
      go_at_call 41
      refine (A1.out _).mono ?_
      rintro e w1 ⟨rfl, hk1⟩
      replace HKA := Lib.hid (HKA.out.trans hk1); replace HE := Lib.hid (HE.out.kept hk1)
      clear hk1 e0 e1 e2
      have e0 := HE.out.c0; have e1 := HE.out.c1; have e2 := HE.out.c2; have e3 := HE.out.c3; have e4 := HE.out.c4; have e5 := HE.out.c5
      cases q1 with
      | false =>
        have HF := Lib.hid (show false = r by rw [eq_comm, ← Bool.not_eq_true, HR.out]; exact kinP_not HXX.out (fun k => by have := k.1; rw [HQ1.out] at this; cases this))
        go_wp2_with fail
        go_ret
        exact ⟨ret_bool HF.out, HK.out.trans HKA.out⟩
      | true =>
        go_wp2_with fail
        go_at_call 41
        refine (A2.out _).mono ?_
        rintro e w2 ⟨rfl, hk1⟩
        replace HKA := Lib.hid (HKA.out.trans hk1); replace HE := Lib.hid (HE.out.kept hk1)
        clear hk1 e0 e1 e2 e3 e4 e5
        have e0 := HE.out.c0; have e1 := HE.out.c1; have e2 := HE.out.c2; have e3 := HE.out.c3; have e4 := HE.out.c4; have e5 := HE.out.c5
        cases q2 with
        | false =>
          have HF := Lib.hid (show false = r by rw [eq_comm, ← Bool.not_eq_true, HR.out]; exact kinP_not HXX.out (fun k => by have := k.2.1; rw [HQ2.out] at this; cases this))
          go_wp2_with fail
          go_ret
          exact ⟨ret_bool HF.out, HK.out.trans HKA.out⟩
        | true =>
          by_cases q3 : x.f.k = a
          · by_cases q4 : x.t.k = b
            · have HOK := Lib.hid (show rightVa x.f = true ∧ rightVa x.t = true ∧ x.f.k = a ∧ x.t.k = b from ⟨HQ1.out, HQ2.out, q3, q4⟩)
              have q31 : (x.f.k == a) = true := by rw [q3]; simp
              have q32 : (x.f.k != a) = false := by rw [q3]; simp
              have q33 : decide (x.f.k = a) = true := decide_eq_true q3
              have q41 : (x.t.k == b) = true := by rw [q4]; simp
              have q42 : (x.t.k != b) = false := by rw [q4]; simp
              have q43 : decide (x.t.k = b) = true := decide_eq_true q4
              clear q3 q4
              go_wp2_with fail
              clear e0 e1 e2 e3 e4 e5 q31 q32 q33 q41 q42 q43
              obtain ⟨W2, hW2⟩ : ∃ W2, w2 = W2 := ⟨_, rfl⟩
              rw [hW2] at HKA HE ⊢
              clear hW2
              have T0 := KExt.cell (HT.out.kept HKA.out).c0
              have E0 := KExt.cell HE.out.c0; have E1 := KExt.cell HE.out.c1; have E2 := KExt.cell HE.out.c2
              have hth : t ≤ c := by omega
              have hrh := run_pahead (some ⟨g, o, none⟩) n c t hth
              have hrh2 := run_pahead2 (some ⟨g, o, none⟩) n c t hth
              have HHD := Lib.hid ((pa_head HH.out (Nat.le_of_lt hlt) hth (Nat.le_refl c)).kept HKA.out)
              obtain ⟨y, z, hyz⟩ : ∃ y z, firstR (T.L.take t) x.f false = (y, z) := ⟨_, _, rfl⟩
              have AF := Lib.hid (fun w h => rfirst_any (some ⟨g, o, none⟩) t c (T.L.take t) x.f false w h y z hyz)
              have HYZ := Lib.hid hyz
              clear hyz
              go_cut [10] (fun v wx => v = .bool z ∧ Kept W2 wx)
              case first =>
                refine region_plan W2 13 (.read [0, 1, 2, 3, 4, 5] (.two 6 (.read [7, 8, 9] (.one 10 (.one 11 (.read [12] .stop)))) 10 (.one 6 (.read [7, 8, 9] (.one 11 (.read [12] .stop)))))) (by kernel_rfl) (by kernel_rfl) (by kernel_rfl) (by kernel_rfl) (by kernel_rfl) (fun _ d _ _ _ h => by cases d <;> exact h) (Kept.refl _) ?_
                intro wd hwd
                have HV := Lib.hid hwd
                clear hwd
                rw [wpPlan_read]
                simp only [pickOps_cons, pickOps_nil, consO_some, List.getElem?_cons_zero, List.getElem?_cons_succ]
                repeat (go_big_quiet_step (fail))
                refine wpQuiet_nil ?_
                clear T0 E0 E1 E2
                rw [wpPlan_two]
                simp only [pickOps_cons, pickOps_nil, consO_some, List.getElem?_cons_zero, List.getElem?_cons_succ]
                constructor
                · go_wp2_with (go_at_call 42; refine (AF.out _ (HHD.out.kept HV.out)).mono ?_; rintro e u1 ⟨rfl, hkz⟩)
                  replace HV := Lib.hid (HV.out.trans hkz)
                  clear hkz
                  refine soloP HV.out ?_
                  rw [wpPlan_read]
                  simp only [pickOps_cons, pickOps_nil, consO_some, List.getElem?_cons_zero, List.getElem?_cons_succ]
                  repeat (go_big_quiet_step (fail))
                  refine wpQuiet_nil ?_
                  rw [wpPlan_one]
                  simp only [pickOps_cons, pickOps_nil, consO_some, List.getElem?_cons_zero, List.getElem?_cons_succ]
                  go_wp2_with fail
                  refine soloP (HV.out.alloc _ _) ?_
                  rw [wpPlan_one]
                  simp only [pickOps_cons, pickOps_nil, consO_some, List.getElem?_cons_zero, List.getElem?_cons_succ]
                  go_wp2_with fail
                  refine soloP (HV.out.alloc _ _) ?_
                  rw [wpPlan_read]
                  simp only [pickOps_cons, pickOps_nil, consO_some, List.getElem?_cons_zero, List.getElem?_cons_succ]
                  repeat (go_big_quiet_step (fail))
                  refine wpQuiet_nil ?_
                  refine wpPlan_stop ?_
                  go_wp2_with fail
                  go_meet
                  exact ⟨rfl, HV.out.alloc _ _⟩
                · go_wp2_with fail
                  have hkz := (Kept.refl wd).alloc #[.int .i64 0, .int .i64 0, .string ⟨#[]⟩, .int .i64 0, .int .i64 0, .string ⟨#[]⟩] 44
                  have HP := Lib.hid (PaB.new wd .none 44)
                  simp only [Pa.none, Va.zero] at HP
                  have hlz := HV.out.2.2
                  replace HV := Lib.hid (HV.out.trans hkz)
                  obtain ⟨bz, hbz⟩ : ∃ b, (World.heap wd).size = b := ⟨_, rfl⟩
                  obtain ⟨u1, hwz⟩ : ∃ u, World.alloc wd (.cells #[.int .i64 0, .int .i64 0, .string ⟨#[]⟩, .int .i64 0, .int .i64 0, .string ⟨#[]⟩] 44) = u := ⟨_, rfl⟩
                  rw [hwz] at HV HP ⊢
                  rw [hbz] at HP hlz ⊢
                  clear hkz hbz hwz
                  refine soloP HV.out ?_
                  rw [wpPlan_one]
                  simp only [pickOps_cons, pickOps_nil, consO_some, List.getElem?_cons_zero, List.getElem?_cons_succ]
                  go_wp2_with (go_at_call 42; refine (AF.out _ (HHD.out.kept HV.out)).mono ?_; rintro e u2 ⟨rfl, hkz⟩)
                  replace HP := Lib.hid (HP.out.kept hkz)
                  replace HV := Lib.hid (HV.out.trans hkz)
                  clear hkz
                  refine soloP HV.out ?_
                  rw [wpPlan_read]
                  simp only [pickOps_cons, pickOps_nil, consO_some, List.getElem?_cons_zero, List.getElem?_cons_succ]
                  repeat (go_big_quiet_step (fail))
                  refine wpQuiet_nil ?_
                  rw [wpPlan_one]
                  simp only [pickOps_cons, pickOps_nil, consO_some, List.getElem?_cons_zero, List.getElem?_cons_succ]
                  have p0 := HP.out.c0; have p1 := HP.out.c1; have p2 := HP.out.c2; have p3 := HP.out.c3; have p4 := HP.out.c4; have p5 := HP.out.c5; have pf := HP.out.f
                  go_wp2_with fail
                  clear p0 p1 p2 p3 p4 p5 pf
                  have HF := Lib.hid ((((((HV.out.setCell (a := ⟨bz, 0, none⟩) hlz (.int .i64 y.f.k)).setCell (a := ⟨bz, 1, none⟩) hlz (.int .i64 y.f.n)).setCell (a := ⟨bz, 2, none⟩) hlz (.string y.f.t)).setCell (a := ⟨bz, 3, none⟩) hlz (.int .i64 y.t.k)).setCell (a := ⟨bz, 4, none⟩) hlz (.int .i64 y.t.n)).setCell (a := ⟨bz, 5, none⟩) hlz (.string y.t.t))
                  refine soloP HF.out ?_
                  rw [wpPlan_read]
                  simp only [pickOps_cons, pickOps_nil, consO_some, List.getElem?_cons_zero, List.getElem?_cons_succ]
                  repeat (go_big_quiet_step (fail))
                  refine wpQuiet_nil ?_
                  refine wpPlan_stop ?_
                  go_wp2_with fail
                  go_meet
                  exact ⟨rfl, HF.out⟩
              case rest =>
                clear T0 E0 E1 E2 hrh hrh2
                obtain ⟨rfl, hkz⟩ := hcut
                replace HKA := Lib.hid (HKA.out.trans hkz)
                clear hkz
                cases z with
                | true =>
                  have HF := Lib.hid (show false = r by rw [eq_comm, ← Bool.not_eq_true, HR.out]; exact kinP_twice HXX.out (first_some HYZ.out).1 (first_some HYZ.out).2)
                  go_wp2_with fail
                  go_ret
                  exact ⟨ret_bool HF.out, HK.out.trans HKA.out⟩
                | false =>
                  have HN := Lib.hid (HPRE.out.snoc HXX.out HOK.out (first_none HYZ.out))
                  go_wp2_with fail
                  go_roundw
                  case rel => exact ⟨t + 1, hlt, by go_num, HKA.out, HN.out⟩
                  case measure => simp [intOf]; omega
            · have HF := Lib.hid (show false = r by rw [eq_comm, ← Bool.not_eq_true, HR.out]; exact kinP_not HXX.out (fun k => q4 k.2.2.2))
              have q31 : (x.f.k == a) = true := by rw [q3]; simp
              have q32 : (x.f.k != a) = false := by rw [q3]; simp
              have q33 : decide (x.f.k = a) = true := decide_eq_true q3
              have q41 : (x.t.k == b) = false := by simpa using q4
              have q42 : (x.t.k != b) = true := by simpa using q4
              have q43 : decide (x.t.k = b) = false := decide_eq_false q4
              clear q3 q4
              go_wp2_with fail
              go_ret
              exact ⟨ret_bool HF.out, HK.out.trans HKA.out⟩
          · have HF := Lib.hid (show false = r by rw [eq_comm, ← Bool.not_eq_true, HR.out]; exact kinP_not HXX.out (fun k => q3 k.2.2.1))
            have q31 : (x.f.k == a) = false := by simpa using q3
            have q32 : (x.f.k != a) = true := by simpa using q3
            have q33 : decide (x.f.k = a) = false := decide_eq_false q3
            clear q3
            go_wp2_with fail
            go_ret
            exact ⟨ret_bool HF.out, HK.out.trans HKA.out⟩
    · obtain rfl : t = n := by omega
      have t0 := (HT.out.kept HKR.out).c0
      have HALL := Lib.hid (show KinP T.L a b by
        have := HPRE.out
        rw [show T.L.take t = T.L from List.take_of_length_le (by rw [← HNL.out]; exact Nat.le_refl _)] at this
        exact this)
      by_cases h1 : t ≤ 8
      · have f1 : decide ((t : Int) ≤ (8 : Int)) = true := decide_eq_true (by omega)
        have f2 : decide (t ≤ 8) = true := decide_eq_true h1
        have HF := Lib.hid (show true = r from (HR.out.2 ⟨HALL.out, by have := HNL.out; omega⟩).symm)
        clear h1
        go_wp2_with fail
        go_ret
        exact ⟨ret_bool HF.out, HK.out.trans HKR.out⟩
      · have f1 : decide ((t : Int) ≤ (8 : Int)) = false := decide_eq_false (by omega)
        have f2 : decide (t ≤ 8) = false := decide_eq_false h1
        have HF := Lib.hid (show false = r by
          rw [eq_comm, ← Bool.not_eq_true, HR.out]
          intro s
          have := s.2; have := HNL.out; omega)
        clear h1
        go_wp2_with fail
        go_ret
        exact ⟨ret_bool HF.out, HK.out.trans HKR.out⟩
end Go.Proofs.YtjcnjmlgedmmoaaDoor

namespace Go.Proofs.YtjcnjmlgedmmoaaDoor
open Go.RowKit
set_option linter.unusedVariables false

theorem ttR_szH (s : ByteArray) (m : Int) : (ttR s m).size ≤ s.size := by
  by_cases h : ttE s m = 0
  · have := congrArg ByteArray.size (tt_aft s m h).1
    rw [ByteArray.size_append, ByteArray.size_append] at this
    omega
  · have : ttR s m = ⟨#[]⟩ := by
      unfold ttE ttL at h
      unfold ttR ttL
      by_cases h1 : tkE s ≠ 0
      · rw [if_pos h1]
      rw [if_neg h1] at h ⊢
      by_cases h2 : m < 0 ∨ m < (tkN s : Int)
      · rw [if_pos h2]
      rw [if_neg h2] at h ⊢
      by_cases h3 : (tkR s).size < tkN s
      · rw [if_pos h3]
      · rw [if_neg h3] at h; simp at h
    rw [this]
    exact Nat.zero_le _
theorem tvR_szH (s : ByteArray) : (tvR s).size ≤ s.size := by
  have h1 := tkR_size s
  have h2 := tkR_size (tkR s)
  have h3 := ttR_szH (tkR s) 200
  unfold tvR tvL
  by_cases e1 : tkE s ≠ 0
  · rw [if_pos e1]; exact Nat.zero_le _
  rw [if_neg e1]
  by_cases e2 : 3 < tkN s
  · rw [if_pos e2]; exact Nat.zero_le _
  rw [if_neg e2]
  by_cases e3 : tkN s = 0
  · rw [if_pos e3]; exact h1
  rw [if_neg e3]
  by_cases e4 : tkN s = 2
  · rw [if_pos e4]
    by_cases e5 : ttE (tkR s) 200 ≠ 0
    · rw [if_pos e5]; exact Nat.zero_le _
    · rw [if_neg e5]; exact Nat.le_trans h3 h1
  rw [if_neg e4]
  by_cases e5 : tkE (tkR s) ≠ 0
  · rw [if_pos e5]; exact Nat.zero_le _
  rw [if_neg e5]
  by_cases e6 : rightB (tkN s) (tiN (tkR s)) ⟨#[]⟩ = true
  · rw [if_pos e6]; exact Nat.le_trans h2 h1
  · rw [if_neg e6]; exact Nat.zero_le _
theorem rtakeVa (s : ByteArray) (x : Va) (r : ByteArray) (z : Nat) (hx : tVa s = x) (hr : tvR s = r) (hz : tvE s = z) (hs : s.size ≤ 100000) (w : World) :
    Calls Tryd.prog 57 #[.string s] w fun e w' => e = .returned (.tuple #[.agg #[.int .i64 x.k, .int .i64 x.n, .string x.t], .string r, .int .i64 z]) ∧ Kept w w' := by
  subst hx hr hz
  exact (rvtake_any s w hs).mono fun _ _ ⟨he, hg⟩ => ⟨he, kept_of hg⟩
theorem two_e1 {s : ByteArray} (h : tvE s ≠ 0) : twoL s = (.none, ⟨#[]⟩, tvE s) := by unfold twoL; rw [if_pos h]
theorem two_e2 {s : ByteArray} (h : tvE s = 0) (h2 : tvE (tvR s) ≠ 0) : twoL s = (.none, ⟨#[]⟩, tvE (tvR s)) := by unfold twoL; rw [if_neg (by rw [h]; simp), if_pos h2]
theorem two_ok {s : ByteArray} (h : tvE s = 0) (h2 : tvE (tvR s) = 0) : twoL s = (⟨tVa s, tVa (tvR s)⟩, tvR (tvR s), 0) := by unfold twoL; rw [if_neg (by rw [h]; simp), if_neg (by rw [h2]; simp)]
theorem twoR_szH (s : ByteArray) : (twoR s).size ≤ s.size := by
  unfold twoR
  by_cases h : tvE s = 0
  · by_cases h2 : tvE (tvR s) = 0
    · rw [two_ok h h2]; exact Nat.le_trans (tvR_szH _) (tvR_szH _)
    · rw [two_e2 h h2]; exact Nat.zero_le _
  · rw [two_e1 h]; exact Nat.zero_le _
set_option maxRecDepth 100000 in
set_option maxHeartbeats 8000000 in
theorem rtwo_any (s : ByteArray) (x : Pa) (r : ByteArray) (z : Nat) (hL : twoL s = (x, r, z)) (hs : s.size ≤ 100000) (w : World) :
    Calls Tryd.prog 30 #[.string s] w fun e w' => e = .returned (.tuple #[.agg #[.int .i64 (x).f.k, .int .i64 (x).f.n, .string (x).f.t, .int .i64 (x).t.k, .int .i64 (x).t.n, .string (x).t.t], .string r, .int .i64 z]) ∧ Kept w w' := by
  have HK := Lib.hid ((Kept.refl w).alloc #[.int .i64 0, .int .i64 0, .string ⟨#[]⟩, .int .i64 0, .int .i64 0, .string ⟨#[]⟩] 44)
  have hres := PaB.new w .none 44
  simp only [Pa.none, Va.zero] at hres
  have HRES := Lib.hid hres
  have hs1 : (tvR s).size ≤ 100000 := Nat.le_trans (tvR_szH s) hs
  clear hres
  obtain ⟨v1, hv1⟩ : ∃ v, tVa s = v := ⟨_, rfl⟩
  obtain ⟨b1, hb1⟩ : ∃ b, tvR s = b := ⟨_, rfl⟩
  obtain ⟨z1, hz1⟩ : ∃ z, tvE s = z := ⟨_, rfl⟩
  have A1 := Lib.hid (fun w => rtakeVa s v1 b1 z1 hv1 hb1 hz1 hs w)
  by_cases h1 : tvE s = 0
  · by_cases h2 : tvE (tvR s) = 0
    · have hL2 := hL
      rw [two_ok h1 h2, hb1, hv1] at hL2
      rw [hb1] at h2 hs1
      obtain ⟨v2, hv2⟩ : ∃ v, tVa b1 = v := ⟨_, rfl⟩
      obtain ⟨b2, hb2⟩ : ∃ b, tvR b1 = b := ⟨_, rfl⟩
      obtain ⟨z2, hz2⟩ : ∃ z, tvE b1 = z := ⟨_, rfl⟩
      have A2 := Lib.hid (fun w => rtakeVa b1 v2 b2 z2 hv2 hb2 hz2 hs1 w)
      obtain rfl : z1 = 0 := by omega
      rw [hv2, hb2] at hL2
      obtain ⟨rfl, hL3⟩ := Prod.mk.inj hL2
      obtain ⟨rfl, rfl⟩ := Prod.mk.inj hL3
      obtain rfl : z2 = 0 := by omega
      clear hv1 hb1 hz1 h1 hv2 hb2 hz2 h2 hL hL2 hL3 hs hs1
      go_enter Tryd.func30, Tryd.ntmps30
      go_wp2_with fail
      go_at_call 57
      refine (A1.out _).mono ?_
      rintro e w1 ⟨rfl, hk⟩
      have hka := hk.trans ((Kept.refl w1).alloc #[.int .i64 v1.k, .int .i64 v1.n, .string v1.t] 24)
      replace HK := Lib.hid (HK.out.trans hka); replace HRES := Lib.hid (HRES.out.kept hka)
      have HV1 := Lib.hid (VaO.new w1 v1 24)
      clear hk hka
      go_wp2_with fail
      go_at_call 57
      refine (A2.out _).mono ?_
      rintro e w2 ⟨rfl, hk⟩
      have hka := hk.trans ((Kept.refl w2).alloc #[.int .i64 v2.k, .int .i64 v2.n, .string v2.t] 24)
      replace HK := Lib.hid (HK.out.trans hka); replace HRES := Lib.hid (HRES.out.kept hka)
      replace HV1 := Lib.hid (HV1.out.kept hka)
      have HV2 := Lib.hid (VaO.new w2 v2 24)
      clear hk hka
      have p0 := HV1.out.c0; have p1 := HV1.out.c1; have p2 := HV1.out.c2; have q0 := HV2.out.c0; have q1 := HV2.out.c1; have q2 := HV2.out.c2
      have hr := HRES.out
      have rf := hr.f
      have r0 := hr.c0; have r1 := hr.c1; have r2 := hr.c2; have r3 := hr.c3; have r4 := hr.c4; have r5 := hr.c5
      clear hr
      go_wp2_with fail
      refine bodyPost_ret (by simp [results, Tryd.results30, go_sem, *]) rfl ⟨rfl, ?_⟩
      exact (((((HK.out.setCell (Nat.le_refl _) _).setCell (Nat.le_refl _) _).setCell (Nat.le_refl _) _).setCell (Nat.le_refl _) _).setCell (Nat.le_refl _) _).setCell (Nat.le_refl _) _
    · have hL2 := hL
      rw [two_e2 h1 h2, hb1] at hL2
      rw [hb1] at h2 hs1
      obtain ⟨v2, hv2⟩ : ∃ v, tVa b1 = v := ⟨_, rfl⟩
      obtain ⟨b2, hb2⟩ : ∃ b, tvR b1 = b := ⟨_, rfl⟩
      obtain ⟨z2, hz2⟩ : ∃ z, tvE b1 = z := ⟨_, rfl⟩
      have A2 := Lib.hid (fun w => rtakeVa b1 v2 b2 z2 hv2 hb2 hz2 hs1 w)
      obtain rfl : z1 = 0 := by omega
      rw [hz2] at hL2
      obtain ⟨rfl, hL3⟩ := Prod.mk.inj hL2
      obtain ⟨rfl, rfl⟩ := Prod.mk.inj hL3
      simp only [Pa.none, Va.zero]
      have hzn : z2 ≠ 0 := by omega
      have f1' : ((z2 : Int) == 0) = false := by simp; omega
      have f2' : ((z2 : Int) != 0) = true := by simp; omega
      have f3' : decide ((z2 : Int) = 0) = false := decide_eq_false (by omega)
      clear hv1 hb1 hz1 h1 hv2 hb2 hz2 h2 hL hL2 hL3 hs hs1 hzn
      go_enter Tryd.func30, Tryd.ntmps30
      go_wp2_with fail
      go_at_call 57
      refine (A1.out _).mono ?_
      rintro e w1 ⟨rfl, hk⟩
      have hka := hk.trans ((Kept.refl w1).alloc #[.int .i64 v1.k, .int .i64 v1.n, .string v1.t] 24)
      replace HK := Lib.hid (HK.out.trans hka); replace HRES := Lib.hid (HRES.out.kept hka)
      have HV1 := Lib.hid (VaO.new w1 v1 24)
      clear hk hka
      go_wp2_with fail
      go_at_call 57
      refine (A2.out _).mono ?_
      rintro e w2 ⟨rfl, hk⟩
      have hka := hk.trans ((Kept.refl w2).alloc #[.int .i64 v2.k, .int .i64 v2.n, .string v2.t] 24)
      replace HK := Lib.hid (HK.out.trans hka); replace HRES := Lib.hid (HRES.out.kept hka)
      replace HV1 := Lib.hid (HV1.out.kept hka)
      have HV2 := Lib.hid (VaO.new w2 v2 24)
      clear hk hka
      have hr := HRES.out
      have rf := hr.f
      have r0 := hr.c0; have r1 := hr.c1; have r2 := hr.c2; have r3 := hr.c3; have r4 := hr.c4; have r5 := hr.c5
      clear hr
      go_wp2_with fail
      refine bodyPost_ret (by simp [results, Tryd.results30, go_sem, *]) rfl ⟨rfl, ?_⟩
      exact (((((HK.out.setCell (Nat.le_refl _) _).setCell (Nat.le_refl _) _).setCell (Nat.le_refl _) _).setCell (Nat.le_refl _) _).setCell (Nat.le_refl _) _).setCell (Nat.le_refl _) _
  · have hL2 := hL
    rw [two_e1 h1, hz1] at hL2
    obtain ⟨rfl, hL3⟩ := Prod.mk.inj hL2
    obtain ⟨rfl, rfl⟩ := Prod.mk.inj hL3
    simp only [Pa.none, Va.zero]
    have hzn : z1 ≠ 0 := by omega
    have f1' : ((z1 : Int) == 0) = false := by simp; omega
    have f2' : ((z1 : Int) != 0) = true := by simp; omega
    have f3' : decide ((z1 : Int) = 0) = false := decide_eq_false (by omega)
    clear hv1 hb1 hz1 h1 hL hL2 hL3 hs hs1 hzn
    go_enter Tryd.func30, Tryd.ntmps30
    go_wp2_with fail
    go_at_call 57
    refine (A1.out _).mono ?_
    rintro e w1 ⟨rfl, hk⟩
    have hka := hk.trans ((Kept.refl w1).alloc #[.int .i64 v1.k, .int .i64 v1.n, .string v1.t] 24)
    replace HK := Lib.hid (HK.out.trans hka); replace HRES := Lib.hid (HRES.out.kept hka)
    have HV1 := Lib.hid (VaO.new w1 v1 24)
    clear hk hka
    have HEND := HRES
    have hr := HRES.out
    have rf := hr.f
    have r0 := hr.c0; have r1 := hr.c1; have r2 := hr.c2; have r3 := hr.c3; have r4 := hr.c4; have r5 := hr.c5
    clear hr
    go_wp2_with fail
    refine bodyPost_ret (by simp [results, Tryd.results30, go_sem, *]) rfl ⟨rfl, ?_⟩
    exact (((((HK.out.setCell (Nat.le_refl _) _).setCell (Nat.le_refl _) _).setCell (Nat.le_refl _) _).setCell (Nat.le_refl _) _).setCell (Nat.le_refl _) _).setCell (Nat.le_refl _) _
end Go.Proofs.YtjcnjmlgedmmoaaDoor

namespace Go.Proofs.YtjcnjmlgedmmoaaDoor
open Go.RowKit
set_option linter.unusedVariables false

/-- A table in a block of its own, that has no values beside its pairs. -/
structure TabZ (w : World) (b : Nat) (u : Value) (kp tu : Bool) : Prop where
  c0 : w.cell? ⟨b, 0, none⟩ = some u
  c1 : w.cell? ⟨b, 1, none⟩ = some (.bool kp)
  c2 : w.cell? ⟨b, 2, none⟩ = some (.int .i64 0)
  c3 : w.cell? ⟨b, 3, none⟩ = some (.int .i64 0)
  c4 : w.cell? ⟨b, 4, none⟩ = some (.string ⟨#[]⟩)
  c5 : w.cell? ⟨b, 5, none⟩ = some (.int .i64 0)
  c6 : w.cell? ⟨b, 6, none⟩ = some (.int .i64 0)
  c7 : w.cell? ⟨b, 7, none⟩ = some (.string ⟨#[]⟩)
  c8 : w.cell? ⟨b, 8, none⟩ = some (.bool tu)
  f : ∀ j, w.frozen? ⟨b, j, none⟩ = false
  lt : b < w.heap.size
theorem TabZ.kept {w w' : World} {b : Nat} {u : Value} {kp tu : Bool} (h : TabZ w b u kp tu) (hg : Kept w w') : TabZ w' b u kp tu :=
  ⟨hg.cell h.c0, hg.cell h.c1, hg.cell h.c2, hg.cell h.c3, hg.cell h.c4, hg.cell h.c5, hg.cell h.c6, hg.cell h.c7, hg.cell h.c8, fun j => (hg.2.1 ⟨b, j, none⟩ h.lt).trans (h.f j), Nat.lt_of_lt_of_le h.lt hg.2.2⟩
theorem TabZ.keptE {G : Nat} {w w' : World} {b : Nat} {u : Value} {kp tu : Bool} (h : TabZ w b u kp tu) (k : KeptE G w w') (hb : b ≠ G) : TabZ w' b u kp tu :=
  ⟨k.cell hb h.c0, k.cell hb h.c1, k.cell hb h.c2, k.cell hb h.c3, k.cell hb h.c4, k.cell hb h.c5, k.cell hb h.c6, k.cell hb h.c7, k.cell hb h.c8, fun j => by
    have := h.f j
    have e := k.blk b h.lt hb
    unfold World.frozen? at this ⊢
    rw [e]; exact this, Nat.lt_of_lt_of_le h.lt k.size⟩
theorem TabZ.new (w : World) (kp tu : Bool) (ty : TypeId) : TabZ (w.alloc (.cells #[.slice none 0 0, .bool kp, .int .i64 0, .int .i64 0, .string ⟨#[]⟩, .int .i64 0, .int .i64 0, .string ⟨#[]⟩, .bool tu] ty)) w.heap.size (.slice none 0 0) kp tu :=
  ⟨(Kept.refl _).box 0 _ rfl, (Kept.refl _).box 1 _ rfl, (Kept.refl _).box 2 _ rfl, (Kept.refl _).box 3 _ rfl, (Kept.refl _).box 4 _ rfl, (Kept.refl _).box 5 _ rfl, (Kept.refl _).box 6 _ rfl, (Kept.refl _).box 7 _ rfl, (Kept.refl _).box 8 _ rfl, fun j => by rw [frozen?_alloc_cells]; simp [World.frozen?], by simp⟩
theorem cell_beside {w : World} {b i j : Nat} {v u : Value} (hij : i ≠ j) (h : w.cell? ⟨b, j, none⟩ = some u) : (w.setCell ⟨b, i, none⟩ v).cell? ⟨b, j, none⟩ = some u := by
  rw [World.cell?_setCell_other _ _ _ _ (fun e => hij (by cases e; rfl))]; exact h
theorem TabZ.set0 {w : World} {b : Nat} {u : Value} {kp tu : Bool} (h : TabZ w b u kp tu) (v : Value) : TabZ (w.setCell ⟨b, 0, none⟩ v) b v kp tu :=
  ⟨World.cell?_setCell_same _ _ _ h.c0, cell_beside (by decide) h.c1, cell_beside (by decide) h.c2, cell_beside (by decide) h.c3, cell_beside (by decide) h.c4, cell_beside (by decide) h.c5, cell_beside (by decide) h.c6, cell_beside (by decide) h.c7, cell_beside (by decide) h.c8,
   fun j => by rw [World.frozen?_setCell]; exact h.f j, by have := h.lt; simpa [World.setCell] using this⟩
theorem TabZ.fill {w : World} {b : Nat} {A : Option Addr} {n c : Nat} {kp tu : Bool} (h : TabZ w b (.slice A n c) kp tu) (L : List Pa) (x : Pa) : TabB (World.setCell (World.setCell (World.setCell (World.setCell (World.setCell (World.setCell w ⟨b, 2, none⟩ (.int .i64 x.f.k)) ⟨b, 3, none⟩ (.int .i64 x.f.n)) ⟨b, 4, none⟩ (.string x.f.t)) ⟨b, 5, none⟩ (.int .i64 x.t.k)) ⟨b, 6, none⟩ (.int .i64 x.t.n)) ⟨b, 7, none⟩ (.string x.t.t)) b A n c ⟨L, kp, x.f, x.t, tu⟩ :=
  ⟨cell_beside (by decide) (cell_beside (by decide) (cell_beside (by decide) (cell_beside (by decide) (cell_beside (by decide) (cell_beside (by decide) (h.c0)))))), cell_beside (by decide) (cell_beside (by decide) (cell_beside (by decide) (cell_beside (by decide) (cell_beside (by decide) (cell_beside (by decide) (h.c1)))))), cell_beside (by decide) (cell_beside (by decide) (cell_beside (by decide) (cell_beside (by decide) (cell_beside (by decide) (World.cell?_setCell_same _ _ _ (h.c2)))))), cell_beside (by decide) (cell_beside (by decide) (cell_beside (by decide) (cell_beside (by decide) (World.cell?_setCell_same _ _ _ (cell_beside (by decide) (h.c3)))))), cell_beside (by decide) (cell_beside (by decide) (cell_beside (by decide) (World.cell?_setCell_same _ _ _ (cell_beside (by decide) (cell_beside (by decide) (h.c4)))))), cell_beside (by decide) (cell_beside (by decide) (World.cell?_setCell_same _ _ _ (cell_beside (by decide) (cell_beside (by decide) (cell_beside (by decide) (h.c5)))))), cell_beside (by decide) (World.cell?_setCell_same _ _ _ (cell_beside (by decide) (cell_beside (by decide) (cell_beside (by decide) (cell_beside (by decide) (h.c6)))))), World.cell?_setCell_same _ _ _ (cell_beside (by decide) (cell_beside (by decide) (cell_beside (by decide) (cell_beside (by decide) (cell_beside (by decide) (h.c7)))))), cell_beside (by decide) (cell_beside (by decide) (cell_beside (by decide) (cell_beside (by decide) (cell_beside (by decide) (cell_beside (by decide) (h.c8)))))),
   fun j => by rw [World.frozen?_setCell, World.frozen?_setCell, World.frozen?_setCell, World.frozen?_setCell, World.frozen?_setCell, World.frozen?_setCell]; exact h.f j, by have := h.lt; simpa [World.setCell] using this⟩
/-- The row, and the block that names it. -/
structure TakP (b : Nat) (U wr : World) (v : Value) (L : List Pa) (kp tu : Bool) : Prop where
  own : wr.ownsRow U.heap.size 44 6 v L.length (flatPa L)
  box : TabZ wr b v kp tu
  ke : KeptE b U wr
theorem TakP.start {b : Nat} {U : World} {kp tu : Bool} (h : TabZ U b (.slice none 0 0) kp tu) : TakP b U U (.slice none 0 0) [] kp tu := ⟨World.ownsRow_nil _ _ _ _, h, KeptE.refl _ _⟩
theorem TakP.kept {b : Nat} {U wr w' : World} {v : Value} {L : List Pa} {kp tu : Bool} (h : TakP b U wr v L kp tu) (k : Kept wr w') : TakP b U w' v L kp tu := ⟨own_kept h.own k, h.box.kept k, h.ke.trans k⟩
theorem TakP.form {b : Nat} {U wr : World} {v : Value} {L : List Pa} {kp tu : Bool} (h : TakP b U wr v L kp tu) : ∃ A c, v = .slice A L.length c ∧ Pal wr A L.length c L ∧ ∀ ad, A = some ad → U.heap.size ≤ ad.block := Pal.of_own' h.own
theorem TakP.app {b : Nat} {U wr : World} {v : Value} {L : List Pa} {kp tu : Bool} (h : TakP b U wr v L kp tu) (hb : b < U.heap.size) (A : Option Addr) (m c : Nat) (M : List Pa) (hs : Pal wr A m c M) (hl : L.length + m ≤ 1000000) :
    ∃ v' w', (Builtin.append_ #[22, 22] 22 #[v, .slice A m c]).run Tryd.prog wr = .ok v' w' ∧ w'.cell? ⟨b, 0, none⟩ = some v ∧ (∀ j, w'.frozen? ⟨b, j, none⟩ = false) ∧ TakP b U (w'.setCell ⟨b, 0, none⟩ v') v' (L ++ M) kp tu := by
  obtain ⟨v', w', hr, ho, hg, hat⟩ := app_pas wr U.heap.size v L.length (flatPa L) h.own A m c M hs (by omega) h.ke.size
  have hne : ∀ g, v.ownBlock = some g → g ≠ b := fun g hg2 e => by have := (h.own.lt g hg2).1; omega
  have hk : ∃ G, G ≠ b ∧ KeptE G wr w' := by
    rcases hv : v.ownBlock with _ | G
    · exact ⟨b + 1, by omega, (KeptE.refl _ wr).grown hg fun g hg2 => by rw [hv] at hg2; cases hg2⟩
    · exact ⟨G, hne G hv, (KeptE.refl G wr).grown hg fun g hg2 => .inl (by rw [hv] at hg2; exact (Option.some.inj hg2).symm)⟩
  obtain ⟨G, hG, hkG⟩ := hk
  have hbox := h.box.keptE hkG (fun e => hG e.symm)
  have hne' : ∀ g, v'.ownBlock = some g → g ≠ b := fun g hg2 e => by have := (ho.lt g hg2).1; omega
  refine ⟨v', w', hr, hbox.c0, hbox.f, ⟨?_, hbox.set0 v', ?_⟩⟩
  · rw [List.length_append, flatPa_app, ← hs.1]
    exact own_blk ho fun g hg2 => Deep.blk_setCell_other w' _ _ g (fun e => hne' g hg2 e)
  · have h1 : KeptE b U w' := h.ke.grown hg fun g hg2 => .inr (h.own.lt g hg2).1
    exact h1.set (.inl rfl) _
theorem Pal.setLow {w : World} {A : Option Addr} {n c B : Nat} {L : List Pa} (h : Pal w A n c L) (hA : ∀ ad, A = some ad → B ≤ ad.block) (b i : Nat) (hb : b < B) (v : Value) : Pal (w.setCell ⟨b, i, none⟩ v) A n c L :=
  ⟨h.1, h.2.1, h.2.2.1, h.2.2.2.1, h.2.2.2.2.imp id fun ⟨g, o, hg, hc⟩ => ⟨g, o, hg, fun j x hj => PaO.of_flat fun i2 u hu => by
    have hcell := (hc j x hj).flat i2 u hu
    have := hA _ hg
    rw [World.cell?_setCell_other _ _ _ _ (fun e => by cases e; simp only at this; omega)]
    exact hcell⟩⟩
/-- P13.7: what Take hands back. -/
def TakH (s : ByteArray) (w : World) (e : Ending) (w' : World) : Prop :=
  ∃ A c, e = .returned (.tuple #[.agg #[.slice A (ttbL s).1.L.length c, .bool (ttbL s).1.keep, .int .i64 (ttbL s).1.d.k, .int .i64 (ttbL s).1.d.n, .string (ttbL s).1.d.t, .int .i64 (ttbL s).1.b.k, .int .i64 (ttbL s).1.b.n, .string (ttbL s).1.b.t, .bool (ttbL s).1.tu], .string (ttbL s).2.1, .int .i64 ((ttbL s).2.2 : Int)]) ∧ Pal w' A (ttbL s).1.L.length c (ttbL s).1.L ∧ Kept w w'
theorem takH_err {s : ByteArray} {z : Nat} (h : ttbL s = (.none, ⟨#[]⟩, z)) {w w' : World} (hk : Kept w w') : TakH s w (.returned (.tuple #[.agg #[.slice none 0 0, .bool false, .int .i64 0, .int .i64 0, .string ⟨#[]⟩, .int .i64 0, .int .i64 0, .string ⟨#[]⟩, .bool false], .string ⟨#[]⟩, .int .i64 (z : Int)])) w' := by
  unfold TakH
  rw [h]
  exact ⟨none, 0, rfl, Pal.nil _, hk⟩
theorem takH_ok {s r : ByteArray} {X : Tb} (h : ttbL s = (X, r, 0)) {w w' : World} {A : Option Addr} {c : Nat} (hf : Pal w' A X.L.length c X.L) (hk : Kept w w') : TakH s w (.returned (.tuple #[.agg #[.slice A X.L.length c, .bool X.keep, .int .i64 X.d.k, .int .i64 X.d.n, .string X.d.t, .int .i64 X.b.k, .int .i64 X.b.n, .string X.b.t, .bool X.tu], .string r, .int .i64 0])) w' := by
  unfold TakH
  rw [h]
  exact ⟨A, c, rfl, hf, hk⟩
theorem bits_keep {m : Nat} (h : m ≤ 3) : decide (0 < Go.bits BinOp.and IntKind.u64 (m : Int) 1) = decide (m % 2 = 1) := by
  obtain rfl | rfl | rfl | rfl : m = 0 ∨ m = 1 ∨ m = 2 ∨ m = 3 := by omega
  all_goals kernel_rfl
theorem bits_tu {m : Nat} (h : m ≤ 3) : decide (0 < Go.bits BinOp.and IntKind.u64 (m : Int) 2) = decide (2 ≤ m) := by
  obtain rfl | rfl | rfl | rfl : m = 0 ∨ m = 1 ∨ m = 2 ∨ m = 3 := by omega
  all_goals kernel_rfl
end Go.Proofs.YtjcnjmlgedmmoaaDoor

