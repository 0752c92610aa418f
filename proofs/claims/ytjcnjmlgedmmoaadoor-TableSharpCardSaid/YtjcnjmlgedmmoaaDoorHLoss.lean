/-
  What is proved: the document's Lossless of layer 13 (P13.5), called with any table of bounded texts and two kinds, tells whether it loses nothing; the world has new blocks at most.
-/
import Derived.Test.YtjcnjmlgedmmoaaDoorHRight
namespace Go.Proofs.YtjcnjmlgedmmoaaDoor
open Go.RowKit
set_option linter.unusedVariables false

theorem va_cz {x : Va} {k n : Int} (h : x = ⟨k, n, ⟨#[]⟩⟩) : (x.k == k) = true ∧ (x.n == n) = true ∧ x.t.toList = [] := by
  subst h
  exact ⟨by simp, by simp, by show (⟨#[]⟩ : ByteArray).toList = []; rw [Lib.toList_data]⟩
theorem va_ncz {x : Va} {k n : Int} (h : x ≠ ⟨k, n, ⟨#[]⟩⟩) : (x.k == k) = false ∨ ((x.k == k) = true ∧ (x.n == n) = false) ∨ ((x.k == k) = true ∧ (x.n == n) = true ∧ ¬ x.t.toList = []) := by
  rcases va_ne h with h0 | ⟨h0, h1⟩ | ⟨h0, h1, h2⟩
  · exact .inl h0
  · exact .inr (.inl ⟨h0, h1⟩)
  · refine .inr (.inr ⟨h0, h1, fun e => ?_⟩)
    rw [e] at h2
    rw [show (Va.mk k n ⟨#[]⟩).t.toList = [] by show (⟨#[]⟩ : ByteArray).toList = []; rw [Lib.toList_data]] at h2
    simp at h2
theorem rapplyK (A : Option Addr) (n c : Nat) (T : Tb) (v : Va) (R : Va) (hR : applyT T v = R) (w : World) (h : Pal w A n c T.L) :
    Calls Tryd.prog 13 #[.agg #[.slice A n c, .bool T.keep, .int .i64 T.d.k, .int .i64 T.d.n, .string T.d.t, .int .i64 T.b.k, .int .i64 T.b.n, .string T.b.t, .bool T.tu], .agg #[.int .i64 v.k, .int .i64 v.n, .string v.t]] w fun e w' => e = .returned (.agg #[.int .i64 R.k, .int .i64 R.n, .string R.t]) ∧ Kept w w' := rapply_any A n c T v w h R hR
theorem rwayK (A : Option Addr) (n c : Nat) (T : Tb) (v : Va) (R : Va) (hR : wayT T v = R) (w : World) (h : Pal w A n c T.L) :
    Calls Tryd.prog 15 #[.agg #[.slice A n c, .bool T.keep, .int .i64 T.d.k, .int .i64 T.d.n, .string T.d.t, .int .i64 T.b.k, .int .i64 T.b.n, .string T.b.t, .bool T.tu], .agg #[.int .i64 v.k, .int .i64 v.n, .string v.t]] w fun e w' => e = .returned (.agg #[.int .i64 R.k, .int .i64 R.n, .string R.t]) ∧ Kept w w' := rway_any A n c T v w h R hR
/-- Of the pairs so far: each right value is on a left, and none on a right twice. -/
structure OnL (L M : List Pa) : Prop where
  left : ∀ p ∈ M, ∃ q ∈ L, q.f = p.t
  once : M.Pairwise fun p q => p.t ≠ q.t
theorem OnL.nil (L : List Pa) : OnL L [] := ⟨fun p hp => by simp at hp, .nil⟩
theorem OnL.snoc {L : List Pa} {t : Nat} {x : Pa} (h : OnL L (L.take t)) (hx : L[t]? = some x) (h1 : ∃ q ∈ L, q.f = x.t) (h2 : ∀ y ∈ L.take t, y.t ≠ x.t) : OnL L (L.take (t + 1)) := by
  rw [List.take_add_one, hx, Option.toList_some]
  refine ⟨fun p hp => ?_, ?_⟩
  · rw [List.mem_append, List.mem_singleton] at hp
    rcases hp with hp | rfl
    · exact h.left p hp
    · exact h1
  · rw [List.pairwise_append]
    exact ⟨h.once, List.pairwise_singleton _ _, fun p hp q hq => by rw [List.mem_singleton] at hq; subst hq; exact h2 p hp⟩
theorem pw_twice {L : List Pa} {t : Nat} {x y : Pa} (hx : L[t]? = some x) (hy : y ∈ L.take t) (e : y.t = x.t) (k : L.Pairwise fun p q => p.t ≠ q.t) : False := by
  obtain ⟨i, hi⟩ := List.getElem?_of_mem hy
  rw [List.getElem?_take] at hi
  split at hi
  · rename_i hit
    obtain ⟨h1, e1⟩ := List.getElem?_eq_some_iff.1 hi
    obtain ⟨h2, e2⟩ := List.getElem?_eq_some_iff.1 hx
    have := List.pairwise_iff_getElem.1 k i t h1 h2 hit
    rw [e1, e2] at this
    exact this e
  · cases hi
theorem first_fr {L : List Pa} {v : Va} {y : Pa} {z : Bool} (h : firstR L v false = (y, z)) : z = true ↔ ∃ q ∈ L, q.f = v := by
  rw [firstR_F] at h
  split at h <;> rename_i e <;> obtain ⟨_, rfl⟩ := Prod.mk.inj h
  · rename_i p _
    simp only [true_iff]
    exact ⟨p, (fstF_some e).1, (fstF_some e).2⟩
  · simp only [Bool.false_eq_true, false_iff, not_exists, not_and]
    exact fstF_none.1 e
theorem first_tt {L : List Pa} {v : Va} {y : Pa} (h : firstR L v true = (y, true)) : y ∈ L ∧ y.t = v := by
  rw [firstR_T] at h
  split at h <;> rename_i e
  · obtain ⟨rfl, _⟩ := Prod.mk.inj h; exact fstT_some e
  · cases (Prod.mk.inj h).2
theorem first_tf {L : List Pa} {v : Va} {y : Pa} (h : firstR L v true = (y, false)) : ∀ p ∈ L, p.t ≠ v := by
  rw [firstR_T] at h
  split at h <;> rename_i e
  · cases (Prod.mk.inj h).2
  · exact fstT_none.1 e
set_option maxRecDepth 100000 in
set_option maxHeartbeats 8000000 in
theorem rtl_any (A : Option Addr) (n c : Nat) (T : Tb) (a b : Int) (w : World) (h : Pal w A n c T.L) (hz : SzP T.L) (hd : T.d.t.size ≤ 1099511627776) (hb : T.b.t.size ≤ 1099511627776) (r : Bool) (hr : r = true ↔ LossT T a b) :
    Calls Tryd.prog 21 #[.agg #[.slice A n c, .bool T.keep, .int .i64 T.d.k, .int .i64 T.d.n, .string T.d.t, .int .i64 T.b.k, .int .i64 T.b.n, .string T.b.t, .bool T.tu], .int .i64 a, .int .i64 b] w fun e w' => e = .returned (.bool r) ∧ Kept w w' := by
  have hk := (Kept.refl w).alloc #[.slice A n c, .bool T.keep, .int .i64 T.d.k, .int .i64 T.d.n, .string T.d.t, .int .i64 T.b.k, .int .i64 T.b.n, .string T.b.t, .bool T.tu] 26
  have hcap := h.cap.1; have hcap2 := h.cap.2
  have HNL := Lib.hid h.1
  have HT := Lib.hid (TabB.new w A n c T 26)
  have HH := Lib.hid (h.kept hk)
  obtain ⟨U, hU⟩ : ∃ U, w.alloc (.cells #[.slice A n c, .bool T.keep, .int .i64 T.d.k, .int .i64 T.d.n, .string T.d.t, .int .i64 T.b.k, .int .i64 T.b.n, .string T.b.t, .bool T.tu] 26) = U := ⟨_, rfl⟩
  rw [hU] at hk HT HH
  have HK := Lib.hid hk; have HUU := Lib.hid hU
  obtain ⟨k, hkk⟩ := bool_of (RightT T a b)
  have AK := Lib.hid (fun w h => rtr_any A n c T a b w h hz hd hb k hkk)
  have HKD := Lib.hid hkk; have HR := Lib.hid hr
  clear h hz hd hb hk hU hkk hr
  have t0 := HT.out.c0; have t1 := HT.out.c1; have t2 := HT.out.c2; have t3 := HT.out.c3; have t4 := HT.out.c4; have t5 := HT.out.c5; have t6 := HT.out.c6; have t7 := HT.out.c7; have t8 := HT.out.c8
  go_enter Tryd.func21, Tryd.ntmps21
  go_wp2_with fail
  rw [HUU.out]
  go_wp2_with fail
  go_at_call 19
  refine (AK.out _ HH.out).mono ?_
  rintro e w1 ⟨rfl, hk1⟩
  replace HK := Lib.hid (HK.out.trans hk1); replace HT := Lib.hid (HT.out.kept hk1); replace HH := Lib.hid (HH.out.kept hk1)
  clear t0 t1 t2 t3 t4 t5 t6 t7 t8
  clear hk1
  have t0 := HT.out.c0; have t1 := HT.out.c1; have t2 := HT.out.c2; have t3 := HT.out.c3; have t4 := HT.out.c4; have t5 := HT.out.c5; have t6 := HT.out.c6; have t7 := HT.out.c7; have t8 := HT.out.c8
  cases k with
  | false =>
    have HF := Lib.hid (show false = r by rw [eq_comm, ← Bool.not_eq_true, HR.out]; exact fun k => by have := HKD.out.2 k.1; cases this)
    go_wp2_with fail
    go_ret
    exact ⟨ret_bool HF.out, HK.out⟩
  | true =>
    have HKR := Lib.hid (show RightT T a b by simpa using HKD.out)
    rcases Bool.eq_false_or_eq_true T.keep with hkp | hkp
    · rw [hkp] at t1
      have HKP := Lib.hid hkp
      clear hkp
      go_wp2_with fail
      clear t0 t1 t2 t3 t4 t5 t6 t7 t8
      obtain ⟨V, hV⟩ : ∃ V, w1 = V := ⟨_, rfl⟩
      rw [hV] at HK HT HH ⊢
      clear hV
      go_loopw [61] (fun i wr => ∃ t : Nat, t ≤ n ∧ i = .int .i64 t ∧ Kept V wr ∧ OnL T.L (T.L.take t)) (fun i _ => n - (intOf i).toNat)
      case atStart => exact ⟨0, Nat.zero_le _, rfl, Kept.refl _, by rw [List.take_zero]; exact OnL.nil _⟩
      case round =>
        obtain ⟨t, ht, rfl, hkr, hall⟩ := hrel
        have HKRR := Lib.hid hkr; have HA := Lib.hid hall
        clear hkr hall
        by_cases hlt : t < n
        · obtain ⟨g, o, x, rfl, hx, EX⟩ := (HH.out.kept HKRR.out).get hlt
          have x0 := EX.c0; have x1 := EX.c1; have x2 := EX.c2; have x3 := EX.c3; have x4 := EX.c4; have x5 := EX.c5
          have HXX := Lib.hid hx
          have hka := (Kept.refl wr).alloc #[.int .i64 x.f.k, .int .i64 x.f.n, .string x.f.t, .int .i64 x.t.k, .int .i64 x.t.n, .string x.t.t] 44
          have HE := Lib.hid (PaB.new wr x 44)
          have t0 := (HT.out.kept (HKRR.out.trans hka)).c0
          obtain ⟨W1, hW1⟩ : ∃ W1, wr.alloc (.cells #[.int .i64 x.f.k, .int .i64 x.f.n, .string x.f.t, .int .i64 x.t.k, .int .i64 x.t.n, .string x.t.t] 44) = W1 := ⟨_, rfl⟩
          have HKA := Lib.hid (HKRR.out.trans hka)
          rw [hW1] at HKA HE
          have HW1 := Lib.hid hW1
          clear EX hx hka hW1
          obtain ⟨y0, z0, hyz0⟩ : ∃ y z, firstR T.L x.t false = (y, z) := ⟨_, _, rfl⟩
          have AF0 := Lib.hid (fun w h => rfirst_any (some ⟨g, o, none⟩) n c T.L x.t false w h y0 z0 hyz0)
          obtain ⟨y, z, hyz⟩ : ∃ y z, firstR (T.L.take t) x.t true = (y, z) := ⟨_, _, rfl⟩
          have AF := Lib.hid (fun w h => rfirst_any (some ⟨g, o, none⟩) t c (T.L.take t) x.t true w h y z hyz)
          have HYZ0 := Lib.hid (first_fr hyz0); have HYZ := Lib.hid hyz
          clear hyz0 hyz
          go_wp2_with fail
          rw [HW1.out]
          clear x0 x1 x2 x3 x4 x5
          go_at_call 42
          refine (AF0.out _ (HH.out.kept HKA.out)).mono ?_
          rintro e w2 ⟨rfl, hk2⟩
          have hka := (Kept.refl w2).alloc #[.int .i64 y0.f.k, .int .i64 y0.f.n, .string y0.f.t, .int .i64 y0.t.k, .int .i64 y0.t.n, .string y0.t.t] 44
          replace HKA := Lib.hid (HKA.out.trans (hk2.trans hka)); replace HE := Lib.hid (HE.out.kept (hk2.trans hka))
          obtain ⟨W2, hW2⟩ : ∃ W2, w2.alloc (.cells #[.int .i64 y0.f.k, .int .i64 y0.f.n, .string y0.f.t, .int .i64 y0.t.k, .int .i64 y0.t.n, .string y0.t.t] 44) = W2 := ⟨_, rfl⟩
          rw [hW2] at HKA HE
          have HW2 := Lib.hid hW2
          clear hk2 hka hW2 t0
          go_wp2_with fail
          rw [HW2.out]
          have T0 := KExt.cell (HT.out.kept HKA.out).c0
          have E3 := KExt.cell HE.out.c3; have E4 := KExt.cell HE.out.c4; have E5 := KExt.cell HE.out.c5
          have hth : t ≤ c := by omega
          have hrh := run_pahead (some ⟨g, o, none⟩) n c t hth
          have hrh2 := run_pahead2 (some ⟨g, o, none⟩) n c t hth
          have HHD := Lib.hid ((pa_head HH.out (Nat.le_of_lt hlt) hth (Nat.le_refl c)).kept HKA.out)
          go_cut [14] (fun v wx => v = .bool z ∧ Kept W2 wx)
          case first =>
            refine region_plan W2 13 (.read [0, 1, 2, 3, 4, 5] (.two 6 (.read [7, 8, 9] (.one 10 (.one 11 (.read [12] .stop)))) 10 (.one 6 (.read [7, 8, 9] (.one 11 (.read [12] .stop)))))) (by kernel_rfl) (by kernel_rfl) (by kernel_rfl) (by kernel_rfl) (by kernel_rfl) (fun _ d _ _ _ h => by cases d <;> exact h) (Kept.refl _) ?_
            intro wd hwd
            have HV := Lib.hid hwd
            clear hwd
            rw [wpPlan_read]
            simp only [pickOps_cons, pickOps_nil, consO_some, List.getElem?_cons_zero, List.getElem?_cons_succ]
            repeat (go_big_quiet_step (fail))
            refine wpQuiet_nil ?_
            clear T0 E3 E4 E5
            rw [wpPlan_two]
            simp only [pickOps_cons, pickOps_nil, consO_some, List.getElem?_cons_zero, List.getElem?_cons_succ]
            constructor
            · go_wp2_with (go_at_call 42; refine (AF.out _ (HHD.out.kept HV.out)).mono ?_; rintro e u1 ⟨rfl, hkz⟩)
              replace HV := Lib.hid (HV.out.trans hkz)
              clear hkz
              refine soloP HV.out ?_
              rw [wpPlan_read]
              simp only [pickOps_cons, pickOps_nil, consO_some, List.getElem?_cons_zero, List.getElem?_cons_succ]
              repeat (go_big_quiet_step (fail))
              refine wpQuiet_nil ?_
              rw [wpPlan_one]
              simp only [pickOps_cons, pickOps_nil, consO_some, List.getElem?_cons_zero, List.getElem?_cons_succ]
              go_wp2_with fail
              refine soloP (HV.out.alloc _ _) ?_
              rw [wpPlan_one]
              simp only [pickOps_cons, pickOps_nil, consO_some, List.getElem?_cons_zero, List.getElem?_cons_succ]
              go_wp2_with fail
              refine soloP (HV.out.alloc _ _) ?_
              rw [wpPlan_read]
              simp only [pickOps_cons, pickOps_nil, consO_some, List.getElem?_cons_zero, List.getElem?_cons_succ]
              repeat (go_big_quiet_step (fail))
              refine wpQuiet_nil ?_
              refine wpPlan_stop ?_
              go_wp2_with fail
              go_meet
              exact ⟨rfl, HV.out.alloc _ _⟩
            · go_wp2_with fail
              have hkz := (Kept.refl wd).alloc #[.int .i64 0, .int .i64 0, .string ⟨#[]⟩, .int .i64 0, .int .i64 0, .string ⟨#[]⟩] 44
              have HP := Lib.hid (PaB.new wd .none 44)
              simp only [Pa.none, Va.zero] at HP
              have hlz := HV.out.2.2
              replace HV := Lib.hid (HV.out.trans hkz)
              obtain ⟨bz, hbz⟩ : ∃ b, (World.heap wd).size = b := ⟨_, rfl⟩
              obtain ⟨u1, hwz⟩ : ∃ u, World.alloc wd (.cells #[.int .i64 0, .int .i64 0, .string ⟨#[]⟩, .int .i64 0, .int .i64 0, .string ⟨#[]⟩] 44) = u := ⟨_, rfl⟩
              rw [hwz] at HV HP ⊢
              rw [hbz] at HP hlz ⊢
              clear hkz hbz hwz
              refine soloP HV.out ?_
              rw [wpPlan_one]
              simp only [pickOps_cons, pickOps_nil, consO_some, List.getElem?_cons_zero, List.getElem?_cons_succ]
              go_wp2_with (go_at_call 42; refine (AF.out _ (HHD.out.kept HV.out)).mono ?_; rintro e u2 ⟨rfl, hkz⟩)
              replace HP := Lib.hid (HP.out.kept hkz)
              replace HV := Lib.hid (HV.out.trans hkz)
              clear hkz
              refine soloP HV.out ?_
              rw [wpPlan_read]
              simp only [pickOps_cons, pickOps_nil, consO_some, List.getElem?_cons_zero, List.getElem?_cons_succ]
              repeat (go_big_quiet_step (fail))
              refine wpQuiet_nil ?_
              rw [wpPlan_one]
              simp only [pickOps_cons, pickOps_nil, consO_some, List.getElem?_cons_zero, List.getElem?_cons_succ]
              have p0 := HP.out.c0; have p1 := HP.out.c1; have p2 := HP.out.c2; have p3 := HP.out.c3; have p4 := HP.out.c4; have p5 := HP.out.c5; have pf := HP.out.f
              go_wp2_with fail
              clear p0 p1 p2 p3 p4 p5 pf
              have HF := Lib.hid ((((((HV.out.setCell (a := ⟨bz, 0, none⟩) hlz (.int .i64 y.f.k)).setCell (a := ⟨bz, 1, none⟩) hlz (.int .i64 y.f.n)).setCell (a := ⟨bz, 2, none⟩) hlz (.string y.f.t)).setCell (a := ⟨bz, 3, none⟩) hlz (.int .i64 y.t.k)).setCell (a := ⟨bz, 4, none⟩) hlz (.int .i64 y.t.n)).setCell (a := ⟨bz, 5, none⟩) hlz (.string y.t.t))
              refine soloP HF.out ?_
              rw [wpPlan_read]
              simp only [pickOps_cons, pickOps_nil, consO_some, List.getElem?_cons_zero, List.getElem?_cons_succ]
              repeat (go_big_quiet_step (fail))
              refine wpQuiet_nil ?_
              refine wpPlan_stop ?_
              go_wp2_with fail
              go_meet
              exact ⟨rfl, HF.out⟩
          case rest =>
            clear T0 E3 E4 E5 hrh hrh2
            obtain ⟨rfl, hkz⟩ := hcut
            replace HKA := Lib.hid (HKA.out.trans hkz)
            clear hkz
            cases z0 with
            | false =>
              have HF := Lib.hid (show false = r by rw [eq_comm, ← Bool.not_eq_true, HR.out]; exact fun k => by have := HYZ0.out.2 ((k.2.1 HKP.out).1 x (List.mem_of_getElem? HXX.out)); cases this)
              go_wp2_with fail
              go_ret
              exact ⟨ret_bool HF.out, HK.out.trans HKA.out⟩
            | true =>
              have HQ := Lib.hid (show ∃ q ∈ T.L, q.f = x.t by simpa using HYZ0.out)
              cases z with
              | true =>
                have HF := Lib.hid (show false = r by rw [eq_comm, ← Bool.not_eq_true, HR.out]; exact fun k => pw_twice HXX.out (first_tt HYZ.out).1 (first_tt HYZ.out).2 (k.2.1 HKP.out).2)
                go_wp2_with fail
                go_ret
                exact ⟨ret_bool HF.out, HK.out.trans HKA.out⟩
              | false =>
                have HN := Lib.hid (HA.out.snoc HXX.out HQ.out (first_tf HYZ.out))
                go_wp2_with fail
                go_roundw
                case rel => exact ⟨t + 1, hlt, by go_num, HKA.out, HN.out⟩
                case measure => simp [intOf]; omega
        · obtain rfl : t = n := by omega
          have HALL := Lib.hid (show OnL T.L T.L by
            have := HA.out
            rw [show T.L.take t = T.L from List.take_of_length_le (by rw [← HNL.out]; exact Nat.le_refl _)] at this
            exact this)
          have HF := Lib.hid (show true = r from (HR.out.2 ⟨HKR.out, fun _ => ⟨HALL.out.left, HALL.out.once⟩, fun e => by rw [HKP.out] at e; cases e⟩).symm)
          go_wp2_with fail
          go_ret
          exact ⟨ret_bool HF.out, HK.out.trans HKRR.out⟩
    · rw [hkp] at t1
      obtain ⟨x1, hx1⟩ : ∃ v, applyT T noV = v := ⟨_, rfl⟩
      obtain ⟨x2, hx2⟩ : ∃ v, applyT T yesV = v := ⟨_, rfl⟩
      obtain ⟨v1, hv1⟩ : ∃ v, wayT T x1 = v := ⟨_, rfl⟩
      obtain ⟨v2, hv2⟩ : ∃ v, wayT T x2 = v := ⟨_, rfl⟩
      have A1 := Lib.hid (fun w h => rapplyK A n c T noV x1 hx1 w h)
      have A2 := Lib.hid (fun w h => rapplyK A n c T yesV x2 hx2 w h)
      have A3 := Lib.hid (fun w h => rwayK A n c T x1 v1 hv1 w h)
      have A4 := Lib.hid (fun w h => rwayK A n c T x2 v2 hv2 w h)
      have HX1 := Lib.hid hx1; have HX2 := Lib.hid hx2; have HV1 := Lib.hid (show wayT T (applyT T noV) = v1 by rw [hx1, hv1]); have HV2 := Lib.hid (show wayT T (applyT T yesV) = v2 by rw [hx2, hv2])
      have HKP := Lib.hid hkp
      rw [hkp] at A1 A2 A3 A4
      simp only [noV, yesV] at A1 A2
      clear hx1 hx2 hv1 hv2 hkp
      have hka := ((Kept.refl w1).alloc #[.int .i64 3, .int .i64 0, .string ⟨#[]⟩] 24).alloc #[.int .i64 3, .int .i64 1, .string ⟨#[]⟩] 24
      have HN := Lib.hid ((VaO.new w1 noV 24).kept ((Kept.refl (w1.alloc (.cells #[.int .i64 3, .int .i64 0, .string ⟨#[]⟩] 24))).alloc #[.int .i64 3, .int .i64 1, .string ⟨#[]⟩] 24))
      have HY := Lib.hid (VaO.new (w1.alloc (.cells #[.int .i64 3, .int .i64 0, .string ⟨#[]⟩] 24)) yesV 24)
      rw [show (w1.alloc (.cells #[.int .i64 3, .int .i64 0, .string ⟨#[]⟩] 24)).heap.size = w1.heap.size + 1 by simp] at HY
      go_wp2_with fail
      obtain ⟨W1, hW1⟩ : ∃ W1, (w1.alloc (.cells #[.int .i64 3, .int .i64 0, .string ⟨#[]⟩] 24)).alloc (.cells #[.int .i64 3, .int .i64 1, .string ⟨#[]⟩] 24) = W1 := ⟨_, rfl⟩
      have HW1 := Lib.hid hW1
      rw [hW1] at hka
      have HNO := Lib.hid (show VaO W1 w1.heap.size noV from hW1 ▸ HN.out)
      have HYE := Lib.hid (show VaO W1 (w1.heap.size + 1) yesV from hW1 ▸ HY.out)
      clear HN HY hW1
      rw [HW1.out]
      replace HK := Lib.hid (HK.out.trans hka); replace HT := Lib.hid (HT.out.kept hka); replace HH := Lib.hid (HH.out.kept hka)
      clear t0 t1 t2 t3 t4 t5 t6 t7 t8
      clear hka
      have T0 := KExt.cell HT.out.c0; have T1 := KExt.cell HT.out.c1; have T2 := KExt.cell HT.out.c2; have T3 := KExt.cell HT.out.c3; have T4 := KExt.cell HT.out.c4; have T5 := KExt.cell HT.out.c5; have T6 := KExt.cell HT.out.c6; have T7 := KExt.cell HT.out.c7; have T8 := KExt.cell HT.out.c8
      rw [HKP.out] at T1
      have N0 := KExt.cell HNO.out.c0; have N1 := KExt.cell HNO.out.c1; have N2 := KExt.cell HNO.out.c2; have Y0 := KExt.cell HYE.out.c0; have Y1 := KExt.cell HYE.out.c1; have Y2 := KExt.cell HYE.out.c2
      simp only [noV, yesV] at N0 N1 N2 Y0 Y1 Y2
      by_cases q1 : a = 3
      · have HEq1 := Lib.hid q1
        have q11 : (a == 3) = true := by rw [q1]; simp
        have q12 : (a != 3) = false := by rw [q1]; simp
        have q13 : decide (a = 3) = true := decide_eq_true q1
        clear q1
        by_cases q2 : b = 3
        · have HEq2 := Lib.hid q2
          have q21 : (b == 3) = true := by rw [q2]; simp
          have q22 : (b != 3) = false := by rw [q2]; simp
          have q23 : decide (b = 3) = true := decide_eq_true q2
          clear q2
          by_cases q3 : x1 = x2
          · have HF := Lib.hid (show false = r by rw [eq_comm, ← Bool.not_eq_true, HR.out]; exact fun k => by have e := k.2.2 HKP.out; exact e.2.2.1 (by rw [HX1.out, HX2.out]; exact q3))
            obtain ⟨q30, q31, q32⟩ := va_eq q3
            clear q3
            refine region_kept _ (by kernel_rfl) (by kernel_rfl) (Kept.refl _) ?_
            repeat (go_big_quiet_step ((first
                | (go_at_call 13; (with_reducible first | exact KExt.callsK (A1.out _ (HH.out.kept (KExt.g _))) | exact KExt.callsK (A2.out _ (HH.out.kept (KExt.g _)))))
                | (go_at_call 15; (with_reducible first | exact KExt.callsK (A3.out _ (HH.out.kept (KExt.g _))) | exact KExt.callsK (A4.out _ (HH.out.kept (KExt.g _)))))
                | fail)))
            refine wpQuiet_nil ?_
            intro G
            clear T0 T1 T2 T3 T4 T5 T6 T7 T8 N0 N1 N2 Y0 Y1 Y2
            go_wp2_with fail
            go_ret
            exact ⟨ret_bool HF.out, HK.out.trans G.g⟩
          · have HEq3 := Lib.hid q3
            rcases va_ne q3 with q30 | ⟨q30, q31⟩ | ⟨q30, q31, q32⟩ <;> clear q3
            · by_cases q4 : v1 = ⟨3, 0, ⟨#[]⟩⟩
              · have HEq4 := Lib.hid q4
                obtain ⟨q40, q41, q42⟩ := va_cz q4
                clear q4
                by_cases q5 : v2 = ⟨3, 1, ⟨#[]⟩⟩
                · have HEq5 := Lib.hid q5
                  obtain ⟨q50, q51, q52⟩ := va_cz q5
                  clear q5
                  have HF := Lib.hid (show true = r from (HR.out.2 ⟨HKR.out, (fun e => by rw [HKP.out] at e; cases e), fun _ => ⟨HEq1.out, HEq2.out, (by rw [HX1.out, HX2.out]; exact HEq3.out), HV1.out.trans HEq4.out, HV2.out.trans HEq5.out⟩⟩).symm)
                  refine region_kept _ (by kernel_rfl) (by kernel_rfl) (Kept.refl _) ?_
                  repeat (go_big_quiet_step ((first
                      | (go_at_call 13; (with_reducible first | exact KExt.callsK (A1.out _ (HH.out.kept (KExt.g _))) | exact KExt.callsK (A2.out _ (HH.out.kept (KExt.g _)))))
                      | (go_at_call 15; (with_reducible first | exact KExt.callsK (A3.out _ (HH.out.kept (KExt.g _))) | exact KExt.callsK (A4.out _ (HH.out.kept (KExt.g _)))))
                      | fail)))
                  refine wpQuiet_nil ?_
                  intro G
                  clear T0 T1 T2 T3 T4 T5 T6 T7 T8 N0 N1 N2 Y0 Y1 Y2
                  go_wp2_with fail
                  go_ret
                  exact ⟨ret_bool HF.out, HK.out.trans G.g⟩
                · have HF := Lib.hid (show false = r by rw [eq_comm, ← Bool.not_eq_true, HR.out]; exact fun k => by have e := k.2.2 HKP.out; exact q5 (HV2.out.symm.trans e.2.2.2.2))
                  rcases va_ncz q5 with q50 | ⟨q50, q51⟩ | ⟨q50, q51, q52⟩ <;> clear q5
                  · refine region_kept _ (by kernel_rfl) (by kernel_rfl) (Kept.refl _) ?_
                    repeat (go_big_quiet_step ((first
                        | (go_at_call 13; (with_reducible first | exact KExt.callsK (A1.out _ (HH.out.kept (KExt.g _))) | exact KExt.callsK (A2.out _ (HH.out.kept (KExt.g _)))))
                        | (go_at_call 15; (with_reducible first | exact KExt.callsK (A3.out _ (HH.out.kept (KExt.g _))) | exact KExt.callsK (A4.out _ (HH.out.kept (KExt.g _)))))
                        | fail)))
                    refine wpQuiet_nil ?_
                    intro G
                    clear T0 T1 T2 T3 T4 T5 T6 T7 T8 N0 N1 N2 Y0 Y1 Y2
                    go_wp2_with fail
                    go_ret
                    exact ⟨ret_bool HF.out, HK.out.trans G.g⟩
                  · refine region_kept _ (by kernel_rfl) (by kernel_rfl) (Kept.refl _) ?_
                    repeat (go_big_quiet_step ((first
                        | (go_at_call 13; (with_reducible first | exact KExt.callsK (A1.out _ (HH.out.kept (KExt.g _))) | exact KExt.callsK (A2.out _ (HH.out.kept (KExt.g _)))))
                        | (go_at_call 15; (with_reducible first | exact KExt.callsK (A3.out _ (HH.out.kept (KExt.g _))) | exact KExt.callsK (A4.out _ (HH.out.kept (KExt.g _)))))
                        | fail)))
                    refine wpQuiet_nil ?_
                    intro G
                    clear T0 T1 T2 T3 T4 T5 T6 T7 T8 N0 N1 N2 Y0 Y1 Y2
                    go_wp2_with fail
                    go_ret
                    exact ⟨ret_bool HF.out, HK.out.trans G.g⟩
                  · refine region_kept _ (by kernel_rfl) (by kernel_rfl) (Kept.refl _) ?_
                    repeat (go_big_quiet_step ((first
                        | (go_at_call 13; (with_reducible first | exact KExt.callsK (A1.out _ (HH.out.kept (KExt.g _))) | exact KExt.callsK (A2.out _ (HH.out.kept (KExt.g _)))))
                        | (go_at_call 15; (with_reducible first | exact KExt.callsK (A3.out _ (HH.out.kept (KExt.g _))) | exact KExt.callsK (A4.out _ (HH.out.kept (KExt.g _)))))
                        | fail)))
                    refine wpQuiet_nil ?_
                    intro G
                    clear T0 T1 T2 T3 T4 T5 T6 T7 T8 N0 N1 N2 Y0 Y1 Y2
                    go_wp2_with fail
                    go_ret
                    exact ⟨ret_bool HF.out, HK.out.trans G.g⟩
              · have HF := Lib.hid (show false = r by rw [eq_comm, ← Bool.not_eq_true, HR.out]; exact fun k => by have e := k.2.2 HKP.out; exact q4 (HV1.out.symm.trans e.2.2.2.1))
                rcases va_ncz q4 with q40 | ⟨q40, q41⟩ | ⟨q40, q41, q42⟩ <;> clear q4
                · refine region_kept _ (by kernel_rfl) (by kernel_rfl) (Kept.refl _) ?_
                  repeat (go_big_quiet_step ((first
                      | (go_at_call 13; (with_reducible first | exact KExt.callsK (A1.out _ (HH.out.kept (KExt.g _))) | exact KExt.callsK (A2.out _ (HH.out.kept (KExt.g _)))))
                      | (go_at_call 15; (with_reducible first | exact KExt.callsK (A3.out _ (HH.out.kept (KExt.g _))) | exact KExt.callsK (A4.out _ (HH.out.kept (KExt.g _)))))
                      | fail)))
                  refine wpQuiet_nil ?_
                  intro G
                  clear T0 T1 T2 T3 T4 T5 T6 T7 T8 N0 N1 N2 Y0 Y1 Y2
                  go_wp2_with fail
                  go_ret
                  exact ⟨ret_bool HF.out, HK.out.trans G.g⟩
                · refine region_kept _ (by kernel_rfl) (by kernel_rfl) (Kept.refl _) ?_
                  repeat (go_big_quiet_step ((first
                      | (go_at_call 13; (with_reducible first | exact KExt.callsK (A1.out _ (HH.out.kept (KExt.g _))) | exact KExt.callsK (A2.out _ (HH.out.kept (KExt.g _)))))
                      | (go_at_call 15; (with_reducible first | exact KExt.callsK (A3.out _ (HH.out.kept (KExt.g _))) | exact KExt.callsK (A4.out _ (HH.out.kept (KExt.g _)))))
                      | fail)))
                  refine wpQuiet_nil ?_
                  intro G
                  clear T0 T1 T2 T3 T4 T5 T6 T7 T8 N0 N1 N2 Y0 Y1 Y2
                  go_wp2_with fail
                  go_ret
                  exact ⟨ret_bool HF.out, HK.out.trans G.g⟩
                · refine region_kept _ (by kernel_rfl) (by kernel_rfl) (Kept.refl _) ?_
                  repeat (go_big_quiet_step ((first
                      | (go_at_call 13; (with_reducible first | exact KExt.callsK (A1.out _ (HH.out.kept (KExt.g _))) | exact KExt.callsK (A2.out _ (HH.out.kept (KExt.g _)))))
                      | (go_at_call 15; (with_reducible first | exact KExt.callsK (A3.out _ (HH.out.kept (KExt.g _))) | exact KExt.callsK (A4.out _ (HH.out.kept (KExt.g _)))))
                      | fail)))
                  refine wpQuiet_nil ?_
                  intro G
                  clear T0 T1 T2 T3 T4 T5 T6 T7 T8 N0 N1 N2 Y0 Y1 Y2
                  go_wp2_with fail
                  go_ret
                  exact ⟨ret_bool HF.out, HK.out.trans G.g⟩
            · by_cases q4 : v1 = ⟨3, 0, ⟨#[]⟩⟩
              · have HEq4 := Lib.hid q4
                obtain ⟨q40, q41, q42⟩ := va_cz q4
                clear q4
                by_cases q5 : v2 = ⟨3, 1, ⟨#[]⟩⟩
                · have HEq5 := Lib.hid q5
                  obtain ⟨q50, q51, q52⟩ := va_cz q5
                  clear q5
                  have HF := Lib.hid (show true = r from (HR.out.2 ⟨HKR.out, (fun e => by rw [HKP.out] at e; cases e), fun _ => ⟨HEq1.out, HEq2.out, (by rw [HX1.out, HX2.out]; exact HEq3.out), HV1.out.trans HEq4.out, HV2.out.trans HEq5.out⟩⟩).symm)
                  refine region_kept _ (by kernel_rfl) (by kernel_rfl) (Kept.refl _) ?_
                  repeat (go_big_quiet_step ((first
                      | (go_at_call 13; (with_reducible first | exact KExt.callsK (A1.out _ (HH.out.kept (KExt.g _))) | exact KExt.callsK (A2.out _ (HH.out.kept (KExt.g _)))))
                      | (go_at_call 15; (with_reducible first | exact KExt.callsK (A3.out _ (HH.out.kept (KExt.g _))) | exact KExt.callsK (A4.out _ (HH.out.kept (KExt.g _)))))
                      | fail)))
                  refine wpQuiet_nil ?_
                  intro G
                  clear T0 T1 T2 T3 T4 T5 T6 T7 T8 N0 N1 N2 Y0 Y1 Y2
                  go_wp2_with fail
                  go_ret
                  exact ⟨ret_bool HF.out, HK.out.trans G.g⟩
                · have HF := Lib.hid (show false = r by rw [eq_comm, ← Bool.not_eq_true, HR.out]; exact fun k => by have e := k.2.2 HKP.out; exact q5 (HV2.out.symm.trans e.2.2.2.2))
                  rcases va_ncz q5 with q50 | ⟨q50, q51⟩ | ⟨q50, q51, q52⟩ <;> clear q5
                  · refine region_kept _ (by kernel_rfl) (by kernel_rfl) (Kept.refl _) ?_
                    repeat (go_big_quiet_step ((first
                        | (go_at_call 13; (with_reducible first | exact KExt.callsK (A1.out _ (HH.out.kept (KExt.g _))) | exact KExt.callsK (A2.out _ (HH.out.kept (KExt.g _)))))
                        | (go_at_call 15; (with_reducible first | exact KExt.callsK (A3.out _ (HH.out.kept (KExt.g _))) | exact KExt.callsK (A4.out _ (HH.out.kept (KExt.g _)))))
                        | fail)))
                    refine wpQuiet_nil ?_
                    intro G
                    clear T0 T1 T2 T3 T4 T5 T6 T7 T8 N0 N1 N2 Y0 Y1 Y2
                    go_wp2_with fail
                    go_ret
                    exact ⟨ret_bool HF.out, HK.out.trans G.g⟩
                  · refine region_kept _ (by kernel_rfl) (by kernel_rfl) (Kept.refl _) ?_
                    repeat (go_big_quiet_step ((first
                        | (go_at_call 13; (with_reducible first | exact KExt.callsK (A1.out _ (HH.out.kept (KExt.g _))) | exact KExt.callsK (A2.out _ (HH.out.kept (KExt.g _)))))
                        | (go_at_call 15; (with_reducible first | exact KExt.callsK (A3.out _ (HH.out.kept (KExt.g _))) | exact KExt.callsK (A4.out _ (HH.out.kept (KExt.g _)))))
                        | fail)))
                    refine wpQuiet_nil ?_
                    intro G
                    clear T0 T1 T2 T3 T4 T5 T6 T7 T8 N0 N1 N2 Y0 Y1 Y2
                    go_wp2_with fail
                    go_ret
                    exact ⟨ret_bool HF.out, HK.out.trans G.g⟩
                  · refine region_kept _ (by kernel_rfl) (by kernel_rfl) (Kept.refl _) ?_
                    repeat (go_big_quiet_step ((first
                        | (go_at_call 13; (with_reducible first | exact KExt.callsK (A1.out _ (HH.out.kept (KExt.g _))) | exact KExt.callsK (A2.out _ (HH.out.kept (KExt.g _)))))
                        | (go_at_call 15; (with_reducible first | exact KExt.callsK (A3.out _ (HH.out.kept (KExt.g _))) | exact KExt.callsK (A4.out _ (HH.out.kept (KExt.g _)))))
                        | fail)))
                    refine wpQuiet_nil ?_
                    intro G
                    clear T0 T1 T2 T3 T4 T5 T6 T7 T8 N0 N1 N2 Y0 Y1 Y2
                    go_wp2_with fail
                    go_ret
                    exact ⟨ret_bool HF.out, HK.out.trans G.g⟩
              · have HF := Lib.hid (show false = r by rw [eq_comm, ← Bool.not_eq_true, HR.out]; exact fun k => by have e := k.2.2 HKP.out; exact q4 (HV1.out.symm.trans e.2.2.2.1))
                rcases va_ncz q4 with q40 | ⟨q40, q41⟩ | ⟨q40, q41, q42⟩ <;> clear q4
                · refine region_kept _ (by kernel_rfl) (by kernel_rfl) (Kept.refl _) ?_
                  repeat (go_big_quiet_step ((first
                      | (go_at_call 13; (with_reducible first | exact KExt.callsK (A1.out _ (HH.out.kept (KExt.g _))) | exact KExt.callsK (A2.out _ (HH.out.kept (KExt.g _)))))
                      | (go_at_call 15; (with_reducible first | exact KExt.callsK (A3.out _ (HH.out.kept (KExt.g _))) | exact KExt.callsK (A4.out _ (HH.out.kept (KExt.g _)))))
                      | fail)))
                  refine wpQuiet_nil ?_
                  intro G
                  clear T0 T1 T2 T3 T4 T5 T6 T7 T8 N0 N1 N2 Y0 Y1 Y2
                  go_wp2_with fail
                  go_ret
                  exact ⟨ret_bool HF.out, HK.out.trans G.g⟩
                · refine region_kept _ (by kernel_rfl) (by kernel_rfl) (Kept.refl _) ?_
                  repeat (go_big_quiet_step ((first
                      | (go_at_call 13; (with_reducible first | exact KExt.callsK (A1.out _ (HH.out.kept (KExt.g _))) | exact KExt.callsK (A2.out _ (HH.out.kept (KExt.g _)))))
                      | (go_at_call 15; (with_reducible first | exact KExt.callsK (A3.out _ (HH.out.kept (KExt.g _))) | exact KExt.callsK (A4.out _ (HH.out.kept (KExt.g _)))))
                      | fail)))
                  refine wpQuiet_nil ?_
                  intro G
                  clear T0 T1 T2 T3 T4 T5 T6 T7 T8 N0 N1 N2 Y0 Y1 Y2
                  go_wp2_with fail
                  go_ret
                  exact ⟨ret_bool HF.out, HK.out.trans G.g⟩
                · refine region_kept _ (by kernel_rfl) (by kernel_rfl) (Kept.refl _) ?_
                  repeat (go_big_quiet_step ((first
                      | (go_at_call 13; (with_reducible first | exact KExt.callsK (A1.out _ (HH.out.kept (KExt.g _))) | exact KExt.callsK (A2.out _ (HH.out.kept (KExt.g _)))))
                      | (go_at_call 15; (with_reducible first | exact KExt.callsK (A3.out _ (HH.out.kept (KExt.g _))) | exact KExt.callsK (A4.out _ (HH.out.kept (KExt.g _)))))
                      | fail)))
                  refine wpQuiet_nil ?_
                  intro G
                  clear T0 T1 T2 T3 T4 T5 T6 T7 T8 N0 N1 N2 Y0 Y1 Y2
                  go_wp2_with fail
                  go_ret
                  exact ⟨ret_bool HF.out, HK.out.trans G.g⟩
            · by_cases q4 : v1 = ⟨3, 0, ⟨#[]⟩⟩
              · have HEq4 := Lib.hid q4
                obtain ⟨q40, q41, q42⟩ := va_cz q4
                clear q4
                by_cases q5 : v2 = ⟨3, 1, ⟨#[]⟩⟩
                · have HEq5 := Lib.hid q5
                  obtain ⟨q50, q51, q52⟩ := va_cz q5
                  clear q5
                  have HF := Lib.hid (show true = r from (HR.out.2 ⟨HKR.out, (fun e => by rw [HKP.out] at e; cases e), fun _ => ⟨HEq1.out, HEq2.out, (by rw [HX1.out, HX2.out]; exact HEq3.out), HV1.out.trans HEq4.out, HV2.out.trans HEq5.out⟩⟩).symm)
                  refine region_kept _ (by kernel_rfl) (by kernel_rfl) (Kept.refl _) ?_
                  repeat (go_big_quiet_step ((first
                      | (go_at_call 13; (with_reducible first | exact KExt.callsK (A1.out _ (HH.out.kept (KExt.g _))) | exact KExt.callsK (A2.out _ (HH.out.kept (KExt.g _)))))
                      | (go_at_call 15; (with_reducible first | exact KExt.callsK (A3.out _ (HH.out.kept (KExt.g _))) | exact KExt.callsK (A4.out _ (HH.out.kept (KExt.g _)))))
                      | fail)))
                  refine wpQuiet_nil ?_
                  intro G
                  clear T0 T1 T2 T3 T4 T5 T6 T7 T8 N0 N1 N2 Y0 Y1 Y2
                  go_wp2_with fail
                  go_ret
                  exact ⟨ret_bool HF.out, HK.out.trans G.g⟩
                · have HF := Lib.hid (show false = r by rw [eq_comm, ← Bool.not_eq_true, HR.out]; exact fun k => by have e := k.2.2 HKP.out; exact q5 (HV2.out.symm.trans e.2.2.2.2))
                  rcases va_ncz q5 with q50 | ⟨q50, q51⟩ | ⟨q50, q51, q52⟩ <;> clear q5
                  · refine region_kept _ (by kernel_rfl) (by kernel_rfl) (Kept.refl _) ?_
                    repeat (go_big_quiet_step ((first
                        | (go_at_call 13; (with_reducible first | exact KExt.callsK (A1.out _ (HH.out.kept (KExt.g _))) | exact KExt.callsK (A2.out _ (HH.out.kept (KExt.g _)))))
                        | (go_at_call 15; (with_reducible first | exact KExt.callsK (A3.out _ (HH.out.kept (KExt.g _))) | exact KExt.callsK (A4.out _ (HH.out.kept (KExt.g _)))))
                        | fail)))
                    refine wpQuiet_nil ?_
                    intro G
                    clear T0 T1 T2 T3 T4 T5 T6 T7 T8 N0 N1 N2 Y0 Y1 Y2
                    go_wp2_with fail
                    go_ret
                    exact ⟨ret_bool HF.out, HK.out.trans G.g⟩
                  · refine region_kept _ (by kernel_rfl) (by kernel_rfl) (Kept.refl _) ?_
                    repeat (go_big_quiet_step ((first
                        | (go_at_call 13; (with_reducible first | exact KExt.callsK (A1.out _ (HH.out.kept (KExt.g _))) | exact KExt.callsK (A2.out _ (HH.out.kept (KExt.g _)))))
                        | (go_at_call 15; (with_reducible first | exact KExt.callsK (A3.out _ (HH.out.kept (KExt.g _))) | exact KExt.callsK (A4.out _ (HH.out.kept (KExt.g _)))))
                        | fail)))
                    refine wpQuiet_nil ?_
                    intro G
                    clear T0 T1 T2 T3 T4 T5 T6 T7 T8 N0 N1 N2 Y0 Y1 Y2
                    go_wp2_with fail
                    go_ret
                    exact ⟨ret_bool HF.out, HK.out.trans G.g⟩
                  · refine region_kept _ (by kernel_rfl) (by kernel_rfl) (Kept.refl _) ?_
                    repeat (go_big_quiet_step ((first
                        | (go_at_call 13; (with_reducible first | exact KExt.callsK (A1.out _ (HH.out.kept (KExt.g _))) | exact KExt.callsK (A2.out _ (HH.out.kept (KExt.g _)))))
                        | (go_at_call 15; (with_reducible first | exact KExt.callsK (A3.out _ (HH.out.kept (KExt.g _))) | exact KExt.callsK (A4.out _ (HH.out.kept (KExt.g _)))))
                        | fail)))
                    refine wpQuiet_nil ?_
                    intro G
                    clear T0 T1 T2 T3 T4 T5 T6 T7 T8 N0 N1 N2 Y0 Y1 Y2
                    go_wp2_with fail
                    go_ret
                    exact ⟨ret_bool HF.out, HK.out.trans G.g⟩
              · have HF := Lib.hid (show false = r by rw [eq_comm, ← Bool.not_eq_true, HR.out]; exact fun k => by have e := k.2.2 HKP.out; exact q4 (HV1.out.symm.trans e.2.2.2.1))
                rcases va_ncz q4 with q40 | ⟨q40, q41⟩ | ⟨q40, q41, q42⟩ <;> clear q4
                · refine region_kept _ (by kernel_rfl) (by kernel_rfl) (Kept.refl _) ?_
                  repeat (go_big_quiet_step ((first
                      | (go_at_call 13; (with_reducible first | exact KExt.callsK (A1.out _ (HH.out.kept (KExt.g _))) | exact KExt.callsK (A2.out _ (HH.out.kept (KExt.g _)))))
                      | (go_at_call 15; (with_reducible first | exact KExt.callsK (A3.out _ (HH.out.kept (KExt.g _))) | exact KExt.callsK (A4.out _ (HH.out.kept (KExt.g _)))))
                      | fail)))
                  refine wpQuiet_nil ?_
                  intro G
                  clear T0 T1 T2 T3 T4 T5 T6 T7 T8 N0 N1 N2 Y0 Y1 Y2
                  go_wp2_with fail
                  go_ret
                  exact ⟨ret_bool HF.out, HK.out.trans G.g⟩
                · refine region_kept _ (by kernel_rfl) (by kernel_rfl) (Kept.refl _) ?_
                  repeat (go_big_quiet_step ((first
                      | (go_at_call 13; (with_reducible first | exact KExt.callsK (A1.out _ (HH.out.kept (KExt.g _))) | exact KExt.callsK (A2.out _ (HH.out.kept (KExt.g _)))))
                      | (go_at_call 15; (with_reducible first | exact KExt.callsK (A3.out _ (HH.out.kept (KExt.g _))) | exact KExt.callsK (A4.out _ (HH.out.kept (KExt.g _)))))
                      | fail)))
                  refine wpQuiet_nil ?_
                  intro G
                  clear T0 T1 T2 T3 T4 T5 T6 T7 T8 N0 N1 N2 Y0 Y1 Y2
                  go_wp2_with fail
                  go_ret
                  exact ⟨ret_bool HF.out, HK.out.trans G.g⟩
                · refine region_kept _ (by kernel_rfl) (by kernel_rfl) (Kept.refl _) ?_
                  repeat (go_big_quiet_step ((first
                      | (go_at_call 13; (with_reducible first | exact KExt.callsK (A1.out _ (HH.out.kept (KExt.g _))) | exact KExt.callsK (A2.out _ (HH.out.kept (KExt.g _)))))
                      | (go_at_call 15; (with_reducible first | exact KExt.callsK (A3.out _ (HH.out.kept (KExt.g _))) | exact KExt.callsK (A4.out _ (HH.out.kept (KExt.g _)))))
                      | fail)))
                  refine wpQuiet_nil ?_
                  intro G
                  clear T0 T1 T2 T3 T4 T5 T6 T7 T8 N0 N1 N2 Y0 Y1 Y2
                  go_wp2_with fail
                  go_ret
                  exact ⟨ret_bool HF.out, HK.out.trans G.g⟩
        · have HF := Lib.hid (show false = r by rw [eq_comm, ← Bool.not_eq_true, HR.out]; exact fun k => by have e := k.2.2 HKP.out; exact q2 e.2.1)
          have q21 : (b == 3) = false := by simpa using q2
          have q22 : (b != 3) = true := by simpa using q2
          have q23 : decide (b = 3) = false := decide_eq_false q2
          clear q2
          refine region_kept _ (by kernel_rfl) (by kernel_rfl) (Kept.refl _) ?_
          repeat (go_big_quiet_step ((first
              | (go_at_call 13; (with_reducible first | exact KExt.callsK (A1.out _ (HH.out.kept (KExt.g _))) | exact KExt.callsK (A2.out _ (HH.out.kept (KExt.g _)))))
              | (go_at_call 15; (with_reducible first | exact KExt.callsK (A3.out _ (HH.out.kept (KExt.g _))) | exact KExt.callsK (A4.out _ (HH.out.kept (KExt.g _)))))
              | fail)))
          refine wpQuiet_nil ?_
          intro G
          clear T0 T1 T2 T3 T4 T5 T6 T7 T8 N0 N1 N2 Y0 Y1 Y2
          go_wp2_with fail
          go_ret
          exact ⟨ret_bool HF.out, HK.out.trans G.g⟩
      · have HF := Lib.hid (show false = r by rw [eq_comm, ← Bool.not_eq_true, HR.out]; exact fun k => by have e := k.2.2 HKP.out; exact q1 e.1)
        have q11 : (a == 3) = false := by simpa using q1
        have q12 : (a != 3) = true := by simpa using q1
        have q13 : decide (a = 3) = false := decide_eq_false q1
        clear q1
        refine region_kept _ (by kernel_rfl) (by kernel_rfl) (Kept.refl _) ?_
        repeat (go_big_quiet_step ((first
            | (go_at_call 13; (with_reducible first | exact KExt.callsK (A1.out _ (HH.out.kept (KExt.g _))) | exact KExt.callsK (A2.out _ (HH.out.kept (KExt.g _)))))
            | (go_at_call 15; (with_reducible first | exact KExt.callsK (A3.out _ (HH.out.kept (KExt.g _))) | exact KExt.callsK (A4.out _ (HH.out.kept (KExt.g _)))))
            | fail)))
        refine wpQuiet_nil ?_
        intro G
        clear T0 T1 T2 T3 T4 T5 T6 T7 T8 N0 N1 N2 Y0 Y1 Y2
        go_wp2_with fail
        go_ret
        exact ⟨ret_bool HF.out, HK.out.trans G.g⟩
end Go.Proofs.YtjcnjmlgedmmoaaDoor
