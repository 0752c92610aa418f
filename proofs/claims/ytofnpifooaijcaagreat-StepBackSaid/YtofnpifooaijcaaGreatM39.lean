/-
  What is proved: package step's behind (P14.3), called with the fields of a right schema and a step that turns one field, or that there is not, returns the fields that the step makes, and whether it fits; the world has new blocks at most.
  package step's behind (P14.3), called with the fields of a right schema and a step of any kind, returns the fields that the step makes, and whether it fits; the world has new blocks at most.
  package step's Check (P14.3), called with any schema of at most 24 fields and any step of bounded lengths, returns the schema behind the step, or that the step does not fit; the world has new blocks at most.
  package step's Turn (P14.4), at a step of a kind that goes back with the same parts, or that there is not
  package step's Turn (P14.4), at a step of the kind 1
-/
import Derived.Test.YtofnpifooaijcaaGreatM33
import Derived.Test.YtofnpifooaijcaaGreatM37
import Derived.Test.YtofnpifooaijcaaGreatM38
import Derived.Test.YtofnpifooaijcaaGreatM20
import Derived.Test.YtofnpifooaijcaaGreatM16
namespace Go.Proofs.YtofnpifooaijcaaGreat
open Go.RowKit
set_option linter.unusedVariables false
set_option maxRecDepth 100000 in
set_option maxHeartbeats 16000000 in
theorem sbeh_6 (AL : Option Addr) (m cL : Nat) (L : List Fd) (A : Option Addr) (n c : Nat) (x : St) (w : World) (hl : Fl w AL m cL L) (h : Pal w A n c x.T.L) (hS : StS x) (hT : SzT x.T) (hok : ScOk L) (hL : ∀ f ∈ L, f.p.size ≤ 2000 ∧ f.vt.size ≤ 1000000000) (hm : m ≤ 24) (q1 : ¬ x.k = 1) (q2 : ¬ x.k = 2) (q3 : ¬ x.k = 3) (q4 : ¬ x.k = 4) (q5 : ¬ x.k = 5) :
    Calls Tryz.prog 30 #[.slice AL m cL, .agg (cellS A n c x).toArray] w (BehE L x w) := by
  have hcap := hl.cap.1; have hcap2 := hl.cap.2
  have hk := (Kept.refl w).alloc (cellS A n c x).toArray 33
  have hs := StB.new w A n c x 33
  have hln := hl.1
  obtain ⟨U, hU⟩ : ∃ U, w.alloc (.cells (cellS A n c x).toArray 33) = U := ⟨_, rfl⟩
  rw [hU] at hk hs
  have A0 := Lib.hid (clf_any AL m cL L U (hl.kept hk) (by omega))
  have KWU := Lib.hid hk; have HSU := Lib.hid hs
  have HK := Lib.hid hk; have HS := Lib.hid hs; have HUU := Lib.hid hU; have HH := Lib.hid (h.kept hk); have HLN := Lib.hid hln; have HSZ := Lib.hid hS; have HTZ := Lib.hid hT; have HOK := Lib.hid hok; have HLZ := Lib.hid hL
  clear hk hs hU hl h hln hS hT hok hL
  go_enter Tryz.func30, Tryz.ntmps30
  go_wp2_with (rw [HUU.out])
  go_at_call 83
  refine A0.out.mono ?_
  rintro e u1 ⟨v7, rfl, ho7⟩
  obtain ⟨A7, c7, rfl, hf7, hA7, _, _⟩ := ho7.form
  rw [← HLN.out] at ho7 hf7 ⊢
  have h71 := hf7.cap.1; have h72 := hf7.cap.2
  have HO7 := Lib.hid ho7; have HF7 := Lib.hid hf7; have HA7 := Lib.hid hA7
  replace HK := Lib.hid (HK.out.trans ho7.ke); replace HS := Lib.hid (HS.out.kept ho7.ke); replace HH := Lib.hid (HH.out.kept ho7.ke)
  clear ho7 hf7 hA7 A0
  have c0 := HS.out.c0
  have n11 : (x.k == 1) = false := by simp; omega
  have n12 : decide (x.k = 1) = false := decide_eq_false (by omega)
  have n21 : (x.k == 2) = false := by simp; omega
  have n22 : decide (x.k = 2) = false := decide_eq_false (by omega)
  have n31 : (x.k == 3) = false := by simp; omega
  have n32 : decide (x.k = 3) = false := decide_eq_false (by omega)
  have n41 : (x.k == 4) = false := by simp; omega
  have n42 : decide (x.k = 4) = false := decide_eq_false (by omega)
  have n51 : (x.k == 5) = false := by simp; omega
  have n52 : decide (x.k = 5) = false := decide_eq_false (by omega)
  have HMV := Lib.hid (show ¬ Mv x by unfold Mv; omega)
  have H4 := Lib.hid (show ¬ x.k = 4 by omega); have H5 := Lib.hid (show ¬ x.k = 5 by omega)
  clear q1 q2 q3 q4 q5
  obtain ⟨r, hr⟩ := oneR_ex L (leafP x)
  have AP := Lib.hid (fun w hl => splace_any A7 m c7 L A n c x w hl HSZ.out.p r hr)
  have HR := Lib.hid hr
  clear hr
  go_wp2_with (refine wpList_load_mid rfl 33 _ rfl w.heap.size 0 rfl _ _ HS.out.r Tryz.underlying33 rfl (step_size A n c x) ?_)
  go_at_call 88
  refine (AP.out _ HF7.out).mono ?_
  rintro e u2 ⟨rfl, hk2⟩
  have HK2 := Lib.hid (HK.out.trans hk2); have HS2 := Lib.hid (HS.out.kept hk2); have HO2 := Lib.hid (HO7.out.kept hk2); have HH2 := Lib.hid (HH.out.kept hk2)
  clear hk2 c0
  rcases HR.out with ⟨t, y, rfl, hy, hyp, hall⟩ | ⟨rfl, hall⟩
  · have htn : t < m := by rw [HLN.out]; exact (List.getElem?_eq_some_iff.1 hy).1
    obtain ⟨h1, h2⟩ := HO2.out.own
    rcases h2 with ⟨h', _⟩ | ⟨g', cap', cur, h', hb, hg, hnc, hcm, hcs, htk⟩
    · simp at h'; omega
    simp only [Value.slice.injEq] at h'
    obtain ⟨rfl, hml, rfl⟩ := h'
    clear hml hnc h1 hb hg hcm hcs htk
    have HMEM := Lib.hid (List.mem_of_getElem? hy)
    have AF := Lib.hid (fun w h => sbec_any A n c x y w h HSZ.out HTZ.out (HLZ.out y HMEM.out).1 (HLZ.out y HMEM.out).2 hyp)
    have HB := Lib.hid (beh_6 HOK.out H4.out H5.out hy hyp hall)
    have HY := Lib.hid hy
    have HTN := Lib.hid htn
    have HO2' := Lib.hid (show OutF U u2 (.slice (some ⟨g', 0, none⟩) L.length c7) L by rw [← HLN.out]; exact HO2.out)
    clear hall hyp hy
    have hneg : decide (((t : Nat) : Int) < 0) = false := decide_eq_false (by omega)
    have hix : ((t : Nat) : Int).toNat = t := by omega
    have r0 := KExt.cell (show u2.cell? ⟨g', t * 6, none⟩ = some (.string y.p) from (HO2'.out.cell HY.out (i := 0) rfl).1)
    have r1 := KExt.cell (HO2'.out.cell HY.out (i := 1) rfl).1
    have r2 := KExt.cell (HO2'.out.cell HY.out (i := 2) rfl).1
    have r3 := KExt.cell (HO2'.out.cell HY.out (i := 3) rfl).1
    have r4 := KExt.cell (HO2'.out.cell HY.out (i := 4) rfl).1
    have r5 := KExt.cell (HO2'.out.cell HY.out (i := 5) rfl).1
    go_wp2_with fail
    refine region_plan u2 12 (.read [0, 1, 2, 3, 4] (.two 5 (.read [6, 7, 8] (.one 9 (.one 10 (.read [11] .stop)))) 9 (.one 5 (.read [6, 7, 8] (.one 10 (.read [11] .stop)))))) (by kernel_rfl) (by kernel_rfl) (by kernel_rfl) (by kernel_rfl) (by kernel_rfl) (fun _ d _ _ _ h => by cases d <;> exact h) (Kept.refl _) ?_
    intro wd hwd
    have HV := Lib.hid hwd
    clear hwd
    rw [wpPlan_read]
    simp only [pA, pB, pC, pD, pE]
    repeat (first | refine quiet_load rfl 33 _ rfl w.heap.size 0 rfl _ _ HS2.out.ext Tryz.underlying33 rfl (step_size A n c x) ?_ | go_big_quiet_step (fail))
    refine wpQuiet_nil ?_
    clear r0 r1 r2 r3 r4 r5
    rw [wpPlan_two]
    simp only [pA, pB, pC, pD, pE]
    constructor
    · go_wp2_with (go_at_call 89; refine (AF.out _ (HH2.out.kept HV.out)).mono ?_; rintro e u3 ⟨gl, zz, rfl, hkz, hz1, hz2, hz3, hz4⟩)
      have HZ1 := Lib.hid hz1; have HZ2 := Lib.hid hz2; have HZ3 := Lib.hid hz3; have HZ4 := Lib.hid hz4
      replace HV := Lib.hid (HV.out.trans hkz)
      clear hkz hz1 hz2 hz3 hz4
      refine soloP HV.out ?_
      rw [wpPlan_read]
      simp only [pA, pB, pC, pD, pE]
      repeat (go_big_quiet_step (fail))
      refine wpQuiet_nil ?_
      rw [wpPlan_one]
      simp only [pA, pB, pC, pD, pE]
      go_wp2_with fail
      refine soloP (HV.out.alloc _ _) ?_
      rw [wpPlan_one]
      simp only [pA, pB, pC, pD, pE]
      go_wp2_with fail
      have HGB := Lib.hid (FdB.new u3 gl 28)
      replace HV := Lib.hid (HV.out.alloc #[.string gl.p, .int .i64 gl.k, .int .i64 gl.t, .int .i64 gl.vk, .int .i64 gl.vn, .string gl.vt] 28)
      obtain ⟨bz, hbz⟩ : ∃ b, (World.heap u3).size = b := ⟨_, rfl⟩
      obtain ⟨u5, hwz⟩ : ∃ u, World.alloc u3 (.cells #[.string gl.p, .int .i64 gl.k, .int .i64 gl.t, .int .i64 gl.vk, .int .i64 gl.vn, .string gl.vt] 28) = u := ⟨_, rfl⟩
      rw [hwz] at HV HGB ⊢
      rw [hbz] at HGB ⊢
      clear hbz hwz
      refine soloP HV.out ?_
      rw [wpPlan_read]
      simp only [pA, pB, pC, pD, pE]
      repeat (go_big_quiet_step (fail))
      refine wpQuiet_nil ?_
      refine wpPlan_stop ?_
      have HO5 := Lib.hid (HO2'.out.kept HV.out)
      have HFW := Lib.hid (show ∀ W, OutF U W (.slice (some ⟨g', 0, none⟩) (L.set t gl).length c7) (L.set t gl) → BehE L x w (.returned (.tuple #[.slice (some ⟨g', 0, none⟩) m c7, .bool zz])) W from fun W ho => by
        obtain ⟨A8, c8, he8, hf8, _, _, _⟩ := ho.form
        simp only [Value.slice.injEq, true_and] at he8
        obtain ⟨rfl, rfl⟩ := he8
        have hlen : (L.set t gl).length = m := by rw [List.length_set, ← HLN.out]
        rw [hlen] at hf8
        refine ⟨_, _, _, _, zz, rfl, hf8, by omega, fun f hf => ?_, KWU.out.trans ho.ke, fun hz => ?_, fun hz M => ?_⟩
        · rcases List.mem_or_eq_of_mem_set hf with hf | rfl
          · have := HLZ.out f hf; omega
          · exact ⟨HZ3.out, HZ4.out⟩
        · rw [HZ2.out hz]
          exact HB.out.1 (HZ1.out.1 hz)
        · exact HB.out.2 (fun k => by have := HZ1.out.2 k; rw [hz] at this; cases this) HMV.out M)
      have HFIN := Lib.hid (HFW.out _ (HO5.out.setX (by rw [← HLN.out]; exact HTN.out) gl |> fun h => by rw [List.length_set]; exact h))
      have z0 := HGB.out.c0; have z1 := HGB.out.c1; have z2 := HGB.out.c2; have z3 := HGB.out.c3; have z4 := HGB.out.c4; have z5 := HGB.out.c5
      have r0 : u5.cell? ⟨g', t * 6, none⟩ = some (.string y.p) := (HO5.out.cell HY.out (i := 0) rfl).1
      have r1 := (HO5.out.cell HY.out (i := 1) rfl).1
      have r2 := (HO5.out.cell HY.out (i := 2) rfl).1
      have r3 := (HO5.out.cell HY.out (i := 3) rfl).1
      have r4 := (HO5.out.cell HY.out (i := 4) rfl).1
      have r5 := (HO5.out.cell HY.out (i := 5) rfl).1
      have rf := fun j => HO5.out.own.frozenAt j
      have htn := HTN.out
      go_wp2_with fail
      exact bodyPost_ret (by simp [results, Tryz.results30, go_sem, *]) rfl HFIN.out
    · go_wp2_with fail
      have hkz := (Kept.refl wd).alloc #[.string ⟨#[]⟩, .int .i64 0, .int .i64 0, .int .i64 0, .int .i64 0, .string ⟨#[]⟩] 28
      have HP := Lib.hid (FdB.new wd .none 28)
      simp only [Fd.none] at HP
      have hlz := HV.out.2.2
      replace HV := Lib.hid (HV.out.trans hkz)
      obtain ⟨bz, hbz⟩ : ∃ b, (World.heap wd).size = b := ⟨_, rfl⟩
      obtain ⟨u4, hwz⟩ : ∃ u, World.alloc wd (.cells #[.string ⟨#[]⟩, .int .i64 0, .int .i64 0, .int .i64 0, .int .i64 0, .string ⟨#[]⟩] 28) = u := ⟨_, rfl⟩
      rw [hwz] at HV HP ⊢
      rw [hbz] at HP hlz ⊢
      clear hkz hbz hwz
      refine soloP HV.out ?_
      rw [wpPlan_one]
      simp only [pA, pB, pC, pD, pE]
      go_wp2_with (go_at_call 89; refine (AF.out _ (HH2.out.kept HV.out)).mono ?_; rintro e u3 ⟨gl, zz, rfl, hkz, hz1, hz2, hz3, hz4⟩)
      replace HP := Lib.hid (HP.out.kept hkz)
      have HZ1 := Lib.hid hz1; have HZ2 := Lib.hid hz2; have HZ3 := Lib.hid hz3; have HZ4 := Lib.hid hz4
      replace HV := Lib.hid (HV.out.trans hkz)
      clear hkz hz1 hz2 hz3 hz4
      refine soloP HV.out ?_
      rw [wpPlan_read]
      simp only [pA, pB, pC, pD, pE]
      repeat (go_big_quiet_step (fail))
      refine wpQuiet_nil ?_
      rw [wpPlan_one]
      simp only [pA, pB, pC, pD, pE]
      have p0 := HP.out.c0; have p1 := HP.out.c1; have p2 := HP.out.c2; have p3 := HP.out.c3; have p4 := HP.out.c4; have p5 := HP.out.c5; have pf := HP.out.f
      go_wp2_with fail
      clear p0 p1 p2 p3 p4 p5 pf
      have HGB := Lib.hid (HP.out.setAll gl)
      replace HV := Lib.hid ((((((HV.out.setCell (a := ⟨bz, 0, none⟩) hlz (.string gl.p)).setCell (a := ⟨bz, 1, none⟩) hlz (.int .i64 gl.k)).setCell (a := ⟨bz, 2, none⟩) hlz (.int .i64 gl.t)).setCell (a := ⟨bz, 3, none⟩) hlz (.int .i64 gl.vk)).setCell (a := ⟨bz, 4, none⟩) hlz (.int .i64 gl.vn)).setCell (a := ⟨bz, 5, none⟩) hlz (.string gl.vt))
      obtain ⟨u5, hwz⟩ : ∃ u, (World.setCell (World.setCell (World.setCell (World.setCell (World.setCell (World.setCell u3 ⟨bz, 0, none⟩ (.string gl.p)) ⟨bz, 1, none⟩ (.int .i64 gl.k)) ⟨bz, 2, none⟩ (.int .i64 gl.t)) ⟨bz, 3, none⟩ (.int .i64 gl.vk)) ⟨bz, 4, none⟩ (.int .i64 gl.vn)) ⟨bz, 5, none⟩ (.string gl.vt)) = u := ⟨_, rfl⟩
      rw [hwz] at HV HGB ⊢
      clear hwz hlz
      refine soloP HV.out ?_
      rw [wpPlan_read]
      simp only [pA, pB, pC, pD, pE]
      repeat (go_big_quiet_step (fail))
      refine wpQuiet_nil ?_
      refine wpPlan_stop ?_
      have HO5 := Lib.hid (HO2'.out.kept HV.out)
      have HFW := Lib.hid (show ∀ W, OutF U W (.slice (some ⟨g', 0, none⟩) (L.set t gl).length c7) (L.set t gl) → BehE L x w (.returned (.tuple #[.slice (some ⟨g', 0, none⟩) m c7, .bool zz])) W from fun W ho => by
        obtain ⟨A8, c8, he8, hf8, _, _, _⟩ := ho.form
        simp only [Value.slice.injEq, true_and] at he8
        obtain ⟨rfl, rfl⟩ := he8
        have hlen : (L.set t gl).length = m := by rw [List.length_set, ← HLN.out]
        rw [hlen] at hf8
        refine ⟨_, _, _, _, zz, rfl, hf8, by omega, fun f hf => ?_, KWU.out.trans ho.ke, fun hz => ?_, fun hz M => ?_⟩
        · rcases List.mem_or_eq_of_mem_set hf with hf | rfl
          · have := HLZ.out f hf; omega
          · exact ⟨HZ3.out, HZ4.out⟩
        · rw [HZ2.out hz]
          exact HB.out.1 (HZ1.out.1 hz)
        · exact HB.out.2 (fun k => by have := HZ1.out.2 k; rw [hz] at this; cases this) HMV.out M)
      have HFIN := Lib.hid (HFW.out _ (HO5.out.setX (by rw [← HLN.out]; exact HTN.out) gl |> fun h => by rw [List.length_set]; exact h))
      have z0 := HGB.out.c0; have z1 := HGB.out.c1; have z2 := HGB.out.c2; have z3 := HGB.out.c3; have z4 := HGB.out.c4; have z5 := HGB.out.c5
      have r0 : u5.cell? ⟨g', t * 6, none⟩ = some (.string y.p) := (HO5.out.cell HY.out (i := 0) rfl).1
      have r1 := (HO5.out.cell HY.out (i := 1) rfl).1
      have r2 := (HO5.out.cell HY.out (i := 2) rfl).1
      have r3 := (HO5.out.cell HY.out (i := 3) rfl).1
      have r4 := (HO5.out.cell HY.out (i := 4) rfl).1
      have r5 := (HO5.out.cell HY.out (i := 5) rfl).1
      have rf := fun j => HO5.out.own.frozenAt j
      have htn := HTN.out
      go_wp2_with fail
      exact bodyPost_ret (by simp [results, Tryz.results30, go_sem, *]) rfl HFIN.out
  · have HFIN := Lib.hid (show ∀ W, Kept w W → BehE L x w (.returned (.tuple #[.slice none 0 0, .bool false])) W from fun W hk => ⟨none, 0, 0, [], false, rfl, ⟨rfl, Nat.le_refl _, Nat.zero_le _, fun _ => rfl, .inl rfl⟩, Nat.zero_le _, fun f hf => (by cases hf), hk, fun h => (by cases h), fun _ => beh_6no HMV.out H4.out H5.out hall⟩)
    clear hall
    have hneg : decide ((-1 : Int) < 0) = true := by decide
    go_wp2_with fail
    exact bodyPost_ret (by simp [results, Tryz.results30, go_sem, *]) rfl (HFIN.out _ HK2.out)
theorem sbeh_any (AL : Option Addr) (m cL : Nat) (L : List Fd) (A : Option Addr) (n c : Nat) (x : St) (w : World) (hl : Fl w AL m cL L) (h : Pal w A n c x.T.L) (hS : StS x) (hT : SzT x.T) (hok : ScOk L) (hL : ∀ f ∈ L, f.p.size ≤ 2000 ∧ f.vt.size ≤ 1000000000) (hm : m ≤ 24) :
    Calls Tryz.prog 30 #[.slice AL m cL, .agg (cellS A n c x).toArray] w (BehE L x w) := by
  by_cases q1 : x.k = 1
  · exact sbeh_Mv AL m cL L A n c x w hl h hS hT hok hL hm (.inl q1)
  by_cases q2 : x.k = 2
  · exact sbeh_Mv AL m cL L A n c x w hl h hS hT hok hL hm (.inr (.inl q2))
  by_cases q3 : x.k = 3
  · exact sbeh_Mv AL m cL L A n c x w hl h hS hT hok hL hm (.inr (.inr q3))
  by_cases q4 : x.k = 4
  · exact sbeh_4 AL m cL L A n c x w hl h hS hT hok hL hm q4
  by_cases q5 : x.k = 5
  · exact sbeh_5 AL m cL L A n c x w hl h hS hT hok hL hm q5
  exact sbeh_6 AL m cL L A n c x w hl h hS hT hok hL hm q1 q2 q3 q4 q5
set_option maxRecDepth 100000 in
set_option maxHeartbeats 16000000 in
theorem scheck_any (AL : Option Addr) (m cL : Nat) (L : List Fd) (A : Option Addr) (n c : Nat) (x : St) (w : World) (hl : Fl w AL m cL L) (h : Pal w A n c x.T.L) (hS : StS x) (hT : SzT x.T) (hL : ∀ f ∈ L, f.p.size ≤ 2000 ∧ f.vt.size ≤ 1000000000) (hm : m ≤ 40) :
    Calls Tryz.prog 8 #[.agg #[.slice AL m cL], .agg (cellS A n c x).toArray] w (CheckE L x w) := by
  have hcap := hl.cap.1; have hcap2 := hl.cap.2
  have hk := (((Kept.refl w).alloc #[.slice AL m cL] 24).alloc (cellS A n c x).toArray 33).alloc #[.slice none 0 0] 24
  have hb := ((Box1.new w (.slice AL m cL) 24).kept ((Kept.refl _).alloc (cellS A n c x).toArray 33)).kept ((Kept.refl _).alloc #[.slice none 0 0] 24)
  have hs := (StB.new (w.alloc (.cells #[.slice AL m cL] 24)) A n c x 33).kept ((Kept.refl _).alloc #[.slice none 0 0] 24)
  have hr := Box1.new ((w.alloc (.cells #[.slice AL m cL] 24)).alloc (.cells (cellS A n c x).toArray 33)) (.slice none 0 0) 24
  rw [show (w.alloc (.cells #[.slice AL m cL] 24)).heap.size = w.heap.size + 1 by simp] at hs
  rw [show ((w.alloc (.cells #[.slice AL m cL] 24)).alloc (.cells (cellS A n c x).toArray 33)).heap.size = w.heap.size + 2 by simp] at hr
  obtain ⟨U, hU⟩ : ∃ U, ((w.alloc (.cells #[.slice AL m cL] 24)).alloc (.cells (cellS A n c x).toArray 33)).alloc (.cells #[.slice none 0 0] 24) = U := ⟨_, rfl⟩
  rw [hU] at hk hb hs hr
  obtain ⟨b2, hb2⟩ := bool_of (ScOk L)
  have A2 := Lib.hid (fun w hl => ssc_any AL m cL L w hl (fun f hf => by have := hL f hf; omega) b2 hb2)
  have HK := Lib.hid hk; have HB := Lib.hid hb; have HS := Lib.hid hs; have HR := Lib.hid hr; have HUU := Lib.hid hU; have HH := Lib.hid (h.kept hk); have HLU := Lib.hid (hl.kept hk)
  have HLN := Lib.hid hl.1; have HSZ := Lib.hid hS; have HTZ := Lib.hid hT; have HLZ := Lib.hid hL; have HB2 := Lib.hid hb2
  have HNO := Lib.hid (show (∀ M, ¬ CheckR L x M) → ∀ W, Kept w W → CheckE L x w (.returned (.tuple #[.agg #[.slice none 0 0], .int .i64 10])) (W.setCell ⟨w.heap.size + 2, 0, none⟩ (.slice none 0 0)) from
    fun hn W hw => ⟨none, 0, 0, 10, rfl, hw.setCell (a := ⟨w.heap.size + 2, 0, none⟩) (Nat.le_add_right _ 2) _, .inr ⟨rfl, rfl, rfl, rfl, hn⟩⟩)
  clear hk hb hs hr hU h hl hS hT hL hb2
  have d0 := HB.out.c0
  go_enter Tryz.func8, Tryz.ntmps8
  go_wp2_with (rw [HUU.out])
  go_at_call 23
  refine (A2.out _ HLU.out).mono ?_
  rintro e u2 ⟨rfl, hk2⟩
  clear d0
  have HK2 := Lib.hid (HK.out.trans hk2)
  have HR2 := Lib.hid (HR.out.kept hk2); have HBX2 := Lib.hid (HB.out.kept hk2); have HS2 := Lib.hid (HS.out.kept hk2)
  have HL2 := Lib.hid (HLU.out.kept hk2); have HH2 := Lib.hid (HH.out.kept hk2)
  clear hk2
  cases b2 with
  | false =>
    have HFIN := Lib.hid (HNO.out (fun M h => by have := HB2.out.2 h.2.1; cases this) _ HK2.out)
    have r0 := HR2.out.c0; have rf := HR2.out.f
    go_wp2_with fail
    exact bodyPost_ret (by simp [results, Tryz.results8, go_sem, *]) rfl HFIN.out
  | true =>
    have HOK := Lib.hid (HB2.out.1 (by first | rfl | trivial))
    have hm24 : m ≤ 24 := by rw [HLN.out]; exact HOK.out.few
    have AB := Lib.hid (sbeh_any AL m cL L A n c x _ HL2.out HH2.out HSZ.out HTZ.out HOK.out HLZ.out hm24)
    have d0 := HBX2.out.c0
    go_wp2_with (refine wpList_load_mid rfl 33 _ rfl (w.heap.size + 1) 0 rfl _ _ HS2.out.r Tryz.underlying33 rfl (step_size A n c x) ?_)
    go_at_call 30
    refine AB.out.mono ?_
    rintro e u3 ⟨A9, n9, c9, N, z, rfl, hf9, hn9, hz9, hk3, hy, hn⟩
    clear d0
    have h91 := hf9.cap.1; have h92 := hf9.cap.2
    have HK3 := Lib.hid (HK2.out.trans hk3)
    have HR3 := Lib.hid (HR2.out.kept hk3)
    have HF9 := Lib.hid hf9; have HZ9 := Lib.hid hz9; have HY := Lib.hid hy; have HN := Lib.hid hn; have HN9 := Lib.hid hf9.1
    clear hk3 hy hn hf9 hz9
    go_wp2_with fail
    go_at_call 31
    refine (sof_any A9 n9 c9 N _ HF9.out hn9).mono ?_
    rintro e u4 ⟨A4, c4, rfl, hf4, hk4⟩
    rw [← HN9.out] at hf4 ⊢
    have hc41 := hf4.cap.1; have hc42 := hf4.cap.2
    have hka := (Kept.refl u4).alloc #[.slice A4 n9 c4] 24
    have HB8 := Lib.hid (Box1.new u4 (.slice A4 n9 c4) 24)
    have HF4 := Lib.hid (hf4.kept hka)
    have HK4 := Lib.hid ((HK3.out.trans hk4).trans hka); have HR4 := Lib.hid ((HR3.out.kept hk4).kept hka)
    clear hka hf4 hk4
    cases z with
    | false =>
      have HFIN := Lib.hid (HNO.out (fun M h => by obtain ⟨⟨N', hN, _⟩, _⟩ := (beh_check HOK.out).1 h; exact HN.out rfl N' hN) _ HK4.out)
      have r0 := HR4.out.c0; have rf := HR4.out.f; have d8 := HB8.out.c0
      go_wp2_with fail
      exact bodyPost_ret (by simp [results, Tryz.results8, go_sem, *]) rfl HFIN.out
    | true =>
      have HBN := Lib.hid (HY.out (by first | rfl | trivial))
      obtain ⟨b3, hb3⟩ := bool_of (ScOk (ofF N))
      have A3 := Lib.hid (fun w hl => ssc_any A4 n9 c4 (ofF N) w hl (fun f hf => HZ9.out f (((ofF_mem_perm N).mem_iff).1 hf)) b3 hb3)
      have HB3 := Lib.hid hb3
      have d8 := HB8.out.c0
      clear hb3
      go_wp2_with fail
      go_at_call 23
      refine (A3.out _ HF4.out).mono ?_
      rintro e u5 ⟨rfl, hk5⟩
      have HK5 := Lib.hid (HK4.out.trans hk5)
      have HR5 := Lib.hid (HR4.out.kept hk5); have HB85 := Lib.hid (HB8.out.kept hk5); have HF5 := Lib.hid (HF4.out.kept hk5)
      clear hk5 d8
      cases b3 with
      | false =>
        have HFIN := Lib.hid (HNO.out (fun M h => by
          obtain ⟨⟨N', hN, hM⟩, hok⟩ := (beh_check HOK.out).1 h
          have e := fields_one HBN.out.1 hN.1
          subst e
          rw [hM] at hok
          have := HB3.out.2 hok
          cases this) _ HK5.out)
        have r0 := HR5.out.c0; have rf := HR5.out.f
        go_wp2_with fail
        exact bodyPost_ret (by simp [results, Tryz.results8, go_sem, *]) rfl HFIN.out
      | true =>
        have HFIN := Lib.hid (show CheckE L x w (.returned (.tuple #[.agg #[.slice A4 n9 c4], .int .i64 0])) (u5.setCell ⟨w.heap.size + 2, 0, none⟩ (.slice A4 n9 c4)) from
          ⟨A4, n9, c4, 0, rfl, HK5.out.setCell (a := ⟨w.heap.size + 2, 0, none⟩) (Nat.le_add_right _ 2) _, .inl ⟨rfl, ofF N, (beh_check HOK.out).2 ⟨⟨N, HBN.out, rfl⟩, HB3.out.1 (by first | rfl | trivial)⟩, HR5.out.fl _ HF5.out⟩⟩)
        have d8 := HB85.out.c0; have r0 := HR5.out.c0; have rf := HR5.out.f
        go_wp2_with fail
        exact bodyPost_ret (by simp [results, Tryz.results8, go_sem, *]) rfl HFIN.out
set_option maxRecDepth 100000 in
set_option maxHeartbeats 16000000 in
theorem sturn0 (A : Option Addr) (n c : Nat) (x : St) (w : World) (h : Pal w A n c x.T.L) (hxp : x.p.size ≤ 2000) (hnm : x.nm.size ≤ 2000) (hT : SzT x.T) (q1 : ¬ x.k = 1) (q2 : ¬ x.k = 2) (q3 : ¬ x.k = 3) (q10 : ¬ x.k = 10) :
    Calls Tryz.prog 18 #[.agg (cellS A n c x).toArray] w (TurnE x w) := by
  have hk := ((Kept.refl w).alloc (cellS A n c x).toArray 33).alloc #[.int .i64 0, .string ⟨#[]⟩, .string ⟨#[]⟩, .string ⟨#[]⟩, .int .i64 0, .int .i64 0, .int .i64 0, .int .i64 0, .string ⟨#[]⟩, .int .i64 0, .int .i64 0, .string ⟨#[]⟩, .int .i64 0, .int .i64 0, .slice none 0 0, .bool false, .int .i64 0, .int .i64 0, .string ⟨#[]⟩, .int .i64 0, .int .i64 0, .string ⟨#[]⟩, .bool false] 33
  have hs := (StB.new w A n c x 33).kept ((Kept.refl _).alloc #[.int .i64 0, .string ⟨#[]⟩, .string ⟨#[]⟩, .string ⟨#[]⟩, .int .i64 0, .int .i64 0, .int .i64 0, .int .i64 0, .string ⟨#[]⟩, .int .i64 0, .int .i64 0, .string ⟨#[]⟩, .int .i64 0, .int .i64 0, .slice none 0 0, .bool false, .int .i64 0, .int .i64 0, .string ⟨#[]⟩, .int .i64 0, .int .i64 0, .string ⟨#[]⟩, .bool false] 33)
  have hr := StB.zero (w.alloc (.cells (cellS A n c x).toArray 33)) 33
  rw [show (w.alloc (.cells (cellS A n c x).toArray 33)).heap.size = w.heap.size + 1 by simp] at hr
  obtain ⟨U, hU⟩ : ∃ U, (w.alloc (.cells (cellS A n c x).toArray 33)).alloc (.cells #[.int .i64 0, .string ⟨#[]⟩, .string ⟨#[]⟩, .string ⟨#[]⟩, .int .i64 0, .int .i64 0, .int .i64 0, .int .i64 0, .string ⟨#[]⟩, .int .i64 0, .int .i64 0, .string ⟨#[]⟩, .int .i64 0, .int .i64 0, .slice none 0 0, .bool false, .int .i64 0, .int .i64 0, .string ⟨#[]⟩, .int .i64 0, .int .i64 0, .string ⟨#[]⟩, .bool false] 33) = U := ⟨_, rfl⟩
  rw [hU] at hk hs hr
  obtain ⟨m, hm⟩ : ∃ m, (L4.splS x.p).length = m := ⟨_, rfl⟩
  obtain ⟨pt, hto⟩ : ∃ p, moveS x x.p = p := ⟨_, rfl⟩
  have A1 := Lib.hid (fun w => spl_n x.p m hm (by omega) w)
  have A2 := Lib.hid (fun w => smove_any x.p A n c x w hxp hxp hnm pt hto)
  have hmm : m ≤ 2001 := by rw [← hm]; have := L4.splS_le x.p; omega
  have hm1 : 1 ≤ m := by rw [← hm]; exact L4.splS_pos x.p
  have HM := Lib.hid hm; have HTO := Lib.hid hto
  have HK := Lib.hid hk; have HS := Lib.hid hs; have HR := Lib.hid hr; have HUU := Lib.hid hU; have HPW := Lib.hid h; have HP := Lib.hid (h.kept hk); have HTZ := Lib.hid hT
  have N1 := Lib.hid (show w.heap.size ≠ w.heap.size + 1 by omega)
  clear hk hs hr hU hm hto hxp hnm h hT
  have c1 := HS.out.c1
  go_enter Tryz.func18, Tryz.ntmps18
  go_wp2_with (rw [HUU.out])
  go_at_call 51
  refine (A1.out _).mono ?_
  rintro e u1 ⟨b1, c3, rfl, hs1, hk⟩
  have HSL := Lib.hid hs1
  have hc1 := hs1.2.1; have hc2 := hs1.2.2.1
  replace HK := Lib.hid (HK.out.trans hk); replace HS := Lib.hid (HS.out.kept hk); replace HR := Lib.hid (HR.out.kept hk); replace HP := Lib.hid (HP.out.kept hk)
  clear hs1 hk c1
  have c1 := HS.out.c1
  go_wp2_with (refine wpList_load_mid rfl 33 _ rfl w.heap.size 0 rfl _ _ HS.out.r Tryz.underlying33 rfl (step_size A n c x) ?_)
  go_at_call 12
  refine (A2.out _).mono ?_
  rintro e u2 ⟨rfl, hk⟩
  replace HK := Lib.hid (HK.out.trans hk); replace HS := Lib.hid (HS.out.kept hk); replace HR := Lib.hid (HR.out.kept hk); replace HP := Lib.hid (HP.out.kept hk)
  replace HSL := Lib.hid (sl_kept HSL.out hk)
  clear hk c1
  have c0 := HS.out.c0
  have HTS := Lib.hid (St.turn0 q1 q2 q3 q10)
  have n11 : (x.k == 1) = false := by simp; omega
  have n12 : decide (x.k = 1) = false := decide_eq_false (by omega)
  have n21 : (x.k == 2) = false := by simp; omega
  have n22 : decide (x.k = 2) = false := decide_eq_false (by omega)
  have n31 : (x.k == 3) = false := by simp; omega
  have n32 : decide (x.k = 3) = false := decide_eq_false (by omega)
  have n101 : (x.k == 10) = false := by simp; omega
  have n102 : decide (x.k = 10) = false := decide_eq_false (by omega)
  clear q1 q2 q3 q10
  have AO := Lib.hid (fun w => sopp_any x.k w)
  obtain ⟨ko, hko⟩ : ∃ k, oppK x.k = k := ⟨_, rfl⟩
  rw [hko] at HTS AO
  clear hko
  go_wp2_with fail
  go_at_call 61
  refine (AO.out _).mono ?_
  rintro e u3 ⟨rfl, rfl⟩
  have cf := HS.out.f
  replace HS := Lib.hid (HS.out.setK ko)
  replace HR := Lib.hid (HR.out.far (g := w.heap.size) (i := 0) N1.out (.int .i64 ko))
  replace HK := Lib.hid (HK.out.setCell (a := ⟨w.heap.size, 0, none⟩) (Nat.le_refl _) (.int .i64 ko))
  obtain ⟨u9, hu9⟩ : ∃ u, (World.setCell u2 ⟨w.heap.size, 0, none⟩ (.int .i64 ko)) = u := ⟨_, rfl⟩
  rw [hu9] at HS HR HK
  have HU9 := Lib.hid hu9
  clear hu9
  obtain ⟨y, hy⟩ : ∃ y : St, { x with k := ko } = y := ⟨_, rfl⟩
  have HY := Lib.hid (show turnSt x = y by rw [← hy]; exact HTS.out)
  rw [hy] at HS
  have HYL := Lib.hid (show y.T.L = x.T.L by rw [← hy])
  clear hy
  have hrx := HR.out.over A n c y
  have hkx := Kept.setCells (b := w.heap.size + 1) (by omega) (cellS A n c y).toArray.toList 0 _ HK.out
  have HTH := Lib.hid (HR.out.there A n c y)
  have HPX := Lib.hid (HPW.out.kept hkx)
  obtain ⟨w9, hw9⟩ : ∃ u, World.setCells u9 (w.heap.size + 1) 0 (cellS A n c y).toArray.toList = u := ⟨_, rfl⟩
  rw [hw9] at hrx hkx HPX
  have HRX := Lib.hid hrx; have HKX := Lib.hid hkx; have HW9 := Lib.hid hw9
  clear hrx hkx hw9 HR HK HUU
  go_wp2_with (first | rw [HU9.out] | (refine wpList_load_mid rfl 33 _ rfl w.heap.size 0 rfl _ _ HS.out.r Tryz.underlying33 rfl (step_size A n c _) ?_) | (refine wpList_store_mid rfl 33 _ _ rfl (w.heap.size + 1) 0 _ rfl rfl HTH.out (step_sizeA A n c _) (cellS_one A n c _) ?_; rw [HW9.out]))
  try simp only [Exit.inBlock, Exit.then]
  exact bodyPost_ret (results_step rfl _ rfl HRX.out) rfl ⟨A, n, c, by rw [HY.out], by rw [HY.out, HYL.out]; exact HPX.out, HKX.out⟩
set_option maxRecDepth 100000 in
set_option maxHeartbeats 16000000 in
theorem sturn1 (A : Option Addr) (n c : Nat) (x : St) (w : World) (h : Pal w A n c x.T.L) (hxp : x.p.size ≤ 2000) (hnm : x.nm.size ≤ 2000) (hT : SzT x.T) (q : x.k = 1) :
    Calls Tryz.prog 18 #[.agg (cellS A n c x).toArray] w (TurnE x w) := by
  have hk := ((Kept.refl w).alloc (cellS A n c x).toArray 33).alloc #[.int .i64 0, .string ⟨#[]⟩, .string ⟨#[]⟩, .string ⟨#[]⟩, .int .i64 0, .int .i64 0, .int .i64 0, .int .i64 0, .string ⟨#[]⟩, .int .i64 0, .int .i64 0, .string ⟨#[]⟩, .int .i64 0, .int .i64 0, .slice none 0 0, .bool false, .int .i64 0, .int .i64 0, .string ⟨#[]⟩, .int .i64 0, .int .i64 0, .string ⟨#[]⟩, .bool false] 33
  have hs := (StB.new w A n c x 33).kept ((Kept.refl _).alloc #[.int .i64 0, .string ⟨#[]⟩, .string ⟨#[]⟩, .string ⟨#[]⟩, .int .i64 0, .int .i64 0, .int .i64 0, .int .i64 0, .string ⟨#[]⟩, .int .i64 0, .int .i64 0, .string ⟨#[]⟩, .int .i64 0, .int .i64 0, .slice none 0 0, .bool false, .int .i64 0, .int .i64 0, .string ⟨#[]⟩, .int .i64 0, .int .i64 0, .string ⟨#[]⟩, .bool false] 33)
  have hr := StB.zero (w.alloc (.cells (cellS A n c x).toArray 33)) 33
  rw [show (w.alloc (.cells (cellS A n c x).toArray 33)).heap.size = w.heap.size + 1 by simp] at hr
  obtain ⟨U, hU⟩ : ∃ U, (w.alloc (.cells (cellS A n c x).toArray 33)).alloc (.cells #[.int .i64 0, .string ⟨#[]⟩, .string ⟨#[]⟩, .string ⟨#[]⟩, .int .i64 0, .int .i64 0, .int .i64 0, .int .i64 0, .string ⟨#[]⟩, .int .i64 0, .int .i64 0, .string ⟨#[]⟩, .int .i64 0, .int .i64 0, .slice none 0 0, .bool false, .int .i64 0, .int .i64 0, .string ⟨#[]⟩, .int .i64 0, .int .i64 0, .string ⟨#[]⟩, .bool false] 33) = U := ⟨_, rfl⟩
  rw [hU] at hk hs hr
  obtain ⟨m, hm⟩ : ∃ m, (L4.splS x.p).length = m := ⟨_, rfl⟩
  obtain ⟨pt, hto⟩ : ∃ p, moveS x x.p = p := ⟨_, rfl⟩
  have A1 := Lib.hid (fun w => spl_n x.p m hm (by omega) w)
  have A2 := Lib.hid (fun w => smove_any x.p A n c x w hxp hxp hnm pt hto)
  have hmm : m ≤ 2001 := by rw [← hm]; have := L4.splS_le x.p; omega
  have hm1 : 1 ≤ m := by rw [← hm]; exact L4.splS_pos x.p
  have HM := Lib.hid hm; have HTO := Lib.hid hto
  have HK := Lib.hid hk; have HS := Lib.hid hs; have HR := Lib.hid hr; have HUU := Lib.hid hU; have HPW := Lib.hid h; have HP := Lib.hid (h.kept hk); have HTZ := Lib.hid hT
  have N1 := Lib.hid (show w.heap.size ≠ w.heap.size + 1 by omega)
  clear hk hs hr hU hm hto hxp hnm h hT
  have c1 := HS.out.c1
  go_enter Tryz.func18, Tryz.ntmps18
  go_wp2_with (rw [HUU.out])
  go_at_call 51
  refine (A1.out _).mono ?_
  rintro e u1 ⟨b1, c3, rfl, hs1, hk⟩
  have HSL := Lib.hid hs1
  have hc1 := hs1.2.1; have hc2 := hs1.2.2.1
  replace HK := Lib.hid (HK.out.trans hk); replace HS := Lib.hid (HS.out.kept hk); replace HR := Lib.hid (HR.out.kept hk); replace HP := Lib.hid (HP.out.kept hk)
  clear hs1 hk c1
  have c1 := HS.out.c1
  go_wp2_with (refine wpList_load_mid rfl 33 _ rfl w.heap.size 0 rfl _ _ HS.out.r Tryz.underlying33 rfl (step_size A n c x) ?_)
  go_at_call 12
  refine (A2.out _).mono ?_
  rintro e u2 ⟨rfl, hk⟩
  replace HK := Lib.hid (HK.out.trans hk); replace HS := Lib.hid (HS.out.kept hk); replace HR := Lib.hid (HR.out.kept hk); replace HP := Lib.hid (HP.out.kept hk)
  replace HSL := Lib.hid (sl_kept HSL.out hk)
  clear hk c1
  have c0 := HS.out.c0
  have HTS := Lib.hid (St.turn1 q HM.out)
  rw [HTO.out] at HTS
  obtain ⟨g, hg⟩ : ∃ g, L4.sg x.p (m - 1) = g := ⟨_, rfl⟩
  rw [hg] at HTS
  have hcell : u2.cell? ⟨b1, m - 1, none⟩ = some (.string g) := by have := HSL.out.get (k := m - 1) (by omega); rw [Nat.zero_add] at this; rw [this, ← hg]; rfl
  have hnb : b1 ≠ w.heap.size := fun e => by
    have h1 := HSL.out.get (k := 0) (by omega)
    rw [Nat.zero_add, e] at h1
    have h2 := HS.out.c0
    rw [h1] at h2
    cases h2
  have C5 := KExtE.cell (b := w.heap.size) hnb hcell
  have w1 : IntKind.i64.wrap ((m : Int) - 1) = ((m - 1 : Nat) : Int) := by rw [IntWalk.i64_in _ (by omega)]; omega
  have hix : ((m : Int) - 1).toNat = m - 1 := by omega
  have hin : m - 1 < m := by omega
  have e11 : (x.k == 1) = true := by rw [q]; rfl
  have e12 : decide (x.k = 1) = true := decide_eq_true q
  clear q hg hcell hnb
  go_wp2_with fail
  clear c0
  refine region_planE w.heap.size u2 10 (.read [0, 1, 2, 3, 4, 5, 6] (.one 7 (.read [8] (.one 9 .stop)))) (by kernel_rfl) (by kernel_rfl) (by kernel_rfl) (by kernel_rfl) (by kernel_rfl) (fun _ d _ _ _ h => by cases d <;> exact h) (Kept.refl _) ?_
  intro wd hwd
  have HE := Lib.hid (KeptE.of (G := w.heap.size) hwd)
  replace HS := Lib.hid (HS.out.kept hwd); replace HR := Lib.hid (HR.out.kept hwd); replace HK := Lib.hid (HK.out.trans hwd)
  clear hwd
  rw [wpPlan_read]
  simp only [pA, pB, pC, pD, pE]
  repeat (go_big_quiet_step (fail))
  refine wpQuiet_nil ?_
  clear C5
  rw [wpPlan_one]
  simp only [pA, pB, pC, pD, pE]
  have ci := HS.out.c1; have cf := HS.out.f
  go_wp2_with fail
  clear ci cf
  replace HE := Lib.hid (HE.out.set (a := ⟨w.heap.size, 1, none⟩) (.inl rfl) (.string pt))
  replace HS := Lib.hid (HS.out.setP pt)
  replace HR := Lib.hid (HR.out.far (g := w.heap.size) (i := 1) N1.out (.string pt))
  replace HK := Lib.hid (HK.out.setCell (a := ⟨w.heap.size, 1, none⟩) (Nat.le_refl _) (.string pt))
  obtain ⟨v0, hv0⟩ : ∃ u, (World.setCell wd ⟨w.heap.size, 1, none⟩ (.string pt)) = u := ⟨_, rfl⟩
  rw [hv0] at HS HR HK HE ⊢
  have HV0 := Lib.hid hv0
  clear hv0
  refine soloE HE.out ?_
  rw [wpPlan_read]
  simp only [pA, pB, pC, pD, pE]
  repeat (go_big_quiet_step (fail))
  refine wpQuiet_nil ?_
  rw [wpPlan_one]
  simp only [pA, pB, pC, pD, pE]
  have ci := HS.out.c2; have cf := HS.out.f
  go_wp2_with fail
  clear ci cf
  replace HE := Lib.hid (HE.out.set (a := ⟨w.heap.size, 2, none⟩) (.inl rfl) (.string g))
  replace HS := Lib.hid (HS.out.setN g)
  replace HR := Lib.hid (HR.out.far (g := w.heap.size) (i := 2) N1.out (.string g))
  replace HK := Lib.hid (HK.out.setCell (a := ⟨w.heap.size, 2, none⟩) (Nat.le_refl _) (.string g))
  obtain ⟨u9, hu9⟩ : ∃ u, (World.setCell v0 ⟨w.heap.size, 2, none⟩ (.string g)) = u := ⟨_, rfl⟩
  rw [hu9] at HS HR HK HE ⊢
  have HU9 := Lib.hid hu9
  clear hu9
  refine soloE HE.out ?_
  refine wpPlan_stop ?_
  obtain ⟨y, hy⟩ : ∃ y : St, { x with p := pt, nm := g } = y := ⟨_, rfl⟩
  have HY := Lib.hid (show turnSt x = y by rw [← hy]; exact HTS.out)
  rw [hy] at HS
  have HYL := Lib.hid (show y.T.L = x.T.L by rw [← hy])
  clear hy
  have hrx := HR.out.over A n c y
  have hkx := Kept.setCells (b := w.heap.size + 1) (by omega) (cellS A n c y).toArray.toList 0 _ HK.out
  have HTH := Lib.hid (HR.out.there A n c y)
  have HPX := Lib.hid (HPW.out.kept hkx)
  obtain ⟨w9, hw9⟩ : ∃ u, World.setCells u9 (w.heap.size + 1) 0 (cellS A n c y).toArray.toList = u := ⟨_, rfl⟩
  rw [hw9] at hrx hkx HPX
  have HRX := Lib.hid hrx; have HKX := Lib.hid hkx; have HW9 := Lib.hid hw9
  clear hrx hkx hw9 HR HK HUU
  go_wp2_with (first | rw [HU9.out] | (refine wpList_load_mid rfl 33 _ rfl w.heap.size 0 rfl _ _ HS.out.r Tryz.underlying33 rfl (step_size A n c _) ?_) | (refine wpList_store_mid rfl 33 _ _ rfl (w.heap.size + 1) 0 _ rfl rfl HTH.out (step_sizeA A n c _) (cellS_one A n c _) ?_; rw [HW9.out]))
  try simp only [Exit.inBlock, Exit.then]
  exact bodyPost_ret (results_step rfl _ rfl HRX.out) rfl ⟨A, n, c, by rw [HY.out], by rw [HY.out, HYL.out]; exact HPX.out, HKX.out⟩
end Go.Proofs.YtofnpifooaijcaaGreat
