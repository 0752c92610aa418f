/-
  What is proved: Leave and Take of the document's layer 10, called with any states, entries and dots that lie in memory, return what P10.2 and P10.3 say; the world has new blocks at most.
-/
import Derived.Test.YtkooihljddibfaaGreatM24
import Derived.Test.YtkooihljddibfaaGreatM23
import Derived.Test.YtkooihljddibfaaGreatM31
namespace Go.Proofs.YtkooihljddibfaaGreat
open Go.RowKit
set_option linter.unusedVariables false

set_option maxRecDepth 100000 in
set_option maxHeartbeats 8000000 in
theorem rleave_any (x : En) (B : Option Addr) (m k : Nat) (G : List (Int × Int)) (w : World) (hd : Dl w B m k G) (hm : m ≤ 900000) :
    Calls Tryz.prog 11 #[.agg #[.int .i64 x.d.1, .int .i64 x.d.2, .string x.p, .int .i64 x.k, .int .i64 x.vk, .int .i64 x.vn, .string x.vt, .int .i64 x.e.1, .int .i64 x.e.2], .slice B m k] w (StJ (LeaveS x G) w) := by
  have hk := ((Kept.refl w).alloc #[.int .i64 x.d.1, .int .i64 x.d.2, .string x.p, .int .i64 x.k, .int .i64 x.vk, .int .i64 x.vn, .string x.vt, .int .i64 x.e.1, .int .i64 x.e.2] 34).alloc #[.slice none 0 0, .slice none 0 0, .slice none 0 0] 28
  have hb := (Ent.new w x 34).kept ((Kept.refl _).alloc #[.slice none 0 0, .slice none 0 0, .slice none 0 0] 28)
  have hr := Box3.new (w.alloc (.cells #[.int .i64 x.d.1, .int .i64 x.d.2, .string x.p, .int .i64 x.k, .int .i64 x.vk, .int .i64 x.vn, .string x.vt, .int .i64 x.e.1, .int .i64 x.e.2] 34)) (.slice none 0 0) (.slice none 0 0) (.slice none 0 0) 28
  rw [show (w.alloc (.cells #[.int .i64 x.d.1, .int .i64 x.d.2, .string x.p, .int .i64 x.k, .int .i64 x.vk, .int .i64 x.vn, .string x.vt, .int .i64 x.e.1, .int .i64 x.e.2] 34)).heap.size = w.heap.size + 1 by simp] at hr
  obtain ⟨W0, hW0⟩ : ∃ U, (w.alloc (.cells #[.int .i64 x.d.1, .int .i64 x.d.2, .string x.p, .int .i64 x.k, .int .i64 x.vk, .int .i64 x.vn, .string x.vt, .int .i64 x.e.1, .int .i64 x.e.2] 34)).alloc (.cells #[.slice none 0 0, .slice none 0 0, .slice none 0 0] 28) = U := ⟨_, rfl⟩
  rw [hW0] at hk hb hr
  have HG := Lib.hid (hd.kept hk); have HGL := Lib.hid hd.1; have HRES := Lib.hid hr; have HK := Lib.hid hk; have HWW := Lib.hid hW0
  have hcap := hd.cap.1; have hcap2 := hd.cap.2
  have x0 := KExtE.cell (b := w.heap.size + 1) (by omega) hb.c0; have x1 := KExtE.cell (b := w.heap.size + 1) (by omega) hb.c1; have x2 := KExtE.cell (b := w.heap.size + 1) (by omega) hb.c2; have x3 := KExtE.cell (b := w.heap.size + 1) (by omega) hb.c3; have x4 := KExtE.cell (b := w.heap.size + 1) (by omega) hb.c4; have x5 := KExtE.cell (b := w.heap.size + 1) (by omega) hb.c5; have x6 := KExtE.cell (b := w.heap.size + 1) (by omega) hb.c6; have x7 := KExtE.cell (b := w.heap.size + 1) (by omega) hb.c7; have x8 := KExtE.cell (b := w.heap.size + 1) (by omega) hb.c8
  clear hd hk hb hr hW0
  go_enter Tryz.func11, Tryz.ntmps11
  go_wp2_with fail
  rw [HWW.out]
  refine region_planE (w.heap.size + 1) W0 12 (.read [0, 3, 5, 6] (.three 1 (.two 2 (.two 4 (.one 7 (.one 8 (.one 9 (.read [10] (.one 11 .stop))))) 7 (.one 4 (.one 8 (.one 9 (.read [10] (.one 11 .stop)))))) 7 (.one 2 (.one 4 (.one 8 (.one 9 (.read [10] (.one 11 .stop))))))) 2 (.three 1 (.two 4 (.one 7 (.one 8 (.one 9 (.read [10] (.one 11 .stop))))) 7 (.one 4 (.one 8 (.one 9 (.read [10] (.one 11 .stop)))))) 4 (.two 1 (.one 7 (.one 8 (.one 9 (.read [10] (.one 11 .stop))))) 7 (.two 1 (.one 8 (.one 9 (.read [10] (.one 11 .stop)))) 8 (.two 1 (.one 9 (.read [10] (.one 11 .stop))) 9 (.one 1 (.read [10] (.one 11 .stop)))))) 7 (.two 1 (.one 4 (.one 8 (.one 9 (.read [10] (.one 11 .stop))))) 4 (.two 1 (.one 8 (.one 9 (.read [10] (.one 11 .stop)))) 8 (.two 1 (.one 9 (.read [10] (.one 11 .stop))) 9 (.one 1 (.read [10] (.one 11 .stop))))))) 7 (.two 1 (.one 2 (.one 4 (.one 8 (.one 9 (.read [10] (.one 11 .stop)))))) 2 (.two 1 (.one 4 (.one 8 (.one 9 (.read [10] (.one 11 .stop))))) 4 (.two 1 (.one 8 (.one 9 (.read [10] (.one 11 .stop)))) 8 (.two 1 (.one 9 (.read [10] (.one 11 .stop))) 9 (.one 1 (.read [10] (.one 11 .stop))))))))) (by kernel_rfl) (by kernel_rfl) (by kernel_rfl) (by kernel_rfl) (by kernel_rfl) (fun _ d _ _ _ h => by cases d <;> exact h) (Kept.refl _) ?_
  intro wd hwd
  have HV := Lib.hid hwd
  clear hwd
  rw [wpPlan_read]
  simp only [pickOps_cons, pickOps_nil, consO_some, List.getElem?_cons_zero, List.getElem?_cons_succ]
  repeat (go_big_quiet_step (fail))
  refine wpQuiet_nil ?_
  clear x0 x1 x2 x3 x4 x5 x6 x7 x8
  rw [wpPlan_three]
  simp only [pickOps_cons, pickOps_nil, consO_some, List.getElem?_cons_zero, List.getElem?_cons_succ]
  refine ⟨?_, ?_, ?_⟩
  · go_wp2_with fail
    have hkz := (Kept.refl wd).alloc #[.int .i64 x.d.1, .int .i64 x.d.2, .string x.p, .int .i64 x.k, .int .i64 x.vk, .int .i64 x.vn, .string x.vt, .int .i64 x.e.1, .int .i64 x.e.2] 34
    have HE := Lib.hid (el_one (Ent.new wd x 34))
    have HLE := Lib.hid (show wd.heap.size < (wd.alloc (.cells #[.int .i64 x.d.1, .int .i64 x.d.2, .string x.p, .int .i64 x.k, .int .i64 x.vk, .int .i64 x.vn, .string x.vt, .int .i64 x.e.1, .int .i64 x.e.2] 34)).heap.size by simp)
    replace HV := Lib.hid (HV.out.trans hkz)
    obtain ⟨bE, hbz⟩ : ∃ b, (World.heap wd).size = b := ⟨_, rfl⟩
    obtain ⟨u1, hwz⟩ : ∃ u, World.alloc wd (.cells #[.int .i64 x.d.1, .int .i64 x.d.2, .string x.p, .int .i64 x.k, .int .i64 x.vk, .int .i64 x.vn, .string x.vt, .int .i64 x.e.1, .int .i64 x.e.2] 34) = u := ⟨_, rfl⟩
    rw [hwz] at HE HLE HV ⊢
    rw [hbz] at HE HLE
    try rw [hbz]
    clear hkz hbz hwz
    refine soloE (.of HV.out) ?_
    rw [wpPlan_two]
    simp only [pickOps_cons, pickOps_nil, consO_some, List.getElem?_cons_zero, List.getElem?_cons_succ]
    constructor
    · go_wp2_with fail
      have HLE0 := HLE
      have hkz := (Kept.refl u1).alloc #[] 30
      replace HE := Lib.hid (HE.out.kept hkz)
      replace HLE := Lib.hid (Nat.lt_of_lt_of_le HLE.out hkz.2.2)
      have HR := Lib.hid (OutG.made HV.out)
      have HNE := Lib.hid (show (Value.slice (some ⟨u1.heap.size, 0, none⟩) 0 0).ownBlock ≠ some bE from fun e => by have h1 := HLE0.out; have h2 : u1.heap.size = bE := Option.some.inj e; omega)
      replace HV := Lib.hid (HV.out.trans hkz)
      obtain ⟨bR, hbz⟩ : ∃ b, (World.heap u1).size = b := ⟨_, rfl⟩
      obtain ⟨u2, hwz⟩ : ∃ u, World.alloc u1 (.cells #[] 30) = u := ⟨_, rfl⟩
      rw [hwz] at HE HLE HR HV ⊢
      rw [hbz] at HR HNE
      try rw [hbz]
      clear hkz hbz hwz
      clear HLE0
      refine soloE (.of HV.out) ?_
      rw [wpPlan_two]
      simp only [pickOps_cons, pickOps_nil, consO_some, List.getElem?_cons_zero, List.getElem?_cons_succ]
      constructor
      · obtain ⟨vG, u3, hrz, hoz, hfz⟩ := HR.out.app B m k G (HG.out.kept HV.out) (by simp; omega)
        have HRUN := Lib.hid hrz
        obtain ⟨hne, hle, hel, _⟩ := hfz bE HLE.out HNE.out
        replace HNE := Lib.hid hne
        replace HLE := Lib.hid hle
        replace HE := Lib.hid (hel _ _ _ HE.out)
        clear hne hle hel
        replace HR := Lib.hid hoz
        replace HV := Lib.hid hoz.ke
        clear hrz hoz hfz
        go_wp2_with (at_builtin; refine Lib.wpList_append_run _ rfl (.tmp 7) (.tmp 8) _ _ rfl _ _ rfl rfl _ _ HRUN.out ?_)
        clear HRUN
        refine soloE (.of HV.out) ?_
        rw [wpPlan_one]
        simp only [pickOps_cons, pickOps_nil, consO_some, List.getElem?_cons_zero, List.getElem?_cons_succ]
        go_wp2_with fail
        have hkz := (Kept.refl u3).alloc #[.int .i64 x.d.1, .int .i64 x.d.2] 30
        replace HE := Lib.hid (HE.out.kept hkz)
        replace HLE := Lib.hid (Nat.lt_of_lt_of_le HLE.out hkz.2.2)
        have HO1 := Lib.hid (dl_one u3 x.d.1 x.d.2 30)
        have HLO := Lib.hid (show u3.heap.size < (u3.alloc (.cells #[.int .i64 x.d.1, .int .i64 x.d.2] 30)).heap.size by simp)
        have HNO := Lib.hid HR.out.lt
        replace HR := Lib.hid (HR.out.kept hkz)
        replace HV := Lib.hid (HV.out.trans hkz)
        obtain ⟨bO, hbz⟩ : ∃ b, (World.heap u3).size = b := ⟨_, rfl⟩
        obtain ⟨u4, hwz⟩ : ∃ u, World.alloc u3 (.cells #[.int .i64 x.d.1, .int .i64 x.d.2] 30) = u := ⟨_, rfl⟩
        rw [hwz] at HE HLE HO1 HLO HR HV ⊢
        rw [hbz] at HO1 HLO HNO
        try rw [hbz]
        clear hkz hbz hwz
        refine soloE (.of HV.out) ?_
        rw [wpPlan_one]
        simp only [pickOps_cons, pickOps_nil, consO_some, List.getElem?_cons_zero, List.getElem?_cons_succ]
        obtain ⟨vD, u5, hrz, hoz, hfz⟩ := HR.out.app (some ⟨bO, 0, none⟩) 1 1 _ HO1.out (by have := HGL.out; simp; omega)
        have HRUN := Lib.hid hrz
        obtain ⟨hne, hle, hel, _⟩ := hfz bE HLE.out HNE.out
        replace HNE := Lib.hid hne
        replace HLE := Lib.hid hle
        replace HE := Lib.hid (hel _ _ _ HE.out)
        clear hne hle hel
        replace HR := Lib.hid hoz
        replace HV := Lib.hid hoz.ke
        clear hrz hoz hfz
        go_wp2_with (at_builtin; refine Lib.wpList_append_run _ rfl (.tmp 9) (.tmp 12) _ _ rfl _ _ rfl rfl _ _ HRUN.out ?_)
        clear HRUN
        obtain ⟨AD, cD, rfl, hdz⟩ := HR.out.form
        have hlz : ([] ++ G ++ [(x.d.1, x.d.2)]).length = m + 1 := by have := HGL.out; simp; omega
        rw [hlz] at hdz ⊢
        have HDD := Lib.hid hdz
        clear hdz hlz HR HO1 HLO HNO HNE
        refine soloE (.of HV.out) ?_
        rw [wpPlan_one]
        simp only [pickOps_cons, pickOps_nil, consO_some, List.getElem?_cons_zero, List.getElem?_cons_succ]
        go_wp2_with (go_at_call 32; refine (rof_any AD (m + 1) cD _ _ HDD.out (by omega)).mono ?_; rintro e u6 ⟨A7, n7, c7, B7, m7, k7, V7, C7, rfl, hi7, hd7, hs7, hm7, hkz, _, _⟩)
        have HI := Lib.hid hi7
        have HDC := Lib.hid hd7
        have HS7 := Lib.hid hs7
        have HM7 := Lib.hid hm7
        replace HV := Lib.hid (HV.out.trans hkz)
        replace HE := Lib.hid (HE.out.kept hkz)
        replace HLE := Lib.hid (Nat.lt_of_lt_of_le HLE.out hkz.2.2)
        clear hi7 hd7 hs7 hm7 hkz HDD
        refine soloE (.of HV.out) ?_
        rw [wpPlan_read]
        simp only [pickOps_cons, pickOps_nil, consO_some, List.getElem?_cons_zero, List.getElem?_cons_succ]
        repeat (go_big_quiet_step (fail))
        refine wpQuiet_nil ?_
        rw [wpPlan_one]
        simp only [pickOps_cons, pickOps_nil, consO_some, List.getElem?_cons_zero, List.getElem?_cons_succ]
        have hres := HRES.out.kept HV.out
        have e0 := hres.c0; have e1 := hres.c1; have e2 := hres.c2; have ef := hres.f
        have HF := Lib.hid (stj_put (S := LeaveS x G) (W := w) (s := ⟨[x], V7, C7⟩) (show Stt u6 (some ⟨bE, 0, none⟩) 1 1 A7 n7 c7 B7 m7 k7 [x] V7 C7 from ⟨HE.out, HI.out, HDC.out⟩) hres (Nat.le_add_right _ 1) (HK.out.trans HV.out) ⟨rfl, ⟨HS7.out.right, fun e => (HS7.out.has e).trans (ev_aft e)⟩, by have h1 := HDC.out.1; have h2 := HGL.out; have h3 := HM7.out; simp only [List.nil_append, List.length_append, List.length_cons, List.length_nil] at h3; show C7.length ≤ G.length + 1; omega⟩)
        clear hres
        go_wp2_with fail
        refine soloE ((((KeptE.of (G := w.heap.size + 1) HV.out).set (.inl rfl) _).set (.inl rfl) _).set (.inl rfl) _) ?_
        refine wpPlan_stop ?_
        go_wp2_with fail
        exact bodyPost_ret (by simp [results, Tryz.results11, go_sem, *]) rfl HF.out
      · go_wp2_with fail
        have hkz := (Kept.refl u2).alloc #[.int .i64 x.d.1, .int .i64 x.d.2] 30
        replace HE := Lib.hid (HE.out.kept hkz)
        replace HLE := Lib.hid (Nat.lt_of_lt_of_le HLE.out hkz.2.2)
        have HO1 := Lib.hid (dl_one u2 x.d.1 x.d.2 30)
        have HLO := Lib.hid (show u2.heap.size < (u2.alloc (.cells #[.int .i64 x.d.1, .int .i64 x.d.2] 30)).heap.size by simp)
        have HNO := Lib.hid HR.out.lt
        replace HR := Lib.hid (HR.out.kept hkz)
        replace HV := Lib.hid (HV.out.trans hkz)
        obtain ⟨bO, hbz⟩ : ∃ b, (World.heap u2).size = b := ⟨_, rfl⟩
        obtain ⟨u3, hwz⟩ : ∃ u, World.alloc u2 (.cells #[.int .i64 x.d.1, .int .i64 x.d.2] 30) = u := ⟨_, rfl⟩
        rw [hwz] at HE HLE HO1 HLO HR HV ⊢
        rw [hbz] at HO1 HLO HNO
        try rw [hbz]
        clear hkz hbz hwz
        refine soloE (.of HV.out) ?_
        rw [wpPlan_one]
        simp only [pickOps_cons, pickOps_nil, consO_some, List.getElem?_cons_zero, List.getElem?_cons_succ]
        obtain ⟨vG, u4, hrz, hoz, hfz⟩ := HR.out.app B m k G (HG.out.kept HV.out) (by simp; omega)
        have HRUN := Lib.hid hrz
        obtain ⟨hne, hle, hel, _⟩ := hfz bE HLE.out HNE.out
        replace HNE := Lib.hid hne
        replace HLE := Lib.hid hle
        replace HE := Lib.hid (hel _ _ _ HE.out)
        clear hne hle hel
        obtain ⟨hne, hle, _, hel⟩ := hfz bO HLO.out HNO.out
        replace HNO := Lib.hid hne
        replace HLO := Lib.hid hle
        replace HO1 := Lib.hid (hel _ _ _ HO1.out)
        clear hne hle hel
        replace HR := Lib.hid hoz
        replace HV := Lib.hid hoz.ke
        clear hrz hoz hfz
        go_wp2_with (at_builtin; refine Lib.wpList_append_run _ rfl (.tmp 7) (.tmp 8) _ _ rfl _ _ rfl rfl _ _ HRUN.out ?_)
        clear HRUN
        refine soloE (.of HV.out) ?_
        rw [wpPlan_one]
        simp only [pickOps_cons, pickOps_nil, consO_some, List.getElem?_cons_zero, List.getElem?_cons_succ]
        obtain ⟨vD, u5, hrz, hoz, hfz⟩ := HR.out.app (some ⟨bO, 0, none⟩) 1 1 _ HO1.out (by have := HGL.out; simp; omega)
        have HRUN := Lib.hid hrz
        obtain ⟨hne, hle, hel, _⟩ := hfz bE HLE.out HNE.out
        replace HNE := Lib.hid hne
        replace HLE := Lib.hid hle
        replace HE := Lib.hid (hel _ _ _ HE.out)
        clear hne hle hel
        replace HR := Lib.hid hoz
        replace HV := Lib.hid hoz.ke
        clear hrz hoz hfz
        go_wp2_with (at_builtin; refine Lib.wpList_append_run _ rfl (.tmp 9) (.tmp 12) _ _ rfl _ _ rfl rfl _ _ HRUN.out ?_)
        clear HRUN
        obtain ⟨AD, cD, rfl, hdz⟩ := HR.out.form
        have hlz : ([] ++ G ++ [(x.d.1, x.d.2)]).length = m + 1 := by have := HGL.out; simp; omega
        rw [hlz] at hdz ⊢
        have HDD := Lib.hid hdz
        clear hdz hlz HR HO1 HLO HNO HNE
        refine soloE (.of HV.out) ?_
        rw [wpPlan_one]
        simp only [pickOps_cons, pickOps_nil, consO_some, List.getElem?_cons_zero, List.getElem?_cons_succ]
        go_wp2_with (go_at_call 32; refine (rof_any AD (m + 1) cD _ _ HDD.out (by omega)).mono ?_; rintro e u6 ⟨A7, n7, c7, B7, m7, k7, V7, C7, rfl, hi7, hd7, hs7, hm7, hkz, _, _⟩)
        have HI := Lib.hid hi7
        have HDC := Lib.hid hd7
        have HS7 := Lib.hid hs7
        have HM7 := Lib.hid hm7
        replace HV := Lib.hid (HV.out.trans hkz)
        replace HE := Lib.hid (HE.out.kept hkz)
        replace HLE := Lib.hid (Nat.lt_of_lt_of_le HLE.out hkz.2.2)
        clear hi7 hd7 hs7 hm7 hkz HDD
        refine soloE (.of HV.out) ?_
        rw [wpPlan_read]
        simp only [pickOps_cons, pickOps_nil, consO_some, List.getElem?_cons_zero, List.getElem?_cons_succ]
        repeat (go_big_quiet_step (fail))
        refine wpQuiet_nil ?_
        rw [wpPlan_one]
        simp only [pickOps_cons, pickOps_nil, consO_some, List.getElem?_cons_zero, List.getElem?_cons_succ]
        have hres := HRES.out.kept HV.out
        have e0 := hres.c0; have e1 := hres.c1; have e2 := hres.c2; have ef := hres.f
        have HF := Lib.hid (stj_put (S := LeaveS x G) (W := w) (s := ⟨[x], V7, C7⟩) (show Stt u6 (some ⟨bE, 0, none⟩) 1 1 A7 n7 c7 B7 m7 k7 [x] V7 C7 from ⟨HE.out, HI.out, HDC.out⟩) hres (Nat.le_add_right _ 1) (HK.out.trans HV.out) ⟨rfl, ⟨HS7.out.right, fun e => (HS7.out.has e).trans (ev_aft e)⟩, by have h1 := HDC.out.1; have h2 := HGL.out; have h3 := HM7.out; simp only [List.nil_append, List.length_append, List.length_cons, List.length_nil] at h3; show C7.length ≤ G.length + 1; omega⟩)
        clear hres
        go_wp2_with fail
        refine soloE ((((KeptE.of (G := w.heap.size + 1) HV.out).set (.inl rfl) _).set (.inl rfl) _).set (.inl rfl) _) ?_
        refine wpPlan_stop ?_
        go_wp2_with fail
        exact bodyPost_ret (by simp [results, Tryz.results11, go_sem, *]) rfl HF.out
    · go_wp2_with fail
      have hkz := (Kept.refl u1).alloc #[.int .i64 x.d.1, .int .i64 x.d.2] 30
      replace HE := Lib.hid (HE.out.kept hkz)
      replace HLE := Lib.hid (Nat.lt_of_lt_of_le HLE.out hkz.2.2)
      have HO1 := Lib.hid (dl_one u1 x.d.1 x.d.2 30)
      have HLO := Lib.hid (show u1.heap.size < (u1.alloc (.cells #[.int .i64 x.d.1, .int .i64 x.d.2] 30)).heap.size by simp)
      replace HV := Lib.hid (HV.out.trans hkz)
      obtain ⟨bO, hbz⟩ : ∃ b, (World.heap u1).size = b := ⟨_, rfl⟩
      obtain ⟨u2, hwz⟩ : ∃ u, World.alloc u1 (.cells #[.int .i64 x.d.1, .int .i64 x.d.2] 30) = u := ⟨_, rfl⟩
      rw [hwz] at HE HLE HO1 HLO HV ⊢
      rw [hbz] at HO1 HLO
      try rw [hbz]
      clear hkz hbz hwz
      refine soloE (.of HV.out) ?_
      rw [wpPlan_one]
      simp only [pickOps_cons, pickOps_nil, consO_some, List.getElem?_cons_zero, List.getElem?_cons_succ]
      go_wp2_with fail
      have HLE0 := HLE
      have HLO0 := HLO
      have hkz := (Kept.refl u2).alloc #[] 30
      replace HE := Lib.hid (HE.out.kept hkz)
      replace HLE := Lib.hid (Nat.lt_of_lt_of_le HLE.out hkz.2.2)
      replace HO1 := Lib.hid (HO1.out.kept hkz)
      replace HLO := Lib.hid (Nat.lt_of_lt_of_le HLO.out hkz.2.2)
      have HR := Lib.hid (OutG.made HV.out)
      have HNE := Lib.hid (show (Value.slice (some ⟨u2.heap.size, 0, none⟩) 0 0).ownBlock ≠ some bE from fun e => by have h1 := HLE0.out; have h2 : u2.heap.size = bE := Option.some.inj e; omega)
      have HNO := Lib.hid (show (Value.slice (some ⟨u2.heap.size, 0, none⟩) 0 0).ownBlock ≠ some bO from fun e => by have h1 := HLO0.out; have h2 : u2.heap.size = bO := Option.some.inj e; omega)
      replace HV := Lib.hid (HV.out.trans hkz)
      obtain ⟨bR, hbz⟩ : ∃ b, (World.heap u2).size = b := ⟨_, rfl⟩
      obtain ⟨u3, hwz⟩ : ∃ u, World.alloc u2 (.cells #[] 30) = u := ⟨_, rfl⟩
      rw [hwz] at HE HLE HO1 HLO HR HV ⊢
      rw [hbz] at HR HNE HNO
      try rw [hbz]
      clear hkz hbz hwz
      clear HLE0
      clear HLO0
      refine soloE (.of HV.out) ?_
      rw [wpPlan_one]
      simp only [pickOps_cons, pickOps_nil, consO_some, List.getElem?_cons_zero, List.getElem?_cons_succ]
      obtain ⟨vG, u4, hrz, hoz, hfz⟩ := HR.out.app B m k G (HG.out.kept HV.out) (by simp; omega)
      have HRUN := Lib.hid hrz
      obtain ⟨hne, hle, hel, _⟩ := hfz bE HLE.out HNE.out
      replace HNE := Lib.hid hne
      replace HLE := Lib.hid hle
      replace HE := Lib.hid (hel _ _ _ HE.out)
      clear hne hle hel
      obtain ⟨hne, hle, _, hel⟩ := hfz bO HLO.out HNO.out
      replace HNO := Lib.hid hne
      replace HLO := Lib.hid hle
      replace HO1 := Lib.hid (hel _ _ _ HO1.out)
      clear hne hle hel
      replace HR := Lib.hid hoz
      replace HV := Lib.hid hoz.ke
      clear hrz hoz hfz
      go_wp2_with (at_builtin; refine Lib.wpList_append_run _ rfl (.tmp 7) (.tmp 8) _ _ rfl _ _ rfl rfl _ _ HRUN.out ?_)
      clear HRUN
      refine soloE (.of HV.out) ?_
      rw [wpPlan_one]
      simp only [pickOps_cons, pickOps_nil, consO_some, List.getElem?_cons_zero, List.getElem?_cons_succ]
      obtain ⟨vD, u5, hrz, hoz, hfz⟩ := HR.out.app (some ⟨bO, 0, none⟩) 1 1 _ HO1.out (by have := HGL.out; simp; omega)
      have HRUN := Lib.hid hrz
      obtain ⟨hne, hle, hel, _⟩ := hfz bE HLE.out HNE.out
      replace HNE := Lib.hid hne
      replace HLE := Lib.hid hle
      replace HE := Lib.hid (hel _ _ _ HE.out)
      clear hne hle hel
      replace HR := Lib.hid hoz
      replace HV := Lib.hid hoz.ke
      clear hrz hoz hfz
      go_wp2_with (at_builtin; refine Lib.wpList_append_run _ rfl (.tmp 9) (.tmp 12) _ _ rfl _ _ rfl rfl _ _ HRUN.out ?_)
      clear HRUN
      obtain ⟨AD, cD, rfl, hdz⟩ := HR.out.form
      have hlz : ([] ++ G ++ [(x.d.1, x.d.2)]).length = m + 1 := by have := HGL.out; simp; omega
      rw [hlz] at hdz ⊢
      have HDD := Lib.hid hdz
      clear hdz hlz HR HO1 HLO HNO HNE
      refine soloE (.of HV.out) ?_
      rw [wpPlan_one]
      simp only [pickOps_cons, pickOps_nil, consO_some, List.getElem?_cons_zero, List.getElem?_cons_succ]
      go_wp2_with (go_at_call 32; refine (rof_any AD (m + 1) cD _ _ HDD.out (by omega)).mono ?_; rintro e u6 ⟨A7, n7, c7, B7, m7, k7, V7, C7, rfl, hi7, hd7, hs7, hm7, hkz, _, _⟩)
      have HI := Lib.hid hi7
      have HDC := Lib.hid hd7
      have HS7 := Lib.hid hs7
      have HM7 := Lib.hid hm7
      replace HV := Lib.hid (HV.out.trans hkz)
      replace HE := Lib.hid (HE.out.kept hkz)
      replace HLE := Lib.hid (Nat.lt_of_lt_of_le HLE.out hkz.2.2)
      clear hi7 hd7 hs7 hm7 hkz HDD
      refine soloE (.of HV.out) ?_
      rw [wpPlan_read]
      simp only [pickOps_cons, pickOps_nil, consO_some, List.getElem?_cons_zero, List.getElem?_cons_succ]
      repeat (go_big_quiet_step (fail))
      refine wpQuiet_nil ?_
      rw [wpPlan_one]
      simp only [pickOps_cons, pickOps_nil, consO_some, List.getElem?_cons_zero, List.getElem?_cons_succ]
      have hres := HRES.out.kept HV.out
      have e0 := hres.c0; have e1 := hres.c1; have e2 := hres.c2; have ef := hres.f
      have HF := Lib.hid (stj_put (S := LeaveS x G) (W := w) (s := ⟨[x], V7, C7⟩) (show Stt u6 (some ⟨bE, 0, none⟩) 1 1 A7 n7 c7 B7 m7 k7 [x] V7 C7 from ⟨HE.out, HI.out, HDC.out⟩) hres (Nat.le_add_right _ 1) (HK.out.trans HV.out) ⟨rfl, ⟨HS7.out.right, fun e => (HS7.out.has e).trans (ev_aft e)⟩, by have h1 := HDC.out.1; have h2 := HGL.out; have h3 := HM7.out; simp only [List.nil_append, List.length_append, List.length_cons, List.length_nil] at h3; show C7.length ≤ G.length + 1; omega⟩)
      clear hres
      go_wp2_with fail
      refine soloE ((((KeptE.of (G := w.heap.size + 1) HV.out).set (.inl rfl) _).set (.inl rfl) _).set (.inl rfl) _) ?_
      refine wpPlan_stop ?_
      go_wp2_with fail
      exact bodyPost_ret (by simp [results, Tryz.results11, go_sem, *]) rfl HF.out
  · go_wp2_with fail
    have hkz := (Kept.refl wd).alloc #[] 30
    have HR := Lib.hid (OutG.made HV.out)
    replace HV := Lib.hid (HV.out.trans hkz)
    obtain ⟨bR, hbz⟩ : ∃ b, (World.heap wd).size = b := ⟨_, rfl⟩
    obtain ⟨u1, hwz⟩ : ∃ u, World.alloc wd (.cells #[] 30) = u := ⟨_, rfl⟩
    rw [hwz] at HR HV ⊢
    rw [hbz] at HR
    try rw [hbz]
    clear hkz hbz hwz
    refine soloE (.of HV.out) ?_
    rw [wpPlan_three]
    simp only [pickOps_cons, pickOps_nil, consO_some, List.getElem?_cons_zero, List.getElem?_cons_succ]
    refine ⟨?_, ?_, ?_⟩
    · go_wp2_with fail
      have hkz := (Kept.refl u1).alloc #[.int .i64 x.d.1, .int .i64 x.d.2, .string x.p, .int .i64 x.k, .int .i64 x.vk, .int .i64 x.vn, .string x.vt, .int .i64 x.e.1, .int .i64 x.e.2] 34
      have HE := Lib.hid (el_one (Ent.new u1 x 34))
      have HLE := Lib.hid (show u1.heap.size < (u1.alloc (.cells #[.int .i64 x.d.1, .int .i64 x.d.2, .string x.p, .int .i64 x.k, .int .i64 x.vk, .int .i64 x.vn, .string x.vt, .int .i64 x.e.1, .int .i64 x.e.2] 34)).heap.size by simp)
      have HNE := Lib.hid HR.out.lt
      replace HR := Lib.hid (HR.out.kept hkz)
      replace HV := Lib.hid (HV.out.trans hkz)
      obtain ⟨bE, hbz⟩ : ∃ b, (World.heap u1).size = b := ⟨_, rfl⟩
      obtain ⟨u2, hwz⟩ : ∃ u, World.alloc u1 (.cells #[.int .i64 x.d.1, .int .i64 x.d.2, .string x.p, .int .i64 x.k, .int .i64 x.vk, .int .i64 x.vn, .string x.vt, .int .i64 x.e.1, .int .i64 x.e.2] 34) = u := ⟨_, rfl⟩
      rw [hwz] at HE HLE HR HV ⊢
      rw [hbz] at HE HLE HNE
      try rw [hbz]
      clear hkz hbz hwz
      refine soloE (.of HV.out) ?_
      rw [wpPlan_two]
      simp only [pickOps_cons, pickOps_nil, consO_some, List.getElem?_cons_zero, List.getElem?_cons_succ]
      constructor
      · obtain ⟨vG, u3, hrz, hoz, hfz⟩ := HR.out.app B m k G (HG.out.kept HV.out) (by simp; omega)
        have HRUN := Lib.hid hrz
        obtain ⟨hne, hle, hel, _⟩ := hfz bE HLE.out HNE.out
        replace HNE := Lib.hid hne
        replace HLE := Lib.hid hle
        replace HE := Lib.hid (hel _ _ _ HE.out)
        clear hne hle hel
        replace HR := Lib.hid hoz
        replace HV := Lib.hid hoz.ke
        clear hrz hoz hfz
        go_wp2_with (at_builtin; refine Lib.wpList_append_run _ rfl (.tmp 7) (.tmp 8) _ _ rfl _ _ rfl rfl _ _ HRUN.out ?_)
        clear HRUN
        refine soloE (.of HV.out) ?_
        rw [wpPlan_one]
        simp only [pickOps_cons, pickOps_nil, consO_some, List.getElem?_cons_zero, List.getElem?_cons_succ]
        go_wp2_with fail
        have hkz := (Kept.refl u3).alloc #[.int .i64 x.d.1, .int .i64 x.d.2] 30
        replace HE := Lib.hid (HE.out.kept hkz)
        replace HLE := Lib.hid (Nat.lt_of_lt_of_le HLE.out hkz.2.2)
        have HO1 := Lib.hid (dl_one u3 x.d.1 x.d.2 30)
        have HLO := Lib.hid (show u3.heap.size < (u3.alloc (.cells #[.int .i64 x.d.1, .int .i64 x.d.2] 30)).heap.size by simp)
        have HNO := Lib.hid HR.out.lt
        replace HR := Lib.hid (HR.out.kept hkz)
        replace HV := Lib.hid (HV.out.trans hkz)
        obtain ⟨bO, hbz⟩ : ∃ b, (World.heap u3).size = b := ⟨_, rfl⟩
        obtain ⟨u4, hwz⟩ : ∃ u, World.alloc u3 (.cells #[.int .i64 x.d.1, .int .i64 x.d.2] 30) = u := ⟨_, rfl⟩
        rw [hwz] at HE HLE HO1 HLO HR HV ⊢
        rw [hbz] at HO1 HLO HNO
        try rw [hbz]
        clear hkz hbz hwz
        refine soloE (.of HV.out) ?_
        rw [wpPlan_one]
        simp only [pickOps_cons, pickOps_nil, consO_some, List.getElem?_cons_zero, List.getElem?_cons_succ]
        obtain ⟨vD, u5, hrz, hoz, hfz⟩ := HR.out.app (some ⟨bO, 0, none⟩) 1 1 _ HO1.out (by have := HGL.out; simp; omega)
        have HRUN := Lib.hid hrz
        obtain ⟨hne, hle, hel, _⟩ := hfz bE HLE.out HNE.out
        replace HNE := Lib.hid hne
        replace HLE := Lib.hid hle
        replace HE := Lib.hid (hel _ _ _ HE.out)
        clear hne hle hel
        replace HR := Lib.hid hoz
        replace HV := Lib.hid hoz.ke
        clear hrz hoz hfz
        go_wp2_with (at_builtin; refine Lib.wpList_append_run _ rfl (.tmp 9) (.tmp 12) _ _ rfl _ _ rfl rfl _ _ HRUN.out ?_)
        clear HRUN
        obtain ⟨AD, cD, rfl, hdz⟩ := HR.out.form
        have hlz : ([] ++ G ++ [(x.d.1, x.d.2)]).length = m + 1 := by have := HGL.out; simp; omega
        rw [hlz] at hdz ⊢
        have HDD := Lib.hid hdz
        clear hdz hlz HR HO1 HLO HNO HNE
        refine soloE (.of HV.out) ?_
        rw [wpPlan_one]
        simp only [pickOps_cons, pickOps_nil, consO_some, List.getElem?_cons_zero, List.getElem?_cons_succ]
        go_wp2_with (go_at_call 32; refine (rof_any AD (m + 1) cD _ _ HDD.out (by omega)).mono ?_; rintro e u6 ⟨A7, n7, c7, B7, m7, k7, V7, C7, rfl, hi7, hd7, hs7, hm7, hkz, _, _⟩)
        have HI := Lib.hid hi7
        have HDC := Lib.hid hd7
        have HS7 := Lib.hid hs7
        have HM7 := Lib.hid hm7
        replace HV := Lib.hid (HV.out.trans hkz)
        replace HE := Lib.hid (HE.out.kept hkz)
        replace HLE := Lib.hid (Nat.lt_of_lt_of_le HLE.out hkz.2.2)
        clear hi7 hd7 hs7 hm7 hkz HDD
        refine soloE (.of HV.out) ?_
        rw [wpPlan_read]
        simp only [pickOps_cons, pickOps_nil, consO_some, List.getElem?_cons_zero, List.getElem?_cons_succ]
        repeat (go_big_quiet_step (fail))
        refine wpQuiet_nil ?_
        rw [wpPlan_one]
        simp only [pickOps_cons, pickOps_nil, consO_some, List.getElem?_cons_zero, List.getElem?_cons_succ]
        have hres := HRES.out.kept HV.out
        have e0 := hres.c0; have e1 := hres.c1; have e2 := hres.c2; have ef := hres.f
        have HF := Lib.hid (stj_put (S := LeaveS x G) (W := w) (s := ⟨[x], V7, C7⟩) (show Stt u6 (some ⟨bE, 0, none⟩) 1 1 A7 n7 c7 B7 m7 k7 [x] V7 C7 from ⟨HE.out, HI.out, HDC.out⟩) hres (Nat.le_add_right _ 1) (HK.out.trans HV.out) ⟨rfl, ⟨HS7.out.right, fun e => (HS7.out.has e).trans (ev_aft e)⟩, by have h1 := HDC.out.1; have h2 := HGL.out; have h3 := HM7.out; simp only [List.nil_append, List.length_append, List.length_cons, List.length_nil] at h3; show C7.length ≤ G.length + 1; omega⟩)
        clear hres
        go_wp2_with fail
        refine soloE ((((KeptE.of (G := w.heap.size + 1) HV.out).set (.inl rfl) _).set (.inl rfl) _).set (.inl rfl) _) ?_
        refine wpPlan_stop ?_
        go_wp2_with fail
        exact bodyPost_ret (by simp [results, Tryz.results11, go_sem, *]) rfl HF.out
      · go_wp2_with fail
        have hkz := (Kept.refl u2).alloc #[.int .i64 x.d.1, .int .i64 x.d.2] 30
        replace HE := Lib.hid (HE.out.kept hkz)
        replace HLE := Lib.hid (Nat.lt_of_lt_of_le HLE.out hkz.2.2)
        have HO1 := Lib.hid (dl_one u2 x.d.1 x.d.2 30)
        have HLO := Lib.hid (show u2.heap.size < (u2.alloc (.cells #[.int .i64 x.d.1, .int .i64 x.d.2] 30)).heap.size by simp)
        have HNO := Lib.hid HR.out.lt
        replace HR := Lib.hid (HR.out.kept hkz)
        replace HV := Lib.hid (HV.out.trans hkz)
        obtain ⟨bO, hbz⟩ : ∃ b, (World.heap u2).size = b := ⟨_, rfl⟩
        obtain ⟨u3, hwz⟩ : ∃ u, World.alloc u2 (.cells #[.int .i64 x.d.1, .int .i64 x.d.2] 30) = u := ⟨_, rfl⟩
        rw [hwz] at HE HLE HO1 HLO HR HV ⊢
        rw [hbz] at HO1 HLO HNO
        try rw [hbz]
        clear hkz hbz hwz
        refine soloE (.of HV.out) ?_
        rw [wpPlan_one]
        simp only [pickOps_cons, pickOps_nil, consO_some, List.getElem?_cons_zero, List.getElem?_cons_succ]
        obtain ⟨vG, u4, hrz, hoz, hfz⟩ := HR.out.app B m k G (HG.out.kept HV.out) (by simp; omega)
        have HRUN := Lib.hid hrz
        obtain ⟨hne, hle, hel, _⟩ := hfz bE HLE.out HNE.out
        replace HNE := Lib.hid hne
        replace HLE := Lib.hid hle
        replace HE := Lib.hid (hel _ _ _ HE.out)
        clear hne hle hel
        obtain ⟨hne, hle, _, hel⟩ := hfz bO HLO.out HNO.out
        replace HNO := Lib.hid hne
        replace HLO := Lib.hid hle
        replace HO1 := Lib.hid (hel _ _ _ HO1.out)
        clear hne hle hel
        replace HR := Lib.hid hoz
        replace HV := Lib.hid hoz.ke
        clear hrz hoz hfz
        go_wp2_with (at_builtin; refine Lib.wpList_append_run _ rfl (.tmp 7) (.tmp 8) _ _ rfl _ _ rfl rfl _ _ HRUN.out ?_)
        clear HRUN
        refine soloE (.of HV.out) ?_
        rw [wpPlan_one]
        simp only [pickOps_cons, pickOps_nil, consO_some, List.getElem?_cons_zero, List.getElem?_cons_succ]
        obtain ⟨vD, u5, hrz, hoz, hfz⟩ := HR.out.app (some ⟨bO, 0, none⟩) 1 1 _ HO1.out (by have := HGL.out; simp; omega)
        have HRUN := Lib.hid hrz
        obtain ⟨hne, hle, hel, _⟩ := hfz bE HLE.out HNE.out
        replace HNE := Lib.hid hne
        replace HLE := Lib.hid hle
        replace HE := Lib.hid (hel _ _ _ HE.out)
        clear hne hle hel
        replace HR := Lib.hid hoz
        replace HV := Lib.hid hoz.ke
        clear hrz hoz hfz
        go_wp2_with (at_builtin; refine Lib.wpList_append_run _ rfl (.tmp 9) (.tmp 12) _ _ rfl _ _ rfl rfl _ _ HRUN.out ?_)
        clear HRUN
        obtain ⟨AD, cD, rfl, hdz⟩ := HR.out.form
        have hlz : ([] ++ G ++ [(x.d.1, x.d.2)]).length = m + 1 := by have := HGL.out; simp; omega
        rw [hlz] at hdz ⊢
        have HDD := Lib.hid hdz
        clear hdz hlz HR HO1 HLO HNO HNE
        refine soloE (.of HV.out) ?_
        rw [wpPlan_one]
        simp only [pickOps_cons, pickOps_nil, consO_some, List.getElem?_cons_zero, List.getElem?_cons_succ]
        go_wp2_with (go_at_call 32; refine (rof_any AD (m + 1) cD _ _ HDD.out (by omega)).mono ?_; rintro e u6 ⟨A7, n7, c7, B7, m7, k7, V7, C7, rfl, hi7, hd7, hs7, hm7, hkz, _, _⟩)
        have HI := Lib.hid hi7
        have HDC := Lib.hid hd7
        have HS7 := Lib.hid hs7
        have HM7 := Lib.hid hm7
        replace HV := Lib.hid (HV.out.trans hkz)
        replace HE := Lib.hid (HE.out.kept hkz)
        replace HLE := Lib.hid (Nat.lt_of_lt_of_le HLE.out hkz.2.2)
        clear hi7 hd7 hs7 hm7 hkz HDD
        refine soloE (.of HV.out) ?_
        rw [wpPlan_read]
        simp only [pickOps_cons, pickOps_nil, consO_some, List.getElem?_cons_zero, List.getElem?_cons_succ]
        repeat (go_big_quiet_step (fail))
        refine wpQuiet_nil ?_
        rw [wpPlan_one]
        simp only [pickOps_cons, pickOps_nil, consO_some, List.getElem?_cons_zero, List.getElem?_cons_succ]
        have hres := HRES.out.kept HV.out
        have e0 := hres.c0; have e1 := hres.c1; have e2 := hres.c2; have ef := hres.f
        have HF := Lib.hid (stj_put (S := LeaveS x G) (W := w) (s := ⟨[x], V7, C7⟩) (show Stt u6 (some ⟨bE, 0, none⟩) 1 1 A7 n7 c7 B7 m7 k7 [x] V7 C7 from ⟨HE.out, HI.out, HDC.out⟩) hres (Nat.le_add_right _ 1) (HK.out.trans HV.out) ⟨rfl, ⟨HS7.out.right, fun e => (HS7.out.has e).trans (ev_aft e)⟩, by have h1 := HDC.out.1; have h2 := HGL.out; have h3 := HM7.out; simp only [List.nil_append, List.length_append, List.length_cons, List.length_nil] at h3; show C7.length ≤ G.length + 1; omega⟩)
        clear hres
        go_wp2_with fail
        refine soloE ((((KeptE.of (G := w.heap.size + 1) HV.out).set (.inl rfl) _).set (.inl rfl) _).set (.inl rfl) _) ?_
        refine wpPlan_stop ?_
        go_wp2_with fail
        exact bodyPost_ret (by simp [results, Tryz.results11, go_sem, *]) rfl HF.out
    · obtain ⟨vG, u2, hrz, hoz, hfz⟩ := HR.out.app B m k G (HG.out.kept HV.out) (by simp; omega)
      have HRUN := Lib.hid hrz
      replace HR := Lib.hid hoz
      replace HV := Lib.hid hoz.ke
      clear hrz hoz hfz
      go_wp2_with (at_builtin; refine Lib.wpList_append_run _ rfl (.tmp 7) (.tmp 8) _ _ rfl _ _ rfl rfl _ _ HRUN.out ?_)
      clear HRUN
      refine soloE (.of HV.out) ?_
      rw [wpPlan_two]
      simp only [pickOps_cons, pickOps_nil, consO_some, List.getElem?_cons_zero, List.getElem?_cons_succ]
      constructor
      · go_wp2_with fail
        have hkz := (Kept.refl u2).alloc #[.int .i64 x.d.1, .int .i64 x.d.2, .string x.p, .int .i64 x.k, .int .i64 x.vk, .int .i64 x.vn, .string x.vt, .int .i64 x.e.1, .int .i64 x.e.2] 34
        have HE := Lib.hid (el_one (Ent.new u2 x 34))
        have HLE := Lib.hid (show u2.heap.size < (u2.alloc (.cells #[.int .i64 x.d.1, .int .i64 x.d.2, .string x.p, .int .i64 x.k, .int .i64 x.vk, .int .i64 x.vn, .string x.vt, .int .i64 x.e.1, .int .i64 x.e.2] 34)).heap.size by simp)
        have HNE := Lib.hid HR.out.lt
        replace HR := Lib.hid (HR.out.kept hkz)
        replace HV := Lib.hid (HV.out.trans hkz)
        obtain ⟨bE, hbz⟩ : ∃ b, (World.heap u2).size = b := ⟨_, rfl⟩
        obtain ⟨u3, hwz⟩ : ∃ u, World.alloc u2 (.cells #[.int .i64 x.d.1, .int .i64 x.d.2, .string x.p, .int .i64 x.k, .int .i64 x.vk, .int .i64 x.vn, .string x.vt, .int .i64 x.e.1, .int .i64 x.e.2] 34) = u := ⟨_, rfl⟩
        rw [hwz] at HE HLE HR HV ⊢
        rw [hbz] at HE HLE HNE
        try rw [hbz]
        clear hkz hbz hwz
        refine soloE (.of HV.out) ?_
        rw [wpPlan_one]
        simp only [pickOps_cons, pickOps_nil, consO_some, List.getElem?_cons_zero, List.getElem?_cons_succ]
        go_wp2_with fail
        have hkz := (Kept.refl u3).alloc #[.int .i64 x.d.1, .int .i64 x.d.2] 30
        replace HE := Lib.hid (HE.out.kept hkz)
        replace HLE := Lib.hid (Nat.lt_of_lt_of_le HLE.out hkz.2.2)
        have HO1 := Lib.hid (dl_one u3 x.d.1 x.d.2 30)
        have HLO := Lib.hid (show u3.heap.size < (u3.alloc (.cells #[.int .i64 x.d.1, .int .i64 x.d.2] 30)).heap.size by simp)
        have HNO := Lib.hid HR.out.lt
        replace HR := Lib.hid (HR.out.kept hkz)
        replace HV := Lib.hid (HV.out.trans hkz)
        obtain ⟨bO, hbz⟩ : ∃ b, (World.heap u3).size = b := ⟨_, rfl⟩
        obtain ⟨u4, hwz⟩ : ∃ u, World.alloc u3 (.cells #[.int .i64 x.d.1, .int .i64 x.d.2] 30) = u := ⟨_, rfl⟩
        rw [hwz] at HE HLE HO1 HLO HR HV ⊢
        rw [hbz] at HO1 HLO HNO
        try rw [hbz]
        clear hkz hbz hwz
        refine soloE (.of HV.out) ?_
        rw [wpPlan_one]
        simp only [pickOps_cons, pickOps_nil, consO_some, List.getElem?_cons_zero, List.getElem?_cons_succ]
        obtain ⟨vD, u5, hrz, hoz, hfz⟩ := HR.out.app (some ⟨bO, 0, none⟩) 1 1 _ HO1.out (by have := HGL.out; simp; omega)
        have HRUN := Lib.hid hrz
        obtain ⟨hne, hle, hel, _⟩ := hfz bE HLE.out HNE.out
        replace HNE := Lib.hid hne
        replace HLE := Lib.hid hle
        replace HE := Lib.hid (hel _ _ _ HE.out)
        clear hne hle hel
        replace HR := Lib.hid hoz
        replace HV := Lib.hid hoz.ke
        clear hrz hoz hfz
        go_wp2_with (at_builtin; refine Lib.wpList_append_run _ rfl (.tmp 9) (.tmp 12) _ _ rfl _ _ rfl rfl _ _ HRUN.out ?_)
        clear HRUN
        obtain ⟨AD, cD, rfl, hdz⟩ := HR.out.form
        have hlz : ([] ++ G ++ [(x.d.1, x.d.2)]).length = m + 1 := by have := HGL.out; simp; omega
        rw [hlz] at hdz ⊢
        have HDD := Lib.hid hdz
        clear hdz hlz HR HO1 HLO HNO HNE
        refine soloE (.of HV.out) ?_
        rw [wpPlan_one]
        simp only [pickOps_cons, pickOps_nil, consO_some, List.getElem?_cons_zero, List.getElem?_cons_succ]
        go_wp2_with (go_at_call 32; refine (rof_any AD (m + 1) cD _ _ HDD.out (by omega)).mono ?_; rintro e u6 ⟨A7, n7, c7, B7, m7, k7, V7, C7, rfl, hi7, hd7, hs7, hm7, hkz, _, _⟩)
        have HI := Lib.hid hi7
        have HDC := Lib.hid hd7
        have HS7 := Lib.hid hs7
        have HM7 := Lib.hid hm7
        replace HV := Lib.hid (HV.out.trans hkz)
        replace HE := Lib.hid (HE.out.kept hkz)
        replace HLE := Lib.hid (Nat.lt_of_lt_of_le HLE.out hkz.2.2)
        clear hi7 hd7 hs7 hm7 hkz HDD
        refine soloE (.of HV.out) ?_
        rw [wpPlan_read]
        simp only [pickOps_cons, pickOps_nil, consO_some, List.getElem?_cons_zero, List.getElem?_cons_succ]
        repeat (go_big_quiet_step (fail))
        refine wpQuiet_nil ?_
        rw [wpPlan_one]
        simp only [pickOps_cons, pickOps_nil, consO_some, List.getElem?_cons_zero, List.getElem?_cons_succ]
        have hres := HRES.out.kept HV.out
        have e0 := hres.c0; have e1 := hres.c1; have e2 := hres.c2; have ef := hres.f
        have HF := Lib.hid (stj_put (S := LeaveS x G) (W := w) (s := ⟨[x], V7, C7⟩) (show Stt u6 (some ⟨bE, 0, none⟩) 1 1 A7 n7 c7 B7 m7 k7 [x] V7 C7 from ⟨HE.out, HI.out, HDC.out⟩) hres (Nat.le_add_right _ 1) (HK.out.trans HV.out) ⟨rfl, ⟨HS7.out.right, fun e => (HS7.out.has e).trans (ev_aft e)⟩, by have h1 := HDC.out.1; have h2 := HGL.out; have h3 := HM7.out; simp only [List.nil_append, List.length_append, List.length_cons, List.length_nil] at h3; show C7.length ≤ G.length + 1; omega⟩)
        clear hres
        go_wp2_with fail
        refine soloE ((((KeptE.of (G := w.heap.size + 1) HV.out).set (.inl rfl) _).set (.inl rfl) _).set (.inl rfl) _) ?_
        refine wpPlan_stop ?_
        go_wp2_with fail
        exact bodyPost_ret (by simp [results, Tryz.results11, go_sem, *]) rfl HF.out
      · go_wp2_with fail
        have hkz := (Kept.refl u2).alloc #[.int .i64 x.d.1, .int .i64 x.d.2] 30
        have HO1 := Lib.hid (dl_one u2 x.d.1 x.d.2 30)
        have HLO := Lib.hid (show u2.heap.size < (u2.alloc (.cells #[.int .i64 x.d.1, .int .i64 x.d.2] 30)).heap.size by simp)
        have HNO := Lib.hid HR.out.lt
        replace HR := Lib.hid (HR.out.kept hkz)
        replace HV := Lib.hid (HV.out.trans hkz)
        obtain ⟨bO, hbz⟩ : ∃ b, (World.heap u2).size = b := ⟨_, rfl⟩
        obtain ⟨u3, hwz⟩ : ∃ u, World.alloc u2 (.cells #[.int .i64 x.d.1, .int .i64 x.d.2] 30) = u := ⟨_, rfl⟩
        rw [hwz] at HO1 HLO HR HV ⊢
        rw [hbz] at HO1 HLO HNO
        try rw [hbz]
        clear hkz hbz hwz
        refine soloE (.of HV.out) ?_
        rw [wpPlan_two]
        simp only [pickOps_cons, pickOps_nil, consO_some, List.getElem?_cons_zero, List.getElem?_cons_succ]
        constructor
        · go_wp2_with fail
          have hkz := (Kept.refl u3).alloc #[.int .i64 x.d.1, .int .i64 x.d.2, .string x.p, .int .i64 x.k, .int .i64 x.vk, .int .i64 x.vn, .string x.vt, .int .i64 x.e.1, .int .i64 x.e.2] 34
          have HE := Lib.hid (el_one (Ent.new u3 x 34))
          have HLE := Lib.hid (show u3.heap.size < (u3.alloc (.cells #[.int .i64 x.d.1, .int .i64 x.d.2, .string x.p, .int .i64 x.k, .int .i64 x.vk, .int .i64 x.vn, .string x.vt, .int .i64 x.e.1, .int .i64 x.e.2] 34)).heap.size by simp)
          replace HO1 := Lib.hid (HO1.out.kept hkz)
          replace HLO := Lib.hid (Nat.lt_of_lt_of_le HLO.out hkz.2.2)
          have HNE := Lib.hid HR.out.lt
          replace HR := Lib.hid (HR.out.kept hkz)
          replace HV := Lib.hid (HV.out.trans hkz)
          obtain ⟨bE, hbz⟩ : ∃ b, (World.heap u3).size = b := ⟨_, rfl⟩
          obtain ⟨u4, hwz⟩ : ∃ u, World.alloc u3 (.cells #[.int .i64 x.d.1, .int .i64 x.d.2, .string x.p, .int .i64 x.k, .int .i64 x.vk, .int .i64 x.vn, .string x.vt, .int .i64 x.e.1, .int .i64 x.e.2] 34) = u := ⟨_, rfl⟩
          rw [hwz] at HE HLE HO1 HLO HR HV ⊢
          rw [hbz] at HE HLE HNE
          try rw [hbz]
          clear hkz hbz hwz
          refine soloE (.of HV.out) ?_
          rw [wpPlan_one]
          simp only [pickOps_cons, pickOps_nil, consO_some, List.getElem?_cons_zero, List.getElem?_cons_succ]
          obtain ⟨vD, u5, hrz, hoz, hfz⟩ := HR.out.app (some ⟨bO, 0, none⟩) 1 1 _ HO1.out (by have := HGL.out; simp; omega)
          have HRUN := Lib.hid hrz
          obtain ⟨hne, hle, hel, _⟩ := hfz bE HLE.out HNE.out
          replace HNE := Lib.hid hne
          replace HLE := Lib.hid hle
          replace HE := Lib.hid (hel _ _ _ HE.out)
          clear hne hle hel
          replace HR := Lib.hid hoz
          replace HV := Lib.hid hoz.ke
          clear hrz hoz hfz
          go_wp2_with (at_builtin; refine Lib.wpList_append_run _ rfl (.tmp 9) (.tmp 12) _ _ rfl _ _ rfl rfl _ _ HRUN.out ?_)
          clear HRUN
          obtain ⟨AD, cD, rfl, hdz⟩ := HR.out.form
          have hlz : ([] ++ G ++ [(x.d.1, x.d.2)]).length = m + 1 := by have := HGL.out; simp; omega
          rw [hlz] at hdz ⊢
          have HDD := Lib.hid hdz
          clear hdz hlz HR HO1 HLO HNO HNE
          refine soloE (.of HV.out) ?_
          rw [wpPlan_one]
          simp only [pickOps_cons, pickOps_nil, consO_some, List.getElem?_cons_zero, List.getElem?_cons_succ]
          go_wp2_with (go_at_call 32; refine (rof_any AD (m + 1) cD _ _ HDD.out (by omega)).mono ?_; rintro e u6 ⟨A7, n7, c7, B7, m7, k7, V7, C7, rfl, hi7, hd7, hs7, hm7, hkz, _, _⟩)
          have HI := Lib.hid hi7
          have HDC := Lib.hid hd7
          have HS7 := Lib.hid hs7
          have HM7 := Lib.hid hm7
          replace HV := Lib.hid (HV.out.trans hkz)
          replace HE := Lib.hid (HE.out.kept hkz)
          replace HLE := Lib.hid (Nat.lt_of_lt_of_le HLE.out hkz.2.2)
          clear hi7 hd7 hs7 hm7 hkz HDD
          refine soloE (.of HV.out) ?_
          rw [wpPlan_read]
          simp only [pickOps_cons, pickOps_nil, consO_some, List.getElem?_cons_zero, List.getElem?_cons_succ]
          repeat (go_big_quiet_step (fail))
          refine wpQuiet_nil ?_
          rw [wpPlan_one]
          simp only [pickOps_cons, pickOps_nil, consO_some, List.getElem?_cons_zero, List.getElem?_cons_succ]
          have hres := HRES.out.kept HV.out
          have e0 := hres.c0; have e1 := hres.c1; have e2 := hres.c2; have ef := hres.f
          have HF := Lib.hid (stj_put (S := LeaveS x G) (W := w) (s := ⟨[x], V7, C7⟩) (show Stt u6 (some ⟨bE, 0, none⟩) 1 1 A7 n7 c7 B7 m7 k7 [x] V7 C7 from ⟨HE.out, HI.out, HDC.out⟩) hres (Nat.le_add_right _ 1) (HK.out.trans HV.out) ⟨rfl, ⟨HS7.out.right, fun e => (HS7.out.has e).trans (ev_aft e)⟩, by have h1 := HDC.out.1; have h2 := HGL.out; have h3 := HM7.out; simp only [List.nil_append, List.length_append, List.length_cons, List.length_nil] at h3; show C7.length ≤ G.length + 1; omega⟩)
          clear hres
          go_wp2_with fail
          refine soloE ((((KeptE.of (G := w.heap.size + 1) HV.out).set (.inl rfl) _).set (.inl rfl) _).set (.inl rfl) _) ?_
          refine wpPlan_stop ?_
          go_wp2_with fail
          exact bodyPost_ret (by simp [results, Tryz.results11, go_sem, *]) rfl HF.out
        · obtain ⟨vD, u4, hrz, hoz, hfz⟩ := HR.out.app (some ⟨bO, 0, none⟩) 1 1 _ HO1.out (by have := HGL.out; simp; omega)
          have HRUN := Lib.hid hrz
          replace HR := Lib.hid hoz
          replace HV := Lib.hid hoz.ke
          clear hrz hoz hfz
          go_wp2_with (at_builtin; refine Lib.wpList_append_run _ rfl (.tmp 9) (.tmp 12) _ _ rfl _ _ rfl rfl _ _ HRUN.out ?_)
          clear HRUN
          obtain ⟨AD, cD, rfl, hdz⟩ := HR.out.form
          have hlz : ([] ++ G ++ [(x.d.1, x.d.2)]).length = m + 1 := by have := HGL.out; simp; omega
          rw [hlz] at hdz ⊢
          have HDD := Lib.hid hdz
          clear hdz hlz HR HO1 HLO HNO
          refine soloE (.of HV.out) ?_
          rw [wpPlan_two]
          simp only [pickOps_cons, pickOps_nil, consO_some, List.getElem?_cons_zero, List.getElem?_cons_succ]
          constructor
          · go_wp2_with fail
            have hkz := (Kept.refl u4).alloc #[.int .i64 x.d.1, .int .i64 x.d.2, .string x.p, .int .i64 x.k, .int .i64 x.vk, .int .i64 x.vn, .string x.vt, .int .i64 x.e.1, .int .i64 x.e.2] 34
            have HE := Lib.hid (el_one (Ent.new u4 x 34))
            have HLE := Lib.hid (show u4.heap.size < (u4.alloc (.cells #[.int .i64 x.d.1, .int .i64 x.d.2, .string x.p, .int .i64 x.k, .int .i64 x.vk, .int .i64 x.vn, .string x.vt, .int .i64 x.e.1, .int .i64 x.e.2] 34)).heap.size by simp)
            replace HDD := Lib.hid (HDD.out.kept hkz)
            replace HV := Lib.hid (HV.out.trans hkz)
            obtain ⟨bE, hbz⟩ : ∃ b, (World.heap u4).size = b := ⟨_, rfl⟩
            obtain ⟨u5, hwz⟩ : ∃ u, World.alloc u4 (.cells #[.int .i64 x.d.1, .int .i64 x.d.2, .string x.p, .int .i64 x.k, .int .i64 x.vk, .int .i64 x.vn, .string x.vt, .int .i64 x.e.1, .int .i64 x.e.2] 34) = u := ⟨_, rfl⟩
            rw [hwz] at HE HLE HDD HV ⊢
            rw [hbz] at HE HLE
            try rw [hbz]
            clear hkz hbz hwz
            refine soloE (.of HV.out) ?_
            rw [wpPlan_one]
            simp only [pickOps_cons, pickOps_nil, consO_some, List.getElem?_cons_zero, List.getElem?_cons_succ]
            go_wp2_with (go_at_call 32; refine (rof_any AD (m + 1) cD _ _ HDD.out (by omega)).mono ?_; rintro e u6 ⟨A7, n7, c7, B7, m7, k7, V7, C7, rfl, hi7, hd7, hs7, hm7, hkz, _, _⟩)
            have HI := Lib.hid hi7
            have HDC := Lib.hid hd7
            have HS7 := Lib.hid hs7
            have HM7 := Lib.hid hm7
            replace HV := Lib.hid (HV.out.trans hkz)
            replace HE := Lib.hid (HE.out.kept hkz)
            replace HLE := Lib.hid (Nat.lt_of_lt_of_le HLE.out hkz.2.2)
            clear hi7 hd7 hs7 hm7 hkz HDD
            refine soloE (.of HV.out) ?_
            rw [wpPlan_read]
            simp only [pickOps_cons, pickOps_nil, consO_some, List.getElem?_cons_zero, List.getElem?_cons_succ]
            repeat (go_big_quiet_step (fail))
            refine wpQuiet_nil ?_
            rw [wpPlan_one]
            simp only [pickOps_cons, pickOps_nil, consO_some, List.getElem?_cons_zero, List.getElem?_cons_succ]
            have hres := HRES.out.kept HV.out
            have e0 := hres.c0; have e1 := hres.c1; have e2 := hres.c2; have ef := hres.f
            have HF := Lib.hid (stj_put (S := LeaveS x G) (W := w) (s := ⟨[x], V7, C7⟩) (show Stt u6 (some ⟨bE, 0, none⟩) 1 1 A7 n7 c7 B7 m7 k7 [x] V7 C7 from ⟨HE.out, HI.out, HDC.out⟩) hres (Nat.le_add_right _ 1) (HK.out.trans HV.out) ⟨rfl, ⟨HS7.out.right, fun e => (HS7.out.has e).trans (ev_aft e)⟩, by have h1 := HDC.out.1; have h2 := HGL.out; have h3 := HM7.out; simp only [List.nil_append, List.length_append, List.length_cons, List.length_nil] at h3; show C7.length ≤ G.length + 1; omega⟩)
            clear hres
            go_wp2_with fail
            refine soloE ((((KeptE.of (G := w.heap.size + 1) HV.out).set (.inl rfl) _).set (.inl rfl) _).set (.inl rfl) _) ?_
            refine wpPlan_stop ?_
            go_wp2_with fail
            exact bodyPost_ret (by simp [results, Tryz.results11, go_sem, *]) rfl HF.out
          · go_wp2_with (go_at_call 32; refine (rof_any AD (m + 1) cD _ _ HDD.out (by omega)).mono ?_; rintro e u5 ⟨A7, n7, c7, B7, m7, k7, V7, C7, rfl, hi7, hd7, hs7, hm7, hkz, _, _⟩)
            have HI := Lib.hid hi7
            have HDC := Lib.hid hd7
            have HS7 := Lib.hid hs7
            have HM7 := Lib.hid hm7
            replace HV := Lib.hid (HV.out.trans hkz)
            clear hi7 hd7 hs7 hm7 hkz HDD
            refine soloE (.of HV.out) ?_
            rw [wpPlan_one]
            simp only [pickOps_cons, pickOps_nil, consO_some, List.getElem?_cons_zero, List.getElem?_cons_succ]
            go_wp2_with fail
            have hkz := (Kept.refl u5).alloc #[.int .i64 x.d.1, .int .i64 x.d.2, .string x.p, .int .i64 x.k, .int .i64 x.vk, .int .i64 x.vn, .string x.vt, .int .i64 x.e.1, .int .i64 x.e.2] 34
            have HE := Lib.hid (el_one (Ent.new u5 x 34))
            have HLE := Lib.hid (show u5.heap.size < (u5.alloc (.cells #[.int .i64 x.d.1, .int .i64 x.d.2, .string x.p, .int .i64 x.k, .int .i64 x.vk, .int .i64 x.vn, .string x.vt, .int .i64 x.e.1, .int .i64 x.e.2] 34)).heap.size by simp)
            replace HI := Lib.hid (HI.out.kept hkz)
            replace HDC := Lib.hid (HDC.out.kept hkz)
            replace HV := Lib.hid (HV.out.trans hkz)
            obtain ⟨bE, hbz⟩ : ∃ b, (World.heap u5).size = b := ⟨_, rfl⟩
            obtain ⟨u6, hwz⟩ : ∃ u, World.alloc u5 (.cells #[.int .i64 x.d.1, .int .i64 x.d.2, .string x.p, .int .i64 x.k, .int .i64 x.vk, .int .i64 x.vn, .string x.vt, .int .i64 x.e.1, .int .i64 x.e.2] 34) = u := ⟨_, rfl⟩
            rw [hwz] at HE HLE HI HDC HV ⊢
            rw [hbz] at HE HLE
            try rw [hbz]
            clear hkz hbz hwz
            refine soloE (.of HV.out) ?_
            rw [wpPlan_read]
            simp only [pickOps_cons, pickOps_nil, consO_some, List.getElem?_cons_zero, List.getElem?_cons_succ]
            repeat (go_big_quiet_step (fail))
            refine wpQuiet_nil ?_
            rw [wpPlan_one]
            simp only [pickOps_cons, pickOps_nil, consO_some, List.getElem?_cons_zero, List.getElem?_cons_succ]
            have hres := HRES.out.kept HV.out
            have e0 := hres.c0; have e1 := hres.c1; have e2 := hres.c2; have ef := hres.f
            have HF := Lib.hid (stj_put (S := LeaveS x G) (W := w) (s := ⟨[x], V7, C7⟩) (show Stt u6 (some ⟨bE, 0, none⟩) 1 1 A7 n7 c7 B7 m7 k7 [x] V7 C7 from ⟨HE.out, HI.out, HDC.out⟩) hres (Nat.le_add_right _ 1) (HK.out.trans HV.out) ⟨rfl, ⟨HS7.out.right, fun e => (HS7.out.has e).trans (ev_aft e)⟩, by have h1 := HDC.out.1; have h2 := HGL.out; have h3 := HM7.out; simp only [List.nil_append, List.length_append, List.length_cons, List.length_nil] at h3; show C7.length ≤ G.length + 1; omega⟩)
            clear hres
            go_wp2_with fail
            refine soloE ((((KeptE.of (G := w.heap.size + 1) HV.out).set (.inl rfl) _).set (.inl rfl) _).set (.inl rfl) _) ?_
            refine wpPlan_stop ?_
            go_wp2_with fail
            exact bodyPost_ret (by simp [results, Tryz.results11, go_sem, *]) rfl HF.out
    · go_wp2_with fail
      have hkz := (Kept.refl u1).alloc #[.int .i64 x.d.1, .int .i64 x.d.2] 30
      have HO1 := Lib.hid (dl_one u1 x.d.1 x.d.2 30)
      have HLO := Lib.hid (show u1.heap.size < (u1.alloc (.cells #[.int .i64 x.d.1, .int .i64 x.d.2] 30)).heap.size by simp)
      have HNO := Lib.hid HR.out.lt
      replace HR := Lib.hid (HR.out.kept hkz)
      replace HV := Lib.hid (HV.out.trans hkz)
      obtain ⟨bO, hbz⟩ : ∃ b, (World.heap u1).size = b := ⟨_, rfl⟩
      obtain ⟨u2, hwz⟩ : ∃ u, World.alloc u1 (.cells #[.int .i64 x.d.1, .int .i64 x.d.2] 30) = u := ⟨_, rfl⟩
      rw [hwz] at HO1 HLO HR HV ⊢
      rw [hbz] at HO1 HLO HNO
      try rw [hbz]
      clear hkz hbz hwz
      refine soloE (.of HV.out) ?_
      rw [wpPlan_two]
      simp only [pickOps_cons, pickOps_nil, consO_some, List.getElem?_cons_zero, List.getElem?_cons_succ]
      constructor
      · go_wp2_with fail
        have hkz := (Kept.refl u2).alloc #[.int .i64 x.d.1, .int .i64 x.d.2, .string x.p, .int .i64 x.k, .int .i64 x.vk, .int .i64 x.vn, .string x.vt, .int .i64 x.e.1, .int .i64 x.e.2] 34
        have HE := Lib.hid (el_one (Ent.new u2 x 34))
        have HLE := Lib.hid (show u2.heap.size < (u2.alloc (.cells #[.int .i64 x.d.1, .int .i64 x.d.2, .string x.p, .int .i64 x.k, .int .i64 x.vk, .int .i64 x.vn, .string x.vt, .int .i64 x.e.1, .int .i64 x.e.2] 34)).heap.size by simp)
        replace HO1 := Lib.hid (HO1.out.kept hkz)
        replace HLO := Lib.hid (Nat.lt_of_lt_of_le HLO.out hkz.2.2)
        have HNE := Lib.hid HR.out.lt
        replace HR := Lib.hid (HR.out.kept hkz)
        replace HV := Lib.hid (HV.out.trans hkz)
        obtain ⟨bE, hbz⟩ : ∃ b, (World.heap u2).size = b := ⟨_, rfl⟩
        obtain ⟨u3, hwz⟩ : ∃ u, World.alloc u2 (.cells #[.int .i64 x.d.1, .int .i64 x.d.2, .string x.p, .int .i64 x.k, .int .i64 x.vk, .int .i64 x.vn, .string x.vt, .int .i64 x.e.1, .int .i64 x.e.2] 34) = u := ⟨_, rfl⟩
        rw [hwz] at HE HLE HO1 HLO HR HV ⊢
        rw [hbz] at HE HLE HNE
        try rw [hbz]
        clear hkz hbz hwz
        refine soloE (.of HV.out) ?_
        rw [wpPlan_one]
        simp only [pickOps_cons, pickOps_nil, consO_some, List.getElem?_cons_zero, List.getElem?_cons_succ]
        obtain ⟨vG, u4, hrz, hoz, hfz⟩ := HR.out.app B m k G (HG.out.kept HV.out) (by simp; omega)
        have HRUN := Lib.hid hrz
        obtain ⟨hne, hle, hel, _⟩ := hfz bE HLE.out HNE.out
        replace HNE := Lib.hid hne
        replace HLE := Lib.hid hle
        replace HE := Lib.hid (hel _ _ _ HE.out)
        clear hne hle hel
        obtain ⟨hne, hle, _, hel⟩ := hfz bO HLO.out HNO.out
        replace HNO := Lib.hid hne
        replace HLO := Lib.hid hle
        replace HO1 := Lib.hid (hel _ _ _ HO1.out)
        clear hne hle hel
        replace HR := Lib.hid hoz
        replace HV := Lib.hid hoz.ke
        clear hrz hoz hfz
        go_wp2_with (at_builtin; refine Lib.wpList_append_run _ rfl (.tmp 7) (.tmp 8) _ _ rfl _ _ rfl rfl _ _ HRUN.out ?_)
        clear HRUN
        refine soloE (.of HV.out) ?_
        rw [wpPlan_one]
        simp only [pickOps_cons, pickOps_nil, consO_some, List.getElem?_cons_zero, List.getElem?_cons_succ]
        obtain ⟨vD, u5, hrz, hoz, hfz⟩ := HR.out.app (some ⟨bO, 0, none⟩) 1 1 _ HO1.out (by have := HGL.out; simp; omega)
        have HRUN := Lib.hid hrz
        obtain ⟨hne, hle, hel, _⟩ := hfz bE HLE.out HNE.out
        replace HNE := Lib.hid hne
        replace HLE := Lib.hid hle
        replace HE := Lib.hid (hel _ _ _ HE.out)
        clear hne hle hel
        replace HR := Lib.hid hoz
        replace HV := Lib.hid hoz.ke
        clear hrz hoz hfz
        go_wp2_with (at_builtin; refine Lib.wpList_append_run _ rfl (.tmp 9) (.tmp 12) _ _ rfl _ _ rfl rfl _ _ HRUN.out ?_)
        clear HRUN
        obtain ⟨AD, cD, rfl, hdz⟩ := HR.out.form
        have hlz : ([] ++ G ++ [(x.d.1, x.d.2)]).length = m + 1 := by have := HGL.out; simp; omega
        rw [hlz] at hdz ⊢
        have HDD := Lib.hid hdz
        clear hdz hlz HR HO1 HLO HNO HNE
        refine soloE (.of HV.out) ?_
        rw [wpPlan_one]
        simp only [pickOps_cons, pickOps_nil, consO_some, List.getElem?_cons_zero, List.getElem?_cons_succ]
        go_wp2_with (go_at_call 32; refine (rof_any AD (m + 1) cD _ _ HDD.out (by omega)).mono ?_; rintro e u6 ⟨A7, n7, c7, B7, m7, k7, V7, C7, rfl, hi7, hd7, hs7, hm7, hkz, _, _⟩)
        have HI := Lib.hid hi7
        have HDC := Lib.hid hd7
        have HS7 := Lib.hid hs7
        have HM7 := Lib.hid hm7
        replace HV := Lib.hid (HV.out.trans hkz)
        replace HE := Lib.hid (HE.out.kept hkz)
        replace HLE := Lib.hid (Nat.lt_of_lt_of_le HLE.out hkz.2.2)
        clear hi7 hd7 hs7 hm7 hkz HDD
        refine soloE (.of HV.out) ?_
        rw [wpPlan_read]
        simp only [pickOps_cons, pickOps_nil, consO_some, List.getElem?_cons_zero, List.getElem?_cons_succ]
        repeat (go_big_quiet_step (fail))
        refine wpQuiet_nil ?_
        rw [wpPlan_one]
        simp only [pickOps_cons, pickOps_nil, consO_some, List.getElem?_cons_zero, List.getElem?_cons_succ]
        have hres := HRES.out.kept HV.out
        have e0 := hres.c0; have e1 := hres.c1; have e2 := hres.c2; have ef := hres.f
        have HF := Lib.hid (stj_put (S := LeaveS x G) (W := w) (s := ⟨[x], V7, C7⟩) (show Stt u6 (some ⟨bE, 0, none⟩) 1 1 A7 n7 c7 B7 m7 k7 [x] V7 C7 from ⟨HE.out, HI.out, HDC.out⟩) hres (Nat.le_add_right _ 1) (HK.out.trans HV.out) ⟨rfl, ⟨HS7.out.right, fun e => (HS7.out.has e).trans (ev_aft e)⟩, by have h1 := HDC.out.1; have h2 := HGL.out; have h3 := HM7.out; simp only [List.nil_append, List.length_append, List.length_cons, List.length_nil] at h3; show C7.length ≤ G.length + 1; omega⟩)
        clear hres
        go_wp2_with fail
        refine soloE ((((KeptE.of (G := w.heap.size + 1) HV.out).set (.inl rfl) _).set (.inl rfl) _).set (.inl rfl) _) ?_
        refine wpPlan_stop ?_
        go_wp2_with fail
        exact bodyPost_ret (by simp [results, Tryz.results11, go_sem, *]) rfl HF.out
      · obtain ⟨vG, u3, hrz, hoz, hfz⟩ := HR.out.app B m k G (HG.out.kept HV.out) (by simp; omega)
        have HRUN := Lib.hid hrz
        obtain ⟨hne, hle, _, hel⟩ := hfz bO HLO.out HNO.out
        replace HNO := Lib.hid hne
        replace HLO := Lib.hid hle
        replace HO1 := Lib.hid (hel _ _ _ HO1.out)
        clear hne hle hel
        replace HR := Lib.hid hoz
        replace HV := Lib.hid hoz.ke
        clear hrz hoz hfz
        go_wp2_with (at_builtin; refine Lib.wpList_append_run _ rfl (.tmp 7) (.tmp 8) _ _ rfl _ _ rfl rfl _ _ HRUN.out ?_)
        clear HRUN
        refine soloE (.of HV.out) ?_
        rw [wpPlan_two]
        simp only [pickOps_cons, pickOps_nil, consO_some, List.getElem?_cons_zero, List.getElem?_cons_succ]
        constructor
        · go_wp2_with fail
          have hkz := (Kept.refl u3).alloc #[.int .i64 x.d.1, .int .i64 x.d.2, .string x.p, .int .i64 x.k, .int .i64 x.vk, .int .i64 x.vn, .string x.vt, .int .i64 x.e.1, .int .i64 x.e.2] 34
          have HE := Lib.hid (el_one (Ent.new u3 x 34))
          have HLE := Lib.hid (show u3.heap.size < (u3.alloc (.cells #[.int .i64 x.d.1, .int .i64 x.d.2, .string x.p, .int .i64 x.k, .int .i64 x.vk, .int .i64 x.vn, .string x.vt, .int .i64 x.e.1, .int .i64 x.e.2] 34)).heap.size by simp)
          replace HO1 := Lib.hid (HO1.out.kept hkz)
          replace HLO := Lib.hid (Nat.lt_of_lt_of_le HLO.out hkz.2.2)
          have HNE := Lib.hid HR.out.lt
          replace HR := Lib.hid (HR.out.kept hkz)
          replace HV := Lib.hid (HV.out.trans hkz)
          obtain ⟨bE, hbz⟩ : ∃ b, (World.heap u3).size = b := ⟨_, rfl⟩
          obtain ⟨u4, hwz⟩ : ∃ u, World.alloc u3 (.cells #[.int .i64 x.d.1, .int .i64 x.d.2, .string x.p, .int .i64 x.k, .int .i64 x.vk, .int .i64 x.vn, .string x.vt, .int .i64 x.e.1, .int .i64 x.e.2] 34) = u := ⟨_, rfl⟩
          rw [hwz] at HE HLE HO1 HLO HR HV ⊢
          rw [hbz] at HE HLE HNE
          try rw [hbz]
          clear hkz hbz hwz
          refine soloE (.of HV.out) ?_
          rw [wpPlan_one]
          simp only [pickOps_cons, pickOps_nil, consO_some, List.getElem?_cons_zero, List.getElem?_cons_succ]
          obtain ⟨vD, u5, hrz, hoz, hfz⟩ := HR.out.app (some ⟨bO, 0, none⟩) 1 1 _ HO1.out (by have := HGL.out; simp; omega)
          have HRUN := Lib.hid hrz
          obtain ⟨hne, hle, hel, _⟩ := hfz bE HLE.out HNE.out
          replace HNE := Lib.hid hne
          replace HLE := Lib.hid hle
          replace HE := Lib.hid (hel _ _ _ HE.out)
          clear hne hle hel
          replace HR := Lib.hid hoz
          replace HV := Lib.hid hoz.ke
          clear hrz hoz hfz
          go_wp2_with (at_builtin; refine Lib.wpList_append_run _ rfl (.tmp 9) (.tmp 12) _ _ rfl _ _ rfl rfl _ _ HRUN.out ?_)
          clear HRUN
          obtain ⟨AD, cD, rfl, hdz⟩ := HR.out.form
          have hlz : ([] ++ G ++ [(x.d.1, x.d.2)]).length = m + 1 := by have := HGL.out; simp; omega
          rw [hlz] at hdz ⊢
          have HDD := Lib.hid hdz
          clear hdz hlz HR HO1 HLO HNO HNE
          refine soloE (.of HV.out) ?_
          rw [wpPlan_one]
          simp only [pickOps_cons, pickOps_nil, consO_some, List.getElem?_cons_zero, List.getElem?_cons_succ]
          go_wp2_with (go_at_call 32; refine (rof_any AD (m + 1) cD _ _ HDD.out (by omega)).mono ?_; rintro e u6 ⟨A7, n7, c7, B7, m7, k7, V7, C7, rfl, hi7, hd7, hs7, hm7, hkz, _, _⟩)
          have HI := Lib.hid hi7
          have HDC := Lib.hid hd7
          have HS7 := Lib.hid hs7
          have HM7 := Lib.hid hm7
          replace HV := Lib.hid (HV.out.trans hkz)
          replace HE := Lib.hid (HE.out.kept hkz)
          replace HLE := Lib.hid (Nat.lt_of_lt_of_le HLE.out hkz.2.2)
          clear hi7 hd7 hs7 hm7 hkz HDD
          refine soloE (.of HV.out) ?_
          rw [wpPlan_read]
          simp only [pickOps_cons, pickOps_nil, consO_some, List.getElem?_cons_zero, List.getElem?_cons_succ]
          repeat (go_big_quiet_step (fail))
          refine wpQuiet_nil ?_
          rw [wpPlan_one]
          simp only [pickOps_cons, pickOps_nil, consO_some, List.getElem?_cons_zero, List.getElem?_cons_succ]
          have hres := HRES.out.kept HV.out
          have e0 := hres.c0; have e1 := hres.c1; have e2 := hres.c2; have ef := hres.f
          have HF := Lib.hid (stj_put (S := LeaveS x G) (W := w) (s := ⟨[x], V7, C7⟩) (show Stt u6 (some ⟨bE, 0, none⟩) 1 1 A7 n7 c7 B7 m7 k7 [x] V7 C7 from ⟨HE.out, HI.out, HDC.out⟩) hres (Nat.le_add_right _ 1) (HK.out.trans HV.out) ⟨rfl, ⟨HS7.out.right, fun e => (HS7.out.has e).trans (ev_aft e)⟩, by have h1 := HDC.out.1; have h2 := HGL.out; have h3 := HM7.out; simp only [List.nil_append, List.length_append, List.length_cons, List.length_nil] at h3; show C7.length ≤ G.length + 1; omega⟩)
          clear hres
          go_wp2_with fail
          refine soloE ((((KeptE.of (G := w.heap.size + 1) HV.out).set (.inl rfl) _).set (.inl rfl) _).set (.inl rfl) _) ?_
          refine wpPlan_stop ?_
          go_wp2_with fail
          exact bodyPost_ret (by simp [results, Tryz.results11, go_sem, *]) rfl HF.out
        · obtain ⟨vD, u4, hrz, hoz, hfz⟩ := HR.out.app (some ⟨bO, 0, none⟩) 1 1 _ HO1.out (by have := HGL.out; simp; omega)
          have HRUN := Lib.hid hrz
          replace HR := Lib.hid hoz
          replace HV := Lib.hid hoz.ke
          clear hrz hoz hfz
          go_wp2_with (at_builtin; refine Lib.wpList_append_run _ rfl (.tmp 9) (.tmp 12) _ _ rfl _ _ rfl rfl _ _ HRUN.out ?_)
          clear HRUN
          obtain ⟨AD, cD, rfl, hdz⟩ := HR.out.form
          have hlz : ([] ++ G ++ [(x.d.1, x.d.2)]).length = m + 1 := by have := HGL.out; simp; omega
          rw [hlz] at hdz ⊢
          have HDD := Lib.hid hdz
          clear hdz hlz HR HO1 HLO HNO
          refine soloE (.of HV.out) ?_
          rw [wpPlan_two]
          simp only [pickOps_cons, pickOps_nil, consO_some, List.getElem?_cons_zero, List.getElem?_cons_succ]
          constructor
          · go_wp2_with fail
            have hkz := (Kept.refl u4).alloc #[.int .i64 x.d.1, .int .i64 x.d.2, .string x.p, .int .i64 x.k, .int .i64 x.vk, .int .i64 x.vn, .string x.vt, .int .i64 x.e.1, .int .i64 x.e.2] 34
            have HE := Lib.hid (el_one (Ent.new u4 x 34))
            have HLE := Lib.hid (show u4.heap.size < (u4.alloc (.cells #[.int .i64 x.d.1, .int .i64 x.d.2, .string x.p, .int .i64 x.k, .int .i64 x.vk, .int .i64 x.vn, .string x.vt, .int .i64 x.e.1, .int .i64 x.e.2] 34)).heap.size by simp)
            replace HDD := Lib.hid (HDD.out.kept hkz)
            replace HV := Lib.hid (HV.out.trans hkz)
            obtain ⟨bE, hbz⟩ : ∃ b, (World.heap u4).size = b := ⟨_, rfl⟩
            obtain ⟨u5, hwz⟩ : ∃ u, World.alloc u4 (.cells #[.int .i64 x.d.1, .int .i64 x.d.2, .string x.p, .int .i64 x.k, .int .i64 x.vk, .int .i64 x.vn, .string x.vt, .int .i64 x.e.1, .int .i64 x.e.2] 34) = u := ⟨_, rfl⟩
            rw [hwz] at HE HLE HDD HV ⊢
            rw [hbz] at HE HLE
            try rw [hbz]
            clear hkz hbz hwz
            refine soloE (.of HV.out) ?_
            rw [wpPlan_one]
            simp only [pickOps_cons, pickOps_nil, consO_some, List.getElem?_cons_zero, List.getElem?_cons_succ]
            go_wp2_with (go_at_call 32; refine (rof_any AD (m + 1) cD _ _ HDD.out (by omega)).mono ?_; rintro e u6 ⟨A7, n7, c7, B7, m7, k7, V7, C7, rfl, hi7, hd7, hs7, hm7, hkz, _, _⟩)
            have HI := Lib.hid hi7
            have HDC := Lib.hid hd7
            have HS7 := Lib.hid hs7
            have HM7 := Lib.hid hm7
            replace HV := Lib.hid (HV.out.trans hkz)
            replace HE := Lib.hid (HE.out.kept hkz)
            replace HLE := Lib.hid (Nat.lt_of_lt_of_le HLE.out hkz.2.2)
            clear hi7 hd7 hs7 hm7 hkz HDD
            refine soloE (.of HV.out) ?_
            rw [wpPlan_read]
            simp only [pickOps_cons, pickOps_nil, consO_some, List.getElem?_cons_zero, List.getElem?_cons_succ]
            repeat (go_big_quiet_step (fail))
            refine wpQuiet_nil ?_
            rw [wpPlan_one]
            simp only [pickOps_cons, pickOps_nil, consO_some, List.getElem?_cons_zero, List.getElem?_cons_succ]
            have hres := HRES.out.kept HV.out
            have e0 := hres.c0; have e1 := hres.c1; have e2 := hres.c2; have ef := hres.f
            have HF := Lib.hid (stj_put (S := LeaveS x G) (W := w) (s := ⟨[x], V7, C7⟩) (show Stt u6 (some ⟨bE, 0, none⟩) 1 1 A7 n7 c7 B7 m7 k7 [x] V7 C7 from ⟨HE.out, HI.out, HDC.out⟩) hres (Nat.le_add_right _ 1) (HK.out.trans HV.out) ⟨rfl, ⟨HS7.out.right, fun e => (HS7.out.has e).trans (ev_aft e)⟩, by have h1 := HDC.out.1; have h2 := HGL.out; have h3 := HM7.out; simp only [List.nil_append, List.length_append, List.length_cons, List.length_nil] at h3; show C7.length ≤ G.length + 1; omega⟩)
            clear hres
            go_wp2_with fail
            refine soloE ((((KeptE.of (G := w.heap.size + 1) HV.out).set (.inl rfl) _).set (.inl rfl) _).set (.inl rfl) _) ?_
            refine wpPlan_stop ?_
            go_wp2_with fail
            exact bodyPost_ret (by simp [results, Tryz.results11, go_sem, *]) rfl HF.out
          · go_wp2_with (go_at_call 32; refine (rof_any AD (m + 1) cD _ _ HDD.out (by omega)).mono ?_; rintro e u5 ⟨A7, n7, c7, B7, m7, k7, V7, C7, rfl, hi7, hd7, hs7, hm7, hkz, _, _⟩)
            have HI := Lib.hid hi7
            have HDC := Lib.hid hd7
            have HS7 := Lib.hid hs7
            have HM7 := Lib.hid hm7
            replace HV := Lib.hid (HV.out.trans hkz)
            clear hi7 hd7 hs7 hm7 hkz HDD
            refine soloE (.of HV.out) ?_
            rw [wpPlan_one]
            simp only [pickOps_cons, pickOps_nil, consO_some, List.getElem?_cons_zero, List.getElem?_cons_succ]
            go_wp2_with fail
            have hkz := (Kept.refl u5).alloc #[.int .i64 x.d.1, .int .i64 x.d.2, .string x.p, .int .i64 x.k, .int .i64 x.vk, .int .i64 x.vn, .string x.vt, .int .i64 x.e.1, .int .i64 x.e.2] 34
            have HE := Lib.hid (el_one (Ent.new u5 x 34))
            have HLE := Lib.hid (show u5.heap.size < (u5.alloc (.cells #[.int .i64 x.d.1, .int .i64 x.d.2, .string x.p, .int .i64 x.k, .int .i64 x.vk, .int .i64 x.vn, .string x.vt, .int .i64 x.e.1, .int .i64 x.e.2] 34)).heap.size by simp)
            replace HI := Lib.hid (HI.out.kept hkz)
            replace HDC := Lib.hid (HDC.out.kept hkz)
            replace HV := Lib.hid (HV.out.trans hkz)
            obtain ⟨bE, hbz⟩ : ∃ b, (World.heap u5).size = b := ⟨_, rfl⟩
            obtain ⟨u6, hwz⟩ : ∃ u, World.alloc u5 (.cells #[.int .i64 x.d.1, .int .i64 x.d.2, .string x.p, .int .i64 x.k, .int .i64 x.vk, .int .i64 x.vn, .string x.vt, .int .i64 x.e.1, .int .i64 x.e.2] 34) = u := ⟨_, rfl⟩
            rw [hwz] at HE HLE HI HDC HV ⊢
            rw [hbz] at HE HLE
            try rw [hbz]
            clear hkz hbz hwz
            refine soloE (.of HV.out) ?_
            rw [wpPlan_read]
            simp only [pickOps_cons, pickOps_nil, consO_some, List.getElem?_cons_zero, List.getElem?_cons_succ]
            repeat (go_big_quiet_step (fail))
            refine wpQuiet_nil ?_
            rw [wpPlan_one]
            simp only [pickOps_cons, pickOps_nil, consO_some, List.getElem?_cons_zero, List.getElem?_cons_succ]
            have hres := HRES.out.kept HV.out
            have e0 := hres.c0; have e1 := hres.c1; have e2 := hres.c2; have ef := hres.f
            have HF := Lib.hid (stj_put (S := LeaveS x G) (W := w) (s := ⟨[x], V7, C7⟩) (show Stt u6 (some ⟨bE, 0, none⟩) 1 1 A7 n7 c7 B7 m7 k7 [x] V7 C7 from ⟨HE.out, HI.out, HDC.out⟩) hres (Nat.le_add_right _ 1) (HK.out.trans HV.out) ⟨rfl, ⟨HS7.out.right, fun e => (HS7.out.has e).trans (ev_aft e)⟩, by have h1 := HDC.out.1; have h2 := HGL.out; have h3 := HM7.out; simp only [List.nil_append, List.length_append, List.length_cons, List.length_nil] at h3; show C7.length ≤ G.length + 1; omega⟩)
            clear hres
            go_wp2_with fail
            refine soloE ((((KeptE.of (G := w.heap.size + 1) HV.out).set (.inl rfl) _).set (.inl rfl) _).set (.inl rfl) _) ?_
            refine wpPlan_stop ?_
            go_wp2_with fail
            exact bodyPost_ret (by simp [results, Tryz.results11, go_sem, *]) rfl HF.out
  · go_wp2_with fail
    have hkz := (Kept.refl wd).alloc #[.int .i64 x.d.1, .int .i64 x.d.2] 30
    have HO1 := Lib.hid (dl_one wd x.d.1 x.d.2 30)
    have HLO := Lib.hid (show wd.heap.size < (wd.alloc (.cells #[.int .i64 x.d.1, .int .i64 x.d.2] 30)).heap.size by simp)
    replace HV := Lib.hid (HV.out.trans hkz)
    obtain ⟨bO, hbz⟩ : ∃ b, (World.heap wd).size = b := ⟨_, rfl⟩
    obtain ⟨u1, hwz⟩ : ∃ u, World.alloc wd (.cells #[.int .i64 x.d.1, .int .i64 x.d.2] 30) = u := ⟨_, rfl⟩
    rw [hwz] at HO1 HLO HV ⊢
    rw [hbz] at HO1 HLO
    try rw [hbz]
    clear hkz hbz hwz
    refine soloE (.of HV.out) ?_
    rw [wpPlan_two]
    simp only [pickOps_cons, pickOps_nil, consO_some, List.getElem?_cons_zero, List.getElem?_cons_succ]
    constructor
    · go_wp2_with fail
      have hkz := (Kept.refl u1).alloc #[.int .i64 x.d.1, .int .i64 x.d.2, .string x.p, .int .i64 x.k, .int .i64 x.vk, .int .i64 x.vn, .string x.vt, .int .i64 x.e.1, .int .i64 x.e.2] 34
      have HE := Lib.hid (el_one (Ent.new u1 x 34))
      have HLE := Lib.hid (show u1.heap.size < (u1.alloc (.cells #[.int .i64 x.d.1, .int .i64 x.d.2, .string x.p, .int .i64 x.k, .int .i64 x.vk, .int .i64 x.vn, .string x.vt, .int .i64 x.e.1, .int .i64 x.e.2] 34)).heap.size by simp)
      replace HO1 := Lib.hid (HO1.out.kept hkz)
      replace HLO := Lib.hid (Nat.lt_of_lt_of_le HLO.out hkz.2.2)
      replace HV := Lib.hid (HV.out.trans hkz)
      obtain ⟨bE, hbz⟩ : ∃ b, (World.heap u1).size = b := ⟨_, rfl⟩
      obtain ⟨u2, hwz⟩ : ∃ u, World.alloc u1 (.cells #[.int .i64 x.d.1, .int .i64 x.d.2, .string x.p, .int .i64 x.k, .int .i64 x.vk, .int .i64 x.vn, .string x.vt, .int .i64 x.e.1, .int .i64 x.e.2] 34) = u := ⟨_, rfl⟩
      rw [hwz] at HE HLE HO1 HLO HV ⊢
      rw [hbz] at HE HLE
      try rw [hbz]
      clear hkz hbz hwz
      refine soloE (.of HV.out) ?_
      rw [wpPlan_one]
      simp only [pickOps_cons, pickOps_nil, consO_some, List.getElem?_cons_zero, List.getElem?_cons_succ]
      go_wp2_with fail
      have HLE0 := HLE
      have HLO0 := HLO
      have hkz := (Kept.refl u2).alloc #[] 30
      replace HE := Lib.hid (HE.out.kept hkz)
      replace HLE := Lib.hid (Nat.lt_of_lt_of_le HLE.out hkz.2.2)
      replace HO1 := Lib.hid (HO1.out.kept hkz)
      replace HLO := Lib.hid (Nat.lt_of_lt_of_le HLO.out hkz.2.2)
      have HR := Lib.hid (OutG.made HV.out)
      have HNE := Lib.hid (show (Value.slice (some ⟨u2.heap.size, 0, none⟩) 0 0).ownBlock ≠ some bE from fun e => by have h1 := HLE0.out; have h2 : u2.heap.size = bE := Option.some.inj e; omega)
      have HNO := Lib.hid (show (Value.slice (some ⟨u2.heap.size, 0, none⟩) 0 0).ownBlock ≠ some bO from fun e => by have h1 := HLO0.out; have h2 : u2.heap.size = bO := Option.some.inj e; omega)
      replace HV := Lib.hid (HV.out.trans hkz)
      obtain ⟨bR, hbz⟩ : ∃ b, (World.heap u2).size = b := ⟨_, rfl⟩
      obtain ⟨u3, hwz⟩ : ∃ u, World.alloc u2 (.cells #[] 30) = u := ⟨_, rfl⟩
      rw [hwz] at HE HLE HO1 HLO HR HV ⊢
      rw [hbz] at HR HNE HNO
      try rw [hbz]
      clear hkz hbz hwz
      clear HLE0
      clear HLO0
      refine soloE (.of HV.out) ?_
      rw [wpPlan_one]
      simp only [pickOps_cons, pickOps_nil, consO_some, List.getElem?_cons_zero, List.getElem?_cons_succ]
      obtain ⟨vG, u4, hrz, hoz, hfz⟩ := HR.out.app B m k G (HG.out.kept HV.out) (by simp; omega)
      have HRUN := Lib.hid hrz
      obtain ⟨hne, hle, hel, _⟩ := hfz bE HLE.out HNE.out
      replace HNE := Lib.hid hne
      replace HLE := Lib.hid hle
      replace HE := Lib.hid (hel _ _ _ HE.out)
      clear hne hle hel
      obtain ⟨hne, hle, _, hel⟩ := hfz bO HLO.out HNO.out
      replace HNO := Lib.hid hne
      replace HLO := Lib.hid hle
      replace HO1 := Lib.hid (hel _ _ _ HO1.out)
      clear hne hle hel
      replace HR := Lib.hid hoz
      replace HV := Lib.hid hoz.ke
      clear hrz hoz hfz
      go_wp2_with (at_builtin; refine Lib.wpList_append_run _ rfl (.tmp 7) (.tmp 8) _ _ rfl _ _ rfl rfl _ _ HRUN.out ?_)
      clear HRUN
      refine soloE (.of HV.out) ?_
      rw [wpPlan_one]
      simp only [pickOps_cons, pickOps_nil, consO_some, List.getElem?_cons_zero, List.getElem?_cons_succ]
      obtain ⟨vD, u5, hrz, hoz, hfz⟩ := HR.out.app (some ⟨bO, 0, none⟩) 1 1 _ HO1.out (by have := HGL.out; simp; omega)
      have HRUN := Lib.hid hrz
      obtain ⟨hne, hle, hel, _⟩ := hfz bE HLE.out HNE.out
      replace HNE := Lib.hid hne
      replace HLE := Lib.hid hle
      replace HE := Lib.hid (hel _ _ _ HE.out)
      clear hne hle hel
      replace HR := Lib.hid hoz
      replace HV := Lib.hid hoz.ke
      clear hrz hoz hfz
      go_wp2_with (at_builtin; refine Lib.wpList_append_run _ rfl (.tmp 9) (.tmp 12) _ _ rfl _ _ rfl rfl _ _ HRUN.out ?_)
      clear HRUN
      obtain ⟨AD, cD, rfl, hdz⟩ := HR.out.form
      have hlz : ([] ++ G ++ [(x.d.1, x.d.2)]).length = m + 1 := by have := HGL.out; simp; omega
      rw [hlz] at hdz ⊢
      have HDD := Lib.hid hdz
      clear hdz hlz HR HO1 HLO HNO HNE
      refine soloE (.of HV.out) ?_
      rw [wpPlan_one]
      simp only [pickOps_cons, pickOps_nil, consO_some, List.getElem?_cons_zero, List.getElem?_cons_succ]
      go_wp2_with (go_at_call 32; refine (rof_any AD (m + 1) cD _ _ HDD.out (by omega)).mono ?_; rintro e u6 ⟨A7, n7, c7, B7, m7, k7, V7, C7, rfl, hi7, hd7, hs7, hm7, hkz, _, _⟩)
      have HI := Lib.hid hi7
      have HDC := Lib.hid hd7
      have HS7 := Lib.hid hs7
      have HM7 := Lib.hid hm7
      replace HV := Lib.hid (HV.out.trans hkz)
      replace HE := Lib.hid (HE.out.kept hkz)
      replace HLE := Lib.hid (Nat.lt_of_lt_of_le HLE.out hkz.2.2)
      clear hi7 hd7 hs7 hm7 hkz HDD
      refine soloE (.of HV.out) ?_
      rw [wpPlan_read]
      simp only [pickOps_cons, pickOps_nil, consO_some, List.getElem?_cons_zero, List.getElem?_cons_succ]
      repeat (go_big_quiet_step (fail))
      refine wpQuiet_nil ?_
      rw [wpPlan_one]
      simp only [pickOps_cons, pickOps_nil, consO_some, List.getElem?_cons_zero, List.getElem?_cons_succ]
      have hres := HRES.out.kept HV.out
      have e0 := hres.c0; have e1 := hres.c1; have e2 := hres.c2; have ef := hres.f
      have HF := Lib.hid (stj_put (S := LeaveS x G) (W := w) (s := ⟨[x], V7, C7⟩) (show Stt u6 (some ⟨bE, 0, none⟩) 1 1 A7 n7 c7 B7 m7 k7 [x] V7 C7 from ⟨HE.out, HI.out, HDC.out⟩) hres (Nat.le_add_right _ 1) (HK.out.trans HV.out) ⟨rfl, ⟨HS7.out.right, fun e => (HS7.out.has e).trans (ev_aft e)⟩, by have h1 := HDC.out.1; have h2 := HGL.out; have h3 := HM7.out; simp only [List.nil_append, List.length_append, List.length_cons, List.length_nil] at h3; show C7.length ≤ G.length + 1; omega⟩)
      clear hres
      go_wp2_with fail
      refine soloE ((((KeptE.of (G := w.heap.size + 1) HV.out).set (.inl rfl) _).set (.inl rfl) _).set (.inl rfl) _) ?_
      refine wpPlan_stop ?_
      go_wp2_with fail
      exact bodyPost_ret (by simp [results, Tryz.results11, go_sem, *]) rfl HF.out
    · go_wp2_with fail
      have HLO0 := HLO
      have hkz := (Kept.refl u1).alloc #[] 30
      replace HO1 := Lib.hid (HO1.out.kept hkz)
      replace HLO := Lib.hid (Nat.lt_of_lt_of_le HLO.out hkz.2.2)
      have HR := Lib.hid (OutG.made HV.out)
      have HNO := Lib.hid (show (Value.slice (some ⟨u1.heap.size, 0, none⟩) 0 0).ownBlock ≠ some bO from fun e => by have h1 := HLO0.out; have h2 : u1.heap.size = bO := Option.some.inj e; omega)
      replace HV := Lib.hid (HV.out.trans hkz)
      obtain ⟨bR, hbz⟩ : ∃ b, (World.heap u1).size = b := ⟨_, rfl⟩
      obtain ⟨u2, hwz⟩ : ∃ u, World.alloc u1 (.cells #[] 30) = u := ⟨_, rfl⟩
      rw [hwz] at HO1 HLO HR HV ⊢
      rw [hbz] at HR HNO
      try rw [hbz]
      clear hkz hbz hwz
      clear HLO0
      refine soloE (.of HV.out) ?_
      rw [wpPlan_two]
      simp only [pickOps_cons, pickOps_nil, consO_some, List.getElem?_cons_zero, List.getElem?_cons_succ]
      constructor
      · go_wp2_with fail
        have hkz := (Kept.refl u2).alloc #[.int .i64 x.d.1, .int .i64 x.d.2, .string x.p, .int .i64 x.k, .int .i64 x.vk, .int .i64 x.vn, .string x.vt, .int .i64 x.e.1, .int .i64 x.e.2] 34
        have HE := Lib.hid (el_one (Ent.new u2 x 34))
        have HLE := Lib.hid (show u2.heap.size < (u2.alloc (.cells #[.int .i64 x.d.1, .int .i64 x.d.2, .string x.p, .int .i64 x.k, .int .i64 x.vk, .int .i64 x.vn, .string x.vt, .int .i64 x.e.1, .int .i64 x.e.2] 34)).heap.size by simp)
        replace HO1 := Lib.hid (HO1.out.kept hkz)
        replace HLO := Lib.hid (Nat.lt_of_lt_of_le HLO.out hkz.2.2)
        have HNE := Lib.hid HR.out.lt
        replace HR := Lib.hid (HR.out.kept hkz)
        replace HV := Lib.hid (HV.out.trans hkz)
        obtain ⟨bE, hbz⟩ : ∃ b, (World.heap u2).size = b := ⟨_, rfl⟩
        obtain ⟨u3, hwz⟩ : ∃ u, World.alloc u2 (.cells #[.int .i64 x.d.1, .int .i64 x.d.2, .string x.p, .int .i64 x.k, .int .i64 x.vk, .int .i64 x.vn, .string x.vt, .int .i64 x.e.1, .int .i64 x.e.2] 34) = u := ⟨_, rfl⟩
        rw [hwz] at HE HLE HO1 HLO HR HV ⊢
        rw [hbz] at HE HLE HNE
        try rw [hbz]
        clear hkz hbz hwz
        refine soloE (.of HV.out) ?_
        rw [wpPlan_one]
        simp only [pickOps_cons, pickOps_nil, consO_some, List.getElem?_cons_zero, List.getElem?_cons_succ]
        obtain ⟨vG, u4, hrz, hoz, hfz⟩ := HR.out.app B m k G (HG.out.kept HV.out) (by simp; omega)
        have HRUN := Lib.hid hrz
        obtain ⟨hne, hle, hel, _⟩ := hfz bE HLE.out HNE.out
        replace HNE := Lib.hid hne
        replace HLE := Lib.hid hle
        replace HE := Lib.hid (hel _ _ _ HE.out)
        clear hne hle hel
        obtain ⟨hne, hle, _, hel⟩ := hfz bO HLO.out HNO.out
        replace HNO := Lib.hid hne
        replace HLO := Lib.hid hle
        replace HO1 := Lib.hid (hel _ _ _ HO1.out)
        clear hne hle hel
        replace HR := Lib.hid hoz
        replace HV := Lib.hid hoz.ke
        clear hrz hoz hfz
        go_wp2_with (at_builtin; refine Lib.wpList_append_run _ rfl (.tmp 7) (.tmp 8) _ _ rfl _ _ rfl rfl _ _ HRUN.out ?_)
        clear HRUN
        refine soloE (.of HV.out) ?_
        rw [wpPlan_one]
        simp only [pickOps_cons, pickOps_nil, consO_some, List.getElem?_cons_zero, List.getElem?_cons_succ]
        obtain ⟨vD, u5, hrz, hoz, hfz⟩ := HR.out.app (some ⟨bO, 0, none⟩) 1 1 _ HO1.out (by have := HGL.out; simp; omega)
        have HRUN := Lib.hid hrz
        obtain ⟨hne, hle, hel, _⟩ := hfz bE HLE.out HNE.out
        replace HNE := Lib.hid hne
        replace HLE := Lib.hid hle
        replace HE := Lib.hid (hel _ _ _ HE.out)
        clear hne hle hel
        replace HR := Lib.hid hoz
        replace HV := Lib.hid hoz.ke
        clear hrz hoz hfz
        go_wp2_with (at_builtin; refine Lib.wpList_append_run _ rfl (.tmp 9) (.tmp 12) _ _ rfl _ _ rfl rfl _ _ HRUN.out ?_)
        clear HRUN
        obtain ⟨AD, cD, rfl, hdz⟩ := HR.out.form
        have hlz : ([] ++ G ++ [(x.d.1, x.d.2)]).length = m + 1 := by have := HGL.out; simp; omega
        rw [hlz] at hdz ⊢
        have HDD := Lib.hid hdz
        clear hdz hlz HR HO1 HLO HNO HNE
        refine soloE (.of HV.out) ?_
        rw [wpPlan_one]
        simp only [pickOps_cons, pickOps_nil, consO_some, List.getElem?_cons_zero, List.getElem?_cons_succ]
        go_wp2_with (go_at_call 32; refine (rof_any AD (m + 1) cD _ _ HDD.out (by omega)).mono ?_; rintro e u6 ⟨A7, n7, c7, B7, m7, k7, V7, C7, rfl, hi7, hd7, hs7, hm7, hkz, _, _⟩)
        have HI := Lib.hid hi7
        have HDC := Lib.hid hd7
        have HS7 := Lib.hid hs7
        have HM7 := Lib.hid hm7
        replace HV := Lib.hid (HV.out.trans hkz)
        replace HE := Lib.hid (HE.out.kept hkz)
        replace HLE := Lib.hid (Nat.lt_of_lt_of_le HLE.out hkz.2.2)
        clear hi7 hd7 hs7 hm7 hkz HDD
        refine soloE (.of HV.out) ?_
        rw [wpPlan_read]
        simp only [pickOps_cons, pickOps_nil, consO_some, List.getElem?_cons_zero, List.getElem?_cons_succ]
        repeat (go_big_quiet_step (fail))
        refine wpQuiet_nil ?_
        rw [wpPlan_one]
        simp only [pickOps_cons, pickOps_nil, consO_some, List.getElem?_cons_zero, List.getElem?_cons_succ]
        have hres := HRES.out.kept HV.out
        have e0 := hres.c0; have e1 := hres.c1; have e2 := hres.c2; have ef := hres.f
        have HF := Lib.hid (stj_put (S := LeaveS x G) (W := w) (s := ⟨[x], V7, C7⟩) (show Stt u6 (some ⟨bE, 0, none⟩) 1 1 A7 n7 c7 B7 m7 k7 [x] V7 C7 from ⟨HE.out, HI.out, HDC.out⟩) hres (Nat.le_add_right _ 1) (HK.out.trans HV.out) ⟨rfl, ⟨HS7.out.right, fun e => (HS7.out.has e).trans (ev_aft e)⟩, by have h1 := HDC.out.1; have h2 := HGL.out; have h3 := HM7.out; simp only [List.nil_append, List.length_append, List.length_cons, List.length_nil] at h3; show C7.length ≤ G.length + 1; omega⟩)
        clear hres
        go_wp2_with fail
        refine soloE ((((KeptE.of (G := w.heap.size + 1) HV.out).set (.inl rfl) _).set (.inl rfl) _).set (.inl rfl) _) ?_
        refine wpPlan_stop ?_
        go_wp2_with fail
        exact bodyPost_ret (by simp [results, Tryz.results11, go_sem, *]) rfl HF.out
      · obtain ⟨vG, u3, hrz, hoz, hfz⟩ := HR.out.app B m k G (HG.out.kept HV.out) (by simp; omega)
        have HRUN := Lib.hid hrz
        obtain ⟨hne, hle, _, hel⟩ := hfz bO HLO.out HNO.out
        replace HNO := Lib.hid hne
        replace HLO := Lib.hid hle
        replace HO1 := Lib.hid (hel _ _ _ HO1.out)
        clear hne hle hel
        replace HR := Lib.hid hoz
        replace HV := Lib.hid hoz.ke
        clear hrz hoz hfz
        go_wp2_with (at_builtin; refine Lib.wpList_append_run _ rfl (.tmp 7) (.tmp 8) _ _ rfl _ _ rfl rfl _ _ HRUN.out ?_)
        clear HRUN
        refine soloE (.of HV.out) ?_
        rw [wpPlan_two]
        simp only [pickOps_cons, pickOps_nil, consO_some, List.getElem?_cons_zero, List.getElem?_cons_succ]
        constructor
        · go_wp2_with fail
          have hkz := (Kept.refl u3).alloc #[.int .i64 x.d.1, .int .i64 x.d.2, .string x.p, .int .i64 x.k, .int .i64 x.vk, .int .i64 x.vn, .string x.vt, .int .i64 x.e.1, .int .i64 x.e.2] 34
          have HE := Lib.hid (el_one (Ent.new u3 x 34))
          have HLE := Lib.hid (show u3.heap.size < (u3.alloc (.cells #[.int .i64 x.d.1, .int .i64 x.d.2, .string x.p, .int .i64 x.k, .int .i64 x.vk, .int .i64 x.vn, .string x.vt, .int .i64 x.e.1, .int .i64 x.e.2] 34)).heap.size by simp)
          replace HO1 := Lib.hid (HO1.out.kept hkz)
          replace HLO := Lib.hid (Nat.lt_of_lt_of_le HLO.out hkz.2.2)
          have HNE := Lib.hid HR.out.lt
          replace HR := Lib.hid (HR.out.kept hkz)
          replace HV := Lib.hid (HV.out.trans hkz)
          obtain ⟨bE, hbz⟩ : ∃ b, (World.heap u3).size = b := ⟨_, rfl⟩
          obtain ⟨u4, hwz⟩ : ∃ u, World.alloc u3 (.cells #[.int .i64 x.d.1, .int .i64 x.d.2, .string x.p, .int .i64 x.k, .int .i64 x.vk, .int .i64 x.vn, .string x.vt, .int .i64 x.e.1, .int .i64 x.e.2] 34) = u := ⟨_, rfl⟩
          rw [hwz] at HE HLE HO1 HLO HR HV ⊢
          rw [hbz] at HE HLE HNE
          try rw [hbz]
          clear hkz hbz hwz
          refine soloE (.of HV.out) ?_
          rw [wpPlan_one]
          simp only [pickOps_cons, pickOps_nil, consO_some, List.getElem?_cons_zero, List.getElem?_cons_succ]
          obtain ⟨vD, u5, hrz, hoz, hfz⟩ := HR.out.app (some ⟨bO, 0, none⟩) 1 1 _ HO1.out (by have := HGL.out; simp; omega)
          have HRUN := Lib.hid hrz
          obtain ⟨hne, hle, hel, _⟩ := hfz bE HLE.out HNE.out
          replace HNE := Lib.hid hne
          replace HLE := Lib.hid hle
          replace HE := Lib.hid (hel _ _ _ HE.out)
          clear hne hle hel
          replace HR := Lib.hid hoz
          replace HV := Lib.hid hoz.ke
          clear hrz hoz hfz
          go_wp2_with (at_builtin; refine Lib.wpList_append_run _ rfl (.tmp 9) (.tmp 12) _ _ rfl _ _ rfl rfl _ _ HRUN.out ?_)
          clear HRUN
          obtain ⟨AD, cD, rfl, hdz⟩ := HR.out.form
          have hlz : ([] ++ G ++ [(x.d.1, x.d.2)]).length = m + 1 := by have := HGL.out; simp; omega
          rw [hlz] at hdz ⊢
          have HDD := Lib.hid hdz
          clear hdz hlz HR HO1 HLO HNO HNE
          refine soloE (.of HV.out) ?_
          rw [wpPlan_one]
          simp only [pickOps_cons, pickOps_nil, consO_some, List.getElem?_cons_zero, List.getElem?_cons_succ]
          go_wp2_with (go_at_call 32; refine (rof_any AD (m + 1) cD _ _ HDD.out (by omega)).mono ?_; rintro e u6 ⟨A7, n7, c7, B7, m7, k7, V7, C7, rfl, hi7, hd7, hs7, hm7, hkz, _, _⟩)
          have HI := Lib.hid hi7
          have HDC := Lib.hid hd7
          have HS7 := Lib.hid hs7
          have HM7 := Lib.hid hm7
          replace HV := Lib.hid (HV.out.trans hkz)
          replace HE := Lib.hid (HE.out.kept hkz)
          replace HLE := Lib.hid (Nat.lt_of_lt_of_le HLE.out hkz.2.2)
          clear hi7 hd7 hs7 hm7 hkz HDD
          refine soloE (.of HV.out) ?_
          rw [wpPlan_read]
          simp only [pickOps_cons, pickOps_nil, consO_some, List.getElem?_cons_zero, List.getElem?_cons_succ]
          repeat (go_big_quiet_step (fail))
          refine wpQuiet_nil ?_
          rw [wpPlan_one]
          simp only [pickOps_cons, pickOps_nil, consO_some, List.getElem?_cons_zero, List.getElem?_cons_succ]
          have hres := HRES.out.kept HV.out
          have e0 := hres.c0; have e1 := hres.c1; have e2 := hres.c2; have ef := hres.f
          have HF := Lib.hid (stj_put (S := LeaveS x G) (W := w) (s := ⟨[x], V7, C7⟩) (show Stt u6 (some ⟨bE, 0, none⟩) 1 1 A7 n7 c7 B7 m7 k7 [x] V7 C7 from ⟨HE.out, HI.out, HDC.out⟩) hres (Nat.le_add_right _ 1) (HK.out.trans HV.out) ⟨rfl, ⟨HS7.out.right, fun e => (HS7.out.has e).trans (ev_aft e)⟩, by have h1 := HDC.out.1; have h2 := HGL.out; have h3 := HM7.out; simp only [List.nil_append, List.length_append, List.length_cons, List.length_nil] at h3; show C7.length ≤ G.length + 1; omega⟩)
          clear hres
          go_wp2_with fail
          refine soloE ((((KeptE.of (G := w.heap.size + 1) HV.out).set (.inl rfl) _).set (.inl rfl) _).set (.inl rfl) _) ?_
          refine wpPlan_stop ?_
          go_wp2_with fail
          exact bodyPost_ret (by simp [results, Tryz.results11, go_sem, *]) rfl HF.out
        · obtain ⟨vD, u4, hrz, hoz, hfz⟩ := HR.out.app (some ⟨bO, 0, none⟩) 1 1 _ HO1.out (by have := HGL.out; simp; omega)
          have HRUN := Lib.hid hrz
          replace HR := Lib.hid hoz
          replace HV := Lib.hid hoz.ke
          clear hrz hoz hfz
          go_wp2_with (at_builtin; refine Lib.wpList_append_run _ rfl (.tmp 9) (.tmp 12) _ _ rfl _ _ rfl rfl _ _ HRUN.out ?_)
          clear HRUN
          obtain ⟨AD, cD, rfl, hdz⟩ := HR.out.form
          have hlz : ([] ++ G ++ [(x.d.1, x.d.2)]).length = m + 1 := by have := HGL.out; simp; omega
          rw [hlz] at hdz ⊢
          have HDD := Lib.hid hdz
          clear hdz hlz HR HO1 HLO HNO
          refine soloE (.of HV.out) ?_
          rw [wpPlan_two]
          simp only [pickOps_cons, pickOps_nil, consO_some, List.getElem?_cons_zero, List.getElem?_cons_succ]
          constructor
          · go_wp2_with fail
            have hkz := (Kept.refl u4).alloc #[.int .i64 x.d.1, .int .i64 x.d.2, .string x.p, .int .i64 x.k, .int .i64 x.vk, .int .i64 x.vn, .string x.vt, .int .i64 x.e.1, .int .i64 x.e.2] 34
            have HE := Lib.hid (el_one (Ent.new u4 x 34))
            have HLE := Lib.hid (show u4.heap.size < (u4.alloc (.cells #[.int .i64 x.d.1, .int .i64 x.d.2, .string x.p, .int .i64 x.k, .int .i64 x.vk, .int .i64 x.vn, .string x.vt, .int .i64 x.e.1, .int .i64 x.e.2] 34)).heap.size by simp)
            replace HDD := Lib.hid (HDD.out.kept hkz)
            replace HV := Lib.hid (HV.out.trans hkz)
            obtain ⟨bE, hbz⟩ : ∃ b, (World.heap u4).size = b := ⟨_, rfl⟩
            obtain ⟨u5, hwz⟩ : ∃ u, World.alloc u4 (.cells #[.int .i64 x.d.1, .int .i64 x.d.2, .string x.p, .int .i64 x.k, .int .i64 x.vk, .int .i64 x.vn, .string x.vt, .int .i64 x.e.1, .int .i64 x.e.2] 34) = u := ⟨_, rfl⟩
            rw [hwz] at HE HLE HDD HV ⊢
            rw [hbz] at HE HLE
            try rw [hbz]
            clear hkz hbz hwz
            refine soloE (.of HV.out) ?_
            rw [wpPlan_one]
            simp only [pickOps_cons, pickOps_nil, consO_some, List.getElem?_cons_zero, List.getElem?_cons_succ]
            go_wp2_with (go_at_call 32; refine (rof_any AD (m + 1) cD _ _ HDD.out (by omega)).mono ?_; rintro e u6 ⟨A7, n7, c7, B7, m7, k7, V7, C7, rfl, hi7, hd7, hs7, hm7, hkz, _, _⟩)
            have HI := Lib.hid hi7
            have HDC := Lib.hid hd7
            have HS7 := Lib.hid hs7
            have HM7 := Lib.hid hm7
            replace HV := Lib.hid (HV.out.trans hkz)
            replace HE := Lib.hid (HE.out.kept hkz)
            replace HLE := Lib.hid (Nat.lt_of_lt_of_le HLE.out hkz.2.2)
            clear hi7 hd7 hs7 hm7 hkz HDD
            refine soloE (.of HV.out) ?_
            rw [wpPlan_read]
            simp only [pickOps_cons, pickOps_nil, consO_some, List.getElem?_cons_zero, List.getElem?_cons_succ]
            repeat (go_big_quiet_step (fail))
            refine wpQuiet_nil ?_
            rw [wpPlan_one]
            simp only [pickOps_cons, pickOps_nil, consO_some, List.getElem?_cons_zero, List.getElem?_cons_succ]
            have hres := HRES.out.kept HV.out
            have e0 := hres.c0; have e1 := hres.c1; have e2 := hres.c2; have ef := hres.f
            have HF := Lib.hid (stj_put (S := LeaveS x G) (W := w) (s := ⟨[x], V7, C7⟩) (show Stt u6 (some ⟨bE, 0, none⟩) 1 1 A7 n7 c7 B7 m7 k7 [x] V7 C7 from ⟨HE.out, HI.out, HDC.out⟩) hres (Nat.le_add_right _ 1) (HK.out.trans HV.out) ⟨rfl, ⟨HS7.out.right, fun e => (HS7.out.has e).trans (ev_aft e)⟩, by have h1 := HDC.out.1; have h2 := HGL.out; have h3 := HM7.out; simp only [List.nil_append, List.length_append, List.length_cons, List.length_nil] at h3; show C7.length ≤ G.length + 1; omega⟩)
            clear hres
            go_wp2_with fail
            refine soloE ((((KeptE.of (G := w.heap.size + 1) HV.out).set (.inl rfl) _).set (.inl rfl) _).set (.inl rfl) _) ?_
            refine wpPlan_stop ?_
            go_wp2_with fail
            exact bodyPost_ret (by simp [results, Tryz.results11, go_sem, *]) rfl HF.out
          · go_wp2_with (go_at_call 32; refine (rof_any AD (m + 1) cD _ _ HDD.out (by omega)).mono ?_; rintro e u5 ⟨A7, n7, c7, B7, m7, k7, V7, C7, rfl, hi7, hd7, hs7, hm7, hkz, _, _⟩)
            have HI := Lib.hid hi7
            have HDC := Lib.hid hd7
            have HS7 := Lib.hid hs7
            have HM7 := Lib.hid hm7
            replace HV := Lib.hid (HV.out.trans hkz)
            clear hi7 hd7 hs7 hm7 hkz HDD
            refine soloE (.of HV.out) ?_
            rw [wpPlan_one]
            simp only [pickOps_cons, pickOps_nil, consO_some, List.getElem?_cons_zero, List.getElem?_cons_succ]
            go_wp2_with fail
            have hkz := (Kept.refl u5).alloc #[.int .i64 x.d.1, .int .i64 x.d.2, .string x.p, .int .i64 x.k, .int .i64 x.vk, .int .i64 x.vn, .string x.vt, .int .i64 x.e.1, .int .i64 x.e.2] 34
            have HE := Lib.hid (el_one (Ent.new u5 x 34))
            have HLE := Lib.hid (show u5.heap.size < (u5.alloc (.cells #[.int .i64 x.d.1, .int .i64 x.d.2, .string x.p, .int .i64 x.k, .int .i64 x.vk, .int .i64 x.vn, .string x.vt, .int .i64 x.e.1, .int .i64 x.e.2] 34)).heap.size by simp)
            replace HI := Lib.hid (HI.out.kept hkz)
            replace HDC := Lib.hid (HDC.out.kept hkz)
            replace HV := Lib.hid (HV.out.trans hkz)
            obtain ⟨bE, hbz⟩ : ∃ b, (World.heap u5).size = b := ⟨_, rfl⟩
            obtain ⟨u6, hwz⟩ : ∃ u, World.alloc u5 (.cells #[.int .i64 x.d.1, .int .i64 x.d.2, .string x.p, .int .i64 x.k, .int .i64 x.vk, .int .i64 x.vn, .string x.vt, .int .i64 x.e.1, .int .i64 x.e.2] 34) = u := ⟨_, rfl⟩
            rw [hwz] at HE HLE HI HDC HV ⊢
            rw [hbz] at HE HLE
            try rw [hbz]
            clear hkz hbz hwz
            refine soloE (.of HV.out) ?_
            rw [wpPlan_read]
            simp only [pickOps_cons, pickOps_nil, consO_some, List.getElem?_cons_zero, List.getElem?_cons_succ]
            repeat (go_big_quiet_step (fail))
            refine wpQuiet_nil ?_
            rw [wpPlan_one]
            simp only [pickOps_cons, pickOps_nil, consO_some, List.getElem?_cons_zero, List.getElem?_cons_succ]
            have hres := HRES.out.kept HV.out
            have e0 := hres.c0; have e1 := hres.c1; have e2 := hres.c2; have ef := hres.f
            have HF := Lib.hid (stj_put (S := LeaveS x G) (W := w) (s := ⟨[x], V7, C7⟩) (show Stt u6 (some ⟨bE, 0, none⟩) 1 1 A7 n7 c7 B7 m7 k7 [x] V7 C7 from ⟨HE.out, HI.out, HDC.out⟩) hres (Nat.le_add_right _ 1) (HK.out.trans HV.out) ⟨rfl, ⟨HS7.out.right, fun e => (HS7.out.has e).trans (ev_aft e)⟩, by have h1 := HDC.out.1; have h2 := HGL.out; have h3 := HM7.out; simp only [List.nil_append, List.length_append, List.length_cons, List.length_nil] at h3; show C7.length ≤ G.length + 1; omega⟩)
            clear hres
            go_wp2_with fail
            refine soloE ((((KeptE.of (G := w.heap.size + 1) HV.out).set (.inl rfl) _).set (.inl rfl) _).set (.inl rfl) _) ?_
            refine wpPlan_stop ?_
            go_wp2_with fail
            exact bodyPost_ret (by simp [results, Tryz.results11, go_sem, *]) rfl HF.out
set_option maxRecDepth 100000 in
set_option maxHeartbeats 8000000 in
theorem rtake_any (d : Int × Int) (B : Option Addr) (m k : Nat) (G : List (Int × Int)) (w : World) (hd : Dl w B m k G) (hm : m ≤ 900000) :
    Calls Tryz.prog 13 #[.agg #[.int .i64 d.1, .int .i64 d.2], .slice B m k] w (StJ (TakeS d G) w) := by
  have hk := ((Kept.refl w).alloc #[.int .i64 d.1, .int .i64 d.2] 30).alloc #[.slice none 0 0, .slice none 0 0, .slice none 0 0] 28
  have hb := (Box2.new w (.int .i64 d.1) (.int .i64 d.2) 30).kept ((Kept.refl _).alloc #[.slice none 0 0, .slice none 0 0, .slice none 0 0] 28)
  have hr := Box3.new (w.alloc (.cells #[.int .i64 d.1, .int .i64 d.2] 30)) (.slice none 0 0) (.slice none 0 0) (.slice none 0 0) 28
  rw [show (w.alloc (.cells #[.int .i64 d.1, .int .i64 d.2] 30)).heap.size = w.heap.size + 1 by simp] at hr
  obtain ⟨W0, hW0⟩ : ∃ U, (w.alloc (.cells #[.int .i64 d.1, .int .i64 d.2] 30)).alloc (.cells #[.slice none 0 0, .slice none 0 0, .slice none 0 0] 28) = U := ⟨_, rfl⟩
  rw [hW0] at hk hb hr
  have HG := Lib.hid (hd.kept hk); have HGL := Lib.hid hd.1; have HRES := Lib.hid hr; have HK := Lib.hid hk; have HWW := Lib.hid hW0
  have hcap := hd.cap.1; have hcap2 := hd.cap.2
  have x0 := KExtE.cell (b := w.heap.size + 1) (by omega) hb.c0; have x1 := KExtE.cell (b := w.heap.size + 1) (by omega) hb.c1
  clear hd hk hb hr hW0
  go_enter Tryz.func13, Tryz.ntmps13
  go_wp2_with fail
  rw [HWW.out]
  refine region_planE (w.heap.size + 1) W0 9 (.read [1, 3] (.two 0 (.two 2 (.one 4 (.one 5 (.one 6 (.read [7] (.one 8 .stop))))) 4 (.one 2 (.one 5 (.one 6 (.read [7] (.one 8 .stop)))))) 4 (.one 0 (.one 2 (.one 5 (.one 6 (.read [7] (.one 8 .stop)))))))) (by kernel_rfl) (by kernel_rfl) (by kernel_rfl) (by kernel_rfl) (by kernel_rfl) (fun _ d _ _ _ h => by cases d <;> exact h) (Kept.refl _) ?_
  intro wd hwd
  have HV := Lib.hid hwd
  clear hwd
  rw [wpPlan_read]
  simp only [pickOps_cons, pickOps_nil, consO_some, List.getElem?_cons_zero, List.getElem?_cons_succ]
  repeat (go_big_quiet_step (fail))
  refine wpQuiet_nil ?_
  clear x0 x1
  rw [wpPlan_two]
  simp only [pickOps_cons, pickOps_nil, consO_some, List.getElem?_cons_zero, List.getElem?_cons_succ]
  constructor
  · go_wp2_with fail
    have hkz := (Kept.refl wd).alloc #[] 30
    have HR := Lib.hid (OutG.made HV.out)
    replace HV := Lib.hid (HV.out.trans hkz)
    obtain ⟨bR, hbz⟩ : ∃ b, (World.heap wd).size = b := ⟨_, rfl⟩
    obtain ⟨u1, hwz⟩ : ∃ u, World.alloc wd (.cells #[] 30) = u := ⟨_, rfl⟩
    rw [hwz] at HR HV ⊢
    rw [hbz] at HR
    try rw [hbz]
    clear hkz hbz hwz
    refine soloE (.of HV.out) ?_
    rw [wpPlan_two]
    simp only [pickOps_cons, pickOps_nil, consO_some, List.getElem?_cons_zero, List.getElem?_cons_succ]
    constructor
    · obtain ⟨vG, u2, hrz, hoz, hfz⟩ := HR.out.app B m k G (HG.out.kept HV.out) (by simp; omega)
      have HRUN := Lib.hid hrz
      replace HR := Lib.hid hoz
      replace HV := Lib.hid hoz.ke
      clear hrz hoz hfz
      go_wp2_with (at_builtin; refine Lib.wpList_append_run _ rfl (.tmp 5) (.tmp 6) _ _ rfl _ _ rfl rfl _ _ HRUN.out ?_)
      clear HRUN
      refine soloE (.of HV.out) ?_
      rw [wpPlan_one]
      simp only [pickOps_cons, pickOps_nil, consO_some, List.getElem?_cons_zero, List.getElem?_cons_succ]
      go_wp2_with fail
      have hkz := (Kept.refl u2).alloc #[.int .i64 d.1, .int .i64 d.2] 30
      have HO1 := Lib.hid (dl_one u2 d.1 d.2 30)
      have HLO := Lib.hid (show u2.heap.size < (u2.alloc (.cells #[.int .i64 d.1, .int .i64 d.2] 30)).heap.size by simp)
      have HNO := Lib.hid HR.out.lt
      replace HR := Lib.hid (HR.out.kept hkz)
      replace HV := Lib.hid (HV.out.trans hkz)
      obtain ⟨bO, hbz⟩ : ∃ b, (World.heap u2).size = b := ⟨_, rfl⟩
      obtain ⟨u3, hwz⟩ : ∃ u, World.alloc u2 (.cells #[.int .i64 d.1, .int .i64 d.2] 30) = u := ⟨_, rfl⟩
      rw [hwz] at HO1 HLO HR HV ⊢
      rw [hbz] at HO1 HLO HNO
      try rw [hbz]
      clear hkz hbz hwz
      refine soloE (.of HV.out) ?_
      rw [wpPlan_one]
      simp only [pickOps_cons, pickOps_nil, consO_some, List.getElem?_cons_zero, List.getElem?_cons_succ]
      obtain ⟨vD, u4, hrz, hoz, hfz⟩ := HR.out.app (some ⟨bO, 0, none⟩) 1 1 _ HO1.out (by have := HGL.out; simp; omega)
      have HRUN := Lib.hid hrz
      replace HR := Lib.hid hoz
      replace HV := Lib.hid hoz.ke
      clear hrz hoz hfz
      go_wp2_with (at_builtin; refine Lib.wpList_append_run _ rfl (.tmp 7) (.tmp 9) _ _ rfl _ _ rfl rfl _ _ HRUN.out ?_)
      clear HRUN
      obtain ⟨AD, cD, rfl, hdz⟩ := HR.out.form
      have hlz : ([] ++ G ++ [(d.1, d.2)]).length = m + 1 := by have := HGL.out; simp; omega
      rw [hlz] at hdz ⊢
      have HDD := Lib.hid hdz
      clear hdz hlz HR HO1 HLO HNO
      refine soloE (.of HV.out) ?_
      rw [wpPlan_one]
      simp only [pickOps_cons, pickOps_nil, consO_some, List.getElem?_cons_zero, List.getElem?_cons_succ]
      go_wp2_with (go_at_call 32; refine (rof_any AD (m + 1) cD _ _ HDD.out (by omega)).mono ?_; rintro e u5 ⟨A7, n7, c7, B7, m7, k7, V7, C7, rfl, hi7, hd7, hs7, hm7, hkz, _, _⟩)
      have HI := Lib.hid hi7
      have HDC := Lib.hid hd7
      have HS7 := Lib.hid hs7
      have HM7 := Lib.hid hm7
      replace HV := Lib.hid (HV.out.trans hkz)
      clear hi7 hd7 hs7 hm7 hkz HDD
      refine soloE (.of HV.out) ?_
      rw [wpPlan_read]
      simp only [pickOps_cons, pickOps_nil, consO_some, List.getElem?_cons_zero, List.getElem?_cons_succ]
      repeat (go_big_quiet_step (fail))
      refine wpQuiet_nil ?_
      rw [wpPlan_one]
      simp only [pickOps_cons, pickOps_nil, consO_some, List.getElem?_cons_zero, List.getElem?_cons_succ]
      have hres := HRES.out.kept HV.out
      have e0 := hres.c0; have e1 := hres.c1; have e2 := hres.c2; have ef := hres.f
      have HF := Lib.hid (stj_put (S := TakeS d G) (W := w) (s := ⟨[], V7, C7⟩) (show Stt u5 none 0 0 A7 n7 c7 B7 m7 k7 [] V7 C7 from ⟨El.nil _, HI.out, HDC.out⟩) hres (Nat.le_add_right _ 1) (HK.out.trans HV.out) ⟨rfl, ⟨HS7.out.right, fun e => (HS7.out.has e).trans (ev_aft e)⟩, by have h1 := HDC.out.1; have h2 := HGL.out; have h3 := HM7.out; simp only [List.nil_append, List.length_append, List.length_cons, List.length_nil] at h3; show C7.length ≤ G.length + 1; omega⟩)
      clear hres
      go_wp2_with fail
      refine soloE ((((KeptE.of (G := w.heap.size + 1) HV.out).set (.inl rfl) _).set (.inl rfl) _).set (.inl rfl) _) ?_
      refine wpPlan_stop ?_
      go_wp2_with fail
      exact bodyPost_ret (by simp [results, Tryz.results13, go_sem, *]) rfl HF.out
    · go_wp2_with fail
      have hkz := (Kept.refl u1).alloc #[.int .i64 d.1, .int .i64 d.2] 30
      have HO1 := Lib.hid (dl_one u1 d.1 d.2 30)
      have HLO := Lib.hid (show u1.heap.size < (u1.alloc (.cells #[.int .i64 d.1, .int .i64 d.2] 30)).heap.size by simp)
      have HNO := Lib.hid HR.out.lt
      replace HR := Lib.hid (HR.out.kept hkz)
      replace HV := Lib.hid (HV.out.trans hkz)
      obtain ⟨bO, hbz⟩ : ∃ b, (World.heap u1).size = b := ⟨_, rfl⟩
      obtain ⟨u2, hwz⟩ : ∃ u, World.alloc u1 (.cells #[.int .i64 d.1, .int .i64 d.2] 30) = u := ⟨_, rfl⟩
      rw [hwz] at HO1 HLO HR HV ⊢
      rw [hbz] at HO1 HLO HNO
      try rw [hbz]
      clear hkz hbz hwz
      refine soloE (.of HV.out) ?_
      rw [wpPlan_one]
      simp only [pickOps_cons, pickOps_nil, consO_some, List.getElem?_cons_zero, List.getElem?_cons_succ]
      obtain ⟨vG, u3, hrz, hoz, hfz⟩ := HR.out.app B m k G (HG.out.kept HV.out) (by simp; omega)
      have HRUN := Lib.hid hrz
      obtain ⟨hne, hle, _, hel⟩ := hfz bO HLO.out HNO.out
      replace HNO := Lib.hid hne
      replace HLO := Lib.hid hle
      replace HO1 := Lib.hid (hel _ _ _ HO1.out)
      clear hne hle hel
      replace HR := Lib.hid hoz
      replace HV := Lib.hid hoz.ke
      clear hrz hoz hfz
      go_wp2_with (at_builtin; refine Lib.wpList_append_run _ rfl (.tmp 5) (.tmp 6) _ _ rfl _ _ rfl rfl _ _ HRUN.out ?_)
      clear HRUN
      refine soloE (.of HV.out) ?_
      rw [wpPlan_one]
      simp only [pickOps_cons, pickOps_nil, consO_some, List.getElem?_cons_zero, List.getElem?_cons_succ]
      obtain ⟨vD, u4, hrz, hoz, hfz⟩ := HR.out.app (some ⟨bO, 0, none⟩) 1 1 _ HO1.out (by have := HGL.out; simp; omega)
      have HRUN := Lib.hid hrz
      replace HR := Lib.hid hoz
      replace HV := Lib.hid hoz.ke
      clear hrz hoz hfz
      go_wp2_with (at_builtin; refine Lib.wpList_append_run _ rfl (.tmp 7) (.tmp 9) _ _ rfl _ _ rfl rfl _ _ HRUN.out ?_)
      clear HRUN
      obtain ⟨AD, cD, rfl, hdz⟩ := HR.out.form
      have hlz : ([] ++ G ++ [(d.1, d.2)]).length = m + 1 := by have := HGL.out; simp; omega
      rw [hlz] at hdz ⊢
      have HDD := Lib.hid hdz
      clear hdz hlz HR HO1 HLO HNO
      refine soloE (.of HV.out) ?_
      rw [wpPlan_one]
      simp only [pickOps_cons, pickOps_nil, consO_some, List.getElem?_cons_zero, List.getElem?_cons_succ]
      go_wp2_with (go_at_call 32; refine (rof_any AD (m + 1) cD _ _ HDD.out (by omega)).mono ?_; rintro e u5 ⟨A7, n7, c7, B7, m7, k7, V7, C7, rfl, hi7, hd7, hs7, hm7, hkz, _, _⟩)
      have HI := Lib.hid hi7
      have HDC := Lib.hid hd7
      have HS7 := Lib.hid hs7
      have HM7 := Lib.hid hm7
      replace HV := Lib.hid (HV.out.trans hkz)
      clear hi7 hd7 hs7 hm7 hkz HDD
      refine soloE (.of HV.out) ?_
      rw [wpPlan_read]
      simp only [pickOps_cons, pickOps_nil, consO_some, List.getElem?_cons_zero, List.getElem?_cons_succ]
      repeat (go_big_quiet_step (fail))
      refine wpQuiet_nil ?_
      rw [wpPlan_one]
      simp only [pickOps_cons, pickOps_nil, consO_some, List.getElem?_cons_zero, List.getElem?_cons_succ]
      have hres := HRES.out.kept HV.out
      have e0 := hres.c0; have e1 := hres.c1; have e2 := hres.c2; have ef := hres.f
      have HF := Lib.hid (stj_put (S := TakeS d G) (W := w) (s := ⟨[], V7, C7⟩) (show Stt u5 none 0 0 A7 n7 c7 B7 m7 k7 [] V7 C7 from ⟨El.nil _, HI.out, HDC.out⟩) hres (Nat.le_add_right _ 1) (HK.out.trans HV.out) ⟨rfl, ⟨HS7.out.right, fun e => (HS7.out.has e).trans (ev_aft e)⟩, by have h1 := HDC.out.1; have h2 := HGL.out; have h3 := HM7.out; simp only [List.nil_append, List.length_append, List.length_cons, List.length_nil] at h3; show C7.length ≤ G.length + 1; omega⟩)
      clear hres
      go_wp2_with fail
      refine soloE ((((KeptE.of (G := w.heap.size + 1) HV.out).set (.inl rfl) _).set (.inl rfl) _).set (.inl rfl) _) ?_
      refine wpPlan_stop ?_
      go_wp2_with fail
      exact bodyPost_ret (by simp [results, Tryz.results13, go_sem, *]) rfl HF.out
  · go_wp2_with fail
    have hkz := (Kept.refl wd).alloc #[.int .i64 d.1, .int .i64 d.2] 30
    have HO1 := Lib.hid (dl_one wd d.1 d.2 30)
    have HLO := Lib.hid (show wd.heap.size < (wd.alloc (.cells #[.int .i64 d.1, .int .i64 d.2] 30)).heap.size by simp)
    replace HV := Lib.hid (HV.out.trans hkz)
    obtain ⟨bO, hbz⟩ : ∃ b, (World.heap wd).size = b := ⟨_, rfl⟩
    obtain ⟨u1, hwz⟩ : ∃ u, World.alloc wd (.cells #[.int .i64 d.1, .int .i64 d.2] 30) = u := ⟨_, rfl⟩
    rw [hwz] at HO1 HLO HV ⊢
    rw [hbz] at HO1 HLO
    try rw [hbz]
    clear hkz hbz hwz
    refine soloE (.of HV.out) ?_
    rw [wpPlan_one]
    simp only [pickOps_cons, pickOps_nil, consO_some, List.getElem?_cons_zero]
    go_wp2_with fail
    have HLO0 := HLO
    have hkz := (Kept.refl u1).alloc #[] 30
    replace HO1 := Lib.hid (HO1.out.kept hkz)
    replace HLO := Lib.hid (Nat.lt_of_lt_of_le HLO.out hkz.2.2)
    have HR := Lib.hid (OutG.made HV.out)
    have HNO := Lib.hid (show (Value.slice (some ⟨u1.heap.size, 0, none⟩) 0 0).ownBlock ≠ some bO from fun e => by have h1 := HLO0.out; have h2 : u1.heap.size = bO := Option.some.inj e; omega)
    replace HV := Lib.hid (HV.out.trans hkz)
    obtain ⟨bR, hbz⟩ : ∃ b, (World.heap u1).size = b := ⟨_, rfl⟩
    obtain ⟨u2, hwz⟩ : ∃ u, World.alloc u1 (.cells #[] 30) = u := ⟨_, rfl⟩
    rw [hwz] at HO1 HLO HR HV ⊢
    rw [hbz] at HR HNO
    try rw [hbz]
    clear hkz hbz hwz
    clear HLO0
    refine soloE (.of HV.out) ?_
    rw [wpPlan_one]
    simp only [pickOps_cons, pickOps_nil, consO_some, List.getElem?_cons_zero, List.getElem?_cons_succ]
    obtain ⟨vG, u3, hrz, hoz, hfz⟩ := HR.out.app B m k G (HG.out.kept HV.out) (by simp; omega)
    have HRUN := Lib.hid hrz
    obtain ⟨hne, hle, _, hel⟩ := hfz bO HLO.out HNO.out
    replace HNO := Lib.hid hne
    replace HLO := Lib.hid hle
    replace HO1 := Lib.hid (hel _ _ _ HO1.out)
    clear hne hle hel
    replace HR := Lib.hid hoz
    replace HV := Lib.hid hoz.ke
    clear hrz hoz hfz
    go_wp2_with (at_builtin; refine Lib.wpList_append_run _ rfl (.tmp 5) (.tmp 6) _ _ rfl _ _ rfl rfl _ _ HRUN.out ?_)
    clear HRUN
    refine soloE (.of HV.out) ?_
    rw [wpPlan_one]
    simp only [pickOps_cons, pickOps_nil, consO_some, List.getElem?_cons_zero, List.getElem?_cons_succ]
    obtain ⟨vD, u4, hrz, hoz, hfz⟩ := HR.out.app (some ⟨bO, 0, none⟩) 1 1 _ HO1.out (by have := HGL.out; simp; omega)
    have HRUN := Lib.hid hrz
    replace HR := Lib.hid hoz
    replace HV := Lib.hid hoz.ke
    clear hrz hoz hfz
    go_wp2_with (at_builtin; refine Lib.wpList_append_run _ rfl (.tmp 7) (.tmp 9) _ _ rfl _ _ rfl rfl _ _ HRUN.out ?_)
    clear HRUN
    obtain ⟨AD, cD, rfl, hdz⟩ := HR.out.form
    have hlz : ([] ++ G ++ [(d.1, d.2)]).length = m + 1 := by have := HGL.out; simp; omega
    rw [hlz] at hdz ⊢
    have HDD := Lib.hid hdz
    clear hdz hlz HR HO1 HLO HNO
    refine soloE (.of HV.out) ?_
    rw [wpPlan_one]
    simp only [pickOps_cons, pickOps_nil, consO_some, List.getElem?_cons_zero, List.getElem?_cons_succ]
    go_wp2_with (go_at_call 32; refine (rof_any AD (m + 1) cD _ _ HDD.out (by omega)).mono ?_; rintro e u5 ⟨A7, n7, c7, B7, m7, k7, V7, C7, rfl, hi7, hd7, hs7, hm7, hkz, _, _⟩)
    have HI := Lib.hid hi7
    have HDC := Lib.hid hd7
    have HS7 := Lib.hid hs7
    have HM7 := Lib.hid hm7
    replace HV := Lib.hid (HV.out.trans hkz)
    clear hi7 hd7 hs7 hm7 hkz HDD
    refine soloE (.of HV.out) ?_
    rw [wpPlan_read]
    simp only [pickOps_cons, pickOps_nil, consO_some, List.getElem?_cons_zero, List.getElem?_cons_succ]
    repeat (go_big_quiet_step (fail))
    refine wpQuiet_nil ?_
    rw [wpPlan_one]
    simp only [pickOps_cons, pickOps_nil, consO_some, List.getElem?_cons_zero, List.getElem?_cons_succ]
    have hres := HRES.out.kept HV.out
    have e0 := hres.c0; have e1 := hres.c1; have e2 := hres.c2; have ef := hres.f
    have HF := Lib.hid (stj_put (S := TakeS d G) (W := w) (s := ⟨[], V7, C7⟩) (show Stt u5 none 0 0 A7 n7 c7 B7 m7 k7 [] V7 C7 from ⟨El.nil _, HI.out, HDC.out⟩) hres (Nat.le_add_right _ 1) (HK.out.trans HV.out) ⟨rfl, ⟨HS7.out.right, fun e => (HS7.out.has e).trans (ev_aft e)⟩, by have h1 := HDC.out.1; have h2 := HGL.out; have h3 := HM7.out; simp only [List.nil_append, List.length_append, List.length_cons, List.length_nil] at h3; show C7.length ≤ G.length + 1; omega⟩)
    clear hres
    go_wp2_with fail
    refine soloE ((((KeptE.of (G := w.heap.size + 1) HV.out).set (.inl rfl) _).set (.inl rfl) _).set (.inl rfl) _) ?_
    refine wpPlan_stop ?_
    go_wp2_with fail
    exact bodyPost_ret (by simp [results, Tryz.results13, go_sem, *]) rfl HF.out
end Go.Proofs.YtkooihljddibfaaGreat
