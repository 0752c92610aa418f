/-
  What is proved: TypedWrites of layer 12's laws, called with any schema and entry of bounded texts, returns true; the world has new blocks at most.
-/
import Derived.Test.YtapcaflmfkcfkaaYAwake
import Derived.Test.YtapcaflmfkcfkaaM14
import Derived.Test.YtapcaflmfkcfkaaM3
import Derived.Test.YtapcaflmfkcfkaaPlan
namespace Go.Proofs.Ytapcaflmfkcfkaa
open Go.RowKit
set_option linter.unusedVariables false

/-- An entry in a block of its own, which can be written. -/
structure EnB (w : World) (b : Nat) (x : En) : Prop where
  ent : Ent w b x
  f : ∀ j, w.frozen? ⟨b, j, none⟩ = false
theorem EnB.kept {w w' : World} {b : Nat} {x : En} (h : EnB w b x) (hk : Kept w w') : EnB w' b x :=
  ⟨h.ent.kept hk, fun j => (hk.2.1 ⟨b, j, none⟩ (show b < w.heap.size from World.block_lt_of_cell? w _ h.ent.c0)).trans (h.f j)⟩
theorem EnB.new (w : World) (x : En) (t : TypeId) : EnB (w.alloc (.cells #[.int .i64 x.d.1, .int .i64 x.d.2, .string x.p, .int .i64 x.k, .int .i64 x.vk, .int .i64 x.vn, .string x.vt, .int .i64 x.e.1, .int .i64 x.e.2] t)) w.heap.size x :=
  ⟨Ent.new w x t, fun j => by rw [frozen?_alloc_cells]; simp [World.frozen?]⟩
theorem EnB.setK {w : World} {b : Nat} {x : En} (h : EnB w b x) (k : Int) : EnB (w.setCell ⟨b, 3, none⟩ (.int .i64 k)) b ⟨x.d, x.p, k, x.vk, x.vn, x.vt, x.e⟩ := by
  refine ⟨⟨?_, ?_, ?_, ?_, ?_, ?_, ?_, ?_, ?_⟩, fun j => by rw [World.frozen?_setCell]; exact h.f j⟩
  · rw [World.cell?_setCell_other _ _ _ _ (by simp)]; exact h.ent.c0
  · rw [World.cell?_setCell_other _ _ _ _ (by simp)]; exact h.ent.c1
  · rw [World.cell?_setCell_other _ _ _ _ (by simp)]; exact h.ent.c2
  · exact World.cell?_setCell_same _ _ _ h.ent.c3
  · rw [World.cell?_setCell_other _ _ _ _ (by simp)]; exact h.ent.c4
  · rw [World.cell?_setCell_other _ _ _ _ (by simp)]; exact h.ent.c5
  · rw [World.cell?_setCell_other _ _ _ _ (by simp)]; exact h.ent.c6
  · rw [World.cell?_setCell_other _ _ _ _ (by simp)]; exact h.ent.c7
  · rw [World.cell?_setCell_other _ _ _ _ (by simp)]; exact h.ent.c8
theorem EnB.setV {w : World} {b : Nat} {x : En} (h : EnB w b x) (k n : Int) (s : ByteArray) : EnB (((w.setCell ⟨b, 4, none⟩ (.int .i64 k)).setCell ⟨b, 5, none⟩ (.int .i64 n)).setCell ⟨b, 6, none⟩ (.string s)) b ⟨x.d, x.p, x.k, k, n, s, x.e⟩ := by
  refine ⟨⟨?_, ?_, ?_, ?_, ?_, ?_, ?_, ?_, ?_⟩, fun j => by rw [World.frozen?_setCell, World.frozen?_setCell, World.frozen?_setCell]; exact h.f j⟩
  · rw [World.cell?_setCell_other _ _ _ _ (by simp), World.cell?_setCell_other _ _ _ _ (by simp), World.cell?_setCell_other _ _ _ _ (by simp)]; exact h.ent.c0
  · rw [World.cell?_setCell_other _ _ _ _ (by simp), World.cell?_setCell_other _ _ _ _ (by simp), World.cell?_setCell_other _ _ _ _ (by simp)]; exact h.ent.c1
  · rw [World.cell?_setCell_other _ _ _ _ (by simp), World.cell?_setCell_other _ _ _ _ (by simp), World.cell?_setCell_other _ _ _ _ (by simp)]; exact h.ent.c2
  · rw [World.cell?_setCell_other _ _ _ _ (by simp), World.cell?_setCell_other _ _ _ _ (by simp), World.cell?_setCell_other _ _ _ _ (by simp)]; exact h.ent.c3
  · rw [World.cell?_setCell_other _ _ _ _ (by simp), World.cell?_setCell_other _ _ _ _ (by simp)]
    exact World.cell?_setCell_same _ _ _ h.ent.c4
  · rw [World.cell?_setCell_other _ _ _ _ (by simp)]
    refine World.cell?_setCell_same _ _ _ (u := .int .i64 x.vn) ?_
    rw [World.cell?_setCell_other _ _ _ _ (by simp)]; exact h.ent.c5
  · refine World.cell?_setCell_same _ _ _ (u := .string x.vt) ?_
    rw [World.cell?_setCell_other _ _ _ _ (by simp), World.cell?_setCell_other _ _ _ _ (by simp)]; exact h.ent.c6
  · rw [World.cell?_setCell_other _ _ _ _ (by simp), World.cell?_setCell_other _ _ _ _ (by simp), World.cell?_setCell_other _ _ _ _ (by simp)]; exact h.ent.c7
  · rw [World.cell?_setCell_other _ _ _ _ (by simp), World.cell?_setCell_other _ _ _ _ (by simp), World.cell?_setCell_other _ _ _ _ (by simp)]; exact h.ent.c8
theorem findR_mem {L : List Fd} {p : ByteArray} {y : Fd} (h : findR L p = (y, true)) : y ∈ L := by
  unfold findR at h
  split at h
  · rename_i e
    obtain rfl := (Prod.mk.inj h).1
    exact List.mem_of_find?_eq_some e
  · cases h
/-- P12.5. -/
theorem writes_y {L : List Fd} {x : En} {y : Fd} (hS : ScOk L) (hx : rightE x = true) (hf : findR L x.p = (y, true)) : fitsE L ⟨x.d, x.p, y.k, zeroK y.t, 0, ⟨#[]⟩, x.e⟩ = true := by
  have hr := hS.ent y (findR_mem hf)
  obtain ⟨k1, k2, t1, t2⟩ := rightF_kind hr
  have hz : zeroK y.t = y.t := by unfold zeroK; simp; omega
  obtain ⟨a1, a2, a3, a4, a5⟩ := rightE_of.1 hx
  have hk : kindE y.k y.t = true := by
    unfold kindE
    rw [decide_eq_true_iff]
    rcases (rightF_of.1 hr).2 with ⟨h1, _⟩ | ⟨⟨h1, _⟩ | ⟨h1, h2⟩, _⟩
    · exact .inl h1
    · exact .inr (.inl h1)
    · exact .inr (.inr ⟨h1, h2⟩)
  have hb : rightB y.t 0 ⟨#[]⟩ = true := by
    rcases (show y.t = 1 ∨ y.t = 2 ∨ y.t = 3 by omega) with e | e | e <;> rw [e] <;> decide
  rw [fitsE_at (x := ⟨x.d, x.p, y.k, zeroK y.t, 0, ⟨#[]⟩, x.e⟩) hf (r := true) (rightE_of.2 ⟨a1, a2, by rw [hz]; exact hk, by rw [hz]; exact hb, a5⟩)]
  simp [hz]
set_option maxRecDepth 100000 in
set_option maxHeartbeats 32000000 in
theorem twrites_any (A : Option Addr) (n c : Nat) (L : List Fd) (x : En) (w : World) (h : Fl w A n c L) (hw : ∀ x ∈ L, x.p.size ≤ 9223372036854775807 ∧ x.vt.size ≤ 9223372036854775807) (sp : x.p.size ≤ 1099511627776) (st : x.vt.size ≤ 1099511627776) :
    Calls Try.prog 4 #[.agg #[.slice A n c], .agg #[.int .i64 x.d.1, .int .i64 x.d.2, .string x.p, .int .i64 x.k, .int .i64 x.vk, .int .i64 x.vn, .string x.vt, .int .i64 x.e.1, .int .i64 x.e.2]] w fun e w' => e = .returned (.bool true) ∧ Kept w w' := by
  have hk := ((Kept.refl w).alloc #[.slice A n c] 24).alloc #[.int .i64 x.d.1, .int .i64 x.d.2, .string x.p, .int .i64 x.k, .int .i64 x.vk, .int .i64 x.vn, .string x.vt, .int .i64 x.e.1, .int .i64 x.e.2] 33
  have hB := (Box1.new w (.slice A n c) 24).kept ((Kept.refl _).alloc #[.int .i64 x.d.1, .int .i64 x.d.2, .string x.p, .int .i64 x.k, .int .i64 x.vk, .int .i64 x.vn, .string x.vt, .int .i64 x.e.1, .int .i64 x.e.2] 33)
  have he := Ent.new (w.alloc (.cells #[.slice A n c] 24)) x 33
  rw [show (w.alloc (.cells #[.slice A n c] 24)).heap.size = w.heap.size + 1 by simp] at he
  have hh := h.kept hk
  have HSZ := Lib.hid hw; have SP := Lib.hid sp; have ST := Lib.hid st
  obtain ⟨U, hU⟩ : ∃ U, (w.alloc (.cells #[.slice A n c] 24)).alloc (.cells #[.int .i64 x.d.1, .int .i64 x.d.2, .string x.p, .int .i64 x.k, .int .i64 x.vk, .int .i64 x.vn, .string x.vt, .int .i64 x.e.1, .int .i64 x.e.2] 33) = U := ⟨_, rfl⟩
  rw [hU] at hk hB hh he
  have HQ := Lib.hid hk; have HUU := Lib.hid hU; have HE := Lib.hid he; have HB := Lib.hid hB; have HH := Lib.hid hh
  have d0 := HB.out.c0
  clear h hw hk hU he hB hh sp st
  go_enter Try.func4, Try.ntmps4
  go_wp2_with fail
  rw [HUU.out]
  go_wp2_with fail
  by_cases hS : ShortF L n
  · have AL := Lib.hid (fun w h => flong_any A n c L w h HSZ.out false ⟨(fun h => by cases h), fun h => absurd hS h⟩)
    have hsw : ∀ y ∈ L, y.p.size ≤ 1099511627776 ∧ y.vt.size ≤ 1099511627776 := fun y hy => ⟨Nat.le_trans (hS.1 y hy).1 (by decide), Nat.le_trans (hS.1 y hy).2 (by decide)⟩
    have HS := Lib.hid (fun y hy => (hsw y hy).1)
    obtain ⟨rb, hrb⟩ : ∃ rb : Bool, rb = true ↔ ScOk L := ⟨open Classical in decide (ScOk L), by simp⟩
    obtain ⟨r, hr⟩ : ∃ r, rightE x = r := ⟨_, rfl⟩
    have AS := Lib.hid (fun w h => rsc_any A n c L w h hsw rb hrb)
    have AE := Lib.hid (fun w => eright_c x r hr w SP.out ST.out)
    have HRB := Lib.hid hrb; have HR := Lib.hid hr
    clear hS hsw hrb hr
    go_at_call 5
    refine (AL.out _ HH.out).mono ?_
    rintro e w1 ⟨rfl, hk⟩
    replace HQ := Lib.hid (HQ.out.trans (hk)); replace HB := Lib.hid (HB.out.kept (hk)); replace HH := Lib.hid (HH.out.kept (hk)); replace HE := Lib.hid (HE.out.kept (hk))
    clear hk d0
    have d0 := HB.out.c0
    go_wp2_with fail
    go_at_call 15
    refine (AS.out _ HH.out).mono ?_
    rintro e w2 ⟨rfl, hk⟩
    replace HQ := Lib.hid (HQ.out.trans (hk)); replace HB := Lib.hid (HB.out.kept (hk)); replace HH := Lib.hid (HH.out.kept (hk)); replace HE := Lib.hid (HE.out.kept (hk))
    clear hk d0
    cases rb with
    | false =>
      go_wp2_with fail
      go_at_call 6
      refine (tawake_any _).mono ?_
      rintro e w9 ⟨rfl, hk⟩
      replace HQ := Lib.hid (HQ.out.trans (hk)); replace HB := Lib.hid (HB.out.kept (hk)); replace HH := Lib.hid (HH.out.kept (hk)); replace HE := Lib.hid (HE.out.kept (hk))
      clear hk
      go_wp2_with fail
      go_ret
      exact ⟨rfl, HQ.out⟩
    | true =>
      have e0 := HE.out.c0; have e1 := HE.out.c1; have e2 := HE.out.c2; have e3 := HE.out.c3; have e4 := HE.out.c4; have e5 := HE.out.c5; have e6 := HE.out.c6; have e7 := HE.out.c7; have e8 := HE.out.c8
      go_wp2_with fail
      go_at_call 16
      refine (AE.out _).mono ?_
      rintro e w3 ⟨rfl, hk⟩
      replace HQ := Lib.hid (HQ.out.trans (hk)); replace HB := Lib.hid (HB.out.kept (hk)); replace HH := Lib.hid (HH.out.kept (hk)); replace HE := Lib.hid (HE.out.kept (hk))
      clear hk e0 e1 e2 e3 e4 e5 e6 e7 e8
      cases r with
      | false =>
        go_wp2_with fail
        go_at_call 6
        refine (tawake_any _).mono ?_
        rintro e w9 ⟨rfl, hk⟩
        replace HQ := Lib.hid (HQ.out.trans (hk)); replace HB := Lib.hid (HB.out.kept (hk)); replace HH := Lib.hid (HH.out.kept (hk)); replace HE := Lib.hid (HE.out.kept (hk))
        clear hk
        go_wp2_with fail
        go_ret
        exact ⟨rfl, HQ.out⟩
      | true =>
        obtain ⟨y, z, hyz⟩ : ∃ y z, findR L x.p = (y, z) := ⟨_, _, rfl⟩
        obtain ⟨v, hv⟩ : ∃ v, defR L x.p = v := ⟨_, rfl⟩
        have hvz := (defR_at hyz (rightE_of.1 HR.out).2.1).symm.trans hv
        have AD := Lib.hid (fun w h => tdef_any A n c L x.p w h HS.out SP.out v hv)
        have AF := Lib.hid (fun w h => sfind_any A n c L x.p w h HS.out SP.out y z hyz)
        have HYZ := Lib.hid hyz
        have d0 := HB.out.c0; have e2 := HE.out.c2
        clear hv hyz
        cases z with
        | false =>
          rw [if_neg (by simp)] at hvz
          obtain rfl := hvz
          have HFX := Lib.hid (fitsE_at HYZ.out HR.out)
          rw [Bool.false_and] at HFX
          have ATX := Lib.hid (fun w h => tfits_any A n c L x w h HS.out SP.out ST.out false HFX.out)
          go_wp2_with fail
          go_at_call 11
          refine (AD.out _ HH.out).mono ?_
          rintro e w4 ⟨rfl, hk⟩
          have hka := (Kept.refl w4).alloc #[.int .i64 0, .int .i64 0, .string ⟨#[]⟩] 31
          replace HQ := Lib.hid (HQ.out.trans (hk.trans hka)); replace HB := Lib.hid (HB.out.kept (hk.trans hka)); replace HH := Lib.hid (HH.out.kept (hk.trans hka)); replace HE := Lib.hid (HE.out.kept (hk.trans hka))
          clear hk hka d0 e2
          have d0 := HB.out.c0; have e2 := HE.out.c2
          dsimp only [DefV]
          go_wp2_with fail
          go_at_call 17
          refine (AF.out _ HH.out).mono ?_
          rintro e w5 ⟨rfl, hk⟩
          have hka := (Kept.refl w5).alloc #[.string y.p, .int .i64 y.k, .int .i64 y.t, .int .i64 y.vk, .int .i64 y.vn, .string y.vt] 44
          replace HQ := Lib.hid (HQ.out.trans (hk.trans hka)); replace HB := Lib.hid (HB.out.kept (hk.trans hka)); replace HH := Lib.hid (HH.out.kept (hk.trans hka)); replace HE := Lib.hid (HE.out.kept (hk.trans hka))
          clear hk hka d0 e2
          have d0 := HB.out.c0
          have e0 := HE.out.c0; have e1 := HE.out.c1; have e2 := HE.out.c2; have e3 := HE.out.c3; have e4 := HE.out.c4; have e5 := HE.out.c5; have e6 := HE.out.c6; have e7 := HE.out.c7; have e8 := HE.out.c8
          go_wp2_with fail
          go_at_call 7
          refine (ATX.out _ HH.out).mono ?_
          rintro e w6 ⟨rfl, hk⟩
          replace HQ := Lib.hid (HQ.out.trans (hk)); replace HB := Lib.hid (HB.out.kept (hk)); replace HH := Lib.hid (HH.out.kept (hk)); replace HE := Lib.hid (HE.out.kept (hk))
          clear hk
          clear e0 e1 e2 e3 e4 e5 e6 e7 e8 d0
          go_wp2_with fail
          go_at_call 6
          refine (tawake_any _).mono ?_
          rintro e w7 ⟨rfl, hk⟩
          replace HQ := Lib.hid (HQ.out.trans (hk)); replace HB := Lib.hid (HB.out.kept (hk)); replace HH := Lib.hid (HH.out.kept (hk)); replace HE := Lib.hid (HE.out.kept (hk))
          clear hk
          go_wp2_with fail
          go_ret
          exact ⟨rfl, HQ.out⟩
        | true =>
          obtain ⟨⟨vk, vn, vt⟩, ve⟩ := v
          have hve : ve = 0 := by
            rw [if_pos ⟨rfl, rfl⟩] at hvz
            split at hvz
            · exact (Prod.mk.inj hvz).2.symm
            · split at hvz
              · exact (Prod.mk.inj hvz).2.symm
              · exact (Prod.mk.inj hvz).2.symm
          subst hve
          obtain ⟨fb, hfb⟩ : ∃ fb, fitsE L x = fb := ⟨_, rfl⟩
          have HFX := Lib.hid ((fitsE_at HYZ.out HR.out).symm.trans hfb)
          rw [Bool.true_and, Bool.true_and] at HFX
          have ATX := Lib.hid (fun w h => tfits_any A n c L x w h HS.out SP.out ST.out fb hfb)
          have ATY := Lib.hid (fun w h => tfits_any A n c L ⟨x.d, x.p, y.k, zeroK y.t, 0, ⟨#[]⟩, x.e⟩ w h HS.out SP.out (show (⟨#[]⟩ : ByteArray).size ≤ 1099511627776 by decide) true (writes_y (HRB.out.1 (by simp)) HR.out HYZ.out))
          clear hvz hfb
          go_wp2_with fail
          go_at_call 11
          refine (AD.out _ HH.out).mono ?_
          rintro e w4 ⟨rfl, hk⟩
          have hka := (Kept.refl w4).alloc #[.int .i64 vk, .int .i64 vn, .string vt] 31
          replace HQ := Lib.hid (HQ.out.trans (hk.trans hka)); replace HB := Lib.hid (HB.out.kept (hk.trans hka)); replace HH := Lib.hid (HH.out.kept (hk.trans hka)); replace HE := Lib.hid (HE.out.kept (hk.trans hka))
          clear hk hka d0 e2
          have d0 := HB.out.c0; have e2 := HE.out.c2
          dsimp only [DefV]
          go_wp2_with fail
          go_at_call 17
          refine (AF.out _ HH.out).mono ?_
          rintro e w5 ⟨rfl, hk⟩
          have hka := (Kept.refl w5).alloc #[.string y.p, .int .i64 y.k, .int .i64 y.t, .int .i64 y.vk, .int .i64 y.vn, .string y.vt] 44
          replace HQ := Lib.hid (HQ.out.trans (hk.trans hka)); replace HB := Lib.hid (HB.out.kept (hk.trans hka)); replace HH := Lib.hid (HH.out.kept (hk.trans hka)); replace HE := Lib.hid (HE.out.kept (hk.trans hka))
          have HF := Lib.hid (FdB.new w5 y 44)
          clear hk hka d0 e2
          have e0 := HE.out.c0; have e1 := HE.out.c1; have e2 := HE.out.c2; have e3 := HE.out.c3; have e4 := HE.out.c4; have e5 := HE.out.c5; have e6 := HE.out.c6; have e7 := HE.out.c7; have e8 := HE.out.c8
          have hy := EnB.new (w5.alloc (.cells #[.string y.p, .int .i64 y.k, .int .i64 y.t, .int .i64 y.vk, .int .i64 y.vn, .string y.vt] 44)) x 33
          have hvs : (w5.alloc (.cells #[.string y.p, .int .i64 y.k, .int .i64 y.t, .int .i64 y.vk, .int .i64 y.vn, .string y.vt] 44)).heap.size = w5.heap.size + 1 := by simp
          rw [hvs] at hy
          have HY := Lib.hid hy; have HVS := Lib.hid (Nat.le_of_eq hvs)
          clear hy hvs
          obtain ⟨V, hV⟩ : ∃ V, w5.alloc (.cells #[.string y.p, .int .i64 y.k, .int .i64 y.t, .int .i64 y.vk, .int .i64 y.vn, .string y.vt] 44) = V := ⟨_, rfl⟩
          have HVV := Lib.hid hV
          clear hV
          go_wp2_with fail
          rw [HVV.out]
          rw [HVV.out] at HQ HB HH HE HF HY HVS
          clear e0 e1 e2 e3 e4 e5 e6 e7 e8
          have HKA := Lib.hid ((Kept.refl V).alloc #[.int .i64 x.d.1, .int .i64 x.d.2, .string x.p, .int .i64 x.k, .int .i64 x.vk, .int .i64 x.vn, .string x.vt, .int .i64 x.e.1, .int .i64 x.e.2] 33)
          obtain ⟨V2, hV2⟩ : ∃ V2, V.alloc (.cells #[.int .i64 x.d.1, .int .i64 x.d.2, .string x.p, .int .i64 x.k, .int .i64 x.vk, .int .i64 x.vn, .string x.vt, .int .i64 x.e.1, .int .i64 x.e.2] 33) = V2 := ⟨_, rfl⟩
          rw [hV2] at HKA HY ⊢
          clear hV2
          have f1 := KExt.cell HF.out.c1; have f2 := KExt.cell HF.out.c2
          try dsimp only [List.append]
          refine region_plan V 9 (.read [0, 1, 2, 3, 5] (.one 4 (.one 6 (.read [7] (.one 8 .stop))))) (by kernel_rfl) (by kernel_rfl) (by kernel_rfl) (by kernel_rfl) (by kernel_rfl) (fun _ d _ _ _ h => by cases d <;> exact h) HKA.out ?_
          intro wd hwd
          have HV := Lib.hid (HKA.out.trans hwd)
          replace HY := Lib.hid (HY.out.kept hwd)
          clear hwd
          rw [wpPlan_read]
          simp only [pickOps_cons, pickOps_nil, consO_some, List.getElem?_cons_zero, List.getElem?_cons_succ]
          repeat (go_big_quiet_step (fail))
          refine wpQuiet_nil ?_
          rw [wpPlan_one]
          simp only [pickOps_cons, pickOps_nil, consO_some, List.getElem?_cons_zero, List.getElem?_cons_succ]
          go_wp2_with (go_at_call 18; refine (vzero_any y.t _).mono ?_; rintro e w6 ⟨rfl, hg⟩)
          have hk := kept_of hg
          replace HV := Lib.hid (HV.out.trans hk); replace HY := Lib.hid (HY.out.kept hk)
          clear hk hg
          refine soloP HV.out ?_
          have y3 := HY.out.ent.c3; have yf := HY.out.f
          rw [wpPlan_one]
          simp only [pickOps_cons, pickOps_nil, consO_some, List.getElem?_cons_zero, List.getElem?_cons_succ]
          go_wp2_with fail
          replace HV := Lib.hid (HV.out.setCell (a := ⟨w5.heap.size + 1, 3, none⟩) HVS.out (.int .i64 y.k)); replace HY := Lib.hid (HY.out.setK y.k)
          clear y3 yf
          refine soloP HV.out ?_
          rw [wpPlan_read]
          simp only [pickOps_cons, pickOps_nil, consO_some, List.getElem?_cons_zero, List.getElem?_cons_succ]
          repeat (go_big_quiet_step (fail))
          refine wpQuiet_nil ?_
          have y4 := HY.out.ent.c4; have y5 := HY.out.ent.c5; have y6 := HY.out.ent.c6; have yf := HY.out.f
          rw [wpPlan_one]
          simp only [pickOps_cons, pickOps_nil, consO_some, List.getElem?_cons_zero, List.getElem?_cons_succ]
          go_wp2_with fail
          replace HV := Lib.hid (((HV.out.setCell (a := ⟨w5.heap.size + 1, 4, none⟩) HVS.out (.int .i64 (zeroK y.t))).setCell (a := ⟨w5.heap.size + 1, 5, none⟩) HVS.out (.int .i64 0)).setCell (a := ⟨w5.heap.size + 1, 6, none⟩) HVS.out (.string ⟨#[]⟩)); replace HY := Lib.hid (HY.out.setV (zeroK y.t) 0 ⟨#[]⟩)
          clear y4 y5 y6 yf
          refine soloP HV.out ?_
          refine wpPlan_stop ?_
          clear f1 f2
          obtain ⟨W9, hW9⟩ : ∃ W9, (((w6.setCell ⟨w5.heap.size + 1, 3, none⟩ (.int .i64 y.k)).setCell ⟨w5.heap.size + 1, 4, none⟩ (.int .i64 (zeroK y.t))).setCell ⟨w5.heap.size + 1, 5, none⟩ (.int .i64 0)).setCell ⟨w5.heap.size + 1, 6, none⟩ (.string ⟨#[]⟩) = W9 := ⟨_, rfl⟩
          rw [hW9] at HV HY ⊢
          clear hW9
          have HKV := Lib.hid (HV.out)
          clear HKA
          replace HQ := Lib.hid (HQ.out.trans HKV.out); replace HB := Lib.hid (HB.out.kept HKV.out); replace HH := Lib.hid (HH.out.kept HKV.out); replace HE := Lib.hid (HE.out.kept HKV.out); replace HF := Lib.hid (HF.out.kept HKV.out)
          clear HKV HV
          by_cases q : x.k = y.k
          · have q1 : (x.k == y.k) = true := by rw [q]; simp
            have q2 : decide (x.k = y.k) = true := decide_eq_true q
            by_cases q3 : x.vk = y.t
            · have q4 : (x.vk == y.t) = true := by rw [q3]; simp
              have q5 : decide (x.vk = y.t) = true := decide_eq_true q3
              have hfb : true = fb := by rw [← HFX.out, q, q3]; simp
              clear q q3
              subst hfb
              have d0 := KExt.cell HB.out.c0; have f1 := KExt.cell HF.out.c1; have f2 := KExt.cell HF.out.c2
              have y0 := KExt.cell HY.out.ent.c0; have y1 := KExt.cell HY.out.ent.c1; have y2 := KExt.cell HY.out.ent.c2; have y3 := KExt.cell HY.out.ent.c3; have y4 := KExt.cell HY.out.ent.c4; have y5 := KExt.cell HY.out.ent.c5; have y6 := KExt.cell HY.out.ent.c6; have y7 := KExt.cell HY.out.ent.c7; have y8 := KExt.cell HY.out.ent.c8
              have e0 := KExt.cell HE.out.c0; have e1 := KExt.cell HE.out.c1; have e2 := KExt.cell HE.out.c2; have e3 := KExt.cell HE.out.c3; have e4 := KExt.cell HE.out.c4; have e5 := KExt.cell HE.out.c5; have e6 := KExt.cell HE.out.c6; have e7 := KExt.cell HE.out.c7; have e8 := KExt.cell HE.out.c8
              go_wp2_with fail
              try dsimp only [List.append]
              refine region_plan W9 26 (.read [0, 1] (.one 2 (.read [3, 4, 5, 7, 8, 9, 10, 11] (.one 6 (.read [12, 13, 14, 15, 16, 17, 18, 19, 20, 21, 22] (.one 23 (.read [24, 25] .stop))))))) (by kernel_rfl) (by kernel_rfl) (by kernel_rfl) (by kernel_rfl) (by kernel_rfl) (fun _ d _ _ _ h => by cases d <;> exact h) (Kept.refl _) ?_
              intro wd hwd
              have HV := Lib.hid hwd
              clear hwd
              rw [wpPlan_read]
              simp only [pickOps_cons, pickOps_nil, consO_some, List.getElem?_cons_zero, List.getElem?_cons_succ]
              repeat (go_big_quiet_step (fail))
              refine wpQuiet_nil ?_
              rw [wpPlan_one]
              simp only [pickOps_cons, pickOps_nil, consO_some, List.getElem?_cons_zero, List.getElem?_cons_succ]
              go_wp2_with (go_at_call 7; refine (ATY.out _ (HH.out.kept HV.out)).mono ?_; rintro e u1 ⟨rfl, hk⟩)
              replace HV := Lib.hid (HV.out.trans hk)
              clear hk
              refine soloP HV.out ?_
              rw [wpPlan_read]
              simp only [pickOps_cons, pickOps_nil, consO_some, List.getElem?_cons_zero, List.getElem?_cons_succ]
              repeat (go_big_quiet_step (fail))
              refine wpQuiet_nil ?_
              rw [wpPlan_one]
              simp only [pickOps_cons, pickOps_nil, consO_some, List.getElem?_cons_zero, List.getElem?_cons_succ]
              go_wp2_with (go_at_call 7; refine (ATX.out _ (HH.out.kept HV.out)).mono ?_; rintro e u2 ⟨rfl, hk⟩)
              replace HV := Lib.hid (HV.out.trans hk)
              clear hk
              refine soloP HV.out ?_
              rw [wpPlan_read]
              simp only [pickOps_cons, pickOps_nil, consO_some, List.getElem?_cons_zero, List.getElem?_cons_succ]
              repeat (go_big_quiet_step (fail))
              refine wpQuiet_nil ?_
              rw [wpPlan_one]
              simp only [pickOps_cons, pickOps_nil, consO_some, List.getElem?_cons_zero, List.getElem?_cons_succ]
              go_wp2_with (go_at_call 6; refine (tawake_any _).mono ?_; rintro e u3 ⟨rfl, hk⟩)
              replace HV := Lib.hid (HV.out.trans hk)
              clear hk
              refine soloP HV.out ?_
              rw [wpPlan_read]
              simp only [pickOps_cons, pickOps_nil, consO_some, List.getElem?_cons_zero, List.getElem?_cons_succ]
              repeat (go_big_quiet_step (fail))
              refine wpQuiet_nil ?_
              refine wpPlan_stop ?_
              clear d0 f1 f2 y0 y1 y2 y3 y4 y5 y6 y7 y8 e0 e1 e2 e3 e4 e5 e6 e7 e8
              go_wp2_with fail
              go_ret
              exact ⟨rfl, HQ.out.trans HV.out⟩
            · have q4 : (x.vk == y.t) = false := by simpa using q3
              have q5 : decide (x.vk = y.t) = false := decide_eq_false q3
              have hfb : false = fb := by rw [← HFX.out, show (y.t == x.vk) = false from by simpa using fun h : y.t = x.vk => q3 h.symm]; simp
              clear q q3
              subst hfb
              have d0 := KExt.cell HB.out.c0; have f1 := KExt.cell HF.out.c1; have f2 := KExt.cell HF.out.c2
              have y0 := KExt.cell HY.out.ent.c0; have y1 := KExt.cell HY.out.ent.c1; have y2 := KExt.cell HY.out.ent.c2; have y3 := KExt.cell HY.out.ent.c3; have y4 := KExt.cell HY.out.ent.c4; have y5 := KExt.cell HY.out.ent.c5; have y6 := KExt.cell HY.out.ent.c6; have y7 := KExt.cell HY.out.ent.c7; have y8 := KExt.cell HY.out.ent.c8
              have e0 := KExt.cell HE.out.c0; have e1 := KExt.cell HE.out.c1; have e2 := KExt.cell HE.out.c2; have e3 := KExt.cell HE.out.c3; have e4 := KExt.cell HE.out.c4; have e5 := KExt.cell HE.out.c5; have e6 := KExt.cell HE.out.c6; have e7 := KExt.cell HE.out.c7; have e8 := KExt.cell HE.out.c8
              go_wp2_with fail
              try dsimp only [List.append]
              refine region_plan W9 26 (.read [0, 1] (.one 2 (.read [3, 4, 5, 7, 8, 9, 10, 11] (.one 6 (.read [12, 13, 14, 15, 16, 17, 18, 19, 20, 21, 22] (.one 23 (.read [24, 25] .stop))))))) (by kernel_rfl) (by kernel_rfl) (by kernel_rfl) (by kernel_rfl) (by kernel_rfl) (fun _ d _ _ _ h => by cases d <;> exact h) (Kept.refl _) ?_
              intro wd hwd
              have HV := Lib.hid hwd
              clear hwd
              rw [wpPlan_read]
              simp only [pickOps_cons, pickOps_nil, consO_some, List.getElem?_cons_zero, List.getElem?_cons_succ]
              repeat (go_big_quiet_step (fail))
              refine wpQuiet_nil ?_
              rw [wpPlan_one]
              simp only [pickOps_cons, pickOps_nil, consO_some, List.getElem?_cons_zero, List.getElem?_cons_succ]
              go_wp2_with (go_at_call 7; refine (ATY.out _ (HH.out.kept HV.out)).mono ?_; rintro e u1 ⟨rfl, hk⟩)
              replace HV := Lib.hid (HV.out.trans hk)
              clear hk
              refine soloP HV.out ?_
              rw [wpPlan_read]
              simp only [pickOps_cons, pickOps_nil, consO_some, List.getElem?_cons_zero, List.getElem?_cons_succ]
              repeat (go_big_quiet_step (fail))
              refine wpQuiet_nil ?_
              rw [wpPlan_one]
              simp only [pickOps_cons, pickOps_nil, consO_some, List.getElem?_cons_zero, List.getElem?_cons_succ]
              go_wp2_with (go_at_call 7; refine (ATX.out _ (HH.out.kept HV.out)).mono ?_; rintro e u2 ⟨rfl, hk⟩)
              replace HV := Lib.hid (HV.out.trans hk)
              clear hk
              refine soloP HV.out ?_
              rw [wpPlan_read]
              simp only [pickOps_cons, pickOps_nil, consO_some, List.getElem?_cons_zero, List.getElem?_cons_succ]
              repeat (go_big_quiet_step (fail))
              refine wpQuiet_nil ?_
              rw [wpPlan_one]
              simp only [pickOps_cons, pickOps_nil, consO_some, List.getElem?_cons_zero, List.getElem?_cons_succ]
              go_wp2_with (go_at_call 6; refine (tawake_any _).mono ?_; rintro e u3 ⟨rfl, hk⟩)
              replace HV := Lib.hid (HV.out.trans hk)
              clear hk
              refine soloP HV.out ?_
              rw [wpPlan_read]
              simp only [pickOps_cons, pickOps_nil, consO_some, List.getElem?_cons_zero, List.getElem?_cons_succ]
              repeat (go_big_quiet_step (fail))
              refine wpQuiet_nil ?_
              refine wpPlan_stop ?_
              clear d0 f1 f2 y0 y1 y2 y3 y4 y5 y6 y7 y8 e0 e1 e2 e3 e4 e5 e6 e7 e8
              go_wp2_with fail
              go_ret
              exact ⟨rfl, HQ.out.trans HV.out⟩
          · have q1 : (x.k == y.k) = false := by simpa using q
            have q2 : decide (x.k = y.k) = false := decide_eq_false q
            have hfb : false = fb := by rw [← HFX.out, show (y.k == x.k) = false from by simpa using fun h : y.k = x.k => q h.symm]; simp
            clear q
            subst hfb
            have d0 := KExt.cell HB.out.c0; have f1 := KExt.cell HF.out.c1; have f2 := KExt.cell HF.out.c2
            have y0 := KExt.cell HY.out.ent.c0; have y1 := KExt.cell HY.out.ent.c1; have y2 := KExt.cell HY.out.ent.c2; have y3 := KExt.cell HY.out.ent.c3; have y4 := KExt.cell HY.out.ent.c4; have y5 := KExt.cell HY.out.ent.c5; have y6 := KExt.cell HY.out.ent.c6; have y7 := KExt.cell HY.out.ent.c7; have y8 := KExt.cell HY.out.ent.c8
            have e0 := KExt.cell HE.out.c0; have e1 := KExt.cell HE.out.c1; have e2 := KExt.cell HE.out.c2; have e3 := KExt.cell HE.out.c3; have e4 := KExt.cell HE.out.c4; have e5 := KExt.cell HE.out.c5; have e6 := KExt.cell HE.out.c6; have e7 := KExt.cell HE.out.c7; have e8 := KExt.cell HE.out.c8
            go_wp2_with fail
            try dsimp only [List.append]
            refine region_plan W9 26 (.read [0, 1] (.one 2 (.read [3, 4, 5, 7, 8, 9, 10, 11] (.one 6 (.read [12, 13, 14, 15, 16, 17, 18, 19, 20, 21, 22] (.one 23 (.read [24, 25] .stop))))))) (by kernel_rfl) (by kernel_rfl) (by kernel_rfl) (by kernel_rfl) (by kernel_rfl) (fun _ d _ _ _ h => by cases d <;> exact h) (Kept.refl _) ?_
            intro wd hwd
            have HV := Lib.hid hwd
            clear hwd
            rw [wpPlan_read]
            simp only [pickOps_cons, pickOps_nil, consO_some, List.getElem?_cons_zero, List.getElem?_cons_succ]
            repeat (go_big_quiet_step (fail))
            refine wpQuiet_nil ?_
            rw [wpPlan_one]
            simp only [pickOps_cons, pickOps_nil, consO_some, List.getElem?_cons_zero, List.getElem?_cons_succ]
            go_wp2_with (go_at_call 7; refine (ATY.out _ (HH.out.kept HV.out)).mono ?_; rintro e u1 ⟨rfl, hk⟩)
            replace HV := Lib.hid (HV.out.trans hk)
            clear hk
            refine soloP HV.out ?_
            rw [wpPlan_read]
            simp only [pickOps_cons, pickOps_nil, consO_some, List.getElem?_cons_zero, List.getElem?_cons_succ]
            repeat (go_big_quiet_step (fail))
            refine wpQuiet_nil ?_
            rw [wpPlan_one]
            simp only [pickOps_cons, pickOps_nil, consO_some, List.getElem?_cons_zero, List.getElem?_cons_succ]
            go_wp2_with (go_at_call 7; refine (ATX.out _ (HH.out.kept HV.out)).mono ?_; rintro e u2 ⟨rfl, hk⟩)
            replace HV := Lib.hid (HV.out.trans hk)
            clear hk
            refine soloP HV.out ?_
            rw [wpPlan_read]
            simp only [pickOps_cons, pickOps_nil, consO_some, List.getElem?_cons_zero, List.getElem?_cons_succ]
            repeat (go_big_quiet_step (fail))
            refine wpQuiet_nil ?_
            rw [wpPlan_one]
            simp only [pickOps_cons, pickOps_nil, consO_some, List.getElem?_cons_zero, List.getElem?_cons_succ]
            go_wp2_with (go_at_call 6; refine (tawake_any _).mono ?_; rintro e u3 ⟨rfl, hk⟩)
            replace HV := Lib.hid (HV.out.trans hk)
            clear hk
            refine soloP HV.out ?_
            rw [wpPlan_read]
            simp only [pickOps_cons, pickOps_nil, consO_some, List.getElem?_cons_zero, List.getElem?_cons_succ]
            repeat (go_big_quiet_step (fail))
            refine wpQuiet_nil ?_
            refine wpPlan_stop ?_
            clear d0 f1 f2 y0 y1 y2 y3 y4 y5 y6 y7 y8 e0 e1 e2 e3 e4 e5 e6 e7 e8
            go_wp2_with fail
            go_ret
            exact ⟨rfl, HQ.out.trans HV.out⟩
  · have AL := Lib.hid (fun w h => flong_any A n c L w h HSZ.out true ⟨fun _ => hS, fun _ => rfl⟩)
    clear hS
    go_at_call 5
    refine (AL.out _ HH.out).mono ?_
    rintro e w1 ⟨rfl, hk⟩
    replace HQ := Lib.hid (HQ.out.trans (hk)); replace HB := Lib.hid (HB.out.kept (hk)); replace HH := Lib.hid (HH.out.kept (hk)); replace HE := Lib.hid (HE.out.kept (hk))
    clear hk d0
    have d0 := HB.out.c0
    go_wp2_with fail
    go_at_call 6
    refine (tawake_any _).mono ?_
    rintro e w9 ⟨rfl, hk⟩
    replace HQ := Lib.hid (HQ.out.trans (hk)); replace HB := Lib.hid (HB.out.kept (hk)); replace HH := Lib.hid (HH.out.kept (hk)); replace HE := Lib.hid (HE.out.kept (hk))
    clear hk
    go_wp2_with fail
    go_ret
    exact ⟨rfl, HQ.out⟩
end Go.Proofs.Ytapcaflmfkcfkaa
