/-
  What is proved: package step's convert (a part of P14.3), called with any field and any step of bounded lengths, returns the field of which the values are converted, and whether they can be; the world has new blocks at most.
-/
import Derived.Test.YtofnpifooaijcaaGreatM16
import Derived.Test.YtofnpifooaijcaaGreatM13
import Derived.Test.YtofnpifooaijcaaGreatHTRight2
namespace Go.Proofs.YtofnpifooaijcaaGreat
open Go.RowKit
set_option linter.unusedVariables false
open Classical in
noncomputable def convX (x : St) (f : Fd) : Fd :=
  if f.k ≠ 3 ∧ f.t = x.a ∧ RightT x.T x.a x.b then (if f.k = 1 then f.withD f.k x.b (applyT x.T (defV f)) else f.withD f.k x.b (defV f)) else .none
def ConvP (x : St) (f : Fd) : Prop := f.k ≠ 3 ∧ f.t = x.a ∧ RightT x.T x.a x.b ∧ (f.k = 1 → wayT x.T (applyT x.T (defV f)) = defV f)
theorem conv_no {x : St} {f : Fd} (h : ¬ (f.k ≠ 3 ∧ f.t = x.a ∧ RightT x.T x.a x.b)) {g : Fd} (hg : convX x f = g) {z : Bool} (hz : z = true ↔ ConvP x f) : Fd.none = g ∧ false = z := by
  refine ⟨by rw [← hg]; unfold convX; rw [if_neg h], ?_⟩
  rw [eq_comm, ← Bool.not_eq_true, hz]
  exact fun k => h ⟨k.1, k.2.1, k.2.2.1⟩
theorem conv_two {x : St} {f : Fd} (h3 : f.k ≠ 3) (ht : f.t = x.a) (hr : RightT x.T x.a x.b) (h1 : ¬ f.k = 1) {g : Fd} (hg : convX x f = g) {z : Bool} (hz : z = true ↔ ConvP x f) : f.withD f.k x.b (defV f) = g ∧ true = z := by
  refine ⟨by rw [← hg]; unfold convX; rw [if_pos ⟨h3, ht, hr⟩, if_neg h1], ?_⟩
  rw [eq_comm, hz]
  exact ⟨h3, ht, hr, fun k => absurd k h1⟩
theorem conv_one {x : St} {f : Fd} (h3 : f.k ≠ 3) (ht : f.t = x.a) (hr : RightT x.T x.a x.b) (h1 : f.k = 1) {g : Fd} (hg : convX x f = g) {z : Bool} (hz : z = true ↔ ConvP x f) {v1 v2 : Va} (hv1 : applyT x.T (defV f) = v1) (hv2 : wayT x.T v1 = v2) : f.withD f.k x.b v1 = g ∧ (z = true ↔ v2 = defV f) := by
  refine ⟨by rw [← hg]; unfold convX; rw [if_pos ⟨h3, ht, hr⟩, if_pos h1, hv1], ?_⟩
  rw [hz]
  exact ⟨fun k => by have := k.2.2.2 h1; rwa [hv1, hv2] at this, fun k => ⟨h3, ht, hr, fun _ => by rw [hv1, hv2]; exact k⟩⟩
theorem apply_szT {T : Tb} {v : Va} (hT : SzT T) (hv : v.t.size ≤ 1099511627776) : (applyT T v).t.size ≤ 1099511627776 := by
  exact apply_sz hT.L hT.d hT.b hv
set_option maxRecDepth 100000 in
set_option maxHeartbeats 16000000 in
theorem sconv_any (A : Option Addr) (n c : Nat) (x : St) (f : Fd) (w : World) (h : Pal w A n c x.T.L) (hT : SzT x.T) (hft : f.vt.size ≤ 1000000000) (g : Fd) (hg : convX x f = g) (z : Bool) (hz : z = true ↔ ConvP x f) :
    Calls Tryz.prog 133 #[.agg #[.string f.p, .int .i64 f.k, .int .i64 f.t, .int .i64 f.vk, .int .i64 f.vn, .string f.vt], .agg (cellS A n c x).toArray] w fun e w' => e = .returned (.tuple #[.agg #[.string g.p, .int .i64 g.k, .int .i64 g.t, .int .i64 g.vk, .int .i64 g.vn, .string g.vt], .bool z]) ∧ Kept w w' := by
  have hk := (((Kept.refl w).alloc #[.string f.p, .int .i64 f.k, .int .i64 f.t, .int .i64 f.vk, .int .i64 f.vn, .string f.vt] 28).alloc (cellS A n c x).toArray 33).alloc #[.string ⟨#[]⟩, .int .i64 0, .int .i64 0, .int .i64 0, .int .i64 0, .string ⟨#[]⟩] 28
  have hf := ((FdB.new w f 28).kept ((Kept.refl _).alloc (cellS A n c x).toArray 33)).kept ((Kept.refl _).alloc #[.string ⟨#[]⟩, .int .i64 0, .int .i64 0, .int .i64 0, .int .i64 0, .string ⟨#[]⟩] 28)
  have hs := (StB.new (w.alloc (.cells #[.string f.p, .int .i64 f.k, .int .i64 f.t, .int .i64 f.vk, .int .i64 f.vn, .string f.vt] 28)) A n c x 33).kept ((Kept.refl _).alloc #[.string ⟨#[]⟩, .int .i64 0, .int .i64 0, .int .i64 0, .int .i64 0, .string ⟨#[]⟩] 28)
  have hr := FdB.new ((w.alloc (.cells #[.string f.p, .int .i64 f.k, .int .i64 f.t, .int .i64 f.vk, .int .i64 f.vn, .string f.vt] 28)).alloc (.cells (cellS A n c x).toArray 33)) .none 28
  simp only [Fd.none] at hr
  rw [show (w.alloc (.cells #[.string f.p, .int .i64 f.k, .int .i64 f.t, .int .i64 f.vk, .int .i64 f.vn, .string f.vt] 28)).heap.size = w.heap.size + 1 by simp] at hs
  rw [show ((w.alloc (.cells #[.string f.p, .int .i64 f.k, .int .i64 f.t, .int .i64 f.vk, .int .i64 f.vn, .string f.vt] 28)).alloc (.cells (cellS A n c x).toArray 33)).heap.size = w.heap.size + 2 by simp] at hr
  obtain ⟨U, hU⟩ : ∃ U, ((w.alloc (.cells #[.string f.p, .int .i64 f.k, .int .i64 f.t, .int .i64 f.vk, .int .i64 f.vn, .string f.vt] 28)).alloc (.cells (cellS A n c x).toArray 33)).alloc (.cells #[.string ⟨#[]⟩, .int .i64 0, .int .i64 0, .int .i64 0, .int .i64 0, .string ⟨#[]⟩] 28) = U := ⟨_, rfl⟩
  rw [hU] at hk hf hs hr
  have HK := Lib.hid hk; have HF := Lib.hid hf; have HS := Lib.hid hs; have HRB := Lib.hid hr; have HUU := Lib.hid hU; have HH := Lib.hid h
  have HG := Lib.hid hg; have HZ := Lib.hid hz; have HTZ := Lib.hid hT; have HFT := Lib.hid hft
  have n1 : w.heap.size ≠ w.heap.size + 1 := by omega
  have n2 : w.heap.size ≠ w.heap.size + 2 := by omega
  have N1 := Lib.hid n1; have N2 := Lib.hid n2
  clear hk hf hs hr hU h hg hz hT hft n1 n2
  by_cases q3 : f.k = 3
  · have HNO := Lib.hid (conv_no (fun k => k.1 q3) HG.out HZ.out)
    have HFIN := Lib.hid (show Ending.returned (.tuple #[.agg #[.string ⟨#[]⟩, .int .i64 0, .int .i64 0, .int .i64 0, .int .i64 0, .string ⟨#[]⟩], .bool false]) = Ending.returned (.tuple #[.agg #[.string g.p, .int .i64 g.k, .int .i64 g.t, .int .i64 g.vk, .int .i64 g.vn, .string g.vt], .bool z]) by rw [← HNO.out.1, ← HNO.out.2]; rfl)
    have q31 : (f.k == 3) = true := by rw [q3]; simp
    have q32 : (f.k != 3) = false := by rw [q3]; simp
    have q33 : decide (f.k = 3) = true := decide_eq_true q3
    clear q3
    have f0 := HF.out.c0; have f1 := HF.out.c1; have f2 := HF.out.c2; have f3 := HF.out.c3; have f4 := HF.out.c4; have f5 := HF.out.c5; have ff := HF.out.f
    have r0 := HRB.out.c0; have r1 := HRB.out.c1; have r2 := HRB.out.c2; have r3 := HRB.out.c3; have r4 := HRB.out.c4; have r5 := HRB.out.c5; have rf := HRB.out.f
    go_enter Tryz.func133, Tryz.ntmps133
    go_wp2_with (rw [HUU.out])
    refine bodyPost_ret (by simp [results, Tryz.results133, go_sem, *]) rfl ⟨HFIN.out, ?_⟩
    exact (((((((HK.out).setCell (a := ⟨w.heap.size + 2, 0, none⟩) (Nat.le_add_right _ 2) _).setCell (a := ⟨w.heap.size + 2, 1, none⟩) (Nat.le_add_right _ 2) _).setCell (a := ⟨w.heap.size + 2, 2, none⟩) (Nat.le_add_right _ 2) _).setCell (a := ⟨w.heap.size + 2, 3, none⟩) (Nat.le_add_right _ 2) _).setCell (a := ⟨w.heap.size + 2, 4, none⟩) (Nat.le_add_right _ 2) _).setCell (a := ⟨w.heap.size + 2, 5, none⟩) (Nat.le_add_right _ 2) _)
  · by_cases q2 : f.t = x.a
    · have Q3 := Lib.hid q3; have Q2 := Lib.hid q2
      obtain ⟨r, hr⟩ := bool_of (RightT x.T x.a x.b)
      have AR := Lib.hid (fun w h => htright_any A n c x.T x.a x.b w h HTZ.out r hr)
      have HR := Lib.hid hr
      have q31 : (f.k == 3) = false := by simpa using q3
      have q32 : (f.k != 3) = true := by simpa using q3
      have q33 : decide (f.k = 3) = false := decide_eq_false q3
      have q21 : (f.t == x.a) = true := by rw [q2]; simp
      have q22 : (f.t != x.a) = false := by rw [q2]; simp
      have q23 : decide (f.t = x.a) = true := decide_eq_true q2
      clear hr q3 q2
      have f0 := HF.out.c0; have f1 := HF.out.c1; have f2 := HF.out.c2; have f3 := HF.out.c3; have f4 := HF.out.c4; have f5 := HF.out.c5; have ff := HF.out.f
      have c12 := HS.out.c12; have c13 := HS.out.c13; have s14 := HS.out.c14; have s15 := HS.out.c15; have s16 := HS.out.c16; have s17 := HS.out.c17; have s18 := HS.out.c18; have s19 := HS.out.c19; have s20 := HS.out.c20; have s21 := HS.out.c21; have s22 := HS.out.c22
      go_enter Tryz.func133, Tryz.ntmps133
      go_wp2_with (rw [HUU.out])
      go_at_call 151
      refine (AR.out _ (HH.out.kept HK.out)).mono ?_
      rintro e u1 ⟨rfl, hk⟩
      replace HK := Lib.hid (HK.out.trans hk); replace HF := Lib.hid (HF.out.kept hk); replace HS := Lib.hid (HS.out.kept hk); replace HRB := Lib.hid (HRB.out.kept hk)
      clear hk q21 q22 q23
      clear f0 f1 f2 f3 f4 f5 ff
      clear c12 c13 s14 s15 s16 s17 s18 s19 s20 s21 s22
      cases r with
      | false =>
        have HNO := Lib.hid (conv_no (fun k => by have := HR.out.2 k.2.2; cases this) HG.out HZ.out)
        have HFIN := Lib.hid (show Ending.returned (.tuple #[.agg #[.string ⟨#[]⟩, .int .i64 0, .int .i64 0, .int .i64 0, .int .i64 0, .string ⟨#[]⟩], .bool false]) = Ending.returned (.tuple #[.agg #[.string g.p, .int .i64 g.k, .int .i64 g.t, .int .i64 g.vk, .int .i64 g.vn, .string g.vt], .bool z]) by rw [← HNO.out.1, ← HNO.out.2]; rfl)
        have r0 := HRB.out.c0; have r1 := HRB.out.c1; have r2 := HRB.out.c2; have r3 := HRB.out.c3; have r4 := HRB.out.c4; have r5 := HRB.out.c5; have rf := HRB.out.f
        go_wp2_with fail
        refine bodyPost_ret (by simp [results, Tryz.results133, go_sem, *]) rfl ⟨HFIN.out, ?_⟩
        exact (((((((HK.out).setCell (a := ⟨w.heap.size + 2, 0, none⟩) (Nat.le_add_right _ 2) _).setCell (a := ⟨w.heap.size + 2, 1, none⟩) (Nat.le_add_right _ 2) _).setCell (a := ⟨w.heap.size + 2, 2, none⟩) (Nat.le_add_right _ 2) _).setCell (a := ⟨w.heap.size + 2, 3, none⟩) (Nat.le_add_right _ 2) _).setCell (a := ⟨w.heap.size + 2, 4, none⟩) (Nat.le_add_right _ 2) _).setCell (a := ⟨w.heap.size + 2, 5, none⟩) (Nat.le_add_right _ 2) _)
      | true =>
        have HRT := Lib.hid (HR.out.1 (by first | rfl | trivial))
        have f1 := HF.out.c1
        by_cases q1 : f.k = 1
        · obtain ⟨v1, hv1⟩ : ∃ v, applyT x.T (defV f) = v := ⟨_, rfl⟩
          obtain ⟨v2, hv2⟩ : ∃ v, wayT x.T v1 = v := ⟨_, rfl⟩
          obtain ⟨hgg, hzl⟩ := conv_one Q3.out Q2.out HRT.out q1 HG.out HZ.out hv1 hv2
          have HGG := Lib.hid hgg; have HZL := Lib.hid hzl
          have hvz : (defV f).t.size ≤ 1099511627776 := by have := HFT.out; show f.vt.size ≤ _; omega
          have hv1z : v1.t.size ≤ 1099511627776 := by rw [← hv1]; exact apply_szT HTZ.out hvz
          have AA := Lib.hid (fun w h => htapply_any A n c x.T (defV f) v1 hv1 hvz w h HTZ.out)
          have AB := Lib.hid (fun w h => htway_any A n c x.T v1 v2 hv2 hv1z w h HTZ.out)
          clear hv1 hv2 hgg hzl hvz hv1z
          have q11 : (f.k == 1) = true := by rw [q1]; simp
          have q12 : (f.k != 1) = false := by rw [q1]; simp
          have q13 : decide (f.k = 1) = true := decide_eq_true q1
          clear q1
          have c13 := HS.out.c13; have f2 := HF.out.c2; have ff := HF.out.f
          replace HF := Lib.hid (HF.out.setTy x.b)
          replace HS := Lib.hid ((HS.out).far (i := 2) N1.out (.int .i64 x.b))
          replace HRB := Lib.hid ((HRB.out).far (i := 2) N2.out (.int .i64 x.b))
          replace HK := Lib.hid ((HK.out).setCell (a := ⟨w.heap.size, 2, none⟩) (Nat.le_refl _) (.int .i64 x.b))
          obtain ⟨u3, hu3⟩ : ∃ u, (World.setCell u1 ⟨w.heap.size, 2, none⟩ (.int .i64 x.b)) = u := ⟨_, rfl⟩
          rw [hu3] at HF HS HRB HK
          have HU3 := Lib.hid hu3
          clear hu3
          have hka := (Kept.refl u3).alloc #[.int .i64 f.vk, .int .i64 f.vn, .string f.vt] 26
          have ho := VaO.new u3 (defV f) 26
          simp only [defV] at ho AA
          have HBO := Lib.hid (show w.heap.size + 2 < u3.heap.size from HRB.out.lt)
          obtain ⟨w4, hw4⟩ : ∃ u, u3.alloc (.cells #[.int .i64 f.vk, .int .i64 f.vn, .string f.vt] 26) = u := ⟨_, rfl⟩
          rw [hw4] at hka ho
          have HW4 := Lib.hid hw4; have HO := Lib.hid ho; have HKA := Lib.hid hka
          have F1 := HF.out.c1; have F3 := HF.out.c3; have F4 := HF.out.c4; have F5 := HF.out.c5
          have HS4 := Lib.hid (HS.out.kept hka)
          have s14 := HS4.out.c14; have s15 := HS4.out.c15; have s16 := HS4.out.c16; have s17 := HS4.out.c17; have s18 := HS4.out.c18; have s19 := HS4.out.c19; have s20 := HS4.out.c20; have s21 := HS4.out.c21; have s22 := HS4.out.c22
          have o0 := HO.out.c0; have o1 := HO.out.c1; have o2 := HO.out.c2
          clear hka ho hw4
          go_wp2_with (first | rw [HU3.out] | rw [HW4.out])
          go_at_call 152
          refine (AA.out _ (HH.out.kept (HK.out.trans HKA.out))).mono ?_
          rintro e u5 ⟨rfl, hk⟩
          have hkk := HKA.out.trans hk
          replace HK := Lib.hid (HK.out.trans hkk); replace HF := Lib.hid (HF.out.kept hkk); replace HS := Lib.hid (HS.out.kept hkk); replace HRB := Lib.hid (HRB.out.kept hkk); replace HO := Lib.hid (HO.out.kept hk)
          clear hk hkk F1 F3 F4 F5 s14 s15 s16 s17 s18 s19 s20 s21 s22 o0 o1 o2 f2 ff c13
          have f3 := HF.out.c3; have f4 := HF.out.c4; have f5 := HF.out.c5; have ff := HF.out.f
          replace HO := Lib.hid (((HO.out.farK (g := w.heap.size) (i := 3) (by have := HBO.out; omega) (.int .i64 v1.k)).farK (g := w.heap.size) (i := 4) (by have := HBO.out; omega) (.int .i64 v1.n)).farK (g := w.heap.size) (i := 5) (by have := HBO.out; omega) (.string v1.t))
          replace HF := Lib.hid (HF.out.setDef v1)
          replace HS := Lib.hid ((((((HS.out).far (i := 3) N1.out (.int .i64 v1.k))).far (i := 4) N1.out (.int .i64 v1.n))).far (i := 5) N1.out (.string v1.t))
          replace HRB := Lib.hid ((((((HRB.out).far (i := 3) N2.out (.int .i64 v1.k))).far (i := 4) N2.out (.int .i64 v1.n))).far (i := 5) N2.out (.string v1.t))
          replace HK := Lib.hid ((((((HK.out).setCell (a := ⟨w.heap.size, 3, none⟩) (Nat.le_refl _) (.int .i64 v1.k))).setCell (a := ⟨w.heap.size, 4, none⟩) (Nat.le_refl _) (.int .i64 v1.n))).setCell (a := ⟨w.heap.size, 5, none⟩) (Nat.le_refl _) (.string v1.t))
          obtain ⟨u6, hu6⟩ : ∃ u, (World.setCell (World.setCell (World.setCell u5 ⟨w.heap.size, 3, none⟩ (.int .i64 v1.k)) ⟨w.heap.size, 4, none⟩ (.int .i64 v1.n)) ⟨w.heap.size, 5, none⟩ (.string v1.t)) = u := ⟨_, rfl⟩
          rw [hu6] at HF HS HRB HK HO
          have HU6 := Lib.hid hu6
          clear hu6
          simp only [Fd.withD] at HF
          go_wp2_with (rw [HU6.out])
          clear f3 f4 f5 ff
          by_cases q4 : v2 = defV f
          · have HZZ := Lib.hid (show true = z from (HZL.out.2 q4).symm)
            have HFIN := Lib.hid (show Ending.returned (.tuple #[.agg #[.string f.p, .int .i64 f.k, .int .i64 x.b, .int .i64 v1.k, .int .i64 v1.n, .string v1.t], .bool true]) = Ending.returned (.tuple #[.agg #[.string g.p, .int .i64 g.k, .int .i64 g.t, .int .i64 g.vk, .int .i64 g.vn, .string g.vt], .bool z]) by rw [← HGG.out, ← HZZ.out]; rfl)
            obtain ⟨d0, d1, d2⟩ := va_eq q4
            simp only [defV] at d0 d1 d2
            clear q4
            have hn2 := N2.out
            have hn5 : w.heap.size + 1 ≠ w.heap.size + 2 := by omega
            have hn6 : u3.heap.size ≠ w.heap.size + 2 := by have := HBO.out; omega
            have E0 := KExtE.cell (b := w.heap.size + 2) hn2 HF.out.c0
            have E1 := KExtE.cell (b := w.heap.size + 2) hn2 HF.out.c1
            have E2 := KExtE.cell (b := w.heap.size + 2) hn2 HF.out.c2
            have E3 := KExtE.cell (b := w.heap.size + 2) hn2 HF.out.c3
            have E4 := KExtE.cell (b := w.heap.size + 2) hn2 HF.out.c4
            have E5 := KExtE.cell (b := w.heap.size + 2) hn2 HF.out.c5
            have S14 := KExtE.cell (b := w.heap.size + 2) hn5 HS.out.c14
            have S15 := KExtE.cell (b := w.heap.size + 2) hn5 HS.out.c15
            have S16 := KExtE.cell (b := w.heap.size + 2) hn5 HS.out.c16
            have S17 := KExtE.cell (b := w.heap.size + 2) hn5 HS.out.c17
            have S18 := KExtE.cell (b := w.heap.size + 2) hn5 HS.out.c18
            have S19 := KExtE.cell (b := w.heap.size + 2) hn5 HS.out.c19
            have S20 := KExtE.cell (b := w.heap.size + 2) hn5 HS.out.c20
            have S21 := KExtE.cell (b := w.heap.size + 2) hn5 HS.out.c21
            have S22 := KExtE.cell (b := w.heap.size + 2) hn5 HS.out.c22
            have O0 := KExtE.cell (b := w.heap.size + 2) hn6 HO.out.c0
            have O1 := KExtE.cell (b := w.heap.size + 2) hn6 HO.out.c1
            have O2 := KExtE.cell (b := w.heap.size + 2) hn6 HO.out.c2
            simp only at O0 O1 O2
            clear hn2 hn5 hn6
            refine region_planE (w.heap.size + 2) u6 10 (.read [0, 1, 2, 3, 4, 6] (.one 5 (.read [7] (.one 8 (.read [9] .stop))))) (by kernel_rfl) (by kernel_rfl) (by kernel_rfl) (by kernel_rfl) (by kernel_rfl) (fun _ d _ _ _ h => by cases d <;> exact h) (Kept.refl _) ?_
            intro wd hwd
            have HV := Lib.hid hwd
            clear hwd
            rw [wpPlan_read]
            simp only [pA, pB, pC, pD, pE]
            repeat (go_big_quiet_step (fail))
            refine wpQuiet_nil ?_
            clear E0 E1 E2 E3 E4 E5 O0 O1 O2 S14 S15 S16 S17 S18 S19 S20 S21 S22
            rw [wpPlan_one]
            simp only [pA, pB, pC, pD, pE]
            go_wp2_with (go_at_call 153; refine (AB.out _ (HH.out.kept (HK.out.trans HV.out))).mono ?_; rintro e u7 ⟨rfl, hkz⟩)
            replace HV := Lib.hid (HV.out.trans hkz)
            clear hkz
            refine soloE (KeptE.of HV.out) ?_
            rw [wpPlan_read]
            simp only [pA, pB, pC, pD, pE]
            repeat (go_big_quiet_step (fail))
            refine wpQuiet_nil ?_
            replace HRB := Lib.hid (HRB.out.kept HV.out)
            have r0 := HRB.out.c0; have r1 := HRB.out.c1; have r2 := HRB.out.c2; have r3 := HRB.out.c3; have r4 := HRB.out.c4; have r5 := HRB.out.c5; have rf := HRB.out.f
            rw [wpPlan_one]
            simp only [pA, pB, pC, pD, pE]
            go_wp2_with fail
            clear r0 r1 r2 r3 r4 r5 rf
            have HE := Lib.hid (((((((KeptE.of (G := w.heap.size + 2) HV.out).set (a := ⟨w.heap.size + 2, 0, none⟩) (.inl rfl) (.string f.p)).set (a := ⟨w.heap.size + 2, 1, none⟩) (.inl rfl) (.int .i64 f.k)).set (a := ⟨w.heap.size + 2, 2, none⟩) (.inl rfl) (.int .i64 x.b)).set (a := ⟨w.heap.size + 2, 3, none⟩) (.inl rfl) (.int .i64 v1.k)).set (a := ⟨w.heap.size + 2, 4, none⟩) (.inl rfl) (.int .i64 v1.n)).set (a := ⟨w.heap.size + 2, 5, none⟩) (.inl rfl) (.string v1.t))
            have HKF := Lib.hid (((((((HK.out.trans HV.out).setCell (a := ⟨w.heap.size + 2, 0, none⟩) (Nat.le_add_right _ 2) (.string f.p)).setCell (a := ⟨w.heap.size + 2, 1, none⟩) (Nat.le_add_right _ 2) (.int .i64 f.k)).setCell (a := ⟨w.heap.size + 2, 2, none⟩) (Nat.le_add_right _ 2) (.int .i64 x.b)).setCell (a := ⟨w.heap.size + 2, 3, none⟩) (Nat.le_add_right _ 2) (.int .i64 v1.k)).setCell (a := ⟨w.heap.size + 2, 4, none⟩) (Nat.le_add_right _ 2) (.int .i64 v1.n)).setCell (a := ⟨w.heap.size + 2, 5, none⟩) (Nat.le_add_right _ 2) (.string v1.t))
            have HRF := Lib.hid (HRB.out.setAll ⟨f.p, f.k, x.b, v1.k, v1.n, v1.t⟩)
            obtain ⟨w9, hw9⟩ : ∃ u, (World.setCell (World.setCell (World.setCell (World.setCell (World.setCell (World.setCell u7 ⟨w.heap.size + 2, 0, none⟩ (.string f.p)) ⟨w.heap.size + 2, 1, none⟩ (.int .i64 f.k)) ⟨w.heap.size + 2, 2, none⟩ (.int .i64 x.b)) ⟨w.heap.size + 2, 3, none⟩ (.int .i64 v1.k)) ⟨w.heap.size + 2, 4, none⟩ (.int .i64 v1.n)) ⟨w.heap.size + 2, 5, none⟩ (.string v1.t)) = u := ⟨_, rfl⟩
            simp only at HRF
            rw [hw9] at HE HKF HRF ⊢
            clear hw9
            refine soloE HE.out ?_
            rw [wpPlan_read]
            simp only [pA, pB, pC, pD, pE]
            repeat (go_big_quiet_step (fail))
            refine wpQuiet_nil ?_
            refine wpPlan_stop ?_
            have r0 := HRF.out.c0; have r1 := HRF.out.c1; have r2 := HRF.out.c2; have r3 := HRF.out.c3; have r4 := HRF.out.c4; have r5 := HRF.out.c5
            go_wp2_with fail
            exact bodyPost_ret (by simp [results, Tryz.results133, go_sem, *]) rfl ⟨HFIN.out, HKF.out⟩
          · rcases va_ne q4 with d0 | ⟨d0, d1⟩ | ⟨d0, d1, d2⟩
            · have HZZ := Lib.hid (show false = z by rw [eq_comm, ← Bool.not_eq_true, HZL.out]; exact q4)
              have HFIN := Lib.hid (show Ending.returned (.tuple #[.agg #[.string f.p, .int .i64 f.k, .int .i64 x.b, .int .i64 v1.k, .int .i64 v1.n, .string v1.t], .bool false]) = Ending.returned (.tuple #[.agg #[.string g.p, .int .i64 g.k, .int .i64 g.t, .int .i64 g.vk, .int .i64 g.vn, .string g.vt], .bool z]) by rw [← HGG.out, ← HZZ.out]; rfl)
              simp only [defV] at d0
              clear q4
              have hn2 := N2.out
              have hn5 : w.heap.size + 1 ≠ w.heap.size + 2 := by omega
              have hn6 : u3.heap.size ≠ w.heap.size + 2 := by have := HBO.out; omega
              have E0 := KExtE.cell (b := w.heap.size + 2) hn2 HF.out.c0
              have E1 := KExtE.cell (b := w.heap.size + 2) hn2 HF.out.c1
              have E2 := KExtE.cell (b := w.heap.size + 2) hn2 HF.out.c2
              have E3 := KExtE.cell (b := w.heap.size + 2) hn2 HF.out.c3
              have E4 := KExtE.cell (b := w.heap.size + 2) hn2 HF.out.c4
              have E5 := KExtE.cell (b := w.heap.size + 2) hn2 HF.out.c5
              have S14 := KExtE.cell (b := w.heap.size + 2) hn5 HS.out.c14
              have S15 := KExtE.cell (b := w.heap.size + 2) hn5 HS.out.c15
              have S16 := KExtE.cell (b := w.heap.size + 2) hn5 HS.out.c16
              have S17 := KExtE.cell (b := w.heap.size + 2) hn5 HS.out.c17
              have S18 := KExtE.cell (b := w.heap.size + 2) hn5 HS.out.c18
              have S19 := KExtE.cell (b := w.heap.size + 2) hn5 HS.out.c19
              have S20 := KExtE.cell (b := w.heap.size + 2) hn5 HS.out.c20
              have S21 := KExtE.cell (b := w.heap.size + 2) hn5 HS.out.c21
              have S22 := KExtE.cell (b := w.heap.size + 2) hn5 HS.out.c22
              have O0 := KExtE.cell (b := w.heap.size + 2) hn6 HO.out.c0
              have O1 := KExtE.cell (b := w.heap.size + 2) hn6 HO.out.c1
              have O2 := KExtE.cell (b := w.heap.size + 2) hn6 HO.out.c2
              simp only at O0 O1 O2
              clear hn2 hn5 hn6
              refine region_planE (w.heap.size + 2) u6 10 (.read [0, 1, 2, 3, 4, 6] (.one 5 (.read [7] (.one 8 (.read [9] .stop))))) (by kernel_rfl) (by kernel_rfl) (by kernel_rfl) (by kernel_rfl) (by kernel_rfl) (fun _ d _ _ _ h => by cases d <;> exact h) (Kept.refl _) ?_
              intro wd hwd
              have HV := Lib.hid hwd
              clear hwd
              rw [wpPlan_read]
              simp only [pA, pB, pC, pD, pE]
              repeat (go_big_quiet_step (fail))
              refine wpQuiet_nil ?_
              clear E0 E1 E2 E3 E4 E5 O0 O1 O2 S14 S15 S16 S17 S18 S19 S20 S21 S22
              rw [wpPlan_one]
              simp only [pA, pB, pC, pD, pE]
              go_wp2_with (go_at_call 153; refine (AB.out _ (HH.out.kept (HK.out.trans HV.out))).mono ?_; rintro e u7 ⟨rfl, hkz⟩)
              replace HV := Lib.hid (HV.out.trans hkz)
              clear hkz
              refine soloE (KeptE.of HV.out) ?_
              rw [wpPlan_read]
              simp only [pA, pB, pC, pD, pE]
              repeat (go_big_quiet_step (fail))
              refine wpQuiet_nil ?_
              replace HRB := Lib.hid (HRB.out.kept HV.out)
              have r0 := HRB.out.c0; have r1 := HRB.out.c1; have r2 := HRB.out.c2; have r3 := HRB.out.c3; have r4 := HRB.out.c4; have r5 := HRB.out.c5; have rf := HRB.out.f
              rw [wpPlan_one]
              simp only [pA, pB, pC, pD, pE]
              go_wp2_with fail
              clear r0 r1 r2 r3 r4 r5 rf
              have HE := Lib.hid (((((((KeptE.of (G := w.heap.size + 2) HV.out).set (a := ⟨w.heap.size + 2, 0, none⟩) (.inl rfl) (.string f.p)).set (a := ⟨w.heap.size + 2, 1, none⟩) (.inl rfl) (.int .i64 f.k)).set (a := ⟨w.heap.size + 2, 2, none⟩) (.inl rfl) (.int .i64 x.b)).set (a := ⟨w.heap.size + 2, 3, none⟩) (.inl rfl) (.int .i64 v1.k)).set (a := ⟨w.heap.size + 2, 4, none⟩) (.inl rfl) (.int .i64 v1.n)).set (a := ⟨w.heap.size + 2, 5, none⟩) (.inl rfl) (.string v1.t))
              have HKF := Lib.hid (((((((HK.out.trans HV.out).setCell (a := ⟨w.heap.size + 2, 0, none⟩) (Nat.le_add_right _ 2) (.string f.p)).setCell (a := ⟨w.heap.size + 2, 1, none⟩) (Nat.le_add_right _ 2) (.int .i64 f.k)).setCell (a := ⟨w.heap.size + 2, 2, none⟩) (Nat.le_add_right _ 2) (.int .i64 x.b)).setCell (a := ⟨w.heap.size + 2, 3, none⟩) (Nat.le_add_right _ 2) (.int .i64 v1.k)).setCell (a := ⟨w.heap.size + 2, 4, none⟩) (Nat.le_add_right _ 2) (.int .i64 v1.n)).setCell (a := ⟨w.heap.size + 2, 5, none⟩) (Nat.le_add_right _ 2) (.string v1.t))
              have HRF := Lib.hid (HRB.out.setAll ⟨f.p, f.k, x.b, v1.k, v1.n, v1.t⟩)
              obtain ⟨w9, hw9⟩ : ∃ u, (World.setCell (World.setCell (World.setCell (World.setCell (World.setCell (World.setCell u7 ⟨w.heap.size + 2, 0, none⟩ (.string f.p)) ⟨w.heap.size + 2, 1, none⟩ (.int .i64 f.k)) ⟨w.heap.size + 2, 2, none⟩ (.int .i64 x.b)) ⟨w.heap.size + 2, 3, none⟩ (.int .i64 v1.k)) ⟨w.heap.size + 2, 4, none⟩ (.int .i64 v1.n)) ⟨w.heap.size + 2, 5, none⟩ (.string v1.t)) = u := ⟨_, rfl⟩
              simp only at HRF
              rw [hw9] at HE HKF HRF ⊢
              clear hw9
              refine soloE HE.out ?_
              rw [wpPlan_read]
              simp only [pA, pB, pC, pD, pE]
              repeat (go_big_quiet_step (fail))
              refine wpQuiet_nil ?_
              refine wpPlan_stop ?_
              have r0 := HRF.out.c0; have r1 := HRF.out.c1; have r2 := HRF.out.c2; have r3 := HRF.out.c3; have r4 := HRF.out.c4; have r5 := HRF.out.c5
              go_wp2_with fail
              exact bodyPost_ret (by simp [results, Tryz.results133, go_sem, *]) rfl ⟨HFIN.out, HKF.out⟩
            · have HZZ := Lib.hid (show false = z by rw [eq_comm, ← Bool.not_eq_true, HZL.out]; exact q4)
              have HFIN := Lib.hid (show Ending.returned (.tuple #[.agg #[.string f.p, .int .i64 f.k, .int .i64 x.b, .int .i64 v1.k, .int .i64 v1.n, .string v1.t], .bool false]) = Ending.returned (.tuple #[.agg #[.string g.p, .int .i64 g.k, .int .i64 g.t, .int .i64 g.vk, .int .i64 g.vn, .string g.vt], .bool z]) by rw [← HGG.out, ← HZZ.out]; rfl)
              simp only [defV] at d0 d1
              clear q4
              have hn2 := N2.out
              have hn5 : w.heap.size + 1 ≠ w.heap.size + 2 := by omega
              have hn6 : u3.heap.size ≠ w.heap.size + 2 := by have := HBO.out; omega
              have E0 := KExtE.cell (b := w.heap.size + 2) hn2 HF.out.c0
              have E1 := KExtE.cell (b := w.heap.size + 2) hn2 HF.out.c1
              have E2 := KExtE.cell (b := w.heap.size + 2) hn2 HF.out.c2
              have E3 := KExtE.cell (b := w.heap.size + 2) hn2 HF.out.c3
              have E4 := KExtE.cell (b := w.heap.size + 2) hn2 HF.out.c4
              have E5 := KExtE.cell (b := w.heap.size + 2) hn2 HF.out.c5
              have S14 := KExtE.cell (b := w.heap.size + 2) hn5 HS.out.c14
              have S15 := KExtE.cell (b := w.heap.size + 2) hn5 HS.out.c15
              have S16 := KExtE.cell (b := w.heap.size + 2) hn5 HS.out.c16
              have S17 := KExtE.cell (b := w.heap.size + 2) hn5 HS.out.c17
              have S18 := KExtE.cell (b := w.heap.size + 2) hn5 HS.out.c18
              have S19 := KExtE.cell (b := w.heap.size + 2) hn5 HS.out.c19
              have S20 := KExtE.cell (b := w.heap.size + 2) hn5 HS.out.c20
              have S21 := KExtE.cell (b := w.heap.size + 2) hn5 HS.out.c21
              have S22 := KExtE.cell (b := w.heap.size + 2) hn5 HS.out.c22
              have O0 := KExtE.cell (b := w.heap.size + 2) hn6 HO.out.c0
              have O1 := KExtE.cell (b := w.heap.size + 2) hn6 HO.out.c1
              have O2 := KExtE.cell (b := w.heap.size + 2) hn6 HO.out.c2
              simp only at O0 O1 O2
              clear hn2 hn5 hn6
              refine region_planE (w.heap.size + 2) u6 10 (.read [0, 1, 2, 3, 4, 6] (.one 5 (.read [7] (.one 8 (.read [9] .stop))))) (by kernel_rfl) (by kernel_rfl) (by kernel_rfl) (by kernel_rfl) (by kernel_rfl) (fun _ d _ _ _ h => by cases d <;> exact h) (Kept.refl _) ?_
              intro wd hwd
              have HV := Lib.hid hwd
              clear hwd
              rw [wpPlan_read]
              simp only [pA, pB, pC, pD, pE]
              repeat (go_big_quiet_step (fail))
              refine wpQuiet_nil ?_
              clear E0 E1 E2 E3 E4 E5 O0 O1 O2 S14 S15 S16 S17 S18 S19 S20 S21 S22
              rw [wpPlan_one]
              simp only [pA, pB, pC, pD, pE]
              go_wp2_with (go_at_call 153; refine (AB.out _ (HH.out.kept (HK.out.trans HV.out))).mono ?_; rintro e u7 ⟨rfl, hkz⟩)
              replace HV := Lib.hid (HV.out.trans hkz)
              clear hkz
              refine soloE (KeptE.of HV.out) ?_
              rw [wpPlan_read]
              simp only [pA, pB, pC, pD, pE]
              repeat (go_big_quiet_step (fail))
              refine wpQuiet_nil ?_
              replace HRB := Lib.hid (HRB.out.kept HV.out)
              have r0 := HRB.out.c0; have r1 := HRB.out.c1; have r2 := HRB.out.c2; have r3 := HRB.out.c3; have r4 := HRB.out.c4; have r5 := HRB.out.c5; have rf := HRB.out.f
              rw [wpPlan_one]
              simp only [pA, pB, pC, pD, pE]
              go_wp2_with fail
              clear r0 r1 r2 r3 r4 r5 rf
              have HE := Lib.hid (((((((KeptE.of (G := w.heap.size + 2) HV.out).set (a := ⟨w.heap.size + 2, 0, none⟩) (.inl rfl) (.string f.p)).set (a := ⟨w.heap.size + 2, 1, none⟩) (.inl rfl) (.int .i64 f.k)).set (a := ⟨w.heap.size + 2, 2, none⟩) (.inl rfl) (.int .i64 x.b)).set (a := ⟨w.heap.size + 2, 3, none⟩) (.inl rfl) (.int .i64 v1.k)).set (a := ⟨w.heap.size + 2, 4, none⟩) (.inl rfl) (.int .i64 v1.n)).set (a := ⟨w.heap.size + 2, 5, none⟩) (.inl rfl) (.string v1.t))
              have HKF := Lib.hid (((((((HK.out.trans HV.out).setCell (a := ⟨w.heap.size + 2, 0, none⟩) (Nat.le_add_right _ 2) (.string f.p)).setCell (a := ⟨w.heap.size + 2, 1, none⟩) (Nat.le_add_right _ 2) (.int .i64 f.k)).setCell (a := ⟨w.heap.size + 2, 2, none⟩) (Nat.le_add_right _ 2) (.int .i64 x.b)).setCell (a := ⟨w.heap.size + 2, 3, none⟩) (Nat.le_add_right _ 2) (.int .i64 v1.k)).setCell (a := ⟨w.heap.size + 2, 4, none⟩) (Nat.le_add_right _ 2) (.int .i64 v1.n)).setCell (a := ⟨w.heap.size + 2, 5, none⟩) (Nat.le_add_right _ 2) (.string v1.t))
              have HRF := Lib.hid (HRB.out.setAll ⟨f.p, f.k, x.b, v1.k, v1.n, v1.t⟩)
              obtain ⟨w9, hw9⟩ : ∃ u, (World.setCell (World.setCell (World.setCell (World.setCell (World.setCell (World.setCell u7 ⟨w.heap.size + 2, 0, none⟩ (.string f.p)) ⟨w.heap.size + 2, 1, none⟩ (.int .i64 f.k)) ⟨w.heap.size + 2, 2, none⟩ (.int .i64 x.b)) ⟨w.heap.size + 2, 3, none⟩ (.int .i64 v1.k)) ⟨w.heap.size + 2, 4, none⟩ (.int .i64 v1.n)) ⟨w.heap.size + 2, 5, none⟩ (.string v1.t)) = u := ⟨_, rfl⟩
              simp only at HRF
              rw [hw9] at HE HKF HRF ⊢
              clear hw9
              refine soloE HE.out ?_
              rw [wpPlan_read]
              simp only [pA, pB, pC, pD, pE]
              repeat (go_big_quiet_step (fail))
              refine wpQuiet_nil ?_
              refine wpPlan_stop ?_
              have r0 := HRF.out.c0; have r1 := HRF.out.c1; have r2 := HRF.out.c2; have r3 := HRF.out.c3; have r4 := HRF.out.c4; have r5 := HRF.out.c5
              go_wp2_with fail
              exact bodyPost_ret (by simp [results, Tryz.results133, go_sem, *]) rfl ⟨HFIN.out, HKF.out⟩
            · have HZZ := Lib.hid (show false = z by rw [eq_comm, ← Bool.not_eq_true, HZL.out]; exact q4)
              have HFIN := Lib.hid (show Ending.returned (.tuple #[.agg #[.string f.p, .int .i64 f.k, .int .i64 x.b, .int .i64 v1.k, .int .i64 v1.n, .string v1.t], .bool false]) = Ending.returned (.tuple #[.agg #[.string g.p, .int .i64 g.k, .int .i64 g.t, .int .i64 g.vk, .int .i64 g.vn, .string g.vt], .bool z]) by rw [← HGG.out, ← HZZ.out]; rfl)
              simp only [defV] at d0 d1 d2
              clear q4
              have hn2 := N2.out
              have hn5 : w.heap.size + 1 ≠ w.heap.size + 2 := by omega
              have hn6 : u3.heap.size ≠ w.heap.size + 2 := by have := HBO.out; omega
              have E0 := KExtE.cell (b := w.heap.size + 2) hn2 HF.out.c0
              have E1 := KExtE.cell (b := w.heap.size + 2) hn2 HF.out.c1
              have E2 := KExtE.cell (b := w.heap.size + 2) hn2 HF.out.c2
              have E3 := KExtE.cell (b := w.heap.size + 2) hn2 HF.out.c3
              have E4 := KExtE.cell (b := w.heap.size + 2) hn2 HF.out.c4
              have E5 := KExtE.cell (b := w.heap.size + 2) hn2 HF.out.c5
              have S14 := KExtE.cell (b := w.heap.size + 2) hn5 HS.out.c14
              have S15 := KExtE.cell (b := w.heap.size + 2) hn5 HS.out.c15
              have S16 := KExtE.cell (b := w.heap.size + 2) hn5 HS.out.c16
              have S17 := KExtE.cell (b := w.heap.size + 2) hn5 HS.out.c17
              have S18 := KExtE.cell (b := w.heap.size + 2) hn5 HS.out.c18
              have S19 := KExtE.cell (b := w.heap.size + 2) hn5 HS.out.c19
              have S20 := KExtE.cell (b := w.heap.size + 2) hn5 HS.out.c20
              have S21 := KExtE.cell (b := w.heap.size + 2) hn5 HS.out.c21
              have S22 := KExtE.cell (b := w.heap.size + 2) hn5 HS.out.c22
              have O0 := KExtE.cell (b := w.heap.size + 2) hn6 HO.out.c0
              have O1 := KExtE.cell (b := w.heap.size + 2) hn6 HO.out.c1
              have O2 := KExtE.cell (b := w.heap.size + 2) hn6 HO.out.c2
              simp only at O0 O1 O2
              clear hn2 hn5 hn6
              refine region_planE (w.heap.size + 2) u6 10 (.read [0, 1, 2, 3, 4, 6] (.one 5 (.read [7] (.one 8 (.read [9] .stop))))) (by kernel_rfl) (by kernel_rfl) (by kernel_rfl) (by kernel_rfl) (by kernel_rfl) (fun _ d _ _ _ h => by cases d <;> exact h) (Kept.refl _) ?_
              intro wd hwd
              have HV := Lib.hid hwd
              clear hwd
              rw [wpPlan_read]
              simp only [pA, pB, pC, pD, pE]
              repeat (go_big_quiet_step (fail))
              refine wpQuiet_nil ?_
              clear E0 E1 E2 E3 E4 E5 O0 O1 O2 S14 S15 S16 S17 S18 S19 S20 S21 S22
              rw [wpPlan_one]
              simp only [pA, pB, pC, pD, pE]
              go_wp2_with (go_at_call 153; refine (AB.out _ (HH.out.kept (HK.out.trans HV.out))).mono ?_; rintro e u7 ⟨rfl, hkz⟩)
              replace HV := Lib.hid (HV.out.trans hkz)
              clear hkz
              refine soloE (KeptE.of HV.out) ?_
              rw [wpPlan_read]
              simp only [pA, pB, pC, pD, pE]
              repeat (go_big_quiet_step (fail))
              refine wpQuiet_nil ?_
              replace HRB := Lib.hid (HRB.out.kept HV.out)
              have r0 := HRB.out.c0; have r1 := HRB.out.c1; have r2 := HRB.out.c2; have r3 := HRB.out.c3; have r4 := HRB.out.c4; have r5 := HRB.out.c5; have rf := HRB.out.f
              rw [wpPlan_one]
              simp only [pA, pB, pC, pD, pE]
              go_wp2_with fail
              clear r0 r1 r2 r3 r4 r5 rf
              have HE := Lib.hid (((((((KeptE.of (G := w.heap.size + 2) HV.out).set (a := ⟨w.heap.size + 2, 0, none⟩) (.inl rfl) (.string f.p)).set (a := ⟨w.heap.size + 2, 1, none⟩) (.inl rfl) (.int .i64 f.k)).set (a := ⟨w.heap.size + 2, 2, none⟩) (.inl rfl) (.int .i64 x.b)).set (a := ⟨w.heap.size + 2, 3, none⟩) (.inl rfl) (.int .i64 v1.k)).set (a := ⟨w.heap.size + 2, 4, none⟩) (.inl rfl) (.int .i64 v1.n)).set (a := ⟨w.heap.size + 2, 5, none⟩) (.inl rfl) (.string v1.t))
              have HKF := Lib.hid (((((((HK.out.trans HV.out).setCell (a := ⟨w.heap.size + 2, 0, none⟩) (Nat.le_add_right _ 2) (.string f.p)).setCell (a := ⟨w.heap.size + 2, 1, none⟩) (Nat.le_add_right _ 2) (.int .i64 f.k)).setCell (a := ⟨w.heap.size + 2, 2, none⟩) (Nat.le_add_right _ 2) (.int .i64 x.b)).setCell (a := ⟨w.heap.size + 2, 3, none⟩) (Nat.le_add_right _ 2) (.int .i64 v1.k)).setCell (a := ⟨w.heap.size + 2, 4, none⟩) (Nat.le_add_right _ 2) (.int .i64 v1.n)).setCell (a := ⟨w.heap.size + 2, 5, none⟩) (Nat.le_add_right _ 2) (.string v1.t))
              have HRF := Lib.hid (HRB.out.setAll ⟨f.p, f.k, x.b, v1.k, v1.n, v1.t⟩)
              obtain ⟨w9, hw9⟩ : ∃ u, (World.setCell (World.setCell (World.setCell (World.setCell (World.setCell (World.setCell u7 ⟨w.heap.size + 2, 0, none⟩ (.string f.p)) ⟨w.heap.size + 2, 1, none⟩ (.int .i64 f.k)) ⟨w.heap.size + 2, 2, none⟩ (.int .i64 x.b)) ⟨w.heap.size + 2, 3, none⟩ (.int .i64 v1.k)) ⟨w.heap.size + 2, 4, none⟩ (.int .i64 v1.n)) ⟨w.heap.size + 2, 5, none⟩ (.string v1.t)) = u := ⟨_, rfl⟩
              simp only at HRF
              rw [hw9] at HE HKF HRF ⊢
              clear hw9
              refine soloE HE.out ?_
              rw [wpPlan_read]
              simp only [pA, pB, pC, pD, pE]
              repeat (go_big_quiet_step (fail))
              refine wpQuiet_nil ?_
              refine wpPlan_stop ?_
              have r0 := HRF.out.c0; have r1 := HRF.out.c1; have r2 := HRF.out.c2; have r3 := HRF.out.c3; have r4 := HRF.out.c4; have r5 := HRF.out.c5
              go_wp2_with fail
              exact bodyPost_ret (by simp [results, Tryz.results133, go_sem, *]) rfl ⟨HFIN.out, HKF.out⟩
        · obtain ⟨hgg, hzz⟩ := conv_two Q3.out Q2.out HRT.out q1 HG.out HZ.out
          have HGG := Lib.hid hgg; have HZZ := Lib.hid hzz
          have HFIN := Lib.hid (show Ending.returned (.tuple #[.agg #[.string f.p, .int .i64 f.k, .int .i64 x.b, .int .i64 f.vk, .int .i64 f.vn, .string f.vt], .bool true]) = Ending.returned (.tuple #[.agg #[.string g.p, .int .i64 g.k, .int .i64 g.t, .int .i64 g.vk, .int .i64 g.vn, .string g.vt], .bool z]) by rw [← HGG.out, ← HZZ.out]; rfl)
          have q11 : (f.k == 1) = false := by simpa using q1
          have q12 : (f.k != 1) = true := by simpa using q1
          have q13 : decide (f.k = 1) = false := decide_eq_false q1
          clear q1 hgg hzz
          have c13 := HS.out.c13; have f2 := HF.out.c2; have ff := HF.out.f
          replace HF := Lib.hid (HF.out.setTy x.b)
          replace HS := Lib.hid ((HS.out).far (i := 2) N1.out (.int .i64 x.b))
          replace HRB := Lib.hid ((HRB.out).far (i := 2) N2.out (.int .i64 x.b))
          replace HK := Lib.hid ((HK.out).setCell (a := ⟨w.heap.size, 2, none⟩) (Nat.le_refl _) (.int .i64 x.b))
          obtain ⟨u3, hu3⟩ : ∃ u, (World.setCell u1 ⟨w.heap.size, 2, none⟩ (.int .i64 x.b)) = u := ⟨_, rfl⟩
          rw [hu3] at HF HS HRB HK
          have HU3 := Lib.hid hu3
          clear hu3
          have F0 := HF.out.c0; have F1 := HF.out.c1; have F2 := HF.out.c2; have F3 := HF.out.c3; have F4 := HF.out.c4; have F5 := HF.out.c5
          have r0 := HRB.out.c0; have r1 := HRB.out.c1; have r2 := HRB.out.c2; have r3 := HRB.out.c3; have r4 := HRB.out.c4; have r5 := HRB.out.c5; have rf := HRB.out.f
          go_wp2_with (rw [HU3.out])
          refine bodyPost_ret (by simp [results, Tryz.results133, go_sem, *]) rfl ⟨HFIN.out, ?_⟩
          exact (((((((HK.out).setCell (a := ⟨w.heap.size + 2, 0, none⟩) (Nat.le_add_right _ 2) _).setCell (a := ⟨w.heap.size + 2, 1, none⟩) (Nat.le_add_right _ 2) _).setCell (a := ⟨w.heap.size + 2, 2, none⟩) (Nat.le_add_right _ 2) _).setCell (a := ⟨w.heap.size + 2, 3, none⟩) (Nat.le_add_right _ 2) _).setCell (a := ⟨w.heap.size + 2, 4, none⟩) (Nat.le_add_right _ 2) _).setCell (a := ⟨w.heap.size + 2, 5, none⟩) (Nat.le_add_right _ 2) _)
    · have HNO := Lib.hid (conv_no (fun k => q2 k.2.1) HG.out HZ.out)
      have HFIN := Lib.hid (show Ending.returned (.tuple #[.agg #[.string ⟨#[]⟩, .int .i64 0, .int .i64 0, .int .i64 0, .int .i64 0, .string ⟨#[]⟩], .bool false]) = Ending.returned (.tuple #[.agg #[.string g.p, .int .i64 g.k, .int .i64 g.t, .int .i64 g.vk, .int .i64 g.vn, .string g.vt], .bool z]) by rw [← HNO.out.1, ← HNO.out.2]; rfl)
      have q31 : (f.k == 3) = false := by simpa using q3
      have q32 : (f.k != 3) = true := by simpa using q3
      have q33 : decide (f.k = 3) = false := decide_eq_false q3
      have q21 : (f.t == x.a) = false := by simpa using q2
      have q22 : (f.t != x.a) = true := by simpa using q2
      have q23 : decide (f.t = x.a) = false := decide_eq_false q2
      clear q3 q2
      have f0 := HF.out.c0; have f1 := HF.out.c1; have f2 := HF.out.c2; have f3 := HF.out.c3; have f4 := HF.out.c4; have f5 := HF.out.c5; have ff := HF.out.f
      have c12 := HS.out.c12
      have r0 := HRB.out.c0; have r1 := HRB.out.c1; have r2 := HRB.out.c2; have r3 := HRB.out.c3; have r4 := HRB.out.c4; have r5 := HRB.out.c5; have rf := HRB.out.f
      go_enter Tryz.func133, Tryz.ntmps133
      go_wp2_with (rw [HUU.out])
      refine bodyPost_ret (by simp [results, Tryz.results133, go_sem, *]) rfl ⟨HFIN.out, ?_⟩
      exact (((((((HK.out).setCell (a := ⟨w.heap.size + 2, 0, none⟩) (Nat.le_add_right _ 2) _).setCell (a := ⟨w.heap.size + 2, 1, none⟩) (Nat.le_add_right _ 2) _).setCell (a := ⟨w.heap.size + 2, 2, none⟩) (Nat.le_add_right _ 2) _).setCell (a := ⟨w.heap.size + 2, 3, none⟩) (Nat.le_add_right _ 2) _).setCell (a := ⟨w.heap.size + 2, 4, none⟩) (Nat.le_add_right _ 2) _).setCell (a := ⟨w.heap.size + 2, 5, none⟩) (Nat.le_add_right _ 2) _)
end Go.Proofs.YtofnpifooaijcaaGreat
