/-
  What is proved: package schema's takeField (a part of P11.7), by package source, called with any text of up to 100000 bytes, returns the field that it begins with, and what follows it, or the first error; the world has new blocks at most.
-/
import Derived.Test.YtofnpifooaijcaaGreatM17
import Derived.Test.YtofnpifooaijcaaGreatM18
import Derived.Test.YtofnpifooaijcaaGreatM12
namespace Go.Proofs.YtofnpifooaijcaaGreat
open Go.RowKit
set_option linter.unusedVariables false
theorem FdB.kE {G : Nat} {w w' : World} {b : Nat} {x : Fd} (h : FdB w b x) (k : KeptE G w w') (hb : b ≠ G) : FdB w' b x :=
  ⟨k.cell hb h.c0, k.cell hb h.c1, k.cell hb h.c2, k.cell hb h.c3, k.cell hb h.c4, k.cell hb h.c5, fun j => k.froz hb h.lt (h.f j), Nat.lt_of_lt_of_le h.lt k.size⟩
theorem SouO.newS (w : World) (s : ByteArray) (ty : TypeId) : SouO (w.alloc (.cells #[.string s, .int .i64 0] ty)) w.heap.size 0 s 0 :=
  ⟨(Kept.refl _).box 0 _ rfl, (Kept.refl _).box 1 _ rfl, fun j => by rw [frozen?_alloc_cells]; simp [World.frozen?], by simp⟩
theorem SouO.farO {w : World} {b o g i : Nat} {r : ByteArray} {z : Nat} (h : SouO w b o r z) (hne : g ≠ b) (v : Value) : SouO (w.setCell ⟨g, i, none⟩ v) b o r z :=
  ⟨cell_offS hne h.c0, cell_offS hne h.c1, fun i => by rw [World.frozen?_setCell]; exact h.f i, by have := h.lt; simpa [World.setCell] using this⟩
theorem SouO.put1 {w : World} {b o : Nat} {r : ByteArray} {z : Nat} (h : SouO w b o r z) (z' : Nat) : SouO (w.setCell ⟨b, o + 1, none⟩ (.int .i64 (z' : Int))) b o r z' :=
  ⟨cell_besideS (by omega) h.c0, World.cell?_setCell_same _ _ _ h.c1, fun i => by rw [World.frozen?_setCell]; exact h.f i, by have := h.lt; simpa [World.setCell] using this⟩
theorem FdB.setKT {w : World} {b : Nat} {x : Fd} (h : FdB w b x) (k1 k2 : Int) : FdB (World.setCell (World.setCell w ⟨b, 1, none⟩ (.int .i64 k1)) ⟨b, 2, none⟩ (.int .i64 k2)) b ⟨x.p, k1, k2, x.vk, x.vn, x.vt⟩ := (h.setKi k1).setTy k2
def tfErr (n1 n2 z : Nat) : Nat := if z = 0 ∧ (3 < n1 ∨ 3 < n2) then 3 else z
theorem tfErr_bad {n1 n2 z : Nat} (h : z ≠ 0) : tfErr n1 n2 z = z := by unfold tfErr; rw [if_neg (fun k => h k.1)]
theorem tf_chain {s t r1 r2 r3 r4 : ByteArray} {z1 z2 z3 z4 n1 n2 : Nat} {v : Va} (h1 : NxR ⟨#[]⟩ (fun s => ttL s 102) s 0 t r1 z1) (h2 : NxR (0 : Nat) tkU r1 z1 n1 r2 z2) (h3 : NxR (0 : Nat) tkU r2 z2 n2 r3 z3) (h4 : NxR Va.zero tvF r3 z3 v r4 z4) :
    tfL s = if tfErr n1 n2 z4 ≠ 0 then (.none, ⟨#[]⟩, tfErr n1 n2 z4) else (⟨t, n1, n2, v.k, v.n, v.t⟩, r4, 0) := by
  rcases h1 with ⟨_, h1⟩ | ⟨h, _⟩
  rotate_left
  · exact absurd rfl h
  have a1 : ttT s 102 = t := (Prod.mk.inj h1).1
  have a2 : ttR s 102 = r1 := (Prod.mk.inj (Prod.mk.inj h1).2).1
  have a3 : ttE s 102 = z1 := (Prod.mk.inj (Prod.mk.inj h1).2).2
  unfold tfL
  rcases h2 with ⟨rfl, h2⟩ | ⟨hz, rfl, rfl, rfl⟩
  rotate_left
  · have e3 : z3 = z2 := by rcases h3 with ⟨h, _⟩ | ⟨_, _, _, h⟩ <;> omega
    have e4 : z4 = z2 := by rcases h4 with ⟨h, _⟩ | ⟨_, _, _, h⟩ <;> omega
    have he : errF s = z2 := by unfold errF; rw [a3, if_pos hz]
    rw [he, if_pos hz, e4, tfErr_bad hz, if_pos hz]
  have b1 : tkN r1 = n1 := (Prod.mk.inj h2).1
  have b2 : tkR r1 = r2 := (Prod.mk.inj (Prod.mk.inj h2).2).1
  have b3 : tkE r1 = z2 := (Prod.mk.inj (Prod.mk.inj h2).2).2
  have f1e : f1 s = r1 := a2
  have f2e : f2 s = r2 := by unfold f2; rw [f1e, b2]
  rcases h3 with ⟨rfl, h3⟩ | ⟨hz, rfl, rfl, rfl⟩
  rotate_left
  · have e4 : z4 = z3 := by rcases h4 with ⟨h, _⟩ | ⟨_, _, _, h⟩ <;> omega
    have he : errF s = z3 := by unfold errF; rw [a3, if_neg (by omega), f1e, b3, if_pos hz]
    rw [he, if_pos hz, e4, tfErr_bad hz, if_pos hz]
  have c1 : tkN r2 = n2 := (Prod.mk.inj h3).1
  have c2 : tkR r2 = r3 := (Prod.mk.inj (Prod.mk.inj h3).2).1
  have c3 : tkE r2 = z3 := (Prod.mk.inj (Prod.mk.inj h3).2).2
  have f3e : f3 s = r3 := by unfold f3; rw [f2e, c2]
  rcases h4 with ⟨rfl, h4⟩ | ⟨hz, rfl, rfl, rfl⟩
  rotate_left
  · have he : errF s = z4 := by unfold errF; rw [a3, if_neg (by omega), f1e, b3, if_neg (by omega), f2e, c3, if_pos hz]
    rw [he, if_pos hz, tfErr_bad hz, if_pos hz]
  have d1 : tVa r3 = v := (Prod.mk.inj h4).1
  have d2 : tvR r3 = r4 := (Prod.mk.inj (Prod.mk.inj h4).2).1
  have d3 : tvE r3 = z4 := (Prod.mk.inj (Prod.mk.inj h4).2).2
  have he : errF s = z4 := by unfold errF; rw [a3, if_neg (by omega), f1e, b3, if_neg (by omega), f2e, c3, if_neg (by omega), f3e, d3]
  rw [he]
  by_cases hz : z4 = 0
  · rw [if_neg (by omega), f1e, f2e, b1, c1]
    by_cases hn : 3 < n1 ∨ 3 < n2
    · rw [if_pos hn, show tfErr n1 n2 z4 = 3 from by unfold tfErr; rw [if_pos ⟨hz, hn⟩], if_pos (by decide)]
    · rw [if_neg hn, show tfErr n1 n2 z4 = 0 from by unfold tfErr; rw [if_neg (fun h => hn h.2)]; exact hz, if_neg (by decide)]
      unfold fdK
      rw [a1, f1e, b1, f2e, c1, f3e, d2, ← d1]
      rfl
  · rw [if_pos hz, tfErr_bad hz, if_pos hz]
theorem NxR.szT {m : Int} {r : ByteArray} {z : Nat} {v r' : ByteArray} {z' : Nat} (h : NxR ⟨#[]⟩ (fun s => ttL s m) r z v r' z') : r'.size ≤ r.size := by
  rcases h with ⟨_, h⟩ | ⟨_, _, rfl, _⟩
  · rw [← show ttR r m = r' from (Prod.mk.inj (Prod.mk.inj h).2).1]; exact ttR_szF r m
  · exact Nat.le_refl _
theorem NxR.szU {r : ByteArray} {z v : Nat} {r' : ByteArray} {z' : Nat} (h : NxR (0 : Nat) tkU r z v r' z') : r'.size ≤ r.size := by
  rcases h with ⟨_, h⟩ | ⟨_, _, rfl, _⟩
  · rw [← show tkR r = r' from (Prod.mk.inj (Prod.mk.inj h).2).1]; exact tkR_size r
  · exact Nat.le_refl _
theorem NxR.szI {r : ByteArray} {z : Nat} {v : Int} {r' : ByteArray} {z' : Nat} (h : NxR (0 : Int) tkI r z v r' z') : r'.size ≤ r.size := by
  rcases h with ⟨_, h⟩ | ⟨_, _, rfl, _⟩
  · rw [← show tkR r = r' from (Prod.mk.inj (Prod.mk.inj h).2).1]; exact tkR_size r
  · exact Nat.le_refl _
theorem NxR.szV {r : ByteArray} {z : Nat} {v : Va} {r' : ByteArray} {z' : Nat} (h : NxR Va.zero tvF r z v r' z') : r'.size ≤ r.size := by
  rcases h with ⟨_, h⟩ | ⟨_, _, rfl, _⟩
  · rw [← show tvR r = r' from (Prod.mk.inj (Prod.mk.inj h).2).1]; exact tvR_szF r
  · exact Nat.le_refl _
theorem NxR.ltU {r : ByteArray} {z v : Nat} {r' : ByteArray} {z' : Nat} (h : NxR (0 : Nat) tkU r z v r' z') : v < 18446744073709551616 := by
  rcases h with ⟨_, h⟩ | ⟨_, rfl, _, _⟩
  · rw [← show tkN r = v from (Prod.mk.inj h).1]; exact tkN_bd r
  · decide
set_option maxRecDepth 100000 in
set_option maxHeartbeats 16000000 in
theorem stf_any (s : ByteArray) (w : World) (hs : s.size ≤ 100000) :
    Calls Tryz.prog 143 #[.string s] w fun e w' => e = .returned (.tuple #[.agg #[.string (tfX s).p, .int .i64 (tfX s).k, .int .i64 (tfX s).t, .int .i64 (tfX s).vk, .int .i64 (tfX s).vn, .string (tfX s).vt], .string (tfR s), .int .i64 (tfE s)]) ∧ Kept w w' := by
  have hk := (((Kept.refl w).alloc #[.string ⟨#[]⟩, .int .i64 0, .int .i64 0, .int .i64 0, .int .i64 0, .string ⟨#[]⟩] 28).alloc #[.string s, .int .i64 0] 61).alloc #[.string ⟨#[]⟩, .int .i64 0, .int .i64 0, .int .i64 0, .int .i64 0, .string ⟨#[]⟩] 28
  have hr := (((FdB.new w .none 28)).kept ((Kept.refl _).alloc #[.string s, .int .i64 0] 61)).kept ((Kept.refl _).alloc #[.string ⟨#[]⟩, .int .i64 0, .int .i64 0, .int .i64 0, .int .i64 0, .string ⟨#[]⟩] 28)
  have ho := (SouO.newS (w.alloc (.cells #[.string ⟨#[]⟩, .int .i64 0, .int .i64 0, .int .i64 0, .int .i64 0, .string ⟨#[]⟩] 28)) s 61).kept ((Kept.refl _).alloc #[.string ⟨#[]⟩, .int .i64 0, .int .i64 0, .int .i64 0, .int .i64 0, .string ⟨#[]⟩] 28)
  have hf := FdB.new ((w.alloc (.cells #[.string ⟨#[]⟩, .int .i64 0, .int .i64 0, .int .i64 0, .int .i64 0, .string ⟨#[]⟩] 28)).alloc (.cells #[.string s, .int .i64 0] 61)) .none 28
  rw [show (w.alloc (.cells #[.string ⟨#[]⟩, .int .i64 0, .int .i64 0, .int .i64 0, .int .i64 0, .string ⟨#[]⟩] 28)).heap.size = w.heap.size + 1 by simp] at ho
  rw [show ((w.alloc (.cells #[.string ⟨#[]⟩, .int .i64 0, .int .i64 0, .int .i64 0, .int .i64 0, .string ⟨#[]⟩] 28)).alloc (.cells #[.string s, .int .i64 0] 61)).heap.size = w.heap.size + 2 by simp] at hf
  simp only [Fd.none] at hr hf
  obtain ⟨U, hU⟩ : ∃ U, ((w.alloc (.cells #[.string ⟨#[]⟩, .int .i64 0, .int .i64 0, .int .i64 0, .int .i64 0, .string ⟨#[]⟩] 28)).alloc (.cells #[.string s, .int .i64 0] 61)).alloc (.cells #[.string ⟨#[]⟩, .int .i64 0, .int .i64 0, .int .i64 0, .int .i64 0, .string ⟨#[]⟩] 28) = U := ⟨_, rfl⟩
  rw [hU] at hk hr ho hf
  obtain ⟨t, r1, z1, h1⟩ := nxR_ex (⟨#[]⟩ : ByteArray) (fun s => ttL s 102) s 0
  obtain ⟨n1, r2, z2, h2⟩ := nxR_ex (0 : Nat) tkU r1 z1
  obtain ⟨n2, r3, z3, h3⟩ := nxR_ex (0 : Nat) tkU r2 z2
  obtain ⟨v, r4, z4, h4⟩ := nxR_ex Va.zero tvF r3 z3
  have hl := tf_chain h1 h2 h3 h4
  have hs1 : r1.size ≤ 100000 := Nat.le_trans h1.szT hs
  have hs2 : r2.size ≤ 100000 := Nat.le_trans h2.szU hs1
  have hs3 : r3.size ≤ 100000 := Nat.le_trans h3.szU hs2
  have hn1 := h2.ltU; have hn2 := h3.ltU
  have HK := Lib.hid hk; have HR := Lib.hid hr; have HO := Lib.hid ho; have HF := Lib.hid hf; have HUU := Lib.hid hU; have HL := Lib.hid hl
  have H1 := Lib.hid h1; have H2 := Lib.hid h2; have H3 := Lib.hid h3; have H4 := Lib.hid h4
  have HS := Lib.hid hs; have HS1 := Lib.hid hs1; have HS2 := Lib.hid hs2; have HS3 := Lib.hid hs3
  have N1 := Lib.hid (show w.heap.size ≠ w.heap.size + 1 by omega); have N2 := Lib.hid (show w.heap.size + 2 ≠ w.heap.size + 1 by omega); have N3 := Lib.hid (show w.heap.size + 2 ≠ w.heap.size by omega)
  obtain ⟨k1, hk1⟩ : ∃ k, IntKind.i64.wrap (n1 : Int) = k := ⟨_, rfl⟩
  obtain ⟨k2, hk2⟩ : ∃ k, IntKind.i64.wrap (n2 : Int) = k := ⟨_, rfl⟩
  have HK1 := Lib.hid hk1; have HK2 := Lib.hid hk2
  clear hk hr ho hf hU hl h1 h2 h3 h4 hs hs1 hs2 hs3 hk1 hk2
  go_enter Tryz.func143, Tryz.ntmps143
  go_wp2_with (rw [HUU.out])
  go_at_call 37
  refine (text_any' _ (w.heap.size + 1) 0 102 s 0 HO.out t r1 z1 H1.out HS.out (by decide) (by decide)).mono ?_
  rintro e u1 ⟨rfl, hp⟩
  replace HK := Lib.hid (hp.k.kept HK.out (by omega)); replace HR := Lib.hid (HR.out.kE hp.k N1.out); replace HF := Lib.hid (HF.out.kE hp.k N2.out)
  replace HO := Lib.hid hp.s
  clear hp
  have f0 := HF.out.c0; have ff := HF.out.f
  have hf9 := HF.out.setP t
  replace HO := Lib.hid (HO.out.farO (g := w.heap.size + 2) (i := 0) N2.out (.string t)); replace HR := Lib.hid (HR.out.far (g := w.heap.size + 2) (i := 0) N3.out (.string t)); replace HK := Lib.hid (HK.out.setCell (a := ⟨w.heap.size + 2, 0, none⟩) (Nat.le_add_right _ 2) (.string t))
  obtain ⟨v1, hv1⟩ : ∃ u, (World.setCell u1 ⟨w.heap.size + 2, 0, none⟩ (.string t)) = u := ⟨_, rfl⟩
  simp only [Fd.withP] at hf9
  rw [hv1] at hf9 HO HR HK
  have HV1 := Lib.hid hv1
  replace HF := Lib.hid hf9
  clear hv1 hf9
  go_wp2_with (rw [HV1.out])
  clear ff f0
  go_at_call 99
  refine (nextU_any _ (w.heap.size + 1) 0 r1 z1 HO.out n1 r2 z2 H2.out HS1.out).mono ?_
  rintro e u2 ⟨rfl, hp⟩
  replace HK := Lib.hid (hp.k.kept HK.out (by omega)); replace HR := Lib.hid (HR.out.kE hp.k N1.out); replace HF := Lib.hid (HF.out.kE hp.k N2.out)
  replace HO := Lib.hid hp.s
  clear hp
  go_wp2_with fail
  go_at_call 99
  refine (nextU_any _ (w.heap.size + 1) 0 r2 z2 HO.out n2 r3 z3 H3.out HS2.out).mono ?_
  rintro e u3 ⟨rfl, hp⟩
  replace HK := Lib.hid (hp.k.kept HK.out (by omega)); replace HR := Lib.hid (HR.out.kE hp.k N1.out); replace HF := Lib.hid (HF.out.kE hp.k N2.out)
  replace HO := Lib.hid hp.s
  clear hp
  have hk1 := HK1.out; have hk2 := HK2.out
  have f1 := HF.out.c1; have f2 := HF.out.c2; have ff := HF.out.f
  have hf9 := HF.out.setKT k1 k2
  replace HO := Lib.hid ((HO.out.farO (g := w.heap.size + 2) (i := 1) N2.out (.int .i64 k1)).farO (g := w.heap.size + 2) (i := 2) N2.out (.int .i64 k2)); replace HR := Lib.hid ((HR.out.far (g := w.heap.size + 2) (i := 1) N3.out (.int .i64 k1)).far (g := w.heap.size + 2) (i := 2) N3.out (.int .i64 k2)); replace HK := Lib.hid ((HK.out.setCell (a := ⟨w.heap.size + 2, 1, none⟩) (Nat.le_add_right _ 2) (.int .i64 k1)).setCell (a := ⟨w.heap.size + 2, 2, none⟩) (Nat.le_add_right _ 2) (.int .i64 k2))
  obtain ⟨v2, hv2⟩ : ∃ u, (World.setCell (World.setCell u3 ⟨w.heap.size + 2, 1, none⟩ (.int .i64 k1)) ⟨w.heap.size + 2, 2, none⟩ (.int .i64 k2)) = u := ⟨_, rfl⟩
  rw [hv2] at hf9 HO HR HK
  have HV2 := Lib.hid hv2
  replace HF := Lib.hid hf9
  clear hv2 hf9
  go_wp2_with (rw [HV2.out])
  clear ff f1 f2
  clear hk1 hk2
  go_at_call 40
  refine (nextV_any _ (w.heap.size + 1) 0 r3 z3 HO.out v r4 z4 H4.out HS3.out).mono ?_
  rintro e u4 ⟨rfl, hp⟩
  replace HK := Lib.hid (hp.k.kept HK.out (by omega)); replace HR := Lib.hid (HR.out.kE hp.k N1.out); replace HF := Lib.hid (HF.out.kE hp.k N2.out)
  replace HO := Lib.hid hp.s
  clear hp
  have f3 := HF.out.c3; have f4 := HF.out.c4; have f5 := HF.out.c5; have ff := HF.out.f
  have hf9 := HF.out.setDef v
  replace HO := Lib.hid (((HO.out.farO (g := w.heap.size + 2) (i := 3) N2.out (.int .i64 v.k)).farO (g := w.heap.size + 2) (i := 4) N2.out (.int .i64 v.n)).farO (g := w.heap.size + 2) (i := 5) N2.out (.string v.t)); replace HR := Lib.hid (((HR.out.far (g := w.heap.size + 2) (i := 3) N3.out (.int .i64 v.k)).far (g := w.heap.size + 2) (i := 4) N3.out (.int .i64 v.n)).far (g := w.heap.size + 2) (i := 5) N3.out (.string v.t)); replace HK := Lib.hid (((HK.out.setCell (a := ⟨w.heap.size + 2, 3, none⟩) (Nat.le_add_right _ 2) (.int .i64 v.k)).setCell (a := ⟨w.heap.size + 2, 4, none⟩) (Nat.le_add_right _ 2) (.int .i64 v.n)).setCell (a := ⟨w.heap.size + 2, 5, none⟩) (Nat.le_add_right _ 2) (.string v.t))
  obtain ⟨v3, hv3⟩ : ∃ u, (World.setCell (World.setCell (World.setCell u4 ⟨w.heap.size + 2, 3, none⟩ (.int .i64 v.k)) ⟨w.heap.size + 2, 4, none⟩ (.int .i64 v.n)) ⟨w.heap.size + 2, 5, none⟩ (.string v.t)) = u := ⟨_, rfl⟩
  simp only [Fd.withD] at hf9
  rw [hv3] at hf9 HO HR HK
  have HV3 := Lib.hid hv3
  replace HF := Lib.hid hf9
  clear hv3 hf9
  by_cases hz : z4 = 0
  · subst hz
    by_cases hb : 3 < n1 ∨ 3 < n2
    · have HFIN := Lib.hid (show Ending.returned (.tuple #[.agg #[.string ⟨#[]⟩, .int .i64 0, .int .i64 0, .int .i64 0, .int .i64 0, .string ⟨#[]⟩], .string ⟨#[]⟩, .int .i64 3]) = Ending.returned (.tuple #[.agg #[.string (tfX s).p, .int .i64 (tfX s).k, .int .i64 (tfX s).t, .int .i64 (tfX s).vk, .int .i64 (tfX s).vn, .string (tfX s).vt], .string (tfR s), .int .i64 (tfE s)]) by
        have hl := HL.out
        rw [show tfErr n1 n2 0 = 3 from by unfold tfErr; rw [if_pos ⟨rfl, hb⟩], if_pos (by decide)] at hl
        obtain ⟨t1, t2, t3⟩ := tf_of hl
        rw [t1, t2, t3]; rfl)
      by_cases hle : n1 ≤ n2
      · have hm : max (n1 : Int) (n2 : Int) = (n2 : Int) := by omega
        have hmn : max n1 n2 = n2 := by omega
        have m1 : decide ((3 : Int) < (n2 : Int)) = true := decide_eq_true (by omega)
        have m2 : decide (3 < n2) = true := decide_eq_true (by omega)
        clear hb hle
        have d1 := HO.out.c1; have df := HO.out.f 1
        have ho9 := HO.out.put1 3
        replace HR := Lib.hid (HR.out.far (g := w.heap.size + 1) (i := 1) N1.out.symm (.int .i64 3)); replace HF := Lib.hid (HF.out.far (g := w.heap.size + 1) (i := 1) N2.out.symm (.int .i64 3)); replace HK := Lib.hid (HK.out.setCell (a := ⟨w.heap.size + 1, 1, none⟩) (Nat.le_add_right _ 1) (.int .i64 3))
        obtain ⟨v4, hv4⟩ : ∃ u, World.setCell v3 ⟨w.heap.size + 1, 1, none⟩ (.int .i64 3) = u := ⟨_, rfl⟩
        have ho8 : SouO v4 (w.heap.size + 1) 0 r4 3 := by rw [← hv4]; exact ho9
        rw [hv4] at HR HF HK
        have HV4 := Lib.hid hv4
        replace HO := Lib.hid ho8
        clear hv4 ho8 ho9
        have D1 := HO.out.c1
        go_wp2_with (first | rw [HV3.out] | rw [HV4.out])
        clear d1 df D1 ff f3 f4 f5
        have g0 := KExtE.cell (b := w.heap.size) N1.out.symm HO.out.c0; have g1 := KExtE.cell (b := w.heap.size) N1.out.symm HO.out.c1
        have E0 := KExtE.cell (b := w.heap.size) N3.out HF.out.c0
        have E1 := KExtE.cell (b := w.heap.size) N3.out HF.out.c1
        have E2 := KExtE.cell (b := w.heap.size) N3.out HF.out.c2
        have E3 := KExtE.cell (b := w.heap.size) N3.out HF.out.c3
        have E4 := KExtE.cell (b := w.heap.size) N3.out HF.out.c4
        have E5 := KExtE.cell (b := w.heap.size) N3.out HF.out.c5
        refine region_planE w.heap.size v4 6 (.read [0, 1, 2] (.one 3 (.read [4, 5] .stop))) (by kernel_rfl) (by kernel_rfl) (by kernel_rfl) (by kernel_rfl) (by kernel_rfl) (fun _ d _ _ _ h => by cases d <;> exact h) (Kept.refl _) ?_
        intro wd hwd
        have HV := Lib.hid hwd
        clear hwd
        rw [wpPlan_read]
        simp only [pA, pB, pC, pD, pE]
        repeat (go_big_quiet_step (fail))
        refine wpQuiet_nil ?_
        clear g0 g1 E0 E1 E2 E3 E4 E5
        replace HR := Lib.hid (HR.out.kept HV.out)
        have q0 := HR.out.c0; have q1 := HR.out.c1; have q2 := HR.out.c2; have q3 := HR.out.c3; have q4 := HR.out.c4; have q5 := HR.out.c5; have qf := HR.out.f
        rw [wpPlan_one]
        simp only [pA, pB, pC, pD, pE]
        go_wp2_with fail
        clear q0 q1 q2 q3 q4 q5 qf
        have HE := Lib.hid (((((((KeptE.of (G := w.heap.size) HV.out).set (a := ⟨w.heap.size, 0, none⟩) (.inl rfl) (.string ⟨#[]⟩)).set (a := ⟨w.heap.size, 1, none⟩) (.inl rfl) (.int .i64 0)).set (a := ⟨w.heap.size, 2, none⟩) (.inl rfl) (.int .i64 0)).set (a := ⟨w.heap.size, 3, none⟩) (.inl rfl) (.int .i64 0)).set (a := ⟨w.heap.size, 4, none⟩) (.inl rfl) (.int .i64 0)).set (a := ⟨w.heap.size, 5, none⟩) (.inl rfl) (.string ⟨#[]⟩))
        have HKF := Lib.hid (((((((HK.out.trans HV.out).setCell (a := ⟨w.heap.size, 0, none⟩) (Nat.le_refl _) (.string ⟨#[]⟩)).setCell (a := ⟨w.heap.size, 1, none⟩) (Nat.le_refl _) (.int .i64 0)).setCell (a := ⟨w.heap.size, 2, none⟩) (Nat.le_refl _) (.int .i64 0)).setCell (a := ⟨w.heap.size, 3, none⟩) (Nat.le_refl _) (.int .i64 0)).setCell (a := ⟨w.heap.size, 4, none⟩) (Nat.le_refl _) (.int .i64 0)).setCell (a := ⟨w.heap.size, 5, none⟩) (Nat.le_refl _) (.string ⟨#[]⟩))
        have HRF := Lib.hid (HR.out.setAll ⟨⟨#[]⟩, 0, 0, 0, 0, ⟨#[]⟩⟩)
        obtain ⟨w9, hw9⟩ : ∃ u, (World.setCell (World.setCell (World.setCell (World.setCell (World.setCell (World.setCell wd ⟨w.heap.size, 0, none⟩ (.string ⟨#[]⟩)) ⟨w.heap.size, 1, none⟩ (.int .i64 0)) ⟨w.heap.size, 2, none⟩ (.int .i64 0)) ⟨w.heap.size, 3, none⟩ (.int .i64 0)) ⟨w.heap.size, 4, none⟩ (.int .i64 0)) ⟨w.heap.size, 5, none⟩ (.string ⟨#[]⟩)) = u := ⟨_, rfl⟩
        simp only at HRF
        rw [hw9] at HE HKF HRF ⊢
        clear hw9
        refine soloE HE.out ?_
        rw [wpPlan_read]
        simp only [pA, pB, pC, pD, pE]
        repeat (go_big_quiet_step (fail))
        refine wpQuiet_nil ?_
        refine wpPlan_stop ?_
        have q0 := HRF.out.c0; have q1 := HRF.out.c1; have q2 := HRF.out.c2; have q3 := HRF.out.c3; have q4 := HRF.out.c4; have q5 := HRF.out.c5
        go_wp2_with fail
        exact bodyPost_ret (by simp [results, Tryz.results143, go_sem, *]) rfl ⟨HFIN.out, HKF.out⟩
      · have hm : max (n1 : Int) (n2 : Int) = (n1 : Int) := by omega
        have hmn : max n1 n2 = n1 := by omega
        have m1 : decide ((3 : Int) < (n1 : Int)) = true := decide_eq_true (by omega)
        have m2 : decide (3 < n1) = true := decide_eq_true (by omega)
        clear hb hle
        have d1 := HO.out.c1; have df := HO.out.f 1
        have ho9 := HO.out.put1 3
        replace HR := Lib.hid (HR.out.far (g := w.heap.size + 1) (i := 1) N1.out.symm (.int .i64 3)); replace HF := Lib.hid (HF.out.far (g := w.heap.size + 1) (i := 1) N2.out.symm (.int .i64 3)); replace HK := Lib.hid (HK.out.setCell (a := ⟨w.heap.size + 1, 1, none⟩) (Nat.le_add_right _ 1) (.int .i64 3))
        obtain ⟨v4, hv4⟩ : ∃ u, World.setCell v3 ⟨w.heap.size + 1, 1, none⟩ (.int .i64 3) = u := ⟨_, rfl⟩
        have ho8 : SouO v4 (w.heap.size + 1) 0 r4 3 := by rw [← hv4]; exact ho9
        rw [hv4] at HR HF HK
        have HV4 := Lib.hid hv4
        replace HO := Lib.hid ho8
        clear hv4 ho8 ho9
        have D1 := HO.out.c1
        go_wp2_with (first | rw [HV3.out] | rw [HV4.out])
        clear d1 df D1 ff f3 f4 f5
        have g0 := KExtE.cell (b := w.heap.size) N1.out.symm HO.out.c0; have g1 := KExtE.cell (b := w.heap.size) N1.out.symm HO.out.c1
        have E0 := KExtE.cell (b := w.heap.size) N3.out HF.out.c0
        have E1 := KExtE.cell (b := w.heap.size) N3.out HF.out.c1
        have E2 := KExtE.cell (b := w.heap.size) N3.out HF.out.c2
        have E3 := KExtE.cell (b := w.heap.size) N3.out HF.out.c3
        have E4 := KExtE.cell (b := w.heap.size) N3.out HF.out.c4
        have E5 := KExtE.cell (b := w.heap.size) N3.out HF.out.c5
        refine region_planE w.heap.size v4 6 (.read [0, 1, 2] (.one 3 (.read [4, 5] .stop))) (by kernel_rfl) (by kernel_rfl) (by kernel_rfl) (by kernel_rfl) (by kernel_rfl) (fun _ d _ _ _ h => by cases d <;> exact h) (Kept.refl _) ?_
        intro wd hwd
        have HV := Lib.hid hwd
        clear hwd
        rw [wpPlan_read]
        simp only [pA, pB, pC, pD, pE]
        repeat (go_big_quiet_step (fail))
        refine wpQuiet_nil ?_
        clear g0 g1 E0 E1 E2 E3 E4 E5
        replace HR := Lib.hid (HR.out.kept HV.out)
        have q0 := HR.out.c0; have q1 := HR.out.c1; have q2 := HR.out.c2; have q3 := HR.out.c3; have q4 := HR.out.c4; have q5 := HR.out.c5; have qf := HR.out.f
        rw [wpPlan_one]
        simp only [pA, pB, pC, pD, pE]
        go_wp2_with fail
        clear q0 q1 q2 q3 q4 q5 qf
        have HE := Lib.hid (((((((KeptE.of (G := w.heap.size) HV.out).set (a := ⟨w.heap.size, 0, none⟩) (.inl rfl) (.string ⟨#[]⟩)).set (a := ⟨w.heap.size, 1, none⟩) (.inl rfl) (.int .i64 0)).set (a := ⟨w.heap.size, 2, none⟩) (.inl rfl) (.int .i64 0)).set (a := ⟨w.heap.size, 3, none⟩) (.inl rfl) (.int .i64 0)).set (a := ⟨w.heap.size, 4, none⟩) (.inl rfl) (.int .i64 0)).set (a := ⟨w.heap.size, 5, none⟩) (.inl rfl) (.string ⟨#[]⟩))
        have HKF := Lib.hid (((((((HK.out.trans HV.out).setCell (a := ⟨w.heap.size, 0, none⟩) (Nat.le_refl _) (.string ⟨#[]⟩)).setCell (a := ⟨w.heap.size, 1, none⟩) (Nat.le_refl _) (.int .i64 0)).setCell (a := ⟨w.heap.size, 2, none⟩) (Nat.le_refl _) (.int .i64 0)).setCell (a := ⟨w.heap.size, 3, none⟩) (Nat.le_refl _) (.int .i64 0)).setCell (a := ⟨w.heap.size, 4, none⟩) (Nat.le_refl _) (.int .i64 0)).setCell (a := ⟨w.heap.size, 5, none⟩) (Nat.le_refl _) (.string ⟨#[]⟩))
        have HRF := Lib.hid (HR.out.setAll ⟨⟨#[]⟩, 0, 0, 0, 0, ⟨#[]⟩⟩)
        obtain ⟨w9, hw9⟩ : ∃ u, (World.setCell (World.setCell (World.setCell (World.setCell (World.setCell (World.setCell wd ⟨w.heap.size, 0, none⟩ (.string ⟨#[]⟩)) ⟨w.heap.size, 1, none⟩ (.int .i64 0)) ⟨w.heap.size, 2, none⟩ (.int .i64 0)) ⟨w.heap.size, 3, none⟩ (.int .i64 0)) ⟨w.heap.size, 4, none⟩ (.int .i64 0)) ⟨w.heap.size, 5, none⟩ (.string ⟨#[]⟩)) = u := ⟨_, rfl⟩
        simp only at HRF
        rw [hw9] at HE HKF HRF ⊢
        clear hw9
        refine soloE HE.out ?_
        rw [wpPlan_read]
        simp only [pA, pB, pC, pD, pE]
        repeat (go_big_quiet_step (fail))
        refine wpQuiet_nil ?_
        refine wpPlan_stop ?_
        have q0 := HRF.out.c0; have q1 := HRF.out.c1; have q2 := HRF.out.c2; have q3 := HRF.out.c3; have q4 := HRF.out.c4; have q5 := HRF.out.c5
        go_wp2_with fail
        exact bodyPost_ret (by simp [results, Tryz.results143, go_sem, *]) rfl ⟨HFIN.out, HKF.out⟩
    · have HFIN := Lib.hid (show Ending.returned (.tuple #[.agg #[.string t, .int .i64 k1, .int .i64 k2, .int .i64 v.k, .int .i64 v.n, .string v.t], .string r4, .int .i64 0]) = Ending.returned (.tuple #[.agg #[.string (tfX s).p, .int .i64 (tfX s).k, .int .i64 (tfX s).t, .int .i64 (tfX s).vk, .int .i64 (tfX s).vn, .string (tfX s).vt], .string (tfR s), .int .i64 (tfE s)]) by
        have hl := HL.out
        rw [show tfErr n1 n2 0 = 0 from by unfold tfErr; rw [if_neg (fun h => hb h.2)], if_neg (by decide)] at hl
        obtain ⟨t1, t2, t3⟩ := tf_of hl
        rw [t1, t2, t3]
        rw [show k1 = (n1 : Int) from by rw [← HK1.out, IntWalk.i64_in _ (by omega)], show k2 = (n2 : Int) from by rw [← HK2.out, IntWalk.i64_in _ (by omega)]]
        rfl)
      by_cases hle : n1 ≤ n2
      · have hm : max (n1 : Int) (n2 : Int) = (n2 : Int) := by omega
        have hmn : max n1 n2 = n2 := by omega
        have m1 : decide ((3 : Int) < (n2 : Int)) = false := decide_eq_false (by omega)
        have m2 : decide (3 < n2) = false := decide_eq_false (by omega)
        clear hb hle
        have d1 := HO.out.c1
        go_wp2_with (rw [HV3.out])
        clear d1 ff f3 f4 f5
        have g0 := KExtE.cell (b := w.heap.size) N1.out.symm HO.out.c0; have g1 := KExtE.cell (b := w.heap.size) N1.out.symm HO.out.c1
        have E0 := KExtE.cell (b := w.heap.size) N3.out HF.out.c0
        have E1 := KExtE.cell (b := w.heap.size) N3.out HF.out.c1
        have E2 := KExtE.cell (b := w.heap.size) N3.out HF.out.c2
        have E3 := KExtE.cell (b := w.heap.size) N3.out HF.out.c3
        have E4 := KExtE.cell (b := w.heap.size) N3.out HF.out.c4
        have E5 := KExtE.cell (b := w.heap.size) N3.out HF.out.c5
        refine region_planE w.heap.size v3 6 (.read [0, 1, 2] (.one 3 (.read [4, 5] .stop))) (by kernel_rfl) (by kernel_rfl) (by kernel_rfl) (by kernel_rfl) (by kernel_rfl) (fun _ d _ _ _ h => by cases d <;> exact h) (Kept.refl _) ?_
        intro wd hwd
        have HV := Lib.hid hwd
        clear hwd
        rw [wpPlan_read]
        simp only [pA, pB, pC, pD, pE]
        repeat (go_big_quiet_step (fail))
        refine wpQuiet_nil ?_
        clear g0 g1 E0 E1 E2 E3 E4 E5
        replace HR := Lib.hid (HR.out.kept HV.out)
        have q0 := HR.out.c0; have q1 := HR.out.c1; have q2 := HR.out.c2; have q3 := HR.out.c3; have q4 := HR.out.c4; have q5 := HR.out.c5; have qf := HR.out.f
        rw [wpPlan_one]
        simp only [pA, pB, pC, pD, pE]
        go_wp2_with fail
        clear q0 q1 q2 q3 q4 q5 qf
        have HE := Lib.hid (((((((KeptE.of (G := w.heap.size) HV.out).set (a := ⟨w.heap.size, 0, none⟩) (.inl rfl) (.string t)).set (a := ⟨w.heap.size, 1, none⟩) (.inl rfl) (.int .i64 k1)).set (a := ⟨w.heap.size, 2, none⟩) (.inl rfl) (.int .i64 k2)).set (a := ⟨w.heap.size, 3, none⟩) (.inl rfl) (.int .i64 v.k)).set (a := ⟨w.heap.size, 4, none⟩) (.inl rfl) (.int .i64 v.n)).set (a := ⟨w.heap.size, 5, none⟩) (.inl rfl) (.string v.t))
        have HKF := Lib.hid (((((((HK.out.trans HV.out).setCell (a := ⟨w.heap.size, 0, none⟩) (Nat.le_refl _) (.string t)).setCell (a := ⟨w.heap.size, 1, none⟩) (Nat.le_refl _) (.int .i64 k1)).setCell (a := ⟨w.heap.size, 2, none⟩) (Nat.le_refl _) (.int .i64 k2)).setCell (a := ⟨w.heap.size, 3, none⟩) (Nat.le_refl _) (.int .i64 v.k)).setCell (a := ⟨w.heap.size, 4, none⟩) (Nat.le_refl _) (.int .i64 v.n)).setCell (a := ⟨w.heap.size, 5, none⟩) (Nat.le_refl _) (.string v.t))
        have HRF := Lib.hid (HR.out.setAll ⟨t, k1, k2, v.k, v.n, v.t⟩)
        obtain ⟨w9, hw9⟩ : ∃ u, (World.setCell (World.setCell (World.setCell (World.setCell (World.setCell (World.setCell wd ⟨w.heap.size, 0, none⟩ (.string t)) ⟨w.heap.size, 1, none⟩ (.int .i64 k1)) ⟨w.heap.size, 2, none⟩ (.int .i64 k2)) ⟨w.heap.size, 3, none⟩ (.int .i64 v.k)) ⟨w.heap.size, 4, none⟩ (.int .i64 v.n)) ⟨w.heap.size, 5, none⟩ (.string v.t)) = u := ⟨_, rfl⟩
        simp only at HRF
        rw [hw9] at HE HKF HRF ⊢
        clear hw9
        refine soloE HE.out ?_
        rw [wpPlan_read]
        simp only [pA, pB, pC, pD, pE]
        repeat (go_big_quiet_step (fail))
        refine wpQuiet_nil ?_
        refine wpPlan_stop ?_
        have q0 := HRF.out.c0; have q1 := HRF.out.c1; have q2 := HRF.out.c2; have q3 := HRF.out.c3; have q4 := HRF.out.c4; have q5 := HRF.out.c5
        go_wp2_with fail
        exact bodyPost_ret (by simp [results, Tryz.results143, go_sem, *]) rfl ⟨HFIN.out, HKF.out⟩
      · have hm : max (n1 : Int) (n2 : Int) = (n1 : Int) := by omega
        have hmn : max n1 n2 = n1 := by omega
        have m1 : decide ((3 : Int) < (n1 : Int)) = false := decide_eq_false (by omega)
        have m2 : decide (3 < n1) = false := decide_eq_false (by omega)
        clear hb hle
        have d1 := HO.out.c1
        go_wp2_with (rw [HV3.out])
        clear d1 ff f3 f4 f5
        have g0 := KExtE.cell (b := w.heap.size) N1.out.symm HO.out.c0; have g1 := KExtE.cell (b := w.heap.size) N1.out.symm HO.out.c1
        have E0 := KExtE.cell (b := w.heap.size) N3.out HF.out.c0
        have E1 := KExtE.cell (b := w.heap.size) N3.out HF.out.c1
        have E2 := KExtE.cell (b := w.heap.size) N3.out HF.out.c2
        have E3 := KExtE.cell (b := w.heap.size) N3.out HF.out.c3
        have E4 := KExtE.cell (b := w.heap.size) N3.out HF.out.c4
        have E5 := KExtE.cell (b := w.heap.size) N3.out HF.out.c5
        refine region_planE w.heap.size v3 6 (.read [0, 1, 2] (.one 3 (.read [4, 5] .stop))) (by kernel_rfl) (by kernel_rfl) (by kernel_rfl) (by kernel_rfl) (by kernel_rfl) (fun _ d _ _ _ h => by cases d <;> exact h) (Kept.refl _) ?_
        intro wd hwd
        have HV := Lib.hid hwd
        clear hwd
        rw [wpPlan_read]
        simp only [pA, pB, pC, pD, pE]
        repeat (go_big_quiet_step (fail))
        refine wpQuiet_nil ?_
        clear g0 g1 E0 E1 E2 E3 E4 E5
        replace HR := Lib.hid (HR.out.kept HV.out)
        have q0 := HR.out.c0; have q1 := HR.out.c1; have q2 := HR.out.c2; have q3 := HR.out.c3; have q4 := HR.out.c4; have q5 := HR.out.c5; have qf := HR.out.f
        rw [wpPlan_one]
        simp only [pA, pB, pC, pD, pE]
        go_wp2_with fail
        clear q0 q1 q2 q3 q4 q5 qf
        have HE := Lib.hid (((((((KeptE.of (G := w.heap.size) HV.out).set (a := ⟨w.heap.size, 0, none⟩) (.inl rfl) (.string t)).set (a := ⟨w.heap.size, 1, none⟩) (.inl rfl) (.int .i64 k1)).set (a := ⟨w.heap.size, 2, none⟩) (.inl rfl) (.int .i64 k2)).set (a := ⟨w.heap.size, 3, none⟩) (.inl rfl) (.int .i64 v.k)).set (a := ⟨w.heap.size, 4, none⟩) (.inl rfl) (.int .i64 v.n)).set (a := ⟨w.heap.size, 5, none⟩) (.inl rfl) (.string v.t))
        have HKF := Lib.hid (((((((HK.out.trans HV.out).setCell (a := ⟨w.heap.size, 0, none⟩) (Nat.le_refl _) (.string t)).setCell (a := ⟨w.heap.size, 1, none⟩) (Nat.le_refl _) (.int .i64 k1)).setCell (a := ⟨w.heap.size, 2, none⟩) (Nat.le_refl _) (.int .i64 k2)).setCell (a := ⟨w.heap.size, 3, none⟩) (Nat.le_refl _) (.int .i64 v.k)).setCell (a := ⟨w.heap.size, 4, none⟩) (Nat.le_refl _) (.int .i64 v.n)).setCell (a := ⟨w.heap.size, 5, none⟩) (Nat.le_refl _) (.string v.t))
        have HRF := Lib.hid (HR.out.setAll ⟨t, k1, k2, v.k, v.n, v.t⟩)
        obtain ⟨w9, hw9⟩ : ∃ u, (World.setCell (World.setCell (World.setCell (World.setCell (World.setCell (World.setCell wd ⟨w.heap.size, 0, none⟩ (.string t)) ⟨w.heap.size, 1, none⟩ (.int .i64 k1)) ⟨w.heap.size, 2, none⟩ (.int .i64 k2)) ⟨w.heap.size, 3, none⟩ (.int .i64 v.k)) ⟨w.heap.size, 4, none⟩ (.int .i64 v.n)) ⟨w.heap.size, 5, none⟩ (.string v.t)) = u := ⟨_, rfl⟩
        simp only at HRF
        rw [hw9] at HE HKF HRF ⊢
        clear hw9
        refine soloE HE.out ?_
        rw [wpPlan_read]
        simp only [pA, pB, pC, pD, pE]
        repeat (go_big_quiet_step (fail))
        refine wpQuiet_nil ?_
        refine wpPlan_stop ?_
        have q0 := HRF.out.c0; have q1 := HRF.out.c1; have q2 := HRF.out.c2; have q3 := HRF.out.c3; have q4 := HRF.out.c4; have q5 := HRF.out.c5
        go_wp2_with fail
        exact bodyPost_ret (by simp [results, Tryz.results143, go_sem, *]) rfl ⟨HFIN.out, HKF.out⟩
  · have HFIN := Lib.hid (show Ending.returned (.tuple #[.agg #[.string ⟨#[]⟩, .int .i64 0, .int .i64 0, .int .i64 0, .int .i64 0, .string ⟨#[]⟩], .string ⟨#[]⟩, .int .i64 (z4 : Int)]) = Ending.returned (.tuple #[.agg #[.string (tfX s).p, .int .i64 (tfX s).k, .int .i64 (tfX s).t, .int .i64 (tfX s).vk, .int .i64 (tfX s).vn, .string (tfX s).vt], .string (tfR s), .int .i64 (tfE s)]) by
      have hl := HL.out
      rw [show tfErr n1 n2 z4 = z4 from by unfold tfErr; rw [if_neg (fun h => hz h.1)], if_pos hz] at hl
      obtain ⟨t1, t2, t3⟩ := tf_of hl
      rw [t1, t2, t3]; rfl)
    have e1 : ((z4 : Int) == 0) = false := by simp; omega
    have e2 : ((z4 : Int) != 0) = true := by simp; omega
    clear hz
    have d1 := HO.out.c1
    go_wp2_with (rw [HV3.out])
    clear d1 ff f3 f4 f5
    have g0 := KExtE.cell (b := w.heap.size) N1.out.symm HO.out.c0; have g1 := KExtE.cell (b := w.heap.size) N1.out.symm HO.out.c1
    have E0 := KExtE.cell (b := w.heap.size) N3.out HF.out.c0
    have E1 := KExtE.cell (b := w.heap.size) N3.out HF.out.c1
    have E2 := KExtE.cell (b := w.heap.size) N3.out HF.out.c2
    have E3 := KExtE.cell (b := w.heap.size) N3.out HF.out.c3
    have E4 := KExtE.cell (b := w.heap.size) N3.out HF.out.c4
    have E5 := KExtE.cell (b := w.heap.size) N3.out HF.out.c5
    refine region_planE w.heap.size v3 6 (.read [0, 1, 2] (.one 3 (.read [4, 5] .stop))) (by kernel_rfl) (by kernel_rfl) (by kernel_rfl) (by kernel_rfl) (by kernel_rfl) (fun _ d _ _ _ h => by cases d <;> exact h) (Kept.refl _) ?_
    intro wd hwd
    have HV := Lib.hid hwd
    clear hwd
    rw [wpPlan_read]
    simp only [pA, pB, pC, pD, pE]
    repeat (go_big_quiet_step (fail))
    refine wpQuiet_nil ?_
    clear g0 g1 E0 E1 E2 E3 E4 E5
    replace HR := Lib.hid (HR.out.kept HV.out)
    have q0 := HR.out.c0; have q1 := HR.out.c1; have q2 := HR.out.c2; have q3 := HR.out.c3; have q4 := HR.out.c4; have q5 := HR.out.c5; have qf := HR.out.f
    rw [wpPlan_one]
    simp only [pA, pB, pC, pD, pE]
    go_wp2_with fail
    clear q0 q1 q2 q3 q4 q5 qf
    have HE := Lib.hid (((((((KeptE.of (G := w.heap.size) HV.out).set (a := ⟨w.heap.size, 0, none⟩) (.inl rfl) (.string ⟨#[]⟩)).set (a := ⟨w.heap.size, 1, none⟩) (.inl rfl) (.int .i64 0)).set (a := ⟨w.heap.size, 2, none⟩) (.inl rfl) (.int .i64 0)).set (a := ⟨w.heap.size, 3, none⟩) (.inl rfl) (.int .i64 0)).set (a := ⟨w.heap.size, 4, none⟩) (.inl rfl) (.int .i64 0)).set (a := ⟨w.heap.size, 5, none⟩) (.inl rfl) (.string ⟨#[]⟩))
    have HKF := Lib.hid (((((((HK.out.trans HV.out).setCell (a := ⟨w.heap.size, 0, none⟩) (Nat.le_refl _) (.string ⟨#[]⟩)).setCell (a := ⟨w.heap.size, 1, none⟩) (Nat.le_refl _) (.int .i64 0)).setCell (a := ⟨w.heap.size, 2, none⟩) (Nat.le_refl _) (.int .i64 0)).setCell (a := ⟨w.heap.size, 3, none⟩) (Nat.le_refl _) (.int .i64 0)).setCell (a := ⟨w.heap.size, 4, none⟩) (Nat.le_refl _) (.int .i64 0)).setCell (a := ⟨w.heap.size, 5, none⟩) (Nat.le_refl _) (.string ⟨#[]⟩))
    have HRF := Lib.hid (HR.out.setAll ⟨⟨#[]⟩, 0, 0, 0, 0, ⟨#[]⟩⟩)
    obtain ⟨w9, hw9⟩ : ∃ u, (World.setCell (World.setCell (World.setCell (World.setCell (World.setCell (World.setCell wd ⟨w.heap.size, 0, none⟩ (.string ⟨#[]⟩)) ⟨w.heap.size, 1, none⟩ (.int .i64 0)) ⟨w.heap.size, 2, none⟩ (.int .i64 0)) ⟨w.heap.size, 3, none⟩ (.int .i64 0)) ⟨w.heap.size, 4, none⟩ (.int .i64 0)) ⟨w.heap.size, 5, none⟩ (.string ⟨#[]⟩)) = u := ⟨_, rfl⟩
    simp only at HRF
    rw [hw9] at HE HKF HRF ⊢
    clear hw9
    refine soloE HE.out ?_
    rw [wpPlan_read]
    simp only [pA, pB, pC, pD, pE]
    repeat (go_big_quiet_step (fail))
    refine wpQuiet_nil ?_
    refine wpPlan_stop ?_
    have q0 := HRF.out.c0; have q1 := HRF.out.c1; have q2 := HRF.out.c2; have q3 := HRF.out.c3; have q4 := HRF.out.c4; have q5 := HRF.out.c5
    go_wp2_with fail
    exact bodyPost_ret (by simp [results, Tryz.results143, go_sem, *]) rfl ⟨HFIN.out, HKF.out⟩
end Go.Proofs.YtofnpifooaijcaaGreat
