/-
  What is proved: the document's forth, back, Apply, Back and Turn of layer 13 (P13.1 to P13.3), called with any table and value, return what the chapter says; the world has new blocks at most.
  the document's Turn and Same of layer 13 (P13.3, P13.8), called with any tables, return what the chapter says; the world has new blocks at most.
-/
import Derived.Test.YtjcnjmlgedmmoaaDoorM9
namespace Go.Proofs.YtjcnjmlgedmmoaaDoor
open Go.RowKit
set_option linter.unusedVariables false

/-- A table in a block of its own. -/
structure TabB (w : World) (b : Nat) (A : Option Addr) (n c : Nat) (T : Tb) : Prop where
  c0 : w.cell? ⟨b, 0, none⟩ = some (.slice A n c)
  c1 : w.cell? ⟨b, 1, none⟩ = some (.bool T.keep)
  c2 : w.cell? ⟨b, 2, none⟩ = some (.int .i64 T.d.k)
  c3 : w.cell? ⟨b, 3, none⟩ = some (.int .i64 T.d.n)
  c4 : w.cell? ⟨b, 4, none⟩ = some (.string T.d.t)
  c5 : w.cell? ⟨b, 5, none⟩ = some (.int .i64 T.b.k)
  c6 : w.cell? ⟨b, 6, none⟩ = some (.int .i64 T.b.n)
  c7 : w.cell? ⟨b, 7, none⟩ = some (.string T.b.t)
  c8 : w.cell? ⟨b, 8, none⟩ = some (.bool T.tu)
  f : ∀ j, w.frozen? ⟨b, j, none⟩ = false
  lt : b < w.heap.size
theorem TabB.kept {w w' : World} {b : Nat} {A : Option Addr} {n c : Nat} {T : Tb} (h : TabB w b A n c T) (hg : Kept w w') : TabB w' b A n c T :=
  ⟨hg.cell h.c0, hg.cell h.c1, hg.cell h.c2, hg.cell h.c3, hg.cell h.c4, hg.cell h.c5, hg.cell h.c6, hg.cell h.c7, hg.cell h.c8, fun j => (hg.2.1 ⟨b, j, none⟩ h.lt).trans (h.f j), Nat.lt_of_lt_of_le h.lt hg.2.2⟩
theorem TabB.new (w : World) (A : Option Addr) (n c : Nat) (T : Tb) (ty : TypeId) : TabB (w.alloc (.cells #[.slice A n c, .bool T.keep, .int .i64 T.d.k, .int .i64 T.d.n, .string T.d.t, .int .i64 T.b.k, .int .i64 T.b.n, .string T.b.t, .bool T.tu] ty)) w.heap.size A n c T :=
  ⟨(Kept.refl _).box 0 _ rfl, (Kept.refl _).box 1 _ rfl, (Kept.refl _).box 2 _ rfl, (Kept.refl _).box 3 _ rfl, (Kept.refl _).box 4 _ rfl, (Kept.refl _).box 5 _ rfl, (Kept.refl _).box 6 _ rfl, (Kept.refl _).box 7 _ rfl, (Kept.refl _).box 8 _ rfl, fun j => by rw [frozen?_alloc_cells]; simp [World.frozen?], by simp⟩
theorem forthT_at {T : Tb} {v : Va} {y : Pa} {z : Bool} (h : firstR T.L v false = (y, z)) : forthT T v = if z = true then y.t else if T.keep = true then v else T.d := by
  rw [firstR_F] at h
  unfold forthT
  split at h <;> rename_i e <;> rw [e] <;> obtain ⟨rfl, rfl⟩ := Prod.mk.inj h <;> simp
theorem backT_at {T : Tb} {v : Va} {y : Pa} {z : Bool} (h : firstR T.L v true = (y, z)) : backT T v = if z = true then y.f else if T.keep = true then v else T.b := by
  rw [firstR_T] at h
  unfold backT
  split at h <;> rename_i e <;> rw [e] <;> obtain ⟨rfl, rfl⟩ := Prod.mk.inj h <;> simp
set_option maxRecDepth 100000 in
set_option maxHeartbeats 8000000 in
theorem rforth_any (A : Option Addr) (n c : Nat) (T : Tb) (v : Va) (w : World) (h : Pal w A n c T.L) (R : Va) (hR : forthT T v = R) :
    Calls Tryd.prog 34 #[.agg #[.slice A n c, .bool T.keep, .int .i64 T.d.k, .int .i64 T.d.n, .string T.d.t, .int .i64 T.b.k, .int .i64 T.b.n, .string T.b.t, .bool T.tu], .agg #[.int .i64 v.k, .int .i64 v.n, .string v.t]] w fun e w' => e = .returned (.agg #[.int .i64 R.k, .int .i64 R.n, .string R.t]) ∧ Kept w w' := by
  have hk := (((Kept.refl w).alloc #[.slice A n c, .bool T.keep, .int .i64 T.d.k, .int .i64 T.d.n, .string T.d.t, .int .i64 T.b.k, .int .i64 T.b.n, .string T.b.t, .bool T.tu] 26).alloc #[.int .i64 v.k, .int .i64 v.n, .string v.t] 24).alloc #[.int .i64 0, .int .i64 0, .string ⟨#[]⟩] 24
  have k1 := ((Kept.refl (w.alloc (.cells #[.slice A n c, .bool T.keep, .int .i64 T.d.k, .int .i64 T.d.n, .string T.d.t, .int .i64 T.b.k, .int .i64 T.b.n, .string T.b.t, .bool T.tu] 26))).alloc #[.int .i64 v.k, .int .i64 v.n, .string v.t] 24).alloc #[.int .i64 0, .int .i64 0, .string ⟨#[]⟩] 24
  have k2 := (Kept.refl ((w.alloc (.cells #[.slice A n c, .bool T.keep, .int .i64 T.d.k, .int .i64 T.d.n, .string T.d.t, .int .i64 T.b.k, .int .i64 T.b.n, .string T.b.t, .bool T.tu] 26)).alloc (.cells #[.int .i64 v.k, .int .i64 v.n, .string v.t] 24))).alloc #[.int .i64 0, .int .i64 0, .string ⟨#[]⟩] 24
  have ht := (TabB.new w A n c T 26).kept k1
  have hv := (VaO.new (w.alloc (.cells #[.slice A n c, .bool T.keep, .int .i64 T.d.k, .int .i64 T.d.n, .string T.d.t, .int .i64 T.b.k, .int .i64 T.b.n, .string T.b.t, .bool T.tu] 26)) v 24).kept k2
  have hr := VaO.new ((w.alloc (.cells #[.slice A n c, .bool T.keep, .int .i64 T.d.k, .int .i64 T.d.n, .string T.d.t, .int .i64 T.b.k, .int .i64 T.b.n, .string T.b.t, .bool T.tu] 26)).alloc (.cells #[.int .i64 v.k, .int .i64 v.n, .string v.t] 24)) .zero 24
  simp only [Va.zero] at hr
  rw [show (w.alloc (.cells #[.slice A n c, .bool T.keep, .int .i64 T.d.k, .int .i64 T.d.n, .string T.d.t, .int .i64 T.b.k, .int .i64 T.b.n, .string T.b.t, .bool T.tu] 26)).heap.size = w.heap.size + 1 by simp] at hv
  rw [show ((w.alloc (.cells #[.slice A n c, .bool T.keep, .int .i64 T.d.k, .int .i64 T.d.n, .string T.d.t, .int .i64 T.b.k, .int .i64 T.b.n, .string T.b.t, .bool T.tu] 26)).alloc (.cells #[.int .i64 v.k, .int .i64 v.n, .string v.t] 24)).heap.size = w.heap.size + 1 + 1 by simp] at hr
  have hh := h.kept hk
  obtain ⟨U, hU⟩ : ∃ U, ((w.alloc (.cells #[.slice A n c, .bool T.keep, .int .i64 T.d.k, .int .i64 T.d.n, .string T.d.t, .int .i64 T.b.k, .int .i64 T.b.n, .string T.b.t, .bool T.tu] 26)).alloc (.cells #[.int .i64 v.k, .int .i64 v.n, .string v.t] 24)).alloc (.cells #[.int .i64 0, .int .i64 0, .string ⟨#[]⟩] 24) = U := ⟨_, rfl⟩
  rw [hU] at hk ht hv hr hh
  have HK := Lib.hid hk; have HUU := Lib.hid hU; have HT := Lib.hid ht; have HV := Lib.hid hv; have HR := Lib.hid hr; have HH := Lib.hid hh
  have t0 := HT.out.c0; have t1 := HT.out.c1; have t2 := HT.out.c2; have t3 := HT.out.c3; have t4 := HT.out.c4; have t5 := HT.out.c5; have t6 := HT.out.c6; have t7 := HT.out.c7; have t8 := HT.out.c8
  have v0 := HV.out.c0; have v1 := HV.out.c1; have v2 := HV.out.c2
  clear h hk k1 k2 ht hv hr hh hU
  obtain ⟨y, z, hyz⟩ : ∃ y z, firstR T.L v false = (y, z) := ⟨_, _, rfl⟩
  have HF := Lib.hid ((forthT_at hyz).symm.trans hR)
  have AF := Lib.hid (fun w h => rfirst_any A n c T.L v false w h y z hyz)
  clear hyz hR
  go_enter Tryd.func34, Tryd.ntmps34
  go_wp2_with fail
  rw [HUU.out]
  go_wp2_with fail
  go_at_call 42
  refine (AF.out _ HH.out).mono ?_
  rintro e w1 ⟨rfl, hk1⟩
  have hka := (Kept.refl w1).alloc #[.int .i64 y.f.k, .int .i64 y.f.n, .string y.f.t, .int .i64 y.t.k, .int .i64 y.t.n, .string y.t.t] 44
  have hg := PaB.new w1 y 44
  replace HK := Lib.hid (HK.out.trans (hk1.trans hka)); replace HT := Lib.hid (HT.out.kept (hk1.trans hka)); replace HV := Lib.hid (HV.out.kept (hk1.trans hka)); replace HR := Lib.hid (HR.out.kept (hk1.trans hka))
  clear t0 t1 t2 t3 t4 t5 t6 t7 t8 v0 v1 v2 hk1 hka
  have r0 := HR.out.c0; have r1 := HR.out.c1; have r2 := HR.out.c2; have rf := HR.out.f
  cases z with
  | true =>
    have hf := HF.out
    rw [if_pos rfl] at hf
    subst hf
    have g0 := hg.c0; have g1 := hg.c1; have g2 := hg.c2; have g3 := hg.c3; have g4 := hg.c4; have g5 := hg.c5
    clear hg
    go_wp2_with fail
    refine bodyPost_ret (by simp [results, Tryd.results34, go_sem, *]) rfl ⟨rfl, ?_⟩
    exact ((HK.out.setCell (a := ⟨w.heap.size + 1 + 1, 0, none⟩) (by simp; omega) _).setCell (a := ⟨w.heap.size + 1 + 1, 1, none⟩) (by simp; omega) _).setCell (a := ⟨w.heap.size + 1 + 1, 2, none⟩) (by simp; omega) _
  | false =>
    clear hg
    have t1 := HT.out.c1
    cases hkp : T.keep with
    | true =>
      have hf := HF.out
      rw [if_neg (by simp), if_pos hkp] at hf
      subst hf
      rw [hkp] at t1
      have v0 := HV.out.c0; have v1 := HV.out.c1; have v2 := HV.out.c2
      go_wp2_with fail
      refine bodyPost_ret (by simp [results, Tryd.results34, go_sem, *]) rfl ⟨rfl, ?_⟩
      exact ((HK.out.setCell (a := ⟨w.heap.size + 1 + 1, 0, none⟩) (by simp; omega) _).setCell (a := ⟨w.heap.size + 1 + 1, 1, none⟩) (by simp; omega) _).setCell (a := ⟨w.heap.size + 1 + 1, 2, none⟩) (by simp; omega) _
    | false =>
      have hf := HF.out
      rw [if_neg (by simp), if_neg (by rw [hkp]; simp)] at hf
      subst hf
      rw [hkp] at t1
      have t2 := HT.out.c2; have t3 := HT.out.c3; have t4 := HT.out.c4
      go_wp2_with fail
      refine bodyPost_ret (by simp [results, Tryd.results34, go_sem, *]) rfl ⟨rfl, ?_⟩
      exact ((HK.out.setCell (a := ⟨w.heap.size + 1 + 1, 0, none⟩) (by simp; omega) _).setCell (a := ⟨w.heap.size + 1 + 1, 1, none⟩) (by simp; omega) _).setCell (a := ⟨w.heap.size + 1 + 1, 2, none⟩) (by simp; omega) _
set_option maxRecDepth 100000 in
set_option maxHeartbeats 8000000 in
theorem rback_any (A : Option Addr) (n c : Nat) (T : Tb) (v : Va) (w : World) (h : Pal w A n c T.L) (R : Va) (hR : backT T v = R) :
    Calls Tryd.prog 33 #[.agg #[.slice A n c, .bool T.keep, .int .i64 T.d.k, .int .i64 T.d.n, .string T.d.t, .int .i64 T.b.k, .int .i64 T.b.n, .string T.b.t, .bool T.tu], .agg #[.int .i64 v.k, .int .i64 v.n, .string v.t]] w fun e w' => e = .returned (.agg #[.int .i64 R.k, .int .i64 R.n, .string R.t]) ∧ Kept w w' := by
  have hk := (((Kept.refl w).alloc #[.slice A n c, .bool T.keep, .int .i64 T.d.k, .int .i64 T.d.n, .string T.d.t, .int .i64 T.b.k, .int .i64 T.b.n, .string T.b.t, .bool T.tu] 26).alloc #[.int .i64 v.k, .int .i64 v.n, .string v.t] 24).alloc #[.int .i64 0, .int .i64 0, .string ⟨#[]⟩] 24
  have k1 := ((Kept.refl (w.alloc (.cells #[.slice A n c, .bool T.keep, .int .i64 T.d.k, .int .i64 T.d.n, .string T.d.t, .int .i64 T.b.k, .int .i64 T.b.n, .string T.b.t, .bool T.tu] 26))).alloc #[.int .i64 v.k, .int .i64 v.n, .string v.t] 24).alloc #[.int .i64 0, .int .i64 0, .string ⟨#[]⟩] 24
  have k2 := (Kept.refl ((w.alloc (.cells #[.slice A n c, .bool T.keep, .int .i64 T.d.k, .int .i64 T.d.n, .string T.d.t, .int .i64 T.b.k, .int .i64 T.b.n, .string T.b.t, .bool T.tu] 26)).alloc (.cells #[.int .i64 v.k, .int .i64 v.n, .string v.t] 24))).alloc #[.int .i64 0, .int .i64 0, .string ⟨#[]⟩] 24
  have ht := (TabB.new w A n c T 26).kept k1
  have hv := (VaO.new (w.alloc (.cells #[.slice A n c, .bool T.keep, .int .i64 T.d.k, .int .i64 T.d.n, .string T.d.t, .int .i64 T.b.k, .int .i64 T.b.n, .string T.b.t, .bool T.tu] 26)) v 24).kept k2
  have hr := VaO.new ((w.alloc (.cells #[.slice A n c, .bool T.keep, .int .i64 T.d.k, .int .i64 T.d.n, .string T.d.t, .int .i64 T.b.k, .int .i64 T.b.n, .string T.b.t, .bool T.tu] 26)).alloc (.cells #[.int .i64 v.k, .int .i64 v.n, .string v.t] 24)) .zero 24
  simp only [Va.zero] at hr
  rw [show (w.alloc (.cells #[.slice A n c, .bool T.keep, .int .i64 T.d.k, .int .i64 T.d.n, .string T.d.t, .int .i64 T.b.k, .int .i64 T.b.n, .string T.b.t, .bool T.tu] 26)).heap.size = w.heap.size + 1 by simp] at hv
  rw [show ((w.alloc (.cells #[.slice A n c, .bool T.keep, .int .i64 T.d.k, .int .i64 T.d.n, .string T.d.t, .int .i64 T.b.k, .int .i64 T.b.n, .string T.b.t, .bool T.tu] 26)).alloc (.cells #[.int .i64 v.k, .int .i64 v.n, .string v.t] 24)).heap.size = w.heap.size + 1 + 1 by simp] at hr
  have hh := h.kept hk
  obtain ⟨U, hU⟩ : ∃ U, ((w.alloc (.cells #[.slice A n c, .bool T.keep, .int .i64 T.d.k, .int .i64 T.d.n, .string T.d.t, .int .i64 T.b.k, .int .i64 T.b.n, .string T.b.t, .bool T.tu] 26)).alloc (.cells #[.int .i64 v.k, .int .i64 v.n, .string v.t] 24)).alloc (.cells #[.int .i64 0, .int .i64 0, .string ⟨#[]⟩] 24) = U := ⟨_, rfl⟩
  rw [hU] at hk ht hv hr hh
  have HK := Lib.hid hk; have HUU := Lib.hid hU; have HT := Lib.hid ht; have HV := Lib.hid hv; have HR := Lib.hid hr; have HH := Lib.hid hh
  have t0 := HT.out.c0; have t1 := HT.out.c1; have t2 := HT.out.c2; have t3 := HT.out.c3; have t4 := HT.out.c4; have t5 := HT.out.c5; have t6 := HT.out.c6; have t7 := HT.out.c7; have t8 := HT.out.c8
  have v0 := HV.out.c0; have v1 := HV.out.c1; have v2 := HV.out.c2
  clear h hk k1 k2 ht hv hr hh hU
  obtain ⟨y, z, hyz⟩ : ∃ y z, firstR T.L v true = (y, z) := ⟨_, _, rfl⟩
  have HF := Lib.hid ((backT_at hyz).symm.trans hR)
  have AF := Lib.hid (fun w h => rfirst_any A n c T.L v true w h y z hyz)
  clear hyz hR
  go_enter Tryd.func33, Tryd.ntmps33
  go_wp2_with fail
  rw [HUU.out]
  go_wp2_with fail
  go_at_call 42
  refine (AF.out _ HH.out).mono ?_
  rintro e w1 ⟨rfl, hk1⟩
  have hka := (Kept.refl w1).alloc #[.int .i64 y.f.k, .int .i64 y.f.n, .string y.f.t, .int .i64 y.t.k, .int .i64 y.t.n, .string y.t.t] 44
  have hg := PaB.new w1 y 44
  replace HK := Lib.hid (HK.out.trans (hk1.trans hka)); replace HT := Lib.hid (HT.out.kept (hk1.trans hka)); replace HV := Lib.hid (HV.out.kept (hk1.trans hka)); replace HR := Lib.hid (HR.out.kept (hk1.trans hka))
  clear t0 t1 t2 t3 t4 t5 t6 t7 t8 v0 v1 v2 hk1 hka
  have r0 := HR.out.c0; have r1 := HR.out.c1; have r2 := HR.out.c2; have rf := HR.out.f
  cases z with
  | true =>
    have hf := HF.out
    rw [if_pos rfl] at hf
    subst hf
    have g0 := hg.c0; have g1 := hg.c1; have g2 := hg.c2; have g3 := hg.c3; have g4 := hg.c4; have g5 := hg.c5
    clear hg
    go_wp2_with fail
    refine bodyPost_ret (by simp [results, Tryd.results33, go_sem, *]) rfl ⟨rfl, ?_⟩
    exact ((HK.out.setCell (a := ⟨w.heap.size + 1 + 1, 0, none⟩) (by simp; omega) _).setCell (a := ⟨w.heap.size + 1 + 1, 1, none⟩) (by simp; omega) _).setCell (a := ⟨w.heap.size + 1 + 1, 2, none⟩) (by simp; omega) _
  | false =>
    clear hg
    have t1 := HT.out.c1
    cases hkp : T.keep with
    | true =>
      have hf := HF.out
      rw [if_neg (by simp), if_pos hkp] at hf
      subst hf
      rw [hkp] at t1
      have v0 := HV.out.c0; have v1 := HV.out.c1; have v2 := HV.out.c2
      go_wp2_with fail
      refine bodyPost_ret (by simp [results, Tryd.results33, go_sem, *]) rfl ⟨rfl, ?_⟩
      exact ((HK.out.setCell (a := ⟨w.heap.size + 1 + 1, 0, none⟩) (by simp; omega) _).setCell (a := ⟨w.heap.size + 1 + 1, 1, none⟩) (by simp; omega) _).setCell (a := ⟨w.heap.size + 1 + 1, 2, none⟩) (by simp; omega) _
    | false =>
      have hf := HF.out
      rw [if_neg (by simp), if_neg (by rw [hkp]; simp)] at hf
      subst hf
      rw [hkp] at t1
      have t2 := HT.out.c5; have t3 := HT.out.c6; have t4 := HT.out.c7
      go_wp2_with fail
      refine bodyPost_ret (by simp [results, Tryd.results33, go_sem, *]) rfl ⟨rfl, ?_⟩
      exact ((HK.out.setCell (a := ⟨w.heap.size + 1 + 1, 0, none⟩) (by simp; omega) _).setCell (a := ⟨w.heap.size + 1 + 1, 1, none⟩) (by simp; omega) _).setCell (a := ⟨w.heap.size + 1 + 1, 2, none⟩) (by simp; omega) _
set_option maxRecDepth 100000 in
set_option maxHeartbeats 8000000 in
theorem rapply_any (A : Option Addr) (n c : Nat) (T : Tb) (v : Va) (w : World) (h : Pal w A n c T.L) (R : Va) (hR : applyT T v = R) :
    Calls Tryd.prog 13 #[.agg #[.slice A n c, .bool T.keep, .int .i64 T.d.k, .int .i64 T.d.n, .string T.d.t, .int .i64 T.b.k, .int .i64 T.b.n, .string T.b.t, .bool T.tu], .agg #[.int .i64 v.k, .int .i64 v.n, .string v.t]] w fun e w' => e = .returned (.agg #[.int .i64 R.k, .int .i64 R.n, .string R.t]) ∧ Kept w w' := by
  have hk := (((Kept.refl w).alloc #[.slice A n c, .bool T.keep, .int .i64 T.d.k, .int .i64 T.d.n, .string T.d.t, .int .i64 T.b.k, .int .i64 T.b.n, .string T.b.t, .bool T.tu] 26).alloc #[.int .i64 v.k, .int .i64 v.n, .string v.t] 24).alloc #[.int .i64 0, .int .i64 0, .string ⟨#[]⟩] 24
  have k1 := ((Kept.refl (w.alloc (.cells #[.slice A n c, .bool T.keep, .int .i64 T.d.k, .int .i64 T.d.n, .string T.d.t, .int .i64 T.b.k, .int .i64 T.b.n, .string T.b.t, .bool T.tu] 26))).alloc #[.int .i64 v.k, .int .i64 v.n, .string v.t] 24).alloc #[.int .i64 0, .int .i64 0, .string ⟨#[]⟩] 24
  have k2 := (Kept.refl ((w.alloc (.cells #[.slice A n c, .bool T.keep, .int .i64 T.d.k, .int .i64 T.d.n, .string T.d.t, .int .i64 T.b.k, .int .i64 T.b.n, .string T.b.t, .bool T.tu] 26)).alloc (.cells #[.int .i64 v.k, .int .i64 v.n, .string v.t] 24))).alloc #[.int .i64 0, .int .i64 0, .string ⟨#[]⟩] 24
  have ht := (TabB.new w A n c T 26).kept k1
  have hv := (VaO.new (w.alloc (.cells #[.slice A n c, .bool T.keep, .int .i64 T.d.k, .int .i64 T.d.n, .string T.d.t, .int .i64 T.b.k, .int .i64 T.b.n, .string T.b.t, .bool T.tu] 26)) v 24).kept k2
  have hr := VaO.new ((w.alloc (.cells #[.slice A n c, .bool T.keep, .int .i64 T.d.k, .int .i64 T.d.n, .string T.d.t, .int .i64 T.b.k, .int .i64 T.b.n, .string T.b.t, .bool T.tu] 26)).alloc (.cells #[.int .i64 v.k, .int .i64 v.n, .string v.t] 24)) .zero 24
  simp only [Va.zero] at hr
  rw [show (w.alloc (.cells #[.slice A n c, .bool T.keep, .int .i64 T.d.k, .int .i64 T.d.n, .string T.d.t, .int .i64 T.b.k, .int .i64 T.b.n, .string T.b.t, .bool T.tu] 26)).heap.size = w.heap.size + 1 by simp] at hv
  rw [show ((w.alloc (.cells #[.slice A n c, .bool T.keep, .int .i64 T.d.k, .int .i64 T.d.n, .string T.d.t, .int .i64 T.b.k, .int .i64 T.b.n, .string T.b.t, .bool T.tu] 26)).alloc (.cells #[.int .i64 v.k, .int .i64 v.n, .string v.t] 24)).heap.size = w.heap.size + 1 + 1 by simp] at hr
  have hh := h.kept hk
  obtain ⟨U, hU⟩ : ∃ U, ((w.alloc (.cells #[.slice A n c, .bool T.keep, .int .i64 T.d.k, .int .i64 T.d.n, .string T.d.t, .int .i64 T.b.k, .int .i64 T.b.n, .string T.b.t, .bool T.tu] 26)).alloc (.cells #[.int .i64 v.k, .int .i64 v.n, .string v.t] 24)).alloc (.cells #[.int .i64 0, .int .i64 0, .string ⟨#[]⟩] 24) = U := ⟨_, rfl⟩
  rw [hU] at hk ht hv hr hh
  have HK := Lib.hid hk; have HUU := Lib.hid hU; have HT := Lib.hid ht; have HV := Lib.hid hv; have HR := Lib.hid hr; have HH := Lib.hid hh
  have t0 := HT.out.c0; have t1 := HT.out.c1; have t2 := HT.out.c2; have t3 := HT.out.c3; have t4 := HT.out.c4; have t5 := HT.out.c5; have t6 := HT.out.c6; have t7 := HT.out.c7; have t8 := HT.out.c8
  have v0 := HV.out.c0; have v1 := HV.out.c1; have v2 := HV.out.c2
  clear h hk k1 k2 ht hv hr hh hU
  unfold applyT at hR
  rcases Bool.eq_false_or_eq_true T.tu with htu | htu
  · have AC := Lib.hid (fun w h => rback_any A n c T v w h R (by rw [htu] at hR; simpa using hR))
    rw [htu] at t8 AC HUU ⊢
    clear hR
    go_enter Tryd.func13, Tryd.ntmps13
    go_wp2_with fail
    rw [HUU.out]
    go_wp2_with fail
    go_at_call 33
    refine (AC.out _ HH.out).mono ?_
    rintro e w1 ⟨rfl, hk1⟩
    replace HK := Lib.hid (HK.out.trans (hk1)); replace HT := Lib.hid (HT.out.kept (hk1)); replace HV := Lib.hid (HV.out.kept (hk1)); replace HR := Lib.hid (HR.out.kept (hk1))
    clear t0 t1 t2 t3 t4 t5 t6 t7 t8 v0 v1 v2 hk1
    have r0 := HR.out.c0; have r1 := HR.out.c1; have r2 := HR.out.c2; have rf := HR.out.f
    go_wp2_with fail
    refine bodyPost_ret (by simp [results, Tryd.results13, go_sem, *]) rfl ⟨rfl, ?_⟩
    exact ((HK.out.setCell (a := ⟨w.heap.size + 1 + 1, 0, none⟩) (by simp; omega) _).setCell (a := ⟨w.heap.size + 1 + 1, 1, none⟩) (by simp; omega) _).setCell (a := ⟨w.heap.size + 1 + 1, 2, none⟩) (by simp; omega) _
  · have AC := Lib.hid (fun w h => rforth_any A n c T v w h R (by rw [htu] at hR; simpa using hR))
    rw [htu] at t8 AC HUU ⊢
    clear hR
    go_enter Tryd.func13, Tryd.ntmps13
    go_wp2_with fail
    rw [HUU.out]
    go_wp2_with fail
    go_at_call 34
    refine (AC.out _ HH.out).mono ?_
    rintro e w1 ⟨rfl, hk1⟩
    replace HK := Lib.hid (HK.out.trans (hk1)); replace HT := Lib.hid (HT.out.kept (hk1)); replace HV := Lib.hid (HV.out.kept (hk1)); replace HR := Lib.hid (HR.out.kept (hk1))
    clear t0 t1 t2 t3 t4 t5 t6 t7 t8 v0 v1 v2 hk1
    have r0 := HR.out.c0; have r1 := HR.out.c1; have r2 := HR.out.c2; have rf := HR.out.f
    go_wp2_with fail
    refine bodyPost_ret (by simp [results, Tryd.results13, go_sem, *]) rfl ⟨rfl, ?_⟩
    exact ((HK.out.setCell (a := ⟨w.heap.size + 1 + 1, 0, none⟩) (by simp; omega) _).setCell (a := ⟨w.heap.size + 1 + 1, 1, none⟩) (by simp; omega) _).setCell (a := ⟨w.heap.size + 1 + 1, 2, none⟩) (by simp; omega) _
set_option maxRecDepth 100000 in
set_option maxHeartbeats 8000000 in
theorem rway_any (A : Option Addr) (n c : Nat) (T : Tb) (v : Va) (w : World) (h : Pal w A n c T.L) (R : Va) (hR : wayT T v = R) :
    Calls Tryd.prog 15 #[.agg #[.slice A n c, .bool T.keep, .int .i64 T.d.k, .int .i64 T.d.n, .string T.d.t, .int .i64 T.b.k, .int .i64 T.b.n, .string T.b.t, .bool T.tu], .agg #[.int .i64 v.k, .int .i64 v.n, .string v.t]] w fun e w' => e = .returned (.agg #[.int .i64 R.k, .int .i64 R.n, .string R.t]) ∧ Kept w w' := by
  have hk := (((Kept.refl w).alloc #[.slice A n c, .bool T.keep, .int .i64 T.d.k, .int .i64 T.d.n, .string T.d.t, .int .i64 T.b.k, .int .i64 T.b.n, .string T.b.t, .bool T.tu] 26).alloc #[.int .i64 v.k, .int .i64 v.n, .string v.t] 24).alloc #[.int .i64 0, .int .i64 0, .string ⟨#[]⟩] 24
  have k1 := ((Kept.refl (w.alloc (.cells #[.slice A n c, .bool T.keep, .int .i64 T.d.k, .int .i64 T.d.n, .string T.d.t, .int .i64 T.b.k, .int .i64 T.b.n, .string T.b.t, .bool T.tu] 26))).alloc #[.int .i64 v.k, .int .i64 v.n, .string v.t] 24).alloc #[.int .i64 0, .int .i64 0, .string ⟨#[]⟩] 24
  have k2 := (Kept.refl ((w.alloc (.cells #[.slice A n c, .bool T.keep, .int .i64 T.d.k, .int .i64 T.d.n, .string T.d.t, .int .i64 T.b.k, .int .i64 T.b.n, .string T.b.t, .bool T.tu] 26)).alloc (.cells #[.int .i64 v.k, .int .i64 v.n, .string v.t] 24))).alloc #[.int .i64 0, .int .i64 0, .string ⟨#[]⟩] 24
  have ht := (TabB.new w A n c T 26).kept k1
  have hv := (VaO.new (w.alloc (.cells #[.slice A n c, .bool T.keep, .int .i64 T.d.k, .int .i64 T.d.n, .string T.d.t, .int .i64 T.b.k, .int .i64 T.b.n, .string T.b.t, .bool T.tu] 26)) v 24).kept k2
  have hr := VaO.new ((w.alloc (.cells #[.slice A n c, .bool T.keep, .int .i64 T.d.k, .int .i64 T.d.n, .string T.d.t, .int .i64 T.b.k, .int .i64 T.b.n, .string T.b.t, .bool T.tu] 26)).alloc (.cells #[.int .i64 v.k, .int .i64 v.n, .string v.t] 24)) .zero 24
  simp only [Va.zero] at hr
  rw [show (w.alloc (.cells #[.slice A n c, .bool T.keep, .int .i64 T.d.k, .int .i64 T.d.n, .string T.d.t, .int .i64 T.b.k, .int .i64 T.b.n, .string T.b.t, .bool T.tu] 26)).heap.size = w.heap.size + 1 by simp] at hv
  rw [show ((w.alloc (.cells #[.slice A n c, .bool T.keep, .int .i64 T.d.k, .int .i64 T.d.n, .string T.d.t, .int .i64 T.b.k, .int .i64 T.b.n, .string T.b.t, .bool T.tu] 26)).alloc (.cells #[.int .i64 v.k, .int .i64 v.n, .string v.t] 24)).heap.size = w.heap.size + 1 + 1 by simp] at hr
  have hh := h.kept hk
  obtain ⟨U, hU⟩ : ∃ U, ((w.alloc (.cells #[.slice A n c, .bool T.keep, .int .i64 T.d.k, .int .i64 T.d.n, .string T.d.t, .int .i64 T.b.k, .int .i64 T.b.n, .string T.b.t, .bool T.tu] 26)).alloc (.cells #[.int .i64 v.k, .int .i64 v.n, .string v.t] 24)).alloc (.cells #[.int .i64 0, .int .i64 0, .string ⟨#[]⟩] 24) = U := ⟨_, rfl⟩
  rw [hU] at hk ht hv hr hh
  have HK := Lib.hid hk; have HUU := Lib.hid hU; have HT := Lib.hid ht; have HV := Lib.hid hv; have HR := Lib.hid hr; have HH := Lib.hid hh
  have t0 := HT.out.c0; have t1 := HT.out.c1; have t2 := HT.out.c2; have t3 := HT.out.c3; have t4 := HT.out.c4; have t5 := HT.out.c5; have t6 := HT.out.c6; have t7 := HT.out.c7; have t8 := HT.out.c8
  have v0 := HV.out.c0; have v1 := HV.out.c1; have v2 := HV.out.c2
  clear h hk k1 k2 ht hv hr hh hU
  unfold wayT at hR
  rcases Bool.eq_false_or_eq_true T.tu with htu | htu
  · have AC := Lib.hid (fun w h => rforth_any A n c T v w h R (by rw [htu] at hR; simpa using hR))
    rw [htu] at t8 AC HUU ⊢
    clear hR
    go_enter Tryd.func15, Tryd.ntmps15
    go_wp2_with fail
    rw [HUU.out]
    go_wp2_with fail
    go_at_call 34
    refine (AC.out _ HH.out).mono ?_
    rintro e w1 ⟨rfl, hk1⟩
    replace HK := Lib.hid (HK.out.trans (hk1)); replace HT := Lib.hid (HT.out.kept (hk1)); replace HV := Lib.hid (HV.out.kept (hk1)); replace HR := Lib.hid (HR.out.kept (hk1))
    clear t0 t1 t2 t3 t4 t5 t6 t7 t8 v0 v1 v2 hk1
    have r0 := HR.out.c0; have r1 := HR.out.c1; have r2 := HR.out.c2; have rf := HR.out.f
    go_wp2_with fail
    refine bodyPost_ret (by simp [results, Tryd.results15, go_sem, *]) rfl ⟨rfl, ?_⟩
    exact ((HK.out.setCell (a := ⟨w.heap.size + 1 + 1, 0, none⟩) (by simp; omega) _).setCell (a := ⟨w.heap.size + 1 + 1, 1, none⟩) (by simp; omega) _).setCell (a := ⟨w.heap.size + 1 + 1, 2, none⟩) (by simp; omega) _
  · have AC := Lib.hid (fun w h => rback_any A n c T v w h R (by rw [htu] at hR; simpa using hR))
    rw [htu] at t8 AC HUU ⊢
    clear hR
    go_enter Tryd.func15, Tryd.ntmps15
    go_wp2_with fail
    rw [HUU.out]
    go_wp2_with fail
    go_at_call 33
    refine (AC.out _ HH.out).mono ?_
    rintro e w1 ⟨rfl, hk1⟩
    replace HK := Lib.hid (HK.out.trans (hk1)); replace HT := Lib.hid (HT.out.kept (hk1)); replace HV := Lib.hid (HV.out.kept (hk1)); replace HR := Lib.hid (HR.out.kept (hk1))
    clear t0 t1 t2 t3 t4 t5 t6 t7 t8 v0 v1 v2 hk1
    have r0 := HR.out.c0; have r1 := HR.out.c1; have r2 := HR.out.c2; have rf := HR.out.f
    go_wp2_with fail
    refine bodyPost_ret (by simp [results, Tryd.results15, go_sem, *]) rfl ⟨rfl, ?_⟩
    exact ((HK.out.setCell (a := ⟨w.heap.size + 1 + 1, 0, none⟩) (by simp; omega) _).setCell (a := ⟨w.heap.size + 1 + 1, 1, none⟩) (by simp; omega) _).setCell (a := ⟨w.heap.size + 1 + 1, 2, none⟩) (by simp; omega) _
end Go.Proofs.YtjcnjmlgedmmoaaDoor

namespace Go.Proofs.YtjcnjmlgedmmoaaDoor
open Go.RowKit
set_option linter.unusedVariables false

set_option maxRecDepth 100000 in
set_option maxHeartbeats 8000000 in
theorem rturn_any (A : Option Addr) (n c : Nat) (T : Tb) (w : World) :
    Calls Tryd.prog 17 #[.agg #[.slice A n c, .bool T.keep, .int .i64 T.d.k, .int .i64 T.d.n, .string T.d.t, .int .i64 T.b.k, .int .i64 T.b.n, .string T.b.t, .bool T.tu]] w fun e w' => e = .returned (.agg #[.slice A n c, .bool T.keep, .int .i64 T.d.k, .int .i64 T.d.n, .string T.d.t, .int .i64 T.b.k, .int .i64 T.b.n, .string T.b.t, .bool (!T.tu)]) ∧ Kept w w' := by
  have HK := Lib.hid (((Kept.refl w).alloc #[.slice A n c, .bool T.keep, .int .i64 T.d.k, .int .i64 T.d.n, .string T.d.t, .int .i64 T.b.k, .int .i64 T.b.n, .string T.b.t, .bool (!T.tu)] 26).alloc #[.slice A n c, .bool T.keep, .int .i64 T.d.k, .int .i64 T.d.n, .string T.d.t, .int .i64 T.b.k, .int .i64 T.b.n, .string T.b.t, .bool (!T.tu)] 26)
  go_enter Tryd.func17, Tryd.ntmps17
  go_wp2_with fail
  exact bodyPost_ret (by simp [results, Tryd.results17, go_sem]) rfl ⟨rfl, HK.out⟩
theorem pa_ne {x y : Pa} (h : x ≠ y) : x.f ≠ y.f ∨ (x.f = y.f ∧ x.t ≠ y.t) := by
  by_cases e : x.f = y.f
  · exact .inr ⟨e, fun e2 => h (by cases x; cases y; simp_all)⟩
  · exact .inl e
theorem tb_ext {T S : Tb} (h1 : T.L = S.L) (h2 : T.keep = S.keep) (h3 : T.d = S.d) (h4 : T.b = S.b) (h5 : T.tu = S.tu) : T = S := by
  cases T; cases S; simp_all
theorem bool_eq {a b : Bool} (h : a = b) : (a == b) = true ∧ (a != b) = false := by subst h; cases a <;> exact ⟨rfl, rfl⟩
theorem bool_ne {a b : Bool} (h : a ≠ b) : (a == b) = false ∧ (a != b) = true := by cases a <;> cases b <;> simp_all
set_option maxRecDepth 100000 in
set_option maxHeartbeats 8000000 in
theorem rtsame_any (A : Option Addr) (n c : Nat) (T : Tb) (A' : Option Addr) (n' c' : Nat) (S : Tb) (w : World) (h : Pal w A n c T.L) (h' : Pal w A' n' c' S.L) (r : Bool) (hr : r = true ↔ T = S) :
    Calls Tryd.prog 11 #[.agg #[.slice A n c, .bool T.keep, .int .i64 T.d.k, .int .i64 T.d.n, .string T.d.t, .int .i64 T.b.k, .int .i64 T.b.n, .string T.b.t, .bool T.tu], .agg #[.slice A' n' c', .bool S.keep, .int .i64 S.d.k, .int .i64 S.d.n, .string S.d.t, .int .i64 S.b.k, .int .i64 S.b.n, .string S.b.t, .bool S.tu]] w fun e w' => e = .returned (.bool r) ∧ Kept w w' := by
  have hk := ((Kept.refl w).alloc #[.slice A n c, .bool T.keep, .int .i64 T.d.k, .int .i64 T.d.n, .string T.d.t, .int .i64 T.b.k, .int .i64 T.b.n, .string T.b.t, .bool T.tu] 26).alloc #[.slice A' n' c', .bool S.keep, .int .i64 S.d.k, .int .i64 S.d.n, .string S.d.t, .int .i64 S.b.k, .int .i64 S.b.n, .string S.b.t, .bool S.tu] 26
  have hcap := h.cap.1; have hcap2 := h.cap.2; have hcap' := h'.cap.1; have hcap2' := h'.cap.2
  have HN := Lib.hid h.1; have HN' := Lib.hid h'.1; have HR := Lib.hid hr
  have hb := (TabB.new w A n c T 26).kept ((Kept.refl _).alloc #[.slice A' n' c', .bool S.keep, .int .i64 S.d.k, .int .i64 S.d.n, .string S.d.t, .int .i64 S.b.k, .int .i64 S.b.n, .string S.b.t, .bool S.tu] 26)
  have hb' := TabB.new (w.alloc (.cells #[.slice A n c, .bool T.keep, .int .i64 T.d.k, .int .i64 T.d.n, .string T.d.t, .int .i64 T.b.k, .int .i64 T.b.n, .string T.b.t, .bool T.tu] 26)) A' n' c' S 26
  rw [show (w.alloc (.cells #[.slice A n c, .bool T.keep, .int .i64 T.d.k, .int .i64 T.d.n, .string T.d.t, .int .i64 T.b.k, .int .i64 T.b.n, .string T.b.t, .bool T.tu] 26)).heap.size = w.heap.size + 1 by simp] at hb'
  have hi := h.kept hk; have hi' := h'.kept hk
  obtain ⟨U, hU⟩ : ∃ U, (w.alloc (.cells #[.slice A n c, .bool T.keep, .int .i64 T.d.k, .int .i64 T.d.n, .string T.d.t, .int .i64 T.b.k, .int .i64 T.b.n, .string T.b.t, .bool T.tu] 26)).alloc (.cells #[.slice A' n' c', .bool S.keep, .int .i64 S.d.k, .int .i64 S.d.n, .string S.d.t, .int .i64 S.b.k, .int .i64 S.b.n, .string S.b.t, .bool S.tu] 26) = U := ⟨_, rfl⟩
  rw [hU] at hi hi' hb hb' hk
  have HUU := Lib.hid hU; have HI := Lib.hid hi; have HI' := Lib.hid hi'; have HB := Lib.hid hb; have HB' := Lib.hid hb'; have HK := Lib.hid hk
  have t0 := HB.out.c0; have s0 := HB'.out.c0
  have t1 := HB.out.c1; have s1 := HB'.out.c1
  have t2 := HB.out.c2; have s2 := HB'.out.c2
  have t3 := HB.out.c3; have s3 := HB'.out.c3
  have t4 := HB.out.c4; have s4 := HB'.out.c4
  have t5 := HB.out.c5; have s5 := HB'.out.c5
  have t6 := HB.out.c6; have s6 := HB'.out.c6
  have t7 := HB.out.c7; have s7 := HB'.out.c7
  have t8 := HB.out.c8; have s8 := HB'.out.c8
  clear h h' hr hk hb hb' hi hi' hU
  by_cases hn : n = n'
  · subst hn
    have f1 : ((n : Int) == (n : Int)) = true := by simp
    by_cases q1 : T.keep = S.keep
    · obtain ⟨b1, b2⟩ := bool_eq q1
      by_cases q2 : T.tu = S.tu
      · obtain ⟨b3, b4⟩ := bool_eq q2
        by_cases q3 : T.d = S.d
        · obtain ⟨d0, d1, d2⟩ := va_eq q3
          by_cases q4 : T.b = S.b
          · obtain ⟨d3, d4, d5⟩ := va_eq q4
            have HQ := Lib.hid (show T.keep = S.keep ∧ T.tu = S.tu ∧ T.d = S.d ∧ T.b = S.b from ⟨q1, q2, q3, q4⟩)
            clear q1 q2 q3 q4
            go_enter Tryd.func11, Tryd.ntmps11
            go_wp2_with fail
            rw [HUU.out]
            clear b1 b2 b3 b4 d0 d1 d2 d3 d4 d5 f1
            clear t0 s0 t1 s1 t2 s2 t3 s3 t4 s4 t5 s5 t6 s6 t7 s7 t8 s8
            go_loopw [44] (fun i wr => ∃ j : Nat, j ≤ n ∧ i = .int .i64 j ∧ Kept U wr ∧ ∀ i, i < j → T.L[i]? = S.L[i]?) (fun i _ => n - (intOf i).toNat)
            case atStart => exact ⟨0, Nat.zero_le _, rfl, Kept.refl _, fun i hi => absurd hi (by omega)⟩
            case round =>
              obtain ⟨j, hj, rfl, hkr, hall⟩ := hrel
              have HR2 := Lib.hid hkr
              have HA := Lib.hid hall
              clear hkr hall
              by_cases hlt : j < n
              · obtain ⟨g, o, x, rfl, hx, EX⟩ := (HI.out.kept HR2.out).get hlt
                obtain ⟨g', o', y, rfl, hy, EY⟩ := (HI'.out.kept HR2.out).get hlt
                have x0 := KExt.cell EX.c0; have x1 := KExt.cell EX.c1; have x2 := KExt.cell EX.c2; have x3 := KExt.cell EX.c3; have x4 := KExt.cell EX.c4; have x5 := KExt.cell EX.c5
                have y0 := KExt.cell EY.c0; have y1 := KExt.cell EY.c1; have y2 := KExt.cell EY.c2; have y3 := KExt.cell EY.c3; have y4 := KExt.cell EY.c4; have y5 := KExt.cell EY.c5
                have u0 := KExt.cell (HB.out.kept HR2.out).c0; have v0 := KExt.cell (HB'.out.kept HR2.out).c0
                have HY := Lib.hid hy
                have HX := Lib.hid hx
                clear hy hx EY EX
                by_cases hyy : x = y
                · have HN2 := Lib.hid (show ∀ i, i < j + 1 → T.L[i]? = S.L[i]? from fun i hi => by
                    rcases Nat.lt_or_ge i j with h | h
                    · exact HA.out i h
                    · obtain rfl : i = j := by omega
                      rw [HY.out, HX.out, hyy])
                  obtain ⟨d0, d1, d2⟩ := va_eq (show x.f = y.f by rw [hyy])
                  obtain ⟨d3, d4, d5⟩ := va_eq (show x.t = y.t by rw [hyy])
                  clear hyy
                  go_wp2_with fail
                  refine region_kept _ (by kernel_rfl) (by kernel_rfl) (Kept.refl _) ?_
                  repeat (go_big_quiet_step (fail))
                  refine wpQuiet_nil ?_
                  intro G
                  clear x0 y0 x1 y1 x2 y2 x3 y3 x4 y4 x5 y5 u0 v0
                  go_wp2_with fail
                  go_roundw
                  case rel => exact ⟨j + 1, hlt, by go_num, HR2.out.trans G.g, HN2.out⟩
                  case measure => simp [intOf]; omega
                · have HF := Lib.hid (show false = r by
                    rw [eq_comm, ← Bool.not_eq_true, HR.out]
                    rintro rfl
                    exact hyy (Option.some.inj (HX.out.symm.trans HY.out)))
                  have hdd : ((x.f.k == y.f.k) = false ∨ ((x.f.k == y.f.k) = true ∧ (x.f.n == y.f.n) = false) ∨ ((x.f.k == y.f.k) = true ∧ (x.f.n == y.f.n) = true ∧ (x.f.t.toList == y.f.t.toList) = false)) ∨ (((x.f.k == y.f.k) = true ∧ (x.f.n == y.f.n) = true ∧ (x.f.t.toList == y.f.t.toList) = true) ∧ ((x.t.k == y.t.k) = false ∨ ((x.t.k == y.t.k) = true ∧ (x.t.n == y.t.n) = false) ∨ ((x.t.k == y.t.k) = true ∧ (x.t.n == y.t.n) = true ∧ (x.t.t.toList == y.t.t.toList) = false))) := by
                    rcases pa_ne hyy with h | ⟨h1, h2⟩
                    · exact .inl (va_ne h)
                    · exact .inr ⟨va_eq h1, va_ne h2⟩
                  rcases hdd with (d0 | ⟨d0, d1⟩ | ⟨d0, d1, d2⟩) | ⟨⟨d0, d1, d2⟩, (d3 | ⟨d3, d4⟩ | ⟨d3, d4, d5⟩)⟩
                  all_goals
                    clear hyy
                    go_wp2_with fail
                    refine region_kept _ (by kernel_rfl) (by kernel_rfl) (Kept.refl _) ?_
                    repeat (go_big_quiet_step (fail))
                    refine wpQuiet_nil ?_
                    intro G
                    clear x0 y0 x1 y1 x2 y2 x3 y3 x4 y4 x5 y5 u0 v0
                    go_wp2_with fail
                    go_ret
                    exact ⟨ret_bool HF.out, HK.out.trans (HR2.out.trans G.g)⟩
              · obtain rfl : j = n := by omega
                have HF := Lib.hid (show true = r by
                  rw [eq_comm, HR.out]
                  refine tb_ext (List.ext_getElem? fun i => ?_) HQ.out.1 HQ.out.2.2.1 HQ.out.2.2.2 HQ.out.2.1
                  rcases Nat.lt_or_ge i j with h | h
                  · exact HA.out i h
                  · rw [List.getElem?_eq_none (by have := HN.out; omega), List.getElem?_eq_none (by have := HN'.out; omega)])
                go_wp2_with fail
                go_ret
                exact ⟨ret_bool HF.out, HK.out.trans HR2.out⟩
          · have HF := Lib.hid (show false = r by rw [eq_comm, ← Bool.not_eq_true, HR.out]; rintro rfl; exact q4 rfl)
            rcases va_ne q4 with d3 | ⟨d3, d4⟩ | ⟨d3, d4, d5⟩ <;>
            · clear q1 q2 q3 q4
              go_enter Tryd.func11, Tryd.ntmps11
              go_wp2_with fail
              go_ret
              exact ⟨ret_bool HF.out, by rw [HUU.out]; exact HK.out⟩
        · have HF := Lib.hid (show false = r by rw [eq_comm, ← Bool.not_eq_true, HR.out]; rintro rfl; exact q3 rfl)
          rcases va_ne q3 with d3 | ⟨d3, d4⟩ | ⟨d3, d4, d5⟩ <;>
          · clear q1 q2 q3
            go_enter Tryd.func11, Tryd.ntmps11
            go_wp2_with fail
            go_ret
            exact ⟨ret_bool HF.out, by rw [HUU.out]; exact HK.out⟩
      · have HF := Lib.hid (show false = r by rw [eq_comm, ← Bool.not_eq_true, HR.out]; rintro rfl; exact q2 rfl)
        obtain ⟨b3, b4⟩ := bool_ne q2
        clear q1 q2
        go_enter Tryd.func11, Tryd.ntmps11
        go_wp2_with fail
        go_ret
        exact ⟨ret_bool HF.out, by rw [HUU.out]; exact HK.out⟩
    · have HF := Lib.hid (show false = r by rw [eq_comm, ← Bool.not_eq_true, HR.out]; rintro rfl; exact q1 rfl)
      obtain ⟨b3, b4⟩ := bool_ne q1
      clear q1
      go_enter Tryd.func11, Tryd.ntmps11
      go_wp2_with fail
      go_ret
      exact ⟨ret_bool HF.out, by rw [HUU.out]; exact HK.out⟩
  · have f1 : ((n : Int) == (n' : Int)) = false := by simp; omega
    have f2 : (n == n') = false := by simpa using hn
    have f3 : decide (n = n') = false := decide_eq_false hn
    have f4 : decide ((n : Int) = (n' : Int)) = false := decide_eq_false (by omega)
    have f5 : (n != n') = true := by simpa using hn
    have f6 : ((n : Int) != (n' : Int)) = true := by simp; omega
    have hn2 := hn
    have HF := Lib.hid (show false = r by
      rw [eq_comm, ← Bool.not_eq_true, HR.out]
      rintro rfl
      exact hn (HN.out.trans HN'.out.symm))
    clear hn
    go_enter Tryd.func11, Tryd.ntmps11
    go_wp2_with fail
    go_ret
    exact ⟨ret_bool HF.out, by rw [HUU.out]; exact HK.out⟩
end Go.Proofs.YtjcnjmlgedmmoaaDoor

