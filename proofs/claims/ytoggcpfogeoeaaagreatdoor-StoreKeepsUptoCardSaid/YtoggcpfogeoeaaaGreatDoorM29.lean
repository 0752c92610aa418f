/-
  What is proved: entry.Take, called with a text, where the kind's number is too great, returns what P7.4 says; the world has new blocks at most.
  entry.Take, called with a text, where what comes is not right, returns what P7.4 says; the world has new blocks at most.
  entry.Take, called with a text, where what comes is right, returns what P7.4 says; the world has new blocks at most.
  entry.Take, called with any text, returns what P7.4 says; the world has new blocks at most.
-/
import Derived.Test.YtoggcpfogeoeaaaGreatDoorM28
namespace Go.Proofs.YtoggcpfogeoeaaaGreatDoor
open Go.RowKit
set_option linter.unusedVariables false

set_option maxRecDepth 100000 in
set_option maxHeartbeats 16000000 in
theorem etake_kind (s : ByteArray) (w : World) (hs : s.size ≤ 100000) {v1 : Int × Int} {a1 : ByteArray} {z1 : Int} {v2 a2 : ByteArray} {z2 : Int} {v3 : Int} {a3 : ByteArray} {z3 : Int} {k n : Int} {t a4 : ByteArray} {z4 : Int} {v5 : Int × Int} {a5 : ByteArray} {z5 : Int} (S : Steps s v1 a1 z1 v2 a2 z2 v3 a3 z3 k n t a4 z4 v5 a5 z5) (hz : z5 = 0) (h3 : 3 < v3) :
    Calls Tryz.prog 64 #[.string s] w fun e w' => e = .returned (.tuple #[.agg #[.int .i64 (teX s).d.1, .int .i64 (teX s).d.2, .string (teX s).p, .int .i64 (teX s).k, .int .i64 (teX s).vk, .int .i64 (teX s).vn, .string (teX s).vt, .int .i64 (teX s).e.1, .int .i64 (teX s).e.2], .string (teR s), .int .i64 (teE s)]) ∧ Kept w w' := by
  have HALL := S.all
  have HR := Lib.hid (te_ret (s := s) (x := ⟨(0, 0), ⟨#[]⟩, 0, 0, 0, ⟨#[]⟩, (0, 0)⟩) (r := ⟨#[]⟩) (e := 3) (z := 3) (te_form s (by omega) (by have := (HALL.2 hz).2.2.1; omega)) rfl)
  obtain ⟨kk, hkk⟩ : ∃ kk, IntKind.i64.wrap v3 = kk := ⟨_, rfl⟩
  have HCV := Lib.hid hkk
  have d3 : decide ((3 : Int) < v3) = true := decide_eq_true h3
  have HZ := Lib.hid hz
  clear hkk hz h3
  have A1 := Lib.hid (fun w b x T => nextD_any w b x s 0 T v1 a1 z1 S.s1 (by have := S.l1; omega))
  have A2 := Lib.hid (fun w b x T => nextP_any w b x a1 z1 T v2 a2 z2 S.s2 (by have := S.l1; omega))
  have A3 := Lib.hid (fun w b x T => nextK_any w b x a2 z2 T v3 a3 z3 S.s3 (by have := S.l2; omega))
  have A4 := Lib.hid (fun w b x T => nextV_any w b x a3 z3 T k n t a4 z4 S.s4 (by have := S.l3; omega))
  have A5 := Lib.hid (fun w b x T => nextD_any w b x a4 z4 T v5 a5 z5 S.s5 (by have := S.l4; omega))
  clear S HALL hs
  have hsz : (w.alloc (.cells #[.int .i64 0, .int .i64 0, .string ⟨#[]⟩, .int .i64 0, .int .i64 0, .int .i64 0, .string ⟨#[]⟩, .int .i64 0, .int .i64 0] 35)).heap.size = w.heap.size + 1 := by simp
  have ne1 : ¬ w.heap.size = w.heap.size + 1 := (by omega)
  have ne2 : ¬ w.heap.size + 1 = w.heap.size := (by omega)
  have T0 := Lib.hid (show Tk ((w.alloc (.cells #[.int .i64 0, .int .i64 0, .string ⟨#[]⟩, .int .i64 0, .int .i64 0, .int .i64 0, .string ⟨#[]⟩, .int .i64 0, .int .i64 0] 35)).alloc (.cells #[.int .i64 0, .int .i64 0, .string ⟨#[]⟩, .int .i64 0, .int .i64 0, .int .i64 0, .string ⟨#[]⟩, .int .i64 0, .int .i64 0, .string s, .int .i64 0] 134)) (w.heap.size + 1) .none s 0 by
    have b := fun i v hv => (Kept.refl ((w.alloc (.cells #[.int .i64 0, .int .i64 0, .string ⟨#[]⟩, .int .i64 0, .int .i64 0, .int .i64 0, .string ⟨#[]⟩, .int .i64 0, .int .i64 0] 35)).alloc (.cells #[.int .i64 0, .int .i64 0, .string ⟨#[]⟩, .int .i64 0, .int .i64 0, .int .i64 0, .string ⟨#[]⟩, .int .i64 0, .int .i64 0, .string s, .int .i64 0] 134))).box i v hv
    rw [hsz] at b
    exact ⟨⟨b 0 _ rfl, b 1 _ rfl, b 2 _ rfl, b 3 _ rfl, b 4 _ rfl, b 5 _ rfl, b 6 _ rfl, b 7 _ rfl, b 8 _ rfl⟩, b 9 _ rfl, b 10 _ rfl, fun i => by have := froz_new (w.alloc (.cells #[.int .i64 0, .int .i64 0, .string ⟨#[]⟩, .int .i64 0, .int .i64 0, .int .i64 0, .string ⟨#[]⟩, .int .i64 0, .int .i64 0] 35)) #[.int .i64 0, .int .i64 0, .string ⟨#[]⟩, .int .i64 0, .int .i64 0, .int .i64 0, .string ⟨#[]⟩, .int .i64 0, .int .i64 0, .string s, .int .i64 0] 134 i; rwa [hsz] at this⟩)
  have R0 := Lib.hid (show Re ((w.alloc (.cells #[.int .i64 0, .int .i64 0, .string ⟨#[]⟩, .int .i64 0, .int .i64 0, .int .i64 0, .string ⟨#[]⟩, .int .i64 0, .int .i64 0] 35)).alloc (.cells #[.int .i64 0, .int .i64 0, .string ⟨#[]⟩, .int .i64 0, .int .i64 0, .int .i64 0, .string ⟨#[]⟩, .int .i64 0, .int .i64 0, .string s, .int .i64 0] 134)) w.heap.size from
    ⟨(Ent.new w .none 35).kept ((Kept.refl _).alloc _ _), fun i => (((Kept.refl (w.alloc (.cells #[.int .i64 0, .int .i64 0, .string ⟨#[]⟩, .int .i64 0, .int .i64 0, .int .i64 0, .string ⟨#[]⟩, .int .i64 0, .int .i64 0] 35))).alloc #[.int .i64 0, .int .i64 0, .string ⟨#[]⟩, .int .i64 0, .int .i64 0, .int .i64 0, .string ⟨#[]⟩, .int .i64 0, .int .i64 0, .string s, .int .i64 0] 134).2.1 ⟨w.heap.size, i, none⟩ (by rw [hsz]; exact Nat.lt_succ_self _)).trans (froz_new w _ _ i)⟩)
  have K0 := Lib.hid (((Kept.refl w).alloc #[.int .i64 0, .int .i64 0, .string ⟨#[]⟩, .int .i64 0, .int .i64 0, .int .i64 0, .string ⟨#[]⟩, .int .i64 0, .int .i64 0] 35).alloc #[.int .i64 0, .int .i64 0, .string ⟨#[]⟩, .int .i64 0, .int .i64 0, .int .i64 0, .string ⟨#[]⟩, .int .i64 0, .int .i64 0, .string s, .int .i64 0] 134)
  clear hsz
  go_enter Tryz.func64, Tryz.ntmps64
  go_wp2_with fail
  go_at_call 84
  refine (A1.out _ (w.heap.size + 1) _ (T0.out)).mono ?_
  rintro e w1 ⟨rfl, hT, hK⟩
  have E1 := Lib.hid hK
  have T1 := Lib.hid hT
  have y0 := hT.ent.c0; have g0 := hT.f 0; have y1 := hT.ent.c1; have g1 := hT.f 1
  clear hT hK
  go_wp2_with fail
  go_at_call 85
  refine (A2.out _ (w.heap.size + 1) _ (T1.out.setD v1)).mono ?_
  rintro e w2 ⟨rfl, hT, hK⟩
  have E2 := Lib.hid (((E1.out.set (.inl rfl) _).set (.inl rfl) _).comp hK)
  clear y0 g0 y1 g1
  have T2 := Lib.hid hT
  have y2 := hT.ent.c2; have g2 := hT.f 2
  clear hT hK
  go_wp2_with fail
  go_at_call 87
  refine (A3.out _ (w.heap.size + 1) _ (T2.out.setP v2)).mono ?_
  rintro e w3 ⟨rfl, hT, hK⟩
  have E3 := Lib.hid ((E2.out.set (.inl rfl) _).comp hK)
  clear y2 g2
  have T3 := Lib.hid hT
  have y3 := hT.ent.c3; have g3 := hT.f 3
  clear hT hK
  have hcv := HCV.out
  go_wp2_with fail
  go_at_call 88
  refine (A4.out _ (w.heap.size + 1) _ (T3.out.setK kk)).mono ?_
  rintro e w4 ⟨rfl, hT, hK⟩
  have E4 := Lib.hid ((E3.out.set (.inl rfl) _).comp hK)
  clear y3 g3
  have T4 := Lib.hid hT
  have y4 := hT.ent.c4; have g4 := hT.f 4; have y5 := hT.ent.c5; have g5 := hT.f 5; have y6 := hT.ent.c6; have g6 := hT.f 6
  clear hT hK
  go_wp2_with fail
  go_at_call 84
  refine (A5.out _ (w.heap.size + 1) _ (T4.out.setV k n t)).mono ?_
  rintro e w5 ⟨rfl, hT, hK⟩
  have E5 := Lib.hid ((((E4.out.set (.inl rfl) _).set (.inl rfl) _).set (.inl rfl) _).comp hK)
  clear y4 g4 y5 g5 y6 g6
  have T5 := Lib.hid hT
  have y7 := hT.ent.c7; have g7 := hT.f 7; have y8 := hT.ent.c8; have g8 := hT.f 8
  clear hT hK
  have c10 := T5.out.c10
  have RR := R0.out.keptE E5.out ne1
  have x0 := RR.ent.c0; have x1 := RR.ent.c1; have x2 := RR.ent.c2; have x3 := RR.ent.c3; have x4 := RR.ent.c4; have x5 := RR.ent.c5; have x6 := RR.ent.c6; have x7 := RR.ent.c7; have x8 := RR.ent.c8
  have xf := RR.f
  clear RR
  rw [HZ.out] at c10
  have g10 := T5.out.f 10
  go_wp2_with fail
  go_region
  all_goals go_wp2_with fail
  all_goals (refine bodyPost_ret (by simp [results, Tryz.results64, go_sem, *]) rfl ⟨HR.out, ?_⟩)
  all_goals refine Kept.drew ?_
  all_goals (exact ((((((((((KeptE.kept ((keptE_E E5.out v5).set (.inl rfl) _) K0.out (Nat.le_succ _)).setCell (Nat.le_refl _) _).setCell (Nat.le_refl _) _).setCell (Nat.le_refl _) _).setCell (Nat.le_refl _) _).setCell (Nat.le_refl _) _).setCell (Nat.le_refl _) _).setCell (Nat.le_refl _) _).setCell (Nat.le_refl _) _).setCell (Nat.le_refl _) _))
end Go.Proofs.YtoggcpfogeoeaaaGreatDoor

namespace Go.Proofs.YtoggcpfogeoeaaaGreatDoor
open Go.RowKit
set_option linter.unusedVariables false

set_option maxRecDepth 100000 in
set_option maxHeartbeats 16000000 in
theorem etake_form (s : ByteArray) (w : World) (hs : s.size ≤ 100000) {v1 : Int × Int} {a1 : ByteArray} {z1 : Int} {v2 a2 : ByteArray} {z2 : Int} {v3 : Int} {a3 : ByteArray} {z3 : Int} {k n : Int} {t a4 : ByteArray} {z4 : Int} {v5 : Int × Int} {a5 : ByteArray} {z5 : Int} (S : Steps s v1 a1 z1 v2 a2 z2 v3 a3 z3 k n t a4 z4 v5 a5 z5) (hz : z5 = 0) (h3 : ¬ 3 < v3) (hr : rightE ⟨v1, v2, IntKind.i64.wrap v3, k, n, t, v5⟩ = false) :
    Calls Tryz.prog 64 #[.string s] w fun e w' => e = .returned (.tuple #[.agg #[.int .i64 (teX s).d.1, .int .i64 (teX s).d.2, .string (teX s).p, .int .i64 (teX s).k, .int .i64 (teX s).vk, .int .i64 (teX s).vn, .string (teX s).vt, .int .i64 (teX s).e.1, .int .i64 (teX s).e.2], .string (teR s), .int .i64 (teE s)]) ∧ Kept w w' := by
  have HALL := S.all
  have hv3 := (HALL.2 hz).2.2.1
  have hcv3 : IntKind.i64.wrap v3 = v3 := by rw [IntKind.wrap_i64]; omega
  obtain ⟨kk, hkk⟩ : ∃ kk, IntKind.i64.wrap v3 = kk := ⟨_, rfl⟩
  have HCV := Lib.hid hkk
  have hk3 : kk = v3 := hkk.symm.trans hcv3
  have hX : enK s (tkN (r2 s)) = ⟨v1, v2, kk, k, n, t, v5⟩ := by
    obtain ⟨q1, q2, q3, q4, q5, q6, q7, q8⟩ := HALL.2 hz
    unfold enK
    rw [q1, q2, hk3, q3, q4, q5, q6, q7]
  have sv : v2.size ≤ 102 := by rw [(HALL.2 hz).2.1]; exact ttT_size _
  have st : t.size ≤ 200 := by rw [(HALL.2 hz).2.2.2.2.2.1]; exact tvT_size _
  rw [hkk] at hr
  have HR := Lib.hid (te_ret (s := s) (x := ⟨(0, 0), ⟨#[]⟩, 0, 0, 0, ⟨#[]⟩, (0, 0)⟩) (r := ⟨#[]⟩) (e := 3) (z := 3) (te_form s (by omega) (by rw [hX, hr]; simp)) rfl)
  have AR := Lib.hid (fun w => eright_c ⟨v1, v2, kk, k, n, t, v5⟩ false hr w (show v2.size ≤ _ by omega) (show t.size ≤ _ by omega))
  have d3 : decide ((3 : Int) < v3) = false := decide_eq_false h3
  have HZ := Lib.hid hz
  clear hkk hz h3 hr hX hk3 hcv3 hv3 sv st
  have A1 := Lib.hid (fun w b x T => nextD_any w b x s 0 T v1 a1 z1 S.s1 (by have := S.l1; omega))
  have A2 := Lib.hid (fun w b x T => nextP_any w b x a1 z1 T v2 a2 z2 S.s2 (by have := S.l1; omega))
  have A3 := Lib.hid (fun w b x T => nextK_any w b x a2 z2 T v3 a3 z3 S.s3 (by have := S.l2; omega))
  have A4 := Lib.hid (fun w b x T => nextV_any w b x a3 z3 T k n t a4 z4 S.s4 (by have := S.l3; omega))
  have A5 := Lib.hid (fun w b x T => nextD_any w b x a4 z4 T v5 a5 z5 S.s5 (by have := S.l4; omega))
  clear S HALL hs
  have hsz : (w.alloc (.cells #[.int .i64 0, .int .i64 0, .string ⟨#[]⟩, .int .i64 0, .int .i64 0, .int .i64 0, .string ⟨#[]⟩, .int .i64 0, .int .i64 0] 35)).heap.size = w.heap.size + 1 := by simp
  have ne1 : ¬ w.heap.size = w.heap.size + 1 := (by omega)
  have ne2 : ¬ w.heap.size + 1 = w.heap.size := (by omega)
  have T0 := Lib.hid (show Tk ((w.alloc (.cells #[.int .i64 0, .int .i64 0, .string ⟨#[]⟩, .int .i64 0, .int .i64 0, .int .i64 0, .string ⟨#[]⟩, .int .i64 0, .int .i64 0] 35)).alloc (.cells #[.int .i64 0, .int .i64 0, .string ⟨#[]⟩, .int .i64 0, .int .i64 0, .int .i64 0, .string ⟨#[]⟩, .int .i64 0, .int .i64 0, .string s, .int .i64 0] 134)) (w.heap.size + 1) .none s 0 by
    have b := fun i v hv => (Kept.refl ((w.alloc (.cells #[.int .i64 0, .int .i64 0, .string ⟨#[]⟩, .int .i64 0, .int .i64 0, .int .i64 0, .string ⟨#[]⟩, .int .i64 0, .int .i64 0] 35)).alloc (.cells #[.int .i64 0, .int .i64 0, .string ⟨#[]⟩, .int .i64 0, .int .i64 0, .int .i64 0, .string ⟨#[]⟩, .int .i64 0, .int .i64 0, .string s, .int .i64 0] 134))).box i v hv
    rw [hsz] at b
    exact ⟨⟨b 0 _ rfl, b 1 _ rfl, b 2 _ rfl, b 3 _ rfl, b 4 _ rfl, b 5 _ rfl, b 6 _ rfl, b 7 _ rfl, b 8 _ rfl⟩, b 9 _ rfl, b 10 _ rfl, fun i => by have := froz_new (w.alloc (.cells #[.int .i64 0, .int .i64 0, .string ⟨#[]⟩, .int .i64 0, .int .i64 0, .int .i64 0, .string ⟨#[]⟩, .int .i64 0, .int .i64 0] 35)) #[.int .i64 0, .int .i64 0, .string ⟨#[]⟩, .int .i64 0, .int .i64 0, .int .i64 0, .string ⟨#[]⟩, .int .i64 0, .int .i64 0, .string s, .int .i64 0] 134 i; rwa [hsz] at this⟩)
  have R0 := Lib.hid (show Re ((w.alloc (.cells #[.int .i64 0, .int .i64 0, .string ⟨#[]⟩, .int .i64 0, .int .i64 0, .int .i64 0, .string ⟨#[]⟩, .int .i64 0, .int .i64 0] 35)).alloc (.cells #[.int .i64 0, .int .i64 0, .string ⟨#[]⟩, .int .i64 0, .int .i64 0, .int .i64 0, .string ⟨#[]⟩, .int .i64 0, .int .i64 0, .string s, .int .i64 0] 134)) w.heap.size from
    ⟨(Ent.new w .none 35).kept ((Kept.refl _).alloc _ _), fun i => (((Kept.refl (w.alloc (.cells #[.int .i64 0, .int .i64 0, .string ⟨#[]⟩, .int .i64 0, .int .i64 0, .int .i64 0, .string ⟨#[]⟩, .int .i64 0, .int .i64 0] 35))).alloc #[.int .i64 0, .int .i64 0, .string ⟨#[]⟩, .int .i64 0, .int .i64 0, .int .i64 0, .string ⟨#[]⟩, .int .i64 0, .int .i64 0, .string s, .int .i64 0] 134).2.1 ⟨w.heap.size, i, none⟩ (by rw [hsz]; exact Nat.lt_succ_self _)).trans (froz_new w _ _ i)⟩)
  have K0 := Lib.hid (((Kept.refl w).alloc #[.int .i64 0, .int .i64 0, .string ⟨#[]⟩, .int .i64 0, .int .i64 0, .int .i64 0, .string ⟨#[]⟩, .int .i64 0, .int .i64 0] 35).alloc #[.int .i64 0, .int .i64 0, .string ⟨#[]⟩, .int .i64 0, .int .i64 0, .int .i64 0, .string ⟨#[]⟩, .int .i64 0, .int .i64 0, .string s, .int .i64 0] 134)
  clear hsz
  go_enter Tryz.func64, Tryz.ntmps64
  go_wp2_with fail
  go_at_call 84
  refine (A1.out _ (w.heap.size + 1) _ (T0.out)).mono ?_
  rintro e w1 ⟨rfl, hT, hK⟩
  have E1 := Lib.hid hK
  have T1 := Lib.hid hT
  have y0 := hT.ent.c0; have g0 := hT.f 0; have y1 := hT.ent.c1; have g1 := hT.f 1
  clear hT hK
  go_wp2_with fail
  go_at_call 85
  refine (A2.out _ (w.heap.size + 1) _ (T1.out.setD v1)).mono ?_
  rintro e w2 ⟨rfl, hT, hK⟩
  have E2 := Lib.hid (((E1.out.set (.inl rfl) _).set (.inl rfl) _).comp hK)
  clear y0 g0 y1 g1
  have T2 := Lib.hid hT
  have y2 := hT.ent.c2; have g2 := hT.f 2
  clear hT hK
  go_wp2_with fail
  go_at_call 87
  refine (A3.out _ (w.heap.size + 1) _ (T2.out.setP v2)).mono ?_
  rintro e w3 ⟨rfl, hT, hK⟩
  have E3 := Lib.hid ((E2.out.set (.inl rfl) _).comp hK)
  clear y2 g2
  have T3 := Lib.hid hT
  have y3 := hT.ent.c3; have g3 := hT.f 3
  clear hT hK
  have hcv := HCV.out
  go_wp2_with fail
  go_at_call 88
  refine (A4.out _ (w.heap.size + 1) _ (T3.out.setK kk)).mono ?_
  rintro e w4 ⟨rfl, hT, hK⟩
  have E4 := Lib.hid ((E3.out.set (.inl rfl) _).comp hK)
  clear y3 g3
  have T4 := Lib.hid hT
  have y4 := hT.ent.c4; have g4 := hT.f 4; have y5 := hT.ent.c5; have g5 := hT.f 5; have y6 := hT.ent.c6; have g6 := hT.f 6
  clear hT hK
  go_wp2_with fail
  go_at_call 84
  refine (A5.out _ (w.heap.size + 1) _ (T4.out.setV k n t)).mono ?_
  rintro e w5 ⟨rfl, hT, hK⟩
  have E5 := Lib.hid ((((E4.out.set (.inl rfl) _).set (.inl rfl) _).set (.inl rfl) _).comp hK)
  clear y4 g4 y5 g5 y6 g6
  have T5 := Lib.hid hT
  have y7 := hT.ent.c7; have g7 := hT.f 7; have y8 := hT.ent.c8; have g8 := hT.f 8
  clear hT hK
  have TE := T5.out.setE v5
  have RR := R0.out.keptE (keptE_E E5.out v5) ne1
  have HTE := Lib.hid TE
  have HRR := Lib.hid RR
  have c10 := TE.c10
  rw [HZ.out] at c10
  have u0 := TE.ent.c0; have u1 := TE.ent.c1; have u2 := TE.ent.c2; have u3 := TE.ent.c3; have u4 := TE.ent.c4; have u5 := TE.ent.c5; have u6 := TE.ent.c6; have u7 := TE.ent.c7; have u8 := TE.ent.c8
  clear TE RR
  go_wp2_with fail
  go_at_call 5
  refine (AR.out _).mono ?_
  rintro e w6 ⟨rfl, hg⟩
  have T6 := HTE.out.kept hg
  have R6 := HRR.out.keptE (.of hg) ne1
  have E6 := Lib.hid ((keptE_E E5.out v5).comp (.of hg))
  clear hg c10 u0 u1 u2 u3 u4 u5 u6 u7 u8 y7 g7 y8 g8
  have RR := R6
  have x0 := RR.ent.c0; have x1 := RR.ent.c1; have x2 := RR.ent.c2; have x3 := RR.ent.c3; have x4 := RR.ent.c4; have x5 := RR.ent.c5; have x6 := RR.ent.c6; have x7 := RR.ent.c7; have x8 := RR.ent.c8
  have xf := RR.f
  have c10 := T6.c10
  rw [HZ.out] at c10
  have g10 := T6.f 10
  clear T6 R6 RR
  go_wp2_with fail
  go_region
  all_goals go_wp2_with fail
  all_goals (refine bodyPost_ret (by simp [results, Tryz.results64, go_sem, *]) rfl ⟨HR.out, ?_⟩)
  all_goals refine Kept.drew ?_
  all_goals (exact ((((((((((KeptE.kept (E6.out.set (.inl rfl) _) K0.out (Nat.le_succ _)).setCell (Nat.le_refl _) _).setCell (Nat.le_refl _) _).setCell (Nat.le_refl _) _).setCell (Nat.le_refl _) _).setCell (Nat.le_refl _) _).setCell (Nat.le_refl _) _).setCell (Nat.le_refl _) _).setCell (Nat.le_refl _) _).setCell (Nat.le_refl _) _))
end Go.Proofs.YtoggcpfogeoeaaaGreatDoor

namespace Go.Proofs.YtoggcpfogeoeaaaGreatDoor
open Go.RowKit
set_option linter.unusedVariables false

set_option maxRecDepth 100000 in
set_option maxHeartbeats 16000000 in
theorem etake_ok (s : ByteArray) (w : World) (hs : s.size ≤ 100000) {v1 : Int × Int} {a1 : ByteArray} {z1 : Int} {v2 a2 : ByteArray} {z2 : Int} {v3 : Int} {a3 : ByteArray} {z3 : Int} {k n : Int} {t a4 : ByteArray} {z4 : Int} {v5 : Int × Int} {a5 : ByteArray} {z5 : Int} (S : Steps s v1 a1 z1 v2 a2 z2 v3 a3 z3 k n t a4 z4 v5 a5 z5) (hz : z5 = 0) (h3 : ¬ 3 < v3) (hr : rightE ⟨v1, v2, IntKind.i64.wrap v3, k, n, t, v5⟩ = true) :
    Calls Tryz.prog 64 #[.string s] w fun e w' => e = .returned (.tuple #[.agg #[.int .i64 (teX s).d.1, .int .i64 (teX s).d.2, .string (teX s).p, .int .i64 (teX s).k, .int .i64 (teX s).vk, .int .i64 (teX s).vn, .string (teX s).vt, .int .i64 (teX s).e.1, .int .i64 (teX s).e.2], .string (teR s), .int .i64 (teE s)]) ∧ Kept w w' := by
  have HALL := S.all
  have hv3 := (HALL.2 hz).2.2.1
  have hcv3 : IntKind.i64.wrap v3 = v3 := by rw [IntKind.wrap_i64]; omega
  obtain ⟨kk, hkk⟩ : ∃ kk, IntKind.i64.wrap v3 = kk := ⟨_, rfl⟩
  have HCV := Lib.hid hkk
  have hk3 : kk = v3 := hkk.symm.trans hcv3
  have hX : enK s (tkN (r2 s)) = ⟨v1, v2, kk, k, n, t, v5⟩ := by
    obtain ⟨q1, q2, q3, q4, q5, q6, q7, q8⟩ := HALL.2 hz
    unfold enK
    rw [q1, q2, hk3, q3, q4, q5, q6, q7]
  have sv : v2.size ≤ 102 := by rw [(HALL.2 hz).2.1]; exact ttT_size _
  have st : t.size ≤ 200 := by rw [(HALL.2 hz).2.2.2.2.2.1]; exact tvT_size _
  rw [hkk] at hr
  have HR := Lib.hid (te_ret (s := s) (x := ⟨v1, v2, kk, k, n, t, v5⟩) (r := a5) (e := 0) (z := 0) (by unfold teL; rw [if_neg (by omega), if_pos ⟨by omega, by rw [hX]; exact hr⟩, hX, (HALL.2 hz).2.2.2.2.2.2.2]) rfl)
  have AR := Lib.hid (fun w => eright_c ⟨v1, v2, kk, k, n, t, v5⟩ true hr w (show v2.size ≤ _ by omega) (show t.size ≤ _ by omega))
  have d3 : decide ((3 : Int) < v3) = false := decide_eq_false h3
  have HZ := Lib.hid hz
  clear hkk hz h3 hr hX hk3 hcv3 hv3 sv st
  have A1 := Lib.hid (fun w b x T => nextD_any w b x s 0 T v1 a1 z1 S.s1 (by have := S.l1; omega))
  have A2 := Lib.hid (fun w b x T => nextP_any w b x a1 z1 T v2 a2 z2 S.s2 (by have := S.l1; omega))
  have A3 := Lib.hid (fun w b x T => nextK_any w b x a2 z2 T v3 a3 z3 S.s3 (by have := S.l2; omega))
  have A4 := Lib.hid (fun w b x T => nextV_any w b x a3 z3 T k n t a4 z4 S.s4 (by have := S.l3; omega))
  have A5 := Lib.hid (fun w b x T => nextD_any w b x a4 z4 T v5 a5 z5 S.s5 (by have := S.l4; omega))
  clear S HALL hs
  have hsz : (w.alloc (.cells #[.int .i64 0, .int .i64 0, .string ⟨#[]⟩, .int .i64 0, .int .i64 0, .int .i64 0, .string ⟨#[]⟩, .int .i64 0, .int .i64 0] 35)).heap.size = w.heap.size + 1 := by simp
  have ne1 : ¬ w.heap.size = w.heap.size + 1 := (by omega)
  have ne2 : ¬ w.heap.size + 1 = w.heap.size := (by omega)
  have T0 := Lib.hid (show Tk ((w.alloc (.cells #[.int .i64 0, .int .i64 0, .string ⟨#[]⟩, .int .i64 0, .int .i64 0, .int .i64 0, .string ⟨#[]⟩, .int .i64 0, .int .i64 0] 35)).alloc (.cells #[.int .i64 0, .int .i64 0, .string ⟨#[]⟩, .int .i64 0, .int .i64 0, .int .i64 0, .string ⟨#[]⟩, .int .i64 0, .int .i64 0, .string s, .int .i64 0] 134)) (w.heap.size + 1) .none s 0 by
    have b := fun i v hv => (Kept.refl ((w.alloc (.cells #[.int .i64 0, .int .i64 0, .string ⟨#[]⟩, .int .i64 0, .int .i64 0, .int .i64 0, .string ⟨#[]⟩, .int .i64 0, .int .i64 0] 35)).alloc (.cells #[.int .i64 0, .int .i64 0, .string ⟨#[]⟩, .int .i64 0, .int .i64 0, .int .i64 0, .string ⟨#[]⟩, .int .i64 0, .int .i64 0, .string s, .int .i64 0] 134))).box i v hv
    rw [hsz] at b
    exact ⟨⟨b 0 _ rfl, b 1 _ rfl, b 2 _ rfl, b 3 _ rfl, b 4 _ rfl, b 5 _ rfl, b 6 _ rfl, b 7 _ rfl, b 8 _ rfl⟩, b 9 _ rfl, b 10 _ rfl, fun i => by have := froz_new (w.alloc (.cells #[.int .i64 0, .int .i64 0, .string ⟨#[]⟩, .int .i64 0, .int .i64 0, .int .i64 0, .string ⟨#[]⟩, .int .i64 0, .int .i64 0] 35)) #[.int .i64 0, .int .i64 0, .string ⟨#[]⟩, .int .i64 0, .int .i64 0, .int .i64 0, .string ⟨#[]⟩, .int .i64 0, .int .i64 0, .string s, .int .i64 0] 134 i; rwa [hsz] at this⟩)
  have R0 := Lib.hid (show Re ((w.alloc (.cells #[.int .i64 0, .int .i64 0, .string ⟨#[]⟩, .int .i64 0, .int .i64 0, .int .i64 0, .string ⟨#[]⟩, .int .i64 0, .int .i64 0] 35)).alloc (.cells #[.int .i64 0, .int .i64 0, .string ⟨#[]⟩, .int .i64 0, .int .i64 0, .int .i64 0, .string ⟨#[]⟩, .int .i64 0, .int .i64 0, .string s, .int .i64 0] 134)) w.heap.size from
    ⟨(Ent.new w .none 35).kept ((Kept.refl _).alloc _ _), fun i => (((Kept.refl (w.alloc (.cells #[.int .i64 0, .int .i64 0, .string ⟨#[]⟩, .int .i64 0, .int .i64 0, .int .i64 0, .string ⟨#[]⟩, .int .i64 0, .int .i64 0] 35))).alloc #[.int .i64 0, .int .i64 0, .string ⟨#[]⟩, .int .i64 0, .int .i64 0, .int .i64 0, .string ⟨#[]⟩, .int .i64 0, .int .i64 0, .string s, .int .i64 0] 134).2.1 ⟨w.heap.size, i, none⟩ (by rw [hsz]; exact Nat.lt_succ_self _)).trans (froz_new w _ _ i)⟩)
  have K0 := Lib.hid (((Kept.refl w).alloc #[.int .i64 0, .int .i64 0, .string ⟨#[]⟩, .int .i64 0, .int .i64 0, .int .i64 0, .string ⟨#[]⟩, .int .i64 0, .int .i64 0] 35).alloc #[.int .i64 0, .int .i64 0, .string ⟨#[]⟩, .int .i64 0, .int .i64 0, .int .i64 0, .string ⟨#[]⟩, .int .i64 0, .int .i64 0, .string s, .int .i64 0] 134)
  clear hsz
  go_enter Tryz.func64, Tryz.ntmps64
  go_wp2_with fail
  go_at_call 84
  refine (A1.out _ (w.heap.size + 1) _ (T0.out)).mono ?_
  rintro e w1 ⟨rfl, hT, hK⟩
  have E1 := Lib.hid hK
  have T1 := Lib.hid hT
  have y0 := hT.ent.c0; have g0 := hT.f 0; have y1 := hT.ent.c1; have g1 := hT.f 1
  clear hT hK
  go_wp2_with fail
  go_at_call 85
  refine (A2.out _ (w.heap.size + 1) _ (T1.out.setD v1)).mono ?_
  rintro e w2 ⟨rfl, hT, hK⟩
  have E2 := Lib.hid (((E1.out.set (.inl rfl) _).set (.inl rfl) _).comp hK)
  clear y0 g0 y1 g1
  have T2 := Lib.hid hT
  have y2 := hT.ent.c2; have g2 := hT.f 2
  clear hT hK
  go_wp2_with fail
  go_at_call 87
  refine (A3.out _ (w.heap.size + 1) _ (T2.out.setP v2)).mono ?_
  rintro e w3 ⟨rfl, hT, hK⟩
  have E3 := Lib.hid ((E2.out.set (.inl rfl) _).comp hK)
  clear y2 g2
  have T3 := Lib.hid hT
  have y3 := hT.ent.c3; have g3 := hT.f 3
  clear hT hK
  have hcv := HCV.out
  go_wp2_with fail
  go_at_call 88
  refine (A4.out _ (w.heap.size + 1) _ (T3.out.setK kk)).mono ?_
  rintro e w4 ⟨rfl, hT, hK⟩
  have E4 := Lib.hid ((E3.out.set (.inl rfl) _).comp hK)
  clear y3 g3
  have T4 := Lib.hid hT
  have y4 := hT.ent.c4; have g4 := hT.f 4; have y5 := hT.ent.c5; have g5 := hT.f 5; have y6 := hT.ent.c6; have g6 := hT.f 6
  clear hT hK
  go_wp2_with fail
  go_at_call 84
  refine (A5.out _ (w.heap.size + 1) _ (T4.out.setV k n t)).mono ?_
  rintro e w5 ⟨rfl, hT, hK⟩
  have E5 := Lib.hid ((((E4.out.set (.inl rfl) _).set (.inl rfl) _).set (.inl rfl) _).comp hK)
  clear y4 g4 y5 g5 y6 g6
  have T5 := Lib.hid hT
  have y7 := hT.ent.c7; have g7 := hT.f 7; have y8 := hT.ent.c8; have g8 := hT.f 8
  clear hT hK
  have TE := T5.out.setE v5
  have RR := R0.out.keptE (keptE_E E5.out v5) ne1
  have HTE := Lib.hid TE
  have HRR := Lib.hid RR
  have c10 := TE.c10
  rw [HZ.out] at c10
  have u0 := TE.ent.c0; have u1 := TE.ent.c1; have u2 := TE.ent.c2; have u3 := TE.ent.c3; have u4 := TE.ent.c4; have u5 := TE.ent.c5; have u6 := TE.ent.c6; have u7 := TE.ent.c7; have u8 := TE.ent.c8
  clear TE RR
  go_wp2_with fail
  go_at_call 5
  refine (AR.out _).mono ?_
  rintro e w6 ⟨rfl, hg⟩
  have T6 := HTE.out.kept hg
  have R6 := HRR.out.keptE (.of hg) ne1
  have E6 := Lib.hid ((keptE_E E5.out v5).comp (.of hg))
  clear hg c10 u0 u1 u2 u3 u4 u5 u6 u7 u8 y7 g7 y8 g8
  have RR := R6
  have x0 := RR.ent.c0; have x1 := RR.ent.c1; have x2 := RR.ent.c2; have x3 := RR.ent.c3; have x4 := RR.ent.c4; have x5 := RR.ent.c5; have x6 := RR.ent.c6; have x7 := RR.ent.c7; have x8 := RR.ent.c8
  have xf := RR.f
  have c10 := T6.c10
  rw [HZ.out] at c10
  have u0 := T6.ent.c0; have u1 := T6.ent.c1; have u2 := T6.ent.c2; have u3 := T6.ent.c3; have u4 := T6.ent.c4; have u5 := T6.ent.c5; have u6 := T6.ent.c6; have u7 := T6.ent.c7; have u8 := T6.ent.c8
  have c9 := T6.c9
  clear T6 R6 RR
  go_wp2_with fail
  go_region
  all_goals go_wp2_with fail
  all_goals (refine bodyPost_ret (by simp [results, Tryz.results64, go_sem, *]) rfl ⟨HR.out, ?_⟩)
  all_goals refine Kept.drew ?_
  all_goals (exact ((((((((((KeptE.kept E6.out K0.out (Nat.le_succ _)).setCell (Nat.le_refl _) _).setCell (Nat.le_refl _) _).setCell (Nat.le_refl _) _).setCell (Nat.le_refl _) _).setCell (Nat.le_refl _) _).setCell (Nat.le_refl _) _).setCell (Nat.le_refl _) _).setCell (Nat.le_refl _) _).setCell (Nat.le_refl _) _))
end Go.Proofs.YtoggcpfogeoeaaaGreatDoor

namespace Go.Proofs.YtoggcpfogeoeaaaGreatDoor
open Go.RowKit

theorem etake_any (s : ByteArray) (w : World) (hs : s.size ≤ 100000) :
    Calls Tryz.prog 64 #[.string s] w fun e w' => e = .returned (.tuple #[.agg #[.int .i64 (teX s).d.1, .int .i64 (teX s).d.2, .string (teX s).p, .int .i64 (teX s).k, .int .i64 (teX s).vk, .int .i64 (teX s).vn, .string (teX s).vt, .int .i64 (teX s).e.1, .int .i64 (teX s).e.2], .string (teR s), .int .i64 (teE s)]) ∧ Kept w w' := by
  obtain ⟨v1, a1, z1, v2, a2, z2, v3, a3, z3, k, n, t, a4, z4, v5, a5, z5, S⟩ := steps_ex s
  by_cases hz : z5 = 0
  · by_cases h3 : 3 < v3
    · exact etake_kind s w hs S hz h3
    · cases hr : rightE ⟨v1, v2, IntKind.i64.wrap v3, k, n, t, v5⟩ with
      | false => exact etake_form s w hs S hz h3 hr
      | true => exact etake_ok s w hs S hz h3 hr
  · exact etake_err s w hs S hz
theorem etake_c (s : ByteArray) (x : En) (r : ByteArray) (k : Int) (h1 : teX s = x) (h2 : teR s = r) (h3 : (teE s : Int) = k) (hs : s.size ≤ 100000) (w : World) :
    Calls Tryz.prog 64 #[.string s] w fun e w' => e = .returned (.tuple #[.agg #[.int .i64 x.d.1, .int .i64 x.d.2, .string x.p, .int .i64 x.k, .int .i64 x.vk, .int .i64 x.vn, .string x.vt, .int .i64 x.e.1, .int .i64 x.e.2], .string r, .int .i64 k]) ∧ Kept w w' := by
  subst h1 h2 h3; exact etake_any s w hs
end Go.Proofs.YtoggcpfogeoeaaaGreatDoor

