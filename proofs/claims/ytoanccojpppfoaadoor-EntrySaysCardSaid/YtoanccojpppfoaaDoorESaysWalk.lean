/-
  What is proved: the Go function EntrySays of layer 7's laws, called with any two entries and any text, where the laid tables read as their initialisers lay them, returns true; the world has new blocks at most.
-/
import Derived.Test.YtoanccojpppfoaaDoorELong
namespace Go.Proofs.YtoanccojpppfoaaDoor
open Go.RowKit

set_option maxRecDepth 100000 in
set_option maxHeartbeats 32000000 in
theorem esays_small (x y : En) (s : ByteArray) (w : World) (hL : longE x = false) (hM : longE y = false) (hx : EnB x) (ss : s.size ≤ 900) (hl : LaidE w) :
    Calls Tryd.prog 3 #[.agg #[.int .i64 x.d.1, .int .i64 x.d.2, .string x.p, .int .i64 x.k, .int .i64 x.vk, .int .i64 x.vn, .string x.vt, .int .i64 x.e.1, .int .i64 x.e.2], .agg #[.int .i64 y.d.1, .int .i64 y.d.2, .string y.p, .int .i64 y.k, .int .i64 y.vk, .int .i64 y.vn, .string y.vt, .int .i64 y.e.1, .int .i64 y.e.2], .string s] w fun e w' => e = .returned (.bool true) ∧ Kept w w' := by
  have hsz : x.p.size ≤ 300 ∧ x.vt.size ≤ 400 := by
    unfold longE at hL
    have := of_decide_eq_false hL
    omega
  have hsy : y.p.size ≤ 300 ∧ y.vt.size ≤ 400 := by
    unfold longE at hM
    have := of_decide_eq_false hM
    omega
  have d9 : decide ((900 : Int) < (s.size : Int)) = false := decide_eq_false (by omega)
  obtain ⟨X, hX⟩ : ∃ X, teX s = X := ⟨_, rfl⟩
  obtain ⟨R, hR⟩ : ∃ R, teR s = R := ⟨_, rfl⟩
  obtain ⟨Z, hZ⟩ : ∃ Z : Int, (teE s : Int) = Z := ⟨_, rfl⟩
  obtain ⟨rd, hrd⟩ : ∃ b, rightE x = b := ⟨_, rfl⟩
  obtain ⟨q, hq⟩ : ∃ q, cmpD x.d y.d = q := ⟨_, rfl⟩
  obtain ⟨P, hP⟩ : ∃ P, putE s x = P := ⟨_, rfl⟩
  obtain ⟨T, hT⟩ : ∃ T, textE x = T := ⟨_, rfl⟩
  have AL := Lib.hid (fun w => elong_c x false hL w (by omega) (by omega))
  have BL := Lib.hid (fun w => elong_c y false hM w (by omega) (by omega))
  have A1 := Lib.hid (fun w => etake_c s X R Z hX hR hZ (by omega) w)
  have A2 := Lib.hid (fun w => ertake_c s X R Z hX hR hZ (by omega) w)
  have A3 := Lib.hid (fun w => eright_c x rd hrd w (by omega) (by omega))
  have A4 := Lib.hid (fun w => reright_c x rd hrd w (by omega) (by omega))
  have A5 := Lib.hid (fun w => ecmp_c x y q hq w)
  have A6 := Lib.hid (fun w => recmp_c x y q hq w)
  have A7 := Lib.hid (fun w => eput_c s x P hP hx w (by omega) (by omega) (by omega))
  have A8 := Lib.hid (fun w => reput_c s x P hP hx w (by omega) (by omega) (by omega))
  have A9 := Lib.hid (fun w hl => etext_c x T hT hx w (by omega) (by omega) hl)
  have A10 := Lib.hid (fun w => retext_c x T hT hx w (by omega) (by omega))
  have HL := Lib.hid hl
  have K0 := Lib.hid (((Kept.refl w).alloc #[.int .i64 x.d.1, .int .i64 x.d.2, .string x.p, .int .i64 x.k, .int .i64 x.vk, .int .i64 x.vn, .string x.vt, .int .i64 x.e.1, .int .i64 x.e.2] 27).alloc #[.int .i64 y.d.1, .int .i64 y.d.2, .string y.p, .int .i64 y.k, .int .i64 y.vk, .int .i64 y.vn, .string y.vt, .int .i64 y.e.1, .int .i64 y.e.2] 27)
  have E0 := (Ent.new w x 27).kept ((Kept.refl _).alloc #[.int .i64 y.d.1, .int .i64 y.d.2, .string y.p, .int .i64 y.k, .int .i64 y.vk, .int .i64 y.vn, .string y.vt, .int .i64 y.e.1, .int .i64 y.e.2] 27)
  have F0 := Ent.new (w.alloc (.cells #[.int .i64 x.d.1, .int .i64 x.d.2, .string x.p, .int .i64 x.k, .int .i64 x.vk, .int .i64 x.vn, .string x.vt, .int .i64 x.e.1, .int .i64 x.e.2] 27)) y 27
  rw [show (w.alloc (.cells #[.int .i64 x.d.1, .int .i64 x.d.2, .string x.p, .int .i64 x.k, .int .i64 x.vk, .int .i64 x.vn, .string x.vt, .int .i64 x.e.1, .int .i64 x.e.2] 27)).heap.size = w.heap.size + 1 by simp] at F0
  have u0 := E0.c0; have u1 := E0.c1; have u2 := E0.c2; have u3 := E0.c3; have u4 := E0.c4; have u5 := E0.c5; have u6 := E0.c6; have u7 := E0.c7; have u8 := E0.c8
  have E0 := Lib.hid E0
  have F0 := Lib.hid F0
  clear hl hL hM hx hsz hsy hX hR hZ hrd hq hP hT
  go_enter Tryd.func3, Tryd.ntmps3
  go_wp2_with fail
  go_at_call 5
  refine (AL.out _).mono ?_
  rintro e w1 ⟨rfl, hg⟩
  have E1 := Lib.hid (E0.out.kept hg)
  have F1 := Lib.hid (F0.out.kept hg)
  have K1 := Lib.hid (K0.out.trans hg)
  clear hg
  clear u0 u1 u2 u3 u4 u5 u6 u7 u8
  have v0 := F1.out.c0; have v1 := F1.out.c1; have v2 := F1.out.c2; have v3 := F1.out.c3; have v4 := F1.out.c4; have v5 := F1.out.c5; have v6 := F1.out.c6; have v7 := F1.out.c7; have v8 := F1.out.c8
  go_wp2_with fail
  go_at_call 5
  refine (BL.out _).mono ?_
  rintro e w2 ⟨rfl, hg⟩
  have E2 := Lib.hid (E1.out.kept hg)
  have F2 := Lib.hid (F1.out.kept hg)
  have K2 := Lib.hid (K1.out.trans hg)
  clear hg
  clear v0 v1 v2 v3 v4 v5 v6 v7 v8
  go_wp2_with fail
  go_at_call 7
  refine (A1.out _).mono ?_
  rintro e w3 ⟨rfl, hg⟩
  have E3 := Lib.hid (E2.out.kept hg)
  have F3 := Lib.hid (F2.out.kept hg)
  have K3 := Lib.hid (K2.out.trans hg)
  clear hg
  go_wp2_with fail
  go_at_call 8
  refine (A2.out _).mono ?_
  rintro e w4 ⟨rfl, hg⟩
  have hg2 := ((Kept.refl w3).alloc #[.int .i64 X.d.1, .int .i64 X.d.2, .string X.p, .int .i64 X.k, .int .i64 X.vk, .int .i64 X.vn, .string X.vt, .int .i64 X.e.1, .int .i64 X.e.2] 27).trans hg
  have hg3 := (Kept.refl w4).alloc #[.int .i64 X.d.1, .int .i64 X.d.2, .string X.p, .int .i64 X.k, .int .i64 X.vk, .int .i64 X.vn, .string X.vt, .int .i64 X.e.1, .int .i64 X.e.2] 27
  have X3 := ((Ent.new w3 X 27).kept hg).kept hg3
  have X4 := Ent.new w4 X 27
  have E5 := (E3.out.kept hg2).kept hg3
  have F5 := (F3.out.kept hg2).kept hg3
  have K5 := Lib.hid ((K3.out.trans hg2).trans hg3)
  have HL5 := Lib.hid (HL.out.kept K5.out)
  clear hg hg2 hg3
  go_wp2_with fail
  have u0 := KExt.cell E5.c0; have u1 := KExt.cell E5.c1; have u2 := KExt.cell E5.c2; have u3 := KExt.cell E5.c3; have u4 := KExt.cell E5.c4; have u5 := KExt.cell E5.c5; have u6 := KExt.cell E5.c6; have u7 := KExt.cell E5.c7; have u8 := KExt.cell E5.c8
  have v0 := KExt.cell F5.c0; have v1 := KExt.cell F5.c1; have v2 := KExt.cell F5.c2; have v3 := KExt.cell F5.c3; have v4 := KExt.cell F5.c4; have v5 := KExt.cell F5.c5; have v6 := KExt.cell F5.c6; have v7 := KExt.cell F5.c7; have v8 := KExt.cell F5.c8
  have y0 := KExt.cell X3.c0; have y1 := KExt.cell X3.c1; have y2 := KExt.cell X3.c2; have y3 := KExt.cell X3.c3; have y4 := KExt.cell X3.c4; have y5 := KExt.cell X3.c5; have y6 := KExt.cell X3.c6; have y7 := KExt.cell X3.c7; have y8 := KExt.cell X3.c8
  have z0 := KExt.cell X4.c0; have z1 := KExt.cell X4.c1; have z2 := KExt.cell X4.c2; have z3 := KExt.cell X4.c3; have z4 := KExt.cell X4.c4; have z5 := KExt.cell X4.c5; have z6 := KExt.cell X4.c6; have z7 := KExt.cell X4.c7; have z8 := KExt.cell X4.c8
  clear E0 F0 E1 F1 E2 F2 E3 F3 E5 F5 X3 X4 K0 K1 K2 K3 HL
  (try dsimp only [List.append])
  refine region_kept _ (by kernel_rfl) (by kernel_rfl) (Kept.refl _) ?_
  repeat (go_big_quiet_step ((first
    | (go_at_call 9; (with_reducible exact KExt.callsK (A3.out _)))
    | (go_at_call 10; (with_reducible exact KExt.callsK (A4.out _)))
    | (go_at_call 11; (with_reducible exact KExt.callsK (A5.out _)))
    | (go_at_call 12; (with_reducible exact KExt.callsK (A6.out _)))
    | (go_at_call 13; (with_reducible exact KExt.callsK (A7.out _)))
    | (go_at_call 14; (with_reducible exact KExt.callsK (A8.out _)))
    | (go_at_call 15; (with_reducible exact KExt.callsK (A9.out _ (HL5.out.kept (KExt.g _)))))
    | (go_at_call 16; (with_reducible exact KExt.callsK (A10.out _)))
    | (go_at_call 6; (with_reducible exact KExt.callsK (eawake_any _ (HL5.out.kept (KExt.g _)))))
    | fail)))
  refine wpQuiet_nil ?_
  intro g
  go_wp2_with fail
  go_ret
  exact ⟨rfl, K5.out.trans g.g⟩

theorem esays_any (x y : En) (s : ByteArray) (w : World) (hx : EnB x) (sp : x.p.size ≤ 140737488351232) (st : x.vt.size ≤ 140737488351232) (sq : y.p.size ≤ 140737488351232) (su : y.vt.size ≤ 140737488351232) (ss : s.size ≤ 140737488351232) (hl : LaidE w) :
    Calls Tryd.prog 3 #[.agg #[.int .i64 x.d.1, .int .i64 x.d.2, .string x.p, .int .i64 x.k, .int .i64 x.vk, .int .i64 x.vn, .string x.vt, .int .i64 x.e.1, .int .i64 x.e.2], .agg #[.int .i64 y.d.1, .int .i64 y.d.2, .string y.p, .int .i64 y.k, .int .i64 y.vk, .int .i64 y.vn, .string y.vt, .int .i64 y.e.1, .int .i64 y.e.2], .string s] w fun e w' => e = .returned (.bool true) ∧ Kept w w' := by
  cases hL : longE x with
  | true => exact esays_big x y s w true (longE y) hL rfl sp st sq su ss (.inl rfl) hl
  | false =>
    cases hM : longE y with
    | true => exact esays_big x y s w false true hL hM sp st sq su ss (.inr (.inl rfl)) hl
    | false =>
      by_cases h9 : 900 < s.size
      · exact esays_big x y s w false false hL hM sp st sq su ss (.inr (.inr h9)) hl
      · exact esays_small x y s w hL hM hx (by omega) hl
end Go.Proofs.YtoanccojpppfoaaDoor
