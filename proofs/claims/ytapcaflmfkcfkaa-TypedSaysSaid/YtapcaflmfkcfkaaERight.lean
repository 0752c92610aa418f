/-
  What is proved: Right and Cmp of package entry and of the document's layer 7, called with any entries, return what P7.1 and P7.2 say; so does the laws' own test on lengths; the world has new blocks at most.
-/
import Derived.Test.YtapcaflmfkcfkaaM6
import Derived.Test.YtapcaflmfkcfkaaM8
import Derived.Test.YtapcaflmfkcfkaaM9
import Derived.Test.YtapcaflmfkcfkaaM4
namespace Go.Proofs.Ytapcaflmfkcfkaa
open Go.RowKit
set_option linter.unusedVariables false

theorem path_c (p : ByteArray) (b : Bool) (h : L4.rightS p = b) (hp : p.size ≤ 1099511627776) (w : World) :
    Calls Try.prog 25 #[.string p] w fun e w' => e = .returned (.bool b) ∧ Kept w w' := by
  subst h
  exact (L4.right_any p w hp).mono fun _ _ ⟨he, hk⟩ => ⟨he, kept_of_below hk⟩
theorem rpath_c (p : ByteArray) (b : Bool) (h : L4.rightS p = b) (hp : p.size ≤ 1099511627776) (w : World) :
    Calls Try.prog 26 #[.string p] w fun e w' => e = .returned (.bool b) ∧ Kept w w' := by
  subst h
  exact (L4.rright_any p w hp).mono fun _ _ ⟨he, hk⟩ => ⟨he, kept_of_below hk⟩

theorem zero_dot (d : Int × Int) : (d.1 = 0 ∧ d.2 = 0 ∧ (d.1 == 0) = true ∧ (d.2 == 0) = true) ∨ ((d.1 == 0) = false ∧ ¬(d.1 = 0 ∧ d.2 = 0)) ∨ ((d.1 == 0) = true ∧ (d.2 == 0) = false ∧ ¬(d.1 = 0 ∧ d.2 = 0)) := by
  by_cases h1 : d.1 = 0
  · by_cases h2 : d.2 = 0
    · exact .inl ⟨h1, h2, by simpa using h1, by simpa using h2⟩
    · exact .inr (.inr ⟨by simpa using h1, by simpa using h2, fun h => h2 h.2⟩)
  · exact .inr (.inl ⟨by simpa using h1, fun h => h1 h.1⟩)

set_option maxRecDepth 100000 in
theorem ver_any (d : Int × Int) (w : World) :
    Calls Try.prog 33 #[.agg #[.int .i64 d.1, .int .i64 d.2]] w fun e w' => e = .returned (.bool (verE d)) ∧ Kept w w' := by
  rcases zero_dot d with ⟨h1, h2, z1, z2⟩ | ⟨z1, hz⟩ | ⟨z1, z2, hz⟩
  · have HR := Lib.hid (show true = verE d by unfold verE; rw [decide_eq_true ⟨h1, h2⟩]; rfl)
    clear h1 h2
    go_enter Try.func33, Try.ntmps33
    go_wp2
    go_ret
    exact ⟨ret_bool HR.out, (Kept.refl _).alloc _ _⟩
  all_goals
    have HR := Lib.hid (show rightD d = verE d by unfold verE; rw [decide_eq_false hz]; rfl)
    have A1 := Lib.hid (fun w => dright_c d (rightD d) rfl w)
    clear hz
    go_enter Try.func33, Try.ntmps33
    go_wp2_with (go_at_call 30; ((with_reducible refine (A1.out _).mono ?_); rintro e w1 ⟨rfl, hg⟩))
    go_ret
    exact ⟨ret_bool HR.out, ((Kept.refl _).alloc _ _).trans hg⟩
theorem ver_c (d : Int × Int) (b : Bool) (h : verE d = b) (w : World) :
    Calls Try.prog 33 #[.agg #[.int .i64 d.1, .int .i64 d.2]] w fun e w' => e = .returned (.bool b) ∧ Kept w w' := by
  subst h; exact ver_any d w

theorem kindE_cases (k vk : Int) : (k = 1 ∧ kindE k vk = true) ∨ (k = 2 ∧ kindE k vk = true) ∨ (k = 3 ∧ kindE k vk = (vk == 1)) ∨ ((k == 1) = false ∧ (k == 2) = false ∧ (k == 3) = false ∧ kindE k vk = false) := by
  unfold kindE
  by_cases h1 : k = 1
  · exact .inl ⟨h1, decide_eq_true (.inl h1)⟩
  by_cases h2 : k = 2
  · exact .inr (.inl ⟨h2, decide_eq_true (.inr (.inl h2))⟩)
  by_cases h3 : k = 3
  · refine .inr (.inr (.inl ⟨h3, ?_⟩))
    subst h3
    by_cases h4 : vk = 1
    · rw [decide_eq_true (.inr (.inr ⟨rfl, h4⟩))]; exact (beq_iff_eq.2 h4).symm
    · rw [decide_eq_false (by omega)]; exact (beq_eq_false_iff_ne.2 h4).symm
  · exact .inr (.inr (.inr ⟨by simpa using h1, by simpa using h2, by simpa using h3, decide_eq_false (by omega)⟩))

set_option maxRecDepth 100000 in
set_option maxHeartbeats 1000000 in
theorem kind_any (x : En) (w : World) :
    Calls Try.prog 31 #[.agg #[.int .i64 x.d.1, .int .i64 x.d.2, .string x.p, .int .i64 x.k, .int .i64 x.vk, .int .i64 x.vn, .string x.vt, .int .i64 x.e.1, .int .i64 x.e.2]] w fun e w' => e = .returned (.bool (kindE x.k x.vk)) ∧ Kept w w' := by
  obtain ⟨d, p, k, vk, vn, vt, e⟩ := x
  show Calls Try.prog 31 #[.agg #[.int .i64 d.1, .int .i64 d.2, .string p, .int .i64 k, .int .i64 vk, .int .i64 vn, .string vt, .int .i64 e.1, .int .i64 e.2]] w fun e w' => e = .returned (.bool (kindE k vk)) ∧ Kept w w'
  rcases kindE_cases k vk with ⟨rfl, h⟩ | ⟨rfl, h⟩ | ⟨rfl, h⟩ | ⟨k1, k2, k3, h⟩
  all_goals
    have HR := Lib.hid h
    clear h
    go_enter Try.func31, Try.ntmps31
    go_wp2
    go_ret
    exact ⟨ret_bool HR.out.symm, (Kept.refl _).alloc _ _⟩
theorem kind_c (x : En) (b : Bool) (h : kindE x.k x.vk = b) (w : World) :
    Calls Try.prog 31 #[.agg #[.int .i64 x.d.1, .int .i64 x.d.2, .string x.p, .int .i64 x.k, .int .i64 x.vk, .int .i64 x.vn, .string x.vt, .int .i64 x.e.1, .int .i64 x.e.2]] w fun e w' => e = .returned (.bool b) ∧ Kept w w' := by
  subst h; exact kind_any x w

/-- What an event left, in nine cells. -/
structure Ent (w : World) (b : Nat) (x : En) : Prop where
  c0 : w.cell? ⟨b, 0, none⟩ = some (.int .i64 x.d.1)
  c1 : w.cell? ⟨b, 1, none⟩ = some (.int .i64 x.d.2)
  c2 : w.cell? ⟨b, 2, none⟩ = some (.string x.p)
  c3 : w.cell? ⟨b, 3, none⟩ = some (.int .i64 x.k)
  c4 : w.cell? ⟨b, 4, none⟩ = some (.int .i64 x.vk)
  c5 : w.cell? ⟨b, 5, none⟩ = some (.int .i64 x.vn)
  c6 : w.cell? ⟨b, 6, none⟩ = some (.string x.vt)
  c7 : w.cell? ⟨b, 7, none⟩ = some (.int .i64 x.e.1)
  c8 : w.cell? ⟨b, 8, none⟩ = some (.int .i64 x.e.2)
theorem Ent.kept {w w' : World} {b : Nat} {x : En} (h : Ent w b x) (hg : Kept w w') : Ent w' b x :=
  ⟨hg.cell h.c0, hg.cell h.c1, hg.cell h.c2, hg.cell h.c3, hg.cell h.c4, hg.cell h.c5, hg.cell h.c6, hg.cell h.c7, hg.cell h.c8⟩
theorem Ent.new (w : World) (x : En) (t : TypeId) : Ent (w.alloc (.cells #[.int .i64 x.d.1, .int .i64 x.d.2, .string x.p, .int .i64 x.k, .int .i64 x.vk, .int .i64 x.vn, .string x.vt, .int .i64 x.e.1, .int .i64 x.e.2] t)) w.heap.size x :=
  ⟨(Kept.refl _).box 0 _ rfl, (Kept.refl _).box 1 _ rfl, (Kept.refl _).box 2 _ rfl, (Kept.refl _).box 3 _ rfl, (Kept.refl _).box 4 _ rfl, (Kept.refl _).box 5 _ rfl, (Kept.refl _).box 6 _ rfl, (Kept.refl _).box 7 _ rfl, (Kept.refl _).box 8 _ rfl⟩
set_option maxRecDepth 100000 in
set_option maxHeartbeats 1000000 in
theorem eright_dotF (x : En) (w : World) (sp : x.p.size ≤ 1099511627776) (st : x.vt.size ≤ 1099511627776) (hdot : rightD x.d = false) :
    Calls Try.prog 16 #[.agg #[.int .i64 x.d.1, .int .i64 x.d.2, .string x.p, .int .i64 x.k, .int .i64 x.vk, .int .i64 x.vn, .string x.vt, .int .i64 x.e.1, .int .i64 x.e.2]] w fun e w' => e = .returned (.bool false) ∧ Kept w w' := by
  have A1 := Lib.hid (fun w => dright_c x.d false hdot w)
  have E0 := Lib.hid (Ent.new w x 33)
  have K0 := Lib.hid ((Kept.refl w).alloc #[.int .i64 x.d.1, .int .i64 x.d.2, .string x.p, .int .i64 x.k, .int .i64 x.vk, .int .i64 x.vn, .string x.vt, .int .i64 x.e.1, .int .i64 x.e.2] 33)
  clear sp st hdot
  go_enter Try.func16, Try.ntmps16
  go_wp2_with fail
  go_at_call 30
  refine (A1.out _).mono ?_
  rintro e w1 ⟨rfl, hg⟩
  have E := E0.out.kept (hg)
  have K1 := Lib.hid (K0.out.trans (hg))
  have E1 := Lib.hid E
  have c0 := E.c0; have c1 := E.c1; have c2 := E.c2; have c3 := E.c3; have c4 := E.c4; have c5 := E.c5; have c6 := E.c6; have c7 := E.c7; have c8 := E.c8
  clear E hg
  go_wp2_with fail
  go_ret
  exact ⟨rfl, K1.out⟩

set_option maxRecDepth 100000 in
set_option maxHeartbeats 1000000 in
theorem eright_pathF (x : En) (w : World) (sp : x.p.size ≤ 1099511627776) (st : x.vt.size ≤ 1099511627776) (hdot : rightD x.d = true) (hpath : L4.rightS x.p = false) :
    Calls Try.prog 16 #[.agg #[.int .i64 x.d.1, .int .i64 x.d.2, .string x.p, .int .i64 x.k, .int .i64 x.vk, .int .i64 x.vn, .string x.vt, .int .i64 x.e.1, .int .i64 x.e.2]] w fun e w' => e = .returned (.bool false) ∧ Kept w w' := by
  have A1 := Lib.hid (fun w => dright_c x.d true hdot w)
  have A2 := Lib.hid (fun w => path_c x.p false hpath (by omega) w)
  have E0 := Lib.hid (Ent.new w x 33)
  have K0 := Lib.hid ((Kept.refl w).alloc #[.int .i64 x.d.1, .int .i64 x.d.2, .string x.p, .int .i64 x.k, .int .i64 x.vk, .int .i64 x.vn, .string x.vt, .int .i64 x.e.1, .int .i64 x.e.2] 33)
  clear sp st hdot hpath
  go_enter Try.func16, Try.ntmps16
  go_wp2_with fail
  go_at_call 30
  refine (A1.out _).mono ?_
  rintro e w1 ⟨rfl, hg⟩
  have E := E0.out.kept (hg)
  have K1 := Lib.hid (K0.out.trans (hg))
  have E1 := Lib.hid E
  have c0 := E.c0; have c1 := E.c1; have c2 := E.c2; have c3 := E.c3; have c4 := E.c4; have c5 := E.c5; have c6 := E.c6; have c7 := E.c7; have c8 := E.c8
  clear E hg
  go_wp2_with fail
  go_at_call 25
  refine (A2.out _).mono ?_
  rintro e w2 ⟨rfl, hg⟩
  clear c0 c1 c2 c3 c4 c5 c6 c7 c8
  have E := E1.out.kept (hg)
  have K2 := Lib.hid (K1.out.trans (hg))
  have E2 := Lib.hid E
  have c0 := E.c0; have c1 := E.c1; have c2 := E.c2; have c3 := E.c3; have c4 := E.c4; have c5 := E.c5; have c6 := E.c6; have c7 := E.c7; have c8 := E.c8
  clear E hg
  go_wp2_with fail
  go_ret
  exact ⟨rfl, K2.out⟩

set_option maxRecDepth 100000 in
set_option maxHeartbeats 1000000 in
theorem eright_kindF (x : En) (w : World) (sp : x.p.size ≤ 1099511627776) (st : x.vt.size ≤ 1099511627776) (hdot : rightD x.d = true) (hpath : L4.rightS x.p = true) (hkind : kindE x.k x.vk = false) :
    Calls Try.prog 16 #[.agg #[.int .i64 x.d.1, .int .i64 x.d.2, .string x.p, .int .i64 x.k, .int .i64 x.vk, .int .i64 x.vn, .string x.vt, .int .i64 x.e.1, .int .i64 x.e.2]] w fun e w' => e = .returned (.bool false) ∧ Kept w w' := by
  have A1 := Lib.hid (fun w => dright_c x.d true hdot w)
  have A2 := Lib.hid (fun w => path_c x.p true hpath (by omega) w)
  have A3 := Lib.hid (fun w => kind_c x false hkind w)
  have E0 := Lib.hid (Ent.new w x 33)
  have K0 := Lib.hid ((Kept.refl w).alloc #[.int .i64 x.d.1, .int .i64 x.d.2, .string x.p, .int .i64 x.k, .int .i64 x.vk, .int .i64 x.vn, .string x.vt, .int .i64 x.e.1, .int .i64 x.e.2] 33)
  clear sp st hdot hpath hkind
  go_enter Try.func16, Try.ntmps16
  go_wp2_with fail
  go_at_call 30
  refine (A1.out _).mono ?_
  rintro e w1 ⟨rfl, hg⟩
  have E := E0.out.kept (hg)
  have K1 := Lib.hid (K0.out.trans (hg))
  have E1 := Lib.hid E
  have c0 := E.c0; have c1 := E.c1; have c2 := E.c2; have c3 := E.c3; have c4 := E.c4; have c5 := E.c5; have c6 := E.c6; have c7 := E.c7; have c8 := E.c8
  clear E hg
  go_wp2_with fail
  go_at_call 25
  refine (A2.out _).mono ?_
  rintro e w2 ⟨rfl, hg⟩
  clear c0 c1 c2 c3 c4 c5 c6 c7 c8
  have E := E1.out.kept (hg)
  have K2 := Lib.hid (K1.out.trans (hg))
  have E2 := Lib.hid E
  have c0 := E.c0; have c1 := E.c1; have c2 := E.c2; have c3 := E.c3; have c4 := E.c4; have c5 := E.c5; have c6 := E.c6; have c7 := E.c7; have c8 := E.c8
  clear E hg
  go_wp2_with fail
  go_at_call 31
  refine (A3.out _).mono ?_
  rintro e w3 ⟨rfl, hg⟩
  clear c0 c1 c2 c3 c4 c5 c6 c7 c8
  have E := E2.out.kept (hg)
  have K3 := Lib.hid (K2.out.trans (hg))
  have E3 := Lib.hid E
  have c0 := E.c0; have c1 := E.c1; have c2 := E.c2; have c3 := E.c3; have c4 := E.c4; have c5 := E.c5; have c6 := E.c6; have c7 := E.c7; have c8 := E.c8
  clear E hg
  go_wp2_with fail
  go_ret
  exact ⟨rfl, K3.out⟩

set_option maxRecDepth 100000 in
set_option maxHeartbeats 1000000 in
theorem eright_valF (x : En) (w : World) (sp : x.p.size ≤ 1099511627776) (st : x.vt.size ≤ 1099511627776) (hdot : rightD x.d = true) (hpath : L4.rightS x.p = true) (hkind : kindE x.k x.vk = true) (hval : rightB x.vk x.vn x.vt = false) :
    Calls Try.prog 16 #[.agg #[.int .i64 x.d.1, .int .i64 x.d.2, .string x.p, .int .i64 x.k, .int .i64 x.vk, .int .i64 x.vn, .string x.vt, .int .i64 x.e.1, .int .i64 x.e.2]] w fun e w' => e = .returned (.bool false) ∧ Kept w w' := by
  have A1 := Lib.hid (fun w => dright_c x.d true hdot w)
  have A2 := Lib.hid (fun w => path_c x.p true hpath (by omega) w)
  have A3 := Lib.hid (fun w => kind_c x true hkind w)
  have A4 := Lib.hid (fun w => vright_c x.vk x.vn x.vt false hval w (by omega))
  have E0 := Lib.hid (Ent.new w x 33)
  have K0 := Lib.hid ((Kept.refl w).alloc #[.int .i64 x.d.1, .int .i64 x.d.2, .string x.p, .int .i64 x.k, .int .i64 x.vk, .int .i64 x.vn, .string x.vt, .int .i64 x.e.1, .int .i64 x.e.2] 33)
  clear sp st hdot hpath hkind hval
  go_enter Try.func16, Try.ntmps16
  go_wp2_with fail
  go_at_call 30
  refine (A1.out _).mono ?_
  rintro e w1 ⟨rfl, hg⟩
  have E := E0.out.kept (hg)
  have K1 := Lib.hid (K0.out.trans (hg))
  have E1 := Lib.hid E
  have c0 := E.c0; have c1 := E.c1; have c2 := E.c2; have c3 := E.c3; have c4 := E.c4; have c5 := E.c5; have c6 := E.c6; have c7 := E.c7; have c8 := E.c8
  clear E hg
  go_wp2_with fail
  go_at_call 25
  refine (A2.out _).mono ?_
  rintro e w2 ⟨rfl, hg⟩
  clear c0 c1 c2 c3 c4 c5 c6 c7 c8
  have E := E1.out.kept (hg)
  have K2 := Lib.hid (K1.out.trans (hg))
  have E2 := Lib.hid E
  have c0 := E.c0; have c1 := E.c1; have c2 := E.c2; have c3 := E.c3; have c4 := E.c4; have c5 := E.c5; have c6 := E.c6; have c7 := E.c7; have c8 := E.c8
  clear E hg
  go_wp2_with fail
  go_at_call 31
  refine (A3.out _).mono ?_
  rintro e w3 ⟨rfl, hg⟩
  clear c0 c1 c2 c3 c4 c5 c6 c7 c8
  have E := E2.out.kept (hg)
  have K3 := Lib.hid (K2.out.trans (hg))
  have E3 := Lib.hid E
  have c0 := E.c0; have c1 := E.c1; have c2 := E.c2; have c3 := E.c3; have c4 := E.c4; have c5 := E.c5; have c6 := E.c6; have c7 := E.c7; have c8 := E.c8
  clear E hg
  go_wp2_with fail
  go_at_call 32
  refine (A4.out _).mono ?_
  rintro e w4 ⟨rfl, hg⟩
  clear c0 c1 c2 c3 c4 c5 c6 c7 c8
  have E := E3.out.kept (kept_of hg)
  have K4 := Lib.hid (K3.out.trans (kept_of hg))
  have E4 := Lib.hid E
  have c0 := E.c0; have c1 := E.c1; have c2 := E.c2; have c3 := E.c3; have c4 := E.c4; have c5 := E.c5; have c6 := E.c6; have c7 := E.c7; have c8 := E.c8
  clear E hg
  go_wp2_with fail
  go_ret
  exact ⟨rfl, K4.out⟩

set_option maxRecDepth 100000 in
set_option maxHeartbeats 1000000 in
theorem eright_verF (x : En) (w : World) (sp : x.p.size ≤ 1099511627776) (st : x.vt.size ≤ 1099511627776) (hdot : rightD x.d = true) (hpath : L4.rightS x.p = true) (hkind : kindE x.k x.vk = true) (hval : rightB x.vk x.vn x.vt = true) (hver : verE x.e = false) :
    Calls Try.prog 16 #[.agg #[.int .i64 x.d.1, .int .i64 x.d.2, .string x.p, .int .i64 x.k, .int .i64 x.vk, .int .i64 x.vn, .string x.vt, .int .i64 x.e.1, .int .i64 x.e.2]] w fun e w' => e = .returned (.bool false) ∧ Kept w w' := by
  have A1 := Lib.hid (fun w => dright_c x.d true hdot w)
  have A2 := Lib.hid (fun w => path_c x.p true hpath (by omega) w)
  have A3 := Lib.hid (fun w => kind_c x true hkind w)
  have A4 := Lib.hid (fun w => vright_c x.vk x.vn x.vt true hval w (by omega))
  have A5 := Lib.hid (fun w => ver_c x.e false hver w)
  have E0 := Lib.hid (Ent.new w x 33)
  have K0 := Lib.hid ((Kept.refl w).alloc #[.int .i64 x.d.1, .int .i64 x.d.2, .string x.p, .int .i64 x.k, .int .i64 x.vk, .int .i64 x.vn, .string x.vt, .int .i64 x.e.1, .int .i64 x.e.2] 33)
  clear sp st hdot hpath hkind hval hver
  go_enter Try.func16, Try.ntmps16
  go_wp2_with fail
  go_at_call 30
  refine (A1.out _).mono ?_
  rintro e w1 ⟨rfl, hg⟩
  have E := E0.out.kept (hg)
  have K1 := Lib.hid (K0.out.trans (hg))
  have E1 := Lib.hid E
  have c0 := E.c0; have c1 := E.c1; have c2 := E.c2; have c3 := E.c3; have c4 := E.c4; have c5 := E.c5; have c6 := E.c6; have c7 := E.c7; have c8 := E.c8
  clear E hg
  go_wp2_with fail
  go_at_call 25
  refine (A2.out _).mono ?_
  rintro e w2 ⟨rfl, hg⟩
  clear c0 c1 c2 c3 c4 c5 c6 c7 c8
  have E := E1.out.kept (hg)
  have K2 := Lib.hid (K1.out.trans (hg))
  have E2 := Lib.hid E
  have c0 := E.c0; have c1 := E.c1; have c2 := E.c2; have c3 := E.c3; have c4 := E.c4; have c5 := E.c5; have c6 := E.c6; have c7 := E.c7; have c8 := E.c8
  clear E hg
  go_wp2_with fail
  go_at_call 31
  refine (A3.out _).mono ?_
  rintro e w3 ⟨rfl, hg⟩
  clear c0 c1 c2 c3 c4 c5 c6 c7 c8
  have E := E2.out.kept (hg)
  have K3 := Lib.hid (K2.out.trans (hg))
  have E3 := Lib.hid E
  have c0 := E.c0; have c1 := E.c1; have c2 := E.c2; have c3 := E.c3; have c4 := E.c4; have c5 := E.c5; have c6 := E.c6; have c7 := E.c7; have c8 := E.c8
  clear E hg
  go_wp2_with fail
  go_at_call 32
  refine (A4.out _).mono ?_
  rintro e w4 ⟨rfl, hg⟩
  clear c0 c1 c2 c3 c4 c5 c6 c7 c8
  have E := E3.out.kept (kept_of hg)
  have K4 := Lib.hid (K3.out.trans (kept_of hg))
  have E4 := Lib.hid E
  have c0 := E.c0; have c1 := E.c1; have c2 := E.c2; have c3 := E.c3; have c4 := E.c4; have c5 := E.c5; have c6 := E.c6; have c7 := E.c7; have c8 := E.c8
  clear E hg
  go_wp2_with fail
  go_at_call 33
  refine (A5.out _).mono ?_
  rintro e w5 ⟨rfl, hg⟩
  clear c0 c1 c2 c3 c4 c5 c6 c7 c8
  have E := E4.out.kept (hg)
  have K5 := Lib.hid (K4.out.trans (hg))
  have E5 := Lib.hid E
  have c0 := E.c0; have c1 := E.c1; have c2 := E.c2; have c3 := E.c3; have c4 := E.c4; have c5 := E.c5; have c6 := E.c6; have c7 := E.c7; have c8 := E.c8
  clear E hg
  go_wp2_with fail
  go_ret
  exact ⟨rfl, K5.out⟩

set_option maxRecDepth 100000 in
set_option maxHeartbeats 1000000 in
theorem eright_T (x : En) (w : World) (sp : x.p.size ≤ 1099511627776) (st : x.vt.size ≤ 1099511627776) (hdot : rightD x.d = true) (hpath : L4.rightS x.p = true) (hkind : kindE x.k x.vk = true) (hval : rightB x.vk x.vn x.vt = true) (hver : verE x.e = true) :
    Calls Try.prog 16 #[.agg #[.int .i64 x.d.1, .int .i64 x.d.2, .string x.p, .int .i64 x.k, .int .i64 x.vk, .int .i64 x.vn, .string x.vt, .int .i64 x.e.1, .int .i64 x.e.2]] w fun e w' => e = .returned (.bool true) ∧ Kept w w' := by
  have A1 := Lib.hid (fun w => dright_c x.d true hdot w)
  have A2 := Lib.hid (fun w => path_c x.p true hpath (by omega) w)
  have A3 := Lib.hid (fun w => kind_c x true hkind w)
  have A4 := Lib.hid (fun w => vright_c x.vk x.vn x.vt true hval w (by omega))
  have A5 := Lib.hid (fun w => ver_c x.e true hver w)
  have E0 := Lib.hid (Ent.new w x 33)
  have K0 := Lib.hid ((Kept.refl w).alloc #[.int .i64 x.d.1, .int .i64 x.d.2, .string x.p, .int .i64 x.k, .int .i64 x.vk, .int .i64 x.vn, .string x.vt, .int .i64 x.e.1, .int .i64 x.e.2] 33)
  clear sp st hdot hpath hkind hval hver
  go_enter Try.func16, Try.ntmps16
  go_wp2_with fail
  go_at_call 30
  refine (A1.out _).mono ?_
  rintro e w1 ⟨rfl, hg⟩
  have E := E0.out.kept (hg)
  have K1 := Lib.hid (K0.out.trans (hg))
  have E1 := Lib.hid E
  have c0 := E.c0; have c1 := E.c1; have c2 := E.c2; have c3 := E.c3; have c4 := E.c4; have c5 := E.c5; have c6 := E.c6; have c7 := E.c7; have c8 := E.c8
  clear E hg
  go_wp2_with fail
  go_at_call 25
  refine (A2.out _).mono ?_
  rintro e w2 ⟨rfl, hg⟩
  clear c0 c1 c2 c3 c4 c5 c6 c7 c8
  have E := E1.out.kept (hg)
  have K2 := Lib.hid (K1.out.trans (hg))
  have E2 := Lib.hid E
  have c0 := E.c0; have c1 := E.c1; have c2 := E.c2; have c3 := E.c3; have c4 := E.c4; have c5 := E.c5; have c6 := E.c6; have c7 := E.c7; have c8 := E.c8
  clear E hg
  go_wp2_with fail
  go_at_call 31
  refine (A3.out _).mono ?_
  rintro e w3 ⟨rfl, hg⟩
  clear c0 c1 c2 c3 c4 c5 c6 c7 c8
  have E := E2.out.kept (hg)
  have K3 := Lib.hid (K2.out.trans (hg))
  have E3 := Lib.hid E
  have c0 := E.c0; have c1 := E.c1; have c2 := E.c2; have c3 := E.c3; have c4 := E.c4; have c5 := E.c5; have c6 := E.c6; have c7 := E.c7; have c8 := E.c8
  clear E hg
  go_wp2_with fail
  go_at_call 32
  refine (A4.out _).mono ?_
  rintro e w4 ⟨rfl, hg⟩
  clear c0 c1 c2 c3 c4 c5 c6 c7 c8
  have E := E3.out.kept (kept_of hg)
  have K4 := Lib.hid (K3.out.trans (kept_of hg))
  have E4 := Lib.hid E
  have c0 := E.c0; have c1 := E.c1; have c2 := E.c2; have c3 := E.c3; have c4 := E.c4; have c5 := E.c5; have c6 := E.c6; have c7 := E.c7; have c8 := E.c8
  clear E hg
  go_wp2_with fail
  go_at_call 33
  refine (A5.out _).mono ?_
  rintro e w5 ⟨rfl, hg⟩
  clear c0 c1 c2 c3 c4 c5 c6 c7 c8
  have E := E4.out.kept (hg)
  have K5 := Lib.hid (K4.out.trans (hg))
  have E5 := Lib.hid E
  have c0 := E.c0; have c1 := E.c1; have c2 := E.c2; have c3 := E.c3; have c4 := E.c4; have c5 := E.c5; have c6 := E.c6; have c7 := E.c7; have c8 := E.c8
  clear E hg
  go_wp2_with fail
  go_ret
  exact ⟨rfl, K5.out⟩
theorem eright_any (x : En) (w : World) (sp : x.p.size ≤ 1099511627776) (st : x.vt.size ≤ 1099511627776) :
    Calls Try.prog 16 #[.agg #[.int .i64 x.d.1, .int .i64 x.d.2, .string x.p, .int .i64 x.k, .int .i64 x.vk, .int .i64 x.vn, .string x.vt, .int .i64 x.e.1, .int .i64 x.e.2]] w fun e w' => e = .returned (.bool (rightE x)) ∧ Kept w w' := by
  cases hdot : rightD x.d with
  | false => rw [show rightE x = false by unfold rightE; rw [hdot]; rfl]; exact eright_dotF x w sp st hdot
  | true =>
    cases hpath : L4.rightS x.p with
    | false => rw [show rightE x = false by unfold rightE; rw [hdot, hpath]; rfl]; exact eright_pathF x w sp st hdot hpath
    | true =>
      cases hkind : kindE x.k x.vk with
      | false => rw [show rightE x = false by unfold rightE; rw [hdot, hpath, hkind]; rfl]; exact eright_kindF x w sp st hdot hpath hkind
      | true =>
        cases hval : rightB x.vk x.vn x.vt with
        | false => rw [show rightE x = false by unfold rightE; rw [hdot, hpath, hkind, hval]; rfl]; exact eright_valF x w sp st hdot hpath hkind hval
        | true =>
          cases hver : verE x.e with
          | false => rw [show rightE x = false by unfold rightE; rw [hdot, hpath, hkind, hval, hver]; rfl]; exact eright_verF x w sp st hdot hpath hkind hval hver
          | true => rw [show rightE x = true by unfold rightE; rw [hdot, hpath, hkind, hval, hver]; rfl]; exact eright_T x w sp st hdot hpath hkind hval hver
theorem eright_c (x : En) (b : Bool) (h : rightE x = b) (w : World) (sp : x.p.size ≤ 1099511627776) (st : x.vt.size ≤ 1099511627776) :
    Calls Try.prog 16 #[.agg #[.int .i64 x.d.1, .int .i64 x.d.2, .string x.p, .int .i64 x.k, .int .i64 x.vk, .int .i64 x.vn, .string x.vt, .int .i64 x.e.1, .int .i64 x.e.2]] w fun e w' => e = .returned (.bool b) ∧ Kept w w' := by
  subst h; exact eright_any x w sp st
set_option maxRecDepth 100000 in
set_option maxHeartbeats 4000000 in
theorem rer_dotF (x : En) (w : World) (sp : x.p.size ≤ 1099511627776) (st : x.vt.size ≤ 1099511627776) (hdot : rightD x.d = false) :
    Calls Try.prog 22 #[.agg #[.int .i64 x.d.1, .int .i64 x.d.2, .string x.p, .int .i64 x.k, .int .i64 x.vk, .int .i64 x.vn, .string x.vt, .int .i64 x.e.1, .int .i64 x.e.2]] w fun e w' => e = .returned (.bool false) ∧ Kept w w' := by
  have A1 := Lib.hid (fun w => rrightD_c x.d false hdot w)
  clear sp st hdot

  have E0 := Lib.hid (Ent.new w x 33)
  have K0 := Lib.hid ((Kept.refl w).alloc #[.int .i64 x.d.1, .int .i64 x.d.2, .string x.p, .int .i64 x.k, .int .i64 x.vk, .int .i64 x.vn, .string x.vt, .int .i64 x.e.1, .int .i64 x.e.2] 33)
  go_enter Try.func22, Try.ntmps22
  go_wp2_with fail
  go_at_call 39
  refine (A1.out _).mono ?_
  rintro e w1 ⟨rfl, hg⟩
  have E := E0.out.kept (hg)
  have K1 := Lib.hid (K0.out.trans (hg))
  have E1 := Lib.hid E
  have c0 := E.c0; have c1 := E.c1; have c2 := E.c2; have c3 := E.c3; have c4 := E.c4; have c5 := E.c5; have c6 := E.c6; have c7 := E.c7; have c8 := E.c8
  clear E hg
  go_wp2_with fail
  go_ret
  exact ⟨rfl, K1.out⟩

set_option maxRecDepth 100000 in
set_option maxHeartbeats 4000000 in
theorem rer_pathF (x : En) (w : World) (sp : x.p.size ≤ 1099511627776) (st : x.vt.size ≤ 1099511627776) (hdot : rightD x.d = true) (hpath : L4.rightS x.p = false) :
    Calls Try.prog 22 #[.agg #[.int .i64 x.d.1, .int .i64 x.d.2, .string x.p, .int .i64 x.k, .int .i64 x.vk, .int .i64 x.vn, .string x.vt, .int .i64 x.e.1, .int .i64 x.e.2]] w fun e w' => e = .returned (.bool false) ∧ Kept w w' := by
  have A1 := Lib.hid (fun w => rrightD_c x.d true hdot w)
  have A2 := Lib.hid (fun w => rpath_c x.p false hpath (by omega) w)
  clear sp st hdot hpath

  have E0 := Lib.hid (Ent.new w x 33)
  have K0 := Lib.hid ((Kept.refl w).alloc #[.int .i64 x.d.1, .int .i64 x.d.2, .string x.p, .int .i64 x.k, .int .i64 x.vk, .int .i64 x.vn, .string x.vt, .int .i64 x.e.1, .int .i64 x.e.2] 33)
  go_enter Try.func22, Try.ntmps22
  go_wp2_with fail
  go_at_call 39
  refine (A1.out _).mono ?_
  rintro e w1 ⟨rfl, hg⟩
  have E := E0.out.kept (hg)
  have K1 := Lib.hid (K0.out.trans (hg))
  have E1 := Lib.hid E
  have c0 := E.c0; have c1 := E.c1; have c2 := E.c2; have c3 := E.c3; have c4 := E.c4; have c5 := E.c5; have c6 := E.c6; have c7 := E.c7; have c8 := E.c8
  clear E hg
  go_wp2_with fail
  go_at_call 26
  refine (A2.out _).mono ?_
  rintro e w2 ⟨rfl, hg⟩
  clear c0 c1 c2 c3 c4 c5 c6 c7 c8
  have E := E1.out.kept (hg)
  have K2 := Lib.hid (K1.out.trans (hg))
  have E2 := Lib.hid E
  have c0 := E.c0; have c1 := E.c1; have c2 := E.c2; have c3 := E.c3; have c4 := E.c4; have c5 := E.c5; have c6 := E.c6; have c7 := E.c7; have c8 := E.c8
  clear E hg
  go_wp2_with fail
  go_ret
  exact ⟨rfl, K2.out⟩

set_option maxRecDepth 100000 in
set_option maxHeartbeats 4000000 in
theorem rer_valF (x : En) (w : World) (sp : x.p.size ≤ 1099511627776) (st : x.vt.size ≤ 1099511627776) (hdot : rightD x.d = true) (hpath : L4.rightS x.p = true) (hval : rightB x.vk x.vn x.vt = false) :
    Calls Try.prog 22 #[.agg #[.int .i64 x.d.1, .int .i64 x.d.2, .string x.p, .int .i64 x.k, .int .i64 x.vk, .int .i64 x.vn, .string x.vt, .int .i64 x.e.1, .int .i64 x.e.2]] w fun e w' => e = .returned (.bool false) ∧ Kept w w' := by
  have A1 := Lib.hid (fun w => rrightD_c x.d true hdot w)
  have A2 := Lib.hid (fun w => rpath_c x.p true hpath (by omega) w)
  have A3 := Lib.hid (fun w => rright_c x.vk x.vn x.vt false hval w (by omega))
  clear sp st hdot hpath hval

  have E0 := Lib.hid (Ent.new w x 33)
  have K0 := Lib.hid ((Kept.refl w).alloc #[.int .i64 x.d.1, .int .i64 x.d.2, .string x.p, .int .i64 x.k, .int .i64 x.vk, .int .i64 x.vn, .string x.vt, .int .i64 x.e.1, .int .i64 x.e.2] 33)
  go_enter Try.func22, Try.ntmps22
  go_wp2_with fail
  go_at_call 39
  refine (A1.out _).mono ?_
  rintro e w1 ⟨rfl, hg⟩
  have E := E0.out.kept (hg)
  have K1 := Lib.hid (K0.out.trans (hg))
  have E1 := Lib.hid E
  have c0 := E.c0; have c1 := E.c1; have c2 := E.c2; have c3 := E.c3; have c4 := E.c4; have c5 := E.c5; have c6 := E.c6; have c7 := E.c7; have c8 := E.c8
  clear E hg
  go_wp2_with fail
  go_at_call 26
  refine (A2.out _).mono ?_
  rintro e w2 ⟨rfl, hg⟩
  clear c0 c1 c2 c3 c4 c5 c6 c7 c8
  have E := E1.out.kept (hg)
  have K2 := Lib.hid (K1.out.trans (hg))
  have E2 := Lib.hid E
  have c0 := E.c0; have c1 := E.c1; have c2 := E.c2; have c3 := E.c3; have c4 := E.c4; have c5 := E.c5; have c6 := E.c6; have c7 := E.c7; have c8 := E.c8
  clear E hg
  go_wp2_with fail
  go_at_call 40
  refine (A3.out _).mono ?_
  rintro e w3 ⟨rfl, hg⟩
  clear c0 c1 c2 c3 c4 c5 c6 c7 c8
  have E := E2.out.kept (kept_of hg)
  have K3 := Lib.hid (K2.out.trans (kept_of hg))
  have E3 := Lib.hid E
  have c0 := E.c0; have c1 := E.c1; have c2 := E.c2; have c3 := E.c3; have c4 := E.c4; have c5 := E.c5; have c6 := E.c6; have c7 := E.c7; have c8 := E.c8
  clear E hg
  go_wp2_with fail
  go_ret
  exact ⟨rfl, K3.out⟩

set_option maxRecDepth 100000 in
set_option maxHeartbeats 4000000 in
theorem rer_verF1 (x : En) (w : World) (sp : x.p.size ≤ 1099511627776) (st : x.vt.size ≤ 1099511627776) (hdot : rightD x.d = true) (hpath : L4.rightS x.p = true) (hval : rightB x.vk x.vn x.vt = true) (hver : rightD x.e = false) (z1 : (x.e.1 == 0) = false) :
    Calls Try.prog 22 #[.agg #[.int .i64 x.d.1, .int .i64 x.d.2, .string x.p, .int .i64 x.k, .int .i64 x.vk, .int .i64 x.vn, .string x.vt, .int .i64 x.e.1, .int .i64 x.e.2]] w fun e w' => e = .returned (.bool false) ∧ Kept w w' := by
  have A1 := Lib.hid (fun w => rrightD_c x.d true hdot w)
  have A2 := Lib.hid (fun w => rpath_c x.p true hpath (by omega) w)
  have A3 := Lib.hid (fun w => rright_c x.vk x.vn x.vt true hval w (by omega))
  have A4 := Lib.hid (fun w => rrightD_c x.e false hver w)
  clear sp st hdot hpath hval hver

  have E0 := Lib.hid (Ent.new w x 33)
  have K0 := Lib.hid ((Kept.refl w).alloc #[.int .i64 x.d.1, .int .i64 x.d.2, .string x.p, .int .i64 x.k, .int .i64 x.vk, .int .i64 x.vn, .string x.vt, .int .i64 x.e.1, .int .i64 x.e.2] 33)
  go_enter Try.func22, Try.ntmps22
  go_wp2_with fail
  go_at_call 39
  refine (A1.out _).mono ?_
  rintro e w1 ⟨rfl, hg⟩
  have E := E0.out.kept (hg)
  have K1 := Lib.hid (K0.out.trans (hg))
  have E1 := Lib.hid E
  have c0 := E.c0; have c1 := E.c1; have c2 := E.c2; have c3 := E.c3; have c4 := E.c4; have c5 := E.c5; have c6 := E.c6; have c7 := E.c7; have c8 := E.c8
  clear E hg
  go_wp2_with fail
  go_at_call 26
  refine (A2.out _).mono ?_
  rintro e w2 ⟨rfl, hg⟩
  clear c0 c1 c2 c3 c4 c5 c6 c7 c8
  have E := E1.out.kept (hg)
  have K2 := Lib.hid (K1.out.trans (hg))
  have E2 := Lib.hid E
  have c0 := E.c0; have c1 := E.c1; have c2 := E.c2; have c3 := E.c3; have c4 := E.c4; have c5 := E.c5; have c6 := E.c6; have c7 := E.c7; have c8 := E.c8
  clear E hg
  go_wp2_with fail
  go_at_call 40
  refine (A3.out _).mono ?_
  rintro e w3 ⟨rfl, hg⟩
  clear c0 c1 c2 c3 c4 c5 c6 c7 c8
  have E := E2.out.kept (kept_of hg)
  have K3 := Lib.hid (K2.out.trans (kept_of hg))
  have E3 := Lib.hid E
  have c0 := E.c0; have c1 := E.c1; have c2 := E.c2; have c3 := E.c3; have c4 := E.c4; have c5 := E.c5; have c6 := E.c6; have c7 := E.c7; have c8 := E.c8
  clear E hg
  go_wp2_with fail
  go_at_call 39
  refine (A4.out _).mono ?_
  rintro e w4 ⟨rfl, hg⟩
  clear c0 c1 c2 c3 c4 c5 c6 c7 c8
  have E := E3.out.kept (hg)
  have K4 := Lib.hid (K3.out.trans (hg))
  have E4 := Lib.hid E
  have c0 := E.c0; have c1 := E.c1; have c2 := E.c2; have c3 := E.c3; have c4 := E.c4; have c5 := E.c5; have c6 := E.c6; have c7 := E.c7; have c8 := E.c8
  clear E hg
  go_wp2_with fail
  go_ret
  exact ⟨rfl, K4.out⟩

set_option maxRecDepth 100000 in
set_option maxHeartbeats 4000000 in
theorem rer_verF2 (x : En) (w : World) (sp : x.p.size ≤ 1099511627776) (st : x.vt.size ≤ 1099511627776) (hdot : rightD x.d = true) (hpath : L4.rightS x.p = true) (hval : rightB x.vk x.vn x.vt = true) (hver : rightD x.e = false) (z1 : (x.e.1 == 0) = true) (z2 : (x.e.2 == 0) = false) :
    Calls Try.prog 22 #[.agg #[.int .i64 x.d.1, .int .i64 x.d.2, .string x.p, .int .i64 x.k, .int .i64 x.vk, .int .i64 x.vn, .string x.vt, .int .i64 x.e.1, .int .i64 x.e.2]] w fun e w' => e = .returned (.bool false) ∧ Kept w w' := by
  have A1 := Lib.hid (fun w => rrightD_c x.d true hdot w)
  have A2 := Lib.hid (fun w => rpath_c x.p true hpath (by omega) w)
  have A3 := Lib.hid (fun w => rright_c x.vk x.vn x.vt true hval w (by omega))
  have A4 := Lib.hid (fun w => rrightD_c x.e false hver w)
  clear sp st hdot hpath hval hver

  have E0 := Lib.hid (Ent.new w x 33)
  have K0 := Lib.hid ((Kept.refl w).alloc #[.int .i64 x.d.1, .int .i64 x.d.2, .string x.p, .int .i64 x.k, .int .i64 x.vk, .int .i64 x.vn, .string x.vt, .int .i64 x.e.1, .int .i64 x.e.2] 33)
  go_enter Try.func22, Try.ntmps22
  go_wp2_with fail
  go_at_call 39
  refine (A1.out _).mono ?_
  rintro e w1 ⟨rfl, hg⟩
  have E := E0.out.kept (hg)
  have K1 := Lib.hid (K0.out.trans (hg))
  have E1 := Lib.hid E
  have c0 := E.c0; have c1 := E.c1; have c2 := E.c2; have c3 := E.c3; have c4 := E.c4; have c5 := E.c5; have c6 := E.c6; have c7 := E.c7; have c8 := E.c8
  clear E hg
  go_wp2_with fail
  go_at_call 26
  refine (A2.out _).mono ?_
  rintro e w2 ⟨rfl, hg⟩
  clear c0 c1 c2 c3 c4 c5 c6 c7 c8
  have E := E1.out.kept (hg)
  have K2 := Lib.hid (K1.out.trans (hg))
  have E2 := Lib.hid E
  have c0 := E.c0; have c1 := E.c1; have c2 := E.c2; have c3 := E.c3; have c4 := E.c4; have c5 := E.c5; have c6 := E.c6; have c7 := E.c7; have c8 := E.c8
  clear E hg
  go_wp2_with fail
  go_at_call 40
  refine (A3.out _).mono ?_
  rintro e w3 ⟨rfl, hg⟩
  clear c0 c1 c2 c3 c4 c5 c6 c7 c8
  have E := E2.out.kept (kept_of hg)
  have K3 := Lib.hid (K2.out.trans (kept_of hg))
  have E3 := Lib.hid E
  have c0 := E.c0; have c1 := E.c1; have c2 := E.c2; have c3 := E.c3; have c4 := E.c4; have c5 := E.c5; have c6 := E.c6; have c7 := E.c7; have c8 := E.c8
  clear E hg
  go_wp2_with fail
  go_at_call 39
  refine (A4.out _).mono ?_
  rintro e w4 ⟨rfl, hg⟩
  clear c0 c1 c2 c3 c4 c5 c6 c7 c8
  have E := E3.out.kept (hg)
  have K4 := Lib.hid (K3.out.trans (hg))
  have E4 := Lib.hid E
  have c0 := E.c0; have c1 := E.c1; have c2 := E.c2; have c3 := E.c3; have c4 := E.c4; have c5 := E.c5; have c6 := E.c6; have c7 := E.c7; have c8 := E.c8
  clear E hg
  go_wp2_with fail
  go_ret
  exact ⟨rfl, K4.out⟩

set_option maxRecDepth 100000 in
set_option maxHeartbeats 4000000 in
theorem rer_ver1 (x : En) (w : World) (sp : x.p.size ≤ 1099511627776) (st : x.vt.size ≤ 1099511627776) (hdot : rightD x.d = true) (hpath : L4.rightS x.p = true) (hval : rightB x.vk x.vn x.vt = true) (hver : rightD x.e = true) :
    Calls Try.prog 22 #[.agg #[.int .i64 x.d.1, .int .i64 x.d.2, .string x.p, .int .i64 x.k, .int .i64 x.vk, .int .i64 x.vn, .string x.vt, .int .i64 x.e.1, .int .i64 x.e.2]] w fun e w' => e = .returned (.bool (kindE x.k x.vk)) ∧ Kept w w' := by
  have A1 := Lib.hid (fun w => rrightD_c x.d true hdot w)
  have A2 := Lib.hid (fun w => rpath_c x.p true hpath (by omega) w)
  have A3 := Lib.hid (fun w => rright_c x.vk x.vn x.vt true hval w (by omega))
  have A4 := Lib.hid (fun w => rrightD_c x.e true hver w)
  clear sp st hdot hpath hval hver
  rcases kindE_cases x.k x.vk with ⟨k1, h⟩ | ⟨k1, h⟩ | ⟨k1, h⟩ | ⟨k1, k2, k3, h⟩
  all_goals
    have HR := Lib.hid h
    have HK := Lib.hid k1
    clear h k1
    have E0 := Lib.hid (Ent.new w x 33)
    have K0 := Lib.hid ((Kept.refl w).alloc #[.int .i64 x.d.1, .int .i64 x.d.2, .string x.p, .int .i64 x.k, .int .i64 x.vk, .int .i64 x.vn, .string x.vt, .int .i64 x.e.1, .int .i64 x.e.2] 33)
    go_enter Try.func22, Try.ntmps22
    go_wp2_with fail
    go_at_call 39
    refine (A1.out _).mono ?_
    rintro e w1 ⟨rfl, hg⟩
    have E := E0.out.kept (hg)
    have K1 := Lib.hid (K0.out.trans (hg))
    have E1 := Lib.hid E
    have c0 := E.c0; have c1 := E.c1; have c2 := E.c2; have c3 := E.c3; have c4 := E.c4; have c5 := E.c5; have c6 := E.c6; have c7 := E.c7; have c8 := E.c8
    clear E hg
    go_wp2_with fail
    go_at_call 26
    refine (A2.out _).mono ?_
    rintro e w2 ⟨rfl, hg⟩
    clear c0 c1 c2 c3 c4 c5 c6 c7 c8
    have E := E1.out.kept (hg)
    have K2 := Lib.hid (K1.out.trans (hg))
    have E2 := Lib.hid E
    have c0 := E.c0; have c1 := E.c1; have c2 := E.c2; have c3 := E.c3; have c4 := E.c4; have c5 := E.c5; have c6 := E.c6; have c7 := E.c7; have c8 := E.c8
    clear E hg
    go_wp2_with fail
    go_at_call 40
    refine (A3.out _).mono ?_
    rintro e w3 ⟨rfl, hg⟩
    clear c0 c1 c2 c3 c4 c5 c6 c7 c8
    have E := E2.out.kept (kept_of hg)
    have K3 := Lib.hid (K2.out.trans (kept_of hg))
    have E3 := Lib.hid E
    have c0 := E.c0; have c1 := E.c1; have c2 := E.c2; have c3 := E.c3; have c4 := E.c4; have c5 := E.c5; have c6 := E.c6; have c7 := E.c7; have c8 := E.c8
    clear E hg
    go_wp2_with fail
    go_at_call 39
    refine (A4.out _).mono ?_
    rintro e w4 ⟨rfl, hg⟩
    clear c0 c1 c2 c3 c4 c5 c6 c7 c8
    have E := E3.out.kept (hg)
    have K4 := Lib.hid (K3.out.trans (hg))
    have E4 := Lib.hid E
    have c0 := E.c0; have c1 := E.c1; have c2 := E.c2; have c3 := E.c3; have c4 := E.c4; have c5 := E.c5; have c6 := E.c6; have c7 := E.c7; have c8 := E.c8
    clear E hg
    (try rw [HK.out] at c3)
    have k1 := HK.out
    go_wp2_with fail
    go_ret
    exact ⟨ret_bool HR.out.symm, K4.out⟩

set_option maxRecDepth 100000 in
set_option maxHeartbeats 4000000 in
theorem rer_ver2 (x : En) (w : World) (sp : x.p.size ≤ 1099511627776) (st : x.vt.size ≤ 1099511627776) (hdot : rightD x.d = true) (hpath : L4.rightS x.p = true) (hval : rightB x.vk x.vn x.vt = true) (hver : rightD x.e = false) (z1 : (x.e.1 == 0) = true) (z2 : (x.e.2 == 0) = true) :
    Calls Try.prog 22 #[.agg #[.int .i64 x.d.1, .int .i64 x.d.2, .string x.p, .int .i64 x.k, .int .i64 x.vk, .int .i64 x.vn, .string x.vt, .int .i64 x.e.1, .int .i64 x.e.2]] w fun e w' => e = .returned (.bool (kindE x.k x.vk)) ∧ Kept w w' := by
  have A1 := Lib.hid (fun w => rrightD_c x.d true hdot w)
  have A2 := Lib.hid (fun w => rpath_c x.p true hpath (by omega) w)
  have A3 := Lib.hid (fun w => rright_c x.vk x.vn x.vt true hval w (by omega))
  have A4 := Lib.hid (fun w => rrightD_c x.e false hver w)
  clear sp st hdot hpath hval hver
  rcases kindE_cases x.k x.vk with ⟨k1, h⟩ | ⟨k1, h⟩ | ⟨k1, h⟩ | ⟨k1, k2, k3, h⟩
  all_goals
    have HR := Lib.hid h
    have HK := Lib.hid k1
    clear h k1
    have E0 := Lib.hid (Ent.new w x 33)
    have K0 := Lib.hid ((Kept.refl w).alloc #[.int .i64 x.d.1, .int .i64 x.d.2, .string x.p, .int .i64 x.k, .int .i64 x.vk, .int .i64 x.vn, .string x.vt, .int .i64 x.e.1, .int .i64 x.e.2] 33)
    go_enter Try.func22, Try.ntmps22
    go_wp2_with fail
    go_at_call 39
    refine (A1.out _).mono ?_
    rintro e w1 ⟨rfl, hg⟩
    have E := E0.out.kept (hg)
    have K1 := Lib.hid (K0.out.trans (hg))
    have E1 := Lib.hid E
    have c0 := E.c0; have c1 := E.c1; have c2 := E.c2; have c3 := E.c3; have c4 := E.c4; have c5 := E.c5; have c6 := E.c6; have c7 := E.c7; have c8 := E.c8
    clear E hg
    go_wp2_with fail
    go_at_call 26
    refine (A2.out _).mono ?_
    rintro e w2 ⟨rfl, hg⟩
    clear c0 c1 c2 c3 c4 c5 c6 c7 c8
    have E := E1.out.kept (hg)
    have K2 := Lib.hid (K1.out.trans (hg))
    have E2 := Lib.hid E
    have c0 := E.c0; have c1 := E.c1; have c2 := E.c2; have c3 := E.c3; have c4 := E.c4; have c5 := E.c5; have c6 := E.c6; have c7 := E.c7; have c8 := E.c8
    clear E hg
    go_wp2_with fail
    go_at_call 40
    refine (A3.out _).mono ?_
    rintro e w3 ⟨rfl, hg⟩
    clear c0 c1 c2 c3 c4 c5 c6 c7 c8
    have E := E2.out.kept (kept_of hg)
    have K3 := Lib.hid (K2.out.trans (kept_of hg))
    have E3 := Lib.hid E
    have c0 := E.c0; have c1 := E.c1; have c2 := E.c2; have c3 := E.c3; have c4 := E.c4; have c5 := E.c5; have c6 := E.c6; have c7 := E.c7; have c8 := E.c8
    clear E hg
    go_wp2_with fail
    go_at_call 39
    refine (A4.out _).mono ?_
    rintro e w4 ⟨rfl, hg⟩
    clear c0 c1 c2 c3 c4 c5 c6 c7 c8
    have E := E3.out.kept (hg)
    have K4 := Lib.hid (K3.out.trans (hg))
    have E4 := Lib.hid E
    have c0 := E.c0; have c1 := E.c1; have c2 := E.c2; have c3 := E.c3; have c4 := E.c4; have c5 := E.c5; have c6 := E.c6; have c7 := E.c7; have c8 := E.c8
    clear E hg
    (try rw [HK.out] at c3)
    have k1 := HK.out
    go_wp2_with fail
    go_ret
    exact ⟨ret_bool HR.out.symm, K4.out⟩
theorem reright_any (x : En) (w : World) (sp : x.p.size ≤ 1099511627776) (st : x.vt.size ≤ 1099511627776) :
    Calls Try.prog 22 #[.agg #[.int .i64 x.d.1, .int .i64 x.d.2, .string x.p, .int .i64 x.k, .int .i64 x.vk, .int .i64 x.vn, .string x.vt, .int .i64 x.e.1, .int .i64 x.e.2]] w fun e w' => e = .returned (.bool (rightE x)) ∧ Kept w w' := by
  cases hdot : rightD x.d with
  | false => rw [show rightE x = false by unfold rightE; rw [hdot]; rfl]; exact rer_dotF x w sp st hdot
  | true =>
    cases hpath : L4.rightS x.p with
    | false => rw [show rightE x = false by unfold rightE; rw [hdot, hpath]; rfl]; exact rer_pathF x w sp st hdot hpath
    | true =>
      cases hval : rightB x.vk x.vn x.vt with
      | false => rw [show rightE x = false by unfold rightE; rw [hdot, hpath, hval, Bool.and_false]; rfl]; exact rer_valF x w sp st hdot hpath hval
      | true =>
        cases hver : rightD x.e with
        | true => rw [show rightE x = kindE x.k x.vk by unfold rightE verE; rw [hdot, hpath, hval, hver]; simp]; exact rer_ver1 x w sp st hdot hpath hval hver
        | false =>
          rcases zero_dot x.e with ⟨h1, h2, z1, z2⟩ | ⟨z1, hz⟩ | ⟨z1, z2, hz⟩
          · rw [show rightE x = kindE x.k x.vk by unfold rightE verE; rw [hdot, hpath, hval, decide_eq_true ⟨h1, h2⟩]; simp]; exact rer_ver2 x w sp st hdot hpath hval hver z1 z2
          · rw [show rightE x = false by unfold rightE verE; rw [hver, decide_eq_false hz]; simp]; exact rer_verF1 x w sp st hdot hpath hval hver z1
          · rw [show rightE x = false by unfold rightE verE; rw [hver, decide_eq_false hz]; simp]; exact rer_verF2 x w sp st hdot hpath hval hver z1 z2
theorem reright_c (x : En) (b : Bool) (h : rightE x = b) (w : World) (sp : x.p.size ≤ 1099511627776) (st : x.vt.size ≤ 1099511627776) :
    Calls Try.prog 22 #[.agg #[.int .i64 x.d.1, .int .i64 x.d.2, .string x.p, .int .i64 x.k, .int .i64 x.vk, .int .i64 x.vn, .string x.vt, .int .i64 x.e.1, .int .i64 x.e.2]] w fun e w' => e = .returned (.bool b) ∧ Kept w w' := by
  subst h; exact reright_any x w sp st

def longE (x : En) : Bool := decide (300 < x.p.size ∨ 400 < x.vt.size)
end Go.Proofs.Ytapcaflmfkcfkaa
