/-
  What is proved: awake of layer 12's laws returns true; the world has new blocks at most.
-/
import Derived.Test.YtapcaflmfkcfkaaM14
import Derived.Test.YtapcaflmfkcfkaaM17
namespace Go.Proofs.Ytapcaflmfkcfkaa
open Go.RowKit
set_option linter.unusedVariables false

set_option maxRecDepth 100000 in
set_option maxHeartbeats 2000000 in
theorem one_any (a b : Int) (p : ByteArray) (n : Int) (w : World) :
    Calls Try.prog 20 #[.int .i64 a, .int .i64 b, .string p, .int .i64 n] w fun e w' => e = .returned (.agg #[.int .i64 a, .int .i64 b, .string p, .int .i64 1, .int .i64 1, .int .i64 n, .string ⟨#[]⟩, .int .i64 0, .int .i64 0]) ∧ Kept w w' := by
  have K0 := Lib.hid (((Kept.refl w).alloc #[.int .i64 a, .int .i64 b, .string p, .int .i64 1, .int .i64 1, .int .i64 n, .string ⟨#[]⟩, .int .i64 0, .int .i64 0] 33))
  go_enter Try.func20, Try.ntmps20
  go_wp2
  refine bodyPost_ret (by simp [results, Try.results20, go_sem, *]) rfl ⟨rfl, ?_⟩
  first | exact K0.out | exact (((((((((((Kept.refl w).alloc #[.int .i64 0, .int .i64 0, .string ⟨#[]⟩, .int .i64 0, .int .i64 0, .int .i64 0, .string ⟨#[]⟩, .int .i64 0, .int .i64 0] 33).setCell (Nat.le_refl _) _).setCell (Nat.le_refl _) _).setCell (Nat.le_refl _) _).setCell (Nat.le_refl _) _).setCell (Nat.le_refl _) _).setCell (Nat.le_refl _) _).setCell (Nat.le_refl _) _).setCell (Nat.le_refl _) _).setCell (Nat.le_refl _) _)
theorem el_new (w : World) (L : List En) (t : TypeId) (cs : Array Value) (h : cs = (flatE L).toArray) (hl : L.length ≤ maxLen) : El (w.alloc (.cells cs t)) (some ⟨w.heap.size, 0, none⟩) L.length L.length L := by
  refine ⟨rfl, Nat.le_refl _, hl, (fun h => by cases h), .inr ⟨w.heap.size, 0, rfl, fun j x hj => EntO.of_flat fun i u hu => ?_⟩⟩
  have hi : i < 9 := (List.getElem?_eq_some_iff.1 hu).1
  have hg := flatE_get L j x hj i hi
  rw [show 0 + j * 9 + i = j * 9 + i by omega]
  exact (Kept.refl _).box (j * 9 + i) u (by rw [h, List.getElem?_toArray, hg, hu])
def tA : En := ⟨(1, 1), ⟨#[97, 47, 120]⟩, 1, 1, 5, ⟨#[]⟩, (0, 0)⟩
def tT : En := ⟨(1, 1), ⟨#[97, 47, 120]⟩, 1, 2, 0, ⟨#[116]⟩, (0, 0)⟩
def tB1 : En := ⟨(1, 1), ⟨#[98]⟩, 1, 1, 1, ⟨#[]⟩, (0, 0)⟩
def tB2 : En := ⟨(1, 2), ⟨#[97]⟩, 1, 1, 1, ⟨#[]⟩, (0, 0)⟩
def tB3 : En := ⟨(1, 3), ⟨#[98]⟩, 1, 1, 1, ⟨#[]⟩, (0, 0)⟩
theorem aw_f1 : fitsE smL tA = true := by kernel_rfl
theorem aw_f2 : fitsE smL tT = false := by kernel_rfl
theorem aw_a1 : allE smL [tA] = true := by kernel_rfl
theorem aw_a2 : allE smL [tA, tT] = false := by kernel_rfl
theorem aw_d1 : defR smL ⟨#[109, 47, 107, 49, 47, 116]⟩ = ((2, 0, ⟨#[]⟩), 0) := by kernel_rfl
theorem aw_d2 : defR smL ⟨#[109, 47, 42, 47, 116]⟩ = ((0, 0, ⟨#[]⟩), 6) := by kernel_rfl
theorem aw_d3 : defR smL ⟨#[99]⟩ = ((1, 0, ⟨#[]⟩), 0) := by kernel_rfl
theorem aw_paths : PathsS [tB1, tB2, tB3] [⟨#[97]⟩, ⟨#[98]⟩] := by
  refine ⟨?_, fun p => ?_⟩
  · simp only [List.pairwise_cons, List.mem_cons, List.not_mem_nil, or_false, forall_eq, List.Pairwise.nil, and_true, false_implies, implies_true]
    unfold LtP; decide
  · simp only [List.mem_cons, List.not_mem_nil, or_false, exists_eq_or_imp, exists_eq_left, tB1, tB2, tB3]
    constructor
    · rintro (h | h)
      · exact .inr (.inl h.symm)
      · exact .inl h.symm
    · rintro (h | h | h)
      · exact .inr h.symm
      · exact .inl h.symm
      · exact .inr h.symm
theorem smL_w : ∀ x ∈ smL, x.p.size ≤ 1099511627776 := by
  intro x hx
  unfold smL at hx
  simp only [List.mem_cons, List.not_mem_nil, or_false] at hx
  rcases hx with rfl | rfl | rfl | rfl <;> decide
set_option maxRecDepth 100000 in
set_option maxHeartbeats 32000000 in
theorem tawake_any (w : World) : Calls Try.prog 6 #[] w fun e w' => e = .returned (.bool true) ∧ Kept w w' := by
  go_enter Try.func6, Try.ntmps6
  have HW := Lib.hid (Kept.refl w)
  go_wp2_with fail
  go_at_call 19
  refine (fsmall_any _).mono ?_
  rintro e v1 ⟨b, rfl, hs, hk⟩
  have hka := (Kept.refl v1).alloc #[.slice (some ⟨b, 0, none⟩) 4 4] 24
  have HS := Lib.hid (hs.kept hka)
  have HB := Lib.hid (Box1.new v1 (.slice (some ⟨b, 0, none⟩) 4 4) 24)
  replace HW := Lib.hid (HW.out.trans (hk.trans hka))
  clear hs hk hka
  go_wp2_with fail
  go_at_call 20
  refine (one_any 1 1 ⟨#[97, 47, 120]⟩ 5 _).mono ?_
  rintro e v2 ⟨rfl, hk⟩
  have hka := ((Kept.refl v2).alloc #[.int .i64 1, .int .i64 1, .string ⟨#[97, 47, 120]⟩, .int .i64 1, .int .i64 1, .int .i64 5, .string ⟨#[]⟩, .int .i64 0, .int .i64 0] 33).alloc #[.int .i64 1, .int .i64 1, .string ⟨#[97, 47, 120]⟩, .int .i64 1, .int .i64 2, .int .i64 0, .string ⟨#[116]⟩, .int .i64 0, .int .i64 0] 33
  have HX := Lib.hid ((Ent.new v2 tA 33).kept ((Kept.refl _).alloc #[.int .i64 1, .int .i64 1, .string ⟨#[97, 47, 120]⟩, .int .i64 1, .int .i64 2, .int .i64 0, .string ⟨#[116]⟩, .int .i64 0, .int .i64 0] 33))
  have hy := Ent.new (v2.alloc (.cells #[.int .i64 1, .int .i64 1, .string ⟨#[97, 47, 120]⟩, .int .i64 1, .int .i64 1, .int .i64 5, .string ⟨#[]⟩, .int .i64 0, .int .i64 0] 33)) tT 33
  rw [show (v2.alloc (.cells #[.int .i64 1, .int .i64 1, .string ⟨#[97, 47, 120]⟩, .int .i64 1, .int .i64 1, .int .i64 5, .string ⟨#[]⟩, .int .i64 0, .int .i64 0] 33)).heap.size = v2.heap.size + 1 by simp] at hy
  have HY := Lib.hid hy
  replace HW := Lib.hid (HW.out.trans (hk.trans hka))
  replace HS := Lib.hid (HS.out.kept (hk.trans hka))
  replace HB := Lib.hid (HB.out.kept (hk.trans hka))
  clear hk hka hy
  have d0 := HB.out.c0
  go_wp2_with fail
  go_at_call 11
  refine (tdef_any _ _ _ _ ⟨#[109, 47, 107, 49, 47, 116]⟩ _ HS.out smL_w (by decide) _ aw_d1).mono ?_
  rintro e w1 ⟨rfl, hk⟩
  have hka := (Kept.refl w1).alloc #[.int .i64 2, .int .i64 0, .string ⟨#[]⟩] 31
  have HD1 := Lib.hid (VaB.new w1 2 0 ⟨#[]⟩ 31)
  replace HW := Lib.hid (HW.out.trans (hk.trans hka)); replace HS := Lib.hid (HS.out.kept (hk.trans hka)); replace HB := Lib.hid (HB.out.kept (hk.trans hka)); replace HX := Lib.hid (HX.out.kept (hk.trans hka)); replace HY := Lib.hid (HY.out.kept (hk.trans hka))
  clear hk hka d0
  have d0 := HB.out.c0
  dsimp only [DefV]
  go_wp2_with fail
  go_at_call 11
  refine (tdef_any _ _ _ _ ⟨#[109, 47, 42, 47, 116]⟩ _ HS.out smL_w (by decide) _ aw_d2).mono ?_
  rintro e w2 ⟨rfl, hk⟩
  have hka := (Kept.refl w2).alloc #[.int .i64 0, .int .i64 0, .string ⟨#[]⟩] 31
  replace HW := Lib.hid (HW.out.trans (hk.trans hka)); replace HS := Lib.hid (HS.out.kept (hk.trans hka)); replace HB := Lib.hid (HB.out.kept (hk.trans hka)); replace HX := Lib.hid (HX.out.kept (hk.trans hka)); replace HY := Lib.hid (HY.out.kept (hk.trans hka))
  replace HD1 := Lib.hid (HD1.out.kept (hk.trans hka))
  clear hk hka d0
  have d0 := HB.out.c0
  dsimp only [DefV]
  go_wp2_with fail
  go_at_call 11
  refine (tdef_any _ _ _ _ ⟨#[99]⟩ _ HS.out smL_w (by decide) _ aw_d3).mono ?_
  rintro e w3 ⟨rfl, hk⟩
  have hka := (Kept.refl w3).alloc #[.int .i64 1, .int .i64 0, .string ⟨#[]⟩] 31
  have HD3 := Lib.hid (VaB.new w3 1 0 ⟨#[]⟩ 31)
  replace HW := Lib.hid (HW.out.trans (hk.trans hka)); replace HS := Lib.hid (HS.out.kept (hk.trans hka)); replace HB := Lib.hid (HB.out.kept (hk.trans hka)); replace HX := Lib.hid (HX.out.kept (hk.trans hka)); replace HY := Lib.hid (HY.out.kept (hk.trans hka))
  replace HD1 := Lib.hid (HD1.out.kept (hk.trans hka))
  clear hk hka d0
  have d0 := HB.out.c0
  dsimp only [DefV]
  go_wp2_with fail
  go_at_call 20
  refine (one_any 1 1 ⟨#[98]⟩ 1 _).mono ?_
  rintro e u1 ⟨rfl, hk1⟩
  go_wp2_with fail
  go_at_call 20
  refine (one_any 1 2 ⟨#[97]⟩ 1 _).mono ?_
  rintro e u2 ⟨rfl, hk2⟩
  go_wp2_with fail
  go_at_call 20
  refine (one_any 1 3 ⟨#[98]⟩ 1 _).mono ?_
  rintro e u3 ⟨rfl, hk3⟩
  have hka := (Kept.refl u3).alloc #[.int .i64 1, .int .i64 1, .string ⟨#[98]⟩, .int .i64 1, .int .i64 1, .int .i64 1, .string ⟨#[]⟩, .int .i64 0, .int .i64 0, .int .i64 1, .int .i64 2, .string ⟨#[97]⟩, .int .i64 1, .int .i64 1, .int .i64 1, .string ⟨#[]⟩, .int .i64 0, .int .i64 0, .int .i64 1, .int .i64 3, .string ⟨#[98]⟩, .int .i64 1, .int .i64 1, .int .i64 1, .string ⟨#[]⟩, .int .i64 0, .int .i64 0] 33
  have hel := el_new u3 [tB1, tB2, tB3] 33 #[.int .i64 1, .int .i64 1, .string ⟨#[98]⟩, .int .i64 1, .int .i64 1, .int .i64 1, .string ⟨#[]⟩, .int .i64 0, .int .i64 0, .int .i64 1, .int .i64 2, .string ⟨#[97]⟩, .int .i64 1, .int .i64 1, .int .i64 1, .string ⟨#[]⟩, .int .i64 0, .int .i64 0, .int .i64 1, .int .i64 3, .string ⟨#[98]⟩, .int .i64 1, .int .i64 1, .int .i64 1, .string ⟨#[]⟩, .int .i64 0, .int .i64 0] rfl (by decide)
  have AP := Lib.hid (tpaths_any _ 3 3 _ _ hel (by intro x hx; simp only [List.mem_cons, List.not_mem_nil, or_false] at hx; rcases hx with rfl | rfl | rfl <;> decide) (by decide))
  have hk4 := hk1.trans (hk2.trans (hk3.trans hka))
  replace HW := Lib.hid (HW.out.trans hk4); replace HS := Lib.hid (HS.out.kept hk4); replace HB := Lib.hid (HB.out.kept hk4); replace HX := Lib.hid (HX.out.kept hk4); replace HY := Lib.hid (HY.out.kept hk4)
  replace HD1 := Lib.hid (HD1.out.kept hk4); replace HD3 := Lib.hid (HD3.out.kept hk4)
  clear hk1 hk2 hk3 hka hel hk4 d0
  go_wp2_with fail
  go_at_call 9
  refine AP.out.mono ?_
  rintro e u4 ⟨A, c, M, rfl, hps, hml, _, hk⟩
  obtain rfl := hps.one aw_paths
  have hcap := hml.cap.1; have hcap2 := hml.cap.2
  replace HW := Lib.hid (HW.out.trans hk); replace HS := Lib.hid (HS.out.kept hk); replace HB := Lib.hid (HB.out.kept hk); replace HX := Lib.hid (HX.out.kept hk); replace HY := Lib.hid (HY.out.kept hk)
  replace HD1 := Lib.hid (HD1.out.kept hk); replace HD3 := Lib.hid (HD3.out.kept hk)
  have HM := Lib.hid hml
  clear hps hml hk AP
  have x0 := HX.out.c0; have x1 := HX.out.c1; have x2 := HX.out.c2; have x3 := HX.out.c3; have x4 := HX.out.c4; have x5 := HX.out.c5; have x6 := HX.out.c6; have x7 := HX.out.c7; have x8 := HX.out.c8
  simp only [tA] at x0 x1 x2 x3 x4 x5 x6 x7 x8
  have y0 := HY.out.c0; have y1 := HY.out.c1; have y2 := HY.out.c2; have y3 := HY.out.c3; have y4 := HY.out.c4; have y5 := HY.out.c5; have y6 := HY.out.c6; have y7 := HY.out.c7; have y8 := HY.out.c8
  simp only [tT] at y0 y1 y2 y3 y4 y5 y6 y7 y8
  have d0 := HB.out.c0
  go_wp2_with fail
  go_at_call 7
  refine (tfits_any _ _ _ _ tA _ HS.out smL_w (by decide) (by decide) _ aw_f1).mono ?_
  rintro e z1 ⟨rfl, hk⟩
  replace HW := Lib.hid (HW.out.trans hk); replace HS := Lib.hid (HS.out.kept hk); replace HB := Lib.hid (HB.out.kept hk); replace HX := Lib.hid (HX.out.kept hk); replace HY := Lib.hid (HY.out.kept hk); replace HD1 := Lib.hid (HD1.out.kept hk); replace HD3 := Lib.hid (HD3.out.kept hk); replace HM := Lib.hid (HM.out.kept hk)
  clear x0 x1 x2 x3 x4 x5 x6 x7 x8 y0 y1 y2 y3 y4 y5 y6 y7 y8 d0
  clear hk
  have x0 := HX.out.c0; have x1 := HX.out.c1; have x2 := HX.out.c2; have x3 := HX.out.c3; have x4 := HX.out.c4; have x5 := HX.out.c5; have x6 := HX.out.c6; have x7 := HX.out.c7; have x8 := HX.out.c8
  simp only [tA] at x0 x1 x2 x3 x4 x5 x6 x7 x8
  have y0 := HY.out.c0; have y1 := HY.out.c1; have y2 := HY.out.c2; have y3 := HY.out.c3; have y4 := HY.out.c4; have y5 := HY.out.c5; have y6 := HY.out.c6; have y7 := HY.out.c7; have y8 := HY.out.c8
  simp only [tT] at y0 y1 y2 y3 y4 y5 y6 y7 y8
  have d0 := HB.out.c0
  go_wp2_with fail
  go_at_call 7
  refine (tfits_any _ _ _ _ tT _ HS.out smL_w (by decide) (by decide) _ aw_f2).mono ?_
  rintro e z2 ⟨rfl, hk⟩
  replace HW := Lib.hid (HW.out.trans hk); replace HS := Lib.hid (HS.out.kept hk); replace HB := Lib.hid (HB.out.kept hk); replace HX := Lib.hid (HX.out.kept hk); replace HY := Lib.hid (HY.out.kept hk); replace HD1 := Lib.hid (HD1.out.kept hk); replace HD3 := Lib.hid (HD3.out.kept hk); replace HM := Lib.hid (HM.out.kept hk)
  clear x0 x1 x2 x3 x4 x5 x6 x7 x8 y0 y1 y2 y3 y4 y5 y6 y7 y8 d0
  clear hk
  have x0 := HX.out.c0; have x1 := HX.out.c1; have x2 := HX.out.c2; have x3 := HX.out.c3; have x4 := HX.out.c4; have x5 := HX.out.c5; have x6 := HX.out.c6; have x7 := HX.out.c7; have x8 := HX.out.c8
  simp only [tA] at x0 x1 x2 x3 x4 x5 x6 x7 x8
  have y0 := HY.out.c0; have y1 := HY.out.c1; have y2 := HY.out.c2; have y3 := HY.out.c3; have y4 := HY.out.c4; have y5 := HY.out.c5; have y6 := HY.out.c6; have y7 := HY.out.c7; have y8 := HY.out.c8
  simp only [tT] at y0 y1 y2 y3 y4 y5 y6 y7 y8
  have d0 := HB.out.c0
  have hka := (Kept.refl z2).alloc #[.int .i64 1, .int .i64 1, .string ⟨#[97, 47, 120]⟩, .int .i64 1, .int .i64 1, .int .i64 5, .string ⟨#[]⟩, .int .i64 0, .int .i64 0] 33
  have hel := el_new z2 [tA] 33 #[.int .i64 1, .int .i64 1, .string ⟨#[97, 47, 120]⟩, .int .i64 1, .int .i64 1, .int .i64 5, .string ⟨#[]⟩, .int .i64 0, .int .i64 0] rfl (by decide)
  have AL := Lib.hid (tall_any _ _ _ _ _ 1 1 _ _ (HS.out.kept hka) smL_w hel (by intro x hx; simp only [List.mem_cons, List.not_mem_nil, or_false] at hx; rcases hx with rfl <;> exact ⟨by decide, by decide⟩) _ aw_a1)
  have HKA := Lib.hid hka
  clear hel hka
  go_wp2_with fail
  go_at_call 13
  refine AL.out.mono ?_
  rintro e z3 ⟨rfl, hk⟩
  replace hk := HKA.out.trans hk
  replace HW := Lib.hid (HW.out.trans hk); replace HS := Lib.hid (HS.out.kept hk); replace HB := Lib.hid (HB.out.kept hk); replace HX := Lib.hid (HX.out.kept hk); replace HY := Lib.hid (HY.out.kept hk); replace HD1 := Lib.hid (HD1.out.kept hk); replace HD3 := Lib.hid (HD3.out.kept hk); replace HM := Lib.hid (HM.out.kept hk)
  clear x0 x1 x2 x3 x4 x5 x6 x7 x8 y0 y1 y2 y3 y4 y5 y6 y7 y8 d0
  clear hk HKA AL
  have x0 := HX.out.c0; have x1 := HX.out.c1; have x2 := HX.out.c2; have x3 := HX.out.c3; have x4 := HX.out.c4; have x5 := HX.out.c5; have x6 := HX.out.c6; have x7 := HX.out.c7; have x8 := HX.out.c8
  simp only [tA] at x0 x1 x2 x3 x4 x5 x6 x7 x8
  have y0 := HY.out.c0; have y1 := HY.out.c1; have y2 := HY.out.c2; have y3 := HY.out.c3; have y4 := HY.out.c4; have y5 := HY.out.c5; have y6 := HY.out.c6; have y7 := HY.out.c7; have y8 := HY.out.c8
  simp only [tT] at y0 y1 y2 y3 y4 y5 y6 y7 y8
  have d0 := HB.out.c0
  have hka := (Kept.refl z3).alloc #[.int .i64 1, .int .i64 1, .string ⟨#[97, 47, 120]⟩, .int .i64 1, .int .i64 1, .int .i64 5, .string ⟨#[]⟩, .int .i64 0, .int .i64 0, .int .i64 1, .int .i64 1, .string ⟨#[97, 47, 120]⟩, .int .i64 1, .int .i64 2, .int .i64 0, .string ⟨#[116]⟩, .int .i64 0, .int .i64 0] 33
  have hel := el_new z3 [tA, tT] 33 #[.int .i64 1, .int .i64 1, .string ⟨#[97, 47, 120]⟩, .int .i64 1, .int .i64 1, .int .i64 5, .string ⟨#[]⟩, .int .i64 0, .int .i64 0, .int .i64 1, .int .i64 1, .string ⟨#[97, 47, 120]⟩, .int .i64 1, .int .i64 2, .int .i64 0, .string ⟨#[116]⟩, .int .i64 0, .int .i64 0] rfl (by decide)
  have AL := Lib.hid (tall_any _ _ _ _ _ 2 2 _ _ (HS.out.kept hka) smL_w hel (by intro x hx; simp only [List.mem_cons, List.not_mem_nil, or_false] at hx; rcases hx with rfl | rfl <;> exact ⟨by decide, by decide⟩) _ aw_a2)
  have HKA := Lib.hid hka
  clear hel hka
  go_wp2_with fail
  go_at_call 13
  refine AL.out.mono ?_
  rintro e z4 ⟨rfl, hk⟩
  replace hk := HKA.out.trans hk
  replace HW := Lib.hid (HW.out.trans hk); replace HS := Lib.hid (HS.out.kept hk); replace HB := Lib.hid (HB.out.kept hk); replace HX := Lib.hid (HX.out.kept hk); replace HY := Lib.hid (HY.out.kept hk); replace HD1 := Lib.hid (HD1.out.kept hk); replace HD3 := Lib.hid (HD3.out.kept hk); replace HM := Lib.hid (HM.out.kept hk)
  clear x0 x1 x2 x3 x4 x5 x6 x7 x8 y0 y1 y2 y3 y4 y5 y6 y7 y8 d0
  clear hk HKA AL
  have x0 := HX.out.c0; have x1 := HX.out.c1; have x2 := HX.out.c2; have x3 := HX.out.c3; have x4 := HX.out.c4; have x5 := HX.out.c5; have x6 := HX.out.c6; have x7 := HX.out.c7; have x8 := HX.out.c8
  simp only [tA] at x0 x1 x2 x3 x4 x5 x6 x7 x8
  have y0 := HY.out.c0; have y1 := HY.out.c1; have y2 := HY.out.c2; have y3 := HY.out.c3; have y4 := HY.out.c4; have y5 := HY.out.c5; have y6 := HY.out.c6; have y7 := HY.out.c7; have y8 := HY.out.c8
  simp only [tT] at y0 y1 y2 y3 y4 y5 y6 y7 y8
  have d0 := HB.out.c0
  go_wp2_with fail
  go_at_call 13
  refine (tall_any _ _ _ _ none 0 0 [] _ HS.out smL_w (El.nil _) (fun x hx => by cases hx) true rfl).mono ?_
  rintro e z5 ⟨rfl, hk⟩
  replace HW := Lib.hid (HW.out.trans hk); replace HS := Lib.hid (HS.out.kept hk); replace HB := Lib.hid (HB.out.kept hk); replace HX := Lib.hid (HX.out.kept hk); replace HY := Lib.hid (HY.out.kept hk); replace HD1 := Lib.hid (HD1.out.kept hk); replace HD3 := Lib.hid (HD3.out.kept hk); replace HM := Lib.hid (HM.out.kept hk)
  clear x0 x1 x2 x3 x4 x5 x6 x7 x8 y0 y1 y2 y3 y4 y5 y6 y7 y8 d0
  clear hk
  obtain ⟨g1, o1, m1, hA1, hm1, hc1⟩ := HM.out.get (k := 0) (by decide)
  obtain rfl := Option.some.inj hm1
  obtain ⟨g2, o2, m2, hA2, hm2, hc2⟩ := HM.out.get (k := 1) (by decide)
  obtain rfl := Option.some.inj hm2
  subst hA1
  obtain ⟨rfl, rfl⟩ : g1 = g2 ∧ o1 = o2 := by simpa using hA2
  have m0 := hc1.c0; have m1 := hc2.c0
  simp only [Nat.zero_mul, Nat.one_mul, Nat.add_zero] at m0 m1
  have d1 := HD1.out.c0; have d3 := HD3.out.c0; have d4 := HD3.out.c1; have d5 := HD3.out.c2
  clear hA2 hm1 hm2 hc1 hc2
  go_wp2_with fail
  go_ret
  exact ⟨rfl, HW.out⟩
end Go.Proofs.Ytapcaflmfkcfkaa
