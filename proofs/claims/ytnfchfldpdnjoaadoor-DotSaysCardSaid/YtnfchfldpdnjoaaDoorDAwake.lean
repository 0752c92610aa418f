/-
  What is proved: the helper 'awake' of layer 5's laws returns true, where the laid tables read as their initialisers lay them; the world has new blocks at most.
-/
import Derived.Test.YtnfchfldpdnjoaaDoorDWith
import Derived.Test.YtnfchfldpdnjoaaDoorMixF
import Derived.Test.YtnfchfldpdnjoaaDoorDTake
import Derived.Test.YtnfchfldpdnjoaaDoorDSort
namespace Go.Proofs.YtnfchfldpdnjoaaDoor
open Go.RowKit

theorem dk1 (w : World) : Calls Tryd.prog 7 #[.string ⟨#[4, 14, 120]⟩] w fun e w' => e = .returned (.tuple #[.agg #[.int .i64 2, .int .i64 7], .string ⟨#[120]⟩, .int .i64 0]) ∧ Kept w w' :=
  dtake_c ⟨#[4, 14, 120]⟩ (2, 7) ⟨#[120]⟩ 0 (by decide) (by decide) (by decide) (by decide) w
theorem dk2 (w : World) : Calls Tryd.prog 7 #[.string ⟨#[1, 2]⟩] w fun e w' => e = .returned (.tuple #[.agg #[.int .i64 0, .int .i64 0], .string ⟨#[]⟩, .int .i64 3]) ∧ Kept w w' :=
  dtake_c ⟨#[1, 2]⟩ (0, 0) ⟨#[]⟩ 3 (by decide) (by decide) (by decide) (by decide) w
theorem dk3 (w : World) : Calls Tryd.prog 7 #[.string ⟨#[0, 0]⟩] w fun e w' => e = .returned (.tuple #[.agg #[.int .i64 0, .int .i64 0], .string ⟨#[]⟩, .int .i64 0]) ∧ Kept w w' :=
  dtake_c ⟨#[0, 0]⟩ (0, 0) ⟨#[]⟩ 0 (by decide) (by decide) (by decide) (by decide) w
theorem dtxt27 : textD (2, 7) = ⟨#[50, 46, 55]⟩ := by
  unfold textD itoaS
  rw [show ((2, 7) : Int × Int).1 = ((2 : Nat) : Int) from rfl, show ((2, 7) : Int × Int).2 = ((7 : Nat) : Int) from rfl, Lib.itoa_nonneg, Lib.itoa_nonneg, Lib.decDigits_one (by decide), Lib.decDigits_one (by decide)]
  rfl
theorem srt3 : SortD [((2 : Int), (1 : Int)), (0, 5), (2, 1)] [(0, 5), (2, 1)] := by
  refine ⟨by unfold Rise LtD; simp, fun x => ?_⟩
  simp only [List.mem_cons, List.not_mem_nil, or_false]
  constructor
  · rintro (h | h)
    · exact .inr (.inl h)
    · exact .inl h
  · rintro (h | h | h)
    · exact .inr h
    · exact .inl h
    · exact .inr h
theorem wth3 : WithD [((0 : Int), (5 : Int)), (2, 1)] (2, 7) [(0, 5), (2, 1), (2, 7)] := by
  refine ⟨by unfold Rise LtD; simp, fun x => ?_⟩
  simp only [List.mem_cons, List.not_mem_nil, or_false]
  constructor
  · rintro (h | h | h)
    · exact .inl (.inl h)
    · exact .inl (.inr h)
    · exact .inr h
  · rintro ((h | h) | h)
    · exact .inl h
    · exact .inr (.inl h)
    · exact .inr (.inr h)
theorem dl_three (w : World) (t : TypeId) : Dl (w.alloc (.cells #[.int .i64 2, .int .i64 1, .int .i64 0, .int .i64 5, .int .i64 2, .int .i64 1] t)) (some ⟨w.heap.size, 0, none⟩) 3 3 [(2, 1), (0, 5), (2, 1)] := by
  refine ⟨rfl, Nat.le_refl _, by simp [maxLen], (fun h => by cases h), .inr ⟨w.heap.size, 0, rfl, fun j x hj => ?_⟩⟩
  match j, hj with
  | 0, hj =>
    obtain rfl : ((2 : Int), (1 : Int)) = x := by simpa using hj
    exact ⟨by rw [World.cell?_alloc_new]; rfl, by rw [World.cell?_alloc_new]; rfl⟩
  | 1, hj =>
    obtain rfl : ((0 : Int), (5 : Int)) = x := by simpa using hj
    exact ⟨by rw [World.cell?_alloc_new]; rfl, by rw [World.cell?_alloc_new]; rfl⟩
  | 2, hj =>
    obtain rfl : ((2 : Int), (1 : Int)) = x := by simpa using hj
    exact ⟨by rw [World.cell?_alloc_new]; rfl, by rw [World.cell?_alloc_new]; rfl⟩
  | j + 3, hj => simp at hj

set_option maxRecDepth 100000 in
set_option maxHeartbeats 4000000 in
theorem dawake_any (w : World) (hl : LaidW w) :
    Calls Tryd.prog 6 #[] w fun e w' => e = .returned (.bool true) ∧ Kept w w' := by
  go_enter Tryd.func6, Tryd.ntmps6
  go_wp2_with fail
  go_at_call 7
  refine (dk1 _).mono ?_
  rintro e u1 ⟨rfl, hk1⟩
  go_wp2_with fail
  go_at_call 7
  refine (dk2 _).mono ?_
  rintro e u2 ⟨rfl, hk2⟩
  go_wp2_with fail
  go_at_call 7
  refine (dk3 _).mono ?_
  rintro e u3 ⟨rfl, hk3⟩
  have D1 := (Box2.new u1 (.int .i64 2) (.int .i64 7) 24).kept (hk2.trans (((Kept.refl u2).alloc #[.int .i64 0, .int .i64 0] 24).trans (hk3.trans ((Kept.refl u3).alloc #[.int .i64 0, .int .i64 0] 24))))
  have Z1 := Box2.new u3 (.int .i64 0) (.int .i64 0) 24
  have K3 := hk1.trans (((Kept.refl u1).alloc #[.int .i64 2, .int .i64 7] 24).trans (hk2.trans (((Kept.refl u2).alloc #[.int .i64 0, .int .i64 0] 24).trans (hk3.trans ((Kept.refl u3).alloc #[.int .i64 0, .int .i64 0] 24)))))
  have K4 := (Kept.refl (u3.alloc (.cells #[.int .i64 0, .int .i64 0] 24))).alloc #[.int .i64 2, .int .i64 1, .int .i64 0, .int .i64 5, .int .i64 2, .int .i64 1] 24
  have HS := Lib.hid (fun t => dsort_any (some ⟨u3.heap.size + 1, 0, none⟩) 3 3 [(2, 1), (0, 5), (2, 1)] ((u3.alloc (.cells #[.int .i64 0, .int .i64 0] 24)).alloc (.cells #[.int .i64 2, .int .i64 1, .int .i64 0, .int .i64 5, .int .i64 2, .int .i64 1] t)) (by
    have := dl_three (u3.alloc (.cells #[.int .i64 0, .int .i64 0] 24)) t
    rwa [show (u3.alloc (.cells #[.int .i64 0, .int .i64 0] 24)).heap.size = u3.heap.size + 1 by simp] at this) (by decide))
  clear hk1 hk2 hk3
  go_wp2_with fail
  go_at_call 16
  refine (HS.out _).mono ?_
  rintro e u4 ⟨A, m, c, X, rfl, hd, hs, hm, hk4⟩
  obtain rfl := SortD.same hs srt3
  obtain rfl : m = 2 := hd.1
  have hc1 := hd.cap.1
  have hc2 := hd.cap.2
  have D2 := D1.kept (K4.trans hk4)
  have Z2 := Z1.kept (K4.trans hk4)
  have K5 := K3.trans (K4.trans hk4)
  have HL := Lib.hid (hl.kept K5)
  have HK5 := Lib.hid K5
  have HD := Lib.hid hd
  obtain ⟨b, o, x, rfl, hx, g1, g2⟩ := hd.get (k := 0) (by decide)
  obtain ⟨b', o', y, hb, hy, g3, g4⟩ := hd.get (k := 1) (by decide)
  obtain ⟨rfl, rfl⟩ : b = b' ∧ o = o' := by simpa using hb
  obtain rfl : ((0 : Int), (5 : Int)) = x := by simpa using hx
  obtain rfl : ((2 : Int), (1 : Int)) = y := by simpa using hy
  simp only [Nat.zero_mul, Nat.add_zero, Nat.one_mul, Nat.add_assoc, Nat.reduceAdd] at g1 g2 g3 g4
  have p1 := KExt.cell g1
  have p2 := KExt.cell g2
  have p3 := KExt.cell g3
  have p4 := KExt.cell g4
  have q1 := KExt.cell D2.c0
  have q2 := KExt.cell D2.c1
  have q3 := KExt.cell Z2.c0
  have q4 := KExt.cell Z2.c1
  clear D1 Z1 K3 K4 HS hd hs hm hk4 D2 Z2 K5 hl g1 g2 g3 g4 hb hx hy
  go_wp2_with fail
  dsimp only [List.append]
  refine region_mix u4 [([0, 1, 2, 3, 4, 5, 6, 7, 8, 9, 10, 11, 12, 13, 14, 15, 16, 17, 18, 19, 20, 21, 22, 23, 24, 25, 26, 27, 28, 29, 30, 31, 32, 33, 34, 35, 36, 37, 38, 39, 40], some 41), ([42, 43, 44, 45], some 46), ([47, 48, 49, 50], some 51), ([52, 53, 54, 55], some 56), ([57, 58, 59, 60], some 61), ([62, 63, 64], some 65), ([66, 67, 68, 69, 70, 71, 72, 73, 74], some 75), ([76, 77, 78, 79, 80, 81, 82, 83, 84], some 85), ([86, 87, 88, 89, 90], some 91), ([92, 93, 94, 95], none)] (by kernel_rfl) (by as_aux_lemma => kernel_rfl) (by as_aux_lemma => kernel_rfl) (mix_fast 96 (by kernel_rfl) (by as_aux_lemma => kernel_rfl)) (fun _ d _ _ _ h => by cases d <;> exact h) (Kept.refl _) ?_
  intro wd hwd
  have HW := Lib.hid hwd
  clear hwd
  rw [wpMix_call]
  simp only [pickOps_cons, pickOps_nil, consO_some, List.getElem?_cons_zero, List.getElem?_cons_succ]
  repeat (go_big_quiet_step (fail))
  refine wpQuiet_nil ?_
  go_wp2_with (go_at_call 20; refine (dhas_c _ 2 c _ (2, 1) true (by decide) _ (HD.out.kept HW.out)).mono ?_; rintro e v0 ⟨rfl, hk⟩)
  replace HW := Lib.hid (HW.out.trans hk)
  clear hk
  refine soloQ_both HW.out ?_
  rw [wpMix_call]
  simp only [pickOps_cons, pickOps_nil, consO_some, List.getElem?_cons_zero, List.getElem?_cons_succ]
  repeat (go_big_quiet_step (fail))
  refine wpQuiet_nil ?_
  go_wp2_with (go_at_call 20; refine (dhas_c _ 2 c _ (2, 7) false (by decide) _ (HD.out.kept HW.out)).mono ?_; rintro e v1 ⟨rfl, hk⟩)
  replace HW := Lib.hid (HW.out.trans hk)
  clear hk
  refine soloQ_both HW.out ?_
  rw [wpMix_call]
  simp only [pickOps_cons, pickOps_nil, consO_some, List.getElem?_cons_zero, List.getElem?_cons_succ]
  repeat (go_big_quiet_step (fail))
  refine wpQuiet_nil ?_
  go_wp2_with (go_at_call 22; refine (dtext_any (2, 7) _ dtxt27 _ (by decide) (by decide) (by decide) (by decide) (HL.out.kept HW.out)).mono ?_; rintro e v2 ⟨rfl, hk⟩)
  replace HW := Lib.hid (HW.out.trans hk)
  clear hk
  refine soloQ_both HW.out ?_
  rw [wpMix_call]
  simp only [pickOps_cons, pickOps_nil, consO_some, List.getElem?_cons_zero, List.getElem?_cons_succ]
  repeat (go_big_quiet_step (fail))
  refine wpQuiet_nil ?_
  go_wp2_with (go_at_call 13; refine (dputD_any ⟨#[]⟩ (2, 7) ⟨#[4, 14]⟩ (by decide) _ (by decide) (by decide) (by decide) (by decide) (by decide)).mono ?_; rintro e v3 ⟨rfl, hk⟩)
  replace HW := Lib.hid (HW.out.trans hk)
  clear hk
  refine soloQ_both HW.out ?_
  rw [wpMix_call]
  simp only [pickOps_cons, pickOps_nil, consO_some, List.getElem?_cons_zero, List.getElem?_cons_succ]
  repeat (go_big_quiet_step (fail))
  refine wpQuiet_nil ?_
  go_wp2_with (go_at_call 11; refine (dright_c (2, 7) true (by decide) _).mono ?_; rintro e v4 ⟨rfl, hk⟩)
  replace HW := Lib.hid (HW.out.trans hk)
  clear hk
  refine soloQ_both HW.out ?_
  rw [wpMix_call]
  simp only [pickOps_cons, pickOps_nil, consO_some, List.getElem?_cons_zero, List.getElem?_cons_succ]
  repeat (go_big_quiet_step (fail))
  refine wpQuiet_nil ?_
  go_wp2_with (go_at_call 11; refine (dright_c (0, 0) false (by decide) _).mono ?_; rintro e v5 ⟨rfl, hk⟩)
  replace HW := Lib.hid (HW.out.trans hk)
  clear hk
  refine soloQ_both HW.out ?_
  rw [wpMix_call]
  simp only [pickOps_cons, pickOps_nil, consO_some, List.getElem?_cons_zero, List.getElem?_cons_succ]
  repeat (go_big_quiet_step (fail))
  refine wpQuiet_nil ?_
  go_wp2_with (go_at_call 9; refine (dcmp_c (0, 5) (2, 1) (-1) (by decide) _).mono ?_; rintro e v6 ⟨rfl, hk⟩)
  replace HW := Lib.hid (HW.out.trans hk)
  clear hk
  refine soloQ_both HW.out ?_
  rw [wpMix_call]
  simp only [pickOps_cons, pickOps_nil, consO_some, List.getElem?_cons_zero, List.getElem?_cons_succ]
  repeat (go_big_quiet_step (fail))
  refine wpQuiet_nil ?_
  go_wp2_with (go_at_call 9; refine (dcmp_c (2, 1) (0, 5) 1 (by decide) _).mono ?_; rintro e v7 ⟨rfl, hk⟩)
  replace HW := Lib.hid (HW.out.trans hk)
  clear hk
  refine soloQ_both HW.out ?_
  rw [wpMix_call]
  simp only [pickOps_cons, pickOps_nil, consO_some, List.getElem?_cons_zero, List.getElem?_cons_succ]
  repeat (go_big_quiet_step (fail))
  refine wpQuiet_nil ?_
  go_wp2_with (go_at_call 18; refine (dwith_any _ 2 c _ 2 7 _ (HD.out.kept HW.out) srt3.rise (by decide)).mono ?_; rintro e v8 ⟨A3, m3, c3, X3, rfl, hd3, hw3, hm3, hk⟩)
  obtain rfl := WithD.same hw3 wth3
  obtain rfl : m3 = 3 := hd3.1
  replace HW := Lib.hid (HW.out.trans hk)
  clear hk
  refine soloQ_both HW.out ?_
  rw [wpMix_read]
  simp only [pickOps_cons, pickOps_nil, consO_some, List.getElem?_cons_zero, List.getElem?_cons_succ]
  repeat (go_big_quiet_step (fail))
  refine wpQuiet_nil ?_
  refine wpMix_nil ?_
  go_wp2_with fail
  go_ret
  exact ⟨rfl, HK5.out.trans HW.out⟩
end Go.Proofs.YtnfchfldpdnjoaaDoor
