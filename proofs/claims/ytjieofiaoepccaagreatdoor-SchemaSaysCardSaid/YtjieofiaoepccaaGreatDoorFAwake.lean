/-
  What is proved: awake of layer 11's laws returns true; the world has new blocks at most.
-/
import Derived.Test.YtjieofiaoepccaaGreatDoorM25
import Derived.Test.YtjieofiaoepccaaGreatDoorM7
namespace Go.Proofs.YtjieofiaoepccaaGreatDoor
open Go.RowKit
set_option linter.unusedVariables false

theorem fl_new (w : World) (L : List Fd) (t : TypeId) (cs : Array Value) (h : cs = (flatF L).toArray) (hl : L.length ≤ maxLen) : Fl (w.alloc (.cells cs t)) (some ⟨w.heap.size, 0, none⟩) L.length L.length L := by
  refine ⟨rfl, Nat.le_refl _, hl, (fun h => by cases h), .inr ⟨w.heap.size, 0, rfl, fun j x hj => FdO.of_flat fun i u hu => ?_⟩⟩
  have hi : i < 6 := (List.getElem?_eq_some_iff.1 hu).1
  have hg := flatF_get L j x hj i hi
  rw [show 0 + j * 6 + i = j * 6 + i by omega]
  exact (Kept.refl _).box (j * 6 + i) u (by rw [h, List.getElem?_toArray, hg, hu])
theorem fl_at {w : World} {b n c : Nat} {L : List Fd} (h : Fl w (some ⟨b, 0, none⟩) n c L) {j : Nat} {x : Fd} (hj : L[j]? = some x) : FdO w b (j * 6) x := by
  have hl := (List.getElem?_eq_some_iff.1 hj).1
  rcases h.2.2.2.2 with h0 | ⟨b2, o, hA, hc⟩
  · have := h.1; omega
  · have e := Option.some.inj hA
    injection e with e1 e2
    subst e1 e2
    have := hc j x hj
    rwa [Nat.zero_add] at this
theorem stake_c (s : ByteArray) (L : List Fd) (r : ByteArray) (z : Nat) (h : tscL s = (L, r, z)) (w : World) (hs : s.size ≤ 100000) :
    Calls Tryz.prog 8 #[.string s] w fun e w' => ∃ A c, e = .returned (.tuple #[.agg #[.slice A L.length c], .string r, .int .i64 (z : Int)]) ∧ Fl w' A L.length c L ∧ Kept w w' := by
  refine (stake_any s w hs).mono ?_
  rintro e w' ⟨A, c, he, hf, hk⟩
  rw [h] at he hf
  exact ⟨A, c, he, hf, hk⟩
theorem sof_c (A : Option Addr) (n c : Nat) (L M : List Fd) (hM : ofF L = M) (w : World) (h : Fl w A n c L) (hn : n ≤ 40) :
    Calls Tryz.prog 22 #[.slice A n c] w fun e w' => ∃ A' c', e = .returned (.agg #[.slice A' n c']) ∧ Fl w' A' n c' M ∧ Kept w w' := by
  subst hM
  have hl := h.1
  refine (sof_any A n c L w h hn).mono ?_
  rintro e w' ⟨A', c', he, hf, hk⟩
  rw [← hl] at he hf
  exact ⟨A', c', he, hf, hk⟩
theorem sput_c (b : ByteArray) (A : Option Addr) (n c : Nat) (L : List Fd) (r : ByteArray) (hr : putSc b L = r) (w : World) (h : Fl w A n c L) (hn : n ≤ 40) (hw : ∀ x ∈ L, FdS x) (hb : b.size ≤ 5000) :
    Calls Tryz.prog 17 #[.string b, .agg #[.slice A n c]] w fun e w' => e = .returned (.string r) ∧ Kept w w' := by
  subst hr; exact sput_any b A n c L w h hn hw hb
theorem stext_c (A : Option Addr) (n c : Nat) (L : List Fd) (r : ByteArray) (hr : textSc L = r) (w : World) (h : Fl w A n c L) (hn : n ≤ 40) (hw : ∀ x ∈ L, FdS x) (hl : LaidF w) :
    Calls Tryz.prog 19 #[.agg #[.slice A n c]] w fun e w' => e = .returned (.string r) ∧ Kept w w' := by
  subst hr; exact stext_any A n c L w h hn hw hl
theorem smL_s : ∀ x ∈ smL, FdS x := by
  intro x hx
  unfold smL at hx
  simp only [List.mem_cons, List.not_mem_nil, or_false] at hx
  rcases hx with rfl | rfl | rfl | rfl <;> exact ⟨by decide, by decide, by decide, by decide⟩
theorem bdL_s : ∀ x ∈ bdL, FdS x := by
  intro x hx
  unfold bdL at hx
  simp only [List.mem_cons, List.not_mem_nil, or_false] at hx
  rcases hx with rfl | rfl <;> exact ⟨by decide, by decide, by decide, by decide⟩
theorem fds_w {L : List Fd} (h : ∀ x ∈ L, FdS x) : ∀ x ∈ L, x.p.size ≤ 1099511627776 ∧ x.vt.size ≤ 1099511627776 := fun x hx => ⟨Nat.le_trans (h x hx).p (by decide), Nat.le_trans (h x hx).vt (by decide)⟩
theorem fds_p {L : List Fd} (h : ∀ x ∈ L, FdS x) : ∀ x ∈ L, x.p.size ≤ 2000 := fun x hx => Nat.le_trans (h x hx).p (by decide)
theorem fds_p2 {L : List Fd} (h : ∀ x ∈ L, FdS x) : ∀ x ∈ L, x.p.size ≤ 1099511627776 := fun x hx => (fds_w h x hx).1
set_option maxRecDepth 100000 in
set_option maxHeartbeats 4000000 in
theorem freg_any (p : ByteArray) (k : Int) (w : World) :
    Calls Tryz.prog 25 #[.string p, .int .i64 k] w fun e w' => e = .returned (.agg #[.string p, .int .i64 1, .int .i64 k, .int .i64 k, .int .i64 0, .string ⟨#[]⟩]) ∧ Kept w w' := by
  have K0 := Lib.hid ((Kept.refl w).alloc #[.string p, .int .i64 1, .int .i64 k, .int .i64 k, .int .i64 0, .string ⟨#[]⟩] 30)
  go_enter Tryz.func25, Tryz.ntmps25
  go_wp2
  refine bodyPost_ret (by simp [results, Tryz.results25, go_sem, *]) rfl ⟨rfl, ?_⟩
  first | exact K0.out | exact ((((((((Kept.refl w).alloc #[.string ⟨#[]⟩, .int .i64 0, .int .i64 0, .int .i64 0, .int .i64 0, .string ⟨#[]⟩] 30).setCell (Nat.le_refl _) _).setCell (Nat.le_refl _) _).setCell (Nat.le_refl _) _).setCell (Nat.le_refl _) _).setCell (Nat.le_refl _) _).setCell (Nat.le_refl _) _)
set_option maxRecDepth 100000 in
set_option maxHeartbeats 4000000 in
theorem fset_any (p : ByteArray) (k : Int) (w : World) :
    Calls Tryz.prog 55 #[.string p, .int .i64 k] w fun e w' => e = .returned (.agg #[.string p, .int .i64 2, .int .i64 k, .int .i64 0, .int .i64 0, .string ⟨#[]⟩]) ∧ Kept w w' := by
  have K0 := Lib.hid ((Kept.refl w).alloc #[.string p, .int .i64 2, .int .i64 k, .int .i64 0, .int .i64 0, .string ⟨#[]⟩] 30)
  go_enter Tryz.func55, Tryz.ntmps55
  go_wp2
  refine bodyPost_ret (by simp [results, Tryz.results55, go_sem, *]) rfl ⟨rfl, ?_⟩
  first | exact K0.out | exact ((((((((Kept.refl w).alloc #[.string ⟨#[]⟩, .int .i64 0, .int .i64 0, .int .i64 0, .int .i64 0, .string ⟨#[]⟩] 30).setCell (Nat.le_refl _) _).setCell (Nat.le_refl _) _).setCell (Nat.le_refl _) _).setCell (Nat.le_refl _) _).setCell (Nat.le_refl _) _).setCell (Nat.le_refl _) _)
set_option maxRecDepth 100000 in
set_option maxHeartbeats 4000000 in
theorem fctr_any (p : ByteArray) (w : World) :
    Calls Tryz.prog 56 #[.string p] w fun e w' => e = .returned (.agg #[.string p, .int .i64 3, .int .i64 1, .int .i64 0, .int .i64 0, .string ⟨#[]⟩]) ∧ Kept w w' := by
  have K0 := Lib.hid ((Kept.refl w).alloc #[.string p, .int .i64 3, .int .i64 1, .int .i64 0, .int .i64 0, .string ⟨#[]⟩] 30)
  go_enter Tryz.func56, Tryz.ntmps56
  go_wp2
  refine bodyPost_ret (by simp [results, Tryz.results56, go_sem, *]) rfl ⟨rfl, ?_⟩
  first | exact K0.out | exact ((((((((Kept.refl w).alloc #[.string ⟨#[]⟩, .int .i64 0, .int .i64 0, .int .i64 0, .int .i64 0, .string ⟨#[]⟩] 30).setCell (Nat.le_refl _) _).setCell (Nat.le_refl _) _).setCell (Nat.le_refl _) _).setCell (Nat.le_refl _) _).setCell (Nat.le_refl _) _).setCell (Nat.le_refl _) _)
set_option maxRecDepth 100000 in
set_option maxHeartbeats 4000000 in
theorem fsmall_any (w : World) :
    Calls Tryz.prog 24 #[] w fun e w' => ∃ b, e = .returned (.agg #[.slice (some ⟨b, 0, none⟩) 4 4]) ∧ Fl w' (some ⟨b, 0, none⟩) 4 4 smL ∧ Kept w w' := by
  have HRES := Lib.hid (Box1.new w (.slice none 0 0) 24)
  have HW := Lib.hid ((Kept.refl w).alloc #[.slice none 0 0] 24)
  go_enter Tryz.func24, Tryz.ntmps24
  go_wp2_with fail
  go_at_call 25
  refine (freg_any ⟨#[97, 47, 120]⟩ 1 _).mono ?_
  rintro e v0 ⟨rfl, hk⟩
  replace HW := Lib.hid (HW.out.trans hk); replace HRES := Lib.hid (HRES.out.kept hk)
  clear hk
  go_wp2_with fail
  go_at_call 55
  refine (fset_any ⟨#[97, 47, 121]⟩ 2 _).mono ?_
  rintro e v1 ⟨rfl, hk⟩
  replace HW := Lib.hid (HW.out.trans hk); replace HRES := Lib.hid (HRES.out.kept hk)
  clear hk
  go_wp2_with fail
  go_at_call 56
  refine (fctr_any ⟨#[99]⟩ _).mono ?_
  rintro e v2 ⟨rfl, hk⟩
  replace HW := Lib.hid (HW.out.trans hk); replace HRES := Lib.hid (HRES.out.kept hk)
  clear hk
  go_wp2_with fail
  go_at_call 25
  refine (freg_any ⟨#[109, 47, 42, 47, 116]⟩ 2 _).mono ?_
  rintro e v3 ⟨rfl, hk⟩
  replace HW := Lib.hid (HW.out.trans hk); replace HRES := Lib.hid (HRES.out.kept hk)
  clear hk
  have hka := (Kept.refl v3).alloc #[.string ⟨#[97, 47, 120]⟩, .int .i64 1, .int .i64 1, .int .i64 1, .int .i64 0, .string ⟨#[]⟩, .string ⟨#[97, 47, 121]⟩, .int .i64 2, .int .i64 2, .int .i64 0, .int .i64 0, .string ⟨#[]⟩, .string ⟨#[99]⟩, .int .i64 3, .int .i64 1, .int .i64 0, .int .i64 0, .string ⟨#[]⟩, .string ⟨#[109, 47, 42, 47, 116]⟩, .int .i64 1, .int .i64 2, .int .i64 2, .int .i64 0, .string ⟨#[]⟩] 30
  have hf := fl_new v3 smL 30 #[.string ⟨#[97, 47, 120]⟩, .int .i64 1, .int .i64 1, .int .i64 1, .int .i64 0, .string ⟨#[]⟩, .string ⟨#[97, 47, 121]⟩, .int .i64 2, .int .i64 2, .int .i64 0, .int .i64 0, .string ⟨#[]⟩, .string ⟨#[99]⟩, .int .i64 3, .int .i64 1, .int .i64 0, .int .i64 0, .string ⟨#[]⟩, .string ⟨#[109, 47, 42, 47, 116]⟩, .int .i64 1, .int .i64 2, .int .i64 2, .int .i64 0, .string ⟨#[]⟩] rfl (by simp [smL, maxLen])
  have hr := HRES.out.kept hka
  have rf := hr.f
  have r0 := hr.c0
  have HF := Lib.hid (show ∃ b, Ending.returned (.agg #[.slice (some ⟨v3.heap.size, 0, none⟩) 4 4]) = .returned (.agg #[.slice (some ⟨b, 0, none⟩) 4 4]) ∧ Fl _ (some ⟨b, 0, none⟩) 4 4 smL ∧ Kept w _ from ⟨v3.heap.size, rfl, hr.fl (.slice (some ⟨v3.heap.size, 0, none⟩) 4 4) hf, (HW.out.trans hka).setCell (a := ⟨w.heap.size, 0, none⟩) (Nat.le_refl _) (.slice (some ⟨v3.heap.size, 0, none⟩) 4 4)⟩)
  clear hka hf hr
  go_wp2_with fail
  exact bodyPost_ret (by simp [results, Tryz.results24, go_sem, *]) rfl HF.out
set_option maxRecDepth 100000 in
set_option maxHeartbeats 32000000 in
theorem fawake_any (w : World) (hl : LaidF w) : Calls Tryz.prog 5 #[] w fun e w' => e = .returned (.bool true) ∧ Kept w w' := by
  go_enter Tryz.func5, Tryz.ntmps5
  have HW := Lib.hid (Kept.refl w)
  have HLW := Lib.hid hl
  clear hl
  go_wp2_with fail
  go_at_call 24
  refine (fsmall_any _).mono ?_
  rintro e v1 ⟨b, rfl, hs, hk⟩
  have hka := (Kept.refl v1).alloc #[.slice (some ⟨b, 0, none⟩) 4 4] 24
  have HS := Lib.hid (hs.kept hka)
  have HB := Lib.hid (Box1.new v1 (.slice (some ⟨b, 0, none⟩) 4 4) 24)
  replace HW := Lib.hid (HW.out.trans (hk.trans hka))
  clear hs hk hka
  obtain ⟨P0, hP0⟩ : ∃ P0, putSc ⟨#[]⟩ smL = P0 := ⟨_, rfl⟩
  have hz0 : P0.size ≤ 1000 := by rw [← hP0]; decide
  have hz1 : (P0 ++ ⟨#[122]⟩).size ≤ 1001 := by rw [ByteArray.size_append]; have : (⟨#[122]⟩ : ByteArray).size = 1 := rfl; omega
  have AT := Lib.hid (fun w => stake_c (P0 ++ ⟨#[122]⟩) smL ⟨#[122]⟩ 0 (by rw [← hP0]; exact aw_take) w (by omega))
  have HP0 := Lib.hid hP0
  clear hP0 hz1
  have d0 := HB.out.c0
  go_wp2_with fail
  go_at_call 17
  refine (sput_c ⟨#[]⟩ _ 4 4 smL P0 HP0.out _ HS.out (by decide) smL_s (by decide)).mono ?_
  rintro e v2 ⟨rfl, hk⟩
  replace HW := Lib.hid (HW.out.trans hk); replace HS := Lib.hid (HS.out.kept hk); replace HB := Lib.hid (HB.out.kept hk)
  clear hk d0
  go_wp2_with fail
  go_at_call 8
  refine (AT.out _).mono ?_
  rintro e v3 ⟨A3, c3, rfl, h3, hk⟩
  have hka := (Kept.refl v3).alloc #[.slice A3 4 c3] 24
  have HT := Lib.hid (show Fl _ A3 4 c3 smL from h3.kept hka)
  have HBT := Lib.hid (Box1.new v3 (.slice A3 4 c3) 24)
  rw [show smL.length = 4 from rfl]
  replace HW := Lib.hid (HW.out.trans (hk.trans hka)); replace HS := Lib.hid (HS.out.kept (hk.trans hka)); replace HB := Lib.hid (HB.out.kept (hk.trans hka))
  clear hk hka h3 AT hz0
  have d0 := HB.out.c0
  go_wp2_with fail
  go_at_call 10
  refine (sfind_any _ 4 4 smL ⟨#[109, 47, 107, 49, 47, 116]⟩ _ HS.out (fds_p2 smL_s) (by decide) x4 true aw_find).mono ?_
  rintro e v4 ⟨rfl, hk⟩
  simp only [x4]
  have hka := (Kept.refl v4).alloc #[.string ⟨#[109, 47, 42, 47, 116]⟩, .int .i64 1, .int .i64 2, .int .i64 2, .int .i64 0, .string ⟨#[]⟩] 30
  have HF4 := Lib.hid (FdB.new v4 x4 30)
  replace HW := Lib.hid (HW.out.trans (hk.trans hka)); replace HS := Lib.hid (HS.out.kept (hk.trans hka)); replace HB := Lib.hid (HB.out.kept (hk.trans hka)); replace HT := Lib.hid (HT.out.kept (hk.trans hka)); replace HBT := Lib.hid (HBT.out.kept (hk.trans hka))
  clear hk hka d0
  have d0 := HB.out.c0
  go_wp2_with fail
  go_at_call 10
  refine (sfind_any _ 4 4 smL ⟨#[109, 47, 107, 49]⟩ _ HS.out (fds_p2 smL_s) (by decide) Fd.none false aw_none).mono ?_
  rintro e v5 ⟨rfl, hk⟩
  simp only [Fd.none]
  have hka := (Kept.refl v5).alloc #[.string ⟨#[]⟩, .int .i64 0, .int .i64 0, .int .i64 0, .int .i64 0, .string ⟨#[]⟩] 30
  have HF5 := Lib.hid (FdB.new v5 Fd.none 30)
  replace HW := Lib.hid (HW.out.trans (hk.trans hka)); replace HS := Lib.hid (HS.out.kept (hk.trans hka)); replace HB := Lib.hid (HB.out.kept (hk.trans hka)); replace HT := Lib.hid (HT.out.kept (hk.trans hka)); replace HBT := Lib.hid (HBT.out.kept (hk.trans hka)); replace HF4 := Lib.hid (HF4.out.kept (hk.trans hka))
  clear hk hka d0
  go_wp2_with fail
  go_at_call 25
  refine (freg_any ⟨#[97, 47, 42]⟩ 1 _).mono ?_
  rintro e v6 ⟨rfl, hk⟩
  replace HW := Lib.hid (HW.out.trans hk); replace HS := Lib.hid (HS.out.kept hk); replace HB := Lib.hid (HB.out.kept hk); replace HT := Lib.hid (HT.out.kept hk); replace HBT := Lib.hid (HBT.out.kept hk); replace HF4 := Lib.hid (HF4.out.kept hk)
  clear hk
  go_wp2_with fail
  go_at_call 25
  refine (freg_any ⟨#[97, 47, 98]⟩ 1 _).mono ?_
  rintro e v7 ⟨rfl, hk⟩
  replace HW := Lib.hid (HW.out.trans hk); replace HS := Lib.hid (HS.out.kept hk); replace HB := Lib.hid (HB.out.kept hk); replace HT := Lib.hid (HT.out.kept hk); replace HBT := Lib.hid (HBT.out.kept hk); replace HF4 := Lib.hid (HF4.out.kept hk)
  have hka := (Kept.refl v7).alloc #[.string ⟨#[97, 47, 42]⟩, .int .i64 1, .int .i64 1, .int .i64 1, .int .i64 0, .string ⟨#[]⟩, .string ⟨#[97, 47, 98]⟩, .int .i64 1, .int .i64 1, .int .i64 1, .int .i64 0, .string ⟨#[]⟩] 30
  have hf := fl_new v7 bdL 30 #[.string ⟨#[97, 47, 42]⟩, .int .i64 1, .int .i64 1, .int .i64 1, .int .i64 0, .string ⟨#[]⟩, .string ⟨#[97, 47, 98]⟩, .int .i64 1, .int .i64 1, .int .i64 1, .int .i64 0, .string ⟨#[]⟩] rfl (by simp [bdL, maxLen])
  replace HW := Lib.hid (HW.out.trans hka); replace HS := Lib.hid (HS.out.kept hka); replace HB := Lib.hid (HB.out.kept hka); replace HT := Lib.hid (HT.out.kept hka); replace HBT := Lib.hid (HBT.out.kept hka); replace HF4 := Lib.hid (HF4.out.kept hka)
  have AO := Lib.hid (sof_c _ 2 2 [y1, y2] bdL aw_of2 _ hf (by decide))
  clear hk hka hf
  go_wp2_with fail
  go_at_call 22
  refine AO.out.mono ?_
  rintro e v8 ⟨A8, c8, rfl, h8, hk⟩
  have hka := (Kept.refl v8).alloc #[.slice A8 2 c8] 24
  have HD := Lib.hid (h8.kept hka)
  have HBD := Lib.hid (Box1.new v8 (.slice A8 2 c8) 24)
  replace HW := Lib.hid (HW.out.trans (hk.trans hka)); replace HS := Lib.hid (HS.out.kept (hk.trans hka)); replace HB := Lib.hid (HB.out.kept (hk.trans hka)); replace HT := Lib.hid (HT.out.kept (hk.trans hka)); replace HBT := Lib.hid (HBT.out.kept (hk.trans hka)); replace HF4 := Lib.hid (HF4.out.kept (hk.trans hka))
  clear hk hka h8 AO
  obtain ⟨P1, hP1⟩ : ∃ P1, putSc ⟨#[]⟩ bdL = P1 := ⟨_, rfl⟩
  have hz1 : P1.size ≤ 1000 := by rw [← hP1]; decide
  have AT := Lib.hid (fun w => stake_c P1 [] ⟨#[]⟩ 3 (by rw [← hP1]; exact aw_bad) w (by omega))
  have HP1 := Lib.hid hP1
  clear hP1 hz1
  have d1 := HBD.out.c0
  have dc := HD.out.cap.1; have dc2 := HD.out.cap.2
  go_wp2_with fail
  go_at_call 17
  refine (sput_c ⟨#[]⟩ _ 2 _ bdL P1 HP1.out _ HD.out (by decide) bdL_s (by decide)).mono ?_
  rintro e v9 ⟨rfl, hk⟩
  replace HW := Lib.hid (HW.out.trans hk); replace HS := Lib.hid (HS.out.kept hk); replace HB := Lib.hid (HB.out.kept hk); replace HT := Lib.hid (HT.out.kept hk); replace HBT := Lib.hid (HBT.out.kept hk); replace HF4 := Lib.hid (HF4.out.kept hk); replace HD := Lib.hid (HD.out.kept hk); replace HBD := Lib.hid (HBD.out.kept hk)
  clear hk d1
  go_wp2_with fail
  go_at_call 8
  refine (AT.out _).mono ?_
  rintro e v10 ⟨A10, c10, rfl, h10, hk⟩
  have hka := (Kept.refl v10).alloc #[.slice A10 0 c10] 24
  replace HW := Lib.hid (HW.out.trans (hk.trans hka)); replace HS := Lib.hid (HS.out.kept (hk.trans hka)); replace HB := Lib.hid (HB.out.kept (hk.trans hka)); replace HT := Lib.hid (HT.out.kept (hk.trans hka)); replace HBT := Lib.hid (HBT.out.kept (hk.trans hka)); replace HF4 := Lib.hid (HF4.out.kept (hk.trans hka)); replace HD := Lib.hid (HD.out.kept (hk.trans hka)); replace HBD := Lib.hid (HBD.out.kept (hk.trans hka))
  rw [show ([] : List Fd).length = 0 from rfl]
  clear hk hka h10
  go_wp2_with fail
  go_at_call 8
  refine (stake_c ⟨#[25]⟩ [] ⟨#[]⟩ 4 aw_long _ (by decide)).mono ?_
  rintro e v11 ⟨A11, c11, rfl, h11, hk⟩
  have hka := (Kept.refl v11).alloc #[.slice A11 0 c11] 24
  replace HW := Lib.hid (HW.out.trans (hk.trans hka)); replace HS := Lib.hid (HS.out.kept (hk.trans hka)); replace HB := Lib.hid (HB.out.kept (hk.trans hka)); replace HT := Lib.hid (HT.out.kept (hk.trans hka)); replace HBT := Lib.hid (HBT.out.kept (hk.trans hka)); replace HF4 := Lib.hid (HF4.out.kept (hk.trans hka)); replace HD := Lib.hid (HD.out.kept (hk.trans hka)); replace HBD := Lib.hid (HBD.out.kept (hk.trans hka))
  rw [show ([] : List Fd).length = 0 from rfl]
  clear hk hka h11 AT
  obtain ⟨W, hW⟩ : ∃ W, v11.alloc (.cells #[.slice A11 0 c11] 24) = W := ⟨_, rfl⟩
  rw [hW] at HW HS HB HT HBT HF4 HD HBD
  have HWW := Lib.hid hW
  clear hW
  go_wp2_with fail
  rw [HWW.out]
  have d0 := KExt.cell HB.out.c0; have d1 := KExt.cell HBD.out.c0; have d2 := KExt.cell HBT.out.c0
  have z0' := HF4.out.c0
  simp only [x4] at z0'
  have z0 := KExt.cell z0'
  clear z0'
  have E0 := fl_at HS.out (j := 0) (x := x1) rfl
  have p0' := E0.c0; have p1' := E0.c1; have p2' := E0.c2; have p3' := E0.c3; have p4' := E0.c4; have p5' := E0.c5
  clear E0
  simp only [x1, Nat.zero_mul, Nat.zero_add] at p0' p1' p2' p3' p4' p5'
  have p0 := KExt.cell p0'; have p1 := KExt.cell p1'; have p2 := KExt.cell p2'; have p3 := KExt.cell p3'; have p4 := KExt.cell p4'; have p5 := KExt.cell p5'
  clear p0' p1' p2' p3' p4' p5'
  have E1 := fl_at HS.out (j := 1) (x := x2) rfl
  have q0' := E1.c0; have q1' := E1.c1; have q2' := E1.c2; have q3' := E1.c3; have q4' := E1.c4; have q5' := E1.c5
  clear E1
  simp only [x2, Nat.reduceMul, Nat.reduceAdd] at q0' q1' q2' q3' q4' q5'
  have q0 := KExt.cell q0'; have q1 := KExt.cell q1'; have q2 := KExt.cell q2'; have q3 := KExt.cell q3'; have q4 := KExt.cell q4'; have q5 := KExt.cell q5'
  clear q0' q1' q2' q3' q4' q5'
  have E2 := fl_at HS.out (j := 2) (x := x3) rfl
  have r0' := E2.c0; have r1' := E2.c1; have r2' := E2.c2; have r3' := E2.c3; have r4' := E2.c4; have r5' := E2.c5
  clear E2
  simp only [x3, Nat.reduceMul, Nat.reduceAdd] at r0' r1' r2' r3' r4' r5'
  have r0 := KExt.cell r0'; have r1 := KExt.cell r1'; have r2 := KExt.cell r2'; have r3 := KExt.cell r3'; have r4 := KExt.cell r4'; have r5 := KExt.cell r5'
  clear r0' r1' r2' r3' r4' r5'
  have E3 := fl_at HS.out (j := 3) (x := x4) rfl
  have s0' := E3.c0; have s1' := E3.c1; have s2' := E3.c2; have s3' := E3.c3; have s4' := E3.c4; have s5' := E3.c5
  clear E3
  simp only [x4, Nat.reduceMul, Nat.reduceAdd] at s0' s1' s2' s3' s4' s5'
  have s0 := KExt.cell s0'; have s1 := KExt.cell s1'; have s2 := KExt.cell s2'; have s3 := KExt.cell s3'; have s4 := KExt.cell s4'; have s5 := KExt.cell s5'
  clear s0' s1' s2' s3' s4' s5'
  try dsimp only [List.append]
  refine region_plan W 93 (.read [0, 1, 2, 3, 4, 5, 6, 7, 8] (.one 9 (.read [10, 11, 12, 13, 14, 15, 16, 17, 18, 19, 20, 21, 22, 23, 24] (.one 25 (.read [26, 27, 28] (.one 29 (.read [30, 31, 32] (.one 33 (.read [34, 35, 36, 37] (.one 38 (.read [39, 40, 41] (.one 42 (.read [43, 44, 45, 46, 47, 48, 49, 50, 51, 52, 53, 54] (.one 55 (.read [56, 57, 58, 59, 60, 61, 62] (.one 63 (.read [64, 65, 66] (.one 67 (.read [68, 69, 70, 71, 72, 73, 74, 75, 76, 77, 78, 79, 80, 81, 82, 83, 84, 85, 86, 89] (.one 87 (.one 88 (.one 90 (.read [91, 92] .stop))))))))))))))))))))))) (by kernel_rfl) (by kernel_rfl) (by kernel_rfl) (by kernel_rfl) (by kernel_rfl) (fun _ d _ _ _ h => by cases d <;> exact h) (Kept.refl _) ?_
  intro wd hwd
  have HV := Lib.hid hwd
  clear hwd
  rw [wpPlan_read]
  simp only [pickOps_cons, pickOps_nil, consO_some, List.getElem?_cons_zero, List.getElem?_cons_succ]
  repeat (go_big_quiet_step (fail))
  refine wpQuiet_nil ?_
  rw [wpPlan_one]
  simp only [pickOps_cons, pickOps_nil, consO_some, List.getElem?_cons_zero, List.getElem?_cons_succ]
  go_wp2_with (go_at_call 21; refine (ssame_any _ 4 _ smL _ 4 4 smL _ (HT.out.kept HV.out) (HS.out.kept HV.out) true (by simp)).mono ?_; rintro e u0 ⟨rfl, hk⟩)
  replace HV := Lib.hid (HV.out.trans hk)
  clear hk
  refine soloP HV.out ?_
  rw [wpPlan_read]
  simp only [pickOps_cons, pickOps_nil, consO_some, List.getElem?_cons_zero, List.getElem?_cons_succ]
  repeat (go_big_quiet_step (fail))
  refine wpQuiet_nil ?_
  rw [wpPlan_one]
  simp only [pickOps_cons, pickOps_nil, consO_some, List.getElem?_cons_zero, List.getElem?_cons_succ]
  go_wp2_with (go_at_call 15; refine (sund_any _ 4 4 smL ⟨#[109, 47, 107, 49]⟩ _ (HS.out.kept HV.out) (fds_p smL_s) (by decide) true aw_und1).mono ?_; rintro e u1 ⟨rfl, hk⟩)
  replace HV := Lib.hid (HV.out.trans hk)
  clear hk
  refine soloP HV.out ?_
  rw [wpPlan_read]
  simp only [pickOps_cons, pickOps_nil, consO_some, List.getElem?_cons_zero, List.getElem?_cons_succ]
  repeat (go_big_quiet_step (fail))
  refine wpQuiet_nil ?_
  rw [wpPlan_one]
  simp only [pickOps_cons, pickOps_nil, consO_some, List.getElem?_cons_zero, List.getElem?_cons_succ]
  go_wp2_with (go_at_call 15; refine (sund_any _ 4 4 smL ⟨#[97]⟩ _ (HS.out.kept HV.out) (fds_p smL_s) (by decide) true aw_und2).mono ?_; rintro e u2 ⟨rfl, hk⟩)
  replace HV := Lib.hid (HV.out.trans hk)
  clear hk
  refine soloP HV.out ?_
  rw [wpPlan_read]
  simp only [pickOps_cons, pickOps_nil, consO_some, List.getElem?_cons_zero, List.getElem?_cons_succ]
  repeat (go_big_quiet_step (fail))
  refine wpQuiet_nil ?_
  rw [wpPlan_one]
  simp only [pickOps_cons, pickOps_nil, consO_some, List.getElem?_cons_zero, List.getElem?_cons_succ]
  go_wp2_with (go_at_call 15; refine (sund_any _ 4 4 smL ⟨#[97, 47, 122]⟩ _ (HS.out.kept HV.out) (fds_p smL_s) (by decide) false aw_und3).mono ?_; rintro e u3 ⟨rfl, hk⟩)
  replace HV := Lib.hid (HV.out.trans hk)
  clear hk
  refine soloP HV.out ?_
  rw [wpPlan_read]
  simp only [pickOps_cons, pickOps_nil, consO_some, List.getElem?_cons_zero, List.getElem?_cons_succ]
  repeat (go_big_quiet_step (fail))
  refine wpQuiet_nil ?_
  rw [wpPlan_one]
  simp only [pickOps_cons, pickOps_nil, consO_some, List.getElem?_cons_zero, List.getElem?_cons_succ]
  go_wp2_with (go_at_call 13; refine (ssc_any _ 4 4 smL _ (HS.out.kept HV.out) (fds_w smL_s) true ⟨fun _ => smL_ok, fun _ => rfl⟩).mono ?_; rintro e u4 ⟨rfl, hk⟩)
  replace HV := Lib.hid (HV.out.trans hk)
  clear hk
  refine soloP HV.out ?_
  rw [wpPlan_read]
  simp only [pickOps_cons, pickOps_nil, consO_some, List.getElem?_cons_zero, List.getElem?_cons_succ]
  repeat (go_big_quiet_step (fail))
  refine wpQuiet_nil ?_
  rw [wpPlan_one]
  simp only [pickOps_cons, pickOps_nil, consO_some, List.getElem?_cons_zero, List.getElem?_cons_succ]
  go_wp2_with (go_at_call 13; refine (ssc_any _ 2 _ bdL _ (HD.out.kept HV.out) (fds_w bdL_s) false ⟨fun h => (by cases h), fun h => absurd h bdL_no⟩).mono ?_; rintro e u5 ⟨rfl, hk⟩)
  replace HV := Lib.hid (HV.out.trans hk)
  clear hk
  refine soloP HV.out ?_
  rw [wpPlan_read]
  simp only [pickOps_cons, pickOps_nil, consO_some, List.getElem?_cons_zero, List.getElem?_cons_succ]
  repeat (go_big_quiet_step (fail))
  refine wpQuiet_nil ?_
  rw [wpPlan_one]
  simp only [pickOps_cons, pickOps_nil, consO_some, List.getElem?_cons_zero, List.getElem?_cons_succ]
  go_wp2_with (go_at_call 19; refine (stext_c _ 4 4 smL _ aw_text _ (HS.out.kept HV.out) (by decide) smL_s (HLW.out.kept (HW.out.trans HV.out))).mono ?_; rintro e u6 ⟨rfl, hk⟩)
  replace HV := Lib.hid (HV.out.trans hk)
  clear hk
  refine soloP HV.out ?_
  rw [wpPlan_read]
  simp only [pickOps_cons, pickOps_nil, consO_some, List.getElem?_cons_zero, List.getElem?_cons_succ]
  repeat (go_big_quiet_step (fail))
  refine wpQuiet_nil ?_
  rw [wpPlan_one]
  simp only [pickOps_cons, pickOps_nil, consO_some, List.getElem?_cons_zero, List.getElem?_cons_succ]
  go_wp2_with (go_at_call 6; refine (sfr_c x1 true rightX1 _ (by decide) (by decide)).mono ?_; rintro e u7 ⟨rfl, hk⟩)
  replace HV := Lib.hid (HV.out.trans hk)
  clear hk
  refine soloP HV.out ?_
  rw [wpPlan_read]
  simp only [pickOps_cons, pickOps_nil, consO_some, List.getElem?_cons_zero, List.getElem?_cons_succ]
  repeat (go_big_quiet_step (fail))
  refine wpQuiet_nil ?_
  rw [wpPlan_one]
  simp only [pickOps_cons, pickOps_nil, consO_some, List.getElem?_cons_zero, List.getElem?_cons_succ]
  go_wp2_with (go_at_call 6; refine (sfr_c ⟨⟨#[97]⟩, 0, 0, 0, 0, ⟨#[]⟩⟩ false rightA _ (by decide) (by decide)).mono ?_; rintro e u8 ⟨rfl, hk⟩)
  replace HV := Lib.hid (HV.out.trans hk)
  clear hk
  refine soloP HV.out ?_
  rw [wpPlan_read]
  simp only [pickOps_cons, pickOps_nil, consO_some, List.getElem?_cons_zero, List.getElem?_cons_succ]
  repeat (go_big_quiet_step (fail))
  refine wpQuiet_nil ?_
  rw [wpPlan_one]
  simp only [pickOps_cons, pickOps_nil, consO_some, List.getElem?_cons_zero, List.getElem?_cons_succ]
  go_wp2_with fail
  have hka := (Kept.refl u8).alloc #[.string ⟨#[99]⟩, .int .i64 3, .int .i64 1, .int .i64 0, .int .i64 0, .string ⟨#[]⟩, .string ⟨#[97, 47, 120]⟩, .int .i64 1, .int .i64 1, .int .i64 1, .int .i64 0, .string ⟨#[]⟩, .string ⟨#[109, 47, 42, 47, 116]⟩, .int .i64 1, .int .i64 2, .int .i64 2, .int .i64 0, .string ⟨#[]⟩, .string ⟨#[97, 47, 121]⟩, .int .i64 2, .int .i64 2, .int .i64 0, .int .i64 0, .string ⟨#[]⟩] 30
  have hf := fl_new u8 [x3, x1, x4, x2] 30 #[.string ⟨#[99]⟩, .int .i64 3, .int .i64 1, .int .i64 0, .int .i64 0, .string ⟨#[]⟩, .string ⟨#[97, 47, 120]⟩, .int .i64 1, .int .i64 1, .int .i64 1, .int .i64 0, .string ⟨#[]⟩, .string ⟨#[109, 47, 42, 47, 116]⟩, .int .i64 1, .int .i64 2, .int .i64 2, .int .i64 0, .string ⟨#[]⟩, .string ⟨#[97, 47, 121]⟩, .int .i64 2, .int .i64 2, .int .i64 0, .int .i64 0, .string ⟨#[]⟩] rfl (by simp [maxLen])
  have HL := Lib.hid hf
  replace HV := Lib.hid (HV.out.trans hka)
  obtain ⟨u9, hu9⟩ : ∃ u9, u8.alloc (.cells #[.string ⟨#[99]⟩, .int .i64 3, .int .i64 1, .int .i64 0, .int .i64 0, .string ⟨#[]⟩, .string ⟨#[97, 47, 120]⟩, .int .i64 1, .int .i64 1, .int .i64 1, .int .i64 0, .string ⟨#[]⟩, .string ⟨#[109, 47, 42, 47, 116]⟩, .int .i64 1, .int .i64 2, .int .i64 2, .int .i64 0, .string ⟨#[]⟩, .string ⟨#[97, 47, 121]⟩, .int .i64 2, .int .i64 2, .int .i64 0, .int .i64 0, .string ⟨#[]⟩] 30) = u9 := ⟨_, rfl⟩
  rw [hu9] at HV HL ⊢
  clear hka hf hu9
  refine soloP HV.out ?_
  rw [wpPlan_one]
  simp only [pickOps_cons, pickOps_nil, consO_some, List.getElem?_cons_zero, List.getElem?_cons_succ]
  go_wp2_with (go_at_call 22; refine (sof_c _ 4 4 [x3, x1, x4, x2] smL aw_of _ HL.out (by decide)).mono ?_; rintro e u10 ⟨A12, c12, rfl, h12, hk⟩)
  have HU := Lib.hid h12
  replace HV := Lib.hid (HV.out.trans hk)
  clear hk h12
  refine soloP HV.out ?_
  rw [wpPlan_one]
  simp only [pickOps_cons, pickOps_nil, consO_some, List.getElem?_cons_zero, List.getElem?_cons_succ]
  go_wp2_with (go_at_call 21; refine (ssame_any _ 4 _ smL _ 4 4 smL _ HU.out (HS.out.kept HV.out) true (by simp)).mono ?_; rintro e u11 ⟨rfl, hk⟩)
  replace HV := Lib.hid (HV.out.trans hk)
  clear hk
  refine soloP HV.out ?_
  rw [wpPlan_read]
  simp only [pickOps_cons, pickOps_nil, consO_some, List.getElem?_cons_zero, List.getElem?_cons_succ]
  repeat (go_big_quiet_step (fail))
  refine wpQuiet_nil ?_
  refine wpPlan_stop ?_
  go_wp2_with fail
  go_ret
  exact ⟨rfl, HW.out.trans HV.out⟩
end Go.Proofs.YtjieofiaoepccaaGreatDoor
