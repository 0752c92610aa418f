/-
  What is proved: awake of layer 13's laws returns true; the world has new blocks at most.
  words for layer 13's laws: a case (a value and two kinds) in a block of its own; a value's cells written; val.Right; how long what is right is.
-/
import Derived.Test.YtjcnjmlgedmmoaaDoorM23
import Derived.Test.YtjcnjmlgedmmoaaDoorM6
namespace Go.Proofs.YtjcnjmlgedmmoaaDoor
open Go.RowKit
set_option linter.unusedVariables false

theorem pal_new (w : World) (L : List Pa) (t : TypeId) (cs : Array Value) (h : cs = (flatPa L).toArray) (hl : L.length ≤ maxLen) : Pal (w.alloc (.cells cs t)) (some ⟨w.heap.size, 0, none⟩) L.length L.length L := by
  refine ⟨rfl, Nat.le_refl _, hl, (fun h => by cases h), .inr ⟨w.heap.size, 0, rfl, fun j x hj => PaO.of_flat fun i u hu => ?_⟩⟩
  have hi : i < 6 := (List.getElem?_eq_some_iff.1 hu).1
  have hg := flatPa_get L j x hj i hi
  rw [show 0 + j * 6 + i = j * 6 + i by omega]
  exact (Kept.refl _).box (j * 6 + i) u (by rw [h, List.getElem?_toArray, hg, hu])
theorem Pal.setFar {w : World} {A : Option Addr} {n c : Nat} {L : List Pa} (h : Pal w A n c L) (b i : Nat) (hA : ∀ ad, A = some ad → ad.block ≠ b) (v : Value) : Pal (w.setCell ⟨b, i, none⟩ v) A n c L :=
  ⟨h.1, h.2.1, h.2.2.1, h.2.2.2.1, h.2.2.2.2.imp id fun ⟨g, o, hg, hc⟩ => ⟨g, o, hg, fun j x hj => PaO.of_flat fun i2 u hu => by
    have hcell := (hc j x hj).flat i2 u hu
    have := hA _ hg
    rw [World.cell?_setCell_other _ _ _ _ (fun e => by cases e; exact this rfl)]
    exact hcell⟩⟩
theorem cell_off {w : World} {b b' i j : Nat} {v u : Value} (hb : b ≠ b') (h : w.cell? ⟨b', j, none⟩ = some u) : (w.setCell ⟨b, i, none⟩ v).cell? ⟨b', j, none⟩ = some u := by
  rw [World.cell?_setCell_other _ _ _ _ (fun e => hb (by cases e; rfl))]; exact h
theorem TabB.setFar {w : World} {b : Nat} {A : Option Addr} {n c : Nat} {T : Tb} (h : TabB w b A n c T) (b' i : Nat) (hb : b' ≠ b) (v : Value) : TabB (w.setCell ⟨b', i, none⟩ v) b A n c T :=
  ⟨cell_off hb h.c0, cell_off hb h.c1, cell_off hb h.c2, cell_off hb h.c3, cell_off hb h.c4, cell_off hb h.c5, cell_off hb h.c6, cell_off hb h.c7, cell_off hb h.c8, fun j => by rw [World.frozen?_setCell]; exact h.f j, by have := h.lt; simpa [World.setCell] using this⟩
theorem TabB.setB {w : World} {b : Nat} {A : Option Addr} {n c : Nat} {T : Tb} (h : TabB w b A n c T) (v : Va) : TabB (((w.setCell ⟨b, 5, none⟩ (.int .i64 v.k)).setCell ⟨b, 6, none⟩ (.int .i64 v.n)).setCell ⟨b, 7, none⟩ (.string v.t)) b A n c ⟨T.L, T.keep, T.d, v, T.tu⟩ :=
  ⟨cell_beside (by decide) (cell_beside (by decide) (cell_beside (by decide) h.c0)), cell_beside (by decide) (cell_beside (by decide) (cell_beside (by decide) h.c1)), cell_beside (by decide) (cell_beside (by decide) (cell_beside (by decide) h.c2)),
   cell_beside (by decide) (cell_beside (by decide) (cell_beside (by decide) h.c3)), cell_beside (by decide) (cell_beside (by decide) (cell_beside (by decide) h.c4)),
   cell_beside (by decide) (cell_beside (by decide) (World.cell?_setCell_same _ _ _ h.c5)), cell_beside (by decide) (World.cell?_setCell_same _ _ _ (cell_beside (by decide) h.c6)), World.cell?_setCell_same _ _ _ (cell_beside (by decide) (cell_beside (by decide) h.c7)),
   cell_beside (by decide) (cell_beside (by decide) (cell_beside (by decide) h.c8)), fun j => by rw [World.frozen?_setCell, World.frozen?_setCell, World.frozen?_setCell]; exact h.f j, by have := h.lt; simpa [World.setCell] using this⟩
theorem c_r1 (A : Option Addr) (c : Nat) (w : World) (h : Pal w A 2 c swL) : Calls Tryd.prog 18 #[.agg #[.slice A 2 c, .bool true, .int .i64 0, .int .i64 0, .string ⟨#[]⟩, .int .i64 0, .int .i64 0, .string ⟨#[]⟩, .bool false], .int .i64 1, .int .i64 1] w fun e w' => e = .returned (.bool true) ∧ Kept w w' :=
  htright_any A 2 c swT 1 1 w h sw_sz true (by simp [sw_right])
theorem c_r2 (A : Option Addr) (c : Nat) (w : World) (h : Pal w A 2 c woL) : Calls Tryd.prog 18 #[.agg #[.slice A 2 c, .bool false, .int .i64 2, .int .i64 0, .string ⟨#[]⟩, .int .i64 1, .int .i64 0, .string ⟨#[]⟩, .bool false], .int .i64 1, .int .i64 2] w fun e w' => e = .returned (.bool true) ∧ Kept w w' :=
  htright_any A 2 c woT 1 2 w h wo_sz true (by simp [wo_right])
theorem c_r3 (A : Option Addr) (c : Nat) (w : World) (h : Pal w A 2 c woL) : Calls Tryd.prog 18 #[.agg #[.slice A 2 c, .bool false, .int .i64 2, .int .i64 0, .string ⟨#[]⟩, .int .i64 1, .int .i64 7, .string ⟨#[]⟩, .bool false], .int .i64 1, .int .i64 2] w fun e w' => e = .returned (.bool false) ∧ Kept w w' :=
  htright_any A 2 c baT 1 2 w h ba_sz false (by simp [ba_right])
theorem c_r4 (A : Option Addr) (c : Nat) (w : World) (h : Pal w A 2 c woL) : Calls Tryd.prog 18 #[.agg #[.slice A 2 c, .bool false, .int .i64 2, .int .i64 0, .string ⟨#[]⟩, .int .i64 1, .int .i64 0, .string ⟨#[]⟩, .bool true], .int .i64 2, .int .i64 1] w fun e w' => e = .returned (.bool true) ∧ Kept w w' :=
  htright_any A 2 c (turnT woT) 2 1 w h wo_sz.turn true (by simp [wo_turn])
theorem c_r5 (A : Option Addr) (c : Nat) (w : World) (h : Pal w A 2 c woL) : Calls Tryd.prog 18 #[.agg #[.slice A 2 c, .bool false, .int .i64 2, .int .i64 0, .string ⟨#[]⟩, .int .i64 1, .int .i64 0, .string ⟨#[]⟩, .bool false], .int .i64 2, .int .i64 1] w fun e w' => e = .returned (.bool false) ∧ Kept w w' :=
  htright_any A 2 c woT 2 1 w h wo_sz false (by simp [wo_not])
theorem c_l1 (A : Option Addr) (c : Nat) (w : World) (h : Pal w A 2 c swL) : Calls Tryd.prog 20 #[.agg #[.slice A 2 c, .bool true, .int .i64 0, .int .i64 0, .string ⟨#[]⟩, .int .i64 0, .int .i64 0, .string ⟨#[]⟩, .bool false], .int .i64 1, .int .i64 1] w fun e w' => e = .returned (.bool true) ∧ Kept w w' :=
  htloss_any A 2 c swT 1 1 w h sw_sz true (by simp [sw_loss]) (fun e => absurd e (by decide))
theorem c_l2 (A : Option Addr) (c : Nat) (w : World) (h : Pal w A 2 c woL) : Calls Tryd.prog 20 #[.agg #[.slice A 2 c, .bool false, .int .i64 2, .int .i64 0, .string ⟨#[]⟩, .int .i64 1, .int .i64 0, .string ⟨#[]⟩, .bool false], .int .i64 1, .int .i64 2] w fun e w' => e = .returned (.bool false) ∧ Kept w w' :=
  htloss_any A 2 c woT 1 2 w h wo_sz false (by simp [wo_loss]) (fun _ e => absurd e (by decide))
theorem c_a1 (A : Option Addr) (c : Nat) (w : World) (h : Pal w A 2 c swL) : Calls Tryd.prog 12 #[.agg #[.slice A 2 c, .bool true, .int .i64 0, .int .i64 0, .string ⟨#[]⟩, .int .i64 0, .int .i64 0, .string ⟨#[]⟩, .bool false], .agg #[.int .i64 1, .int .i64 2, .string ⟨#[]⟩]] w fun e w' => e = .returned (.agg #[.int .i64 1, .int .i64 1, .string ⟨#[]⟩]) ∧ Kept w w' :=
  htapply_any A 2 c swT (inV 2) (inV 1) aw_a1 (by decide) w h sw_sz
theorem c_a2 (A : Option Addr) (c : Nat) (w : World) (h : Pal w A 2 c swL) : Calls Tryd.prog 12 #[.agg #[.slice A 2 c, .bool true, .int .i64 0, .int .i64 0, .string ⟨#[]⟩, .int .i64 0, .int .i64 0, .string ⟨#[]⟩, .bool false], .agg #[.int .i64 1, .int .i64 5, .string ⟨#[]⟩]] w fun e w' => e = .returned (.agg #[.int .i64 1, .int .i64 5, .string ⟨#[]⟩]) ∧ Kept w w' :=
  htapply_any A 2 c swT (inV 5) (inV 5) aw_a2 (by decide) w h sw_sz
theorem c_a3 (A : Option Addr) (c : Nat) (w : World) (h : Pal w A 2 c woL) : Calls Tryd.prog 12 #[.agg #[.slice A 2 c, .bool false, .int .i64 2, .int .i64 0, .string ⟨#[]⟩, .int .i64 1, .int .i64 0, .string ⟨#[]⟩, .bool false], .agg #[.int .i64 1, .int .i64 9, .string ⟨#[]⟩]] w fun e w' => e = .returned (.agg #[.int .i64 2, .int .i64 0, .string ⟨#[]⟩]) ∧ Kept w w' :=
  htapply_any A 2 c woT (inV 9) emV aw_a3 (by decide) w h wo_sz
theorem c_b1 (A : Option Addr) (c : Nat) (w : World) (h : Pal w A 2 c woL) : Calls Tryd.prog 14 #[.agg #[.slice A 2 c, .bool false, .int .i64 2, .int .i64 0, .string ⟨#[]⟩, .int .i64 1, .int .i64 0, .string ⟨#[]⟩, .bool false], .agg #[.int .i64 2, .int .i64 0, .string ⟨#[111, 110, 101]⟩]] w fun e w' => e = .returned (.agg #[.int .i64 1, .int .i64 1, .string ⟨#[]⟩]) ∧ Kept w w' :=
  htway_any A 2 c woT oneV (inV 1) aw_b1 (by decide) w h wo_sz
theorem c_b2 (A : Option Addr) (c : Nat) (w : World) (h : Pal w A 2 c woL) : Calls Tryd.prog 14 #[.agg #[.slice A 2 c, .bool false, .int .i64 2, .int .i64 0, .string ⟨#[]⟩, .int .i64 1, .int .i64 0, .string ⟨#[]⟩, .bool false], .agg #[.int .i64 2, .int .i64 0, .string ⟨#[120]⟩]] w fun e w' => e = .returned (.agg #[.int .i64 1, .int .i64 0, .string ⟨#[]⟩]) ∧ Kept w w' :=
  htway_any A 2 c woT xV (inV 0) aw_b2 (by decide) w h wo_sz
theorem c_t1 (A : Option Addr) (c : Nat) (w : World) (h : Pal w A 2 c woL) : Calls Tryd.prog 12 #[.agg #[.slice A 2 c, .bool false, .int .i64 2, .int .i64 0, .string ⟨#[]⟩, .int .i64 1, .int .i64 0, .string ⟨#[]⟩, .bool true], .agg #[.int .i64 2, .int .i64 0, .string ⟨#[111, 110, 101]⟩]] w fun e w' => e = .returned (.agg #[.int .i64 1, .int .i64 1, .string ⟨#[]⟩]) ∧ Kept w w' :=
  htapply_any A 2 c (turnT woT) oneV (inV 1) aw_t1 (by decide) w h wo_sz.turn
theorem c_turn (A : Option Addr) (c : Nat) (w : World) (h : Pal w A 2 c woL) : Calls Tryd.prog 16 #[.agg #[.slice A 2 c, .bool false, .int .i64 2, .int .i64 0, .string ⟨#[]⟩, .int .i64 1, .int .i64 0, .string ⟨#[]⟩, .bool false]] w fun e w' => ∃ A' c', e = .returned (.agg #[.slice A' 2 c', .bool false, .int .i64 2, .int .i64 0, .string ⟨#[]⟩, .int .i64 1, .int .i64 0, .string ⟨#[]⟩, .bool true]) ∧ Pal w' A' 2 c' woL ∧ Kept w w' :=
  htturn_any A 2 c woT w h wo_sz
theorem c_put (A : Option Addr) (c : Nat) (w : World) (h : Pal w A 2 c woL) : Calls Tryd.prog 22 #[.string ⟨#[]⟩, .agg #[.slice A 2 c, .bool false, .int .i64 2, .int .i64 0, .string ⟨#[]⟩, .int .i64 1, .int .i64 0, .string ⟨#[]⟩, .bool false]] w fun e w' => e = .returned (.string woP) ∧ Kept w w' :=
  htput_any ⟨#[]⟩ A 2 c woT w h wo_tbs (by decide) woP aw_put
theorem c_same (A : Option Addr) (c : Nat) (A' : Option Addr) (c' : Nat) (w : World) (h : Pal w A 2 c woL) (h' : Pal w A' 2 c' woL) : Calls Tryd.prog 24 #[.agg #[.slice A 2 c, .bool false, .int .i64 2, .int .i64 0, .string ⟨#[]⟩, .int .i64 1, .int .i64 0, .string ⟨#[]⟩, .bool false], .agg #[.slice A' 2 c', .bool false, .int .i64 2, .int .i64 0, .string ⟨#[]⟩, .int .i64 1, .int .i64 0, .string ⟨#[]⟩, .bool false]] w fun e w' => e = .returned (.bool true) ∧ Kept w w' :=
  htsame_any A 2 c woT A' 2 c' woT w h h' true aw_same
theorem c_other (A : Option Addr) (c : Nat) (A' : Option Addr) (c' : Nat) (w : World) (h : Pal w A 2 c woL) (h' : Pal w A' 2 c' woL) : Calls Tryd.prog 24 #[.agg #[.slice A 2 c, .bool false, .int .i64 2, .int .i64 0, .string ⟨#[]⟩, .int .i64 1, .int .i64 0, .string ⟨#[]⟩, .bool false], .agg #[.slice A' 2 c', .bool false, .int .i64 2, .int .i64 0, .string ⟨#[]⟩, .int .i64 1, .int .i64 7, .string ⟨#[]⟩, .bool false]] w fun e w' => e = .returned (.bool false) ∧ Kept w w' :=
  htsame_any A 2 c woT A' 2 c' baT w h h' false aw_other
theorem woP_size : (woP ++ ⟨#[122]⟩).size ≤ 100000 := Nat.le_of_ble_eq_true (by kernel_rfl)
theorem c_take (w : World) : Calls Tryd.prog 9 #[.string (woP ++ ⟨#[122]⟩)] w fun e w' => ∃ A c, e = .returned (.tuple #[.agg #[.slice A 2 c, .bool false, .int .i64 2, .int .i64 0, .string ⟨#[]⟩, .int .i64 1, .int .i64 0, .string ⟨#[]⟩, .bool false], .string ⟨#[122]⟩, .int .i64 0]) ∧ Pal w' A 2 c woL ∧ Kept w w' := by
  refine (httake_any _ w woP_size).mono fun e w' h => ?_
  unfold TakH at h
  rw [aw_take] at h
  exact h
theorem c_bad (w : World) : Calls Tryd.prog 9 #[.string ⟨#[4]⟩] w fun e w' => ∃ A c, e = .returned (.tuple #[.agg #[.slice A 0 c, .bool false, .int .i64 0, .int .i64 0, .string ⟨#[]⟩, .int .i64 0, .int .i64 0, .string ⟨#[]⟩, .bool false], .string ⟨#[]⟩, .int .i64 3]) ∧ Pal w' A 0 c [] ∧ Kept w w' := by
  refine (httake_any _ w (by decide)).mono fun e w' h => ?_
  unfold TakH at h
  rw [aw_bad] at h
  exact h
set_option maxRecDepth 100000 in
set_option maxHeartbeats 32000000 in
theorem hawake_any (w : World) : Calls Tryd.prog 8 #[] w fun e w' => e = .returned (.bool true) ∧ Kept w w' := by
  go_enter Tryd.func8, Tryd.ntmps8
  have HW := Lib.hid (Kept.refl w)
  go_wp2_with fail
  go_at_call 26
  refine (hint_any 1 _).mono ?_
  rintro e u1 ⟨rfl, hk⟩
  replace HW := Lib.hid (HW.out.trans hk)
  clear hk
  go_wp2_with fail
  go_at_call 26
  refine (hint_any 2 _).mono ?_
  rintro e u2 ⟨rfl, hk⟩
  replace HW := Lib.hid (HW.out.trans hk)
  clear hk
  go_wp2_with fail
  go_at_call 26
  refine (hint_any 2 _).mono ?_
  rintro e u3 ⟨rfl, hk⟩
  replace HW := Lib.hid (HW.out.trans hk)
  clear hk
  go_wp2_with fail
  go_at_call 26
  refine (hint_any 1 _).mono ?_
  rintro e u4 ⟨rfl, hk⟩
  replace HW := Lib.hid (HW.out.trans hk)
  clear hk
  have hka := ((Kept.refl u4).alloc #[.int .i64 1, .int .i64 1, .string ⟨#[]⟩, .int .i64 1, .int .i64 2, .string ⟨#[]⟩, .int .i64 1, .int .i64 2, .string ⟨#[]⟩, .int .i64 1, .int .i64 1, .string ⟨#[]⟩] 44).alloc #[.slice (some ⟨(World.heap u4).size, 0, none⟩) 2 2, .bool true, .int .i64 0, .int .i64 0, .string ⟨#[]⟩, .int .i64 0, .int .i64 0, .string ⟨#[]⟩, .bool false] 26
  have HP1 := Lib.hid ((pal_new u4 swL 44 #[.int .i64 1, .int .i64 1, .string ⟨#[]⟩, .int .i64 1, .int .i64 2, .string ⟨#[]⟩, .int .i64 1, .int .i64 2, .string ⟨#[]⟩, .int .i64 1, .int .i64 1, .string ⟨#[]⟩] rfl (by decide)).kept ((Kept.refl (World.alloc u4 (.cells #[.int .i64 1, .int .i64 1, .string ⟨#[]⟩, .int .i64 1, .int .i64 2, .string ⟨#[]⟩, .int .i64 1, .int .i64 2, .string ⟨#[]⟩, .int .i64 1, .int .i64 1, .string ⟨#[]⟩] 44))).alloc #[.slice (some ⟨(World.heap u4).size, 0, none⟩) 2 2, .bool true, .int .i64 0, .int .i64 0, .string ⟨#[]⟩, .int .i64 0, .int .i64 0, .string ⟨#[]⟩, .bool false] 26))
  have ht := TabB.new (World.alloc u4 (.cells #[.int .i64 1, .int .i64 1, .string ⟨#[]⟩, .int .i64 1, .int .i64 2, .string ⟨#[]⟩, .int .i64 1, .int .i64 2, .string ⟨#[]⟩, .int .i64 1, .int .i64 1, .string ⟨#[]⟩] 44)) (some ⟨(World.heap u4).size, 0, none⟩) 2 2 swT 26
  rw [show (World.alloc u4 (.cells #[.int .i64 1, .int .i64 1, .string ⟨#[]⟩, .int .i64 1, .int .i64 2, .string ⟨#[]⟩, .int .i64 1, .int .i64 2, .string ⟨#[]⟩, .int .i64 1, .int .i64 1, .string ⟨#[]⟩] 44)).heap.size = (World.heap u4).size + 1 by simp] at ht
  have HT1 := Lib.hid ht
  replace HW := Lib.hid (HW.out.trans hka)
  clear hka ht
  go_wp2_with fail
  go_at_call 26
  refine (hint_any 1 _).mono ?_
  rintro e u5 ⟨rfl, hk⟩
  replace HW := Lib.hid (HW.out.trans hk)
  replace HP1 := Lib.hid (HP1.out.kept hk)
  replace HT1 := Lib.hid (HT1.out.kept hk)
  clear hk
  go_wp2_with fail
  go_at_call 26
  refine (hint_any 0 _).mono ?_
  rintro e u6 ⟨rfl, hk⟩
  replace HW := Lib.hid (HW.out.trans hk)
  replace HP1 := Lib.hid (HP1.out.kept hk)
  replace HT1 := Lib.hid (HT1.out.kept hk)
  clear hk
  have hka := (Kept.refl u6).alloc #[.int .i64 1, .int .i64 1, .string ⟨#[]⟩, .int .i64 2, .int .i64 0, .string ⟨#[111, 110, 101]⟩, .int .i64 1, .int .i64 0, .string ⟨#[]⟩, .int .i64 2, .int .i64 0, .string ⟨#[]⟩] 44
  have hp := pal_new u6 woL 44 #[.int .i64 1, .int .i64 1, .string ⟨#[]⟩, .int .i64 2, .int .i64 0, .string ⟨#[111, 110, 101]⟩, .int .i64 1, .int .i64 0, .string ⟨#[]⟩, .int .i64 2, .int .i64 0, .string ⟨#[]⟩] rfl (by decide)
  replace HW := Lib.hid (HW.out.trans hka)
  replace HP1 := Lib.hid (HP1.out.kept hka)
  replace HT1 := Lib.hid (HT1.out.kept hka)
  have HP2 := Lib.hid hp
  obtain ⟨s2, hs2⟩ : ∃ b, u6.heap.size = b := ⟨_, rfl⟩
  rw [hs2] at HP2
  have HS2 := Lib.hid hs2
  clear hka hp
  go_wp2_with fail
  go_at_call 26
  refine (hint_any 0 _).mono ?_
  rintro e u7 ⟨rfl, hk⟩
  replace HW := Lib.hid (HW.out.trans hk)
  replace HP1 := Lib.hid (HP1.out.kept hk)
  replace HT1 := Lib.hid (HT1.out.kept hk)
  replace HP2 := Lib.hid (HP2.out.kept hk)
  have HL2 := Lib.hid (show s2 < u7.heap.size from by have := hk.2.2; have := HS2.out; simp at *; omega)
  clear hk
  have HN1 := Lib.hid (show u4.heap.size + 1 < u7.heap.size from HT1.out.lt)
  have HNW := Lib.hid (show w.heap.size ≤ u7.heap.size from HW.out.2.2)
  have hka := ((Kept.refl u7).alloc #[.slice (some ⟨s2, 0, none⟩) 2 2, .bool false, .int .i64 2, .int .i64 0, .string ⟨#[]⟩, .int .i64 1, .int .i64 0, .string ⟨#[]⟩, .bool false] 26).alloc #[.slice (some ⟨s2, 0, none⟩) 2 2, .bool false, .int .i64 2, .int .i64 0, .string ⟨#[]⟩, .int .i64 1, .int .i64 0, .string ⟨#[]⟩, .bool false] 26
  have ht2 := (TabB.new u7 (some ⟨s2, 0, none⟩) 2 2 woT 26).kept ((Kept.refl (u7.alloc (.cells #[.slice (some ⟨s2, 0, none⟩) 2 2, .bool false, .int .i64 2, .int .i64 0, .string ⟨#[]⟩, .int .i64 1, .int .i64 0, .string ⟨#[]⟩, .bool false] 26))).alloc #[.slice (some ⟨s2, 0, none⟩) 2 2, .bool false, .int .i64 2, .int .i64 0, .string ⟨#[]⟩, .int .i64 1, .int .i64 0, .string ⟨#[]⟩, .bool false] 26)
  have ht3 := TabB.new (u7.alloc (.cells #[.slice (some ⟨s2, 0, none⟩) 2 2, .bool false, .int .i64 2, .int .i64 0, .string ⟨#[]⟩, .int .i64 1, .int .i64 0, .string ⟨#[]⟩, .bool false] 26)) (some ⟨s2, 0, none⟩) 2 2 woT 26
  rw [show (u7.alloc (.cells #[.slice (some ⟨s2, 0, none⟩) 2 2, .bool false, .int .i64 2, .int .i64 0, .string ⟨#[]⟩, .int .i64 1, .int .i64 0, .string ⟨#[]⟩, .bool false] 26)).heap.size = u7.heap.size + 1 by simp] at ht3
  have HT2 := Lib.hid ht2; have HT3 := Lib.hid ht3
  replace HW := Lib.hid (HW.out.trans hka)
  replace HP1 := Lib.hid (HP1.out.kept hka)
  replace HT1 := Lib.hid (HT1.out.kept hka)
  replace HP2 := Lib.hid (HP2.out.kept hka)
  clear hka ht2 ht3
  go_wp2_with fail
  go_at_call 26
  refine (hint_any 7 _).mono ?_
  rintro e u8 ⟨rfl, hk⟩
  replace HW := Lib.hid (HW.out.trans hk)
  replace HP1 := Lib.hid (HP1.out.kept hk)
  replace HT1 := Lib.hid (HT1.out.kept hk)
  replace HP2 := Lib.hid (HP2.out.kept hk)
  replace HT2 := Lib.hid (HT2.out.kept hk)
  replace HT3 := Lib.hid (HT3.out.kept hk)
  clear hk
  have e5 := HT3.out.c5; have e6 := HT3.out.c6; have e7 := HT3.out.c7; have ef := HT3.out.f
  simp only [woT, inV] at e5 e6 e7
  have n1 := HN1.out; have n2 := HL2.out; have nw := HNW.out
  replace HT3 := Lib.hid (show TabB (((World.setCell u8 ⟨u7.heap.size + 1, 5, none⟩ (.int .i64 1)).setCell ⟨u7.heap.size + 1, 6, none⟩ (.int .i64 7)).setCell ⟨u7.heap.size + 1, 7, none⟩ (.string ⟨#[]⟩)) (u7.heap.size + 1) (some ⟨s2, 0, none⟩) 2 2 baT from HT3.out.setB (inV 7))
  replace HT2 := Lib.hid (((HT2.out.setFar (u7.heap.size + 1) 5 (by omega) (.int .i64 1)).setFar (u7.heap.size + 1) 6 (by omega) (.int .i64 7)).setFar (u7.heap.size + 1) 7 (by omega) (.string ⟨#[]⟩))
  replace HT1 := Lib.hid (((HT1.out.setFar (u7.heap.size + 1) 5 (by omega) (.int .i64 1)).setFar (u7.heap.size + 1) 6 (by omega) (.int .i64 7)).setFar (u7.heap.size + 1) 7 (by omega) (.string ⟨#[]⟩))
  replace HP1 := Lib.hid (((HP1.out.setFar (u7.heap.size + 1) 5 (by intro ad e; cases e; show u4.heap.size ≠ _; omega) (.int .i64 1)).setFar (u7.heap.size + 1) 6 (by intro ad e; cases e; show u4.heap.size ≠ _; omega) (.int .i64 7)).setFar (u7.heap.size + 1) 7 (by intro ad e; cases e; show u4.heap.size ≠ _; omega) (.string ⟨#[]⟩))
  replace HP2 := Lib.hid (((HP2.out.setFar (u7.heap.size + 1) 5 (by intro ad e; cases e; show s2 ≠ _; omega) (.int .i64 1)).setFar (u7.heap.size + 1) 6 (by intro ad e; cases e; show s2 ≠ _; omega) (.int .i64 7)).setFar (u7.heap.size + 1) 7 (by intro ad e; cases e; show s2 ≠ _; omega) (.string ⟨#[]⟩))
  replace HW := Lib.hid (((HW.out.setCell (a := ⟨u7.heap.size + 1, 5, none⟩) (by show w.heap.size ≤ u7.heap.size + 1; omega) (.int .i64 1)).setCell (a := ⟨u7.heap.size + 1, 6, none⟩) (by show w.heap.size ≤ u7.heap.size + 1; omega) (.int .i64 7)).setCell (a := ⟨u7.heap.size + 1, 7, none⟩) (by show w.heap.size ≤ u7.heap.size + 1; omega) (.string ⟨#[]⟩))
  clear n1 n2 nw
  have t20 := HT2.out.c0; have t21 := HT2.out.c1; have t22 := HT2.out.c2; have t23 := HT2.out.c3; have t24 := HT2.out.c4; have t25 := HT2.out.c5; have t26 := HT2.out.c6; have t27 := HT2.out.c7; have t28 := HT2.out.c8
  simp only [woT, emV, inV] at t21 t22 t23 t24 t25 t26 t27 t28
  go_wp2_with fail
  go_at_call 22
  clear t20 t21 t22 t23 t24 t25 t26 t27 t28
  clear e5 e6 e7 ef
  obtain ⟨W9, hW9⟩ : ∃ u, (((World.setCell u8 ⟨u7.heap.size + 1, 5, none⟩ (.int .i64 1)).setCell ⟨u7.heap.size + 1, 6, none⟩ (.int .i64 7)).setCell ⟨u7.heap.size + 1, 7, none⟩ (.string ⟨#[]⟩)) = u := ⟨_, rfl⟩
  rw [hW9] at HW HP1 HT1 HP2 HT2 HT3 ⊢
  clear hW9
  refine (c_put _ _ _ HP2.out).mono ?_
  rintro e u9 ⟨rfl, hk⟩
  replace HW := Lib.hid (HW.out.trans hk)
  replace HP1 := Lib.hid (HP1.out.kept hk)
  replace HT1 := Lib.hid (HT1.out.kept hk)
  replace HP2 := Lib.hid (HP2.out.kept hk)
  replace HT2 := Lib.hid (HT2.out.kept hk)
  replace HT3 := Lib.hid (HT3.out.kept hk)
  clear hk
  go_wp2_with fail
  go_at_call 9
  refine (c_take _).mono ?_
  rintro e u10 ⟨A4, c4, rfl, hp4, hk⟩
  replace HW := Lib.hid (HW.out.trans hk)
  replace HP1 := Lib.hid (HP1.out.kept hk)
  replace HT1 := Lib.hid (HT1.out.kept hk)
  replace HP2 := Lib.hid (HP2.out.kept hk)
  replace HT2 := Lib.hid (HT2.out.kept hk)
  replace HT3 := Lib.hid (HT3.out.kept hk)
  have HP4 := Lib.hid hp4
  clear hk hp4
  have hka := (Kept.refl u10).alloc #[.slice A4 2 c4, .bool false, .int .i64 2, .int .i64 0, .string ⟨#[]⟩, .int .i64 1, .int .i64 0, .string ⟨#[]⟩, .bool false] 26
  have ht := TabB.new u10 A4 2 c4 woT 26
  replace HW := Lib.hid (HW.out.trans hka)
  replace HP1 := Lib.hid (HP1.out.kept hka)
  replace HT1 := Lib.hid (HT1.out.kept hka)
  replace HP2 := Lib.hid (HP2.out.kept hka)
  replace HT2 := Lib.hid (HT2.out.kept hka)
  replace HT3 := Lib.hid (HT3.out.kept hka)
  replace HP4 := Lib.hid (HP4.out.kept hka)
  have HT4 := Lib.hid ht
  clear ht
  clear hka
  go_wp2_with fail
  go_at_call 9
  refine (c_bad _).mono ?_
  rintro e u11 ⟨A7, c7, rfl, _, hk⟩
  replace HW := Lib.hid (HW.out.trans hk)
  replace HP1 := Lib.hid (HP1.out.kept hk)
  replace HT1 := Lib.hid (HT1.out.kept hk)
  replace HP2 := Lib.hid (HP2.out.kept hk)
  replace HT2 := Lib.hid (HT2.out.kept hk)
  replace HT3 := Lib.hid (HT3.out.kept hk)
  replace HP4 := Lib.hid (HP4.out.kept hk)
  replace HT4 := Lib.hid (HT4.out.kept hk)
  clear hk
  have hka := (Kept.refl u11).alloc #[.slice A7 0 c7, .bool false, .int .i64 0, .int .i64 0, .string ⟨#[]⟩, .int .i64 0, .int .i64 0, .string ⟨#[]⟩, .bool false] 26
  replace HW := Lib.hid (HW.out.trans hka)
  replace HP1 := Lib.hid (HP1.out.kept hka)
  replace HT1 := Lib.hid (HT1.out.kept hka)
  replace HP2 := Lib.hid (HP2.out.kept hka)
  replace HT2 := Lib.hid (HT2.out.kept hka)
  replace HT3 := Lib.hid (HT3.out.kept hka)
  replace HP4 := Lib.hid (HP4.out.kept hka)
  replace HT4 := Lib.hid (HT4.out.kept hka)
  clear hka
  obtain ⟨V, hV⟩ : ∃ V, u11.alloc (.cells #[.slice A7 0 c7, .bool false, .int .i64 0, .int .i64 0, .string ⟨#[]⟩, .int .i64 0, .int .i64 0, .string ⟨#[]⟩, .bool false] 26) = V := ⟨_, rfl⟩
  rw [hV] at HW HP1 HT1 HP2 HT2 HT3 HP4 HT4
  have HVV := Lib.hid hV
  clear hV
  go_wp2_with fail
  rw [HVV.out]
  have hfd : ∀ w : World, (Instr.field 24 (.agg #[.int .i64 2, .int .i64 0, .string ⟨#[]⟩]) 2).run Tryd.prog w = .ok (.string ⟨#[]⟩) w := fun _ => by kernel_rfl
  have t10 := KExt.cell HT1.out.c0; have t11 := KExt.cell HT1.out.c1; have t12 := KExt.cell HT1.out.c2; have t13 := KExt.cell HT1.out.c3; have t14 := KExt.cell HT1.out.c4; have t15 := KExt.cell HT1.out.c5; have t16 := KExt.cell HT1.out.c6; have t17 := KExt.cell HT1.out.c7; have t18 := KExt.cell HT1.out.c8
  simp only [swT, Va.zero] at t11 t12 t13 t14 t15 t16 t17 t18
  have t20 := KExt.cell HT2.out.c0; have t21 := KExt.cell HT2.out.c1; have t22 := KExt.cell HT2.out.c2; have t23 := KExt.cell HT2.out.c3; have t24 := KExt.cell HT2.out.c4; have t25 := KExt.cell HT2.out.c5; have t26 := KExt.cell HT2.out.c6; have t27 := KExt.cell HT2.out.c7; have t28 := KExt.cell HT2.out.c8
  simp only [woT, emV, inV] at t21 t22 t23 t24 t25 t26 t27 t28
  have t30 := KExt.cell HT3.out.c0; have t31 := KExt.cell HT3.out.c1; have t32 := KExt.cell HT3.out.c2; have t33 := KExt.cell HT3.out.c3; have t34 := KExt.cell HT3.out.c4; have t35 := KExt.cell HT3.out.c5; have t36 := KExt.cell HT3.out.c6; have t37 := KExt.cell HT3.out.c7; have t38 := KExt.cell HT3.out.c8
  simp only [baT, emV, inV] at t31 t32 t33 t34 t35 t36 t37 t38
  have t40 := KExt.cell HT4.out.c0; have t41 := KExt.cell HT4.out.c1; have t42 := KExt.cell HT4.out.c2; have t43 := KExt.cell HT4.out.c3; have t44 := KExt.cell HT4.out.c4; have t45 := KExt.cell HT4.out.c5; have t46 := KExt.cell HT4.out.c6; have t47 := KExt.cell HT4.out.c7; have t48 := KExt.cell HT4.out.c8
  simp only [woT, emV, inV] at t41 t42 t43 t44 t45 t46 t47 t48
  (try dsimp only [List.append])
  refine region_plan V 97 (.read [0] (.one 1 (.read [2, 3] (.one 4 (.read [5, 6, 7] (.one 8 (.read [9, 10, 11] (.one 12 (.read [13, 14, 15, 16] (.one 17 (.read [18, 19, 20, 21] (.one 22 (.one 23 (.read [24, 25, 26] (.one 27 (.read [28, 29, 30, 31] (.one 32 (.one 33 (.one 34 (.read [35, 36, 37, 38] (.one 39 (.one 40 (.one 41 (.read [42, 43, 44, 45] (.one 46 (.one 47 (.one 48 (.read [49, 50, 51, 52, 53] (.one 54 (.one 55 (.read [56, 57, 58, 59, 60] (.one 61 (.one 62 (.read [63, 64, 65, 66, 68] (.one 67 (.one 69 (.one 70 (.read [71, 72, 73, 74, 75, 76, 77, 78, 79, 80, 81, 82, 83] (.one 84 (.read [85, 86, 87, 88, 89, 90, 91, 92] (.one 93 (.read [94, 95, 96] .stop)))))))))))))))))))))))))))))))))))))))))) (by kernel_rfl) (by kernel_rfl) (by kernel_rfl) (by kernel_rfl) (by kernel_rfl) (fun _ d _ _ _ h => by cases d <;> exact h) (Kept.refl _) ?_
  intro wd hwd
  have HV := Lib.hid hwd
  clear hwd
  rw [wpPlan_read]
  simp only [pickOps_cons, pickOps_nil, consO_some, List.getElem?_cons_zero]
  repeat (go_big_quiet_step (fail))
  refine wpQuiet_nil ?_
  rw [wpPlan_one]
  simp only [pickOps_cons, pickOps_nil, consO_some, List.getElem?_cons_zero, List.getElem?_cons_succ]
  go_wp2_with (go_at_call 18; refine (c_r1 _ _ _ (HP1.out.kept HV.out)).mono ?_; rintro e v1 ⟨rfl, hkz⟩)
  replace HV := Lib.hid (HV.out.trans hkz)
  clear hkz
  refine soloP HV.out ?_
  rw [wpPlan_read]
  simp only [pickOps_cons, pickOps_nil, consO_some, List.getElem?_cons_zero, List.getElem?_cons_succ]
  repeat (go_big_quiet_step (fail))
  refine wpQuiet_nil ?_
  rw [wpPlan_one]
  simp only [pickOps_cons, pickOps_nil, consO_some, List.getElem?_cons_zero, List.getElem?_cons_succ]
  go_wp2_with (go_at_call 20; refine (c_l1 _ _ _ (HP1.out.kept HV.out)).mono ?_; rintro e v2 ⟨rfl, hkz⟩)
  replace HV := Lib.hid (HV.out.trans hkz)
  clear hkz
  refine soloP HV.out ?_
  rw [wpPlan_read]
  simp only [pickOps_cons, pickOps_nil, consO_some, List.getElem?_cons_zero, List.getElem?_cons_succ]
  repeat (go_big_quiet_step (fail))
  refine wpQuiet_nil ?_
  rw [wpPlan_one]
  simp only [pickOps_cons, pickOps_nil, consO_some, List.getElem?_cons_zero, List.getElem?_cons_succ]
  go_wp2_with (go_at_call 18; refine (c_r2 _ _ _ (HP2.out.kept HV.out)).mono ?_; rintro e v3 ⟨rfl, hkz⟩)
  replace HV := Lib.hid (HV.out.trans hkz)
  clear hkz
  refine soloP HV.out ?_
  rw [wpPlan_read]
  simp only [pickOps_cons, pickOps_nil, consO_some, List.getElem?_cons_zero, List.getElem?_cons_succ]
  repeat (go_big_quiet_step (fail))
  refine wpQuiet_nil ?_
  rw [wpPlan_one]
  simp only [pickOps_cons, pickOps_nil, consO_some, List.getElem?_cons_zero, List.getElem?_cons_succ]
  go_wp2_with (go_at_call 20; refine (c_l2 _ _ _ (HP2.out.kept HV.out)).mono ?_; rintro e v4 ⟨rfl, hkz⟩)
  replace HV := Lib.hid (HV.out.trans hkz)
  clear hkz
  refine soloP HV.out ?_
  rw [wpPlan_read]
  simp only [pickOps_cons, pickOps_nil, consO_some, List.getElem?_cons_zero, List.getElem?_cons_succ]
  repeat (go_big_quiet_step (fail))
  refine wpQuiet_nil ?_
  rw [wpPlan_one]
  simp only [pickOps_cons, pickOps_nil, consO_some, List.getElem?_cons_zero, List.getElem?_cons_succ]
  go_wp2_with (go_at_call 18; refine (c_r3 _ _ _ (HP2.out.kept HV.out)).mono ?_; rintro e v5 ⟨rfl, hkz⟩)
  replace HV := Lib.hid (HV.out.trans hkz)
  clear hkz
  refine soloP HV.out ?_
  rw [wpPlan_read]
  simp only [pickOps_cons, pickOps_nil, consO_some, List.getElem?_cons_zero, List.getElem?_cons_succ]
  repeat (go_big_quiet_step (fail))
  refine wpQuiet_nil ?_
  rw [wpPlan_one]
  simp only [pickOps_cons, pickOps_nil, consO_some, List.getElem?_cons_zero, List.getElem?_cons_succ]
  go_wp2_with (go_at_call 16; refine (c_turn _ _ _ (HP2.out.kept HV.out)).mono ?_; rintro e v6 ⟨AQ6, cq6, rfl, hpq, hkz⟩)
  have HPQ := Lib.hid hpq
  clear hpq
  replace HV := Lib.hid (HV.out.trans hkz)
  clear hkz
  refine soloP HV.out ?_
  rw [wpPlan_one]
  simp only [pickOps_cons, pickOps_nil, consO_some, List.getElem?_cons_zero, List.getElem?_cons_succ]
  go_wp2_with (go_at_call 18; refine (c_r4 _ _ _ HPQ.out).mono ?_; rintro e v7 ⟨rfl, hkz⟩)
  clear HPQ
  replace HV := Lib.hid (HV.out.trans hkz)
  clear hkz
  refine soloP HV.out ?_
  rw [wpPlan_read]
  simp only [pickOps_cons, pickOps_nil, consO_some, List.getElem?_cons_zero, List.getElem?_cons_succ]
  repeat (go_big_quiet_step (fail))
  refine wpQuiet_nil ?_
  rw [wpPlan_one]
  simp only [pickOps_cons, pickOps_nil, consO_some, List.getElem?_cons_zero, List.getElem?_cons_succ]
  go_wp2_with (go_at_call 18; refine (c_r5 _ _ _ (HP2.out.kept HV.out)).mono ?_; rintro e v8 ⟨rfl, hkz⟩)
  replace HV := Lib.hid (HV.out.trans hkz)
  clear hkz
  refine soloP HV.out ?_
  rw [wpPlan_read]
  simp only [pickOps_cons, pickOps_nil, consO_some, List.getElem?_cons_zero, List.getElem?_cons_succ]
  repeat (go_big_quiet_step (fail))
  refine wpQuiet_nil ?_
  rw [wpPlan_one]
  simp only [pickOps_cons, pickOps_nil, consO_some, List.getElem?_cons_zero, List.getElem?_cons_succ]
  go_wp2_with (go_at_call 26; refine (hint_any 2 _).mono ?_; rintro e v9 ⟨rfl, hkz⟩)
  replace HV := Lib.hid (HV.out.trans hkz)
  clear hkz
  refine soloP HV.out ?_
  rw [wpPlan_one]
  simp only [pickOps_cons, pickOps_nil, consO_some, List.getElem?_cons_zero, List.getElem?_cons_succ]
  go_wp2_with (go_at_call 12; refine (c_a1 _ _ _ (HP1.out.kept HV.out)).mono ?_; rintro e v10 ⟨rfl, hkz⟩)
  replace HV := Lib.hid (HV.out.trans hkz)
  clear hkz
  refine soloP HV.out ?_
  rw [wpPlan_one]
  simp only [pickOps_cons, pickOps_nil, consO_some, List.getElem?_cons_zero, List.getElem?_cons_succ]
  go_wp2_with (go_at_call 26; refine (hint_any 1 _).mono ?_; rintro e v11 ⟨rfl, hkz⟩)
  replace HV := Lib.hid (HV.out.trans hkz)
  clear hkz
  refine soloP HV.out ?_
  rw [wpPlan_read]
  simp only [pickOps_cons, pickOps_nil, consO_some, List.getElem?_cons_zero, List.getElem?_cons_succ]
  repeat (go_big_quiet_step (fail))
  refine wpQuiet_nil ?_
  rw [wpPlan_one]
  simp only [pickOps_cons, pickOps_nil, consO_some, List.getElem?_cons_zero, List.getElem?_cons_succ]
  go_wp2_with (go_at_call 26; refine (hint_any 5 _).mono ?_; rintro e v12 ⟨rfl, hkz⟩)
  replace HV := Lib.hid (HV.out.trans hkz)
  clear hkz
  refine soloP HV.out ?_
  rw [wpPlan_one]
  simp only [pickOps_cons, pickOps_nil, consO_some, List.getElem?_cons_zero, List.getElem?_cons_succ]
  go_wp2_with (go_at_call 12; refine (c_a2 _ _ _ (HP1.out.kept HV.out)).mono ?_; rintro e v13 ⟨rfl, hkz⟩)
  replace HV := Lib.hid (HV.out.trans hkz)
  clear hkz
  refine soloP HV.out ?_
  rw [wpPlan_one]
  simp only [pickOps_cons, pickOps_nil, consO_some, List.getElem?_cons_zero, List.getElem?_cons_succ]
  go_wp2_with (go_at_call 26; refine (hint_any 5 _).mono ?_; rintro e v14 ⟨rfl, hkz⟩)
  replace HV := Lib.hid (HV.out.trans hkz)
  clear hkz
  refine soloP HV.out ?_
  rw [wpPlan_read]
  simp only [pickOps_cons, pickOps_nil, consO_some, List.getElem?_cons_zero, List.getElem?_cons_succ]
  repeat (go_big_quiet_step (fail))
  refine wpQuiet_nil ?_
  rw [wpPlan_one]
  simp only [pickOps_cons, pickOps_nil, consO_some, List.getElem?_cons_zero, List.getElem?_cons_succ]
  go_wp2_with (go_at_call 26; refine (hint_any 9 _).mono ?_; rintro e v15 ⟨rfl, hkz⟩)
  replace HV := Lib.hid (HV.out.trans hkz)
  clear hkz
  refine soloP HV.out ?_
  rw [wpPlan_one]
  simp only [pickOps_cons, pickOps_nil, consO_some, List.getElem?_cons_zero, List.getElem?_cons_succ]
  go_wp2_with (go_at_call 12; refine (c_a3 _ _ _ (HP2.out.kept HV.out)).mono ?_; rintro e v16 ⟨rfl, hkz⟩)
  replace HV := Lib.hid (HV.out.trans hkz)
  clear hkz
  refine soloP HV.out ?_
  rw [wpPlan_one]
  simp only [pickOps_cons, pickOps_nil, consO_some, List.getElem?_cons_zero, List.getElem?_cons_succ]
  go_wp2_with fail
  refine soloP HV.out ?_
  rw [wpPlan_read]
  simp only [pickOps_cons, pickOps_nil, consO_some, List.getElem?_cons_zero, List.getElem?_cons_succ]
  repeat (go_big_quiet_step (fail))
  refine wpQuiet_nil ?_
  rw [wpPlan_one]
  simp only [pickOps_cons, pickOps_nil, consO_some, List.getElem?_cons_zero, List.getElem?_cons_succ]
  go_wp2_with (go_at_call 14; refine (c_b1 _ _ _ (HP2.out.kept HV.out)).mono ?_; rintro e v17 ⟨rfl, hkz⟩)
  replace HV := Lib.hid (HV.out.trans hkz)
  clear hkz
  refine soloP HV.out ?_
  rw [wpPlan_one]
  simp only [pickOps_cons, pickOps_nil, consO_some, List.getElem?_cons_zero, List.getElem?_cons_succ]
  go_wp2_with (go_at_call 26; refine (hint_any 1 _).mono ?_; rintro e v18 ⟨rfl, hkz⟩)
  replace HV := Lib.hid (HV.out.trans hkz)
  clear hkz
  refine soloP HV.out ?_
  rw [wpPlan_read]
  simp only [pickOps_cons, pickOps_nil, consO_some, List.getElem?_cons_zero, List.getElem?_cons_succ]
  repeat (go_big_quiet_step (fail))
  refine wpQuiet_nil ?_
  rw [wpPlan_one]
  simp only [pickOps_cons, pickOps_nil, consO_some, List.getElem?_cons_zero, List.getElem?_cons_succ]
  go_wp2_with (go_at_call 14; refine (c_b2 _ _ _ (HP2.out.kept HV.out)).mono ?_; rintro e v19 ⟨rfl, hkz⟩)
  replace HV := Lib.hid (HV.out.trans hkz)
  clear hkz
  refine soloP HV.out ?_
  rw [wpPlan_one]
  simp only [pickOps_cons, pickOps_nil, consO_some, List.getElem?_cons_zero, List.getElem?_cons_succ]
  go_wp2_with (go_at_call 26; refine (hint_any 0 _).mono ?_; rintro e v20 ⟨rfl, hkz⟩)
  replace HV := Lib.hid (HV.out.trans hkz)
  clear hkz
  refine soloP HV.out ?_
  rw [wpPlan_read]
  simp only [pickOps_cons, pickOps_nil, consO_some, List.getElem?_cons_zero, List.getElem?_cons_succ]
  repeat (go_big_quiet_step (fail))
  refine wpQuiet_nil ?_
  rw [wpPlan_one]
  simp only [pickOps_cons, pickOps_nil, consO_some, List.getElem?_cons_zero, List.getElem?_cons_succ]
  go_wp2_with (go_at_call 16; refine (c_turn _ _ _ (HP2.out.kept HV.out)).mono ?_; rintro e v21 ⟨AQ21, cq21, rfl, hpq, hkz⟩)
  have HPQ := Lib.hid hpq
  clear hpq
  replace HV := Lib.hid (HV.out.trans hkz)
  clear hkz
  refine soloP HV.out ?_
  rw [wpPlan_one]
  simp only [pickOps_cons, pickOps_nil, consO_some, List.getElem?_cons_zero, List.getElem?_cons_succ]
  go_wp2_with (go_at_call 12; refine (c_t1 _ _ _ HPQ.out).mono ?_; rintro e v22 ⟨rfl, hkz⟩)
  clear HPQ
  replace HV := Lib.hid (HV.out.trans hkz)
  clear hkz
  refine soloP HV.out ?_
  rw [wpPlan_one]
  simp only [pickOps_cons, pickOps_nil, consO_some, List.getElem?_cons_zero, List.getElem?_cons_succ]
  go_wp2_with (go_at_call 26; refine (hint_any 1 _).mono ?_; rintro e v23 ⟨rfl, hkz⟩)
  replace HV := Lib.hid (HV.out.trans hkz)
  clear hkz
  refine soloP HV.out ?_
  rw [wpPlan_read]
  simp only [pickOps_cons, pickOps_nil, consO_some, List.getElem?_cons_zero, List.getElem?_cons_succ]
  repeat (go_big_quiet_step (fail))
  refine wpQuiet_nil ?_
  rw [wpPlan_one]
  simp only [pickOps_cons, pickOps_nil, consO_some, List.getElem?_cons_zero, List.getElem?_cons_succ]
  go_wp2_with (go_at_call 24; refine (c_same _ _ _ _ _ (HP4.out.kept HV.out) (HP2.out.kept HV.out)).mono ?_; rintro e v24 ⟨rfl, hkz⟩)
  replace HV := Lib.hid (HV.out.trans hkz)
  clear hkz
  refine soloP HV.out ?_
  rw [wpPlan_read]
  simp only [pickOps_cons, pickOps_nil, consO_some, List.getElem?_cons_zero, List.getElem?_cons_succ]
  repeat (go_big_quiet_step (fail))
  refine wpQuiet_nil ?_
  rw [wpPlan_one]
  simp only [pickOps_cons, pickOps_nil, consO_some, List.getElem?_cons_zero, List.getElem?_cons_succ]
  go_wp2_with (go_at_call 24; refine (c_other _ _ _ _ _ (HP2.out.kept HV.out) (HP2.out.kept HV.out)).mono ?_; rintro e v25 ⟨rfl, hkz⟩)
  replace HV := Lib.hid (HV.out.trans hkz)
  clear hkz
  refine soloP HV.out ?_
  rw [wpPlan_read]
  simp only [pickOps_cons, pickOps_nil, consO_some, List.getElem?_cons_zero, List.getElem?_cons_succ]
  repeat (go_big_quiet_step (fail))
  refine wpQuiet_nil ?_
  refine wpPlan_stop ?_
  clear t10 t11 t12 t13 t14 t15 t16 t17 t18
  clear t20 t21 t22 t23 t24 t25 t26 t27 t28
  clear t30 t31 t32 t33 t34 t35 t36 t37 t38
  clear t40 t41 t42 t43 t44 t45 t46 t47 t48
  go_wp2_with fail
  go_ret
  exact ⟨rfl, HW.out.trans HV.out⟩
end Go.Proofs.YtjcnjmlgedmmoaaDoor

namespace Go.Proofs.YtjcnjmlgedmmoaaDoor
open Go.RowKit
set_option linter.unusedVariables false

structure CasB (w : World) (bl : Nat) (v : Va) (a b : Int) : Prop where
  c0 : w.cell? ⟨bl, 0, none⟩ = some (.int .i64 v.k)
  c1 : w.cell? ⟨bl, 1, none⟩ = some (.int .i64 v.n)
  c2 : w.cell? ⟨bl, 2, none⟩ = some (.string v.t)
  c3 : w.cell? ⟨bl, 3, none⟩ = some (.int .i64 a)
  c4 : w.cell? ⟨bl, 4, none⟩ = some (.int .i64 b)
theorem CasB.kept {w w' : World} {bl : Nat} {v : Va} {a b : Int} (h : CasB w bl v a b) (hg : Kept w w') : CasB w' bl v a b :=
  ⟨hg.cell h.c0, hg.cell h.c1, hg.cell h.c2, hg.cell h.c3, hg.cell h.c4⟩
theorem CasB.new (w : World) (v : Va) (a b : Int) (ty : TypeId) : CasB (w.alloc (.cells #[.int .i64 v.k, .int .i64 v.n, .string v.t, .int .i64 a, .int .i64 b] ty)) w.heap.size v a b :=
  ⟨(Kept.refl _).box 0 _ rfl, (Kept.refl _).box 1 _ rfl, (Kept.refl _).box 2 _ rfl, (Kept.refl _).box 3 _ rfl, (Kept.refl _).box 4 _ rfl⟩
theorem VaO.set {w : World} {b : Nat} {x : Va} (h : VaO w b x) (v : Va) : VaO (((w.setCell ⟨b, 0, none⟩ (.int .i64 v.k)).setCell ⟨b, 1, none⟩ (.int .i64 v.n)).setCell ⟨b, 2, none⟩ (.string v.t)) b v :=
  ⟨cell_beside (by decide) (cell_beside (by decide) (World.cell?_setCell_same _ _ _ h.c0)), cell_beside (by decide) (World.cell?_setCell_same _ _ _ (cell_beside (by decide) h.c1)), World.cell?_setCell_same _ _ _ (cell_beside (by decide) (cell_beside (by decide) h.c2)),
   fun j => by rw [World.frozen?_setCell, World.frozen?_setCell, World.frozen?_setCell]; exact h.f j, by have := h.lt; simpa [World.setCell] using this⟩
theorem VaO.far {w : World} {b : Nat} {x : Va} (h : VaO w b x) (b' : Nat) (hb : b' ≠ b) (v : Va) : VaO (((w.setCell ⟨b', 0, none⟩ (.int .i64 v.k)).setCell ⟨b', 1, none⟩ (.int .i64 v.n)).setCell ⟨b', 2, none⟩ (.string v.t)) b x :=
  ⟨cell_off hb (cell_off hb (cell_off hb h.c0)), cell_off hb (cell_off hb (cell_off hb h.c1)), cell_off hb (cell_off hb (cell_off hb h.c2)),
   fun j => by rw [World.frozen?_setCell, World.frozen?_setCell, World.frozen?_setCell]; exact h.f j, by have := h.lt; simpa [World.setCell] using this⟩
theorem vrightK (v : Va) (b : Bool) (h : rightVa v = b) (hs : v.t.size ≤ 1099511627776) (w : World) :
    Calls Tryd.prog 25 #[.agg #[.int .i64 v.k, .int .i64 v.n, .string v.t]] w fun e w' => e = .returned (.bool b) ∧ Kept w w' :=
  (vright_c v.k v.n v.t b h w (by omega)).mono fun _ _ ⟨he, hg⟩ => ⟨he, kept_of hg⟩
theorem right_size {v : Va} (h : rightVa v = true) : v.t.size ≤ 200 := by
  unfold rightVa rightB at h
  rw [decide_eq_true_iff] at h
  omega
end Go.Proofs.YtjcnjmlgedmmoaaDoor

