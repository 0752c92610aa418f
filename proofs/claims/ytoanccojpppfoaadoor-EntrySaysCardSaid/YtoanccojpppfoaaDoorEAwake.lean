/-
  What is proved: the helper 'awake' of layer 7's laws returns true, where the laid tables read as their initialisers lay them; the world has new blocks at most.
-/
import Derived.Test.YtoanccojpppfoaaDoorM5
import Derived.Test.YtoanccojpppfoaaDoorM4
import Derived.Test.YtoanccojpppfoaaDoorEText
namespace Go.Proofs.YtoanccojpppfoaaDoor
open Go.RowKit

def x0 : En := ⟨(1, 2), ⟨#[97, 47, 98]⟩, 1, 1, 5, ⟨#[]⟩, (0, 0)⟩
def x1 : En := ⟨(1, 2), ⟨#[97, 47, 98]⟩, 0, 1, 5, ⟨#[]⟩, (0, 0)⟩
def x3 : En := ⟨(1, 2), ⟨#[97, 47, 98]⟩, 3, 2, 0, ⟨#[]⟩, (0, 0)⟩
theorem enB_small (x : En) (h : (-1000 ≤ x.d.1 ∧ x.d.1 ≤ 1000 ∧ -1000 ≤ x.d.2 ∧ x.d.2 ≤ 1000) ∧ (-1000 ≤ x.vn ∧ x.vn ≤ 1000) ∧ (-1000 ≤ x.e.1 ∧ x.e.1 ≤ 1000 ∧ -1000 ≤ x.e.2 ∧ x.e.2 ≤ 1000)) : EnB x := by
  obtain ⟨⟨a1, a2, a3, a4⟩, ⟨b1, b2⟩, ⟨c1, c2, c3, c4⟩⟩ := h
  exact ⟨by omega, by omega, by omega, by omega, by omega, by omega, by omega, by omega, by omega, by omega⟩
theorem b0 : EnB x0 := enB_small _ (by decide)
theorem b1 : EnB x1 := enB_small _ (by decide)
theorem r0 : rightE x0 = true := by kernel_rfl
theorem r3n : rightE x3 = false := by kernel_rfl
theorem rn : rightE .none = false := by kernel_rfl
theorem p0 : putE ⟨#[]⟩ x0 = ⟨#[2, 4, 3, 97, 47, 98, 1, 1, 10, 0, 0]⟩ := by kernel_rfl
theorem p1 : putE ⟨#[]⟩ x1 = ⟨#[2, 4, 3, 97, 47, 98, 0, 1, 10, 0, 0]⟩ := by kernel_rfl
theorem q0 : teL ⟨#[2, 4, 3, 97, 47, 98, 1, 1, 10, 0, 0, 122]⟩ = (x0, ⟨#[122]⟩, 0) := by
  have := te_fore r0 b0.v1 b0.v2 ⟨#[122]⟩
  rw [p0] at this
  exact this
theorem q1 : teE ⟨#[2, 4, 3, 97, 47, 98, 0, 1, 10, 0, 0]⟩ = 3 := by kernel_rfl
theorem te_bad {s : ByteArray} (h : teE s = 3) : teL s = (.none, ⟨#[]⟩, 3) := by
  by_cases h1 : errE s = 0
  · by_cases h2 : tkN (r2 s) ≤ 3 ∧ rightE (enK s (tkN (r2 s))) = true
    · have hL : teL s = (enK s (tkN (r2 s)), r5 s, 0) := by
        unfold teL
        rw [if_neg (by omega), if_pos h2]
      have := (te_of hL).2.2
      omega
    · exact te_form s h1 h2
  · have hL := te_err s h1
    have := (te_of hL).2.2
    rw [hL]
    rw [show errE s = 3 by omega]
theorem t0 : textE x0 = ⟨#[49, 46, 50, 32, 97, 47, 98, 61, 53, 64, 48, 46, 48]⟩ := by
  unfold textE textD textV markE itoaS x0
  simp only
  rw [show (1 : Int) = ((1 : Nat) : Int) from rfl, show (2 : Int) = ((2 : Nat) : Int) from rfl, show (5 : Int) = ((5 : Nat) : Int) from rfl, show (0 : Int) = ((0 : Nat) : Int) from rfl]
  rw [Lib.itoa_nonneg, Lib.itoa_nonneg, Lib.itoa_nonneg, Lib.itoa_nonneg, Lib.decDigits_one (by decide), Lib.decDigits_one (by decide), Lib.decDigits_one (by decide), Lib.decDigits_one (by decide)]
  rfl

set_option maxRecDepth 100000 in
set_option maxHeartbeats 16000000 in
theorem eawake_any (w : World) (hl : LaidE w) :
    Calls Tryd.prog 6 #[] w fun e w' => e = .returned (.bool true) ∧ Kept w w' := by
  have HLW := Lib.hid hl
  have A1 := Lib.hid (fun w => eput_c ⟨#[]⟩ x0 _ p0 b0 w (by decide) (by decide) (by decide))
  have A2 := Lib.hid (fun w => etake_c ⟨#[2, 4, 3, 97, 47, 98, 1, 1, 10, 0, 0, 122]⟩ x0 ⟨#[122]⟩ 0 (te_of q0).1 (te_of q0).2.1 (by rw [(te_of q0).2.2]; rfl) (by decide) w)
  have A3 := Lib.hid (fun w => eput_c ⟨#[]⟩ x1 _ p1 b1 w (by decide) (by decide) (by decide))
  have A4 := Lib.hid (fun w => etake_c ⟨#[2, 4, 3, 97, 47, 98, 0, 1, 10, 0, 0]⟩ .none ⟨#[]⟩ 3 (te_of (te_bad q1)).1 (te_of (te_bad q1)).2.1 (by rw [(te_of (te_bad q1)).2.2]; rfl) (by decide) w)
  have A5 := Lib.hid (fun w hl => etext_c x0 _ t0 b0 w (by decide) (by decide) hl)
  have A6 := Lib.hid (fun w => eright_c x0 true r0 w (by decide) (by decide))
  have A7 := Lib.hid (fun w => eright_c x3 false r3n w (by decide) (by decide))
  have A8 := Lib.hid (fun w => ecmp_c x0 x1 0 (by decide) w)
  have A9 := Lib.hid (fun w => eright_c .none false rn w (by decide) (by decide))
  simp only [x0, x1, x3, En.none] at A1 A2 A3 A4 A5 A6 A7 A8 A9
  clear hl
  have E0 := Lib.hid (Ent.new w x0 27)
  have K0 := Lib.hid ((Kept.refl w).alloc #[.int .i64 1, .int .i64 2, .string ⟨#[97, 47, 98]⟩, .int .i64 1, .int .i64 1, .int .i64 5, .string ⟨#[]⟩, .int .i64 0, .int .i64 0] 27)
  have s0 : w.heap.size < (w.alloc (.cells #[.int .i64 1, .int .i64 2, .string ⟨#[97, 47, 98]⟩, .int .i64 1, .int .i64 1, .int .i64 5, .string ⟨#[]⟩, .int .i64 0, .int .i64 0] 27)).heap.size := (by simp)
  go_enter Tryd.func6, Tryd.ntmps6
  go_wp2_with fail
  go_at_call 13
  refine (A1.out _).mono ?_
  rintro e w1 ⟨rfl, hg⟩
  have E1 := Lib.hid (E0.out.kept hg)
  have K1 := Lib.hid (K0.out.trans hg)
  replace s0 : w.heap.size < w1.heap.size := lt_kept hg s0
  clear hg
  go_wp2_with fail
  go_at_call 7
  refine (A2.out _).mono ?_
  rintro e w2 ⟨rfl, hg⟩
  have E2 := Lib.hid (E1.out.kept hg)
  have K2 := Lib.hid (K1.out.trans hg)
  replace s0 : w.heap.size < w2.heap.size := lt_kept hg s0
  clear hg
  have n1 : ¬ w.heap.size = w2.heap.size := (by omega)
  have n2 : ¬ w2.heap.size = w.heap.size := (by omega)
  have n3 : ¬ w.heap.size = w2.heap.size + 1 := (by omega)
  have n4 : ¬ w2.heap.size + 1 = w.heap.size := (by omega)
  have u0 : w2.cell? ⟨w.heap.size, 0, none⟩ = some (.int .i64 1) := E2.out.c0
  have u1 : w2.cell? ⟨w.heap.size, 1, none⟩ = some (.int .i64 2) := E2.out.c1
  have u2 : w2.cell? ⟨w.heap.size, 2, none⟩ = some (.string ⟨#[97, 47, 98]⟩) := E2.out.c2
  have u3 : w2.cell? ⟨w.heap.size, 3, none⟩ = some (.int .i64 1) := E2.out.c3
  have u4 : w2.cell? ⟨w.heap.size, 4, none⟩ = some (.int .i64 1) := E2.out.c4
  have u5 : w2.cell? ⟨w.heap.size, 5, none⟩ = some (.int .i64 5) := E2.out.c5
  have u6 : w2.cell? ⟨w.heap.size, 6, none⟩ = some (.string ⟨#[]⟩) := E2.out.c6
  have u7 : w2.cell? ⟨w.heap.size, 7, none⟩ = some (.int .i64 0) := E2.out.c7
  have u8 : w2.cell? ⟨w.heap.size, 8, none⟩ = some (.int .i64 0) := E2.out.c8
  go_wp2_with fail
  go_at_call 13
  refine (A3.out _).mono ?_
  rintro e w3 ⟨rfl, hg⟩
  have hg2 := (((Kept.refl w2).alloc #[.int .i64 1, .int .i64 2, .string ⟨#[97, 47, 98]⟩, .int .i64 1, .int .i64 1, .int .i64 5, .string ⟨#[]⟩, .int .i64 0, .int .i64 0] 27).alloc #[.int .i64 1, .int .i64 2, .string ⟨#[97, 47, 98]⟩, .int .i64 0, .int .i64 1, .int .i64 5, .string ⟨#[]⟩, .int .i64 0, .int .i64 0] 27).trans hg
  have Y3 := Lib.hid ((Ent.new w2 x0 27).kept (((Kept.refl _).alloc #[.int .i64 1, .int .i64 2, .string ⟨#[97, 47, 98]⟩, .int .i64 0, .int .i64 1, .int .i64 5, .string ⟨#[]⟩, .int .i64 0, .int .i64 0] 27).trans hg))
  have B3 := (Ent.new (w2.alloc (.cells #[.int .i64 1, .int .i64 2, .string ⟨#[97, 47, 98]⟩, .int .i64 1, .int .i64 1, .int .i64 5, .string ⟨#[]⟩, .int .i64 0, .int .i64 0] 27)) x1 27).kept hg
  rw [show (w2.alloc (.cells #[.int .i64 1, .int .i64 2, .string ⟨#[97, 47, 98]⟩, .int .i64 1, .int .i64 1, .int .i64 5, .string ⟨#[]⟩, .int .i64 0, .int .i64 0] 27)).heap.size = w2.heap.size + 1 by simp] at B3
  have B3 := Lib.hid B3
  have E3 := Lib.hid (E2.out.kept hg2)
  have K3 := Lib.hid (K2.out.trans hg2)
  replace s0 : w.heap.size < w3.heap.size := lt_kept hg2 s0
  have s2 : w2.heap.size + 1 < w3.heap.size := (by have := hg.2.2; simp at this; omega)
  clear hg hg2 n1 n2 n3 n4
  clear u0 u1 u2 u3 u4 u5 u6 u7 u8
  go_wp2_with fail
  go_at_call 7
  refine (A4.out _).mono ?_
  rintro e w4 ⟨rfl, hg⟩
  have Y4 := Lib.hid (Y3.out.kept hg)
  have B4 := Lib.hid (B3.out.kept hg)
  have E4 := Lib.hid (E3.out.kept hg)
  have K4 := Lib.hid (K3.out.trans hg)
  replace s0 : w.heap.size < w4.heap.size := lt_kept hg s0
  replace s2 : w2.heap.size + 1 < w4.heap.size := lt_kept hg s2
  clear hg E0 E1 E2 E3 Y3 B3 K0 K1 K2 K3
  have nww4 : ¬ w.heap.size = w4.heap.size := (by omega)
  have nww4' : ¬ w4.heap.size = w.heap.size := (by omega)
  have nww4p : ¬ w.heap.size = w4.heap.size + 1 := (by omega)
  have nww4p' : ¬ w4.heap.size + 1 = w.heap.size := (by omega)
  have nw2w4 : ¬ w2.heap.size = w4.heap.size := (by omega)
  have nw2w4' : ¬ w4.heap.size = w2.heap.size := (by omega)
  have nw2w4p : ¬ w2.heap.size = w4.heap.size + 1 := (by omega)
  have nw2w4p' : ¬ w4.heap.size + 1 = w2.heap.size := (by omega)
  have nw2pw4 : ¬ w2.heap.size + 1 = w4.heap.size := (by omega)
  have nw2pw4' : ¬ w4.heap.size = w2.heap.size + 1 := (by omega)
  have nw2pw4p : ¬ w2.heap.size + 1 = w4.heap.size + 1 := (by omega)
  have nw2pw4p' : ¬ w4.heap.size + 1 = w2.heap.size + 1 := (by omega)
  have b0 : w4.cell? ⟨w.heap.size, 0, none⟩ = some (.int .i64 1) := E4.out.c0
  have b1 : w4.cell? ⟨w.heap.size, 1, none⟩ = some (.int .i64 2) := E4.out.c1
  have b2 : w4.cell? ⟨w.heap.size, 2, none⟩ = some (.string ⟨#[97, 47, 98]⟩) := E4.out.c2
  have b3 : w4.cell? ⟨w.heap.size, 3, none⟩ = some (.int .i64 1) := E4.out.c3
  have b4 : w4.cell? ⟨w.heap.size, 4, none⟩ = some (.int .i64 1) := E4.out.c4
  have b5 : w4.cell? ⟨w.heap.size, 5, none⟩ = some (.int .i64 5) := E4.out.c5
  have b6 : w4.cell? ⟨w.heap.size, 6, none⟩ = some (.string ⟨#[]⟩) := E4.out.c6
  have b7 : w4.cell? ⟨w.heap.size, 7, none⟩ = some (.int .i64 0) := E4.out.c7
  have b8 : w4.cell? ⟨w.heap.size, 8, none⟩ = some (.int .i64 0) := E4.out.c8
  have K5 := Lib.hid (((Kept.refl w4).alloc #[.int .i64 0, .int .i64 0, .string ⟨#[]⟩, .int .i64 0, .int .i64 0, .int .i64 0, .string ⟨#[]⟩, .int .i64 0, .int .i64 0] 27).alloc #[.int .i64 1, .int .i64 2, .string ⟨#[97, 47, 98]⟩, .int .i64 3, .int .i64 2, .int .i64 0, .string ⟨#[]⟩, .int .i64 0, .int .i64 0] 27)
  have C5 := Ent.new (w4.alloc (.cells #[.int .i64 0, .int .i64 0, .string ⟨#[]⟩, .int .i64 0, .int .i64 0, .int .i64 0, .string ⟨#[]⟩, .int .i64 0, .int .i64 0] 27)) x3 27
  rw [show (w4.alloc (.cells #[.int .i64 0, .int .i64 0, .string ⟨#[]⟩, .int .i64 0, .int .i64 0, .int .i64 0, .string ⟨#[]⟩, .int .i64 0, .int .i64 0] 27)).heap.size = w4.heap.size + 1 by simp] at C5
  have C5 := Lib.hid C5
  have HL5 := Lib.hid (HLW.out.kept (K4.out.trans K5.out))
  have QE := E4.out.kept K5.out
  have QY := Y4.out.kept K5.out
  have u0 : ((w4.alloc (.cells #[.int .i64 0, .int .i64 0, .string ⟨#[]⟩, .int .i64 0, .int .i64 0, .int .i64 0, .string ⟨#[]⟩, .int .i64 0, .int .i64 0] 27)).alloc (.cells #[.int .i64 1, .int .i64 2, .string ⟨#[97, 47, 98]⟩, .int .i64 3, .int .i64 2, .int .i64 0, .string ⟨#[]⟩, .int .i64 0, .int .i64 0] 27)).cell? ⟨w.heap.size, 0, none⟩ = some (.int .i64 1) := QE.c0
  have u1 : ((w4.alloc (.cells #[.int .i64 0, .int .i64 0, .string ⟨#[]⟩, .int .i64 0, .int .i64 0, .int .i64 0, .string ⟨#[]⟩, .int .i64 0, .int .i64 0] 27)).alloc (.cells #[.int .i64 1, .int .i64 2, .string ⟨#[97, 47, 98]⟩, .int .i64 3, .int .i64 2, .int .i64 0, .string ⟨#[]⟩, .int .i64 0, .int .i64 0] 27)).cell? ⟨w.heap.size, 1, none⟩ = some (.int .i64 2) := QE.c1
  have u2 : ((w4.alloc (.cells #[.int .i64 0, .int .i64 0, .string ⟨#[]⟩, .int .i64 0, .int .i64 0, .int .i64 0, .string ⟨#[]⟩, .int .i64 0, .int .i64 0] 27)).alloc (.cells #[.int .i64 1, .int .i64 2, .string ⟨#[97, 47, 98]⟩, .int .i64 3, .int .i64 2, .int .i64 0, .string ⟨#[]⟩, .int .i64 0, .int .i64 0] 27)).cell? ⟨w.heap.size, 2, none⟩ = some (.string ⟨#[97, 47, 98]⟩) := QE.c2
  have u3 : ((w4.alloc (.cells #[.int .i64 0, .int .i64 0, .string ⟨#[]⟩, .int .i64 0, .int .i64 0, .int .i64 0, .string ⟨#[]⟩, .int .i64 0, .int .i64 0] 27)).alloc (.cells #[.int .i64 1, .int .i64 2, .string ⟨#[97, 47, 98]⟩, .int .i64 3, .int .i64 2, .int .i64 0, .string ⟨#[]⟩, .int .i64 0, .int .i64 0] 27)).cell? ⟨w.heap.size, 3, none⟩ = some (.int .i64 1) := QE.c3
  have u4 : ((w4.alloc (.cells #[.int .i64 0, .int .i64 0, .string ⟨#[]⟩, .int .i64 0, .int .i64 0, .int .i64 0, .string ⟨#[]⟩, .int .i64 0, .int .i64 0] 27)).alloc (.cells #[.int .i64 1, .int .i64 2, .string ⟨#[97, 47, 98]⟩, .int .i64 3, .int .i64 2, .int .i64 0, .string ⟨#[]⟩, .int .i64 0, .int .i64 0] 27)).cell? ⟨w.heap.size, 4, none⟩ = some (.int .i64 1) := QE.c4
  have u5 : ((w4.alloc (.cells #[.int .i64 0, .int .i64 0, .string ⟨#[]⟩, .int .i64 0, .int .i64 0, .int .i64 0, .string ⟨#[]⟩, .int .i64 0, .int .i64 0] 27)).alloc (.cells #[.int .i64 1, .int .i64 2, .string ⟨#[97, 47, 98]⟩, .int .i64 3, .int .i64 2, .int .i64 0, .string ⟨#[]⟩, .int .i64 0, .int .i64 0] 27)).cell? ⟨w.heap.size, 5, none⟩ = some (.int .i64 5) := QE.c5
  have u6 : ((w4.alloc (.cells #[.int .i64 0, .int .i64 0, .string ⟨#[]⟩, .int .i64 0, .int .i64 0, .int .i64 0, .string ⟨#[]⟩, .int .i64 0, .int .i64 0] 27)).alloc (.cells #[.int .i64 1, .int .i64 2, .string ⟨#[97, 47, 98]⟩, .int .i64 3, .int .i64 2, .int .i64 0, .string ⟨#[]⟩, .int .i64 0, .int .i64 0] 27)).cell? ⟨w.heap.size, 6, none⟩ = some (.string ⟨#[]⟩) := QE.c6
  have u7 : ((w4.alloc (.cells #[.int .i64 0, .int .i64 0, .string ⟨#[]⟩, .int .i64 0, .int .i64 0, .int .i64 0, .string ⟨#[]⟩, .int .i64 0, .int .i64 0] 27)).alloc (.cells #[.int .i64 1, .int .i64 2, .string ⟨#[97, 47, 98]⟩, .int .i64 3, .int .i64 2, .int .i64 0, .string ⟨#[]⟩, .int .i64 0, .int .i64 0] 27)).cell? ⟨w.heap.size, 7, none⟩ = some (.int .i64 0) := QE.c7
  have u8 : ((w4.alloc (.cells #[.int .i64 0, .int .i64 0, .string ⟨#[]⟩, .int .i64 0, .int .i64 0, .int .i64 0, .string ⟨#[]⟩, .int .i64 0, .int .i64 0] 27)).alloc (.cells #[.int .i64 1, .int .i64 2, .string ⟨#[97, 47, 98]⟩, .int .i64 3, .int .i64 2, .int .i64 0, .string ⟨#[]⟩, .int .i64 0, .int .i64 0] 27)).cell? ⟨w.heap.size, 8, none⟩ = some (.int .i64 0) := QE.c8
  have y0 : ((w4.alloc (.cells #[.int .i64 0, .int .i64 0, .string ⟨#[]⟩, .int .i64 0, .int .i64 0, .int .i64 0, .string ⟨#[]⟩, .int .i64 0, .int .i64 0] 27)).alloc (.cells #[.int .i64 1, .int .i64 2, .string ⟨#[97, 47, 98]⟩, .int .i64 3, .int .i64 2, .int .i64 0, .string ⟨#[]⟩, .int .i64 0, .int .i64 0] 27)).cell? ⟨w2.heap.size, 0, none⟩ = some (.int .i64 1) := QY.c0
  have y1 : ((w4.alloc (.cells #[.int .i64 0, .int .i64 0, .string ⟨#[]⟩, .int .i64 0, .int .i64 0, .int .i64 0, .string ⟨#[]⟩, .int .i64 0, .int .i64 0] 27)).alloc (.cells #[.int .i64 1, .int .i64 2, .string ⟨#[97, 47, 98]⟩, .int .i64 3, .int .i64 2, .int .i64 0, .string ⟨#[]⟩, .int .i64 0, .int .i64 0] 27)).cell? ⟨w2.heap.size, 1, none⟩ = some (.int .i64 2) := QY.c1
  have y2 : ((w4.alloc (.cells #[.int .i64 0, .int .i64 0, .string ⟨#[]⟩, .int .i64 0, .int .i64 0, .int .i64 0, .string ⟨#[]⟩, .int .i64 0, .int .i64 0] 27)).alloc (.cells #[.int .i64 1, .int .i64 2, .string ⟨#[97, 47, 98]⟩, .int .i64 3, .int .i64 2, .int .i64 0, .string ⟨#[]⟩, .int .i64 0, .int .i64 0] 27)).cell? ⟨w2.heap.size, 2, none⟩ = some (.string ⟨#[97, 47, 98]⟩) := QY.c2
  have y3 : ((w4.alloc (.cells #[.int .i64 0, .int .i64 0, .string ⟨#[]⟩, .int .i64 0, .int .i64 0, .int .i64 0, .string ⟨#[]⟩, .int .i64 0, .int .i64 0] 27)).alloc (.cells #[.int .i64 1, .int .i64 2, .string ⟨#[97, 47, 98]⟩, .int .i64 3, .int .i64 2, .int .i64 0, .string ⟨#[]⟩, .int .i64 0, .int .i64 0] 27)).cell? ⟨w2.heap.size, 3, none⟩ = some (.int .i64 1) := QY.c3
  have y4 : ((w4.alloc (.cells #[.int .i64 0, .int .i64 0, .string ⟨#[]⟩, .int .i64 0, .int .i64 0, .int .i64 0, .string ⟨#[]⟩, .int .i64 0, .int .i64 0] 27)).alloc (.cells #[.int .i64 1, .int .i64 2, .string ⟨#[97, 47, 98]⟩, .int .i64 3, .int .i64 2, .int .i64 0, .string ⟨#[]⟩, .int .i64 0, .int .i64 0] 27)).cell? ⟨w2.heap.size, 4, none⟩ = some (.int .i64 1) := QY.c4
  have y5 : ((w4.alloc (.cells #[.int .i64 0, .int .i64 0, .string ⟨#[]⟩, .int .i64 0, .int .i64 0, .int .i64 0, .string ⟨#[]⟩, .int .i64 0, .int .i64 0] 27)).alloc (.cells #[.int .i64 1, .int .i64 2, .string ⟨#[97, 47, 98]⟩, .int .i64 3, .int .i64 2, .int .i64 0, .string ⟨#[]⟩, .int .i64 0, .int .i64 0] 27)).cell? ⟨w2.heap.size, 5, none⟩ = some (.int .i64 5) := QY.c5
  have y6 : ((w4.alloc (.cells #[.int .i64 0, .int .i64 0, .string ⟨#[]⟩, .int .i64 0, .int .i64 0, .int .i64 0, .string ⟨#[]⟩, .int .i64 0, .int .i64 0] 27)).alloc (.cells #[.int .i64 1, .int .i64 2, .string ⟨#[97, 47, 98]⟩, .int .i64 3, .int .i64 2, .int .i64 0, .string ⟨#[]⟩, .int .i64 0, .int .i64 0] 27)).cell? ⟨w2.heap.size, 6, none⟩ = some (.string ⟨#[]⟩) := QY.c6
  have y7 : ((w4.alloc (.cells #[.int .i64 0, .int .i64 0, .string ⟨#[]⟩, .int .i64 0, .int .i64 0, .int .i64 0, .string ⟨#[]⟩, .int .i64 0, .int .i64 0] 27)).alloc (.cells #[.int .i64 1, .int .i64 2, .string ⟨#[97, 47, 98]⟩, .int .i64 3, .int .i64 2, .int .i64 0, .string ⟨#[]⟩, .int .i64 0, .int .i64 0] 27)).cell? ⟨w2.heap.size, 7, none⟩ = some (.int .i64 0) := QY.c7
  have y8 : ((w4.alloc (.cells #[.int .i64 0, .int .i64 0, .string ⟨#[]⟩, .int .i64 0, .int .i64 0, .int .i64 0, .string ⟨#[]⟩, .int .i64 0, .int .i64 0] 27)).alloc (.cells #[.int .i64 1, .int .i64 2, .string ⟨#[97, 47, 98]⟩, .int .i64 3, .int .i64 2, .int .i64 0, .string ⟨#[]⟩, .int .i64 0, .int .i64 0] 27)).cell? ⟨w2.heap.size, 8, none⟩ = some (.int .i64 0) := QY.c8
  clear QE QY
  go_wp2_with fail
  go_at_call 15
  refine (A5.out _ HL5.out).mono ?_
  rintro e w5 ⟨rfl, hg⟩
  have K6 := Lib.hid (K5.out.trans hg)
  have C6 := Lib.hid (C5.out.kept hg)
  clear hg
  clear u0 u1 u2 u3 u4 u5 u6 u7 u8 y0 y1 y2 y3 y4 y5 y6 y7 y8 b0 b1 b2 b3 b4 b5 b6 b7 b8
  have QE := E4.out.kept K6.out
  have QB := B4.out.kept K6.out
  have QC := C6.out
  have u0 : w5.cell? ⟨w.heap.size, 0, none⟩ = some (.int .i64 1) := QE.c0
  have u1 : w5.cell? ⟨w.heap.size, 1, none⟩ = some (.int .i64 2) := QE.c1
  have u2 : w5.cell? ⟨w.heap.size, 2, none⟩ = some (.string ⟨#[97, 47, 98]⟩) := QE.c2
  have u3 : w5.cell? ⟨w.heap.size, 3, none⟩ = some (.int .i64 1) := QE.c3
  have u4 : w5.cell? ⟨w.heap.size, 4, none⟩ = some (.int .i64 1) := QE.c4
  have u5 : w5.cell? ⟨w.heap.size, 5, none⟩ = some (.int .i64 5) := QE.c5
  have u6 : w5.cell? ⟨w.heap.size, 6, none⟩ = some (.string ⟨#[]⟩) := QE.c6
  have u7 : w5.cell? ⟨w.heap.size, 7, none⟩ = some (.int .i64 0) := QE.c7
  have u8 : w5.cell? ⟨w.heap.size, 8, none⟩ = some (.int .i64 0) := QE.c8
  have b0 : w5.cell? ⟨(w2.heap.size + 1), 0, none⟩ = some (.int .i64 1) := QB.c0
  have b1 : w5.cell? ⟨(w2.heap.size + 1), 1, none⟩ = some (.int .i64 2) := QB.c1
  have b2 : w5.cell? ⟨(w2.heap.size + 1), 2, none⟩ = some (.string ⟨#[97, 47, 98]⟩) := QB.c2
  have b3 : w5.cell? ⟨(w2.heap.size + 1), 3, none⟩ = some (.int .i64 0) := QB.c3
  have b4 : w5.cell? ⟨(w2.heap.size + 1), 4, none⟩ = some (.int .i64 1) := QB.c4
  have b5 : w5.cell? ⟨(w2.heap.size + 1), 5, none⟩ = some (.int .i64 5) := QB.c5
  have b6 : w5.cell? ⟨(w2.heap.size + 1), 6, none⟩ = some (.string ⟨#[]⟩) := QB.c6
  have b7 : w5.cell? ⟨(w2.heap.size + 1), 7, none⟩ = some (.int .i64 0) := QB.c7
  have b8 : w5.cell? ⟨(w2.heap.size + 1), 8, none⟩ = some (.int .i64 0) := QB.c8
  have c0 : w5.cell? ⟨(w4.heap.size + 1), 0, none⟩ = some (.int .i64 1) := QC.c0
  have c1 : w5.cell? ⟨(w4.heap.size + 1), 1, none⟩ = some (.int .i64 2) := QC.c1
  have c2 : w5.cell? ⟨(w4.heap.size + 1), 2, none⟩ = some (.string ⟨#[97, 47, 98]⟩) := QC.c2
  have c3 : w5.cell? ⟨(w4.heap.size + 1), 3, none⟩ = some (.int .i64 3) := QC.c3
  have c4 : w5.cell? ⟨(w4.heap.size + 1), 4, none⟩ = some (.int .i64 2) := QC.c4
  have c5 : w5.cell? ⟨(w4.heap.size + 1), 5, none⟩ = some (.int .i64 0) := QC.c5
  have c6 : w5.cell? ⟨(w4.heap.size + 1), 6, none⟩ = some (.string ⟨#[]⟩) := QC.c6
  have c7 : w5.cell? ⟨(w4.heap.size + 1), 7, none⟩ = some (.int .i64 0) := QC.c7
  have c8 : w5.cell? ⟨(w4.heap.size + 1), 8, none⟩ = some (.int .i64 0) := QC.c8
  clear QE QB QC
  go_wp2_with fail
  go_at_call 9
  refine (A6.out _).mono ?_
  rintro e w6 ⟨rfl, hg⟩
  have K7 := Lib.hid (K6.out.trans hg)
  have C7 := Lib.hid (C6.out.kept hg)
  clear hg
  clear u0 u1 u2 u3 u4 u5 u6 u7 u8 b0 b1 b2 b3 b4 b5 b6 b7 b8 c0 c1 c2 c3 c4 c5 c6 c7 c8
  have QE := E4.out.kept K7.out
  have QB := B4.out.kept K7.out
  have QC := C7.out
  have u0 : w6.cell? ⟨w.heap.size, 0, none⟩ = some (.int .i64 1) := QE.c0
  have u1 : w6.cell? ⟨w.heap.size, 1, none⟩ = some (.int .i64 2) := QE.c1
  have u2 : w6.cell? ⟨w.heap.size, 2, none⟩ = some (.string ⟨#[97, 47, 98]⟩) := QE.c2
  have u3 : w6.cell? ⟨w.heap.size, 3, none⟩ = some (.int .i64 1) := QE.c3
  have u4 : w6.cell? ⟨w.heap.size, 4, none⟩ = some (.int .i64 1) := QE.c4
  have u5 : w6.cell? ⟨w.heap.size, 5, none⟩ = some (.int .i64 5) := QE.c5
  have u6 : w6.cell? ⟨w.heap.size, 6, none⟩ = some (.string ⟨#[]⟩) := QE.c6
  have u7 : w6.cell? ⟨w.heap.size, 7, none⟩ = some (.int .i64 0) := QE.c7
  have u8 : w6.cell? ⟨w.heap.size, 8, none⟩ = some (.int .i64 0) := QE.c8
  have b0 : w6.cell? ⟨(w2.heap.size + 1), 0, none⟩ = some (.int .i64 1) := QB.c0
  have b1 : w6.cell? ⟨(w2.heap.size + 1), 1, none⟩ = some (.int .i64 2) := QB.c1
  have b2 : w6.cell? ⟨(w2.heap.size + 1), 2, none⟩ = some (.string ⟨#[97, 47, 98]⟩) := QB.c2
  have b3 : w6.cell? ⟨(w2.heap.size + 1), 3, none⟩ = some (.int .i64 0) := QB.c3
  have b4 : w6.cell? ⟨(w2.heap.size + 1), 4, none⟩ = some (.int .i64 1) := QB.c4
  have b5 : w6.cell? ⟨(w2.heap.size + 1), 5, none⟩ = some (.int .i64 5) := QB.c5
  have b6 : w6.cell? ⟨(w2.heap.size + 1), 6, none⟩ = some (.string ⟨#[]⟩) := QB.c6
  have b7 : w6.cell? ⟨(w2.heap.size + 1), 7, none⟩ = some (.int .i64 0) := QB.c7
  have b8 : w6.cell? ⟨(w2.heap.size + 1), 8, none⟩ = some (.int .i64 0) := QB.c8
  have c0 : w6.cell? ⟨(w4.heap.size + 1), 0, none⟩ = some (.int .i64 1) := QC.c0
  have c1 : w6.cell? ⟨(w4.heap.size + 1), 1, none⟩ = some (.int .i64 2) := QC.c1
  have c2 : w6.cell? ⟨(w4.heap.size + 1), 2, none⟩ = some (.string ⟨#[97, 47, 98]⟩) := QC.c2
  have c3 : w6.cell? ⟨(w4.heap.size + 1), 3, none⟩ = some (.int .i64 3) := QC.c3
  have c4 : w6.cell? ⟨(w4.heap.size + 1), 4, none⟩ = some (.int .i64 2) := QC.c4
  have c5 : w6.cell? ⟨(w4.heap.size + 1), 5, none⟩ = some (.int .i64 0) := QC.c5
  have c6 : w6.cell? ⟨(w4.heap.size + 1), 6, none⟩ = some (.string ⟨#[]⟩) := QC.c6
  have c7 : w6.cell? ⟨(w4.heap.size + 1), 7, none⟩ = some (.int .i64 0) := QC.c7
  have c8 : w6.cell? ⟨(w4.heap.size + 1), 8, none⟩ = some (.int .i64 0) := QC.c8
  clear QE QB QC
  go_wp2_with fail
  go_at_call 9
  refine (A7.out _).mono ?_
  rintro e w7 ⟨rfl, hg⟩
  have K8 := Lib.hid (K7.out.trans hg)
  have C8 := Lib.hid (C7.out.kept hg)
  clear hg
  clear u0 u1 u2 u3 u4 u5 u6 u7 u8 b0 b1 b2 b3 b4 b5 b6 b7 b8 c0 c1 c2 c3 c4 c5 c6 c7 c8
  have QE := E4.out.kept K8.out
  have QB := B4.out.kept K8.out
  have QC := C8.out
  have u0 : w7.cell? ⟨w.heap.size, 0, none⟩ = some (.int .i64 1) := QE.c0
  have u1 : w7.cell? ⟨w.heap.size, 1, none⟩ = some (.int .i64 2) := QE.c1
  have u2 : w7.cell? ⟨w.heap.size, 2, none⟩ = some (.string ⟨#[97, 47, 98]⟩) := QE.c2
  have u3 : w7.cell? ⟨w.heap.size, 3, none⟩ = some (.int .i64 1) := QE.c3
  have u4 : w7.cell? ⟨w.heap.size, 4, none⟩ = some (.int .i64 1) := QE.c4
  have u5 : w7.cell? ⟨w.heap.size, 5, none⟩ = some (.int .i64 5) := QE.c5
  have u6 : w7.cell? ⟨w.heap.size, 6, none⟩ = some (.string ⟨#[]⟩) := QE.c6
  have u7 : w7.cell? ⟨w.heap.size, 7, none⟩ = some (.int .i64 0) := QE.c7
  have u8 : w7.cell? ⟨w.heap.size, 8, none⟩ = some (.int .i64 0) := QE.c8
  have b0 : w7.cell? ⟨(w2.heap.size + 1), 0, none⟩ = some (.int .i64 1) := QB.c0
  have b1 : w7.cell? ⟨(w2.heap.size + 1), 1, none⟩ = some (.int .i64 2) := QB.c1
  have b2 : w7.cell? ⟨(w2.heap.size + 1), 2, none⟩ = some (.string ⟨#[97, 47, 98]⟩) := QB.c2
  have b3 : w7.cell? ⟨(w2.heap.size + 1), 3, none⟩ = some (.int .i64 0) := QB.c3
  have b4 : w7.cell? ⟨(w2.heap.size + 1), 4, none⟩ = some (.int .i64 1) := QB.c4
  have b5 : w7.cell? ⟨(w2.heap.size + 1), 5, none⟩ = some (.int .i64 5) := QB.c5
  have b6 : w7.cell? ⟨(w2.heap.size + 1), 6, none⟩ = some (.string ⟨#[]⟩) := QB.c6
  have b7 : w7.cell? ⟨(w2.heap.size + 1), 7, none⟩ = some (.int .i64 0) := QB.c7
  have b8 : w7.cell? ⟨(w2.heap.size + 1), 8, none⟩ = some (.int .i64 0) := QB.c8
  have c0 : w7.cell? ⟨(w4.heap.size + 1), 0, none⟩ = some (.int .i64 1) := QC.c0
  have c1 : w7.cell? ⟨(w4.heap.size + 1), 1, none⟩ = some (.int .i64 2) := QC.c1
  have c2 : w7.cell? ⟨(w4.heap.size + 1), 2, none⟩ = some (.string ⟨#[97, 47, 98]⟩) := QC.c2
  have c3 : w7.cell? ⟨(w4.heap.size + 1), 3, none⟩ = some (.int .i64 3) := QC.c3
  have c4 : w7.cell? ⟨(w4.heap.size + 1), 4, none⟩ = some (.int .i64 2) := QC.c4
  have c5 : w7.cell? ⟨(w4.heap.size + 1), 5, none⟩ = some (.int .i64 0) := QC.c5
  have c6 : w7.cell? ⟨(w4.heap.size + 1), 6, none⟩ = some (.string ⟨#[]⟩) := QC.c6
  have c7 : w7.cell? ⟨(w4.heap.size + 1), 7, none⟩ = some (.int .i64 0) := QC.c7
  have c8 : w7.cell? ⟨(w4.heap.size + 1), 8, none⟩ = some (.int .i64 0) := QC.c8
  clear QE QB QC
  go_wp2_with fail
  go_at_call 11
  refine (A8.out _).mono ?_
  rintro e w8 ⟨rfl, hg⟩
  have K9 := Lib.hid (K8.out.trans hg)
  have C9 := Lib.hid (C8.out.kept hg)
  clear hg
  clear u0 u1 u2 u3 u4 u5 u6 u7 u8 b0 b1 b2 b3 b4 b5 b6 b7 b8 c0 c1 c2 c3 c4 c5 c6 c7 c8
  have QE := E4.out.kept K9.out
  have QB := B4.out.kept K9.out
  have QC := C9.out
  have u0 : w8.cell? ⟨w.heap.size, 0, none⟩ = some (.int .i64 1) := QE.c0
  have u1 : w8.cell? ⟨w.heap.size, 1, none⟩ = some (.int .i64 2) := QE.c1
  have u2 : w8.cell? ⟨w.heap.size, 2, none⟩ = some (.string ⟨#[97, 47, 98]⟩) := QE.c2
  have u3 : w8.cell? ⟨w.heap.size, 3, none⟩ = some (.int .i64 1) := QE.c3
  have u4 : w8.cell? ⟨w.heap.size, 4, none⟩ = some (.int .i64 1) := QE.c4
  have u5 : w8.cell? ⟨w.heap.size, 5, none⟩ = some (.int .i64 5) := QE.c5
  have u6 : w8.cell? ⟨w.heap.size, 6, none⟩ = some (.string ⟨#[]⟩) := QE.c6
  have u7 : w8.cell? ⟨w.heap.size, 7, none⟩ = some (.int .i64 0) := QE.c7
  have u8 : w8.cell? ⟨w.heap.size, 8, none⟩ = some (.int .i64 0) := QE.c8
  have b0 : w8.cell? ⟨(w2.heap.size + 1), 0, none⟩ = some (.int .i64 1) := QB.c0
  have b1 : w8.cell? ⟨(w2.heap.size + 1), 1, none⟩ = some (.int .i64 2) := QB.c1
  have b2 : w8.cell? ⟨(w2.heap.size + 1), 2, none⟩ = some (.string ⟨#[97, 47, 98]⟩) := QB.c2
  have b3 : w8.cell? ⟨(w2.heap.size + 1), 3, none⟩ = some (.int .i64 0) := QB.c3
  have b4 : w8.cell? ⟨(w2.heap.size + 1), 4, none⟩ = some (.int .i64 1) := QB.c4
  have b5 : w8.cell? ⟨(w2.heap.size + 1), 5, none⟩ = some (.int .i64 5) := QB.c5
  have b6 : w8.cell? ⟨(w2.heap.size + 1), 6, none⟩ = some (.string ⟨#[]⟩) := QB.c6
  have b7 : w8.cell? ⟨(w2.heap.size + 1), 7, none⟩ = some (.int .i64 0) := QB.c7
  have b8 : w8.cell? ⟨(w2.heap.size + 1), 8, none⟩ = some (.int .i64 0) := QB.c8
  have c0 : w8.cell? ⟨(w4.heap.size + 1), 0, none⟩ = some (.int .i64 1) := QC.c0
  have c1 : w8.cell? ⟨(w4.heap.size + 1), 1, none⟩ = some (.int .i64 2) := QC.c1
  have c2 : w8.cell? ⟨(w4.heap.size + 1), 2, none⟩ = some (.string ⟨#[97, 47, 98]⟩) := QC.c2
  have c3 : w8.cell? ⟨(w4.heap.size + 1), 3, none⟩ = some (.int .i64 3) := QC.c3
  have c4 : w8.cell? ⟨(w4.heap.size + 1), 4, none⟩ = some (.int .i64 2) := QC.c4
  have c5 : w8.cell? ⟨(w4.heap.size + 1), 5, none⟩ = some (.int .i64 0) := QC.c5
  have c6 : w8.cell? ⟨(w4.heap.size + 1), 6, none⟩ = some (.string ⟨#[]⟩) := QC.c6
  have c7 : w8.cell? ⟨(w4.heap.size + 1), 7, none⟩ = some (.int .i64 0) := QC.c7
  have c8 : w8.cell? ⟨(w4.heap.size + 1), 8, none⟩ = some (.int .i64 0) := QC.c8
  clear QE QB QC
  go_wp2_with fail
  go_at_call 9
  refine (A9.out _).mono ?_
  rintro e w9 ⟨rfl, hg⟩
  have K10 := Lib.hid (K9.out.trans hg)
  have C10 := Lib.hid (C9.out.kept hg)
  clear hg
  clear u0 u1 u2 u3 u4 u5 u6 u7 u8 b0 b1 b2 b3 b4 b5 b6 b7 b8 c0 c1 c2 c3 c4 c5 c6 c7 c8
  go_wp2_with fail
  go_ret
  exact ⟨rfl, K4.out.trans K10.out⟩
end Go.Proofs.YtoanccojpppfoaaDoor
