/-
  What is proved: small facts for the walks of Take of the document's layer 7: what is left of a block behind calls; a number's lowest two bits; the first error, part by part.
  What is proved: Take of the document's layer 7, called with a text, where the dot is not taken, returns what P7.4 says; the world has new blocks at most.
  What is proved: Take of the document's layer 7, called with a text, where the path is not taken, returns what P7.4 says; the world has new blocks at most.
  What is proved: Take of the document's layer 7, called with a text, where the kind is not taken, returns what P7.4 says; the world has new blocks at most.
  What is proved: Take of the document's layer 7, called with a text, where the value is not taken, returns what P7.4 says; the world has new blocks at most.
  What is proved: Take of the document's layer 7, called with a text, where the version is not taken, returns what P7.4 says; the world has new blocks at most.
  What is proved: Take of the document's layer 7, called with a text, where the kind's number is too great, returns what P7.4 says; the world has new blocks at most.
  What is proved: Take of the document's layer 7, called with a text, where what comes is not right, returns what P7.4 says; the world has new blocks at most.
  What is proved: Take of the document's layer 7, called with a text, where what comes is right, returns what P7.4 says; the world has new blocks at most.
  What is proved: Take of the document's layer 7, called with any text, returns what P7.4 says; the world has new blocks at most.
-/
import Derived.Test.YtoanccojpppfoaaDoorM5
namespace Go.Proofs.YtoanccojpppfoaaDoor
open Go.RowKit

theorem Re.kept {w w' : World} {b : Nat} (h : Re w b) (k : Kept w w') : Re w' b := ⟨h.ent.kept k, fun i => (k.2.1 ⟨b, i, none⟩ (show b < w.heap.size from World.block_lt_of_cell? w _ h.ent.c0)).trans (h.f i)⟩
theorem Re.new (w : World) (t : TypeId) : Re (w.alloc (.cells #[.int .i64 0, .int .i64 0, .string ⟨#[]⟩, .int .i64 0, .int .i64 0, .int .i64 0, .string ⟨#[]⟩, .int .i64 0, .int .i64 0] t)) w.heap.size := ⟨Ent.new w .none t, fun i => froz_new w _ t i⟩
theorem u64_and3 (n : Int) : bits .and .u64 n 3 = n % 4 := by
  have h3 : (BitVec.ofInt 64 3).toNat = 2 ^ 2 - 1 := by decide
  have key : (BitVec.ofInt 64 n &&& BitVec.ofInt 64 3).toNat = (n % ((2 ^ 64 : Nat) : Int)).toNat % 2 ^ 2 := by
    rw [BitVec.toNat_and, BitVec.toNat_ofInt, h3, Nat.and_two_pow_sub_one_eq_mod]
  show IntKind.u64.wrap ((BitVec.ofInt 64 n &&& BitVec.ofInt 64 3).toNat : Nat) = n % 4
  rw [key, IntKind.wrap_u64]
  omega
theorem rvtake_c (s : ByteArray) (k n : Int) (t r : ByteArray) (z : Int) (h1 : tvK s = k) (h2 : tvI s = n) (h3 : tvT s = t) (h4 : tvR s = r) (h5 : (tvE s : Int) = z) (hs : s.size ≤ 100000) (w : World) :
    Calls Tryd.prog 28 #[.string s] w fun e w' => e = .returned (.tuple #[.agg #[.int .i64 k, .int .i64 n, .string t], .string r, .int .i64 z]) ∧ Grown w w' := by
  subst h1 h2 h3 h4 h5; exact rvtake_any s w hs
theorem err1 {s : ByteArray} (h : tdE s ≠ 0) : errE s = tdE s := by unfold errE; rw [if_pos h]
theorem err2 {s : ByteArray} (h1 : tdE s = 0) (h : ttE (r1 s) 102 ≠ 0) : errE s = ttE (r1 s) 102 := by unfold errE; rw [if_neg (by omega), if_pos h]
theorem err3 {s : ByteArray} (h1 : tdE s = 0) (h2 : ttE (r1 s) 102 = 0) (h : tkE (r2 s) ≠ 0) : errE s = tkE (r2 s) := by unfold errE; rw [if_neg (by omega), if_neg (by omega), if_pos h]
theorem err4 {s : ByteArray} (h1 : tdE s = 0) (h2 : ttE (r1 s) 102 = 0) (h3 : tkE (r2 s) = 0) (h : tvE (r3 s) ≠ 0) : errE s = tvE (r3 s) := by unfold errE; rw [if_neg (by omega), if_neg (by omega), if_neg (by omega), if_pos h]
theorem err5 {s : ByteArray} (h1 : tdE s = 0) (h2 : ttE (r1 s) 102 = 0) (h3 : tkE (r2 s) = 0) (h4 : tvE (r3 s) = 0) : errE s = tdE (r4 s) := by unfold errE; rw [if_neg (by omega), if_neg (by omega), if_neg (by omega), if_neg (by omega)]
theorem left_sizes (s : ByteArray) : (r1 s).size ≤ s.size ∧ (r2 s).size ≤ s.size ∧ (r3 s).size ≤ s.size ∧ (r4 s).size ≤ s.size := by
  have h1 : (r1 s).size ≤ s.size := tdR_size s
  have h2 : (r2 s).size ≤ (r1 s).size := ttR_size (r1 s) 102
  have h3 : (r3 s).size ≤ (r2 s).size := tkR_size (r2 s)
  have h4 : (r4 s).size ≤ (r3 s).size := tvR_size (r3 s)
  exact ⟨h1, by omega, by omega, by omega⟩
theorem lt_kept {w w1 : World} (hg : Kept w w1) {b : Nat} (h : b < w.heap.size) : b < w1.heap.size := Nat.lt_of_lt_of_le h hg.2.2
end Go.Proofs.YtoanccojpppfoaaDoor

namespace Go.Proofs.YtoanccojpppfoaaDoor
open Go.RowKit
set_option linter.unusedVariables false

set_option maxRecDepth 100000 in
set_option maxHeartbeats 16000000 in
theorem ertake1 (s : ByteArray) (w : World) (hs : s.size ≤ 100000)  (e1 : tdE s ≠ 0) :
    Calls Tryd.prog 8 #[.string s] w fun e w' => e = .returned (.tuple #[.agg #[.int .i64 (teX s).d.1, .int .i64 (teX s).d.2, .string (teX s).p, .int .i64 (teX s).k, .int .i64 (teX s).vk, .int .i64 (teX s).vn, .string (teX s).vt, .int .i64 (teX s).e.1, .int .i64 (teX s).e.2], .string (teR s), .int .i64 (teE s)]) ∧ Kept w w' := by
  obtain ⟨l1, l2, l3, l4⟩ := left_sizes s
  have HE := err1 e1
  have HR := te_ret (s := s) (x := ⟨(0, 0), ⟨#[]⟩, 0, 0, 0, ⟨#[]⟩, (0, 0)⟩) (r := ⟨#[]⟩) (e := errE s) (z := (tdE s : Nat)) (te_err s (by omega)) (by rw [HE])
  have A1 := fun w => rtakeD_c s _ (r1 s) ((tdE s : Nat) : Int) rfl rfl rfl hs w
  have z1 : (((tdE s : Nat) : Int) != 0) = true := by simp [e1]
  clear e1 hs l1 l2 l3 l4 HE
  generalize ((tdE s : Nat) : Int) = z at A1 z1 HR
  generalize r1 s = a1 at *
  generalize tdX s = v1 at *
  have A1 := Lib.hid A1
  have HR := Lib.hid HR
  have R0 := Lib.hid (Re.new w 27)
  have K0 := Lib.hid ((Kept.refl w).alloc #[.int .i64 0, .int .i64 0, .string ⟨#[]⟩, .int .i64 0, .int .i64 0, .int .i64 0, .string ⟨#[]⟩, .int .i64 0, .int .i64 0] 27)
  have q0 : w.heap.size < (w.alloc (.cells #[.int .i64 0, .int .i64 0, .string ⟨#[]⟩, .int .i64 0, .int .i64 0, .int .i64 0, .string ⟨#[]⟩, .int .i64 0, .int .i64 0] 27)).heap.size := (by simp)
  go_enter Tryd.func8, Tryd.ntmps8
  go_wp2_with fail
  go_at_call 25
  refine (A1.out _).mono ?_
  rintro e w1 ⟨rfl, hg⟩
  have hg2 := hg
  have R1 := Lib.hid (R0.out.kept hg2)
  have K1 := Lib.hid (K0.out.trans hg2)
  replace q0 : w.heap.size < w1.heap.size := lt_of_kept hg
  clear hg hg2
  have RR := R1.out
  have x0 := RR.ent.c0; have x1 := RR.ent.c1; have x2 := RR.ent.c2; have x3 := RR.ent.c3; have x4 := RR.ent.c4; have x5 := RR.ent.c5; have x6 := RR.ent.c6; have x7 := RR.ent.c7; have x8 := RR.ent.c8
  have xf := RR.f
  have n1 : ¬ w.heap.size = w1.heap.size := (by omega)
  have n2 : ¬ w1.heap.size = w.heap.size := (by omega)
  clear RR
  go_wp2_with fail
  refine bodyPost_ret (by simp [results, Tryd.results8, go_sem, *]) rfl ⟨HR.out, ?_⟩
  repeat (first | with_reducible exact K1.out | with_reducible refine Kept.drew ?_ | with_reducible refine Kept.alloc ?_ _ _ | with_reducible refine Kept.setCell ?_ (Nat.le_refl _) _)
end Go.Proofs.YtoanccojpppfoaaDoor

namespace Go.Proofs.YtoanccojpppfoaaDoor
open Go.RowKit
set_option linter.unusedVariables false

set_option maxRecDepth 100000 in
set_option maxHeartbeats 16000000 in
theorem ertake2 (s : ByteArray) (w : World) (hs : s.size ≤ 100000) (e1 : tdE s = 0) (e2 : ttE (r1 s) 102 ≠ 0) :
    Calls Tryd.prog 8 #[.string s] w fun e w' => e = .returned (.tuple #[.agg #[.int .i64 (teX s).d.1, .int .i64 (teX s).d.2, .string (teX s).p, .int .i64 (teX s).k, .int .i64 (teX s).vk, .int .i64 (teX s).vn, .string (teX s).vt, .int .i64 (teX s).e.1, .int .i64 (teX s).e.2], .string (teR s), .int .i64 (teE s)]) ∧ Kept w w' := by
  obtain ⟨l1, l2, l3, l4⟩ := left_sizes s
  have HE := err2 e1 e2
  have HR := te_ret (s := s) (x := ⟨(0, 0), ⟨#[]⟩, 0, 0, 0, ⟨#[]⟩, (0, 0)⟩) (r := ⟨#[]⟩) (e := errE s) (z := (ttE (r1 s) 102 : Nat)) (te_err s (by omega)) (by rw [HE])
  have A1 := fun w => rtakeD_c s _ (r1 s) 0 rfl rfl (by rw [e1]; rfl) hs w
  have A2 := fun w => rtakeText_c (r1 s) 102 _ (r2 s) ((ttE (r1 s) 102 : Nat) : Int) rfl rfl rfl (by omega) (by decide) (by decide) w
  have z1 : (((ttE (r1 s) 102 : Nat) : Int) != 0) = true := by simp [e2]
  clear e1 e2 hs l1 l2 l3 l4 HE
  generalize ((ttE (r1 s) 102 : Nat) : Int) = z at A2 z1 HR
  generalize r2 s = a2 at *
  generalize ttT (r1 s) 102 = v2 at *
  generalize r1 s = a1 at *
  generalize tdX s = v1 at *
  have A1 := Lib.hid A1
  have A2 := Lib.hid A2
  have HR := Lib.hid HR
  have R0 := Lib.hid (Re.new w 27)
  have K0 := Lib.hid ((Kept.refl w).alloc #[.int .i64 0, .int .i64 0, .string ⟨#[]⟩, .int .i64 0, .int .i64 0, .int .i64 0, .string ⟨#[]⟩, .int .i64 0, .int .i64 0] 27)
  have q0 : w.heap.size < (w.alloc (.cells #[.int .i64 0, .int .i64 0, .string ⟨#[]⟩, .int .i64 0, .int .i64 0, .int .i64 0, .string ⟨#[]⟩, .int .i64 0, .int .i64 0] 27)).heap.size := (by simp)
  go_enter Tryd.func8, Tryd.ntmps8
  go_wp2_with fail
  go_at_call 25
  refine (A1.out _).mono ?_
  rintro e w1 ⟨rfl, hg⟩
  have hg2 := hg
  have R1 := Lib.hid (R0.out.kept hg2)
  have K1 := Lib.hid (K0.out.trans hg2)
  replace q0 : w.heap.size < w1.heap.size := lt_of_kept hg
  clear hg hg2
  go_wp2_with fail
  go_at_call 26
  refine (A2.out _).mono ?_
  rintro e w2 ⟨rfl, hg⟩
  replace hg := kept_of hg
  have hg2 := (((Kept.refl _).alloc #[.int .i64 v1.1, .int .i64 v1.2] 23).trans hg)
  have R2 := Lib.hid (R1.out.kept hg2)
  have K2 := Lib.hid (K1.out.trans hg2)
  have D1 := Lib.hid ((Box2.new w1 (.int .i64 v1.1) (.int .i64 v1.2) 23).kept hg)
  have p1 : w1.heap.size < w2.heap.size := lt_of_kept hg
  replace q0 : w.heap.size < w2.heap.size := lt_kept hg2 q0
  clear hg hg2
  have RR := R2.out
  have x0 := RR.ent.c0; have x1 := RR.ent.c1; have x2 := RR.ent.c2; have x3 := RR.ent.c3; have x4 := RR.ent.c4; have x5 := RR.ent.c5; have x6 := RR.ent.c6; have x7 := RR.ent.c7; have x8 := RR.ent.c8
  have xf := RR.f
  clear RR
  go_wp2_with fail
  refine bodyPost_ret (by simp [results, Tryd.results8, go_sem, *]) rfl ⟨HR.out, ?_⟩
  repeat (first | with_reducible exact K2.out | with_reducible refine Kept.drew ?_ | with_reducible refine Kept.alloc ?_ _ _ | with_reducible refine Kept.setCell ?_ (Nat.le_refl _) _)
end Go.Proofs.YtoanccojpppfoaaDoor

namespace Go.Proofs.YtoanccojpppfoaaDoor
open Go.RowKit
set_option linter.unusedVariables false

set_option maxRecDepth 100000 in
set_option maxHeartbeats 16000000 in
theorem ertake3 (s : ByteArray) (w : World) (hs : s.size ≤ 100000) (e1 : tdE s = 0) (e2 : ttE (r1 s) 102 = 0) (e3 : tkE (r2 s) ≠ 0) :
    Calls Tryd.prog 8 #[.string s] w fun e w' => e = .returned (.tuple #[.agg #[.int .i64 (teX s).d.1, .int .i64 (teX s).d.2, .string (teX s).p, .int .i64 (teX s).k, .int .i64 (teX s).vk, .int .i64 (teX s).vn, .string (teX s).vt, .int .i64 (teX s).e.1, .int .i64 (teX s).e.2], .string (teR s), .int .i64 (teE s)]) ∧ Kept w w' := by
  obtain ⟨l1, l2, l3, l4⟩ := left_sizes s
  have HE := err3 e1 e2 e3
  have HR := te_ret (s := s) (x := ⟨(0, 0), ⟨#[]⟩, 0, 0, 0, ⟨#[]⟩, (0, 0)⟩) (r := ⟨#[]⟩) (e := errE s) (z := (tkE (r2 s) : Nat)) (te_err s (by omega)) (by rw [HE])
  have A1 := fun w => rtakeD_c s _ (r1 s) 0 rfl rfl (by rw [e1]; rfl) hs w
  have A2 := fun w => rtakeText_c (r1 s) 102 _ (r2 s) 0 rfl rfl (by rw [e2]; rfl) (by omega) (by decide) (by decide) w
  have A3 := fun w => rtake_c (r2 s) _ (r3 s) ((tkE (r2 s) : Nat) : Int) rfl rfl rfl (by omega) w
  have z1 : (((tkE (r2 s) : Nat) : Int) != 0) = true := by simp [e3]
  clear e1 e2 e3 hs l1 l2 l3 l4 HE
  generalize ((tkE (r2 s) : Nat) : Int) = z at A3 z1 HR
  generalize r3 s = a3 at *
  generalize (tkN (r2 s) : Int) = v3 at *
  generalize r2 s = a2 at *
  generalize ttT (r1 s) 102 = v2 at *
  generalize r1 s = a1 at *
  generalize tdX s = v1 at *
  have A1 := Lib.hid A1
  have A2 := Lib.hid A2
  have A3 := Lib.hid A3
  have HR := Lib.hid HR
  have R0 := Lib.hid (Re.new w 27)
  have K0 := Lib.hid ((Kept.refl w).alloc #[.int .i64 0, .int .i64 0, .string ⟨#[]⟩, .int .i64 0, .int .i64 0, .int .i64 0, .string ⟨#[]⟩, .int .i64 0, .int .i64 0] 27)
  have q0 : w.heap.size < (w.alloc (.cells #[.int .i64 0, .int .i64 0, .string ⟨#[]⟩, .int .i64 0, .int .i64 0, .int .i64 0, .string ⟨#[]⟩, .int .i64 0, .int .i64 0] 27)).heap.size := (by simp)
  go_enter Tryd.func8, Tryd.ntmps8
  go_wp2_with fail
  go_at_call 25
  refine (A1.out _).mono ?_
  rintro e w1 ⟨rfl, hg⟩
  have hg2 := hg
  have R1 := Lib.hid (R0.out.kept hg2)
  have K1 := Lib.hid (K0.out.trans hg2)
  replace q0 : w.heap.size < w1.heap.size := lt_of_kept hg
  clear hg hg2
  go_wp2_with fail
  go_at_call 26
  refine (A2.out _).mono ?_
  rintro e w2 ⟨rfl, hg⟩
  replace hg := kept_of hg
  have hg2 := (((Kept.refl _).alloc #[.int .i64 v1.1, .int .i64 v1.2] 23).trans hg)
  have R2 := Lib.hid (R1.out.kept hg2)
  have K2 := Lib.hid (K1.out.trans hg2)
  have D1 := Lib.hid ((Box2.new w1 (.int .i64 v1.1) (.int .i64 v1.2) 23).kept hg)
  have p1 : w1.heap.size < w2.heap.size := lt_of_kept hg
  replace q0 : w.heap.size < w2.heap.size := lt_kept hg2 q0
  clear hg hg2
  go_wp2_with fail
  go_at_call 27
  refine (A3.out _).mono ?_
  rintro e w3 ⟨rfl, hg⟩
  replace hg := kept_of hg
  have hg2 := hg
  have R3 := Lib.hid (R2.out.kept hg2)
  have K3 := Lib.hid (K2.out.trans hg2)
  have D1 := Lib.hid (D1.out.kept hg2)
  replace p1 : w1.heap.size < w3.heap.size := lt_kept hg2 p1
  replace q0 : w.heap.size < w3.heap.size := lt_kept hg2 q0
  clear hg hg2
  have RR := R3.out
  have x0 := RR.ent.c0; have x1 := RR.ent.c1; have x2 := RR.ent.c2; have x3 := RR.ent.c3; have x4 := RR.ent.c4; have x5 := RR.ent.c5; have x6 := RR.ent.c6; have x7 := RR.ent.c7; have x8 := RR.ent.c8
  have xf := RR.f
  clear RR
  go_wp2_with fail
  refine bodyPost_ret (by simp [results, Tryd.results8, go_sem, *]) rfl ⟨HR.out, ?_⟩
  repeat (first | with_reducible exact K3.out | with_reducible refine Kept.drew ?_ | with_reducible refine Kept.alloc ?_ _ _ | with_reducible refine Kept.setCell ?_ (Nat.le_refl _) _)
end Go.Proofs.YtoanccojpppfoaaDoor

namespace Go.Proofs.YtoanccojpppfoaaDoor
open Go.RowKit
set_option linter.unusedVariables false

set_option maxRecDepth 100000 in
set_option maxHeartbeats 16000000 in
theorem ertake4 (s : ByteArray) (w : World) (hs : s.size ≤ 100000) (e1 : tdE s = 0) (e2 : ttE (r1 s) 102 = 0) (e3 : tkE (r2 s) = 0) (e4 : tvE (r3 s) ≠ 0) :
    Calls Tryd.prog 8 #[.string s] w fun e w' => e = .returned (.tuple #[.agg #[.int .i64 (teX s).d.1, .int .i64 (teX s).d.2, .string (teX s).p, .int .i64 (teX s).k, .int .i64 (teX s).vk, .int .i64 (teX s).vn, .string (teX s).vt, .int .i64 (teX s).e.1, .int .i64 (teX s).e.2], .string (teR s), .int .i64 (teE s)]) ∧ Kept w w' := by
  obtain ⟨l1, l2, l3, l4⟩ := left_sizes s
  have HE := err4 e1 e2 e3 e4
  have HR := te_ret (s := s) (x := ⟨(0, 0), ⟨#[]⟩, 0, 0, 0, ⟨#[]⟩, (0, 0)⟩) (r := ⟨#[]⟩) (e := errE s) (z := (tvE (r3 s) : Nat)) (te_err s (by omega)) (by rw [HE])
  have A1 := fun w => rtakeD_c s _ (r1 s) 0 rfl rfl (by rw [e1]; rfl) hs w
  have A2 := fun w => rtakeText_c (r1 s) 102 _ (r2 s) 0 rfl rfl (by rw [e2]; rfl) (by omega) (by decide) (by decide) w
  have A3 := fun w => rtake_c (r2 s) _ (r3 s) 0 rfl rfl (by rw [e3]; rfl) (by omega) w
  have A4 := fun w => rvtake_c (r3 s) _ _ _ (r4 s) ((tvE (r3 s) : Nat) : Int) rfl rfl rfl rfl rfl (by omega) w
  have z1 : (((tvE (r3 s) : Nat) : Int) != 0) = true := by simp [e4]
  clear e1 e2 e3 e4 hs l1 l2 l3 l4 HE
  generalize ((tvE (r3 s) : Nat) : Int) = z at A4 z1 HR
  generalize r4 s = a4 at *
  generalize tvT (r3 s) = t at *
  generalize tvI (r3 s) = n at *
  generalize tvK (r3 s) = k at *
  generalize r3 s = a3 at *
  generalize (tkN (r2 s) : Int) = v3 at *
  generalize r2 s = a2 at *
  generalize ttT (r1 s) 102 = v2 at *
  generalize r1 s = a1 at *
  generalize tdX s = v1 at *
  have A1 := Lib.hid A1
  have A2 := Lib.hid A2
  have A3 := Lib.hid A3
  have A4 := Lib.hid A4
  have HR := Lib.hid HR
  have R0 := Lib.hid (Re.new w 27)
  have K0 := Lib.hid ((Kept.refl w).alloc #[.int .i64 0, .int .i64 0, .string ⟨#[]⟩, .int .i64 0, .int .i64 0, .int .i64 0, .string ⟨#[]⟩, .int .i64 0, .int .i64 0] 27)
  have q0 : w.heap.size < (w.alloc (.cells #[.int .i64 0, .int .i64 0, .string ⟨#[]⟩, .int .i64 0, .int .i64 0, .int .i64 0, .string ⟨#[]⟩, .int .i64 0, .int .i64 0] 27)).heap.size := (by simp)
  go_enter Tryd.func8, Tryd.ntmps8
  go_wp2_with fail
  go_at_call 25
  refine (A1.out _).mono ?_
  rintro e w1 ⟨rfl, hg⟩
  have hg2 := hg
  have R1 := Lib.hid (R0.out.kept hg2)
  have K1 := Lib.hid (K0.out.trans hg2)
  replace q0 : w.heap.size < w1.heap.size := lt_of_kept hg
  clear hg hg2
  go_wp2_with fail
  go_at_call 26
  refine (A2.out _).mono ?_
  rintro e w2 ⟨rfl, hg⟩
  replace hg := kept_of hg
  have hg2 := (((Kept.refl _).alloc #[.int .i64 v1.1, .int .i64 v1.2] 23).trans hg)
  have R2 := Lib.hid (R1.out.kept hg2)
  have K2 := Lib.hid (K1.out.trans hg2)
  have D1 := Lib.hid ((Box2.new w1 (.int .i64 v1.1) (.int .i64 v1.2) 23).kept hg)
  have p1 : w1.heap.size < w2.heap.size := lt_of_kept hg
  replace q0 : w.heap.size < w2.heap.size := lt_kept hg2 q0
  clear hg hg2
  go_wp2_with fail
  go_at_call 27
  refine (A3.out _).mono ?_
  rintro e w3 ⟨rfl, hg⟩
  replace hg := kept_of hg
  have hg2 := hg
  have R3 := Lib.hid (R2.out.kept hg2)
  have K3 := Lib.hid (K2.out.trans hg2)
  have D1 := Lib.hid (D1.out.kept hg2)
  replace p1 : w1.heap.size < w3.heap.size := lt_kept hg2 p1
  replace q0 : w.heap.size < w3.heap.size := lt_kept hg2 q0
  clear hg hg2
  go_wp2_with fail
  go_at_call 28
  refine (A4.out _).mono ?_
  rintro e w4 ⟨rfl, hg⟩
  replace hg := kept_of hg
  have hg2 := hg
  have R4 := Lib.hid (R3.out.kept hg2)
  have K4 := Lib.hid (K3.out.trans hg2)
  have D1 := Lib.hid (D1.out.kept hg2)
  replace p1 : w1.heap.size < w4.heap.size := lt_kept hg2 p1
  replace q0 : w.heap.size < w4.heap.size := lt_kept hg2 q0
  clear hg hg2
  have RR := R4.out
  have x0 := RR.ent.c0; have x1 := RR.ent.c1; have x2 := RR.ent.c2; have x3 := RR.ent.c3; have x4 := RR.ent.c4; have x5 := RR.ent.c5; have x6 := RR.ent.c6; have x7 := RR.ent.c7; have x8 := RR.ent.c8
  have xf := RR.f
  have n1 : ¬ w.heap.size = w4.heap.size := (by omega)
  have n2 : ¬ w4.heap.size = w.heap.size := (by omega)
  clear RR
  go_wp2_with fail
  refine bodyPost_ret (by simp [results, Tryd.results8, go_sem, *]) rfl ⟨HR.out, ?_⟩
  repeat (first | with_reducible exact K4.out | with_reducible refine Kept.drew ?_ | with_reducible refine Kept.alloc ?_ _ _ | with_reducible refine Kept.setCell ?_ (Nat.le_refl _) _)
end Go.Proofs.YtoanccojpppfoaaDoor

namespace Go.Proofs.YtoanccojpppfoaaDoor
open Go.RowKit
set_option linter.unusedVariables false

set_option maxRecDepth 100000 in
set_option maxHeartbeats 16000000 in
theorem ertake5 (s : ByteArray) (w : World) (hs : s.size ≤ 100000) (e1 : tdE s = 0) (e2 : ttE (r1 s) 102 = 0) (e3 : tkE (r2 s) = 0) (e4 : tvE (r3 s) = 0) (e5 : tdE (r4 s) ≠ 0) :
    Calls Tryd.prog 8 #[.string s] w fun e w' => e = .returned (.tuple #[.agg #[.int .i64 (teX s).d.1, .int .i64 (teX s).d.2, .string (teX s).p, .int .i64 (teX s).k, .int .i64 (teX s).vk, .int .i64 (teX s).vn, .string (teX s).vt, .int .i64 (teX s).e.1, .int .i64 (teX s).e.2], .string (teR s), .int .i64 (teE s)]) ∧ Kept w w' := by
  obtain ⟨l1, l2, l3, l4⟩ := left_sizes s
  have HE := err5 e1 e2 e3 e4
  have HR := te_ret (s := s) (x := ⟨(0, 0), ⟨#[]⟩, 0, 0, 0, ⟨#[]⟩, (0, 0)⟩) (r := ⟨#[]⟩) (e := errE s) (z := (tdE (r4 s) : Nat)) (te_err s (by omega)) (by rw [HE])
  have A1 := fun w => rtakeD_c s _ (r1 s) 0 rfl rfl (by rw [e1]; rfl) hs w
  have A2 := fun w => rtakeText_c (r1 s) 102 _ (r2 s) 0 rfl rfl (by rw [e2]; rfl) (by omega) (by decide) (by decide) w
  have A3 := fun w => rtake_c (r2 s) _ (r3 s) 0 rfl rfl (by rw [e3]; rfl) (by omega) w
  have A4 := fun w => rvtake_c (r3 s) _ _ _ (r4 s) 0 rfl rfl rfl rfl (by rw [e4]; rfl) (by omega) w
  have A5 := fun w => rtakeD_c (r4 s) _ (r5 s) ((tdE (r4 s) : Nat) : Int) rfl rfl rfl (by omega) w
  have z1 : (((tdE (r4 s) : Nat) : Int) != 0) = true := by simp [e5]
  clear e1 e2 e3 e4 e5 hs l1 l2 l3 l4 HE
  generalize ((tdE (r4 s) : Nat) : Int) = z at A5 z1 HR
  generalize r5 s = a5 at *
  generalize tdX (r4 s) = v5 at *
  generalize r4 s = a4 at *
  generalize tvT (r3 s) = t at *
  generalize tvI (r3 s) = n at *
  generalize tvK (r3 s) = k at *
  generalize r3 s = a3 at *
  generalize (tkN (r2 s) : Int) = v3 at *
  generalize r2 s = a2 at *
  generalize ttT (r1 s) 102 = v2 at *
  generalize r1 s = a1 at *
  generalize tdX s = v1 at *
  have A1 := Lib.hid A1
  have A2 := Lib.hid A2
  have A3 := Lib.hid A3
  have A4 := Lib.hid A4
  have A5 := Lib.hid A5
  have HR := Lib.hid HR
  have R0 := Lib.hid (Re.new w 27)
  have K0 := Lib.hid ((Kept.refl w).alloc #[.int .i64 0, .int .i64 0, .string ⟨#[]⟩, .int .i64 0, .int .i64 0, .int .i64 0, .string ⟨#[]⟩, .int .i64 0, .int .i64 0] 27)
  have q0 : w.heap.size < (w.alloc (.cells #[.int .i64 0, .int .i64 0, .string ⟨#[]⟩, .int .i64 0, .int .i64 0, .int .i64 0, .string ⟨#[]⟩, .int .i64 0, .int .i64 0] 27)).heap.size := (by simp)
  go_enter Tryd.func8, Tryd.ntmps8
  go_wp2_with fail
  go_at_call 25
  refine (A1.out _).mono ?_
  rintro e w1 ⟨rfl, hg⟩
  have hg2 := hg
  have R1 := Lib.hid (R0.out.kept hg2)
  have K1 := Lib.hid (K0.out.trans hg2)
  replace q0 : w.heap.size < w1.heap.size := lt_of_kept hg
  clear hg hg2
  go_wp2_with fail
  go_at_call 26
  refine (A2.out _).mono ?_
  rintro e w2 ⟨rfl, hg⟩
  replace hg := kept_of hg
  have hg2 := (((Kept.refl _).alloc #[.int .i64 v1.1, .int .i64 v1.2] 23).trans hg)
  have R2 := Lib.hid (R1.out.kept hg2)
  have K2 := Lib.hid (K1.out.trans hg2)
  have D1 := Lib.hid ((Box2.new w1 (.int .i64 v1.1) (.int .i64 v1.2) 23).kept hg)
  have p1 : w1.heap.size < w2.heap.size := lt_of_kept hg
  replace q0 : w.heap.size < w2.heap.size := lt_kept hg2 q0
  clear hg hg2
  go_wp2_with fail
  go_at_call 27
  refine (A3.out _).mono ?_
  rintro e w3 ⟨rfl, hg⟩
  replace hg := kept_of hg
  have hg2 := hg
  have R3 := Lib.hid (R2.out.kept hg2)
  have K3 := Lib.hid (K2.out.trans hg2)
  have D1 := Lib.hid (D1.out.kept hg2)
  replace p1 : w1.heap.size < w3.heap.size := lt_kept hg2 p1
  replace q0 : w.heap.size < w3.heap.size := lt_kept hg2 q0
  clear hg hg2
  go_wp2_with fail
  go_at_call 28
  refine (A4.out _).mono ?_
  rintro e w4 ⟨rfl, hg⟩
  replace hg := kept_of hg
  have hg2 := hg
  have R4 := Lib.hid (R3.out.kept hg2)
  have K4 := Lib.hid (K3.out.trans hg2)
  have D1 := Lib.hid (D1.out.kept hg2)
  replace p1 : w1.heap.size < w4.heap.size := lt_kept hg2 p1
  replace q0 : w.heap.size < w4.heap.size := lt_kept hg2 q0
  clear hg hg2
  go_wp2_with fail
  go_at_call 25
  refine (A5.out _).mono ?_
  rintro e w5 ⟨rfl, hg⟩
  have hg2 := (((Kept.refl _).alloc #[.int .i64 k, .int .i64 n, .string t] 25).trans hg)
  have R5 := Lib.hid (R4.out.kept hg2)
  have K5 := Lib.hid (K4.out.trans hg2)
  have D4 := Lib.hid ((Box.newK w4 (.int .i64 k) (.int .i64 n) (.string t) 25).keptK hg)
  have p4 : w4.heap.size < w5.heap.size := lt_of_kept hg
  have D1 := Lib.hid (D1.out.kept hg2)
  replace p1 : w1.heap.size < w5.heap.size := lt_kept hg2 p1
  replace q0 : w.heap.size < w5.heap.size := lt_kept hg2 q0
  clear hg hg2
  have RR := R5.out
  have x0 := RR.ent.c0; have x1 := RR.ent.c1; have x2 := RR.ent.c2; have x3 := RR.ent.c3; have x4 := RR.ent.c4; have x5 := RR.ent.c5; have x6 := RR.ent.c6; have x7 := RR.ent.c7; have x8 := RR.ent.c8
  have xf := RR.f
  have n1 : ¬ w.heap.size = w5.heap.size := (by omega)
  have n2 : ¬ w5.heap.size = w.heap.size := (by omega)
  clear RR
  go_wp2_with fail
  refine bodyPost_ret (by simp [results, Tryd.results8, go_sem, *]) rfl ⟨HR.out, ?_⟩
  repeat (first | with_reducible exact K5.out | with_reducible refine Kept.drew ?_ | with_reducible refine Kept.alloc ?_ _ _ | with_reducible refine Kept.setCell ?_ (Nat.le_refl _) _)
end Go.Proofs.YtoanccojpppfoaaDoor

namespace Go.Proofs.YtoanccojpppfoaaDoor
open Go.RowKit
set_option linter.unusedVariables false

set_option maxRecDepth 100000 in
set_option maxHeartbeats 16000000 in
theorem ertake6 (s : ByteArray) (w : World) (hs : s.size ≤ 100000) (e1 : tdE s = 0) (e2 : ttE (r1 s) 102 = 0) (e3 : tkE (r2 s) = 0) (e4 : tvE (r3 s) = 0) (e5 : tdE (r4 s) = 0) (h6 : 3 < tkN (r2 s)) :
    Calls Tryd.prog 8 #[.string s] w fun e w' => e = .returned (.tuple #[.agg #[.int .i64 (teX s).d.1, .int .i64 (teX s).d.2, .string (teX s).p, .int .i64 (teX s).k, .int .i64 (teX s).vk, .int .i64 (teX s).vn, .string (teX s).vt, .int .i64 (teX s).e.1, .int .i64 (teX s).e.2], .string (teR s), .int .i64 (teE s)]) ∧ Kept w w' := by
  obtain ⟨l1, l2, l3, l4⟩ := left_sizes s
  have HE : errE s = 0 := (err5 e1 e2 e3 e4).trans e5
  have HR := te_ret (s := s) (x := ⟨(0, 0), ⟨#[]⟩, 0, 0, 0, ⟨#[]⟩, (0, 0)⟩) (r := ⟨#[]⟩) (e := 3) (z := 3) (te_form s HE (by omega)) rfl
  have hb3 : (0 : Int) ≤ (tkN (r2 s) : Nat) := (by omega)
  have h36 : (3 : Int) < (tkN (r2 s) : Nat) := (by omega)
  have A1 := fun w => rtakeD_c s _ (r1 s) 0 rfl rfl (by rw [e1]; rfl) hs w
  have A2 := fun w => rtakeText_c (r1 s) 102 _ (r2 s) 0 rfl rfl (by rw [e2]; rfl) (by omega) (by decide) (by decide) w
  have A3 := fun w => rtake_c (r2 s) _ (r3 s) 0 rfl rfl (by rw [e3]; rfl) (by omega) w
  have A4 := fun w => rvtake_c (r3 s) _ _ _ (r4 s) 0 rfl rfl rfl rfl (by rw [e4]; rfl) (by omega) w
  have A5 := fun w => rtakeD_c (r4 s) _ (r5 s) 0 rfl rfl (by rw [e5]; rfl) (by omega) w
  clear e1 e2 e3 e4 e5 hs l1 l2 l3 l4 HE h6
  generalize r5 s = a5 at *
  generalize tdX (r4 s) = v5 at *
  generalize r4 s = a4 at *
  generalize tvT (r3 s) = t at *
  generalize tvI (r3 s) = n at *
  generalize tvK (r3 s) = k at *
  generalize r3 s = a3 at *
  generalize (tkN (r2 s) : Int) = v3 at *
  generalize r2 s = a2 at *
  generalize ttT (r1 s) 102 = v2 at *
  generalize r1 s = a1 at *
  generalize tdX s = v1 at *
  have A1 := Lib.hid A1
  have A2 := Lib.hid A2
  have A3 := Lib.hid A3
  have A4 := Lib.hid A4
  have A5 := Lib.hid A5
  have HR := Lib.hid HR
  have hand := u64_and3 v3
  have hwr : IntKind.i64.wrap (v3 % 4) = v3 % 4 := by rw [IntKind.wrap_i64]; omega
  generalize hq : v3 % 4 = kk at *
  have d3 : decide ((3 : Int) < v3) = true := decide_eq_true h36
  clear hq h36 hb3
  have R0 := Lib.hid (Re.new w 27)
  have K0 := Lib.hid ((Kept.refl w).alloc #[.int .i64 0, .int .i64 0, .string ⟨#[]⟩, .int .i64 0, .int .i64 0, .int .i64 0, .string ⟨#[]⟩, .int .i64 0, .int .i64 0] 27)
  have q0 : w.heap.size < (w.alloc (.cells #[.int .i64 0, .int .i64 0, .string ⟨#[]⟩, .int .i64 0, .int .i64 0, .int .i64 0, .string ⟨#[]⟩, .int .i64 0, .int .i64 0] 27)).heap.size := (by simp)
  go_enter Tryd.func8, Tryd.ntmps8
  go_wp2_with fail
  go_at_call 25
  refine (A1.out _).mono ?_
  rintro e w1 ⟨rfl, hg⟩
  have hg2 := hg
  have R1 := Lib.hid (R0.out.kept hg2)
  have K1 := Lib.hid (K0.out.trans hg2)
  replace q0 : w.heap.size < w1.heap.size := lt_of_kept hg
  clear hg hg2
  go_wp2_with fail
  go_at_call 26
  refine (A2.out _).mono ?_
  rintro e w2 ⟨rfl, hg⟩
  replace hg := kept_of hg
  have hg2 := (((Kept.refl _).alloc #[.int .i64 v1.1, .int .i64 v1.2] 23).trans hg)
  have R2 := Lib.hid (R1.out.kept hg2)
  have K2 := Lib.hid (K1.out.trans hg2)
  have D1 := Lib.hid ((Box2.new w1 (.int .i64 v1.1) (.int .i64 v1.2) 23).kept hg)
  have p1 : w1.heap.size < w2.heap.size := lt_of_kept hg
  replace q0 : w.heap.size < w2.heap.size := lt_kept hg2 q0
  clear hg hg2
  go_wp2_with fail
  go_at_call 27
  refine (A3.out _).mono ?_
  rintro e w3 ⟨rfl, hg⟩
  replace hg := kept_of hg
  have hg2 := hg
  have R3 := Lib.hid (R2.out.kept hg2)
  have K3 := Lib.hid (K2.out.trans hg2)
  have D1 := Lib.hid (D1.out.kept hg2)
  replace p1 : w1.heap.size < w3.heap.size := lt_kept hg2 p1
  replace q0 : w.heap.size < w3.heap.size := lt_kept hg2 q0
  clear hg hg2
  go_wp2_with fail
  go_at_call 28
  refine (A4.out _).mono ?_
  rintro e w4 ⟨rfl, hg⟩
  replace hg := kept_of hg
  have hg2 := hg
  have R4 := Lib.hid (R3.out.kept hg2)
  have K4 := Lib.hid (K3.out.trans hg2)
  have D1 := Lib.hid (D1.out.kept hg2)
  replace p1 : w1.heap.size < w4.heap.size := lt_kept hg2 p1
  replace q0 : w.heap.size < w4.heap.size := lt_kept hg2 q0
  clear hg hg2
  go_wp2_with fail
  go_at_call 25
  refine (A5.out _).mono ?_
  rintro e w5 ⟨rfl, hg⟩
  have hg2 := (((Kept.refl _).alloc #[.int .i64 k, .int .i64 n, .string t] 25).trans hg)
  have R5 := Lib.hid (R4.out.kept hg2)
  have K5 := Lib.hid (K4.out.trans hg2)
  have D4 := Lib.hid ((Box.newK w4 (.int .i64 k) (.int .i64 n) (.string t) 25).keptK hg)
  have p4 : w4.heap.size < w5.heap.size := lt_of_kept hg
  have D1 := Lib.hid (D1.out.kept hg2)
  replace p1 : w1.heap.size < w5.heap.size := lt_kept hg2 p1
  replace q0 : w.heap.size < w5.heap.size := lt_kept hg2 q0
  clear hg hg2
  have n1 : ¬ w.heap.size = w5.heap.size := (by omega)
  have n2 : ¬ w5.heap.size = w.heap.size := (by omega)
  have m1 : ¬ w1.heap.size = w5.heap.size := (by omega)
  have m1' : ¬ w5.heap.size = w1.heap.size := (by omega)
  have DD := D1.out
  have y10 := DD.c0; have y11 := DD.c1
  clear DD
  have m4 : ¬ w4.heap.size = w5.heap.size := (by omega)
  have m4' : ¬ w5.heap.size = w4.heap.size := (by omega)
  have DD := D4.out
  have y40 := DD.c0; have y41 := DD.c1; have y42 := DD.c2
  clear DD
  have n3 : ¬ w.heap.size = w5.heap.size + 1 := (by omega)
  have n4 : ¬ w5.heap.size + 1 = w.heap.size := (by omega)
  have RR := R5.out
  have x0 := RR.ent.c0; have x1 := RR.ent.c1; have x2 := RR.ent.c2; have x3 := RR.ent.c3; have x4 := RR.ent.c4; have x5 := RR.ent.c5; have x6 := RR.ent.c6; have x7 := RR.ent.c7; have x8 := RR.ent.c8
  have xf := RR.f
  clear RR
  go_wp2_with fail
  refine bodyPost_ret (by simp [results, Tryd.results8, go_sem, *]) rfl ⟨HR.out, ?_⟩
  repeat (first | with_reducible exact K5.out | with_reducible refine Kept.drew ?_ | with_reducible refine Kept.alloc ?_ _ _ | with_reducible refine Kept.setCell ?_ (Nat.le_refl _) _)
end Go.Proofs.YtoanccojpppfoaaDoor

namespace Go.Proofs.YtoanccojpppfoaaDoor
open Go.RowKit
set_option linter.unusedVariables false

set_option maxRecDepth 100000 in
set_option maxHeartbeats 16000000 in
theorem ertake7 (s : ByteArray) (w : World) (hs : s.size ≤ 100000) (e1 : tdE s = 0) (e2 : ttE (r1 s) 102 = 0) (e3 : tkE (r2 s) = 0) (e4 : tvE (r3 s) = 0) (e5 : tdE (r4 s) = 0) (h6 : tkN (r2 s) ≤ 3) (hr : rightE (enK s (tkN (r2 s))) = false) :
    Calls Tryd.prog 8 #[.string s] w fun e w' => e = .returned (.tuple #[.agg #[.int .i64 (teX s).d.1, .int .i64 (teX s).d.2, .string (teX s).p, .int .i64 (teX s).k, .int .i64 (teX s).vk, .int .i64 (teX s).vn, .string (teX s).vt, .int .i64 (teX s).e.1, .int .i64 (teX s).e.2], .string (teR s), .int .i64 (teE s)]) ∧ Kept w w' := by
  obtain ⟨l1, l2, l3, l4⟩ := left_sizes s
  have HE : errE s = 0 := (err5 e1 e2 e3 e4).trans e5
  have HR := te_ret (s := s) (x := ⟨(0, 0), ⟨#[]⟩, 0, 0, 0, ⟨#[]⟩, (0, 0)⟩) (r := ⟨#[]⟩) (e := 3) (z := 3) (te_form s HE (by rw [hr]; simp)) rfl
  have sv : (enK s (tkN (r2 s))).p.size ≤ 102 := ttT_size _
  have st : (enK s (tkN (r2 s))).vt.size ≤ 200 := tvT_size _
  have AR := fun w => reright_c (enK s (tkN (r2 s))) false hr w (by omega) (by omega)
  have hkk : ((tkN (r2 s) : Nat) : Int) % 4 = (tkN (r2 s) : Nat) := by omega
  unfold enK at AR
  have hb3 : (0 : Int) ≤ (tkN (r2 s) : Nat) := (by omega)
  have h36 : ¬ (3 : Int) < (tkN (r2 s) : Nat) := (by omega)
  have A1 := fun w => rtakeD_c s _ (r1 s) 0 rfl rfl (by rw [e1]; rfl) hs w
  have A2 := fun w => rtakeText_c (r1 s) 102 _ (r2 s) 0 rfl rfl (by rw [e2]; rfl) (by omega) (by decide) (by decide) w
  have A3 := fun w => rtake_c (r2 s) _ (r3 s) 0 rfl rfl (by rw [e3]; rfl) (by omega) w
  have A4 := fun w => rvtake_c (r3 s) _ _ _ (r4 s) 0 rfl rfl rfl rfl (by rw [e4]; rfl) (by omega) w
  have A5 := fun w => rtakeD_c (r4 s) _ (r5 s) 0 rfl rfl (by rw [e5]; rfl) (by omega) w
  clear e1 e2 e3 e4 e5 hs l1 l2 l3 l4 HE h6 hr sv st
  generalize r5 s = a5 at *
  generalize tdX (r4 s) = v5 at *
  generalize r4 s = a4 at *
  generalize tvT (r3 s) = t at *
  generalize tvI (r3 s) = n at *
  generalize tvK (r3 s) = k at *
  generalize r3 s = a3 at *
  generalize (tkN (r2 s) : Int) = v3 at *
  generalize r2 s = a2 at *
  generalize ttT (r1 s) 102 = v2 at *
  generalize r1 s = a1 at *
  generalize tdX s = v1 at *
  have A1 := Lib.hid A1
  have A2 := Lib.hid A2
  have A3 := Lib.hid A3
  have A4 := Lib.hid A4
  have A5 := Lib.hid A5
  have HR := Lib.hid HR
  have hand := u64_and3 v3
  have hwr : IntKind.i64.wrap (v3 % 4) = v3 % 4 := by rw [IntKind.wrap_i64]; omega
  generalize hq : v3 % 4 = kk at *
  have d3 : decide ((3 : Int) < v3) = false := decide_eq_false h36
  subst hkk
  have AR := Lib.hid AR
  clear hq h36 hb3
  have R0 := Lib.hid (Re.new w 27)
  have K0 := Lib.hid ((Kept.refl w).alloc #[.int .i64 0, .int .i64 0, .string ⟨#[]⟩, .int .i64 0, .int .i64 0, .int .i64 0, .string ⟨#[]⟩, .int .i64 0, .int .i64 0] 27)
  have q0 : w.heap.size < (w.alloc (.cells #[.int .i64 0, .int .i64 0, .string ⟨#[]⟩, .int .i64 0, .int .i64 0, .int .i64 0, .string ⟨#[]⟩, .int .i64 0, .int .i64 0] 27)).heap.size := (by simp)
  go_enter Tryd.func8, Tryd.ntmps8
  go_wp2_with fail
  go_at_call 25
  refine (A1.out _).mono ?_
  rintro e w1 ⟨rfl, hg⟩
  have hg2 := hg
  have R1 := Lib.hid (R0.out.kept hg2)
  have K1 := Lib.hid (K0.out.trans hg2)
  replace q0 : w.heap.size < w1.heap.size := lt_of_kept hg
  clear hg hg2
  go_wp2_with fail
  go_at_call 26
  refine (A2.out _).mono ?_
  rintro e w2 ⟨rfl, hg⟩
  replace hg := kept_of hg
  have hg2 := (((Kept.refl _).alloc #[.int .i64 v1.1, .int .i64 v1.2] 23).trans hg)
  have R2 := Lib.hid (R1.out.kept hg2)
  have K2 := Lib.hid (K1.out.trans hg2)
  have D1 := Lib.hid ((Box2.new w1 (.int .i64 v1.1) (.int .i64 v1.2) 23).kept hg)
  have p1 : w1.heap.size < w2.heap.size := lt_of_kept hg
  replace q0 : w.heap.size < w2.heap.size := lt_kept hg2 q0
  clear hg hg2
  go_wp2_with fail
  go_at_call 27
  refine (A3.out _).mono ?_
  rintro e w3 ⟨rfl, hg⟩
  replace hg := kept_of hg
  have hg2 := hg
  have R3 := Lib.hid (R2.out.kept hg2)
  have K3 := Lib.hid (K2.out.trans hg2)
  have D1 := Lib.hid (D1.out.kept hg2)
  replace p1 : w1.heap.size < w3.heap.size := lt_kept hg2 p1
  replace q0 : w.heap.size < w3.heap.size := lt_kept hg2 q0
  clear hg hg2
  go_wp2_with fail
  go_at_call 28
  refine (A4.out _).mono ?_
  rintro e w4 ⟨rfl, hg⟩
  replace hg := kept_of hg
  have hg2 := hg
  have R4 := Lib.hid (R3.out.kept hg2)
  have K4 := Lib.hid (K3.out.trans hg2)
  have D1 := Lib.hid (D1.out.kept hg2)
  replace p1 : w1.heap.size < w4.heap.size := lt_kept hg2 p1
  replace q0 : w.heap.size < w4.heap.size := lt_kept hg2 q0
  clear hg hg2
  go_wp2_with fail
  go_at_call 25
  refine (A5.out _).mono ?_
  rintro e w5 ⟨rfl, hg⟩
  have hg2 := (((Kept.refl _).alloc #[.int .i64 k, .int .i64 n, .string t] 25).trans hg)
  have R5 := Lib.hid (R4.out.kept hg2)
  have K5 := Lib.hid (K4.out.trans hg2)
  have D4 := Lib.hid ((Box.newK w4 (.int .i64 k) (.int .i64 n) (.string t) 25).keptK hg)
  have p4 : w4.heap.size < w5.heap.size := lt_of_kept hg
  have D1 := Lib.hid (D1.out.kept hg2)
  replace p1 : w1.heap.size < w5.heap.size := lt_kept hg2 p1
  replace q0 : w.heap.size < w5.heap.size := lt_kept hg2 q0
  clear hg hg2
  have n1 : ¬ w.heap.size = w5.heap.size := (by omega)
  have n2 : ¬ w5.heap.size = w.heap.size := (by omega)
  have m1 : ¬ w1.heap.size = w5.heap.size := (by omega)
  have m1' : ¬ w5.heap.size = w1.heap.size := (by omega)
  have DD := D1.out
  have y10 := DD.c0; have y11 := DD.c1
  clear DD
  have m4 : ¬ w4.heap.size = w5.heap.size := (by omega)
  have m4' : ¬ w5.heap.size = w4.heap.size := (by omega)
  have DD := D4.out
  have y40 := DD.c0; have y41 := DD.c1; have y42 := DD.c2
  clear DD
  go_wp2_with fail
  go_at_call 10
  refine (AR.out _).mono ?_
  rintro e w6 ⟨rfl, hg⟩
  have hx : (w5.alloc (.cells #[.int .i64 v5.1, .int .i64 v5.2] 23)).heap.size = w5.heap.size + 1 := by simp
  have XX := (Ent.new (w5.alloc (.cells #[.int .i64 v5.1, .int .i64 v5.2] 23)) ⟨v1, v2, kk, k, n, t, v5⟩ 27).kept hg
  rw [hx] at XX
  have hg2 := (((Kept.refl w5).alloc #[.int .i64 v5.1, .int .i64 v5.2] 23).alloc #[.int .i64 v1.1, .int .i64 v1.2, .string v2, .int .i64 kk, .int .i64 k, .int .i64 n, .string t, .int .i64 v5.1, .int .i64 v5.2] 27).trans hg
  have RR := R5.out.kept hg2
  have K6 := Lib.hid (K5.out.trans hg2)
  clear hg hg2 hx
  have x0 := RR.ent.c0; have x1 := RR.ent.c1; have x2 := RR.ent.c2; have x3 := RR.ent.c3; have x4 := RR.ent.c4; have x5 := RR.ent.c5; have x6 := RR.ent.c6; have x7 := RR.ent.c7; have x8 := RR.ent.c8
  have u0 := XX.c0; have u1 := XX.c1; have u2 := XX.c2; have u3 := XX.c3; have u4 := XX.c4; have u5 := XX.c5; have u6 := XX.c6; have u7 := XX.c7; have u8 := XX.c8
  have xf := RR.f
  clear XX RR
  go_wp2_with fail
  refine bodyPost_ret (by simp [results, Tryd.results8, go_sem, *]) rfl ⟨HR.out, ?_⟩
  repeat (first | with_reducible exact K6.out | with_reducible refine Kept.drew ?_ | with_reducible refine Kept.alloc ?_ _ _ | with_reducible refine Kept.setCell ?_ (Nat.le_refl _) _)
end Go.Proofs.YtoanccojpppfoaaDoor

namespace Go.Proofs.YtoanccojpppfoaaDoor
open Go.RowKit
set_option linter.unusedVariables false

set_option maxRecDepth 100000 in
set_option maxHeartbeats 16000000 in
theorem ertake8 (s : ByteArray) (w : World) (hs : s.size ≤ 100000) (e1 : tdE s = 0) (e2 : ttE (r1 s) 102 = 0) (e3 : tkE (r2 s) = 0) (e4 : tvE (r3 s) = 0) (e5 : tdE (r4 s) = 0) (h6 : tkN (r2 s) ≤ 3) (hr : rightE (enK s (tkN (r2 s))) = true) :
    Calls Tryd.prog 8 #[.string s] w fun e w' => e = .returned (.tuple #[.agg #[.int .i64 (teX s).d.1, .int .i64 (teX s).d.2, .string (teX s).p, .int .i64 (teX s).k, .int .i64 (teX s).vk, .int .i64 (teX s).vn, .string (teX s).vt, .int .i64 (teX s).e.1, .int .i64 (teX s).e.2], .string (teR s), .int .i64 (teE s)]) ∧ Kept w w' := by
  obtain ⟨l1, l2, l3, l4⟩ := left_sizes s
  have HE : errE s = 0 := (err5 e1 e2 e3 e4).trans e5
  have HL : teL s = (enK s (tkN (r2 s)), r5 s, 0) := by unfold teL; rw [if_neg (by omega), if_pos ⟨h6, hr⟩]
  have sv : (enK s (tkN (r2 s))).p.size ≤ 102 := ttT_size _
  have st : (enK s (tkN (r2 s))).vt.size ≤ 200 := tvT_size _
  have AR := fun w => reright_c (enK s (tkN (r2 s))) true hr w (by omega) (by omega)
  have hkk : ((tkN (r2 s) : Nat) : Int) % 4 = (tkN (r2 s) : Nat) := by omega
  unfold enK at AR HL
  have hb3 : (0 : Int) ≤ (tkN (r2 s) : Nat) := (by omega)
  have h36 : ¬ (3 : Int) < (tkN (r2 s) : Nat) := (by omega)
  have A1 := fun w => rtakeD_c s _ (r1 s) 0 rfl rfl (by rw [e1]; rfl) hs w
  have A2 := fun w => rtakeText_c (r1 s) 102 _ (r2 s) 0 rfl rfl (by rw [e2]; rfl) (by omega) (by decide) (by decide) w
  have A3 := fun w => rtake_c (r2 s) _ (r3 s) 0 rfl rfl (by rw [e3]; rfl) (by omega) w
  have A4 := fun w => rvtake_c (r3 s) _ _ _ (r4 s) 0 rfl rfl rfl rfl (by rw [e4]; rfl) (by omega) w
  have A5 := fun w => rtakeD_c (r4 s) _ (r5 s) 0 rfl rfl (by rw [e5]; rfl) (by omega) w
  clear e1 e2 e3 e4 e5 hs l1 l2 l3 l4 HE h6 hr sv st
  have HR := te_ret HL (z := 0) rfl
  clear HL
  generalize r5 s = a5 at *
  generalize tdX (r4 s) = v5 at *
  generalize r4 s = a4 at *
  generalize tvT (r3 s) = t at *
  generalize tvI (r3 s) = n at *
  generalize tvK (r3 s) = k at *
  generalize r3 s = a3 at *
  generalize (tkN (r2 s) : Int) = v3 at *
  generalize r2 s = a2 at *
  generalize ttT (r1 s) 102 = v2 at *
  generalize r1 s = a1 at *
  generalize tdX s = v1 at *
  have A1 := Lib.hid A1
  have A2 := Lib.hid A2
  have A3 := Lib.hid A3
  have A4 := Lib.hid A4
  have A5 := Lib.hid A5
  have HR := Lib.hid HR
  have hand := u64_and3 v3
  have hwr : IntKind.i64.wrap (v3 % 4) = v3 % 4 := by rw [IntKind.wrap_i64]; omega
  generalize hq : v3 % 4 = kk at *
  have d3 : decide ((3 : Int) < v3) = false := decide_eq_false h36
  subst hkk
  have AR := Lib.hid AR
  clear hq h36 hb3
  have R0 := Lib.hid (Re.new w 27)
  have K0 := Lib.hid ((Kept.refl w).alloc #[.int .i64 0, .int .i64 0, .string ⟨#[]⟩, .int .i64 0, .int .i64 0, .int .i64 0, .string ⟨#[]⟩, .int .i64 0, .int .i64 0] 27)
  have q0 : w.heap.size < (w.alloc (.cells #[.int .i64 0, .int .i64 0, .string ⟨#[]⟩, .int .i64 0, .int .i64 0, .int .i64 0, .string ⟨#[]⟩, .int .i64 0, .int .i64 0] 27)).heap.size := (by simp)
  go_enter Tryd.func8, Tryd.ntmps8
  go_wp2_with fail
  go_at_call 25
  refine (A1.out _).mono ?_
  rintro e w1 ⟨rfl, hg⟩
  have hg2 := hg
  have R1 := Lib.hid (R0.out.kept hg2)
  have K1 := Lib.hid (K0.out.trans hg2)
  replace q0 : w.heap.size < w1.heap.size := lt_of_kept hg
  clear hg hg2
  go_wp2_with fail
  go_at_call 26
  refine (A2.out _).mono ?_
  rintro e w2 ⟨rfl, hg⟩
  replace hg := kept_of hg
  have hg2 := (((Kept.refl _).alloc #[.int .i64 v1.1, .int .i64 v1.2] 23).trans hg)
  have R2 := Lib.hid (R1.out.kept hg2)
  have K2 := Lib.hid (K1.out.trans hg2)
  have D1 := Lib.hid ((Box2.new w1 (.int .i64 v1.1) (.int .i64 v1.2) 23).kept hg)
  have p1 : w1.heap.size < w2.heap.size := lt_of_kept hg
  replace q0 : w.heap.size < w2.heap.size := lt_kept hg2 q0
  clear hg hg2
  go_wp2_with fail
  go_at_call 27
  refine (A3.out _).mono ?_
  rintro e w3 ⟨rfl, hg⟩
  replace hg := kept_of hg
  have hg2 := hg
  have R3 := Lib.hid (R2.out.kept hg2)
  have K3 := Lib.hid (K2.out.trans hg2)
  have D1 := Lib.hid (D1.out.kept hg2)
  replace p1 : w1.heap.size < w3.heap.size := lt_kept hg2 p1
  replace q0 : w.heap.size < w3.heap.size := lt_kept hg2 q0
  clear hg hg2
  go_wp2_with fail
  go_at_call 28
  refine (A4.out _).mono ?_
  rintro e w4 ⟨rfl, hg⟩
  replace hg := kept_of hg
  have hg2 := hg
  have R4 := Lib.hid (R3.out.kept hg2)
  have K4 := Lib.hid (K3.out.trans hg2)
  have D1 := Lib.hid (D1.out.kept hg2)
  replace p1 : w1.heap.size < w4.heap.size := lt_kept hg2 p1
  replace q0 : w.heap.size < w4.heap.size := lt_kept hg2 q0
  clear hg hg2
  go_wp2_with fail
  go_at_call 25
  refine (A5.out _).mono ?_
  rintro e w5 ⟨rfl, hg⟩
  have hg2 := (((Kept.refl _).alloc #[.int .i64 k, .int .i64 n, .string t] 25).trans hg)
  have R5 := Lib.hid (R4.out.kept hg2)
  have K5 := Lib.hid (K4.out.trans hg2)
  have D4 := Lib.hid ((Box.newK w4 (.int .i64 k) (.int .i64 n) (.string t) 25).keptK hg)
  have p4 : w4.heap.size < w5.heap.size := lt_of_kept hg
  have D1 := Lib.hid (D1.out.kept hg2)
  replace p1 : w1.heap.size < w5.heap.size := lt_kept hg2 p1
  replace q0 : w.heap.size < w5.heap.size := lt_kept hg2 q0
  clear hg hg2
  have n1 : ¬ w.heap.size = w5.heap.size := (by omega)
  have n2 : ¬ w5.heap.size = w.heap.size := (by omega)
  have m1 : ¬ w1.heap.size = w5.heap.size := (by omega)
  have m1' : ¬ w5.heap.size = w1.heap.size := (by omega)
  have DD := D1.out
  have y10 := DD.c0; have y11 := DD.c1
  clear DD
  have m4 : ¬ w4.heap.size = w5.heap.size := (by omega)
  have m4' : ¬ w5.heap.size = w4.heap.size := (by omega)
  have DD := D4.out
  have y40 := DD.c0; have y41 := DD.c1; have y42 := DD.c2
  clear DD
  go_wp2_with fail
  go_at_call 10
  refine (AR.out _).mono ?_
  rintro e w6 ⟨rfl, hg⟩
  have hx : (w5.alloc (.cells #[.int .i64 v5.1, .int .i64 v5.2] 23)).heap.size = w5.heap.size + 1 := by simp
  have XX := (Ent.new (w5.alloc (.cells #[.int .i64 v5.1, .int .i64 v5.2] 23)) ⟨v1, v2, kk, k, n, t, v5⟩ 27).kept hg
  rw [hx] at XX
  have hg2 := (((Kept.refl w5).alloc #[.int .i64 v5.1, .int .i64 v5.2] 23).alloc #[.int .i64 v1.1, .int .i64 v1.2, .string v2, .int .i64 kk, .int .i64 k, .int .i64 n, .string t, .int .i64 v5.1, .int .i64 v5.2] 27).trans hg
  have RR := R5.out.kept hg2
  have K6 := Lib.hid (K5.out.trans hg2)
  clear hg hg2 hx
  have x0 := RR.ent.c0; have x1 := RR.ent.c1; have x2 := RR.ent.c2; have x3 := RR.ent.c3; have x4 := RR.ent.c4; have x5 := RR.ent.c5; have x6 := RR.ent.c6; have x7 := RR.ent.c7; have x8 := RR.ent.c8
  have u0 := XX.c0; have u1 := XX.c1; have u2 := XX.c2; have u3 := XX.c3; have u4 := XX.c4; have u5 := XX.c5; have u6 := XX.c6; have u7 := XX.c7; have u8 := XX.c8
  have xf := RR.f
  clear XX RR
  go_wp2_with fail
  refine bodyPost_ret (by simp [results, Tryd.results8, go_sem, *]) rfl ⟨HR.out, ?_⟩
  repeat (first | with_reducible exact K6.out | with_reducible refine Kept.drew ?_ | with_reducible refine Kept.alloc ?_ _ _ | with_reducible refine Kept.setCell ?_ (Nat.le_refl _) _)
end Go.Proofs.YtoanccojpppfoaaDoor

namespace Go.Proofs.YtoanccojpppfoaaDoor
open Go.RowKit

theorem ertake_any (s : ByteArray) (w : World) (hs : s.size ≤ 100000) :
    Calls Tryd.prog 8 #[.string s] w fun e w' => e = .returned (.tuple #[.agg #[.int .i64 (teX s).d.1, .int .i64 (teX s).d.2, .string (teX s).p, .int .i64 (teX s).k, .int .i64 (teX s).vk, .int .i64 (teX s).vn, .string (teX s).vt, .int .i64 (teX s).e.1, .int .i64 (teX s).e.2], .string (teR s), .int .i64 (teE s)]) ∧ Kept w w' := by
  by_cases e1 : tdE s = 0
  · by_cases e2 : ttE (r1 s) 102 = 0
    · by_cases e3 : tkE (r2 s) = 0
      · by_cases e4 : tvE (r3 s) = 0
        · by_cases e5 : tdE (r4 s) = 0
          · by_cases h6 : 3 < tkN (r2 s)
            · exact ertake6 s w hs e1 e2 e3 e4 e5 h6
            · cases hr : rightE (enK s (tkN (r2 s))) with
              | false => exact ertake7 s w hs e1 e2 e3 e4 e5 (by omega) hr
              | true => exact ertake8 s w hs e1 e2 e3 e4 e5 (by omega) hr
          · exact ertake5 s w hs e1 e2 e3 e4 e5
        · exact ertake4 s w hs e1 e2 e3 e4
      · exact ertake3 s w hs e1 e2 e3
    · exact ertake2 s w hs e1 e2
  · exact ertake1 s w hs e1
theorem ertake_c (s : ByteArray) (x : En) (r : ByteArray) (k : Int) (h1 : teX s = x) (h2 : teR s = r) (h3 : (teE s : Int) = k) (hs : s.size ≤ 100000) (w : World) :
    Calls Tryd.prog 8 #[.string s] w fun e w' => e = .returned (.tuple #[.agg #[.int .i64 x.d.1, .int .i64 x.d.2, .string x.p, .int .i64 x.k, .int .i64 x.vk, .int .i64 x.vn, .string x.vt, .int .i64 x.e.1, .int .i64 x.e.2], .string r, .int .i64 k]) ∧ Kept w w' := by
  subst h1 h2 h3; exact ertake_any s w hs
end Go.Proofs.YtoanccojpppfoaaDoor

