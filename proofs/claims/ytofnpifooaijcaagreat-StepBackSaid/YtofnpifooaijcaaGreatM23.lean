/-
  What is proved: package source's Next, at tables, called with what is taken so far, takes the next part, or nothing behind an error; the world has new blocks at most, and what is left to take has changed.
  package step's Take (P14.6), by package source, called with any text of up to 100000 bytes, returns the step that it begins with, and what follows it, or the first error; the world has new blocks at most.
-/
import Derived.Test.YtofnpifooaijcaaGreatM17
import Derived.Test.YtofnpifooaijcaaGreatHTTake
import Derived.Test.YtofnpifooaijcaaGreatM18
import Derived.Test.YtofnpifooaijcaaGreatM21
import Derived.Test.YtofnpifooaijcaaGreatFSField2
import Derived.Test.YtofnpifooaijcaaGreatM12
namespace Go.Proofs.YtofnpifooaijcaaGreat
open Go.RowKit
set_option linter.unusedVariables false
theorem TabZ.zero (w : World) (ty : TypeId) : TabZ (w.alloc (.cells #[.slice none 0 0, .bool false, .int .i64 0, .int .i64 0, .string ⟨#[]⟩, .int .i64 0, .int .i64 0, .string ⟨#[]⟩, .bool false] ty)) w.heap.size (.slice none 0 0) false false := TabZ.new w false false ty
set_option maxRecDepth 100000 in
set_option maxHeartbeats 16000000 in
theorem nextB_any (w : World) (b o : Nat) (r : ByteArray) (z : Nat) (T : SouO w b o r z) (v : Tb) (r' : ByteArray) (z' : Nat) (h : NxR Tb.none ttbL r z v r' z') (hs : r.size ≤ 100000) :
    Calls Tryz.prog 44 #[.pointer (some ⟨b, o, none⟩), .func (.func 45) #[] #[]] w fun e w' => ∃ A n c, e = .returned (.agg #[.slice A n c, .bool v.keep, .int .i64 v.d.k, .int .i64 v.d.n, .string v.d.t, .int .i64 v.b.k, .int .i64 v.b.n, .string v.b.t, .bool v.tu]) ∧ Pal w' A n c v.L ∧ (∀ ad, A = some ad → w.heap.size ≤ ad.block) ∧ SouP w w' b o r' z' := by
  have hb := T.lt
  have K1 := (Kept.refl w).alloc #[.slice none 0 0, .bool false, .int .i64 0, .int .i64 0, .string ⟨#[]⟩, .int .i64 0, .int .i64 0, .string ⟨#[]⟩, .bool false] 31
  have K2 := K1.alloc #[.slice none 0 0, .bool false, .int .i64 0, .int .i64 0, .string ⟨#[]⟩, .int .i64 0, .int .i64 0, .string ⟨#[]⟩, .bool false] 31
  have T2 := T.kept K2
  have HB := Lib.hid hb
  have n1 : w.heap.size ≠ b := by omega
  have n3 : w.heap.size + 1 ≠ b := by omega
  have n4 : ¬ b = w.heap.size := by omega
  have n5 : ¬ b = w.heap.size + 1 := by omega
  have hz1 : (w.alloc (.cells #[.slice none 0 0, .bool false, .int .i64 0, .int .i64 0, .string ⟨#[]⟩, .int .i64 0, .int .i64 0, .string ⟨#[]⟩, .bool false] 31)).heap.size = w.heap.size + 1 := by simp
  have b1 := (TabZ.zero w 31).kept ((Kept.refl _).alloc #[.slice none 0 0, .bool false, .int .i64 0, .int .i64 0, .string ⟨#[]⟩, .int .i64 0, .int .i64 0, .string ⟨#[]⟩, .bool false] 31)
  have b2 := TabZ.zero (w.alloc (.cells #[.slice none 0 0, .bool false, .int .i64 0, .int .i64 0, .string ⟨#[]⟩, .int .i64 0, .int .i64 0, .string ⟨#[]⟩, .bool false] 31)) 31
  rw [hz1] at b2
  obtain ⟨U, hU⟩ : ∃ U, (w.alloc (.cells #[.slice none 0 0, .bool false, .int .i64 0, .int .i64 0, .string ⟨#[]⟩, .int .i64 0, .int .i64 0, .string ⟨#[]⟩, .bool false] 31)).alloc (.cells #[.slice none 0 0, .bool false, .int .i64 0, .int .i64 0, .string ⟨#[]⟩, .int .i64 0, .int .i64 0, .string ⟨#[]⟩, .bool false] 31) = U := ⟨_, rfl⟩
  rw [hU] at K2 T2 b1 b2
  have HT := Lib.hid T2; have HK2 := Lib.hid K2; have HUU := Lib.hid hU; have HB1 := Lib.hid b1; have HB2 := Lib.hid b2
  have c1 := T2.c1
  clear T T2 K1 K2 hb hz1 hU b1 b2
  rcases h with ⟨rfl, h1⟩ | ⟨hz, rfl, rfl, rfl⟩
  · have hUs : U.heap.size = w.heap.size + 2 := by rw [← HUU.out]; simp
    have A1 : ∀ W : World, Calls Tryz.prog 45 #[.string r] W fun e w' => ∃ A n c, e = .returned (.tuple #[.agg #[.slice A n c, .bool v.keep, .int .i64 v.d.k, .int .i64 v.d.n, .string v.d.t, .int .i64 v.b.k, .int .i64 v.b.n, .string v.b.t, .bool v.tu], .string r', .int .i64 (z' : Int)]) ∧ Pal w' A n c v.L ∧ (∀ ad, A = some ad → W.heap.size ≤ ad.block) ∧ Kept W w' := fun W => (httakeB_any r W (by omega)).mono fun e w' hh => by
      obtain ⟨A, c, e1, e2, e3, e4⟩ := hh
      rw [h1] at e1 e2
      exact ⟨A, _, c, e1, e2, e4, e3⟩
    replace A1 := Lib.hid A1
    clear h1 hs
    have c0 := HT.out.c0
    go_enter Tryz.func44, Tryz.ntmps44
    go_wp2_with (rw [HUU.out])
    go_at_call 45
    refine (A1.out _).mono ?_
    rintro e w1 ⟨A, n, c, rfl, hpl, hpA, hg⟩
    have HPL := Lib.hid hpl; have HPA := Lib.hid (show ∀ ad, A = some ad → w.heap.size + 2 ≤ ad.block from fun ad e => by have := hpA ad e; have := hUs; omega)
    clear hpl hpA
    have hp := (SouP.of HT.out hg).first HK2.out HB.out
    have HP := Lib.hid hp
    replace HB1 := Lib.hid (HB1.out.kept hg); replace HB2 := Lib.hid (HB2.out.kept hg)
    clear hp hg c0 c1
    have d0 := HP.out.s.c0; have d1 := HP.out.s.c1; have df := HP.out.s.f
    have q0 := HB2.out.c0; have q1 := HB2.out.c1; have q2 := HB2.out.c2; have q3 := HB2.out.c3; have q4 := HB2.out.c4; have q5 := HB2.out.c5; have q6 := HB2.out.c6; have q7 := HB2.out.c7; have q8 := HB2.out.c8; have qf := HB2.out.f
    have p0 := HB1.out.c0; have p1 := HB1.out.c1; have p2 := HB1.out.c2; have p3 := HB1.out.c3; have p4 := HB1.out.c4; have p5 := HB1.out.c5; have p6 := HB1.out.c6; have p7 := HB1.out.c7; have p8 := HB1.out.c8; have pf := HB1.out.f
    go_wp2_with fail
    refine bodyPost_ret (by simp [results, Tryz.results44, go_sem, *]) rfl ⟨A, n, c, rfl, ((((((((((((((((((((HPL.out.setLow HPA.out (w.heap.size + 1) 0 (by omega) _).setLow HPA.out (w.heap.size + 1) 1 (by omega) _).setLow HPA.out (w.heap.size + 1) 2 (by omega) _).setLow HPA.out (w.heap.size + 1) 3 (by omega) _).setLow HPA.out (w.heap.size + 1) 4 (by omega) _).setLow HPA.out (w.heap.size + 1) 5 (by omega) _).setLow HPA.out (w.heap.size + 1) 6 (by omega) _).setLow HPA.out (w.heap.size + 1) 7 (by omega) _).setLow HPA.out (w.heap.size + 1) 8 (by omega) _).setLow HPA.out b o (by have := HB.out; omega) _).setLow HPA.out b (o + 1) (by have := HB.out; omega) _).setLow HPA.out w.heap.size 0 (by omega) _).setLow HPA.out w.heap.size 1 (by omega) _).setLow HPA.out w.heap.size 2 (by omega) _).setLow HPA.out w.heap.size 3 (by omega) _).setLow HPA.out w.heap.size 4 (by omega) _).setLow HPA.out w.heap.size 5 (by omega) _).setLow HPA.out w.heap.size 6 (by omega) _).setLow HPA.out w.heap.size 7 (by omega) _).setLow HPA.out w.heap.size 8 (by omega) _), fun ad e => by have := HPA.out ad e; omega, ((((((((((((((((((((HP.out.far (g := w.heap.size + 1) (Nat.le_succ _) _).far (g := w.heap.size + 1) (Nat.le_succ _) _).far (g := w.heap.size + 1) (Nat.le_succ _) _).far (g := w.heap.size + 1) (Nat.le_succ _) _).far (g := w.heap.size + 1) (Nat.le_succ _) _).far (g := w.heap.size + 1) (Nat.le_succ _) _).far (g := w.heap.size + 1) (Nat.le_succ _) _).far (g := w.heap.size + 1) (Nat.le_succ _) _).far (g := w.heap.size + 1) (Nat.le_succ _) _).set0 r').set1 z').far (g := w.heap.size) (Nat.le_refl _) _).far (g := w.heap.size) (Nat.le_refl _) _).far (g := w.heap.size) (Nat.le_refl _) _).far (g := w.heap.size) (Nat.le_refl _) _).far (g := w.heap.size) (Nat.le_refl _) _).far (g := w.heap.size) (Nat.le_refl _) _).far (g := w.heap.size) (Nat.le_refl _) _).far (g := w.heap.size) (Nat.le_refl _) _).far (g := w.heap.size) (Nat.le_refl _) _)⟩
  · have e0 : (((z' : Nat) : Int) == 0) = false := by simp; omega
    clear hz hs
    have q0 := HB2.out.c0; have q1 := HB2.out.c1; have q2 := HB2.out.c2; have q3 := HB2.out.c3; have q4 := HB2.out.c4; have q5 := HB2.out.c5; have q6 := HB2.out.c6; have q7 := HB2.out.c7; have q8 := HB2.out.c8; have qf := HB2.out.f
    have p0 := HB1.out.c0; have p1 := HB1.out.c1; have p2 := HB1.out.c2; have p3 := HB1.out.c3; have p4 := HB1.out.c4; have p5 := HB1.out.c5; have p6 := HB1.out.c6; have p7 := HB1.out.c7; have p8 := HB1.out.c8; have pf := HB1.out.f
    go_enter Tryz.func44, Tryz.ntmps44
    go_wp2_with (rw [HUU.out])
    refine bodyPost_ret (by simp [results, Tryz.results44, go_sem, Tb.none, Va.zero, *]) rfl ⟨none, 0, 0, rfl, Pal.nil _, fun ad e => (by cases e), (((((((((((SouP.of HT.out (Kept.refl _)).first HK2.out HB.out).far (g := w.heap.size) (Nat.le_refl _) _).far (g := w.heap.size) (Nat.le_refl _) _).far (g := w.heap.size) (Nat.le_refl _) _).far (g := w.heap.size) (Nat.le_refl _) _).far (g := w.heap.size) (Nat.le_refl _) _).far (g := w.heap.size) (Nat.le_refl _) _).far (g := w.heap.size) (Nat.le_refl _) _).far (g := w.heap.size) (Nat.le_refl _) _).far (g := w.heap.size) (Nat.le_refl _) _)⟩
set_option maxRecDepth 100000 in
set_option maxHeartbeats 32000000 in
theorem sttake_any (s : ByteArray) (w : World) (hs : s.size ≤ 100000) :
    Calls Tryz.prog 10 #[.string s] w (TakeE s w) := by
  have hk := (((Kept.refl w).alloc #[.int .i64 0, .string ⟨#[]⟩, .string ⟨#[]⟩, .string ⟨#[]⟩, .int .i64 0, .int .i64 0, .int .i64 0, .int .i64 0, .string ⟨#[]⟩, .int .i64 0, .int .i64 0, .string ⟨#[]⟩, .int .i64 0, .int .i64 0, .slice none 0 0, .bool false, .int .i64 0, .int .i64 0, .string ⟨#[]⟩, .int .i64 0, .int .i64 0, .string ⟨#[]⟩, .bool false] 33).alloc #[.string s, .int .i64 0] 61).alloc #[.int .i64 0, .string ⟨#[]⟩, .string ⟨#[]⟩, .string ⟨#[]⟩, .int .i64 0, .int .i64 0, .int .i64 0, .int .i64 0, .string ⟨#[]⟩, .int .i64 0, .int .i64 0, .string ⟨#[]⟩, .int .i64 0, .int .i64 0, .slice none 0 0, .bool false, .int .i64 0, .int .i64 0, .string ⟨#[]⟩, .int .i64 0, .int .i64 0, .string ⟨#[]⟩, .bool false] 33
  have hr := ((StB.zero w 33).kept ((Kept.refl _).alloc #[.string s, .int .i64 0] 61)).kept ((Kept.refl _).alloc #[.int .i64 0, .string ⟨#[]⟩, .string ⟨#[]⟩, .string ⟨#[]⟩, .int .i64 0, .int .i64 0, .int .i64 0, .int .i64 0, .string ⟨#[]⟩, .int .i64 0, .int .i64 0, .string ⟨#[]⟩, .int .i64 0, .int .i64 0, .slice none 0 0, .bool false, .int .i64 0, .int .i64 0, .string ⟨#[]⟩, .int .i64 0, .int .i64 0, .string ⟨#[]⟩, .bool false] 33)
  have ho := (SouO.newS (w.alloc (.cells #[.int .i64 0, .string ⟨#[]⟩, .string ⟨#[]⟩, .string ⟨#[]⟩, .int .i64 0, .int .i64 0, .int .i64 0, .int .i64 0, .string ⟨#[]⟩, .int .i64 0, .int .i64 0, .string ⟨#[]⟩, .int .i64 0, .int .i64 0, .slice none 0 0, .bool false, .int .i64 0, .int .i64 0, .string ⟨#[]⟩, .int .i64 0, .int .i64 0, .string ⟨#[]⟩, .bool false] 33)) s 61).kept ((Kept.refl _).alloc #[.int .i64 0, .string ⟨#[]⟩, .string ⟨#[]⟩, .string ⟨#[]⟩, .int .i64 0, .int .i64 0, .int .i64 0, .int .i64 0, .string ⟨#[]⟩, .int .i64 0, .int .i64 0, .string ⟨#[]⟩, .int .i64 0, .int .i64 0, .slice none 0 0, .bool false, .int .i64 0, .int .i64 0, .string ⟨#[]⟩, .int .i64 0, .int .i64 0, .string ⟨#[]⟩, .bool false] 33)
  have hx := StB.zero ((w.alloc (.cells #[.int .i64 0, .string ⟨#[]⟩, .string ⟨#[]⟩, .string ⟨#[]⟩, .int .i64 0, .int .i64 0, .int .i64 0, .int .i64 0, .string ⟨#[]⟩, .int .i64 0, .int .i64 0, .string ⟨#[]⟩, .int .i64 0, .int .i64 0, .slice none 0 0, .bool false, .int .i64 0, .int .i64 0, .string ⟨#[]⟩, .int .i64 0, .int .i64 0, .string ⟨#[]⟩, .bool false] 33)).alloc (.cells #[.string s, .int .i64 0] 61)) 33
  rw [show (w.alloc (.cells #[.int .i64 0, .string ⟨#[]⟩, .string ⟨#[]⟩, .string ⟨#[]⟩, .int .i64 0, .int .i64 0, .int .i64 0, .int .i64 0, .string ⟨#[]⟩, .int .i64 0, .int .i64 0, .string ⟨#[]⟩, .int .i64 0, .int .i64 0, .slice none 0 0, .bool false, .int .i64 0, .int .i64 0, .string ⟨#[]⟩, .int .i64 0, .int .i64 0, .string ⟨#[]⟩, .bool false] 33)).heap.size = w.heap.size + 1 by simp] at ho
  rw [show ((w.alloc (.cells #[.int .i64 0, .string ⟨#[]⟩, .string ⟨#[]⟩, .string ⟨#[]⟩, .int .i64 0, .int .i64 0, .int .i64 0, .int .i64 0, .string ⟨#[]⟩, .int .i64 0, .int .i64 0, .string ⟨#[]⟩, .int .i64 0, .int .i64 0, .slice none 0 0, .bool false, .int .i64 0, .int .i64 0, .string ⟨#[]⟩, .int .i64 0, .int .i64 0, .string ⟨#[]⟩, .bool false] 33)).alloc (.cells #[.string s, .int .i64 0] 61)).heap.size = w.heap.size + 2 by simp] at hx
  obtain ⟨U, hU⟩ : ∃ U, ((w.alloc (.cells #[.int .i64 0, .string ⟨#[]⟩, .string ⟨#[]⟩, .string ⟨#[]⟩, .int .i64 0, .int .i64 0, .int .i64 0, .int .i64 0, .string ⟨#[]⟩, .int .i64 0, .int .i64 0, .string ⟨#[]⟩, .int .i64 0, .int .i64 0, .slice none 0 0, .bool false, .int .i64 0, .int .i64 0, .string ⟨#[]⟩, .int .i64 0, .int .i64 0, .string ⟨#[]⟩, .bool false] 33)).alloc (.cells #[.string s, .int .i64 0] 61)).alloc (.cells #[.int .i64 0, .string ⟨#[]⟩, .string ⟨#[]⟩, .string ⟨#[]⟩, .int .i64 0, .int .i64 0, .int .i64 0, .int .i64 0, .string ⟨#[]⟩, .int .i64 0, .int .i64 0, .string ⟨#[]⟩, .int .i64 0, .int .i64 0, .slice none 0 0, .bool false, .int .i64 0, .int .i64 0, .string ⟨#[]⟩, .int .i64 0, .int .i64 0, .string ⟨#[]⟩, .bool false] 33) = U := ⟨_, rfl⟩
  rw [hU] at hk hr ho hx
  obtain ⟨k, r1, z1, h1⟩ := numO_ex 10 3 s 0
  obtain ⟨p, r2, z2, h2⟩ := nxR_ex (⟨#[]⟩ : ByteArray) (fun s => ttL s 102) r1 z1
  obtain ⟨nm, r3, z3, h3⟩ := nxR_ex (⟨#[]⟩ : ByteArray) (fun s => ttL s 16) r2 z2
  obtain ⟨f, r4, z4, h4⟩ := nxR_ex Fd.none fdL r3 z3
  obtain ⟨d, r5, z5, h5⟩ := nxR_ex Va.zero tvF r4 z4
  obtain ⟨a, r6, z6, h6⟩ := nxR_ex (0 : Int) tkI r5 z5
  obtain ⟨b, r7, z7, h7⟩ := nxR_ex (0 : Int) tkI r6 z6
  obtain ⟨T, r8, z8, h8⟩ := nxR_ex Tb.none ttbL r7 z7
  have hl := st_chain h1 h2 h3 h4 h5 h6 h7 h8
  have hs1 : r1.size ≤ 100000 := Nat.le_trans h1.sz hs
  have hs2 : r2.size ≤ 100000 := Nat.le_trans h2.szT hs1
  have hs3 : r3.size ≤ 100000 := Nat.le_trans h3.szT hs2
  have hs4 : r4.size ≤ 100000 := Nat.le_trans h4.szF hs3
  have hs5 : r5.size ≤ 100000 := Nat.le_trans h5.szV hs4
  have hs6 : r6.size ≤ 100000 := Nat.le_trans h6.szI hs5
  have hs7 : r7.size ≤ 100000 := Nat.le_trans h7.szI hs6
  have hk10 := h1.le
  have HKW := Lib.hid (show IntKind.i64.wrap (k : Int) = (k : Int) from IntWalk.i64_in _ (by omega))
  have HK := Lib.hid hk; have HR := Lib.hid hr; have HO := Lib.hid ho; have HX := Lib.hid hx; have HUU := Lib.hid hU; have HL := Lib.hid hl
  have H1 := Lib.hid h1; have H2 := Lib.hid h2; have H3 := Lib.hid h3; have H4 := Lib.hid h4; have H5 := Lib.hid h5; have H6 := Lib.hid h6; have H7 := Lib.hid h7; have H8 := Lib.hid h8
  have HS := Lib.hid hs; have HS1 := Lib.hid hs1; have HS2 := Lib.hid hs2; have HS3 := Lib.hid hs3; have HS4 := Lib.hid hs4; have HS5 := Lib.hid hs5; have HS6 := Lib.hid hs6; have HS7 := Lib.hid hs7
  have N1 := Lib.hid (show w.heap.size ≠ w.heap.size + 1 by omega); have N2 := Lib.hid (show w.heap.size + 2 ≠ w.heap.size + 1 by omega); have N3 := Lib.hid (show w.heap.size + 2 ≠ w.heap.size by omega)
  clear hk hr ho hx hU hl h1 h2 h3 h4 h5 h6 h7 h8 hs hs1 hs2 hs3 hs4 hs5 hs6 hs7 hk10
  go_enter Tryz.func10, Tryz.ntmps10
  go_wp2_with (rw [HUU.out])
  go_at_call 36
  refine (number_any _ (w.heap.size + 1) 0 10 3 s 0 HO.out k r1 z1 H1.out HS.out).mono ?_
  rintro e u1 ⟨rfl, hp⟩
  replace HK := Lib.hid (hp.k.kept HK.out (by omega)); replace HR := Lib.hid (HR.out.keptE hp.k N1.out); replace HX := Lib.hid (HX.out.keptE hp.k N2.out)
  replace HO := Lib.hid hp.s
  clear hp
  have kw := HKW.out
  have f0 := HX.out.c0; have ff := HX.out.f
  have hx9 : StB _ (w.heap.size + 2) none 0 0 ⟨(k : Int), ⟨#[]⟩, ⟨#[]⟩, Fd.none, Va.zero, 0, 0, Tb.none⟩ := HX.out.setK (k : Int)
  replace HO := Lib.hid (HO.out.farO (g := w.heap.size + 2) (i := 0) N2.out (.int .i64 (k : Int))); replace HR := Lib.hid (HR.out.far (g := w.heap.size + 2) (i := 0) N3.out (.int .i64 (k : Int))); replace HK := Lib.hid (HK.out.setCell (a := ⟨w.heap.size + 2, 0, none⟩) (Nat.le_add_right _ 2) (.int .i64 (k : Int)))
  obtain ⟨v1, hv1⟩ : ∃ u, (World.setCell u1 ⟨w.heap.size + 2, 0, none⟩ (.int .i64 (k : Int))) = u := ⟨_, rfl⟩
  rw [hv1] at hx9 HO HR HK
  have HV1 := Lib.hid hv1
  replace HX := Lib.hid hx9
  clear hv1 hx9
  go_wp2_with (rw [HV1.out])
  clear kw
  clear ff f0
  go_at_call 37
  refine (text_any' _ (w.heap.size + 1) 0 102 r1 z1 HO.out p r2 z2 H2.out HS1.out (by decide) (by decide)).mono ?_
  rintro e u2 ⟨rfl, hp⟩
  replace HK := Lib.hid (hp.k.kept HK.out (by omega)); replace HR := Lib.hid (HR.out.keptE hp.k N1.out); replace HX := Lib.hid (HX.out.keptE hp.k N2.out)
  replace HO := Lib.hid hp.s
  clear hp
  have f1 := HX.out.c1; have ff := HX.out.f
  have hx9 : StB _ (w.heap.size + 2) none 0 0 ⟨(k : Int), p, ⟨#[]⟩, Fd.none, Va.zero, 0, 0, Tb.none⟩ := HX.out.setP p
  replace HO := Lib.hid (HO.out.farO (g := w.heap.size + 2) (i := 1) N2.out (.string p)); replace HR := Lib.hid (HR.out.far (g := w.heap.size + 2) (i := 1) N3.out (.string p)); replace HK := Lib.hid (HK.out.setCell (a := ⟨w.heap.size + 2, 1, none⟩) (Nat.le_add_right _ 2) (.string p))
  obtain ⟨v2, hv2⟩ : ∃ u, (World.setCell u2 ⟨w.heap.size + 2, 1, none⟩ (.string p)) = u := ⟨_, rfl⟩
  rw [hv2] at hx9 HO HR HK
  have HV2 := Lib.hid hv2
  replace HX := Lib.hid hx9
  clear hv2 hx9
  go_wp2_with (rw [HV2.out])
  clear ff f1
  go_at_call 37
  refine (text_any' _ (w.heap.size + 1) 0 16 r2 z2 HO.out nm r3 z3 H3.out HS2.out (by decide) (by decide)).mono ?_
  rintro e u3 ⟨rfl, hp⟩
  replace HK := Lib.hid (hp.k.kept HK.out (by omega)); replace HR := Lib.hid (HR.out.keptE hp.k N1.out); replace HX := Lib.hid (HX.out.keptE hp.k N2.out)
  replace HO := Lib.hid hp.s
  clear hp
  have f2 := HX.out.c2; have ff := HX.out.f
  have hx9 : StB _ (w.heap.size + 2) none 0 0 ⟨(k : Int), p, nm, Fd.none, Va.zero, 0, 0, Tb.none⟩ := HX.out.setN nm
  replace HO := Lib.hid (HO.out.farO (g := w.heap.size + 2) (i := 2) N2.out (.string nm)); replace HR := Lib.hid (HR.out.far (g := w.heap.size + 2) (i := 2) N3.out (.string nm)); replace HK := Lib.hid (HK.out.setCell (a := ⟨w.heap.size + 2, 2, none⟩) (Nat.le_add_right _ 2) (.string nm))
  obtain ⟨v3, hv3⟩ : ∃ u, (World.setCell u3 ⟨w.heap.size + 2, 2, none⟩ (.string nm)) = u := ⟨_, rfl⟩
  rw [hv3] at hx9 HO HR HK
  have HV3 := Lib.hid hv3
  replace HX := Lib.hid hx9
  clear hv3 hx9
  go_wp2_with (rw [HV3.out])
  clear ff f2
  go_at_call 38
  refine (nextF_any _ (w.heap.size + 1) 0 r3 z3 HO.out f r4 z4 H4.out HS3.out).mono ?_
  rintro e u4 ⟨rfl, hp⟩
  replace HK := Lib.hid (hp.k.kept HK.out (by omega)); replace HR := Lib.hid (HR.out.keptE hp.k N1.out); replace HX := Lib.hid (HX.out.keptE hp.k N2.out)
  replace HO := Lib.hid hp.s
  clear hp
  have f3 := HX.out.c3; have f4 := HX.out.c4; have f5 := HX.out.c5; have f6 := HX.out.c6; have f7 := HX.out.c7; have f8 := HX.out.c8; have ff := HX.out.f
  have hx9 : StB _ (w.heap.size + 2) none 0 0 ⟨(k : Int), p, nm, f, Va.zero, 0, 0, Tb.none⟩ := HX.out.setFd f
  replace HO := Lib.hid ((((((HO.out.farO (g := w.heap.size + 2) (i := 3) N2.out (.string f.p)).farO (g := w.heap.size + 2) (i := 4) N2.out (.int .i64 f.k)).farO (g := w.heap.size + 2) (i := 5) N2.out (.int .i64 f.t)).farO (g := w.heap.size + 2) (i := 6) N2.out (.int .i64 f.vk)).farO (g := w.heap.size + 2) (i := 7) N2.out (.int .i64 f.vn)).farO (g := w.heap.size + 2) (i := 8) N2.out (.string f.vt)); replace HR := Lib.hid ((((((HR.out.far (g := w.heap.size + 2) (i := 3) N3.out (.string f.p)).far (g := w.heap.size + 2) (i := 4) N3.out (.int .i64 f.k)).far (g := w.heap.size + 2) (i := 5) N3.out (.int .i64 f.t)).far (g := w.heap.size + 2) (i := 6) N3.out (.int .i64 f.vk)).far (g := w.heap.size + 2) (i := 7) N3.out (.int .i64 f.vn)).far (g := w.heap.size + 2) (i := 8) N3.out (.string f.vt)); replace HK := Lib.hid ((((((HK.out.setCell (a := ⟨w.heap.size + 2, 3, none⟩) (Nat.le_add_right _ 2) (.string f.p)).setCell (a := ⟨w.heap.size + 2, 4, none⟩) (Nat.le_add_right _ 2) (.int .i64 f.k)).setCell (a := ⟨w.heap.size + 2, 5, none⟩) (Nat.le_add_right _ 2) (.int .i64 f.t)).setCell (a := ⟨w.heap.size + 2, 6, none⟩) (Nat.le_add_right _ 2) (.int .i64 f.vk)).setCell (a := ⟨w.heap.size + 2, 7, none⟩) (Nat.le_add_right _ 2) (.int .i64 f.vn)).setCell (a := ⟨w.heap.size + 2, 8, none⟩) (Nat.le_add_right _ 2) (.string f.vt))
  obtain ⟨v4, hv4⟩ : ∃ u, (World.setCell (World.setCell (World.setCell (World.setCell (World.setCell (World.setCell u4 ⟨w.heap.size + 2, 3, none⟩ (.string f.p)) ⟨w.heap.size + 2, 4, none⟩ (.int .i64 f.k)) ⟨w.heap.size + 2, 5, none⟩ (.int .i64 f.t)) ⟨w.heap.size + 2, 6, none⟩ (.int .i64 f.vk)) ⟨w.heap.size + 2, 7, none⟩ (.int .i64 f.vn)) ⟨w.heap.size + 2, 8, none⟩ (.string f.vt)) = u := ⟨_, rfl⟩
  rw [hv4] at hx9 HO HR HK
  have HV4 := Lib.hid hv4
  replace HX := Lib.hid hx9
  clear hv4 hx9
  go_wp2_with (rw [HV4.out])
  clear ff f3 f4 f5 f6 f7 f8
  go_at_call 40
  refine (nextV_any _ (w.heap.size + 1) 0 r4 z4 HO.out d r5 z5 H5.out HS4.out).mono ?_
  rintro e u5 ⟨rfl, hp⟩
  replace HK := Lib.hid (hp.k.kept HK.out (by omega)); replace HR := Lib.hid (HR.out.keptE hp.k N1.out); replace HX := Lib.hid (HX.out.keptE hp.k N2.out)
  replace HO := Lib.hid hp.s
  clear hp
  have f9 := HX.out.c9; have f10 := HX.out.c10; have f11 := HX.out.c11; have ff := HX.out.f
  have hx9 : StB _ (w.heap.size + 2) none 0 0 ⟨(k : Int), p, nm, f, d, 0, 0, Tb.none⟩ := HX.out.setDf d
  replace HO := Lib.hid (((HO.out.farO (g := w.heap.size + 2) (i := 9) N2.out (.int .i64 d.k)).farO (g := w.heap.size + 2) (i := 10) N2.out (.int .i64 d.n)).farO (g := w.heap.size + 2) (i := 11) N2.out (.string d.t)); replace HR := Lib.hid (((HR.out.far (g := w.heap.size + 2) (i := 9) N3.out (.int .i64 d.k)).far (g := w.heap.size + 2) (i := 10) N3.out (.int .i64 d.n)).far (g := w.heap.size + 2) (i := 11) N3.out (.string d.t)); replace HK := Lib.hid (((HK.out.setCell (a := ⟨w.heap.size + 2, 9, none⟩) (Nat.le_add_right _ 2) (.int .i64 d.k)).setCell (a := ⟨w.heap.size + 2, 10, none⟩) (Nat.le_add_right _ 2) (.int .i64 d.n)).setCell (a := ⟨w.heap.size + 2, 11, none⟩) (Nat.le_add_right _ 2) (.string d.t))
  obtain ⟨v5, hv5⟩ : ∃ u, (World.setCell (World.setCell (World.setCell u5 ⟨w.heap.size + 2, 9, none⟩ (.int .i64 d.k)) ⟨w.heap.size + 2, 10, none⟩ (.int .i64 d.n)) ⟨w.heap.size + 2, 11, none⟩ (.string d.t)) = u := ⟨_, rfl⟩
  rw [hv5] at hx9 HO HR HK
  have HV5 := Lib.hid hv5
  replace HX := Lib.hid hx9
  clear hv5 hx9
  go_wp2_with (rw [HV5.out])
  clear ff f9 f10 f11
  go_at_call 42
  refine (nextI_any _ (w.heap.size + 1) 0 r5 z5 HO.out a r6 z6 H6.out HS5.out).mono ?_
  rintro e u6 ⟨rfl, hp⟩
  replace HK := Lib.hid (hp.k.kept HK.out (by omega)); replace HR := Lib.hid (HR.out.keptE hp.k N1.out); replace HX := Lib.hid (HX.out.keptE hp.k N2.out)
  replace HO := Lib.hid hp.s
  clear hp
  have f12 := HX.out.c12; have ff := HX.out.f
  have hx9 : StB _ (w.heap.size + 2) none 0 0 ⟨(k : Int), p, nm, f, d, a, 0, Tb.none⟩ := HX.out.setF a
  replace HO := Lib.hid (HO.out.farO (g := w.heap.size + 2) (i := 12) N2.out (.int .i64 a)); replace HR := Lib.hid (HR.out.far (g := w.heap.size + 2) (i := 12) N3.out (.int .i64 a)); replace HK := Lib.hid (HK.out.setCell (a := ⟨w.heap.size + 2, 12, none⟩) (Nat.le_add_right _ 2) (.int .i64 a))
  obtain ⟨v6, hv6⟩ : ∃ u, (World.setCell u6 ⟨w.heap.size + 2, 12, none⟩ (.int .i64 a)) = u := ⟨_, rfl⟩
  rw [hv6] at hx9 HO HR HK
  have HV6 := Lib.hid hv6
  replace HX := Lib.hid hx9
  clear hv6 hx9
  go_wp2_with (rw [HV6.out])
  clear ff f12
  go_at_call 42
  refine (nextI_any _ (w.heap.size + 1) 0 r6 z6 HO.out b r7 z7 H7.out HS6.out).mono ?_
  rintro e u7 ⟨rfl, hp⟩
  replace HK := Lib.hid (hp.k.kept HK.out (by omega)); replace HR := Lib.hid (HR.out.keptE hp.k N1.out); replace HX := Lib.hid (HX.out.keptE hp.k N2.out)
  replace HO := Lib.hid hp.s
  clear hp
  have f13 := HX.out.c13; have ff := HX.out.f
  have hx9 : StB _ (w.heap.size + 2) none 0 0 ⟨(k : Int), p, nm, f, d, a, b, Tb.none⟩ := HX.out.setG b
  replace HO := Lib.hid (HO.out.farO (g := w.heap.size + 2) (i := 13) N2.out (.int .i64 b)); replace HR := Lib.hid (HR.out.far (g := w.heap.size + 2) (i := 13) N3.out (.int .i64 b)); replace HK := Lib.hid (HK.out.setCell (a := ⟨w.heap.size + 2, 13, none⟩) (Nat.le_add_right _ 2) (.int .i64 b))
  obtain ⟨v7, hv7⟩ : ∃ u, (World.setCell u7 ⟨w.heap.size + 2, 13, none⟩ (.int .i64 b)) = u := ⟨_, rfl⟩
  rw [hv7] at hx9 HO HR HK
  have HV7 := Lib.hid hv7
  replace HX := Lib.hid hx9
  clear hv7 hx9
  go_wp2_with (rw [HV7.out])
  clear ff f13
  go_at_call 44
  refine (nextB_any _ (w.heap.size + 1) 0 r7 z7 HO.out T r8 z8 H8.out HS7.out).mono ?_
  rintro e u8 ⟨A, n, c, rfl, hpl, hpA, hp⟩
  have HPA := Lib.hid (show ∀ ad, A = some ad → w.heap.size + 3 ≤ ad.block from fun ad e => by have := hpA ad e; have := HX.out.lt; omega)
  have HPL := Lib.hid hpl
  clear hpl hpA
  replace HK := Lib.hid (hp.k.kept HK.out (by omega)); replace HR := Lib.hid (HR.out.keptE hp.k N1.out); replace HX := Lib.hid (HX.out.keptE hp.k N2.out)
  replace HO := Lib.hid hp.s
  clear hp
  have f14 := HX.out.c14; have f15 := HX.out.c15; have f16 := HX.out.c16; have f17 := HX.out.c17; have f18 := HX.out.c18; have f19 := HX.out.c19; have f20 := HX.out.c20; have f21 := HX.out.c21; have f22 := HX.out.c22; have ff := HX.out.f
  have hx9 : StB _ (w.heap.size + 2) A n c ⟨(k : Int), p, nm, f, d, a, b, T⟩ := HX.out.setT A n c T
  replace HO := Lib.hid (((((((((HO.out.farO (g := w.heap.size + 2) (i := 14) N2.out (.slice A n c)).farO (g := w.heap.size + 2) (i := 15) N2.out (.bool T.keep)).farO (g := w.heap.size + 2) (i := 16) N2.out (.int .i64 T.d.k)).farO (g := w.heap.size + 2) (i := 17) N2.out (.int .i64 T.d.n)).farO (g := w.heap.size + 2) (i := 18) N2.out (.string T.d.t)).farO (g := w.heap.size + 2) (i := 19) N2.out (.int .i64 T.b.k)).farO (g := w.heap.size + 2) (i := 20) N2.out (.int .i64 T.b.n)).farO (g := w.heap.size + 2) (i := 21) N2.out (.string T.b.t)).farO (g := w.heap.size + 2) (i := 22) N2.out (.bool T.tu)); replace HR := Lib.hid (((((((((HR.out.far (g := w.heap.size + 2) (i := 14) N3.out (.slice A n c)).far (g := w.heap.size + 2) (i := 15) N3.out (.bool T.keep)).far (g := w.heap.size + 2) (i := 16) N3.out (.int .i64 T.d.k)).far (g := w.heap.size + 2) (i := 17) N3.out (.int .i64 T.d.n)).far (g := w.heap.size + 2) (i := 18) N3.out (.string T.d.t)).far (g := w.heap.size + 2) (i := 19) N3.out (.int .i64 T.b.k)).far (g := w.heap.size + 2) (i := 20) N3.out (.int .i64 T.b.n)).far (g := w.heap.size + 2) (i := 21) N3.out (.string T.b.t)).far (g := w.heap.size + 2) (i := 22) N3.out (.bool T.tu)); replace HK := Lib.hid (((((((((HK.out.setCell (a := ⟨w.heap.size + 2, 14, none⟩) (Nat.le_add_right _ 2) (.slice A n c)).setCell (a := ⟨w.heap.size + 2, 15, none⟩) (Nat.le_add_right _ 2) (.bool T.keep)).setCell (a := ⟨w.heap.size + 2, 16, none⟩) (Nat.le_add_right _ 2) (.int .i64 T.d.k)).setCell (a := ⟨w.heap.size + 2, 17, none⟩) (Nat.le_add_right _ 2) (.int .i64 T.d.n)).setCell (a := ⟨w.heap.size + 2, 18, none⟩) (Nat.le_add_right _ 2) (.string T.d.t)).setCell (a := ⟨w.heap.size + 2, 19, none⟩) (Nat.le_add_right _ 2) (.int .i64 T.b.k)).setCell (a := ⟨w.heap.size + 2, 20, none⟩) (Nat.le_add_right _ 2) (.int .i64 T.b.n)).setCell (a := ⟨w.heap.size + 2, 21, none⟩) (Nat.le_add_right _ 2) (.string T.b.t)).setCell (a := ⟨w.heap.size + 2, 22, none⟩) (Nat.le_add_right _ 2) (.bool T.tu)); replace HPL := Lib.hid (((((((((HPL.out.setLow HPA.out (w.heap.size + 2) 14 (by omega) (.slice A n c)).setLow HPA.out (w.heap.size + 2) 15 (by omega) (.bool T.keep)).setLow HPA.out (w.heap.size + 2) 16 (by omega) (.int .i64 T.d.k)).setLow HPA.out (w.heap.size + 2) 17 (by omega) (.int .i64 T.d.n)).setLow HPA.out (w.heap.size + 2) 18 (by omega) (.string T.d.t)).setLow HPA.out (w.heap.size + 2) 19 (by omega) (.int .i64 T.b.k)).setLow HPA.out (w.heap.size + 2) 20 (by omega) (.int .i64 T.b.n)).setLow HPA.out (w.heap.size + 2) 21 (by omega) (.string T.b.t)).setLow HPA.out (w.heap.size + 2) 22 (by omega) (.bool T.tu))
  obtain ⟨v8, hv8⟩ : ∃ u, (World.setCell (World.setCell (World.setCell (World.setCell (World.setCell (World.setCell (World.setCell (World.setCell (World.setCell u8 ⟨w.heap.size + 2, 14, none⟩ (.slice A n c)) ⟨w.heap.size + 2, 15, none⟩ (.bool T.keep)) ⟨w.heap.size + 2, 16, none⟩ (.int .i64 T.d.k)) ⟨w.heap.size + 2, 17, none⟩ (.int .i64 T.d.n)) ⟨w.heap.size + 2, 18, none⟩ (.string T.d.t)) ⟨w.heap.size + 2, 19, none⟩ (.int .i64 T.b.k)) ⟨w.heap.size + 2, 20, none⟩ (.int .i64 T.b.n)) ⟨w.heap.size + 2, 21, none⟩ (.string T.b.t)) ⟨w.heap.size + 2, 22, none⟩ (.bool T.tu)) = u := ⟨_, rfl⟩
  rw [hv8] at hx9 HO HR HK HPL
  have HV8 := Lib.hid hv8
  replace HX := Lib.hid hx9
  clear hv8 hx9
  by_cases hz : z8 = 0
  · subst hz
    obtain ⟨y, hy⟩ : ∃ y : St, (⟨(k : Int), p, nm, f, d, a, b, T⟩ : St) = y := ⟨_, rfl⟩
    have HLL := Lib.hid (show stL s = (y, r8, 0) by rw [← hy, HL.out, if_neg (by simp)])
    replace HPL := Lib.hid (show Pal v8 A n c y.T.L by rw [← hy]; exact HPL.out)
    rw [hy] at HX
    clear hy
    have d1 := HO.out.c1
    go_wp2_with (rw [HV8.out])
    clear d1 ff f14 f15 f16 f17 f18 f19 f20 f21 f22
    have g0 := KExtE.cell (b := w.heap.size) N1.out.symm HO.out.c0; have g1 := KExtE.cell (b := w.heap.size) N1.out.symm HO.out.c1
    refine region_planE w.heap.size v8 6 (.read [0, 1, 2] (.one 3 (.read [4, 5] .stop))) (by kernel_rfl) (by kernel_rfl) (by kernel_rfl) (by kernel_rfl) (by kernel_rfl) (fun _ d _ _ _ h => by cases d <;> exact h) (Kept.refl _) ?_
    intro wd hwd
    have HV := Lib.hid hwd
    clear hwd
    rw [wpPlan_read]
    simp only [pA, pB, pC, pD, pE]
    repeat (first | (refine quiet_load rfl 33 _ rfl (w.heap.size + 2) 0 rfl _ _ (HX.out.extE N3.out) Tryz.underlying33 rfl (step_size A n c y) ?_; simp only [Act.put, List.setIfInBounds_toArray, List.set_cons_succ, List.set_cons_zero]) | go_big_quiet_step (fail))
    refine wpQuiet_nil ?_
    clear g0 g1
    replace HR := Lib.hid (HR.out.kept HV.out)
    have hrx := HR.out.over A n c y
    have hkx := Kept.setCells (b := w.heap.size) (Nat.le_refl _) (cellS A n c y).toArray.toList 0 _ (HK.out.trans HV.out)
    have hex := KeptE.setCells (cellS A n c y).toArray.toList 0 _ (KeptE.of (G := w.heap.size) HV.out)
    have HTH := Lib.hid (HR.out.there A n c y)
    have hpx := Pal.setLows HPA.out (b := w.heap.size) (by omega) (cellS A n c y).toArray.toList 0 wd (HPL.out.kept HV.out)
    obtain ⟨w9, hw9⟩ : ∃ u, World.setCells wd w.heap.size 0 (cellS A n c y).toArray.toList = u := ⟨_, rfl⟩
    rw [hw9] at hrx hkx hex hpx
    have HRX := Lib.hid hrx; have HKX := Lib.hid hkx; have HE := Lib.hid hex; have HW9 := Lib.hid hw9; have HPX := Lib.hid hpx
    clear hrx hkx hex hw9 hpx
    rw [wpPlan_one]
    simp only [pA, pB, pC, pD, pE]
    go_wp2_with (refine wpList_store_mid rfl 33 _ _ rfl w.heap.size 0 (cellS A n c y).toArray rfl rfl HTH.out (step_sizeA A n c y) (cellS_one A n c y) ?_; rw [HW9.out])
    refine soloE HE.out ?_
    rw [wpPlan_read]
    simp only [pA, pB, pC, pD, pE]
    repeat (go_big_quiet_step (fail))
    refine wpQuiet_nil ?_
    refine wpPlan_stop ?_
    go_wp2_with fail
    try simp only [Exit.inBlock, Exit.then]
    exact bodyPost_ret (results_step3 (t := 2) (u := 3) (v := 4) rfl _ rfl HRX.out) rfl (takeE_ok HLL.out HPX.out HKX.out)
  · have e0 : (((z8 : Nat) : Int) == 0) = false := by simp; omega
    have HLL := Lib.hid (show stL s = (St.zero, ⟨#[]⟩, z8) by rw [HL.out, if_pos hz])
    replace HX := Lib.hid HX.out
    clear hz
    have d1 := HO.out.c1
    go_wp2_with (rw [HV8.out])
    clear d1 ff f14 f15 f16 f17 f18 f19 f20 f21 f22
    have g0 := KExtE.cell (b := w.heap.size) N1.out.symm HO.out.c0; have g1 := KExtE.cell (b := w.heap.size) N1.out.symm HO.out.c1
    refine region_planE w.heap.size v8 6 (.read [0, 1, 2] (.one 3 (.read [4, 5] .stop))) (by kernel_rfl) (by kernel_rfl) (by kernel_rfl) (by kernel_rfl) (by kernel_rfl) (fun _ d _ _ _ h => by cases d <;> exact h) (Kept.refl _) ?_
    intro wd hwd
    have HV := Lib.hid hwd
    clear hwd
    rw [wpPlan_read]
    simp only [pA, pB, pC, pD, pE]
    repeat (go_big_quiet_step (fail))
    refine wpQuiet_nil ?_
    clear g0 g1
    replace HR := Lib.hid (HR.out.kept HV.out)
    have hrx := HR.out.over none 0 0 St.zero
    have hkx := Kept.setCells (b := w.heap.size) (Nat.le_refl _) (cellS none 0 0 St.zero).toArray.toList 0 _ (HK.out.trans HV.out)
    have hex := KeptE.setCells (cellS none 0 0 St.zero).toArray.toList 0 _ (KeptE.of (G := w.heap.size) HV.out)
    have HTH := Lib.hid (HR.out.there none 0 0 St.zero)
    obtain ⟨w9, hw9⟩ : ∃ u, World.setCells wd w.heap.size 0 (cellS none 0 0 St.zero).toArray.toList = u := ⟨_, rfl⟩
    rw [hw9] at hrx hkx hex
    have HRX := Lib.hid hrx; have HKX := Lib.hid hkx; have HE := Lib.hid hex; have HW9 := Lib.hid hw9
    clear hrx hkx hex hw9
    rw [wpPlan_one]
    simp only [pA, pB, pC, pD, pE]
    go_wp2_with (refine wpList_store_mid rfl 33 _ _ rfl w.heap.size 0 (cellS none 0 0 St.zero).toArray rfl rfl HTH.out (step_sizeA none 0 0 St.zero) (cellS_one none 0 0 St.zero) ?_; rw [HW9.out])
    refine soloE HE.out ?_
    rw [wpPlan_read]
    simp only [pA, pB, pC, pD, pE]
    repeat (go_big_quiet_step (fail))
    refine wpQuiet_nil ?_
    refine wpPlan_stop ?_
    go_wp2_with fail
    try simp only [Exit.inBlock, Exit.then]
    exact bodyPost_ret (results_step3 (t := 2) (u := 3) (v := 4) rfl _ rfl HRX.out) rfl (takeE_err HLL.out HKX.out)
end Go.Proofs.YtofnpifooaijcaaGreat
