/-
  What is proved: entry.next, at each type that Take asks for, called with what is taken so far and a function that takes a part, takes that part behind what was taken, or nothing behind an error; the world has new blocks at most, and what is left to take has changed.
-/
import Derived.Test.YtoanccojpppfoaaDoorEPut
namespace Go.Proofs.YtoanccojpppfoaaDoor
open Go.RowKit

/-- What is taken so far, in eleven cells that may be written: the entry, what is left, the first error. -/
structure Tk (w : World) (b : Nat) (x : En) (r : ByteArray) (z : Int) : Prop where
  ent : Ent w b x
  c9 : w.cell? ⟨b, 9, none⟩ = some (.string r)
  c10 : w.cell? ⟨b, 10, none⟩ = some (.int .i64 z)
  f : ∀ i, w.frozen? ⟨b, i, none⟩ = false
theorem Tk.lt {w : World} {b : Nat} {x : En} {r : ByteArray} {z : Int} (h : Tk w b x r z) : b < w.heap.size := World.block_lt_of_cell? w _ h.c9
theorem Tk.kept {w w' : World} {b : Nat} {x : En} {r : ByteArray} {z : Int} (h : Tk w b x r z) (hg : Kept w w') : Tk w' b x r z :=
  ⟨h.ent.kept hg, hg.cell h.c9, hg.cell h.c10, fun i => (hg.2.1 ⟨b, i, none⟩ h.lt).trans (h.f i)⟩
theorem far_cell {w : World} {b c i o : Nat} {v u : Value} (h : w.cell? ⟨b, i, none⟩ = some u) (hne : b ≠ c) : (w.setCell ⟨c, o, none⟩ v).cell? ⟨b, i, none⟩ = some u := by
  rw [World.cell?_setCell_other _ _ _ _ (by intro e; injection e; omega)]; exact h
theorem off_cell {w : World} {b i o : Nat} {v u : Value} (h : w.cell? ⟨b, i, none⟩ = some u) (hne : i ≠ o) : (w.setCell ⟨b, o, none⟩ v).cell? ⟨b, i, none⟩ = some u := by
  rw [World.cell?_setCell_other _ _ _ _ (by intro e; injection e; omega)]; exact h
theorem on_cell {w : World} {b i : Nat} {v u : Value} (h : w.cell? ⟨b, i, none⟩ = some u) : (w.setCell ⟨b, i, none⟩ v).cell? ⟨b, i, none⟩ = some v :=
  World.cell?_setCell_same _ _ _ h
theorem Ent.far {w : World} {b c o : Nat} {x : En} {v : Value} (h : Ent w b x) (hne : b ≠ c) : Ent (w.setCell ⟨c, o, none⟩ v) b x :=
  ⟨far_cell h.c0 hne, far_cell h.c1 hne, far_cell h.c2 hne, far_cell h.c3 hne, far_cell h.c4 hne, far_cell h.c5 hne, far_cell h.c6 hne, far_cell h.c7 hne, far_cell h.c8 hne⟩
theorem Ent.off {w : World} {b o : Nat} {x : En} {v : Value} (h : Ent w b x) (hne : 9 ≤ o) : Ent (w.setCell ⟨b, o, none⟩ v) b x :=
  ⟨off_cell h.c0 (by omega), off_cell h.c1 (by omega), off_cell h.c2 (by omega), off_cell h.c3 (by omega), off_cell h.c4 (by omega), off_cell h.c5 (by omega), off_cell h.c6 (by omega), off_cell h.c7 (by omega), off_cell h.c8 (by omega)⟩
theorem Tk.far {w : World} {b c o : Nat} {x : En} {r : ByteArray} {z : Int} {v : Value} (h : Tk w b x r z) (hne : b ≠ c) : Tk (w.setCell ⟨c, o, none⟩ v) b x r z :=
  ⟨h.ent.far hne, far_cell h.c9 hne, far_cell h.c10 hne, fun i => by rw [World.frozen?_setCell]; exact h.f i⟩
theorem Tk.set9 {w : World} {b : Nat} {x : En} {r : ByteArray} {z : Int} (h : Tk w b x r z) (r' : ByteArray) : Tk (w.setCell ⟨b, 9, none⟩ (.string r')) b x r' z :=
  ⟨h.ent.off (by omega), on_cell h.c9, off_cell h.c10 (by omega), fun i => by rw [World.frozen?_setCell]; exact h.f i⟩
theorem Tk.set10 {w : World} {b : Nat} {x : En} {r : ByteArray} {z : Int} (h : Tk w b x r z) (z' : Int) : Tk (w.setCell ⟨b, 10, none⟩ (.int .i64 z')) b x r z' :=
  ⟨h.ent.off (by omega), off_cell h.c9 (by omega), on_cell h.c10, fun i => by rw [World.frozen?_setCell]; exact h.f i⟩

theorem takePath_c (s : ByteArray) (t r : ByteArray) (k : Int) (h1 : ttT s 102 = t) (h2 : ttR s 102 = r) (h3 : (ttE s 102 : Int) = k) (hs : s.size ≤ 100000) (w : World) :
    Calls Tryd.prog 20 #[.string s] w fun e w' => e = .returned (.tuple #[.string t, .string r, .int .i64 k]) ∧ Kept w w' := by
  have A1 := Lib.hid (fun w => takeText_c s 102 t r k h1 h2 h3 (by omega) (by decide) (by decide) w)
  clear h1 h2 h3 hs
  go_enter Tryd.func20, Tryd.ntmps20
  go_wp2_with fail
  go_at_call 52
  refine (A1.out _).mono ?_
  rintro e w1 ⟨rfl, hg⟩
  go_wp2_with fail
  go_ret3
  exact ⟨rfl, kept_of hg⟩

theorem keptE_two {w w1 : World} {b : Nat} {c1 c2 : Array Value} {t1 t2 : TypeId} (h : Kept ((w.alloc (.cells c1 t1)).alloc (.cells c2 t2)) w1) : KeptE b w w1 :=
  .of ((((Kept.refl w).alloc c1 t1).alloc c2 t2).trans h)
theorem Box.newK (w : World) (x0 x1 x2 : Value) (t : TypeId) : Box (w.alloc (.cells #[x0, x1, x2] t)) w.heap.size x0 x1 x2 := Box.new w x0 x1 x2 t
theorem Box.keptK {w w' : World} {b : Nat} {x0 x1 x2 : Value} (h : Box w b x0 x1 x2) (hg : Kept w w') : Box w' b x0 x1 x2 :=
  ⟨hg.cell h.c0, hg.cell h.c1, hg.cell h.c2, fun i => (hg.2.1 ⟨b, i, none⟩ (show b < w.heap.size from World.block_lt_of_cell? w _ h.c0)).trans (h.f i)⟩

set_option maxRecDepth 100000 in
set_option maxHeartbeats 4000000 in
theorem nextD_go (w : World) (b : Nat) (x : En) (r : ByteArray) (T : Tk w b x r 0) (v : Int × Int) (r' : ByteArray) (z' : Int) (h1 : tdX r = v) (h2 : tdR r = r') (h3 : (tdE r : Int) = z') (hs : r.size ≤ 100000) :
    Calls Tryd.prog 17 #[.pointer (some ⟨b, 0, none⟩), .func (.func 18) #[] #[]] w fun e w' => e = .returned (.agg #[.int .i64 v.1, .int .i64 v.2]) ∧ Tk w' b x r' z' ∧ KeptE b w w' := by
  have A1 := Lib.hid (fun w => dtake_c r v r' z' h1 h2 h3 hs w)
  clear h1 h2 h3 hs
  have hb := T.lt
  have n1 : ¬ b = w.heap.size := by omega
  have n2 : ¬ w.heap.size = b := by omega
  have n3 : ¬ b = w.heap.size + 1 := by omega
  have n4 : ¬ w.heap.size + 1 = b := by omega
  have K2 := ((Kept.refl w).alloc #[.int .i64 0, .int .i64 0] 23).alloc #[.int .i64 0, .int .i64 0] 23
  have T2 := T.kept K2
  have HT := Lib.hid T2
  have c9 := T2.c9
  have c10 := T2.c10
  clear T T2 K2 hb
  go_enter Tryd.func17, Tryd.ntmps17
  go_wp2_with fail
  go_at_call 18
  refine (A1.out _).mono ?_
  rintro e w1 ⟨rfl, hg⟩
  have T3 := HT.out.kept hg
  have KE := Lib.hid (keptE_two (b := b) hg)
  have B1 := (Box2.new w (.int .i64 0) (.int .i64 0) 23).kept (((Kept.refl _).alloc #[.int .i64 0, .int .i64 0] 23).trans hg)
  have B2 := (Box2.new (w.alloc (.cells #[.int .i64 0, .int .i64 0] 23)) (.int .i64 0) (.int .i64 0) 23).kept hg
  rw [show (w.alloc (.cells #[.int .i64 0, .int .i64 0] 23)).heap.size = w.heap.size + 1 by simp] at B2
  clear c9 c10 hg
  have HT := Lib.hid T3
  have c9 := T3.c9
  have c10 := T3.c10
  have f9 := T3.f 9
  have f10 := T3.f 10
  have p0 := B1.c0; have p1 := B1.c1; have pf0 := B1.f 0; have pf1 := B1.f 1
  have q0 := B2.c0; have q1 := B2.c1; have qf0 := B2.f 0; have qf1 := B2.f 1
  clear T3 B1 B2
  go_wp2_with fail
  refine bodyPost_ret (by simp [results, Tryd.results17, go_sem, *]) rfl ⟨rfl, ?_, ?_⟩
  · exact ((((((HT.out.far n3).far n3).set9 r').set10 z').far n1).far n1)
  · exact ((((((KE.out.set (.inr (Nat.le_succ _)) _).set (.inr (Nat.le_succ _)) _).set (.inl rfl) _).set (.inl rfl) _).set (.inr (Nat.le_refl _)) _).set (.inr (Nat.le_refl _)) _)

set_option maxRecDepth 100000 in
set_option maxHeartbeats 4000000 in
theorem nextD_not (w : World) (b : Nat) (x : En) (r : ByteArray) (z : Int) (T : Tk w b x r z) (hz : z ≠ 0) :
    Calls Tryd.prog 17 #[.pointer (some ⟨b, 0, none⟩), .func (.func 18) #[] #[]] w fun e w' => e = .returned (.agg #[.int .i64 0, .int .i64 0]) ∧ Tk w' b x r z ∧ KeptE b w w' := by
  have e0 : (z == 0) = false := by simpa using hz
  clear hz
  have hb := T.lt
  have n1 : ¬ b = w.heap.size := by omega
  have n2 : ¬ w.heap.size = b := by omega
  have n3 : ¬ b = w.heap.size + 1 := by omega
  have n4 : ¬ w.heap.size + 1 = b := by omega
  have K2 := ((Kept.refl w).alloc #[.int .i64 0, .int .i64 0] 23).alloc #[.int .i64 0, .int .i64 0] 23
  have T2 := T.kept K2
  have HT := Lib.hid T2
  have HK := Lib.hid (KeptE.of (G := b) K2)
  have c10 := T2.c10
  clear T T2 K2 hb
  go_enter Tryd.func17, Tryd.ntmps17
  go_wp2_with fail
  refine bodyPost_ret (by simp [results, Tryd.results17, go_sem, *]) rfl ⟨rfl, ?_, ?_⟩
  · exact HT.out
  · exact HK.out

set_option maxRecDepth 100000 in
set_option maxHeartbeats 4000000 in
theorem nextP_go (w : World) (b : Nat) (x : En) (r : ByteArray) (T : Tk w b x r 0) (v : ByteArray) (r' : ByteArray) (z' : Int) (h1 : ttT r 102 = v) (h2 : ttR r 102 = r') (h3 : (ttE r 102 : Int) = z') (hs : r.size ≤ 100000) :
    Calls Tryd.prog 19 #[.pointer (some ⟨b, 0, none⟩), .func (.func 20) #[] #[]] w fun e w' => e = .returned (.string v) ∧ Tk w' b x r' z' ∧ KeptE b w w' := by
  have A1 := Lib.hid (fun w => takePath_c r v r' z' h1 h2 h3 hs w)
  clear h1 h2 h3 hs
  have HT := Lib.hid T
  have c9 := T.c9
  have c10 := T.c10
  clear T
  go_enter Tryd.func19, Tryd.ntmps19
  go_wp2_with fail
  go_at_call 20
  refine (A1.out _).mono ?_
  rintro e w1 ⟨rfl, hg⟩
  have T3 := HT.out.kept hg
  have KE := Lib.hid (KeptE.of (G := b) hg)
  clear c9 c10 hg
  have HT := Lib.hid T3
  have c9 := T3.c9
  have c10 := T3.c10
  have f9 := T3.f 9
  have f10 := T3.f 10
  clear T3
  go_wp2_with fail
  go_ret
  exact ⟨rfl, (HT.out.set9 r').set10 z', (KE.out.set (.inl rfl) _).set (.inl rfl) _⟩

set_option maxRecDepth 100000 in
set_option maxHeartbeats 4000000 in
theorem nextP_not (w : World) (b : Nat) (x : En) (r : ByteArray) (z : Int) (T : Tk w b x r z) (hz : z ≠ 0) :
    Calls Tryd.prog 19 #[.pointer (some ⟨b, 0, none⟩), .func (.func 20) #[] #[]] w fun e w' => e = .returned (.string ⟨#[]⟩) ∧ Tk w' b x r z ∧ KeptE b w w' := by
  have e0 : (z == 0) = false := by simpa using hz
  clear hz
  have HT := Lib.hid T
  have c10 := T.c10
  clear T
  go_enter Tryd.func19, Tryd.ntmps19
  go_wp2_with fail
  go_ret
  exact ⟨rfl, HT.out, .refl _ _⟩

set_option maxRecDepth 100000 in
set_option maxHeartbeats 4000000 in
theorem nextK_go (w : World) (b : Nat) (x : En) (r : ByteArray) (T : Tk w b x r 0) (v : Int) (r' : ByteArray) (z' : Int) (h1 : (tkN r : Int) = v) (h2 : tkR r = r') (h3 : (tkE r : Int) = z') (hs : r.size ≤ 100000) :
    Calls Tryd.prog 21 #[.pointer (some ⟨b, 0, none⟩), .func (.func 22) #[] #[]] w fun e w' => e = .returned (.int .u64 v) ∧ Tk w' b x r' z' ∧ KeptE b w w' := by
  have A1 := Lib.hid (fun w => take_c r v r' z' h1 h2 h3 (by omega) w)
  clear h1 h2 h3 hs
  have HT := Lib.hid T
  have c9 := T.c9
  have c10 := T.c10
  clear T
  go_enter Tryd.func21, Tryd.ntmps21
  go_wp2_with fail
  go_at_call 22
  refine (A1.out _).mono ?_
  rintro e w1 ⟨rfl, hg⟩
  replace hg := (kept_of hg)
  have T3 := HT.out.kept hg
  have KE := Lib.hid (KeptE.of (G := b) hg)
  clear c9 c10 hg
  have HT := Lib.hid T3
  have c9 := T3.c9
  have c10 := T3.c10
  have f9 := T3.f 9
  have f10 := T3.f 10
  clear T3
  go_wp2_with fail
  go_ret
  exact ⟨rfl, (HT.out.set9 r').set10 z', (KE.out.set (.inl rfl) _).set (.inl rfl) _⟩

set_option maxRecDepth 100000 in
set_option maxHeartbeats 4000000 in
theorem nextK_not (w : World) (b : Nat) (x : En) (r : ByteArray) (z : Int) (T : Tk w b x r z) (hz : z ≠ 0) :
    Calls Tryd.prog 21 #[.pointer (some ⟨b, 0, none⟩), .func (.func 22) #[] #[]] w fun e w' => e = .returned (.int .u64 0) ∧ Tk w' b x r z ∧ KeptE b w w' := by
  have e0 : (z == 0) = false := by simpa using hz
  clear hz
  have HT := Lib.hid T
  have c10 := T.c10
  clear T
  go_enter Tryd.func21, Tryd.ntmps21
  go_wp2_with fail
  go_ret
  exact ⟨rfl, HT.out, .refl _ _⟩

set_option maxRecDepth 100000 in
set_option maxHeartbeats 4000000 in
theorem nextV_go (w : World) (b : Nat) (x : En) (r : ByteArray) (T : Tk w b x r 0) (k n : Int) (t : ByteArray) (r' : ByteArray) (z' : Int) (h1 : tvK r = k) (h2 : tvI r = n) (h3 : tvT r = t) (h4 : tvR r = r') (h5 : (tvE r : Int) = z') (hs : r.size ≤ 100000) :
    Calls Tryd.prog 23 #[.pointer (some ⟨b, 0, none⟩), .func (.func 24) #[] #[]] w fun e w' => e = .returned (.agg #[.int .i64 k, .int .i64 n, .string t]) ∧ Tk w' b x r' z' ∧ KeptE b w w' := by
  have A1 := Lib.hid (fun w => vtake_c r k n t r' z' h1 h2 h3 h4 h5 (by omega) w)
  clear h1 h2 h3 h4 h5 hs
  have hb := T.lt
  have n1 : ¬ b = w.heap.size := by omega
  have n2 : ¬ w.heap.size = b := by omega
  have n3 : ¬ b = w.heap.size + 1 := by omega
  have n4 : ¬ w.heap.size + 1 = b := by omega
  have K2 := ((Kept.refl w).alloc #[.int .i64 0, .int .i64 0, .string ⟨#[]⟩] 25).alloc #[.int .i64 0, .int .i64 0, .string ⟨#[]⟩] 25
  have T2 := T.kept K2
  have HT := Lib.hid T2
  have c9 := T2.c9
  have c10 := T2.c10
  clear T T2 K2 hb
  go_enter Tryd.func23, Tryd.ntmps23
  go_wp2_with fail
  go_at_call 24
  refine (A1.out _).mono ?_
  rintro e w1 ⟨rfl, hg⟩
  replace hg := (kept_of hg)
  have T3 := HT.out.kept hg
  have KE := Lib.hid (keptE_two (b := b) hg)
  have B1 := (Box.new w (.int .i64 0) (.int .i64 0) (.string ⟨#[]⟩) 25).keptK (((Kept.refl _).alloc #[.int .i64 0, .int .i64 0, .string ⟨#[]⟩] 25).trans hg)
  have B2 := (Box.new (w.alloc (.cells #[.int .i64 0, .int .i64 0, .string ⟨#[]⟩] 25)) (.int .i64 0) (.int .i64 0) (.string ⟨#[]⟩) 25).keptK hg
  rw [show (w.alloc (.cells #[.int .i64 0, .int .i64 0, .string ⟨#[]⟩] 25)).heap.size = w.heap.size + 1 by simp] at B2
  clear c9 c10 hg
  have HT := Lib.hid T3
  have c9 := T3.c9
  have c10 := T3.c10
  have f9 := T3.f 9
  have f10 := T3.f 10
  have p0 := B1.c0; have p1 := B1.c1; have p2 := B1.c2; have pf0 := B1.f 0; have pf1 := B1.f 1; have pf2 := B1.f 2
  have q0 := B2.c0; have q1 := B2.c1; have q2 := B2.c2; have qf0 := B2.f 0; have qf1 := B2.f 1; have qf2 := B2.f 2
  clear T3 B1 B2
  go_wp2_with fail
  refine bodyPost_ret (by simp [results, Tryd.results23, go_sem, *]) rfl ⟨rfl, ?_, ?_⟩
  · exact ((((((((HT.out.far n3).far n3).far n3).set9 r').set10 z').far n1).far n1).far n1)
  · exact ((((((((KE.out.set (.inr (Nat.le_succ _)) _).set (.inr (Nat.le_succ _)) _).set (.inr (Nat.le_succ _)) _).set (.inl rfl) _).set (.inl rfl) _).set (.inr (Nat.le_refl _)) _).set (.inr (Nat.le_refl _)) _).set (.inr (Nat.le_refl _)) _)

set_option maxRecDepth 100000 in
set_option maxHeartbeats 4000000 in
theorem nextV_not (w : World) (b : Nat) (x : En) (r : ByteArray) (z : Int) (T : Tk w b x r z) (hz : z ≠ 0) :
    Calls Tryd.prog 23 #[.pointer (some ⟨b, 0, none⟩), .func (.func 24) #[] #[]] w fun e w' => e = .returned (.agg #[.int .i64 0, .int .i64 0, .string ⟨#[]⟩]) ∧ Tk w' b x r z ∧ KeptE b w w' := by
  have e0 : (z == 0) = false := by simpa using hz
  clear hz
  have hb := T.lt
  have n1 : ¬ b = w.heap.size := by omega
  have n2 : ¬ w.heap.size = b := by omega
  have n3 : ¬ b = w.heap.size + 1 := by omega
  have n4 : ¬ w.heap.size + 1 = b := by omega
  have K2 := ((Kept.refl w).alloc #[.int .i64 0, .int .i64 0, .string ⟨#[]⟩] 25).alloc #[.int .i64 0, .int .i64 0, .string ⟨#[]⟩] 25
  have T2 := T.kept K2
  have HT := Lib.hid T2
  have HK := Lib.hid (KeptE.of (G := b) K2)
  have c10 := T2.c10
  clear T T2 K2 hb
  go_enter Tryd.func23, Tryd.ntmps23
  go_wp2_with fail
  refine bodyPost_ret (by simp [results, Tryd.results23, go_sem, *]) rfl ⟨rfl, ?_, ?_⟩
  · exact HT.out
  · exact HK.out
end Go.Proofs.YtoanccojpppfoaaDoor
