/-
  What is proved: Take of package dot and of the document's layer 5, called with any text, return what P5.4 says; the world has new blocks at most.
-/
import Derived.Test.YtoanccojpppfoaaDoorDPut
namespace Go.Proofs.YtoanccojpppfoaaDoor
open Go.RowKit

/-- P5.4. -/
def tdL (s : ByteArray) : (Int × Int) × ByteArray × Nat :=
  if tkE s ≠ 0 then ((0, 0), ⟨#[]⟩, tkE s)
  else if tkE (tkR s) ≠ 0 then ((0, 0), ⟨#[]⟩, tkE (tkR s))
  else if rightD (tiN s, tiN (tkR s)) = true ∨ (tiN s = 0 ∧ tiN (tkR s) = 0) then ((tiN s, tiN (tkR s)), tkR (tkR s), 0)
  else ((0, 0), ⟨#[]⟩, 3)
def tdX (s : ByteArray) : Int × Int := (tdL s).1
def tdR (s : ByteArray) : ByteArray := (tdL s).2.1
def tdE (s : ByteArray) : Nat := (tdL s).2.2
theorem td_of {s : ByteArray} {x1 x2 : Int} {r : ByteArray} {e : Nat} {z : Int} (h : tdL s = ((x1, x2), r, e)) (hz : (e : Int) = z) :
    Ending.returned (.tuple #[.agg #[.int .i64 x1, .int .i64 x2], .string r, .int .i64 z]) = .returned (.tuple #[.agg #[.int .i64 (tdX s).1, .int .i64 (tdX s).2], .string (tdR s), .int .i64 (tdE s)]) := by
  unfold tdX tdR tdE; rw [h, hz]

/-- A block of two cells that may be written. -/
structure Box2 (w : World) (b : Nat) (x0 x1 : Value) : Prop where
  c0 : w.cell? ⟨b, 0, none⟩ = some x0
  c1 : w.cell? ⟨b, 1, none⟩ = some x1
  f : ∀ i, w.frozen? ⟨b, i, none⟩ = false
theorem Box2.kept {w w' : World} {b : Nat} {x0 x1 : Value} (h : Box2 w b x0 x1) (hg : Kept w w') : Box2 w' b x0 x1 :=
  ⟨hg.cell h.c0, hg.cell h.c1, fun i => (hg.2.1 ⟨b, i, none⟩ (show b < w.heap.size from World.block_lt_of_cell? w _ h.c0)).trans (h.f i)⟩
theorem Box2.new (w : World) (x0 x1 : Value) (t : TypeId) : Box2 (w.alloc (.cells #[x0, x1] t)) w.heap.size x0 x1 :=
  ⟨Kept.box0 (Kept.refl _), Kept.box1 (Kept.refl _), fun i => by rw [frozen?_alloc_cells]; simp [World.frozen?]⟩
theorem Box2.set0 {w : World} {b : Nat} {x0 x1 : Value} (h : Box2 w b x0 x1) (v : Value) : Box2 (w.setCell ⟨b, 0, none⟩ v) b v x1 :=
  ⟨World.cell?_setCell_same _ _ _ h.c0, by rw [World.cell?_setCell_other _ _ _ _ (by simp)]; exact h.c1, fun i => by rw [World.frozen?_setCell]; exact h.f i⟩
theorem Box2.set1 {w : World} {b : Nat} {x0 x1 : Value} (h : Box2 w b x0 x1) (v : Value) : Box2 (w.setCell ⟨b, 1, none⟩ v) b x0 v :=
  ⟨by rw [World.cell?_setCell_other _ _ _ _ (by simp)]; exact h.c0, World.cell?_setCell_same _ _ _ h.c1, fun i => by rw [World.frozen?_setCell]; exact h.f i⟩
theorem Box2.far {w : World} {b c o : Nat} {x0 x1 : Value} (h : Box2 w b x0 x1) (hne : b ≠ c) (v : Value) : Box2 (w.setCell ⟨c, o, none⟩ v) b x0 x1 := by
  have e : ∀ i, (w.setCell ⟨c, o, none⟩ v).cell? ⟨b, i, none⟩ = w.cell? ⟨b, i, none⟩ := fun i => World.cell?_setCell_other _ _ _ _ (by intro e; injection e; omega)
  exact ⟨by rw [e]; exact h.c0, by rw [e]; exact h.c1, fun i => by rw [World.frozen?_setCell]; exact h.f i⟩
theorem kept_set2 {W w : World} (h : Kept W w) (x0 x1 : Value) {b : Nat} (hb : W.heap.size ≤ b) : Kept W ((w.setCell ⟨b, 0, none⟩ x0).setCell ⟨b, 1, none⟩ x1) :=
  (h.setCell hb x0).setCell hb x1
theorem takeIntK (s : ByteArray) (n : Int) (r : ByteArray) (k : Int) (hn : tiN s = n) (hr : tkR s = r) (hk : (tkE s : Int) = k) (hs : s.size ≤ 100000) (w : World) :
    Calls Tryd.prog 51 #[.string s] w fun e w' => e = .returned (.tuple #[.int .i64 n, .string r, .int .i64 k]) ∧ Kept w w' :=
  (takeInt_c s n r k hn hr hk (by omega) w).mono fun _ _ ⟨he, hg⟩ => ⟨he, kept_of hg⟩
theorem rtakeIntK (s : ByteArray) (n : Int) (r : ByteArray) (k : Int) (hn : tiN s = n) (hr : tkR s = r) (hk : (tkE s : Int) = k) (hs : s.size ≤ 100000) (w : World) :
    Calls Tryd.prog 53 #[.string s] w fun e w' => e = .returned (.tuple #[.int .i64 n, .string r, .int .i64 k]) ∧ Kept w w' := by
  subst hn hr hk; exact (rtakeInt_any s w hs).mono fun _ _ ⟨he, hg⟩ => ⟨he, kept_of hg⟩

set_option maxRecDepth 100000 in
set_option maxHeartbeats 1000000 in
theorem dtake_err1 (s : ByteArray) (w : World) (hs : s.size ≤ 100000) (he : tkE s ≠ 0) :
    Calls Tryd.prog 18 #[.string s] w fun e w' => e = .returned (.tuple #[.agg #[.int .i64 (tdX s).1, .int .i64 (tdX s).2], .string (tdR s), .int .i64 (tdE s)]) ∧ Kept w w' := by
  have d1 : ((tkE s : Int) != 0) = true := by simp [he]
  have HR := Lib.hid (td_of (s := s) (x1 := 0) (x2 := 0) (r := ⟨#[]⟩) (e := tkE s) (by unfold tdL; rw [if_pos he]) rfl)
  have A1 := Lib.hid (fun w => takeIntK s _ _ _ rfl rfl rfl hs w)
  clear he hs
  go_enter Tryd.func18, Tryd.ntmps18
  go_wp2_with fail
  go_at_call 51
  refine (A1.out _).mono ?_
  rintro e w1 ⟨rfl, hg1⟩
  have B1 := (Box2.new w (.int .i64 0) (.int .i64 0) _).kept hg1
  have pc0 := B1.c0; have pc1 := B1.c1; have pf0 := B1.f 0; have pf1 := B1.f 1
  go_wp2_with fail
  refine bodyPost_ret (by simp [results, Tryd.results18, go_sem, *]) rfl ⟨HR.out, ?_⟩
  exact kept_set2 (((Kept.refl _).alloc _ _).trans hg1) _ _ (Nat.le_refl _)

set_option maxRecDepth 100000 in
set_option maxHeartbeats 1000000 in
theorem dtake_err2 (s : ByteArray) (w : World) (hs : s.size ≤ 100000) (he : tkE s = 0) (he2 : tkE (tkR s) ≠ 0) :
    Calls Tryd.prog 18 #[.string s] w fun e w' => e = .returned (.tuple #[.agg #[.int .i64 (tdX s).1, .int .i64 (tdX s).2], .string (tdR s), .int .i64 (tdE s)]) ∧ Kept w w' := by
  have hr := tkR_size s
  have d1 : ((tkE (tkR s) : Int) != 0) = true := by simp [he2]
  have HR := Lib.hid (td_of (s := s) (x1 := 0) (x2 := 0) (r := ⟨#[]⟩) (e := tkE (tkR s)) (by unfold tdL; rw [if_neg (by omega), if_pos he2]) rfl)
  obtain ⟨n1, hn1⟩ : ∃ n, tiN s = n := ⟨_, rfl⟩
  have A1 := Lib.hid (fun w => takeIntK s n1 _ 0 hn1 rfl (by rw [he]; rfl) hs w)
  have A2 := Lib.hid (fun w => takeIntK (tkR s) _ _ _ rfl rfl rfl (by omega) w)
  clear he he2 hs hr hn1
  go_enter Tryd.func18, Tryd.ntmps18
  go_wp2_with fail
  go_at_call 51
  refine (A1.out _).mono ?_
  rintro e w1 ⟨rfl, hg1⟩
  have B1 := (Box2.new w (.int .i64 0) (.int .i64 0) _).kept hg1
  have pc0 := B1.c0; have pc1 := B1.c1; have pf0 := B1.f 0; have pf1 := B1.f 1
  go_wp2_with fail
  go_at_call 51
  refine (A2.out _).mono ?_
  rintro e w2 ⟨rfl, hg2⟩
  have B2 := B1.kept hg2
  have K2 := ((Kept.refl w).alloc #[.int .i64 0, .int .i64 0] 23).trans (hg1.trans hg2)
  have hl2 := lt_of_kept (hg1.trans hg2)
  clear pc0 pc1 pf0 pf1
  have pc0 := B2.c0; have pc1 := B2.c1; have pf0 := B2.f 0; have pf1 := B2.f 1
  have hne : ¬ w.heap.size = w2.heap.size := (by omega)
  have hne' : ¬ w2.heap.size = w.heap.size := (by omega)
  go_wp2_with fail
  refine bodyPost_ret (by simp [results, Tryd.results18, go_sem, *]) rfl ⟨HR.out, ?_⟩
  exact kept_set2 K2 _ _ (Nat.le_refl _)

set_option maxRecDepth 100000 in
set_option maxHeartbeats 1000000 in
theorem dtake_right (s : ByteArray) (w : World) (hs : s.size ≤ 100000) (he : tkE s = 0) (he2 : tkE (tkR s) = 0) (hd : rightD (tiN s, tiN (tkR s)) = true) :
    Calls Tryd.prog 18 #[.string s] w fun e w' => e = .returned (.tuple #[.agg #[.int .i64 (tdX s).1, .int .i64 (tdX s).2], .string (tdR s), .int .i64 (tdE s)]) ∧ Kept w w' := by
  have hr := tkR_size s
  have HR0 := Lib.hid (td_of (s := s) (x1 := tiN s) (x2 := tiN (tkR s)) (r := tkR (tkR s)) (e := 0) (by unfold tdL; rw [if_neg (by omega), if_neg (by omega), if_pos (.inl hd)]) rfl)
  obtain ⟨n1, hn1⟩ : ∃ n, tiN s = n := ⟨_, rfl⟩
  obtain ⟨n2, hn2⟩ : ∃ n, tiN (tkR s) = n := ⟨_, rfl⟩
  have HR := Lib.hid (show Ending.returned (.tuple #[.agg #[.int .i64 n1, .int .i64 n2], .string (tkR (tkR s)), .int .i64 0]) = Ending.returned (.tuple #[.agg #[.int .i64 (tdX s).1, .int .i64 (tdX s).2], .string (tdR s), .int .i64 (tdE s)]) by rw [← hn1, ← hn2]; exact HR0.out)
  rw [hn1, hn2] at hd
  have A1 := Lib.hid (fun w => takeIntK s n1 _ 0 hn1 rfl (by rw [he]; rfl) hs w)
  have A2 := Lib.hid (fun w => takeIntK (tkR s) n2 _ 0 hn2 rfl (by rw [he2]; rfl) (by omega) w)
  have A3 := Lib.hid (fun w => dright_c (n1, n2) true hd w)
  clear he he2 hs hr hn1 hn2 hd HR0
  go_enter Tryd.func18, Tryd.ntmps18
  go_wp2_with fail
  go_at_call 51
  refine (A1.out _).mono ?_
  rintro e w1 ⟨rfl, hg1⟩
  have B1 := (Box2.new w (.int .i64 0) (.int .i64 0) _).kept hg1
  have pc0 := B1.c0; have pc1 := B1.c1; have pf0 := B1.f 0; have pf1 := B1.f 1
  go_wp2_with fail
  go_at_call 51
  refine (A2.out _).mono ?_
  rintro e w2 ⟨rfl, hg2⟩
  have B2 := B1.kept hg2
  have K2 := ((Kept.refl w).alloc #[.int .i64 0, .int .i64 0] 23).trans (hg1.trans hg2)
  have hl2 := lt_of_kept (hg1.trans hg2)
  clear pc0 pc1 pf0 pf1
  have pc0 := B2.c0; have pc1 := B2.c1; have pf0 := B2.f 0; have pf1 := B2.f 1
  have hne : ¬ w.heap.size = w2.heap.size := (by omega)
  have hne' : ¬ w2.heap.size = w.heap.size := (by omega)
  have HB2 := Lib.hid B2
  have HK2 := Lib.hid K2
  clear B1 B2 K2 hg1 hg2
  go_wp2_with fail
  go_at_call 29
  refine (A3.out _).mono ?_
  rintro e w3 ⟨rfl, hg3⟩
  have B3 := HB2.out.kept (((Kept.refl _).alloc _ _).trans hg3)
  have D3 := (Box2.new w2 _ _ _).kept hg3
  have HK3 := Lib.hid (HK2.out.trans (((Kept.refl _).alloc _ _).trans hg3))
  clear pc0 pc1 pf0 pf1
  have pc0 := B3.c0; have pc1 := B3.c1; have pf0 := B3.f 0; have pf1 := B3.f 1
  have dc0 := D3.c0
  have dc1 := D3.c1
  go_wp2_with fail
  refine bodyPost_ret (by simp [results, Tryd.results18, go_sem, *]) rfl ⟨HR.out, ?_⟩
  exact kept_set2 HK3.out _ _ (Nat.le_refl _)

set_option maxRecDepth 100000 in
set_option maxHeartbeats 1000000 in
theorem dtake_zero (s : ByteArray) (w : World) (hs : s.size ≤ 100000) (he : tkE s = 0) (he2 : tkE (tkR s) = 0) (hd : rightD (tiN s, tiN (tkR s)) = false) (hz : tiN s = 0 ∧ tiN (tkR s) = 0) :
    Calls Tryd.prog 18 #[.string s] w fun e w' => e = .returned (.tuple #[.agg #[.int .i64 (tdX s).1, .int .i64 (tdX s).2], .string (tdR s), .int .i64 (tdE s)]) ∧ Kept w w' := by
  have hr := tkR_size s
  have HR0 := Lib.hid (td_of (s := s) (x1 := tiN s) (x2 := tiN (tkR s)) (r := tkR (tkR s)) (e := 0) (by unfold tdL; rw [if_neg (by omega), if_neg (by omega), if_pos (.inr hz)]) rfl)
  obtain ⟨n1, hn1⟩ : ∃ n, tiN s = n := ⟨_, rfl⟩
  obtain ⟨n2, hn2⟩ : ∃ n, tiN (tkR s) = n := ⟨_, rfl⟩
  have HR := Lib.hid (show Ending.returned (.tuple #[.agg #[.int .i64 n1, .int .i64 n2], .string (tkR (tkR s)), .int .i64 0]) = Ending.returned (.tuple #[.agg #[.int .i64 (tdX s).1, .int .i64 (tdX s).2], .string (tdR s), .int .i64 (tdE s)]) by rw [← hn1, ← hn2]; exact HR0.out)
  rw [hn1, hn2] at hd
  rw [hn1, hn2] at hz
  have e1 : (n1 == 0) = true := by simpa using hz.1
  have e2 : (n2 == 0) = true := by simpa using hz.2
  have A1 := Lib.hid (fun w => takeIntK s n1 _ 0 hn1 rfl (by rw [he]; rfl) hs w)
  have A2 := Lib.hid (fun w => takeIntK (tkR s) n2 _ 0 hn2 rfl (by rw [he2]; rfl) (by omega) w)
  have A3 := Lib.hid (fun w => dright_c (n1, n2) false hd w)
  clear he he2 hs hr hn1 hn2 hd HR0 hz
  go_enter Tryd.func18, Tryd.ntmps18
  go_wp2_with fail
  go_at_call 51
  refine (A1.out _).mono ?_
  rintro e w1 ⟨rfl, hg1⟩
  have B1 := (Box2.new w (.int .i64 0) (.int .i64 0) _).kept hg1
  have pc0 := B1.c0; have pc1 := B1.c1; have pf0 := B1.f 0; have pf1 := B1.f 1
  go_wp2_with fail
  go_at_call 51
  refine (A2.out _).mono ?_
  rintro e w2 ⟨rfl, hg2⟩
  have B2 := B1.kept hg2
  have K2 := ((Kept.refl w).alloc #[.int .i64 0, .int .i64 0] 23).trans (hg1.trans hg2)
  have hl2 := lt_of_kept (hg1.trans hg2)
  clear pc0 pc1 pf0 pf1
  have pc0 := B2.c0; have pc1 := B2.c1; have pf0 := B2.f 0; have pf1 := B2.f 1
  have hne : ¬ w.heap.size = w2.heap.size := (by omega)
  have hne' : ¬ w2.heap.size = w.heap.size := (by omega)
  have HB2 := Lib.hid B2
  have HK2 := Lib.hid K2
  clear B1 B2 K2 hg1 hg2
  go_wp2_with fail
  go_at_call 29
  refine (A3.out _).mono ?_
  rintro e w3 ⟨rfl, hg3⟩
  have B3 := HB2.out.kept (((Kept.refl _).alloc _ _).trans hg3)
  have D3 := (Box2.new w2 _ _ _).kept hg3
  have HK3 := Lib.hid (HK2.out.trans (((Kept.refl _).alloc _ _).trans hg3))
  clear pc0 pc1 pf0 pf1
  have pc0 := B3.c0; have pc1 := B3.c1; have pf0 := B3.f 0; have pf1 := B3.f 1
  have dc0 := D3.c0
  have dc1 := D3.c1
  go_wp2_with fail
  refine bodyPost_ret (by simp [results, Tryd.results18, go_sem, *]) rfl ⟨HR.out, ?_⟩
  exact kept_set2 HK3.out _ _ (Nat.le_refl _)

set_option maxRecDepth 100000 in
set_option maxHeartbeats 1000000 in
theorem dtake_form1 (s : ByteArray) (w : World) (hs : s.size ≤ 100000) (he : tkE s = 0) (he2 : tkE (tkR s) = 0) (hd : rightD (tiN s, tiN (tkR s)) = false) (hz : tiN s ≠ 0) :
    Calls Tryd.prog 18 #[.string s] w fun e w' => e = .returned (.tuple #[.agg #[.int .i64 (tdX s).1, .int .i64 (tdX s).2], .string (tdR s), .int .i64 (tdE s)]) ∧ Kept w w' := by
  have hr := tkR_size s
  have HR0 := Lib.hid (td_of (s := s) (x1 := 0) (x2 := 0) (r := ⟨#[]⟩) (e := 3) (by unfold tdL; rw [if_neg (by omega), if_neg (by omega), if_neg (by rw [hd]; simp; omega)]) rfl)
  obtain ⟨n1, hn1⟩ : ∃ n, tiN s = n := ⟨_, rfl⟩
  obtain ⟨n2, hn2⟩ : ∃ n, tiN (tkR s) = n := ⟨_, rfl⟩
  have HR := HR0
  rw [hn1, hn2] at hd
  rw [hn1] at hz
  have e1 : (n1 == 0) = false := by simpa using hz
  have A1 := Lib.hid (fun w => takeIntK s n1 _ 0 hn1 rfl (by rw [he]; rfl) hs w)
  have A2 := Lib.hid (fun w => takeIntK (tkR s) n2 _ 0 hn2 rfl (by rw [he2]; rfl) (by omega) w)
  have A3 := Lib.hid (fun w => dright_c (n1, n2) false hd w)
  clear he he2 hs hr hn1 hn2 hd HR0 hz
  go_enter Tryd.func18, Tryd.ntmps18
  go_wp2_with fail
  go_at_call 51
  refine (A1.out _).mono ?_
  rintro e w1 ⟨rfl, hg1⟩
  have B1 := (Box2.new w (.int .i64 0) (.int .i64 0) _).kept hg1
  have pc0 := B1.c0; have pc1 := B1.c1; have pf0 := B1.f 0; have pf1 := B1.f 1
  go_wp2_with fail
  go_at_call 51
  refine (A2.out _).mono ?_
  rintro e w2 ⟨rfl, hg2⟩
  have B2 := B1.kept hg2
  have K2 := ((Kept.refl w).alloc #[.int .i64 0, .int .i64 0] 23).trans (hg1.trans hg2)
  have hl2 := lt_of_kept (hg1.trans hg2)
  clear pc0 pc1 pf0 pf1
  have pc0 := B2.c0; have pc1 := B2.c1; have pf0 := B2.f 0; have pf1 := B2.f 1
  have hne : ¬ w.heap.size = w2.heap.size := (by omega)
  have hne' : ¬ w2.heap.size = w.heap.size := (by omega)
  have HB2 := Lib.hid B2
  have HK2 := Lib.hid K2
  clear B1 B2 K2 hg1 hg2
  go_wp2_with fail
  go_at_call 29
  refine (A3.out _).mono ?_
  rintro e w3 ⟨rfl, hg3⟩
  have B3 := HB2.out.kept (((Kept.refl _).alloc _ _).trans hg3)
  have D3 := (Box2.new w2 _ _ _).kept hg3
  have HK3 := Lib.hid (HK2.out.trans (((Kept.refl _).alloc _ _).trans hg3))
  clear pc0 pc1 pf0 pf1
  have pc0 := B3.c0; have pc1 := B3.c1; have pf0 := B3.f 0; have pf1 := B3.f 1
  have dc0 := D3.c0
  have dc1 := D3.c1
  go_wp2_with fail
  refine bodyPost_ret (by simp [results, Tryd.results18, go_sem, *]) rfl ⟨HR.out, ?_⟩
  exact kept_set2 HK3.out _ _ (Nat.le_refl _)

set_option maxRecDepth 100000 in
set_option maxHeartbeats 1000000 in
theorem dtake_form2 (s : ByteArray) (w : World) (hs : s.size ≤ 100000) (he : tkE s = 0) (he2 : tkE (tkR s) = 0) (hd : rightD (tiN s, tiN (tkR s)) = false) (hz0 : tiN s = 0) (hz : tiN (tkR s) ≠ 0) :
    Calls Tryd.prog 18 #[.string s] w fun e w' => e = .returned (.tuple #[.agg #[.int .i64 (tdX s).1, .int .i64 (tdX s).2], .string (tdR s), .int .i64 (tdE s)]) ∧ Kept w w' := by
  have hr := tkR_size s
  have HR0 := Lib.hid (td_of (s := s) (x1 := 0) (x2 := 0) (r := ⟨#[]⟩) (e := 3) (by unfold tdL; rw [if_neg (by omega), if_neg (by omega), if_neg (by rw [hd]; simp; omega)]) rfl)
  obtain ⟨n1, hn1⟩ : ∃ n, tiN s = n := ⟨_, rfl⟩
  obtain ⟨n2, hn2⟩ : ∃ n, tiN (tkR s) = n := ⟨_, rfl⟩
  have HR := HR0
  rw [hn1, hn2] at hd
  rw [hn1] at hz0
  rw [hn2] at hz
  have e1 : (n1 == 0) = true := by simpa using hz0
  have e2 : (n2 == 0) = false := by simpa using hz
  have A1 := Lib.hid (fun w => takeIntK s n1 _ 0 hn1 rfl (by rw [he]; rfl) hs w)
  have A2 := Lib.hid (fun w => takeIntK (tkR s) n2 _ 0 hn2 rfl (by rw [he2]; rfl) (by omega) w)
  have A3 := Lib.hid (fun w => dright_c (n1, n2) false hd w)
  clear he he2 hs hr hn1 hn2 hd HR0 hz hz0
  go_enter Tryd.func18, Tryd.ntmps18
  go_wp2_with fail
  go_at_call 51
  refine (A1.out _).mono ?_
  rintro e w1 ⟨rfl, hg1⟩
  have B1 := (Box2.new w (.int .i64 0) (.int .i64 0) _).kept hg1
  have pc0 := B1.c0; have pc1 := B1.c1; have pf0 := B1.f 0; have pf1 := B1.f 1
  go_wp2_with fail
  go_at_call 51
  refine (A2.out _).mono ?_
  rintro e w2 ⟨rfl, hg2⟩
  have B2 := B1.kept hg2
  have K2 := ((Kept.refl w).alloc #[.int .i64 0, .int .i64 0] 23).trans (hg1.trans hg2)
  have hl2 := lt_of_kept (hg1.trans hg2)
  clear pc0 pc1 pf0 pf1
  have pc0 := B2.c0; have pc1 := B2.c1; have pf0 := B2.f 0; have pf1 := B2.f 1
  have hne : ¬ w.heap.size = w2.heap.size := (by omega)
  have hne' : ¬ w2.heap.size = w.heap.size := (by omega)
  have HB2 := Lib.hid B2
  have HK2 := Lib.hid K2
  clear B1 B2 K2 hg1 hg2
  go_wp2_with fail
  go_at_call 29
  refine (A3.out _).mono ?_
  rintro e w3 ⟨rfl, hg3⟩
  have B3 := HB2.out.kept (((Kept.refl _).alloc _ _).trans hg3)
  have D3 := (Box2.new w2 _ _ _).kept hg3
  have HK3 := Lib.hid (HK2.out.trans (((Kept.refl _).alloc _ _).trans hg3))
  clear pc0 pc1 pf0 pf1
  have pc0 := B3.c0; have pc1 := B3.c1; have pf0 := B3.f 0; have pf1 := B3.f 1
  have dc0 := D3.c0
  have dc1 := D3.c1
  go_wp2_with fail
  refine bodyPost_ret (by simp [results, Tryd.results18, go_sem, *]) rfl ⟨HR.out, ?_⟩
  exact kept_set2 HK3.out _ _ (Nat.le_refl _)

theorem dtake_any (s : ByteArray) (w : World) (hs : s.size ≤ 100000) :
    Calls Tryd.prog 18 #[.string s] w fun e w' => e = .returned (.tuple #[.agg #[.int .i64 (tdX s).1, .int .i64 (tdX s).2], .string (tdR s), .int .i64 (tdE s)]) ∧ Kept w w' := by
  by_cases he : tkE s = 0
  · by_cases he2 : tkE (tkR s) = 0
    · cases hd : rightD (tiN s, tiN (tkR s)) with
      | true => exact dtake_right s w hs he he2 hd
      | false =>
        by_cases h1 : tiN s = 0
        · by_cases h2 : tiN (tkR s) = 0
          · exact dtake_zero s w hs he he2 hd ⟨h1, h2⟩
          · exact dtake_form2 s w hs he he2 hd h1 h2
        · exact dtake_form1 s w hs he he2 hd h1
    · exact dtake_err2 s w hs he he2
  · exact dtake_err1 s w hs he
theorem dtake_c (s : ByteArray) (x : Int × Int) (r : ByteArray) (k : Int) (h1 : tdX s = x) (h2 : tdR s = r) (h3 : (tdE s : Int) = k) (hs : s.size ≤ 100000) (w : World) :
    Calls Tryd.prog 18 #[.string s] w fun e w' => e = .returned (.tuple #[.agg #[.int .i64 x.1, .int .i64 x.2], .string r, .int .i64 k]) ∧ Kept w w' := by
  subst h1 h2 h3; exact dtake_any s w hs

set_option maxRecDepth 100000 in
set_option maxHeartbeats 1000000 in
theorem rtakeD_err1 (s : ByteArray) (w : World) (hs : s.size ≤ 100000) (he : tkE s ≠ 0) :
    Calls Tryd.prog 25 #[.string s] w fun e w' => e = .returned (.tuple #[.agg #[.int .i64 (tdX s).1, .int .i64 (tdX s).2], .string (tdR s), .int .i64 (tdE s)]) ∧ Kept w w' := by
  have d1 : ((tkE s : Int) != 0) = true := by simp [he]
  have HR := Lib.hid (td_of (s := s) (x1 := 0) (x2 := 0) (r := ⟨#[]⟩) (e := tkE s) (by unfold tdL; rw [if_pos he]) rfl)
  have A1 := Lib.hid (fun w => rtakeIntK s _ _ _ rfl rfl rfl hs w)
  clear he hs
  go_enter Tryd.func25, Tryd.ntmps25
  go_wp2_with fail
  go_at_call 53
  refine (A1.out _).mono ?_
  rintro e w1 ⟨rfl, hg1⟩
  have B1 := ((Box2.new w (.int .i64 0) (.int .i64 0) 23).kept ((Kept.refl _).alloc _ _)).kept hg1
  have D1 := (Box2.new (w.alloc (.cells #[.int .i64 0, .int .i64 0] 23)) (.int .i64 0) (.int .i64 0) 23).kept hg1
  rw [show (w.alloc (.cells #[.int .i64 0, .int .i64 0] 23)).heap.size = w.heap.size + 1 by simp] at D1
  have K1 := ((((Kept.refl w).alloc #[.int .i64 0, .int .i64 0] 23).alloc #[.int .i64 0, .int .i64 0] 23).trans hg1)
  have pc0 := B1.c0; have pc1 := B1.c1; have pf0 := B1.f 0; have pf1 := B1.f 1
  have dc0 := D1.c0; have dc1 := D1.c1; have df0 := D1.f 0; have df1 := D1.f 1
  go_wp2_with fail
  refine bodyPost_ret (by simp [results, Tryd.results25, go_sem, *]) rfl ⟨HR.out, ?_⟩
  exact kept_set2 (K1.setCell (by simp) _) _ _ (Nat.le_refl _)

set_option maxRecDepth 100000 in
set_option maxHeartbeats 1000000 in
theorem rtakeD_err2 (s : ByteArray) (w : World) (hs : s.size ≤ 100000) (he : tkE s = 0) (he2 : tkE (tkR s) ≠ 0) :
    Calls Tryd.prog 25 #[.string s] w fun e w' => e = .returned (.tuple #[.agg #[.int .i64 (tdX s).1, .int .i64 (tdX s).2], .string (tdR s), .int .i64 (tdE s)]) ∧ Kept w w' := by
  have hr := tkR_size s
  have d1 : ((tkE (tkR s) : Int) != 0) = true := by simp [he2]
  have HR := Lib.hid (td_of (s := s) (x1 := 0) (x2 := 0) (r := ⟨#[]⟩) (e := tkE (tkR s)) (by unfold tdL; rw [if_neg (by omega), if_pos he2]) rfl)
  obtain ⟨n1, hn1⟩ : ∃ n, tiN s = n := ⟨_, rfl⟩
  have A1 := Lib.hid (fun w => rtakeIntK s n1 _ 0 hn1 rfl (by rw [he]; rfl) hs w)
  have A2 := Lib.hid (fun w => rtakeIntK (tkR s) _ _ _ rfl rfl rfl (by omega) w)
  clear he he2 hs hr hn1
  go_enter Tryd.func25, Tryd.ntmps25
  go_wp2_with fail
  go_at_call 53
  refine (A1.out _).mono ?_
  rintro e w1 ⟨rfl, hg1⟩
  have B1 := ((Box2.new w (.int .i64 0) (.int .i64 0) 23).kept ((Kept.refl _).alloc _ _)).kept hg1
  have D1 := (Box2.new (w.alloc (.cells #[.int .i64 0, .int .i64 0] 23)) (.int .i64 0) (.int .i64 0) 23).kept hg1
  rw [show (w.alloc (.cells #[.int .i64 0, .int .i64 0] 23)).heap.size = w.heap.size + 1 by simp] at D1
  have K1 := ((((Kept.refl w).alloc #[.int .i64 0, .int .i64 0] 23).alloc #[.int .i64 0, .int .i64 0] 23).trans hg1)
  have pc0 := B1.c0; have pc1 := B1.c1; have pf0 := B1.f 0; have pf1 := B1.f 1
  have dc0 := D1.c0; have dc1 := D1.c1; have df0 := D1.f 0; have df1 := D1.f 1
  have B1' := B1.far (c := w.heap.size + 1) (o := 0) (by omega) (.int .i64 n1)
  have D1' := D1.set0 (.int .i64 n1)
  have K1' := K1.setCell (a := ⟨w.heap.size + 1, 0, none⟩) (by simp) (.int .i64 n1)
  go_wp2_with fail
  go_at_call 53
  refine (A2.out _).mono ?_
  rintro e w2 ⟨rfl, hg2⟩
  have B2 := B1'.kept hg2
  have D2 := D1'.kept hg2
  have K2 := K1'.trans hg2
  clear pc0 pc1 pf0 pf1 dc0 dc1 df0 df1 B1 D1 K1 B1' D1' K1' hg1 hg2
  have pc0 := B2.c0; have pc1 := B2.c1; have pf0 := B2.f 0; have pf1 := B2.f 1
  have dc0 := D2.c0; have dc1 := D2.c1; have df0 := D2.f 0; have df1 := D2.f 1
  go_wp2_with fail
  refine bodyPost_ret (by simp [results, Tryd.results25, go_sem, *]) rfl ⟨HR.out, ?_⟩
  exact kept_set2 (K2.setCell (by simp) _) _ _ (Nat.le_refl _)

set_option maxRecDepth 100000 in
set_option maxHeartbeats 1000000 in
theorem rtakeD_right (s : ByteArray) (w : World) (hs : s.size ≤ 100000) (he : tkE s = 0) (he2 : tkE (tkR s) = 0) (hd : rightD (tiN s, tiN (tkR s)) = true) :
    Calls Tryd.prog 25 #[.string s] w fun e w' => e = .returned (.tuple #[.agg #[.int .i64 (tdX s).1, .int .i64 (tdX s).2], .string (tdR s), .int .i64 (tdE s)]) ∧ Kept w w' := by
  have hr := tkR_size s
  have HR0 := Lib.hid (td_of (s := s) (x1 := tiN s) (x2 := tiN (tkR s)) (r := tkR (tkR s)) (e := 0) (by unfold tdL; rw [if_neg (by omega), if_neg (by omega), if_pos (.inl hd)]) rfl)
  obtain ⟨n1, hn1⟩ : ∃ n, tiN s = n := ⟨_, rfl⟩
  obtain ⟨n2, hn2⟩ : ∃ n, tiN (tkR s) = n := ⟨_, rfl⟩
  have HR := Lib.hid (show Ending.returned (.tuple #[.agg #[.int .i64 n1, .int .i64 n2], .string (tkR (tkR s)), .int .i64 0]) = Ending.returned (.tuple #[.agg #[.int .i64 (tdX s).1, .int .i64 (tdX s).2], .string (tdR s), .int .i64 (tdE s)]) by rw [← hn1, ← hn2]; exact HR0.out)
  rw [hn1, hn2] at hd
  have A1 := Lib.hid (fun w => rtakeIntK s n1 _ 0 hn1 rfl (by rw [he]; rfl) hs w)
  have A2 := Lib.hid (fun w => rtakeIntK (tkR s) n2 _ 0 hn2 rfl (by rw [he2]; rfl) (by omega) w)
  have A3 := Lib.hid (fun w => rrightD_c (n1, n2) true hd w)
  clear he he2 hs hr hn1 hn2 hd HR0
  go_enter Tryd.func25, Tryd.ntmps25
  go_wp2_with fail
  go_at_call 53
  refine (A1.out _).mono ?_
  rintro e w1 ⟨rfl, hg1⟩
  have B1 := ((Box2.new w (.int .i64 0) (.int .i64 0) 23).kept ((Kept.refl _).alloc _ _)).kept hg1
  have D1 := (Box2.new (w.alloc (.cells #[.int .i64 0, .int .i64 0] 23)) (.int .i64 0) (.int .i64 0) 23).kept hg1
  rw [show (w.alloc (.cells #[.int .i64 0, .int .i64 0] 23)).heap.size = w.heap.size + 1 by simp] at D1
  have K1 := ((((Kept.refl w).alloc #[.int .i64 0, .int .i64 0] 23).alloc #[.int .i64 0, .int .i64 0] 23).trans hg1)
  have pc0 := B1.c0; have pc1 := B1.c1; have pf0 := B1.f 0; have pf1 := B1.f 1
  have dc0 := D1.c0; have dc1 := D1.c1; have df0 := D1.f 0; have df1 := D1.f 1
  have B1' := B1.far (c := w.heap.size + 1) (o := 0) (by omega) (.int .i64 n1)
  have D1' := D1.set0 (.int .i64 n1)
  have K1' := K1.setCell (a := ⟨w.heap.size + 1, 0, none⟩) (by simp) (.int .i64 n1)
  go_wp2_with fail
  go_at_call 53
  refine (A2.out _).mono ?_
  rintro e w2 ⟨rfl, hg2⟩
  have B2 := B1'.kept hg2
  have D2 := D1'.kept hg2
  have K2 := K1'.trans hg2
  clear pc0 pc1 pf0 pf1 dc0 dc1 df0 df1 B1 D1 K1 B1' D1' K1' hg1 hg2
  have pc0 := B2.c0; have pc1 := B2.c1; have pf0 := B2.f 0; have pf1 := B2.f 1
  have dc0 := D2.c0; have dc1 := D2.c1; have df0 := D2.f 0; have df1 := D2.f 1
  have HB2 := Lib.hid (B2.far (c := w.heap.size + 1) (o := 1) (by omega) (.int .i64 n2))
  have HD2 := Lib.hid (D2.set1 (.int .i64 n2))
  have HK2 := Lib.hid (K2.setCell (a := ⟨w.heap.size + 1, 1, none⟩) (by simp) (.int .i64 n2))
  clear B2 D2 K2
  go_wp2_with fail
  go_at_call 34
  refine (A3.out _).mono ?_
  rintro e w3 ⟨rfl, hg3⟩
  have B3 := HB2.out.kept hg3
  have D3 := HD2.out.kept hg3
  have HK3 := Lib.hid (HK2.out.trans hg3)
  clear pc0 pc1 pf0 pf1 dc0 dc1 df0 df1
  have pc0 := B3.c0; have pc1 := B3.c1; have pf0 := B3.f 0; have pf1 := B3.f 1
  have dc0 := D3.c0
  have dc1 := D3.c1
  go_wp2_with fail
  refine bodyPost_ret (by simp [results, Tryd.results25, go_sem, *]) rfl ⟨HR.out, ?_⟩
  exact kept_set2 HK3.out _ _ (Nat.le_refl _)

set_option maxRecDepth 100000 in
set_option maxHeartbeats 1000000 in
theorem rtakeD_zero (s : ByteArray) (w : World) (hs : s.size ≤ 100000) (he : tkE s = 0) (he2 : tkE (tkR s) = 0) (hd : rightD (tiN s, tiN (tkR s)) = false) (hz : tiN s = 0 ∧ tiN (tkR s) = 0) :
    Calls Tryd.prog 25 #[.string s] w fun e w' => e = .returned (.tuple #[.agg #[.int .i64 (tdX s).1, .int .i64 (tdX s).2], .string (tdR s), .int .i64 (tdE s)]) ∧ Kept w w' := by
  have hr := tkR_size s
  have HR0 := Lib.hid (td_of (s := s) (x1 := tiN s) (x2 := tiN (tkR s)) (r := tkR (tkR s)) (e := 0) (by unfold tdL; rw [if_neg (by omega), if_neg (by omega), if_pos (.inr hz)]) rfl)
  obtain ⟨n1, hn1⟩ : ∃ n, tiN s = n := ⟨_, rfl⟩
  obtain ⟨n2, hn2⟩ : ∃ n, tiN (tkR s) = n := ⟨_, rfl⟩
  have HR := Lib.hid (show Ending.returned (.tuple #[.agg #[.int .i64 n1, .int .i64 n2], .string (tkR (tkR s)), .int .i64 0]) = Ending.returned (.tuple #[.agg #[.int .i64 (tdX s).1, .int .i64 (tdX s).2], .string (tdR s), .int .i64 (tdE s)]) by rw [← hn1, ← hn2]; exact HR0.out)
  rw [hn1, hn2] at hd
  rw [hn1, hn2] at hz
  have e1 : (n1 == 0) = true := by simpa using hz.1
  have e2 : (n2 == 0) = true := by simpa using hz.2
  have A1 := Lib.hid (fun w => rtakeIntK s n1 _ 0 hn1 rfl (by rw [he]; rfl) hs w)
  have A2 := Lib.hid (fun w => rtakeIntK (tkR s) n2 _ 0 hn2 rfl (by rw [he2]; rfl) (by omega) w)
  have A3 := Lib.hid (fun w => rrightD_c (n1, n2) false hd w)
  clear he he2 hs hr hn1 hn2 hd HR0 hz
  go_enter Tryd.func25, Tryd.ntmps25
  go_wp2_with fail
  go_at_call 53
  refine (A1.out _).mono ?_
  rintro e w1 ⟨rfl, hg1⟩
  have B1 := ((Box2.new w (.int .i64 0) (.int .i64 0) 23).kept ((Kept.refl _).alloc _ _)).kept hg1
  have D1 := (Box2.new (w.alloc (.cells #[.int .i64 0, .int .i64 0] 23)) (.int .i64 0) (.int .i64 0) 23).kept hg1
  rw [show (w.alloc (.cells #[.int .i64 0, .int .i64 0] 23)).heap.size = w.heap.size + 1 by simp] at D1
  have K1 := ((((Kept.refl w).alloc #[.int .i64 0, .int .i64 0] 23).alloc #[.int .i64 0, .int .i64 0] 23).trans hg1)
  have pc0 := B1.c0; have pc1 := B1.c1; have pf0 := B1.f 0; have pf1 := B1.f 1
  have dc0 := D1.c0; have dc1 := D1.c1; have df0 := D1.f 0; have df1 := D1.f 1
  have B1' := B1.far (c := w.heap.size + 1) (o := 0) (by omega) (.int .i64 n1)
  have D1' := D1.set0 (.int .i64 n1)
  have K1' := K1.setCell (a := ⟨w.heap.size + 1, 0, none⟩) (by simp) (.int .i64 n1)
  go_wp2_with fail
  go_at_call 53
  refine (A2.out _).mono ?_
  rintro e w2 ⟨rfl, hg2⟩
  have B2 := B1'.kept hg2
  have D2 := D1'.kept hg2
  have K2 := K1'.trans hg2
  clear pc0 pc1 pf0 pf1 dc0 dc1 df0 df1 B1 D1 K1 B1' D1' K1' hg1 hg2
  have pc0 := B2.c0; have pc1 := B2.c1; have pf0 := B2.f 0; have pf1 := B2.f 1
  have dc0 := D2.c0; have dc1 := D2.c1; have df0 := D2.f 0; have df1 := D2.f 1
  have HB2 := Lib.hid (B2.far (c := w.heap.size + 1) (o := 1) (by omega) (.int .i64 n2))
  have HD2 := Lib.hid (D2.set1 (.int .i64 n2))
  have HK2 := Lib.hid (K2.setCell (a := ⟨w.heap.size + 1, 1, none⟩) (by simp) (.int .i64 n2))
  clear B2 D2 K2
  go_wp2_with fail
  go_at_call 34
  refine (A3.out _).mono ?_
  rintro e w3 ⟨rfl, hg3⟩
  have B3 := HB2.out.kept hg3
  have D3 := HD2.out.kept hg3
  have HK3 := Lib.hid (HK2.out.trans hg3)
  clear pc0 pc1 pf0 pf1 dc0 dc1 df0 df1
  have pc0 := B3.c0; have pc1 := B3.c1; have pf0 := B3.f 0; have pf1 := B3.f 1
  have dc0 := D3.c0
  have dc1 := D3.c1
  go_wp2_with fail
  refine bodyPost_ret (by simp [results, Tryd.results25, go_sem, *]) rfl ⟨HR.out, ?_⟩
  exact kept_set2 HK3.out _ _ (Nat.le_refl _)

set_option maxRecDepth 100000 in
set_option maxHeartbeats 1000000 in
theorem rtakeD_form1 (s : ByteArray) (w : World) (hs : s.size ≤ 100000) (he : tkE s = 0) (he2 : tkE (tkR s) = 0) (hd : rightD (tiN s, tiN (tkR s)) = false) (hz : tiN s ≠ 0) :
    Calls Tryd.prog 25 #[.string s] w fun e w' => e = .returned (.tuple #[.agg #[.int .i64 (tdX s).1, .int .i64 (tdX s).2], .string (tdR s), .int .i64 (tdE s)]) ∧ Kept w w' := by
  have hr := tkR_size s
  have HR0 := Lib.hid (td_of (s := s) (x1 := 0) (x2 := 0) (r := ⟨#[]⟩) (e := 3) (by unfold tdL; rw [if_neg (by omega), if_neg (by omega), if_neg (by rw [hd]; simp; omega)]) rfl)
  obtain ⟨n1, hn1⟩ : ∃ n, tiN s = n := ⟨_, rfl⟩
  obtain ⟨n2, hn2⟩ : ∃ n, tiN (tkR s) = n := ⟨_, rfl⟩
  have HR := HR0
  rw [hn1, hn2] at hd
  rw [hn1] at hz
  have e1 : (n1 == 0) = false := by simpa using hz
  have A1 := Lib.hid (fun w => rtakeIntK s n1 _ 0 hn1 rfl (by rw [he]; rfl) hs w)
  have A2 := Lib.hid (fun w => rtakeIntK (tkR s) n2 _ 0 hn2 rfl (by rw [he2]; rfl) (by omega) w)
  have A3 := Lib.hid (fun w => rrightD_c (n1, n2) false hd w)
  clear he he2 hs hr hn1 hn2 hd HR0 hz
  go_enter Tryd.func25, Tryd.ntmps25
  go_wp2_with fail
  go_at_call 53
  refine (A1.out _).mono ?_
  rintro e w1 ⟨rfl, hg1⟩
  have B1 := ((Box2.new w (.int .i64 0) (.int .i64 0) 23).kept ((Kept.refl _).alloc _ _)).kept hg1
  have D1 := (Box2.new (w.alloc (.cells #[.int .i64 0, .int .i64 0] 23)) (.int .i64 0) (.int .i64 0) 23).kept hg1
  rw [show (w.alloc (.cells #[.int .i64 0, .int .i64 0] 23)).heap.size = w.heap.size + 1 by simp] at D1
  have K1 := ((((Kept.refl w).alloc #[.int .i64 0, .int .i64 0] 23).alloc #[.int .i64 0, .int .i64 0] 23).trans hg1)
  have pc0 := B1.c0; have pc1 := B1.c1; have pf0 := B1.f 0; have pf1 := B1.f 1
  have dc0 := D1.c0; have dc1 := D1.c1; have df0 := D1.f 0; have df1 := D1.f 1
  have B1' := B1.far (c := w.heap.size + 1) (o := 0) (by omega) (.int .i64 n1)
  have D1' := D1.set0 (.int .i64 n1)
  have K1' := K1.setCell (a := ⟨w.heap.size + 1, 0, none⟩) (by simp) (.int .i64 n1)
  go_wp2_with fail
  go_at_call 53
  refine (A2.out _).mono ?_
  rintro e w2 ⟨rfl, hg2⟩
  have B2 := B1'.kept hg2
  have D2 := D1'.kept hg2
  have K2 := K1'.trans hg2
  clear pc0 pc1 pf0 pf1 dc0 dc1 df0 df1 B1 D1 K1 B1' D1' K1' hg1 hg2
  have pc0 := B2.c0; have pc1 := B2.c1; have pf0 := B2.f 0; have pf1 := B2.f 1
  have dc0 := D2.c0; have dc1 := D2.c1; have df0 := D2.f 0; have df1 := D2.f 1
  have HB2 := Lib.hid (B2.far (c := w.heap.size + 1) (o := 1) (by omega) (.int .i64 n2))
  have HD2 := Lib.hid (D2.set1 (.int .i64 n2))
  have HK2 := Lib.hid (K2.setCell (a := ⟨w.heap.size + 1, 1, none⟩) (by simp) (.int .i64 n2))
  clear B2 D2 K2
  go_wp2_with fail
  go_at_call 34
  refine (A3.out _).mono ?_
  rintro e w3 ⟨rfl, hg3⟩
  have B3 := HB2.out.kept hg3
  have D3 := HD2.out.kept hg3
  have HK3 := Lib.hid (HK2.out.trans hg3)
  clear pc0 pc1 pf0 pf1 dc0 dc1 df0 df1
  have pc0 := B3.c0; have pc1 := B3.c1; have pf0 := B3.f 0; have pf1 := B3.f 1
  have dc0 := D3.c0
  have dc1 := D3.c1
  go_wp2_with fail
  refine bodyPost_ret (by simp [results, Tryd.results25, go_sem, *]) rfl ⟨HR.out, ?_⟩
  exact kept_set2 HK3.out _ _ (Nat.le_refl _)

set_option maxRecDepth 100000 in
set_option maxHeartbeats 1000000 in
theorem rtakeD_form2 (s : ByteArray) (w : World) (hs : s.size ≤ 100000) (he : tkE s = 0) (he2 : tkE (tkR s) = 0) (hd : rightD (tiN s, tiN (tkR s)) = false) (hz0 : tiN s = 0) (hz : tiN (tkR s) ≠ 0) :
    Calls Tryd.prog 25 #[.string s] w fun e w' => e = .returned (.tuple #[.agg #[.int .i64 (tdX s).1, .int .i64 (tdX s).2], .string (tdR s), .int .i64 (tdE s)]) ∧ Kept w w' := by
  have hr := tkR_size s
  have HR0 := Lib.hid (td_of (s := s) (x1 := 0) (x2 := 0) (r := ⟨#[]⟩) (e := 3) (by unfold tdL; rw [if_neg (by omega), if_neg (by omega), if_neg (by rw [hd]; simp; omega)]) rfl)
  obtain ⟨n1, hn1⟩ : ∃ n, tiN s = n := ⟨_, rfl⟩
  obtain ⟨n2, hn2⟩ : ∃ n, tiN (tkR s) = n := ⟨_, rfl⟩
  have HR := HR0
  rw [hn1, hn2] at hd
  rw [hn1] at hz0
  rw [hn2] at hz
  have e1 : (n1 == 0) = true := by simpa using hz0
  have e2 : (n2 == 0) = false := by simpa using hz
  have A1 := Lib.hid (fun w => rtakeIntK s n1 _ 0 hn1 rfl (by rw [he]; rfl) hs w)
  have A2 := Lib.hid (fun w => rtakeIntK (tkR s) n2 _ 0 hn2 rfl (by rw [he2]; rfl) (by omega) w)
  have A3 := Lib.hid (fun w => rrightD_c (n1, n2) false hd w)
  clear he he2 hs hr hn1 hn2 hd HR0 hz hz0
  go_enter Tryd.func25, Tryd.ntmps25
  go_wp2_with fail
  go_at_call 53
  refine (A1.out _).mono ?_
  rintro e w1 ⟨rfl, hg1⟩
  have B1 := ((Box2.new w (.int .i64 0) (.int .i64 0) 23).kept ((Kept.refl _).alloc _ _)).kept hg1
  have D1 := (Box2.new (w.alloc (.cells #[.int .i64 0, .int .i64 0] 23)) (.int .i64 0) (.int .i64 0) 23).kept hg1
  rw [show (w.alloc (.cells #[.int .i64 0, .int .i64 0] 23)).heap.size = w.heap.size + 1 by simp] at D1
  have K1 := ((((Kept.refl w).alloc #[.int .i64 0, .int .i64 0] 23).alloc #[.int .i64 0, .int .i64 0] 23).trans hg1)
  have pc0 := B1.c0; have pc1 := B1.c1; have pf0 := B1.f 0; have pf1 := B1.f 1
  have dc0 := D1.c0; have dc1 := D1.c1; have df0 := D1.f 0; have df1 := D1.f 1
  have B1' := B1.far (c := w.heap.size + 1) (o := 0) (by omega) (.int .i64 n1)
  have D1' := D1.set0 (.int .i64 n1)
  have K1' := K1.setCell (a := ⟨w.heap.size + 1, 0, none⟩) (by simp) (.int .i64 n1)
  go_wp2_with fail
  go_at_call 53
  refine (A2.out _).mono ?_
  rintro e w2 ⟨rfl, hg2⟩
  have B2 := B1'.kept hg2
  have D2 := D1'.kept hg2
  have K2 := K1'.trans hg2
  clear pc0 pc1 pf0 pf1 dc0 dc1 df0 df1 B1 D1 K1 B1' D1' K1' hg1 hg2
  have pc0 := B2.c0; have pc1 := B2.c1; have pf0 := B2.f 0; have pf1 := B2.f 1
  have dc0 := D2.c0; have dc1 := D2.c1; have df0 := D2.f 0; have df1 := D2.f 1
  have HB2 := Lib.hid (B2.far (c := w.heap.size + 1) (o := 1) (by omega) (.int .i64 n2))
  have HD2 := Lib.hid (D2.set1 (.int .i64 n2))
  have HK2 := Lib.hid (K2.setCell (a := ⟨w.heap.size + 1, 1, none⟩) (by simp) (.int .i64 n2))
  clear B2 D2 K2
  go_wp2_with fail
  go_at_call 34
  refine (A3.out _).mono ?_
  rintro e w3 ⟨rfl, hg3⟩
  have B3 := HB2.out.kept hg3
  have D3 := HD2.out.kept hg3
  have HK3 := Lib.hid (HK2.out.trans hg3)
  clear pc0 pc1 pf0 pf1 dc0 dc1 df0 df1
  have pc0 := B3.c0; have pc1 := B3.c1; have pf0 := B3.f 0; have pf1 := B3.f 1
  have dc0 := D3.c0
  have dc1 := D3.c1
  go_wp2_with fail
  refine bodyPost_ret (by simp [results, Tryd.results25, go_sem, *]) rfl ⟨HR.out, ?_⟩
  exact kept_set2 HK3.out _ _ (Nat.le_refl _)

theorem rtakeD_any (s : ByteArray) (w : World) (hs : s.size ≤ 100000) :
    Calls Tryd.prog 25 #[.string s] w fun e w' => e = .returned (.tuple #[.agg #[.int .i64 (tdX s).1, .int .i64 (tdX s).2], .string (tdR s), .int .i64 (tdE s)]) ∧ Kept w w' := by
  by_cases he : tkE s = 0
  · by_cases he2 : tkE (tkR s) = 0
    · cases hd : rightD (tiN s, tiN (tkR s)) with
      | true => exact rtakeD_right s w hs he he2 hd
      | false =>
        by_cases h1 : tiN s = 0
        · by_cases h2 : tiN (tkR s) = 0
          · exact rtakeD_zero s w hs he he2 hd ⟨h1, h2⟩
          · exact rtakeD_form2 s w hs he he2 hd h1 h2
        · exact rtakeD_form1 s w hs he he2 hd h1
    · exact rtakeD_err2 s w hs he he2
  · exact rtakeD_err1 s w hs he
theorem rtakeD_c (s : ByteArray) (x : Int × Int) (r : ByteArray) (k : Int) (h1 : tdX s = x) (h2 : tdR s = r) (h3 : (tdE s : Int) = k) (hs : s.size ≤ 100000) (w : World) :
    Calls Tryd.prog 25 #[.string s] w fun e w' => e = .returned (.tuple #[.agg #[.int .i64 x.1, .int .i64 x.2], .string r, .int .i64 k]) ∧ Kept w w' := by
  subst h1 h2 h3; exact rtakeD_any s w hs
end Go.Proofs.YtoanccojpppfoaaDoor
