/-
  What is proved: Take of package dot and of the document's layer 5, called with any text, return what P5.4 says; the world has new blocks at most.
  plain facts on dots as bytes (P5.3, P5.4): what is put is taken, whatever follows; what is taken is put as these bytes; no program is spoken of here.
  strconv.Itoa, called with any int where its table reads as its initialiser lays it, returns the number's decimal digits: the library's contract, laid at this program's numbers.
  Text of package val and of the document's layer 3, called with any value where the laid tables read as their initialisers lay them, return what P3.5 says; the world has new blocks at most.
-/
import Derived.Test.YtoggcpfogeoeaaaGreatDoorM9
import Derived.Test.YtoggcpfogeoeaaaGreatDoorM2
import Derived.Shelf.Small.Bits
import Derived.Shelf.LaysM
import Derived.Shelf.Strconv.Itoa3
import Derived.Ground.SlgnProg
import Derived.Shelf.SlicesE.Clone
import Derived.Test.YtoggcpfogeoeaaaGreatDoorProg
import Derived.Test.YtoggcpfogeoeaaaGreatDoorM4
import Derived.Test.YtoggcpfogeoeaaaGreatDoorM3
import Derived.Lib.ItoaLen
namespace Go.Proofs.YtoggcpfogeoeaaaGreatDoor
open Go.RowKit

/-- P5.4. -/
def tdL (s : ByteArray) : (Int × Int) × ByteArray × Nat :=
  if tkE s ≠ 0 then ((0, 0), ⟨#[]⟩, tkE s)
  else if tkE (tkR s) ≠ 0 then ((0, 0), ⟨#[]⟩, tkE (tkR s))
  else if rightD (tiN s, tiN (tkR s)) = true ∨ (tiN s = 0 ∧ tiN (tkR s) = 0) then ((tiN s, tiN (tkR s)), tkR (tkR s), 0)
  else ((0, 0), ⟨#[]⟩, 3)
def tdX (s : ByteArray) : Int × Int := (tdL s).1
def tdR (s : ByteArray) : ByteArray := (tdL s).2.1
def tdE (s : ByteArray) : Nat := (tdL s).2.2
theorem td_of {s : ByteArray} {x1 x2 : Int} {r : ByteArray} {e : Nat} {z : Int} (h : tdL s = ((x1, x2), r, e)) (hz : (e : Int) = z) :
    Ending.returned (.tuple #[.agg #[.int .i64 x1, .int .i64 x2], .string r, .int .i64 z]) = .returned (.tuple #[.agg #[.int .i64 (tdX s).1, .int .i64 (tdX s).2], .string (tdR s), .int .i64 (tdE s)]) := by
  unfold tdX tdR tdE; rw [h, hz]

/-- A block of two cells that may be written. -/
structure Box2 (w : World) (b : Nat) (x0 x1 : Value) : Prop where
  c0 : w.cell? ⟨b, 0, none⟩ = some x0
  c1 : w.cell? ⟨b, 1, none⟩ = some x1
  f : ∀ i, w.frozen? ⟨b, i, none⟩ = false
theorem Box2.kept {w w' : World} {b : Nat} {x0 x1 : Value} (h : Box2 w b x0 x1) (hg : Kept w w') : Box2 w' b x0 x1 :=
  ⟨hg.cell h.c0, hg.cell h.c1, fun i => (hg.2.1 ⟨b, i, none⟩ (show b < w.heap.size from World.block_lt_of_cell? w _ h.c0)).trans (h.f i)⟩
theorem Box2.new (w : World) (x0 x1 : Value) (t : TypeId) : Box2 (w.alloc (.cells #[x0, x1] t)) w.heap.size x0 x1 :=
  ⟨Kept.box0 (Kept.refl _), Kept.box1 (Kept.refl _), fun i => by rw [frozen?_alloc_cells]; simp [World.frozen?]⟩
theorem Box2.set0 {w : World} {b : Nat} {x0 x1 : Value} (h : Box2 w b x0 x1) (v : Value) : Box2 (w.setCell ⟨b, 0, none⟩ v) b v x1 :=
  ⟨World.cell?_setCell_same _ _ _ h.c0, by rw [World.cell?_setCell_other _ _ _ _ (by simp)]; exact h.c1, fun i => by rw [World.frozen?_setCell]; exact h.f i⟩
theorem Box2.set1 {w : World} {b : Nat} {x0 x1 : Value} (h : Box2 w b x0 x1) (v : Value) : Box2 (w.setCell ⟨b, 1, none⟩ v) b x0 v :=
  ⟨by rw [World.cell?_setCell_other _ _ _ _ (by simp)]; exact h.c0, World.cell?_setCell_same _ _ _ h.c1, fun i => by rw [World.frozen?_setCell]; exact h.f i⟩
theorem Box2.far {w : World} {b c o : Nat} {x0 x1 : Value} (h : Box2 w b x0 x1) (hne : b ≠ c) (v : Value) : Box2 (w.setCell ⟨c, o, none⟩ v) b x0 x1 := by
  have e : ∀ i, (w.setCell ⟨c, o, none⟩ v).cell? ⟨b, i, none⟩ = w.cell? ⟨b, i, none⟩ := fun i => World.cell?_setCell_other _ _ _ _ (by intro e; injection e; omega)
  exact ⟨by rw [e]; exact h.c0, by rw [e]; exact h.c1, fun i => by rw [World.frozen?_setCell]; exact h.f i⟩
theorem kept_set2 {W w : World} (h : Kept W w) (x0 x1 : Value) {b : Nat} (hb : W.heap.size ≤ b) : Kept W ((w.setCell ⟨b, 0, none⟩ x0).setCell ⟨b, 1, none⟩ x1) :=
  (h.setCell hb x0).setCell hb x1
theorem takeIntK (s : ByteArray) (n : Int) (r : ByteArray) (k : Int) (hn : tiN s = n) (hr : tkR s = r) (hk : (tkE s : Int) = k) (hs : s.size ≤ 100000) (w : World) :
    Calls Tryz.prog 82 #[.string s] w fun e w' => e = .returned (.tuple #[.int .i64 n, .string r, .int .i64 k]) ∧ Kept w w' :=
  (takeInt_c s n r k hn hr hk (by omega) w).mono fun _ _ ⟨he, hg⟩ => ⟨he, kept_of hg⟩
set_option maxRecDepth 100000 in
set_option maxHeartbeats 1000000 in
theorem dtake_err1 (s : ByteArray) (w : World) (hs : s.size ≤ 100000) (he : tkE s ≠ 0) :
    Calls Tryz.prog 83 #[.string s] w fun e w' => e = .returned (.tuple #[.agg #[.int .i64 (tdX s).1, .int .i64 (tdX s).2], .string (tdR s), .int .i64 (tdE s)]) ∧ Kept w w' := by
  have d1 : ((tkE s : Int) != 0) = true := by simp [he]
  have HR := Lib.hid (td_of (s := s) (x1 := 0) (x2 := 0) (r := ⟨#[]⟩) (e := tkE s) (by unfold tdL; rw [if_pos he]) rfl)
  have A1 := Lib.hid (fun w => takeIntK s _ _ _ rfl rfl rfl hs w)
  clear he hs
  go_enter Tryz.func83, Tryz.ntmps83
  go_wp2_with fail
  go_at_call 82
  refine (A1.out _).mono ?_
  rintro e w1 ⟨rfl, hg1⟩
  have B1 := (Box2.new w (.int .i64 0) (.int .i64 0) _).kept hg1
  have pc0 := B1.c0; have pc1 := B1.c1; have pf0 := B1.f 0; have pf1 := B1.f 1
  go_wp2_with fail
  refine bodyPost_ret (by simp [results, Tryz.results83, go_sem, *]) rfl ⟨HR.out, ?_⟩
  exact kept_set2 (((Kept.refl _).alloc _ _).trans hg1) _ _ (Nat.le_refl _)

set_option maxRecDepth 100000 in
set_option maxHeartbeats 1000000 in
theorem dtake_err2 (s : ByteArray) (w : World) (hs : s.size ≤ 100000) (he : tkE s = 0) (he2 : tkE (tkR s) ≠ 0) :
    Calls Tryz.prog 83 #[.string s] w fun e w' => e = .returned (.tuple #[.agg #[.int .i64 (tdX s).1, .int .i64 (tdX s).2], .string (tdR s), .int .i64 (tdE s)]) ∧ Kept w w' := by
  have hr := tkR_size s
  have d1 : ((tkE (tkR s) : Int) != 0) = true := by simp [he2]
  have HR := Lib.hid (td_of (s := s) (x1 := 0) (x2 := 0) (r := ⟨#[]⟩) (e := tkE (tkR s)) (by unfold tdL; rw [if_neg (by omega), if_pos he2]) rfl)
  obtain ⟨n1, hn1⟩ : ∃ n, tiN s = n := ⟨_, rfl⟩
  have A1 := Lib.hid (fun w => takeIntK s n1 _ 0 hn1 rfl (by rw [he]; rfl) hs w)
  have A2 := Lib.hid (fun w => takeIntK (tkR s) _ _ _ rfl rfl rfl (by omega) w)
  clear he he2 hs hr hn1
  go_enter Tryz.func83, Tryz.ntmps83
  go_wp2_with fail
  go_at_call 82
  refine (A1.out _).mono ?_
  rintro e w1 ⟨rfl, hg1⟩
  have B1 := (Box2.new w (.int .i64 0) (.int .i64 0) _).kept hg1
  have pc0 := B1.c0; have pc1 := B1.c1; have pf0 := B1.f 0; have pf1 := B1.f 1
  go_wp2_with fail
  go_at_call 82
  refine (A2.out _).mono ?_
  rintro e w2 ⟨rfl, hg2⟩
  have B2 := B1.kept hg2
  have K2 := ((Kept.refl w).alloc #[.int .i64 0, .int .i64 0] 31).trans (hg1.trans hg2)
  have hl2 := lt_of_kept (hg1.trans hg2)
  clear pc0 pc1 pf0 pf1
  have pc0 := B2.c0; have pc1 := B2.c1; have pf0 := B2.f 0; have pf1 := B2.f 1
  have hne : ¬ w.heap.size = w2.heap.size := (by omega)
  have hne' : ¬ w2.heap.size = w.heap.size := (by omega)
  go_wp2_with fail
  refine bodyPost_ret (by simp [results, Tryz.results83, go_sem, *]) rfl ⟨HR.out, ?_⟩
  exact kept_set2 K2 _ _ (Nat.le_refl _)

set_option maxRecDepth 100000 in
set_option maxHeartbeats 1000000 in
theorem dtake_right (s : ByteArray) (w : World) (hs : s.size ≤ 100000) (he : tkE s = 0) (he2 : tkE (tkR s) = 0) (hd : rightD (tiN s, tiN (tkR s)) = true) :
    Calls Tryz.prog 83 #[.string s] w fun e w' => e = .returned (.tuple #[.agg #[.int .i64 (tdX s).1, .int .i64 (tdX s).2], .string (tdR s), .int .i64 (tdE s)]) ∧ Kept w w' := by
  have hr := tkR_size s
  have HR0 := Lib.hid (td_of (s := s) (x1 := tiN s) (x2 := tiN (tkR s)) (r := tkR (tkR s)) (e := 0) (by unfold tdL; rw [if_neg (by omega), if_neg (by omega), if_pos (.inl hd)]) rfl)
  obtain ⟨n1, hn1⟩ : ∃ n, tiN s = n := ⟨_, rfl⟩
  obtain ⟨n2, hn2⟩ : ∃ n, tiN (tkR s) = n := ⟨_, rfl⟩
  have HR := Lib.hid (show Ending.returned (.tuple #[.agg #[.int .i64 n1, .int .i64 n2], .string (tkR (tkR s)), .int .i64 0]) = Ending.returned (.tuple #[.agg #[.int .i64 (tdX s).1, .int .i64 (tdX s).2], .string (tdR s), .int .i64 (tdE s)]) by rw [← hn1, ← hn2]; exact HR0.out)
  rw [hn1, hn2] at hd
  have A1 := Lib.hid (fun w => takeIntK s n1 _ 0 hn1 rfl (by rw [he]; rfl) hs w)
  have A2 := Lib.hid (fun w => takeIntK (tkR s) n2 _ 0 hn2 rfl (by rw [he2]; rfl) (by omega) w)
  have A3 := Lib.hid (fun w => dright_c (n1, n2) true hd w)
  clear he he2 hs hr hn1 hn2 hd HR0
  go_enter Tryz.func83, Tryz.ntmps83
  go_wp2_with fail
  go_at_call 82
  refine (A1.out _).mono ?_
  rintro e w1 ⟨rfl, hg1⟩
  have B1 := (Box2.new w (.int .i64 0) (.int .i64 0) _).kept hg1
  have pc0 := B1.c0; have pc1 := B1.c1; have pf0 := B1.f 0; have pf1 := B1.f 1
  go_wp2_with fail
  go_at_call 82
  refine (A2.out _).mono ?_
  rintro e w2 ⟨rfl, hg2⟩
  have B2 := B1.kept hg2
  have K2 := ((Kept.refl w).alloc #[.int .i64 0, .int .i64 0] 31).trans (hg1.trans hg2)
  have hl2 := lt_of_kept (hg1.trans hg2)
  clear pc0 pc1 pf0 pf1
  have pc0 := B2.c0; have pc1 := B2.c1; have pf0 := B2.f 0; have pf1 := B2.f 1
  have hne : ¬ w.heap.size = w2.heap.size := (by omega)
  have hne' : ¬ w2.heap.size = w.heap.size := (by omega)
  have HB2 := Lib.hid B2
  have HK2 := Lib.hid K2
  clear B1 B2 K2 hg1 hg2
  go_wp2_with fail
  go_at_call 10
  refine (A3.out _).mono ?_
  rintro e w3 ⟨rfl, hg3⟩
  have B3 := HB2.out.kept (((Kept.refl _).alloc _ _).trans hg3)
  have D3 := (Box2.new w2 _ _ _).kept hg3
  have HK3 := Lib.hid (HK2.out.trans (((Kept.refl _).alloc _ _).trans hg3))
  clear pc0 pc1 pf0 pf1
  have pc0 := B3.c0; have pc1 := B3.c1; have pf0 := B3.f 0; have pf1 := B3.f 1
  have dc0 := D3.c0
  have dc1 := D3.c1
  go_wp2_with fail
  refine bodyPost_ret (by simp [results, Tryz.results83, go_sem, *]) rfl ⟨HR.out, ?_⟩
  exact kept_set2 HK3.out _ _ (Nat.le_refl _)

set_option maxRecDepth 100000 in
set_option maxHeartbeats 1000000 in
theorem dtake_zero (s : ByteArray) (w : World) (hs : s.size ≤ 100000) (he : tkE s = 0) (he2 : tkE (tkR s) = 0) (hd : rightD (tiN s, tiN (tkR s)) = false) (hz : tiN s = 0 ∧ tiN (tkR s) = 0) :
    Calls Tryz.prog 83 #[.string s] w fun e w' => e = .returned (.tuple #[.agg #[.int .i64 (tdX s).1, .int .i64 (tdX s).2], .string (tdR s), .int .i64 (tdE s)]) ∧ Kept w w' := by
  have hr := tkR_size s
  have HR0 := Lib.hid (td_of (s := s) (x1 := tiN s) (x2 := tiN (tkR s)) (r := tkR (tkR s)) (e := 0) (by unfold tdL; rw [if_neg (by omega), if_neg (by omega), if_pos (.inr hz)]) rfl)
  obtain ⟨n1, hn1⟩ : ∃ n, tiN s = n := ⟨_, rfl⟩
  obtain ⟨n2, hn2⟩ : ∃ n, tiN (tkR s) = n := ⟨_, rfl⟩
  have HR := Lib.hid (show Ending.returned (.tuple #[.agg #[.int .i64 n1, .int .i64 n2], .string (tkR (tkR s)), .int .i64 0]) = Ending.returned (.tuple #[.agg #[.int .i64 (tdX s).1, .int .i64 (tdX s).2], .string (tdR s), .int .i64 (tdE s)]) by rw [← hn1, ← hn2]; exact HR0.out)
  rw [hn1, hn2] at hd
  rw [hn1, hn2] at hz
  have e1 : (n1 == 0) = true := by simpa using hz.1
  have e2 : (n2 == 0) = true := by simpa using hz.2
  have A1 := Lib.hid (fun w => takeIntK s n1 _ 0 hn1 rfl (by rw [he]; rfl) hs w)
  have A2 := Lib.hid (fun w => takeIntK (tkR s) n2 _ 0 hn2 rfl (by rw [he2]; rfl) (by omega) w)
  have A3 := Lib.hid (fun w => dright_c (n1, n2) false hd w)
  clear he he2 hs hr hn1 hn2 hd HR0 hz
  go_enter Tryz.func83, Tryz.ntmps83
  go_wp2_with fail
  go_at_call 82
  refine (A1.out _).mono ?_
  rintro e w1 ⟨rfl, hg1⟩
  have B1 := (Box2.new w (.int .i64 0) (.int .i64 0) _).kept hg1
  have pc0 := B1.c0; have pc1 := B1.c1; have pf0 := B1.f 0; have pf1 := B1.f 1
  go_wp2_with fail
  go_at_call 82
  refine (A2.out _).mono ?_
  rintro e w2 ⟨rfl, hg2⟩
  have B2 := B1.kept hg2
  have K2 := ((Kept.refl w).alloc #[.int .i64 0, .int .i64 0] 31).trans (hg1.trans hg2)
  have hl2 := lt_of_kept (hg1.trans hg2)
  clear pc0 pc1 pf0 pf1
  have pc0 := B2.c0; have pc1 := B2.c1; have pf0 := B2.f 0; have pf1 := B2.f 1
  have hne : ¬ w.heap.size = w2.heap.size := (by omega)
  have hne' : ¬ w2.heap.size = w.heap.size := (by omega)
  have HB2 := Lib.hid B2
  have HK2 := Lib.hid K2
  clear B1 B2 K2 hg1 hg2
  go_wp2_with fail
  go_at_call 10
  refine (A3.out _).mono ?_
  rintro e w3 ⟨rfl, hg3⟩
  have B3 := HB2.out.kept (((Kept.refl _).alloc _ _).trans hg3)
  have D3 := (Box2.new w2 _ _ _).kept hg3
  have HK3 := Lib.hid (HK2.out.trans (((Kept.refl _).alloc _ _).trans hg3))
  clear pc0 pc1 pf0 pf1
  have pc0 := B3.c0; have pc1 := B3.c1; have pf0 := B3.f 0; have pf1 := B3.f 1
  have dc0 := D3.c0
  have dc1 := D3.c1
  go_wp2_with fail
  refine bodyPost_ret (by simp [results, Tryz.results83, go_sem, *]) rfl ⟨HR.out, ?_⟩
  exact kept_set2 HK3.out _ _ (Nat.le_refl _)

set_option maxRecDepth 100000 in
set_option maxHeartbeats 1000000 in
theorem dtake_form1 (s : ByteArray) (w : World) (hs : s.size ≤ 100000) (he : tkE s = 0) (he2 : tkE (tkR s) = 0) (hd : rightD (tiN s, tiN (tkR s)) = false) (hz : tiN s ≠ 0) :
    Calls Tryz.prog 83 #[.string s] w fun e w' => e = .returned (.tuple #[.agg #[.int .i64 (tdX s).1, .int .i64 (tdX s).2], .string (tdR s), .int .i64 (tdE s)]) ∧ Kept w w' := by
  have hr := tkR_size s
  have HR0 := Lib.hid (td_of (s := s) (x1 := 0) (x2 := 0) (r := ⟨#[]⟩) (e := 3) (by unfold tdL; rw [if_neg (by omega), if_neg (by omega), if_neg (by rw [hd]; simp; omega)]) rfl)
  obtain ⟨n1, hn1⟩ : ∃ n, tiN s = n := ⟨_, rfl⟩
  obtain ⟨n2, hn2⟩ : ∃ n, tiN (tkR s) = n := ⟨_, rfl⟩
  have HR := HR0
  rw [hn1, hn2] at hd
  rw [hn1] at hz
  have e1 : (n1 == 0) = false := by simpa using hz
  have A1 := Lib.hid (fun w => takeIntK s n1 _ 0 hn1 rfl (by rw [he]; rfl) hs w)
  have A2 := Lib.hid (fun w => takeIntK (tkR s) n2 _ 0 hn2 rfl (by rw [he2]; rfl) (by omega) w)
  have A3 := Lib.hid (fun w => dright_c (n1, n2) false hd w)
  clear he he2 hs hr hn1 hn2 hd HR0 hz
  go_enter Tryz.func83, Tryz.ntmps83
  go_wp2_with fail
  go_at_call 82
  refine (A1.out _).mono ?_
  rintro e w1 ⟨rfl, hg1⟩
  have B1 := (Box2.new w (.int .i64 0) (.int .i64 0) _).kept hg1
  have pc0 := B1.c0; have pc1 := B1.c1; have pf0 := B1.f 0; have pf1 := B1.f 1
  go_wp2_with fail
  go_at_call 82
  refine (A2.out _).mono ?_
  rintro e w2 ⟨rfl, hg2⟩
  have B2 := B1.kept hg2
  have K2 := ((Kept.refl w).alloc #[.int .i64 0, .int .i64 0] 31).trans (hg1.trans hg2)
  have hl2 := lt_of_kept (hg1.trans hg2)
  clear pc0 pc1 pf0 pf1
  have pc0 := B2.c0; have pc1 := B2.c1; have pf0 := B2.f 0; have pf1 := B2.f 1
  have hne : ¬ w.heap.size = w2.heap.size := (by omega)
  have hne' : ¬ w2.heap.size = w.heap.size := (by omega)
  have HB2 := Lib.hid B2
  have HK2 := Lib.hid K2
  clear B1 B2 K2 hg1 hg2
  go_wp2_with fail
  go_at_call 10
  refine (A3.out _).mono ?_
  rintro e w3 ⟨rfl, hg3⟩
  have B3 := HB2.out.kept (((Kept.refl _).alloc _ _).trans hg3)
  have D3 := (Box2.new w2 _ _ _).kept hg3
  have HK3 := Lib.hid (HK2.out.trans (((Kept.refl _).alloc _ _).trans hg3))
  clear pc0 pc1 pf0 pf1
  have pc0 := B3.c0; have pc1 := B3.c1; have pf0 := B3.f 0; have pf1 := B3.f 1
  have dc0 := D3.c0
  have dc1 := D3.c1
  go_wp2_with fail
  refine bodyPost_ret (by simp [results, Tryz.results83, go_sem, *]) rfl ⟨HR.out, ?_⟩
  exact kept_set2 HK3.out _ _ (Nat.le_refl _)

set_option maxRecDepth 100000 in
set_option maxHeartbeats 1000000 in
theorem dtake_form2 (s : ByteArray) (w : World) (hs : s.size ≤ 100000) (he : tkE s = 0) (he2 : tkE (tkR s) = 0) (hd : rightD (tiN s, tiN (tkR s)) = false) (hz0 : tiN s = 0) (hz : tiN (tkR s) ≠ 0) :
    Calls Tryz.prog 83 #[.string s] w fun e w' => e = .returned (.tuple #[.agg #[.int .i64 (tdX s).1, .int .i64 (tdX s).2], .string (tdR s), .int .i64 (tdE s)]) ∧ Kept w w' := by
  have hr := tkR_size s
  have HR0 := Lib.hid (td_of (s := s) (x1 := 0) (x2 := 0) (r := ⟨#[]⟩) (e := 3) (by unfold tdL; rw [if_neg (by omega), if_neg (by omega), if_neg (by rw [hd]; simp; omega)]) rfl)
  obtain ⟨n1, hn1⟩ : ∃ n, tiN s = n := ⟨_, rfl⟩
  obtain ⟨n2, hn2⟩ : ∃ n, tiN (tkR s) = n := ⟨_, rfl⟩
  have HR := HR0
  rw [hn1, hn2] at hd
  rw [hn1] at hz0
  rw [hn2] at hz
  have e1 : (n1 == 0) = true := by simpa using hz0
  have e2 : (n2 == 0) = false := by simpa using hz
  have A1 := Lib.hid (fun w => takeIntK s n1 _ 0 hn1 rfl (by rw [he]; rfl) hs w)
  have A2 := Lib.hid (fun w => takeIntK (tkR s) n2 _ 0 hn2 rfl (by rw [he2]; rfl) (by omega) w)
  have A3 := Lib.hid (fun w => dright_c (n1, n2) false hd w)
  clear he he2 hs hr hn1 hn2 hd HR0 hz hz0
  go_enter Tryz.func83, Tryz.ntmps83
  go_wp2_with fail
  go_at_call 82
  refine (A1.out _).mono ?_
  rintro e w1 ⟨rfl, hg1⟩
  have B1 := (Box2.new w (.int .i64 0) (.int .i64 0) _).kept hg1
  have pc0 := B1.c0; have pc1 := B1.c1; have pf0 := B1.f 0; have pf1 := B1.f 1
  go_wp2_with fail
  go_at_call 82
  refine (A2.out _).mono ?_
  rintro e w2 ⟨rfl, hg2⟩
  have B2 := B1.kept hg2
  have K2 := ((Kept.refl w).alloc #[.int .i64 0, .int .i64 0] 31).trans (hg1.trans hg2)
  have hl2 := lt_of_kept (hg1.trans hg2)
  clear pc0 pc1 pf0 pf1
  have pc0 := B2.c0; have pc1 := B2.c1; have pf0 := B2.f 0; have pf1 := B2.f 1
  have hne : ¬ w.heap.size = w2.heap.size := (by omega)
  have hne' : ¬ w2.heap.size = w.heap.size := (by omega)
  have HB2 := Lib.hid B2
  have HK2 := Lib.hid K2
  clear B1 B2 K2 hg1 hg2
  go_wp2_with fail
  go_at_call 10
  refine (A3.out _).mono ?_
  rintro e w3 ⟨rfl, hg3⟩
  have B3 := HB2.out.kept (((Kept.refl _).alloc _ _).trans hg3)
  have D3 := (Box2.new w2 _ _ _).kept hg3
  have HK3 := Lib.hid (HK2.out.trans (((Kept.refl _).alloc _ _).trans hg3))
  clear pc0 pc1 pf0 pf1
  have pc0 := B3.c0; have pc1 := B3.c1; have pf0 := B3.f 0; have pf1 := B3.f 1
  have dc0 := D3.c0
  have dc1 := D3.c1
  go_wp2_with fail
  refine bodyPost_ret (by simp [results, Tryz.results83, go_sem, *]) rfl ⟨HR.out, ?_⟩
  exact kept_set2 HK3.out _ _ (Nat.le_refl _)

theorem dtake_any (s : ByteArray) (w : World) (hs : s.size ≤ 100000) :
    Calls Tryz.prog 83 #[.string s] w fun e w' => e = .returned (.tuple #[.agg #[.int .i64 (tdX s).1, .int .i64 (tdX s).2], .string (tdR s), .int .i64 (tdE s)]) ∧ Kept w w' := by
  by_cases he : tkE s = 0
  · by_cases he2 : tkE (tkR s) = 0
    · cases hd : rightD (tiN s, tiN (tkR s)) with
      | true => exact dtake_right s w hs he he2 hd
      | false =>
        by_cases h1 : tiN s = 0
        · by_cases h2 : tiN (tkR s) = 0
          · exact dtake_zero s w hs he he2 hd ⟨h1, h2⟩
          · exact dtake_form2 s w hs he he2 hd h1 h2
        · exact dtake_form1 s w hs he he2 hd h1
    · exact dtake_err2 s w hs he he2
  · exact dtake_err1 s w hs he
theorem dtake_c (s : ByteArray) (x : Int × Int) (r : ByteArray) (k : Int) (h1 : tdX s = x) (h2 : tdR s = r) (h3 : (tdE s : Int) = k) (hs : s.size ≤ 100000) (w : World) :
    Calls Tryz.prog 83 #[.string s] w fun e w' => e = .returned (.tuple #[.agg #[.int .i64 x.1, .int .i64 x.2], .string r, .int .i64 k]) ∧ Kept w w' := by
  subst h1 h2 h3; exact dtake_any s w hs

end Go.Proofs.YtoggcpfogeoeaaaGreatDoor

namespace Go.Proofs.YtoggcpfogeoeaaaGreatDoor
open Go.RowKit

def encDo (x : Int × Int) : ByteArray := putS (zigI x.1).toNat ++ putS (zigI x.2).toNat
theorem putD_enc (b : ByteArray) (x : Int × Int) : putD b x = b ++ encDo x := by
  unfold putD encDo
  rw [ba_assoc]
theorem td_fore (x : Int × Int) (s : ByteArray) (h : rightD x = true) : tdX (encDo x ++ s) = x ∧ tdR (encDo x ++ s) = s ∧ tdE (encDo x ++ s) = 0 := by
  obtain ⟨x1, x2⟩ := x
  obtain ⟨b1, b2, b3, b4⟩ := rightD_bd h
  simp only at b1 b2 b3 b4
  have e : encDo (x1, x2) ++ s = putS (zigI x1).toNat ++ (putS (zigI x2).toNat ++ s) := by unfold encDo; rw [ba_assoc]
  obtain ⟨p1, p2, p3⟩ := ti_fore x1 (putS (zigI x2).toNat ++ s) (by omega) (by omega)
  obtain ⟨q1, q2, q3⟩ := ti_fore x2 s (by omega) (by omega)
  have ht : tdL (encDo (x1, x2) ++ s) = ((x1, x2), s, 0) := by
    unfold tdL
    rw [e, p3, p2, q3, q2, p1, q1, if_neg (by simp), if_neg (by simp), if_pos (.inl h)]
  exact ⟨by unfold tdX; rw [ht], by unfold tdR; rw [ht], by unfold tdE; rw [ht]⟩
theorem td_aft (s : ByteArray) (h : tdE s = 0) : encDo (tdX s) ++ tdR s = s := by
  unfold tdE tdL at h
  unfold tdX tdR tdL
  split at h
  · rename_i he; exact absurd h he
  · rename_i he
    split at h
    · rename_i he2; exact absurd h he2
    · rename_i he2
      split at h
      · rename_i hr
        rw [if_neg he, if_neg he2, if_pos hr]
        have h1 := ti_aft s (by simpa using he)
        have h2 := ti_aft (tkR s) (by simpa using he2)
        show encDo (tiN s, tiN (tkR s)) ++ tkR (tkR s) = s
        unfold encDo
        rw [ba_assoc, h2, h1]
      · cases h
/-- The dot that names the version at the beginning. -/
theorem td_none (s : ByteArray) : tdX (encDo (0, 0) ++ s) = (0, 0) ∧ tdR (encDo (0, 0) ++ s) = s ∧ tdE (encDo (0, 0) ++ s) = 0 := by
  have e : encDo (0, 0) ++ s = putS (zigI 0).toNat ++ (putS (zigI 0).toNat ++ s) := by unfold encDo; rw [ba_assoc]
  obtain ⟨p1, p2, p3⟩ := ti_fore 0 (putS (zigI 0).toNat ++ s) (by omega) (by omega)
  obtain ⟨q1, q2, q3⟩ := ti_fore 0 s (by omega) (by omega)
  have ht : tdL (encDo (0, 0) ++ s) = ((0, 0), s, 0) := by
    unfold tdL
    rw [e, p3, p2, q3, q2, p1, q1, if_neg (by simp), if_neg (by simp), if_pos (.inr ⟨rfl, rfl⟩)]
  exact ⟨by unfold tdX; rw [ht], by unfold tdR; rw [ht], by unfold tdE; rw [ht]⟩
end Go.Proofs.YtoggcpfogeoeaaaGreatDoor

namespace Go.Proofs
open Go.Shelf
def Tryz.laysM171_ren : Go.Shelf.Ren := ⟨fun | 171 => 93 | 243 => 107 | 246 => 116 | 283 => 119 | 284 => 120 | 285 => 121 | 286 => 122 | 129 => 104 | 317 => 127 | 318 => 128 | 319 => 129 | 320 => 130 | 337 => 133 | 338 => 134 | n => n, fun | 3 => 3 | 9 => 9 | 2 => 2 | 4 => 4 | 171 => 172 | 0 => 0 | 53 => 82 | 37 => 73 | 5 => 5 | 173 => 174 | 212 => 178 | 51 => 156 | 20 => 20 | 213 => 179 | 46 => 96 | 232 => 182 | 233 => 183 | n => n, fun | 17 => 3 | 18 => 4 | 19 => 5 | n => n⟩
theorem Tryz.laysM171 : Go.Proofs.LaysM.n171 Tryz.prog Tryz.laysM171_ren := {
  mixed := by kernel_rfl
  f129 := Tryz.func104.trans (congrArg some (by kernel_rfl))
  f171 := Tryz.func93.trans (congrArg some (by kernel_rfl))
  f243 := Tryz.func107.trans (congrArg some (by kernel_rfl))
  f246 := Tryz.func116.trans (congrArg some (by kernel_rfl))
  f283 := Tryz.func119.trans (congrArg some (by kernel_rfl))
  f284 := Tryz.func120.trans (congrArg some (by kernel_rfl))
  f285 := Tryz.func121.trans (congrArg some (by kernel_rfl))
  f286 := Tryz.func122.trans (congrArg some (by kernel_rfl))
  f317 := Tryz.func127.trans (congrArg some (by kernel_rfl))
  f318 := Tryz.func128.trans (congrArg some (by kernel_rfl))
  f319 := Tryz.func129.trans (congrArg some (by kernel_rfl))
  f320 := Tryz.func130.trans (congrArg some (by kernel_rfl))
  f337 := Tryz.func133.trans (congrArg some (by kernel_rfl))
  f338 := Tryz.func134.trans (congrArg some (by kernel_rfl))
  t0 := Tryz.underlying0
  a0 := Tryz.isAgg0
  z0 := Tryz.sizeOf0
  v0 := Tryz.zeroValue0
  t2 := Tryz.underlying2
  a2 := Tryz.isAgg2
  z2 := Tryz.sizeOf2
  v2 := Tryz.zeroValue2
  t3 := Tryz.underlying3
  a3 := Tryz.isAgg3
  z3 := Tryz.sizeOf3
  v3 := Tryz.zeroValue3
  t4 := Tryz.underlying4
  a4 := Tryz.isAgg4
  z4 := Tryz.sizeOf4
  v4 := Tryz.zeroValue4
  t5 := Tryz.underlying5
  a5 := Tryz.isAgg5
  z5 := Tryz.sizeOf5
  v5 := Tryz.zeroValue5
  t9 := Tryz.underlying9
  a9 := Tryz.isAgg9
  z9 := Tryz.sizeOf9
  v9 := Tryz.zeroValue9
  t20 := Tryz.underlying20
  a20 := Tryz.isAgg20
  z20 := Tryz.sizeOf20
  v20 := Tryz.zeroValue20
  t37 := Tryz.underlying73
  a37 := Tryz.isAgg73
  z37 := Tryz.sizeOf73
  v37 := Tryz.zeroValue73
  t46 := Tryz.underlying96
  a46 := Tryz.isAgg96
  z46 := Tryz.sizeOf96
  v46 := Tryz.zeroValue96
  t51 := Tryz.underlying156
  a51 := Tryz.isAgg156
  z51 := Tryz.sizeOf156
  v51 := Tryz.zeroValue156
  t53 := Tryz.underlying82
  a53 := Tryz.isAgg82
  z53 := Tryz.sizeOf82
  v53 := Tryz.zeroValue82
  t171 := Tryz.underlying172
  a171 := Tryz.isAgg172
  z171 := Tryz.sizeOf172
  v171 := Tryz.zeroValue172
  t173 := Tryz.underlying174
  a173 := Tryz.isAgg174
  z173 := Tryz.sizeOf174
  v173 := Tryz.zeroValue174
  t212 := Tryz.underlying178
  a212 := Tryz.isAgg178
  z212 := Tryz.sizeOf178
  v212 := Tryz.zeroValue178
  t213 := Tryz.underlying179
  a213 := Tryz.isAgg179
  z213 := Tryz.sizeOf179
  t232 := Tryz.underlying182
  a232 := Tryz.isAgg182
  z232 := Tryz.sizeOf182
  v232 := Tryz.zeroValue182
  t233 := Tryz.underlying183
  a233 := Tryz.isAgg183
  z233 := Tryz.sizeOf183
  v233 := Tryz.zeroValue183
  g17 := by kernel_rfl
  g18 := by kernel_rfl
  g19 := by kernel_rfl
  i0 := by kernel_rfl
  i2 := by kernel_rfl
  i3 := by kernel_rfl
  i4 := by kernel_rfl
  i5 := by kernel_rfl
  i9 := by kernel_rfl
  i20 := by kernel_rfl
  i37 := by kernel_rfl
  i46 := by kernel_rfl
  i51 := by kernel_rfl
  i53 := by kernel_rfl
  i171 := by kernel_rfl
  i173 := by kernel_rfl
  i212 := by kernel_rfl
  i232 := by kernel_rfl
  i233 := by kernel_rfl
  m17 := by kernel_rfl
  m18 := by kernel_rfl
  m19 := by kernel_rfl }
open Go.RowKit Go.Sort Go.Lib in
theorem Tryz.strconv_Itoa (n : Int) (h0 : -9223372036854775808 ≤ n) (h1 : n ≤ 9223372036854775807) (w : World) (htab : Lib.TabIs Tryz.prog w "internal/strconv.uint64pow10" .u64 Lib.pow10Tab) :
    Calls Tryz.prog 93 #[.int .i64 n] w fun e w' => e = .returned (.string ⟨(Lib.itoa n).toArray⟩) ∧ ∃ k os, w' = grow (w.drewN k) os := Any.strconv_Itoa Tryz.laysM171 n h0 h1 w htab
end Go.Proofs

namespace Go.Proofs.YtoggcpfogeoeaaaGreatDoor
open Go.RowKit

def noS : ByteArray := ⟨#[110, 111]⟩
def yesS : ByteArray := ⟨#[121, 101, 115]⟩
/-- What the listed variables hold: the table of powers of ten, and the two truths. -/
structure LaidW (w : World) : Prop where
  tab : Lib.TabIs Tryz.prog w "internal/strconv.uint64pow10" .u64 Lib.pow10Tab
  no : w.cell? ⟨1, 0, none⟩ = some (.string noS)
  yes : w.cell? ⟨1, 1, none⟩ = some (.string yesS)

theorem LaidW.kept {w w' : World} (h : LaidW w) (hg : Kept w w') : LaidW w' :=
  ⟨Kept.var h.tab hg, hg.cell h.no, hg.cell h.yes⟩
theorem LaidW.grown {w w' : World} (h : LaidW w) (hg : Grown w w') : LaidW w' := h.kept (kept_of hg)

/-- P3.5. -/
def itoaS (n : Int) : ByteArray := ⟨(Lib.itoa n).toArray⟩
def textV (k n : Int) (t : ByteArray) : ByteArray :=
  if k = 1 then itoaS n else if k = 2 then ⟨#[39]⟩ ++ t else if k = 3 then (if n % 2 = 0 then noS else yesS) else ⟨#[45]⟩

theorem itoa_any (n : Int) (w : World) (h0 : -9223372036854775808 ≤ n) (h1 : n ≤ 9223372036854775807) (hl : LaidW w) :
    Calls Tryz.prog 93 #[.int .i64 n] w fun e w' => e = .returned (.string (itoaS n)) ∧ Kept w w' :=
  (Tryz.strconv_Itoa n h0 h1 w hl.tab).mono fun _ _ ⟨he, k, os, hw⟩ => ⟨he, by rw [hw]; exact kept_grow w k os⟩

theorem vtext_any (k n : Int) (t : ByteArray) (w : World) (h0 : -9223372036854775808 ≤ n) (h1 : n ≤ 9223372036854775807) (ht : t.size ≤ 1000000000000) (hl : LaidW w) :
    Calls Tryz.prog 73 #[.agg #[.int .i64 k, .int .i64 n, .string t]] w fun e w' => e = .returned (.string (textV k n t)) ∧ Kept w w' := by
  by_cases k1 : k = 1
  · subst k1
    have HR := Lib.hid (show itoaS n = textV 1 n t from rfl)
    have hl' := hl.grown ((Grown.refl w).alloc #[.int .i64 1, .int .i64 n, .string t] 33)
    clear hl
    go_enter Tryz.func73, Tryz.ntmps73
    go_wp2_with (go_at_call 93; ((with_reducible refine (itoa_any n _ h0 h1 hl').mono ?_); rintro e w1 ⟨rfl, hg⟩))
    go_ret
    exact ⟨ret_str HR.out, (kept_of ((Grown.refl _).alloc _ _)).trans (by assumption)⟩
  by_cases k2 : k = 2
  · subst k2
    have HR := Lib.hid (show ⟨#[39]⟩ ++ t = textV 2 n t from rfl)
    clear hl
    go_enter Tryz.func73, Tryz.ntmps73
    go_wp2_with fail
    go_ret
    exact ⟨ret_str HR.out, kept_of ((Grown.refl _).alloc _ _)⟩
  by_cases k3 : k = 3
  · subst k3
    have hl' := hl.grown ((Grown.refl w).alloc #[.int .i64 3, .int .i64 n, .string t] 33)
    have e0 := hl'.no
    have e1 := hl'.yes
    have hand := i64_and1 n
    clear hl hl'
    by_cases hn : n % 2 = 0
    · rw [hn] at hand
      have HR := Lib.hid (show noS = textV 3 n t by unfold textV; simp [hn])
      clear hn
      go_enter Tryz.func73, Tryz.ntmps73
      go_wp2_with fail
      go_ret
      exact ⟨ret_str HR.out, kept_of ((Grown.refl _).alloc _ _)⟩
    · have HR := Lib.hid (show yesS = textV 3 n t by unfold textV; simp [hn])
      have hn1 : n % 2 = 1 := by omega
      rw [hn1] at hand
      clear hn hn1
      go_enter Tryz.func73, Tryz.ntmps73
      go_wp2_with fail
      go_ret
      exact ⟨ret_str HR.out, kept_of ((Grown.refl _).alloc _ _)⟩
  · have HR := Lib.hid (show ⟨#[45]⟩ = textV k n t by unfold textV; rw [if_neg k1, if_neg k2, if_neg k3])
    have d1 : (k == 1) = false := by simpa using k1
    have d2 : (k == 2) = false := by simpa using k2
    have d3 : (k == 3) = false := by simpa using k3
    clear hl
    go_enter Tryz.func73, Tryz.ntmps73
    go_wp2_with fail
    go_ret
    exact ⟨ret_str HR.out, kept_of ((Grown.refl _).alloc _ _)⟩
end Go.Proofs.YtoggcpfogeoeaaaGreatDoor

