/-
  What is proved: val.Take, called with any text, returns what P3.4 says; the world has new blocks at most.
  plain facts on numbers and texts as bytes (P1.1 to P1.7), over texts: what is put is taken, whatever follows; what is taken is put as these bytes; no program is spoken of here.
  over texts: what is right is put and taken, whatever follows (P3.7); when a struct differs from another one.
  plain facts on what values become (P13.1 to P13.5, P13.9, P13.10): forth, back and forth is forth, and the other way round; what loses nothing has ways that are each other's opposite; what is not told to lose nothing loses something; no program is spoken of here.
  of worlds that have all that another one has, unchanged, and new blocks of whatever kind ('Kept'): cells and variables read on; a region that draws its order, whose callees leave such worlds and hand back values that hang on no world, is walked once, in the text's order; the row's last step for a call whose arguments lie in no memory.
-/
import Derived.Test.YtofnpifooaijcaaGreatM2
import Derived.Test.YtofnpifooaijcaaGreatM1
import Derived.Sort.Grow
import Derived.ChangeSame
namespace Go.Proofs.YtofnpifooaijcaaGreat
open Go.RowKit
def tvL (s : ByteArray) : Int × Int × ByteArray × ByteArray × Nat :=
  if tkE s ≠ 0 then (0, 0, ⟨#[]⟩, ⟨#[]⟩, tkE s)
  else if 3 < tkN s then (0, 0, ⟨#[]⟩, ⟨#[]⟩, 3)
  else if tkN s = 0 then (0, 0, ⟨#[]⟩, tkR s, 0)
  else if tkN s = 2 then (if ttE (tkR s) 200 ≠ 0 then (0, 0, ⟨#[]⟩, ⟨#[]⟩, ttE (tkR s) 200) else (2, 0, ttT (tkR s) 200, ttR (tkR s) 200, 0))
  else if tkE (tkR s) ≠ 0 then (0, 0, ⟨#[]⟩, ⟨#[]⟩, tkE (tkR s))
  else if rightB (tkN s) (tiN (tkR s)) ⟨#[]⟩ = true then (tkN s, tiN (tkR s), ⟨#[]⟩, tkR (tkR s), 0)
  else (0, 0, ⟨#[]⟩, ⟨#[]⟩, 3)
def tvK (s : ByteArray) : Int := (tvL s).1
def tvI (s : ByteArray) : Int := (tvL s).2.1
def tvT (s : ByteArray) : ByteArray := (tvL s).2.2.1
def tvR (s : ByteArray) : ByteArray := (tvL s).2.2.2.1
def tvE (s : ByteArray) : Nat := (tvL s).2.2.2.2
theorem tv_of {s : ByteArray} {k n : Int} {t r : ByteArray} {e : Nat} {z : Int} (h : tvL s = (k, n, t, r, e)) (hz : (e : Int) = z) :
    Ending.returned (.tuple #[.agg #[.int .i64 k, .int .i64 n, .string t], .string r, .int .i64 z]) = .returned (.tuple #[.agg #[.int .i64 (tvK s), .int .i64 (tvI s), .string (tvT s)], .string (tvR s), .int .i64 (tvE s)]) := by
  unfold tvK tvI tvT tvR tvE; rw [h, hz]
structure Box (w : World) (b : Nat) (x0 x1 x2 : Value) : Prop where
  c0 : w.cell? ⟨b, 0, none⟩ = some x0
  c1 : w.cell? ⟨b, 1, none⟩ = some x1
  c2 : w.cell? ⟨b, 2, none⟩ = some x2
  f : ∀ i, w.frozen? ⟨b, i, none⟩ = false
theorem Box.grown {w w' : World} {b : Nat} {x0 x1 x2 : Value} (h : Box w b x0 x1 x2) (hg : Grown w w') : Box w' b x0 x1 x2 :=
  ⟨grown_cell hg h.c0, grown_cell hg h.c1, grown_cell hg h.c2, fun i => (hg.2.1 _).trans (h.f i)⟩
theorem Box.new (w : World) (x0 x1 x2 : Value) (t : TypeId) : Box (w.alloc (.cells #[x0, x1, x2] t)) w.heap.size x0 x1 x2 :=
  ⟨grown_box (Grown.refl _) 0 x0 rfl, grown_box (Grown.refl _) 1 x1 rfl, grown_box (Grown.refl _) 2 x2 rfl, fun i => by rw [frozen?_alloc_cells]; simp [World.frozen?]⟩
theorem Box.set1 {w : World} {b : Nat} {x0 x1 x2 : Value} (h : Box w b x0 x1 x2) (v : Value) : Box (w.setCell ⟨b, 1, none⟩ v) b x0 v x2 :=
  ⟨by rw [World.cell?_setCell_other _ _ _ _ (by simp)]; exact h.c0, World.cell?_setCell_same _ _ _ h.c1, by rw [World.cell?_setCell_other _ _ _ _ (by simp)]; exact h.c2, fun i => by rw [World.frozen?_setCell]; exact h.f i⟩
theorem Box.set2 {w : World} {b : Nat} {x0 x1 x2 : Value} (h : Box w b x0 x1 x2) (v : Value) : Box (w.setCell ⟨b, 2, none⟩ v) b x0 x1 v :=
  ⟨by rw [World.cell?_setCell_other _ _ _ _ (by simp)]; exact h.c0, by rw [World.cell?_setCell_other _ _ _ _ (by simp)]; exact h.c1, World.cell?_setCell_same _ _ _ h.c2, fun i => by rw [World.frozen?_setCell]; exact h.f i⟩
theorem Box.far {w : World} {b c o : Nat} {x0 x1 x2 : Value} (h : Box w b x0 x1 x2) (hne : b ≠ c) (v : Value) : Box (w.setCell ⟨c, o, none⟩ v) b x0 x1 x2 := by
  have e : ∀ i, (w.setCell ⟨c, o, none⟩ v).cell? ⟨b, i, none⟩ = w.cell? ⟨b, i, none⟩ := fun i => World.cell?_setCell_other _ _ _ _ (by intro e; injection e; omega)
  exact ⟨by rw [e]; exact h.c0, by rw [e]; exact h.c1, by rw [e]; exact h.c2, fun i => by rw [World.frozen?_setCell]; exact h.f i⟩
theorem grown_set3 {W w : World} (h : Grown W w) (x0 x1 x2 : Value) {b : Nat} (hb : W.heap.size ≤ b) : Grown W (((w.setCell ⟨b, 0, none⟩ x0).setCell ⟨b, 1, none⟩ x1).setCell ⟨b, 2, none⟩ x2) :=
  ((h.setCell hb x0).setCell hb x1).setCell hb x2
theorem lt_of_grown {w w1 : World} {c : Array Value} {t : TypeId} (hg : Grown (w.alloc (.cells c t)) w1) : w.heap.size < w1.heap.size := by
  have := hg.2.2; simp at this; omega
theorem vright_c (k n : Int) (t : ByteArray) (b : Bool) (h : rightB k n t = b) (w : World) (hs : t.size ≤ 9223372036854775807) :
    Calls Tryz.prog 105 #[.agg #[.int .i64 k, .int .i64 n, .string t]] w fun e w' => e = .returned (.bool b) ∧ Grown w w' := by
  subst h; exact vright_any k n t w hs
theorem tt_size (s : ByteArray) : (ttT s 200).size ≤ 200 := by
  unfold ttT ttL
  by_cases h1 : tkE s ≠ 0
  · rw [if_pos h1]; exact Nat.zero_le _
  rw [if_neg h1]
  by_cases h2 : (200 : Int) < 0 ∨ (200 : Int) < (tkN s : Int)
  · rw [if_pos h2]; exact Nat.zero_le _
  rw [if_neg h2]
  by_cases h3 : (tkR s).size < tkN s
  · rw [if_pos h3]; exact Nat.zero_le _
  rw [if_neg h3]
  rw [ByteArray.size_extract]
  omega
set_option maxRecDepth 100000 in
set_option maxHeartbeats 1000000 in
theorem vtake_err (s : ByteArray) (w : World) (hs : s.size ≤ 9223372036854775807) (he : tkE s ≠ 0) :
    Calls Tryz.prog 41 #[.string s] w fun e w' => e = .returned (.tuple #[.agg #[.int .i64 (tvK s), .int .i64 (tvI s), .string (tvT s)], .string (tvR s), .int .i64 (tvE s)]) ∧ Grown w w' := by
  have d1 : ((tkE s : Int) == 0) = false := by simp [he]
  have d2 : ((tkE s : Int) != 0) = true := by simp [he]
  have HN := Lib.hid (tk_bad s he).1
  have HR := Lib.hid (tv_of (s := s) (k := 0) (n := 0) (t := ⟨#[]⟩) (r := ⟨#[]⟩) (e := tkE s) (by unfold tvL; rw [if_pos he]) rfl)
  have HS := Lib.hid hs
  clear hs he
  go_enter Tryz.func41, Tryz.ntmps41
  go_wp2_with (first
    | (go_at_call 100; ((with_reducible refine (take_c s 0 _ _ (by have := HN.out; omega) rfl rfl HS.out _).mono ?_); rintro e w1 ⟨rfl, hg⟩; have B1 := (Box.new w (.int .i64 0) (.int .i64 0) (.string ⟨#[]⟩) _).grown hg; have ac0 := B1.c0; have ac1 := B1.c1; have ac2 := B1.c2; have af0 := B1.f 0; have af1 := B1.f 1; have af2 := B1.f 2; have hlt := lt_of_grown hg; have hne : ¬ w.heap.size = w1.heap.size := (by omega); have hne' : ¬ w1.heap.size = w.heap.size := (by omega)))
    | fail)
  refine bodyPost_ret (by simp [results, Tryz.results41, go_sem, *]) rfl ⟨HR.out, ?_⟩
  exact grown_set3 (grown_trans ((Grown.refl _).alloc _ _) hg) _ _ _ (Nat.le_refl _)
set_option maxRecDepth 100000 in
set_option maxHeartbeats 1000000 in
theorem vtake_big (s : ByteArray) (w : World) (hs : s.size ≤ 9223372036854775807) (he : tkE s = 0) (hk : 3 < tkN s) :
    Calls Tryz.prog 41 #[.string s] w fun e w' => e = .returned (.tuple #[.agg #[.int .i64 (tvK s), .int .i64 (tvI s), .string (tvT s)], .string (tvR s), .int .i64 (tvE s)]) ∧ Grown w w' := by
  have d1 : decide (3 < tkN s) = true := by simpa using hk
  have d2 : decide ((3 : Int) < (tkN s : Int)) = true := by simp; omega
  have hn := tkN_bd s
  have HE := Lib.hid he
  have HR := Lib.hid (tv_of (s := s) (k := 0) (n := 0) (t := ⟨#[]⟩) (r := ⟨#[]⟩) (e := 3) (by unfold tvL; rw [if_neg (by omega), if_pos hk]) rfl)
  have HS := Lib.hid hs
  clear hs he hk
  go_enter Tryz.func41, Tryz.ntmps41
  go_wp2_with (first
    | (go_at_call 100; ((with_reducible refine (take_c s _ _ 0 rfl rfl (by have := HE.out; omega) HS.out _).mono ?_); rintro e w1 ⟨rfl, hg⟩; have B1 := (Box.new w (.int .i64 0) (.int .i64 0) (.string ⟨#[]⟩) _).grown hg; have ac0 := B1.c0; have ac1 := B1.c1; have ac2 := B1.c2; have af0 := B1.f 0; have af1 := B1.f 1; have af2 := B1.f 2; have hlt := lt_of_grown hg; have hne : ¬ w.heap.size = w1.heap.size := (by omega); have hne' : ¬ w1.heap.size = w.heap.size := (by omega)))
    | fail)
  refine bodyPost_ret (by simp [results, Tryz.results41, go_sem, *]) rfl ⟨HR.out, ?_⟩
  exact grown_set3 (grown_trans ((Grown.refl _).alloc _ _) hg) _ _ _ (Nat.le_refl _)
set_option maxRecDepth 100000 in
set_option maxHeartbeats 1000000 in
theorem vtake_none (s : ByteArray) (w : World) (hs : s.size ≤ 9223372036854775807) (he : tkE s = 0) (hk : tkN s = 0) :
    Calls Tryz.prog 41 #[.string s] w fun e w' => e = .returned (.tuple #[.agg #[.int .i64 (tvK s), .int .i64 (tvI s), .string (tvT s)], .string (tvR s), .int .i64 (tvE s)]) ∧ Grown w w' := by
  have HE := Lib.hid he
  have HK := Lib.hid hk
  have HR := Lib.hid (tv_of (s := s) (k := 0) (n := 0) (t := ⟨#[]⟩) (r := tkR s) (e := 0) (by unfold tvL; rw [if_neg (by omega), if_neg (by omega), if_pos hk]) rfl)
  have HS := Lib.hid hs
  clear hs he hk
  go_enter Tryz.func41, Tryz.ntmps41
  go_wp2_with (first
    | (go_at_call 100; ((with_reducible refine (take_c s 0 _ 0 (by have := HK.out; omega) rfl (by have := HE.out; omega) HS.out _).mono ?_); rintro e w1 ⟨rfl, hg⟩; have B1 := (Box.new w (.int .i64 0) (.int .i64 0) (.string ⟨#[]⟩) _).grown hg; have ac0 := B1.c0; have ac1 := B1.c1; have ac2 := B1.c2; have af0 := B1.f 0; have af1 := B1.f 1; have af2 := B1.f 2; have hlt := lt_of_grown hg; have hne : ¬ w.heap.size = w1.heap.size := (by omega); have hne' : ¬ w1.heap.size = w.heap.size := (by omega)))
    | fail)
  refine bodyPost_ret (by simp [results, Tryz.results41, go_sem, *]) rfl ⟨HR.out, ?_⟩
  exact (grown_set3 (grown_trans ((Grown.refl _).alloc _ _) hg) _ _ _ (Nat.le_refl _)).alloc _ _
set_option maxRecDepth 100000 in
set_option maxHeartbeats 1000000 in
theorem vtake_textE (s : ByteArray) (w : World) (hs : s.size ≤ 9223372036854775807) (he : tkE s = 0) (hk : tkN s = 2) (ht : ttE (tkR s) 200 ≠ 0) :
    Calls Tryz.prog 41 #[.string s] w fun e w' => e = .returned (.tuple #[.agg #[.int .i64 (tvK s), .int .i64 (tvI s), .string (tvT s)], .string (tvR s), .int .i64 (tvE s)]) ∧ Grown w w' := by
  have HE := Lib.hid he
  have HK := Lib.hid hk
  have HZ := Lib.hid (Nat.le_trans (tkR_size s) hs)
  have d1 : ((ttE (tkR s) 200 : Int) == 0) = false := by simp [ht]
  have d2 : ((ttE (tkR s) 200 : Int) != 0) = true := by simp [ht]
  have HR := Lib.hid (tv_of (s := s) (k := 0) (n := 0) (t := ⟨#[]⟩) (r := ⟨#[]⟩) (e := ttE (tkR s) 200) (by unfold tvL; rw [if_neg (by omega), if_neg (by omega), if_neg (by omega), if_pos hk, if_pos ht]) rfl)
  have HS := Lib.hid hs
  clear hs he hk ht
  go_enter Tryz.func41, Tryz.ntmps41
  go_wp2_with (first
    | (go_at_call 100; ((with_reducible refine (take_c s 2 _ 0 (by have := HK.out; omega) rfl (by have := HE.out; omega) HS.out _).mono ?_); rintro e w1 ⟨rfl, hg⟩; have B1 := (Box.new w (.int .i64 0) (.int .i64 0) (.string ⟨#[]⟩) _).grown hg; have ac0 := B1.c0; have ac1 := B1.c1; have ac2 := B1.c2; have af0 := B1.f 0; have af1 := B1.f 1; have af2 := B1.f 2; have hlt := lt_of_grown hg; have hne : ¬ w.heap.size = w1.heap.size := (by omega); have hne' : ¬ w1.heap.size = w.heap.size := (by omega)))
    | (go_at_call 103; ((with_reducible refine (takeText_c (tkR s) 200 _ _ _ rfl rfl rfl HZ.out (by decide) (by decide) _).mono ?_); rintro e w2 ⟨rfl, hg2⟩; have B2 := B1.grown (grown_trans ((Grown.refl _).alloc _ _) hg2); have V2 := (Box.new w1 (.int .i64 2) (.int .i64 0) (.string ⟨#[]⟩) _).grown hg2; have bc0 := B2.c0; have bc1 := B2.c1; have bc2 := B2.c2; have bf0 := B2.f 0; have bf1 := B2.f 1; have bf2 := B2.f 2; have vc0 := V2.c0; have vc1 := V2.c1; have vc2 := V2.c2; have vf0 := V2.f 0; have vf1 := V2.f 1; have vf2 := V2.f 2)))
  refine bodyPost_ret (by simp [results, Tryz.results41, go_sem, *]) rfl ⟨HR.out, ?_⟩
  exact grown_set3 (((grown_trans ((grown_trans ((Grown.refl _).alloc _ _) hg).alloc _ _) hg2)).setCell (Nat.le_of_lt hlt) _) _ _ _ (Nat.le_refl _)
set_option maxRecDepth 100000 in
set_option maxHeartbeats 1000000 in
theorem vtake_text (s : ByteArray) (w : World) (hs : s.size ≤ 9223372036854775807) (he : tkE s = 0) (hk : tkN s = 2) (ht : ttE (tkR s) 200 = 0) :
    Calls Tryz.prog 41 #[.string s] w fun e w' => e = .returned (.tuple #[.agg #[.int .i64 (tvK s), .int .i64 (tvI s), .string (tvT s)], .string (tvR s), .int .i64 (tvE s)]) ∧ Grown w w' := by
  have HE := Lib.hid he
  have HK := Lib.hid hk
  have HZ := Lib.hid (Nat.le_trans (tkR_size s) hs)
  have HT := Lib.hid ht
  have hz := tt_size (tkR s)
  have HB := Lib.hid (show rightB 2 0 (ttT (tkR s) 200) = true by unfold rightB; simp; omega)
  have HR := Lib.hid (tv_of (s := s) (k := 2) (n := 0) (t := ttT (tkR s) 200) (r := ttR (tkR s) 200) (e := 0) (by unfold tvL; rw [if_neg (by omega), if_neg (by omega), if_neg (by omega), if_pos hk, if_neg (by omega)]) rfl)
  have HS := Lib.hid hs
  clear hs he hk ht
  go_enter Tryz.func41, Tryz.ntmps41
  go_wp2_with (first
    | (go_at_call 100; ((with_reducible refine (take_c s 2 _ 0 (by have := HK.out; omega) rfl (by have := HE.out; omega) HS.out _).mono ?_); rintro e w1 ⟨rfl, hg⟩; have B1 := (Box.new w (.int .i64 0) (.int .i64 0) (.string ⟨#[]⟩) _).grown hg; have ac0 := B1.c0; have ac1 := B1.c1; have ac2 := B1.c2; have af0 := B1.f 0; have af1 := B1.f 1; have af2 := B1.f 2; have hlt := lt_of_grown hg; have hne : ¬ w.heap.size = w1.heap.size := (by omega); have hne' : ¬ w1.heap.size = w.heap.size := (by omega)))
    | (go_at_call 103; ((with_reducible refine (takeText_c (tkR s) 200 _ _ 0 rfl rfl (by have := HT.out; omega) HZ.out (by decide) (by decide) _).mono ?_); rintro e w2 ⟨rfl, hg2⟩; have B2 := B1.grown (grown_trans ((Grown.refl _).alloc _ _) hg2); have V2 := (Box.new w1 (.int .i64 2) (.int .i64 0) (.string ⟨#[]⟩) _).grown hg2; have bc0 := B2.c0; have bc1 := B2.c1; have bc2 := B2.c2; have bf0 := B2.f 0; have bf1 := B2.f 1; have bf2 := B2.f 2; have vc0 := V2.c0; have vc1 := V2.c1; have vc2 := V2.c2; have vf0 := V2.f 0; have vf1 := V2.f 1; have vf2 := V2.f 2))
    | (go_at_call 105; ((with_reducible refine (vright_c 2 0 (ttT (tkR s) 200) true HB.out _ (by omega)).mono ?_); rintro e w3 ⟨rfl, hg3⟩; have B3 := (B2.far (b := w.heap.size) (c := w1.heap.size) (o := 2) hne _).grown hg3; have V3 := (V2.set2 (.string (ttT (tkR s) 200))).grown hg3; have xc0 := B3.c0; have xc1 := B3.c1; have xc2 := B3.c2; have xf0 := B3.f 0; have xf1 := B3.f 1; have xf2 := B3.f 2; have yc0 := V3.c0; have yc1 := V3.c1; have yc2 := V3.c2; have yf0 := V3.f 0; have yf1 := V3.f 1; have yf2 := V3.f 2)))
  refine bodyPost_ret (by simp [results, Tryz.results41, go_sem, *]) rfl ⟨HR.out, ?_⟩
  exact grown_set3 (grown_trans (((grown_trans ((grown_trans ((Grown.refl _).alloc _ _) hg).alloc _ _) hg2)).setCell (Nat.le_of_lt hlt) _) hg3) _ _ _ (Nat.le_refl _)
set_option maxRecDepth 100000 in
set_option maxHeartbeats 1000000 in
theorem vtake_int1E (s : ByteArray) (w : World) (hs : s.size ≤ 9223372036854775807) (he : tkE s = 0) (hk : tkN s = 1) (ht : tkE (tkR s) ≠ 0) :
    Calls Tryz.prog 41 #[.string s] w fun e w' => e = .returned (.tuple #[.agg #[.int .i64 (tvK s), .int .i64 (tvI s), .string (tvT s)], .string (tvR s), .int .i64 (tvE s)]) ∧ Grown w w' := by
  have HE := Lib.hid he
  have HK := Lib.hid hk
  have HZ := Lib.hid (Nat.le_trans (tkR_size s) hs)
  have d1 : ((tkE (tkR s) : Int) == 0) = false := by simp [ht]
  have d2 : ((tkE (tkR s) : Int) != 0) = true := by simp [ht]
  have HR := Lib.hid (tv_of (s := s) (k := 0) (n := 0) (t := ⟨#[]⟩) (r := ⟨#[]⟩) (e := tkE (tkR s)) (by unfold tvL; rw [if_neg (by omega), if_neg (by omega), if_neg (by omega), if_neg (by omega), if_pos ht]) rfl)
  have HS := Lib.hid hs
  clear hs he hk ht
  go_enter Tryz.func41, Tryz.ntmps41
  go_wp2_with (first
    | (go_at_call 100; ((with_reducible refine (take_c s 1 _ 0 (by have := HK.out; omega) rfl (by have := HE.out; omega) HS.out _).mono ?_); rintro e w1 ⟨rfl, hg⟩; have B1 := (Box.new w (.int .i64 0) (.int .i64 0) (.string ⟨#[]⟩) _).grown hg; have ac0 := B1.c0; have ac1 := B1.c1; have ac2 := B1.c2; have af0 := B1.f 0; have af1 := B1.f 1; have af2 := B1.f 2; have hlt := lt_of_grown hg; have hne : ¬ w.heap.size = w1.heap.size := (by omega); have hne' : ¬ w1.heap.size = w.heap.size := (by omega)))
    | (go_at_call 43; ((with_reducible refine (takeInt_c (tkR s) _ _ _ rfl rfl rfl HZ.out _).mono ?_); rintro e w2 ⟨rfl, hg2⟩; have B2 := B1.grown (grown_trans ((Grown.refl _).alloc _ _) hg2); have V2 := (Box.new w1 (.int .i64 1) (.int .i64 0) (.string ⟨#[]⟩) _).grown hg2; have bc0 := B2.c0; have bc1 := B2.c1; have bc2 := B2.c2; have bf0 := B2.f 0; have bf1 := B2.f 1; have bf2 := B2.f 2; have vc0 := V2.c0; have vc1 := V2.c1; have vc2 := V2.c2; have vf0 := V2.f 0; have vf1 := V2.f 1; have vf2 := V2.f 2)))
  refine bodyPost_ret (by simp [results, Tryz.results41, go_sem, *]) rfl ⟨HR.out, ?_⟩
  exact grown_set3 (((grown_trans ((grown_trans ((Grown.refl _).alloc _ _) hg).alloc _ _) hg2)).setCell (Nat.le_of_lt hlt) _) _ _ _ (Nat.le_refl _)
set_option maxRecDepth 100000 in
set_option maxHeartbeats 1000000 in
theorem vtake_int1t (s : ByteArray) (w : World) (hs : s.size ≤ 9223372036854775807) (he : tkE s = 0) (hk : tkN s = 1) (ht : tkE (tkR s) = 0) :
    Calls Tryz.prog 41 #[.string s] w fun e w' => e = .returned (.tuple #[.agg #[.int .i64 (tvK s), .int .i64 (tvI s), .string (tvT s)], .string (tvR s), .int .i64 (tvE s)]) ∧ Grown w w' := by
  have HE := Lib.hid he
  have HK := Lib.hid hk
  have HZ := Lib.hid (Nat.le_trans (tkR_size s) hs)
  have HT := Lib.hid ht
  have hb : rightB 1 (tiN (tkR s)) ⟨#[]⟩ = true := by unfold rightB; simp [show (⟨#[]⟩ : ByteArray).size = 0 from rfl]
  have HB := Lib.hid hb
  have HR := Lib.hid (tv_of (s := s) (k := 1) (n := tiN (tkR s)) (t := ⟨#[]⟩) (r := tkR (tkR s)) (e := 0) (by unfold tvL; rw [if_neg (by omega), if_neg (by omega), if_neg (by omega), if_neg (by omega), if_neg (by omega), hk]; exact if_pos hb) rfl)
  have HS := Lib.hid hs
  clear hs he hk ht hb
  go_enter Tryz.func41, Tryz.ntmps41
  go_wp2_with (first
    | (go_at_call 100; ((with_reducible refine (take_c s 1 _ 0 (by have := HK.out; omega) rfl (by have := HE.out; omega) HS.out _).mono ?_); rintro e w1 ⟨rfl, hg⟩; have B1 := (Box.new w (.int .i64 0) (.int .i64 0) (.string ⟨#[]⟩) _).grown hg; have ac0 := B1.c0; have ac1 := B1.c1; have ac2 := B1.c2; have af0 := B1.f 0; have af1 := B1.f 1; have af2 := B1.f 2; have hlt := lt_of_grown hg; have hne : ¬ w.heap.size = w1.heap.size := (by omega); have hne' : ¬ w1.heap.size = w.heap.size := (by omega)))
    | (go_at_call 43; ((with_reducible refine (takeInt_c (tkR s) _ _ 0 rfl rfl (by have := HT.out; omega) HZ.out _).mono ?_); rintro e w2 ⟨rfl, hg2⟩; have B2 := B1.grown (grown_trans ((Grown.refl _).alloc _ _) hg2); have V2 := (Box.new w1 (.int .i64 1) (.int .i64 0) (.string ⟨#[]⟩) _).grown hg2; have bc0 := B2.c0; have bc1 := B2.c1; have bc2 := B2.c2; have bf0 := B2.f 0; have bf1 := B2.f 1; have bf2 := B2.f 2; have vc0 := V2.c0; have vc1 := V2.c1; have vc2 := V2.c2; have vf0 := V2.f 0; have vf1 := V2.f 1; have vf2 := V2.f 2))
    | (go_at_call 105; ((with_reducible refine (vright_c 1 (tiN (tkR s)) ⟨#[]⟩ true HB.out _ (by decide)).mono ?_); rintro e w3 ⟨rfl, hg3⟩; have B3 := (B2.far (b := w.heap.size) (c := w1.heap.size) (o := 1) hne _).grown hg3; have V3 := (V2.set1 (.int .i64 (tiN (tkR s)))).grown hg3; have xc0 := B3.c0; have xc1 := B3.c1; have xc2 := B3.c2; have xf0 := B3.f 0; have xf1 := B3.f 1; have xf2 := B3.f 2; have yc0 := V3.c0; have yc1 := V3.c1; have yc2 := V3.c2; have yf0 := V3.f 0; have yf1 := V3.f 1; have yf2 := V3.f 2)))
  refine bodyPost_ret (by simp [results, Tryz.results41, go_sem, *]) rfl ⟨HR.out, ?_⟩
  exact grown_set3 (grown_trans (((grown_trans ((grown_trans ((Grown.refl _).alloc _ _) hg).alloc _ _) hg2)).setCell (Nat.le_of_lt hlt) _) hg3) _ _ _ (Nat.le_refl _)
set_option maxRecDepth 100000 in
set_option maxHeartbeats 1000000 in
theorem vtake_int3E (s : ByteArray) (w : World) (hs : s.size ≤ 9223372036854775807) (he : tkE s = 0) (hk : tkN s = 3) (ht : tkE (tkR s) ≠ 0) :
    Calls Tryz.prog 41 #[.string s] w fun e w' => e = .returned (.tuple #[.agg #[.int .i64 (tvK s), .int .i64 (tvI s), .string (tvT s)], .string (tvR s), .int .i64 (tvE s)]) ∧ Grown w w' := by
  have HE := Lib.hid he
  have HK := Lib.hid hk
  have HZ := Lib.hid (Nat.le_trans (tkR_size s) hs)
  have d1 : ((tkE (tkR s) : Int) == 0) = false := by simp [ht]
  have d2 : ((tkE (tkR s) : Int) != 0) = true := by simp [ht]
  have HR := Lib.hid (tv_of (s := s) (k := 0) (n := 0) (t := ⟨#[]⟩) (r := ⟨#[]⟩) (e := tkE (tkR s)) (by unfold tvL; rw [if_neg (by omega), if_neg (by omega), if_neg (by omega), if_neg (by omega), if_pos ht]) rfl)
  have HS := Lib.hid hs
  clear hs he hk ht
  go_enter Tryz.func41, Tryz.ntmps41
  go_wp2_with (first
    | (go_at_call 100; ((with_reducible refine (take_c s 3 _ 0 (by have := HK.out; omega) rfl (by have := HE.out; omega) HS.out _).mono ?_); rintro e w1 ⟨rfl, hg⟩; have B1 := (Box.new w (.int .i64 0) (.int .i64 0) (.string ⟨#[]⟩) _).grown hg; have ac0 := B1.c0; have ac1 := B1.c1; have ac2 := B1.c2; have af0 := B1.f 0; have af1 := B1.f 1; have af2 := B1.f 2; have hlt := lt_of_grown hg; have hne : ¬ w.heap.size = w1.heap.size := (by omega); have hne' : ¬ w1.heap.size = w.heap.size := (by omega)))
    | (go_at_call 43; ((with_reducible refine (takeInt_c (tkR s) _ _ _ rfl rfl rfl HZ.out _).mono ?_); rintro e w2 ⟨rfl, hg2⟩; have B2 := B1.grown (grown_trans ((Grown.refl _).alloc _ _) hg2); have V2 := (Box.new w1 (.int .i64 3) (.int .i64 0) (.string ⟨#[]⟩) _).grown hg2; have bc0 := B2.c0; have bc1 := B2.c1; have bc2 := B2.c2; have bf0 := B2.f 0; have bf1 := B2.f 1; have bf2 := B2.f 2; have vc0 := V2.c0; have vc1 := V2.c1; have vc2 := V2.c2; have vf0 := V2.f 0; have vf1 := V2.f 1; have vf2 := V2.f 2)))
  refine bodyPost_ret (by simp [results, Tryz.results41, go_sem, *]) rfl ⟨HR.out, ?_⟩
  exact grown_set3 (((grown_trans ((grown_trans ((Grown.refl _).alloc _ _) hg).alloc _ _) hg2)).setCell (Nat.le_of_lt hlt) _) _ _ _ (Nat.le_refl _)
set_option maxRecDepth 100000 in
set_option maxHeartbeats 1000000 in
theorem vtake_int3t (s : ByteArray) (w : World) (hs : s.size ≤ 9223372036854775807) (he : tkE s = 0) (hk : tkN s = 3) (ht : tkE (tkR s) = 0) (hb : rightB 3 (tiN (tkR s)) ⟨#[]⟩ = true) :
    Calls Tryz.prog 41 #[.string s] w fun e w' => e = .returned (.tuple #[.agg #[.int .i64 (tvK s), .int .i64 (tvI s), .string (tvT s)], .string (tvR s), .int .i64 (tvE s)]) ∧ Grown w w' := by
  have HE := Lib.hid he
  have HK := Lib.hid hk
  have HZ := Lib.hid (Nat.le_trans (tkR_size s) hs)
  have HT := Lib.hid ht
  have HB := Lib.hid hb
  have HR := Lib.hid (tv_of (s := s) (k := 3) (n := tiN (tkR s)) (t := ⟨#[]⟩) (r := tkR (tkR s)) (e := 0) (by unfold tvL; rw [if_neg (by omega), if_neg (by omega), if_neg (by omega), if_neg (by omega), if_neg (by omega), hk]; exact if_pos hb) rfl)
  have HS := Lib.hid hs
  clear hs he hk ht hb
  go_enter Tryz.func41, Tryz.ntmps41
  go_wp2_with (first
    | (go_at_call 100; ((with_reducible refine (take_c s 3 _ 0 (by have := HK.out; omega) rfl (by have := HE.out; omega) HS.out _).mono ?_); rintro e w1 ⟨rfl, hg⟩; have B1 := (Box.new w (.int .i64 0) (.int .i64 0) (.string ⟨#[]⟩) _).grown hg; have ac0 := B1.c0; have ac1 := B1.c1; have ac2 := B1.c2; have af0 := B1.f 0; have af1 := B1.f 1; have af2 := B1.f 2; have hlt := lt_of_grown hg; have hne : ¬ w.heap.size = w1.heap.size := (by omega); have hne' : ¬ w1.heap.size = w.heap.size := (by omega)))
    | (go_at_call 43; ((with_reducible refine (takeInt_c (tkR s) _ _ 0 rfl rfl (by have := HT.out; omega) HZ.out _).mono ?_); rintro e w2 ⟨rfl, hg2⟩; have B2 := B1.grown (grown_trans ((Grown.refl _).alloc _ _) hg2); have V2 := (Box.new w1 (.int .i64 3) (.int .i64 0) (.string ⟨#[]⟩) _).grown hg2; have bc0 := B2.c0; have bc1 := B2.c1; have bc2 := B2.c2; have bf0 := B2.f 0; have bf1 := B2.f 1; have bf2 := B2.f 2; have vc0 := V2.c0; have vc1 := V2.c1; have vc2 := V2.c2; have vf0 := V2.f 0; have vf1 := V2.f 1; have vf2 := V2.f 2))
    | (go_at_call 105; ((with_reducible refine (vright_c 3 (tiN (tkR s)) ⟨#[]⟩ true HB.out _ (by decide)).mono ?_); rintro e w3 ⟨rfl, hg3⟩; have B3 := (B2.far (b := w.heap.size) (c := w1.heap.size) (o := 1) hne _).grown hg3; have V3 := (V2.set1 (.int .i64 (tiN (tkR s)))).grown hg3; have xc0 := B3.c0; have xc1 := B3.c1; have xc2 := B3.c2; have xf0 := B3.f 0; have xf1 := B3.f 1; have xf2 := B3.f 2; have yc0 := V3.c0; have yc1 := V3.c1; have yc2 := V3.c2; have yf0 := V3.f 0; have yf1 := V3.f 1; have yf2 := V3.f 2)))
  refine bodyPost_ret (by simp [results, Tryz.results41, go_sem, *]) rfl ⟨HR.out, ?_⟩
  exact grown_set3 (grown_trans (((grown_trans ((grown_trans ((Grown.refl _).alloc _ _) hg).alloc _ _) hg2)).setCell (Nat.le_of_lt hlt) _) hg3) _ _ _ (Nat.le_refl _)
set_option maxRecDepth 100000 in
set_option maxHeartbeats 1000000 in
theorem vtake_int3f (s : ByteArray) (w : World) (hs : s.size ≤ 9223372036854775807) (he : tkE s = 0) (hk : tkN s = 3) (ht : tkE (tkR s) = 0) (hb : rightB 3 (tiN (tkR s)) ⟨#[]⟩ = false) :
    Calls Tryz.prog 41 #[.string s] w fun e w' => e = .returned (.tuple #[.agg #[.int .i64 (tvK s), .int .i64 (tvI s), .string (tvT s)], .string (tvR s), .int .i64 (tvE s)]) ∧ Grown w w' := by
  have HE := Lib.hid he
  have HK := Lib.hid hk
  have HZ := Lib.hid (Nat.le_trans (tkR_size s) hs)
  have HT := Lib.hid ht
  have HB := Lib.hid hb
  have HR := Lib.hid (tv_of (s := s) (k := 0) (n := 0) (t := ⟨#[]⟩) (r := ⟨#[]⟩) (e := 3) (by unfold tvL; rw [if_neg (by omega), if_neg (by omega), if_neg (by omega), if_neg (by omega), if_neg (by omega), hk]; exact if_neg (by rw [show ((3 : Nat) : Int) = 3 from rfl, hb]; decide)) rfl)
  have HS := Lib.hid hs
  clear hs he hk ht hb
  go_enter Tryz.func41, Tryz.ntmps41
  go_wp2_with (first
    | (go_at_call 100; ((with_reducible refine (take_c s 3 _ 0 (by have := HK.out; omega) rfl (by have := HE.out; omega) HS.out _).mono ?_); rintro e w1 ⟨rfl, hg⟩; have B1 := (Box.new w (.int .i64 0) (.int .i64 0) (.string ⟨#[]⟩) _).grown hg; have ac0 := B1.c0; have ac1 := B1.c1; have ac2 := B1.c2; have af0 := B1.f 0; have af1 := B1.f 1; have af2 := B1.f 2; have hlt := lt_of_grown hg; have hne : ¬ w.heap.size = w1.heap.size := (by omega); have hne' : ¬ w1.heap.size = w.heap.size := (by omega)))
    | (go_at_call 43; ((with_reducible refine (takeInt_c (tkR s) _ _ 0 rfl rfl (by have := HT.out; omega) HZ.out _).mono ?_); rintro e w2 ⟨rfl, hg2⟩; have B2 := B1.grown (grown_trans ((Grown.refl _).alloc _ _) hg2); have V2 := (Box.new w1 (.int .i64 3) (.int .i64 0) (.string ⟨#[]⟩) _).grown hg2; have bc0 := B2.c0; have bc1 := B2.c1; have bc2 := B2.c2; have bf0 := B2.f 0; have bf1 := B2.f 1; have bf2 := B2.f 2; have vc0 := V2.c0; have vc1 := V2.c1; have vc2 := V2.c2; have vf0 := V2.f 0; have vf1 := V2.f 1; have vf2 := V2.f 2))
    | (go_at_call 105; ((with_reducible refine (vright_c 3 (tiN (tkR s)) ⟨#[]⟩ false HB.out _ (by decide)).mono ?_); rintro e w3 ⟨rfl, hg3⟩; have B3 := (B2.far (b := w.heap.size) (c := w1.heap.size) (o := 1) hne _).grown hg3; have V3 := (V2.set1 (.int .i64 (tiN (tkR s)))).grown hg3; have xc0 := B3.c0; have xc1 := B3.c1; have xc2 := B3.c2; have xf0 := B3.f 0; have xf1 := B3.f 1; have xf2 := B3.f 2; have yc0 := V3.c0; have yc1 := V3.c1; have yc2 := V3.c2; have yf0 := V3.f 0; have yf1 := V3.f 1; have yf2 := V3.f 2)))
  refine bodyPost_ret (by simp [results, Tryz.results41, go_sem, *]) rfl ⟨HR.out, ?_⟩
  exact grown_set3 (grown_trans (((grown_trans ((grown_trans ((Grown.refl _).alloc _ _) hg).alloc _ _) hg2)).setCell (Nat.le_of_lt hlt) _) hg3) _ _ _ (Nat.le_refl _)
theorem vtake_any (s : ByteArray) (w : World) (hs : s.size ≤ 9223372036854775807) :
    Calls Tryz.prog 41 #[.string s] w fun e w' => e = .returned (.tuple #[.agg #[.int .i64 (tvK s), .int .i64 (tvI s), .string (tvT s)], .string (tvR s), .int .i64 (tvE s)]) ∧ Grown w w' := by
  by_cases he : tkE s = 0
  · by_cases hk : 3 < tkN s
    · exact vtake_big s w hs he hk
    obtain h | h | h | h : tkN s = 0 ∨ tkN s = 1 ∨ tkN s = 2 ∨ tkN s = 3 := by omega
    · exact vtake_none s w hs he h
    · by_cases ht : tkE (tkR s) = 0
      · exact vtake_int1t s w hs he h ht
      · exact vtake_int1E s w hs he h ht
    · by_cases ht : ttE (tkR s) 200 = 0
      · exact vtake_text s w hs he h ht
      · exact vtake_textE s w hs he h ht
    · by_cases ht : tkE (tkR s) = 0
      · cases hb : rightB 3 (tiN (tkR s)) ⟨#[]⟩
        · exact vtake_int3f s w hs he h ht hb
        · exact vtake_int3t s w hs he h ht hb
      · exact vtake_int3E s w hs he h ht
  · exact vtake_err s w hs he
theorem vtake_c (s : ByteArray) (k n : Int) (t r : ByteArray) (z : Int) (h1 : tvK s = k) (h2 : tvI s = n) (h3 : tvT s = t) (h4 : tvR s = r) (h5 : (tvE s : Int) = z) (hs : s.size ≤ 9223372036854775807) (w : World) :
    Calls Tryz.prog 41 #[.string s] w fun e w' => e = .returned (.tuple #[.agg #[.int .i64 k, .int .i64 n, .string t], .string r, .int .i64 z]) ∧ Grown w w' := by
  subst h1 h2 h3 h4 h5; exact vtake_any s w hs
theorem ba_assoc (a b c : ByteArray) : a ++ b ++ c = a ++ (b ++ c) := by
  apply ba_ext
  simp only [ba_app, List.append_assoc]
theorem ba_nil (a : ByteArray) : (⟨#[]⟩ : ByteArray) ++ a = a := by
  apply ba_ext
  rw [ba_app]; rfl
theorem ba_nil_r (a : ByteArray) : a ++ (⟨#[]⟩ : ByteArray) = a := by
  apply ba_ext
  rw [ba_app]
  show _ ++ [] = _
  rw [List.append_nil]
theorem tk_aft (s : ByteArray) (h : tkE s = 0) : putS (tkN s) ++ tkR s = s := by
  have := tk_back s h
  rwa [ba_nil] at this
theorem ext_aft (s : ByteArray) (n : Nat) : s.extract 0 n ++ s.extract n s.size = s := by
  have e : (s.data.toList.drop n).take (s.size - n) = s.data.toList.drop n := List.take_of_length_le (by rw [List.length_drop, ← ba_size]; omega)
  apply ba_ext
  rw [ba_app, Lib.extract_data, Lib.extract_data, List.drop_zero, Nat.sub_zero, e, List.take_append_drop]
theorem tt_aft (s : ByteArray) (m : Int) (h : ttE s m = 0) : putS (ttT s m).size ++ (ttT s m ++ ttR s m) = s ∧ ((ttT s m).size : Int) ≤ m ∧ (ttT s m).size ≤ s.size := by
  unfold ttE ttL at h
  unfold ttT ttR ttL
  by_cases h1 : tkE s ≠ 0
  · rw [if_pos h1] at h; exact absurd h h1
  rw [if_neg h1] at h ⊢
  by_cases h2 : m < 0 ∨ m < (tkN s : Int)
  · rw [if_pos h2] at h; simp at h
  rw [if_neg h2] at h ⊢
  by_cases h3 : (tkR s).size < tkN s
  · rw [if_pos h3] at h; simp at h
  rw [if_neg h3]
  have hn : ((tkR s).extract 0 (tkN s)).size = tkN s := by rw [ByteArray.size_extract]; omega
  have hr := tkR_size s
  refine ⟨?_, by rw [hn]; omega, by rw [hn]; omega⟩
  show putS ((tkR s).extract 0 (tkN s)).size ++ ((tkR s).extract 0 (tkN s) ++ (tkR s).extract (tkN s) (tkR s).size) = s
  rw [hn, ext_aft]
  exact tk_aft s (by omega)
theorem putV_size (b : ByteArray) (k n : Int) (t : ByteArray) : (putV b k n t).size ≤ b.size + 20 + t.size := by
  unfold putV
  have := putS_size 0
  have := putS_size 2
  have := putS_size t.size
  have := putS_size (k % 4).toNat
  have := putS_size (zigI n).toNat
  split
  · rw [ByteArray.size_append]; omega
  split
  · simp only [ByteArray.size_append]; omega
  · simp only [ByteArray.size_append]; omega
theorem differ (k1 n1 : Int) (t1 : ByteArray) (k2 n2 : Int) (t2 : ByteArray) :
    (k1 = k2 ∧ n1 = n2 ∧ t1 = t2) ∨ (k1 == k2) = false ∨ (k1 = k2 ∧ (n1 == n2) = false) ∨ (k1 = k2 ∧ n1 = n2 ∧ (t1.toList == t2.toList) = false) := by
  by_cases h1 : k1 = k2
  · by_cases h2 : n1 = n2
    · by_cases h3 : t1 = t2
      · exact .inl ⟨h1, h2, h3⟩
      · refine .inr (.inr (.inr ⟨h1, h2, ?_⟩))
        rw [beq_of]
        have : t1.data.toList ≠ t2.data.toList := fun e => h3 (ba_ext e)
        simpa using this
    · exact .inr (.inr (.inl ⟨h1, by simpa using h2⟩))
  · exact .inr (.inl (by simpa using h1))
structure Va where
  k : Int
  n : Int
  t : ByteArray
deriving DecidableEq
def Va.zero : Va := ⟨0, 0, ⟨#[]⟩⟩
def rightVa (v : Va) : Bool := rightB v.k v.n v.t
structure Pa where
  f : Va
  t : Va
deriving DecidableEq
structure Tb where
  L : List Pa
  keep : Bool
  d : Va
  b : Va
  tu : Bool
def fstF (L : List Pa) (v : Va) : Option Pa := L.find? fun p => decide (p.f = v)
def fstT (L : List Pa) (v : Va) : Option Pa := L.find? fun p => decide (p.t = v)
def forthT (T : Tb) (v : Va) : Va := match fstF T.L v with
  | some p => p.t
  | none => if T.keep then v else T.d
def backT (T : Tb) (v : Va) : Va := match fstT T.L v with
  | some p => p.f
  | none => if T.keep then v else T.b
def applyT (T : Tb) (v : Va) : Va := if T.tu then backT T v else forthT T v
def wayT (T : Tb) (v : Va) : Va := if T.tu then forthT T v else backT T v
def turnT (T : Tb) : Tb := ⟨T.L, T.keep, T.d, T.b, !T.tu⟩
structure RightU (T : Tb) (a b : Int) : Prop where
  ka : 1 ≤ a ∧ a ≤ 3
  kb : 1 ≤ b ∧ b ≤ 3
  few : T.L.length ≤ 8
  ok : ∀ p ∈ T.L, rightVa p.f = true ∧ rightVa p.t = true ∧ p.f.k = a ∧ p.t.k = b
  once : T.L.Pairwise fun p q => p.f ≠ q.f
  nk : T.keep = false → rightVa T.d = true ∧ T.d.k = b ∧ rightVa T.b = true ∧ T.b.k = a ∧ forthT T (backT T T.d) = T.d ∧ backT T (forthT T T.b) = T.b
  kp : T.keep = true → a = b ∧ T.d = .zero ∧ T.b = .zero ∧ ∀ p ∈ T.L, fstT T.L p.f = none → backT T p.t = p.f
def RightT (T : Tb) (a b : Int) : Prop := if T.tu then RightU T b a else RightU T a b
theorem fstT_none {L : List Pa} {v : Va} : fstT L v = none ↔ ∀ p ∈ L, p.t ≠ v := by
  unfold fstT
  rw [List.find?_eq_none]
  simp
theorem fstF_mem {L : List Pa} (h : L.Pairwise fun p q => p.f ≠ q.f) {p : Pa} (hp : p ∈ L) : fstF L p.f = some p := by
  induction L with
  | nil => cases hp
  | cons x L ih =>
    obtain ⟨h1, h2⟩ := List.pairwise_cons.1 h
    unfold fstF
    rw [List.find?_cons]
    by_cases e : x.f = p.f
    · rcases List.mem_cons.1 hp with e2 | e2
      · subst e2; simp
      · exact absurd e (h1 p e2)
    · rw [decide_eq_false e]
      rcases List.mem_cons.1 hp with e2 | e2
      · exact absurd (by rw [e2]) e
      · exact ih h2 e2
theorem forth_left {T : Tb} (h : T.L.Pairwise fun p q => p.f ≠ q.f) {p : Pa} (hp : p ∈ T.L) : forthT T p.f = p.t := by
  unfold forthT; rw [fstF_mem h hp]
theorem RightT.turn {T : Tb} {a b : Int} (h : RightT T a b) : RightT (turnT T) b a := by
  have e1 : ∀ v, forthT (turnT T) v = forthT T v := fun v => rfl
  have e2 : ∀ v, backT (turnT T) v = backT T v := fun v => rfl
  unfold RightT at h ⊢
  cases hu : T.tu with
  | true =>
    rw [hu, if_pos rfl] at h
    rw [show (turnT T).tu = false by simp [turnT, hu], if_neg (by simp)]
    exact ⟨h.ka, h.kb, h.few, h.ok, h.once, h.nk, h.kp⟩
  | false =>
    rw [hu, if_neg (by simp)] at h
    rw [show (turnT T).tu = true by simp [turnT, hu], if_pos rfl]
    exact ⟨h.ka, h.kb, h.few, h.ok, h.once, h.nk, h.kp⟩
theorem turn_turn (T : Tb) : turnT (turnT T) = T := by
  cases T; simp [turnT]
theorem apply_turn (T : Tb) (v : Va) : applyT (turnT T) v = wayT T v ∧ wayT (turnT T) v = applyT T v := by
  unfold applyT wayT turnT
  cases T.tu <;> exact ⟨rfl, rfl⟩
end Go.Proofs.YtofnpifooaijcaaGreat
namespace Go.Proofs.YtofnpifooaijcaaGreat
open Go.RowKit Go.WideShapes Go.ChangeShapes
def Kept (W w : World) : Prop := W.keptBut w (fun _ => False) ∧ (∀ a : Addr, a.block < W.heap.size → w.frozen? a = W.frozen? a) ∧ W.heap.size ≤ w.heap.size
theorem Kept.refl (W : World) : Kept W W := ⟨World.keptBut_refl _ _, fun _ _ => rfl, Nat.le_refl _⟩
theorem Kept.trans {a b c : World} (h1 : Kept a b) (h2 : Kept b c) : Kept a c :=
  ⟨World.keptBut_trans h1.1 h2.1, fun x hx => (h2.2.1 x (Nat.lt_of_lt_of_le hx h1.2.2)).trans (h1.2.1 x hx), Nat.le_trans h1.2.2 h2.2.2⟩
theorem kept_of {a b : World} (h : Grown a b) : Kept a b := ⟨h.1, fun x _ => h.2.1 x, h.2.2⟩
theorem Kept.alloc {W w : World} (h : Kept W w) (c : Array Value) (t : TypeId) : Kept W (w.alloc (.cells c t)) := h.trans (kept_of ((Grown.refl _).alloc _ _))
theorem Kept.drew {W w : World} (h : Kept W w) : Kept W w.drew := h
theorem Kept.cell {w w1 : World} (hg : Kept w w1) {b o : Nat} {v : Value} (hc : w.cell? ⟨b, o, none⟩ = some v) : w1.cell? ⟨b, o, none⟩ = some v := by
  rw [hg.1.cell (World.block_lt_of_cell? w _ hc) (by simp)]
  exact hc
theorem Kept.box {w w1 : World} {c : Array Value} {t : TypeId} (hg : Kept (w.alloc (.cells c t)) w1) (i : Nat) (v : Value) (hv : c[i]? = some v) : w1.cell? ⟨w.heap.size, i, none⟩ = some v := by
  rw [hg.1.cell (by simp) (by simp), World.cell?_alloc_new]
  exact hv
structure KExt (W : World) where
  w : World
  g : Kept W w
instance (W : World) : Nonempty (KExt W) := ⟨⟨W, Kept.refl W⟩⟩
theorem KExt.cell {W : World} {b o : Nat} {v : Value} (hc : W.cell? ⟨b, o, none⟩ = some v) (g : KExt W) : g.w.cell? ⟨b, o, none⟩ = some v := g.g.cell hc
theorem region_kept {P : Program} (W : World) {id : Nat} {Q : Exit → Act → World → Prop} {a : Act} {w : World} {l : List Oper} (hm : P.follows .mixedOrders = true) (hB : Region.lexB .any l.toArray = true) (h0 : Kept W w)
    (h : wpQuiet P l.toArray (fun w' => ∃ g : KExt W, w' = g.w) (fun a' => ∀ g : KExt W, Q .normal a' g.w) l a) : (Code.region id l.toArray true).wp P Q a w := by
  refine wp_region_quiet (C := fun w' => ∃ g : KExt W, w' = g.w) hm hB ⟨⟨w.drew, h0⟩, rfl⟩ ?_
  have e : (fun a' => ∀ w', (∃ g : KExt W, w' = g.w) → Q .normal a' w') = (fun a' => ∀ g : KExt W, Q .normal a' g.w) := by
    funext a'
    exact propext ⟨fun h g => h _ ⟨g, rfl⟩, fun h w' ⟨g, hg⟩ => hg ▸ h g⟩
  rw [e, List.toList_toArray]
  exact h
theorem KExt.callsK {P : Program} {f : FuncId} {args : Array Value} {W : World} {g : KExt W} {v : Value} (h : Calls P f args g.w fun e w' => e = .returned v ∧ Kept g.w w') :
    Calls P f args g.w fun e w' => e = .returned v ∧ ∃ g' : KExt W, w' = g'.w :=
  h.mono fun _ _ ⟨he, hg⟩ => ⟨he, ⟨_, g.g.trans hg⟩, rfl⟩
end Go.Proofs.YtofnpifooaijcaaGreat
