/-
  What is proved: the document's own Take of layer 3, called with any text of up to 1000 bytes, returns the same as val.Take; the world has new blocks at most.
-/
import Derived.Test.YtjcnjmlgedmmoaaDoorM4
namespace Go.Proofs.YtjcnjmlgedmmoaaDoor
open Go.RowKit

theorem rtake_c (s : ByteArray) (n : Int) (r : ByteArray) (k : Int) (hn : (tkN s : Int) = n) (hr : tkR s = r) (hk : (tkE s : Int) = k) (hs : s.size ≤ 100000) (w : World) :
    Calls Tryd.prog 29 #[.string s] w fun e w' => e = .returned (.tuple #[.int .u64 n, .string r, .int .i64 k]) ∧ Grown w w' := by
  subst hn hr hk; exact rtake_any s w hs
theorem rtakeInt_c (s : ByteArray) (n : Int) (r : ByteArray) (k : Int) (hn : tiN s = n) (hr : tkR s = r) (hk : (tkE s : Int) = k) (hs : s.size ≤ 100000) (w : World) :
    Calls Tryd.prog 69 #[.string s] w fun e w' => e = .returned (.tuple #[.int .i64 n, .string r, .int .i64 k]) ∧ Grown w w' := by
  subst hn hr hk; exact rtakeInt_any s w hs
theorem rtakeText_c (s : ByteArray) (m : Int) (t : ByteArray) (r : ByteArray) (k : Int) (hn : ttT s m = t) (hr : ttR s m = r) (hk : (ttE s m : Int) = k) (hs : s.size ≤ 100000) (h0 : -9223372036854775808 ≤ m) (h1 : m ≤ 9223372036854775807) (w : World) :
    Calls Tryd.prog 68 #[.string s, .int .i64 m] w fun e w' => e = .returned (.tuple #[.string t, .string r, .int .i64 k]) ∧ Grown w w' := by
  subst hn hr hk; exact rtakeText_any s m w hs h0 h1

set_option maxRecDepth 100000 in
set_option maxHeartbeats 1000000 in
theorem rvtake_err (s : ByteArray) (w : World) (hs : s.size ≤ 100000) (he : tkE s ≠ 0) :
    Calls Tryd.prog 57 #[.string s] w fun e w' => e = .returned (.tuple #[.agg #[.int .i64 (tvK s), .int .i64 (tvI s), .string (tvT s)], .string (tvR s), .int .i64 (tvE s)]) ∧ Grown w w' := by
  have d1 : ((tkE s : Int) == 0) = false := by simp [he]
  have d2 : ((tkE s : Int) != 0) = true := by simp [he]
  have HN := Lib.hid (tk_bad s he).1
  have hbit : bits BinOp.and IntKind.u64 0 3 = 0 := by decide
  have HR := Lib.hid (tv_of (s := s) (k := 0) (n := 0) (t := ⟨#[]⟩) (r := ⟨#[]⟩) (e := tkE s) (by unfold tvL; rw [if_pos he]) rfl)
  have HS := Lib.hid hs
  clear hs he
  go_enter Tryd.func57, Tryd.ntmps57
  go_wp2_with (first
    | (go_at_call 29; ((with_reducible refine (rtake_c s 0 _ _ (by have := HN.out; omega) rfl rfl HS.out _).mono ?_); rintro e w1 ⟨rfl, hg⟩; have B1 := (Box.new w (.int .i64 0) (.int .i64 0) (.string ⟨#[]⟩) _).grown hg; have ac0 := B1.c0; have ac1 := B1.c1; have ac2 := B1.c2; have af0 := B1.f 0; have af1 := B1.f 1; have af2 := B1.f 2; have hlt := lt_of_grown hg; have hne : ¬ w.heap.size = w1.heap.size := (by omega); have hne' : ¬ w1.heap.size = w.heap.size := (by omega)))
    | fail)
  refine bodyPost_ret (by simp [results, Tryd.results57, go_sem, *]) rfl ⟨HR.out, ?_⟩
  exact (grown_set3 (grown_trans ((Grown.refl _).alloc _ _) hg) _ _ _ (Nat.le_refl _)).alloc _ _

set_option maxRecDepth 100000 in
set_option maxHeartbeats 1000000 in
theorem rvtake_big (s : ByteArray) (w : World) (hs : s.size ≤ 100000) (he : tkE s = 0) (hk : 3 < tkN s) :
    Calls Tryd.prog 57 #[.string s] w fun e w' => e = .returned (.tuple #[.agg #[.int .i64 (tvK s), .int .i64 (tvI s), .string (tvT s)], .string (tvR s), .int .i64 (tvE s)]) ∧ Grown w w' := by
  have d1 : decide (3 < tkN s) = true := by simpa using hk
  have d2 : decide ((3 : Int) < (tkN s : Int)) = true := by simp; omega
  have hn := tkN_bd s
  have HE := Lib.hid he
  obtain ⟨z, hz, hz0, hz1⟩ : ∃ z : Nat, bits BinOp.and IntKind.u64 (tkN s : Int) 3 = (z : Int) ∧ 0 ≤ (z : Int) ∧ (z : Int) < 4 := ⟨tkN s % 4, by rw [u64_and _ _ (by omega) (by omega) (by omega) (by omega), show (3 : Int).toNat = 3 from rfl, nat_mask2, Int.toNat_natCast], by omega, by omega⟩
  have HR := Lib.hid (tv_of (s := s) (k := 0) (n := 0) (t := ⟨#[]⟩) (r := ⟨#[]⟩) (e := 3) (by unfold tvL; rw [if_neg (by omega), if_pos hk]) rfl)
  have HS := Lib.hid hs
  clear hs he hk
  go_enter Tryd.func57, Tryd.ntmps57
  go_wp2_with (first
    | (go_at_call 29; ((with_reducible refine (rtake_c s _ _ 0 rfl rfl (by have := HE.out; omega) HS.out _).mono ?_); rintro e w1 ⟨rfl, hg⟩; have B1 := (Box.new w (.int .i64 0) (.int .i64 0) (.string ⟨#[]⟩) _).grown hg; have ac0 := B1.c0; have ac1 := B1.c1; have ac2 := B1.c2; have af0 := B1.f 0; have af1 := B1.f 1; have af2 := B1.f 2; have hlt := lt_of_grown hg; have hne : ¬ w.heap.size = w1.heap.size := (by omega); have hne' : ¬ w1.heap.size = w.heap.size := (by omega)))
    | fail)
  refine bodyPost_ret (by simp [results, Tryd.results57, go_sem, *]) rfl ⟨HR.out, ?_⟩
  exact (grown_set3 (grown_trans ((Grown.refl _).alloc _ _) hg) _ _ _ (Nat.le_refl _)).alloc _ _

set_option maxRecDepth 100000 in
set_option maxHeartbeats 1000000 in
theorem rvtake_none (s : ByteArray) (w : World) (hs : s.size ≤ 100000) (he : tkE s = 0) (hk : tkN s = 0) :
    Calls Tryd.prog 57 #[.string s] w fun e w' => e = .returned (.tuple #[.agg #[.int .i64 (tvK s), .int .i64 (tvI s), .string (tvT s)], .string (tvR s), .int .i64 (tvE s)]) ∧ Grown w w' := by
  have HE := Lib.hid he
  have HK := Lib.hid hk
  have hbit : bits BinOp.and IntKind.u64 0 3 = 0 := by decide
  have HR := Lib.hid (tv_of (s := s) (k := 0) (n := 0) (t := ⟨#[]⟩) (r := tkR s) (e := 0) (by unfold tvL; rw [if_neg (by omega), if_neg (by omega), if_pos hk]) rfl)
  have HS := Lib.hid hs
  clear hs he hk
  go_enter Tryd.func57, Tryd.ntmps57
  go_wp2_with (first
    | (go_at_call 29; ((with_reducible refine (rtake_c s 0 _ 0 (by have := HK.out; omega) rfl (by have := HE.out; omega) HS.out _).mono ?_); rintro e w1 ⟨rfl, hg⟩; have B1 := (Box.new w (.int .i64 0) (.int .i64 0) (.string ⟨#[]⟩) _).grown hg; have ac0 := B1.c0; have ac1 := B1.c1; have ac2 := B1.c2; have af0 := B1.f 0; have af1 := B1.f 1; have af2 := B1.f 2; have hlt := lt_of_grown hg; have hne : ¬ w.heap.size = w1.heap.size := (by omega); have hne' : ¬ w1.heap.size = w.heap.size := (by omega)))
    | fail)
  refine bodyPost_ret (by simp [results, Tryd.results57, go_sem, *]) rfl ⟨HR.out, ?_⟩
  exact (grown_set3 (grown_trans ((Grown.refl _).alloc _ _) hg) _ _ _ (Nat.le_refl _)).alloc _ _

set_option maxRecDepth 100000 in
set_option maxHeartbeats 1000000 in
theorem rvtake_textE (s : ByteArray) (w : World) (hs : s.size ≤ 100000) (he : tkE s = 0) (hk : tkN s = 2) (ht : ttE (tkR s) 200 ≠ 0) :
    Calls Tryd.prog 57 #[.string s] w fun e w' => e = .returned (.tuple #[.agg #[.int .i64 (tvK s), .int .i64 (tvI s), .string (tvT s)], .string (tvR s), .int .i64 (tvE s)]) ∧ Grown w w' := by
  have HE := Lib.hid he
  have HK := Lib.hid hk
  have HZ := Lib.hid (Nat.le_trans (tkR_size s) hs)
  have d1 : ((ttE (tkR s) 200 : Int) == 0) = false := by simp [ht]
  have d2 : ((ttE (tkR s) 200 : Int) != 0) = true := by simp [ht]
  have hbit : bits BinOp.and IntKind.u64 2 3 = 2 := by decide
  have HR := Lib.hid (tv_of (s := s) (k := 0) (n := 0) (t := ⟨#[]⟩) (r := ⟨#[]⟩) (e := ttE (tkR s) 200) (by unfold tvL; rw [if_neg (by omega), if_neg (by omega), if_neg (by omega), if_pos hk, if_pos ht]) rfl)
  have HS := Lib.hid hs
  clear hs he hk ht
  go_enter Tryd.func57, Tryd.ntmps57
  go_wp2_with (first
    | (go_at_call 29; ((with_reducible refine (rtake_c s 2 _ 0 (by have := HK.out; omega) rfl (by have := HE.out; omega) HS.out _).mono ?_); rintro e w1 ⟨rfl, hg⟩; have B1 := (Box.new w (.int .i64 0) (.int .i64 0) (.string ⟨#[]⟩) _).grown hg; have ac0 := B1.c0; have ac1 := B1.c1; have ac2 := B1.c2; have af0 := B1.f 0; have af1 := B1.f 1; have af2 := B1.f 2; have hlt := lt_of_grown hg; have hne : ¬ w.heap.size = w1.heap.size := (by omega); have hne' : ¬ w1.heap.size = w.heap.size := (by omega)))
    | (go_at_call 68; ((with_reducible refine (rtakeText_c (tkR s) 200 _ _ _ rfl rfl rfl HZ.out (by decide) (by decide) _).mono ?_); rintro e w2 ⟨rfl, hg2⟩; have B2 := B1.grown (grown_trans ((Grown.refl _).alloc _ _) hg2); have V2 := (Box.new w1 (.int .i64 2) (.int .i64 0) (.string ⟨#[]⟩) _).grown hg2; have bc0 := B2.c0; have bc1 := B2.c1; have bc2 := B2.c2; have bf0 := B2.f 0; have bf1 := B2.f 1; have bf2 := B2.f 2; have vc0 := V2.c0; have vc1 := V2.c1; have vc2 := V2.c2; have vf0 := V2.f 0; have vf1 := V2.f 1; have vf2 := V2.f 2)))
  refine bodyPost_ret (by simp [results, Tryd.results57, go_sem, *]) rfl ⟨HR.out, ?_⟩
  exact grown_set3 (((grown_trans ((grown_trans ((Grown.refl _).alloc _ _) hg).alloc _ _) hg2)).setCell (Nat.le_of_lt hlt) _) _ _ _ (Nat.le_refl _)

set_option maxRecDepth 100000 in
set_option maxHeartbeats 1000000 in
theorem rvtake_text (s : ByteArray) (w : World) (hs : s.size ≤ 100000) (he : tkE s = 0) (hk : tkN s = 2) (ht : ttE (tkR s) 200 = 0) :
    Calls Tryd.prog 57 #[.string s] w fun e w' => e = .returned (.tuple #[.agg #[.int .i64 (tvK s), .int .i64 (tvI s), .string (tvT s)], .string (tvR s), .int .i64 (tvE s)]) ∧ Grown w w' := by
  have HE := Lib.hid he
  have HK := Lib.hid hk
  have HZ := Lib.hid (Nat.le_trans (tkR_size s) hs)
  have HT := Lib.hid ht
  have hz := tt_size (tkR s)
  have HB := Lib.hid (show rightB 2 0 (ttT (tkR s) 200) = true by unfold rightB; simp; omega)
  have hbit : bits BinOp.and IntKind.u64 2 3 = 2 := by decide
  have HR := Lib.hid (tv_of (s := s) (k := 2) (n := 0) (t := ttT (tkR s) 200) (r := ttR (tkR s) 200) (e := 0) (by unfold tvL; rw [if_neg (by omega), if_neg (by omega), if_neg (by omega), if_pos hk, if_neg (by omega)]) rfl)
  have HS := Lib.hid hs
  clear hs he hk ht
  go_enter Tryd.func57, Tryd.ntmps57
  go_wp2_with (first
    | (go_at_call 29; ((with_reducible refine (rtake_c s 2 _ 0 (by have := HK.out; omega) rfl (by have := HE.out; omega) HS.out _).mono ?_); rintro e w1 ⟨rfl, hg⟩; have B1 := (Box.new w (.int .i64 0) (.int .i64 0) (.string ⟨#[]⟩) _).grown hg; have ac0 := B1.c0; have ac1 := B1.c1; have ac2 := B1.c2; have af0 := B1.f 0; have af1 := B1.f 1; have af2 := B1.f 2; have hlt := lt_of_grown hg; have hne : ¬ w.heap.size = w1.heap.size := (by omega); have hne' : ¬ w1.heap.size = w.heap.size := (by omega)))
    | (go_at_call 68; ((with_reducible refine (rtakeText_c (tkR s) 200 _ _ 0 rfl rfl (by have := HT.out; omega) HZ.out (by decide) (by decide) _).mono ?_); rintro e w2 ⟨rfl, hg2⟩; have B2 := B1.grown (grown_trans ((Grown.refl _).alloc _ _) hg2); have V2 := (Box.new w1 (.int .i64 2) (.int .i64 0) (.string ⟨#[]⟩) _).grown hg2; have bc0 := B2.c0; have bc1 := B2.c1; have bc2 := B2.c2; have bf0 := B2.f 0; have bf1 := B2.f 1; have bf2 := B2.f 2; have vc0 := V2.c0; have vc1 := V2.c1; have vc2 := V2.c2; have vf0 := V2.f 0; have vf1 := V2.f 1; have vf2 := V2.f 2))
    | (go_at_call 41; ((with_reducible refine (rright_c 2 0 (ttT (tkR s) 200) true HB.out _ (by omega)).mono ?_); rintro e w3 ⟨rfl, hg3⟩; have B3 := (B2.far (b := w.heap.size) (c := w1.heap.size) (o := 2) hne _).grown hg3; have V3 := (V2.set2 (.string (ttT (tkR s) 200))).grown hg3; have xc0 := B3.c0; have xc1 := B3.c1; have xc2 := B3.c2; have xf0 := B3.f 0; have xf1 := B3.f 1; have xf2 := B3.f 2; have yc0 := V3.c0; have yc1 := V3.c1; have yc2 := V3.c2; have yf0 := V3.f 0; have yf1 := V3.f 1; have yf2 := V3.f 2)))
  refine bodyPost_ret (by simp [results, Tryd.results57, go_sem, *]) rfl ⟨HR.out, ?_⟩
  exact grown_set3 (grown_trans (((grown_trans ((grown_trans ((Grown.refl _).alloc _ _) hg).alloc _ _) hg2)).setCell (Nat.le_of_lt hlt) _) hg3) _ _ _ (Nat.le_refl _)

set_option maxRecDepth 100000 in
set_option maxHeartbeats 1000000 in
theorem rvtake_int1E (s : ByteArray) (w : World) (hs : s.size ≤ 100000) (he : tkE s = 0) (hk : tkN s = 1) (ht : tkE (tkR s) ≠ 0) :
    Calls Tryd.prog 57 #[.string s] w fun e w' => e = .returned (.tuple #[.agg #[.int .i64 (tvK s), .int .i64 (tvI s), .string (tvT s)], .string (tvR s), .int .i64 (tvE s)]) ∧ Grown w w' := by
  have HE := Lib.hid he
  have HK := Lib.hid hk
  have HZ := Lib.hid (Nat.le_trans (tkR_size s) hs)
  have d1 : ((tkE (tkR s) : Int) == 0) = false := by simp [ht]
  have d2 : ((tkE (tkR s) : Int) != 0) = true := by simp [ht]
  have hbit : bits BinOp.and IntKind.u64 1 3 = 1 := by decide
  have HR := Lib.hid (tv_of (s := s) (k := 0) (n := 0) (t := ⟨#[]⟩) (r := ⟨#[]⟩) (e := tkE (tkR s)) (by unfold tvL; rw [if_neg (by omega), if_neg (by omega), if_neg (by omega), if_neg (by omega), if_pos ht]) rfl)
  have HS := Lib.hid hs
  clear hs he hk ht
  go_enter Tryd.func57, Tryd.ntmps57
  go_wp2_with (first
    | (go_at_call 29; ((with_reducible refine (rtake_c s 1 _ 0 (by have := HK.out; omega) rfl (by have := HE.out; omega) HS.out _).mono ?_); rintro e w1 ⟨rfl, hg⟩; have B1 := (Box.new w (.int .i64 0) (.int .i64 0) (.string ⟨#[]⟩) _).grown hg; have ac0 := B1.c0; have ac1 := B1.c1; have ac2 := B1.c2; have af0 := B1.f 0; have af1 := B1.f 1; have af2 := B1.f 2; have hlt := lt_of_grown hg; have hne : ¬ w.heap.size = w1.heap.size := (by omega); have hne' : ¬ w1.heap.size = w.heap.size := (by omega)))
    | (go_at_call 69; ((with_reducible refine (rtakeInt_c (tkR s) _ _ _ rfl rfl rfl HZ.out _).mono ?_); rintro e w2 ⟨rfl, hg2⟩; have B2 := B1.grown (grown_trans ((Grown.refl _).alloc _ _) hg2); have V2 := (Box.new w1 (.int .i64 1) (.int .i64 0) (.string ⟨#[]⟩) _).grown hg2; have bc0 := B2.c0; have bc1 := B2.c1; have bc2 := B2.c2; have bf0 := B2.f 0; have bf1 := B2.f 1; have bf2 := B2.f 2; have vc0 := V2.c0; have vc1 := V2.c1; have vc2 := V2.c2; have vf0 := V2.f 0; have vf1 := V2.f 1; have vf2 := V2.f 2)))
  refine bodyPost_ret (by simp [results, Tryd.results57, go_sem, *]) rfl ⟨HR.out, ?_⟩
  exact grown_set3 (((grown_trans ((grown_trans ((Grown.refl _).alloc _ _) hg).alloc _ _) hg2)).setCell (Nat.le_of_lt hlt) _) _ _ _ (Nat.le_refl _)

set_option maxRecDepth 100000 in
set_option maxHeartbeats 1000000 in
theorem rvtake_int1t (s : ByteArray) (w : World) (hs : s.size ≤ 100000) (he : tkE s = 0) (hk : tkN s = 1) (ht : tkE (tkR s) = 0) :
    Calls Tryd.prog 57 #[.string s] w fun e w' => e = .returned (.tuple #[.agg #[.int .i64 (tvK s), .int .i64 (tvI s), .string (tvT s)], .string (tvR s), .int .i64 (tvE s)]) ∧ Grown w w' := by
  have HE := Lib.hid he
  have HK := Lib.hid hk
  have HZ := Lib.hid (Nat.le_trans (tkR_size s) hs)
  have HT := Lib.hid ht
  have hb : rightB 1 (tiN (tkR s)) ⟨#[]⟩ = true := by unfold rightB; simp [show (⟨#[]⟩ : ByteArray).size = 0 from rfl]
  have HB := Lib.hid hb
  have hbit : bits BinOp.and IntKind.u64 1 3 = 1 := by decide
  have HR := Lib.hid (tv_of (s := s) (k := 1) (n := tiN (tkR s)) (t := ⟨#[]⟩) (r := tkR (tkR s)) (e := 0) (by unfold tvL; rw [if_neg (by omega), if_neg (by omega), if_neg (by omega), if_neg (by omega), if_neg (by omega), hk]; exact if_pos hb) rfl)
  have HS := Lib.hid hs
  clear hs he hk ht hb
  go_enter Tryd.func57, Tryd.ntmps57
  go_wp2_with (first
    | (go_at_call 29; ((with_reducible refine (rtake_c s 1 _ 0 (by have := HK.out; omega) rfl (by have := HE.out; omega) HS.out _).mono ?_); rintro e w1 ⟨rfl, hg⟩; have B1 := (Box.new w (.int .i64 0) (.int .i64 0) (.string ⟨#[]⟩) _).grown hg; have ac0 := B1.c0; have ac1 := B1.c1; have ac2 := B1.c2; have af0 := B1.f 0; have af1 := B1.f 1; have af2 := B1.f 2; have hlt := lt_of_grown hg; have hne : ¬ w.heap.size = w1.heap.size := (by omega); have hne' : ¬ w1.heap.size = w.heap.size := (by omega)))
    | (go_at_call 69; ((with_reducible refine (rtakeInt_c (tkR s) _ _ 0 rfl rfl (by have := HT.out; omega) HZ.out _).mono ?_); rintro e w2 ⟨rfl, hg2⟩; have B2 := B1.grown (grown_trans ((Grown.refl _).alloc _ _) hg2); have V2 := (Box.new w1 (.int .i64 1) (.int .i64 0) (.string ⟨#[]⟩) _).grown hg2; have bc0 := B2.c0; have bc1 := B2.c1; have bc2 := B2.c2; have bf0 := B2.f 0; have bf1 := B2.f 1; have bf2 := B2.f 2; have vc0 := V2.c0; have vc1 := V2.c1; have vc2 := V2.c2; have vf0 := V2.f 0; have vf1 := V2.f 1; have vf2 := V2.f 2))
    | (go_at_call 41; ((with_reducible refine (rright_c 1 (tiN (tkR s)) ⟨#[]⟩ true HB.out _ (by decide)).mono ?_); rintro e w3 ⟨rfl, hg3⟩; have B3 := (B2.far (b := w.heap.size) (c := w1.heap.size) (o := 1) hne _).grown hg3; have V3 := (V2.set1 (.int .i64 (tiN (tkR s)))).grown hg3; have xc0 := B3.c0; have xc1 := B3.c1; have xc2 := B3.c2; have xf0 := B3.f 0; have xf1 := B3.f 1; have xf2 := B3.f 2; have yc0 := V3.c0; have yc1 := V3.c1; have yc2 := V3.c2; have yf0 := V3.f 0; have yf1 := V3.f 1; have yf2 := V3.f 2)))
  refine bodyPost_ret (by simp [results, Tryd.results57, go_sem, *]) rfl ⟨HR.out, ?_⟩
  exact grown_set3 (grown_trans (((grown_trans ((grown_trans ((Grown.refl _).alloc _ _) hg).alloc _ _) hg2)).setCell (Nat.le_of_lt hlt) _) hg3) _ _ _ (Nat.le_refl _)

set_option maxRecDepth 100000 in
set_option maxHeartbeats 1000000 in
theorem rvtake_int3E (s : ByteArray) (w : World) (hs : s.size ≤ 100000) (he : tkE s = 0) (hk : tkN s = 3) (ht : tkE (tkR s) ≠ 0) :
    Calls Tryd.prog 57 #[.string s] w fun e w' => e = .returned (.tuple #[.agg #[.int .i64 (tvK s), .int .i64 (tvI s), .string (tvT s)], .string (tvR s), .int .i64 (tvE s)]) ∧ Grown w w' := by
  have HE := Lib.hid he
  have HK := Lib.hid hk
  have HZ := Lib.hid (Nat.le_trans (tkR_size s) hs)
  have d1 : ((tkE (tkR s) : Int) == 0) = false := by simp [ht]
  have d2 : ((tkE (tkR s) : Int) != 0) = true := by simp [ht]
  have hbit : bits BinOp.and IntKind.u64 3 3 = 3 := by decide
  have HR := Lib.hid (tv_of (s := s) (k := 0) (n := 0) (t := ⟨#[]⟩) (r := ⟨#[]⟩) (e := tkE (tkR s)) (by unfold tvL; rw [if_neg (by omega), if_neg (by omega), if_neg (by omega), if_neg (by omega), if_pos ht]) rfl)
  have HS := Lib.hid hs
  clear hs he hk ht
  go_enter Tryd.func57, Tryd.ntmps57
  go_wp2_with (first
    | (go_at_call 29; ((with_reducible refine (rtake_c s 3 _ 0 (by have := HK.out; omega) rfl (by have := HE.out; omega) HS.out _).mono ?_); rintro e w1 ⟨rfl, hg⟩; have B1 := (Box.new w (.int .i64 0) (.int .i64 0) (.string ⟨#[]⟩) _).grown hg; have ac0 := B1.c0; have ac1 := B1.c1; have ac2 := B1.c2; have af0 := B1.f 0; have af1 := B1.f 1; have af2 := B1.f 2; have hlt := lt_of_grown hg; have hne : ¬ w.heap.size = w1.heap.size := (by omega); have hne' : ¬ w1.heap.size = w.heap.size := (by omega)))
    | (go_at_call 69; ((with_reducible refine (rtakeInt_c (tkR s) _ _ _ rfl rfl rfl HZ.out _).mono ?_); rintro e w2 ⟨rfl, hg2⟩; have B2 := B1.grown (grown_trans ((Grown.refl _).alloc _ _) hg2); have V2 := (Box.new w1 (.int .i64 3) (.int .i64 0) (.string ⟨#[]⟩) _).grown hg2; have bc0 := B2.c0; have bc1 := B2.c1; have bc2 := B2.c2; have bf0 := B2.f 0; have bf1 := B2.f 1; have bf2 := B2.f 2; have vc0 := V2.c0; have vc1 := V2.c1; have vc2 := V2.c2; have vf0 := V2.f 0; have vf1 := V2.f 1; have vf2 := V2.f 2)))
  refine bodyPost_ret (by simp [results, Tryd.results57, go_sem, *]) rfl ⟨HR.out, ?_⟩
  exact grown_set3 (((grown_trans ((grown_trans ((Grown.refl _).alloc _ _) hg).alloc _ _) hg2)).setCell (Nat.le_of_lt hlt) _) _ _ _ (Nat.le_refl _)

set_option maxRecDepth 100000 in
set_option maxHeartbeats 1000000 in
theorem rvtake_int3t (s : ByteArray) (w : World) (hs : s.size ≤ 100000) (he : tkE s = 0) (hk : tkN s = 3) (ht : tkE (tkR s) = 0) (hb : rightB 3 (tiN (tkR s)) ⟨#[]⟩ = true) :
    Calls Tryd.prog 57 #[.string s] w fun e w' => e = .returned (.tuple #[.agg #[.int .i64 (tvK s), .int .i64 (tvI s), .string (tvT s)], .string (tvR s), .int .i64 (tvE s)]) ∧ Grown w w' := by
  have HE := Lib.hid he
  have HK := Lib.hid hk
  have HZ := Lib.hid (Nat.le_trans (tkR_size s) hs)
  have HT := Lib.hid ht
  have HB := Lib.hid hb
  have hbit : bits BinOp.and IntKind.u64 3 3 = 3 := by decide
  have HR := Lib.hid (tv_of (s := s) (k := 3) (n := tiN (tkR s)) (t := ⟨#[]⟩) (r := tkR (tkR s)) (e := 0) (by unfold tvL; rw [if_neg (by omega), if_neg (by omega), if_neg (by omega), if_neg (by omega), if_neg (by omega), hk]; exact if_pos hb) rfl)
  have HS := Lib.hid hs
  clear hs he hk ht hb
  go_enter Tryd.func57, Tryd.ntmps57
  go_wp2_with (first
    | (go_at_call 29; ((with_reducible refine (rtake_c s 3 _ 0 (by have := HK.out; omega) rfl (by have := HE.out; omega) HS.out _).mono ?_); rintro e w1 ⟨rfl, hg⟩; have B1 := (Box.new w (.int .i64 0) (.int .i64 0) (.string ⟨#[]⟩) _).grown hg; have ac0 := B1.c0; have ac1 := B1.c1; have ac2 := B1.c2; have af0 := B1.f 0; have af1 := B1.f 1; have af2 := B1.f 2; have hlt := lt_of_grown hg; have hne : ¬ w.heap.size = w1.heap.size := (by omega); have hne' : ¬ w1.heap.size = w.heap.size := (by omega)))
    | (go_at_call 69; ((with_reducible refine (rtakeInt_c (tkR s) _ _ 0 rfl rfl (by have := HT.out; omega) HZ.out _).mono ?_); rintro e w2 ⟨rfl, hg2⟩; have B2 := B1.grown (grown_trans ((Grown.refl _).alloc _ _) hg2); have V2 := (Box.new w1 (.int .i64 3) (.int .i64 0) (.string ⟨#[]⟩) _).grown hg2; have bc0 := B2.c0; have bc1 := B2.c1; have bc2 := B2.c2; have bf0 := B2.f 0; have bf1 := B2.f 1; have bf2 := B2.f 2; have vc0 := V2.c0; have vc1 := V2.c1; have vc2 := V2.c2; have vf0 := V2.f 0; have vf1 := V2.f 1; have vf2 := V2.f 2))
    | (go_at_call 41; ((with_reducible refine (rright_c 3 (tiN (tkR s)) ⟨#[]⟩ true HB.out _ (by decide)).mono ?_); rintro e w3 ⟨rfl, hg3⟩; have B3 := (B2.far (b := w.heap.size) (c := w1.heap.size) (o := 1) hne _).grown hg3; have V3 := (V2.set1 (.int .i64 (tiN (tkR s)))).grown hg3; have xc0 := B3.c0; have xc1 := B3.c1; have xc2 := B3.c2; have xf0 := B3.f 0; have xf1 := B3.f 1; have xf2 := B3.f 2; have yc0 := V3.c0; have yc1 := V3.c1; have yc2 := V3.c2; have yf0 := V3.f 0; have yf1 := V3.f 1; have yf2 := V3.f 2)))
  refine bodyPost_ret (by simp [results, Tryd.results57, go_sem, *]) rfl ⟨HR.out, ?_⟩
  exact grown_set3 (grown_trans (((grown_trans ((grown_trans ((Grown.refl _).alloc _ _) hg).alloc _ _) hg2)).setCell (Nat.le_of_lt hlt) _) hg3) _ _ _ (Nat.le_refl _)

set_option maxRecDepth 100000 in
set_option maxHeartbeats 1000000 in
theorem rvtake_int3f (s : ByteArray) (w : World) (hs : s.size ≤ 100000) (he : tkE s = 0) (hk : tkN s = 3) (ht : tkE (tkR s) = 0) (hb : rightB 3 (tiN (tkR s)) ⟨#[]⟩ = false) :
    Calls Tryd.prog 57 #[.string s] w fun e w' => e = .returned (.tuple #[.agg #[.int .i64 (tvK s), .int .i64 (tvI s), .string (tvT s)], .string (tvR s), .int .i64 (tvE s)]) ∧ Grown w w' := by
  have HE := Lib.hid he
  have HK := Lib.hid hk
  have HZ := Lib.hid (Nat.le_trans (tkR_size s) hs)
  have HT := Lib.hid ht
  have HB := Lib.hid hb
  have hbit : bits BinOp.and IntKind.u64 3 3 = 3 := by decide
  have HR := Lib.hid (tv_of (s := s) (k := 0) (n := 0) (t := ⟨#[]⟩) (r := ⟨#[]⟩) (e := 3) (by unfold tvL; rw [if_neg (by omega), if_neg (by omega), if_neg (by omega), if_neg (by omega), if_neg (by omega), hk]; exact if_neg (by rw [show ((3 : Nat) : Int) = 3 from rfl, hb]; decide)) rfl)
  have HS := Lib.hid hs
  clear hs he hk ht hb
  go_enter Tryd.func57, Tryd.ntmps57
  go_wp2_with (first
    | (go_at_call 29; ((with_reducible refine (rtake_c s 3 _ 0 (by have := HK.out; omega) rfl (by have := HE.out; omega) HS.out _).mono ?_); rintro e w1 ⟨rfl, hg⟩; have B1 := (Box.new w (.int .i64 0) (.int .i64 0) (.string ⟨#[]⟩) _).grown hg; have ac0 := B1.c0; have ac1 := B1.c1; have ac2 := B1.c2; have af0 := B1.f 0; have af1 := B1.f 1; have af2 := B1.f 2; have hlt := lt_of_grown hg; have hne : ¬ w.heap.size = w1.heap.size := (by omega); have hne' : ¬ w1.heap.size = w.heap.size := (by omega)))
    | (go_at_call 69; ((with_reducible refine (rtakeInt_c (tkR s) _ _ 0 rfl rfl (by have := HT.out; omega) HZ.out _).mono ?_); rintro e w2 ⟨rfl, hg2⟩; have B2 := B1.grown (grown_trans ((Grown.refl _).alloc _ _) hg2); have V2 := (Box.new w1 (.int .i64 3) (.int .i64 0) (.string ⟨#[]⟩) _).grown hg2; have bc0 := B2.c0; have bc1 := B2.c1; have bc2 := B2.c2; have bf0 := B2.f 0; have bf1 := B2.f 1; have bf2 := B2.f 2; have vc0 := V2.c0; have vc1 := V2.c1; have vc2 := V2.c2; have vf0 := V2.f 0; have vf1 := V2.f 1; have vf2 := V2.f 2))
    | (go_at_call 41; ((with_reducible refine (rright_c 3 (tiN (tkR s)) ⟨#[]⟩ false HB.out _ (by decide)).mono ?_); rintro e w3 ⟨rfl, hg3⟩; have B3 := (B2.far (b := w.heap.size) (c := w1.heap.size) (o := 1) hne _).grown hg3; have V3 := (V2.set1 (.int .i64 (tiN (tkR s)))).grown hg3; have xc0 := B3.c0; have xc1 := B3.c1; have xc2 := B3.c2; have xf0 := B3.f 0; have xf1 := B3.f 1; have xf2 := B3.f 2; have yc0 := V3.c0; have yc1 := V3.c1; have yc2 := V3.c2; have yf0 := V3.f 0; have yf1 := V3.f 1; have yf2 := V3.f 2)))
  refine bodyPost_ret (by simp [results, Tryd.results57, go_sem, *]) rfl ⟨HR.out, ?_⟩
  exact grown_set3 (grown_trans (((grown_trans ((grown_trans ((Grown.refl _).alloc _ _) hg).alloc _ _) hg2)).setCell (Nat.le_of_lt hlt) _) hg3) _ _ _ (Nat.le_refl _)

theorem rvtake_any (s : ByteArray) (w : World) (hs : s.size ≤ 100000) :
    Calls Tryd.prog 57 #[.string s] w fun e w' => e = .returned (.tuple #[.agg #[.int .i64 (tvK s), .int .i64 (tvI s), .string (tvT s)], .string (tvR s), .int .i64 (tvE s)]) ∧ Grown w w' := by
  by_cases he : tkE s = 0
  · by_cases hk : 3 < tkN s
    · exact rvtake_big s w hs he hk
    obtain h | h | h | h : tkN s = 0 ∨ tkN s = 1 ∨ tkN s = 2 ∨ tkN s = 3 := by omega
    · exact rvtake_none s w hs he h
    · by_cases ht : tkE (tkR s) = 0
      · exact rvtake_int1t s w hs he h ht
      · exact rvtake_int1E s w hs he h ht
    · by_cases ht : ttE (tkR s) 200 = 0
      · exact rvtake_text s w hs he h ht
      · exact rvtake_textE s w hs he h ht
    · by_cases ht : tkE (tkR s) = 0
      · cases hb : rightB 3 (tiN (tkR s)) ⟨#[]⟩
        · exact rvtake_int3f s w hs he h ht hb
        · exact rvtake_int3t s w hs he h ht hb
      · exact rvtake_int3E s w hs he h ht
  · exact rvtake_err s w hs he
end Go.Proofs.YtjcnjmlgedmmoaaDoor
