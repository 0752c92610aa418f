/-
  What is proved: the helper 'awake' of layer 3's laws returns true, where the laid tables read as their initialisers lay them; the world has new blocks at most.
-/
import Derived.Test.YtooaiicbnfmnpaaDoorVTake
import Derived.Test.YtooaiicbnfmnpaaDoorText
namespace Go.Proofs.YtooaiicbnfmnpaaDoor
open Go.RowKit

/-- A block of three cells, as it reads. -/
structure BoxC (w : World) (b : Nat) (x0 x1 x2 : Value) : Prop where
  c0 : w.cell? ⟨b, 0, none⟩ = some x0
  c1 : w.cell? ⟨b, 1, none⟩ = some x1
  c2 : w.cell? ⟨b, 2, none⟩ = some x2
theorem BoxC.kept {w w' : World} {b : Nat} {x0 x1 x2 : Value} (h : BoxC w b x0 x1 x2) (hg : Kept w w') : BoxC w' b x0 x1 x2 := ⟨hg.cell h.c0, hg.cell h.c1, hg.cell h.c2⟩
theorem BoxC.new (w : World) (x0 x1 x2 : Value) (t : TypeId) : BoxC (w.alloc (.cells #[x0, x1, x2] t)) w.heap.size x0 x1 x2 :=
  ⟨grown_box (Grown.refl _) 0 x0 rfl, grown_box (Grown.refl _) 1 x1 rfl, grown_box (Grown.refl _) 2 x2 rfl⟩
theorem kept_alloc (w : World) (c : Array Value) (t : TypeId) : Kept w (w.alloc (.cells c t)) := kept_of ((Grown.refl _).alloc _ _)

theorem vtake_c (s : ByteArray) (k n : Int) (t r : ByteArray) (z : Int) (h1 : tvK s = k) (h2 : tvI s = n) (h3 : tvT s = t) (h4 : tvR s = r) (h5 : (tvE s : Int) = z) (hs : s.size ≤ 9223372036854775807) (w : World) :
    Calls Tryd.prog 6 #[.string s] w fun e w' => e = .returned (.tuple #[.agg #[.int .i64 k, .int .i64 n, .string t], .string r, .int .i64 z]) ∧ Grown w w' := by
  subst h1 h2 h3 h4 h5; exact vtake_any s w hs
theorem vtext_c (k n : Int) (t r : ByteArray) (h : textV k n t = r) (w : World) (h0 : -9223372036854775808 ≤ n) (h1 : n ≤ 9223372036854775807) (ht : t.size ≤ 1000000000000) (hl : LaidW w) :
    Calls Tryd.prog 14 #[.agg #[.int .i64 k, .int .i64 n, .string t]] w fun e w' => e = .returned (.string r) ∧ Kept w w' := by
  subst h; exact vtext_any k n t w h0 h1 ht hl
theorem vcmp_c (k1 n1 : Int) (t1 : ByteArray) (k2 n2 : Int) (t2 : ByteArray) (z : Int) (h : cmpV k1 n1 t1.data.toList k2 n2 t2.data.toList = z) (w : World) :
    Calls Tryd.prog 10 #[.agg #[.int .i64 k1, .int .i64 n1, .string t1], .agg #[.int .i64 k2, .int .i64 n2, .string t2]] w
      fun e w' => e = .returned (.int .i64 z) ∧ Grown w w' := by
  subst h; exact vcmp_any k1 n1 t1 k2 n2 t2 w
theorem vput_c (b : ByteArray) (k n : Int) (t r : ByteArray) (h : putV b k n t = r) (w : World) (h1 : -9223372036854775808 ≤ n) (h2 : n ≤ 9223372036854775807) (hb : b.size ≤ 1000000000000) (ht : t.size ≤ 1000000000000) :
    Calls Tryd.prog 12 #[.string b, .agg #[.int .i64 k, .int .i64 n, .string t]] w fun e w' => e = .returned (.string r) ∧ Grown w w' := by
  subst h; exact vput_any b k n t w h1 h2 hb ht
theorem vzero_c (k z : Int) (h : zeroK k = z) (w : World) :
    Calls Tryd.prog 16 #[.int .i64 k] w fun e w' => e = .returned (.agg #[.int .i64 z, .int .i64 0, .string ⟨#[]⟩]) ∧ Grown w w' := by
  subst h; exact vzero_any k w

theorem w1 (w : World) : Calls Tryd.prog 6 #[.string ⟨#[2, 2, 97, 98, 120]⟩] w fun e w' => e = .returned (.tuple #[.agg #[.int .i64 2, .int .i64 0, .string ⟨#[97, 98]⟩], .string ⟨#[120]⟩, .int .i64 0]) ∧ Grown w w' :=
  vtake_c ⟨#[2, 2, 97, 98, 120]⟩ 2 0 ⟨#[97, 98]⟩ ⟨#[120]⟩ 0 (by decide) (by decide) (by decide) (by decide) (by decide) (by decide) w
theorem w2 (w : World) : Calls Tryd.prog 6 #[.string ⟨#[3, 4]⟩] w fun e w' => e = .returned (.tuple #[.agg #[.int .i64 0, .int .i64 0, .string ⟨#[]⟩], .string ⟨#[]⟩, .int .i64 3]) ∧ Grown w w' :=
  vtake_c ⟨#[3, 4]⟩ 0 0 ⟨#[]⟩ ⟨#[]⟩ 3 (by decide) (by decide) (by decide) (by decide) (by decide) (by decide) w
theorem w3 (w : World) : Calls Tryd.prog 6 #[.string ⟨#[4]⟩] w fun e w' => e = .returned (.tuple #[.agg #[.int .i64 0, .int .i64 0, .string ⟨#[]⟩], .string ⟨#[]⟩, .int .i64 3]) ∧ Grown w w' :=
  vtake_c ⟨#[4]⟩ 0 0 ⟨#[]⟩ ⟨#[]⟩ 3 (by decide) (by decide) (by decide) (by decide) (by decide) (by decide) w
theorem txt5 : textV 1 (-5) ⟨#[]⟩ = ⟨#[45, 53]⟩ := by
  unfold textV itoaS
  rw [if_pos rfl, show (-5 : Int) = -((5 : Nat) : Int) from rfl, Lib.itoa_neg 5 (by decide), Lib.decDigits_one (by decide)]
  rfl

set_option maxRecDepth 100000 in
set_option maxHeartbeats 4000000 in
theorem vawake_any (w : World) (hl : LaidW w) :
    Calls Tryd.prog 5 #[] w fun e w' => e = .returned (.bool true) ∧ Kept w w' := by
  go_enter Tryd.func5, Tryd.ntmps5
  go_wp2_with fail
  refine (w1 _).mono ?_
  rintro e u1 ⟨rfl, hg⟩
  have hK := kept_of hg
  clear hg
  go_wp2_with fail
  refine (w2 _).mono ?_
  rintro e u2 ⟨rfl, hg⟩
  have V := (BoxC.new u1 (.int .i64 2) (.int .i64 0) (.string ⟨#[97, 98]⟩) 23).kept (kept_of hg)
  replace hK := (hK.trans (kept_alloc _ _ _)).trans (kept_of hg)
  clear hg
  go_wp2_with fail
  refine (w3 _).mono ?_
  rintro e u3 ⟨rfl, hg⟩
  replace V := V.kept ((kept_alloc u2 #[.int .i64 0, .int .i64 0, .string ⟨#[]⟩] 23).trans (kept_of hg))
  replace hK := (hK.trans (kept_alloc u2 #[.int .i64 0, .int .i64 0, .string ⟨#[]⟩] 23)).trans (kept_of hg)
  clear hg
  replace V := V.kept ((kept_alloc u3 #[.int .i64 0, .int .i64 0, .string ⟨#[]⟩] 23).trans (kept_alloc _ #[.int .i64 1, .int .i64 (-5), .string ⟨#[]⟩] 23))
  replace hK := hK.trans ((kept_alloc u3 #[.int .i64 0, .int .i64 0, .string ⟨#[]⟩] 23).trans (kept_alloc _ #[.int .i64 1, .int .i64 (-5), .string ⟨#[]⟩] 23))
  have N := BoxC.new (u3.alloc (.cells #[.int .i64 0, .int .i64 0, .string ⟨#[]⟩] 23)) (.int .i64 1) (.int .i64 (-5)) (.string ⟨#[]⟩) 23
  have es : (u3.alloc (.cells #[.int .i64 0, .int .i64 0, .string ⟨#[]⟩] 23)).heap.size = u3.heap.size + 1 := by simp
  rw [es] at N
  clear es
  have v0 := V.c0
  have v1 := V.c1
  have v2 := V.c2
  have n0 := N.c0
  have n1 := N.c1
  have n2 := N.c2
  go_wp2_with (first
    | (go_at_call 12; ((with_reducible refine (vput_c ⟨#[]⟩ 1 (-5) ⟨#[]⟩ ⟨#[1, 9]⟩ (by decide) _ (by decide) (by decide) (by decide) (by decide)).mono ?_); rintro e wk ⟨rfl, hg⟩; have hk := kept_of hg; clear hg; (replace hK := hK.trans hk); (replace V := V.kept hk); (replace N := N.kept hk); clear v0 v1 v2 n0 n1 n2 hk; have v0 := V.c0; have v1 := V.c1; have v2 := V.c2; have n0 := N.c0; have n1 := N.c1; have n2 := N.c2))
    | (go_at_call 14; ((with_reducible refine (vtext_c 1 (-5) ⟨#[]⟩ ⟨#[45, 53]⟩ txt5 _ (by decide) (by decide) (by decide) (hl.kept hK)).mono ?_); rintro e wk ⟨rfl, hg⟩; have hk := hg; clear hg; (replace hK := hK.trans hk); (replace V := V.kept hk); (replace N := N.kept hk); clear v0 v1 v2 n0 n1 n2 hk; have v0 := V.c0; have v1 := V.c1; have v2 := V.c2; have n0 := N.c0; have n1 := N.c1; have n2 := N.c2))
    | (go_at_call 14; ((with_reducible refine (vtext_c 2 0 ⟨#[97, 98]⟩ ⟨#[39, 97, 98]⟩ rfl _ (by decide) (by decide) (by decide) (hl.kept hK)).mono ?_); rintro e wk ⟨rfl, hg⟩; have hk := hg; clear hg; (replace hK := hK.trans hk); (replace V := V.kept hk); (replace N := N.kept hk); clear v0 v1 v2 n0 n1 n2 hk; have v0 := V.c0; have v1 := V.c1; have v2 := V.c2; have n0 := N.c0; have n1 := N.c1; have n2 := N.c2))
    | (go_at_call 14; ((with_reducible refine (vtext_c 3 0 ⟨#[]⟩ ⟨#[110, 111]⟩ rfl _ (by decide) (by decide) (by decide) (hl.kept hK)).mono ?_); rintro e wk ⟨rfl, hg⟩; have hk := hg; clear hg; (replace hK := hK.trans hk); (replace V := V.kept hk); (replace N := N.kept hk); clear v0 v1 v2 n0 n1 n2 hk; have v0 := V.c0; have v1 := V.c1; have v2 := V.c2; have n0 := N.c0; have n1 := N.c1; have n2 := N.c2))
    | (go_at_call 14; ((with_reducible refine (vtext_c 0 0 ⟨#[]⟩ ⟨#[45]⟩ rfl _ (by decide) (by decide) (by decide) (hl.kept hK)).mono ?_); rintro e wk ⟨rfl, hg⟩; have hk := hg; clear hg; (replace hK := hK.trans hk); (replace V := V.kept hk); (replace N := N.kept hk); clear v0 v1 v2 n0 n1 n2 hk; have v0 := V.c0; have v1 := V.c1; have v2 := V.c2; have n0 := N.c0; have n1 := N.c1; have n2 := N.c2))
    | (go_at_call 16; ((with_reducible refine (vzero_c 3 3 rfl _).mono ?_); rintro e wk ⟨rfl, hg⟩; have hk := kept_of hg; clear hg; (replace hK := hK.trans hk); (replace V := V.kept hk); (replace N := N.kept hk); clear v0 v1 v2 n0 n1 n2 hk; have v0 := V.c0; have v1 := V.c1; have v2 := V.c2; have n0 := N.c0; have n1 := N.c1; have n2 := N.c2))
    | (go_at_call 10; ((with_reducible refine (vcmp_c 1 (-5) ⟨#[]⟩ 2 0 ⟨#[97, 98]⟩ (-1) (by decide) _).mono ?_); rintro e wk ⟨rfl, hg⟩; have hk := kept_of hg; clear hg; (replace hK := hK.trans hk); (replace V := V.kept hk); (replace N := N.kept hk); clear v0 v1 v2 n0 n1 n2 hk; have v0 := V.c0; have v1 := V.c1; have v2 := V.c2; have n0 := N.c0; have n1 := N.c1; have n2 := N.c2))
    | (go_at_call 10; ((with_reducible refine (vcmp_c 2 0 ⟨#[97, 98]⟩ 1 (-5) ⟨#[]⟩ 1 (by decide) _).mono ?_); rintro e wk ⟨rfl, hg⟩; have hk := kept_of hg; clear hg; (replace hK := hK.trans hk); (replace V := V.kept hk); (replace N := N.kept hk); clear v0 v1 v2 n0 n1 n2 hk; have v0 := V.c0; have v1 := V.c1; have v2 := V.c2; have n0 := N.c0; have n1 := N.c1; have n2 := N.c2))
    | (go_at_call 10; ((with_reducible refine (vcmp_c 2 0 ⟨#[97, 98]⟩ 2 0 ⟨#[97, 98]⟩ 0 (by decide) _).mono ?_); rintro e wk ⟨rfl, hg⟩; have hk := kept_of hg; clear hg; (replace hK := hK.trans hk); (replace V := V.kept hk); (replace N := N.kept hk); clear v0 v1 v2 n0 n1 n2 hk; have v0 := V.c0; have v1 := V.c1; have v2 := V.c2; have n0 := N.c0; have n1 := N.c1; have n2 := N.c2))
    | (go_at_call 8; ((with_reducible refine (vright_c 1 (-5) ⟨#[]⟩ true (by decide) _ (by decide)).mono ?_); rintro e wk ⟨rfl, hg⟩; have hk := kept_of hg; clear hg; (replace hK := hK.trans hk); (replace V := V.kept hk); (replace N := N.kept hk); clear v0 v1 v2 n0 n1 n2 hk; have v0 := V.c0; have v1 := V.c1; have v2 := V.c2; have n0 := N.c0; have n1 := N.c1; have n2 := N.c2))
    | (go_at_call 8; ((with_reducible refine (vright_c 0 0 ⟨#[]⟩ false (by decide) _ (by decide)).mono ?_); rintro e wk ⟨rfl, hg⟩; have hk := kept_of hg; clear hg; (replace hK := hK.trans hk); (replace V := V.kept hk); (replace N := N.kept hk); clear v0 v1 v2 n0 n1 n2 hk; have v0 := V.c0; have v1 := V.c1; have v2 := V.c2; have n0 := N.c0; have n1 := N.c1; have n2 := N.c2))
    | (go_at_call 8; ((with_reducible refine (vright_c 3 2 ⟨#[]⟩ false (by decide) _ (by decide)).mono ?_); rintro e wk ⟨rfl, hg⟩; have hk := kept_of hg; clear hg; (replace hK := hK.trans hk); (replace V := V.kept hk); (replace N := N.kept hk); clear v0 v1 v2 n0 n1 n2 hk; have v0 := V.c0; have v1 := V.c1; have v2 := V.c2; have n0 := N.c0; have n1 := N.c1; have n2 := N.c2))
    | fail)
  go_ret
  exact ⟨rfl, hK⟩
end Go.Proofs.YtooaiicbnfmnpaaDoor
