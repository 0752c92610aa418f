/-
  What is proved: Text of package dot and of the document's layer 5, called with any dot, returns what P5.8 says; the world has new blocks at most.
-/
import Derived.Test.YtoanccojpppfoaaDoorDPut
import Derived.Test.YtoanccojpppfoaaDoorNum
namespace Go.Proofs.YtoanccojpppfoaaDoor
open Go.RowKit

/-- P5.8. -/
def textD (x : Int × Int) : ByteArray := itoaS x.1 ++ ⟨#[46]⟩ ++ itoaS x.2

theorem itoaS_size (n : Int) (h0 : -9223372036854775808 ≤ n) (h1 : n ≤ 9223372036854775807) : (itoaS n).size ≤ 21 := by
  have := Lib.itoa_length_le n h0 h1
  show (Lib.itoa n).toArray.size ≤ 21
  rw [List.size_toArray]
  omega
theorem dnum_any (n : Int) (w : World) (h0 : -9223372036854775808 ≤ n) (h1 : n ≤ 9223372036854775807) (hl : LaidW w) :
    Calls Tryd.prog 62 #[.int .i64 n] w fun e w' => e = .returned (.string (itoaS n)) ∧ Kept w w' := by
  have HT := Lib.hid (vtext_any 1 n ⟨#[]⟩ w h0 h1 (by decide) hl)
  clear hl
  go_enter Tryd.func62, Tryd.ntmps62
  go_wp2_with fail
  go_at_call 48
  refine HT.out.mono ?_
  rintro e w1 ⟨rfl, hg⟩
  go_wp2_with fail
  go_ret
  exact ⟨ret_str rfl, hg⟩
set_option maxRecDepth 100000 in
set_option maxHeartbeats 1000000 in
theorem dtext_any (x : Int × Int) (r : ByteArray) (hr : textD x = r) (w : World) (h1 : -9223372036854775808 ≤ x.1) (h2 : x.1 ≤ 9223372036854775807) (h3 : -9223372036854775808 ≤ x.2) (h4 : x.2 ≤ 9223372036854775807) (hl : LaidW w) :
    Calls Tryd.prog 47 #[.agg #[.int .i64 x.1, .int .i64 x.2]] w fun e w' => e = .returned (.string r) ∧ Kept w w' := by
  subst hr
  obtain ⟨x1, x2⟩ := x
  simp only at h1 h2 h3 h4
  have z1 := itoaS_size x1 h1 h2
  have z2 := itoaS_size x2 h3 h4
  have HA := Lib.hid (fun w hl => dnum_any x1 w h1 h2 hl)
  have HB := Lib.hid (fun w hl => dnum_any x2 w h3 h4 hl)
  have HL := Lib.hid (hl.kept ((Kept.refl w).alloc #[.int .i64 x1, .int .i64 x2] 23))
  have HR := Lib.hid (show itoaS x1 ++ ⟨#[46]⟩ ++ itoaS x2 = textD (x1, x2) from rfl)
  have c0 := KExt.cell (Kept.box0 (Kept.refl (w.alloc (.cells #[.int .i64 x1, .int .i64 x2] 23))))
  have c1 := KExt.cell (Kept.box1 (Kept.refl (w.alloc (.cells #[.int .i64 x1, .int .i64 x2] 23))))
  have p1 : ((⟨#[46]⟩ : ByteArray)).size = 1 := rfl
  clear hl
  go_enter Tryd.func47, Tryd.ntmps47
  go_wp2_with fail
  refine region_kept _ (by kernel_rfl) (by kernel_rfl) (Kept.refl _) ?_
  repeat (go_big_quiet_step ((first
    | (go_at_call 62; (with_reducible exact KExt.callsK (HA.out _ (HL.out.kept (KExt.g _)))))
    | (go_at_call 62; (with_reducible exact KExt.callsK (HB.out _ (HL.out.kept (KExt.g _)))))
    | fail)))
  refine wpQuiet_nil ?_
  intro g
  go_wp2_with fail
  go_ret
  exact ⟨ret_str HR.out, ((Kept.refl w).alloc _ _).trans g.g⟩
set_option maxRecDepth 100000 in
set_option maxHeartbeats 1000000 in
theorem rtextD_any (x : Int × Int) (r : ByteArray) (hr : textD x = r) (w : World) (h1 : -9223372036854775808 ≤ x.1) (h2 : x.1 ≤ 9223372036854775807) (h3 : -9223372036854775808 ≤ x.2) (h4 : x.2 ≤ 9223372036854775807) :
    Calls Tryd.prog 49 #[.agg #[.int .i64 x.1, .int .i64 x.2]] w fun e w' => e = .returned (.string r) ∧ Kept w w' := by
  subst hr
  obtain ⟨x1, x2⟩ := x
  simp only at h1 h2 h3 h4
  have z1 := itoaS_size x1 h1 h2
  have z2 := itoaS_size x2 h3 h4
  have HA := Lib.hid (fun w => rtextV_any 1 x1 ⟨#[]⟩ w h1 h2 (by decide))
  have HB := Lib.hid (fun w => rtextV_any 1 x2 ⟨#[]⟩ w h3 h4 (by decide))
  have HR := Lib.hid (show itoaS x1 ++ ⟨#[46]⟩ ++ itoaS x2 = textD (x1, x2) from rfl)
  have t1 : textV 1 x1 ⟨#[]⟩ = itoaS x1 := rfl
  have t2 : textV 1 x2 ⟨#[]⟩ = itoaS x2 := rfl
  have c0 := KExt.cell (Kept.box0 (Kept.refl (w.alloc (.cells #[.int .i64 x1, .int .i64 x2] 23))))
  have c1 := KExt.cell (Kept.box1 (Kept.refl (w.alloc (.cells #[.int .i64 x1, .int .i64 x2] 23))))
  have p1 : ((⟨#[46]⟩ : ByteArray)).size = 1 := rfl
  go_enter Tryd.func49, Tryd.ntmps49
  go_wp2_with fail
  refine region_kept _ (by kernel_rfl) (by kernel_rfl) (Kept.refl _) ?_
  repeat (go_big_quiet_step ((first
    | (go_at_call 50; (with_reducible exact KExt.calls (HA.out _)))
    | (go_at_call 50; (with_reducible exact KExt.calls (HB.out _)))
    | fail)))
  refine wpQuiet_nil ?_
  intro g
  go_wp2_with fail
  go_ret
  exact ⟨ret_str HR.out, ((Kept.refl w).alloc _ _).trans g.g⟩
end Go.Proofs.YtoanccojpppfoaaDoor
