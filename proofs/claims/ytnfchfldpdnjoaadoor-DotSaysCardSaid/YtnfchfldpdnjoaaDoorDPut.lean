/-
  What is proved: Right, Put and Text of package dot and of the document's layer 5, called with any dot, return what P5.1, P5.3 and P5.8 say; the world has new blocks at most.
-/
import Derived.Test.YtnfchfldpdnjoaaDoorDCmp
import Derived.Test.YtnfchfldpdnjoaaDoorRefB
import Derived.Test.YtnfchfldpdnjoaaDoorNum
namespace Go.Proofs.YtnfchfldpdnjoaaDoor
open Go.RowKit

/-- P5.1. -/
def rightD (x : Int × Int) : Bool := decide (0 ≤ x.1 ∧ x.1 < 64 ∧ 1 ≤ x.2 ∧ x.2 ≤ 1073741824)
/-- P5.3. -/
def putD (b : ByteArray) (x : Int × Int) : ByteArray := b ++ putS (zigI x.1).toNat ++ putS (zigI x.2).toNat
/-- P5.8. -/
def textD (x : Int × Int) : ByteArray := itoaS x.1 ++ ⟨#[46]⟩ ++ itoaS x.2

set_option maxRecDepth 100000 in
theorem dright_any (x1 x2 : Int) (w : World) :
    Calls Tryd.prog 11 #[.agg #[.int .i64 x1, .int .i64 x2]] w fun e w' => e = .returned (.bool (rightD (x1, x2))) ∧ Kept w w' := by
  by_cases a1 : 0 ≤ x1
  · by_cases a2 : x1 < 64
    · by_cases a3 : 1 ≤ x2
      · by_cases a4 : x2 ≤ 1073741824
        · have HR := Lib.hid (show true = rightD (x1, x2) by unfold rightD; simp [a1, a2, a3, a4])
          go_enter Tryd.func11, Tryd.ntmps11
          go_wp2
          go_ret
          exact ⟨ret_bool HR.out, (Kept.refl _).alloc _ _⟩
        · have HR := Lib.hid (show false = rightD (x1, x2) by unfold rightD; simp [a4])
          have e4 : decide (x2 ≤ 1073741824) = false := by simpa using a4
          go_enter Tryd.func11, Tryd.ntmps11
          go_wp2
          go_ret
          exact ⟨ret_bool HR.out, (Kept.refl _).alloc _ _⟩
      · have HR := Lib.hid (show false = rightD (x1, x2) by unfold rightD; simp [a3])
        have e3 : decide (1 ≤ x2) = false := by simpa using a3
        go_enter Tryd.func11, Tryd.ntmps11
        go_wp2
        go_ret
        exact ⟨ret_bool HR.out, (Kept.refl _).alloc _ _⟩
    · have HR := Lib.hid (show false = rightD (x1, x2) by unfold rightD; simp [a2])
      have e2 : decide (x1 < 64) = false := by simpa using a2
      go_enter Tryd.func11, Tryd.ntmps11
      go_wp2
      go_ret
      exact ⟨ret_bool HR.out, (Kept.refl _).alloc _ _⟩
  · have HR := Lib.hid (show false = rightD (x1, x2) by unfold rightD; simp [a1])
    have e1 : decide (0 ≤ x1) = false := by simpa using a1
    go_enter Tryd.func11, Tryd.ntmps11
    go_wp2
    go_ret
    exact ⟨ret_bool HR.out, (Kept.refl _).alloc _ _⟩
theorem dright_c (x : Int × Int) (r : Bool) (h : rightD x = r) (w : World) :
    Calls Tryd.prog 11 #[.agg #[.int .i64 x.1, .int .i64 x.2]] w fun e w' => e = .returned (.bool r) ∧ Kept w w' := by
  subst h; exact dright_any x.1 x.2 w

set_option maxRecDepth 100000 in
theorem rrightD_any (x1 x2 : Int) (w : World) :
    Calls Tryd.prog 12 #[.agg #[.int .i64 x1, .int .i64 x2]] w fun e w' => e = .returned (.bool (rightD (x1, x2))) ∧ Kept w w' := by
  by_cases a1 : 0 ≤ x1
  · by_cases a2 : x1 < 64
    · by_cases a3 : 1 ≤ x2
      · by_cases a4 : x2 ≤ 1073741824
        · have HR := Lib.hid (show true = rightD (x1, x2) by unfold rightD; simp [a1, a2, a3, a4])
          go_enter Tryd.func12, Tryd.ntmps12
          go_wp2
          go_ret
          exact ⟨ret_bool HR.out, (Kept.refl _).alloc _ _⟩
        · have HR := Lib.hid (show false = rightD (x1, x2) by unfold rightD; simp [a4])
          have e4 : decide (x2 ≤ 1073741824) = false := by simpa using a4
          go_enter Tryd.func12, Tryd.ntmps12
          go_wp2
          go_ret
          exact ⟨ret_bool HR.out, (Kept.refl _).alloc _ _⟩
      · have HR := Lib.hid (show false = rightD (x1, x2) by unfold rightD; simp [a3])
        have e3 : decide (1 ≤ x2) = false := by simpa using a3
        go_enter Tryd.func12, Tryd.ntmps12
        go_wp2
        go_ret
        exact ⟨ret_bool HR.out, (Kept.refl _).alloc _ _⟩
    · have HR := Lib.hid (show false = rightD (x1, x2) by unfold rightD; simp [a2])
      have e2 : decide (x1 < 64) = false := by simpa using a2
      go_enter Tryd.func12, Tryd.ntmps12
      go_wp2
      go_ret
      exact ⟨ret_bool HR.out, (Kept.refl _).alloc _ _⟩
  · have HR := Lib.hid (show false = rightD (x1, x2) by unfold rightD; simp [a1])
    have e1 : decide (0 ≤ x1) = false := by simpa using a1
    go_enter Tryd.func12, Tryd.ntmps12
    go_wp2
    go_ret
    exact ⟨ret_bool HR.out, (Kept.refl _).alloc _ _⟩
theorem rrightD_c (x : Int × Int) (r : Bool) (h : rightD x = r) (w : World) :
    Calls Tryd.prog 12 #[.agg #[.int .i64 x.1, .int .i64 x.2]] w fun e w' => e = .returned (.bool r) ∧ Kept w w' := by
  subst h; exact rrightD_any x.1 x.2 w

theorem dputD_any (b : ByteArray) (x : Int × Int) (r : ByteArray) (hr : putD b x = r) (w : World) (h1 : -9223372036854775808 ≤ x.1) (h2 : x.1 ≤ 9223372036854775807) (h3 : -9223372036854775808 ≤ x.2) (h4 : x.2 ≤ 9223372036854775807) (hb : b.size ≤ 900) :
    Calls Tryd.prog 13 #[.string b, .agg #[.int .i64 x.1, .int .i64 x.2]] w fun e w' => e = .returned (.string r) ∧ Kept w w' := by
  subst hr
  obtain ⟨x1, x2⟩ := x
  have hz : (b ++ putS (zigI x1).toNat).size ≤ 1000 := by
    have := putS_size (zigI x1).toNat
    rw [ByteArray.size_append]
    omega
  have A1 := Lib.hid (fun w => int_any b x1 w h1 h2 (by omega))
  have A2 := Lib.hid (fun w => int_any (b ++ putS (zigI x1).toNat) x2 w h3 h4 (by omega))
  have HR := Lib.hid (show b ++ putS (zigI x1).toNat ++ putS (zigI x2).toNat = putD b (x1, x2) from rfl)
  have c0 := KExt.cell (Kept.box0 (Kept.refl (w.alloc (.cells #[.int .i64 x1, .int .i64 x2] 24))))
  have c1 := KExt.cell (Kept.box1 (Kept.refl (w.alloc (.cells #[.int .i64 x1, .int .i64 x2] 24))))
  clear hz
  go_enter Tryd.func13, Tryd.ntmps13
  go_wp2_with fail
  refine region_kept _ (by kernel_rfl) (by kernel_rfl) (Kept.refl _) ?_
  repeat (go_big_quiet_step ((first
    | (go_at_call 28; (with_reducible exact KExt.calls (A1.out _)))
    | (go_at_call 28; (with_reducible exact KExt.calls (A2.out _)))
    | fail)))
  refine wpQuiet_nil ?_
  intro g
  go_wp2_with fail
  go_ret
  exact ⟨ret_str HR.out, ((Kept.refl w).alloc _ _).trans g.g⟩

theorem rputD_any (b : ByteArray) (x : Int × Int) (r : ByteArray) (hr : putD b x = r) (w : World) (h1 : -9223372036854775808 ≤ x.1) (h2 : x.1 ≤ 9223372036854775807) (h3 : -9223372036854775808 ≤ x.2) (h4 : x.2 ≤ 9223372036854775807) (hb : b.size ≤ 900) :
    Calls Tryd.prog 14 #[.string b, .agg #[.int .i64 x.1, .int .i64 x.2]] w fun e w' => e = .returned (.string r) ∧ Kept w w' := by
  subst hr
  obtain ⟨x1, x2⟩ := x
  have hz : (b ++ putS (zigI x1).toNat).size ≤ 1000 := by
    have := putS_size (zigI x1).toNat
    rw [ByteArray.size_append]
    omega
  have A1 := Lib.hid (fun w => rint_any b x1 w h1 h2 (by omega))
  have A2 := Lib.hid (fun w => rint_any (b ++ putS (zigI x1).toNat) x2 w h3 h4 (by omega))
  have HR := Lib.hid (show b ++ putS (zigI x1).toNat ++ putS (zigI x2).toNat = putD b (x1, x2) from rfl)
  have c0 := KExt.cell (Kept.box0 (Kept.refl (w.alloc (.cells #[.int .i64 x1, .int .i64 x2] 24))))
  have c1 := KExt.cell (Kept.box1 (Kept.refl (w.alloc (.cells #[.int .i64 x1, .int .i64 x2] 24))))
  clear hz
  go_enter Tryd.func14, Tryd.ntmps14
  go_wp2_with fail
  refine region_kept _ (by kernel_rfl) (by kernel_rfl) (Kept.refl _) ?_
  repeat (go_big_quiet_step ((first
    | (go_at_call 29; (with_reducible exact KExt.calls (A1.out _)))
    | (go_at_call 29; (with_reducible exact KExt.calls (A2.out _)))
    | fail)))
  refine wpQuiet_nil ?_
  intro g
  go_wp2_with fail
  go_ret
  exact ⟨ret_str HR.out, ((Kept.refl w).alloc _ _).trans g.g⟩

theorem itoaS_size (n : Int) (h0 : -9223372036854775808 ≤ n) (h1 : n ≤ 9223372036854775807) : (itoaS n).size ≤ 21 := by
  have := Lib.itoa_length_le n h0 h1
  show (Lib.itoa n).toArray.size ≤ 21
  rw [List.size_toArray]
  omega
theorem dnum_any (n : Int) (w : World) (h0 : -9223372036854775808 ≤ n) (h1 : n ≤ 9223372036854775807) (hl : LaidW w) :
    Calls Tryd.prog 35 #[.int .i64 n] w fun e w' => e = .returned (.string (itoaS n)) ∧ Kept w w' := by
  have HT := Lib.hid (vtext_any 1 n ⟨#[]⟩ w h0 h1 (by decide) hl)
  clear hl
  go_enter Tryd.func35, Tryd.ntmps35
  go_wp2_with fail
  go_at_call 49
  refine HT.out.mono ?_
  rintro e w1 ⟨rfl, hg⟩
  go_wp2_with fail
  go_ret
  exact ⟨ret_str rfl, hg⟩
set_option maxRecDepth 100000 in
set_option maxHeartbeats 1000000 in
theorem dtext_any (x : Int × Int) (r : ByteArray) (hr : textD x = r) (w : World) (h1 : -9223372036854775808 ≤ x.1) (h2 : x.1 ≤ 9223372036854775807) (h3 : -9223372036854775808 ≤ x.2) (h4 : x.2 ≤ 9223372036854775807) (hl : LaidW w) :
    Calls Tryd.prog 22 #[.agg #[.int .i64 x.1, .int .i64 x.2]] w fun e w' => e = .returned (.string r) ∧ Kept w w' := by
  subst hr
  obtain ⟨x1, x2⟩ := x
  simp only at h1 h2 h3 h4
  have z1 := itoaS_size x1 h1 h2
  have z2 := itoaS_size x2 h3 h4
  have HA := Lib.hid (fun w hl => dnum_any x1 w h1 h2 hl)
  have HB := Lib.hid (fun w hl => dnum_any x2 w h3 h4 hl)
  have HL := Lib.hid (hl.kept ((Kept.refl w).alloc #[.int .i64 x1, .int .i64 x2] 24))
  have HR := Lib.hid (show itoaS x1 ++ ⟨#[46]⟩ ++ itoaS x2 = textD (x1, x2) from rfl)
  have c0 := KExt.cell (Kept.box0 (Kept.refl (w.alloc (.cells #[.int .i64 x1, .int .i64 x2] 24))))
  have c1 := KExt.cell (Kept.box1 (Kept.refl (w.alloc (.cells #[.int .i64 x1, .int .i64 x2] 24))))
  have p1 : ((⟨#[46]⟩ : ByteArray)).size = 1 := rfl
  clear hl
  go_enter Tryd.func22, Tryd.ntmps22
  go_wp2_with fail
  refine region_kept _ (by kernel_rfl) (by kernel_rfl) (Kept.refl _) ?_
  repeat (go_big_quiet_step ((first
    | (go_at_call 35; (with_reducible exact KExt.callsK (HA.out _ (HL.out.kept (KExt.g _)))))
    | (go_at_call 35; (with_reducible exact KExt.callsK (HB.out _ (HL.out.kept (KExt.g _)))))
    | fail)))
  refine wpQuiet_nil ?_
  intro g
  go_wp2_with fail
  go_ret
  exact ⟨ret_str HR.out, ((Kept.refl w).alloc _ _).trans g.g⟩
set_option maxRecDepth 100000 in
set_option maxHeartbeats 1000000 in
theorem rtext_any (x : Int × Int) (r : ByteArray) (hr : textD x = r) (w : World) (h1 : -9223372036854775808 ≤ x.1) (h2 : x.1 ≤ 9223372036854775807) (h3 : -9223372036854775808 ≤ x.2) (h4 : x.2 ≤ 9223372036854775807) :
    Calls Tryd.prog 23 #[.agg #[.int .i64 x.1, .int .i64 x.2]] w fun e w' => e = .returned (.string r) ∧ Kept w w' := by
  subst hr
  obtain ⟨x1, x2⟩ := x
  simp only at h1 h2 h3 h4
  have z1 := itoaS_size x1 h1 h2
  have z2 := itoaS_size x2 h3 h4
  have HA := Lib.hid (fun w => rtextV_any 1 x1 ⟨#[]⟩ w h1 h2 (by decide))
  have HB := Lib.hid (fun w => rtextV_any 1 x2 ⟨#[]⟩ w h3 h4 (by decide))
  have HR := Lib.hid (show itoaS x1 ++ ⟨#[46]⟩ ++ itoaS x2 = textD (x1, x2) from rfl)
  have t1 : textV 1 x1 ⟨#[]⟩ = itoaS x1 := rfl
  have t2 : textV 1 x2 ⟨#[]⟩ = itoaS x2 := rfl
  have c0 := KExt.cell (Kept.box0 (Kept.refl (w.alloc (.cells #[.int .i64 x1, .int .i64 x2] 24))))
  have c1 := KExt.cell (Kept.box1 (Kept.refl (w.alloc (.cells #[.int .i64 x1, .int .i64 x2] 24))))
  have p1 : ((⟨#[46]⟩ : ByteArray)).size = 1 := rfl
  go_enter Tryd.func23, Tryd.ntmps23
  go_wp2_with fail
  refine region_kept _ (by kernel_rfl) (by kernel_rfl) (Kept.refl _) ?_
  repeat (go_big_quiet_step ((first
    | (go_at_call 36; (with_reducible exact KExt.calls (HA.out _)))
    | (go_at_call 36; (with_reducible exact KExt.calls (HB.out _)))
    | fail)))
  refine wpQuiet_nil ?_
  intro g
  go_wp2_with fail
  go_ret
  exact ⟨ret_str HR.out, ((Kept.refl w).alloc _ _).trans g.g⟩
end Go.Proofs.YtnfchfldpdnjoaaDoor
