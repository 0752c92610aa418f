/-
  What is proved: Right and Put of package dot and of the document's layer 5, called with any dot, return what P5.1 and P5.3 say; the world has new blocks at most.
-/
import Derived.Test.YtoanccojpppfoaaDoorDCmp
import Derived.Test.YtoanccojpppfoaaDoorRefB
import Derived.Test.YtoanccojpppfoaaDoorVal2
namespace Go.Proofs.YtoanccojpppfoaaDoor
open Go.RowKit

/-- P5.1. -/
def rightD (x : Int × Int) : Bool := decide (0 ≤ x.1 ∧ x.1 < 64 ∧ 1 ≤ x.2 ∧ x.2 ≤ 1073741824)
theorem rightD_bd {d : Int × Int} (h : rightD d = true) : 0 ≤ d.1 ∧ d.1 < 64 ∧ 1 ≤ d.2 ∧ d.2 ≤ 1073741824 := by
  unfold rightD at h; exact of_decide_eq_true h
/-- P5.3. -/
def putD (b : ByteArray) (x : Int × Int) : ByteArray := b ++ putS (zigI x.1).toNat ++ putS (zigI x.2).toNat

set_option maxRecDepth 100000 in
theorem dright_any (x1 x2 : Int) (w : World) :
    Calls Tryd.prog 29 #[.agg #[.int .i64 x1, .int .i64 x2]] w fun e w' => e = .returned (.bool (rightD (x1, x2))) ∧ Kept w w' := by
  by_cases a1 : 0 ≤ x1
  · by_cases a2 : x1 < 64
    · by_cases a3 : 1 ≤ x2
      · by_cases a4 : x2 ≤ 1073741824
        · have HR := Lib.hid (show true = rightD (x1, x2) by unfold rightD; simp [a1, a2, a3, a4])
          go_enter Tryd.func29, Tryd.ntmps29
          go_wp2
          go_ret
          exact ⟨ret_bool HR.out, (Kept.refl _).alloc _ _⟩
        · have HR := Lib.hid (show false = rightD (x1, x2) by unfold rightD; simp [a4])
          have e4 : decide (x2 ≤ 1073741824) = false := by simpa using a4
          go_enter Tryd.func29, Tryd.ntmps29
          go_wp2
          go_ret
          exact ⟨ret_bool HR.out, (Kept.refl _).alloc _ _⟩
      · have HR := Lib.hid (show false = rightD (x1, x2) by unfold rightD; simp [a3])
        have e3 : decide (1 ≤ x2) = false := by simpa using a3
        go_enter Tryd.func29, Tryd.ntmps29
        go_wp2
        go_ret
        exact ⟨ret_bool HR.out, (Kept.refl _).alloc _ _⟩
    · have HR := Lib.hid (show false = rightD (x1, x2) by unfold rightD; simp [a2])
      have e2 : decide (x1 < 64) = false := by simpa using a2
      go_enter Tryd.func29, Tryd.ntmps29
      go_wp2
      go_ret
      exact ⟨ret_bool HR.out, (Kept.refl _).alloc _ _⟩
  · have HR := Lib.hid (show false = rightD (x1, x2) by unfold rightD; simp [a1])
    have e1 : decide (0 ≤ x1) = false := by simpa using a1
    go_enter Tryd.func29, Tryd.ntmps29
    go_wp2
    go_ret
    exact ⟨ret_bool HR.out, (Kept.refl _).alloc _ _⟩
theorem dright_c (x : Int × Int) (r : Bool) (h : rightD x = r) (w : World) :
    Calls Tryd.prog 29 #[.agg #[.int .i64 x.1, .int .i64 x.2]] w fun e w' => e = .returned (.bool r) ∧ Kept w w' := by
  subst h; exact dright_any x.1 x.2 w

set_option maxRecDepth 100000 in
theorem rrightD_any (x1 x2 : Int) (w : World) :
    Calls Tryd.prog 34 #[.agg #[.int .i64 x1, .int .i64 x2]] w fun e w' => e = .returned (.bool (rightD (x1, x2))) ∧ Kept w w' := by
  by_cases a1 : 0 ≤ x1
  · by_cases a2 : x1 < 64
    · by_cases a3 : 1 ≤ x2
      · by_cases a4 : x2 ≤ 1073741824
        · have HR := Lib.hid (show true = rightD (x1, x2) by unfold rightD; simp [a1, a2, a3, a4])
          go_enter Tryd.func34, Tryd.ntmps34
          go_wp2
          go_ret
          exact ⟨ret_bool HR.out, (Kept.refl _).alloc _ _⟩
        · have HR := Lib.hid (show false = rightD (x1, x2) by unfold rightD; simp [a4])
          have e4 : decide (x2 ≤ 1073741824) = false := by simpa using a4
          go_enter Tryd.func34, Tryd.ntmps34
          go_wp2
          go_ret
          exact ⟨ret_bool HR.out, (Kept.refl _).alloc _ _⟩
      · have HR := Lib.hid (show false = rightD (x1, x2) by unfold rightD; simp [a3])
        have e3 : decide (1 ≤ x2) = false := by simpa using a3
        go_enter Tryd.func34, Tryd.ntmps34
        go_wp2
        go_ret
        exact ⟨ret_bool HR.out, (Kept.refl _).alloc _ _⟩
    · have HR := Lib.hid (show false = rightD (x1, x2) by unfold rightD; simp [a2])
      have e2 : decide (x1 < 64) = false := by simpa using a2
      go_enter Tryd.func34, Tryd.ntmps34
      go_wp2
      go_ret
      exact ⟨ret_bool HR.out, (Kept.refl _).alloc _ _⟩
  · have HR := Lib.hid (show false = rightD (x1, x2) by unfold rightD; simp [a1])
    have e1 : decide (0 ≤ x1) = false := by simpa using a1
    go_enter Tryd.func34, Tryd.ntmps34
    go_wp2
    go_ret
    exact ⟨ret_bool HR.out, (Kept.refl _).alloc _ _⟩
theorem rrightD_c (x : Int × Int) (r : Bool) (h : rightD x = r) (w : World) :
    Calls Tryd.prog 34 #[.agg #[.int .i64 x.1, .int .i64 x.2]] w fun e w' => e = .returned (.bool r) ∧ Kept w w' := by
  subst h; exact rrightD_any x.1 x.2 w

theorem dputD_any (b : ByteArray) (x : Int × Int) (r : ByteArray) (hr : putD b x = r) (w : World) (h1 : -9223372036854775808 ≤ x.1) (h2 : x.1 ≤ 9223372036854775807) (h3 : -9223372036854775808 ≤ x.2) (h4 : x.2 ≤ 9223372036854775807) (hb : b.size ≤ 90000) :
    Calls Tryd.prog 40 #[.string b, .agg #[.int .i64 x.1, .int .i64 x.2]] w fun e w' => e = .returned (.string r) ∧ Kept w w' := by
  subst hr
  obtain ⟨x1, x2⟩ := x
  have hz : (b ++ putS (zigI x1).toNat).size ≤ 91000 := by
    have := putS_size (zigI x1).toNat
    rw [ByteArray.size_append]
    omega
  have A1 := Lib.hid (fun w => int_any b x1 w h1 h2 (by omega))
  have A2 := Lib.hid (fun w => int_any (b ++ putS (zigI x1).toNat) x2 w h3 h4 (by omega))
  have HR := Lib.hid (show b ++ putS (zigI x1).toNat ++ putS (zigI x2).toNat = putD b (x1, x2) from rfl)
  have c0 := KExt.cell (Kept.box0 (Kept.refl (w.alloc (.cells #[.int .i64 x1, .int .i64 x2] 23))))
  have c1 := KExt.cell (Kept.box1 (Kept.refl (w.alloc (.cells #[.int .i64 x1, .int .i64 x2] 23))))
  clear hz
  go_enter Tryd.func40, Tryd.ntmps40
  go_wp2_with fail
  refine region_kept _ (by kernel_rfl) (by kernel_rfl) (Kept.refl _) ?_
  repeat (go_big_quiet_step ((first
    | (go_at_call 60; (with_reducible exact KExt.calls (A1.out _)))
    | (go_at_call 60; (with_reducible exact KExt.calls (A2.out _)))
    | fail)))
  refine wpQuiet_nil ?_
  intro g
  go_wp2_with fail
  go_ret
  exact ⟨ret_str HR.out, ((Kept.refl w).alloc _ _).trans g.g⟩

theorem rputD_any (b : ByteArray) (x : Int × Int) (r : ByteArray) (hr : putD b x = r) (w : World) (h1 : -9223372036854775808 ≤ x.1) (h2 : x.1 ≤ 9223372036854775807) (h3 : -9223372036854775808 ≤ x.2) (h4 : x.2 ≤ 9223372036854775807) (hb : b.size ≤ 90000) :
    Calls Tryd.prog 44 #[.string b, .agg #[.int .i64 x.1, .int .i64 x.2]] w fun e w' => e = .returned (.string r) ∧ Kept w w' := by
  subst hr
  obtain ⟨x1, x2⟩ := x
  have hz : (b ++ putS (zigI x1).toNat).size ≤ 91000 := by
    have := putS_size (zigI x1).toNat
    rw [ByteArray.size_append]
    omega
  have A1 := Lib.hid (fun w => rint_any b x1 w h1 h2 (by omega))
  have A2 := Lib.hid (fun w => rint_any (b ++ putS (zigI x1).toNat) x2 w h3 h4 (by omega))
  have HR := Lib.hid (show b ++ putS (zigI x1).toNat ++ putS (zigI x2).toNat = putD b (x1, x2) from rfl)
  have c0 := KExt.cell (Kept.box0 (Kept.refl (w.alloc (.cells #[.int .i64 x1, .int .i64 x2] 23))))
  have c1 := KExt.cell (Kept.box1 (Kept.refl (w.alloc (.cells #[.int .i64 x1, .int .i64 x2] 23))))
  clear hz
  go_enter Tryd.func44, Tryd.ntmps44
  go_wp2_with fail
  refine region_kept _ (by kernel_rfl) (by kernel_rfl) (Kept.refl _) ?_
  repeat (go_big_quiet_step ((first
    | (go_at_call 61; (with_reducible exact KExt.calls (A1.out _)))
    | (go_at_call 61; (with_reducible exact KExt.calls (A2.out _)))
    | fail)))
  refine wpQuiet_nil ?_
  intro g
  go_wp2_with fail
  go_ret
  exact ⟨ret_str HR.out, ((Kept.refl w).alloc _ _).trans g.g⟩
end Go.Proofs.YtoanccojpppfoaaDoor
