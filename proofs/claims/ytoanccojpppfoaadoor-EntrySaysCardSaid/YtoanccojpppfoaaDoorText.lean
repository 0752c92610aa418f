/-
  What is proved: Text of package val and of the document's layer 3, called with any value where the laid tables read as their initialisers lay them, return what P3.5 says; the world has new blocks at most.
-/
import Derived.Test.YtoanccojpppfoaaDoorVal3
import Derived.Test.YtoanccojpppfoaaDoorShelf
import Derived.Test.YtoanccojpppfoaaDoorM1
import Derived.Lib.ItoaLen
namespace Go.Proofs.YtoanccojpppfoaaDoor
open Go.RowKit

def noS : ByteArray := ⟨#[110, 111]⟩
def yesS : ByteArray := ⟨#[121, 101, 115]⟩
/-- What the listed variables hold: the table of powers of ten, and the two truths. -/
structure LaidW (w : World) : Prop where
  tab : Lib.TabIs Tryd.prog w "internal/strconv.uint64pow10" .u64 Lib.pow10Tab
  no : w.cell? ⟨1, 0, none⟩ = some (.string noS)
  yes : w.cell? ⟨1, 1, none⟩ = some (.string yesS)

theorem LaidW.kept {w w' : World} (h : LaidW w) (hg : Kept w w') : LaidW w' :=
  ⟨Kept.var h.tab hg, hg.cell h.no, hg.cell h.yes⟩
theorem LaidW.grown {w w' : World} (h : LaidW w) (hg : Grown w w') : LaidW w' := h.kept (kept_of hg)

/-- P3.5. -/
def itoaS (n : Int) : ByteArray := ⟨(Lib.itoa n).toArray⟩
def textV (k n : Int) (t : ByteArray) : ByteArray :=
  if k = 1 then itoaS n else if k = 2 then ⟨#[39]⟩ ++ t else if k = 3 then (if n % 2 = 0 then noS else yesS) else ⟨#[45]⟩

theorem itoa_any (n : Int) (w : World) (h0 : -9223372036854775808 ≤ n) (h1 : n ≤ 9223372036854775807) (hl : LaidW w) :
    Calls Tryd.prog 63 #[.int .i64 n] w fun e w' => e = .returned (.string (itoaS n)) ∧ Kept w w' :=
  (Tryd.strconv_Itoa n h0 h1 w hl.tab).mono fun _ _ ⟨he, k, os, hw⟩ => ⟨he, by rw [hw]; exact kept_grow w k os⟩

theorem vtext_any (k n : Int) (t : ByteArray) (w : World) (h0 : -9223372036854775808 ≤ n) (h1 : n ≤ 9223372036854775807) (ht : t.size ≤ 1000000000000) (hl : LaidW w) :
    Calls Tryd.prog 48 #[.agg #[.int .i64 k, .int .i64 n, .string t]] w fun e w' => e = .returned (.string (textV k n t)) ∧ Kept w w' := by
  by_cases k1 : k = 1
  · subst k1
    have HR := Lib.hid (show itoaS n = textV 1 n t from rfl)
    have hl' := hl.grown ((Grown.refl w).alloc #[.int .i64 1, .int .i64 n, .string t] 25)
    clear hl
    go_enter Tryd.func48, Tryd.ntmps48
    go_wp2_with (go_at_call 63; ((with_reducible refine (itoa_any n _ h0 h1 hl').mono ?_); rintro e w1 ⟨rfl, hg⟩))
    go_ret
    exact ⟨ret_str HR.out, (kept_of ((Grown.refl _).alloc _ _)).trans (by assumption)⟩
  by_cases k2 : k = 2
  · subst k2
    have HR := Lib.hid (show ⟨#[39]⟩ ++ t = textV 2 n t from rfl)
    clear hl
    go_enter Tryd.func48, Tryd.ntmps48
    go_wp2_with fail
    go_ret
    exact ⟨ret_str HR.out, kept_of ((Grown.refl _).alloc _ _)⟩
  by_cases k3 : k = 3
  · subst k3
    have hl' := hl.grown ((Grown.refl w).alloc #[.int .i64 3, .int .i64 n, .string t] 25)
    have e0 := hl'.no
    have e1 := hl'.yes
    have hand := i64_and1 n
    clear hl hl'
    by_cases hn : n % 2 = 0
    · rw [hn] at hand
      have HR := Lib.hid (show noS = textV 3 n t by unfold textV; simp [hn])
      clear hn
      go_enter Tryd.func48, Tryd.ntmps48
      go_wp2_with fail
      go_ret
      exact ⟨ret_str HR.out, kept_of ((Grown.refl _).alloc _ _)⟩
    · have HR := Lib.hid (show yesS = textV 3 n t by unfold textV; simp [hn])
      have hn1 : n % 2 = 1 := by omega
      rw [hn1] at hand
      clear hn hn1
      go_enter Tryd.func48, Tryd.ntmps48
      go_wp2_with fail
      go_ret
      exact ⟨ret_str HR.out, kept_of ((Grown.refl _).alloc _ _)⟩
  · have HR := Lib.hid (show ⟨#[45]⟩ = textV k n t by unfold textV; rw [if_neg k1, if_neg k2, if_neg k3])
    have d1 : (k == 1) = false := by simpa using k1
    have d2 : (k == 2) = false := by simpa using k2
    have d3 : (k == 3) = false := by simpa using k3
    clear hl
    go_enter Tryd.func48, Tryd.ntmps48
    go_wp2_with fail
    go_ret
    exact ⟨ret_str HR.out, kept_of ((Grown.refl _).alloc _ _)⟩
end Go.Proofs.YtoanccojpppfoaaDoor
