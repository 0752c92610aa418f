/-
  What is proved: the Go function ValSays of layer 3's laws, called with any two values and any text where the laid tables read as their initialisers lay them, returns true; the world has new blocks at most.
-/
import Derived.Test.YtooaiicbnfmnpaaDoorRVTake
import Derived.Test.YtooaiicbnfmnpaaDoorRVCmp
import Derived.Test.YtooaiicbnfmnpaaDoorNum
import Derived.Test.YtooaiicbnfmnpaaDoorVAwake
namespace Go.Proofs.YtooaiicbnfmnpaaDoor
open Go.RowKit

section
variable (k1 n1 : Int) (t1 : ByteArray) (k2 n2 : Int) (t2 : ByteArray) (s : ByteArray) (w : World)

theorem vsays_long (z : s.size ≤ 140737488351232) (hl : LaidW w) (hbig : 600 < s.size) :
    Calls Tryd.prog 3 #[.agg #[.int .i64 k1, .int .i64 n1, .string t1], .agg #[.int .i64 k2, .int .i64 n2, .string t2], .string s] w fun e w' => e = .returned (.bool true) ∧ Kept w w' := by
  have hK := (kept_alloc w #[.int .i64 k1, .int .i64 n1, .string t1] 23).trans (kept_alloc _ #[.int .i64 k2, .int .i64 n2, .string t2] 23)
  have hL3 := hl.kept hK
  have d1 : decide (600 < s.size) = true := by simpa using hbig
  have d2 : decide ((600 : Int) < (s.size : Int)) = true := by simp; omega
  go_enter Tryd.func3, Tryd.ntmps3
  go_wp2_with (go_at_call 5; ((with_reducible refine (vawake_any _ hL3).mono ?_); rintro e w2 ⟨rfl, hg⟩))
  go_ret
  exact ⟨rfl, hK.trans (by assumption)⟩

theorem vsays_big (s1 : t1.size ≤ 140737488351232) (s2 : t2.size ≤ 140737488351232) (hl : LaidW w) (hs : s.size ≤ 600) (hbig : 900 < t1.size + t2.size) :
    Calls Tryd.prog 3 #[.agg #[.int .i64 k1, .int .i64 n1, .string t1], .agg #[.int .i64 k2, .int .i64 n2, .string t2], .string s] w fun e w' => e = .returned (.bool true) ∧ Kept w w' := by
  have hK := (kept_alloc w #[.int .i64 k1, .int .i64 n1, .string t1] 23).trans (kept_alloc _ #[.int .i64 k2, .int .i64 n2, .string t2] 23)
  have hL3 := hl.kept hK
  have d1 : decide (600 < s.size) = false := by simp; omega
  have d2 : decide ((600 : Int) < (s.size : Int)) = false := by simp; omega
  have d3 : decide (900 < t1.size + t2.size) = true := by simpa using hbig
  have d4 : decide ((900 : Int) < (t1.size : Int) + (t2.size : Int)) = true := by simp; omega
  go_enter Tryd.func3, Tryd.ntmps3
  go_wp2_with (go_at_call 5; ((with_reducible refine (vawake_any _ hL3).mono ?_); rintro e w2 ⟨rfl, hg⟩))
  go_ret
  exact ⟨rfl, hK.trans (by assumption)⟩

set_option maxRecDepth 100000 in
set_option maxHeartbeats 8000000 in
theorem vsays_small (h1 : -9223372036854775808 ≤ n1) (h2 : n1 ≤ 9223372036854775807) (ht9 : t1.size ≤ 900) (hu9 : t2.size ≤ 900) (hl : LaidW w) (hs6 : s.size ≤ 600) (hbig : t1.size + t2.size ≤ 900) :
    Calls Tryd.prog 3 #[.agg #[.int .i64 k1, .int .i64 n1, .string t1], .agg #[.int .i64 k2, .int .i64 n2, .string t2], .string s] w fun e w' => e = .returned (.bool true) ∧ Kept w w' := by
  have hW : Kept w ((w.alloc (.cells #[.int .i64 k1, .int .i64 n1, .string t1] 23)).alloc (.cells #[.int .i64 k2, .int .i64 n2, .string t2] 23)) := (kept_alloc w #[.int .i64 k1, .int .i64 n1, .string t1] 23).trans (kept_alloc _ #[.int .i64 k2, .int .i64 n2, .string t2] 23)
  have hl0 := hl.kept hW
  have d1 : decide (600 < s.size) = false := by simp; omega
  have d2 : decide ((600 : Int) < (s.size : Int)) = false := by simp; omega
  have d3 : decide (900 < t1.size + t2.size) = false := by simp; omega
  have d4 : decide ((900 : Int) < (t1.size : Int) + (t2.size : Int)) = false := by simp; omega
  have hs9 : s.size ≤ 900 := by omega
  have HS9 := Lib.hid (show s.size ≤ 9223372036854775807 by omega)
  have HS1 := Lib.hid (show s.size ≤ 1000 by omega)
  have HT9 := Lib.hid (show t1.size ≤ 9223372036854775807 by omega)
  have HSB := Lib.hid (show s.size ≤ 1000000000000 by omega)
  have HTB := Lib.hid (show t1.size ≤ 1000000000000 by omega)
  have BOXA0 : BoxC ((w.alloc (.cells #[.int .i64 k1, .int .i64 n1, .string t1] 23)).alloc (.cells #[.int .i64 k2, .int .i64 n2, .string t2] 23)) w.heap.size (.int .i64 k1) (.int .i64 n1) (.string t1) := (BoxC.new w (.int .i64 k1) (.int .i64 n1) (.string t1) 23).kept (kept_alloc _ _ _)
  have BOXB0 : BoxC ((w.alloc (.cells #[.int .i64 k1, .int .i64 n1, .string t1] 23)).alloc (.cells #[.int .i64 k2, .int .i64 n2, .string t2] 23)) (w.heap.size + 1) (.int .i64 k2) (.int .i64 n2) (.string t2) := by
    have := BoxC.new (w.alloc (.cells #[.int .i64 k1, .int .i64 n1, .string t1] 23)) (.int .i64 k2) (.int .i64 n2) (.string t2) 23
    rwa [show (w.alloc (.cells #[.int .i64 k1, .int .i64 n1, .string t1] 23)).heap.size = w.heap.size + 1 by simp] at this
  have HW := Lib.hid hW
  clear hW hl
  go_enter Tryd.func3, Tryd.ntmps3
  go_wp2_with fail
  refine (vtake_any s _ HS9.out).mono ?_
  rintro e u1 ⟨rfl, hg⟩
  have hK := kept_of hg
  clear hg
  go_wp2_with fail
  refine (rvtake_any s _ HS1.out).mono ?_
  rintro e u2 ⟨rfl, hg⟩
  have V := (BoxC.new u1 (.int .i64 (tvK s)) (.int .i64 (tvI s)) (.string (tvT s)) 23).kept ((kept_of hg).trans (kept_alloc u2 #[.int .i64 (tvK s), .int .i64 (tvI s), .string (tvT s)] 23))
  have R := BoxC.new u2 (.int .i64 (tvK s)) (.int .i64 (tvI s)) (.string (tvT s)) 23
  replace hK := ((hK.trans (kept_alloc u1 #[.int .i64 (tvK s), .int .i64 (tvI s), .string (tvT s)] 23)).trans (kept_of hg)).trans (kept_alloc u2 #[.int .i64 (tvK s), .int .i64 (tvI s), .string (tvT s)] 23)
  clear hg
  have A := BOXA0.kept hK
  have B := BOXB0.kept hK
  have HL := Lib.hid (hl0.kept hK)
  have HK := Lib.hid (HW.out.trans hK)
  clear BOXA0 BOXB0 hl0 hK
  go_wp2_with fail
  have a0 := KExt.cell A.c0
  have a1 := KExt.cell A.c1
  have a2 := KExt.cell A.c2
  have b0 := KExt.cell B.c0
  have b1 := KExt.cell B.c1
  have b2 := KExt.cell B.c2
  have v0 := KExt.cell V.c0
  have v1 := KExt.cell V.c1
  have v2 := KExt.cell V.c2
  have r0 := KExt.cell R.c0
  have r1 := KExt.cell R.c1
  have r2 := KExt.cell R.c2
  clear A B V R
  (try dsimp only [List.append])
  refine region_kept _ (by kernel_rfl) (by kernel_rfl) (Kept.refl _) ?_
  repeat (go_big_quiet_step ((first
    | (go_at_call 8; (with_reducible exact KExt.calls (vright_any k1 n1 t1 _ HT9.out)))
    | (go_at_call 9; (with_reducible exact KExt.calls (rright_any k1 n1 t1 _ HT9.out)))
    | (go_at_call 10; (with_reducible exact KExt.calls (vcmp_any k1 n1 t1 k2 n2 t2 _)))
    | (go_at_call 11; (with_reducible exact KExt.calls (rcmp_any k1 n1 t1 k2 n2 t2 _)))
    | (go_at_call 12; (with_reducible exact KExt.calls (vput_any s k1 n1 t1 _ h1 h2 HSB.out HTB.out)))
    | (go_at_call 13; (with_reducible exact KExt.calls (rput_anyV s k1 n1 t1 _ h1 h2 hs9 ht9)))
    | (go_at_call 14; (with_reducible exact KExt.callsK (vtext_any k1 n1 t1 _ h1 h2 HTB.out (HL.out.kept (KExt.g _)))))
    | (go_at_call 15; (with_reducible exact KExt.calls (rtextV_any k1 n1 t1 _ h1 h2 HTB.out)))
    | (go_at_call 16; (with_reducible exact KExt.calls (vzero_any k1 _)))
    | (go_at_call 17; (with_reducible exact KExt.calls (rzero_any k1 _)))
    | (go_at_call 5; (with_reducible exact KExt.callsK (vawake_any _ (HL.out.kept (KExt.g _)))))
    | fail)))
  refine wpQuiet_nil ?_
  intro g
  go_wp2_with fail
  go_ret
  exact ⟨rfl, HK.out.trans g.g⟩
end
end Go.Proofs.YtooaiicbnfmnpaaDoor
