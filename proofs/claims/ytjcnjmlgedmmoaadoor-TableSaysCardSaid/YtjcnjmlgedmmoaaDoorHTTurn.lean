/-
  What is proved: slices.Clone at pairs, as the library's text has it, and package table's Turn of layer 13 (P13.3), called with any table, returns it turned, its pairs in memory of their own; the world has new blocks at most.
-/
import Derived.Test.YtjcnjmlgedmmoaaDoorM12
namespace Go.Proofs.YtjcnjmlgedmmoaaDoor
open Go.RowKit
set_option linter.unusedVariables false

set_option maxRecDepth 100000 in
set_option maxHeartbeats 8000000 in
theorem cloneP_any (A : Option Addr) (n c : Nat) (L : List Pa) (w : World) (h : Pal w A n c L) (hn : n ≤ 1000000) :
    Calls Tryd.prog 35 #[.slice A n c] w fun e w' => ∃ A' c', e = .returned (.slice A' n c') ∧ Pal w' A' n c' L ∧ (∀ ad, A' = some ad → w.heap.size ≤ ad.block) ∧ Kept w w' := by
  have q22 : ∀ (w : World) (a : Option Addr) (n c n' c' : Nat), (binOp .eql 22 (.slice a n c) (.slice none n' c')).run Tryd.prog w = .ok (.bool a.isNone) w := fun w a n c n' c' => Lib.run_eql_slice_nil w _ _ a n c n' c' Tryd.underlying22
  cases A with
  | none =>
    obtain rfl : n = 0 := by have := h.2.2.2.1 rfl; have := h.2.1; omega
    have hL : L = [] := List.eq_nil_of_length_eq_zero h.1.symm
    subst hL
    clear h
    go_enter Tryd.func35, Tryd.ntmps35
    go_wp2
    go_ret
    exact ⟨none, 0, rfl, Pal.nil _, (fun ad e => by cases e), Kept.refl _⟩
  | some ad =>
    obtain ⟨v1, w1, hr1, ho1, hg1, _⟩ := app_pas (w.alloc (.cells #[] 44)) w.heap.size (.slice (some ⟨w.heap.size, 0, none⟩) 0 0) 0 [] (World.ownsRow_made w #[] 0 (Nat.le_refl _) (Nat.zero_le _) (by simp)) (some ad) n c L (h.kept ((Kept.refl w).alloc _ _)) (by omega) (by simp)
    rw [Nat.zero_add, List.nil_append] at ho1
    obtain ⟨A2, c2, rfl, hp2, hb2⟩ := Pal.of_own' ho1
    have HK := Lib.hid (kept_grown ((Kept.refl w).alloc #[] 44) hg1 (fun k hk => by simp [Value.ownBlock] at hk; omega))
    have HR1 := Lib.hid hr1
    have HP2 := Lib.hid hp2
    have HB2 := Lib.hid hb2
    clear hr1 ho1 hg1 h hp2 hb2
    go_enter Tryd.func35, Tryd.ntmps35
    go_wp2_with (at_builtin; refine Lib.wpList_append_run _ rfl _ _ _ _ rfl _ _ rfl rfl _ _ HR1.out ?_)
    go_ret
    exact ⟨A2, c2, rfl, HP2.out, HB2.out, HK.out⟩
set_option maxRecDepth 100000 in
set_option maxHeartbeats 8000000 in
theorem htturn_any (A : Option Addr) (n c : Nat) (T : Tb) (w : World) (h : Pal w A n c T.L) (hz : SzT T)  :
    Calls Tryd.prog 16 #[.agg #[.slice A n c, .bool T.keep, .int .i64 T.d.k, .int .i64 T.d.n, .string T.d.t, .int .i64 T.b.k, .int .i64 T.b.n, .string T.b.t, .bool T.tu]] w (TurnS n T w) := by
  have hk := ((Kept.refl w).alloc #[.slice A n c, .bool T.keep, .int .i64 T.d.k, .int .i64 T.d.n, .string T.d.t, .int .i64 T.b.k, .int .i64 T.b.n, .string T.b.t, .bool T.tu] 26).alloc #[.slice none 0 0, .bool false, .int .i64 0, .int .i64 0, .string ⟨#[]⟩, .int .i64 0, .int .i64 0, .string ⟨#[]⟩, .bool false] 26
  have ht := (TabB.new w A n c T 26).kept ((Kept.refl _).alloc #[.slice none 0 0, .bool false, .int .i64 0, .int .i64 0, .string ⟨#[]⟩, .int .i64 0, .int .i64 0, .string ⟨#[]⟩, .bool false] 26)
  have hr := TabB.new (w.alloc (.cells #[.slice A n c, .bool T.keep, .int .i64 T.d.k, .int .i64 T.d.n, .string T.d.t, .int .i64 T.b.k, .int .i64 T.b.n, .string T.b.t, .bool T.tu] 26)) none 0 0 .none 26
  simp only [Tb.none, Va.zero] at hr
  rw [show (w.alloc (.cells #[.slice A n c, .bool T.keep, .int .i64 T.d.k, .int .i64 T.d.n, .string T.d.t, .int .i64 T.b.k, .int .i64 T.b.n, .string T.b.t, .bool T.tu] 26)).heap.size = w.heap.size + 1 by simp] at hr
  have hnn : n ≤ 1000000 := by have := hz.few; have := h.1; omega
  have hh := h.kept hk
  have hsz : ((w.alloc (.cells #[.slice A n c, .bool T.keep, .int .i64 T.d.k, .int .i64 T.d.n, .string T.d.t, .int .i64 T.b.k, .int .i64 T.b.n, .string T.b.t, .bool T.tu] 26)).alloc (.cells #[.slice none 0 0, .bool false, .int .i64 0, .int .i64 0, .string ⟨#[]⟩, .int .i64 0, .int .i64 0, .string ⟨#[]⟩, .bool false] 26)).heap.size = w.heap.size + 2 := by simp
  obtain ⟨U, hU⟩ : ∃ U, (w.alloc (.cells #[.slice A n c, .bool T.keep, .int .i64 T.d.k, .int .i64 T.d.n, .string T.d.t, .int .i64 T.b.k, .int .i64 T.b.n, .string T.b.t, .bool T.tu] 26)).alloc (.cells #[.slice none 0 0, .bool false, .int .i64 0, .int .i64 0, .string ⟨#[]⟩, .int .i64 0, .int .i64 0, .string ⟨#[]⟩, .bool false] 26) = U := ⟨_, rfl⟩
  rw [hU] at hk ht hr hh hsz
  have AC := Lib.hid (cloneP_any A n c T.L U hh hnn)
  have HK := Lib.hid hk; have HUU := Lib.hid hU; have HT := Lib.hid ht; have HR := Lib.hid hr
  have HSZ := Lib.hid hsz
  have t0 := HT.out.c0
  clear h hz hk ht hr hU hh hnn hsz
  go_enter Tryd.func16, Tryd.ntmps16
  go_wp2_with fail
  rw [HUU.out]
  go_wp2_with fail
  go_at_call 35
  refine AC.out.mono ?_
  rintro e w1 ⟨A1, c1, rfl, hp1, ha1, hk1⟩
  have HK1 := Lib.hid (HK.out.trans hk1)
  have HP1 := Lib.hid hp1; have HA1 := Lib.hid ha1
  have ht1 := HT.out.kept hk1; have hr1 := HR.out.kept hk1
  have hlow0 : w.heap.size < U.heap.size := by have := HSZ.out; omega
  have hlow1 : w.heap.size + 1 < U.heap.size := by have := HSZ.out; omega
  have t1 := ht1.c1; have t2 := ht1.c2; have t3 := ht1.c3; have t4 := ht1.c4; have t5 := ht1.c5; have t6 := ht1.c6; have t7 := ht1.c7; have t8 := ht1.c8; have tf := ht1.f
  clear t0
  have t0 := ht1.c0
  have r0 := hr1.c0; have r1 := hr1.c1; have r2 := hr1.c2; have r3 := hr1.c3; have r4 := hr1.c4; have r5 := hr1.c5; have r6 := hr1.c6; have r7 := hr1.c7; have r8 := hr1.c8; have rf := hr1.f
  have HL := Lib.hid (And.intro hlow0 hlow1)
  clear hp1 ha1 hk1 ht1 hr1 hlow0 hlow1
  go_wp2_with fail
  have hlow0 := HL.out.1; have hlow1 := HL.out.2
  refine bodyPost_ret (by simp [results, Tryd.results16, go_sem, *]) rfl ⟨A1, c1, rfl, ?_, ?_⟩
  · exact ((((((((((HP1.out.setLow HA1.out w.heap.size 0 hlow0 _).setLow HA1.out (w.heap.size) 8 hlow0 _).setLow HA1.out (w.heap.size + 1) 0 hlow1 _).setLow HA1.out (w.heap.size + 1) 1 hlow1 _).setLow HA1.out (w.heap.size + 1) 2 hlow1 _).setLow HA1.out (w.heap.size + 1) 3 hlow1 _).setLow HA1.out (w.heap.size + 1) 4 hlow1 _).setLow HA1.out (w.heap.size + 1) 5 hlow1 _).setLow HA1.out (w.heap.size + 1) 6 hlow1 _).setLow HA1.out (w.heap.size + 1) 7 hlow1 _).setLow HA1.out (w.heap.size + 1) 8 hlow1 _
  · exact ((((((((((HK1.out.setCell (a := ⟨w.heap.size, 0, none⟩) (Nat.le_refl _) _).setCell (a := ⟨w.heap.size, 8, none⟩) (Nat.le_refl _) _).setCell (a := ⟨w.heap.size + 1, 0, none⟩) (Nat.le_add_right _ 1) _).setCell (a := ⟨w.heap.size + 1, 1, none⟩) (Nat.le_add_right _ 1) _).setCell (a := ⟨w.heap.size + 1, 2, none⟩) (Nat.le_add_right _ 1) _).setCell (a := ⟨w.heap.size + 1, 3, none⟩) (Nat.le_add_right _ 1) _).setCell (a := ⟨w.heap.size + 1, 4, none⟩) (Nat.le_add_right _ 1) _).setCell (a := ⟨w.heap.size + 1, 5, none⟩) (Nat.le_add_right _ 1) _).setCell (a := ⟨w.heap.size + 1, 6, none⟩) (Nat.le_add_right _ 1) _).setCell (a := ⟨w.heap.size + 1, 7, none⟩) (Nat.le_add_right _ 1) _).setCell (a := ⟨w.heap.size + 1, 8, none⟩) (Nat.le_add_right _ 1) _
end Go.Proofs.YtjcnjmlgedmmoaaDoor
