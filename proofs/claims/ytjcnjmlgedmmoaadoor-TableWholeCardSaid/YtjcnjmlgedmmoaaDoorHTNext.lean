/-
  What is proved: package table's next, at both types, number and value, called with what is taken so far, take the next part, or nothing behind an error; the world has new blocks at most, and what is left to take has changed.
-/
import Derived.Test.YtjcnjmlgedmmoaaDoorM20
namespace Go.Proofs.YtjcnjmlgedmmoaaDoor
open Go.RowKit
set_option linter.unusedVariables false

set_option maxRecDepth 100000 in
set_option maxHeartbeats 8000000 in
theorem tnextU_any (w : World) (b : Nat) (r : ByteArray) (z : Nat) (T : Sou w b r z) (v : Nat) (r' : ByteArray) (z' : Nat) (h : (z = 0 ∧ v = tkN r ∧ r' = tkR r ∧ z' = tkE r) ∨ (z ≠ 0 ∧ v = 0 ∧ r' = r ∧ z' = z)) (hs : r.size ≤ 100000) :
    Calls Tryd.prog 53 #[.pointer (some ⟨b, 0, none⟩), .func (.func 54) #[] #[]] w fun e w' => e = .returned (.int .u64 (v : Int)) ∧ Sou w' b r' z' ∧ KeptE b w w' := by
  rcases h with ⟨rfl, h1, h2, h3⟩ | ⟨hz, rfl, rfl, rfl⟩
  · have A1 := Lib.hid (fun w => take_c r v r' z' (by rw [h1]) h2.symm (by rw [h3]) (by omega) w)
    clear h1 h2 h3 hs
    have HT := Lib.hid T
    have c0 := T.c0
    have c1 := T.c1
    clear T
    go_enter Tryd.func53, Tryd.ntmps53
    go_wp2_with fail
    go_at_call 54
    refine (A1.out _).mono ?_
    rintro e w1 ⟨rfl, hg⟩
    replace hg := (kept_of hg)
    have T3 := HT.out.kept hg
    have KE := Lib.hid (KeptE.of (G := b) hg)
    clear c0 c1 hg
    have HT := Lib.hid T3
    have c0 := T3.c0
    have c1 := T3.c1
    have f0 := T3.f 0
    have f1 := T3.f 1
    clear T3
    go_wp2_with fail
    go_ret
    exact ⟨rfl, (HT.out.set0 r').set1 z', (KE.out.set (.inl rfl) _).set (.inl rfl) _⟩
  · have e0 : (((z' : Nat) : Int) == 0) = false := by simp; omega
    have HT := Lib.hid T
    have c1 := T.c1
    clear T hz hs
    go_enter Tryd.func53, Tryd.ntmps53
    go_wp2_with fail
    go_ret
    exact ⟨rfl, HT.out, KeptE.refl _ _⟩
theorem keptE_twoT {w w1 : World} {b : Nat} {c1 c2 : Array Value} {t1 t2 : TypeId} (h : Kept ((w.alloc (.cells c1 t1)).alloc (.cells c2 t2)) w1) : KeptE b w w1 :=
  .of ((((Kept.refl w).alloc c1 t1).alloc c2 t2).trans h)
set_option maxRecDepth 100000 in
set_option maxHeartbeats 8000000 in
theorem tnextV_any (w : World) (b : Nat) (r : ByteArray) (z : Nat) (T : Sou w b r z) (v : Va) (r' : ByteArray) (z' : Nat) (h : ValR r z v r' z') (hs : r.size ≤ 100000) :
    Calls Tryd.prog 55 #[.pointer (some ⟨b, 0, none⟩), .func (.func 56) #[] #[]] w fun e w' => e = .returned (.agg #[.int .i64 v.k, .int .i64 v.n, .string v.t]) ∧ Sou w' b r' z' ∧ KeptE b w w' := by
  have hb := T.lt
  have n1 : w.heap.size ≠ b := by omega
  have n3 : w.heap.size + 1 ≠ b := by omega
  have n4 : ¬ b = w.heap.size := by omega
  have n5 : ¬ b = w.heap.size + 1 := by omega
  have K2 := ((Kept.refl w).alloc #[.int .i64 0, .int .i64 0, .string ⟨#[]⟩] 24).alloc #[.int .i64 0, .int .i64 0, .string ⟨#[]⟩] 24
  have T2 := T.kept K2
  have HT := Lib.hid T2
  have HK2 := Lib.hid (KeptE.of (G := b) K2)
  have c0 := T2.c0
  have c1 := T2.c1
  clear T T2 K2 hb
  rcases h with ⟨rfl, h1, h2, h3⟩ | ⟨hz, rfl, rfl, rfl⟩
  · have A1 := Lib.hid (fun w => vtake_c r v.k v.n v.t r' z' (by rw [h1]; rfl) (by rw [h1]; rfl) (by rw [h1]; rfl) h2.symm (by rw [h3]) (by omega) w)
    clear h1 h2 h3 hs
    go_enter Tryd.func55, Tryd.ntmps55
    go_wp2_with fail
    go_at_call 56
    refine (A1.out _).mono ?_
    rintro e w1 ⟨rfl, hg⟩
    replace hg := (kept_of hg)
    have T3 := HT.out.kept hg
    have KE := Lib.hid (keptE_twoT (b := b) hg)
    have B1 := (VaO.new w .zero 24).kept (((Kept.refl _).alloc #[.int .i64 0, .int .i64 0, .string ⟨#[]⟩] 24).trans hg)
    have B2 := (VaO.new (w.alloc (.cells #[.int .i64 0, .int .i64 0, .string ⟨#[]⟩] 24)) .zero 24).kept hg
    rw [show (w.alloc (.cells #[.int .i64 0, .int .i64 0, .string ⟨#[]⟩] 24)).heap.size = w.heap.size + 1 by simp] at B2
    simp only [Va.zero] at B1 B2
    clear c0 c1 hg
    have HT := Lib.hid T3
    have c0 := T3.c0
    have c1 := T3.c1
    have f0 := T3.f 0
    have f1 := T3.f 1
    have p0 := B1.c0; have p1 := B1.c1; have p2 := B1.c2; have pf0 := B1.f 0; have pf1 := B1.f 1; have pf2 := B1.f 2
    have q0 := B2.c0; have q1 := B2.c1; have q2 := B2.c2; have qf0 := B2.f 0; have qf1 := B2.f 1; have qf2 := B2.f 2
    clear T3 B1 B2
    go_wp2_with fail
    refine bodyPost_ret (by simp [results, Tryd.results55, go_sem, *]) rfl ⟨rfl, ?_, ?_⟩
    · exact ((((((((HT.out.far n3 _).far n3 _).far n3 _).set0 r').set1 z').far n1 _).far n1 _).far n1 _)
    · exact ((((((((KE.out.set (.inr (Nat.le_succ _)) _).set (.inr (Nat.le_succ _)) _).set (.inr (Nat.le_succ _)) _).set (.inl rfl) _).set (.inl rfl) _).set (.inr (Nat.le_refl _)) _).set (.inr (Nat.le_refl _)) _).set (.inr (Nat.le_refl _)) _)
  · have e0 : (((z' : Nat) : Int) == 0) = false := by simp; omega
    clear hz hs
    go_enter Tryd.func55, Tryd.ntmps55
    go_wp2_with fail
    refine bodyPost_ret (by simp [results, Tryd.results55, go_sem, Va.zero, *]) rfl ⟨rfl, ?_, ?_⟩
    · exact HT.out
    · exact HK2.out
set_option maxRecDepth 100000 in
set_option maxHeartbeats 8000000 in
theorem tnum_any (w : World) (b : Nat) (most above : Nat) (r : ByteArray) (z : Nat) (T : Sou w b r z) (v : Nat) (r' : ByteArray) (z' : Nat) (h : NumR most above r z v r' z') (hs : r.size ≤ 100000) :
    Calls Tryd.prog 27 #[.pointer (some ⟨b, 0, none⟩), .int .u64 (most : Int), .int .i64 (above : Int)] w fun e w' => e = .returned (.int .u64 (v : Int)) ∧ Sou w' b r' z' ∧ KeptE b w w' := by
  rcases h with ⟨rfl, h1, rfl, h2, h3⟩ | ⟨rfl, h1, h2, h3, h4⟩ | ⟨hz, rfl, rfl, rfl⟩
  · have A1 := Lib.hid (tnextU_any w b r 0 T (tkN r) r' (tkE r) (.inl ⟨rfl, rfl, h2, rfl⟩) hs)
    obtain ⟨u, hu⟩ : ∃ u, tkN r = u := ⟨_, rfl⟩
    rw [hu] at h1 A1
    have d1 : decide ((most : Int) < (u : Int)) = true := decide_eq_true (by omega)
    have d2 : decide ((u : Int) > (most : Int)) = true := decide_eq_true (by omega)
    have d3 : decide (most < u) = true := decide_eq_true (by omega)
    have H3 := Lib.hid h3
    clear h1 h2 h3 hs hu T
    go_enter Tryd.func27, Tryd.ntmps27
    go_wp2_with fail
    go_at_call 53
    refine A1.out.mono ?_
    rintro e w1 ⟨rfl, ht, hk⟩
    have HT := Lib.hid ht; have HK := Lib.hid hk
    have c1 := ht.c1; have f1 := ht.f 1
    clear ht hk
    go_wp2_with fail
    go_ret
    exact ⟨rfl, by rw [H3.out]; exact HT.out.set1 above, HK.out.set (.inl rfl) _⟩
  · have A1 := Lib.hid (tnextU_any w b r 0 T v r' z' (.inl ⟨rfl, h2, h3, h4⟩) hs)
    have d1 : decide ((most : Int) < (v : Int)) = false := decide_eq_false (by omega)
    have d2 : decide ((v : Int) > (most : Int)) = false := decide_eq_false (by omega)
    have d3 : decide (most < v) = false := decide_eq_false (by omega)
    clear h1 h2 h3 h4 hs T
    go_enter Tryd.func27, Tryd.ntmps27
    go_wp2_with fail
    go_at_call 53
    refine A1.out.mono ?_
    rintro e w1 ⟨rfl, ht, hk⟩
    have HT := Lib.hid ht; have HK := Lib.hid hk
    clear ht hk
    go_wp2_with fail
    go_ret
    exact ⟨rfl, HT.out, HK.out⟩
  · have A1 := Lib.hid (tnextU_any w b r' z' T 0 r' z' (.inr ⟨hz, rfl, rfl, rfl⟩) hs)
    have d1 : decide ((most : Int) < ((0 : Nat) : Int)) = false := decide_eq_false (by omega)
    have d2 : decide (((0 : Nat) : Int) > (most : Int)) = false := decide_eq_false (by omega)
    have d3 : decide ((most : Int) < 0) = false := decide_eq_false (by omega)
    clear hz hs T
    go_enter Tryd.func27, Tryd.ntmps27
    go_wp2_with fail
    go_at_call 53
    refine A1.out.mono ?_
    rintro e w1 ⟨rfl, ht, hk⟩
    have HT := Lib.hid ht; have HK := Lib.hid hk
    clear ht hk
    go_wp2_with fail
    go_ret
    exact ⟨rfl, HT.out, HK.out⟩
set_option maxRecDepth 100000 in
set_option maxHeartbeats 8000000 in
theorem tvalue_any (w : World) (b : Nat) (r : ByteArray) (z : Nat) (T : Sou w b r z) (v : Va) (r' : ByteArray) (z' : Nat) (h : ValR r z v r' z') (hs : r.size ≤ 100000) :
    Calls Tryd.prog 28 #[.pointer (some ⟨b, 0, none⟩)] w fun e w' => e = .returned (.agg #[.int .i64 v.k, .int .i64 v.n, .string v.t]) ∧ Sou w' b r' z' ∧ KeptE b w w' := by
  have hb := T.lt
  have n1 : w.heap.size ≠ b := by omega
  have hka := (Kept.refl w).alloc #[.int .i64 0, .int .i64 0, .string ⟨#[]⟩] 24
  have A1 := Lib.hid (tnextV_any (w.alloc (.cells #[.int .i64 0, .int .i64 0, .string ⟨#[]⟩] 24)) b r z (T.kept hka) v r' z' h hs)
  have HR := Lib.hid (VaO.new w .zero 24)
  have HKA := Lib.hid hka
  clear T h hs hb hka
  go_enter Tryd.func28, Tryd.ntmps28
  go_wp2_with fail
  go_at_call 55
  refine A1.out.mono ?_
  rintro e w1 ⟨rfl, ht, hk⟩
  have HT := Lib.hid ht
  have hr := HR.out
  have p0 := hk.cell n1 hr.c0; have p1 := hk.cell n1 hr.c1; have p2 := hk.cell n1 hr.c2
  have pf0 := hk.froz n1 hr.lt (hr.f 0); have pf1 := hk.froz n1 hr.lt (hr.f 1); have pf2 := hk.froz n1 hr.lt (hr.f 2)
  have HK := Lib.hid (show KeptE b w w1 from ⟨hk.os.trans HKA.out.1.1, hk.output.trans HKA.out.1.2.1, Nat.le_trans HKA.out.2.2 hk.size, fun i hi hne => (hk.blk i (Nat.lt_of_lt_of_le hi HKA.out.2.2) hne).trans (HKA.out.blk hi)⟩)
  clear ht hk hr
  go_wp2_with fail
  refine bodyPost_ret (by simp [results, Tryd.results28, go_sem, *]) rfl ⟨rfl, ?_, ?_⟩
  · exact (((HT.out.far n1 _).far n1 _).far n1 _)
  · exact (((HK.out.set (.inr (Nat.le_refl _)) _).set (.inr (Nat.le_refl _)) _).set (.inr (Nat.le_refl _)) _)
end Go.Proofs.YtjcnjmlgedmmoaaDoor
