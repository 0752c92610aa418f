/-
  What is proved: package source's Next, at numbers, whole numbers and texts, Number and Text, called with what is taken so far, take the next part, or nothing behind an error; the world has new blocks at most, and what is left to take has changed.
  package source's Next, at values, called with what is taken so far, takes the next part, or nothing behind an error; the world has new blocks at most, and what is left to take has changed.
  words for the taking of fields (P11.7): how long what is taken is; a schema's fields while they are taken, in a row that a block names.
  plain facts on the taking of a step (P14.6), part by part, by package source's Next or with early returns: both make the same; no program is walked here.
-/
import Derived.Test.YtofnpifooaijcaaGreatM10
import Derived.Test.YtofnpifooaijcaaGreatM1
import Derived.Test.YtofnpifooaijcaaGreatM3
import Derived.Test.YtofnpifooaijcaaGreatM6
import Derived.Test.YtofnpifooaijcaaGreatM4
import Derived.Test.YtofnpifooaijcaaGreatM13
import Derived.Test.YtofnpifooaijcaaGreatM14
import Derived.Test.YtofnpifooaijcaaGreatM16
namespace Go.Proofs.YtofnpifooaijcaaGreat
open Go.RowKit
set_option linter.unusedVariables false
theorem cell_besideS {w : World} {b i j : Nat} {v u : Value} (hij : i ≠ j) (h : w.cell? ⟨b, j, none⟩ = some u) : (w.setCell ⟨b, i, none⟩ v).cell? ⟨b, j, none⟩ = some u := by
  rw [World.cell?_setCell_other _ _ _ _ (fun e => hij (by cases e; rfl))]; exact h
theorem cell_offS {w : World} {b b' i j : Nat} {v u : Value} (hb : b ≠ b') (h : w.cell? ⟨b', j, none⟩ = some u) : (w.setCell ⟨b, i, none⟩ v).cell? ⟨b', j, none⟩ = some u := by
  rw [World.cell?_setCell_other _ _ _ _ (fun e => hb (by cases e; rfl))]; exact h
structure SouO (w : World) (b o : Nat) (r : ByteArray) (z : Nat) : Prop where
  c0 : w.cell? ⟨b, o, none⟩ = some (.string r)
  c1 : w.cell? ⟨b, o + 1, none⟩ = some (.int .i64 (z : Int))
  f : ∀ i, w.frozen? ⟨b, i, none⟩ = false
  lt : b < w.heap.size
theorem SouO.kept {w w' : World} {b o : Nat} {r : ByteArray} {z : Nat} (h : SouO w b o r z) (hg : Kept w w') : SouO w' b o r z :=
  ⟨hg.cell h.c0, hg.cell h.c1, fun i => (hg.2.1 ⟨b, i, none⟩ h.lt).trans (h.f i), Nat.lt_of_lt_of_le h.lt hg.2.2⟩
structure SouP (w w' : World) (b o : Nat) (r : ByteArray) (z : Nat) : Prop where
  s : SouO w' b o r z
  k : KeptE b w w'
  n : ∀ j v, j ≠ o → j ≠ o + 1 → w.cell? ⟨b, j, none⟩ = some v → w'.cell? ⟨b, j, none⟩ = some v
  lt : b < w.heap.size
theorem SouP.of {w w1 : World} {b o : Nat} {r : ByteArray} {z : Nat} (h : SouO w b o r z) (k : Kept w w1) : SouP w w1 b o r z := ⟨h.kept k, .of k, fun _ _ _ _ hc => k.cell hc, h.lt⟩
theorem SouP.set0 {w w1 : World} {b o : Nat} {r : ByteArray} {z : Nat} (h : SouP w w1 b o r z) (r' : ByteArray) : SouP w (w1.setCell ⟨b, o, none⟩ (.string r')) b o r' z :=
  ⟨⟨World.cell?_setCell_same _ _ _ h.s.c0, cell_besideS (by omega) h.s.c1, fun i => by rw [World.frozen?_setCell]; exact h.s.f i, by have := h.s.lt; simpa [World.setCell] using this⟩, h.k.set (.inl rfl) _, fun j v h1 h2 hc => cell_besideS (Ne.symm h1) (h.n j v h1 h2 hc), h.lt⟩
theorem SouP.set1 {w w1 : World} {b o : Nat} {r : ByteArray} {z : Nat} (h : SouP w w1 b o r z) (z' : Nat) : SouP w (w1.setCell ⟨b, o + 1, none⟩ (.int .i64 (z' : Int))) b o r z' :=
  ⟨⟨cell_besideS (by omega) h.s.c0, World.cell?_setCell_same _ _ _ h.s.c1, fun i => by rw [World.frozen?_setCell]; exact h.s.f i, by have := h.s.lt; simpa [World.setCell] using this⟩, h.k.set (.inl rfl) _, fun j v h1 h2 hc => cell_besideS (Ne.symm h2) (h.n j v h1 h2 hc), h.lt⟩
theorem SouP.far {w w1 : World} {b o g i : Nat} {r : ByteArray} {z : Nat} (h : SouP w w1 b o r z) (hg : w.heap.size ≤ g) (v : Value) : SouP w (w1.setCell ⟨g, i, none⟩ v) b o r z := by
  have hne : g ≠ b := by have := h.lt; omega
  exact ⟨⟨cell_offS hne h.s.c0, cell_offS hne h.s.c1, fun i => by rw [World.frozen?_setCell]; exact h.s.f i, by have := h.s.lt; simpa [World.setCell] using this⟩, h.k.set (.inr hg) _, fun j u h1 h2 hc => cell_offS hne (h.n j u h1 h2 hc), h.lt⟩
theorem SouP.first {w0 w w1 : World} {b o : Nat} {r : ByteArray} {z : Nat} (h : SouP w w1 b o r z) (k : Kept w0 w) (hb : b < w0.heap.size) : SouP w0 w1 b o r z :=
  ⟨h.s, ⟨h.k.os.trans k.1.1, h.k.output.trans k.1.2.1, Nat.le_trans k.2.2 h.k.size, fun i hi hg => (h.k.blk i (Nat.lt_of_lt_of_le hi k.2.2) hg).trans (k.blk hi)⟩, fun j v h1 h2 hc => h.n j v h1 h2 (k.cell hc), hb⟩
def NxR {T : Type} (zero : T) (f : ByteArray → T × ByteArray × Nat) (r : ByteArray) (z : Nat) (v : T) (r' : ByteArray) (z' : Nat) : Prop :=
  (z = 0 ∧ f r = (v, r', z')) ∨ (z ≠ 0 ∧ v = zero ∧ r' = r ∧ z' = z)
open Classical in
theorem nxR_ex {T : Type} (zero : T) (f : ByteArray → T × ByteArray × Nat) (r : ByteArray) (z : Nat) : ∃ v r' z', NxR zero f r z v r' z' := by
  by_cases hz : z = 0
  · exact ⟨_, _, _, .inl ⟨hz, rfl⟩⟩
  · exact ⟨_, _, _, .inr ⟨hz, rfl, rfl, rfl⟩⟩
def tkU (s : ByteArray) : Nat × ByteArray × Nat := (tkN s, tkR s, tkE s)
def tkI (s : ByteArray) : Int × ByteArray × Nat := (tiN s, tkR s, tkE s)
def NumO (most above : Nat) (r : ByteArray) (z : Nat) (v : Nat) (r' : ByteArray) (z' : Nat) : Prop :=
  (z = 0 ∧ most < tkN r ∧ v = 0 ∧ r' = ⟨#[]⟩ ∧ z' = above) ∨ (z = 0 ∧ tkN r ≤ most ∧ v = tkN r ∧ r' = tkR r ∧ z' = tkE r) ∨ (z ≠ 0 ∧ v = 0 ∧ r' = r ∧ z' = z)
theorem numO_ex (most above : Nat) (r : ByteArray) (z : Nat) : ∃ v r' z', NumO most above r z v r' z' := by
  by_cases hz : z = 0
  · by_cases h : most < tkN r
    · exact ⟨_, _, _, .inl ⟨hz, h, rfl, rfl, rfl⟩⟩
    · exact ⟨_, _, _, .inr (.inl ⟨hz, by omega, rfl, rfl, rfl⟩)⟩
  · exact ⟨_, _, _, .inr (.inr ⟨hz, rfl, rfl, rfl⟩)⟩
set_option maxRecDepth 100000 in
set_option maxHeartbeats 8000000 in
theorem nextU_any (w : World) (b o : Nat) (r : ByteArray) (z : Nat) (T : SouO w b o r z) (v : Nat) (r' : ByteArray) (z' : Nat) (h : NxR (0 : Nat) tkU r z v r' z') (hs : r.size ≤ 100000) :
    Calls Tryz.prog 99 #[.pointer (some ⟨b, o, none⟩), .func (.func 100) #[] #[]] w fun e w' => e = .returned (.int .u64 (v : Int)) ∧ SouP w w' b o r' z' := by
  rcases h with ⟨rfl, h1⟩ | ⟨hz, rfl, rfl, rfl⟩
  · have A1 := Lib.hid (fun w => take_c r v r' z' (by rw [show tkN r = v from (Prod.mk.inj h1).1]) (Prod.mk.inj (Prod.mk.inj h1).2).1 (by rw [show tkE r = z' from (Prod.mk.inj (Prod.mk.inj h1).2).2]) (by omega) w)
    clear h1 hs
    have HT := Lib.hid T
    have c0 := T.c0
    have c1 := T.c1
    clear T
    go_enter Tryz.func99, Tryz.ntmps99
    go_wp2_with fail
    go_at_call 100
    refine (A1.out _).mono ?_
    rintro e w1 ⟨rfl, hg⟩
    replace hg := (kept_of hg)
    have HP := Lib.hid (SouP.of HT.out hg)
    clear c0 c1 hg HT
    have c0 := HP.out.s.c0
    have c1 := HP.out.s.c1
    have f0 := HP.out.s.f o
    have f1 := HP.out.s.f (o + 1)
    go_wp2_with fail
    go_ret
    exact ⟨rfl, (HP.out.set0 r').set1 z'⟩
  · have e0 : (((z' : Nat) : Int) == 0) = false := by simp; omega
    have HT := Lib.hid T
    have c1 := T.c1
    clear T hz hs
    go_enter Tryz.func99, Tryz.ntmps99
    go_wp2_with fail
    go_ret
    exact ⟨rfl, SouP.of HT.out (Kept.refl _)⟩
set_option maxRecDepth 100000 in
set_option maxHeartbeats 8000000 in
theorem nextI_any (w : World) (b o : Nat) (r : ByteArray) (z : Nat) (T : SouO w b o r z) (v : Int) (r' : ByteArray) (z' : Nat) (h : NxR (0 : Int) tkI r z v r' z') (hs : r.size ≤ 100000) :
    Calls Tryz.prog 42 #[.pointer (some ⟨b, o, none⟩), .func (.func 43) #[] #[]] w fun e w' => e = .returned (.int .i64 v) ∧ SouP w w' b o r' z' := by
  rcases h with ⟨rfl, h1⟩ | ⟨hz, rfl, rfl, rfl⟩
  · have A1 := Lib.hid (fun w => takeInt_c r v r' z' (show tiN r = v from (Prod.mk.inj h1).1) (Prod.mk.inj (Prod.mk.inj h1).2).1 (by rw [show tkE r = z' from (Prod.mk.inj (Prod.mk.inj h1).2).2]) (by omega) w)
    clear h1 hs
    have HT := Lib.hid T
    have c0 := T.c0
    have c1 := T.c1
    clear T
    go_enter Tryz.func42, Tryz.ntmps42
    go_wp2_with fail
    go_at_call 43
    refine (A1.out _).mono ?_
    rintro e w1 ⟨rfl, hg⟩
    replace hg := (kept_of hg)
    have HP := Lib.hid (SouP.of HT.out hg)
    clear c0 c1 hg HT
    have c0 := HP.out.s.c0
    have c1 := HP.out.s.c1
    have f0 := HP.out.s.f o
    have f1 := HP.out.s.f (o + 1)
    go_wp2_with fail
    go_ret
    exact ⟨rfl, (HP.out.set0 r').set1 z'⟩
  · have e0 : (((z' : Nat) : Int) == 0) = false := by simp; omega
    have HT := Lib.hid T
    have c1 := T.c1
    clear T hz hs
    go_enter Tryz.func42, Tryz.ntmps42
    go_wp2_with fail
    go_ret
    exact ⟨rfl, SouP.of HT.out (Kept.refl _)⟩
set_option maxRecDepth 100000 in
set_option maxHeartbeats 8000000 in
theorem number_any (w : World) (b o : Nat) (most above : Nat) (r : ByteArray) (z : Nat) (T : SouO w b o r z) (v : Nat) (r' : ByteArray) (z' : Nat) (h : NumO most above r z v r' z') (hs : r.size ≤ 100000) :
    Calls Tryz.prog 36 #[.pointer (some ⟨b, o, none⟩), .int .u64 (most : Int), .int .i64 (above : Int)] w fun e w' => e = .returned (.int .u64 (v : Int)) ∧ SouP w w' b o r' z' := by
  rcases h with ⟨rfl, h1, rfl, rfl, rfl⟩ | ⟨rfl, h1, h2, h3, h4⟩ | ⟨hz, rfl, rfl, rfl⟩
  · have A1 := Lib.hid (nextU_any w b o r 0 T (tkN r) (tkR r) (tkE r) (.inl ⟨rfl, rfl⟩) hs)
    obtain ⟨u, hu⟩ : ∃ u, tkN r = u := ⟨_, rfl⟩
    rw [hu] at h1 A1
    have d1 : decide ((most : Int) < (u : Int)) = true := decide_eq_true (by omega)
    have d2 : decide ((u : Int) > (most : Int)) = true := decide_eq_true (by omega)
    have d3 : decide (most < u) = true := decide_eq_true (by omega)
    clear h1 hs hu T
    go_enter Tryz.func36, Tryz.ntmps36
    go_wp2_with fail
    go_at_call 99
    refine A1.out.mono ?_
    rintro e w1 ⟨rfl, hp⟩
    have HP := Lib.hid hp
    have c0 := hp.s.c0; have f0 := hp.s.f o
    have c1 := hp.s.c1; have f1 := hp.s.f (o + 1)
    clear hp
    go_wp2_with fail
    go_ret
    exact ⟨rfl, (HP.out.set0 ⟨#[]⟩).set1 z'⟩
  · have A1 := Lib.hid (nextU_any w b o r 0 T v r' z' (.inl ⟨rfl, by unfold tkU; rw [h2, h3, h4]⟩) hs)
    have d1 : decide ((most : Int) < (v : Int)) = false := decide_eq_false (by omega)
    have d2 : decide ((v : Int) > (most : Int)) = false := decide_eq_false (by omega)
    have d3 : decide (most < v) = false := decide_eq_false (by omega)
    clear h1 h2 h3 h4 hs T
    go_enter Tryz.func36, Tryz.ntmps36
    go_wp2_with fail
    go_at_call 99
    refine A1.out.mono ?_
    rintro e w1 ⟨rfl, hp⟩
    have HP := Lib.hid hp
    clear hp
    go_wp2_with fail
    go_ret
    exact ⟨rfl, HP.out⟩
  · have A1 := Lib.hid (nextU_any w b o r' z' T 0 r' z' (.inr ⟨hz, rfl, rfl, rfl⟩) hs)
    have d1 : decide ((most : Int) < ((0 : Nat) : Int)) = false := decide_eq_false (by omega)
    have d2 : decide (((0 : Nat) : Int) > (most : Int)) = false := decide_eq_false (by omega)
    have d3 : decide ((most : Int) < 0) = false := decide_eq_false (by omega)
    clear hz hs T
    go_enter Tryz.func36, Tryz.ntmps36
    go_wp2_with fail
    go_at_call 99
    refine A1.out.mono ?_
    rintro e w1 ⟨rfl, hp⟩
    have HP := Lib.hid hp
    clear hp
    go_wp2_with fail
    go_ret
    exact ⟨rfl, HP.out⟩
theorem textC_any (s : ByteArray) (g : Nat) (m : Int) (t r : ByteArray) (k : Nat) (h : ttL s m = (t, r, k)) (hs : s.size ≤ 100000) (h0 : -9223372036854775808 ≤ m) (h1 : m ≤ 9223372036854775807) (w : World) (hc : w.cell? ⟨g, 0, none⟩ = some (.int .i64 m)) :
    Calls Tryz.prog 102 #[.string s, .pointer (some ⟨g, 0, none⟩)] w fun e w' => e = .returned (.tuple #[.string t, .string r, .int .i64 (k : Int)]) ∧ Kept w w' := by
  have A1 := Lib.hid (fun w => takeText_c s m t r k (show (ttL s m).1 = t by rw [h]) (show (ttL s m).2.1 = r by rw [h]) (show ((ttL s m).2.2 : Int) = k by rw [h]) (by omega) h0 h1 w)
  clear h hs h0 h1
  go_enter Tryz.func102, Tryz.ntmps102
  go_wp2_with fail
  go_at_call 103
  refine (A1.out _).mono ?_
  rintro e w1 ⟨rfl, hg⟩
  replace hg := (kept_of hg)
  have HG := Lib.hid hg
  clear hg
  go_wp2_with fail
  refine bodyPost_ret (by simp [results, Tryz.results102, go_sem]) rfl ⟨rfl, HG.out⟩
set_option maxRecDepth 100000 in
set_option maxHeartbeats 8000000 in
theorem nextT_any (w : World) (b o g : Nat) (m : Int) (r : ByteArray) (z : Nat) (T : SouO w b o r z) (v : ByteArray) (r' : ByteArray) (z' : Nat) (h : NxR ⟨#[]⟩ (fun s => ttL s m) r z v r' z') (hs : r.size ≤ 100000) (h0 : -9223372036854775808 ≤ m) (h9 : m ≤ 9223372036854775807) (hc : w.cell? ⟨g, 0, none⟩ = some (.int .i64 m)) :
    Calls Tryz.prog 101 #[.pointer (some ⟨b, o, none⟩), .func (.func 102) #[] #[.pointer (some ⟨g, 0, none⟩)]] w fun e w' => e = .returned (.string v) ∧ SouP w w' b o r' z' := by
  rcases h with ⟨rfl, h1⟩ | ⟨hz, rfl, rfl, rfl⟩
  · have A1 := Lib.hid (textC_any r g m v r' z' h1 hs h0 h9 w hc)
    clear h1 hs h0 h9 hc
    have HT := Lib.hid T
    have c0 := T.c0
    have c1 := T.c1
    clear T
    go_enter Tryz.func101, Tryz.ntmps101
    go_wp2_with fail
    go_at_call 102
    refine A1.out.mono ?_
    rintro e w1 ⟨rfl, hg⟩
    have HP := Lib.hid (SouP.of HT.out hg)
    clear c0 c1 hg HT
    have c0 := HP.out.s.c0
    have c1 := HP.out.s.c1
    have f0 := HP.out.s.f o
    have f1 := HP.out.s.f (o + 1)
    go_wp2_with fail
    go_ret
    exact ⟨rfl, (HP.out.set0 r').set1 z'⟩
  · have e0 : (((z' : Nat) : Int) == 0) = false := by simp; omega
    have HT := Lib.hid T
    have c1 := T.c1
    clear T hz hs h0 h9 hc
    go_enter Tryz.func101, Tryz.ntmps101
    go_wp2_with fail
    go_ret
    exact ⟨rfl, SouP.of HT.out (Kept.refl _)⟩
theorem text_any' (w : World) (b o : Nat) (m : Int) (r : ByteArray) (z : Nat) (T : SouO w b o r z) (v : ByteArray) (r' : ByteArray) (z' : Nat) (h : NxR ⟨#[]⟩ (fun s => ttL s m) r z v r' z') (hs : r.size ≤ 100000) (h0 : -9223372036854775808 ≤ m) (h9 : m ≤ 9223372036854775807) :
    Calls Tryz.prog 37 #[.pointer (some ⟨b, o, none⟩), .int .i64 m] w fun e w' => e = .returned (.string v) ∧ SouP w w' b o r' z' := by
  have hk := (Kept.refl w).alloc #[.int .i64 m] 3
  have A1 := Lib.hid (nextT_any _ b o w.heap.size m r z (T.kept hk) v r' z' h hs h0 h9 ((Kept.refl _).box 0 _ rfl))
  have HK := Lib.hid hk; have HL := Lib.hid T.lt
  clear T h hs h0 h9 hk
  go_enter Tryz.func37, Tryz.ntmps37
  go_wp2_with fail
  go_at_call 101
  refine A1.out.mono ?_
  rintro e w1 ⟨rfl, hp⟩
  have HP := Lib.hid hp
  clear hp
  go_wp2_with fail
  go_ret
  exact ⟨rfl, HP.out.first HK.out HL.out⟩
def tvF (s : ByteArray) : Va × ByteArray × Nat := (tVa s, tvR s, tvE s)
theorem VaO.zero (w : World) (ty : TypeId) : VaO (w.alloc (.cells #[.int .i64 0, .int .i64 0, .string ⟨#[]⟩] ty)) w.heap.size .zero := VaO.new w .zero ty
set_option maxRecDepth 100000 in
set_option maxHeartbeats 16000000 in
theorem nextV_any (w : World) (b o : Nat) (r : ByteArray) (z : Nat) (T : SouO w b o r z) (v : Va) (r' : ByteArray) (z' : Nat) (h : NxR Va.zero tvF r z v r' z') (hs : r.size ≤ 100000) :
    Calls Tryz.prog 40 #[.pointer (some ⟨b, o, none⟩), .func (.func 41) #[] #[]] w fun e w' => e = .returned (.agg #[.int .i64 v.k, .int .i64 v.n, .string v.t]) ∧ SouP w w' b o r' z' := by
  have hb := T.lt
  have K1 := (Kept.refl w).alloc #[.int .i64 0, .int .i64 0, .string ⟨#[]⟩] 26
  have K2 := K1.alloc #[.int .i64 0, .int .i64 0, .string ⟨#[]⟩] 26
  have T2 := T.kept K2
  have HB := Lib.hid hb
  have n1 : w.heap.size ≠ b := by omega
  have n3 : w.heap.size + 1 ≠ b := by omega
  have n4 : ¬ b = w.heap.size := by omega
  have n5 : ¬ b = w.heap.size + 1 := by omega
  have hz1 : (w.alloc (.cells #[.int .i64 0, .int .i64 0, .string ⟨#[]⟩] 26)).heap.size = w.heap.size + 1 := by simp
  have b1 := (VaO.zero w 26).kept ((Kept.refl _).alloc #[.int .i64 0, .int .i64 0, .string ⟨#[]⟩] 26)
  have b2 := VaO.zero (w.alloc (.cells #[.int .i64 0, .int .i64 0, .string ⟨#[]⟩] 26)) 26
  rw [hz1] at b2
  obtain ⟨U, hU⟩ : ∃ U, (w.alloc (.cells #[.int .i64 0, .int .i64 0, .string ⟨#[]⟩] 26)).alloc (.cells #[.int .i64 0, .int .i64 0, .string ⟨#[]⟩] 26) = U := ⟨_, rfl⟩
  rw [hU] at K2 T2 b1 b2
  have HT := Lib.hid T2; have HK2 := Lib.hid K2; have HUU := Lib.hid hU; have HB1 := Lib.hid b1; have HB2 := Lib.hid b2
  have c1 := T2.c1
  clear T T2 K1 K2 hb hz1 hU b1 b2
  rcases h with ⟨rfl, h1⟩ | ⟨hz, rfl, rfl, rfl⟩
  · have A1 := Lib.hid (fun w => vtake_c r v.k v.n v.t r' (z' : Int) (by rw [← (Prod.mk.inj h1).1]; rfl) (by rw [← (Prod.mk.inj h1).1]; rfl) (by rw [← (Prod.mk.inj h1).1]; rfl) (Prod.mk.inj (Prod.mk.inj h1).2).1 (by rw [show tvE r = z' from (Prod.mk.inj (Prod.mk.inj h1).2).2]) (by omega) w)
    clear h1 hs
    have c0 := HT.out.c0
    go_enter Tryz.func40, Tryz.ntmps40
    go_wp2_with (rw [HUU.out])
    go_at_call 41
    refine (A1.out _).mono ?_
    rintro e w1 ⟨rfl, hg⟩
    replace hg := kept_of hg
    have hp := (SouP.of HT.out hg).first HK2.out HB.out
    have HP := Lib.hid hp
    replace HB1 := Lib.hid (HB1.out.kept hg); replace HB2 := Lib.hid (HB2.out.kept hg)
    clear hp hg c0 c1
    have d0 := HP.out.s.c0; have d1 := HP.out.s.c1; have df := HP.out.s.f
    have q0 := HB2.out.c0; have q1 := HB2.out.c1; have q2 := HB2.out.c2; have qf := HB2.out.f
    have p0 := HB1.out.c0; have p1 := HB1.out.c1; have p2 := HB1.out.c2; have pf := HB1.out.f
    go_wp2_with fail
    refine bodyPost_ret (by simp [results, Tryz.results40, go_sem, *]) rfl ⟨rfl, ((((((((HP.out.far (g := w.heap.size + 1) (Nat.le_succ _) _).far (g := w.heap.size + 1) (Nat.le_succ _) _).far (g := w.heap.size + 1) (Nat.le_succ _) _).set0 r').set1 z').far (g := w.heap.size) (Nat.le_refl _) _).far (g := w.heap.size) (Nat.le_refl _) _).far (g := w.heap.size) (Nat.le_refl _) _)⟩
  · have e0 : (((z' : Nat) : Int) == 0) = false := by simp; omega
    clear hz hs
    have q0 := HB2.out.c0; have q1 := HB2.out.c1; have q2 := HB2.out.c2; have qf := HB2.out.f
    have p0 := HB1.out.c0; have p1 := HB1.out.c1; have p2 := HB1.out.c2; have pf := HB1.out.f
    go_enter Tryz.func40, Tryz.ntmps40
    go_wp2_with (rw [HUU.out])
    refine bodyPost_ret (by simp [results, Tryz.results40, go_sem, Va.zero, *]) rfl ⟨rfl, (((((SouP.of HT.out (Kept.refl _)).first HK2.out HB.out).far (g := w.heap.size) (Nat.le_refl _) _).far (g := w.heap.size) (Nat.le_refl _) _).far (g := w.heap.size) (Nat.le_refl _) _)⟩
theorem ttR_szF (s : ByteArray) (m : Int) : (ttR s m).size ≤ s.size := by
  by_cases h : ttE s m = 0
  · have := congrArg ByteArray.size (tt_aft s m h).1
    rw [ByteArray.size_append, ByteArray.size_append] at this
    omega
  · have : ttR s m = ⟨#[]⟩ := by
      unfold ttE ttL at h
      unfold ttR ttL
      by_cases h1 : tkE s ≠ 0
      · rw [if_pos h1]
      rw [if_neg h1] at h ⊢
      by_cases h2 : m < 0 ∨ m < (tkN s : Int)
      · rw [if_pos h2]
      rw [if_neg h2] at h ⊢
      by_cases h3 : (tkR s).size < tkN s
      · rw [if_pos h3]
      · rw [if_neg h3] at h; simp at h
    rw [this]
    exact Nat.zero_le _
theorem tvR_szF (s : ByteArray) : (tvR s).size ≤ s.size := by
  have h1 := tkR_size s
  have h2 := tkR_size (tkR s)
  have h3 := ttR_szF (tkR s) 200
  unfold tvR tvL
  by_cases e1 : tkE s ≠ 0
  · rw [if_pos e1]; exact Nat.zero_le _
  rw [if_neg e1]
  by_cases e2 : 3 < tkN s
  · rw [if_pos e2]; exact Nat.zero_le _
  rw [if_neg e2]
  by_cases e3 : tkN s = 0
  · rw [if_pos e3]; exact h1
  rw [if_neg e3]
  by_cases e4 : tkN s = 2
  · rw [if_pos e4]
    by_cases e5 : ttE (tkR s) 200 ≠ 0
    · rw [if_pos e5]; exact Nat.zero_le _
    · rw [if_neg e5]; exact Nat.le_trans h3 h1
  rw [if_neg e4]
  by_cases e5 : tkE (tkR s) ≠ 0
  · rw [if_pos e5]; exact Nat.zero_le _
  rw [if_neg e5]
  by_cases e6 : rightB (tkN s) (tiN (tkR s)) ⟨#[]⟩ = true
  · rw [if_pos e6]; exact Nat.le_trans h2 h1
  · rw [if_neg e6]; exact Nat.zero_le _
theorem tvT_szF (s : ByteArray) : (tvT s).size ≤ 200 := by
  unfold tvT tvL
  by_cases h1 : tkE s ≠ 0
  · rw [if_pos h1]; exact Nat.zero_le _
  rw [if_neg h1]
  by_cases h2 : 3 < tkN s
  · rw [if_pos h2]; exact Nat.zero_le _
  rw [if_neg h2]
  by_cases h3 : tkN s = 0
  · rw [if_pos h3]; exact Nat.zero_le _
  rw [if_neg h3]
  by_cases h4 : tkN s = 2
  · rw [if_pos h4]
    by_cases h5 : ttE (tkR s) 200 ≠ 0
    · rw [if_pos h5]; exact Nat.zero_le _
    · rw [if_neg h5]; exact tt_size _
  rw [if_neg h4]
  by_cases h5 : tkE (tkR s) ≠ 0
  · rw [if_pos h5]; exact Nat.zero_le _
  rw [if_neg h5]
  by_cases h6 : rightB (tkN s) (tiN (tkR s)) ⟨#[]⟩ = true
  · rw [if_pos h6]; exact Nat.zero_le _
  · rw [if_neg h6]; exact Nat.zero_le _
theorem tf_sizes {s : ByteArray} (h : tfE s = 0) : (tfX s).p.size ≤ 1000 ∧ (tfX s).vt.size ≤ 1000 ∧ (tfR s).size ≤ s.size := by
  unfold tfE at h
  unfold tfX tfR
  by_cases h1 : errF s ≠ 0
  · rw [show tfL s = (.none, ⟨#[]⟩, errF s) by unfold tfL; rw [if_pos h1]] at h; exact absurd h h1
  by_cases h2 : 3 < tkN (f1 s) ∨ 3 < tkN (f2 s)
  · rw [show tfL s = (.none, ⟨#[]⟩, 3) by unfold tfL; rw [if_neg h1, if_pos h2]] at h; simp at h
  rw [show tfL s = (fdK s, tvR (f3 s), 0) by unfold tfL; rw [if_neg h1, if_neg h2]]
  have ht : ttE s 102 = 0 := by
    by_cases q : ttE s 102 = 0
    · exact q
    · exact absurd (show errF s ≠ 0 by unfold errF; rw [if_pos q]; exact q) h1
  have a1 := (tt_aft s 102 ht).2.1
  have a2 := tvT_szF (f3 s)
  have a3 := tvR_szF (f3 s)
  have a4 := tkR_size (f2 s)
  have a5 := tkR_size (f1 s)
  have a6 := ttR_szF s 102
  refine ⟨?_, ?_, ?_⟩
  · show (ttT s 102).size ≤ _; omega
  · show (tvT (f3 s)).size ≤ _; omega
  · show (tvR (f3 s)).size ≤ _
    unfold f3 f2 f1 at *
    omega
theorem Box1.keptE {G : Nat} {w w' : World} {b : Nat} {u : Value} (h : Box1 w b u) (k : KeptE G w w') (hb : b ≠ G) : Box1 w' b u :=
  ⟨k.cell hb h.c0, fun j => by
    have := h.f j
    have e := k.blk b h.lt hb
    unfold World.frozen? at this ⊢
    rw [e]; exact this, Nat.lt_of_lt_of_le h.lt k.size⟩
structure TakM (b : Nat) (U wr : World) (v : Value) (L : List Fd) : Prop where
  own : wr.ownsRow U.heap.size 28 6 v L.length (flatF L)
  box : Box1 wr b v
  ke : KeptE b U wr
theorem TakM.start {b : Nat} {U : World} (h : Box1 U b (.slice none 0 0)) : TakM b U U (.slice none 0 0) [] := ⟨World.ownsRow_nil _ _ _ _, h, KeptE.refl _ _⟩
theorem TakM.kept {b : Nat} {U wr w' : World} {v : Value} {L : List Fd} (h : TakM b U wr v L) (k : Kept wr w') : TakM b U w' v L := ⟨own_kept h.own k, h.box.kept k, h.ke.trans k⟩
theorem TakM.form {b : Nat} {U wr : World} {v : Value} {L : List Fd} (h : TakM b U wr v L) : ∃ A c, v = .slice A L.length c ∧ Fl wr A L.length c L := Fl.of_own h.own
theorem TakM.app {b : Nat} {U wr : World} {v : Value} {L : List Fd} (h : TakM b U wr v L) (hb : b < U.heap.size) (A : Option Addr) (m c : Nat) (M : List Fd) (hs : Fl wr A m c M) (hl : L.length + m ≤ 1000000) :
    ∃ v' w', (Builtin.append_ #[22, 22] 22 #[v, .slice A m c]).run Tryz.prog wr = .ok v' w' ∧ w'.cell? ⟨b, 0, none⟩ = some v ∧ (∀ j, w'.frozen? ⟨b, j, none⟩ = false) ∧ TakM b U (w'.setCell ⟨b, 0, none⟩ v') v' (L ++ M) := by
  obtain ⟨v', w', hr, ho, hg, hat⟩ := app_fls wr U.heap.size v L.length (flatF L) h.own A m c M hs (by omega) h.ke.size
  have hne : ∀ g, v.ownBlock = some g → g ≠ b := fun g hg2 e => by have := (h.own.lt g hg2).1; omega
  have hk : ∃ G, G ≠ b ∧ KeptE G wr w' := by
    rcases hv : v.ownBlock with _ | G
    · exact ⟨b + 1, by omega, (KeptE.refl _ wr).grown hg fun g hg2 => by rw [hv] at hg2; cases hg2⟩
    · exact ⟨G, hne G hv, (KeptE.refl G wr).grown hg fun g hg2 => .inl (by rw [hv] at hg2; exact (Option.some.inj hg2).symm)⟩
  obtain ⟨G, hG, hkG⟩ := hk
  have hbox := h.box.keptE hkG (fun e => hG e.symm)
  have hne' : ∀ g, v'.ownBlock = some g → g ≠ b := fun g hg2 e => by have := (ho.lt g hg2).1; omega
  refine ⟨v', w', hr, hbox.c0, hbox.f, ⟨?_, ⟨World.cell?_setCell_same _ _ _ hbox.c0, fun j => by rw [World.frozen?_setCell]; exact hbox.f j, by have := hbox.lt; simpa [World.setCell] using this⟩, ?_⟩⟩
  · rw [List.length_append, flatF_app, ← hs.1]
    exact own_blk ho fun g hg2 => Deep.blk_setCell_other w' _ _ g (fun e => hne' g hg2 e)
  · have h1 : KeptE b U w' := h.ke.grown hg fun g hg2 => .inr (h.own.lt g hg2).1
    exact h1.set (.inl rfl) _
def TakS (s : ByteArray) (w : World) (e : Ending) (w' : World) : Prop :=
  ∃ A c, e = .returned (.tuple #[.agg #[.slice A (tscL s).1.length c], .string (tscL s).2.1, .int .i64 ((tscL s).2.2 : Int)]) ∧ Fl w' A (tscL s).1.length c (tscL s).1 ∧ Kept w w'
theorem takS_err {s : ByteArray} {z : Nat} (h : tscL s = ([], ⟨#[]⟩, z)) {w w' : World} (hk : Kept w w') : TakS s w (.returned (.tuple #[.agg #[.slice none 0 0], .string ⟨#[]⟩, .int .i64 (z : Int)])) w' := by
  unfold TakS
  rw [h]
  exact ⟨none, 0, rfl, Fl.nil _, hk⟩
theorem takS_ok {s r : ByteArray} {L : List Fd} (h : tscL s = (L, r, 0)) {w w' : World} {A : Option Addr} {c : Nat} (hf : Fl w' A L.length c L) (hk : Kept w w') : TakS s w (.returned (.tuple #[.agg #[.slice A L.length c], .string r, .int .i64 0])) w' := by
  unfold TakS
  rw [h]
  exact ⟨A, c, rfl, hf, hk⟩
def noF : ByteArray := putSc ⟨#[]⟩ [Fd.none]
theorem noF_S : FdS Fd.none := ⟨by decide, by decide, by decide, by decide⟩
theorem noF_size : noF.size ≤ 1070 := by have := one_size noF_S ⟨#[]⟩; have e : (⟨#[]⟩ : ByteArray).size = 0 := rfl; unfold noF; omega
noncomputable def fdL (s : ByteArray) : Fd × ByteArray × Nat :=
  if noF.data.toList <+: s.data.toList then (Fd.none, s.extract noF.size s.size, 0)
  else if (tscL s).2.2 ≠ 0 then (Fd.none, ⟨#[]⟩, (tscL s).2.2)
  else if (tscL s).1.length ≠ 1 then (Fd.none, ⟨#[]⟩, 3) else ((tscL s).1.headD Fd.none, (tscL s).2.1, 0)
theorem fdL_pre {s : ByteArray} (h : noF.data.toList <+: s.data.toList) : fdL s = (Fd.none, s.extract noF.size s.size, 0) := by unfold fdL; rw [if_pos h]
theorem fdL_err {s : ByteArray} (h : ¬ noF.data.toList <+: s.data.toList) (e : (tscL s).2.2 ≠ 0) : fdL s = (Fd.none, ⟨#[]⟩, (tscL s).2.2) := by unfold fdL; rw [if_neg h, if_pos e]
theorem fdL_many {s : ByteArray} (h : ¬ noF.data.toList <+: s.data.toList) (e : (tscL s).2.2 = 0) (l : (tscL s).1.length ≠ 1) : fdL s = (Fd.none, ⟨#[]⟩, 3) := by unfold fdL; rw [if_neg h, if_neg (by simp [e]), if_pos l]
theorem fdL_one {s : ByteArray} {x : Fd} (h : ¬ noF.data.toList <+: s.data.toList) (e : (tscL s).2.2 = 0) (l : (tscL s).1 = [x]) : fdL s = (x, (tscL s).2.1, 0) := by unfold fdL; rw [if_neg h, if_neg (by simp [e]), l]; simp
theorem takeFs_sz : ∀ (k : Nat) (L : List Fd) (s : ByteArray), (takeFs k L s).2.1.size ≤ s.size
  | 0, L, s => Nat.le_refl _
  | k + 1, L, s => by
    by_cases h : tfE s = 0
    · rw [takeFs_ok h]; exact Nat.le_trans (takeFs_sz k _ _) (tf_sizes h).2.2
    · rw [takeFs_err h]; exact Nat.zero_le _
theorem tsc_sz (s : ByteArray) : (tscL s).2.1.size ≤ s.size := by
  unfold tscL
  split
  · exact Nat.zero_le _
  split
  · exact Nat.zero_le _
  split
  · exact Nat.zero_le _
  split
  · exact Nat.le_trans (takeFs_sz _ _ _) (tkR_size s)
  · exact Nat.zero_le _
theorem fdL_sz (s : ByteArray) : (fdL s).2.1.size ≤ s.size := by
  unfold fdL
  split
  · show (s.extract noF.size s.size).size ≤ s.size
    rw [ByteArray.size_extract]; omega
  split
  · exact Nat.zero_le _
  split
  · exact Nat.zero_le _
  · exact tsc_sz s
theorem NxR.szF {r : ByteArray} {z : Nat} {v : Fd} {r' : ByteArray} {z' : Nat} (h : NxR Fd.none fdL r z v r' z') : r'.size ≤ r.size := by
  rcases h with ⟨_, h⟩ | ⟨_, _, rfl, _⟩
  · have := fdL_sz r; rw [h] at this; exact this
  · exact Nat.le_refl _
theorem NxR.err {T : Type} {zero : T} {f : ByteArray → T × ByteArray × Nat} {r : ByteArray} {z : Nat} {v : T} {r' : ByteArray} {z' : Nat} (h : NxR zero f r z v r' z') (hz : z ≠ 0) : z' = z := by
  rcases h with ⟨e, _⟩ | ⟨_, _, _, e⟩
  · exact absurd e hz
  · exact e
theorem NxR.ok {T : Type} {zero : T} {f : ByteArray → T × ByteArray × Nat} {r : ByteArray} {v : T} {r' : ByteArray} {z' : Nat} (h : NxR zero f r 0 v r' z') : f r = (v, r', z') := by
  rcases h with ⟨_, e⟩ | ⟨e, _⟩
  · exact e
  · exact absurd rfl e
def gP (s : ByteArray) : ByteArray × ByteArray × Nat := ttL (tkR s) 102
def gN (s : ByteArray) : ByteArray × ByteArray × Nat := ttL (gP s).2.1 16
noncomputable def gF (s : ByteArray) : Fd × ByteArray × Nat := fdL (gN s).2.1
noncomputable def gD (s : ByteArray) : Va × ByteArray × Nat := tvF (gF s).2.1
noncomputable def gA (s : ByteArray) : Int × ByteArray × Nat := tkI (gD s).2.1
noncomputable def gB (s : ByteArray) : Int × ByteArray × Nat := tkI (gA s).2.1
noncomputable def gT (s : ByteArray) : Tb × ByteArray × Nat := ttbL (gB s).2.1
noncomputable def gE (s : ByteArray) : Nat :=
  if tkE s ≠ 0 then tkE s else if 10 < tkN s then 3 else if (gP s).2.2 ≠ 0 then (gP s).2.2 else if (gN s).2.2 ≠ 0 then (gN s).2.2
  else if (gF s).2.2 ≠ 0 then (gF s).2.2 else if (gD s).2.2 ≠ 0 then (gD s).2.2 else if (gA s).2.2 ≠ 0 then (gA s).2.2 else if (gB s).2.2 ≠ 0 then (gB s).2.2 else (gT s).2.2
noncomputable def stL (s : ByteArray) : St × ByteArray × Nat :=
  if gE s ≠ 0 then (St.zero, ⟨#[]⟩, gE s) else (⟨(tkN s : Int), (gP s).1, (gN s).1, (gF s).1, (gD s).1, (gA s).1, (gB s).1, (gT s).1⟩, (gT s).2.1, 0)
theorem stL_err {s : ByteArray} {z : Nat} (h : gE s = z) (hz : z ≠ 0) : stL s = (St.zero, ⟨#[]⟩, z) := by unfold stL; rw [h, if_pos hz]
theorem st_chain {s r1 r2 r3 r4 r5 r6 r7 r8 : ByteArray} {z1 z2 z3 z4 z5 z6 z7 z8 k : Nat} {p nm : ByteArray} {f : Fd} {d : Va} {a b : Int} {T : Tb}
    (h1 : NumO 10 3 s 0 k r1 z1) (h2 : NxR ⟨#[]⟩ (fun s => ttL s 102) r1 z1 p r2 z2) (h3 : NxR ⟨#[]⟩ (fun s => ttL s 16) r2 z2 nm r3 z3) (h4 : NxR Fd.none fdL r3 z3 f r4 z4) (h5 : NxR Va.zero tvF r4 z4 d r5 z5)
    (h6 : NxR (0 : Int) tkI r5 z5 a r6 z6) (h7 : NxR (0 : Int) tkI r6 z6 b r7 z7) (h8 : NxR Tb.none ttbL r7 z7 T r8 z8) :
    stL s = if z8 ≠ 0 then (St.zero, ⟨#[]⟩, z8) else (⟨(k : Int), p, nm, f, d, a, b, T⟩, r8, 0) := by
  have key : z1 = (if tkE s ≠ 0 then tkE s else if 10 < tkN s then 3 else 0) ∧ (z1 = 0 → k = tkN s ∧ r1 = tkR s) := by
    rcases h1 with ⟨_, h, _, _, rfl⟩ | ⟨_, h, rfl, rfl, rfl⟩ | ⟨h, _⟩
    · have he : tkE s = 0 := Classical.byContradiction fun e => by have := (tk_bad s e).1; omega
      exact ⟨by rw [if_neg (by simp [he]), if_pos h], fun h => by cases h⟩
    · refine ⟨?_, fun _ => ⟨rfl, rfl⟩⟩
      by_cases he : tkE s = 0
      · rw [if_neg (by simp [he]), if_neg (by omega), he]
      · rw [if_pos he]
    · exact absurd rfl h
  obtain ⟨k1, k2⟩ := key
  by_cases e1 : z1 = 0
  rotate_left
  · have e2 := h2.err e1; have e3 := h3.err (by omega); have e4 := h4.err (by omega); have e5 := h5.err (by omega); have e6 := h6.err (by omega); have e7 := h7.err (by omega); have e8 := h8.err (by omega)
    rw [stL_err (z := z8) (by
      unfold gE
      by_cases h : tkE s ≠ 0
      · rw [if_pos h] at k1 ⊢; omega
      · rw [if_neg h] at k1 ⊢
        by_cases h9 : 10 < tkN s
        · rw [if_pos h9] at k1 ⊢; omega
        · rw [if_neg h9] at k1; exact absurd k1 e1) (by omega), if_pos (by omega)]
  obtain ⟨rfl, rfl⟩ := k2 e1
  subst e1
  have hk : tkE s = 0 ∧ ¬ 10 < tkN s := by
    refine ⟨Classical.byContradiction fun e => ?_, fun h => ?_⟩
    · rw [if_pos e] at k1; exact e k1.symm
    · by_cases e : tkE s ≠ 0
      · rw [if_pos e] at k1; exact e k1.symm
      · rw [if_neg e, if_pos h] at k1; cases k1
  obtain ⟨t1, t2⟩ := hk
  have q2 : gP s = (p, r2, z2) := h2.ok
  have E0 : gE s = if z2 ≠ 0 then z2 else if (gN s).2.2 ≠ 0 then (gN s).2.2 else if (gF s).2.2 ≠ 0 then (gF s).2.2 else if (gD s).2.2 ≠ 0 then (gD s).2.2 else if (gA s).2.2 ≠ 0 then (gA s).2.2 else if (gB s).2.2 ≠ 0 then (gB s).2.2 else (gT s).2.2 := by
    unfold gE; rw [if_neg (by simp [t1]), if_neg t2, q2]
  by_cases e2 : z2 = 0
  rotate_left
  · have e3 := h3.err e2; have e4 := h4.err (by omega); have e5 := h5.err (by omega); have e6 := h6.err (by omega); have e7 := h7.err (by omega); have e8 := h8.err (by omega)
    rw [stL_err (z := z8) (by rw [E0, if_pos e2]; omega) (by omega), if_pos (by omega)]
  subst e2
  have q3 : gN s = (nm, r3, z3) := by unfold gN; rw [q2]; exact h3.ok
  by_cases e3 : z3 = 0
  rotate_left
  · have e4 := h4.err e3; have e5 := h5.err (by omega); have e6 := h6.err (by omega); have e7 := h7.err (by omega); have e8 := h8.err (by omega)
    rw [stL_err (z := z8) (by rw [E0, if_neg (by simp), q3, if_pos e3]; show z3 = z8; omega) (by omega), if_pos (by omega)]
  subst e3
  have q4 : gF s = (f, r4, z4) := by unfold gF; rw [q3]; exact h4.ok
  by_cases e4 : z4 = 0
  rotate_left
  · have e5 := h5.err e4; have e6 := h6.err (by omega); have e7 := h7.err (by omega); have e8 := h8.err (by omega)
    rw [stL_err (z := z8) (by rw [E0, if_neg (by simp), q3, if_neg (by simp), q4, if_pos e4]; show z4 = z8; omega) (by omega), if_pos (by omega)]
  subst e4
  have q5 : gD s = (d, r5, z5) := by unfold gD; rw [q4]; exact h5.ok
  by_cases e5 : z5 = 0
  rotate_left
  · have e6 := h6.err e5; have e7 := h7.err (by omega); have e8 := h8.err (by omega)
    rw [stL_err (z := z8) (by rw [E0, if_neg (by simp), q3, if_neg (by simp), q4, if_neg (by simp), q5, if_pos e5]; show z5 = z8; omega) (by omega), if_pos (by omega)]
  subst e5
  have q6 : gA s = (a, r6, z6) := by unfold gA; rw [q5]; exact h6.ok
  by_cases e6 : z6 = 0
  rotate_left
  · have e7 := h7.err e6; have e8 := h8.err (by omega)
    rw [stL_err (z := z8) (by rw [E0, if_neg (by simp), q3, if_neg (by simp), q4, if_neg (by simp), q5, if_neg (by simp), q6, if_pos e6]; show z6 = z8; omega) (by omega), if_pos (by omega)]
  subst e6
  have q7 : gB s = (b, r7, z7) := by unfold gB; rw [q6]; exact h7.ok
  by_cases e7 : z7 = 0
  rotate_left
  · have e8 := h8.err e7
    rw [stL_err (z := z8) (by rw [E0, if_neg (by simp), q3, if_neg (by simp), q4, if_neg (by simp), q5, if_neg (by simp), q6, if_neg (by simp), q7, if_pos e7]; show z7 = z8; omega) (by omega), if_pos (by omega)]
  subst e7
  have q8 : gT s = (T, r8, z8) := by unfold gT; rw [q7]; exact h8.ok
  have hE : gE s = z8 := by rw [E0, if_neg (by simp), q3, if_neg (by simp), q4, if_neg (by simp), q5, if_neg (by simp), q6, if_neg (by simp), q7, if_neg (by simp), q8]
  by_cases e8 : z8 = 0
  · rw [if_neg (by simp [e8])]
    unfold stL
    rw [hE, if_neg (by simp [e8]), q2, q3, q4, q5, q6, q7, q8]
  · rw [stL_err hE e8, if_pos e8]
end Go.Proofs.YtofnpifooaijcaaGreat
