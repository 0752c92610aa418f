/-
  What is proved: All of package join (P9.2), called with any slice of states in order that lies in memory, returns what is known where all of them are; the world has new blocks at most.
  the document's Dots of layer 6, called with any set that lies in memory and whose Vec is good, and any number, returns the first so many of what the set tells (P6.9); the world has new blocks at most.
  Gone of package join (P9.5), called with any two states in order that lie in memory, returns the dots of the second one's entries that the first one knows, but has not; the world has new blocks at most.
-/
import Derived.Test.YtcldbmhjfmbcfaaM26
import Derived.Test.YtcldbmhjfmbcfaaM10
import Derived.Test.YtcldbmhjfmbcfaaM13
import Derived.Test.YtcldbmhjfmbcfaaM7
import Derived.IntWalk
import Derived.Test.YtcldbmhjfmbcfaaM20
namespace Go.Proofs.Ytcldbmhjfmbcfaa
open Go.RowKit
set_option linter.unusedVariables false

/-- What All makes, and how much of it there is. -/
def AllJ (l : List Sta) (M : Nat) (r : Sta) : Prop := AllR l r ∧ r.L.length ≤ l.length * M ∧ r.C.length ≤ l.length * M
theorem AllJ.join {l1 l2 : List Sta} {M : Nat} {a b r : Sta} (h1 : AllJ l1 M a) (h2 : AllJ l2 M b) (ho : ∀ s ∈ l1, Ord s) (h : Joined a b r) : AllJ (l1 ++ l2) M r := by
  obtain ⟨k1, k2, k3⟩ := h1
  obtain ⟨m1, m2, m3⟩ := h2
  obtain ⟨j1, j2, j3⟩ := h
  refine ⟨k1.join m1 ho j1, ?_, ?_⟩ <;> rw [List.length_append, Nat.add_mul] <;> omega

set_option maxRecDepth 100000 in
set_option maxHeartbeats 16000000 in
theorem all_step (M N : Nat) (hN : N * M ≤ 100000)
    (IH : ∀ (A : Option Addr) (n c : Nat) (l : List Sta) (w : World), Ss w A n c l → (∀ s ∈ l, Ord s ∧ s.L.length ≤ M ∧ s.C.length ≤ M) → n < N → Calls Try.prog 10 #[.slice A n c] w (StJ (AllJ l M) w))
    (A : Option Addr) (n c : Nat) (l : List Sta) (w : World) (h : Ss w A n c l) (hl : ∀ s ∈ l, Ord s ∧ s.L.length ≤ M ∧ s.C.length ≤ M) (hn : n = N) :
    Calls Try.prog 10 #[.slice A n c] w (StJ (AllJ l M) w) := by
  have hk := (Kept.refl w).alloc #[.slice none 0 0, .slice none 0 0, .slice none 0 0] 28
  have b0 := Box3.new w (.slice none 0 0) (.slice none 0 0) (.slice none 0 0) 28
  have hcap := h.cap.1; have hcap2 := h.cap.2
  have HNL := Lib.hid h.1; have HL := Lib.hid hl
  have HS := Lib.hid (h.kept hk)
  obtain ⟨U, hU⟩ : ∃ U, w.alloc (.cells #[.slice none 0 0, .slice none 0 0, .slice none 0 0] 28) = U := ⟨_, rfl⟩
  rw [hU] at hk b0 HS
  have HK := Lib.hid hk; have HB := Lib.hid b0; have HUU := Lib.hid hU
  clear h hl hk b0 hU
  have HN := Lib.hid hn
  clear hn
  by_cases h0 : n = 0
  · subst h0
    have HLL := Lib.hid (show l = [] from List.eq_nil_of_length_eq_zero HNL.out.symm)
    have HFIN := Lib.hid (show StJ (AllJ l M) w (.returned (.agg #[.slice none 0 0, .slice none 0 0, .slice none 0 0])) (w.alloc (.cells #[.slice none 0 0, .slice none 0 0, .slice none 0 0] 28)) from ⟨none, 0, 0, none, 0, 0, none, 0, 0, .none, rfl, stt_none _, by rw [HLL.out]; exact ⟨AllR.nil, Nat.zero_le _, Nat.zero_le _⟩, (Kept.refl w).alloc _ _⟩)
    go_enter Try.func10, Try.ntmps10
    go_wp2_with fail
    exact bodyPost_ret (by simp [results, Try.results10, go_sem, *]) rfl HFIN.out
  · have f0 : ((n : Int) == 0) = false := by rw [beq_eq_false_iff_ne]; omega
    have f00 : (n == 0) = false := by rw [beq_eq_false_iff_ne]; omega
    by_cases h1 : n = 1
    · subst h1
      obtain ⟨g, o, s, rfl, hs, hst⟩ := HS.out.get (k := 0) (by omega)
      obtain ⟨A1, n1, c1, B1, m1, k1, D1, p1, q1, s0, s1, s2, hss⟩ := hst
      have HLL := Lib.hid (show l = [s] by
        match l, HNL.out, hs with
        | [x], _, hs => rw [show x = s by simpa using hs])
      have HOS := Lib.hid (HL.out s (List.mem_of_getElem? hs))
      have AJ := Lib.hid (join_any none 0 0 none 0 0 none 0 0 .none A1 n1 c1 B1 m1 k1 D1 p1 q1 s U (stt_none U) hss Ord.none HOS.out.1 (by omega) (by omega) (by have := hss.el.1; have := HOS.out.2.1; have := HN.out; subst this; omega) (by have := hss.dl.1; have := HOS.out.2.2; have := HN.out; subst this; omega))
      clear hs hss f0 f00
      rw [← HUU.out] at s0 s1 s2
      simp only [Nat.zero_mul, Nat.add_zero] at s0 s1 s2
      go_enter Try.func10, Try.ntmps10
      go_wp2_with fail
      rw [HUU.out]
      go_at_call 8
      refine AJ.out.mono ?_
      rintro e w3 ⟨A3, n3, c3, B3, m3, k3, D3, p3, q3, j, rfl, hs3, hj3, hk3⟩
      have hb := HB.out.kept hk3
      have e0 := hb.c0; have e1 := hb.c1; have e2 := hb.c2; have ef0 := hb.f 0; have ef1 := hb.f 1; have ef2 := hb.f 2
      have HFIN := Lib.hid (stj_put (W := w) (S := AllJ l M) (s := j) hs3 hb (Nat.le_refl _) (HK.out.trans hk3) (by rw [HLL.out]; exact AllJ.join (l1 := []) (l2 := [s]) ⟨AllR.nil, Nat.zero_le _, Nat.zero_le _⟩ ⟨AllR.self HOS.out.1, by simpa using HOS.out.2.1, by simpa using HOS.out.2.2⟩ (fun s hs => by cases hs) hj3))
      clear hs3 hj3 hk3 hb
      go_wp2_with fail
      exact bodyPost_ret (by simp [results, Try.results10, go_sem, *]) rfl HFIN.out
    · have f1 : ((n : Int) == 1) = false := by rw [beq_eq_false_iff_ne]; omega
      have f10 : (n == 1) = false := by rw [beq_eq_false_iff_ne]; omega
      obtain ⟨j, hj⟩ : ∃ j, n / 2 = j := ⟨_, rfl⟩
      have hj1 : 0 < j := by omega
      have hj2 : j < n := by omega
      go_enter Try.func10, Try.ntmps10
      go_wp2_with fail
      rw [HUU.out]
      rw [show (n : Int) / 2 = (j : Int) by omega]
      have hrh := run_shead A n c j (by omega)
      have hrh2 := run_shead2 A n c j (by omega)
      obtain ⟨A2, ht, hrt, hrt2⟩ := ss_tail HS.out (show j ≤ n by omega)
      have HSH := Lib.hid (ss_head HS.out (show j ≤ n by omega))
      have HST := Lib.hid ht
      have HJ := Lib.hid hj
      have hNM : n * M ≤ 100000 := by rw [HN.out]; exact hN
      have hM1 : (l.take j).length * M ≤ 100000 := Nat.le_trans (Nat.mul_le_mul_right M (by rw [List.length_take, ← HNL.out]; omega)) hNM
      have hM2 : (l.drop j).length * M ≤ 100000 := Nat.le_trans (Nat.mul_le_mul_right M (by rw [List.length_drop, ← HNL.out]; omega)) hNM
      have HM1 := Lib.hid hM1; have HM2 := Lib.hid hM2
      clear ht hj hM1 hM2 hNM
      refine region_planE w.heap.size U 10 (.read [0, 1, 2, 4, 5, 6] (.one 3 (.one 7 (.one 8 (.one 9 .stop))))) (by kernel_rfl) (by kernel_rfl) (by kernel_rfl) (by kernel_rfl) (by kernel_rfl) (fun _ d _ _ _ h => by cases d <;> exact h) (Kept.refl _) ?_
      intro wd hwd
      have HD := Lib.hid hwd
      clear hwd
      rw [wpPlan_read]
      simp only [pickOps_cons, pickOps_nil, consO_some, List.getElem?_cons_zero, List.getElem?_cons_succ]
      repeat (go_big_quiet_step (fail))
      refine wpQuiet_nil ?_
      clear hrh hrh2 hrt hrt2
      rw [wpPlan_one]
      simp only [pickOps_cons, pickOps_nil, consO_some, List.getElem?_cons_zero, List.getElem?_cons_succ]
      go_wp2_with (go_at_call 10; refine (IH A j c (l.take j) _ (HSH.out.kept HD.out) (fun s hs => HL.out s (List.mem_of_mem_take hs)) (by have := HN.out; omega)).mono ?_; rintro e w3 ⟨A3, n3, c3, B3, m3, k3, D3, p3, q3, r3, rfl, hs3, hj3, hk3⟩)
      have HK3 := Lib.hid (HD.out.trans hk3)
      have HS3 := Lib.hid hs3; have HJ3 := Lib.hid hj3
      clear hs3 hj3 hk3
      refine soloE (.of HK3.out) ?_
      rw [wpPlan_one]
      simp only [pickOps_cons, pickOps_nil, consO_some, List.getElem?_cons_zero, List.getElem?_cons_succ]
      go_wp2_with (go_at_call 10; refine (IH A2 (n - j) (c - j) (l.drop j) _ (HST.out.kept HK3.out) (fun s hs => HL.out s (List.mem_of_mem_drop hs)) (by have := HN.out; omega)).mono ?_; rintro e w4 ⟨A4, n4, c4, B4, m4, k4, D4, p4, q4, r4, rfl, hs4, hj4, hk4⟩)
      have HK4 := Lib.hid (HK3.out.trans hk4)
      have HS4 := Lib.hid hs4; have HJ4 := Lib.hid hj4
      have HS3b := Lib.hid (HS3.out.kept hk4)
      clear hs4 hj4 hk4
      refine soloE (.of HK4.out) ?_
      rw [wpPlan_one]
      simp only [pickOps_cons, pickOps_nil, consO_some, List.getElem?_cons_zero, List.getElem?_cons_succ]
      have HO3 := Lib.hid (HJ3.out.1.ord (fun s hs => (HL.out s (List.mem_of_mem_take hs)).1))
      have HO4 := Lib.hid (HJ4.out.1.ord (fun s hs => (HL.out s (List.mem_of_mem_drop hs)).1))
      go_wp2_with (go_at_call 8; refine (join_any A3 n3 c3 B3 m3 k3 D3 p3 q3 r3 A4 n4 c4 B4 m4 k4 D4 p4 q4 r4 _ HS3b.out HS4.out HO3.out HO4.out (by rw [HS3b.out.el.1]; exact Nat.le_trans HJ3.out.2.1 HM1.out) (by rw [HS3b.out.dl.1]; exact Nat.le_trans HJ3.out.2.2 HM1.out) (by rw [HS4.out.el.1]; exact Nat.le_trans HJ4.out.2.1 HM2.out) (by rw [HS4.out.dl.1]; exact Nat.le_trans HJ4.out.2.2 HM2.out)).mono ?_; rintro e w5 ⟨A5, n5, c5, B5, m5, k5, D5, p5, q5, r5, rfl, hs5, hj5, hk5⟩)
      have HK5 := Lib.hid (HK4.out.trans hk5)
      have hb := HB.out.kept HK5.out
      have e0 := hb.c0; have e1 := hb.c1; have e2 := hb.c2; have ef0 := hb.f 0; have ef1 := hb.f 1; have ef2 := hb.f 2
      have HFIN := Lib.hid (stj_put (W := w) (S := AllJ l M) (s := r5) hs5 hb (Nat.le_refl _) (HK.out.trans HK5.out) (by rw [← List.take_append_drop j l]; exact AllJ.join HJ3.out HJ4.out (fun s hs => (HL.out s (List.mem_of_mem_take hs)).1) hj5))
      clear hs5 hj5 hk5 hb
      refine soloE (.of HK5.out) ?_
      rw [wpPlan_one]
      simp only [pickOps_cons, pickOps_nil, consO_some, List.getElem?_cons_zero, List.getElem?_cons_succ]
      go_wp2_with fail
      refine soloE ((((KeptE.of (G := w.heap.size) HK5.out).set (.inl rfl) _).set (.inl rfl) _).set (.inl rfl) _) ?_
      refine wpPlan_stop ?_
      go_wp2_with fail
      exact bodyPost_ret (by simp [results, Try.results10, go_sem, *]) rfl HFIN.out
theorem all_any (M : Nat) : ∀ (N : Nat), N * M ≤ 100000 → ∀ (A : Option Addr) (n c : Nat) (l : List Sta) (w : World), Ss w A n c l → (∀ s ∈ l, Ord s ∧ s.L.length ≤ M ∧ s.C.length ≤ M) → n = N →
    Calls Try.prog 10 #[.slice A n c] w (StJ (AllJ l M) w) := by
  intro N
  induction N using Nat.strongRecOn with
  | _ N ih =>
    intro hN A n c l w h hl hn
    exact all_step M N hN (fun A n c l w h hl hlt => ih n hlt (Nat.le_trans (Nat.mul_le_mul_right M (Nat.le_of_lt hlt)) hN) A n c l w h hl rfl) A n c l w h hl hn
end Go.Proofs.Ytcldbmhjfmbcfaa

namespace Go.Proofs.Ytcldbmhjfmbcfaa
open Go.RowKit

/-- A replica's dots up to a number. -/
def repD (i : Nat) (n : Int) : List (Int × Int) := (List.range n.toNat).map fun (s : Nat) => ((i : Int), (s : Int) + 1)
def dotsV (V : List Int) (k : Nat) : List (Int × Int) := (List.range k).flatMap fun i => repD i (V.getD i 0)
/-- P6.9. -/
def dotsC (V : List Int) (C : List (Int × Int)) : List (Int × Int) := dotsV V V.length ++ C
theorem dotsV_succ {V : List Int} {k : Nat} {x : Int} (h : V[k]? = some x) : dotsV V (k + 1) = dotsV V k ++ repD k x := by
  unfold dotsV
  rw [List.range_succ, List.flatMap_append]
  simp [List.getD_eq_getElem?_getD, h]
theorem repD_take (i : Nat) (x : Int) {s : Nat} (h : (s : Int) < x) : (repD i x).take (s + 1) = (repD i x).take s ++ [((i : Int), (s : Int) + 1)] := by
  rw [List.take_add_one]
  congr 1
  unfold repD
  rw [List.getElem?_map, List.getElem?_range (by omega)]
  rfl
theorem repD_all (i : Nat) (x : Int) {s : Nat} (h : x ≤ s) : (repD i x).take s = repD i x := by
  rw [List.take_of_length_le]
  unfold repD
  rw [List.length_map, List.length_range]
  omega
theorem out_add {L : List (Int × Int)} {M : Nat} {d : Int × Int} (h : (L.take M).length < M) : (L ++ [d]).take M = L.take M ++ [d] := by
  rw [List.length_take] at h
  rw [List.take_of_length_le (show (L ++ [d]).length ≤ M by rw [List.length_append]; simp; omega), List.take_of_length_le (by omega)]
theorem out_full {L X : List (Int × Int)} {M : Nat} (h : M ≤ (L.take M).length) : (L ++ X).take M = L.take M := by
  rw [List.length_take] at h
  rw [List.take_append_of_le_length (by omega)]
/-- The slice that grows, and what is left alone. -/
structure OutD (U wr : World) (v : Value) (L : List (Int × Int)) : Prop where
  own : wr.ownsRow U.heap.size 42 2 v L.length (flatD L)
  ke : Kept U wr
theorem OutD.start (U : World) : OutD U U (.slice none 0 0) [] := ⟨World.ownsRow_nil _ _ _ _, Kept.refl _⟩
theorem OutD.kept {U wr w' : World} {v : Value} {L : List (Int × Int)} (h : OutD U wr v L) (hk : Kept wr w') : OutD U w' v L := ⟨own_kept h.own hk, h.ke.trans hk⟩
theorem OutD.form {U wr : World} {v : Value} {L : List (Int × Int)} (h : OutD U wr v L) : ∃ A c, v = .slice A L.length c ∧ L.length ≤ c ∧ c ≤ 9223372036854775807 ∧ Dl wr A L.length c L := by
  obtain ⟨A, c, rfl, hd⟩ := Dl.of_own h.own
  exact ⟨A, c, rfl, hd.cap.1, hd.cap.2, hd⟩
theorem OutD.put {U wr : World} {v : Value} {L : List (Int × Int)} (h : OutD U wr v L) (hl : L.length ≤ 1000000) (x1 x2 : Int) :
    ∃ v' w', (Builtin.append_ #[24, 24] 24 #[v, .slice (some ⟨wr.heap.size, 0, none⟩) 1 1]).run Try.prog (wr.alloc (.cells #[.int .i64 x1, .int .i64 x2] 42)) = .ok v' w' ∧ OutD U w' v' (L ++ [(x1, x2)]) := by
  have h2 := h.kept ((Kept.refl wr).alloc #[.int .i64 x1, .int .i64 x2] 42)
  obtain ⟨v', w', hr, ho, hg⟩ := app_dots _ _ v L.length _ h2.own (some ⟨wr.heap.size, 0, none⟩) 1 1 [(x1, x2)] (dl_one wr x1 x2 _) (by omega) h2.ke.2.2
  exact ⟨v', w', hr, ⟨by rw [List.length_append, flatD_app]; exact ho, kept_grown h2.ke hg fun g hgb => (h2.own.lt g hgb).1⟩⟩

end Go.Proofs.Ytcldbmhjfmbcfaa

namespace Go.Proofs.Ytcldbmhjfmbcfaa
open Go.RowKit
set_option linter.unusedVariables false

def goneT (s : Sta) (L : List En) : List (Int × Int) := (L.filter fun x => !stayE s.L s.V s.C x).map (·.d)
theorem goneT_all (s t : Sta) : goneT s t.L = goneE s t := by
  unfold goneT goneE
  congr 2
  funext x
  unfold stayE
  rw [Bool.not_or, Bool.not_not]
  rfl
theorem gone_skip {s : Sta} {L : List En} {t : Nat} {x : En} (h : L[t]? = some x) (hx : stayE s.L s.V s.C x = true) : goneT s (L.take (t + 1)) = goneT s (L.take t) := by
  unfold goneT
  rw [filt_skip h (by rw [hx]; rfl)]
theorem gone_put {s : Sta} {L : List En} {t : Nat} {x : En} (h : L[t]? = some x) (hx : stayE s.L s.V s.C x = false) : goneT s (L.take (t + 1)) = goneT s (L.take t) ++ [(x.d.1, x.d.2)] := by
  unfold goneT
  rw [filt_put h (by rw [hx]; rfl), List.map_append]
  rfl
/-- Dots that a call hands back. -/
def DotsR (L : List (Int × Int)) (w : World) (e : Ending) (w' : World) : Prop := ∃ A c, e = .returned (.slice A L.length c) ∧ Dl w' A L.length c L ∧ Kept w w'

set_option maxRecDepth 100000 in
set_option maxHeartbeats 8000000 in
theorem gone_any (A : Option Addr) (n c : Nat) (B : Option Addr) (m k : Nat) (D : Option Addr) (p q : Nat) (a : Sta) (A' : Option Addr) (n' c' : Nat) (u1 u2 : Value) (b : Sta) (w : World)
    (h : Stt w A n c B m k D p q a.L a.V a.C) (h' : El w A' n' c' b.L) (ha : Ord a) (hL : ∀ x ∈ b.L, WfD x.d) (hn : n ≤ 100000) (hp : p ≤ 100000) (hn' : n' ≤ 100000) :
    Calls Try.prog 18 #[.agg #[.slice A n c, .slice B m k, .slice D p q], .agg #[.slice A' n' c', u1, u2]] w (DotsR (goneE a b) w) := by
  have hk := ((Kept.refl w).alloc #[.slice A n c, .slice B m k, .slice D p q] 28).alloc #[.slice A' n' c', u1, u2] 28
  have b0 := (Box3.new w (.slice A n c) (.slice B m k) (.slice D p q) 28).kept ((Kept.refl _).alloc #[.slice A' n' c', u1, u2] 28)
  have b1 := Box3.new (w.alloc (.cells #[.slice A n c, .slice B m k, .slice D p q] 28)) (.slice A' n' c') u1 u2 28
  rw [show (w.alloc (.cells #[.slice A n c, .slice B m k, .slice D p q] 28)).heap.size = w.heap.size + 1 by simp] at b1
  have hcap := h'.cap.1; have hcap2 := h'.cap.2
  have hs := h.kept hk
  have HA := Lib.hid hs; have HE := Lib.hid (h'.kept hk)
  have HOA := Lib.hid ha; have HWL := Lib.hid hL
  have HK := Lib.hid hk; have HB1 := Lib.hid b1
  have HNA := Lib.hid h.el.1; have HNB := Lib.hid h'.1
  have AS := Lib.hid (staying_any A n c a.L B m k a.V D p q a.C _ hs ha.wfC (by omega))
  have y0 := b0.c0; have y1 := b0.c1; have y2 := b0.c2
  clear h h' ha hL hk b0 b1 hs
  go_enter Try.func18, Try.ntmps18
  go_wp2_with fail
  go_at_call 31
  refine AS.out.mono ?_
  rintro e w1 ⟨sb, hb, rfl, hst, hk1⟩
  have HST := Lib.hid hst
  have HK1 := Lib.hid (HK.out.trans hk1)
  have HE1 := Lib.hid (HE.out.kept hk1)
  have z0 := (HB1.out.kept hk1).c0
  clear hst hk1 y0 y1 y2
  go_wp2_with fail
  clear z0
  go_loopw [6, 14] (fun v i wr => ∃ t : Nat, t ≤ n' ∧ i = .int .i64 t ∧ OutD w1 wr v (goneT a (b.L.take t))) (fun _ i _ => n' - (intOf i).toNat)
  case atStart => exact ⟨0, Nat.zero_le _, rfl, by rw [List.take_zero]; exact OutD.start w1⟩
  case round =>
    obtain ⟨t, ht, rfl, hm⟩ := hrel
    obtain ⟨A3, c3, rfl, hc3, hcm3, hel3⟩ := hm.form
    have HO := Lib.hid hm
    have HE3 := Lib.hid hel3
    clear hm hel3
    by_cases hlt : t < n'
    · obtain ⟨g, o, x, rfl, hx, EX⟩ := (HE1.out.kept HO.out.ke).get hlt
      have x0 := EX.c0; have x1 := EX.c1; have x2 := EX.c2; have x3 := EX.c3; have x4 := EX.c4; have x5 := EX.c5; have x6 := EX.c6; have x7 := EX.c7; have x8 := EX.c8
      have HXX := Lib.hid hx
      obtain ⟨z, hz⟩ : ∃ z, stayE a.L a.V a.C x = z := ⟨_, rfl⟩
      have hka := (Kept.refl wr).alloc #[.int .i64 x.d.1, .int .i64 x.d.2, .string x.p, .int .i64 x.k, .int .i64 x.vk, .int .i64 x.vn, .string x.vt, .int .i64 x.e.1, .int .i64 x.e.2] 46
      have AP := Lib.hid (stay1_any sb hb a.L a.V a.C x _ (HST.out.kept (HO.out.ke.trans hka)) HOA.out.rise (by have := HNA.out; omega) HOA.out.wfC (HWL.out x (List.mem_of_getElem? hx)) z hz)
      have HZ := Lib.hid hz
      have HEN := Lib.hid (Ent.new wr x 46)
      clear EX hx hz hka
      have e5 := HEN.out
      have z0 := e5.c0; have z1 := e5.c1; have z2 := e5.c2; have z3 := e5.c3; have z4 := e5.c4; have z5 := e5.c5; have z6 := e5.c6; have z7 := e5.c7; have z8 := e5.c8
      clear e5
      go_wp2_with fail
      go_at_call 53
      refine AP.out.mono ?_
      rintro e w5 ⟨rfl, hk5⟩
      have hk6 := ((Kept.refl wr).alloc #[.int .i64 x.d.1, .int .i64 x.d.2, .string x.p, .int .i64 x.k, .int .i64 x.vk, .int .i64 x.vn, .string x.vt, .int .i64 x.e.1, .int .i64 x.e.2] 46).trans hk5
      have HE5 := Lib.hid (HEN.out.kept hk5)
      clear x0 x1 x2 x3 x4 x5 x6 x7 x8
      clear z0 z1 z2 z3 z4 z5 z6 z7 z8
      cases z with
      | true =>
        have HN := Lib.hid (gone_skip HXX.out HZ.out)
        have HO6 := Lib.hid (HO.out.kept hk6)
        clear hk5 hk6
        go_wp2_with fail
        go_roundw
        case rel => exact ⟨t + 1, hlt, by go_num, by rw [HN.out]; exact HO6.out⟩
        case measure => simp [intOf]; omega
      | false =>
        have HN := Lib.hid (gone_put HXX.out HZ.out)
        have hle : (goneT a (b.L.take t)).length ≤ 1000000 := by
          unfold goneT
          rw [List.length_map]
          exact Nat.le_trans (List.length_filter_le ..) (by rw [List.length_take]; omega)
        obtain ⟨v8, w8, hr8, ho8⟩ := (HO.out.kept hk6).put hle x.d.1 x.d.2
        have HR8 := Lib.hid hr8
        have HO8 := Lib.hid ho8
        have e5 := HE5.out
        have y0 := e5.c0; have y1 := e5.c1
        clear hr8 ho8 hk5 hk6 e5 hle
        go_wp2_with (at_builtin; refine Lib.wpList_append_run _ rfl (.tmp 22) (.tmp 25) _ _ rfl _ _ rfl rfl _ _ HR8.out ?_)
        go_roundw
        case rel => exact ⟨t + 1, hlt, by go_num, by rw [HN.out]; exact HO8.out⟩
        case measure => simp [intOf]; omega
    · obtain rfl : t = n' := by omega
      have HT := Lib.hid (show goneT a (b.L.take t) = goneE a b by rw [show b.L.take t = b.L from List.take_of_length_le (by rw [← HNB.out]; exact Nat.le_refl _), goneT_all])
      go_wp2_with fail
      go_ret
      rw [HT.out] at HE3 ⊢
      exact ⟨A3, c3, rfl, HE3.out, HK1.out.trans HO.out.ke⟩
end Go.Proofs.Ytcldbmhjfmbcfaa

