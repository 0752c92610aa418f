/-
  What is proved: the document's Gone of layer 9 (P9.5), called with any two states, the first in order, returns the dots of what the second has and the first knows, but has not; the world has new blocks at most.
  the document's All of layer 9 (P9.2), called with any slice of states in order, returns what is joined of them, one by one; the world has new blocks at most.
  the helper Entries of layer 8's laws returns true of two slices that hold the same entries; the document's Same of layer 8 (P8.7) tells whether two states are the same, its Covers of layer 9 (P9.3) whether one is what is joined of both; the world has new blocks at most.
-/
import Derived.Test.YtcldbmhjfmbcfaaM27
import Derived.Test.YtcldbmhjfmbcfaaM28
import Derived.Test.YtcldbmhjfmbcfaaJRJoin
import Derived.Test.YtcldbmhjfmbcfaaM25
import Derived.Test.YtcldbmhjfmbcfaaM20
namespace Go.Proofs.Ytcldbmhjfmbcfaa
open Go.RowKit
set_option linter.unusedVariables false

set_option maxRecDepth 100000 in
set_option maxHeartbeats 8000000 in
theorem rgone_any (A : Option Addr) (n c : Nat) (B : Option Addr) (m k : Nat) (D : Option Addr) (p q : Nat) (a : Sta) (A' : Option Addr) (n' c' : Nat) (u1 u2 : Value) (b : Sta) (w : World)
    (h : Stt w A n c B m k D p q a.L a.V a.C) (h' : El w A' n' c' b.L) (ha : Ord a) (hn : n ≤ 100000) (hn' : n' ≤ 100000) :
    Calls Try.prog 19 #[.agg #[.slice A n c, .slice B m k, .slice D p q], .agg #[.slice A' n' c', u1, u2]] w (DotsR (goneE a b) w) := by
  have hk := ((Kept.refl w).alloc #[.slice A n c, .slice B m k, .slice D p q] 28).alloc #[.slice A' n' c', u1, u2] 28
  have b0 := (Box3.new w (.slice A n c) (.slice B m k) (.slice D p q) 28).kept ((Kept.refl _).alloc #[.slice A' n' c', u1, u2] 28)
  have b1 := Box3.new (w.alloc (.cells #[.slice A n c, .slice B m k, .slice D p q] 28)) (.slice A' n' c') u1 u2 28
  rw [show (w.alloc (.cells #[.slice A n c, .slice B m k, .slice D p q] 28)).heap.size = w.heap.size + 1 by simp] at b1
  have hcap := h'.cap.1; have hcap2 := h'.cap.2
  have HNB := Lib.hid h'.1
  have HS := Lib.hid (h.kept hk); have HE := Lib.hid (h'.kept hk)
  obtain ⟨U, hU⟩ : ∃ U, (w.alloc (.cells #[.slice A n c, .slice B m k, .slice D p q] 28)).alloc (.cells #[.slice A' n' c', u1, u2] 28) = U := ⟨_, rfl⟩
  rw [hU] at hk b0 b1 HS HE
  have HOA := Lib.hid ha; have HUU := Lib.hid hU; have HK := Lib.hid hk; have HB0 := Lib.hid b0
  have d0 := b1.c0
  clear h h' ha hk hU b0 b1
  go_enter Try.func19, Try.ntmps19
  go_wp2_with fail
  rw [HUU.out]
  go_wp2_with fail
  clear d0
  go_loopw [5, 13] (fun v i wr => ∃ t : Nat, t ≤ n' ∧ i = .int .i64 t ∧ OutD U wr v (goneT a (b.L.take t))) (fun _ i _ => n' - (intOf i).toNat)
  case atStart => exact ⟨0, Nat.zero_le _, rfl, by rw [List.take_zero]; exact OutD.start U⟩
  case round =>
    obtain ⟨t, ht, rfl, hm⟩ := hrel
    obtain ⟨A3, c3, rfl, hc3, hcm3, hel3⟩ := hm.form
    have HO := Lib.hid hm
    have HE3 := Lib.hid hel3
    clear hm hel3
    by_cases hlt : t < n'
    · obtain ⟨g, o, x, rfl, hx, EX⟩ := (HE.out.kept HO.out.ke).get hlt
      have x0 := EX.c0; have x1 := EX.c1; have x2 := EX.c2; have x3 := EX.c3; have x4 := EX.c4; have x5 := EX.c5; have x6 := EX.c6; have x7 := EX.c7; have x8 := EX.c8
      have HXX := Lib.hid hx
      obtain ⟨z, hz⟩ : ∃ z, hasE a.L x.d = z := ⟨_, rfl⟩
      obtain ⟨z1, hz1⟩ : ∃ z1, decide (hasC a.V a.C x.d) = z1 := ⟨_, rfl⟩
      have hka := (Kept.refl wr).alloc #[.int .i64 x.d.1, .int .i64 x.d.2, .string x.p, .int .i64 x.k, .int .i64 x.vk, .int .i64 x.vn, .string x.vt, .int .i64 x.e.1, .int .i64 x.e.2] 46
      have AG := Lib.hid (rget_any A n c a.L (.slice B m k) (.slice D p q) x.d.1 x.d.2 _ (HS.out.el.kept (HO.out.ke.trans hka)) HOA.out.rise (by omega) z hz)
      have hb := HB0.out.kept (HO.out.ke.trans hka)
      have q0 := hb.c0; have q1 := hb.c1; have q2 := hb.c2
      have HZ := Lib.hid (show stayE a.L a.V a.C x = (z || !z1) by unfold stayE; rw [hz, hz1])
      have HZ1 := Lib.hid hz1
      have HEN := Lib.hid (Ent.new wr x 46)
      have HKA := Lib.hid hka
      clear EX hx hz hz1 hb hka
      have e5 := HEN.out
      have z0 := e5.c0; have z1 := e5.c1; have z2 := e5.c2; have z3 := e5.c3; have z4 := e5.c4; have z5 := e5.c5; have z6 := e5.c6; have z7 := e5.c7; have z8 := e5.c8
      clear e5
      go_wp2_with fail
      go_at_call 39
      refine AG.out.mono ?_
      rintro e w5 ⟨y, rfl, -, -, hk5⟩
      have hk6 := (HKA.out.trans hk5).alloc #[.int .i64 y.d.1, .int .i64 y.d.2, .string y.p, .int .i64 y.k, .int .i64 y.vk, .int .i64 y.vn, .string y.vt, .int .i64 y.e.1, .int .i64 y.e.2] 46
      have HK6 := Lib.hid hk6
      have HE6 := Lib.hid (HEN.out.kept (hk5.alloc #[.int .i64 y.d.1, .int .i64 y.d.2, .string y.p, .int .i64 y.k, .int .i64 y.vk, .int .i64 y.vn, .string y.vt, .int .i64 y.e.1, .int .i64 y.e.2] 46))
      have hb := HB0.out.kept (HO.out.ke.trans hk6)
      have r1 := hb.c1; have r2 := hb.c2
      have e6 := HE6.out
      have v0 := e6.c0; have v1 := e6.c1
      clear hk5 hk6 hb e6
      clear x0 x1 x2 x3 x4 x5 x6 x7 x8 q0 q1 q2
      clear z0 z1 z2 z3 z4 z5 z6 z7 z8
      cases z with
      | true =>
        have HN := Lib.hid (gone_skip HXX.out (s := a) HZ.out)
        have HO6 := Lib.hid (HO.out.kept HK6.out)
        go_wp2_with fail
        go_roundw
        case rel => exact ⟨t + 1, hlt, by go_num, by rw [HN.out]; exact HO6.out⟩
        case measure => simp [intOf]; omega
      | false =>
        have AH := Lib.hid (rhasC_any B m k a.V D p q a.C x.d.1 x.d.2 _ (HS.out.il.kept (HO.out.ke.trans HK6.out)) (HS.out.dl.kept (HO.out.ke.trans HK6.out)) z1 HZ1.out)
        go_wp2_with fail
        go_at_call 38
        refine AH.out.mono ?_
        rintro e w6 ⟨rfl, hk7⟩
        replace HK6 := Lib.hid (HK6.out.trans hk7)
        replace HE6 := Lib.hid (HE6.out.kept hk7)
        clear hk7 r1 r2 v0 v1
        cases z1 with
        | true =>
          have HN := Lib.hid (gone_put HXX.out (s := a) HZ.out)
          have hle : (goneT a (b.L.take t)).length ≤ 1000000 := by
            unfold goneT
            rw [List.length_map]
            exact Nat.le_trans (List.length_filter_le ..) (by rw [List.length_take]; omega)
          obtain ⟨v8, w8, hr8, ho8⟩ := (HO.out.kept HK6.out).put hle x.d.1 x.d.2
          have HR8 := Lib.hid hr8
          have HO8 := Lib.hid ho8
          have e5 := HE6.out
          have y0 := e5.c0; have y1 := e5.c1
          clear hr8 ho8 e5 hle
          go_wp2_with (at_builtin; refine Lib.wpList_append_run _ rfl (.tmp 33) (.tmp 36) _ _ rfl _ _ rfl rfl _ _ HR8.out ?_)
          go_roundw
          case rel => exact ⟨t + 1, hlt, by go_num, by rw [HN.out]; exact HO8.out⟩
          case measure => simp [intOf]; omega
        | false =>
          have HN := Lib.hid (gone_skip HXX.out (s := a) HZ.out)
          have HO6 := Lib.hid (HO.out.kept HK6.out)
          go_wp2_with fail
          go_roundw
          case rel => exact ⟨t + 1, hlt, by go_num, by rw [HN.out]; exact HO6.out⟩
          case measure => simp [intOf]; omega
    · obtain rfl : t = n' := by omega
      have HT := Lib.hid (show goneT a (b.L.take t) = goneE a b by rw [show b.L.take t = b.L from List.take_of_length_le (by rw [← HNB.out]; exact Nat.le_refl _), goneT_all])
      go_wp2_with fail
      go_ret
      rw [HT.out] at HE3 ⊢
      exact ⟨A3, c3, rfl, HE3.out, HK.out.trans HO.out.ke⟩
end Go.Proofs.Ytcldbmhjfmbcfaa

namespace Go.Proofs.Ytcldbmhjfmbcfaa
open Go.RowKit
set_option linter.unusedVariables false

theorem box3_keptE {G : Nat} {W w : World} {b : Nat} {u0 u1 u2 : Value} (h : Box3 W b u0 u1 u2) (k : KeptE G W w) (hb : b ≠ G) : Box3 w b u0 u1 u2 :=
  ⟨k.cell hb h.c0, k.cell hb h.c1, k.cell hb h.c2, fun j => k.froz hb h.lt (h.f j), Nat.lt_of_lt_of_le h.lt k.size⟩
/-- What the document's All keeps: what is joined so far lies in block b. -/
def AllM (U : World) (b : Nat) (l : List Sta) (M : Nat) (wr : World) : Prop :=
  KeptE b U wr ∧ ∃ A n c B m k D p q s, Box3 wr b (.slice A n c) (.slice B m k) (.slice D p q) ∧ Stt wr A n c B m k D p q (Sta.L s) (Sta.V s) (Sta.C s) ∧ AllJ l M s
set_option maxRecDepth 100000 in
set_option maxHeartbeats 8000000 in
theorem rall_any (M : Nat) (A : Option Addr) (n c : Nat) (l : List Sta) (w : World) (h : Ss w A n c l) (hl : ∀ s ∈ l, Ord s ∧ s.L.length ≤ M ∧ s.C.length ≤ M) (hN : n * M ≤ 100000) :
    Calls Try.prog 11 #[.slice A n c] w (StJ (AllJ l M) w) := by
  have hk := ((Kept.refl w).alloc #[.slice none 0 0, .slice none 0 0, .slice none 0 0] 28).alloc #[.slice none 0 0, .slice none 0 0, .slice none 0 0] 28
  have b0 := (Box3.new w (.slice none 0 0) (.slice none 0 0) (.slice none 0 0) 28).kept ((Kept.refl _).alloc #[.slice none 0 0, .slice none 0 0, .slice none 0 0] 28)
  have b1 := Box3.new (w.alloc (.cells #[.slice none 0 0, .slice none 0 0, .slice none 0 0] 28)) (.slice none 0 0) (.slice none 0 0) (.slice none 0 0) 28
  rw [show (w.alloc (.cells #[.slice none 0 0, .slice none 0 0, .slice none 0 0] 28)).heap.size = w.heap.size + 1 by simp] at b1
  have hcap := h.cap.1; have hcap2 := h.cap.2
  have HNL := Lib.hid h.1; have HL := Lib.hid hl
  have HS := Lib.hid h
  obtain ⟨U, hU⟩ : ∃ U, (w.alloc (.cells #[.slice none 0 0, .slice none 0 0, .slice none 0 0] 28)).alloc (.cells #[.slice none 0 0, .slice none 0 0, .slice none 0 0] 28) = U := ⟨_, rfl⟩
  rw [hU] at hk b0 b1
  have HUU := Lib.hid hU; have HK := Lib.hid hk; have HB0 := Lib.hid b0; have HB1 := Lib.hid b1
  clear h hl hk hU b0 b1
  go_enter Try.func11, Try.ntmps11
  go_wp2_with fail
  rw [HUU.out]
  go_loopw [8] (fun i wr => ∃ t : Nat, t ≤ n ∧ i = .int .i64 t ∧ AllM U (w.heap.size + 1) (l.take t) M wr) (fun i _ => n - (intOf i).toNat)
  case atStart => exact ⟨0, Nat.zero_le _, rfl, KeptE.refl _ _, none, 0, 0, none, 0, 0, none, 0, 0, .none, HB1.out, stt_none _, by rw [List.take_zero]; exact ⟨AllR.nil, Nat.zero_le _, Nat.zero_le _⟩⟩
  case round =>
    obtain ⟨t, ht, rfl, hke, A1, n1, c1, B1, m1, k1, D1, p1, q1, s, hb1, hs1, haj⟩ := hrel
    have HE := Lib.hid hke; have HB := Lib.hid hb1; have HS1 := Lib.hid hs1; have HAJ := Lib.hid haj
    have HKW := Lib.hid (hke.kept HK.out (by omega))
    have hlb := hb1.lt
    clear hke hb1 hs1 haj
    have HSW := Lib.hid (HS.out.kept HKW.out)
    by_cases hlt : t < n
    · have hMt : (t + 1) * M ≤ 100000 := Nat.le_trans (Nat.mul_le_mul_right M hlt) hN
      have hMm : t * M + M ≤ 100000 := by rw [Nat.add_mul, Nat.one_mul] at hMt; exact hMt
      have htl : (l.take t).length = t := by rw [List.length_take]; have := HNL.out; omega
      obtain ⟨g, o, x, rfl, hx, hst⟩ := (HSW.out).get hlt
      obtain ⟨A2, n2, c2, B2, m2, k2, D2, p2, q2, s0, s1, s2, hsx⟩ := hst
      have HOX := Lib.hid (HL.out x (List.mem_of_getElem? hx))
      have HOS := Lib.hid (HAJ.out.1.ord (fun y hy => (HL.out y (List.mem_of_mem_take hy)).1))
      have hka := (Kept.refl wr).alloc #[.slice A2 n2 c2, .slice B2 m2 k2, .slice D2 p2 q2] 28
      have hbk := HB.out.kept hka
      have hbx := Box3.new wr (.slice A2 n2 c2) (.slice B2 m2 k2) (.slice D2 p2 q2) 28
      have b0 := hbk.c0; have b1 := hbk.c1; have b2 := hbk.c2; have d0 := hbx.c0; have d1 := hbx.c1; have d2 := hbx.c2
      have AJ := Lib.hid (rjoin_st A1 n1 c1 B1 m1 k1 D1 p1 q1 s A2 n2 c2 B2 m2 k2 D2 p2 q2 x _ (HS1.out.kept hka) (hsx.kept hka) HOS.out HOX.out.1 (by have := HS1.out.el.1; have := HAJ.out.2.1; rw [htl] at this; omega) (by have := HS1.out.dl.1; have := HAJ.out.2.2; rw [htl] at this; omega) (by have := hsx.el.1; have := HOX.out.2.1; omega) (by have := hsx.dl.1; have := HOX.out.2.2; omega))
      have HTK := Lib.hid (show l.take (t + 1) = l.take t ++ [x] by rw [List.take_add_one, hx]; rfl)
      have HKA := Lib.hid hka; have HBK := Lib.hid hbk
      clear hx hsx hka hbk hbx hMt hMm htl
      go_wp2_with fail
      go_at_call 9
      refine AJ.out.mono ?_
      rintro e w3 ⟨A3, n3, c3, B3, m3, k3, D3, p3, q3, j, rfl, hs3, hj3, hk3⟩
      have hb := HBK.out.kept hk3
      have HEND := Lib.hid (show AllM U (w.heap.size + 1) (l.take (t + 1)) M (((w3.setCell ⟨w.heap.size + 1, 0, none⟩ (.slice A3 n3 c3)).setCell ⟨w.heap.size + 1, 1, none⟩ (.slice B3 m3 k3)).setCell ⟨w.heap.size + 1, 2, none⟩ (.slice D3 p3 q3)) from
        ⟨(((HE.out.trans (HKA.out.trans hk3)).set (a := ⟨w.heap.size + 1, 0, none⟩) (.inl rfl) _).set (a := ⟨w.heap.size + 1, 1, none⟩) (.inl rfl) _).set (a := ⟨w.heap.size + 1, 2, none⟩) (.inl rfl) _, A3, n3, c3, B3, m3, k3, D3, p3, q3, j, hb.set3 _ _ _, ⟨hb.el _ _ _ hs3.el, hb.il _ _ _ hs3.il, hb.dl _ _ _ hs3.dl⟩, by
          rw [HTK.out]
          exact AllJ.join HAJ.out ⟨AllR.self HOX.out.1, by simpa using HOX.out.2.1, by simpa using HOX.out.2.2⟩ (fun y hy => (HL.out y (List.mem_of_mem_take hy)).1) hj3⟩)
      have e0 := hb.c0; have e1 := hb.c1; have e2 := hb.c2; have ef0 := hb.f 0; have ef1 := hb.f 1; have ef2 := hb.f 2
      clear hs3 hj3 hk3 hb b0 b1 b2 d0 d1 d2 s0 s1 s2
      go_wp2_with fail
      go_roundw
      case rel => exact ⟨t + 1, hlt, by go_num, HEND.out⟩
      case measure => simp [intOf]; omega
    · obtain rfl : t = n := by omega
      have HT := Lib.hid (show l.take t = l from List.take_of_length_le (by rw [← HNL.out]; exact Nat.le_refl _))
      have hb := HB.out
      have b0 := hb.c0; have b1 := hb.c1; have b2 := hb.c2
      have hbr := box3_keptE HB0.out HE.out (by omega)
      have e0 := hbr.c0; have e1 := hbr.c1; have e2 := hbr.c2; have ef0 := hbr.f 0; have ef1 := hbr.f 1; have ef2 := hbr.f 2
      have HFIN := Lib.hid (stj_put (W := w) (S := AllJ l M) (s := s) HS1.out hbr (Nat.le_refl _) HKW.out (by rw [HT.out] at HAJ; exact HAJ.out))
      clear hb hbr
      go_wp2_with fail
      exact bodyPost_ret (by simp [results, Try.results11, go_sem, *]) rfl HFIN.out
end Go.Proofs.Ytcldbmhjfmbcfaa

namespace Go.Proofs.Ytcldbmhjfmbcfaa
open Go.RowKit
set_option linter.unusedVariables false

set_option maxRecDepth 100000 in
set_option maxHeartbeats 8000000 in
theorem entries_yes (A : Option Addr) (n c : Nat) (A' : Option Addr) (n' c' : Nat) (L L' : List En) (w : World) (h : El w A n c L) (h' : El w A' n' c' L') (hLL : L = L') :
    Calls Try.prog 14 #[.slice A n c, .slice A' n' c'] w fun e w' => e = .returned (.bool true) ∧ Kept w w' := by
  subst hLL
  obtain rfl : n = n' := h.1.trans h'.1.symm
  have hcap := h.cap.1; have hcap2 := h.cap.2; have hcap' := h'.cap.1; have hcap2' := h'.cap.2
  have HI := Lib.hid h; have HI' := Lib.hid h'
  clear h h'
  go_enter Try.func14, Try.ntmps14
  go_wp2_with fail
  go_loopw [13] (fun i wr => ∃ j : Nat, j ≤ n ∧ i = .int .i64 j ∧ Kept w wr) (fun i _ => n - (intOf i).toNat)
  case atStart => exact ⟨0, Nat.zero_le _, rfl, Kept.refl _⟩
  case round =>
    obtain ⟨j, hj, rfl, hkr⟩ := hrel
    have HR2 := Lib.hid hkr
    clear hkr
    by_cases hlt : j < n
    · obtain ⟨g, o, y, rfl, hy, EY⟩ := (HI.out.kept HR2.out).get hlt
      obtain ⟨g', o', x, rfl, hx, EX⟩ := (HI'.out.kept HR2.out).get hlt
      have y0 := KExt.cell EY.c0; have y1 := KExt.cell EY.c1; have y2 := KExt.cell EY.c2; have y3 := KExt.cell EY.c3; have y4 := KExt.cell EY.c4; have y5 := KExt.cell EY.c5; have y6 := KExt.cell EY.c6; have y7 := KExt.cell EY.c7; have y8 := KExt.cell EY.c8
      have x0 := KExt.cell EX.c0; have x1 := KExt.cell EX.c1; have x2 := KExt.cell EX.c2; have x3 := KExt.cell EX.c3; have x4 := KExt.cell EX.c4; have x5 := KExt.cell EX.c5; have x6 := KExt.cell EX.c6; have x7 := KExt.cell EX.c7; have x8 := KExt.cell EX.c8
      have hyy : y = x := Option.some.inj (hy.symm.trans hx)
      obtain ⟨d0, d1, d2, d3, d4, d5, d6, d7, d8⟩ := en_eq hyy
      clear hyy hy hx EY EX
      go_wp2_with fail
      refine region_kept _ (by kernel_rfl) (by kernel_rfl) (Kept.refl _) ?_
      repeat (go_big_quiet_step (fail))
      refine wpQuiet_nil ?_
      intro G
      clear y0 y1 y2 y3 y4 y5 y6 y7 y8 x0 x1 x2 x3 x4 x5 x6 x7 x8
      go_wp2_with fail
      go_roundw
      case rel => exact ⟨j + 1, hlt, by go_num, HR2.out.trans G.g⟩
      case measure => simp [intOf]; omega
    · obtain rfl : j = n := by omega
      go_wp2_with fail
      go_ret
      exact ⟨rfl, HR2.out⟩

set_option maxRecDepth 100000 in
set_option maxHeartbeats 8000000 in
theorem rsame_any (A : Option Addr) (n c : Nat) (B : Option Addr) (m k : Nat) (D : Option Addr) (p q : Nat) (a : Sta) (A' : Option Addr) (n' c' : Nat) (B' : Option Addr) (m' k' : Nat) (D' : Option Addr) (p' q' : Nat) (b : Sta) (w : World)
    (h : Stt w A n c B m k D p q a.L a.V a.C) (h' : Stt w A' n' c' B' m' k' D' p' q' b.L b.V b.C) (r : Bool) (hr : r = true ↔ a.L = b.L ∧ a.V = b.V ∧ a.C = b.C) :
    Calls Try.prog 7 #[.agg #[.slice A n c, .slice B m k, .slice D p q], .agg #[.slice A' n' c', .slice B' m' k', .slice D' p' q']] w fun e w' => e = .returned (.bool r) ∧ Kept w w' := by
  have hk := ((Kept.refl w).alloc #[.slice A n c, .slice B m k, .slice D p q] 28).alloc #[.slice A' n' c', .slice B' m' k', .slice D' p' q'] 28
  have b0 := (Box3.new w (.slice A n c) (.slice B m k) (.slice D p q) 28).kept ((Kept.refl _).alloc #[.slice A' n' c', .slice B' m' k', .slice D' p' q'] 28)
  have b1 := Box3.new (w.alloc (.cells #[.slice A n c, .slice B m k, .slice D p q] 28)) (.slice A' n' c') (.slice B' m' k') (.slice D' p' q') 28
  rw [show (w.alloc (.cells #[.slice A n c, .slice B m k, .slice D p q] 28)).heap.size = w.heap.size + 1 by simp] at b1
  have hcap := h.el.cap.1; have hcap2 := h.el.cap.2; have hcap' := h'.el.cap.1; have hcap2' := h'.el.cap.2
  have HN := Lib.hid h.el.1; have HN' := Lib.hid h'.el.1
  have HS := Lib.hid (h.kept hk); have HS' := Lib.hid (h'.kept hk)
  have HR := Lib.hid hr; have HK := Lib.hid hk
  have HB0 := Lib.hid b0; have HB1 := Lib.hid b1
  have y0 := b0.c0; have y1 := b0.c1; have y2 := b0.c2; have z0 := b1.c0; have z1 := b1.c1; have z2 := b1.c2
  clear h h' hr hk b0 b1
  by_cases hn : n = n'
  · subst hn
    obtain ⟨r0, hr0⟩ : ∃ r0, decide (a.V = b.V ∧ a.C = b.C) = r0 := ⟨_, rfl⟩
    have AC := Lib.hid (rsameC_any B m k a.V D p q a.C B' m' k' b.V D' p' q' b.C _ HS.out.il HS.out.dl HS'.out.il HS'.out.dl r0 hr0)
    have HR0 := Lib.hid hr0
    clear hr0
    cases r0 with
    | false =>
      have HF := Lib.hid (show false = r by
        rw [eq_comm, ← Bool.not_eq_true, HR.out]
        exact fun hh => (decide_eq_false_iff_not.1 HR0.out) hh.2)
      go_enter Try.func7, Try.ntmps7
      go_wp2_with fail
      go_at_call 28
      refine AC.out.mono ?_
      rintro e w1 ⟨rfl, hk1⟩
      have HK1 := Lib.hid (HK.out.trans hk1)
      clear hk1 y0 y1 y2 z0 z1 z2
      go_wp2_with fail
      go_ret
      exact ⟨ret_bool HF.out, HK1.out⟩
    | true =>
      go_enter Try.func7, Try.ntmps7
      go_wp2_with fail
      go_at_call 28
      refine AC.out.mono ?_
      rintro e w1 ⟨rfl, hk1⟩
      have HK1 := Lib.hid (HK.out.trans hk1)
      replace HS := Lib.hid (HS.out.kept hk1); replace HS' := Lib.hid (HS'.out.kept hk1)
      replace HB0 := Lib.hid (HB0.out.kept hk1); replace HB1 := Lib.hid (HB1.out.kept hk1)
      clear hk1 y0 y1 y2 z0 z1 z2
      have y0 := HB0.out.c0
      go_wp2_with fail
      clear y0
      go_loopw [24] (fun i wr => ∃ j : Nat, j ≤ n ∧ i = .int .i64 j ∧ Kept w1 wr ∧ ∀ i, i < j → a.L[i]? = b.L[i]?) (fun i _ => n - (intOf i).toNat)
      case atStart => exact ⟨0, Nat.zero_le _, rfl, Kept.refl _, fun i hi => absurd hi (by omega)⟩
      case round =>
        obtain ⟨j, hj, rfl, hkr, hall⟩ := hrel
        have HR2 := Lib.hid hkr
        have HA := Lib.hid hall
        clear hkr hall
        by_cases hlt : j < n
        · obtain ⟨g, o, y, hgA, hy, EY⟩ := (HS.out.el.kept HR2.out).get hlt
          obtain ⟨g', o', x, hgA', hx, EX⟩ := (HS'.out.el.kept HR2.out).get hlt
          have v0 := KExt.cell (HB0.out.kept HR2.out).c0; have v1 := KExt.cell (HB1.out.kept HR2.out).c0
          rw [hgA] at v0
          rw [hgA'] at v1
          have y0 := KExt.cell EY.c0; have y1 := KExt.cell EY.c1; have y2 := KExt.cell EY.c2; have y3 := KExt.cell EY.c3; have y4 := KExt.cell EY.c4; have y5 := KExt.cell EY.c5; have y6 := KExt.cell EY.c6; have y7 := KExt.cell EY.c7; have y8 := KExt.cell EY.c8
          have x0 := KExt.cell EX.c0; have x1 := KExt.cell EX.c1; have x2 := KExt.cell EX.c2; have x3 := KExt.cell EX.c3; have x4 := KExt.cell EX.c4; have x5 := KExt.cell EX.c5; have x6 := KExt.cell EX.c6; have x7 := KExt.cell EX.c7; have x8 := KExt.cell EX.c8
          have HY := Lib.hid hy
          have HX := Lib.hid hx
          clear hy hx EY EX hgA hgA'
          by_cases hyy : y = x
          · have HN2 := Lib.hid (show ∀ i, i < j + 1 → a.L[i]? = b.L[i]? from fun i hi => by
              rcases Nat.lt_or_ge i j with h | h
              · exact HA.out i h
              · obtain rfl : i = j := by omega
                rw [HY.out, HX.out, hyy])
            obtain ⟨d0, d1, d2, d3, d4, d5, d6, d7, d8⟩ := en_eq hyy
            clear hyy
            go_wp2_with fail
            refine region_kept _ (by kernel_rfl) (by kernel_rfl) (Kept.refl _) ?_
            repeat (go_big_quiet_step (fail))
            refine wpQuiet_nil ?_
            intro G
            clear v0 v1 y0 y1 y2 y3 y4 y5 y6 y7 y8 x0 x1 x2 x3 x4 x5 x6 x7 x8
            go_wp2_with fail
            go_roundw
            case rel => exact ⟨j + 1, hlt, by go_num, HR2.out.trans G.g, HN2.out⟩
            case measure => simp [intOf]; omega
          · have HF := Lib.hid (show false = r by
              rw [eq_comm, ← Bool.not_eq_true, HR.out]
              intro hh
              have e1 := HX.out
              rw [← hh.1, HY.out] at e1
              exact hyy (Option.some.inj e1))
            rcases en_ne hyy with d0 | ⟨d0, d1⟩ | ⟨d0, d1, d2⟩ | ⟨d0, d1, d2, d3⟩ | ⟨d0, d1, d2, d3, d4⟩ | ⟨d0, d1, d2, d3, d4, d5⟩ | ⟨d0, d1, d2, d3, d4, d5, d6⟩ | ⟨d0, d1, d2, d3, d4, d5, d6, d7⟩ | ⟨d0, d1, d2, d3, d4, d5, d6, d7, d8⟩
            all_goals
              clear hyy
              go_wp2_with fail
              refine region_kept _ (by kernel_rfl) (by kernel_rfl) (Kept.refl _) ?_
              repeat (go_big_quiet_step (fail))
              refine wpQuiet_nil ?_
              intro G
              clear v0 v1 y0 y1 y2 y3 y4 y5 y6 y7 y8 x0 x1 x2 x3 x4 x5 x6 x7 x8
              go_wp2_with fail
              go_ret
              exact ⟨ret_bool HF.out, HK1.out.trans (HR2.out.trans G.g)⟩
        · obtain rfl : j = n := by omega
          have HF := Lib.hid (show true = r by
            rw [eq_comm, HR.out]
            refine ⟨List.ext_getElem? fun i => ?_, of_decide_eq_true HR0.out⟩
            rcases Nat.lt_or_ge i j with h | h
            · exact HA.out i h
            · rw [List.getElem?_eq_none (by have := HN.out; omega), List.getElem?_eq_none (by have := HN'.out; omega)])
          go_wp2_with fail
          go_ret
          exact ⟨ret_bool HF.out, HK1.out.trans HR2.out⟩
  · have d1 : ((n : Int) != n') = true := by simp; omega
    have HF := Lib.hid (show false = r by
      rw [eq_comm, ← Bool.not_eq_true, HR.out]
      intro hh
      have := HN.out; have := HN'.out
      rw [hh.1] at *
      omega)
    clear hn
    go_enter Try.func7, Try.ntmps7
    go_wp2_with fail
    go_ret
    exact ⟨ret_bool HF.out, HK.out⟩

set_option maxRecDepth 100000 in
set_option maxHeartbeats 4000000 in
theorem rcovers_any (A : Option Addr) (n c : Nat) (B : Option Addr) (m k : Nat) (D : Option Addr) (p q : Nat) (a : Sta) (A' : Option Addr) (n' c' : Nat) (B' : Option Addr) (m' k' : Nat) (D' : Option Addr) (p' q' : Nat) (b : Sta) (w : World)
    (h : Stt w A n c B m k D p q a.L a.V a.C) (h' : Stt w A' n' c' B' m' k' D' p' q' b.L b.V b.C) (ha : Ord a) (hb : Ord b) (hn : n ≤ 100000) (hp : p ≤ 100000) (hn' : n' ≤ 100000) (hp' : p' ≤ 100000) (r : Bool) (hr : r = true ↔ JoinOf a b a) :
    Calls Try.prog 13 #[.agg #[.slice A n c, .slice B m k, .slice D p q], .agg #[.slice A' n' c', .slice B' m' k', .slice D' p' q']] w fun e w' => e = .returned (.bool r) ∧ Kept w w' := by
  have hk := ((Kept.refl w).alloc #[.slice A n c, .slice B m k, .slice D p q] 28).alloc #[.slice A' n' c', .slice B' m' k', .slice D' p' q'] 28
  have b0 := (Box3.new w (.slice A n c) (.slice B m k) (.slice D p q) 28).kept ((Kept.refl _).alloc #[.slice A' n' c', .slice B' m' k', .slice D' p' q'] 28)
  have b1 := Box3.new (w.alloc (.cells #[.slice A n c, .slice B m k, .slice D p q] 28)) (.slice A' n' c') (.slice B' m' k') (.slice D' p' q') 28
  rw [show (w.alloc (.cells #[.slice A n c, .slice B m k, .slice D p q] 28)).heap.size = w.heap.size + 1 by simp] at b1
  have HA := Lib.hid (h.kept hk); have HB := Lib.hid (h'.kept hk)
  have HOA := Lib.hid ha; have HOB := Lib.hid hb; have HR := Lib.hid hr
  obtain ⟨U, hU⟩ : ∃ U, (w.alloc (.cells #[.slice A n c, .slice B m k, .slice D p q] 28)).alloc (.cells #[.slice A' n' c', .slice B' m' k', .slice D' p' q'] 28) = U := ⟨_, rfl⟩
  rw [hU] at hk b0 b1 HA HB
  have HK := Lib.hid hk; have HUU := Lib.hid hU
  have a0 := KExt.cell b0.c0; have a1 := KExt.cell b0.c1; have a2 := KExt.cell b0.c2
  have d0 := KExt.cell b1.c0; have d1 := KExt.cell b1.c1; have d2 := KExt.cell b1.c2
  clear h h' ha hb hk b0 b1 hU hr
  go_enter Try.func13, Try.ntmps13
  go_wp2_with fail
  rw [HUU.out]
  refine region_plan U 6 (.read [0, 1, 3] (.one 2 (.one 4 (.read [5] .stop)))) (by kernel_rfl) (by kernel_rfl) (by kernel_rfl) (by kernel_rfl) (by kernel_rfl) (fun _ d _ _ _ h => by cases d <;> exact h) (Kept.refl _) ?_
  intro wd hwd
  have HD := Lib.hid hwd
  clear hwd
  rw [wpPlan_read]
  simp only [pickOps_cons, pickOps_nil, consO_some, List.getElem?_cons_zero, List.getElem?_cons_succ]
  repeat (go_big_quiet_step (fail))
  refine wpQuiet_nil ?_
  clear a0 a1 a2 d0 d1 d2
  rw [wpPlan_one]
  simp only [pickOps_cons, pickOps_nil, consO_some, List.getElem?_cons_zero, List.getElem?_cons_succ]
  go_wp2_with (go_at_call 9; refine (rjoin_st A n c B m k D p q a A' n' c' B' m' k' D' p' q' b _ (HA.out.kept HD.out) (HB.out.kept HD.out) HOA.out HOB.out hn hp hn' hp').mono ?_; rintro e w3 ⟨A3, n3, c3, B3, m3, k3, D3, p3, q3, j, rfl, hs3, hj3, hk3⟩)
  have HK3 := Lib.hid (HD.out.trans hk3)
  have HR2 := Lib.hid (show r = true ↔ j.L = a.L ∧ j.V = a.V ∧ j.C = a.C from HR.out.trans ⟨fun h => by rw [hj3.1.one h]; exact ⟨rfl, rfl, rfl⟩, fun h => by have := hj3.1; rw [Sta.ext' h.1 h.2.1 h.2.2] at this; exact this⟩)
  have HS3 := Lib.hid hs3
  clear hs3 hj3 hk3
  refine soloP HK3.out ?_
  rw [wpPlan_one]
  simp only [pickOps_cons, pickOps_nil, consO_some, List.getElem?_cons_zero, List.getElem?_cons_succ]
  go_wp2_with (go_at_call 7; refine (rsame_any A3 n3 c3 B3 m3 k3 D3 p3 q3 j A n c B m k D p q a _ HS3.out (HA.out.kept HK3.out) r HR2.out).mono ?_; rintro e w4 ⟨rfl, hk4⟩)
  have HK4 := Lib.hid (HK3.out.trans hk4)
  clear hk4
  refine soloP HK4.out ?_
  rw [wpPlan_read]
  simp only [pickOps_cons, pickOps_nil, consO_some, List.getElem?_cons_zero, List.getElem?_cons_succ]
  repeat (go_big_quiet_step (fail))
  refine wpQuiet_nil ?_
  refine wpPlan_stop ?_
  go_wp2_with fail
  go_ret
  exact ⟨rfl, HK.out.trans HK4.out⟩
end Go.Proofs.Ytcldbmhjfmbcfaa

