/-
  What is proved: path.Begins and path.Match and the document's, called with any two texts of up to 2^40 bytes, return what P4.6 and P4.7 say; the world has new blocks at most.
  At of package store (P8.8), called with any state and any pattern, of bounded texts, returns the entries whose path begins with the pattern; the world has new blocks at most.
  the document's At of layer 8 (P8.8), called with any state and any pattern, of bounded texts, returns the entries whose path begins with the pattern; the world has new blocks at most.
  the document's Without of layer 8 (P8.4), called with any right state and any dots that lie in memory, returns the state without what they left, with them in its set; the world has new blocks at most.
-/
import Derived.Test.YtcldbmhjfmbcfaaGreatM14
import Derived.Deep.QuietTactic
import Derived.BigQuiet
import Derived.Test.YtcldbmhjfmbcfaaGreatM17
import Derived.Test.YtcldbmhjfmbcfaaGreatM29
import Derived.Test.YtcldbmhjfmbcfaaGreatCOf
namespace Go.Proofs.YtcldbmhjfmbcfaaGreat.L4
open Go.RowKit

/-- Two texts that differ, in the walk's words. -/
theorem str_not {x y : ByteArray} (h : ¬ x.data.toList = y.data.toList) : (x.toList == y.toList) = false ∧ (x.toList != y.toList) = true ∧ (y.toList == x.toList) = false ∧ (y.toList != x.toList) = true := by
  rw [Lib.toList_data, Lib.toList_data]
  exact ⟨beq_eq_false_iff_ne.2 h, bne_iff_ne.2 h, beq_eq_false_iff_ne.2 (fun e => h e.symm), bne_iff_ne.2 (fun e => h e.symm)⟩
theorem star_not2 {s : ByteArray} (h : ¬ s.data.toList = [42]) : ([42] == s.toList) = false ∧ ([42] != s.toList) = true := by
  rw [Lib.toList_data]; exact ⟨beq_eq_false_iff_ne.2 (fun e => h e.symm), bne_iff_ne.2 (fun e => h e.symm)⟩

set_option maxRecDepth 100000 in
set_option maxHeartbeats 4000000 in
theorem rbeg_any (p q : ByteArray) (w : World) (hp : p.size ≤ 1099511627776) (hq : q.size ≤ 1099511627776) :
    Calls Tryz.prog 55 #[.string p, .string q] w fun e w' => e = .returned (.bool (begS p q)) ∧ Ke w w' := by
  have hn1 := splS_le p
  have hn2 := splS_le q
  go_enter Tryz.func55, Tryz.ntmps55
  go_wp2_with fail
  go_at_call 88
  refine (rsplit_any p _ hp).mono ?_
  rintro e w1 ⟨b1, c1, rfl, hs1, hbb1, hk1⟩
  have hcm1 := hs1.2.1
  have hcx1 := hs1.2.2.1
  simp only [maxLen] at hcx1
  have HS1 := Lib.hid hs1
  have HK1 := Lib.hid hk1
  clear hs1 hk1 hbb1
  go_wp2_with fail
  go_at_call 88
  refine (rsplit_any q _ hq).mono ?_
  rintro e w2 ⟨b2, c2, rfl, hs2, hbb2, hk2⟩
  have hcm2 := hs2.2.1
  have hcx2 := hs2.2.2.1
  simp only [maxLen] at hcx2
  have HS2 := Lib.hid hs2
  have HS3 := Lib.hid (HS1.out.ke hk2)
  have HK := Lib.hid (HK1.out.trans hk2)
  clear hs2 hk2 hbb2 HS1 HK1
  by_cases hsh : (splS p).length < (splS q).length
  · have d1 : decide ((splS p).length < (splS q).length) = true := decide_eq_true hsh
    go_wp2
    go_ret
    exact ⟨ret_bool (beg_short p q hsh).symm, HK.out⟩
  have d1 : decide ((splS p).length < (splS q).length) = false := decide_eq_false hsh
  go_wp2
  go_loop [20] (fun i => ∃ k : Nat, k ≤ (splS q).length ∧ i = .int .i64 k ∧ ∀ j, j < k → (sg q j).data.toList = [42] ∨ (sg q j).data.toList = (sg p j).data.toList) (fun i => (splS q).length - (intOf i).toNat)
  case atStart => exact ⟨0, Nat.zero_le _, rfl, fun j hj => absurd hj (by omega)⟩
  case round =>
    obtain ⟨k, hkl, rfl, hall⟩ := hrel
    have HA := Lib.hid hall
    clear hall
    by_cases hlt : k < (splS q).length
    · have g1 := sl_at HS3.out (k := k) (by omega)
      have g2 := sl_at HS2.out hlt
      have kp : k < (splS p).length := by omega
      have kp2 : (k : Int) < (splS p).length := by omega
      have kq2 : (k : Int) < (splS q).length := by omega
      have k0 : (0 : Int) ≤ k := by omega
      have HN := Lib.hid (fun (h : (sg q k).data.toList = [42] ∨ (sg q k).data.toList = (sg p k).data.toList) (j : Nat) (hj : j < k + 1) => show (sg q j).data.toList = [42] ∨ (sg q j).data.toList = (sg p j).data.toList by
        rcases Nat.lt_or_ge j k with h3 | h3
        · exact HA.out j h3
        · obtain rfl : j = k := by omega
          exact h)
      by_cases hst : (sg q k).data.toList = [42]
      · have HM := Lib.hid (HN.out (.inl hst))
        by_cases hxs : (sg p k).data.toList = [42]
        · rw [star_yes hst] at g2
          rw [star_yes hxs] at g1
          clear hst hxs
          go_wp2
          go_round
          case rel => exact ⟨k + 1, hlt, by go_num, HM.out⟩
          case measure => simp [intOf]; omega
        · rw [star_yes hst] at g2
          obtain ⟨s1, s2⟩ := star_not hxs
          obtain ⟨s3, s4⟩ := star_not2 hxs
          clear hst hxs
          go_wp2
          go_round
          case rel => exact ⟨k + 1, hlt, by go_num, HM.out⟩
          case measure => simp [intOf]; omega
      · obtain ⟨s1, s2⟩ := star_not hst
        by_cases hxy : (sg q k).data.toList = (sg p k).data.toList
        · have HM := Lib.hid (HN.out (.inr hxy))
          rw [← ba_ext hxy] at g1
          clear hst hxy
          go_wp2
          go_round
          case rel => exact ⟨k + 1, hlt, by go_num, HM.out⟩
          case measure => simp [intOf]; omega
        · have HM := Lib.hid (beg_no p q k kp hlt hst hxy)
          obtain ⟨t1, t2, t3, t4⟩ := str_not hxy
          clear hst hxy
          go_wp2
          go_ret
          exact ⟨ret_bool HM.out.symm, HK.out⟩
    · have HY := Lib.hid (beg_yes p q (by omega) (fun j hj => HA.out j (by omega)))
      go_wp2
      go_ret
      exact ⟨ret_bool HY.out.symm, HK.out⟩
theorem rbeg_any_c (p q : ByteArray) (r : Bool) (hr : begS p q = r) (hp : p.size ≤ 1099511627776) (hq : q.size ≤ 1099511627776) (w : World) :
    Calls Tryz.prog 55 #[.string p, .string q] w fun e w' => e = .returned (.bool r) ∧ Ke w w' := by
  subst hr; exact rbeg_any p q w hp hq

end Go.Proofs.YtcldbmhjfmbcfaaGreat.L4

namespace Go.Proofs.YtcldbmhjfmbcfaaGreat
open Go.RowKit
set_option linter.unusedVariables false

def atE (L : List En) (p : ByteArray) : List En := L.filter fun x => L4.begS x.p p
theorem atE_skip {L : List En} {p : ByteArray} {t : Nat} {x : En} (h : L[t]? = some x) (hx : L4.begS x.p p = false) : atE (L.take (t + 1)) p = atE (L.take t) p := by
  unfold atE
  rw [List.take_add_one, h, Option.toList_some, List.filter_append, List.filter_cons, if_neg (by rw [hx]; decide), List.filter_nil, List.append_nil]
theorem atE_put {L : List En} {p : ByteArray} {t : Nat} {x : En} (h : L[t]? = some x) (hx : L4.begS x.p p = true) : atE (L.take (t + 1)) p = atE (L.take t) p ++ [x] := by
  unfold atE
  rw [List.take_add_one, h, Option.toList_some, List.filter_append, List.filter_cons, if_pos hx, List.filter_nil]
end Go.Proofs.YtcldbmhjfmbcfaaGreat

namespace Go.Proofs.YtcldbmhjfmbcfaaGreat
open Go.RowKit
set_option linter.unusedVariables false

theorem rbeg_k (p q : ByteArray) (r : Bool) (hr : L4.begS p q = r) (hp : p.size ≤ 1099511627776) (hq : q.size ≤ 1099511627776) (w : World) :
    Calls Tryz.prog 55 #[.string p, .string q] w fun e w' => e = .returned (.bool r) ∧ Kept w w' :=
  (L4.rbeg_any_c p q r hr hp hq w).mono fun _ _ ⟨he, hk⟩ => ⟨he, kept_of_below hk⟩

set_option maxRecDepth 100000 in
set_option maxHeartbeats 8000000 in
theorem rat_any (A : Option Addr) (n c : Nat) (L : List En) (u1 u2 : Value) (pat : ByteArray) (w : World)
    (h : El w A n c L) (hn : n ≤ 1000000) (hsz : ∀ x ∈ L, x.p.size ≤ 1099511627776) (hq : pat.size ≤ 1099511627776) :
    Calls Tryz.prog 25 #[.agg #[.slice A n c, u1, u2], .string pat] w fun e w' => ∃ A' c', e = .returned (.slice A' (atE L pat).length c') ∧ El w' A' (atE L pat).length c' (atE L pat) ∧ Kept w w' := by
  have hk := (Kept.refl w).alloc #[.slice A n c, u1, u2] 31
  have hcap := h.cap.1; have hcap2 := h.cap.2
  have HNL := Lib.hid h.1
  have HSZ := Lib.hid hsz
  have HQ := Lib.hid hq
  have HB := Box3.new w (.slice A n c) u1 u2 31
  have HK := Lib.hid hk
  have HH := Lib.hid (h.kept hk)
  obtain ⟨U, hU⟩ : ∃ U, w.alloc (.cells #[.slice A n c, u1, u2] 31) = U := ⟨_, rfl⟩
  rw [hU] at HK HH HB
  have HUU := Lib.hid hU
  have d0 := HB.c0
  clear h hsz hk hU HB hq
  go_enter Tryz.func25, Tryz.ntmps25
  go_wp2_with fail
  rw [HUU.out]
  go_wp2_with fail
  clear d0
  go_loopw [5, 11] (fun v i wr => ∃ t : Nat, t ≤ n ∧ i = .int .i64 t ∧ OutE U wr v (atE (L.take t) pat)) (fun _ i _ => n - (intOf i).toNat)
  case atStart => exact ⟨0, Nat.zero_le _, rfl, by rw [List.take_zero]; exact OutE.start U⟩
  case round =>
    obtain ⟨t, ht, rfl, hm⟩ := hrel
    obtain ⟨A3, c3, rfl, hel3, hfr3, hc3, hcm3⟩ := hm.form
    have HO := Lib.hid hm
    have HE3 := Lib.hid hel3
    clear hm hel3 hfr3
    by_cases hlt : t < n
    · obtain ⟨g, o, x, rfl, hx, EX⟩ := (HH.out.kept HO.out.ke).get hlt
      have x0 := EX.c0; have x1 := EX.c1; have x2 := EX.c2; have x3 := EX.c3; have x4 := EX.c4; have x5 := EX.c5; have x6 := EX.c6; have x7 := EX.c7; have x8 := EX.c8
      have HXX := Lib.hid hx
      obtain ⟨z, hz⟩ : ∃ z, L4.begS x.p pat = z := ⟨_, rfl⟩
      have AP := Lib.hid (fun w => rbeg_k x.p pat z hz (HSZ.out x (List.mem_of_getElem? hx)) HQ.out w)
      have HZ := Lib.hid hz
      have HE := Lib.hid (Ent.new wr x 47)
      clear EX hx hz
      have e5 := HE.out
      have z0 := e5.c0; have z1 := e5.c1; have z2 := e5.c2; have z3 := e5.c3; have z4 := e5.c4; have z5 := e5.c5; have z6 := e5.c6; have z7 := e5.c7; have z8 := e5.c8
      clear e5
      go_wp2_with fail
      go_at_call 55
      refine (AP.out _).mono ?_
      rintro e w5 ⟨rfl, hk5⟩
      have hk6 := ((Kept.refl wr).alloc #[.int .i64 x.d.1, .int .i64 x.d.2, .string x.p, .int .i64 x.k, .int .i64 x.vk, .int .i64 x.vn, .string x.vt, .int .i64 x.e.1, .int .i64 x.e.2] 47).trans hk5
      have HE5 := Lib.hid (HE.out.kept hk5)
      clear x0 x1 x2 x3 x4 x5 x6 x7 x8
      clear z0 z1 z2 z3 z4 z5 z6 z7 z8
      cases z with
      | false =>
        have HN := Lib.hid (atE_skip HXX.out HZ.out)
        have HO6 := Lib.hid (HO.out.kept hk6)
        clear hk5 hk6
        go_wp2_with fail
        go_roundw
        case rel => exact ⟨t + 1, hlt, by go_num, by rw [HN.out]; exact HO6.out⟩
        case measure => simp [intOf]; omega
      | true =>
        have HN := Lib.hid (atE_put HXX.out HZ.out)
        have hle : (atE (L.take t) pat).length ≤ 1000000 := Nat.le_trans (List.length_filter_le ..) (by rw [List.length_take]; omega)
        have hk7 := hk6.trans ((Kept.refl w5).alloc #[.int .i64 x.d.1, .int .i64 x.d.2, .string x.p, .int .i64 x.k, .int .i64 x.vk, .int .i64 x.vn, .string x.vt, .int .i64 x.e.1, .int .i64 x.e.2] 47)
        obtain ⟨v8, w8, hr8, ho8⟩ := (HO.out.kept hk7).app _ _ _ _ (el_one (Ent.new w5 x 47)) (by omega)
        have HR8 := Lib.hid hr8
        have HO8 := Lib.hid ho8
        have e5 := HE5.out
        have y0 := e5.c0; have y1 := e5.c1; have y2 := e5.c2; have y3 := e5.c3; have y4 := e5.c4; have y5 := e5.c5; have y6 := e5.c6; have y7 := e5.c7; have y8 := e5.c8
        clear hr8 ho8 hk5 hk6 hk7 e5 hle
        go_wp2_with (at_builtin; refine Lib.wpList_append_run _ rfl (.tmp 19) (.tmp 21) _ _ rfl _ _ rfl rfl _ _ HR8.out ?_)
        go_roundw
        case rel => exact ⟨t + 1, hlt, by go_num, by rw [HN.out]; exact HO8.out⟩
        case measure => simp [intOf]; omega
    · obtain rfl : t = n := by omega
      have HT := Lib.hid (show L.take t = L from List.take_of_length_le (by rw [← HNL.out]; exact Nat.le_refl _))
      go_wp2_with fail
      go_ret
      rw [HT.out] at HE3 ⊢
      exact ⟨A3, c3, rfl, HE3.out, HK.out.trans HO.out.ke⟩
end Go.Proofs.YtcldbmhjfmbcfaaGreat

namespace Go.Proofs.YtcldbmhjfmbcfaaGreat
open Go.RowKit
set_option linter.unusedVariables false

set_option maxRecDepth 100000 in
set_option maxHeartbeats 16000000 in
theorem rwithout_any (A : Option Addr) (n c : Nat) (L : List En) (B : Option Addr) (m k : Nat) (V : List Int) (D : Option Addr) (p q : Nat) (C : List (Int × Int)) (E : Option Addr) (gn gc : Nat) (G : List (Int × Int)) (w : World)
    (h : El w A n c L) (hi : Il w B m k V) (hd : Dl w D p q C) (hg : Dl w E gn gc G) (hc : RightC V C) (hn : n ≤ 10000) (hp : p ≤ 10000) (hgn : gn ≤ 10000) :
    Calls Tryz.prog 26 #[.agg #[.slice A n c, .slice B m k, .slice D p q], .slice E gn gc] w (StS (outE L G) (fun d => hasC V C d ∨ (rightD d = true ∧ d ∈ G)) (p + gn) w) := by
  have hk := ((Kept.refl w).alloc #[.slice A n c, .slice B m k, .slice D p q] 31).alloc #[.slice none 0 0, .slice none 0 0, .slice none 0 0] 31
  have hcap := h.cap.1; have hcap2 := h.cap.2
  have HPL := Lib.hid hd.1
  have HGL := Lib.hid hg.1
  have HC := Lib.hid hc
  have HNL := Lib.hid h.1
  have hb0 := (Box3.new w (.slice A n c) (.slice B m k) (.slice D p q) 31).kept ((Kept.refl _).alloc #[.slice none 0 0, .slice none 0 0, .slice none 0 0] 31)
  have hr0 := Box3.new (w.alloc (.cells #[.slice A n c, .slice B m k, .slice D p q] 31)) (.slice none 0 0) (.slice none 0 0) (.slice none 0 0) 31
  rw [show (w.alloc (.cells #[.slice A n c, .slice B m k, .slice D p q] 31)).heap.size = w.heap.size + 1 by simp] at hr0
  have HB0 := Lib.hid hb0; have HRES := Lib.hid hr0
  have HK0 := Lib.hid hk
  have HH0 := Lib.hid (h.kept hk); have HI0 := Lib.hid (hi.kept hk); have HD0 := Lib.hid (hd.kept hk); have HG0 := Lib.hid (hg.kept hk)
  have hsz0 : ((w.alloc (.cells #[.slice A n c, .slice B m k, .slice D p q] 31)).alloc (.cells #[.slice none 0 0, .slice none 0 0, .slice none 0 0] 31)).heap.size = w.heap.size + 2 := by simp
  obtain ⟨U, hU⟩ : ∃ U, (w.alloc (.cells #[.slice A n c, .slice B m k, .slice D p q] 31)).alloc (.cells #[.slice none 0 0, .slice none 0 0, .slice none 0 0] 31) = U := ⟨_, rfl⟩
  rw [hU] at HK0 HH0 HI0 HD0 HG0 HB0 HRES hsz0
  have HUU := Lib.hid hU
  have b0 := hb0.c0; have b1 := hb0.c1; have b2 := hb0.c2
  clear h hi hd hg hc hk hb0 hr0 hU
  go_enter Tryz.func26, Tryz.ntmps26
  go_wp2_with fail
  rw [HUU.out]
  clear b0 b1 b2
  go_loopw [5, 11] (fun v i wr => ∃ t : Nat, t ≤ n ∧ i = .int .i64 t ∧ OutE U wr v (outE (L.take t) G)) (fun _ i _ => n - (intOf i).toNat)
  case atStart => exact ⟨0, Nat.zero_le _, rfl, by rw [List.take_zero, outE_nil]; exact OutE.start U⟩
  case round =>
    obtain ⟨t, ht, rfl, hm⟩ := hrel
    obtain ⟨A3, c3, rfl, hel3, hfr3, hc3, hcm3⟩ := hm.form
    have HO := Lib.hid hm
    have HF3 := Lib.hid hfr3
    have HE3 := Lib.hid hel3
    clear hm hel3 hfr3
    by_cases hlt : t < n
    · obtain ⟨g, o, x, rfl, hx, EX⟩ := (HH0.out.kept HO.out.ke).get hlt
      have x0 := EX.c0; have x1 := EX.c1; have x2 := EX.c2; have x3 := EX.c3; have x4 := EX.c4; have x5 := EX.c5; have x6 := EX.c6; have x7 := EX.c7; have x8 := EX.c8
      have HXX := Lib.hid hx
      have hka := (Kept.refl wr).alloc #[.int .i64 x.d.1, .int .i64 x.d.2, .string x.p, .int .i64 x.k, .int .i64 x.vk, .int .i64 x.vn, .string x.vt, .int .i64 x.e.1, .int .i64 x.e.2] 47
      obtain ⟨z, hz⟩ : ∃ z, decide (x.d ∈ G) = z := ⟨_, rfl⟩
      have HSE := Lib.hid (rhas_c E gn gc G x.d z hz _ ((HG0.out.kept HO.out.ke).kept hka))
      have HE := Lib.hid (Ent.new wr x 47)
      have HZ := Lib.hid hz
      clear EX hx hka hz
      have e5 := HE.out
      have z0 := e5.c0; have z1 := e5.c1; have z2 := e5.c2; have z3 := e5.c3; have z4 := e5.c4; have z5 := e5.c5; have z6 := e5.c6; have z7 := e5.c7; have z8 := e5.c8
      clear e5
      go_wp2_with fail
      go_at_call 56
      refine HSE.out.mono ?_
      rintro e w5 ⟨rfl, hk5⟩
      have hk6 := ((Kept.refl wr).alloc #[.int .i64 x.d.1, .int .i64 x.d.2, .string x.p, .int .i64 x.k, .int .i64 x.vk, .int .i64 x.vn, .string x.vt, .int .i64 x.e.1, .int .i64 x.e.2] 47).trans hk5
      have HE5 := Lib.hid (HE.out.kept hk5)
      clear x0 x1 x2 x3 x4 x5 x6 x7 x8 z0 z1 z2 z3 z4 z5 z6 z7 z8
      cases z with
      | true =>
        have HN := Lib.hid (show outE (L.take (t + 1)) G = outE (L.take t) G from outE_goes HXX.out (of_decide_eq_true HZ.out))
        have HO6 := Lib.hid (HO.out.kept hk6)
        clear hk5 hk6
        go_wp2_with fail
        go_roundw
        case rel => exact ⟨t + 1, hlt, by go_num, by rw [HN.out]; exact HO6.out⟩
        case measure => simp [intOf]; omega
      | false =>
        have HN := Lib.hid (show outE (L.take (t + 1)) G = outE (L.take t) G ++ [x] from outE_stays HXX.out (of_decide_eq_false HZ.out))
        have hle : (outE (L.take t) G).length ≤ 10000 := Nat.le_trans (outE_len _ _) (by rw [List.length_take]; omega)
        have hk7 := hk6.trans ((Kept.refl w5).alloc #[.int .i64 x.d.1, .int .i64 x.d.2, .string x.p, .int .i64 x.k, .int .i64 x.vk, .int .i64 x.vn, .string x.vt, .int .i64 x.e.1, .int .i64 x.e.2] 47)
        obtain ⟨v8, w8, hr8, ho8⟩ := (HO.out.kept hk7).app _ _ _ _ (el_one (Ent.new w5 x 47)) (by omega)
        have HR8 := Lib.hid hr8
        have HO8 := Lib.hid ho8
        have e5 := HE5.out
        have y0 := e5.c0; have y1 := e5.c1; have y2 := e5.c2; have y3 := e5.c3; have y4 := e5.c4; have y5 := e5.c5; have y6 := e5.c6; have y7 := e5.c7; have y8 := e5.c8
        clear hr8 ho8 hk5 hk6 hk7 e5 hle
        go_wp2_with (at_builtin; refine Lib.wpList_append_run _ rfl (.tmp 20) (.tmp 22) _ _ rfl _ _ rfl rfl _ _ HR8.out ?_)
        go_roundw
        case rel => exact ⟨t + 1, hlt, by go_num, by rw [HN.out]; exact HO8.out⟩
        case measure => simp [intOf]; omega
    · obtain rfl : t = n := by omega
      have HT := Lib.hid (show L.take t = L from List.take_of_length_le (by rw [← HNL.out]; exact Nat.le_refl _))
      go_wp2_with fail
      have hb := HB0.out.kept HO.out.ke
      have c1 := KExtE.cell (b := w.heap.size + 1) (by omega) hb.c1
      have c2 := KExtE.cell (b := w.heap.size + 1) (by omega) hb.c2
      clear hb
      refine region_planE (w.heap.size + 1) wr 8 (.read [0, 1, 2, 3] (.one 4 (.one 5 (.read [6] (.one 7 .stop))))) (by kernel_rfl) (by kernel_rfl) (by kernel_rfl) (by kernel_rfl) (by kernel_rfl) (fun _ d _ _ _ h => by cases d <;> exact h) (Kept.refl _) ?_
      intro wd hwd
      have HKD := Lib.hid (HO.out.ke.trans hwd)
      have HD2 := Lib.hid hwd
      clear hwd
      rw [wpPlan_read]
      simp only [pickOps_cons, pickOps_nil, consO_some, List.getElem?_cons_zero, List.getElem?_cons_succ]
      repeat (go_big_quiet_step (fail))
      refine wpQuiet_nil ?_
      clear c1 c2
      rw [wpPlan_one]
      simp only [pickOps_cons, pickOps_nil, consO_some, List.getElem?_cons_zero, List.getElem?_cons_succ]
      go_wp2_with (go_at_call 57; refine (rof_any E gn gc G _ (HG0.out.kept HKD.out) (by omega)).mono ?_; rintro e w6 ⟨A6, n6, c6, B6, m6, k6, V6, C6, rfl, hi6, hd6, hs6, hmm6, hk6, hfa6, hfb6⟩)
      have HKE := Lib.hid (HKD.out.trans hk6)
      have HKR := Lib.hid (HD2.out.trans hk6)
      have HI6 := Lib.hid hi6; have HD6 := Lib.hid hd6; have HS6 := Lib.hid hs6
      have hm6 : m6 ≤ 10000 := by have := HGL.out; omega
      have HL6 := Lib.hid hd6.1
      have HMM := Lib.hid hmm6
      clear hi6 hd6 hs6 hmm6 hk6 hfa6 hfb6
      refine soloE (.of HKR.out) ?_
      rw [wpPlan_one]
      simp only [pickOps_cons, pickOps_nil, consO_some, List.getElem?_cons_zero, List.getElem?_cons_succ]
      go_wp2_with (go_at_call 53; refine (rjoin_any B m k V D p q C A6 n6 c6 V6 B6 m6 k6 C6 _ (HI0.out.kept HKE.out) HC.out.vec (HD0.out.kept HKE.out) HI6.out HS6.out.right.vec HD6.out (by omega)).mono ?_; rintro e w9 ⟨A9, n9, c9, B9, m9, k9, V9, C9, rfl, hi9, hd9, hs9, hmm, hk9, hfa, hfb⟩)
      have hr := HRES.out.kept (HKE.out.trans hk9)
      have e0 := hr.c0; have e1 := hr.c1; have e2 := hr.c2; have ef0 := hr.f 0; have ef1 := hr.f 1; have ef2 := hr.f 2
      have HKK := Lib.hid (HKR.out.trans hk9)
      have hszE := HKE.out.2.2
      have HFIN := Lib.hid (st_box (W := w) (b := w.heap.size + 1) (L := outE L G) (S := fun d => hasC V C d ∨ (rightD d = true ∧ d ∈ G)) (mx := p + gn) (show El w9 A3 (outE (L.take t) G).length c3 (outE L G) by have := HE3.out.kept (HKR.out.trans hk9); rw [HT.out] at this ⊢; exact this) hi9 hd9 (fun ad e => by have := HF3.out ad e; omega) (fun ad e => by have := hfa ad e; omega) (fun ad e => by have := hfb ad e; omega) (Nat.le_add_right _ 1) (HK0.out.trans (HKE.out.trans hk9))
        ⟨hs9.right, fun d => ((hs9.has d).trans (join_has HC.out HS6.out.right d)).trans (or_congr Iff.rfl ((HS6.out.has d).trans (of_has G d)))⟩ (by have := HPL.out; have := HGL.out; have := HL6.out; have := HMM.out; omega))
      clear hi9 hd9 hs9 hmm hk9 hfa hfb hr
      refine soloE (.of HKK.out) ?_
      rw [wpPlan_read]
      simp only [pickOps_cons, pickOps_nil, consO_some, List.getElem?_cons_zero, List.getElem?_cons_succ]
      repeat (go_big_quiet_step (fail))
      refine wpQuiet_nil ?_
      rw [wpPlan_one]
      simp only [pickOps_cons, pickOps_nil, consO_some, List.getElem?_cons_zero, List.getElem?_cons_succ]
      go_wp2_with fail
      refine soloE ((((KeptE.of (G := w.heap.size + 1) HKK.out).set (.inl rfl) _).set (.inl rfl) _).set (.inl rfl) _) ?_
      refine wpPlan_stop ?_
      go_wp2_with fail
      exact bodyPost_ret (by simp [results, Tryz.results26, go_sem, *]) rfl HFIN.out
end Go.Proofs.YtcldbmhjfmbcfaaGreat

