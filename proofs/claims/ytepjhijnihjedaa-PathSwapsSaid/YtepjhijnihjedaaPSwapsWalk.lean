/-
  What is proved: the Go function PathSwaps of layer 4's laws, called with any text, any int and any slice of texts that lies in memory, returns true; the world has new blocks at most.
-/
import Derived.Test.YtepjhijnihjedaaPAwake
import Derived.Test.YtepjhijnihjedaaPSame
import Derived.Deep.RegionLaw
namespace Go.Proofs.Ytepjhijnihjedaa
open Go.RowKit

theorem awake_w (w : World) : Calls Try.prog 6 #[] w fun e w' => e = .returned (.bool true) ∧ Ke w w' := awake_any w

/-- P4.11: swapped, the segments are those ahead, these, and those behind. -/
theorem swapT_back (p : ByteArray) (k : Nat) (M : List ByteArray) (hM : M ≠ []) (hs : ∀ x ∈ M, segS x = true) : splS (joiS (swapT p k M)) = swapT p k M := by
  have h1 : spl (joi (toLs (swapT p k M))) = toLs (swapT p k M) := by
    refine spl_joi _ ?_ ?_
    · intro e
      have h2 : (toLs (swapT p k M)).length = 0 := by rw [e]; rfl
      rw [toLs_len] at h2
      unfold swapT at h2
      have h3 : 0 < M.length := List.length_pos_iff.2 hM
      simp only [List.length_append] at h2
      omega
    · intro s hss
      obtain ⟨x, hx, rfl⟩ := List.mem_map.1 hss
      have hsp : x ∈ splS p → ∀ c ∈ x.data.toList, c ≠ 47 := fun hxx => by
        obtain ⟨l, hl, rfl⟩ := List.mem_map.1 hxx
        exact spl_no _ l hl
      unfold swapT at hx
      rcases List.mem_append.1 hx with h2 | h2
      · rcases List.mem_append.1 h2 with h3 | h3
        · exact hsp (List.mem_of_mem_take h3)
        · exact segL_no _ (hs x h3)
      · exact hsp (List.mem_of_mem_drop h2)
  unfold splS joiS
  rw [ofL_list, h1, ofLs_toLs]

/-- What 'want' is made of. -/
theorem want_run (w : World) (b c0 n c : Nat) (ad a2 : Addr) (p : ByteArray) (k : Nat) (M : List ByteArray) (hk : k < (splS p).length) (hp : p.size ≤ 200) (hn : 0 < n) (hn8 : n ≤ 8)
    (h0 : Sl w ⟨b, 0, none⟩ k c0 ((splS p).take k)) (h1 : Sl w ad n c M) (h2 : Sl w a2 ((splS p).length - (k + 1)) (c0 - (k + 1)) ((splS p).drop (k + 1))) :
    ∃ v1 w1 v2 w2 g cap w3, (Builtin.append_ #[24, 24] 24 #[.slice (some ⟨w.heap.size, 0, none⟩) 0 0, .slice (some ⟨b, 0, none⟩) k c0]).run Try.prog (w.alloc (.cells #[] 9)) = .ok v1 w1 ∧
      (Builtin.append_ #[24, 24] 24 #[v1, .slice (some ad) n c]).run Try.prog w1 = .ok v2 w2 ∧
      (Builtin.append_ #[24, 24] 24 #[v2, .slice (some a2) ((splS p).length - (k + 1)) (c0 - (k + 1))]).run Try.prog w2 = .ok (.slice (some ⟨g, 0, none⟩) (swapT p k M).length cap) w3 ∧
      Sl w3 ⟨g, 0, none⟩ (swapT p k M).length cap (swapT p k M) ∧ Ke w w3 := by
  have hl := splS_le p
  obtain ⟨v1, w1, v2, w2, v3, w3, r1, r2, r3, ho, _, _, hk3, _⟩ := app3 w (some ⟨b, 0, none⟩) (some ad) (some a2) k c0 n c _ _ _ M _ (.inr ⟨_, rfl, h0⟩) (.inr ⟨_, rfl, h1⟩) (.inr ⟨_, rfl, h2⟩) (by omega)
  obtain ⟨g, cap, rfl, _, hs⟩ := Sl.of_own (L := swapT p k M) ho (by omega)
  have e := hs.1
  rw [e] at r3 hs
  exact ⟨v1, w1, v2, w2, g, cap, w3, r1, r2, r3, hs, hk3⟩

/-- An append in a region that draws its order, by what it gives. -/
theorem step_append_run {P : Program} {ops : Array Oper} {o : Oper} {a : Act} {w : World} {K : Act → World → Prop} {Q : Exit → Act → World → Prop} {E : Prop}
    (hg : o.guard = none) (s x : Operand) (t : TypeId) (hop : o.op = Op.call { callee := Callee.builtin Builtin.append, args := #[s, x], argTypes := #[t, t] })
    (vs vx : Value) (hs : a.eval s = vs) (hx : a.eval x = vx) (v' : Value) (w' : World) (hr : (Builtin.append_ #[t, t] o.type #[vs, vx]).run P w = .ok v' w')
    (hK : K (a.put o.dst v') w') : if Region.wanted o (yielded ops a.tmps) = true then Oper.wp P o a w K Q else E := by
  have hw : Region.wanted o (yielded ops a.tmps) = true := by simp [Region.wanted, hg]
  rw [if_pos hw]
  unfold Oper.wp
  simp [execOp, hop, resolve, invoke, builtin, hs, hx, hr, Result.andThen]
  exact hK

set_option maxRecDepth 100000 in
set_option maxHeartbeats 4000000 in
theorem swaps_out (p : ByteArray) (i : Int) (A : Option Addr) (n c : Nat) (w : World) (hp : p.size ≤ 9223372036854775807) (ho : 200 < p.size ∨ n = 0 ∨ 8 < n) :
    Calls Try.prog 5 #[.string p, .int .i64 i, .slice A n c] w fun e w' => e = .returned (.bool true) ∧ Ke w w' := by
  by_cases p2 : 200 < p.size
  · go_enter Try.func5, Try.ntmps5
    go_wp2_with (go_at_call 6; ((with_reducible refine (awake_any _).mono ?_); rintro e w2 ⟨rfl, hg2⟩))
    go_ret
    exact ⟨rfl, by assumption⟩
  by_cases n0 : n = 0
  · have d1 : ((n : Int) == 0) = true := beq_iff_eq.2 (by omega)
    clear n0 ho
    go_enter Try.func5, Try.ntmps5
    go_wp2_with (go_at_call 6; ((with_reducible refine (awake_any _).mono ?_); rintro e w2 ⟨rfl, hg2⟩))
    go_ret
    exact ⟨rfl, by assumption⟩
  · have d1 : ((n : Int) == 0) = false := beq_eq_false_iff_ne.2 (by omega)
    have n8 : 8 < n := by omega
    clear n0 ho
    go_enter Try.func5, Try.ntmps5
    go_wp2_with (go_at_call 6; ((with_reducible refine (awake_any _).mono ?_); rintro e w2 ⟨rfl, hg2⟩))
    go_ret
    exact ⟨rfl, by assumption⟩

set_option maxRecDepth 100000 in
set_option maxHeartbeats 8000000 in
theorem swaps_in (p : ByteArray) (i : Int) (b o n c : Nat) (M : List ByteArray) (w : World) (hi1 : -9223372036854775808 ≤ i) (hi2 : i ≤ 9223372036854775807) (hp : p.size ≤ 200) (hn0 : 0 < n) (hn8 : n ≤ 8) (hs : Sl w ⟨b, o, none⟩ n c M) (hz : ∀ x ∈ M, x.size ≤ 9223372036854775807) :
    Calls Try.prog 5 #[.string p, .int .i64 i, .slice (some ⟨b, o, none⟩) n c] w fun e w' => e = .returned (.bool true) ∧ Ke w w' := by
  have hcn := hs.2.1
  have hcx := hs.2.2.1
  simp only [maxLen] at hcx
  have HML := Lib.hid hs.1
  have HS := Lib.hid hs
  have HZ := Lib.hid hz
  have hl := splS_le p
  have d1 : ((n : Int) == 0) = false := beq_eq_false_iff_ne.2 (by omega)
  clear hs hz
  go_enter Try.func5, Try.ntmps5
  go_wp2_with fail
  go_loopw [28] (fun j wr => ∃ k : Nat, k ≤ n ∧ j = .int .i64 k ∧ Ke w wr ∧ ∀ j, j < k → segS (M.getD j ⟨#[]⟩) = true) (fun j _ => n - (intOf j).toNat)
  case atStart => exact ⟨0, Nat.zero_le _, rfl, Ke.refl _, fun j hj => absurd hj (by omega)⟩
  case round =>
    obtain ⟨k, hkl, rfl, hkr, hall⟩ := hrel
    have HA := Lib.hid hall
    have HR := Lib.hid hkr
    clear hall hkr
    by_cases hlt : k < n
    · have g := (HS.out.ke HR.out).get hlt
      have hlL : k < M.length := by rw [← HML.out]; exact hlt
      have hxz : (M.getD k ⟨#[]⟩).size ≤ 9223372036854775807 := by
        rw [List.getD_eq_getElem?_getD, List.getElem?_eq_getElem hlL]
        exact HZ.out _ (List.getElem_mem hlL)
      generalize hxx : M.getD k ⟨#[]⟩ = x at g hxz
      have HX := Lib.hid hxx
      clear hxx hlL
      cases hsg : segS x with
      | true =>
        have HG := Lib.hid hsg
        clear hsg
        go_wp2_with (go_at_call 11; ((with_reducible refine (seg_c _ true HG.out (by omega) _).mono ?_); rintro e w2 ⟨rfl, hk2⟩))
        go_roundw
        case rel =>
          refine ⟨k + 1, hlt, by go_num, HR.out.trans hk2, fun j hj => ?_⟩
          rcases Nat.lt_or_ge j k with h3 | h3
          · exact HA.out j h3
          · obtain rfl : j = k := by omega
            rw [HX.out]; exact HG.out
        case measure => simp [intOf]; omega
      | false =>
        have HG := Lib.hid hsg
        clear hsg
        go_wp2_with (first
          | (go_at_call 11; ((with_reducible refine (seg_c _ false HG.out (by omega) _).mono ?_); rintro e w2 ⟨rfl, hk2⟩))
          | (go_at_call 6; ((with_reducible refine (awake_any _).mono ?_); rintro e w3 ⟨rfl, hg2⟩)))
        go_ret
        exact ⟨rfl, HR.out.trans (hk2.trans hg2)⟩
    · obtain rfl : k = n := by omega
      have hseg : ∀ x ∈ M, segS x = true := fun x hx => by
        obtain ⟨j, hj⟩ := List.getElem?_of_mem hx
        have hjl := (List.getElem?_eq_some_iff.1 hj).1
        have := HA.out j (by have := HML.out; omega)
        rwa [List.getD_eq_getElem?_getD, hj] at this
      have HSEG := Lib.hid hseg
      have HMS := Lib.hid (fun x (hx : x ∈ M) => show x.size ≤ 2000 by have := (segL_len _ (hseg x hx)).1; rw [← ba_size] at this; omega)
      clear hseg HA HZ
      go_wp2_with fail
      go_at_call 8
      refine (split_any p _ (by omega)).mono ?_
      rintro e w1 ⟨b1, c1, rfl, hs1, hbb1, hk1⟩
      have hcm1 := hs1.2.1
      have hcx1 := hs1.2.2.1
      simp only [maxLen] at hcx1
      have HS1 := Lib.hid hs1
      have HK1 := Lib.hid (HR.out.trans hk1)
      clear hs1 hk1 hbb1 HR
      go_wp2_with fail
      go_at_call 23
      refine (swap_any p i _ _ c M _ (by omega) hi1 hi2 (.inr ⟨_, rfl, HS.out.ke HK1.out⟩) (by omega) HMS.out).mono ?_
      rintro e w2 ⟨rfl, hk2⟩
      have HS2 := Lib.hid (HS1.out.ke hk2)
      have HK2 := Lib.hid (HK1.out.trans hk2)
      clear hk2 HS1 HK1
      by_cases hlo : i < 0
      · have HE := Lib.hid (show swapS p i M = p by unfold swapS; rw [if_neg (by omega)])
        rw [HE.out]
        go_wp2_with (go_at_call 6; ((with_reducible refine (awake_any _).mono ?_); rintro e w3 ⟨rfl, hg2⟩))
        go_ret
        exact ⟨rfl, HK2.out.trans hg2⟩
      by_cases hhi : i < (splS p).length
      · obtain ⟨j, rfl⟩ : ∃ j : Nat, i = (j : Int) := ⟨i.toNat, by omega⟩
        have hjl : j < (splS p).length := by omega
        have HE := Lib.hid (show swapS p j M = joiS (swapT p j M) by unfold swapS; rw [if_pos (by omega), Int.toNat_natCast])
        have HF := Lib.hid (swapT_few p j M hjl (by omega) (by have := HML.out; omega) HMS.out)
        have HB := Lib.hid (swapT_back p j M (fun e => by have := HML.out; rw [e] at this; simp at this; omega) HSEG.out)
        rw [HE.out]
        have hqz := joiS_size _ HF.out
        obtain ⟨a2, ht, hr2, hr3⟩ := cut_tail b1 _ c1 j _ w2 HS2.out hjl
        have hh := cut_head b1 _ c1 j _ w2 HS2.out (by omega)
        have hr0 := run_head b1 (splS p).length c1 j (by omega)
        have hr1 := run_head2 b1 (splS p).length c1 j (by omega)
        obtain ⟨v1, x1, v2, x2, g, cap, x3, ha1, ha2, ha3, hsw, hkx⟩ := want_run w2.drew b1 c1 _ c ⟨b, o, none⟩ a2 p j M hjl hp hn0 hn8 hh.drew ((HS.out.ke HK2.out).drew) ht.drew
        have HA1 := Lib.hid ha1
        have HA2 := Lib.hid ha2
        have HA3 := Lib.hid ha3
        have HSW := Lib.hid hsw
        have HKX := Lib.hid (show Ke w2 x3 from ((Ke.refl w2).drew).trans hkx)
        have HJ := Lib.hid (fun (W : World) (h : Sl W ⟨g, 0, none⟩ (swapT p j M).length cap (swapT p j M)) => join_any g 0 _ cap (swapT p j M) W h HF.out)
        have hwr : IntKind.i64.wrap ((j : Int) + 1) = (j : Int) + 1 := IntWalk.i64_in _ (by omega)
        have hcm2 := hsw.2.1
        have hcx2 := hsw.2.2.1
        simp only [maxLen] at hcx2
        generalize joiS (swapT p j M) = q at hqz HB HJ ⊢
        clear ha1 ha2 ha3 hsw hkx hh ht hlo hhi HE HS2
        go_wp2_with fail
        go_region_law (first
          | (refine step_append_run rfl (.tmp 57) (.tmp 60) 24 rfl _ _ rfl rfl _ _ HA1.out ?_)
          | (refine step_append_run rfl (.tmp 61) (.tmp 62) 24 rfl _ _ rfl rfl _ _ HA2.out ?_)
          | (refine step_append_run rfl (.tmp 63) (.tmp 67) 24 rfl _ _ rfl rfl _ _ HA3.out ?_))
        clear hwr
        go_wp2_with fail
        go_at_call 8
        refine (split_any q _ (by omega)).mono ?_
        rintro e w3 ⟨b3, c3, rfl, hs3, hbb3, hk3⟩
        rw [HB.out] at hs3 ⊢
        have HM := Lib.hid (same_yes b3 0 c3 g 0 cap _ _ w3 hs3 (HSW.out.ke hk3))
        have HSW3 := Lib.hid (HSW.out.ke hk3)
        have HK3 := Lib.hid ((HK2.out.trans HKX.out).trans hk3)
        clear hs3 hk3 hbb3
        go_wp2_with fail
        go_at_call 7
        refine HM.out.mono ?_
        rintro e w4 ⟨rfl, hk4⟩
        have HJ4 := Lib.hid (HJ.out w4 (HSW3.out.ke hk4))
        have HK4 := Lib.hid (HK3.out.trans hk4)
        clear hk4
        go_wp2_with (first
          | (go_at_call 10; ((with_reducible refine HJ4.out.mono ?_); rintro e w5 ⟨rfl, hk5⟩))
          | (go_at_call 6; ((with_reducible refine (awake_any _).mono ?_); rintro e w6 ⟨rfl, hk6⟩)))
        go_ret
        exact ⟨rfl, HK4.out.trans (hk5.trans hk6)⟩
      · have HE := Lib.hid (show swapS p i M = p by unfold swapS; rw [if_neg (by omega)])
        rw [HE.out]
        go_wp2_with (go_at_call 6; ((with_reducible refine (awake_any _).mono ?_); rintro e w3 ⟨rfl, hg2⟩))
        go_ret
        exact ⟨rfl, HK2.out.trans hg2⟩
end Go.Proofs.Ytepjhijnihjedaa
