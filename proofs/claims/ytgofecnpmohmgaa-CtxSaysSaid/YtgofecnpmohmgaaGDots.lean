/-
  What is proved: Dots of package ctx, called with any set that lies in memory and whose Vec is good, and any number, returns the first so many of what the set tells (P6.9); the world has new blocks at most.
-/
import Derived.Test.YtgofecnpmohmgaaCDots
import Derived.Test.YtgofecnpmohmgaaDWith
namespace Go.Proofs.Ytgofecnpmohmgaa
open Go.RowKit

theorem out_rep (D R : List (Int × Int)) (M : Nat) : D.take M ++ R.take (min R.length (M - (D.take M).length)) = (D ++ R).take M := by
  rw [List.take_append, List.length_take]
  congr 1
  by_cases h : D.length ≤ M
  · rw [show min M D.length = D.length by omega]
    rcases Nat.le_total R.length (M - D.length) with h2 | h2
    · rw [Nat.min_eq_left h2, List.take_of_length_le (Nat.le_refl _), List.take_of_length_le h2]
    · rw [Nat.min_eq_right h2]
  · rw [show min M D.length = M by omega, Nat.sub_self, Nat.min_zero, show M - D.length = 0 by omega]
theorem repD_len (i : Nat) (x : Int) : (repD i x).length = x.toNat := by unfold repD; rw [List.length_map, List.length_range]

set_option maxRecDepth 100000 in
set_option maxHeartbeats 4000000 in
theorem gdots_any (A : Option Addr) (n c : Nat) (V : List Int) (B : Option Addr) (m k : Nat) (C : List (Int × Int)) (most : Int) (w : World) (h : Il w A n c V) (hv : VecOk V) (hd : Dl w B m k C) (hmo : most ≤ 100000) :
    Calls Try.prog 30 #[.agg #[.slice A n c, .slice B m k], .int .i64 most] w fun e w' => ∃ A' c', e = .returned (.slice A' ((dotsC V C).take most.toNat).length c') ∧ Dl w' A' ((dotsC V C).take most.toNat).length c' ((dotsC V C).take most.toNat) ∧ Kept w w' := by
  have hcap := h.cap.1; have hcap2 := h.cap.2; have hdap := hd.cap.1; have hdap2 := hd.cap.2
  have HN := Lib.hid h.1; have HM := Lib.hid hd.1
  have hK := (Kept.refl w).alloc #[.slice A n c, .slice B m k] 25
  have HK := Lib.hid hK
  have HI := Lib.hid (h.kept hK)
  have HD := Lib.hid (hd.kept hK)
  have HV := Lib.hid hv
  obtain ⟨M, hM⟩ : ∃ M, most.toNat = M := ⟨_, rfl⟩
  have hM2 : M ≤ 100000 := by omega
  have hmax : max most 0 = (M : Int) := by omega
  have HX := Lib.hid (Box2.new w (.slice A n c) (.slice B m k) 25)
  obtain ⟨U, hU⟩ : ∃ U, w.alloc (.cells #[.slice A n c, .slice B m k] 25) = U := ⟨_, rfl⟩
  rw [hU] at HK HI HD HX
  rw [hM]
  have HU := Lib.hid hU
  have hlen : ∀ L : List (Int × Int), (L.take M).length ≤ M := fun L => List.length_take_le ..
  have HLE := Lib.hid hlen
  clear h hv hd hK hU hM hlen hmo
  go_enter Try.func30, Try.ntmps30
  go_wp2_with fail
  clear hmax
  go_loopw [5, 14] (fun v i wr => ∃ t : Nat, t ≤ n ∧ i = .int .i64 t ∧ OutD U wr v ((dotsV V t).take M)) (fun _ i _ => n - (intOf i).toNat)
  case atStart => exact ⟨0, Nat.zero_le _, rfl, by rw [HU.out, show (dotsV V 0).take M = [] by simp [dotsV]]; exact OutD.start _⟩
  case round =>
    obtain ⟨t, ht, rfl, hout⟩ := hrel
    have HO := Lib.hid hout
    have hle := HLE.out (dotsV V t)
    obtain ⟨L, hL⟩ : ∃ L, (dotsV V t).take M = L := ⟨_, rfl⟩
    rw [hL] at HO hle hout
    obtain ⟨A3, c3, rfl, h31, h32, hdl⟩ := hout.form
    have HL := Lib.hid hL
    have HDL := Lib.hid hdl
    have e0 := (HX.out.kept hout.ke).c0
    have e1 := (HX.out.kept hout.ke).c1
    clear hout hL hdl
    by_cases hlt : t < n
    · obtain ⟨g, o, x, rfl, hx, g1⟩ := (HI.out.kept HO.out.ke).get hlt
      have hxb := HV.out.bd x (List.mem_of_getElem? hx)
      obtain ⟨hxb1, hxb2⟩ := hxb
      have HS := Lib.hid (dotsV_succ hx)
      obtain ⟨K, hKK⟩ : ∃ K : Nat, min x ((M : Int) - (L.length : Int)) = (K : Int) := ⟨(min x ((M : Int) - (L.length : Int))).toNat, by omega⟩
      have hK1 : (K : Int) ≤ x := by omega
      have hK2 : L.length + K ≤ M := by omega
      have HEND := Lib.hid (show (dotsV V (t + 1)).take M = L ++ (repD t x).take K by
        rw [HS.out, ← out_rep, HL.out, repD_len, show min x.toNat (M - L.length) = K by omega])
      clear hx
      go_wp2_with fail
      clear hKK
      go_loopw [5, 25] (fun v i wi => ∃ s : Nat, s ≤ K ∧ i = .int .i64 (s : Int) ∧ OutD U wi v (L ++ (repD t x).take s)) (fun _ i _ => K - (intOf i).toNat)
      case atStart => exact ⟨0, Nat.zero_le _, rfl, by rw [List.take_zero, List.append_nil]; exact HO.out⟩
      case round =>
        obtain ⟨s, hs, rfl, hout⟩ := hrel
        have HO2 := Lib.hid hout
        obtain ⟨A4, c4, rfl, h41, h42, _⟩ := hout.form
        have hll : (L ++ (repD t x).take s).length = L.length + s := by rw [List.length_append, List.length_take, repD_len]; omega
        rw [hll] at h41 ⊢
        rw [hll] at HO2
        have HLL := Lib.hid hll
        clear hout hll e0 e1 g1
        by_cases hsx : s < K
        · have d1 : decide ((s : Int) < (K : Int)) = true := by rw [decide_eq_true_iff]; omega
          have d2 : decide (s < K) = true := by rw [decide_eq_true_iff]; exact hsx
          obtain ⟨v7, w7, hr7, ho7⟩ := HO2.out.put (by have := HLL.out; omega) (t : Int) ((s : Int) + 1)
          have HR7 := Lib.hid hr7
          have HO7 := Lib.hid (show OutD U w7 v7 (L ++ (repD t x).take (s + 1)) by
            rw [repD_take t x (by omega), ← List.append_assoc]
            exact ho7)
          clear hr7 ho7
          go_wp2_with (at_builtin; refine Lib.wpList_append_run _ rfl (.tmp 28) (.tmp 33) _ _ rfl _ _ rfl rfl _ _ HR7.out ?_)
          go_roundw
          case rel => exact ⟨s + 1, hsx, by go_num, HO7.out⟩
          case measure => simp [intOf]; omega
        · have d1 : decide ((s : Int) < (K : Int)) = false := by rw [decide_eq_false_iff_not]; omega
          have d2 : decide (s < K) = false := by rw [decide_eq_false_iff_not]; exact hsx
          have HO3 := Lib.hid (show OutD U _ (.slice A4 (L.length + s) c4) ((dotsV V (t + 1)).take M) by
            rw [HEND.out, show K = s by omega]; exact HO2.out)
          go_wp2_with fail
          go_roundw
          case rel => exact ⟨t + 1, hlt, by go_num, HO3.out⟩
          case measure => simp [intOf]; omega
    · have htn : t = n := by omega
      have HT := Lib.hid (show dotsV V t = dotsV V V.length by rw [htn, HN.out])
      obtain ⟨K, hKK⟩ : ∃ K : Nat, min (m : Int) ((M : Int) - (L.length : Int)) = (K : Int) := ⟨(min (m : Int) ((M : Int) - (L.length : Int))).toNat, by omega⟩
      have hK1 : K ≤ m := by omega
      have hK2 : L.length + K ≤ M := by omega
      have HEND := Lib.hid (show (dotsC V C).take M = L ++ C.take K by
        unfold dotsC
        rw [← HT.out, ← out_rep, HL.out, show min C.length (M - L.length) = K by have := HM.out; omega])
      have hr4 := run_dhead B m k K (by omega)
      obtain ⟨v7, w7, hr7, ho7, hg7⟩ := app_dots wr U.heap.size _ _ _ HO.out.own B K k (C.take K) (dl_head (HD.out.kept HO.out.ke) hK1) (by omega) HO.out.ke.2.2
      rw [← flatD_app] at ho7
      have HR7 := Lib.hid hr7
      have HK7 := Lib.hid (show Kept U w7 from kept_grown HO.out.ke hg7 fun g hg => (HO.out.own.lt g hg).1)
      obtain ⟨A7, c7, rfl, hd7⟩ := Dl.of_own ho7
      have HD7 := Lib.hid hd7
      have HLN := Lib.hid (show ((dotsC V C).take M).length = L.length + K by rw [HEND.out, List.length_append, List.length_take]; have := HM.out; omega)
      clear htn hr7 ho7 hg7 hd7
      go_wp2_with (at_builtin; refine Lib.wpList_append_run _ rfl (.tmp 37) (.tmp 48) _ _ rfl _ _ rfl rfl _ _ HR7.out ?_)
      go_ret
      exact ⟨A7, c7, by rw [HLN.out]; rfl, by rw [HLN.out, HEND.out]; exact HD7.out, HK.out.trans HK7.out⟩
end Go.Proofs.Ytgofecnpmohmgaa
