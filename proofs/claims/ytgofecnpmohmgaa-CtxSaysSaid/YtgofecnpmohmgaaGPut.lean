/-
  What is proved: Put of package ctx, called with any text and any set that lies in memory, of bounded length, whatever its numbers, returns what P6.11 says; the world has new blocks at most.
-/
import Derived.Test.YtgofecnpmohmgaaGBuild
import Derived.Test.YtgofecnpmohmgaaCPut
import Derived.Test.YtgofecnpmohmgaaCBackMath
namespace Go.Proofs.Ytgofecnpmohmgaa
open Go.RowKit

theorem gputN (b : ByteArray) (n : Nat) (w : World) (hn : n ≤ 1000000) (hb : b.size ≤ 90000) (r : ByteArray) (hr : b ++ putS n = r) :
    Calls Try.prog 62 #[.string b, .int .u64 (n : Int)] w fun e w' => e = .returned (.string r) ∧ Kept w w' := by
  subst hr
  exact (put_any b n w (by omega) (by omega)).mono fun _ _ ⟨he, hg⟩ => ⟨he, kept_of hg⟩
theorem gintN (x : Int) (w : World) (h1 : -9223372036854775808 ≤ x) (h2 : x ≤ 9223372036854775807) (r : ByteArray) (hr : putS (zigI x).toNat = r) :
    Calls Try.prog 63 #[.string ⟨#[]⟩, .int .i64 x] w fun e w' => e = .returned (.string r) ∧ Kept w w' := by
  subst hr
  exact (int_any ⟨#[]⟩ x w h1 h2 (by decide)).mono fun _ _ ⟨he, hg⟩ => ⟨by rw [he, ba_nil], kept_of hg⟩
theorem putD_cut (b : ByteArray) (x : Int × Int) : putD b x = b ++ putD ⟨#[]⟩ x := by
  unfold putD
  rw [ba_nil, ba_assoc]
theorem ba_list (a b r : ByteArray) (h : a ++ b = r) : a.data.toList ++ b.data.toList = r.data.toList := by
  subst h
  simp [ByteArray.data_append]
theorem ba_len (a : ByteArray) : a.data.toList.length = a.size := by simp

set_option maxRecDepth 100000 in
set_option maxHeartbeats 4000000 in
theorem gputC_any (b : ByteArray) (A : Option Addr) (n c : Nat) (V : List Int) (B : Option Addr) (m k : Nat) (C : List (Int × Int)) (w : World) (h : Il w A n c V) (hd : Dl w B m k C) (hb : b.size ≤ 10000) (hn : n ≤ 1000) (hm : m ≤ 1000)
    (hv : ∀ x ∈ V, -9223372036854775808 ≤ x ∧ x ≤ 9223372036854775807) (hc : ∀ d ∈ C, -9223372036854775808 ≤ d.1 ∧ d.1 ≤ 9223372036854775807 ∧ -9223372036854775808 ≤ d.2 ∧ d.2 ≤ 9223372036854775807) :
    Calls Try.prog 32 #[.string b, .agg #[.slice A n c, .slice B m k]] w fun e w' => e = .returned (.string (putC b V C)) ∧ Kept w w' := by
  have hcap := h.cap.1; have hcap2 := h.cap.2; have hdap := hd.cap.1; have hdap2 := hd.cap.2
  have HN := Lib.hid h.1; have HM := Lib.hid hd.1
  have hK := (Kept.refl w).alloc #[.slice A n c, .slice B m k] 25
  have HK := Lib.hid hK
  have HI := Lib.hid (h.kept hK)
  have HD := Lib.hid (hd.kept hK)
  have HV := Lib.hid hv
  have HC := Lib.hid hc
  have HX := Lib.hid (Box2.new w (.slice A n c) (.slice B m k) 25)
  have hB0 := Bld.start (w.alloc (.cells #[.slice A n c, .slice B m k] 25))
  have hsz : (w.alloc (.cells #[.slice A n c, .slice B m k] 25)).heap.size = w.heap.size + 1 := by simp
  rw [hsz] at hB0
  have HB0 := Lib.hid hB0
  have hps := putS_size n
  have hps2 := putS_size m
  obtain ⟨b1, hb1⟩ : ∃ b1, b ++ putS n = b1 := ⟨_, rfl⟩
  have hsz1 : b1.size ≤ 10010 := by rw [← hb1, ByteArray.size_append]; omega
  have HP1 := Lib.hid (fun w => gputN b n w (by omega) (by omega) b1 hb1)
  have HB1 := Lib.hid hb1
  have hw1 : IntKind.u64.wrap (n : Int) = (n : Int) := by rw [IntKind.wrap_u64]; omega
  have hw2 : IntKind.u64.wrap (m : Int) = (m : Int) := by rw [IntKind.wrap_u64]; omega
  obtain ⟨U, hU⟩ : ∃ U, w.alloc (.cells #[.slice A n c, .slice B m k] 25) = U := ⟨_, rfl⟩
  have HXB := Lib.hid (((Kept.refl U).alloc #[.pointer none, .slice none 0 0] 77))
  rw [hU] at HK HI HD HX HB0 hsz
  have HU := Lib.hid hU
  clear h hd hK hv hc hb1 hB0 hU
  go_enter Try.func32, Try.ntmps32
  go_wp2_with fail
  go_at_call 62
  refine (HP1.out _).mono ?_
  rintro e w1 ⟨rfl, hk1⟩
  have HBL1 := Lib.hid (HB0.out.kept (by rw [← HU.out]; exact hk1))
  clear hk1
  go_wp2_with fail
  go_at_call 61
  refine (write_any HBL1.out b1 (by simp; omega) b1.data.toList (by simp)).mono ?_
  rintro e w2 ⟨rfl, hbl2⟩
  have HBL2 := Lib.hid hbl2
  have e0 := (HX.out.kept hbl2.ke).c0
  have e1 := (HX.out.kept hbl2.ke).c1
  clear hbl2
  go_wp2_with fail
  clear e0 e1
  go_loopw [20] (fun i wr => ∃ t : Nat, t ≤ n ∧ i = .int .i64 t ∧ Bld U (w.heap.size + 1) wr (putVs (V.take t) b1).data.toList) (fun i _ => n - (intOf i).toNat)
  case atStart => exact ⟨0, Nat.zero_le _, rfl, HBL2.out⟩
  case round =>
    obtain ⟨t, ht, rfl, hbl⟩ := hrel
    have HBL := Lib.hid hbl
    have hs := putVs_size (V.take t) b1
    rw [List.length_take] at hs
    clear hbl
    by_cases hlt : t < n
    · obtain ⟨g, o, x, rfl, hx, g1⟩ := (HI.out.kept HBL.out.ke).get hlt
      have hbd := HV.out x (List.mem_of_getElem? hx)
      obtain ⟨y, hy⟩ : ∃ y, putS (zigI x).toNat = y := ⟨_, rfl⟩
      have hys : y.size ≤ 10 := by rw [← hy]; exact putS_size _
      have HX5 := Lib.hid (fun w => gintN x w hbd.1 hbd.2 y hy)
      have HS := Lib.hid (show (putVs (V.take t) b1).data.toList ++ y.data.toList = (putVs (V.take (t + 1)) b1).data.toList from ba_list _ _ _ (by rw [putVs_succ hx, hy]))
      have hll : (putVs (V.take t) b1).data.toList.length + y.size ≤ 140737488355328 := by rw [ba_len]; omega
      have HLL := Lib.hid hll
      clear hx hbd hy hll
      go_wp2_with fail
      go_at_call 63
      refine (HX5.out _).mono ?_
      rintro e w5 ⟨rfl, hk5⟩
      go_wp2_with fail
      go_at_call 61
      refine (write_any (HBL.out.kept hk5) y HLL.out _ HS.out).mono ?_
      rintro e w6 ⟨rfl, hbl6⟩
      clear g1
      go_wp2_with fail
      go_roundw
      case rel => exact ⟨t + 1, hlt, by go_num, hbl6⟩
      case measure => simp [intOf]; omega
    · have htn : t = n := by omega
      have HVT := Lib.hid (show V.take t = V by rw [List.take_of_length_le (by have := HN.out; omega)])
      rw [HVT.out] at hs HBL
      obtain ⟨b2, hb2⟩ : ∃ b2, putVs V b1 = b2 := ⟨_, rfl⟩
      obtain ⟨y, hy⟩ : ∃ y, putS m = y := ⟨_, rfl⟩
      obtain ⟨b3, hb3⟩ : ∃ b3, b2 ++ y = b3 := ⟨_, rfl⟩
      have hys : y.size ≤ 10 := by rw [← hy]; exact putS_size _
      have hsz2 : b2.size ≤ 20010 := by rw [← hb2]; omega
      have hsz3 : b3.size ≤ 20020 := by rw [← hb3, ByteArray.size_append]; omega
      rw [hb2] at hs HBL
      have HP2 := Lib.hid (fun w => gputN ⟨#[]⟩ m w (by omega) (by decide) y (by rw [ba_nil, hy]))
      have HL3 := Lib.hid (show b2.data.toList ++ y.data.toList = b3.data.toList from ba_list _ _ _ hb3)
      have HB2 := Lib.hid hb2
      have HB3 := Lib.hid (show b2 ++ putS m = b3 by rw [hy]; exact hb3)
      have e0 := (HX.out.kept HBL.out.ke).c0
      have e1 := (HX.out.kept HBL.out.ke).c1
      have hll : b2.data.toList.length + y.size ≤ 140737488355328 := by rw [ba_len]; omega
      have HLL := Lib.hid hll
      clear htn hb2 hb3 hy hll
      go_wp2_with fail
      go_at_call 62
      refine (HP2.out _).mono ?_
      rintro e w6 ⟨rfl, hk6⟩
      go_wp2_with fail
      go_at_call 61
      refine (write_any (HBL.out.kept hk6) y HLL.out _ HL3.out).mono ?_
      rintro e w7 ⟨rfl, hbl7⟩
      have HBL7 := Lib.hid hbl7
      clear e0 e1
      have e0 := (HX.out.kept hbl7.ke).c0
      have e1 := (HX.out.kept hbl7.ke).c1
      clear hbl7 hk6
      go_wp2_with fail
      clear e0 e1
      go_loopw [37] (fun i wr => ∃ t : Nat, t ≤ m ∧ i = .int .i64 t ∧ Bld U (w.heap.size + 1) wr (putDs (C.take t) b3).data.toList) (fun i _ => m - (intOf i).toNat)
      case atStart => exact ⟨0, Nat.zero_le _, rfl, HBL7.out⟩
      case round =>
        clear hs hlt
        obtain ⟨t, ht, rfl, hbl⟩ := hrel
        have HBL8 := Lib.hid hbl
        have hs := putDs_size (C.take t) b3
        rw [List.length_take] at hs
        clear hbl
        by_cases hlt : t < m
        · obtain ⟨g, o, ⟨y1, y2⟩, rfl, hy, g1, g2⟩ := (HD.out.kept HBL8.out.ke).get hlt
          simp only at g1 g2
          have hbd := HC.out _ (List.mem_of_getElem? hy)
          simp only at hbd
          obtain ⟨q, hq⟩ : ∃ q, putD ⟨#[]⟩ (y1, y2) = q := ⟨_, rfl⟩
          have hqs : q.size ≤ 20 := by rw [← hq]; have := putD_size ⟨#[]⟩ (y1, y2); have : (⟨#[]⟩ : ByteArray).size = 0 := rfl; omega
          have HX5 := Lib.hid (fun w => dputD_any ⟨#[]⟩ (y1, y2) q hq w hbd.1 hbd.2.1 hbd.2.2.1 hbd.2.2.2 (by decide))
          have HS := Lib.hid (show (putDs (C.take t) b3).data.toList ++ q.data.toList = (putDs (C.take (t + 1)) b3).data.toList from ba_list _ _ _ (by rw [putDs_succ hy, putD_cut, hq]))
          have hll : (putDs (C.take t) b3).data.toList.length + q.size ≤ 140737488355328 := by rw [ba_len]; omega
          have HLL := Lib.hid hll
          clear hy hbd hq hll
          go_wp2_with fail
          go_at_call 64
          refine (HX5.out _).mono ?_
          rintro e w8 ⟨rfl, hk8⟩
          go_wp2_with fail
          go_at_call 61
          refine (write_any (HBL8.out.kept (((Kept.refl _).alloc #[.int .i64 y1, .int .i64 y2] 36).trans hk8)) q HLL.out _ HS.out).mono ?_
          rintro e w9 ⟨rfl, hbl9⟩
          clear g1 g2
          go_wp2_with fail
          go_roundw
          case rel => exact ⟨t + 1, hlt, by go_num, hbl9⟩
          case measure => simp [intOf]; omega
        · have HF := Lib.hid (show (⟨(putDs (C.take t) b3).data.toList.toArray⟩ : ByteArray) = putC b V C by
            rw [List.take_of_length_le (show C.length ≤ t by have := HM.out; omega)]
            unfold putC
            rw [← HN.out, HB1.out, HB2.out, ← HM.out, HB3.out])
          go_wp2_with fail
          go_at_call 65
          refine (string_any HBL8.out).mono ?_
          rintro e w9 ⟨rfl, hk9⟩
          go_wp2_with fail
          go_ret
          exact ⟨by rw [← HF.out]; rfl, HK.out.trans hk9⟩
end Go.Proofs.Ytgofecnpmohmgaa
