/-
  What is proved: the document's Put of layer 6, called with any text and any set that lies in memory, whatever its numbers, returns what P6.11 says; the world has new blocks at most.
-/
import Derived.Test.YtgofecnpmohmgaaCAt
import Derived.Test.YtgofecnpmohmgaaDPut
import Derived.IntWalk
namespace Go.Proofs.Ytgofecnpmohmgaa
open Go.RowKit

def putVs (V : List Int) (b : ByteArray) : ByteArray := V.foldl (fun b n => b ++ putS (zigI n).toNat) b
def putDs (C : List (Int × Int)) (b : ByteArray) : ByteArray := C.foldl putD b
/-- P6.11. -/
def putC (b : ByteArray) (V : List Int) (C : List (Int × Int)) : ByteArray := putDs C (putVs V (b ++ putS V.length) ++ putS C.length)
theorem putVs_succ {V : List Int} {k : Nat} {x : Int} (h : V[k]? = some x) (b : ByteArray) : putVs (V.take (k + 1)) b = putVs (V.take k) b ++ putS (zigI x).toNat := by
  unfold putVs
  rw [List.take_add_one, h, Option.toList_some, List.foldl_append]
  rfl
theorem putDs_succ {C : List (Int × Int)} {k : Nat} {x : Int × Int} (h : C[k]? = some x) (b : ByteArray) : putDs (C.take (k + 1)) b = putD (putDs (C.take k) b) x := by
  unfold putDs
  rw [List.take_add_one, h, Option.toList_some, List.foldl_append]
  rfl
theorem putVs_size (V : List Int) (b : ByteArray) : (putVs V b).size ≤ b.size + 10 * V.length := by
  induction V generalizing b with
  | nil => exact Nat.le_add_right _ _
  | cons x V ih =>
    have h1 := ih (b ++ putS (zigI x).toNat)
    have h2 := putS_size (zigI x).toNat
    rw [ByteArray.size_append] at h1
    show (putVs V (b ++ putS (zigI x).toNat)).size ≤ _
    rw [List.length_cons]
    omega
theorem putD_size (b : ByteArray) (x : Int × Int) : (putD b x).size ≤ b.size + 20 := by
  have h1 := putS_size (zigI x.1).toNat
  have h2 := putS_size (zigI x.2).toNat
  unfold putD
  rw [ByteArray.size_append, ByteArray.size_append]
  omega
theorem putDs_size (C : List (Int × Int)) (b : ByteArray) : (putDs C b).size ≤ b.size + 20 * C.length := by
  induction C generalizing b with
  | nil => exact Nat.le_add_right _ _
  | cons x C ih =>
    have h1 := ih (putD b x)
    have h2 := putD_size b x
    show (putDs C (putD b x)).size ≤ _
    rw [List.length_cons]
    omega
theorem putC_size (b : ByteArray) (V : List Int) (C : List (Int × Int)) : (putC b V C).size ≤ b.size + 20 + 10 * V.length + 20 * C.length := by
  have h1 := putDs_size C (putVs V (b ++ putS V.length) ++ putS C.length)
  have h2 := putVs_size V (b ++ putS V.length)
  have h3 := putS_size V.length
  have h4 := putS_size C.length
  rw [ByteArray.size_append] at h1 h2
  unfold putC
  omega
theorem rputN (b : ByteArray) (n : Nat) (w : World) (hn : n ≤ 1000000) (hb : b.size ≤ 90000) :
    Calls Try.prog 66 #[.string b, .int .u64 (n : Int)] w fun e w' => e = .returned (.string (b ++ putS n)) ∧ Kept w w' :=
  (rput9 b n w (by omega) (by omega) (by omega)).mono fun _ _ ⟨he, hg⟩ => ⟨by rw [he, Int.toNat_natCast], kept_of hg⟩

set_option maxRecDepth 100000 in
set_option maxHeartbeats 2000000 in
theorem rputC_any (b : ByteArray) (A : Option Addr) (n c : Nat) (V : List Int) (B : Option Addr) (m k : Nat) (C : List (Int × Int)) (w : World) (h : Il w A n c V) (hd : Dl w B m k C) (hb : b.size ≤ 10000) (hn : n ≤ 1000) (hm : m ≤ 1000)
    (hv : ∀ x ∈ V, -9223372036854775808 ≤ x ∧ x ≤ 9223372036854775807) (hc : ∀ d ∈ C, -9223372036854775808 ≤ d.1 ∧ d.1 ≤ 9223372036854775807 ∧ -9223372036854775808 ≤ d.2 ∧ d.2 ≤ 9223372036854775807) :
    Calls Try.prog 33 #[.string b, .agg #[.slice A n c, .slice B m k]] w fun e w' => e = .returned (.string (putC b V C)) ∧ Kept w w' := by
  have hcap := h.cap.1; have hcap2 := h.cap.2; have hdap := hd.cap.1; have hdap2 := hd.cap.2
  have HN := Lib.hid h.1; have HM := Lib.hid hd.1
  have hK := (Kept.refl w).alloc #[.slice A n c, .slice B m k] 25
  have HK := Lib.hid hK
  have HI := Lib.hid (h.kept hK)
  have HD := Lib.hid (hd.kept hK)
  have HV := Lib.hid hv
  have HC := Lib.hid hc
  have HP1 := Lib.hid (fun w => rputN b n w (by omega) (by omega))
  have hw1 : IntKind.u64.wrap (n : Int) = (n : Int) := by rw [IntKind.wrap_u64]; omega
  have hw2 : IntKind.u64.wrap (m : Int) = (m : Int) := by rw [IntKind.wrap_u64]; omega
  have hps := putS_size n
  have hps2 := putS_size m
  obtain ⟨b1, hb1⟩ : ∃ b1, b ++ putS n = b1 := ⟨_, rfl⟩
  have hsz1 : b1.size ≤ 10010 := by rw [← hb1, ByteArray.size_append]; omega
  rw [hb1] at HP1
  have HB1 := Lib.hid hb1
  clear h hd hK hv hc hb1
  go_enter Try.func33, Try.ntmps33
  go_wp2_with fail
  go_at_call 66
  refine (HP1.out _).mono ?_
  rintro e w1 ⟨rfl, hk1⟩
  have e0 := hk1.box0
  have e1 := hk1.box1
  have HK1 := Lib.hid hk1
  clear hk1
  go_wp2_with fail
  go_loopw [0, 18] (fun x i wr => ∃ t : Nat, t ≤ n ∧ i = .int .i64 t ∧ x = .string (putVs (V.take t) b1) ∧ Kept w1 wr) (fun _ i _ => n - (intOf i).toNat)
  case atStart => exact ⟨0, Nat.zero_le _, rfl, rfl, Kept.refl _⟩
  case round =>
    obtain ⟨t, ht, rfl, rfl, hkr⟩ := hrel
    have HR := Lib.hid hkr
    have hs := putVs_size (V.take t) b1
    rw [List.length_take] at hs
    clear hkr
    by_cases hlt : t < n
    · obtain ⟨g, o, x, rfl, hx, g1⟩ := (HI.out.kept (HK1.out.trans HR.out)).get hlt
      have hbd := HV.out x (List.mem_of_getElem? hx)
      have HS := Lib.hid (putVs_succ hx b1)
      obtain ⟨bt, hbt⟩ : ∃ bt, putVs (V.take t) b1 = bt := ⟨_, rfl⟩
      have HX := Lib.hid (fun w => rint_any bt x w hbd.1 hbd.2 (by rw [← hbt]; omega))
      rw [hbt] at hs HS ⊢
      clear hx hbd hbt e0 e1
      go_wp2_with (go_at_call 67; ((with_reducible refine (HX.out _).mono ?_); rintro e w5 ⟨rfl, hk5⟩))
      go_roundw
      case rel => exact ⟨t + 1, hlt, by go_num, by rw [HS.out], HR.out.trans (kept_of hk5)⟩
      case measure => simp [intOf]; omega
    · have htn : t = n := by omega
      have HVT := Lib.hid (show V.take t = V by rw [List.take_of_length_le (by have := HN.out; omega)])
      rw [HVT.out] at hs ⊢
      obtain ⟨b2, hb2⟩ : ∃ b2, putVs V b1 = b2 := ⟨_, rfl⟩
      obtain ⟨b3, hb3⟩ : ∃ b3, b2 ++ putS m = b3 := ⟨_, rfl⟩
      have hsz2 : b2.size ≤ 20010 := by rw [← hb2]; omega
      have hsz3 : b3.size ≤ 20020 := by rw [← hb3, ByteArray.size_append]; omega
      have HP2 := Lib.hid (fun w => rputN b2 m w (by omega) (by omega))
      rw [hb3] at HP2
      rw [hb2] at hs ⊢
      have HB2 := Lib.hid hb2
      have HB3 := Lib.hid hb3
      clear e0 e1 htn hb2 hb3
      have e0 := (HK1.out.trans HR.out).box0
      have e1 := (HK1.out.trans HR.out).box1
      go_wp2_with fail
      go_at_call 66
      refine (HP2.out _).mono ?_
      rintro e w6 ⟨rfl, hk6⟩
      have HK6 := Lib.hid (HK1.out.trans (HR.out.trans hk6))
      clear hk6 e0 e1
      have e0 := HK6.out.box0
      have e1 := HK6.out.box1
      go_wp2_with fail
      go_loopw [0, 35] (fun x i wr => ∃ t : Nat, t ≤ m ∧ i = .int .i64 t ∧ x = .string (putDs (C.take t) b3) ∧ Kept w6 wr) (fun _ i _ => m - (intOf i).toNat)
      case atStart => exact ⟨0, Nat.zero_le _, rfl, rfl, Kept.refl _⟩
      case round =>
        clear hs hlt
        obtain ⟨t, ht, rfl, rfl, hkr⟩ := hrel
        have HR2 := Lib.hid hkr
        have hs := putDs_size (C.take t) b3
        rw [List.length_take] at hs
        clear hkr e0 e1
        by_cases hlt : t < m
        · obtain ⟨g, o, ⟨y1, y2⟩, rfl, hy, g1, g2⟩ := (HD.out.kept (HK6.out.trans HR2.out)).get hlt
          simp only at g1 g2
          have hbd := HC.out _ (List.mem_of_getElem? hy)
          have HS := Lib.hid (putDs_succ hy b3)
          obtain ⟨bt, hbt⟩ : ∃ bt, putDs (C.take t) b3 = bt := ⟨_, rfl⟩
          obtain ⟨bq, hbq⟩ : ∃ bq, putD bt (y1, y2) = bq := ⟨_, rfl⟩
          have HX := Lib.hid (fun w => rputD_any bt (y1, y2) bq hbq w hbd.1 hbd.2.1 hbd.2.2.1 hbd.2.2.2 (by rw [← hbt]; omega))
          rw [hbt] at hs HS ⊢
          rw [hbq] at HS
          clear hy hbd hbt hbq
          go_wp2_with (go_at_call 68; ((with_reducible refine (HX.out _).mono ?_); rintro e w5 ⟨rfl, hk5⟩))
          clear g1 g2
          go_roundw
          case rel => exact ⟨t + 1, hlt, by go_num, by rw [HS.out], HR2.out.trans (((Kept.refl _).alloc _ _).trans hk5)⟩
          case measure => simp [intOf]; omega
        · have htm : t = m := by omega
          have HF := Lib.hid (show putDs (C.take t) b3 = putC b V C by
            rw [List.take_of_length_le (by have := HM.out; omega), ← HB3.out, ← HB2.out, ← HB1.out]
            unfold putC
            rw [← HN.out, ← HM.out])
          clear htm
          go_wp2_with fail
          go_ret
          exact ⟨ret_str HF.out, HK.out.trans (HK6.out.trans HR2.out)⟩
end Go.Proofs.Ytgofecnpmohmgaa
