/-
  What is proved: the document's own number and Text of layer 3, called with any value, return what P3.5 says; the world has new blocks at most.
-/
import Derived.Test.YtoanccojpppfoaaDoorText
namespace Go.Proofs.YtoanccojpppfoaaDoor
open Go.RowKit

def digS (u : Nat) : ByteArray := ⟨(Lib.decDigits u).toArray⟩
/-- What holds at each round's head: u is left, o are the digits behind it. -/
def NumInv (N u : Nat) (o : ByteArray) : Prop := digS u ++ o = digS N ∧ u ≤ N ∧ o.size + (Lib.decDigits u).length = (Lib.decDigits N).length
theorem numInv_step {N u : Nat} {o : ByteArray} (h : NumInv N u o) (hu : 10 ≤ u) : NumInv N (u / 10) (byteS (48 + (u : Int) % 10) ++ o) := by
  obtain ⟨h1, h2, h3⟩ := h
  have e : Lib.decDigits u = Lib.decDigits (u / 10) ++ [UInt8.ofNat (48 + u % 10)] := by rw [Lib.decDigits, dif_neg (by omega)]
  refine ⟨?_, by omega, ?_⟩
  · rw [← h1]
    apply ba_ext
    rw [ba_app, ba_app, ba_app]
    show Lib.decDigits (u / 10) ++ ([UInt8.ofNat (48 + (u : Int) % 10).toNat] ++ o.data.toList) = Lib.decDigits u ++ o.data.toList
    rw [e, show (48 + (u : Int) % 10).toNat = 48 + u % 10 by omega]
    simp
  · rw [ByteArray.size_append, byteS_size]
    rw [e] at h3
    simp at h3
    omega
theorem numInv_end {N u : Nat} {o : ByteArray} (h : NumInv N u o) (hu : u < 10) : byteS (48 + (u : Int)) ++ o = digS N := by
  rw [← h.1]
  congr 1
  unfold byteS digS
  rw [Lib.decDigits_one hu, show (48 + (u : Int)).toNat = 48 + u by omega]

theorem itoa_pos (n : Int) (h : 0 ≤ n) : digS n.natAbs = itoaS n := by
  unfold digS itoaS Lib.itoa
  rw [if_neg (by omega), show n.natAbs = n.toNat by omega]
theorem itoa_min (n : Int) (h : n < 0) : (⟨#[45]⟩ : ByteArray) ++ digS n.natAbs = itoaS n := by
  unfold digS itoaS Lib.itoa
  rw [if_pos h]
  apply ba_ext
  rw [ba_app]
  rfl

theorem digs_len (u : Nat) (h : u ≤ 9223372036854775808) : (Lib.decDigits u).length ≤ 21 := by
  by_cases e : u = 9223372036854775808
  · subst e
    have := Lib.itoa_length_le (-9223372036854775808) (by decide) (by decide)
    unfold Lib.itoa at this
    rw [if_pos (by decide)] at this
    simp only [List.length_cons] at this
    have e2 : (-9223372036854775808 : Int).natAbs = 9223372036854775808 := by decide
    rw [e2] at this
    omega
  · have := Lib.itoa_length_le (u : Int) (by omega) (by omega)
    unfold Lib.itoa at this
    rw [if_neg (by omega)] at this
    simpa using this

set_option maxRecDepth 100000 in
set_option maxHeartbeats 1000000 in
theorem number_any (n : Int) (w : World) (h0 : -9223372036854775808 ≤ n) (h1 : n ≤ 9223372036854775807) :
    Calls Tryd.prog 64 #[.int .i64 n] w fun e w' => e = .returned (.string (itoaS n)) ∧ Grown w w' := by
  by_cases hn : n < 0
  · have HU : ∃ N : Nat, n.natAbs = N ∧ 1 ≤ N ∧ N ≤ 9223372036854775808 ∧ IntKind.u64.wrap (-(IntKind.u64.wrap n)) = (N : Int) := ⟨_, rfl, by omega, by omega, by rw [IntKind.wrap_u64, IntKind.wrap_u64]; omega⟩
    obtain ⟨N, hN, hN0, hN1, hwr⟩ := HU
    have HE := Lib.hid (itoa_min n hn)
    rw [hN] at HE
    have HL := Lib.hid (digs_len N hN1)
    clear hN
    go_enter Tryd.func64, Tryd.ntmps64
    go_wp2_with fail
    clear hwr
    go_loopw [3, 4] (fun a b wr => ∃ (u : Nat) (o : ByteArray), NumInv N u o ∧ Grown w wr ∧ a = .int .u64 u ∧ b = .string o) (fun a _ _ => (intOf a).toNat)
    case atStart => exact ⟨N, ⟨#[]⟩, ⟨ba_ext (by rw [ba_app]; exact List.append_nil _), Nat.le_refl _, Nat.zero_add _⟩, Grown.refl _, rfl, rfl⟩
    case round =>
      obtain ⟨u, o, hinv, hgr, rfl, rfl⟩ := hrel
      have hu1 : u ≤ N := hinv.2.1
      have ho : o.size ≤ 21 := by have := hinv.2.2; have := HL.out; omega
      by_cases hu : 10 ≤ u
      · have h1t := one_text (48 + (u : Int) % 10) wr
        have h1s := byteS_size (48 + (u : Int) % 10)
        have HS := Lib.hid (numInv_step hinv hu)
        clear hinv
        go_wp2_with fail
        exact ⟨⟨u / 10, _, HS.out, hgr.alloc _ _, by go_num, rfl⟩, by simp [intOf]; omega⟩
      · have h1t := one_text (48 + (u : Int)) wr
        have h1s := byteS_size (48 + (u : Int))
        have HS := Lib.hid (numInv_end hinv (by omega))
        have hsz : (byteS (48 + (u : Int)) ++ o).size ≤ 22 := by rw [ByteArray.size_append, h1s]; omega
        clear hinv
        go_wp2_with fail
        go_ret
        exact ⟨ret_str (by rw [HS.out]; exact HE.out), hgr.alloc _ _⟩
  · obtain ⟨N, rfl⟩ : ∃ N : Nat, n = (N : Int) := ⟨n.toNat, by omega⟩
    have HE := Lib.hid (itoa_pos (N : Int) (by omega))
    rw [show (N : Int).natAbs = N by omega] at HE
    have hN1 : N ≤ 9223372036854775808 := by omega
    have HL := Lib.hid (digs_len N hN1)
    go_enter Tryd.func64, Tryd.ntmps64
    go_wp2_with fail
    go_loopw [3, 4] (fun a b wr => ∃ (u : Nat) (o : ByteArray), NumInv N u o ∧ Grown w wr ∧ a = .int .u64 u ∧ b = .string o) (fun a _ _ => (intOf a).toNat)
    case atStart => exact ⟨N, ⟨#[]⟩, ⟨ba_ext (by rw [ba_app]; exact List.append_nil _), Nat.le_refl _, Nat.zero_add _⟩, Grown.refl _, rfl, rfl⟩
    case round =>
      obtain ⟨u, o, hinv, hgr, rfl, rfl⟩ := hrel
      have hu1 : u ≤ N := hinv.2.1
      have ho : o.size ≤ 21 := by have := hinv.2.2; have := HL.out; omega
      by_cases hu : 10 ≤ u
      · have h1t := one_text (48 + (u : Int) % 10) wr
        have h1s := byteS_size (48 + (u : Int) % 10)
        have HS := Lib.hid (numInv_step hinv hu)
        clear hinv
        go_wp2_with fail
        exact ⟨⟨u / 10, _, HS.out, hgr.alloc _ _, by go_num, rfl⟩, by simp [intOf]; omega⟩
      · have h1t := one_text (48 + (u : Int)) wr
        have h1s := byteS_size (48 + (u : Int))
        have HS := Lib.hid (numInv_end hinv (by omega))
        have hsz : (byteS (48 + (u : Int)) ++ o).size ≤ 22 := by rw [ByteArray.size_append, h1s]; omega
        clear hinv
        go_wp2_with fail
        go_ret
        exact ⟨ret_str (by rw [HS.out]; exact HE.out), hgr.alloc _ _⟩

theorem idx_no (wx : World) : (Instr.index 77 (.agg #[.string ⟨#[110, 111]⟩, .string ⟨#[121, 101, 115]⟩]) (.int .i64 0)).run Tryd.prog wx = .ok (.string ⟨#[110, 111]⟩) wx := by kernel_rfl
theorem idx_yes (wx : World) : (Instr.index 77 (.agg #[.string ⟨#[110, 111]⟩, .string ⟨#[121, 101, 115]⟩]) (.int .i64 1)).run Tryd.prog wx = .ok (.string ⟨#[121, 101, 115]⟩) wx := by kernel_rfl

theorem rtextV_any (k n : Int) (t : ByteArray) (w : World) (h0 : -9223372036854775808 ≤ n) (h1 : n ≤ 9223372036854775807) (ht : t.size ≤ 1000000000000) :
    Calls Tryd.prog 50 #[.agg #[.int .i64 k, .int .i64 n, .string t]] w fun e w' => e = .returned (.string (textV k n t)) ∧ Grown w w' := by
  by_cases k1 : k = 1
  · subst k1
    have HR := Lib.hid (show itoaS n = textV 1 n t from rfl)
    go_enter Tryd.func50, Tryd.ntmps50
    go_wp2_with (go_at_call 64; ((with_reducible refine (number_any n _ h0 h1).mono ?_); rintro e w1 ⟨rfl, hg⟩))
    go_ret
    exact ⟨ret_str HR.out, grown_trans ((Grown.refl _).alloc _ _) (by assumption)⟩
  by_cases k2 : k = 2
  · subst k2
    have HR := Lib.hid (show ⟨#[39]⟩ ++ t = textV 2 n t from rfl)
    go_enter Tryd.func50, Tryd.ntmps50
    go_wp2_with fail
    go_ret
    exact ⟨ret_str HR.out, (Grown.refl _).alloc _ _⟩
  by_cases k3 : k = 3
  · subst k3
    have hand := i64_and1 n
    by_cases hn : n % 2 = 0
    · rw [hn] at hand
      have hix := idx_no
      have HR := Lib.hid (show noS = textV 3 n t by unfold textV; simp [hn])
      clear hn
      go_enter Tryd.func50, Tryd.ntmps50
      go_wp2_with fail
      go_ret
      exact ⟨ret_str HR.out, (Grown.refl _).alloc _ _⟩
    · have HR := Lib.hid (show yesS = textV 3 n t by unfold textV; simp [hn])
      have hn1 : n % 2 = 1 := by omega
      rw [hn1] at hand
      have hix := idx_yes
      clear hn hn1
      go_enter Tryd.func50, Tryd.ntmps50
      go_wp2_with fail
      go_ret
      exact ⟨ret_str HR.out, (Grown.refl _).alloc _ _⟩
  · have HR := Lib.hid (show ⟨#[45]⟩ = textV k n t by unfold textV; rw [if_neg k1, if_neg k2, if_neg k3])
    have d1 : (k == 1) = false := by simpa using k1
    have d2 : (k == 2) = false := by simpa using k2
    have d3 : (k == 3) = false := by simpa using k3
    go_enter Tryd.func50, Tryd.ntmps50
    go_wp2_with fail
    go_ret
    exact ⟨ret_str HR.out, (Grown.refl _).alloc _ _⟩
end Go.Proofs.YtoanccojpppfoaaDoor
