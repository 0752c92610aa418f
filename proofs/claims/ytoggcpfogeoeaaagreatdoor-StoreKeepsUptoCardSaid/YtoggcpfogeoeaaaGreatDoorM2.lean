/-
  What is proved: varint.Take, called with any text, returns what P1.2 says; the world has new blocks at most.
  a region that draws its order, whose operations read and whose callees make memory at most and hand back values that hang on no world, is walked once, in the text's order (by the library's wp_region_quiet at the class of all worlds grown out of one world).
  varint.Int, Text, TakeInt and TakeText, called with any arguments (texts of up to 2^62 bytes), return what P1.4 to P1.6 say; the world has new blocks at most.
  plain facts on texts as lists of bytes, P1.7 over texts, and the contracts of varint's takes at named results.
  plain facts on numbers and texts as bytes (P1.1 to P1.7), over texts: what is put is taken, whatever follows; what is taken is put as these bytes; no program is spoken of here.
-/
import Derived.Test.YtoggcpfogeoeaaaGreatDoorProg
import Derived.Test.YtoggcpfogeoeaaaGreatDoorM1
import Derived.WalkKit
import Derived.WalkSpells
import Derived.WalkLawsBesides
import Derived.LoopTactic
import Derived.RowKit3
import Derived.Outline
import Derived.Deep.QuietTactic
import Derived.BigQuiet
import Derived.Deep.LoopGhost
import Derived.Lib.Hide
import Derived.Laws.ShiftsVarLaws
import Derived.Laws.Shifts
import Derived.Lib.Strings
namespace Go.Proofs.YtoggcpfogeoeaaaGreatDoor
open Go.RowKit

/-- What Take says of a text: the number, what follows, the error. -/
def tkN (s : ByteArray) : Nat := (takeL s.data.toList).1
def tkR (s : ByteArray) : ByteArray := ⟨(takeL s.data.toList).2.1.toArray⟩
def tkE (s : ByteArray) : Nat := (takeL s.data.toList).2.2

/-- What holds at each round's head: k bytes are gone through, all of them 128 or above; acc is their number. -/
def TkInv (s : ByteArray) (k acc : Nat) : Prop :=
  k ≤ 9 ∧ k ≤ s.size ∧ acc < 128 ^ k ∧ takeL s.data.toList = tk k acc (s.data.toList.drop k)

theorem tkInv_bd {s : ByteArray} {k acc : Nat} (h : TkInv s k acc) : k ≤ 9 ∧ k ≤ s.size ∧ (acc : Int) < 9223372036854775808 := by
  obtain ⟨h1, h2, h3, _⟩ := h
  refine ⟨h1, h2, ?_⟩
  have : 128 ^ k ≤ 128 ^ 9 := Nat.pow_le_pow_right (by omega) h1
  have e : 128 ^ 9 = 9223372036854775808 := by decide
  omega

/-- One round's reckoning, in the walk's own words. -/
theorem round_bits (c k acc : Nat) (hc : c < 256) (hk : k ≤ 8 ∨ k = 9 ∧ c ≤ 1) (hacc : acc < 128 ^ k) :
    ∃ d m acc2 : Nat, bits BinOp.and IntKind.u8 (c : Int) 127 = (d : Int) ∧ d < 128 ∧ IntKind.u64.wrap ((d : Int) * 2 ^ (7 * k)) = (m : Int) ∧
      bits BinOp.or IntKind.u64 (acc : Int) (m : Int) = (acc2 : Int) ∧ RowKit.Hid (acc2 = acc + c % 128 * 128 ^ k ∧ acc2 < 18446744073709551616) := by
  have hb : c % 128 * 128 ^ k + 128 ^ k ≤ 18446744073709551616 := by
    rcases hk with h | ⟨rfl, h⟩
    · have h8 : 128 ^ k ≤ 128 ^ 8 := Nat.pow_le_pow_right (by omega) h
      have e8 : 128 ^ 8 = 72057594037927936 := by decide
      have : (c % 128 + 1) * 128 ^ k ≤ 128 * 128 ^ k := Nat.mul_le_mul_right _ (by omega)
      rw [Nat.add_mul, Nat.one_mul] at this
      omega
    · have e9 : 128 ^ 9 = 9223372036854775808 := by decide
      rw [e9]
      rcases (by omega : c = 0 ∨ c = 1) with rfl | rfl <;> omega
  have hp : 0 < 128 ^ k := Nat.pow_pos (by omega)
  have hk9 : k ≤ 9 := by omega
  have e7 : (2 : Nat) ^ (7 * k) = 128 ^ k := by rw [Nat.pow_mul]
  refine ⟨c % 128, c % 128 * 128 ^ k, acc + c % 128 * 128 ^ k, ?_, by omega, ?_, ?_, rfl, by omega⟩
  · rw [show (127 : Int) = ((127 : Nat) : Int) from rfl, u8_and_nat c 127 hc (by omega), nat_mask7]
  · rw [IntKind.wrap_u64]
    have e2 : (((c % 128 : Nat) : Int) * 2 ^ (7 * k)) = ((c % 128 * 128 ^ k : Nat) : Int) := by
      rw [← e7]; simp
    rw [e2]
    have e3 : ((c % 128 * 128 ^ k : Nat) : Int) % 18446744073709551616 = ((c % 128 * 128 ^ k : Nat) : Int) := Int.emod_eq_of_lt (by omega) (by omega)
    rw [e3]
  · rw [u64_or_nat acc _ (by omega) (by omega)]
    congr 1
    rw [Nat.or_comm, nat_join (7 * k) (c % 128 * 128 ^ k) acc (by rw [e7]; exact Nat.mul_mod_left _ _) (by rw [e7]; exact hacc), Nat.add_comm]

theorem ret3 {a a' : Int} {r r' : ByteArray} {e e' : Int} (h1 : a = a') (h2 : r = r') (h3 : e = e') :
    Ending.returned (.tuple #[.int .u64 a, .string r, .int .i64 e]) = .returned (.tuple #[.int .u64 a', .string r', .int .i64 e']) := by rw [h1, h2, h3]

theorem tk_cons (k acc : Nat) (c : UInt8) (r : List UInt8) : tk k acc (c :: r) =
    if k = 9 ∧ 1 < c.toNat then (0, [], 4) else if 0 < k ∧ c.toNat = 0 then (0, [], 3) else if c.toNat < 128 then (acc + c.toNat * 128 ^ k, r, 0) else tk (k + 1) (acc + (c.toNat - 128) * 128 ^ k) r := by rw [tk]
theorem tkInv_end {s : ByteArray} {k acc : Nat} (h : TkInv s k acc) (hge : ¬ k < s.size) : takeL s.data.toList = (0, [], 2) := by
  have e : s.data.toList.drop k = [] := List.drop_eq_nil_of_le (by have : s.data.toList.length = s.size := rfl; omega)
  rw [h.2.2.2, e]; rfl
theorem tkInv_at {s : ByteArray} {k acc : Nat} (h : TkInv s k acc) (hlt : k < s.size) : takeL s.data.toList = tk k acc (s[k] :: s.data.toList.drop (k + 1)) := by
  rw [h.2.2.2]
  congr 1
  have hl : k < s.data.toList.length := hlt
  rw [List.drop_eq_getElem_cons hl]
  rfl
theorem tkInv_long {s : ByteArray} {k acc : Nat} (h : TkInv s k acc) (hlt : k < s.size) (h9 : k = 9) (hc : 1 < s[k].toNat) : takeL s.data.toList = (0, [], 4) := by
  rw [tkInv_at h hlt, tk_cons, if_pos ⟨h9, hc⟩]
theorem tkInv_form {s : ByteArray} {k acc : Nat} (h : TkInv s k acc) (hlt : k < s.size) (h0 : 0 < k) (hc : s[k].toNat = 0) : takeL s.data.toList = (0, [], 3) := by
  rw [tkInv_at h hlt, tk_cons, if_neg (by omega), if_pos ⟨h0, hc⟩]
theorem tkInv_ok {s : ByteArray} {k acc : Nat} (h : TkInv s k acc) (hlt : k < s.size) (h9 : k = 9 → s[k].toNat ≤ 1) (h0 : 0 < k → s[k].toNat ≠ 0) (hc : s[k].toNat < 128) :
    takeL s.data.toList = (acc + s[k].toNat * 128 ^ k, s.data.toList.drop (k + 1), 0) := by
  rw [tkInv_at h hlt, tk_cons, if_neg (by omega), if_neg (by omega), if_pos hc]
theorem tkInv_next {s : ByteArray} {k acc : Nat} (h : TkInv s k acc) (hlt : k < s.size) (h9 : k ≠ 9) (hc : ¬ s[k].toNat < 128) :
    TkInv s (k + 1) (acc + s[k].toNat % 128 * 128 ^ k) := by
  obtain ⟨h1, h2, h3, h4⟩ := id h
  have hb := UInt8.toNat_lt s[k]
  refine ⟨by omega, by omega, ?_, ?_⟩
  · rw [Nat.pow_succ]
    have : (s[k].toNat % 128 + 1) * 128 ^ k ≤ 128 * 128 ^ k := Nat.mul_le_mul_right _ (by omega)
    rw [Nat.add_mul, Nat.one_mul] at this
    omega
  · rw [tkInv_at h hlt, tk_cons, if_neg (by omega), if_neg (by omega), if_neg hc, show s[k].toNat % 128 = s[k].toNat - 128 by omega]
theorem rest_extract (s : ByteArray) (k : Nat) : (⟨(s.data.toList.drop k).toArray⟩ : ByteArray) = s.extract k s.size := by
  apply ByteArray.ext
  apply Array.ext'
  rw [ByteArray.data_extract, Array.toList_extract]
  show s.data.toList.drop k = (s.data.toList.drop k).take (s.size - k)
  rw [List.take_of_length_le]
  rw [List.length_drop]
  exact Nat.le_refl _

theorem grown_drewN (w : World) (n : Nat) : Grown w (w.drewN n) := Grown.refl w

theorem res_err {s : ByteArray} {e : Nat} (h : takeL s.data.toList = (0, [], e)) : tkN s = 0 ∧ tkR s = ⟨#[]⟩ ∧ tkE s = e := by
  unfold tkN tkR tkE; rw [h]; exact ⟨rfl, rfl, rfl⟩
theorem res_ok {s : ByteArray} {x k : Nat} (h : takeL s.data.toList = (x, s.data.toList.drop k, 0)) : tkN s = x ∧ tkR s = s.extract k s.size ∧ tkE s = 0 := by
  unfold tkN tkR tkE; rw [h]; exact ⟨rfl, rest_extract s k, rfl⟩

set_option maxRecDepth 100000 in
set_option maxHeartbeats 1000000 in
theorem take_any (s : ByteArray) (w : World) (hs : s.size ≤ 9223372036854775807) :
    Calls Tryz.prog 63 #[.string s] w fun e w' => e = .returned (.tuple #[.int .u64 (tkN s), .string (tkR s), .int .i64 (tkE s)]) ∧ Grown w w' := by
  go_enter Tryz.func63, Tryz.ntmps63
  go_wp2
  go_step3
  go_wp2
  go_step3
  go_wp2
  go_loop [5, 6, 7, 8] (fun n m e i => ∃ (k acc : Nat), TkInv s k acc ∧ n = .int .u64 acc ∧ m = .int .i64 0 ∧ e = .int .i64 2 ∧ i = .int .i64 k) (fun _ _ _ i => s.size - (intOf i).toNat)
  case atStart => exact ⟨0, 0, ⟨by omega, by omega, by simp, by simp [takeL]⟩, rfl, rfl, rfl, rfl⟩
  case round =>
    obtain ⟨k, acc, hinv, rfl, rfl, rfl, rfl⟩ := hrel
    obtain ⟨hk9, hks, hacc⟩ := tkInv_bd hinv
    by_cases hlt : k < s.size
    · obtain ⟨c, hc, hc256, hix⟩ : ∃ c : Nat, c = s[k].toNat ∧ c < 256 ∧ ∀ wx, (Instr.index 9 (.string s) (.int .i64 k)).run Tryz.prog wx = .ok (.int .u8 c) wx :=
        ⟨_, rfl, UInt8.toNat_lt _, fun wx => by rw [run_index_string _ _ _ _ _ Tryz.underlying9]; simp [hlt]⟩
      have HC := Lib.hid hc
      clear hc
      by_cases hl : k = 9 ∧ 1 < c
      · have e9' : ((k : Int) == 9) = true := by simp; omega
        have el1 : decide ((1 : Int) < (c : Int)) = true := by simp; omega
        have HR := Lib.hid (res_err (tkInv_long hinv hlt hl.1 (by rw [← HC.out]; exact hl.2)))
        clear hl
        go_wp2
        go_ret3
        exact ⟨ret3 (by rw [HR.out.1]; rfl) HR.out.2.1.symm (by rw [HR.out.2.2]; rfl), Grown.refl _⟩
      by_cases hf : 0 < k ∧ c = 0
      · have ec1 : ((c : Int) == 0) = true := by simp [hf.2]
        have el1 : decide ((1 : Int) < (c : Int)) = false := by simp; omega
        have HR := Lib.hid (res_err (tkInv_form hinv hlt hf.1 (by rw [← HC.out]; exact hf.2)))
        have hk0 : 0 < k := hf.1
        clear hf hl
        by_cases e9 : k = 9
        · have e9' : ((k : Int) == 9) = true := by simp; omega
          clear e9
          go_wp2
          go_ret3
          exact ⟨ret3 (by rw [HR.out.1]; rfl) HR.out.2.1.symm (by rw [HR.out.2.2]; rfl), Grown.refl _⟩
        · have e9' : ((k : Int) == 9) = false := by simp; omega
          go_wp2
          go_ret3
          exact ⟨ret3 (by rw [HR.out.1]; rfl) HR.out.2.1.symm (by rw [HR.out.2.2]; rfl), Grown.refl _⟩
      obtain ⟨d, m, acc2, hand, hd128, hshl, hor, HA⟩ := round_bits c k acc hc256 (by omega) hinv.2.2.1
      by_cases eh : c < 128
      · have eh1 : decide ((c : Int) < 128) = true := by simp; omega
        have HR := Lib.hid (res_ok (tkInv_ok hinv hlt (by rw [← HC.out]; omega) (by rw [← HC.out]; omega) (by rw [← HC.out]; omega)))
        by_cases e9 : k = 9
        · have e9' : ((k : Int) == 9) = true := by simp; omega
          have el1 : decide ((1 : Int) < (c : Int)) = false := by simp; omega
          have ec1 : ((c : Int) == 0) = false := by simp; omega
          have hk0 : 0 < k := by omega
          clear e9 hf hl
          go_wp2
          go_quiet (fail)
          go_wp2
          rw [Exit.noGoto_ret]
          go_ret3
          exact ⟨ret3 (by rw [HR.out.1, ← HC.out, HA.out.1, Nat.mod_eq_of_lt eh]) HR.out.2.1.symm (by rw [HR.out.2.2]; rfl), grown_drewN _ _⟩
        · have e9' : ((k : Int) == 9) = false := by simp; omega
          by_cases hk0 : 0 < k
          · have ec1 : ((c : Int) == 0) = false := by simp; omega
            clear hf hl
            go_wp2
            go_quiet (fail)
            go_wp2
            rw [Exit.noGoto_ret]
            go_ret3
            exact ⟨ret3 (by rw [HR.out.1, ← HC.out, HA.out.1, Nat.mod_eq_of_lt eh]) HR.out.2.1.symm (by rw [HR.out.2.2]; rfl), grown_drewN _ _⟩
          · have hk0' : decide (0 < k) = false := by simpa using hk0
            clear hf hl
            go_wp2
            go_quiet (fail)
            go_wp2
            rw [Exit.noGoto_ret]
            go_ret3
            exact ⟨ret3 (by rw [HR.out.1, ← HC.out, HA.out.1, Nat.mod_eq_of_lt eh]) HR.out.2.1.symm (by rw [HR.out.2.2]; rfl), grown_drewN _ _⟩
      · have eh1 : decide ((c : Int) < 128) = false := by simp; omega
        have HN := Lib.hid (tkInv_next hinv hlt (by omega) (by rw [← HC.out]; omega))
        have e9' : ((k : Int) == 9) = false := by simp; omega
        have ec1 : ((c : Int) == 0) = false := by simp; omega
        clear hf hl
        by_cases hk0 : 0 < k
        · go_wp2
          exact ⟨⟨k + 1, acc2, by rw [HA.out.1, HC.out]; exact HN.out, rfl, rfl, rfl, by go_num⟩, by simp [intOf]; omega⟩
        · have hk0' : decide (0 < k) = false := by simpa using hk0
          go_wp2
          exact ⟨⟨k + 1, acc2, by rw [HA.out.1, HC.out]; exact HN.out, rfl, rfl, rfl, by go_num⟩, by simp [intOf]; omega⟩
    · have HR := Lib.hid (res_err (tkInv_end hinv hlt))
      go_wp2
      go_ret3
      exact ⟨ret3 (by rw [HR.out.1]; rfl) HR.out.2.1.symm (by rw [HR.out.2.2]; rfl), Grown.refl _⟩
end Go.Proofs.YtoggcpfogeoeaaaGreatDoor

namespace Go.Proofs.YtoggcpfogeoeaaaGreatDoor
open Go.RowKit

theorem grown_trans {a b c : World} (h1 : Grown a b) (h2 : Grown b c) : Grown a c :=
  ⟨World.keptBut_trans h1.1 h2.1, fun x => (h2.2.1 x).trans (h1.2.1 x), Nat.le_trans h1.2.2 h2.2.2⟩
theorem grown_cell {w w1 : World} (hg : Grown w w1) {b o : Nat} {v : Value} (hc : w.cell? ⟨b, o, none⟩ = some v) : w1.cell? ⟨b, o, none⟩ = some v := by
  rw [hg.1.cell (World.block_lt_of_cell? w _ hc) (by simp)]
  exact hc

theorem grown_box {w w1 : World} {c : Array Value} {t : TypeId} (hg : Grown (w.alloc (.cells c t)) w1) (i : Nat) (v : Value) (hv : c[i]? = some v) : w1.cell? ⟨w.heap.size, i, none⟩ = some v := by
  rw [hg.1.cell (by simp) (by simp), World.cell?_alloc_new]
  exact hv
/-- A world grown out of W: nothing of W has changed. -/
structure Ext (W : World) where
  w : World
  g : Grown W w
instance (W : World) : Nonempty (Ext W) := ⟨⟨W, Grown.refl W⟩⟩

theorem Ext.cell {W : World} {b o : Nat} {v : Value} (hc : W.cell? ⟨b, o, none⟩ = some v) (g : Ext W) : g.w.cell? ⟨b, o, none⟩ = some v := grown_cell g.g hc

theorem region_ext {P : Program} (W : World) {id : Nat} {Q : Exit → Act → World → Prop} {a : Act} {w : World} {l : List Oper} (hm : P.follows .mixedOrders = true) (hB : Region.lexB .any l.toArray = true) (h0 : Grown W w)
    (h : wpQuiet P l.toArray (fun w' => ∃ g : Ext W, w' = g.w) (fun a' => ∀ g : Ext W, Q .normal a' g.w) l a) : (Code.region id l.toArray true).wp P Q a w := by
  refine wp_region_quiet (C := fun w' => ∃ g : Ext W, w' = g.w) hm hB ⟨⟨w.drew, h0⟩, rfl⟩ ?_
  have e : (fun a' => ∀ w', (∃ g : Ext W, w' = g.w) → Q .normal a' w') = (fun a' => ∀ g : Ext W, Q .normal a' g.w) := by
    funext a'
    exact propext ⟨fun h g => h _ ⟨g, rfl⟩, fun h w' ⟨g, hg⟩ => hg ▸ h g⟩
  rw [e, List.toList_toArray]
  exact h

/-- A callee that makes memory at most. -/
theorem Ext.calls {P : Program} {f : FuncId} {args : Array Value} {W : World} {g : Ext W} {v : Value} (h : Calls P f args g.w fun e w' => e = .returned v ∧ Grown g.w w') :
    Calls P f args g.w fun e w' => e = .returned v ∧ ∃ g' : Ext W, w' = g'.w :=
  h.mono fun _ _ ⟨he, hg⟩ => ⟨he, ⟨_, grown_trans g.g hg⟩, rfl⟩
/-- A callee that leaves the world alone. -/
theorem Ext.same {P : Program} {f : FuncId} {args : Array Value} {W : World} {g : Ext W} {v : Value} (h : Calls P f args g.w fun e w' => e = .returned v ∧ g.w = w') :
    Calls P f args g.w fun e w' => e = .returned v ∧ ∃ g' : Ext W, w' = g'.w :=
  h.mono fun _ _ ⟨he, hw⟩ => ⟨he, g, hw.symm⟩
end Go.Proofs.YtoggcpfogeoeaaaGreatDoor

namespace Go.Proofs.YtoggcpfogeoeaaaGreatDoor
open Go.RowKit

theorem int_any (b : ByteArray) (n : Int) (w : World) (h1 : -9223372036854775808 ≤ n) (h2 : n ≤ 9223372036854775807) (hb : b.size ≤ 4611686018427387904) :
    Calls Tryz.prog 66 #[.string b, .int .i64 n] w fun e w' => e = .returned (.string (b ++ putS (zigI n).toNat)) ∧ Grown w w' := by
  have hz := zig_bd n h1 h2
  obtain ⟨z, hzz⟩ : ∃ z : Nat, zigI n = (z : Int) := ⟨(zigI n).toNat, by omega⟩
  have hz1 : (zigI n).toNat = z := by omega
  rw [hz1]
  have HZ := Lib.hid hzz
  have hzl : z < 18446744073709551616 := by omega
  clear hz hzz hz1
  go_enter Tryz.func66, Tryz.ntmps66
  go_wp2_with (first | (go_at_call 91; refine (zig_any _ _ h1 h2).mono ?_; rintro e w' ⟨rfl, rfl⟩; rw [HZ.out]) | (go_at_call 38; refine (put_any _ _ _ hzl hb).mono ?_; rintro e w1 ⟨rfl, hg⟩))
  go_ret
  exact ⟨rfl, by assumption⟩

theorem text_any (b s : ByteArray) (w : World) (hb : b.size ≤ 2305843009213693952) (hs : s.size ≤ 2305843009213693952) :
    Calls Tryz.prog 68 #[.string b, .string s] w fun e w' => e = .returned (.string (b ++ putS s.size ++ s)) ∧ Grown w w' := by
  have hp := putS_size s.size
  have hbp : (b ++ putS s.size).size ≤ 2305843009213693962 := by rw [ByteArray.size_append]; omega
  go_enter Tryz.func68, Tryz.ntmps68
  go_wp2_with (go_at_call 38; refine (put_any _ _ _ (by omega) (by omega)).mono ?_; rintro e w1 ⟨rfl, hg⟩)
  go_ret
  exact ⟨rfl, by assumption⟩

theorem tkE_bd (s : ByteArray) : tkE s = 0 ∨ tkE s = 2 ∨ tkE s = 3 ∨ tkE s = 4 := (takeL_err _).1
theorem tkN_bd (s : ByteArray) : tkN s < 18446744073709551616 := takeL_bd _
theorem tk_bad (s : ByteArray) (h : tkE s ≠ 0) : tkN s = 0 ∧ tkR s = ⟨#[]⟩ := by
  have := (takeL_err s.data.toList).2 h
  exact ⟨this.1, by unfold tkR; rw [this.2]⟩
theorem tkR_size (s : ByteArray) : (tkR s).size ≤ s.size := tk_len s.data.toList 0 0

/-- P1.4. -/
def tiN (s : ByteArray) : Int := if tkE s = 0 then zagI (tkN s) else 0
theorem ret3i {a a' : Int} {r r' : ByteArray} {e e' : Int} (h1 : a = a') (h2 : r = r') (h3 : e = e') :
    Ending.returned (.tuple #[.int .i64 a, .string r, .int .i64 e]) = .returned (.tuple #[.int .i64 a', .string r', .int .i64 e']) := by rw [h1, h2, h3]
theorem ret3s {a a' : ByteArray} {r r' : ByteArray} {e e' : Int} (h1 : a = a') (h2 : r = r') (h3 : e = e') :
    Ending.returned (.tuple #[.string a, .string r, .int .i64 e]) = .returned (.tuple #[.string a', .string r', .int .i64 e']) := by rw [h1, h2, h3]

theorem takeInt_any (s : ByteArray) (w : World) (hs : s.size ≤ 9223372036854775807) :
    Calls Tryz.prog 82 #[.string s] w fun e w' => e = .returned (.tuple #[.int .i64 (tiN s), .string (tkR s), .int .i64 (tkE s)]) ∧ Grown w w' := by
  have hn := tkN_bd s
  by_cases h : tkE s = 0
  · have he : ((tkE s : Int) != 0) = false := by simp [h]
    have H := Lib.hid h
    clear h
    go_enter Tryz.func82, Tryz.ntmps82
    go_wp2_with (first | (go_at_call 63; refine (take_any _ _ hs).mono ?_; rintro e w1 ⟨rfl, hg⟩) | (go_at_call 105; refine (zag_any _ _ (by omega) (by omega)).mono ?_; rintro e w2 ⟨rfl, rfl⟩))
    go_ret3
    exact ⟨ret3i (by unfold tiN; rw [if_pos H.out]) rfl (by rw [H.out]; rfl), by assumption⟩
  · have he : ((tkE s : Int) != 0) = true := by simp [h]
    have H := Lib.hid h
    clear h
    go_enter Tryz.func82, Tryz.ntmps82
    go_wp2_with (first | (go_at_call 63; refine (take_any _ _ hs).mono ?_; rintro e w1 ⟨rfl, hg⟩) | (go_at_call 105; refine (zag_any _ _ (by omega) (by omega)).mono ?_; rintro e w2 ⟨rfl, rfl⟩))
    go_ret3
    exact ⟨ret3i (by unfold tiN; rw [if_neg H.out]) (tk_bad s H.out).2.symm rfl, by assumption⟩

/-- P1.6. -/
def ttL (s : ByteArray) (most : Int) : ByteArray × ByteArray × Nat :=
  if tkE s ≠ 0 then (⟨#[]⟩, ⟨#[]⟩, tkE s)
  else if most < 0 ∨ most < (tkN s : Int) then (⟨#[]⟩, ⟨#[]⟩, 4)
  else if (tkR s).size < tkN s then (⟨#[]⟩, ⟨#[]⟩, 2)
  else ((tkR s).extract 0 (tkN s), (tkR s).extract (tkN s) (tkR s).size, 0)
def ttT (s : ByteArray) (most : Int) : ByteArray := (ttL s most).1
def ttR (s : ByteArray) (most : Int) : ByteArray := (ttL s most).2.1
def ttE (s : ByteArray) (most : Int) : Nat := (ttL s most).2.2
theorem tt_of {s : ByteArray} {most : Int} {a b : ByteArray} {e : Nat} (h : ttL s most = (a, b, e)) : a = ttT s most ∧ b = ttR s most ∧ e = ttE s most := by
  unfold ttT ttR ttE; rw [h]; exact ⟨rfl, rfl, rfl⟩

set_option maxRecDepth 100000 in
theorem takeText_any (s : ByteArray) (most : Int) (w : World) (hs : s.size ≤ 9223372036854775807) (h1 : -9223372036854775808 ≤ most) (h2 : most ≤ 9223372036854775807) :
    Calls Tryz.prog 106 #[.string s, .int .i64 most] w fun e w' => e = .returned (.tuple #[.string (ttT s most), .string (ttR s most), .int .i64 (ttE s most)]) ∧ Grown w w' := by
  have hn := tkN_bd s
  have hr := tkR_size s
  by_cases h : tkE s = 0
  · have he : ((tkE s : Int) != 0) = false := by simp [h]
    by_cases hm : most < 0
    · have HR := Lib.hid (tt_of (s := s) (most := most) (by unfold ttL; rw [if_neg (by omega), if_pos (by omega)]))
      have hmb : decide (most < 0) = true := by simpa using hm
      have H := Lib.hid h
      clear h
      go_enter Tryz.func106, Tryz.ntmps106
      go_wp2_with (go_at_call 63; refine (take_any _ _ hs).mono ?_; rintro e w1 ⟨rfl, hg⟩)
      go_ret3
      exact ⟨ret3s HR.out.1 HR.out.2.1 (by rw [← HR.out.2.2]; rfl), by assumption⟩
    by_cases hl : most < (tkN s : Int)
    · have HR := Lib.hid (tt_of (s := s) (most := most) (by unfold ttL; rw [if_neg (by omega), if_pos (by omega)]))
      have hmb : decide (most < 0) = false := by simpa using hm
      have hlb : decide (most < (tkN s : Int)) = true := by simpa using hl
      have H := Lib.hid h
      clear h
      go_enter Tryz.func106, Tryz.ntmps106
      go_wp2_with (go_at_call 63; refine (take_any _ _ hs).mono ?_; rintro e w1 ⟨rfl, hg⟩)
      go_ret3
      exact ⟨ret3s HR.out.1 HR.out.2.1 (by rw [← HR.out.2.2]; rfl), by assumption⟩
    by_cases hz : (tkR s).size < tkN s
    · have HR := Lib.hid (tt_of (s := s) (most := most) (by unfold ttL; rw [if_neg (by omega), if_neg (by omega), if_pos hz]))
      have hmb : decide (most < 0) = false := by simpa using hm
      have hlb : decide (most < (tkN s : Int)) = false := by simpa using hl
      have hzb : decide ((tkR s).size < tkN s) = true := by simpa using hz
      have H := Lib.hid h
      clear h
      go_enter Tryz.func106, Tryz.ntmps106
      go_wp2_with (go_at_call 63; refine (take_any _ _ hs).mono ?_; rintro e w1 ⟨rfl, hg⟩)
      go_ret3
      exact ⟨ret3s HR.out.1 HR.out.2.1 (by rw [← HR.out.2.2]; rfl), by assumption⟩
    · have HR := Lib.hid (tt_of (s := s) (most := most) (by unfold ttL; rw [if_neg (by omega), if_neg (by omega), if_neg hz]))
      have hmb : decide (most < 0) = false := by simpa using hm
      have hlb : decide (most < (tkN s : Int)) = false := by simpa using hl
      have hzb : decide ((tkR s).size < tkN s) = false := by simpa using hz
      have H := Lib.hid h
      clear h
      go_enter Tryz.func106, Tryz.ntmps106
      go_wp2_with (go_at_call 63; refine (take_any _ _ hs).mono ?_; rintro e w1 ⟨rfl, hg⟩)
      go_quiet (fail)
      go_wp2
      go_ret3
      exact ⟨ret3s HR.out.1 HR.out.2.1 (by rw [← HR.out.2.2]; rfl), grown_trans hg (grown_drewN _ _)⟩
  · have he : ((tkE s : Int) != 0) = true := by simp [h]
    have HR := Lib.hid (tt_of (s := s) (most := most) (by unfold ttL; rw [if_pos h]))
    clear h
    go_enter Tryz.func106, Tryz.ntmps106
    go_wp2_with (go_at_call 63; refine (take_any _ _ hs).mono ?_; rintro e w1 ⟨rfl, hg⟩)
    go_ret3
    exact ⟨ret3s HR.out.1 HR.out.2.1 (by rw [← HR.out.2.2]), by assumption⟩
end Go.Proofs.YtoggcpfogeoeaaaGreatDoor

namespace Go.Proofs.YtoggcpfogeoeaaaGreatDoor
open Go.RowKit

theorem ba_ext {a b : ByteArray} (h : a.data.toList = b.data.toList) : a = b := ByteArray.ext (Array.ext' h)
theorem ba_app (a b : ByteArray) : (a ++ b).data.toList = a.data.toList ++ b.data.toList := by rw [ByteArray.data_append, Array.toList_append]
theorem ba_size (a : ByteArray) : a.size = a.data.toList.length := rfl
theorem put_app (n : Nat) (s : ByteArray) : ((⟨#[]⟩ : ByteArray) ++ putS n ++ s).data.toList = putL n ++ s.data.toList := by
  rw [ba_app, ba_app]; rfl
theorem put_app_size (n : Nat) (s : ByteArray) : ((⟨#[]⟩ : ByteArray) ++ putS n ++ s).size ≤ 10 + s.size := by
  rw [ba_size, put_app, List.length_append, ← ba_size]; have := putL_le n; omega

/-- P1.7 over texts. -/
theorem tk_put (n : Nat) (s : ByteArray) (h : n < 18446744073709551616) :
    tkN (⟨#[]⟩ ++ putS n ++ s) = n ∧ tkR (⟨#[]⟩ ++ putS n ++ s) = s ∧ tkE (⟨#[]⟩ ++ putS n ++ s) = 0 := by
  unfold tkN tkR tkE
  rw [put_app, take_putL n _ h]
  exact ⟨rfl, rfl, rfl⟩
theorem tk_back (s : ByteArray) (h : tkE s = 0) : (⟨#[]⟩ : ByteArray) ++ putS (tkN s) ++ tkR s = s := by
  apply ba_ext
  rw [put_app]
  exact (put_takeL s.data.toList _ (tkN s) (by rw [← h]; rfl)).1

theorem take_c (s : ByteArray) (n : Int) (r : ByteArray) (k : Int) (hn : (tkN s : Int) = n) (hr : tkR s = r) (hk : (tkE s : Int) = k) (hs : s.size ≤ 9223372036854775807) (w : World) :
    Calls Tryz.prog 63 #[.string s] w fun e w' => e = .returned (.tuple #[.int .u64 n, .string r, .int .i64 k]) ∧ Grown w w' := by
  subst hn hr hk; exact take_any s w hs
theorem takeInt_c (s : ByteArray) (n : Int) (r : ByteArray) (k : Int) (hn : tiN s = n) (hr : tkR s = r) (hk : (tkE s : Int) = k) (hs : s.size ≤ 9223372036854775807) (w : World) :
    Calls Tryz.prog 82 #[.string s] w fun e w' => e = .returned (.tuple #[.int .i64 n, .string r, .int .i64 k]) ∧ Grown w w' := by
  subst hn hr hk; exact takeInt_any s w hs
theorem takeText_c (s : ByteArray) (m : Int) (t : ByteArray) (r : ByteArray) (k : Int) (hn : ttT s m = t) (hr : ttR s m = r) (hk : (ttE s m : Int) = k) (hs : s.size ≤ 9223372036854775807) (h0 : -9223372036854775808 ≤ m) (h1 : m ≤ 9223372036854775807) (w : World) :
    Calls Tryz.prog 106 #[.string s, .int .i64 m] w fun e w' => e = .returned (.tuple #[.string t, .string r, .int .i64 k]) ∧ Grown w w' := by
  subst hn hr hk; exact takeText_any s m w hs h0 h1
end Go.Proofs.YtoggcpfogeoeaaaGreatDoor

namespace Go.Proofs.YtoggcpfogeoeaaaGreatDoor
open Go.RowKit

theorem ba_assoc (a b c : ByteArray) : a ++ b ++ c = a ++ (b ++ c) := by
  apply ba_ext
  simp only [ba_app, List.append_assoc]
theorem ba_nil (a : ByteArray) : (⟨#[]⟩ : ByteArray) ++ a = a := by
  apply ba_ext
  rw [ba_app]; rfl
theorem ba_nil_r (a : ByteArray) : a ++ (⟨#[]⟩ : ByteArray) = a := by
  apply ba_ext
  rw [ba_app]
  show _ ++ [] = _
  rw [List.append_nil]
theorem tk_fore (n : Nat) (s : ByteArray) (h : n < 18446744073709551616) : tkN (putS n ++ s) = n ∧ tkR (putS n ++ s) = s ∧ tkE (putS n ++ s) = 0 := by
  have := tk_put n s h
  rwa [ba_nil] at this
theorem ti_fore (x : Int) (s : ByteArray) (h1 : -9223372036854775808 ≤ x) (h2 : x ≤ 9223372036854775807) : tiN (putS (zigI x).toNat ++ s) = x ∧ tkR (putS (zigI x).toNat ++ s) = s ∧ tkE (putS (zigI x).toNat ++ s) = 0 := by
  have hb := zig_bd x h1 h2
  obtain ⟨p1, p2, p3⟩ := tk_fore (zigI x).toNat s (by omega)
  refine ⟨?_, p2, p3⟩
  unfold tiN
  rw [if_pos p3, p1, show (((zigI x).toNat : Nat) : Int) = zigI x by omega, zag_zig]
theorem tk_aft (s : ByteArray) (h : tkE s = 0) : putS (tkN s) ++ tkR s = s := by
  have := tk_back s h
  rwa [ba_nil] at this
theorem ti_aft (s : ByteArray) (h : tkE s = 0) : putS (zigI (tiN s)).toNat ++ tkR s = s := by
  have e : (zigI (tiN s)).toNat = tkN s := by
    unfold tiN
    rw [if_pos h, zig_zag _ (by omega)]
    exact Int.toNat_natCast _
  rw [e]
  exact tk_aft s h
theorem putS_pos (n : Nat) : 1 ≤ (putS n).size := by
  show 1 ≤ (putL n).toArray.size
  rw [List.size_toArray]
  unfold putL
  rw [putF]
  split <;> simp
theorem ext_fore (t x : ByteArray) : (t ++ x).extract 0 t.size = t ∧ (t ++ x).extract t.size (t ++ x).size = x := by
  constructor
  · apply ba_ext
    rw [Lib.extract_data, ba_app, List.drop_zero, Nat.sub_zero, ba_size, List.take_left]
  · apply ba_ext
    rw [Lib.extract_data, ba_app, ByteArray.size_append, ba_size, List.drop_left, List.take_of_length_le (by rw [ba_size x]; omega)]
theorem ext_aft (s : ByteArray) (n : Nat) : s.extract 0 n ++ s.extract n s.size = s := by
  have e : (s.data.toList.drop n).take (s.size - n) = s.data.toList.drop n := List.take_of_length_le (by rw [List.length_drop, ← ba_size]; omega)
  apply ba_ext
  rw [ba_app, Lib.extract_data, Lib.extract_data, List.drop_zero, Nat.sub_zero, e, List.take_append_drop]
theorem tt_fore (t x : ByteArray) (m : Int) (ht : (t.size : Int) ≤ m) (hm : m ≤ 9223372036854775807) : ttL (putS t.size ++ (t ++ x)) m = (t, x, 0) := by
  obtain ⟨h1, h2, h3⟩ := tk_fore t.size (t ++ x) (by omega)
  unfold ttL
  rw [h1, h2, h3, if_neg (by omega), if_neg (by omega), if_neg (by rw [ByteArray.size_append]; omega), (ext_fore t x).1, (ext_fore t x).2]
theorem tt_aft (s : ByteArray) (m : Int) (h : ttE s m = 0) : putS (ttT s m).size ++ (ttT s m ++ ttR s m) = s ∧ ((ttT s m).size : Int) ≤ m ∧ (ttT s m).size ≤ s.size := by
  unfold ttE ttL at h
  unfold ttT ttR ttL
  by_cases h1 : tkE s ≠ 0
  · rw [if_pos h1] at h; exact absurd h h1
  rw [if_neg h1] at h ⊢
  by_cases h2 : m < 0 ∨ m < (tkN s : Int)
  · rw [if_pos h2] at h; simp at h
  rw [if_neg h2] at h ⊢
  by_cases h3 : (tkR s).size < tkN s
  · rw [if_pos h3] at h; simp at h
  rw [if_neg h3]
  have hn : ((tkR s).extract 0 (tkN s)).size = tkN s := by rw [ByteArray.size_extract]; omega
  have hr := tkR_size s
  refine ⟨?_, by rw [hn]; omega, by rw [hn]; omega⟩
  show putS ((tkR s).extract 0 (tkN s)).size ++ ((tkR s).extract 0 (tkN s) ++ (tkR s).extract (tkN s) (tkR s).size) = s
  rw [hn, ext_aft]
  exact tk_aft s (by omega)
end Go.Proofs.YtoggcpfogeoeaaaGreatDoor

