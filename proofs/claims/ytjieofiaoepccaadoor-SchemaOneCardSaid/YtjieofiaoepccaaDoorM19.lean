/-
  What is proved: path.Join and the document's Join, called with a slice of up to a million texts of up to a million bytes each, return these with strokes between (P4.3); the world has new blocks at most.
  the document's Under of layer 11 (P11.5), called with any schema and path of bounded texts, returns what that says; the world has new blocks at most.
  package schema's Under of layer 11 (P11.5), called with any schema and path of bounded texts, returns what that says; the world has new blocks at most.
  the document's Put of layer 11 (P11.6), called with any text and any schema, of bounded lengths, returns what that says; the world has new blocks at most.
  strings.Builder's WriteString and String, of a builder that the call itself has made, do what their documentation says: the library's contracts, laid at this program's numbers.
  package schema's Put of layer 11 (P11.6), called with any text and any schema, of bounded lengths, returns what that says; the world has new blocks at most.
  words for the taking of fields (P11.7): how long what is taken is; a schema's fields while they are taken, in a row that a block names.
-/
import Derived.Test.YtjieofiaoepccaaDoorM14
import Derived.Test.YtjieofiaoepccaaDoorM16
import Derived.Test.YtjieofiaoepccaaDoorM18
import Derived.Test.YtjieofiaoepccaaDoorM7
import Derived.Shelf.Strings.Builder1
import Derived.Test.YtjieofiaoepccaaDoorM10
import Derived.Test.YtjieofiaoepccaaDoorM3
import Derived.Test.YtjieofiaoepccaaDoorM17
import Derived.Test.YtjieofiaoepccaaDoorM4
import Derived.Test.YtjieofiaoepccaaDoorM9
namespace Go.Proofs.YtjieofiaoepccaaDoor.L4
open Go.RowKit

theorem ret_str {a b : ByteArray} (h : a = b) : Ending.returned (.string a) = .returned (.string b) := by rw [h]
/-- P4.3, over texts. -/
def joiS (L : List ByteArray) : ByteArray := ofL (joi (toLs L))
def Few (L : List ByteArray) : Prop := L.length ≤ 1000000 ∧ ∀ x ∈ L, x.size ≤ 1000000
theorem Few.take {L : List ByteArray} (h : Few L) (k : Nat) : Few (L.take k) :=
  ⟨by rw [List.length_take]; have := h.1; omega, fun x hx => h.2 x (List.mem_of_mem_take hx)⟩
theorem joiS_size (L : List ByteArray) (h : Few L) : (joiS L).size ≤ 1000001000000 := by
  have h1 := joi_len (toLs L) 1000000 (fun s hs => by
    obtain ⟨x, hx, rfl⟩ := List.mem_map.1 hs
    exact h.2 x hx)
  rw [toLs_len] at h1
  have h2 : L.length * (1000000 + 1) ≤ 1000000 * (1000000 + 1) := Nat.mul_le_mul_right _ h.1
  have h3 : (joiS L).size = (joi (toLs L)).length := by unfold joiS; rw [ba_size, ofL_list]
  omega
theorem joi_snoc : ∀ (L : List (List UInt8)) (x : List UInt8), L ≠ [] → joi (L ++ [x]) = joi L ++ 47 :: x
  | [], _, h => absurd rfl h
  | [a], x, _ => by rw [List.cons_append, List.nil_append, joi_cons2, joi_one, joi_one]
  | a :: b :: r, x, _ => by
    have := joi_snoc (b :: r) x (by simp)
    rw [List.cons_append, List.cons_append, joi_cons2, joi_cons2, ← List.cons_append, this]
    simp
theorem joiS_zero (L : List ByteArray) : joiS (L.take 0) = ⟨#[]⟩ := rfl
theorem joiS_first (L : List ByteArray) (h : 0 < L.length) : joiS (L.take 1) = ⟨#[]⟩ ++ L.getD 0 ⟨#[]⟩ := by
  cases L with
  | nil => simp at h
  | cons a r =>
    apply ba_ext
    rw [ba_app]
    unfold joiS
    rw [ofL_list]
    simp [toLs, joi_one]
theorem joiS_next (L : List ByteArray) (k : Nat) (h : k < L.length) (hk : 0 < k) : joiS (L.take (k + 1)) = joiS (L.take k) ++ ⟨#[47]⟩ ++ L.getD k ⟨#[]⟩ := by
  apply ba_ext
  rw [ba_app, ba_app]
  unfold joiS
  rw [ofL_list, ofL_list, List.take_succ_eq_append_getElem h, toLs_app, show toLs [L[k]] = [L[k].data.toList] from rfl, joi_snoc _ _ (by
    intro e
    have := congrArg List.length e
    rw [toLs_len, List.length_take] at this
    have h2 : min k L.length = 0 := this
    omega)]
  rw [List.getD_eq_getElem?_getD, List.getElem?_eq_getElem h]
  simp

theorem join_any (b o n c : Nat) (L : List ByteArray) (w : World) (h : Sl w ⟨b, o, none⟩ n c L) (hf : Few L) :
    Calls Tryd.prog 32 #[.slice (some ⟨b, o, none⟩) n c] w fun e w' => e = .returned (.string (joiS L)) ∧ Ke w w' := by
  have hz := joiS_size L hf
  obtain ⟨rfl, h2, h3, h4, h5⟩ := h
  have HC := Lib.hid (Tryd.strings_Join b o c L ⟨#[47]⟩ w (fun j x hj => by have := h5 j x hj; rwa [Addr.add_lit] at this) h4 (by have := hf.1; omega) h2 (by
    have e : (Lib.join (L.map (·.data.toList)) (⟨#[47]⟩ : ByteArray).data.toList).length = (joiS L).size := by unfold joiS; rw [ba_size, ofL_list]; rfl
    omega))
  clear h5 h4 h3 h2
  go_enter Tryd.func32, Tryd.ntmps32
  go_wp2_with (go_at_call 42; ((with_reducible refine HC.out.mono ?_); rintro e w1 ⟨rfl, hk⟩))
  go_ret
  exact ⟨rfl, hk⟩
theorem join_nil (c : Nat) (w : World) :
    Calls Tryd.prog 32 #[.slice none 0 c] w fun e w' => e = .returned (.string (joiS [])) ∧ Ke w w' := by
  go_enter Tryd.func32, Tryd.ntmps32
  go_wp2_with (go_at_call 42; ((with_reducible refine (Tryd.strings_Join_none _ _ _ _).mono ?_); rintro e w1 ⟨rfl, rfl⟩))
  go_ret
  exact ⟨rfl, Ke.refl _⟩
theorem join_own (base n : Nat) (v : Value) (L : List ByteArray) (w : World) (h : w.ownsRow base 9 1 v n (L.map strV)) (hf : Few L) :
    Calls Tryd.prog 32 #[v] w fun e w' => e = .returned (.string (joiS L)) ∧ Ke w w' := by
  rcases Nat.eq_zero_or_pos n with h0 | h0
  · subst h0
    have hl : L = [] := List.eq_nil_of_length_eq_zero (by simpa using h.1)
    subst hl
    rcases h.2 with ⟨rfl, _⟩ | ⟨g, cap, cur, rfl, _, hg, h1, h2, _⟩
    · exact join_nil 0 w
    · exact join_any g 0 0 cap [] w ⟨rfl, h1, h2, (Array.getElem?_eq_some_iff.1 hg).1, fun j x hj => by simp at hj⟩ hf
  · obtain ⟨g, c, rfl, _, hs⟩ := Sl.of_own h h0
    exact join_any g 0 n c L w hs hf

end Go.Proofs.YtjieofiaoepccaaDoor.L4

namespace Go.Proofs.YtjieofiaoepccaaDoor
open Go.RowKit
set_option linter.unusedVariables false

/-- P11.5, of one field. -/
def undX (x : Fd) (p : ByteArray) : Bool := decide ((L4.spl p.data.toList).length ≤ (L4.spl x.p.data.toList).length) && L4.matL (L4.spl p.data.toList) ((L4.spl x.p.data.toList).take (L4.spl p.data.toList).length)
theorem underF_at {L : List Fd} {p : ByteArray} {t : Nat} {x : Fd} (hx : L[t]? = some x) (h : undX x p = true) : underF L p = true := by
  unfold underF
  rw [List.any_eq_true]
  exact ⟨x, List.mem_of_getElem? hx, h⟩
theorem underF_none {L : List Fd} {p : ByteArray} (h : ∀ x ∈ L, undX x p = false) : underF L p = false := by
  unfold underF
  rw [List.any_eq_false]
  intro x hx
  have := h x hx
  unfold undX at this
  rw [this]; decide
theorem toLs_take (L : List ByteArray) (k : Nat) : L4.toLs (L.take k) = (L4.toLs L).take k := by
  unfold L4.toLs
  rw [List.map_take]
/-- A path's segments, a number of them joined, are these again. -/
theorem spl_take (q : ByteArray) (k : Nat) (hk : 0 < k) : L4.spl (L4.joiS ((L4.splS q).take k)).data.toList = (L4.spl q.data.toList).take k := by
  unfold L4.joiS
  rw [L4.ofL_list, toLs_take, L4.splS_list]
  have hp := L4.splS_pos q
  rw [← L4.toLs_len, L4.splS_list] at hp
  refine L4.spl_joi _ ?_ ?_
  · intro e
    have := congrArg List.length e
    rw [List.length_take] at this
    have h2 : min k (L4.spl q.data.toList).length = 0 := this
    omega
  · intro s hs
    exact L4.spl_no _ s (List.mem_of_mem_take hs)
theorem splS_n (p : ByteArray) : (L4.spl p.data.toList).length = (L4.splS p).length := by rw [← L4.toLs_len, L4.splS_list]
theorem undX_no {x : Fd} {p : ByteArray} {np nx : Nat} (hp : (L4.splS p).length = np) (hx : (L4.splS x.p).length = nx) (h : ¬ np ≤ nx) : undX x p = false := by
  unfold undX
  rw [splS_n, splS_n, hp, hx, decide_eq_false h]; rfl
theorem undX_yes {x : Fd} {p : ByteArray} {np nx : Nat} (hp : (L4.splS p).length = np) (hx : (L4.splS x.p).length = nx) (h : np ≤ nx) : undX x p = L4.matS p (L4.joiS ((L4.splS x.p).take np)) := by
  have h0 := L4.splS_pos p
  unfold undX L4.matS
  rw [splS_n p, splS_n x.p, spl_take _ _ (by omega), hp, hx, decide_eq_true h, Bool.true_and]
theorem rspl_n (p : ByteArray) (n : Nat) (hn : (L4.splS p).length = n) (hp : p.size ≤ 1099511627776) (w : World) :
    Calls Tryd.prog 38 #[.string p] w fun e w' => ∃ b c, e = .returned (.slice (some ⟨b, 0, none⟩) n c) ∧ L4.Sl w' ⟨b, 0, none⟩ n c (L4.splS p) ∧ Kept w w' := by
  subst hn
  exact (L4.rsplit_any p w hp).mono fun e w' ⟨b, c, he, hs, _, hk⟩ => ⟨b, c, he, hs, kept_of_below hk⟩
theorem sl_take {w : World} {a : Addr} {n c : Nat} {L : List ByteArray} (h : L4.Sl w a n c L) {k : Nat} (hk : k ≤ n) : L4.Sl w a k c (L.take k) := by
  obtain ⟨h1, h2, h3, h4, h5⟩ := h
  refine ⟨by rw [List.length_take]; omega, by omega, h3, h4, fun j x hj => h5 j x ?_⟩
  rw [List.getElem?_take] at hj
  by_cases hjk : j < k
  · rwa [if_pos hjk] at hj
  · rw [if_neg hjk] at hj; cases hj
theorem splS_few2 (p : ByteArray) (hp : p.size ≤ 2000) : L4.Few (L4.splS p) := by
  have := L4.splS_le p
  exact ⟨by omega, fun x hx => by have := L4.splS_size p x hx; omega⟩
theorem joi_small (q : ByteArray) (hq : q.size ≤ 2000) (k : Nat) : (L4.joiS ((L4.splS q).take k)).size ≤ 1099511627776 :=
  Nat.le_trans (L4.joiS_size _ ((splS_few2 q hq).take k)) (by decide)
end Go.Proofs.YtjieofiaoepccaaDoor

namespace Go.Proofs.YtjieofiaoepccaaDoor
open Go.RowKit
set_option linter.unusedVariables false
theorem spl_n (p : ByteArray) (n : Nat) (hn : (L4.splS p).length = n) (hp : p.size ≤ 1099511627776) (w : World) :
    Calls Tryd.prog 22 #[.string p] w fun e w' => ∃ b c, e = .returned (.slice (some ⟨b, 0, none⟩) n c) ∧ L4.Sl w' ⟨b, 0, none⟩ n c (L4.splS p) ∧ Kept w w' := by
  subst hn
  exact (L4.split_any p w hp).mono fun e w' ⟨b, c, he, hs, _, hk⟩ => ⟨b, c, he, hs, kept_of_below hk⟩
theorem joi_take (q : ByteArray) (hq : q.size ≤ 2000) (k : Nat) (r : ByteArray) (hr : L4.joiS ((L4.splS q).take k) = r) (b c : Nat) (w : World) (h : L4.Sl w ⟨b, 0, none⟩ k c ((L4.splS q).take k)) :
    Calls Tryd.prog 32 #[.slice (some ⟨b, 0, none⟩) k c] w fun e w' => e = .returned (.string r) ∧ Kept w w' := by
  subst hr
  exact (L4.join_any b 0 k c _ w h ((splS_few2 q hq).take k)).mono fun _ _ ⟨he, hk⟩ => ⟨he, kept_of_below hk⟩
set_option maxRecDepth 100000 in
set_option maxHeartbeats 8000000 in
theorem sund_any (A : Option Addr) (n c : Nat) (L : List Fd) (p : ByteArray) (w : World) (h : Fl w A n c L) (hw : ∀ x ∈ L, x.p.size ≤ 2000) (hp : p.size ≤ 1099511627776) (r : Bool) (hr : underF L p = r) :
    Calls Tryd.prog 12 #[.agg #[.slice A n c], .string p] w fun e w' => e = .returned (.bool r) ∧ Kept w w' := by
  have hk := (Kept.refl w).alloc #[.slice A n c] 24
  have hcap := h.cap.1; have hcap2 := h.cap.2
  have HNL := Lib.hid h.1; have HSZ := Lib.hid hw; have HP := Lib.hid hp; have HR := Lib.hid hr
  have HB := Lib.hid (Box1.new w (.slice A n c) 24)
  have HH := Lib.hid (h.kept hk)
  obtain ⟨np, hnp⟩ : ∃ np, (L4.splS p).length = np := ⟨_, rfl⟩
  have hnpp : 0 < np := by rw [← hnp]; exact L4.splS_pos p
  have hnpm : np ≤ 1099511627777 := by rw [← hnp]; have := L4.splS_le p; omega
  have AS := Lib.hid (fun w => spl_n p np hnp hp w)
  have HNP := Lib.hid hnp
  obtain ⟨U, hU⟩ : ∃ U, w.alloc (.cells #[.slice A n c] 24) = U := ⟨_, rfl⟩
  rw [hU] at hk HB HH
  have HK := Lib.hid hk; have HUU := Lib.hid hU
  clear h hw hp hr hk hU hnp
  go_enter Tryd.func12, Tryd.ntmps12
  go_wp2_with fail
  rw [HUU.out]
  go_wp2_with fail
  go_at_call 22
  refine (AS.out _).mono ?_
  rintro e w1 ⟨b1, c1, rfl, hs1, hk1⟩
  have HK1 := Lib.hid hk1
  have hb1 := HB.out.kept hk1
  have d0 := hb1.c0
  clear hs1 hk1 hb1
  go_wp2_with fail
  clear d0
  go_loopw [15] (fun i wr => ∃ t : Nat, t ≤ n ∧ i = .int .i64 t ∧ Kept U wr ∧ ∀ x ∈ L.take t, undX x p = false) (fun i _ => n - (intOf i).toNat)
  case atStart => exact ⟨0, Nat.zero_le _, rfl, HK1.out, fun x hx => by simp at hx⟩
  case round =>
    obtain ⟨t, ht, rfl, hkr, hall⟩ := hrel
    have HKR := Lib.hid hkr; have HA := Lib.hid hall
    clear hkr hall
    by_cases hlt : t < n
    · obtain ⟨g, o, x, rfl, hx, EX⟩ := (HH.out.kept HKR.out).get hlt
      have x0 := EX.c0; have x1 := EX.c1; have x2 := EX.c2; have x3 := EX.c3; have x4 := EX.c4; have x5 := EX.c5
      have HE := Lib.hid (FdB.new wr x 30)
      have z0 := HE.out.c0
      have HXX := Lib.hid hx
      have hka := (Kept.refl wr).alloc #[.string x.p, .int .i64 x.k, .int .i64 x.t, .int .i64 x.vk, .int .i64 x.vn, .string x.vt] 30
      have HKA := Lib.hid hka
      have hsx := HSZ.out x (List.mem_of_getElem? hx)
      have HSX := Lib.hid hsx
      obtain ⟨nx, hnx⟩ : ∃ nx, (L4.splS x.p).length = nx := ⟨_, rfl⟩
      have hnxm : nx ≤ 2001 := by rw [← hnx]; have := L4.splS_le x.p; omega
      have AX := Lib.hid (fun w => spl_n x.p nx hnx (by omega) w)
      have HNX := Lib.hid hnx
      clear EX hx hka hsx hnx
      go_wp2_with fail
      go_at_call 22
      refine (AX.out _).mono ?_
      rintro e w2 ⟨b2, c2, rfl, hs2, hk2⟩
      have HS2 := Lib.hid hs2
      have hc2 := hs2.2.1; have hc3 := hs2.2.2.1
      have HK2 := Lib.hid (HKR.out.trans (HKA.out.trans hk2))
      clear hs2 hk2 z0 x0 x1 x2 x3 x4 x5
      by_cases hle : np ≤ nx
      · have q1 : decide ((np : Int) ≤ (nx : Int)) = true := decide_eq_true (by omega)
        have q2 : decide (np ≤ nx) = true := decide_eq_true hle
        have hcc : np ≤ c2 := by omega
        obtain ⟨r2, hr2⟩ : ∃ r2, L4.joiS ((L4.splS x.p).take np) = r2 := ⟨_, rfl⟩
        have hrz := joi_small x.p HSX.out np
        rw [hr2] at hrz
        have AJ := Lib.hid (fun w h => joi_take x.p HSX.out np r2 hr2 b2 c2 w h)
        have HST := Lib.hid (sl_take HS2.out hle)
        have hyes := undX_yes HNP.out HNX.out hle
        rw [hr2] at hyes
        obtain ⟨b, hb⟩ : ∃ b, L4.matS p r2 = b := ⟨_, rfl⟩
        have AM := Lib.hid (fun w => matK p r2 b hb HP.out hrz w)
        rw [hb] at hyes
        have HY := Lib.hid hyes
        clear hr2 hrz hyes hb hle
        go_wp2_with fail
        go_at_call 32
        refine (AJ.out _ HST.out).mono ?_
        rintro e w3 ⟨rfl, hk3⟩
        have HK3 := Lib.hid (HK2.out.trans hk3)
        clear hk3
        go_wp2_with fail
        go_at_call 8
        refine (AM.out _).mono ?_
        rintro e w4 ⟨rfl, hk4⟩
        have HK4 := Lib.hid (HK3.out.trans hk4)
        clear hk4
        cases b with
        | true =>
          have HF := Lib.hid (show true = r by rw [← HR.out, underF_at HXX.out HY.out])
          go_wp2_with fail
          go_ret
          exact ⟨ret_bool HF.out, HK.out.trans HK4.out⟩
        | false =>
          have HN := Lib.hid (show ∀ y ∈ L.take (t + 1), undX y p = false from fun y hy => by
            rw [List.take_add_one, HXX.out, Option.toList_some, List.mem_append, List.mem_singleton] at hy
            rcases hy with hy | rfl
            · exact HA.out y hy
            · exact HY.out)
          go_wp2_with fail
          go_roundw
          case rel => exact ⟨t + 1, hlt, by go_num, HK4.out, HN.out⟩
          case measure => simp [intOf]; omega
      · have q1 : decide ((np : Int) ≤ (nx : Int)) = false := decide_eq_false (by omega)
        have q2 : decide (np ≤ nx) = false := decide_eq_false hle
        have HN := Lib.hid (show ∀ y ∈ L.take (t + 1), undX y p = false from fun y hy => by
          rw [List.take_add_one, HXX.out, Option.toList_some, List.mem_append, List.mem_singleton] at hy
          rcases hy with hy | rfl
          · exact HA.out y hy
          · exact undX_no HNP.out HNX.out hle)
        clear hle
        go_wp2_with fail
        go_roundw
        case rel => exact ⟨t + 1, hlt, by go_num, HK2.out, HN.out⟩
        case measure => simp [intOf]; omega
    · obtain rfl : t = n := by omega
      have HF := Lib.hid (show false = r by
        rw [← HR.out, underF_none (fun x hx => HA.out x (by rw [List.take_of_length_le (by rw [← HNL.out]; exact Nat.le_refl _)]; exact hx))])
      have hnt : decide ((t : Int) < (t : Int)) = false := decide_eq_false (by omega)
      have hnt2 : decide (t < t) = false := decide_eq_false (by omega)
      go_wp2_with fail
      go_ret
      exact ⟨ret_bool HF.out, HK.out.trans HKR.out⟩
end Go.Proofs.YtjieofiaoepccaaDoor

namespace Go.Proofs.YtjieofiaoepccaaDoor
open Go.RowKit
set_option linter.unusedVariables false

/-- P11.6, as the document goes. -/
def putScL (b : ByteArray) (L : List Fd) (t : Nat) : ByteArray := (L.take t).foldl putFd (b ++ putS L.length)
theorem putScL_all (b : ByteArray) (L : List Fd) : putScL b L L.length = putSc b L := by
  unfold putScL putSc
  rw [List.take_length, putFs_enc]
theorem putScL_step (b : ByteArray) {L : List Fd} {t : Nat} {x : Fd} (h : L[t]? = some x) : putScL b L (t + 1) = putFd (putScL b L t) x := by
  unfold putScL
  rw [List.take_add_one, h, Option.toList_some, List.foldl_append]
  rfl
/-- The bounds of what a field holds. -/
structure FdS (x : Fd) : Prop where
  p : x.p.size ≤ 200
  vt : x.vt.size ≤ 300
  lo : -9223372036854775808 ≤ x.vn
  hi : x.vn ≤ 9223372036854775807
end Go.Proofs.YtjieofiaoepccaaDoor

namespace Go.Proofs.YtjieofiaoepccaaDoor
open Go.RowKit

def builderRen : Go.Shelf.Ren := ⟨fun | 166 => 28 | 169 => 31 | 240 => 52 | 276 => 68 | n => n, fun | 0 => 0 | 3 => 3 | 4 => 4 | 5 => 5 | 9 => 9 | 20 => 20 | 37 => 55 | 70 => 54 | 72 => 57 | 75 => 59 | 80 => 64 | 127 => 85 | 164 => 95 | n => n, fun | n => n⟩
theorem lays166 : Go.Proofs.Lays.n166 Tryd.prog builderRen := {
  mixed := by kernel_rfl
  f166 := Tryd.func28.trans (congrArg some (by kernel_rfl))
  f240 := Tryd.func52.trans (congrArg some (by kernel_rfl))
  f276 := Tryd.func68.trans (congrArg some (by kernel_rfl))
  t0 := Tryd.underlying0
  a0 := Tryd.isAgg0
  z0 := Tryd.sizeOf0
  v0 := Tryd.zeroValue0
  t3 := Tryd.underlying3
  a3 := Tryd.isAgg3
  z3 := Tryd.sizeOf3
  v3 := Tryd.zeroValue3
  t4 := Tryd.underlying4
  a4 := Tryd.isAgg4
  z4 := Tryd.sizeOf4
  v4 := Tryd.zeroValue4
  t9 := Tryd.underlying9
  a9 := Tryd.isAgg9
  z9 := Tryd.sizeOf9
  v9 := Tryd.zeroValue9
  t20 := Tryd.underlying20
  a20 := Tryd.isAgg20
  z20 := Tryd.sizeOf20
  v20 := Tryd.zeroValue20
  t37 := Tryd.underlying55
  a37 := Tryd.isAgg55
  z37 := Tryd.sizeOf55
  v37 := Tryd.zeroValue55
  t70 := Tryd.underlying54
  a70 := Tryd.isAgg54
  z70 := Tryd.sizeOf54
  v70 := Tryd.zeroValue54
  t72 := Tryd.underlying57
  a72 := Tryd.isAgg57
  z72 := Tryd.sizeOf57
  v72 := Tryd.zeroValue57
  t75 := Tryd.underlying59
  a75 := Tryd.isAgg59
  z75 := Tryd.sizeOf59
  v75 := Tryd.zeroValue59
  t164 := Tryd.underlying95
  a164 := Tryd.isAgg95
  z164 := Tryd.sizeOf95
  v164 := Tryd.zeroValue95
}
theorem lays169 : Go.Proofs.Lays.n169 Tryd.prog builderRen := {
  mixed := by kernel_rfl
  f169 := Tryd.func31.trans (congrArg some (by kernel_rfl))
  t0 := Tryd.underlying0
  a0 := Tryd.isAgg0
  z0 := Tryd.sizeOf0
  v0 := Tryd.zeroValue0
  t3 := Tryd.underlying3
  a3 := Tryd.isAgg3
  z3 := Tryd.sizeOf3
  v3 := Tryd.zeroValue3
  t9 := Tryd.underlying9
  a9 := Tryd.isAgg9
  z9 := Tryd.sizeOf9
  v9 := Tryd.zeroValue9
  t37 := Tryd.underlying55
  a37 := Tryd.isAgg55
  z37 := Tryd.sizeOf55
  v37 := Tryd.zeroValue55
  t70 := Tryd.underlying54
  a70 := Tryd.isAgg54
  z70 := Tryd.sizeOf54
  v70 := Tryd.zeroValue54
  t72 := Tryd.underlying57
  a72 := Tryd.isAgg57
  z72 := Tryd.sizeOf57
  v72 := Tryd.zeroValue57
  t127 := Tryd.underlying85
  a127 := Tryd.isAgg85
  z127 := Tryd.sizeOf85
  v127 := Tryd.zeroValue85
}
theorem extraB : Go.Proofs.Builder.Extra Tryd.prog builderRen where
  sizeBuilder := by kernel_rfl
  liesBuilder := by kernel_rfl
  t5 := Tryd.underlying5
  a5 := Tryd.isAgg5
  z5 := Tryd.sizeOf5
  v5 := Tryd.zeroValue5
  infoByte := by kernel_rfl
  cellsByte := by kernel_rfl
  sizeByte := by kernel_rfl
  neB5 := by decide

/-- A builder in block b that holds l; U: what is left alone. -/
structure Bld (U : World) (b : Nat) (w : World) (l : List UInt8) : Prop where
  is : Lib.IsBuilder 57 5 b b (Lib.byteCells l) w
  ke : Kept U w
  lo : U.heap.size ≤ b
theorem kept_below {U w w' : World} {B : Nat} (h : Kept U w) (hb : Below B w w') (hU : U.heap.size ≤ B) : Kept U w' := by
  obtain ⟨⟨h1, h2, h3⟩, hf, hs⟩ := h
  refine ⟨⟨hb.os.trans h1, hb.output.trans h2, fun i hi => ?_⟩, fun a ha => (hb.frozen (Nat.lt_of_lt_of_le ha hU)).trans (hf a ha), Nat.le_trans hs hb.size⟩
  rw [hb.block i (Nat.lt_of_lt_of_le hi hU)]
  exact h3 i hi
theorem bat_kept {w w' : World} {T e : TypeId} {B b : Nat} {p : Value} {bs : List Value} (h : Lib.BuilderAt T e B b p bs w) (hk : Kept w w') : Lib.BuilderAt T e B b p bs w' := by
  obtain ⟨hB, v, hb, hown, hne⟩ := h
  refine ⟨hB, v, ?_, own_kept hown hk, hne⟩
  rw [hk.blk (by
    rcases Nat.lt_or_ge b w.heap.size with h' | h'
    · exact h'
    · rw [Array.getElem?_eq_none h'] at hb; cases hb)]
  exact hb
theorem Bld.kept {U w w' : World} {b : Nat} {l : List UInt8} (h : Bld U b w l) (hk : Kept w w') : Bld U b w' l :=
  ⟨h.is.imp (bat_kept · hk) (bat_kept · hk), h.ke.trans hk, h.lo⟩
theorem Bld.start (U : World) : Bld U U.heap.size (U.alloc (.cells #[.pointer none, .slice none 0 0] 57)) [] :=
  ⟨Lib.fresh_isBuilder _ _ U, (Kept.refl U).alloc _ _, Nat.le_refl _⟩
theorem bld_lt {U w : World} {b : Nat} {l : List UInt8} (h : Bld U b w l) : b < w.heap.size := by
  rcases h.is with h | h
  · exact h.lt
  · exact h.lt
theorem write_any {U w : World} {b : Nat} {l : List UInt8} (h : Bld U b w l) (s : ByteArray) (hl : l.length + s.size ≤ 140737488355328) (r : List UInt8) (hr : l ++ s.data.toList = r) :
    Calls Tryd.prog 28 #[.pointer (some ⟨b, 0, none⟩), .string s] w fun e w' => e = .returned (.tuple #[.int .i64 s.size, .nilIface]) ∧ Bld U b w' r := by
  have hc := Go.Proofs.Any.Builder_WriteString lays166 extraB b b (Lib.byteCells l) s w h.is (by rw [Lib.byteCells_length]; exact hl) (Nat.le_of_lt (bld_lt h))
  refine hc.mono fun e w' ⟨he, hb, hbe⟩ => ⟨he, ⟨.inr ?_, kept_below h.ke hbe h.lo, h.lo⟩⟩
  rw [Lib.strCells_eq, ← Lib.byteCells_append, hr] at hb
  exact hb
theorem string_any {U w : World} {b : Nat} {l : List UInt8} (h : Bld U b w l) :
    Calls Tryd.prog 31 #[.pointer (some ⟨b, 0, none⟩)] w fun e w' => e = .returned (.string ⟨l.toArray⟩) ∧ Kept U w' := by
  have hc := Go.Proofs.Any.Builder_String_any lays169 extraB b b l w h.is (Nat.le_of_lt (bld_lt h))
  exact hc.mono fun e w' ⟨he, hbe⟩ => ⟨he, kept_below h.ke hbe h.lo⟩
end Go.Proofs.YtjieofiaoepccaaDoor

namespace Go.Proofs.YtjieofiaoepccaaDoor
open Go.RowKit
set_option linter.unusedVariables false
theorem listF_app (a b r : ByteArray) (h : a ++ b = r) : a.data.toList ++ b.data.toList = r.data.toList := by
  subst h
  simp [ByteArray.data_append]
theorem listF_len (a : ByteArray) : a.data.toList.length = a.size := by simp
theorem putFd_size {x : Fd} (h : FdS x) (b : ByteArray) : (putFd b x).size ≤ b.size + 560 := by
  have q1 := h.p; have q2 := h.vt
  have z1 := putS_size x.p.size; have z2 := putS_size (x.k % 4).toNat; have z3 := putS_size (x.t % 4).toNat
  have := putV_size (b ++ putS x.p.size ++ x.p ++ putS (x.k % 4).toNat ++ putS (x.t % 4).toNat) x.vk x.vn x.vt
  unfold putFd
  simp only [ByteArray.size_append] at this ⊢
  omega
set_option maxRecDepth 100000 in
set_option maxHeartbeats 8000000 in
theorem spf_any (x : Fd) (w : World) (h : FdS x) (r : ByteArray) (hr : putFd ⟨#[]⟩ x = r) :
    Calls Tryd.prog 30 #[.agg #[.string x.p, .int .i64 x.k, .int .i64 x.t, .int .i64 x.vk, .int .i64 x.vn, .string x.vt]] w fun e w' => e = .returned (.string r) ∧ Kept w w' := by
  have hand1 := i64_and3 x.k; have hand2 := i64_and3 x.t
  obtain ⟨m1, hm1, hm14⟩ : ∃ m : Nat, x.k % 4 = (m : Int) ∧ m < 4 := ⟨(x.k % 4).toNat, by omega, by omega⟩
  obtain ⟨m2, hm2, hm24⟩ : ∃ m : Nat, x.t % 4 = (m : Int) ∧ m < 4 := ⟨(x.t % 4).toNat, by omega, by omega⟩
  have hw1 : IntKind.u64.wrap (m1 : Int) = (m1 : Int) := by rw [IntKind.wrap_u64]; omega
  have hw2 : IntKind.u64.wrap (m2 : Int) = (m2 : Int) := by rw [IntKind.wrap_u64]; omega
  obtain ⟨b1, hb1⟩ : ∃ b1, (⟨#[]⟩ : ByteArray) ++ putS x.p.size ++ x.p = b1 := ⟨_, rfl⟩
  obtain ⟨b2, hb2⟩ : ∃ b2, b1 ++ putS m1 = b2 := ⟨_, rfl⟩
  obtain ⟨b3, hb3⟩ : ∃ b3, b2 ++ putS m2 = b3 := ⟨_, rfl⟩
  have q1 := h.p; have q2 := h.vt
  have z1 : b1.size ≤ 210 := by have := putS_size x.p.size; rw [← hb1, ByteArray.size_append, ByteArray.size_append]; show 0 + _ + _ ≤ _; omega
  have z2 : b2.size ≤ 220 := by have := putS_size m1; rw [← hb2, ByteArray.size_append]; omega
  have z3 : b3.size ≤ 230 := by have := putS_size m2; rw [← hb3, ByteArray.size_append]; omega
  have A2 := Lib.hid (fun w => text_any ⟨#[]⟩ x.p w (by decide) (by omega))
  have A3 := Lib.hid (fun w => put_any b1 m1 w (by omega) (by omega))
  have A4 := Lib.hid (fun w => put_any b2 m2 w (by omega) (by omega))
  have A5 := Lib.hid (fun w => vput_any b3 x.vk x.vn x.vt w h.lo h.hi (by omega) (by omega))
  have HR := Lib.hid (show putV b3 x.vk x.vn x.vt = r by rw [← hr]; unfold putFd; rw [hb1, show (x.k % 4).toNat = m1 by omega, hb2, show (x.t % 4).toNat = m2 by omega, hb3])
  rw [hm1] at hand1
  rw [hm2] at hand2
  rw [hb1] at A2
  rw [hb2] at A3
  rw [hb3] at A4
  rw [HR.out] at A5
  have hka := (Kept.refl w).alloc #[.string x.p, .int .i64 x.k, .int .i64 x.t, .int .i64 x.vk, .int .i64 x.vn, .string x.vt] 30
  have HE := Lib.hid (FdB.new w x 30)
  have y0 := HE.out.c0
  have HKA := Lib.hid hka
  clear h hr q1 q2 z1 z2 z3 hb1 hb2 hb3 hm1 hm2 hm14 hm24 hka
  go_enter Tryd.func30, Tryd.ntmps30
  go_wp2_with fail
  go_at_call 53
  refine (A2.out _).mono ?_
  rintro e w2 ⟨rfl, hg⟩
  have hk := kept_of hg
  replace HE := Lib.hid (HE.out.kept hk)
  replace HKA := Lib.hid (HKA.out.trans hk)
  clear hg hk y0 A2
  have y1 := HE.out.c1
  go_wp2_with fail
  go_at_call 29
  refine (A3.out _).mono ?_
  rintro e w3 ⟨rfl, hg⟩
  have hk := kept_of hg
  replace HE := Lib.hid (HE.out.kept hk)
  replace HKA := Lib.hid (HKA.out.trans hk)
  clear hg hk y1 A3
  have y2 := HE.out.c2
  go_wp2_with fail
  go_at_call 29
  refine (A4.out _).mono ?_
  rintro e w4 ⟨rfl, hg⟩
  have hk := kept_of hg
  replace HE := Lib.hid (HE.out.kept hk)
  replace HKA := Lib.hid (HKA.out.trans hk)
  clear hg hk y2 A4
  have y3 := HE.out.c3; have y4 := HE.out.c4; have y5 := HE.out.c5
  go_wp2_with fail
  go_at_call 54
  refine (A5.out _).mono ?_
  rintro e w5 ⟨rfl, hg⟩
  replace HKA := Lib.hid (HKA.out.trans (kept_of hg))
  clear hg y3 y4 y5 A5
  go_wp2_with fail
  go_ret
  exact ⟨rfl, HKA.out⟩
set_option maxRecDepth 100000 in
set_option maxHeartbeats 8000000 in
theorem sput_any (b : ByteArray) (A : Option Addr) (n c : Nat) (L : List Fd) (w : World) (h : Fl w A n c L) (hn : n ≤ 40) (hw : ∀ x ∈ L, FdS x) (hb : b.size ≤ 5000) :
    Calls Tryd.prog 11 #[.string b, .agg #[.slice A n c]] w fun e w' => e = .returned (.string (putSc b L)) ∧ Kept w w' := by
  have hk := (Kept.refl w).alloc #[.slice A n c] 24
  have hcap := h.cap.1; have hcap2 := h.cap.2
  have HNL := Lib.hid h.1; have HSZ := Lib.hid hw
  have HB := Lib.hid (Box1.new w (.slice A n c) 24)
  have HH := Lib.hid (h.kept hk)
  have hB0 := Bld.start (w.alloc (.cells #[.slice A n c] 24))
  have hsz : (w.alloc (.cells #[.slice A n c] 24)).heap.size = w.heap.size + 1 := by simp
  rw [hsz] at hB0
  have hk2 := (Kept.refl (w.alloc (.cells #[.slice A n c] 24))).alloc #[.pointer none, .slice none 0 0] 57
  have d0 := (HB.out.kept hk2).c0
  obtain ⟨U, hU⟩ : ∃ U, w.alloc (.cells #[.slice A n c] 24) = U := ⟨_, rfl⟩
  rw [hU] at hk HB HH hB0
  have HK := Lib.hid hk; have HUU := Lib.hid hU; have HB0 := Lib.hid hB0
  have hwr : IntKind.u64.wrap (n : Int) = (n : Int) := by rw [IntKind.wrap_u64]; omega
  obtain ⟨s0, hs0⟩ : ∃ s, b ++ putS n = s := ⟨_, rfl⟩
  have AN := Lib.hid (fun w => put_any b n w (by omega) (by omega))
  have hz0 : s0.size ≤ 5010 := by have := putS_size n; rw [← hs0, ByteArray.size_append]; omega
  have HS0 := Lib.hid (show putScL b L 0 = s0 by unfold putScL; rw [List.take_zero, ← HNL.out]; exact hs0)
  rw [hs0] at AN
  clear h hw hk hk2 hU hb hs0 hB0 hsz
  go_enter Tryd.func11, Tryd.ntmps11
  go_wp2_with fail
  go_at_call 29
  refine (AN.out _).mono ?_
  rintro e w1 ⟨rfl, hg⟩
  have HBL1 := Lib.hid (HB0.out.kept (by rw [← HUU.out]; exact kept_of hg))
  clear hg d0 hwr AN
  go_wp2_with fail
  go_at_call 28
  refine (write_any HBL1.out s0 (by simp; omega) s0.data.toList (by simp)).mono ?_
  rintro e w2 ⟨rfl, hbl2⟩
  have HBL2 := Lib.hid hbl2
  have d0 := (HB.out.kept hbl2.ke).c0
  clear hbl2
  go_wp2_with fail
  clear d0
  go_loopw [18] (fun i wr => ∃ (t : Nat), t ≤ n ∧ i = .int .i64 t ∧ (putScL b L t).size ≤ 5010 + t * 560 ∧ Bld U (w.heap.size + 1) wr (putScL b L t).data.toList) (fun i _ => n - (intOf i).toNat)
  case atStart => exact ⟨0, Nat.zero_le _, rfl, by rw [HS0.out]; omega, by rw [HS0.out]; exact HBL2.out⟩
  case round =>
    obtain ⟨t, ht, rfl, hsz, hbl⟩ := hrel
    have HBL := Lib.hid hbl
    clear hbl
    by_cases hlt : t < n
    · obtain ⟨g, o, x, rfl, hx, EX⟩ := (HH.out.kept HBL.out.ke).get hlt
      have hst := putScL_step b hx
      have hfs := HSZ.out x (List.mem_of_getElem? hx)
      rw [putF_enc] at hst
      obtain ⟨y, hy⟩ : ∃ y, putFd ⟨#[]⟩ x = y := ⟨_, rfl⟩
      have hys : y.size ≤ 560 := by have := putFd_size hfs ⟨#[]⟩; rw [hy] at this; have e : (⟨#[]⟩ : ByteArray).size = 0 := rfl; omega
      have AF := Lib.hid (fun w => spf_any x w hfs y hy)
      rw [hy] at hst
      have hn1 : (putScL b L (t + 1)).size ≤ 5010 + (t + 1) * 560 := by rw [hst, ByteArray.size_append]; omega
      have HS := Lib.hid (show (putScL b L t).data.toList ++ y.data.toList = (putScL b L (t + 1)).data.toList from listF_app _ _ _ hst.symm)
      have hll : (putScL b L t).data.toList.length + y.size ≤ 140737488355328 := by rw [listF_len]; omega
      have HLL := Lib.hid hll
      have HN1 := Lib.hid hn1
      have x0 := EX.c0; have x1 := EX.c1; have x2 := EX.c2; have x3 := EX.c3; have x4 := EX.c4; have x5 := EX.c5
      have hka := (Kept.refl wr).alloc #[.string x.p, .int .i64 x.k, .int .i64 x.t, .int .i64 x.vk, .int .i64 x.vn, .string x.vt] 30
      have HKA := Lib.hid hka
      clear EX hx hst hfs hy hys hn1 hll hka
      go_wp2_with fail
      go_at_call 30
      refine (AF.out _).mono ?_
      rintro e w5 ⟨rfl, hk5⟩
      have HK5 := Lib.hid (HKA.out.trans hk5)
      clear hk5 x0 x1 x2 x3 x4 x5
      go_wp2_with fail
      go_at_call 28
      refine (write_any (HBL.out.kept HK5.out) y HLL.out _ HS.out).mono ?_
      rintro e w6 ⟨rfl, hbl6⟩
      go_wp2_with fail
      go_roundw
      case rel => exact ⟨t + 1, hlt, by go_num, HN1.out, hbl6⟩
      case measure => simp [intOf]; omega
    · have htn : t = n := by omega
      have HF := Lib.hid (show (⟨(putScL b L t).data.toList.toArray⟩ : ByteArray) = putSc b L by
        rw [htn, HNL.out, putScL_all])
      clear htn
      go_wp2_with fail
      go_at_call 31
      refine (string_any HBL.out).mono ?_
      rintro e w9 ⟨rfl, hk9⟩
      go_wp2_with fail
      go_ret
      exact ⟨by rw [← HF.out]; rfl, HK.out.trans hk9⟩
end Go.Proofs.YtjieofiaoepccaaDoor

namespace Go.Proofs.YtjieofiaoepccaaDoor
open Go.RowKit
set_option linter.unusedVariables false

theorem ttR_szF (s : ByteArray) (m : Int) : (ttR s m).size ≤ s.size := by
  by_cases h : ttE s m = 0
  · have := congrArg ByteArray.size (tt_aft s m h).1
    rw [ByteArray.size_append, ByteArray.size_append] at this
    omega
  · have : ttR s m = ⟨#[]⟩ := by
      unfold ttE ttL at h
      unfold ttR ttL
      by_cases h1 : tkE s ≠ 0
      · rw [if_pos h1]
      rw [if_neg h1] at h ⊢
      by_cases h2 : m < 0 ∨ m < (tkN s : Int)
      · rw [if_pos h2]
      rw [if_neg h2] at h ⊢
      by_cases h3 : (tkR s).size < tkN s
      · rw [if_pos h3]
      · rw [if_neg h3] at h; simp at h
    rw [this]
    exact Nat.zero_le _
theorem tvR_szF (s : ByteArray) : (tvR s).size ≤ s.size := by
  have h1 := tkR_size s
  have h2 := tkR_size (tkR s)
  have h3 := ttR_szF (tkR s) 200
  unfold tvR tvL
  by_cases e1 : tkE s ≠ 0
  · rw [if_pos e1]; exact Nat.zero_le _
  rw [if_neg e1]
  by_cases e2 : 3 < tkN s
  · rw [if_pos e2]; exact Nat.zero_le _
  rw [if_neg e2]
  by_cases e3 : tkN s = 0
  · rw [if_pos e3]; exact h1
  rw [if_neg e3]
  by_cases e4 : tkN s = 2
  · rw [if_pos e4]
    by_cases e5 : ttE (tkR s) 200 ≠ 0
    · rw [if_pos e5]; exact Nat.zero_le _
    · rw [if_neg e5]; exact Nat.le_trans h3 h1
  rw [if_neg e4]
  by_cases e5 : tkE (tkR s) ≠ 0
  · rw [if_pos e5]; exact Nat.zero_le _
  rw [if_neg e5]
  by_cases e6 : rightB (tkN s) (tiN (tkR s)) ⟨#[]⟩ = true
  · rw [if_pos e6]; exact Nat.le_trans h2 h1
  · rw [if_neg e6]; exact Nat.zero_le _
theorem tvT_szF (s : ByteArray) : (tvT s).size ≤ 200 := by
  unfold tvT tvL
  by_cases h1 : tkE s ≠ 0
  · rw [if_pos h1]; exact Nat.zero_le _
  rw [if_neg h1]
  by_cases h2 : 3 < tkN s
  · rw [if_pos h2]; exact Nat.zero_le _
  rw [if_neg h2]
  by_cases h3 : tkN s = 0
  · rw [if_pos h3]; exact Nat.zero_le _
  rw [if_neg h3]
  by_cases h4 : tkN s = 2
  · rw [if_pos h4]
    by_cases h5 : ttE (tkR s) 200 ≠ 0
    · rw [if_pos h5]; exact Nat.zero_le _
    · rw [if_neg h5]; exact tt_size _
  rw [if_neg h4]
  by_cases h5 : tkE (tkR s) ≠ 0
  · rw [if_pos h5]; exact Nat.zero_le _
  rw [if_neg h5]
  by_cases h6 : rightB (tkN s) (tiN (tkR s)) ⟨#[]⟩ = true
  · rw [if_pos h6]; exact Nat.zero_le _
  · rw [if_neg h6]; exact Nat.zero_le _
/-- What a taken field holds. -/
theorem tf_sizes {s : ByteArray} (h : tfE s = 0) : (tfX s).p.size ≤ 1000 ∧ (tfX s).vt.size ≤ 1000 ∧ (tfR s).size ≤ s.size := by
  unfold tfE at h
  unfold tfX tfR
  by_cases h1 : errF s ≠ 0
  · rw [show tfL s = (.none, ⟨#[]⟩, errF s) by unfold tfL; rw [if_pos h1]] at h; exact absurd h h1
  by_cases h2 : 3 < tkN (f1 s) ∨ 3 < tkN (f2 s)
  · rw [show tfL s = (.none, ⟨#[]⟩, 3) by unfold tfL; rw [if_neg h1, if_pos h2]] at h; simp at h
  rw [show tfL s = (fdK s, tvR (f3 s), 0) by unfold tfL; rw [if_neg h1, if_neg h2]]
  have ht : ttE s 102 = 0 := by
    by_cases q : ttE s 102 = 0
    · exact q
    · exact absurd (show errF s ≠ 0 by unfold errF; rw [if_pos q]; exact q) h1
  have a1 := (tt_aft s 102 ht).2.1
  have a2 := tvT_szF (f3 s)
  have a3 := tvR_szF (f3 s)
  have a4 := tkR_size (f2 s)
  have a5 := tkR_size (f1 s)
  have a6 := ttR_szF s 102
  refine ⟨?_, ?_, ?_⟩
  · show (ttT s 102).size ≤ _; omega
  · show (tvT (f3 s)).size ≤ _; omega
  · show (tvR (f3 s)).size ≤ _
    unfold f3 f2 f1 at *
    omega
theorem Box1.keptE {G : Nat} {w w' : World} {b : Nat} {u : Value} (h : Box1 w b u) (k : KeptE G w w') (hb : b ≠ G) : Box1 w' b u :=
  ⟨k.cell hb h.c0, fun j => by
    have := h.f j
    have e := k.blk b h.lt hb
    unfold World.frozen? at this ⊢
    rw [e]; exact this, Nat.lt_of_lt_of_le h.lt k.size⟩
/-- What the taking of fields keeps: a row, which a block of its own names. -/
structure TakM (b : Nat) (U wr : World) (v : Value) (L : List Fd) : Prop where
  own : wr.ownsRow U.heap.size 30 6 v L.length (flatF L)
  box : Box1 wr b v
  ke : KeptE b U wr
theorem TakM.start {b : Nat} {U : World} (h : Box1 U b (.slice none 0 0)) : TakM b U U (.slice none 0 0) [] := ⟨World.ownsRow_nil _ _ _ _, h, KeptE.refl _ _⟩
theorem TakM.kept {b : Nat} {U wr w' : World} {v : Value} {L : List Fd} (h : TakM b U wr v L) (k : Kept wr w') : TakM b U w' v L := ⟨own_kept h.own k, h.box.kept k, h.ke.trans k⟩
theorem TakM.form {b : Nat} {U wr : World} {v : Value} {L : List Fd} (h : TakM b U wr v L) : ∃ A c, v = .slice A L.length c ∧ Fl wr A L.length c L := Fl.of_own h.own
theorem TakM.app {b : Nat} {U wr : World} {v : Value} {L : List Fd} (h : TakM b U wr v L) (hb : b < U.heap.size) (A : Option Addr) (m c : Nat) (M : List Fd) (hs : Fl wr A m c M) (hl : L.length + m ≤ 1000000) :
    ∃ v' w', (Builtin.append_ #[22, 22] 22 #[v, .slice A m c]).run Tryd.prog wr = .ok v' w' ∧ w'.cell? ⟨b, 0, none⟩ = some v ∧ (∀ j, w'.frozen? ⟨b, j, none⟩ = false) ∧ TakM b U (w'.setCell ⟨b, 0, none⟩ v') v' (L ++ M) := by
  obtain ⟨v', w', hr, ho, hg, hat⟩ := app_fls wr U.heap.size v L.length (flatF L) h.own A m c M hs (by omega) h.ke.size
  have hne : ∀ g, v.ownBlock = some g → g ≠ b := fun g hg2 e => by have := (h.own.lt g hg2).1; omega
  have hk : ∃ G, G ≠ b ∧ KeptE G wr w' := by
    rcases hv : v.ownBlock with _ | G
    · exact ⟨b + 1, by omega, (KeptE.refl _ wr).grown hg fun g hg2 => by rw [hv] at hg2; cases hg2⟩
    · exact ⟨G, hne G hv, (KeptE.refl G wr).grown hg fun g hg2 => .inl (by rw [hv] at hg2; exact (Option.some.inj hg2).symm)⟩
  obtain ⟨G, hG, hkG⟩ := hk
  have hbox := h.box.keptE hkG (fun e => hG e.symm)
  have hne' : ∀ g, v'.ownBlock = some g → g ≠ b := fun g hg2 e => by have := (ho.lt g hg2).1; omega
  refine ⟨v', w', hr, hbox.c0, hbox.f, ⟨?_, ⟨World.cell?_setCell_same _ _ _ hbox.c0, fun j => by rw [World.frozen?_setCell]; exact hbox.f j, by have := hbox.lt; simpa [World.setCell] using this⟩, ?_⟩⟩
  · rw [List.length_append, flatF_app, ← hs.1]
    exact own_blk ho fun g hg2 => Deep.blk_setCell_other w' _ _ g (fun e => hne' g hg2 e)
  · have h1 : KeptE b U w' := h.ke.grown hg fun g hg2 => .inr (h.own.lt g hg2).1
    exact h1.set (.inl rfl) _
/-- P11.7: what Take hands back. -/
def TakS (s : ByteArray) (w : World) (e : Ending) (w' : World) : Prop :=
  ∃ A c, e = .returned (.tuple #[.agg #[.slice A (tscL s).1.length c], .string (tscL s).2.1, .int .i64 ((tscL s).2.2 : Int)]) ∧ Fl w' A (tscL s).1.length c (tscL s).1 ∧ Kept w w'
theorem takS_err {s : ByteArray} {z : Nat} (h : tscL s = ([], ⟨#[]⟩, z)) {w w' : World} (hk : Kept w w') : TakS s w (.returned (.tuple #[.agg #[.slice none 0 0], .string ⟨#[]⟩, .int .i64 (z : Int)])) w' := by
  unfold TakS
  rw [h]
  exact ⟨none, 0, rfl, Fl.nil _, hk⟩
theorem takS_ok {s r : ByteArray} {L : List Fd} (h : tscL s = (L, r, 0)) {w w' : World} {A : Option Addr} {c : Nat} (hf : Fl w' A L.length c L) (hk : Kept w w') : TakS s w (.returned (.tuple #[.agg #[.slice A L.length c], .string r, .int .i64 0])) w' := by
  unfold TakS
  rw [h]
  exact ⟨A, c, rfl, hf, hk⟩
end Go.Proofs.YtjieofiaoepccaaDoor

