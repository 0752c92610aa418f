/-
  What is proved: path.Join and the document's Join, called with a slice of up to a million texts of up to a million bytes each, return these with strokes between (P4.3); the world has new blocks at most.
  the document's Under of layer 11 (P11.5), called with any schema and path of bounded texts, returns what that says; the world has new blocks at most.
  package schema's Under of layer 11 (P11.5), called with any schema and path of bounded texts, returns what that says; the world has new blocks at most.
  the document's Put of layer 11 (P11.6), called with any text and any schema, of bounded lengths, returns what that says; the world has new blocks at most.
  strings.Builder's WriteString and String, of a builder that the call itself has made, do what their documentation says: the library's contracts, laid at this program's numbers.
-/
import Derived.Test.YtjieofiaoepccaaGreatDoorM17
import Derived.Test.YtjieofiaoepccaaGreatDoorM19
import Derived.Test.YtjieofiaoepccaaGreatDoorM21
import Derived.Test.YtjieofiaoepccaaGreatDoorM9
import Derived.Shelf.Strings.Builder1
import Derived.Test.YtjieofiaoepccaaGreatDoorM12
namespace Go.Proofs.YtjieofiaoepccaaGreatDoor.L4
open Go.RowKit

theorem ret_str {a b : ByteArray} (h : a = b) : Ending.returned (.string a) = .returned (.string b) := by rw [h]
/-- P4.3, over texts. -/
def joiS (L : List ByteArray) : ByteArray := ofL (joi (toLs L))
def Few (L : List ByteArray) : Prop := L.length ≤ 1000000 ∧ ∀ x ∈ L, x.size ≤ 1000000
theorem Few.take {L : List ByteArray} (h : Few L) (k : Nat) : Few (L.take k) :=
  ⟨by rw [List.length_take]; have := h.1; omega, fun x hx => h.2 x (List.mem_of_mem_take hx)⟩
theorem joiS_size (L : List ByteArray) (h : Few L) : (joiS L).size ≤ 1000001000000 := by
  have h1 := joi_len (toLs L) 1000000 (fun s hs => by
    obtain ⟨x, hx, rfl⟩ := List.mem_map.1 hs
    exact h.2 x hx)
  rw [toLs_len] at h1
  have h2 : L.length * (1000000 + 1) ≤ 1000000 * (1000000 + 1) := Nat.mul_le_mul_right _ h.1
  have h3 : (joiS L).size = (joi (toLs L)).length := by unfold joiS; rw [ba_size, ofL_list]
  omega
theorem joi_snoc : ∀ (L : List (List UInt8)) (x : List UInt8), L ≠ [] → joi (L ++ [x]) = joi L ++ 47 :: x
  | [], _, h => absurd rfl h
  | [a], x, _ => by rw [List.cons_append, List.nil_append, joi_cons2, joi_one, joi_one]
  | a :: b :: r, x, _ => by
    have := joi_snoc (b :: r) x (by simp)
    rw [List.cons_append, List.cons_append, joi_cons2, joi_cons2, ← List.cons_append, this]
    simp
theorem joiS_zero (L : List ByteArray) : joiS (L.take 0) = ⟨#[]⟩ := rfl
theorem joiS_first (L : List ByteArray) (h : 0 < L.length) : joiS (L.take 1) = ⟨#[]⟩ ++ L.getD 0 ⟨#[]⟩ := by
  cases L with
  | nil => simp at h
  | cons a r =>
    apply ba_ext
    rw [ba_app]
    unfold joiS
    rw [ofL_list]
    simp [toLs, joi_one]
theorem joiS_next (L : List ByteArray) (k : Nat) (h : k < L.length) (hk : 0 < k) : joiS (L.take (k + 1)) = joiS (L.take k) ++ ⟨#[47]⟩ ++ L.getD k ⟨#[]⟩ := by
  apply ba_ext
  rw [ba_app, ba_app]
  unfold joiS
  rw [ofL_list, ofL_list, List.take_succ_eq_append_getElem h, toLs_app, show toLs [L[k]] = [L[k].data.toList] from rfl, joi_snoc _ _ (by
    intro e
    have := congrArg List.length e
    rw [toLs_len, List.length_take] at this
    have h2 : min k L.length = 0 := this
    omega)]
  rw [List.getD_eq_getElem?_getD, List.getElem?_eq_getElem h]
  simp

theorem join_any (b o n c : Nat) (L : List ByteArray) (w : World) (h : Sl w ⟨b, o, none⟩ n c L) (hf : Few L) :
    Calls Tryz.prog 39 #[.slice (some ⟨b, o, none⟩) n c] w fun e w' => e = .returned (.string (joiS L)) ∧ Ke w w' := by
  have hz := joiS_size L hf
  obtain ⟨rfl, h2, h3, h4, h5⟩ := h
  have HC := Lib.hid (Tryz.strings_Join b o c L ⟨#[47]⟩ w (fun j x hj => by have := h5 j x hj; rwa [Addr.add_lit] at this) h4 (by have := hf.1; omega) h2 (by
    have e : (Lib.join (L.map (·.data.toList)) (⟨#[47]⟩ : ByteArray).data.toList).length = (joiS L).size := by unfold joiS; rw [ba_size, ofL_list]; rfl
    omega))
  clear h5 h4 h3 h2
  go_enter Tryz.func39, Tryz.ntmps39
  go_wp2_with (go_at_call 49; ((with_reducible refine HC.out.mono ?_); rintro e w1 ⟨rfl, hk⟩))
  go_ret
  exact ⟨rfl, hk⟩
theorem join_nil (c : Nat) (w : World) :
    Calls Tryz.prog 39 #[.slice none 0 c] w fun e w' => e = .returned (.string (joiS [])) ∧ Ke w w' := by
  go_enter Tryz.func39, Tryz.ntmps39
  go_wp2_with (go_at_call 49; ((with_reducible refine (Tryz.strings_Join_none _ _ _ _).mono ?_); rintro e w1 ⟨rfl, rfl⟩))
  go_ret
  exact ⟨rfl, Ke.refl _⟩
theorem join_own (base n : Nat) (v : Value) (L : List ByteArray) (w : World) (h : w.ownsRow base 9 1 v n (L.map strV)) (hf : Few L) :
    Calls Tryz.prog 39 #[v] w fun e w' => e = .returned (.string (joiS L)) ∧ Ke w w' := by
  rcases Nat.eq_zero_or_pos n with h0 | h0
  · subst h0
    have hl : L = [] := List.eq_nil_of_length_eq_zero (by simpa using h.1)
    subst hl
    rcases h.2 with ⟨rfl, _⟩ | ⟨g, cap, cur, rfl, _, hg, h1, h2, _⟩
    · exact join_nil 0 w
    · exact join_any g 0 0 cap [] w ⟨rfl, h1, h2, (Array.getElem?_eq_some_iff.1 hg).1, fun j x hj => by simp at hj⟩ hf
  · obtain ⟨g, c, rfl, _, hs⟩ := Sl.of_own h h0
    exact join_any g 0 n c L w hs hf

set_option maxRecDepth 100000 in
set_option maxHeartbeats 2000000 in
theorem rjoin_any (b o n c : Nat) (L : List ByteArray) (w : World) (h : Sl w ⟨b, o, none⟩ n c L) (hf : Few L) :
    Calls Tryz.prog 41 #[.slice (some ⟨b, o, none⟩) n c] w fun e w' => e = .returned (.string (joiS L)) ∧ Ke w w' := by
  have hl := h.1
  have hcm := h.2.1
  have hcx := h.2.2.1
  simp only [maxLen] at hcx
  have HS := Lib.hid h
  have HF := Lib.hid hf
  have hn := hf.1
  have HL := Lib.hid hl
  have hn2 : n ≤ 1000000 := by omega
  clear h hf hl
  go_enter Tryz.func41, Tryz.ntmps41
  go_wp2
  go_loop [3, 8] (fun s i => ∃ k : Nat, k ≤ n ∧ i = .int .i64 k ∧ s = .string (joiS (L.take k))) (fun _ i => n - (intOf i).toNat)
  case atStart => exact ⟨0, Nat.zero_le _, rfl, rfl⟩
  case round =>
    obtain ⟨k, hk, rfl, rfl⟩ := hrel
    have hz := joiS_size _ (HF.out.take k)
    by_cases hlt : k < n
    · have g := HS.out.get hlt
      have hlL : k < L.length := by rw [← HL.out]; exact hlt
      have hxz : (L.getD k ⟨#[]⟩).size ≤ 1000000 := by
        rw [List.getD_eq_getElem?_getD, List.getElem?_eq_getElem hlL]
        exact HF.out.2 _ (List.getElem_mem hlL)
      by_cases hk0 : k = 0
      · subst hk0
        have HN := Lib.hid (joiS_first L hlL)
        rw [joiS_zero] at hz ⊢
        rw [Nat.add_zero] at g
        generalize L.getD 0 ⟨#[]⟩ = x at g hxz HN
        clear hlL
        go_wp2
        go_round
        case rel => exact ⟨1, by omega, by go_num, by rw [HN.out]⟩
        case measure => simp [intOf]; omega
      · have HN := Lib.hid (joiS_next L k hlL (by omega))
        have hk1 : (0 : Int) < k := by omega
        have hz2 : (joiS (L.take k) ++ ⟨#[47]⟩).size ≤ 1000001000001 := by
          rw [ByteArray.size_append]
          have : (⟨#[47]⟩ : ByteArray).size = 1 := rfl
          omega
        generalize L.getD k ⟨#[]⟩ = x at g hxz HN
        generalize joiS (L.take k) = s at hz hz2 HN
        clear hlL hk0
        go_wp2
        go_round
        case rel => exact ⟨k + 1, by omega, by go_num, by rw [HN.out]⟩
        case measure => simp [intOf]; omega
    · have HT := Lib.hid (List.take_of_length_le (l := L) (i := k) (by have := HL.out; omega))
      go_wp2
      go_ret
      exact ⟨ret_str (by rw [HT.out]), Ke.refl _⟩
theorem rjoin_own (base n : Nat) (v : Value) (L : List ByteArray) (w : World) (h : w.ownsRow base 9 1 v n (L.map strV)) (hf : Few L) (hv : v ≠ .slice none 0 0) :
    Calls Tryz.prog 41 #[v] w fun e w' => e = .returned (.string (joiS L)) ∧ Ke w w' := by
  have hl : L.length = n := by simpa using h.1
  have hc := fun g (hg : v.ownBlock = some g) => h.cells (g := g) hg
  rcases h.2 with ⟨h0, _⟩ | ⟨g, cap, cur, rfl, _, hg, h1, h2, _⟩
  · exact absurd h0 hv
  · exact rjoin_any g 0 n cap L w ⟨hl.symm, h1, h2, (Array.getElem?_eq_some_iff.1 hg).1, fun j x hj => hc g rfl j _ (by rw [List.getElem?_map, hj]; rfl)⟩ hf
end Go.Proofs.YtjieofiaoepccaaGreatDoor.L4

namespace Go.Proofs.YtjieofiaoepccaaGreatDoor
open Go.RowKit
set_option linter.unusedVariables false

/-- P11.5, of one field. -/
def undX (x : Fd) (p : ByteArray) : Bool := decide ((L4.spl p.data.toList).length ≤ (L4.spl x.p.data.toList).length) && L4.matL (L4.spl p.data.toList) ((L4.spl x.p.data.toList).take (L4.spl p.data.toList).length)
theorem underF_at {L : List Fd} {p : ByteArray} {t : Nat} {x : Fd} (hx : L[t]? = some x) (h : undX x p = true) : underF L p = true := by
  unfold underF
  rw [List.any_eq_true]
  exact ⟨x, List.mem_of_getElem? hx, h⟩
theorem underF_none {L : List Fd} {p : ByteArray} (h : ∀ x ∈ L, undX x p = false) : underF L p = false := by
  unfold underF
  rw [List.any_eq_false]
  intro x hx
  have := h x hx
  unfold undX at this
  rw [this]; decide
theorem toLs_take (L : List ByteArray) (k : Nat) : L4.toLs (L.take k) = (L4.toLs L).take k := by
  unfold L4.toLs
  rw [List.map_take]
/-- A path's segments, a number of them joined, are these again. -/
theorem spl_take (q : ByteArray) (k : Nat) (hk : 0 < k) : L4.spl (L4.joiS ((L4.splS q).take k)).data.toList = (L4.spl q.data.toList).take k := by
  unfold L4.joiS
  rw [L4.ofL_list, toLs_take, L4.splS_list]
  have hp := L4.splS_pos q
  rw [← L4.toLs_len, L4.splS_list] at hp
  refine L4.spl_joi _ ?_ ?_
  · intro e
    have := congrArg List.length e
    rw [List.length_take] at this
    have h2 : min k (L4.spl q.data.toList).length = 0 := this
    omega
  · intro s hs
    exact L4.spl_no _ s (List.mem_of_mem_take hs)
theorem splS_n (p : ByteArray) : (L4.spl p.data.toList).length = (L4.splS p).length := by rw [← L4.toLs_len, L4.splS_list]
theorem undX_no {x : Fd} {p : ByteArray} {np nx : Nat} (hp : (L4.splS p).length = np) (hx : (L4.splS x.p).length = nx) (h : ¬ np ≤ nx) : undX x p = false := by
  unfold undX
  rw [splS_n, splS_n, hp, hx, decide_eq_false h]; rfl
theorem undX_yes {x : Fd} {p : ByteArray} {np nx : Nat} (hp : (L4.splS p).length = np) (hx : (L4.splS x.p).length = nx) (h : np ≤ nx) : undX x p = L4.matS p (L4.joiS ((L4.splS x.p).take np)) := by
  have h0 := L4.splS_pos p
  unfold undX L4.matS
  rw [splS_n p, splS_n x.p, spl_take _ _ (by omega), hp, hx, decide_eq_true h, Bool.true_and]
theorem rspl_n (p : ByteArray) (n : Nat) (hn : (L4.splS p).length = n) (hp : p.size ≤ 1099511627776) (w : World) :
    Calls Tryz.prog 40 #[.string p] w fun e w' => ∃ b c, e = .returned (.slice (some ⟨b, 0, none⟩) n c) ∧ L4.Sl w' ⟨b, 0, none⟩ n c (L4.splS p) ∧ Kept w w' := by
  subst hn
  exact (L4.rsplit_any p w hp).mono fun e w' ⟨b, c, he, hs, _, hk⟩ => ⟨b, c, he, hs, kept_of_below hk⟩
theorem sl_take {w : World} {a : Addr} {n c : Nat} {L : List ByteArray} (h : L4.Sl w a n c L) {k : Nat} (hk : k ≤ n) : L4.Sl w a k c (L.take k) := by
  obtain ⟨h1, h2, h3, h4, h5⟩ := h
  refine ⟨by rw [List.length_take]; omega, by omega, h3, h4, fun j x hj => h5 j x ?_⟩
  rw [List.getElem?_take] at hj
  by_cases hjk : j < k
  · rwa [if_pos hjk] at hj
  · rw [if_neg hjk] at hj; cases hj
theorem splS_few2 (p : ByteArray) (hp : p.size ≤ 2000) : L4.Few (L4.splS p) := by
  have := L4.splS_le p
  exact ⟨by omega, fun x hx => by have := L4.splS_size p x hx; omega⟩
theorem rjoi_take (q : ByteArray) (hq : q.size ≤ 2000) (k : Nat) (r : ByteArray) (hr : L4.joiS ((L4.splS q).take k) = r) (b c : Nat) (w : World) (h : L4.Sl w ⟨b, 0, none⟩ k c ((L4.splS q).take k)) :
    Calls Tryz.prog 41 #[.slice (some ⟨b, 0, none⟩) k c] w fun e w' => e = .returned (.string r) ∧ Kept w w' := by
  subst hr
  exact (L4.rjoin_any b 0 k c _ w h ((splS_few2 q hq).take k)).mono fun _ _ ⟨he, hk⟩ => ⟨he, kept_of_below hk⟩
theorem joi_small (q : ByteArray) (hq : q.size ≤ 2000) (k : Nat) : (L4.joiS ((L4.splS q).take k)).size ≤ 1099511627776 :=
  Nat.le_trans (L4.joiS_size _ ((splS_few2 q hq).take k)) (by decide)
set_option maxRecDepth 100000 in
set_option maxHeartbeats 8000000 in
theorem runder_any (A : Option Addr) (n c : Nat) (L : List Fd) (p : ByteArray) (w : World) (h : Fl w A n c L) (hw : ∀ x ∈ L, x.p.size ≤ 2000) (hp : p.size ≤ 1099511627776) (r : Bool) (hr : underF L p = r) :
    Calls Tryz.prog 16 #[.agg #[.slice A n c], .string p] w fun e w' => e = .returned (.bool r) ∧ Kept w w' := by
  have hk := (Kept.refl w).alloc #[.slice A n c] 24
  have hcap := h.cap.1; have hcap2 := h.cap.2
  have HNL := Lib.hid h.1; have HSZ := Lib.hid hw; have HP := Lib.hid hp; have HR := Lib.hid hr
  have HB := Lib.hid (Box1.new w (.slice A n c) 24)
  have HH := Lib.hid (h.kept hk)
  obtain ⟨np, hnp⟩ : ∃ np, (L4.splS p).length = np := ⟨_, rfl⟩
  have hnpp : 0 < np := by rw [← hnp]; exact L4.splS_pos p
  have hnpm : np ≤ 1099511627777 := by rw [← hnp]; have := L4.splS_le p; omega
  have AS := Lib.hid (fun w => rspl_n p np hnp hp w)
  have HNP := Lib.hid hnp
  obtain ⟨U, hU⟩ : ∃ U, w.alloc (.cells #[.slice A n c] 24) = U := ⟨_, rfl⟩
  rw [hU] at hk HB HH
  have HK := Lib.hid hk; have HUU := Lib.hid hU
  clear h hw hp hr hk hU hnp
  go_enter Tryz.func16, Tryz.ntmps16
  go_wp2_with fail
  rw [HUU.out]
  go_wp2_with fail
  go_at_call 40
  refine (AS.out _).mono ?_
  rintro e w1 ⟨b1, c1, rfl, hs1, hk1⟩
  have HK1 := Lib.hid hk1
  have hb1 := HB.out.kept hk1
  have d0 := hb1.c0
  clear hs1 hk1 hb1
  go_wp2_with fail
  clear d0
  go_loopw [15] (fun i wr => ∃ t : Nat, t ≤ n ∧ i = .int .i64 t ∧ Kept U wr ∧ ∀ x ∈ L.take t, undX x p = false) (fun i _ => n - (intOf i).toNat)
  case atStart => exact ⟨0, Nat.zero_le _, rfl, HK1.out, fun x hx => by simp at hx⟩
  case round =>
    obtain ⟨t, ht, rfl, hkr, hall⟩ := hrel
    have HKR := Lib.hid hkr; have HA := Lib.hid hall
    clear hkr hall
    by_cases hlt : t < n
    · obtain ⟨g, o, x, rfl, hx, EX⟩ := (HH.out.kept HKR.out).get hlt
      have x0 := EX.c0; have x1 := EX.c1; have x2 := EX.c2; have x3 := EX.c3; have x4 := EX.c4; have x5 := EX.c5
      have HE := Lib.hid (FdB.new wr x 30)
      have z0 := HE.out.c0
      have HXX := Lib.hid hx
      have hka := (Kept.refl wr).alloc #[.string x.p, .int .i64 x.k, .int .i64 x.t, .int .i64 x.vk, .int .i64 x.vn, .string x.vt] 30
      have HKA := Lib.hid hka
      have hsx := HSZ.out x (List.mem_of_getElem? hx)
      have HSX := Lib.hid hsx
      obtain ⟨nx, hnx⟩ : ∃ nx, (L4.splS x.p).length = nx := ⟨_, rfl⟩
      have hnxm : nx ≤ 2001 := by rw [← hnx]; have := L4.splS_le x.p; omega
      have AX := Lib.hid (fun w => rspl_n x.p nx hnx (by omega) w)
      have HNX := Lib.hid hnx
      clear EX hx hka hsx hnx
      go_wp2_with fail
      go_at_call 40
      refine (AX.out _).mono ?_
      rintro e w2 ⟨b2, c2, rfl, hs2, hk2⟩
      have HS2 := Lib.hid hs2
      have hc2 := hs2.2.1; have hc3 := hs2.2.2.1
      have HK2 := Lib.hid (HKR.out.trans (HKA.out.trans hk2))
      clear hs2 hk2 z0 x0 x1 x2 x3 x4 x5
      by_cases hle : np ≤ nx
      · have q1 : decide ((np : Int) ≤ (nx : Int)) = true := decide_eq_true (by omega)
        have q2 : decide (np ≤ nx) = true := decide_eq_true hle
        have hcc : np ≤ c2 := by omega
        obtain ⟨r2, hr2⟩ : ∃ r2, L4.joiS ((L4.splS x.p).take np) = r2 := ⟨_, rfl⟩
        have hrz := joi_small x.p HSX.out np
        rw [hr2] at hrz
        have AJ := Lib.hid (fun w h => rjoi_take x.p HSX.out np r2 hr2 b2 c2 w h)
        have HST := Lib.hid (sl_take HS2.out hle)
        have hyes := undX_yes HNP.out HNX.out hle
        rw [hr2] at hyes
        obtain ⟨b, hb⟩ : ∃ b, L4.matS p r2 = b := ⟨_, rfl⟩
        have AM := Lib.hid (fun w => rmatK p r2 b hb HP.out hrz w)
        rw [hb] at hyes
        have HY := Lib.hid hyes
        clear hr2 hrz hyes hb hle
        go_wp2_with fail
        go_at_call 41
        refine (AJ.out _ HST.out).mono ?_
        rintro e w3 ⟨rfl, hk3⟩
        have HK3 := Lib.hid (HK2.out.trans hk3)
        clear hk3
        go_wp2_with fail
        go_at_call 35
        refine (AM.out _).mono ?_
        rintro e w4 ⟨rfl, hk4⟩
        have HK4 := Lib.hid (HK3.out.trans hk4)
        clear hk4
        cases b with
        | true =>
          have HF := Lib.hid (show true = r by rw [← HR.out, underF_at HXX.out HY.out])
          go_wp2_with fail
          go_ret
          exact ⟨ret_bool HF.out, HK.out.trans HK4.out⟩
        | false =>
          have HN := Lib.hid (show ∀ y ∈ L.take (t + 1), undX y p = false from fun y hy => by
            rw [List.take_add_one, HXX.out, Option.toList_some, List.mem_append, List.mem_singleton] at hy
            rcases hy with hy | rfl
            · exact HA.out y hy
            · exact HY.out)
          go_wp2_with fail
          go_roundw
          case rel => exact ⟨t + 1, hlt, by go_num, HK4.out, HN.out⟩
          case measure => simp [intOf]; omega
      · have q1 : decide ((np : Int) ≤ (nx : Int)) = false := decide_eq_false (by omega)
        have q2 : decide (np ≤ nx) = false := decide_eq_false hle
        have HN := Lib.hid (show ∀ y ∈ L.take (t + 1), undX y p = false from fun y hy => by
          rw [List.take_add_one, HXX.out, Option.toList_some, List.mem_append, List.mem_singleton] at hy
          rcases hy with hy | rfl
          · exact HA.out y hy
          · exact undX_no HNP.out HNX.out hle)
        clear hle
        go_wp2_with fail
        go_roundw
        case rel => exact ⟨t + 1, hlt, by go_num, HK2.out, HN.out⟩
        case measure => simp [intOf]; omega
    · obtain rfl : t = n := by omega
      have HF := Lib.hid (show false = r by
        rw [← HR.out, underF_none (fun x hx => HA.out x (by rw [List.take_of_length_le (by rw [← HNL.out]; exact Nat.le_refl _)]; exact hx))])
      have hnt : decide ((t : Int) < (t : Int)) = false := decide_eq_false (by omega)
      have hnt2 : decide (t < t) = false := decide_eq_false (by omega)
      go_wp2_with fail
      go_ret
      exact ⟨ret_bool HF.out, HK.out.trans HKR.out⟩
end Go.Proofs.YtjieofiaoepccaaGreatDoor

namespace Go.Proofs.YtjieofiaoepccaaGreatDoor
open Go.RowKit
set_option linter.unusedVariables false
theorem spl_n (p : ByteArray) (n : Nat) (hn : (L4.splS p).length = n) (hp : p.size ≤ 1099511627776) (w : World) :
    Calls Tryz.prog 38 #[.string p] w fun e w' => ∃ b c, e = .returned (.slice (some ⟨b, 0, none⟩) n c) ∧ L4.Sl w' ⟨b, 0, none⟩ n c (L4.splS p) ∧ Kept w w' := by
  subst hn
  exact (L4.split_any p w hp).mono fun e w' ⟨b, c, he, hs, _, hk⟩ => ⟨b, c, he, hs, kept_of_below hk⟩
theorem joi_take (q : ByteArray) (hq : q.size ≤ 2000) (k : Nat) (r : ByteArray) (hr : L4.joiS ((L4.splS q).take k) = r) (b c : Nat) (w : World) (h : L4.Sl w ⟨b, 0, none⟩ k c ((L4.splS q).take k)) :
    Calls Tryz.prog 39 #[.slice (some ⟨b, 0, none⟩) k c] w fun e w' => e = .returned (.string r) ∧ Kept w w' := by
  subst hr
  exact (L4.join_any b 0 k c _ w h ((splS_few2 q hq).take k)).mono fun _ _ ⟨he, hk⟩ => ⟨he, kept_of_below hk⟩
set_option maxRecDepth 100000 in
set_option maxHeartbeats 8000000 in
theorem sund_any (A : Option Addr) (n c : Nat) (L : List Fd) (p : ByteArray) (w : World) (h : Fl w A n c L) (hw : ∀ x ∈ L, x.p.size ≤ 2000) (hp : p.size ≤ 1099511627776) (r : Bool) (hr : underF L p = r) :
    Calls Tryz.prog 15 #[.agg #[.slice A n c], .string p] w fun e w' => e = .returned (.bool r) ∧ Kept w w' := by
  have hk := (Kept.refl w).alloc #[.slice A n c] 24
  have hcap := h.cap.1; have hcap2 := h.cap.2
  have HNL := Lib.hid h.1; have HSZ := Lib.hid hw; have HP := Lib.hid hp; have HR := Lib.hid hr
  have HB := Lib.hid (Box1.new w (.slice A n c) 24)
  have HH := Lib.hid (h.kept hk)
  obtain ⟨np, hnp⟩ : ∃ np, (L4.splS p).length = np := ⟨_, rfl⟩
  have hnpp : 0 < np := by rw [← hnp]; exact L4.splS_pos p
  have hnpm : np ≤ 1099511627777 := by rw [← hnp]; have := L4.splS_le p; omega
  have AS := Lib.hid (fun w => spl_n p np hnp hp w)
  have HNP := Lib.hid hnp
  obtain ⟨U, hU⟩ : ∃ U, w.alloc (.cells #[.slice A n c] 24) = U := ⟨_, rfl⟩
  rw [hU] at hk HB HH
  have HK := Lib.hid hk; have HUU := Lib.hid hU
  clear h hw hp hr hk hU hnp
  go_enter Tryz.func15, Tryz.ntmps15
  go_wp2_with fail
  rw [HUU.out]
  go_wp2_with fail
  go_at_call 38
  refine (AS.out _).mono ?_
  rintro e w1 ⟨b1, c1, rfl, hs1, hk1⟩
  have HK1 := Lib.hid hk1
  have hb1 := HB.out.kept hk1
  have d0 := hb1.c0
  clear hs1 hk1 hb1
  go_wp2_with fail
  clear d0
  go_loopw [15] (fun i wr => ∃ t : Nat, t ≤ n ∧ i = .int .i64 t ∧ Kept U wr ∧ ∀ x ∈ L.take t, undX x p = false) (fun i _ => n - (intOf i).toNat)
  case atStart => exact ⟨0, Nat.zero_le _, rfl, HK1.out, fun x hx => by simp at hx⟩
  case round =>
    obtain ⟨t, ht, rfl, hkr, hall⟩ := hrel
    have HKR := Lib.hid hkr; have HA := Lib.hid hall
    clear hkr hall
    by_cases hlt : t < n
    · obtain ⟨g, o, x, rfl, hx, EX⟩ := (HH.out.kept HKR.out).get hlt
      have x0 := EX.c0; have x1 := EX.c1; have x2 := EX.c2; have x3 := EX.c3; have x4 := EX.c4; have x5 := EX.c5
      have HE := Lib.hid (FdB.new wr x 30)
      have z0 := HE.out.c0
      have HXX := Lib.hid hx
      have hka := (Kept.refl wr).alloc #[.string x.p, .int .i64 x.k, .int .i64 x.t, .int .i64 x.vk, .int .i64 x.vn, .string x.vt] 30
      have HKA := Lib.hid hka
      have hsx := HSZ.out x (List.mem_of_getElem? hx)
      have HSX := Lib.hid hsx
      obtain ⟨nx, hnx⟩ : ∃ nx, (L4.splS x.p).length = nx := ⟨_, rfl⟩
      have hnxm : nx ≤ 2001 := by rw [← hnx]; have := L4.splS_le x.p; omega
      have AX := Lib.hid (fun w => spl_n x.p nx hnx (by omega) w)
      have HNX := Lib.hid hnx
      clear EX hx hka hsx hnx
      go_wp2_with fail
      go_at_call 38
      refine (AX.out _).mono ?_
      rintro e w2 ⟨b2, c2, rfl, hs2, hk2⟩
      have HS2 := Lib.hid hs2
      have hc2 := hs2.2.1; have hc3 := hs2.2.2.1
      have HK2 := Lib.hid (HKR.out.trans (HKA.out.trans hk2))
      clear hs2 hk2 z0 x0 x1 x2 x3 x4 x5
      by_cases hle : np ≤ nx
      · have q1 : decide ((np : Int) ≤ (nx : Int)) = true := decide_eq_true (by omega)
        have q2 : decide (np ≤ nx) = true := decide_eq_true hle
        have hcc : np ≤ c2 := by omega
        obtain ⟨r2, hr2⟩ : ∃ r2, L4.joiS ((L4.splS x.p).take np) = r2 := ⟨_, rfl⟩
        have hrz := joi_small x.p HSX.out np
        rw [hr2] at hrz
        have AJ := Lib.hid (fun w h => joi_take x.p HSX.out np r2 hr2 b2 c2 w h)
        have HST := Lib.hid (sl_take HS2.out hle)
        have hyes := undX_yes HNP.out HNX.out hle
        rw [hr2] at hyes
        obtain ⟨b, hb⟩ : ∃ b, L4.matS p r2 = b := ⟨_, rfl⟩
        have AM := Lib.hid (fun w => matK p r2 b hb HP.out hrz w)
        rw [hb] at hyes
        have HY := Lib.hid hyes
        clear hr2 hrz hyes hb hle
        go_wp2_with fail
        go_at_call 39
        refine (AJ.out _ HST.out).mono ?_
        rintro e w3 ⟨rfl, hk3⟩
        have HK3 := Lib.hid (HK2.out.trans hk3)
        clear hk3
        go_wp2_with fail
        go_at_call 34
        refine (AM.out _).mono ?_
        rintro e w4 ⟨rfl, hk4⟩
        have HK4 := Lib.hid (HK3.out.trans hk4)
        clear hk4
        cases b with
        | true =>
          have HF := Lib.hid (show true = r by rw [← HR.out, underF_at HXX.out HY.out])
          go_wp2_with fail
          go_ret
          exact ⟨ret_bool HF.out, HK.out.trans HK4.out⟩
        | false =>
          have HN := Lib.hid (show ∀ y ∈ L.take (t + 1), undX y p = false from fun y hy => by
            rw [List.take_add_one, HXX.out, Option.toList_some, List.mem_append, List.mem_singleton] at hy
            rcases hy with hy | rfl
            · exact HA.out y hy
            · exact HY.out)
          go_wp2_with fail
          go_roundw
          case rel => exact ⟨t + 1, hlt, by go_num, HK4.out, HN.out⟩
          case measure => simp [intOf]; omega
      · have q1 : decide ((np : Int) ≤ (nx : Int)) = false := decide_eq_false (by omega)
        have q2 : decide (np ≤ nx) = false := decide_eq_false hle
        have HN := Lib.hid (show ∀ y ∈ L.take (t + 1), undX y p = false from fun y hy => by
          rw [List.take_add_one, HXX.out, Option.toList_some, List.mem_append, List.mem_singleton] at hy
          rcases hy with hy | rfl
          · exact HA.out y hy
          · exact undX_no HNP.out HNX.out hle)
        clear hle
        go_wp2_with fail
        go_roundw
        case rel => exact ⟨t + 1, hlt, by go_num, HK2.out, HN.out⟩
        case measure => simp [intOf]; omega
    · obtain rfl : t = n := by omega
      have HF := Lib.hid (show false = r by
        rw [← HR.out, underF_none (fun x hx => HA.out x (by rw [List.take_of_length_le (by rw [← HNL.out]; exact Nat.le_refl _)]; exact hx))])
      have hnt : decide ((t : Int) < (t : Int)) = false := decide_eq_false (by omega)
      have hnt2 : decide (t < t) = false := decide_eq_false (by omega)
      go_wp2_with fail
      go_ret
      exact ⟨ret_bool HF.out, HK.out.trans HKR.out⟩
end Go.Proofs.YtjieofiaoepccaaGreatDoor

namespace Go.Proofs.YtjieofiaoepccaaGreatDoor
open Go.RowKit
set_option linter.unusedVariables false

/-- P11.6, as the document goes. -/
def putScL (b : ByteArray) (L : List Fd) (t : Nat) : ByteArray := (L.take t).foldl putFd (b ++ putS L.length)
theorem putScL_all (b : ByteArray) (L : List Fd) : putScL b L L.length = putSc b L := by
  unfold putScL putSc
  rw [List.take_length, putFs_enc]
theorem putScL_step (b : ByteArray) {L : List Fd} {t : Nat} {x : Fd} (h : L[t]? = some x) : putScL b L (t + 1) = putFd (putScL b L t) x := by
  unfold putScL
  rw [List.take_add_one, h, Option.toList_some, List.foldl_append]
  rfl
/-- The bounds of what a field holds. -/
structure FdS (x : Fd) : Prop where
  p : x.p.size ≤ 200
  vt : x.vt.size ≤ 300
  lo : -9223372036854775808 ≤ x.vn
  hi : x.vn ≤ 9223372036854775807
set_option maxRecDepth 100000 in
set_option maxHeartbeats 8000000 in
theorem rfput_any (b : ByteArray) (A : Option Addr) (n c : Nat) (L : List Fd) (w : World) (h : Fl w A n c L) (hn : n ≤ 40) (hw : ∀ x ∈ L, FdS x) (hb : b.size ≤ 5000) :
    Calls Tryz.prog 18 #[.string b, .agg #[.slice A n c]] w fun e w' => e = .returned (.string (putSc b L)) ∧ Kept w w' := by
  have hk := (Kept.refl w).alloc #[.slice A n c] 24
  have hcap := h.cap.1; have hcap2 := h.cap.2
  have HNL := Lib.hid h.1; have HSZ := Lib.hid hw
  have HB := Lib.hid (Box1.new w (.slice A n c) 24)
  have HH := Lib.hid (h.kept hk)
  obtain ⟨U, hU⟩ : ∃ U, w.alloc (.cells #[.slice A n c] 24) = U := ⟨_, rfl⟩
  rw [hU] at hk HB HH
  have HK := Lib.hid hk; have HUU := Lib.hid hU
  have d0 := HB.out.c0
  have hwr : IntKind.u64.wrap (n : Int) = (n : Int) := by rw [IntKind.wrap_u64]; omega
  have AN := Lib.hid (fun w => rput9m b n n rfl w (by omega) (by omega))
  obtain ⟨s0, hs0⟩ : ∃ s, b ++ putS n = s := ⟨_, rfl⟩
  have hz0 : s0.size ≤ 5010 := by have := putS_size n; rw [← hs0, ByteArray.size_append]; omega
  have HS0 := Lib.hid (show putScL b L 0 = s0 by unfold putScL; rw [List.take_zero, ← HNL.out]; exact hs0)
  rw [hs0] at AN
  clear h hw hk hU hb hs0
  go_enter Tryz.func18, Tryz.ntmps18
  go_wp2_with fail
  go_at_call 46
  rw [HUU.out]
  refine (AN.out _).mono ?_
  rintro e w1 ⟨rfl, hg1⟩
  have hk1 := kept_of hg1
  have HK1 := Lib.hid (HK.out.trans hk1)
  replace HB := Lib.hid (HB.out.kept hk1)
  replace HH := Lib.hid (HH.out.kept hk1)
  clear hg1 hk1 d0 hwr AN HUU
  have d0 := HB.out.c0
  go_wp2_with fail
  clear d0
  go_loopw [0, 16] (fun v i wr => ∃ (t : Nat) (s : ByteArray), t ≤ n ∧ i = .int .i64 t ∧ v = .string s ∧ s = putScL b L t ∧ s.size ≤ 5010 + t * 560 ∧ Kept w1 wr) (fun _ i _ => n - (intOf i).toNat)
  case atStart => exact ⟨0, s0, Nat.zero_le _, rfl, rfl, HS0.out.symm, by omega, Kept.refl _⟩
  case round =>
    obtain ⟨t, s, ht, rfl, rfl, hs, hsz, hkr⟩ := hrel
    have HS := Lib.hid hs; have HKR := Lib.hid hkr
    clear hs hkr
    by_cases hlt : t < n
    · obtain ⟨g, o, x, rfl, hx, EX⟩ := (HH.out.kept HKR.out).get hlt
      have hst := putScL_step b hx
      rw [← HS.out] at hst
      have hfs := HSZ.out x (List.mem_of_getElem? hx)
      have hand1 := i64_and3 x.k; have hand2 := i64_and3 x.t
      obtain ⟨m1, hm1, hm14⟩ : ∃ m : Nat, x.k % 4 = (m : Int) ∧ m < 4 := ⟨(x.k % 4).toNat, by omega, by omega⟩
      obtain ⟨m2, hm2, hm24⟩ : ∃ m : Nat, x.t % 4 = (m : Int) ∧ m < 4 := ⟨(x.t % 4).toNat, by omega, by omega⟩
      have hw1 : IntKind.u64.wrap (m1 : Int) = (m1 : Int) := by rw [IntKind.wrap_u64]; omega
      have hw2 : IntKind.u64.wrap (m2 : Int) = (m2 : Int) := by rw [IntKind.wrap_u64]; omega
      obtain ⟨b1, hb1⟩ : ∃ b1, s ++ putS x.p.size ++ x.p = b1 := ⟨_, rfl⟩
      obtain ⟨b2, hb2⟩ : ∃ b2, b1 ++ putS m1 = b2 := ⟨_, rfl⟩
      obtain ⟨b3, hb3⟩ : ∃ b3, b2 ++ putS m2 = b3 := ⟨_, rfl⟩
      obtain ⟨b4, hb4⟩ : ∃ b4, putV b3 x.vk x.vn x.vt = b4 := ⟨_, rfl⟩
      have q1 := hfs.p; have q2 := hfs.vt
      have z1 : b1.size ≤ s.size + 210 := by have := putS_size x.p.size; rw [← hb1, ByteArray.size_append, ByteArray.size_append]; omega
      have z2 : b2.size ≤ s.size + 220 := by have := putS_size m1; rw [← hb2, ByteArray.size_append]; omega
      have z3 : b3.size ≤ s.size + 230 := by have := putS_size m2; rw [← hb3, ByteArray.size_append]; omega
      have z4 : b4.size ≤ s.size + 550 := by have := putV_size b3 x.vk x.vn x.vt; rw [hb4] at this; omega
      have A2 := Lib.hid (fun w => rtext_any s x.p w (by omega) (by omega))
      have A3 := Lib.hid (fun w => rput9m b1 m1 m1 rfl w (by omega) (by omega))
      have A4 := Lib.hid (fun w => rput9m b2 m2 m2 rfl w (by omega) (by omega))
      have A5 := Lib.hid (fun w => rput_anyV b3 x.vk x.vn x.vt w hfs.lo hfs.hi (by omega) (by omega))
      have HN := Lib.hid (show b4 = putScL b L (t + 1) by rw [hst]; unfold putFd; rw [hb1, show (x.k % 4).toNat = m1 by omega, hb2, show (x.t % 4).toNat = m2 by omega, hb3, hb4])
      have hz4 : b4.size ≤ 5010 + (t + 1) * 560 := by omega
      rw [hm1] at hand1
      rw [hm2] at hand2
      rw [hb1] at A2
      rw [hb2] at A3
      rw [hb3] at A4
      rw [hb4] at A5
      have x0 := EX.c0; have x1 := EX.c1; have x2 := EX.c2; have x3 := EX.c3; have x4 := EX.c4; have x5 := EX.c5
      have hka := (Kept.refl wr).alloc #[.string x.p, .int .i64 x.k, .int .i64 x.t, .int .i64 x.vk, .int .i64 x.vn, .string x.vt] 30
      have HE := Lib.hid (FdB.new wr x 30)
      have y0 := HE.out.c0
      have HKA := Lib.hid (HKR.out.trans hka)
      clear hst hfs z1 z2 z3 z4 hb1 hb2 hb3 hb4 hm1 hm2 q1 q2 EX hx hka
      go_wp2_with fail
      go_at_call 47
      refine (A2.out _).mono ?_
      rintro e w2 ⟨rfl, hg⟩
      have hk := kept_of hg
      replace HE := Lib.hid (HE.out.kept hk)
      replace HKA := Lib.hid (HKA.out.trans hk)
      clear hg hk x0 x1 x2 x3 x4 x5 y0 A2
      go_wp2_with fail
      have c1 := KExt.cell HE.out.c1
      have c2 := KExt.cell HE.out.c2
      refine region_kept _ (by kernel_rfl) (by kernel_rfl) (Kept.refl _) ?_
      repeat (go_big_quiet_step ((first
        | (go_at_call 46; (with_reducible exact KExt.calls (A3.out _)))
        | (go_at_call 46; (with_reducible exact KExt.calls (A4.out _)))
        | fail)))
      refine wpQuiet_nil ?_
      intro G
      obtain ⟨w3, hw3⟩ : ∃ w3, G.w = w3 := ⟨_, rfl⟩
      have hk3 := G.g
      rw [hw3] at hk3 ⊢
      replace HE := Lib.hid (HE.out.kept hk3)
      replace HKA := Lib.hid (HKA.out.trans hk3)
      clear hk3 hw3 G c1 c2 A3 A4
      have y3 := HE.out.c3; have y4 := HE.out.c4; have y5 := HE.out.c5
      go_wp2_with fail
      go_at_call 48
      refine (A5.out _).mono ?_
      rintro e w4 ⟨rfl, hg⟩
      have HKE := Lib.hid (HKA.out.trans (kept_of hg))
      clear hg y3 y4 y5 A5
      go_wp2_with fail
      go_roundw
      case rel => exact ⟨t + 1, b4, hlt, by go_num, rfl, HN.out, hz4, HKE.out⟩
      case measure => simp [intOf]; omega
    · have htt : t = n := by omega
      have HF := Lib.hid (show s = putSc b L by rw [HS.out, htt, HNL.out]; exact putScL_all b L)
      rw [htt]
      clear hlt htt hsz ht
      go_wp2_with fail
      go_ret
      exact ⟨ret_str HF.out, HK1.out.trans HKR.out⟩
end Go.Proofs.YtjieofiaoepccaaGreatDoor

namespace Go.Proofs.YtjieofiaoepccaaGreatDoor
open Go.RowKit

def builderRen : Go.Shelf.Ren := ⟨fun | 166 => 42 | 169 => 45 | 240 => 70 | 276 => 85 | n => n, fun | 0 => 0 | 3 => 3 | 4 => 4 | 5 => 5 | 9 => 9 | 20 => 20 | 37 => 58 | 70 => 57 | 72 => 60 | 75 => 62 | 80 => 67 | 127 => 86 | 164 => 98 | n => n, fun | n => n⟩
theorem lays166 : Go.Proofs.Lays.n166 Tryz.prog builderRen := {
  mixed := by kernel_rfl
  f166 := Tryz.func42.trans (congrArg some (by kernel_rfl))
  f240 := Tryz.func70.trans (congrArg some (by kernel_rfl))
  f276 := Tryz.func85.trans (congrArg some (by kernel_rfl))
  t0 := Tryz.underlying0
  a0 := Tryz.isAgg0
  z0 := Tryz.sizeOf0
  v0 := Tryz.zeroValue0
  t3 := Tryz.underlying3
  a3 := Tryz.isAgg3
  z3 := Tryz.sizeOf3
  v3 := Tryz.zeroValue3
  t4 := Tryz.underlying4
  a4 := Tryz.isAgg4
  z4 := Tryz.sizeOf4
  v4 := Tryz.zeroValue4
  t9 := Tryz.underlying9
  a9 := Tryz.isAgg9
  z9 := Tryz.sizeOf9
  v9 := Tryz.zeroValue9
  t20 := Tryz.underlying20
  a20 := Tryz.isAgg20
  z20 := Tryz.sizeOf20
  v20 := Tryz.zeroValue20
  t37 := Tryz.underlying58
  a37 := Tryz.isAgg58
  z37 := Tryz.sizeOf58
  v37 := Tryz.zeroValue58
  t70 := Tryz.underlying57
  a70 := Tryz.isAgg57
  z70 := Tryz.sizeOf57
  v70 := Tryz.zeroValue57
  t72 := Tryz.underlying60
  a72 := Tryz.isAgg60
  z72 := Tryz.sizeOf60
  v72 := Tryz.zeroValue60
  t75 := Tryz.underlying62
  a75 := Tryz.isAgg62
  z75 := Tryz.sizeOf62
  v75 := Tryz.zeroValue62
  t164 := Tryz.underlying98
  a164 := Tryz.isAgg98
  z164 := Tryz.sizeOf98
  v164 := Tryz.zeroValue98
}
theorem lays169 : Go.Proofs.Lays.n169 Tryz.prog builderRen := {
  mixed := by kernel_rfl
  f169 := Tryz.func45.trans (congrArg some (by kernel_rfl))
  t0 := Tryz.underlying0
  a0 := Tryz.isAgg0
  z0 := Tryz.sizeOf0
  v0 := Tryz.zeroValue0
  t3 := Tryz.underlying3
  a3 := Tryz.isAgg3
  z3 := Tryz.sizeOf3
  v3 := Tryz.zeroValue3
  t9 := Tryz.underlying9
  a9 := Tryz.isAgg9
  z9 := Tryz.sizeOf9
  v9 := Tryz.zeroValue9
  t37 := Tryz.underlying58
  a37 := Tryz.isAgg58
  z37 := Tryz.sizeOf58
  v37 := Tryz.zeroValue58
  t70 := Tryz.underlying57
  a70 := Tryz.isAgg57
  z70 := Tryz.sizeOf57
  v70 := Tryz.zeroValue57
  t72 := Tryz.underlying60
  a72 := Tryz.isAgg60
  z72 := Tryz.sizeOf60
  v72 := Tryz.zeroValue60
  t127 := Tryz.underlying86
  a127 := Tryz.isAgg86
  z127 := Tryz.sizeOf86
  v127 := Tryz.zeroValue86
}
theorem extraB : Go.Proofs.Builder.Extra Tryz.prog builderRen where
  sizeBuilder := by kernel_rfl
  liesBuilder := by kernel_rfl
  t5 := Tryz.underlying5
  a5 := Tryz.isAgg5
  z5 := Tryz.sizeOf5
  v5 := Tryz.zeroValue5
  infoByte := by kernel_rfl
  cellsByte := by kernel_rfl
  sizeByte := by kernel_rfl
  neB5 := by decide

/-- A builder in block b that holds l; U: what is left alone. -/
structure Bld (U : World) (b : Nat) (w : World) (l : List UInt8) : Prop where
  is : Lib.IsBuilder 60 5 b b (Lib.byteCells l) w
  ke : Kept U w
  lo : U.heap.size ≤ b
theorem kept_below {U w w' : World} {B : Nat} (h : Kept U w) (hb : Below B w w') (hU : U.heap.size ≤ B) : Kept U w' := by
  obtain ⟨⟨h1, h2, h3⟩, hf, hs⟩ := h
  refine ⟨⟨hb.os.trans h1, hb.output.trans h2, fun i hi => ?_⟩, fun a ha => (hb.frozen (Nat.lt_of_lt_of_le ha hU)).trans (hf a ha), Nat.le_trans hs hb.size⟩
  rw [hb.block i (Nat.lt_of_lt_of_le hi hU)]
  exact h3 i hi
theorem bat_kept {w w' : World} {T e : TypeId} {B b : Nat} {p : Value} {bs : List Value} (h : Lib.BuilderAt T e B b p bs w) (hk : Kept w w') : Lib.BuilderAt T e B b p bs w' := by
  obtain ⟨hB, v, hb, hown, hne⟩ := h
  refine ⟨hB, v, ?_, own_kept hown hk, hne⟩
  rw [hk.blk (by
    rcases Nat.lt_or_ge b w.heap.size with h' | h'
    · exact h'
    · rw [Array.getElem?_eq_none h'] at hb; cases hb)]
  exact hb
theorem Bld.kept {U w w' : World} {b : Nat} {l : List UInt8} (h : Bld U b w l) (hk : Kept w w') : Bld U b w' l :=
  ⟨h.is.imp (bat_kept · hk) (bat_kept · hk), h.ke.trans hk, h.lo⟩
theorem Bld.start (U : World) : Bld U U.heap.size (U.alloc (.cells #[.pointer none, .slice none 0 0] 60)) [] :=
  ⟨Lib.fresh_isBuilder _ _ U, (Kept.refl U).alloc _ _, Nat.le_refl _⟩
theorem bld_lt {U w : World} {b : Nat} {l : List UInt8} (h : Bld U b w l) : b < w.heap.size := by
  rcases h.is with h | h
  · exact h.lt
  · exact h.lt
theorem write_any {U w : World} {b : Nat} {l : List UInt8} (h : Bld U b w l) (s : ByteArray) (hl : l.length + s.size ≤ 140737488355328) (r : List UInt8) (hr : l ++ s.data.toList = r) :
    Calls Tryz.prog 42 #[.pointer (some ⟨b, 0, none⟩), .string s] w fun e w' => e = .returned (.tuple #[.int .i64 s.size, .nilIface]) ∧ Bld U b w' r := by
  have hc := Go.Proofs.Any.Builder_WriteString lays166 extraB b b (Lib.byteCells l) s w h.is (by rw [Lib.byteCells_length]; exact hl) (Nat.le_of_lt (bld_lt h))
  refine hc.mono fun e w' ⟨he, hb, hbe⟩ => ⟨he, ⟨.inr ?_, kept_below h.ke hbe h.lo, h.lo⟩⟩
  rw [Lib.strCells_eq, ← Lib.byteCells_append, hr] at hb
  exact hb
theorem string_any {U w : World} {b : Nat} {l : List UInt8} (h : Bld U b w l) :
    Calls Tryz.prog 45 #[.pointer (some ⟨b, 0, none⟩)] w fun e w' => e = .returned (.string ⟨l.toArray⟩) ∧ Kept U w' := by
  have hc := Go.Proofs.Any.Builder_String_any lays169 extraB b b l w h.is (Nat.le_of_lt (bld_lt h))
  exact hc.mono fun e w' ⟨he, hbe⟩ => ⟨he, kept_below h.ke hbe h.lo⟩
end Go.Proofs.YtjieofiaoepccaaGreatDoor

