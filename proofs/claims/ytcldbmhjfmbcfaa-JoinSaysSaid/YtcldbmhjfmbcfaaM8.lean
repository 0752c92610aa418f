/-
  What is proved: plain facts on what events left (P7.1 to P7.6): what is right, as bytes, as it is told; what is right is put and taken, whatever follows; what is taken is right, and put as these bytes; no program is spoken of here.
  plain facts on sets of dots (P6.1 to P6.9, P6.13, P6.14): what is in one, when one is right, that sets with the same dots are the same, and what compacting makes of any dots; no program is spoken of here.
  append of a slice of dots onto a row of the call's own; slices.Clone at dots: the result lies in a row of its own and holds the slice's dots; the world has new blocks at most.
-/
import Derived.Test.YtcldbmhjfmbcfaaM7
import Derived.Test.YtcldbmhjfmbcfaaM3
import Derived.Test.YtcldbmhjfmbcfaaM4
import Derived.Lib.SliceRun
import Derived.Lib.Walk
import Derived.Lib.AppendZerosOnto
import Derived.Lib.AppendZeros
namespace Go.Proofs.Ytcldbmhjfmbcfaa
open Go.RowKit

/-- What an event left. -/
structure En where
  d : Int × Int
  p : ByteArray
  k : Int
  vk : Int
  vn : Int
  vt : ByteArray
  e : Int × Int
def En.none : En := ⟨(0, 0), ⟨#[]⟩, 0, 0, 0, ⟨#[]⟩, (0, 0)⟩

/-- P7.1. -/
def kindE (k vk : Int) : Bool := decide (k = 1 ∨ k = 2 ∨ k = 3 ∧ vk = 1)
def verE (d : Int × Int) : Bool := decide (d.1 = 0 ∧ d.2 = 0) || rightD d
def rightE (x : En) : Bool := rightD x.d && L4.rightS x.p && kindE x.k x.vk && rightB x.vk x.vn x.vt && verE x.e
/-- P7.3. -/
def putE (b : ByteArray) (x : En) : ByteArray := putD (putV (putD b x.d ++ putS x.p.size ++ x.p ++ putS (x.k % 4).toNat) x.vk x.vn x.vt) x.e
/-- P7.5. -/
def markE (k : Int) : ByteArray := if k % 4 = 1 then ⟨#[61]⟩ else if k % 4 = 2 then ⟨#[43]⟩ else if k % 4 = 3 then ⟨#[35]⟩ else ⟨#[63]⟩
def textE (x : En) : ByteArray := textD x.d ++ ⟨#[32]⟩ ++ x.p ++ markE x.k ++ textV x.vk x.vn x.vt ++ ⟨#[64]⟩ ++ textD x.e

/-- P7.4: what is left to take, part by part. -/
def r1 (s : ByteArray) : ByteArray := tdR s
def r2 (s : ByteArray) : ByteArray := ttR (r1 s) 102
def r3 (s : ByteArray) : ByteArray := tkR (r2 s)
def r4 (s : ByteArray) : ByteArray := tvR (r3 s)
def r5 (s : ByteArray) : ByteArray := tdR (r4 s)
def enK (s : ByteArray) (k : Int) : En := ⟨tdX s, ttT (r1 s) 102, k, tvK (r3 s), tvI (r3 s), tvT (r3 s), tdX (r4 s)⟩
/-- P7.4: the first error. -/
def errE (s : ByteArray) : Nat :=
  if tdE s ≠ 0 then tdE s else if ttE (r1 s) 102 ≠ 0 then ttE (r1 s) 102 else if tkE (r2 s) ≠ 0 then tkE (r2 s) else if tvE (r3 s) ≠ 0 then tvE (r3 s) else tdE (r4 s)
def teL (s : ByteArray) : En × ByteArray × Nat :=
  if errE s ≠ 0 then (.none, ⟨#[]⟩, errE s)
  else if tkN (r2 s) ≤ 3 ∧ rightE (enK s (tkN (r2 s))) = true then (enK s (tkN (r2 s)), r5 s, 0)
  else (.none, ⟨#[]⟩, 3)
def teX (s : ByteArray) : En := (teL s).1
def teR (s : ByteArray) : ByteArray := (teL s).2.1
def teE (s : ByteArray) : Nat := (teL s).2.2
theorem te_of {s : ByteArray} {x : En} {r : ByteArray} {e : Nat} (h : teL s = (x, r, e)) : teX s = x ∧ teR s = r ∧ teE s = e := by
  unfold teX teR teE; rw [h]; exact ⟨rfl, rfl, rfl⟩

theorem rightS_size {p : ByteArray} (h : L4.rightS p = true) : p.size ≤ 102 := by
  unfold L4.rightS L4.rightL at h
  simp only [Bool.and_eq_true, List.all_eq_true, decide_eq_true_eq] at h
  have h2 := L4.joi_len (L4.spl p.data.toList) 16 fun s hs => (L4.segL_len s (h.1 s hs)).1
  rw [L4.joi_spl, ← ba_size] at h2
  have := Nat.mul_le_mul_right 17 h.2
  omega
theorem rightE_of {x : En} : rightE x = true ↔ rightD x.d = true ∧ L4.rightS x.p = true ∧ kindE x.k x.vk = true ∧ rightB x.vk x.vn x.vt = true ∧ verE x.e = true := by
  unfold rightE
  simp only [Bool.and_eq_true, and_assoc]
theorem verE_of {d : Int × Int} (h : verE d = true) : d = (0, 0) ∨ rightD d = true := by
  unfold verE at h
  simp only [Bool.or_eq_true, decide_eq_true_eq] at h
  exact h.imp (fun h => Prod.ext h.1 h.2) id

theorem putV_enc (b : ByteArray) (k n : Int) (t : ByteArray) : putV b k n t = b ++ putV ⟨#[]⟩ k n t := by
  unfold putV
  repeat (first | rfl | split)
  all_goals (simp only [ba_nil, ba_assoc])
theorem putE_enc (b : ByteArray) (x : En) : putE b x = b ++ (encDo x.d ++ (putS x.p.size ++ (x.p ++ (putS (x.k % 4).toNat ++ (putV ⟨#[]⟩ x.vk x.vn x.vt ++ encDo x.e))))) := by
  unfold putE
  rw [putD_enc, putV_enc, putD_enc]
  simp only [ba_assoc]
theorem putE_nil (x : En) : putE ⟨#[]⟩ x = encDo x.d ++ (putS x.p.size ++ (x.p ++ (putS (x.k % 4).toNat ++ (putV ⟨#[]⟩ x.vk x.vn x.vt ++ encDo x.e)))) := by
  rw [putE_enc, ba_nil]

theorem tv_fore {k n : Int} {t : ByteArray} (h1 : -9223372036854775808 ≤ n) (h2 : n ≤ 9223372036854775807) (hr : rightB k n t = true) (x : ByteArray) :
    tvK (putV ⟨#[]⟩ k n t ++ x) = k ∧ tvI (putV ⟨#[]⟩ k n t ++ x) = n ∧ tvT (putV ⟨#[]⟩ k n t ++ x) = t ∧ tvR (putV ⟨#[]⟩ k n t ++ x) = x ∧ tvE (putV ⟨#[]⟩ k n t ++ x) = 0 := by
  have := tv_put k n t x h1 h2 hr
  unfold tvK tvI tvT tvR tvE
  rw [this]
  exact ⟨rfl, rfl, rfl, rfl, rfl⟩
theorem tv_aft (s : ByteArray) (h : tvE s = 0) (hr : rightB (tvK s) (tvI s) (tvT s) = true) : putV ⟨#[]⟩ (tvK s) (tvI s) (tvT s) ++ tvR s = s := by
  have hz : (zigI 0).toNat = 0 := rfl
  unfold tvE tvL at h
  unfold tvK tvI tvT tvL at hr
  unfold tvK tvI tvT tvR tvL
  by_cases h1 : tkE s ≠ 0
  · rw [if_pos h1] at h; exact absurd h h1
  rw [if_neg h1] at h hr ⊢
  by_cases h2 : 3 < tkN s
  · rw [if_pos h2] at h; simp at h
  rw [if_neg h2] at h hr ⊢
  by_cases h3 : tkN s = 0
  · rw [if_pos h3] at hr; simp [rightB] at hr
  rw [if_neg h3] at h hr ⊢
  have hs := tk_aft s (by omega)
  by_cases h4 : tkN s = 2
  · rw [if_pos h4] at h hr ⊢
    by_cases h5 : ttE (tkR s) 200 ≠ 0
    · rw [if_pos h5] at h; exact absurd h h5
    rw [if_neg h5]
    have ht := (tt_aft (tkR s) 200 (by omega)).1
    show (⟨#[]⟩ ++ putS 2 ++ putS (ttT (tkR s) 200).size ++ ttT (tkR s) 200) ++ ttR (tkR s) 200 = s
    rw [ba_nil]
    simp only [ba_assoc]
    rw [ht, ← h4]
    exact hs
  rw [if_neg h4] at h hr ⊢
  by_cases h5 : tkE (tkR s) ≠ 0
  · rw [if_pos h5] at h; exact absurd h h5
  rw [if_neg h5] at h hr ⊢
  by_cases h6 : rightB (tkN s) (tiN (tkR s)) ⟨#[]⟩ = true
  · rw [if_pos h6]
    have ht := ti_aft (tkR s) (by omega)
    have h7 : tkN s = 1 ∨ tkN s = 3 := by omega
    show putV ⟨#[]⟩ (tkN s) (tiN (tkR s)) ⟨#[]⟩ ++ tkR (tkR s) = s
    unfold putV
    rw [if_neg (by omega), if_neg (by omega), show ((tkN s : Int) % 4).toNat = tkN s by omega, ba_nil]
    simp only [ba_assoc]
    rw [ht]
    exact hs
  · rw [if_neg h6] at h; simp at h

/-- P7.6. -/
theorem te_fore {x : En} (h : rightE x = true) (h1 : -9223372036854775808 ≤ x.vn) (h2 : x.vn ≤ 9223372036854775807) (s : ByteArray) : teL (putE ⟨#[]⟩ x ++ s) = (x, s, 0) := by
  obtain ⟨a1, a2, a3, a4, a5⟩ := rightE_of.1 h
  have hk : x.k = 1 ∨ x.k = 2 ∨ x.k = 3 := by
    unfold kindE at a3
    simp only [decide_eq_true_eq] at a3
    omega
  have hkn : (x.k % 4).toNat < 18446744073709551616 := by omega
  have hk4 : (((x.k % 4).toNat : Nat) : Int) = x.k := by omega
  have e : putE ⟨#[]⟩ x ++ s = encDo x.d ++ (putS x.p.size ++ (x.p ++ (putS (x.k % 4).toNat ++ (putV ⟨#[]⟩ x.vk x.vn x.vt ++ (encDo x.e ++ s))))) := by
    rw [putE_nil]
    simp only [ba_assoc]
  obtain ⟨d1, d2, d3⟩ := td_fore x.d (putS x.p.size ++ (x.p ++ (putS (x.k % 4).toNat ++ (putV ⟨#[]⟩ x.vk x.vn x.vt ++ (encDo x.e ++ s))))) a1
  have hp := tt_fore x.p (putS (x.k % 4).toNat ++ (putV ⟨#[]⟩ x.vk x.vn x.vt ++ (encDo x.e ++ s))) 102 (by have := rightS_size a2; omega) (by decide)
  obtain ⟨k1, k2, k3⟩ := tk_fore (x.k % 4).toNat (putV ⟨#[]⟩ x.vk x.vn x.vt ++ (encDo x.e ++ s)) hkn
  obtain ⟨v1, v2, v3, v4, v5⟩ := tv_fore h1 h2 a4 (encDo x.e ++ s)
  obtain ⟨w1, w2, w3⟩ : tdX (encDo x.e ++ s) = x.e ∧ tdR (encDo x.e ++ s) = s ∧ tdE (encDo x.e ++ s) = 0 := by
    rcases verE_of a5 with h0 | h0
    · rw [h0]; exact td_none s
    · exact td_fore x.e s h0
  rw [e]
  have g1 : r1 (encDo x.d ++ (putS x.p.size ++ (x.p ++ (putS (x.k % 4).toNat ++ (putV ⟨#[]⟩ x.vk x.vn x.vt ++ (encDo x.e ++ s)))))) = putS x.p.size ++ (x.p ++ (putS (x.k % 4).toNat ++ (putV ⟨#[]⟩ x.vk x.vn x.vt ++ (encDo x.e ++ s)))) := d2
  generalize encDo x.d ++ (putS x.p.size ++ (x.p ++ (putS (x.k % 4).toNat ++ (putV ⟨#[]⟩ x.vk x.vn x.vt ++ (encDo x.e ++ s))))) = S at *
  have g2 : r2 S = putS (x.k % 4).toNat ++ (putV ⟨#[]⟩ x.vk x.vn x.vt ++ (encDo x.e ++ s)) := by unfold r2 ttR; rw [g1, hp]
  have g3 : r3 S = putV ⟨#[]⟩ x.vk x.vn x.vt ++ (encDo x.e ++ s) := by unfold r3; rw [g2, k2]
  have g4 : r4 S = encDo x.e ++ s := by unfold r4; rw [g3, v4]
  have g5 : r5 S = s := by unfold r5; rw [g4, w2]
  have gt : ttT (r1 S) 102 = x.p := by unfold ttT; rw [g1, hp]
  have gE : ttE (r1 S) 102 = 0 := by unfold ttE; rw [g1, hp]
  have he : errE S = 0 := by
    unfold errE
    rw [d3, gE, g2, k3, g3, v5, g4, w3]
    rfl
  have hx : enK S (tkN (r2 S)) = x := by
    unfold enK
    rw [d1, gt, g2, k1, hk4, g3, v1, v2, v3, g4, w1]
  unfold teL
  rw [he, if_neg (by simp), hx, g5, if_pos ⟨by rw [g2, k1]; omega, h⟩]
theorem err_none {s : ByteArray} (h : errE s = 0) : tdE s = 0 ∧ ttE (r1 s) 102 = 0 ∧ tkE (r2 s) = 0 ∧ tvE (r3 s) = 0 ∧ tdE (r4 s) = 0 := by
  unfold errE at h
  by_cases q1 : tdE s = 0
  · rw [if_neg (by omega)] at h
    by_cases q2 : ttE (r1 s) 102 = 0
    · rw [if_neg (by omega)] at h
      by_cases q3 : tkE (r2 s) = 0
      · rw [if_neg (by omega)] at h
        by_cases q4 : tvE (r3 s) = 0
        · rw [if_neg (by omega)] at h
          exact ⟨q1, q2, q3, q4, h⟩
        · rw [if_pos q4] at h; exact absurd h q4
      · rw [if_pos q3] at h; exact absurd h q3
    · rw [if_pos q2] at h; exact absurd h q2
  · rw [if_pos q1] at h; exact absurd h q1
/-- What is taken is put as these bytes. -/
theorem en_aft {s : ByteArray} (h : errE s = 0) (hk : tkN (r2 s) ≤ 3) (hr : rightB (tvK (r3 s)) (tvI (r3 s)) (tvT (r3 s)) = true) :
    encDo (tdX s) ++ (putS (ttT (r1 s) 102).size ++ (ttT (r1 s) 102 ++ (putS (((tkN (r2 s) : Nat) : Int) % 4).toNat ++ (putV ⟨#[]⟩ (tvK (r3 s)) (tvI (r3 s)) (tvT (r3 s)) ++ (encDo (tdX (r4 s)) ++ r5 s))))) = s := by
  obtain ⟨e1, e2, e3, e4, e5⟩ := err_none h
  have x5 : encDo (tdX (r4 s)) ++ r5 s = r4 s := td_aft (r4 s) e5
  have x4 : putV ⟨#[]⟩ (tvK (r3 s)) (tvI (r3 s)) (tvT (r3 s)) ++ r4 s = r3 s := tv_aft (r3 s) e4 hr
  have x3 : putS (tkN (r2 s)) ++ r3 s = r2 s := tk_aft (r2 s) e3
  have x2 : putS (ttT (r1 s) 102).size ++ (ttT (r1 s) 102 ++ r2 s) = r1 s := (tt_aft (r1 s) 102 e2).1
  have x1 : encDo (tdX s) ++ r1 s = s := td_aft s e1
  rw [x5, x4, show (((tkN (r2 s) : Nat) : Int) % 4).toNat = tkN (r2 s) by omega, x3, x2, x1]
/-- P7.6, the way back. -/
theorem te_aft {s : ByteArray} (h : teE s = 0) : rightE (teX s) = true ∧ putE ⟨#[]⟩ (teX s) ++ teR s = s := by
  by_cases h1 : errE s = 0
  · by_cases h2 : tkN (r2 s) ≤ 3 ∧ rightE (enK s (tkN (r2 s))) = true
    · have hL : teL s = (enK s (tkN (r2 s)), r5 s, 0) := by
        unfold teL
        rw [if_neg (by omega), if_pos h2]
      obtain ⟨t1, t2, _⟩ := te_of hL
      rw [t1, t2]
      refine ⟨h2.2, ?_⟩
      obtain ⟨_, _, _, a4, _⟩ := rightE_of.1 h2.2
      have key := en_aft h1 h2.1 a4
      rw [putE_nil]
      unfold enK
      simp only [ba_assoc]
      exact key
    · have hL : teL s = (.none, ⟨#[]⟩, 3) := by
        unfold teL
        rw [if_neg (by omega), if_neg h2]
      have := (te_of hL).2.2
      omega
  · have hL : teL s = (.none, ⟨#[]⟩, errE s) := by
      unfold teL
      rw [if_pos h1]
    have := (te_of hL).2.2
    omega
end Go.Proofs.Ytcldbmhjfmbcfaa

namespace Go.Proofs.Ytcldbmhjfmbcfaa

/-- Up to which number a replica's dots are all there. -/
def atV (V : List Int) (rep : Int) : Int := if 0 ≤ rep then V.getD rep.toNat 0 else 0
theorem atV_nat (V : List Int) (k : Nat) : atV V k = V.getD k 0 := by
  unfold atV; rw [if_pos (by omega), Int.toNat_natCast]
theorem atV_nil (r : Int) : atV [] r = 0 := by unfold atV; split <;> simp
theorem atV_neg (V : List Int) {r : Int} (h : r < 0) : atV V r = 0 := by unfold atV; rw [if_neg (by omega)]
theorem atV_out (V : List Int) {r : Int} (h : (V.length : Int) ≤ r) : atV V r = 0 := by
  unfold atV
  split
  · rw [List.getD_eq_getElem?_getD, List.getElem?_eq_none (by omega)]; rfl
  · rfl
theorem atV_in {V : List Int} {k : Nat} {n : Int} (h : V[k]? = some n) : atV V k = n := by
  rw [atV_nat, List.getD_eq_getElem?_getD, h]; rfl
/-- P6.2. -/
def hasC (V : List Int) (C : List (Int × Int)) (d : Int × Int) : Prop := (1 ≤ d.2 ∧ d.2 ≤ atV V d.1) ∨ d ∈ C
instance (V : List Int) (C : List (Int × Int)) (d : Int × Int) : Decidable (hasC V C d) := inferInstanceAs (Decidable ((1 ≤ d.2 ∧ d.2 ≤ atV V d.1) ∨ d ∈ C))
structure VecOk (V : List Int) : Prop where
  len : V.length ≤ 64
  bd : ∀ n ∈ V, 0 ≤ n ∧ n ≤ 1073741824
theorem VecOk.at_bd {V : List Int} (h : VecOk V) (r : Int) : 0 ≤ atV V r ∧ atV V r ≤ 1073741824 := by
  unfold atV
  split
  · rw [List.getD_eq_getElem?_getD]
    cases hk : V[r.toNat]? with
    | none => simp
    | some n => exact h.bd n (List.mem_of_getElem? hk)
  · simp
/-- P6.1. -/
structure RightC (V : List Int) (C : List (Int × Int)) : Prop where
  vec : VecOk V
  last : ∀ k : Nat, V.length = k + 1 → V.getD k 0 ≠ 0
  rise : Rise C
  right : ∀ d ∈ C, rightD d = true
  apart : ∀ d ∈ C, atV V d.1 < d.2 - 1
theorem right_le {V V' : List Int} {C C' : List (Int × Int)} (hv : VecOk V') (h' : ∀ d ∈ C', atV V' d.1 < d.2 - 1) (he : ∀ d, hasC V C d → hasC V' C' d) (r : Int) : atV V r ≤ atV V' r := by
  refine Classical.byContradiction fun hn => ?_
  have hb := hv.at_bd r
  rcases he (r, atV V' r + 1) (.inl ⟨by simp only; omega, by simp only; omega⟩) with h | h
  · simp only at h; omega
  · have := h' _ h
    simp only at this; omega
theorem vec_same {V V' : List Int} (h : ∀ k : Nat, V.length = k + 1 → V.getD k 0 ≠ 0) (h' : ∀ k : Nat, V'.length = k + 1 → V'.getD k 0 ≠ 0) (he : ∀ r, atV V r = atV V' r) : V = V' := by
  have hl : ∀ {V V' : List Int}, (∀ k : Nat, V'.length = k + 1 → V'.getD k 0 ≠ 0) → (∀ r, atV V r = atV V' r) → V'.length ≤ V.length := by
    intro V V' h' he
    refine Classical.byContradiction fun hn => ?_
    obtain ⟨k, hk⟩ : ∃ k, V'.length = k + 1 := ⟨V'.length - 1, by omega⟩
    have h1 := he k
    rw [atV_out V (by omega), atV_nat] at h1
    exact h' k hk h1.symm
  have e : V.length = V'.length := Nat.le_antisymm (hl h (fun r => (he r).symm)) (hl h' he)
  refine List.ext_getElem e fun i h1 h2 => ?_
  have := he i
  rwa [atV_in (List.getElem?_eq_getElem h1), atV_in (List.getElem?_eq_getElem h2)] at this
/-- P6.13: sets that have the same dots are the same. -/
theorem right_unique {V V' : List Int} {C C' : List (Int × Int)} (h : RightC V C) (h' : RightC V' C') (he : ∀ d, hasC V C d ↔ hasC V' C' d) : V = V' ∧ C = C' := by
  have ha : ∀ r, atV V r = atV V' r := fun r => Int.le_antisymm (right_le h'.vec h'.apart (fun d => (he d).1) r) (right_le h.vec h.apart (fun d => (he d).2) r)
  refine ⟨vec_same h.last h'.last ha, rise_unique C C' h.rise h'.rise fun d => ⟨fun hd => ?_, fun hd => ?_⟩⟩
  · rcases (he d).1 (.inr hd) with h1 | h1
    · have := h.apart d hd
      rw [ha] at this; omega
    · exact h1
  · rcases (he d).2 (.inr hd) with h1 | h1
    · have := h'.apart d hd
      rw [← ha] at this; omega
    · exact h1
/-- The set of the dots that S tells. -/
structure SetC (S : Int × Int → Prop) (V : List Int) (C : List (Int × Int)) : Prop where
  right : RightC V C
  has : ∀ d, hasC V C d ↔ S d
theorem SetC.same {S S' : Int × Int → Prop} {V V' : List Int} {C C' : List (Int × Int)} (h : SetC S V C) (h' : SetC S' V' C') (he : ∀ d, S d ↔ S' d) : V = V' ∧ C = C' :=
  right_unique h.right h'.right fun d => ((h.has d).trans (he d)).trans (h'.has d).symm
theorem SetC.self {V : List Int} {C : List (Int × Int)} (h : RightC V C) : SetC (hasC V C) V C := ⟨h, fun _ => Iff.rfl⟩
theorem RightC.has_right {V : List Int} {C : List (Int × Int)} (h : RightC V C) {d : Int × Int} (hd : hasC V C d) : rightD d = true := by
  rcases hd with ⟨h1, h2⟩ | hd
  · unfold rightD
    rw [decide_eq_true_iff]
    have hb := h.vec.at_bd d.1
    have hl := h.vec.len
    refine ⟨?_, ?_, h1, by omega⟩
    · refine Classical.byContradiction fun hn => ?_
      rw [atV_neg V (by omega)] at h2; omega
    · refine Classical.byContradiction fun hn => ?_
      rw [atV_out V (by omega)] at h2; omega
  · exact h.right d hd

/-- Noughts behind, up to n numbers. -/
def padV (V : List Int) (n : Nat) : List Int := V ++ List.replicate (n - V.length) 0
theorem padV_len (V : List Int) (n : Nat) : (padV V n).length = max V.length n := by
  unfold padV; rw [List.length_append, List.length_replicate]; omega
theorem padV_getD (V : List Int) (n k : Nat) : (padV V n).getD k 0 = V.getD k 0 := by
  unfold padV
  rw [List.getD_eq_getElem?_getD, List.getD_eq_getElem?_getD]
  rcases Nat.lt_or_ge k V.length with h | h
  · rw [List.getElem?_append_left h]
  · rw [List.getElem?_append_right h, List.getElem?_eq_none h, List.getElem?_replicate]
    split <;> rfl
theorem padV_at (V : List Int) (n : Nat) (r : Int) : atV (padV V n) r = atV V r := by
  unfold atV; split
  · exact padV_getD V n _
  · rfl
theorem padV_ok {V : List Int} (h : VecOk V) {n : Nat} (hn : n ≤ 64) : VecOk (padV V n) := by
  refine ⟨by rw [padV_len]; have := h.len; omega, fun x hx => ?_⟩
  unfold padV at hx
  rcases List.mem_append.1 hx with hx | hx
  · exact h.bd x hx
  · have := (List.mem_replicate.1 hx).2
    omega
theorem set_at {V : List Int} {k : Nat} (hk : k < V.length) (x : Int) (r : Int) : atV (V.set k x) r = if r = k then x else atV V r := by
  by_cases hr : 0 ≤ r
  · obtain ⟨j, rfl⟩ : ∃ j : Nat, r = j := ⟨r.toNat, by omega⟩
    rw [atV_nat, atV_nat, List.getD_eq_getElem?_getD, List.getD_eq_getElem?_getD, List.getElem?_set]
    by_cases e : k = j
    · subst e; simp [hk]
    · rw [if_neg e, if_neg (by omega)]
  · rw [atV_neg _ (by omega), atV_neg _ (by omega), if_neg (by omega)]
theorem set_ok {V : List Int} (h : VecOk V) (k : Nat) {x : Int} (h0 : 0 ≤ x) (h1 : x ≤ 1073741824) : VecOk (V.set k x) := by
  refine ⟨by rw [List.length_set]; exact h.len, fun n hn => ?_⟩
  rcases List.mem_or_eq_of_mem_set hn with hn | rfl
  · exact h.bd n hn
  · exact ⟨h0, h1⟩

/-- What is kept while dots are gone through, rising. -/
structure InvC (V0 : List Int) (P : List (Int × Int)) (V : List Int) (C : List (Int × Int)) : Prop where
  vec : VecOk V
  sub : C.Sublist P
  right : ∀ d ∈ C, rightD d = true
  apart : ∀ d ∈ C, atV V d.1 < d.2 - 1
  has : ∀ d, hasC V C d ↔ hasC V0 [] d ∨ (rightD d = true ∧ d ∈ P)
theorem InvC.start {V0 : List Int} (h : VecOk V0) : InvC V0 [] V0 [] :=
  ⟨h, List.Sublist.refl _, (fun d hd => by cases hd), (fun d hd => by cases hd), fun d => by simp⟩
theorem InvC.skip {V0 V : List Int} {P C : List (Int × Int)} (h : InvC V0 P V C) {d : Int × Int} (hd : rightD d = true → hasC V C d) : InvC V0 (P ++ [d]) V C := by
  refine ⟨h.vec, h.sub.trans (List.sublist_append_left _ _), h.right, h.apart, fun x => ?_⟩
  rw [h.has]
  constructor
  · rintro (hx | ⟨h1, h2⟩)
    · exact .inl hx
    · exact .inr ⟨h1, List.mem_append_left _ h2⟩
  · rintro (hx | ⟨h1, h2⟩)
    · exact .inl hx
    · rcases List.mem_append.1 h2 with h2 | h2
      · exact .inr ⟨h1, h2⟩
      · obtain rfl : x = d := by simpa using h2
        exact (h.has x).1 (hd h1)
theorem InvC.pad {V0 V : List Int} {P C : List (Int × Int)} (h : InvC V0 P V C) {n : Nat} (hn : n ≤ 64) : InvC V0 P (padV V n) C := by
  refine ⟨padV_ok h.vec hn, h.sub, h.right, fun d hd => by rw [padV_at]; exact h.apart d hd, fun d => ?_⟩
  unfold hasC
  rw [padV_at]
  exact h.has d
theorem InvC.inc {V0 V : List Int} {P C : List (Int × Int)} (h : InvC V0 P V C) {d : Int × Int} (hP : ∀ p ∈ P, LtD p d) (hd : rightD d = true) (hl : d.1.toNat < V.length) (he : d.2 = atV V d.1 + 1) : InvC V0 (P ++ [d]) (V.set d.1.toNat d.2) C := by
  obtain ⟨b1, b2, b3, b4⟩ := rightD_bd hd
  have hat : ∀ r, atV (V.set d.1.toNat d.2) r = if r = d.1 then d.2 else atV V r := fun r => by
    rw [set_at hl, show ((d.1.toNat : Nat) : Int) = d.1 by omega]
  have hC : ∀ x ∈ C, x.1 ≠ d.1 := fun x hx e => by
    have h1 := h.apart x hx
    have h2 := hP x (h.sub.mem hx)
    unfold LtD at h2
    rw [e] at h1
    omega
  refine ⟨set_ok h.vec _ (by omega) b4, h.sub.trans (List.sublist_append_left _ _), h.right, fun x hx => by rw [hat, if_neg (hC x hx)]; exact h.apart x hx, fun x => ?_⟩
  have hh := h.has x
  have key : hasC (V.set d.1.toNat d.2) C x ↔ hasC V C x ∨ x = d := by
    unfold hasC
    rw [hat]
    by_cases e : x.1 = d.1
    · rw [if_pos e, e]
      constructor
      · rintro (⟨h1, h2⟩ | h1)
        · by_cases e2 : x.2 = d.2
          · exact .inr (Prod.ext e e2)
          · exact .inl (.inl ⟨h1, by omega⟩)
        · exact .inl (.inr h1)
      · rintro ((⟨h1, h2⟩ | h1) | h1)
        · exact .inl ⟨h1, by omega⟩
        · exact .inr h1
        · subst h1; exact .inl ⟨b3, Int.le_refl _⟩
    · rw [if_neg e]
      constructor
      · exact .inl
      · rintro (h1 | h1)
        · exact h1
        · exact absurd (h1 ▸ rfl) e
  rw [key, hh, List.mem_append, List.mem_singleton]
  constructor
  · rintro ((h1 | ⟨h1, h2⟩) | h1)
    · exact .inl h1
    · exact .inr ⟨h1, .inl h2⟩
    · exact .inr ⟨h1 ▸ hd, .inr h1⟩
  · rintro (h1 | ⟨h1, h2 | h2⟩)
    · exact .inl (.inl h1)
    · exact .inl (.inr ⟨h1, h2⟩)
    · exact .inr h2
theorem InvC.put {V0 V : List Int} {P C : List (Int × Int)} (h : InvC V0 P V C) {d : Int × Int} (hd : rightD d = true) (he : atV V d.1 + 1 < d.2) : InvC V0 (P ++ [d]) V (C ++ [d]) := by
  refine ⟨h.vec, List.Sublist.append h.sub (List.Sublist.refl _), fun x hx => ?_, fun x hx => ?_, fun x => ?_⟩
  · rcases List.mem_append.1 hx with hx | hx
    · exact h.right x hx
    · obtain rfl : x = d := by simpa using hx
      exact hd
  · rcases List.mem_append.1 hx with hx | hx
    · exact h.apart x hx
    · obtain rfl : x = d := by simpa using hx
      omega
  · have hh := h.has x
    have key : hasC V (C ++ [d]) x ↔ hasC V C x ∨ x = d := by
      unfold hasC
      rw [List.mem_append, List.mem_singleton, or_assoc]
    rw [key, hh, List.mem_append, List.mem_singleton]
    constructor
    · rintro ((h1 | ⟨h1, h2⟩) | h1)
      · exact .inl h1
      · exact .inr ⟨h1, .inl h2⟩
      · exact .inr ⟨h1 ▸ hd, .inr h1⟩
    · rintro (h1 | ⟨h1, h2 | h2⟩)
      · exact .inl (.inl h1)
      · exact .inl (.inr ⟨h1, h2⟩)
      · exact .inr h2
theorem take_at {V : List Int} {n : Nat} (hz : ∀ j, n ≤ j → V.getD j 0 = 0) (r : Int) : atV (V.take n) r = atV V r := by
  unfold atV
  split
  · rw [List.getD_eq_getElem?_getD, List.getElem?_take]
    split
    · rw [List.getD_eq_getElem?_getD]
    · rw [hz _ (by omega)]; rfl
  · rfl
/-- P6.3: what is left when all are gone through, and the noughts at the end let go. -/
theorem InvC.fin {V0 V : List Int} {X C : List (Int × Int)} (h : InvC V0 X V C) (hX : Rise X) {n : Nat} (hn : n ≤ V.length) (hz : ∀ j, n ≤ j → V.getD j 0 = 0) (hl : ∀ k, n = k + 1 → V.getD k 0 ≠ 0) :
    SetC (fun d => hasC V0 [] d ∨ (rightD d = true ∧ d ∈ X)) (V.take n) C := by
  refine ⟨⟨⟨by rw [List.length_take]; have := h.vec.len; omega, fun x hx => h.vec.bd x (List.mem_of_mem_take hx)⟩, fun k hk => ?_, hX.sublist h.sub, h.right, fun d hd => by rw [take_at hz]; exact h.apart d hd⟩, fun d => ?_⟩
  · rw [List.length_take] at hk
    have hk2 : n = k + 1 := by omega
    have := hl k hk2
    rwa [List.getD_eq_getElem?_getD, List.getElem?_take, if_pos (by omega), ← List.getD_eq_getElem?_getD]
  · unfold hasC
    rw [take_at hz]
    exact h.has d
/-- Compacting, of a Vec that is good and any dots. -/
def CompS (V : List Int) (L : List (Int × Int)) (d : Int × Int) : Prop := hasC V [] d ∨ (rightD d = true ∧ d ∈ L)
theorem SetC.comp {V V' : List Int} {X L C' : List (Int × Int)} (h : SetC (fun d => hasC V [] d ∨ (rightD d = true ∧ d ∈ X)) V' C') (hX : ∀ d, d ∈ X ↔ d ∈ L) : SetC (CompS V L) V' C' :=
  ⟨h.right, fun d => by rw [h.has]; unfold CompS; rw [hX]⟩
/-- P6.6: the greater of both, everywhere. -/
def maxV (V W : List Int) : List Int := (List.range (max V.length W.length)).map fun (k : Nat) => max (atV V k) (atV W k)
theorem maxV_len (V W : List Int) : (maxV V W).length = max V.length W.length := by unfold maxV; rw [List.length_map, List.length_range]
theorem maxV_at (V W : List Int) (r : Int) : atV (maxV V W) r = max (atV V r) (atV W r) := by
  by_cases h : 0 ≤ r ∧ r < (max V.length W.length : Nat)
  · obtain ⟨k, rfl⟩ : ∃ k : Nat, r = k := ⟨r.toNat, by omega⟩
    have hk : k < max V.length W.length := by omega
    have : (maxV V W)[k]? = some (max (atV V k) (atV W k)) := by
      unfold maxV; rw [List.getElem?_map, List.getElem?_range hk]; rfl
    exact atV_in this
  · rcases Int.lt_or_le r 0 with hr | hr
    · rw [atV_neg _ hr, atV_neg _ hr, atV_neg _ hr]; rfl
    · rw [atV_out _ (by rw [maxV_len]; omega), atV_out V (by omega), atV_out W (by omega)]; rfl
theorem maxV_ok {V W : List Int} (h1 : VecOk V) (h2 : VecOk W) : VecOk (maxV V W) := by
  refine ⟨by rw [maxV_len]; have := h1.len; have := h2.len; omega, fun n hn => ?_⟩
  unfold maxV at hn
  obtain ⟨k, _, rfl⟩ := List.mem_map.1 hn
  have a := h1.at_bd k
  have b := h2.at_bd k
  omega
theorem join_has {V W : List Int} {C D : List (Int × Int)} (h1 : RightC V C) (h2 : RightC W D) (d : Int × Int) : CompS (maxV V W) (C ++ D) d ↔ hasC V C d ∨ hasC W D d := by
  unfold CompS hasC
  rw [maxV_at V W d.1, List.mem_append]
  constructor
  · rintro ((⟨a, b⟩ | h) | ⟨_, h | h⟩)
    · rcases Int.le_total (atV V d.1) (atV W d.1) with hh | hh
      · exact .inr (.inl ⟨a, by omega⟩)
      · exact .inl (.inl ⟨a, by omega⟩)
    · cases h
    · exact .inl (.inr h)
    · exact .inr (.inr h)
  · rintro ((⟨a, b⟩ | h) | (⟨a, b⟩ | h))
    · exact .inl (.inl ⟨a, by omega⟩)
    · exact .inr ⟨h1.right d h, .inl h⟩
    · exact .inl (.inl ⟨a, by omega⟩)
    · exact .inr ⟨h2.right d h, .inr h⟩
theorem vecOk_nil : VecOk [] := ⟨by simp, fun n hn => by cases hn⟩
theorem of_has (L : List (Int × Int)) (d : Int × Int) : CompS [] L d ↔ rightD d = true ∧ d ∈ L := by
  unfold CompS hasC
  rw [atV_nil]
  constructor
  · rintro ((h | h) | h)
    · omega
    · cases h
    · exact h
  · exact .inr
theorem add_has {V : List Int} {C : List (Int × Int)} (h : RightC V C) (x d : Int × Int) : CompS V (C ++ [x]) d ↔ hasC V C d ∨ (rightD d = true ∧ d = x) := by
  unfold CompS hasC
  rw [List.mem_append, List.mem_singleton]
  constructor
  · rintro ((h1 | h1) | ⟨h1, h2 | h2⟩)
    · exact .inl (.inl h1)
    · cases h1
    · exact .inl (.inr h2)
    · exact .inr ⟨h1, h2⟩
  · rintro ((h1 | h1) | ⟨h1, h2⟩)
    · exact .inl (.inl h1)
    · exact .inr ⟨h.right d h1, .inl h1⟩
    · exact .inr ⟨h1, .inr h2⟩
end Go.Proofs.Ytcldbmhjfmbcfaa

namespace Go.Proofs.Ytcldbmhjfmbcfaa
open Go.RowKit

theorem infoDot : (Try.prog.info? 42).map (fun i => (i.zero, i.size, i.bytes)) = some (some (.agg #[.int .i64 0, .int .i64 0]), 2, 16) := by kernel_rfl

theorem app_dots (w : World) (base : Nat) (v : Value) (n : Nat) (xs : List Value) (h : w.ownsRow base 42 2 v n xs) (A : Option Addr) (m c : Nat) (L : List (Int × Int)) (hs : Dl w A m c L) (hb : n + m ≤ 8000000000000) (hbase : base ≤ w.heap.size) :
    ∃ v' w', (Builtin.append_ #[24, 24] 24 #[v, .slice A m c]).run Try.prog w = .ok v' w' ∧ w'.ownsRow base 42 2 v' (n + m) (xs ++ flatD L) ∧ w.grownBy w' v.ownBlock := by
  obtain ⟨i0, hi0, hz0, hz1, hz2⟩ := info_parts infoDot
  cases A with
  | none =>
    obtain rfl := hs.2.2.2.1 rfl
    obtain rfl : m = 0 := by have := hs.2.1; omega
    have hL : L = [] := List.eq_nil_of_length_eq_zero hs.1.symm
    subst hL
    exact ⟨v, w, run_append_owned_none w base _ _ _ i0 2 Try.underlying24 hi0 v n xs h, by simpa [flatD_nil] using h, World.grownBy.refl w _⟩
  | some ad =>
    obtain ⟨v', w', hr, ho, hg, hv⟩ := run_append_own (P := Try.prog) w base 24 24 42 i0 (.agg #[.int .i64 0, .int .i64 0]) 2 16 Try.underlying24 hi0 hz0 hz1 hz2 rfl (by decide) v n xs h ad m c (flatD L)
      (by rw [flatD_len, hs.1]) (fun j u hj => by
        obtain ⟨k, x, hk, hc⟩ := flatD_at L j u hj
        have hkl := (List.getElem?_eq_some_iff.1 hk).1
        obtain ⟨b, o, y, hA, hy, c1, c2⟩ := hs.get (k := k) (by rw [hs.1]; exact hkl)
        obtain rfl : y = x := Option.some.inj (hy.symm.trans hk)
        obtain rfl := Option.some.inj hA
        rw [Addr.add_lit]
        rcases hc with ⟨rfl, rfl⟩ | ⟨rfl, rfl⟩
        · exact c1
        · exact c2) (flatD_one _) (by simp only [maxLen]; omega) (by omega) hbase
    exact ⟨v', w', hr, ho, hg⟩

theorem kept_grown {W w w' : World} {row : Option Nat} (h : Kept W w) (hg : w.grownBy w' row) (hr : ∀ k, row = some k → W.heap.size ≤ k) : Kept W w' := by
  have hb : Below W.heap.size w w' := Below.grown (Below.refl _ w) hg h.2.2 hr
  obtain ⟨⟨h1, h2, h3⟩, hf, hs⟩ := h
  refine ⟨⟨hb.os.trans h1, hb.output.trans h2, fun i hi => ?_⟩, fun a ha => (hb.frozen ha).trans (hf a ha), Nat.le_trans hs hb.size⟩
  rw [hb.block i hi]
  exact h3 i hi

set_option maxRecDepth 100000 in
set_option maxHeartbeats 1000000 in
theorem clone_any (A : Option Addr) (n c : Nat) (L : List (Int × Int)) (w : World) (h : Dl w A n c L) (hn : n ≤ 1000000) :
    Calls Try.prog 66 #[.slice A n c] w fun e w' => ∃ v, e = .returned v ∧ w'.ownsRow w.heap.size 42 2 v n (flatD L) ∧ Kept w w' := by
  have q22 : ∀ (w : World) (a : Option Addr) (n c n' c' : Nat), (binOp .eql 24 (.slice a n c) (.slice none n' c')).run Try.prog w = .ok (.bool a.isNone) w := fun w a n c n' c' => Lib.run_eql_slice_nil w _ _ a n c n' c' Try.underlying24
  cases A with
  | none =>
    obtain rfl : n = 0 := by have := h.2.2.2.1 rfl; have := h.2.1; omega
    have hL : L = [] := List.eq_nil_of_length_eq_zero h.1.symm
    subst hL
    clear h
    go_enter Try.func66, Try.ntmps66
    go_wp2
    go_ret
    exact ⟨_, rfl, World.ownsRow_nil _ _ _ _, Kept.refl _⟩
  | some ad =>
    obtain ⟨v1, w1, hr1, ho1, hg1⟩ := app_dots (w.alloc (.cells #[] 42)) w.heap.size (.slice (some ⟨w.heap.size, 0, none⟩) 0 0) 0 [] (World.ownsRow_made w #[] 0 (Nat.le_refl _) (Nat.zero_le _) (by simp)) (some ad) n c L (h.kept ((Kept.refl w).alloc _ _)) (by omega) (by simp)
    have HK := Lib.hid (kept_grown ((Kept.refl w).alloc #[] 42) hg1 (fun k hk => by simp [Value.ownBlock] at hk; omega))
    have HR1 := Lib.hid hr1
    have HO1 := Lib.hid ho1
    clear hr1 ho1 hg1 h
    go_enter Try.func66, Try.ntmps66
    go_wp2_with (at_builtin; refine Lib.wpList_append_run _ rfl _ _ _ _ rfl _ _ rfl rfl _ _ HR1.out ?_)
    go_ret
    refine ⟨_, rfl, ?_, HK.out⟩
    have := HO1.out
    rwa [Nat.zero_add, List.nil_append] at this
end Go.Proofs.Ytcldbmhjfmbcfaa

