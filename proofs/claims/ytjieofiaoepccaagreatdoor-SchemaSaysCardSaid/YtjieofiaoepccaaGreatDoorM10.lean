/-
  What is proved: plain facts on what events left (P7.1 to P7.6): what is right, as bytes, as it is told; what is right is put and taken, whatever follows; what is taken is right, and put as these bytes; no program is spoken of here.
  plain facts on schemas (P11.1 to P11.10): what is right, as bytes, as it is told; fields put into their places; no path is two fields' of one that is right; what is right is put and taken, whatever follows; fields in the other order make it again; no program is spoken of here.
-/
import Derived.Test.YtjieofiaoepccaaGreatDoorM9
import Derived.Test.YtjieofiaoepccaaGreatDoorM5
import Derived.Test.YtjieofiaoepccaaGreatDoorM6
namespace Go.Proofs.YtjieofiaoepccaaGreatDoor
open Go.RowKit

/-- What an event left. -/
structure En where
  d : Int × Int
  p : ByteArray
  k : Int
  vk : Int
  vn : Int
  vt : ByteArray
  e : Int × Int
def En.none : En := ⟨(0, 0), ⟨#[]⟩, 0, 0, 0, ⟨#[]⟩, (0, 0)⟩

/-- P7.1. -/
def kindE (k vk : Int) : Bool := decide (k = 1 ∨ k = 2 ∨ k = 3 ∧ vk = 1)
def verE (d : Int × Int) : Bool := decide (d.1 = 0 ∧ d.2 = 0) || rightD d
def rightE (x : En) : Bool := rightD x.d && L4.rightS x.p && kindE x.k x.vk && rightB x.vk x.vn x.vt && verE x.e
/-- P7.3. -/
def putE (b : ByteArray) (x : En) : ByteArray := putD (putV (putD b x.d ++ putS x.p.size ++ x.p ++ putS (x.k % 4).toNat) x.vk x.vn x.vt) x.e
/-- P7.5. -/
def markE (k : Int) : ByteArray := if k % 4 = 1 then ⟨#[61]⟩ else if k % 4 = 2 then ⟨#[43]⟩ else if k % 4 = 3 then ⟨#[35]⟩ else ⟨#[63]⟩
def textE (x : En) : ByteArray := textD x.d ++ ⟨#[32]⟩ ++ x.p ++ markE x.k ++ textV x.vk x.vn x.vt ++ ⟨#[64]⟩ ++ textD x.e

/-- P7.4: what is left to take, part by part. -/
def r1 (s : ByteArray) : ByteArray := tdR s
def r2 (s : ByteArray) : ByteArray := ttR (r1 s) 102
def r3 (s : ByteArray) : ByteArray := tkR (r2 s)
def r4 (s : ByteArray) : ByteArray := tvR (r3 s)
def r5 (s : ByteArray) : ByteArray := tdR (r4 s)
def enK (s : ByteArray) (k : Int) : En := ⟨tdX s, ttT (r1 s) 102, k, tvK (r3 s), tvI (r3 s), tvT (r3 s), tdX (r4 s)⟩
/-- P7.4: the first error. -/
def errE (s : ByteArray) : Nat :=
  if tdE s ≠ 0 then tdE s else if ttE (r1 s) 102 ≠ 0 then ttE (r1 s) 102 else if tkE (r2 s) ≠ 0 then tkE (r2 s) else if tvE (r3 s) ≠ 0 then tvE (r3 s) else tdE (r4 s)
def teL (s : ByteArray) : En × ByteArray × Nat :=
  if errE s ≠ 0 then (.none, ⟨#[]⟩, errE s)
  else if tkN (r2 s) ≤ 3 ∧ rightE (enK s (tkN (r2 s))) = true then (enK s (tkN (r2 s)), r5 s, 0)
  else (.none, ⟨#[]⟩, 3)
def teX (s : ByteArray) : En := (teL s).1
def teR (s : ByteArray) : ByteArray := (teL s).2.1
def teE (s : ByteArray) : Nat := (teL s).2.2
theorem te_of {s : ByteArray} {x : En} {r : ByteArray} {e : Nat} (h : teL s = (x, r, e)) : teX s = x ∧ teR s = r ∧ teE s = e := by
  unfold teX teR teE; rw [h]; exact ⟨rfl, rfl, rfl⟩

theorem rightS_size {p : ByteArray} (h : L4.rightS p = true) : p.size ≤ 102 := by
  unfold L4.rightS L4.rightL at h
  simp only [Bool.and_eq_true, List.all_eq_true, decide_eq_true_eq] at h
  have h2 := L4.joi_len (L4.spl p.data.toList) 16 fun s hs => (L4.segL_len s (h.1 s hs)).1
  rw [L4.joi_spl, ← ba_size] at h2
  have := Nat.mul_le_mul_right 17 h.2
  omega
theorem rightE_of {x : En} : rightE x = true ↔ rightD x.d = true ∧ L4.rightS x.p = true ∧ kindE x.k x.vk = true ∧ rightB x.vk x.vn x.vt = true ∧ verE x.e = true := by
  unfold rightE
  simp only [Bool.and_eq_true, and_assoc]
theorem verE_of {d : Int × Int} (h : verE d = true) : d = (0, 0) ∨ rightD d = true := by
  unfold verE at h
  simp only [Bool.or_eq_true, decide_eq_true_eq] at h
  exact h.imp (fun h => Prod.ext h.1 h.2) id

theorem putV_enc (b : ByteArray) (k n : Int) (t : ByteArray) : putV b k n t = b ++ putV ⟨#[]⟩ k n t := by
  unfold putV
  repeat (first | rfl | split)
  all_goals (simp only [ba_nil, ba_assoc])
theorem putE_enc (b : ByteArray) (x : En) : putE b x = b ++ (encDo x.d ++ (putS x.p.size ++ (x.p ++ (putS (x.k % 4).toNat ++ (putV ⟨#[]⟩ x.vk x.vn x.vt ++ encDo x.e))))) := by
  unfold putE
  rw [putD_enc, putV_enc, putD_enc]
  simp only [ba_assoc]
theorem putE_nil (x : En) : putE ⟨#[]⟩ x = encDo x.d ++ (putS x.p.size ++ (x.p ++ (putS (x.k % 4).toNat ++ (putV ⟨#[]⟩ x.vk x.vn x.vt ++ encDo x.e)))) := by
  rw [putE_enc, ba_nil]

theorem tv_fore {k n : Int} {t : ByteArray} (h1 : -9223372036854775808 ≤ n) (h2 : n ≤ 9223372036854775807) (hr : rightB k n t = true) (x : ByteArray) :
    tvK (putV ⟨#[]⟩ k n t ++ x) = k ∧ tvI (putV ⟨#[]⟩ k n t ++ x) = n ∧ tvT (putV ⟨#[]⟩ k n t ++ x) = t ∧ tvR (putV ⟨#[]⟩ k n t ++ x) = x ∧ tvE (putV ⟨#[]⟩ k n t ++ x) = 0 := by
  have := tv_put k n t x h1 h2 hr
  unfold tvK tvI tvT tvR tvE
  rw [this]
  exact ⟨rfl, rfl, rfl, rfl, rfl⟩
theorem tv_aft (s : ByteArray) (h : tvE s = 0) (hr : rightB (tvK s) (tvI s) (tvT s) = true) : putV ⟨#[]⟩ (tvK s) (tvI s) (tvT s) ++ tvR s = s := by
  have hz : (zigI 0).toNat = 0 := rfl
  unfold tvE tvL at h
  unfold tvK tvI tvT tvL at hr
  unfold tvK tvI tvT tvR tvL
  by_cases h1 : tkE s ≠ 0
  · rw [if_pos h1] at h; exact absurd h h1
  rw [if_neg h1] at h hr ⊢
  by_cases h2 : 3 < tkN s
  · rw [if_pos h2] at h; simp at h
  rw [if_neg h2] at h hr ⊢
  by_cases h3 : tkN s = 0
  · rw [if_pos h3] at hr; simp [rightB] at hr
  rw [if_neg h3] at h hr ⊢
  have hs := tk_aft s (by omega)
  by_cases h4 : tkN s = 2
  · rw [if_pos h4] at h hr ⊢
    by_cases h5 : ttE (tkR s) 200 ≠ 0
    · rw [if_pos h5] at h; exact absurd h h5
    rw [if_neg h5]
    have ht := (tt_aft (tkR s) 200 (by omega)).1
    show (⟨#[]⟩ ++ putS 2 ++ putS (ttT (tkR s) 200).size ++ ttT (tkR s) 200) ++ ttR (tkR s) 200 = s
    rw [ba_nil]
    simp only [ba_assoc]
    rw [ht, ← h4]
    exact hs
  rw [if_neg h4] at h hr ⊢
  by_cases h5 : tkE (tkR s) ≠ 0
  · rw [if_pos h5] at h; exact absurd h h5
  rw [if_neg h5] at h hr ⊢
  by_cases h6 : rightB (tkN s) (tiN (tkR s)) ⟨#[]⟩ = true
  · rw [if_pos h6]
    have ht := ti_aft (tkR s) (by omega)
    have h7 : tkN s = 1 ∨ tkN s = 3 := by omega
    show putV ⟨#[]⟩ (tkN s) (tiN (tkR s)) ⟨#[]⟩ ++ tkR (tkR s) = s
    unfold putV
    rw [if_neg (by omega), if_neg (by omega), show ((tkN s : Int) % 4).toNat = tkN s by omega, ba_nil]
    simp only [ba_assoc]
    rw [ht]
    exact hs
  · rw [if_neg h6] at h; simp at h

/-- P7.6. -/
theorem te_fore {x : En} (h : rightE x = true) (h1 : -9223372036854775808 ≤ x.vn) (h2 : x.vn ≤ 9223372036854775807) (s : ByteArray) : teL (putE ⟨#[]⟩ x ++ s) = (x, s, 0) := by
  obtain ⟨a1, a2, a3, a4, a5⟩ := rightE_of.1 h
  have hk : x.k = 1 ∨ x.k = 2 ∨ x.k = 3 := by
    unfold kindE at a3
    simp only [decide_eq_true_eq] at a3
    omega
  have hkn : (x.k % 4).toNat < 18446744073709551616 := by omega
  have hk4 : (((x.k % 4).toNat : Nat) : Int) = x.k := by omega
  have e : putE ⟨#[]⟩ x ++ s = encDo x.d ++ (putS x.p.size ++ (x.p ++ (putS (x.k % 4).toNat ++ (putV ⟨#[]⟩ x.vk x.vn x.vt ++ (encDo x.e ++ s))))) := by
    rw [putE_nil]
    simp only [ba_assoc]
  obtain ⟨d1, d2, d3⟩ := td_fore x.d (putS x.p.size ++ (x.p ++ (putS (x.k % 4).toNat ++ (putV ⟨#[]⟩ x.vk x.vn x.vt ++ (encDo x.e ++ s))))) a1
  have hp := tt_fore x.p (putS (x.k % 4).toNat ++ (putV ⟨#[]⟩ x.vk x.vn x.vt ++ (encDo x.e ++ s))) 102 (by have := rightS_size a2; omega) (by decide)
  obtain ⟨k1, k2, k3⟩ := tk_fore (x.k % 4).toNat (putV ⟨#[]⟩ x.vk x.vn x.vt ++ (encDo x.e ++ s)) hkn
  obtain ⟨v1, v2, v3, v4, v5⟩ := tv_fore h1 h2 a4 (encDo x.e ++ s)
  obtain ⟨w1, w2, w3⟩ : tdX (encDo x.e ++ s) = x.e ∧ tdR (encDo x.e ++ s) = s ∧ tdE (encDo x.e ++ s) = 0 := by
    rcases verE_of a5 with h0 | h0
    · rw [h0]; exact td_none s
    · exact td_fore x.e s h0
  rw [e]
  have g1 : r1 (encDo x.d ++ (putS x.p.size ++ (x.p ++ (putS (x.k % 4).toNat ++ (putV ⟨#[]⟩ x.vk x.vn x.vt ++ (encDo x.e ++ s)))))) = putS x.p.size ++ (x.p ++ (putS (x.k % 4).toNat ++ (putV ⟨#[]⟩ x.vk x.vn x.vt ++ (encDo x.e ++ s)))) := d2
  generalize encDo x.d ++ (putS x.p.size ++ (x.p ++ (putS (x.k % 4).toNat ++ (putV ⟨#[]⟩ x.vk x.vn x.vt ++ (encDo x.e ++ s))))) = S at *
  have g2 : r2 S = putS (x.k % 4).toNat ++ (putV ⟨#[]⟩ x.vk x.vn x.vt ++ (encDo x.e ++ s)) := by unfold r2 ttR; rw [g1, hp]
  have g3 : r3 S = putV ⟨#[]⟩ x.vk x.vn x.vt ++ (encDo x.e ++ s) := by unfold r3; rw [g2, k2]
  have g4 : r4 S = encDo x.e ++ s := by unfold r4; rw [g3, v4]
  have g5 : r5 S = s := by unfold r5; rw [g4, w2]
  have gt : ttT (r1 S) 102 = x.p := by unfold ttT; rw [g1, hp]
  have gE : ttE (r1 S) 102 = 0 := by unfold ttE; rw [g1, hp]
  have he : errE S = 0 := by
    unfold errE
    rw [d3, gE, g2, k3, g3, v5, g4, w3]
    rfl
  have hx : enK S (tkN (r2 S)) = x := by
    unfold enK
    rw [d1, gt, g2, k1, hk4, g3, v1, v2, v3, g4, w1]
  unfold teL
  rw [he, if_neg (by simp), hx, g5, if_pos ⟨by rw [g2, k1]; omega, h⟩]
theorem err_none {s : ByteArray} (h : errE s = 0) : tdE s = 0 ∧ ttE (r1 s) 102 = 0 ∧ tkE (r2 s) = 0 ∧ tvE (r3 s) = 0 ∧ tdE (r4 s) = 0 := by
  unfold errE at h
  by_cases q1 : tdE s = 0
  · rw [if_neg (by omega)] at h
    by_cases q2 : ttE (r1 s) 102 = 0
    · rw [if_neg (by omega)] at h
      by_cases q3 : tkE (r2 s) = 0
      · rw [if_neg (by omega)] at h
        by_cases q4 : tvE (r3 s) = 0
        · rw [if_neg (by omega)] at h
          exact ⟨q1, q2, q3, q4, h⟩
        · rw [if_pos q4] at h; exact absurd h q4
      · rw [if_pos q3] at h; exact absurd h q3
    · rw [if_pos q2] at h; exact absurd h q2
  · rw [if_pos q1] at h; exact absurd h q1
/-- What is taken is put as these bytes. -/
theorem en_aft {s : ByteArray} (h : errE s = 0) (hk : tkN (r2 s) ≤ 3) (hr : rightB (tvK (r3 s)) (tvI (r3 s)) (tvT (r3 s)) = true) :
    encDo (tdX s) ++ (putS (ttT (r1 s) 102).size ++ (ttT (r1 s) 102 ++ (putS (((tkN (r2 s) : Nat) : Int) % 4).toNat ++ (putV ⟨#[]⟩ (tvK (r3 s)) (tvI (r3 s)) (tvT (r3 s)) ++ (encDo (tdX (r4 s)) ++ r5 s))))) = s := by
  obtain ⟨e1, e2, e3, e4, e5⟩ := err_none h
  have x5 : encDo (tdX (r4 s)) ++ r5 s = r4 s := td_aft (r4 s) e5
  have x4 : putV ⟨#[]⟩ (tvK (r3 s)) (tvI (r3 s)) (tvT (r3 s)) ++ r4 s = r3 s := tv_aft (r3 s) e4 hr
  have x3 : putS (tkN (r2 s)) ++ r3 s = r2 s := tk_aft (r2 s) e3
  have x2 : putS (ttT (r1 s) 102).size ++ (ttT (r1 s) 102 ++ r2 s) = r1 s := (tt_aft (r1 s) 102 e2).1
  have x1 : encDo (tdX s) ++ r1 s = s := td_aft s e1
  rw [x5, x4, show (((tkN (r2 s) : Nat) : Int) % 4).toNat = tkN (r2 s) by omega, x3, x2, x1]
/-- P7.6, the way back. -/
theorem te_aft {s : ByteArray} (h : teE s = 0) : rightE (teX s) = true ∧ putE ⟨#[]⟩ (teX s) ++ teR s = s := by
  by_cases h1 : errE s = 0
  · by_cases h2 : tkN (r2 s) ≤ 3 ∧ rightE (enK s (tkN (r2 s))) = true
    · have hL : teL s = (enK s (tkN (r2 s)), r5 s, 0) := by
        unfold teL
        rw [if_neg (by omega), if_pos h2]
      obtain ⟨t1, t2, _⟩ := te_of hL
      rw [t1, t2]
      refine ⟨h2.2, ?_⟩
      obtain ⟨_, _, _, a4, _⟩ := rightE_of.1 h2.2
      have key := en_aft h1 h2.1 a4
      rw [putE_nil]
      unfold enK
      simp only [ba_assoc]
      exact key
    · have hL : teL s = (.none, ⟨#[]⟩, 3) := by
        unfold teL
        rw [if_neg (by omega), if_neg h2]
      have := (te_of hL).2.2
      omega
  · have hL : teL s = (.none, ⟨#[]⟩, errE s) := by
      unfold teL
      rw [if_pos h1]
    have := (te_of hL).2.2
    omega
end Go.Proofs.YtjieofiaoepccaaGreatDoor

namespace Go.Proofs.YtjieofiaoepccaaGreatDoor
open Go.RowKit

/-- A field. -/
structure Fd where
  p : ByteArray
  k : Int
  t : Int
  vk : Int
  vn : Int
  vt : ByteArray
def Fd.none : Fd := ⟨⟨#[]⟩, 0, 0, 0, 0, ⟨#[]⟩⟩

/-- P11.1. -/
def zeroF (x : Fd) : Bool := decide (x.vk = 0 ∧ x.vn = 0 ∧ x.vt.size = 0)
def kindF (x : Fd) : Bool := (decide (x.k = 1) && (rightB x.vk x.vn x.vt && decide (x.vk = x.t))) || ((decide (x.k = 2 ∧ 1 ≤ x.t ∧ x.t ≤ 3) || decide (x.k = 3 ∧ x.t = 1)) && zeroF x)
def rightF (x : Fd) : Bool := L4.patS x.p && kindF x
theorem rightF_of {x : Fd} : rightF x = true ↔ L4.patS x.p = true ∧ ((x.k = 1 ∧ rightB x.vk x.vn x.vt = true ∧ x.vk = x.t) ∨ ((x.k = 2 ∧ 1 ≤ x.t ∧ x.t ≤ 3 ∨ x.k = 3 ∧ x.t = 1) ∧ x.vk = 0 ∧ x.vn = 0 ∧ x.vt = ⟨#[]⟩)) := by
  have hz : zeroF x = true ↔ x.vk = 0 ∧ x.vn = 0 ∧ x.vt = ⟨#[]⟩ := by
    unfold zeroF
    rw [decide_eq_true_iff]
    exact and_congr Iff.rfl (and_congr Iff.rfl ⟨empty_of, fun h => by rw [h]; rfl⟩)
  unfold rightF kindF
  rw [Bool.and_eq_true, Bool.or_eq_true, Bool.and_eq_true, Bool.and_eq_true, Bool.and_eq_true, Bool.or_eq_true, hz]
  simp only [decide_eq_true_iff]
/-- What a right field holds. -/
theorem rightF_kind {x : Fd} (h : rightF x = true) : 1 ≤ x.k ∧ x.k ≤ 3 ∧ 1 ≤ x.t ∧ x.t ≤ 3 := by
  rcases (rightF_of.1 h).2 with ⟨h1, h2, h3⟩ | ⟨h1 | h1, _⟩
  · unfold rightB at h2
    rw [decide_eq_true_iff] at h2
    omega
  · omega
  · omega
theorem patAll_len : ∀ (L : List (List UInt8)) (k : Nat), L4.patAll k L = true → ∀ s ∈ L, s.length ≤ 16
  | [], _, _, s, hs => by cases hs
  | x :: L, k, h, s, hs => by
    unfold L4.patAll at h
    rw [Bool.and_eq_true] at h
    rcases List.mem_cons.1 hs with e | e
    · subst e
      have h1 := h.1
      unfold L4.patAt at h1
      rw [Bool.or_eq_true] at h1
      rcases h1 with h1 | h1
      · exact (L4.segL_len _ h1).1
      · simp only [Bool.and_eq_true, beq_iff_eq] at h1
        rw [h1.2]; decide
    · exact patAll_len L (k + 1) h.2 s e
theorem patS_size {p : ByteArray} (h : L4.patS p = true) : p.size ≤ 102 := by
  unfold L4.patS L4.patL at h
  rw [Bool.and_eq_true, decide_eq_true_iff] at h
  have h2 := L4.joi_len (L4.spl p.data.toList) 16 (patAll_len _ 0 h.1)
  rw [L4.joi_spl, ← ba_size] at h2
  have := Nat.mul_le_mul_right 17 h.2
  omega

/-- Paths, byte by byte. -/
def LtP (a b : ByteArray) : Prop := a.data.toList < b.data.toList
instance (a b : ByteArray) : Decidable (LtP a b) := inferInstanceAs (Decidable (a.data.toList < b.data.toList))
theorem LtP.irrefl (a : ByteArray) : ¬ LtP a a := List.lt_irrefl _
theorem LtP.trans {a b c : ByteArray} (h : LtP a b) (k : LtP b c) : LtP a c := List.lt_trans h k
theorem LtP.asymm {a b : ByteArray} (h : LtP a b) : ¬ LtP b a := fun k => LtP.irrefl _ (h.trans k)
theorem LtP.tri (a b : ByteArray) : LtP a b ∨ a = b ∨ LtP b a := by
  by_cases h : LtP a b
  · exact .inl h
  · by_cases k : LtP b a
    · exact .inr (.inr k)
    · exact .inr (.inl (ba_ext (List.le_antisymm (List.not_lt.1 k) (List.not_lt.1 h))))
theorem LtP.not {a b : ByteArray} : ¬ LtP a b ↔ b = a ∨ LtP b a := by
  constructor
  · intro h
    rcases LtP.tri a b with k | k | k
    · exact absurd k h
    · exact .inl k.symm
    · exact .inr k
  · rintro (h | h)
    · rw [h]; exact LtP.irrefl _
    · exact h.asymm
/-- P11.2. -/
structure ScOk (L : List Fd) : Prop where
  few : L.length ≤ 24
  ent : ∀ x ∈ L, rightF x = true
  rise : L.Pairwise fun x y => LtP x.p y.p
  apart : L.Pairwise fun x y => L4.apS y.p x.p = true
theorem ScOk.nil : ScOk [] := ⟨by simp, fun x hx => (by cases hx), .nil, .nil⟩
/-- P11.4. -/
def findF (L : List Fd) (p : ByteArray) : Option Fd := L.find? fun x => L4.matS p x.p
/-- P11.10: no path is two fields'. -/
theorem mat_one {L : List Fd} (h : ScOk L) {p : ByteArray} {i j : Nat} {x y : Fd} (hi : L[i]? = some x) (hj : L[j]? = some y) (hx : L4.matS p x.p = true) (hy : L4.matS p y.p = true) : i = j := by
  have key : ∀ (i j : Nat) (x y : Fd), L[i]? = some x → L[j]? = some y → L4.matS p x.p = true → L4.matS p y.p = true → i < j → False := fun i j x y hi hj hx hy hlt => by
    have hil := (List.getElem?_eq_some_iff.1 hi)
    have hjl := (List.getElem?_eq_some_iff.1 hj)
    obtain ⟨h1, e1⟩ := hil
    obtain ⟨h2, e2⟩ := hjl
    have ha := (List.pairwise_iff_getElem.1 h.apart) i j h1 h2 hlt
    rw [e1, e2] at ha
    unfold L4.matS L4.matL at hx hy
    rw [Bool.and_eq_true] at hx hy
    exact L4.apart_not _ _ _ ha hy.2 hx.2
  rcases Nat.lt_trichotomy i j with h1 | h1 | h1
  · exact (key i j x y hi hj hx hy h1).elim
  · exact h1
  · exact (key j i y x hj hi hy hx h1).elim
/-- How many fields of the first k match. -/
def matN (L : List Fd) (p : ByteArray) (k : Nat) : Nat := ((L.take k).filter fun x => L4.matS p x.p).length
theorem matN_step {L : List Fd} {p : ByteArray} {k : Nat} {x : Fd} (h : L[k]? = some x) : matN L p (k + 1) = matN L p k + if L4.matS p x.p = true then 1 else 0 := by
  unfold matN
  rw [List.take_add_one, h, Option.toList_some, List.filter_append, List.length_append, List.filter_cons]
  split <;> rfl
theorem matN_le (L : List Fd) (p : ByteArray) (k : Nat) : matN L p k ≤ k := by
  unfold matN
  refine Nat.le_trans (List.length_filter_le ..) ?_
  rw [List.length_take]
  exact Nat.min_le_left ..
theorem mat_few {L : List Fd} (h : ScOk L) (p : ByteArray) : matN L p L.length ≤ 1 := by
  unfold matN
  rw [List.take_length]
  have key : (L.filter fun x => L4.matS p x.p).Pairwise fun _ _ => False := by
    refine (h.apart.filter _).imp_of_mem ?_
    intro a b ha hb hab
    have h1 := (List.mem_filter.1 ha).2
    have h2 := (List.mem_filter.1 hb).2
    unfold L4.matS L4.matL at h1 h2
    rw [Bool.and_eq_true] at h1 h2
    exact L4.apart_not _ _ _ hab h2.2 h1.2
  generalize (L.filter fun x => L4.matS p x.p) = M at key
  match M, key with
  | [], _ => simp
  | [_], _ => simp
  | a :: b :: r, k => exact absurd ((List.pairwise_cons.1 k).1 b (by simp)) id
theorem find_mat (L : List Fd) (p : ByteArray) : (findF L p).isSome = true ↔ 0 < matN L p L.length := by
  unfold findF matN
  rw [List.take_length, List.find?_isSome, List.length_pos_iff_exists_mem]
  constructor
  · rintro ⟨x, hx, h⟩; exact ⟨x, List.mem_filter.2 ⟨hx, h⟩⟩
  · rintro ⟨x, hx⟩; exact ⟨x, (List.mem_filter.1 hx).1, (List.mem_filter.1 hx).2⟩
/-- P11.3: a field put behind all whose path is not greater. -/
def insF (L : List Fd) (x : Fd) : List Fd := L.filter (fun y => !decide (LtP x.p y.p)) ++ x :: L.filter (fun y => decide (LtP x.p y.p))
def ofF (L : List Fd) : List Fd := L.foldl insF []
/-- Rising, levels allowed. -/
def Flat (L : List Fd) : Prop := L.Pairwise fun x y => ¬ LtP y.p x.p
theorem insF_mem {L : List Fd} {x y : Fd} : y ∈ insF L x ↔ y = x ∨ y ∈ L := by
  unfold insF
  rw [List.mem_append, List.mem_cons, List.mem_filter, List.mem_filter]
  by_cases h : LtP x.p y.p <;> simp [h, or_comm]
theorem insF_flat {L : List Fd} (h : Flat L) (x : Fd) : Flat (insF L x) := by
  unfold insF Flat
  rw [List.pairwise_append, List.pairwise_cons]
  refine ⟨h.filter _, ⟨fun y hy => ?_, h.filter _⟩, fun y hy z hz => ?_⟩
  · exact LtP.asymm (by simpa using (List.mem_filter.1 hy).2)
  · have h1 : ¬ LtP x.p y.p := by simpa using (List.mem_filter.1 hy).2
    rcases List.mem_cons.1 hz with e | e
    · rw [e]; exact h1
    · have h2 : LtP x.p z.p := by simpa using (List.mem_filter.1 e).2
      intro h3
      exact h1 (h2.trans h3)
theorem insF_len (L : List Fd) (x : Fd) : (insF L x).length = L.length + 1 := by
  unfold insF
  have e : (L.filter fun y => !decide (LtP x.p y.p)).length + (L.filter fun y => decide (LtP x.p y.p)).length = L.length := by
    induction L with
    | nil => rfl
    | cons a L ih =>
      rw [List.filter_cons, List.filter_cons]
      by_cases h : LtP x.p a.p
      · rw [if_neg (by simp [h]), if_pos (by simp [h])]; simp only [List.length_cons]; omega
      · rw [if_pos (by simp [h]), if_neg (by simp [h])]; simp only [List.length_cons]; omega
  rw [List.length_append, List.length_cons]
  omega
/-- Where the field goes: k is the place, of a row in order. -/
theorem insF_at {L : List Fd} (h : Flat L) {x : Fd} {k : Nat} (hk : k ≤ L.length) (h1 : ∀ i y, i < k → L[i]? = some y → ¬ LtP x.p y.p) (h2 : ∀ y, L[k]? = some y → LtP x.p y.p) : insF L x = L.take k ++ x :: L.drop k := by
  have t1 : ∀ y ∈ L.take k, ¬ LtP x.p y.p := fun y hy => by
    obtain ⟨i, hi⟩ := List.mem_iff_getElem?.1 hy
    rw [List.getElem?_take] at hi
    split at hi
    · exact h1 i y (by assumption) hi
    · cases hi
  have t2 : ∀ y ∈ L.drop k, LtP x.p y.p := fun y hy => by
    obtain ⟨i, hi⟩ := List.mem_iff_getElem?.1 hy
    rw [List.getElem?_drop] at hi
    obtain ⟨hl, _⟩ := List.getElem?_eq_some_iff.1 hi
    have hkl : L[k]? = some L[k] := List.getElem?_eq_getElem (show k < L.length by omega)
    have hb := h2 _ hkl
    by_cases e : i = 0
    · subst e
      rw [Nat.add_zero, hkl] at hi
      rw [← Option.some.inj hi]; exact hb
    · have hp := (List.pairwise_iff_getElem.1 h) k (k + i) (by omega) hl (by omega)
      rw [(List.getElem?_eq_some_iff.1 hi).2] at hp
      rcases LtP.tri L[k].p y.p with q | q | q
      · exact hb.trans q
      · rw [← q]; exact hb
      · exact absurd q hp
  have e1 : (L.take k ++ L.drop k).filter (fun y => !decide (LtP x.p y.p)) = L.take k := by
    rw [List.filter_append, List.filter_eq_self.2 (fun y hy => by simpa using t1 y hy), List.filter_eq_nil_iff.2 (fun y hy => by simpa using t2 y hy), List.append_nil]
  have e2 : (L.take k ++ L.drop k).filter (fun y => decide (LtP x.p y.p)) = L.drop k := by
    rw [List.filter_append, List.filter_eq_nil_iff.2 (fun y hy => by simpa using t1 y hy), List.filter_eq_self.2 (fun y hy => by simpa using t2 y hy), List.nil_append]
  rw [List.take_append_drop] at e1 e2
  unfold insF
  rw [e1, e2]
theorem foldl_flat : ∀ (L M : List Fd), Flat M → Flat (L.foldl insF M) ∧ (L.foldl insF M).length = L.length + M.length ∧ ∀ y, y ∈ L.foldl insF M ↔ y ∈ L ∨ y ∈ M
  | [], M, h => ⟨h, by simp, fun y => by simp⟩
  | x :: L, M, h => by
    obtain ⟨h1, h2, h3⟩ := foldl_flat L (insF M x) (insF_flat h x)
    refine ⟨h1, ?_, fun y => ?_⟩
    · rw [List.foldl_cons, h2, insF_len]; simp only [List.length_cons]; omega
    · rw [List.foldl_cons, h3, insF_mem, List.mem_cons]
      constructor
      · rintro (a | a | a)
        · exact .inl (.inr a)
        · exact .inl (.inl a)
        · exact .inr a
      · rintro ((a | a) | a)
        · exact .inr (.inl a)
        · exact .inl a
        · exact .inr (.inr a)
theorem ofF_flat (L : List Fd) : Flat (ofF L) := (foldl_flat L [] .nil).1
theorem ofF_len (L : List Fd) : (ofF L).length = L.length := (foldl_flat L [] .nil).2.1
theorem ofF_mem (L : List Fd) (y : Fd) : y ∈ ofF L ↔ y ∈ L := by
  have := (foldl_flat L [] .nil).2.2 y
  unfold ofF
  rw [this]; simp
theorem ofF_snoc (L : List Fd) (x : Fd) : ofF (L ++ [x]) = insF (ofF L) x := by
  unfold ofF
  rw [List.foldl_append]; rfl
/-- Of the other order: the fields of a row that rises make it again. -/
theorem ofF_back {L : List Fd} (h : L.Pairwise fun x y => LtP x.p y.p) : ofF L.reverse = L := by
  induction L with
  | nil => rfl
  | cons x L ih =>
    obtain ⟨h1, h2⟩ := List.pairwise_cons.1 h
    rw [List.reverse_cons, ofF_snoc, ih h2]
    have := insF_at (k := 0) (L := L) (x := x) (h2.imp fun hab => hab.asymm) (Nat.zero_le _) (fun i y hi => by omega) (fun y hy => h1 y (List.mem_of_getElem? hy))
    rw [this]; rfl
/-- P11.6. -/
def putFd (b : ByteArray) (x : Fd) : ByteArray := putV (b ++ putS x.p.size ++ x.p ++ putS (x.k % 4).toNat ++ putS (x.t % 4).toNat) x.vk x.vn x.vt
def encFs (L : List Fd) : ByteArray := L.foldr (fun x b => putFd ⟨#[]⟩ x ++ b) ⟨#[]⟩
def putSc (b : ByteArray) (L : List Fd) : ByteArray := b ++ putS L.length ++ encFs L
theorem putF_enc (b : ByteArray) (x : Fd) : putFd b x = b ++ putFd ⟨#[]⟩ x := by
  unfold putFd
  rw [putV_enc (_ ++ _), putV_enc (⟨#[]⟩ ++ _ ++ _ ++ _ ++ _)]
  simp only [ba_assoc, ba_nil]
theorem putFs_enc (L : List Fd) (b : ByteArray) : L.foldl putFd b = b ++ encFs L := by
  induction L generalizing b with
  | nil => show b = b ++ ⟨#[]⟩; rw [ba_nil_r]
  | cons x L ih =>
    rw [List.foldl_cons, ih, putF_enc]
    show b ++ putFd ⟨#[]⟩ x ++ encFs L = b ++ (putFd ⟨#[]⟩ x ++ encFs L)
    rw [ba_assoc]
/-- P11.7: a field, part by part. -/
def f1 (s : ByteArray) : ByteArray := ttR s 102
def f2 (s : ByteArray) : ByteArray := tkR (f1 s)
def f3 (s : ByteArray) : ByteArray := tkR (f2 s)
def errF (s : ByteArray) : Nat := if ttE s 102 ≠ 0 then ttE s 102 else if tkE (f1 s) ≠ 0 then tkE (f1 s) else if tkE (f2 s) ≠ 0 then tkE (f2 s) else tvE (f3 s)
def fdK (s : ByteArray) : Fd := ⟨ttT s 102, tkN (f1 s), tkN (f2 s), tvK (f3 s), tvI (f3 s), tvT (f3 s)⟩
def tfL (s : ByteArray) : Fd × ByteArray × Nat :=
  if errF s ≠ 0 then (.none, ⟨#[]⟩, errF s) else if 3 < tkN (f1 s) ∨ 3 < tkN (f2 s) then (.none, ⟨#[]⟩, 3) else (fdK s, tvR (f3 s), 0)
theorem tf_fore {x : Fd} (h : rightF x = true) (h1 : -9223372036854775808 ≤ x.vn) (h2 : x.vn ≤ 9223372036854775807) (s : ByteArray) : tfL (putFd ⟨#[]⟩ x ++ s) = (x, s, 0) := by
  obtain ⟨k1, k2, k3, k4⟩ := rightF_kind h
  obtain ⟨hp, hc⟩ := rightF_of.1 h
  have e : putFd ⟨#[]⟩ x ++ s = putS x.p.size ++ (x.p ++ (putS (x.k % 4).toNat ++ (putS (x.t % 4).toNat ++ (putV ⟨#[]⟩ x.vk x.vn x.vt ++ s)))) := by
    unfold putFd
    rw [putV_enc]
    simp only [ba_assoc, ba_nil]
  have ht := tt_fore x.p (putS (x.k % 4).toNat ++ (putS (x.t % 4).toNat ++ (putV ⟨#[]⟩ x.vk x.vn x.vt ++ s))) 102 (by have := patS_size hp; omega) (by decide)
  obtain ⟨a1, a2, a3⟩ := tk_fore (x.k % 4).toNat (putS (x.t % 4).toNat ++ (putV ⟨#[]⟩ x.vk x.vn x.vt ++ s)) (by omega)
  obtain ⟨b1, b2, b3⟩ := tk_fore (x.t % 4).toNat (putV ⟨#[]⟩ x.vk x.vn x.vt ++ s) (by omega)
  have hv : tvK (putV ⟨#[]⟩ x.vk x.vn x.vt ++ s) = x.vk ∧ tvI (putV ⟨#[]⟩ x.vk x.vn x.vt ++ s) = x.vn ∧ tvT (putV ⟨#[]⟩ x.vk x.vn x.vt ++ s) = x.vt ∧ tvR (putV ⟨#[]⟩ x.vk x.vn x.vt ++ s) = s ∧ tvE (putV ⟨#[]⟩ x.vk x.vn x.vt ++ s) = 0 := by
    rcases hc with ⟨_, c1, _⟩ | ⟨_, c1, c2, c3⟩
    · exact tv_fore h1 h2 c1 s
    · obtain ⟨z1, z2, z3⟩ := tk_fore 0 s (by omega)
      have ez : putV ⟨#[]⟩ x.vk x.vn x.vt ++ s = putS 0 ++ s := by
        unfold putV
        rw [c1, if_pos (by decide), ba_nil]
      have eL : tvL (putS 0 ++ s) = (0, 0, ⟨#[]⟩, s, 0) := by
        unfold tvL
        rw [z1, z2, z3, if_neg (by simp), if_neg (by simp), if_pos rfl]
      unfold tvK tvI tvT tvR tvE
      rw [ez, eL, c1, c2, c3]
      exact ⟨rfl, rfl, rfl, rfl, rfl⟩
  obtain ⟨v1, v2, v3, v4, v5⟩ := hv
  rw [e]
  generalize putS x.p.size ++ (x.p ++ (putS (x.k % 4).toNat ++ (putS (x.t % 4).toNat ++ (putV ⟨#[]⟩ x.vk x.vn x.vt ++ s)))) = S at ht ⊢
  have g1 : f1 S = putS (x.k % 4).toNat ++ (putS (x.t % 4).toNat ++ (putV ⟨#[]⟩ x.vk x.vn x.vt ++ s)) := by unfold f1 ttR; rw [ht]
  have g2 : f2 S = putS (x.t % 4).toNat ++ (putV ⟨#[]⟩ x.vk x.vn x.vt ++ s) := by unfold f2; rw [g1, a2]
  have g3 : f3 S = putV ⟨#[]⟩ x.vk x.vn x.vt ++ s := by unfold f3; rw [g2, b2]
  have gT : ttT S 102 = x.p := by unfold ttT; rw [ht]
  have gE : ttE S 102 = 0 := by unfold ttE; rw [ht]
  have hE : errF S = 0 := by unfold errF; rw [gE, g1, a3, g2, b3, g3, v5]; rfl
  have hk : fdK S = x := by
    unfold fdK
    rw [gT, g1, a1, g2, b1, g3, v1, v2, v3, show (((x.k % 4).toNat : Nat) : Int) = x.k by omega, show (((x.t % 4).toNat : Nat) : Int) = x.t by omega]
  unfold tfL
  rw [hE, if_neg (by simp), hk, g1, a1, g2, b1, g3, v4, if_neg (by omega)]
def tfX (s : ByteArray) : Fd := (tfL s).1
def tfR (s : ByteArray) : ByteArray := (tfL s).2.1
def tfE (s : ByteArray) : Nat := (tfL s).2.2
theorem tf_of {s : ByteArray} {x : Fd} {r : ByteArray} {e : Nat} (h : tfL s = (x, r, e)) : tfX s = x ∧ tfR s = r ∧ tfE s = e := by
  unfold tfX tfR tfE; rw [h]; exact ⟨rfl, rfl, rfl⟩
/-- P11.7: so many fields. -/
def takeFs : Nat → List Fd → ByteArray → List Fd × ByteArray × Nat
  | 0, L, s => (L, s, 0)
  | n + 1, L, s => if tfE s ≠ 0 then ([], ⟨#[]⟩, tfE s) else takeFs n (L ++ [tfX s]) (tfR s)
theorem takeFs_err {k : Nat} {L : List Fd} {s : ByteArray} (h : tfE s ≠ 0) : takeFs (k + 1) L s = ([], ⟨#[]⟩, tfE s) := by rw [takeFs, if_pos h]
theorem takeFs_ok {k : Nat} {L : List Fd} {s : ByteArray} (h : tfE s = 0) : takeFs (k + 1) L s = takeFs k (L ++ [tfX s]) (tfR s) := by rw [takeFs, if_neg (by simp [h])]
open Classical in
noncomputable def tscL (s : ByteArray) : List Fd × ByteArray × Nat :=
  if tkE s ≠ 0 then ([], ⟨#[]⟩, tkE s) else if 24 < tkN s then ([], ⟨#[]⟩, 4)
  else if (takeFs (tkN s) [] (tkR s)).2.2 ≠ 0 then ([], ⟨#[]⟩, (takeFs (tkN s) [] (tkR s)).2.2)
  else if ScOk (takeFs (tkN s) [] (tkR s)).1 then ((takeFs (tkN s) [] (tkR s)).1, (takeFs (tkN s) [] (tkR s)).2.1, 0) else ([], ⟨#[]⟩, 3)
def BdFs (L : List Fd) : Prop := ∀ x ∈ L, -9223372036854775808 ≤ x.vn ∧ x.vn ≤ 9223372036854775807
theorem takeFs_fore : ∀ (L L0 : List Fd) (s : ByteArray), (∀ x ∈ L, rightF x = true) → BdFs L → takeFs L.length L0 (encFs L ++ s) = (L0 ++ L, s, 0)
  | [], L0, s, _, _ => by
    show takeFs 0 L0 (⟨#[]⟩ ++ s) = _
    rw [ba_nil, takeFs, List.append_nil]
  | x :: L, L0, s, h, hb => by
    have h1 := hb x (List.mem_cons_self ..)
    have ht := tf_of (tf_fore (h x (List.mem_cons_self ..)) h1.1 h1.2 (encFs L ++ s))
    have e : encFs (x :: L) ++ s = putFd ⟨#[]⟩ x ++ (encFs L ++ s) := by
      show putFd ⟨#[]⟩ x ++ encFs L ++ s = _
      rw [ba_assoc]
    rw [e, List.length_cons, takeFs_ok ht.2.2, ht.1, ht.2.1, takeFs_fore L (L0 ++ [x]) s (fun y hy => h y (List.mem_cons_of_mem _ hy)) (fun y hy => hb y (List.mem_cons_of_mem _ hy)), List.append_assoc]
    rfl
/-- P11.10: what is right is put and taken. -/
theorem tsc_fore {L : List Fd} (h : ScOk L) (hb : BdFs L) (s : ByteArray) : tscL (putSc ⟨#[]⟩ L ++ s) = (L, s, 0) := by
  have e : putSc ⟨#[]⟩ L ++ s = putS L.length ++ (encFs L ++ s) := by
    unfold putSc
    simp only [ba_assoc, ba_nil]
  have hf := h.few
  obtain ⟨k1, k2, k3⟩ := tk_fore L.length (encFs L ++ s) (by omega)
  unfold tscL
  rw [e, k1, k2, k3, if_neg (by simp), if_neg (by omega), takeFs_fore L [] s h.ent hb, List.nil_append, if_neg (by simp), if_pos h]
/-- P11.9. -/
def kindT (k : Int) : ByteArray := if k % 4 = 1 then ⟨#[114, 101, 103]⟩ else if k % 4 = 2 then ⟨#[115, 101, 116]⟩ else if k % 4 = 3 then ⟨#[99, 116, 114]⟩ else ⟨#[63]⟩
def typeT (t : Int) : ByteArray := if t % 4 = 1 then ⟨#[105, 110, 116]⟩ else if t % 4 = 2 then ⟨#[116, 101, 120, 116]⟩ else if t % 4 = 3 then ⟨#[98, 111, 111, 108]⟩ else ⟨#[63]⟩
def lineF (x : Fd) : ByteArray := x.p ++ ⟨#[32]⟩ ++ kindT x.k ++ ⟨#[32]⟩ ++ typeT x.t ++ (if x.k = 1 then ⟨#[32]⟩ ++ textV x.vk x.vn x.vt else ⟨#[]⟩) ++ ⟨#[10]⟩
def textSc (L : List Fd) : ByteArray := L.foldl (fun b x => b ++ lineF x) ⟨#[]⟩
/-- P11.5: whether a path is above one of the fields. -/
def underF (L : List Fd) (p : ByteArray) : Bool := L.any fun x => decide ((L4.spl p.data.toList).length ≤ (L4.spl x.p.data.toList).length) && L4.matL (L4.spl p.data.toList) ((L4.spl x.p.data.toList).take (L4.spl p.data.toList).length)
/-- P11.10: what is found is under it. -/
theorem under_find {L : List Fd} {p : ByteArray} (h : (findF L p).isSome = true) : underF L p = true := by
  unfold findF at h
  rw [List.find?_isSome] at h
  obtain ⟨x, hx, hm⟩ := h
  unfold underF
  rw [List.any_eq_true]
  refine ⟨x, hx, ?_⟩
  have hm2 := hm
  unfold L4.matS L4.matL at hm2
  rw [Bool.and_eq_true, beq_iff_eq] at hm2
  rw [Bool.and_eq_true, decide_eq_true_iff]
  refine ⟨by rw [hm2.1]; exact Nat.le_refl _, ?_⟩
  rw [List.take_of_length_le (by rw [hm2.1]; exact Nat.le_refl _)]
  exact hm
end Go.Proofs.YtjieofiaoepccaaGreatDoor

