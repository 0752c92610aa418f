/-
  What is proved: plain facts on what events left (P7.1 to P7.6): what is right, as bytes, as it is told; what is right is put and taken, whatever follows; what is taken is right, and put as these bytes; no program is spoken of here.
-/
import Derived.Test.YtoanccojpppfoaaDoorDBytes
import Derived.Test.YtoanccojpppfoaaDoorVBackMath
import Derived.Test.YtoanccojpppfoaaDoorDText
import Derived.Test.YtoanccojpppfoaaDoorM3
namespace Go.Proofs.YtoanccojpppfoaaDoor
open Go.RowKit

/-- What an event left. -/
structure En where
  d : Int × Int
  p : ByteArray
  k : Int
  vk : Int
  vn : Int
  vt : ByteArray
  e : Int × Int
def En.none : En := ⟨(0, 0), ⟨#[]⟩, 0, 0, 0, ⟨#[]⟩, (0, 0)⟩

/-- P7.1. -/
def kindE (k vk : Int) : Bool := decide (k = 1 ∨ k = 2 ∨ k = 3 ∧ vk = 1)
def verE (d : Int × Int) : Bool := decide (d.1 = 0 ∧ d.2 = 0) || rightD d
def rightE (x : En) : Bool := rightD x.d && L4.rightS x.p && kindE x.k x.vk && rightB x.vk x.vn x.vt && verE x.e
/-- P7.3. -/
def putE (b : ByteArray) (x : En) : ByteArray := putD (putV (putD b x.d ++ putS x.p.size ++ x.p ++ putS (x.k % 4).toNat) x.vk x.vn x.vt) x.e
/-- P7.5. -/
def markE (k : Int) : ByteArray := if k % 4 = 1 then ⟨#[61]⟩ else if k % 4 = 2 then ⟨#[43]⟩ else if k % 4 = 3 then ⟨#[35]⟩ else ⟨#[63]⟩
def textE (x : En) : ByteArray := textD x.d ++ ⟨#[32]⟩ ++ x.p ++ markE x.k ++ textV x.vk x.vn x.vt ++ ⟨#[64]⟩ ++ textD x.e

/-- P7.4: what is left to take, part by part. -/
def r1 (s : ByteArray) : ByteArray := tdR s
def r2 (s : ByteArray) : ByteArray := ttR (r1 s) 102
def r3 (s : ByteArray) : ByteArray := tkR (r2 s)
def r4 (s : ByteArray) : ByteArray := tvR (r3 s)
def r5 (s : ByteArray) : ByteArray := tdR (r4 s)
def enK (s : ByteArray) (k : Int) : En := ⟨tdX s, ttT (r1 s) 102, k, tvK (r3 s), tvI (r3 s), tvT (r3 s), tdX (r4 s)⟩
/-- P7.4: the first error. -/
def errE (s : ByteArray) : Nat :=
  if tdE s ≠ 0 then tdE s else if ttE (r1 s) 102 ≠ 0 then ttE (r1 s) 102 else if tkE (r2 s) ≠ 0 then tkE (r2 s) else if tvE (r3 s) ≠ 0 then tvE (r3 s) else tdE (r4 s)
def teL (s : ByteArray) : En × ByteArray × Nat :=
  if errE s ≠ 0 then (.none, ⟨#[]⟩, errE s)
  else if tkN (r2 s) ≤ 3 ∧ rightE (enK s (tkN (r2 s))) = true then (enK s (tkN (r2 s)), r5 s, 0)
  else (.none, ⟨#[]⟩, 3)
def teX (s : ByteArray) : En := (teL s).1
def teR (s : ByteArray) : ByteArray := (teL s).2.1
def teE (s : ByteArray) : Nat := (teL s).2.2
theorem te_of {s : ByteArray} {x : En} {r : ByteArray} {e : Nat} (h : teL s = (x, r, e)) : teX s = x ∧ teR s = r ∧ teE s = e := by
  unfold teX teR teE; rw [h]; exact ⟨rfl, rfl, rfl⟩

theorem rightS_size {p : ByteArray} (h : L4.rightS p = true) : p.size ≤ 102 := by
  unfold L4.rightS L4.rightL at h
  simp only [Bool.and_eq_true, List.all_eq_true, decide_eq_true_eq] at h
  have h2 := L4.joi_len (L4.spl p.data.toList) 16 fun s hs => (L4.segL_len s (h.1 s hs)).1
  rw [L4.joi_spl, ← ba_size] at h2
  have := Nat.mul_le_mul_right 17 h.2
  omega
theorem rightE_of {x : En} : rightE x = true ↔ rightD x.d = true ∧ L4.rightS x.p = true ∧ kindE x.k x.vk = true ∧ rightB x.vk x.vn x.vt = true ∧ verE x.e = true := by
  unfold rightE
  simp only [Bool.and_eq_true, and_assoc]
theorem verE_of {d : Int × Int} (h : verE d = true) : d = (0, 0) ∨ rightD d = true := by
  unfold verE at h
  simp only [Bool.or_eq_true, decide_eq_true_eq] at h
  exact h.imp (fun h => Prod.ext h.1 h.2) id

theorem putV_enc (b : ByteArray) (k n : Int) (t : ByteArray) : putV b k n t = b ++ putV ⟨#[]⟩ k n t := by
  unfold putV
  repeat (first | rfl | split)
  all_goals (simp only [ba_nil, ba_assoc])
theorem putE_enc (b : ByteArray) (x : En) : putE b x = b ++ (encDo x.d ++ (putS x.p.size ++ (x.p ++ (putS (x.k % 4).toNat ++ (putV ⟨#[]⟩ x.vk x.vn x.vt ++ encDo x.e))))) := by
  unfold putE
  rw [putD_enc, putV_enc, putD_enc]
  simp only [ba_assoc]
theorem putE_nil (x : En) : putE ⟨#[]⟩ x = encDo x.d ++ (putS x.p.size ++ (x.p ++ (putS (x.k % 4).toNat ++ (putV ⟨#[]⟩ x.vk x.vn x.vt ++ encDo x.e)))) := by
  rw [putE_enc, ba_nil]

theorem tv_fore {k n : Int} {t : ByteArray} (h1 : -9223372036854775808 ≤ n) (h2 : n ≤ 9223372036854775807) (hr : rightB k n t = true) (x : ByteArray) :
    tvK (putV ⟨#[]⟩ k n t ++ x) = k ∧ tvI (putV ⟨#[]⟩ k n t ++ x) = n ∧ tvT (putV ⟨#[]⟩ k n t ++ x) = t ∧ tvR (putV ⟨#[]⟩ k n t ++ x) = x ∧ tvE (putV ⟨#[]⟩ k n t ++ x) = 0 := by
  have := tv_put k n t x h1 h2 hr
  unfold tvK tvI tvT tvR tvE
  rw [this]
  exact ⟨rfl, rfl, rfl, rfl, rfl⟩
theorem tv_aft (s : ByteArray) (h : tvE s = 0) (hr : rightB (tvK s) (tvI s) (tvT s) = true) : putV ⟨#[]⟩ (tvK s) (tvI s) (tvT s) ++ tvR s = s := by
  have hz : (zigI 0).toNat = 0 := rfl
  unfold tvE tvL at h
  unfold tvK tvI tvT tvL at hr
  unfold tvK tvI tvT tvR tvL
  by_cases h1 : tkE s ≠ 0
  · rw [if_pos h1] at h; exact absurd h h1
  rw [if_neg h1] at h hr ⊢
  by_cases h2 : 3 < tkN s
  · rw [if_pos h2] at h; simp at h
  rw [if_neg h2] at h hr ⊢
  by_cases h3 : tkN s = 0
  · rw [if_pos h3] at hr; simp [rightB] at hr
  rw [if_neg h3] at h hr ⊢
  have hs := tk_aft s (by omega)
  by_cases h4 : tkN s = 2
  · rw [if_pos h4] at h hr ⊢
    by_cases h5 : ttE (tkR s) 200 ≠ 0
    · rw [if_pos h5] at h; exact absurd h h5
    rw [if_neg h5]
    have ht := (tt_aft (tkR s) 200 (by omega)).1
    show (⟨#[]⟩ ++ putS 2 ++ putS (ttT (tkR s) 200).size ++ ttT (tkR s) 200) ++ ttR (tkR s) 200 = s
    rw [ba_nil]
    simp only [ba_assoc]
    rw [ht, ← h4]
    exact hs
  rw [if_neg h4] at h hr ⊢
  by_cases h5 : tkE (tkR s) ≠ 0
  · rw [if_pos h5] at h; exact absurd h h5
  rw [if_neg h5] at h hr ⊢
  by_cases h6 : rightB (tkN s) (tiN (tkR s)) ⟨#[]⟩ = true
  · rw [if_pos h6]
    have ht := ti_aft (tkR s) (by omega)
    have h7 : tkN s = 1 ∨ tkN s = 3 := by omega
    show putV ⟨#[]⟩ (tkN s) (tiN (tkR s)) ⟨#[]⟩ ++ tkR (tkR s) = s
    unfold putV
    rw [if_neg (by omega), if_neg (by omega), show ((tkN s : Int) % 4).toNat = tkN s by omega, ba_nil]
    simp only [ba_assoc]
    rw [ht]
    exact hs
  · rw [if_neg h6] at h; simp at h

/-- P7.6. -/
theorem te_fore {x : En} (h : rightE x = true) (h1 : -9223372036854775808 ≤ x.vn) (h2 : x.vn ≤ 9223372036854775807) (s : ByteArray) : teL (putE ⟨#[]⟩ x ++ s) = (x, s, 0) := by
  obtain ⟨a1, a2, a3, a4, a5⟩ := rightE_of.1 h
  have hk : x.k = 1 ∨ x.k = 2 ∨ x.k = 3 := by
    unfold kindE at a3
    simp only [decide_eq_true_eq] at a3
    omega
  have hkn : (x.k % 4).toNat < 18446744073709551616 := by omega
  have hk4 : (((x.k % 4).toNat : Nat) : Int) = x.k := by omega
  have e : putE ⟨#[]⟩ x ++ s = encDo x.d ++ (putS x.p.size ++ (x.p ++ (putS (x.k % 4).toNat ++ (putV ⟨#[]⟩ x.vk x.vn x.vt ++ (encDo x.e ++ s))))) := by
    rw [putE_nil]
    simp only [ba_assoc]
  obtain ⟨d1, d2, d3⟩ := td_fore x.d (putS x.p.size ++ (x.p ++ (putS (x.k % 4).toNat ++ (putV ⟨#[]⟩ x.vk x.vn x.vt ++ (encDo x.e ++ s))))) a1
  have hp := tt_fore x.p (putS (x.k % 4).toNat ++ (putV ⟨#[]⟩ x.vk x.vn x.vt ++ (encDo x.e ++ s))) 102 (by have := rightS_size a2; omega) (by decide)
  obtain ⟨k1, k2, k3⟩ := tk_fore (x.k % 4).toNat (putV ⟨#[]⟩ x.vk x.vn x.vt ++ (encDo x.e ++ s)) hkn
  obtain ⟨v1, v2, v3, v4, v5⟩ := tv_fore h1 h2 a4 (encDo x.e ++ s)
  obtain ⟨w1, w2, w3⟩ : tdX (encDo x.e ++ s) = x.e ∧ tdR (encDo x.e ++ s) = s ∧ tdE (encDo x.e ++ s) = 0 := by
    rcases verE_of a5 with h0 | h0
    · rw [h0]; exact td_none s
    · exact td_fore x.e s h0
  rw [e]
  have g1 : r1 (encDo x.d ++ (putS x.p.size ++ (x.p ++ (putS (x.k % 4).toNat ++ (putV ⟨#[]⟩ x.vk x.vn x.vt ++ (encDo x.e ++ s)))))) = putS x.p.size ++ (x.p ++ (putS (x.k % 4).toNat ++ (putV ⟨#[]⟩ x.vk x.vn x.vt ++ (encDo x.e ++ s)))) := d2
  generalize encDo x.d ++ (putS x.p.size ++ (x.p ++ (putS (x.k % 4).toNat ++ (putV ⟨#[]⟩ x.vk x.vn x.vt ++ (encDo x.e ++ s))))) = S at *
  have g2 : r2 S = putS (x.k % 4).toNat ++ (putV ⟨#[]⟩ x.vk x.vn x.vt ++ (encDo x.e ++ s)) := by unfold r2 ttR; rw [g1, hp]
  have g3 : r3 S = putV ⟨#[]⟩ x.vk x.vn x.vt ++ (encDo x.e ++ s) := by unfold r3; rw [g2, k2]
  have g4 : r4 S = encDo x.e ++ s := by unfold r4; rw [g3, v4]
  have g5 : r5 S = s := by unfold r5; rw [g4, w2]
  have gt : ttT (r1 S) 102 = x.p := by unfold ttT; rw [g1, hp]
  have gE : ttE (r1 S) 102 = 0 := by unfold ttE; rw [g1, hp]
  have he : errE S = 0 := by
    unfold errE
    rw [d3, gE, g2, k3, g3, v5, g4, w3]
    rfl
  have hx : enK S (tkN (r2 S)) = x := by
    unfold enK
    rw [d1, gt, g2, k1, hk4, g3, v1, v2, v3, g4, w1]
  unfold teL
  rw [he, if_neg (by simp), hx, g5, if_pos ⟨by rw [g2, k1]; omega, h⟩]
theorem err_none {s : ByteArray} (h : errE s = 0) : tdE s = 0 ∧ ttE (r1 s) 102 = 0 ∧ tkE (r2 s) = 0 ∧ tvE (r3 s) = 0 ∧ tdE (r4 s) = 0 := by
  unfold errE at h
  by_cases q1 : tdE s = 0
  · rw [if_neg (by omega)] at h
    by_cases q2 : ttE (r1 s) 102 = 0
    · rw [if_neg (by omega)] at h
      by_cases q3 : tkE (r2 s) = 0
      · rw [if_neg (by omega)] at h
        by_cases q4 : tvE (r3 s) = 0
        · rw [if_neg (by omega)] at h
          exact ⟨q1, q2, q3, q4, h⟩
        · rw [if_pos q4] at h; exact absurd h q4
      · rw [if_pos q3] at h; exact absurd h q3
    · rw [if_pos q2] at h; exact absurd h q2
  · rw [if_pos q1] at h; exact absurd h q1
/-- What is taken is put as these bytes. -/
theorem en_aft {s : ByteArray} (h : errE s = 0) (hk : tkN (r2 s) ≤ 3) (hr : rightB (tvK (r3 s)) (tvI (r3 s)) (tvT (r3 s)) = true) :
    encDo (tdX s) ++ (putS (ttT (r1 s) 102).size ++ (ttT (r1 s) 102 ++ (putS (((tkN (r2 s) : Nat) : Int) % 4).toNat ++ (putV ⟨#[]⟩ (tvK (r3 s)) (tvI (r3 s)) (tvT (r3 s)) ++ (encDo (tdX (r4 s)) ++ r5 s))))) = s := by
  obtain ⟨e1, e2, e3, e4, e5⟩ := err_none h
  have x5 : encDo (tdX (r4 s)) ++ r5 s = r4 s := td_aft (r4 s) e5
  have x4 : putV ⟨#[]⟩ (tvK (r3 s)) (tvI (r3 s)) (tvT (r3 s)) ++ r4 s = r3 s := tv_aft (r3 s) e4 hr
  have x3 : putS (tkN (r2 s)) ++ r3 s = r2 s := tk_aft (r2 s) e3
  have x2 : putS (ttT (r1 s) 102).size ++ (ttT (r1 s) 102 ++ r2 s) = r1 s := (tt_aft (r1 s) 102 e2).1
  have x1 : encDo (tdX s) ++ r1 s = s := td_aft s e1
  rw [x5, x4, show (((tkN (r2 s) : Nat) : Int) % 4).toNat = tkN (r2 s) by omega, x3, x2, x1]
/-- P7.6, the way back. -/
theorem te_aft {s : ByteArray} (h : teE s = 0) : rightE (teX s) = true ∧ putE ⟨#[]⟩ (teX s) ++ teR s = s := by
  by_cases h1 : errE s = 0
  · by_cases h2 : tkN (r2 s) ≤ 3 ∧ rightE (enK s (tkN (r2 s))) = true
    · have hL : teL s = (enK s (tkN (r2 s)), r5 s, 0) := by
        unfold teL
        rw [if_neg (by omega), if_pos h2]
      obtain ⟨t1, t2, _⟩ := te_of hL
      rw [t1, t2]
      refine ⟨h2.2, ?_⟩
      obtain ⟨_, _, _, a4, _⟩ := rightE_of.1 h2.2
      have key := en_aft h1 h2.1 a4
      rw [putE_nil]
      unfold enK
      simp only [ba_assoc]
      exact key
    · have hL : teL s = (.none, ⟨#[]⟩, 3) := by
        unfold teL
        rw [if_neg (by omega), if_neg h2]
      have := (te_of hL).2.2
      omega
  · have hL : teL s = (.none, ⟨#[]⟩, errE s) := by
      unfold teL
      rw [if_pos h1]
    have := (te_of hL).2.2
    omega
end Go.Proofs.YtoanccojpppfoaaDoor
