/-
  What is proved: plain facts on schemas (P11.1 to P11.10): what is right, as bytes, as it is told; fields put into their places; no path is two fields' of one that is right; what is right is put and taken, whatever follows; fields in the other order make it again; no program is spoken of here.
  plain facts on sets of dots (P6.1 to P6.9, P6.13, P6.14): what is in one, when one is right, that sets with the same dots are the same, and what compacting makes of any dots; no program is spoken of here.
  append of a slice of dots onto a row of the call's own; slices.Clone at dots: the result lies in a row of its own and holds the slice's dots; the world has new blocks at most.
  dot.Has and the document's Has, called with any slice of dots that lies in memory and any dot, tell whether it is there (P5.7); the laws' Same tells whether two slices hold the same dots; the world has new blocks at most.
  slices.BinarySearchFunc at dots, with dot.Cmp, called with any rising slice of dots and any dot, returns its place and whether it is there; the world has new blocks at most.
-/
import Derived.Test.YtapcaflmfkcfkaaM6
import Derived.Lib.SliceRun
import Derived.Lib.Walk
import Derived.Lib.AppendZerosOnto
import Derived.Lib.AppendZeros
import Derived.Test.YtapcaflmfkcfkaaM1
import Derived.BigQuiet
namespace Go.Proofs.Ytapcaflmfkcfkaa
open Go.RowKit

/-- A field. -/
structure Fd where
  p : ByteArray
  k : Int
  t : Int
  vk : Int
  vn : Int
  vt : ByteArray
def Fd.none : Fd := ⟨⟨#[]⟩, 0, 0, 0, 0, ⟨#[]⟩⟩

/-- P11.1. -/
def zeroF (x : Fd) : Bool := decide (x.vk = 0 ∧ x.vn = 0 ∧ x.vt.size = 0)
def kindF (x : Fd) : Bool := (decide (x.k = 1) && (rightB x.vk x.vn x.vt && decide (x.vk = x.t))) || ((decide (x.k = 2 ∧ 1 ≤ x.t ∧ x.t ≤ 3) || decide (x.k = 3 ∧ x.t = 1)) && zeroF x)
def rightF (x : Fd) : Bool := L4.patS x.p && kindF x
theorem rightF_of {x : Fd} : rightF x = true ↔ L4.patS x.p = true ∧ ((x.k = 1 ∧ rightB x.vk x.vn x.vt = true ∧ x.vk = x.t) ∨ ((x.k = 2 ∧ 1 ≤ x.t ∧ x.t ≤ 3 ∨ x.k = 3 ∧ x.t = 1) ∧ x.vk = 0 ∧ x.vn = 0 ∧ x.vt = ⟨#[]⟩)) := by
  have hz : zeroF x = true ↔ x.vk = 0 ∧ x.vn = 0 ∧ x.vt = ⟨#[]⟩ := by
    unfold zeroF
    rw [decide_eq_true_iff]
    exact and_congr Iff.rfl (and_congr Iff.rfl ⟨empty_of, fun h => by rw [h]; rfl⟩)
  unfold rightF kindF
  rw [Bool.and_eq_true, Bool.or_eq_true, Bool.and_eq_true, Bool.and_eq_true, Bool.and_eq_true, Bool.or_eq_true, hz]
  simp only [decide_eq_true_iff]
/-- What a right field holds. -/
theorem rightF_kind {x : Fd} (h : rightF x = true) : 1 ≤ x.k ∧ x.k ≤ 3 ∧ 1 ≤ x.t ∧ x.t ≤ 3 := by
  rcases (rightF_of.1 h).2 with ⟨h1, h2, h3⟩ | ⟨h1 | h1, _⟩
  · unfold rightB at h2
    rw [decide_eq_true_iff] at h2
    omega
  · omega
  · omega
theorem patAll_len : ∀ (L : List (List UInt8)) (k : Nat), L4.patAll k L = true → ∀ s ∈ L, s.length ≤ 16
  | [], _, _, s, hs => by cases hs
  | x :: L, k, h, s, hs => by
    unfold L4.patAll at h
    rw [Bool.and_eq_true] at h
    rcases List.mem_cons.1 hs with e | e
    · subst e
      have h1 := h.1
      unfold L4.patAt at h1
      rw [Bool.or_eq_true] at h1
      rcases h1 with h1 | h1
      · exact (L4.segL_len _ h1).1
      · simp only [Bool.and_eq_true, beq_iff_eq] at h1
        rw [h1.2]; decide
    · exact patAll_len L (k + 1) h.2 s e
theorem patS_size {p : ByteArray} (h : L4.patS p = true) : p.size ≤ 102 := by
  unfold L4.patS L4.patL at h
  rw [Bool.and_eq_true, decide_eq_true_iff] at h
  have h2 := L4.joi_len (L4.spl p.data.toList) 16 (patAll_len _ 0 h.1)
  rw [L4.joi_spl, ← ba_size] at h2
  have := Nat.mul_le_mul_right 17 h.2
  omega

/-- Paths, byte by byte. -/
def LtP (a b : ByteArray) : Prop := a.data.toList < b.data.toList
instance (a b : ByteArray) : Decidable (LtP a b) := inferInstanceAs (Decidable (a.data.toList < b.data.toList))
theorem LtP.irrefl (a : ByteArray) : ¬ LtP a a := List.lt_irrefl _
theorem LtP.trans {a b c : ByteArray} (h : LtP a b) (k : LtP b c) : LtP a c := List.lt_trans h k
theorem LtP.asymm {a b : ByteArray} (h : LtP a b) : ¬ LtP b a := fun k => LtP.irrefl _ (h.trans k)
theorem LtP.tri (a b : ByteArray) : LtP a b ∨ a = b ∨ LtP b a := by
  by_cases h : LtP a b
  · exact .inl h
  · by_cases k : LtP b a
    · exact .inr (.inr k)
    · exact .inr (.inl (ba_ext (List.le_antisymm (List.not_lt.1 k) (List.not_lt.1 h))))
theorem LtP.not {a b : ByteArray} : ¬ LtP a b ↔ b = a ∨ LtP b a := by
  constructor
  · intro h
    rcases LtP.tri a b with k | k | k
    · exact absurd k h
    · exact .inl k.symm
    · exact .inr k
  · rintro (h | h)
    · rw [h]; exact LtP.irrefl _
    · exact h.asymm
/-- P11.2. -/
structure ScOk (L : List Fd) : Prop where
  few : L.length ≤ 24
  ent : ∀ x ∈ L, rightF x = true
  rise : L.Pairwise fun x y => LtP x.p y.p
  apart : L.Pairwise fun x y => L4.apS y.p x.p = true
theorem ScOk.nil : ScOk [] := ⟨by simp, fun x hx => (by cases hx), .nil, .nil⟩
/-- P11.4. -/
def findF (L : List Fd) (p : ByteArray) : Option Fd := L.find? fun x => L4.matS p x.p
/-- P11.10: no path is two fields'. -/
theorem mat_one {L : List Fd} (h : ScOk L) {p : ByteArray} {i j : Nat} {x y : Fd} (hi : L[i]? = some x) (hj : L[j]? = some y) (hx : L4.matS p x.p = true) (hy : L4.matS p y.p = true) : i = j := by
  have key : ∀ (i j : Nat) (x y : Fd), L[i]? = some x → L[j]? = some y → L4.matS p x.p = true → L4.matS p y.p = true → i < j → False := fun i j x y hi hj hx hy hlt => by
    have hil := (List.getElem?_eq_some_iff.1 hi)
    have hjl := (List.getElem?_eq_some_iff.1 hj)
    obtain ⟨h1, e1⟩ := hil
    obtain ⟨h2, e2⟩ := hjl
    have ha := (List.pairwise_iff_getElem.1 h.apart) i j h1 h2 hlt
    rw [e1, e2] at ha
    unfold L4.matS L4.matL at hx hy
    rw [Bool.and_eq_true] at hx hy
    exact L4.apart_not _ _ _ ha hy.2 hx.2
  rcases Nat.lt_trichotomy i j with h1 | h1 | h1
  · exact (key i j x y hi hj hx hy h1).elim
  · exact h1
  · exact (key j i y x hj hi hy hx h1).elim
/-- How many fields of the first k match. -/
def matN (L : List Fd) (p : ByteArray) (k : Nat) : Nat := ((L.take k).filter fun x => L4.matS p x.p).length
theorem matN_step {L : List Fd} {p : ByteArray} {k : Nat} {x : Fd} (h : L[k]? = some x) : matN L p (k + 1) = matN L p k + if L4.matS p x.p = true then 1 else 0 := by
  unfold matN
  rw [List.take_add_one, h, Option.toList_some, List.filter_append, List.length_append, List.filter_cons]
  split <;> rfl
theorem matN_le (L : List Fd) (p : ByteArray) (k : Nat) : matN L p k ≤ k := by
  unfold matN
  refine Nat.le_trans (List.length_filter_le ..) ?_
  rw [List.length_take]
  exact Nat.min_le_left ..
theorem mat_few {L : List Fd} (h : ScOk L) (p : ByteArray) : matN L p L.length ≤ 1 := by
  unfold matN
  rw [List.take_length]
  have key : (L.filter fun x => L4.matS p x.p).Pairwise fun _ _ => False := by
    refine (h.apart.filter _).imp_of_mem ?_
    intro a b ha hb hab
    have h1 := (List.mem_filter.1 ha).2
    have h2 := (List.mem_filter.1 hb).2
    unfold L4.matS L4.matL at h1 h2
    rw [Bool.and_eq_true] at h1 h2
    exact L4.apart_not _ _ _ hab h2.2 h1.2
  generalize (L.filter fun x => L4.matS p x.p) = M at key
  match M, key with
  | [], _ => simp
  | [_], _ => simp
  | a :: b :: r, k => exact absurd ((List.pairwise_cons.1 k).1 b (by simp)) id
theorem find_mat (L : List Fd) (p : ByteArray) : (findF L p).isSome = true ↔ 0 < matN L p L.length := by
  unfold findF matN
  rw [List.take_length, List.find?_isSome, List.length_pos_iff_exists_mem]
  constructor
  · rintro ⟨x, hx, h⟩; exact ⟨x, List.mem_filter.2 ⟨hx, h⟩⟩
  · rintro ⟨x, hx⟩; exact ⟨x, (List.mem_filter.1 hx).1, (List.mem_filter.1 hx).2⟩
/-- P11.3: a field put behind all whose path is not greater. -/
def insF (L : List Fd) (x : Fd) : List Fd := L.filter (fun y => !decide (LtP x.p y.p)) ++ x :: L.filter (fun y => decide (LtP x.p y.p))
def ofF (L : List Fd) : List Fd := L.foldl insF []
/-- Rising, levels allowed. -/
def Flat (L : List Fd) : Prop := L.Pairwise fun x y => ¬ LtP y.p x.p
theorem insF_mem {L : List Fd} {x y : Fd} : y ∈ insF L x ↔ y = x ∨ y ∈ L := by
  unfold insF
  rw [List.mem_append, List.mem_cons, List.mem_filter, List.mem_filter]
  by_cases h : LtP x.p y.p <;> simp [h, or_comm]
theorem insF_flat {L : List Fd} (h : Flat L) (x : Fd) : Flat (insF L x) := by
  unfold insF Flat
  rw [List.pairwise_append, List.pairwise_cons]
  refine ⟨h.filter _, ⟨fun y hy => ?_, h.filter _⟩, fun y hy z hz => ?_⟩
  · exact LtP.asymm (by simpa using (List.mem_filter.1 hy).2)
  · have h1 : ¬ LtP x.p y.p := by simpa using (List.mem_filter.1 hy).2
    rcases List.mem_cons.1 hz with e | e
    · rw [e]; exact h1
    · have h2 : LtP x.p z.p := by simpa using (List.mem_filter.1 e).2
      intro h3
      exact h1 (h2.trans h3)
theorem insF_len (L : List Fd) (x : Fd) : (insF L x).length = L.length + 1 := by
  unfold insF
  have e : (L.filter fun y => !decide (LtP x.p y.p)).length + (L.filter fun y => decide (LtP x.p y.p)).length = L.length := by
    induction L with
    | nil => rfl
    | cons a L ih =>
      rw [List.filter_cons, List.filter_cons]
      by_cases h : LtP x.p a.p
      · rw [if_neg (by simp [h]), if_pos (by simp [h])]; simp only [List.length_cons]; omega
      · rw [if_pos (by simp [h]), if_neg (by simp [h])]; simp only [List.length_cons]; omega
  rw [List.length_append, List.length_cons]
  omega
/-- Where the field goes: k is the place, of a row in order. -/
theorem insF_at {L : List Fd} (h : Flat L) {x : Fd} {k : Nat} (hk : k ≤ L.length) (h1 : ∀ i y, i < k → L[i]? = some y → ¬ LtP x.p y.p) (h2 : ∀ y, L[k]? = some y → LtP x.p y.p) : insF L x = L.take k ++ x :: L.drop k := by
  have t1 : ∀ y ∈ L.take k, ¬ LtP x.p y.p := fun y hy => by
    obtain ⟨i, hi⟩ := List.mem_iff_getElem?.1 hy
    rw [List.getElem?_take] at hi
    split at hi
    · exact h1 i y (by assumption) hi
    · cases hi
  have t2 : ∀ y ∈ L.drop k, LtP x.p y.p := fun y hy => by
    obtain ⟨i, hi⟩ := List.mem_iff_getElem?.1 hy
    rw [List.getElem?_drop] at hi
    obtain ⟨hl, _⟩ := List.getElem?_eq_some_iff.1 hi
    have hkl : L[k]? = some L[k] := List.getElem?_eq_getElem (show k < L.length by omega)
    have hb := h2 _ hkl
    by_cases e : i = 0
    · subst e
      rw [Nat.add_zero, hkl] at hi
      rw [← Option.some.inj hi]; exact hb
    · have hp := (List.pairwise_iff_getElem.1 h) k (k + i) (by omega) hl (by omega)
      rw [(List.getElem?_eq_some_iff.1 hi).2] at hp
      rcases LtP.tri L[k].p y.p with q | q | q
      · exact hb.trans q
      · rw [← q]; exact hb
      · exact absurd q hp
  have e1 : (L.take k ++ L.drop k).filter (fun y => !decide (LtP x.p y.p)) = L.take k := by
    rw [List.filter_append, List.filter_eq_self.2 (fun y hy => by simpa using t1 y hy), List.filter_eq_nil_iff.2 (fun y hy => by simpa using t2 y hy), List.append_nil]
  have e2 : (L.take k ++ L.drop k).filter (fun y => decide (LtP x.p y.p)) = L.drop k := by
    rw [List.filter_append, List.filter_eq_nil_iff.2 (fun y hy => by simpa using t1 y hy), List.filter_eq_self.2 (fun y hy => by simpa using t2 y hy), List.nil_append]
  rw [List.take_append_drop] at e1 e2
  unfold insF
  rw [e1, e2]
theorem foldl_flat : ∀ (L M : List Fd), Flat M → Flat (L.foldl insF M) ∧ (L.foldl insF M).length = L.length + M.length ∧ ∀ y, y ∈ L.foldl insF M ↔ y ∈ L ∨ y ∈ M
  | [], M, h => ⟨h, by simp, fun y => by simp⟩
  | x :: L, M, h => by
    obtain ⟨h1, h2, h3⟩ := foldl_flat L (insF M x) (insF_flat h x)
    refine ⟨h1, ?_, fun y => ?_⟩
    · rw [List.foldl_cons, h2, insF_len]; simp only [List.length_cons]; omega
    · rw [List.foldl_cons, h3, insF_mem, List.mem_cons]
      constructor
      · rintro (a | a | a)
        · exact .inl (.inr a)
        · exact .inl (.inl a)
        · exact .inr a
      · rintro ((a | a) | a)
        · exact .inr (.inl a)
        · exact .inl a
        · exact .inr (.inr a)
theorem ofF_flat (L : List Fd) : Flat (ofF L) := (foldl_flat L [] .nil).1
theorem ofF_len (L : List Fd) : (ofF L).length = L.length := (foldl_flat L [] .nil).2.1
theorem ofF_mem (L : List Fd) (y : Fd) : y ∈ ofF L ↔ y ∈ L := by
  have := (foldl_flat L [] .nil).2.2 y
  unfold ofF
  rw [this]; simp
theorem ofF_snoc (L : List Fd) (x : Fd) : ofF (L ++ [x]) = insF (ofF L) x := by
  unfold ofF
  rw [List.foldl_append]; rfl
/-- Of the other order: the fields of a row that rises make it again. -/
theorem ofF_back {L : List Fd} (h : L.Pairwise fun x y => LtP x.p y.p) : ofF L.reverse = L := by
  induction L with
  | nil => rfl
  | cons x L ih =>
    obtain ⟨h1, h2⟩ := List.pairwise_cons.1 h
    rw [List.reverse_cons, ofF_snoc, ih h2]
    have := insF_at (k := 0) (L := L) (x := x) (h2.imp fun hab => hab.asymm) (Nat.zero_le _) (fun i y hi => by omega) (fun y hy => h1 y (List.mem_of_getElem? hy))
    rw [this]; rfl
/-- P11.6. -/
def putFd (b : ByteArray) (x : Fd) : ByteArray := putV (b ++ putS x.p.size ++ x.p ++ putS (x.k % 4).toNat ++ putS (x.t % 4).toNat) x.vk x.vn x.vt
def encFs (L : List Fd) : ByteArray := L.foldr (fun x b => putFd ⟨#[]⟩ x ++ b) ⟨#[]⟩
def putSc (b : ByteArray) (L : List Fd) : ByteArray := b ++ putS L.length ++ encFs L
theorem putF_enc (b : ByteArray) (x : Fd) : putFd b x = b ++ putFd ⟨#[]⟩ x := by
  unfold putFd
  rw [putV_enc (_ ++ _), putV_enc (⟨#[]⟩ ++ _ ++ _ ++ _ ++ _)]
  simp only [ba_assoc, ba_nil]
theorem putFs_enc (L : List Fd) (b : ByteArray) : L.foldl putFd b = b ++ encFs L := by
  induction L generalizing b with
  | nil => show b = b ++ ⟨#[]⟩; rw [ba_nil_r]
  | cons x L ih =>
    rw [List.foldl_cons, ih, putF_enc]
    show b ++ putFd ⟨#[]⟩ x ++ encFs L = b ++ (putFd ⟨#[]⟩ x ++ encFs L)
    rw [ba_assoc]
/-- P11.7: a field, part by part. -/
def f1 (s : ByteArray) : ByteArray := ttR s 102
def f2 (s : ByteArray) : ByteArray := tkR (f1 s)
def f3 (s : ByteArray) : ByteArray := tkR (f2 s)
def errF (s : ByteArray) : Nat := if ttE s 102 ≠ 0 then ttE s 102 else if tkE (f1 s) ≠ 0 then tkE (f1 s) else if tkE (f2 s) ≠ 0 then tkE (f2 s) else tvE (f3 s)
def fdK (s : ByteArray) : Fd := ⟨ttT s 102, tkN (f1 s), tkN (f2 s), tvK (f3 s), tvI (f3 s), tvT (f3 s)⟩
def tfL (s : ByteArray) : Fd × ByteArray × Nat :=
  if errF s ≠ 0 then (.none, ⟨#[]⟩, errF s) else if 3 < tkN (f1 s) ∨ 3 < tkN (f2 s) then (.none, ⟨#[]⟩, 3) else (fdK s, tvR (f3 s), 0)
theorem tf_fore {x : Fd} (h : rightF x = true) (h1 : -9223372036854775808 ≤ x.vn) (h2 : x.vn ≤ 9223372036854775807) (s : ByteArray) : tfL (putFd ⟨#[]⟩ x ++ s) = (x, s, 0) := by
  obtain ⟨k1, k2, k3, k4⟩ := rightF_kind h
  obtain ⟨hp, hc⟩ := rightF_of.1 h
  have e : putFd ⟨#[]⟩ x ++ s = putS x.p.size ++ (x.p ++ (putS (x.k % 4).toNat ++ (putS (x.t % 4).toNat ++ (putV ⟨#[]⟩ x.vk x.vn x.vt ++ s)))) := by
    unfold putFd
    rw [putV_enc]
    simp only [ba_assoc, ba_nil]
  have ht := tt_fore x.p (putS (x.k % 4).toNat ++ (putS (x.t % 4).toNat ++ (putV ⟨#[]⟩ x.vk x.vn x.vt ++ s))) 102 (by have := patS_size hp; omega) (by decide)
  obtain ⟨a1, a2, a3⟩ := tk_fore (x.k % 4).toNat (putS (x.t % 4).toNat ++ (putV ⟨#[]⟩ x.vk x.vn x.vt ++ s)) (by omega)
  obtain ⟨b1, b2, b3⟩ := tk_fore (x.t % 4).toNat (putV ⟨#[]⟩ x.vk x.vn x.vt ++ s) (by omega)
  have hv : tvK (putV ⟨#[]⟩ x.vk x.vn x.vt ++ s) = x.vk ∧ tvI (putV ⟨#[]⟩ x.vk x.vn x.vt ++ s) = x.vn ∧ tvT (putV ⟨#[]⟩ x.vk x.vn x.vt ++ s) = x.vt ∧ tvR (putV ⟨#[]⟩ x.vk x.vn x.vt ++ s) = s ∧ tvE (putV ⟨#[]⟩ x.vk x.vn x.vt ++ s) = 0 := by
    rcases hc with ⟨_, c1, _⟩ | ⟨_, c1, c2, c3⟩
    · exact tv_fore h1 h2 c1 s
    · obtain ⟨z1, z2, z3⟩ := tk_fore 0 s (by omega)
      have ez : putV ⟨#[]⟩ x.vk x.vn x.vt ++ s = putS 0 ++ s := by
        unfold putV
        rw [c1, if_pos (by decide), ba_nil]
      have eL : tvL (putS 0 ++ s) = (0, 0, ⟨#[]⟩, s, 0) := by
        unfold tvL
        rw [z1, z2, z3, if_neg (by simp), if_neg (by simp), if_pos rfl]
      unfold tvK tvI tvT tvR tvE
      rw [ez, eL, c1, c2, c3]
      exact ⟨rfl, rfl, rfl, rfl, rfl⟩
  obtain ⟨v1, v2, v3, v4, v5⟩ := hv
  rw [e]
  generalize putS x.p.size ++ (x.p ++ (putS (x.k % 4).toNat ++ (putS (x.t % 4).toNat ++ (putV ⟨#[]⟩ x.vk x.vn x.vt ++ s)))) = S at ht ⊢
  have g1 : f1 S = putS (x.k % 4).toNat ++ (putS (x.t % 4).toNat ++ (putV ⟨#[]⟩ x.vk x.vn x.vt ++ s)) := by unfold f1 ttR; rw [ht]
  have g2 : f2 S = putS (x.t % 4).toNat ++ (putV ⟨#[]⟩ x.vk x.vn x.vt ++ s) := by unfold f2; rw [g1, a2]
  have g3 : f3 S = putV ⟨#[]⟩ x.vk x.vn x.vt ++ s := by unfold f3; rw [g2, b2]
  have gT : ttT S 102 = x.p := by unfold ttT; rw [ht]
  have gE : ttE S 102 = 0 := by unfold ttE; rw [ht]
  have hE : errF S = 0 := by unfold errF; rw [gE, g1, a3, g2, b3, g3, v5]; rfl
  have hk : fdK S = x := by
    unfold fdK
    rw [gT, g1, a1, g2, b1, g3, v1, v2, v3, show (((x.k % 4).toNat : Nat) : Int) = x.k by omega, show (((x.t % 4).toNat : Nat) : Int) = x.t by omega]
  unfold tfL
  rw [hE, if_neg (by simp), hk, g1, a1, g2, b1, g3, v4, if_neg (by omega)]
def tfX (s : ByteArray) : Fd := (tfL s).1
def tfR (s : ByteArray) : ByteArray := (tfL s).2.1
def tfE (s : ByteArray) : Nat := (tfL s).2.2
theorem tf_of {s : ByteArray} {x : Fd} {r : ByteArray} {e : Nat} (h : tfL s = (x, r, e)) : tfX s = x ∧ tfR s = r ∧ tfE s = e := by
  unfold tfX tfR tfE; rw [h]; exact ⟨rfl, rfl, rfl⟩
/-- P11.7: so many fields. -/
def takeFs : Nat → List Fd → ByteArray → List Fd × ByteArray × Nat
  | 0, L, s => (L, s, 0)
  | n + 1, L, s => if tfE s ≠ 0 then ([], ⟨#[]⟩, tfE s) else takeFs n (L ++ [tfX s]) (tfR s)
theorem takeFs_err {k : Nat} {L : List Fd} {s : ByteArray} (h : tfE s ≠ 0) : takeFs (k + 1) L s = ([], ⟨#[]⟩, tfE s) := by rw [takeFs, if_pos h]
theorem takeFs_ok {k : Nat} {L : List Fd} {s : ByteArray} (h : tfE s = 0) : takeFs (k + 1) L s = takeFs k (L ++ [tfX s]) (tfR s) := by rw [takeFs, if_neg (by simp [h])]
open Classical in
noncomputable def tscL (s : ByteArray) : List Fd × ByteArray × Nat :=
  if tkE s ≠ 0 then ([], ⟨#[]⟩, tkE s) else if 24 < tkN s then ([], ⟨#[]⟩, 4)
  else if (takeFs (tkN s) [] (tkR s)).2.2 ≠ 0 then ([], ⟨#[]⟩, (takeFs (tkN s) [] (tkR s)).2.2)
  else if ScOk (takeFs (tkN s) [] (tkR s)).1 then ((takeFs (tkN s) [] (tkR s)).1, (takeFs (tkN s) [] (tkR s)).2.1, 0) else ([], ⟨#[]⟩, 3)
def BdFs (L : List Fd) : Prop := ∀ x ∈ L, -9223372036854775808 ≤ x.vn ∧ x.vn ≤ 9223372036854775807
theorem takeFs_fore : ∀ (L L0 : List Fd) (s : ByteArray), (∀ x ∈ L, rightF x = true) → BdFs L → takeFs L.length L0 (encFs L ++ s) = (L0 ++ L, s, 0)
  | [], L0, s, _, _ => by
    show takeFs 0 L0 (⟨#[]⟩ ++ s) = _
    rw [ba_nil, takeFs, List.append_nil]
  | x :: L, L0, s, h, hb => by
    have h1 := hb x (List.mem_cons_self ..)
    have ht := tf_of (tf_fore (h x (List.mem_cons_self ..)) h1.1 h1.2 (encFs L ++ s))
    have e : encFs (x :: L) ++ s = putFd ⟨#[]⟩ x ++ (encFs L ++ s) := by
      show putFd ⟨#[]⟩ x ++ encFs L ++ s = _
      rw [ba_assoc]
    rw [e, List.length_cons, takeFs_ok ht.2.2, ht.1, ht.2.1, takeFs_fore L (L0 ++ [x]) s (fun y hy => h y (List.mem_cons_of_mem _ hy)) (fun y hy => hb y (List.mem_cons_of_mem _ hy)), List.append_assoc]
    rfl
/-- P11.10: what is right is put and taken. -/
theorem tsc_fore {L : List Fd} (h : ScOk L) (hb : BdFs L) (s : ByteArray) : tscL (putSc ⟨#[]⟩ L ++ s) = (L, s, 0) := by
  have e : putSc ⟨#[]⟩ L ++ s = putS L.length ++ (encFs L ++ s) := by
    unfold putSc
    simp only [ba_assoc, ba_nil]
  have hf := h.few
  obtain ⟨k1, k2, k3⟩ := tk_fore L.length (encFs L ++ s) (by omega)
  unfold tscL
  rw [e, k1, k2, k3, if_neg (by simp), if_neg (by omega), takeFs_fore L [] s h.ent hb, List.nil_append, if_neg (by simp), if_pos h]
/-- P11.9. -/
def kindT (k : Int) : ByteArray := if k % 4 = 1 then ⟨#[114, 101, 103]⟩ else if k % 4 = 2 then ⟨#[115, 101, 116]⟩ else if k % 4 = 3 then ⟨#[99, 116, 114]⟩ else ⟨#[63]⟩
def typeT (t : Int) : ByteArray := if t % 4 = 1 then ⟨#[105, 110, 116]⟩ else if t % 4 = 2 then ⟨#[116, 101, 120, 116]⟩ else if t % 4 = 3 then ⟨#[98, 111, 111, 108]⟩ else ⟨#[63]⟩
def lineF (x : Fd) : ByteArray := x.p ++ ⟨#[32]⟩ ++ kindT x.k ++ ⟨#[32]⟩ ++ typeT x.t ++ (if x.k = 1 then ⟨#[32]⟩ ++ textV x.vk x.vn x.vt else ⟨#[]⟩) ++ ⟨#[10]⟩
def textSc (L : List Fd) : ByteArray := L.foldl (fun b x => b ++ lineF x) ⟨#[]⟩
/-- P11.5: whether a path is above one of the fields. -/
def underF (L : List Fd) (p : ByteArray) : Bool := L.any fun x => decide ((L4.spl p.data.toList).length ≤ (L4.spl x.p.data.toList).length) && L4.matL (L4.spl p.data.toList) ((L4.spl x.p.data.toList).take (L4.spl p.data.toList).length)
/-- P11.10: what is found is under it. -/
theorem under_find {L : List Fd} {p : ByteArray} (h : (findF L p).isSome = true) : underF L p = true := by
  unfold findF at h
  rw [List.find?_isSome] at h
  obtain ⟨x, hx, hm⟩ := h
  unfold underF
  rw [List.any_eq_true]
  refine ⟨x, hx, ?_⟩
  have hm2 := hm
  unfold L4.matS L4.matL at hm2
  rw [Bool.and_eq_true, beq_iff_eq] at hm2
  rw [Bool.and_eq_true, decide_eq_true_iff]
  refine ⟨by rw [hm2.1]; exact Nat.le_refl _, ?_⟩
  rw [List.take_of_length_le (by rw [hm2.1]; exact Nat.le_refl _)]
  exact hm
end Go.Proofs.Ytapcaflmfkcfkaa

namespace Go.Proofs.Ytapcaflmfkcfkaa

/-- Up to which number a replica's dots are all there. -/
def atV (V : List Int) (rep : Int) : Int := if 0 ≤ rep then V.getD rep.toNat 0 else 0
theorem atV_nat (V : List Int) (k : Nat) : atV V k = V.getD k 0 := by
  unfold atV; rw [if_pos (by omega), Int.toNat_natCast]
theorem atV_nil (r : Int) : atV [] r = 0 := by unfold atV; split <;> simp
theorem atV_neg (V : List Int) {r : Int} (h : r < 0) : atV V r = 0 := by unfold atV; rw [if_neg (by omega)]
theorem atV_out (V : List Int) {r : Int} (h : (V.length : Int) ≤ r) : atV V r = 0 := by
  unfold atV
  split
  · rw [List.getD_eq_getElem?_getD, List.getElem?_eq_none (by omega)]; rfl
  · rfl
theorem atV_in {V : List Int} {k : Nat} {n : Int} (h : V[k]? = some n) : atV V k = n := by
  rw [atV_nat, List.getD_eq_getElem?_getD, h]; rfl
/-- P6.2. -/
def hasC (V : List Int) (C : List (Int × Int)) (d : Int × Int) : Prop := (1 ≤ d.2 ∧ d.2 ≤ atV V d.1) ∨ d ∈ C
instance (V : List Int) (C : List (Int × Int)) (d : Int × Int) : Decidable (hasC V C d) := inferInstanceAs (Decidable ((1 ≤ d.2 ∧ d.2 ≤ atV V d.1) ∨ d ∈ C))
structure VecOk (V : List Int) : Prop where
  len : V.length ≤ 64
  bd : ∀ n ∈ V, 0 ≤ n ∧ n ≤ 1073741824
theorem VecOk.at_bd {V : List Int} (h : VecOk V) (r : Int) : 0 ≤ atV V r ∧ atV V r ≤ 1073741824 := by
  unfold atV
  split
  · rw [List.getD_eq_getElem?_getD]
    cases hk : V[r.toNat]? with
    | none => simp
    | some n => exact h.bd n (List.mem_of_getElem? hk)
  · simp
/-- P6.1. -/
structure RightC (V : List Int) (C : List (Int × Int)) : Prop where
  vec : VecOk V
  last : ∀ k : Nat, V.length = k + 1 → V.getD k 0 ≠ 0
  rise : Rise C
  right : ∀ d ∈ C, rightD d = true
  apart : ∀ d ∈ C, atV V d.1 < d.2 - 1
theorem right_le {V V' : List Int} {C C' : List (Int × Int)} (hv : VecOk V') (h' : ∀ d ∈ C', atV V' d.1 < d.2 - 1) (he : ∀ d, hasC V C d → hasC V' C' d) (r : Int) : atV V r ≤ atV V' r := by
  refine Classical.byContradiction fun hn => ?_
  have hb := hv.at_bd r
  rcases he (r, atV V' r + 1) (.inl ⟨by simp only; omega, by simp only; omega⟩) with h | h
  · simp only at h; omega
  · have := h' _ h
    simp only at this; omega
theorem vec_same {V V' : List Int} (h : ∀ k : Nat, V.length = k + 1 → V.getD k 0 ≠ 0) (h' : ∀ k : Nat, V'.length = k + 1 → V'.getD k 0 ≠ 0) (he : ∀ r, atV V r = atV V' r) : V = V' := by
  have hl : ∀ {V V' : List Int}, (∀ k : Nat, V'.length = k + 1 → V'.getD k 0 ≠ 0) → (∀ r, atV V r = atV V' r) → V'.length ≤ V.length := by
    intro V V' h' he
    refine Classical.byContradiction fun hn => ?_
    obtain ⟨k, hk⟩ : ∃ k, V'.length = k + 1 := ⟨V'.length - 1, by omega⟩
    have h1 := he k
    rw [atV_out V (by omega), atV_nat] at h1
    exact h' k hk h1.symm
  have e : V.length = V'.length := Nat.le_antisymm (hl h (fun r => (he r).symm)) (hl h' he)
  refine List.ext_getElem e fun i h1 h2 => ?_
  have := he i
  rwa [atV_in (List.getElem?_eq_getElem h1), atV_in (List.getElem?_eq_getElem h2)] at this
/-- P6.13: sets that have the same dots are the same. -/
theorem right_unique {V V' : List Int} {C C' : List (Int × Int)} (h : RightC V C) (h' : RightC V' C') (he : ∀ d, hasC V C d ↔ hasC V' C' d) : V = V' ∧ C = C' := by
  have ha : ∀ r, atV V r = atV V' r := fun r => Int.le_antisymm (right_le h'.vec h'.apart (fun d => (he d).1) r) (right_le h.vec h.apart (fun d => (he d).2) r)
  refine ⟨vec_same h.last h'.last ha, rise_unique C C' h.rise h'.rise fun d => ⟨fun hd => ?_, fun hd => ?_⟩⟩
  · rcases (he d).1 (.inr hd) with h1 | h1
    · have := h.apart d hd
      rw [ha] at this; omega
    · exact h1
  · rcases (he d).2 (.inr hd) with h1 | h1
    · have := h'.apart d hd
      rw [← ha] at this; omega
    · exact h1
/-- The set of the dots that S tells. -/
structure SetC (S : Int × Int → Prop) (V : List Int) (C : List (Int × Int)) : Prop where
  right : RightC V C
  has : ∀ d, hasC V C d ↔ S d
theorem SetC.same {S S' : Int × Int → Prop} {V V' : List Int} {C C' : List (Int × Int)} (h : SetC S V C) (h' : SetC S' V' C') (he : ∀ d, S d ↔ S' d) : V = V' ∧ C = C' :=
  right_unique h.right h'.right fun d => ((h.has d).trans (he d)).trans (h'.has d).symm
theorem SetC.self {V : List Int} {C : List (Int × Int)} (h : RightC V C) : SetC (hasC V C) V C := ⟨h, fun _ => Iff.rfl⟩
theorem RightC.has_right {V : List Int} {C : List (Int × Int)} (h : RightC V C) {d : Int × Int} (hd : hasC V C d) : rightD d = true := by
  rcases hd with ⟨h1, h2⟩ | hd
  · unfold rightD
    rw [decide_eq_true_iff]
    have hb := h.vec.at_bd d.1
    have hl := h.vec.len
    refine ⟨?_, ?_, h1, by omega⟩
    · refine Classical.byContradiction fun hn => ?_
      rw [atV_neg V (by omega)] at h2; omega
    · refine Classical.byContradiction fun hn => ?_
      rw [atV_out V (by omega)] at h2; omega
  · exact h.right d hd

/-- Noughts behind, up to n numbers. -/
def padV (V : List Int) (n : Nat) : List Int := V ++ List.replicate (n - V.length) 0
theorem padV_len (V : List Int) (n : Nat) : (padV V n).length = max V.length n := by
  unfold padV; rw [List.length_append, List.length_replicate]; omega
theorem padV_getD (V : List Int) (n k : Nat) : (padV V n).getD k 0 = V.getD k 0 := by
  unfold padV
  rw [List.getD_eq_getElem?_getD, List.getD_eq_getElem?_getD]
  rcases Nat.lt_or_ge k V.length with h | h
  · rw [List.getElem?_append_left h]
  · rw [List.getElem?_append_right h, List.getElem?_eq_none h, List.getElem?_replicate]
    split <;> rfl
theorem padV_at (V : List Int) (n : Nat) (r : Int) : atV (padV V n) r = atV V r := by
  unfold atV; split
  · exact padV_getD V n _
  · rfl
theorem padV_ok {V : List Int} (h : VecOk V) {n : Nat} (hn : n ≤ 64) : VecOk (padV V n) := by
  refine ⟨by rw [padV_len]; have := h.len; omega, fun x hx => ?_⟩
  unfold padV at hx
  rcases List.mem_append.1 hx with hx | hx
  · exact h.bd x hx
  · have := (List.mem_replicate.1 hx).2
    omega
theorem set_at {V : List Int} {k : Nat} (hk : k < V.length) (x : Int) (r : Int) : atV (V.set k x) r = if r = k then x else atV V r := by
  by_cases hr : 0 ≤ r
  · obtain ⟨j, rfl⟩ : ∃ j : Nat, r = j := ⟨r.toNat, by omega⟩
    rw [atV_nat, atV_nat, List.getD_eq_getElem?_getD, List.getD_eq_getElem?_getD, List.getElem?_set]
    by_cases e : k = j
    · subst e; simp [hk]
    · rw [if_neg e, if_neg (by omega)]
  · rw [atV_neg _ (by omega), atV_neg _ (by omega), if_neg (by omega)]
theorem set_ok {V : List Int} (h : VecOk V) (k : Nat) {x : Int} (h0 : 0 ≤ x) (h1 : x ≤ 1073741824) : VecOk (V.set k x) := by
  refine ⟨by rw [List.length_set]; exact h.len, fun n hn => ?_⟩
  rcases List.mem_or_eq_of_mem_set hn with hn | rfl
  · exact h.bd n hn
  · exact ⟨h0, h1⟩

/-- What is kept while dots are gone through, rising. -/
structure InvC (V0 : List Int) (P : List (Int × Int)) (V : List Int) (C : List (Int × Int)) : Prop where
  vec : VecOk V
  sub : C.Sublist P
  right : ∀ d ∈ C, rightD d = true
  apart : ∀ d ∈ C, atV V d.1 < d.2 - 1
  has : ∀ d, hasC V C d ↔ hasC V0 [] d ∨ (rightD d = true ∧ d ∈ P)
theorem InvC.start {V0 : List Int} (h : VecOk V0) : InvC V0 [] V0 [] :=
  ⟨h, List.Sublist.refl _, (fun d hd => by cases hd), (fun d hd => by cases hd), fun d => by simp⟩
theorem InvC.skip {V0 V : List Int} {P C : List (Int × Int)} (h : InvC V0 P V C) {d : Int × Int} (hd : rightD d = true → hasC V C d) : InvC V0 (P ++ [d]) V C := by
  refine ⟨h.vec, h.sub.trans (List.sublist_append_left _ _), h.right, h.apart, fun x => ?_⟩
  rw [h.has]
  constructor
  · rintro (hx | ⟨h1, h2⟩)
    · exact .inl hx
    · exact .inr ⟨h1, List.mem_append_left _ h2⟩
  · rintro (hx | ⟨h1, h2⟩)
    · exact .inl hx
    · rcases List.mem_append.1 h2 with h2 | h2
      · exact .inr ⟨h1, h2⟩
      · obtain rfl : x = d := by simpa using h2
        exact (h.has x).1 (hd h1)
theorem InvC.pad {V0 V : List Int} {P C : List (Int × Int)} (h : InvC V0 P V C) {n : Nat} (hn : n ≤ 64) : InvC V0 P (padV V n) C := by
  refine ⟨padV_ok h.vec hn, h.sub, h.right, fun d hd => by rw [padV_at]; exact h.apart d hd, fun d => ?_⟩
  unfold hasC
  rw [padV_at]
  exact h.has d
theorem InvC.inc {V0 V : List Int} {P C : List (Int × Int)} (h : InvC V0 P V C) {d : Int × Int} (hP : ∀ p ∈ P, LtD p d) (hd : rightD d = true) (hl : d.1.toNat < V.length) (he : d.2 = atV V d.1 + 1) : InvC V0 (P ++ [d]) (V.set d.1.toNat d.2) C := by
  obtain ⟨b1, b2, b3, b4⟩ := rightD_bd hd
  have hat : ∀ r, atV (V.set d.1.toNat d.2) r = if r = d.1 then d.2 else atV V r := fun r => by
    rw [set_at hl, show ((d.1.toNat : Nat) : Int) = d.1 by omega]
  have hC : ∀ x ∈ C, x.1 ≠ d.1 := fun x hx e => by
    have h1 := h.apart x hx
    have h2 := hP x (h.sub.mem hx)
    unfold LtD at h2
    rw [e] at h1
    omega
  refine ⟨set_ok h.vec _ (by omega) b4, h.sub.trans (List.sublist_append_left _ _), h.right, fun x hx => by rw [hat, if_neg (hC x hx)]; exact h.apart x hx, fun x => ?_⟩
  have hh := h.has x
  have key : hasC (V.set d.1.toNat d.2) C x ↔ hasC V C x ∨ x = d := by
    unfold hasC
    rw [hat]
    by_cases e : x.1 = d.1
    · rw [if_pos e, e]
      constructor
      · rintro (⟨h1, h2⟩ | h1)
        · by_cases e2 : x.2 = d.2
          · exact .inr (Prod.ext e e2)
          · exact .inl (.inl ⟨h1, by omega⟩)
        · exact .inl (.inr h1)
      · rintro ((⟨h1, h2⟩ | h1) | h1)
        · exact .inl ⟨h1, by omega⟩
        · exact .inr h1
        · subst h1; exact .inl ⟨b3, Int.le_refl _⟩
    · rw [if_neg e]
      constructor
      · exact .inl
      · rintro (h1 | h1)
        · exact h1
        · exact absurd (h1 ▸ rfl) e
  rw [key, hh, List.mem_append, List.mem_singleton]
  constructor
  · rintro ((h1 | ⟨h1, h2⟩) | h1)
    · exact .inl h1
    · exact .inr ⟨h1, .inl h2⟩
    · exact .inr ⟨h1 ▸ hd, .inr h1⟩
  · rintro (h1 | ⟨h1, h2 | h2⟩)
    · exact .inl (.inl h1)
    · exact .inl (.inr ⟨h1, h2⟩)
    · exact .inr h2
theorem InvC.put {V0 V : List Int} {P C : List (Int × Int)} (h : InvC V0 P V C) {d : Int × Int} (hd : rightD d = true) (he : atV V d.1 + 1 < d.2) : InvC V0 (P ++ [d]) V (C ++ [d]) := by
  refine ⟨h.vec, List.Sublist.append h.sub (List.Sublist.refl _), fun x hx => ?_, fun x hx => ?_, fun x => ?_⟩
  · rcases List.mem_append.1 hx with hx | hx
    · exact h.right x hx
    · obtain rfl : x = d := by simpa using hx
      exact hd
  · rcases List.mem_append.1 hx with hx | hx
    · exact h.apart x hx
    · obtain rfl : x = d := by simpa using hx
      omega
  · have hh := h.has x
    have key : hasC V (C ++ [d]) x ↔ hasC V C x ∨ x = d := by
      unfold hasC
      rw [List.mem_append, List.mem_singleton, or_assoc]
    rw [key, hh, List.mem_append, List.mem_singleton]
    constructor
    · rintro ((h1 | ⟨h1, h2⟩) | h1)
      · exact .inl h1
      · exact .inr ⟨h1, .inl h2⟩
      · exact .inr ⟨h1 ▸ hd, .inr h1⟩
    · rintro (h1 | ⟨h1, h2 | h2⟩)
      · exact .inl (.inl h1)
      · exact .inl (.inr ⟨h1, h2⟩)
      · exact .inr h2
theorem take_at {V : List Int} {n : Nat} (hz : ∀ j, n ≤ j → V.getD j 0 = 0) (r : Int) : atV (V.take n) r = atV V r := by
  unfold atV
  split
  · rw [List.getD_eq_getElem?_getD, List.getElem?_take]
    split
    · rw [List.getD_eq_getElem?_getD]
    · rw [hz _ (by omega)]; rfl
  · rfl
/-- P6.3: what is left when all are gone through, and the noughts at the end let go. -/
theorem InvC.fin {V0 V : List Int} {X C : List (Int × Int)} (h : InvC V0 X V C) (hX : Rise X) {n : Nat} (hn : n ≤ V.length) (hz : ∀ j, n ≤ j → V.getD j 0 = 0) (hl : ∀ k, n = k + 1 → V.getD k 0 ≠ 0) :
    SetC (fun d => hasC V0 [] d ∨ (rightD d = true ∧ d ∈ X)) (V.take n) C := by
  refine ⟨⟨⟨by rw [List.length_take]; have := h.vec.len; omega, fun x hx => h.vec.bd x (List.mem_of_mem_take hx)⟩, fun k hk => ?_, hX.sublist h.sub, h.right, fun d hd => by rw [take_at hz]; exact h.apart d hd⟩, fun d => ?_⟩
  · rw [List.length_take] at hk
    have hk2 : n = k + 1 := by omega
    have := hl k hk2
    rwa [List.getD_eq_getElem?_getD, List.getElem?_take, if_pos (by omega), ← List.getD_eq_getElem?_getD]
  · unfold hasC
    rw [take_at hz]
    exact h.has d
/-- Compacting, of a Vec that is good and any dots. -/
def CompS (V : List Int) (L : List (Int × Int)) (d : Int × Int) : Prop := hasC V [] d ∨ (rightD d = true ∧ d ∈ L)
theorem SetC.comp {V V' : List Int} {X L C' : List (Int × Int)} (h : SetC (fun d => hasC V [] d ∨ (rightD d = true ∧ d ∈ X)) V' C') (hX : ∀ d, d ∈ X ↔ d ∈ L) : SetC (CompS V L) V' C' :=
  ⟨h.right, fun d => by rw [h.has]; unfold CompS; rw [hX]⟩
/-- P6.6: the greater of both, everywhere. -/
def maxV (V W : List Int) : List Int := (List.range (max V.length W.length)).map fun (k : Nat) => max (atV V k) (atV W k)
theorem maxV_len (V W : List Int) : (maxV V W).length = max V.length W.length := by unfold maxV; rw [List.length_map, List.length_range]
theorem maxV_at (V W : List Int) (r : Int) : atV (maxV V W) r = max (atV V r) (atV W r) := by
  by_cases h : 0 ≤ r ∧ r < (max V.length W.length : Nat)
  · obtain ⟨k, rfl⟩ : ∃ k : Nat, r = k := ⟨r.toNat, by omega⟩
    have hk : k < max V.length W.length := by omega
    have : (maxV V W)[k]? = some (max (atV V k) (atV W k)) := by
      unfold maxV; rw [List.getElem?_map, List.getElem?_range hk]; rfl
    exact atV_in this
  · rcases Int.lt_or_le r 0 with hr | hr
    · rw [atV_neg _ hr, atV_neg _ hr, atV_neg _ hr]; rfl
    · rw [atV_out _ (by rw [maxV_len]; omega), atV_out V (by omega), atV_out W (by omega)]; rfl
theorem maxV_ok {V W : List Int} (h1 : VecOk V) (h2 : VecOk W) : VecOk (maxV V W) := by
  refine ⟨by rw [maxV_len]; have := h1.len; have := h2.len; omega, fun n hn => ?_⟩
  unfold maxV at hn
  obtain ⟨k, _, rfl⟩ := List.mem_map.1 hn
  have a := h1.at_bd k
  have b := h2.at_bd k
  omega
theorem join_has {V W : List Int} {C D : List (Int × Int)} (h1 : RightC V C) (h2 : RightC W D) (d : Int × Int) : CompS (maxV V W) (C ++ D) d ↔ hasC V C d ∨ hasC W D d := by
  unfold CompS hasC
  rw [maxV_at V W d.1, List.mem_append]
  constructor
  · rintro ((⟨a, b⟩ | h) | ⟨_, h | h⟩)
    · rcases Int.le_total (atV V d.1) (atV W d.1) with hh | hh
      · exact .inr (.inl ⟨a, by omega⟩)
      · exact .inl (.inl ⟨a, by omega⟩)
    · cases h
    · exact .inl (.inr h)
    · exact .inr (.inr h)
  · rintro ((⟨a, b⟩ | h) | (⟨a, b⟩ | h))
    · exact .inl (.inl ⟨a, by omega⟩)
    · exact .inr ⟨h1.right d h, .inl h⟩
    · exact .inl (.inl ⟨a, by omega⟩)
    · exact .inr ⟨h2.right d h, .inr h⟩
theorem vecOk_nil : VecOk [] := ⟨by simp, fun n hn => by cases hn⟩
theorem of_has (L : List (Int × Int)) (d : Int × Int) : CompS [] L d ↔ rightD d = true ∧ d ∈ L := by
  unfold CompS hasC
  rw [atV_nil]
  constructor
  · rintro ((h | h) | h)
    · omega
    · cases h
    · exact h
  · exact .inr
theorem add_has {V : List Int} {C : List (Int × Int)} (h : RightC V C) (x d : Int × Int) : CompS V (C ++ [x]) d ↔ hasC V C d ∨ (rightD d = true ∧ d = x) := by
  unfold CompS hasC
  rw [List.mem_append, List.mem_singleton]
  constructor
  · rintro ((h1 | h1) | ⟨h1, h2 | h2⟩)
    · exact .inl (.inl h1)
    · cases h1
    · exact .inl (.inr h2)
    · exact .inr ⟨h1, h2⟩
  · rintro ((h1 | h1) | ⟨h1, h2⟩)
    · exact .inl (.inl h1)
    · exact .inr ⟨h.right d h1, .inl h1⟩
    · exact .inr ⟨h1, .inr h2⟩
end Go.Proofs.Ytapcaflmfkcfkaa

namespace Go.Proofs.Ytapcaflmfkcfkaa
open Go.RowKit

theorem infoDot : (Try.prog.info? 29).map (fun i => (i.zero, i.size, i.bytes)) = some (some (.agg #[.int .i64 0, .int .i64 0]), 2, 16) := by kernel_rfl

theorem kept_grown {W w w' : World} {row : Option Nat} (h : Kept W w) (hg : w.grownBy w' row) (hr : ∀ k, row = some k → W.heap.size ≤ k) : Kept W w' := by
  have hb : Below W.heap.size w w' := Below.grown (Below.refl _ w) hg h.2.2 hr
  obtain ⟨⟨h1, h2, h3⟩, hf, hs⟩ := h
  refine ⟨⟨hb.os.trans h1, hb.output.trans h2, fun i hi => ?_⟩, fun a ha => (hb.frozen ha).trans (hf a ha), Nat.le_trans hs hb.size⟩
  rw [hb.block i hi]
  exact h3 i hi

end Go.Proofs.Ytapcaflmfkcfkaa

namespace Go.Proofs.Ytapcaflmfkcfkaa
open Go.RowKit

theorem dot_ne {x1 x2 y1 y2 : Int} (h : ¬ (y1, y2) = ((x1, x2) : Int × Int)) : (y1 == x1) = false ∨ ((y1 == x1) = true ∧ (y2 == x2) = false) := by
  simp only [Prod.mk.injEq, not_and] at h
  by_cases e : y1 = x1
  · exact .inr ⟨by simpa using e, by simpa using h e⟩
  · exact .inl (by simpa using e)
theorem mem_no {L : List (Int × Int)} {x : Int × Int} {n : Nat} (hn : L.length = n) (h : ∀ j, j < n → L[j]? ≠ some x) : decide (x ∈ L) = false := by
  rw [decide_eq_false_iff_not]
  intro hm
  obtain ⟨j, hj⟩ := List.getElem?_of_mem hm
  exact h j (by rw [← hn]; exact (List.getElem?_eq_some_iff.1 hj).1) hj

end Go.Proofs.Ytapcaflmfkcfkaa

namespace Go.Proofs.Ytapcaflmfkcfkaa
open Go.RowKit

end Go.Proofs.Ytapcaflmfkcfkaa

