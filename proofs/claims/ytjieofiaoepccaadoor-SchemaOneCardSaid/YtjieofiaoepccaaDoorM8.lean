/-
  What is proved: plain facts on schemas (P11.1 to P11.10): what is right, as bytes, as it is told; fields put into their places; no path is two fields' of one that is right; what is right is put and taken, whatever follows; fields in the other order make it again; no program is spoken of here.
  plain facts on fields that are sorted by their paths and stay as they came where these are the same (P11.3): which row that is, that there is just one, and what exchanges, and rows put together, leave of it; no program is spoken of here.
-/
import Derived.Test.YtjieofiaoepccaaDoorM7
import Derived.Sort.LotA
namespace Go.Proofs.YtjieofiaoepccaaDoor
open Go.RowKit

/-- A field. -/
structure Fd where
  p : ByteArray
  k : Int
  t : Int
  vk : Int
  vn : Int
  vt : ByteArray
def Fd.none : Fd := ⟨⟨#[]⟩, 0, 0, 0, 0, ⟨#[]⟩⟩

/-- P11.1. -/
def zeroF (x : Fd) : Bool := decide (x.vk = 0 ∧ x.vn = 0 ∧ x.vt.size = 0)
def kindF (x : Fd) : Bool := (decide (x.k = 1) && (rightB x.vk x.vn x.vt && decide (x.vk = x.t))) || ((decide (x.k = 2 ∧ 1 ≤ x.t ∧ x.t ≤ 3) || decide (x.k = 3 ∧ x.t = 1)) && zeroF x)
def rightF (x : Fd) : Bool := L4.patS x.p && kindF x
theorem rightF_of {x : Fd} : rightF x = true ↔ L4.patS x.p = true ∧ ((x.k = 1 ∧ rightB x.vk x.vn x.vt = true ∧ x.vk = x.t) ∨ ((x.k = 2 ∧ 1 ≤ x.t ∧ x.t ≤ 3 ∨ x.k = 3 ∧ x.t = 1) ∧ x.vk = 0 ∧ x.vn = 0 ∧ x.vt = ⟨#[]⟩)) := by
  have hz : zeroF x = true ↔ x.vk = 0 ∧ x.vn = 0 ∧ x.vt = ⟨#[]⟩ := by
    unfold zeroF
    rw [decide_eq_true_iff]
    exact and_congr Iff.rfl (and_congr Iff.rfl ⟨empty_of, fun h => by rw [h]; rfl⟩)
  unfold rightF kindF
  rw [Bool.and_eq_true, Bool.or_eq_true, Bool.and_eq_true, Bool.and_eq_true, Bool.and_eq_true, Bool.or_eq_true, hz]
  simp only [decide_eq_true_iff]
/-- What a right field holds. -/
theorem rightF_kind {x : Fd} (h : rightF x = true) : 1 ≤ x.k ∧ x.k ≤ 3 ∧ 1 ≤ x.t ∧ x.t ≤ 3 := by
  rcases (rightF_of.1 h).2 with ⟨h1, h2, h3⟩ | ⟨h1 | h1, _⟩
  · unfold rightB at h2
    rw [decide_eq_true_iff] at h2
    omega
  · omega
  · omega
theorem patAll_len : ∀ (L : List (List UInt8)) (k : Nat), L4.patAll k L = true → ∀ s ∈ L, s.length ≤ 16
  | [], _, _, s, hs => by cases hs
  | x :: L, k, h, s, hs => by
    unfold L4.patAll at h
    rw [Bool.and_eq_true] at h
    rcases List.mem_cons.1 hs with e | e
    · subst e
      have h1 := h.1
      unfold L4.patAt at h1
      rw [Bool.or_eq_true] at h1
      rcases h1 with h1 | h1
      · exact (L4.segL_len _ h1).1
      · simp only [Bool.and_eq_true, beq_iff_eq] at h1
        rw [h1.2]; decide
    · exact patAll_len L (k + 1) h.2 s e
theorem patS_size {p : ByteArray} (h : L4.patS p = true) : p.size ≤ 102 := by
  unfold L4.patS L4.patL at h
  rw [Bool.and_eq_true, decide_eq_true_iff] at h
  have h2 := L4.joi_len (L4.spl p.data.toList) 16 (patAll_len _ 0 h.1)
  rw [L4.joi_spl, ← ba_size] at h2
  have := Nat.mul_le_mul_right 17 h.2
  omega

/-- Paths, byte by byte. -/
def LtP (a b : ByteArray) : Prop := a.data.toList < b.data.toList
instance (a b : ByteArray) : Decidable (LtP a b) := inferInstanceAs (Decidable (a.data.toList < b.data.toList))
theorem LtP.irrefl (a : ByteArray) : ¬ LtP a a := List.lt_irrefl _
theorem LtP.trans {a b c : ByteArray} (h : LtP a b) (k : LtP b c) : LtP a c := List.lt_trans h k
theorem LtP.asymm {a b : ByteArray} (h : LtP a b) : ¬ LtP b a := fun k => LtP.irrefl _ (h.trans k)
theorem LtP.tri (a b : ByteArray) : LtP a b ∨ a = b ∨ LtP b a := by
  by_cases h : LtP a b
  · exact .inl h
  · by_cases k : LtP b a
    · exact .inr (.inr k)
    · exact .inr (.inl (ba_ext (List.le_antisymm (List.not_lt.1 k) (List.not_lt.1 h))))
theorem LtP.not {a b : ByteArray} : ¬ LtP a b ↔ b = a ∨ LtP b a := by
  constructor
  · intro h
    rcases LtP.tri a b with k | k | k
    · exact absurd k h
    · exact .inl k.symm
    · exact .inr k
  · rintro (h | h)
    · rw [h]; exact LtP.irrefl _
    · exact h.asymm
/-- P11.2. -/
structure ScOk (L : List Fd) : Prop where
  few : L.length ≤ 24
  ent : ∀ x ∈ L, rightF x = true
  rise : L.Pairwise fun x y => LtP x.p y.p
  apart : L.Pairwise fun x y => L4.apS y.p x.p = true
theorem ScOk.nil : ScOk [] := ⟨by simp, fun x hx => (by cases hx), .nil, .nil⟩
/-- P11.4. -/
def findF (L : List Fd) (p : ByteArray) : Option Fd := L.find? fun x => L4.matS p x.p
/-- P11.10: no path is two fields'. -/
theorem mat_one {L : List Fd} (h : ScOk L) {p : ByteArray} {i j : Nat} {x y : Fd} (hi : L[i]? = some x) (hj : L[j]? = some y) (hx : L4.matS p x.p = true) (hy : L4.matS p y.p = true) : i = j := by
  have key : ∀ (i j : Nat) (x y : Fd), L[i]? = some x → L[j]? = some y → L4.matS p x.p = true → L4.matS p y.p = true → i < j → False := fun i j x y hi hj hx hy hlt => by
    have hil := (List.getElem?_eq_some_iff.1 hi)
    have hjl := (List.getElem?_eq_some_iff.1 hj)
    obtain ⟨h1, e1⟩ := hil
    obtain ⟨h2, e2⟩ := hjl
    have ha := (List.pairwise_iff_getElem.1 h.apart) i j h1 h2 hlt
    rw [e1, e2] at ha
    unfold L4.matS L4.matL at hx hy
    rw [Bool.and_eq_true] at hx hy
    exact L4.apart_not _ _ _ ha hy.2 hx.2
  rcases Nat.lt_trichotomy i j with h1 | h1 | h1
  · exact (key i j x y hi hj hx hy h1).elim
  · exact h1
  · exact (key j i y x hj hi hy hx h1).elim
/-- How many fields of the first k match. -/
def matN (L : List Fd) (p : ByteArray) (k : Nat) : Nat := ((L.take k).filter fun x => L4.matS p x.p).length
theorem matN_step {L : List Fd} {p : ByteArray} {k : Nat} {x : Fd} (h : L[k]? = some x) : matN L p (k + 1) = matN L p k + if L4.matS p x.p = true then 1 else 0 := by
  unfold matN
  rw [List.take_add_one, h, Option.toList_some, List.filter_append, List.length_append, List.filter_cons]
  split <;> rfl
theorem matN_le (L : List Fd) (p : ByteArray) (k : Nat) : matN L p k ≤ k := by
  unfold matN
  refine Nat.le_trans (List.length_filter_le ..) ?_
  rw [List.length_take]
  exact Nat.min_le_left ..
theorem mat_few {L : List Fd} (h : ScOk L) (p : ByteArray) : matN L p L.length ≤ 1 := by
  unfold matN
  rw [List.take_length]
  have key : (L.filter fun x => L4.matS p x.p).Pairwise fun _ _ => False := by
    refine (h.apart.filter _).imp_of_mem ?_
    intro a b ha hb hab
    have h1 := (List.mem_filter.1 ha).2
    have h2 := (List.mem_filter.1 hb).2
    unfold L4.matS L4.matL at h1 h2
    rw [Bool.and_eq_true] at h1 h2
    exact L4.apart_not _ _ _ hab h2.2 h1.2
  generalize (L.filter fun x => L4.matS p x.p) = M at key
  match M, key with
  | [], _ => simp
  | [_], _ => simp
  | a :: b :: r, k => exact absurd ((List.pairwise_cons.1 k).1 b (by simp)) id
theorem find_mat (L : List Fd) (p : ByteArray) : (findF L p).isSome = true ↔ 0 < matN L p L.length := by
  unfold findF matN
  rw [List.take_length, List.find?_isSome, List.length_pos_iff_exists_mem]
  constructor
  · rintro ⟨x, hx, h⟩; exact ⟨x, List.mem_filter.2 ⟨hx, h⟩⟩
  · rintro ⟨x, hx⟩; exact ⟨x, (List.mem_filter.1 hx).1, (List.mem_filter.1 hx).2⟩
/-- P11.3: a field put behind all whose path is not greater. -/
def insF (L : List Fd) (x : Fd) : List Fd := L.filter (fun y => !decide (LtP x.p y.p)) ++ x :: L.filter (fun y => decide (LtP x.p y.p))
def ofF (L : List Fd) : List Fd := L.foldl insF []
/-- Rising, levels allowed. -/
def Flat (L : List Fd) : Prop := L.Pairwise fun x y => ¬ LtP y.p x.p
theorem insF_mem {L : List Fd} {x y : Fd} : y ∈ insF L x ↔ y = x ∨ y ∈ L := by
  unfold insF
  rw [List.mem_append, List.mem_cons, List.mem_filter, List.mem_filter]
  by_cases h : LtP x.p y.p <;> simp [h, or_comm]
theorem insF_flat {L : List Fd} (h : Flat L) (x : Fd) : Flat (insF L x) := by
  unfold insF Flat
  rw [List.pairwise_append, List.pairwise_cons]
  refine ⟨h.filter _, ⟨fun y hy => ?_, h.filter _⟩, fun y hy z hz => ?_⟩
  · exact LtP.asymm (by simpa using (List.mem_filter.1 hy).2)
  · have h1 : ¬ LtP x.p y.p := by simpa using (List.mem_filter.1 hy).2
    rcases List.mem_cons.1 hz with e | e
    · rw [e]; exact h1
    · have h2 : LtP x.p z.p := by simpa using (List.mem_filter.1 e).2
      intro h3
      exact h1 (h2.trans h3)
theorem insF_len (L : List Fd) (x : Fd) : (insF L x).length = L.length + 1 := by
  unfold insF
  have e : (L.filter fun y => !decide (LtP x.p y.p)).length + (L.filter fun y => decide (LtP x.p y.p)).length = L.length := by
    induction L with
    | nil => rfl
    | cons a L ih =>
      rw [List.filter_cons, List.filter_cons]
      by_cases h : LtP x.p a.p
      · rw [if_neg (by simp [h]), if_pos (by simp [h])]; simp only [List.length_cons]; omega
      · rw [if_pos (by simp [h]), if_neg (by simp [h])]; simp only [List.length_cons]; omega
  rw [List.length_append, List.length_cons]
  omega
/-- Where the field goes: k is the place, of a row in order. -/
theorem insF_at {L : List Fd} (h : Flat L) {x : Fd} {k : Nat} (hk : k ≤ L.length) (h1 : ∀ i y, i < k → L[i]? = some y → ¬ LtP x.p y.p) (h2 : ∀ y, L[k]? = some y → LtP x.p y.p) : insF L x = L.take k ++ x :: L.drop k := by
  have t1 : ∀ y ∈ L.take k, ¬ LtP x.p y.p := fun y hy => by
    obtain ⟨i, hi⟩ := List.mem_iff_getElem?.1 hy
    rw [List.getElem?_take] at hi
    split at hi
    · exact h1 i y (by assumption) hi
    · cases hi
  have t2 : ∀ y ∈ L.drop k, LtP x.p y.p := fun y hy => by
    obtain ⟨i, hi⟩ := List.mem_iff_getElem?.1 hy
    rw [List.getElem?_drop] at hi
    obtain ⟨hl, _⟩ := List.getElem?_eq_some_iff.1 hi
    have hkl : L[k]? = some L[k] := List.getElem?_eq_getElem (show k < L.length by omega)
    have hb := h2 _ hkl
    by_cases e : i = 0
    · subst e
      rw [Nat.add_zero, hkl] at hi
      rw [← Option.some.inj hi]; exact hb
    · have hp := (List.pairwise_iff_getElem.1 h) k (k + i) (by omega) hl (by omega)
      rw [(List.getElem?_eq_some_iff.1 hi).2] at hp
      rcases LtP.tri L[k].p y.p with q | q | q
      · exact hb.trans q
      · rw [← q]; exact hb
      · exact absurd q hp
  have e1 : (L.take k ++ L.drop k).filter (fun y => !decide (LtP x.p y.p)) = L.take k := by
    rw [List.filter_append, List.filter_eq_self.2 (fun y hy => by simpa using t1 y hy), List.filter_eq_nil_iff.2 (fun y hy => by simpa using t2 y hy), List.append_nil]
  have e2 : (L.take k ++ L.drop k).filter (fun y => decide (LtP x.p y.p)) = L.drop k := by
    rw [List.filter_append, List.filter_eq_nil_iff.2 (fun y hy => by simpa using t1 y hy), List.filter_eq_self.2 (fun y hy => by simpa using t2 y hy), List.nil_append]
  rw [List.take_append_drop] at e1 e2
  unfold insF
  rw [e1, e2]
theorem foldl_flat : ∀ (L M : List Fd), Flat M → Flat (L.foldl insF M) ∧ (L.foldl insF M).length = L.length + M.length ∧ ∀ y, y ∈ L.foldl insF M ↔ y ∈ L ∨ y ∈ M
  | [], M, h => ⟨h, by simp, fun y => by simp⟩
  | x :: L, M, h => by
    obtain ⟨h1, h2, h3⟩ := foldl_flat L (insF M x) (insF_flat h x)
    refine ⟨h1, ?_, fun y => ?_⟩
    · rw [List.foldl_cons, h2, insF_len]; simp only [List.length_cons]; omega
    · rw [List.foldl_cons, h3, insF_mem, List.mem_cons]
      constructor
      · rintro (a | a | a)
        · exact .inl (.inr a)
        · exact .inl (.inl a)
        · exact .inr a
      · rintro ((a | a) | a)
        · exact .inr (.inl a)
        · exact .inl a
        · exact .inr (.inr a)
theorem ofF_flat (L : List Fd) : Flat (ofF L) := (foldl_flat L [] .nil).1
theorem ofF_len (L : List Fd) : (ofF L).length = L.length := (foldl_flat L [] .nil).2.1
theorem ofF_mem (L : List Fd) (y : Fd) : y ∈ ofF L ↔ y ∈ L := by
  have := (foldl_flat L [] .nil).2.2 y
  unfold ofF
  rw [this]; simp
theorem ofF_snoc (L : List Fd) (x : Fd) : ofF (L ++ [x]) = insF (ofF L) x := by
  unfold ofF
  rw [List.foldl_append]; rfl
/-- Of the other order: the fields of a row that rises make it again. -/
theorem ofF_back {L : List Fd} (h : L.Pairwise fun x y => LtP x.p y.p) : ofF L.reverse = L := by
  induction L with
  | nil => rfl
  | cons x L ih =>
    obtain ⟨h1, h2⟩ := List.pairwise_cons.1 h
    rw [List.reverse_cons, ofF_snoc, ih h2]
    have := insF_at (k := 0) (L := L) (x := x) (h2.imp fun hab => hab.asymm) (Nat.zero_le _) (fun i y hi => by omega) (fun y hy => h1 y (List.mem_of_getElem? hy))
    rw [this]; rfl
/-- P11.6. -/
def putFd (b : ByteArray) (x : Fd) : ByteArray := putV (b ++ putS x.p.size ++ x.p ++ putS (x.k % 4).toNat ++ putS (x.t % 4).toNat) x.vk x.vn x.vt
def encFs (L : List Fd) : ByteArray := L.foldr (fun x b => putFd ⟨#[]⟩ x ++ b) ⟨#[]⟩
def putSc (b : ByteArray) (L : List Fd) : ByteArray := b ++ putS L.length ++ encFs L
theorem putF_enc (b : ByteArray) (x : Fd) : putFd b x = b ++ putFd ⟨#[]⟩ x := by
  unfold putFd
  rw [putV_enc (_ ++ _), putV_enc (⟨#[]⟩ ++ _ ++ _ ++ _ ++ _)]
  simp only [ba_assoc, ba_nil]
theorem putFs_enc (L : List Fd) (b : ByteArray) : L.foldl putFd b = b ++ encFs L := by
  induction L generalizing b with
  | nil => show b = b ++ ⟨#[]⟩; rw [ba_nil_r]
  | cons x L ih =>
    rw [List.foldl_cons, ih, putF_enc]
    show b ++ putFd ⟨#[]⟩ x ++ encFs L = b ++ (putFd ⟨#[]⟩ x ++ encFs L)
    rw [ba_assoc]
/-- P11.7: a field, part by part. -/
def f1 (s : ByteArray) : ByteArray := ttR s 102
def f2 (s : ByteArray) : ByteArray := tkR (f1 s)
def f3 (s : ByteArray) : ByteArray := tkR (f2 s)
def errF (s : ByteArray) : Nat := if ttE s 102 ≠ 0 then ttE s 102 else if tkE (f1 s) ≠ 0 then tkE (f1 s) else if tkE (f2 s) ≠ 0 then tkE (f2 s) else tvE (f3 s)
def fdK (s : ByteArray) : Fd := ⟨ttT s 102, tkN (f1 s), tkN (f2 s), tvK (f3 s), tvI (f3 s), tvT (f3 s)⟩
def tfL (s : ByteArray) : Fd × ByteArray × Nat :=
  if errF s ≠ 0 then (.none, ⟨#[]⟩, errF s) else if 3 < tkN (f1 s) ∨ 3 < tkN (f2 s) then (.none, ⟨#[]⟩, 3) else (fdK s, tvR (f3 s), 0)
theorem tf_fore {x : Fd} (h : rightF x = true) (h1 : -9223372036854775808 ≤ x.vn) (h2 : x.vn ≤ 9223372036854775807) (s : ByteArray) : tfL (putFd ⟨#[]⟩ x ++ s) = (x, s, 0) := by
  obtain ⟨k1, k2, k3, k4⟩ := rightF_kind h
  obtain ⟨hp, hc⟩ := rightF_of.1 h
  have e : putFd ⟨#[]⟩ x ++ s = putS x.p.size ++ (x.p ++ (putS (x.k % 4).toNat ++ (putS (x.t % 4).toNat ++ (putV ⟨#[]⟩ x.vk x.vn x.vt ++ s)))) := by
    unfold putFd
    rw [putV_enc]
    simp only [ba_assoc, ba_nil]
  have ht := tt_fore x.p (putS (x.k % 4).toNat ++ (putS (x.t % 4).toNat ++ (putV ⟨#[]⟩ x.vk x.vn x.vt ++ s))) 102 (by have := patS_size hp; omega) (by decide)
  obtain ⟨a1, a2, a3⟩ := tk_fore (x.k % 4).toNat (putS (x.t % 4).toNat ++ (putV ⟨#[]⟩ x.vk x.vn x.vt ++ s)) (by omega)
  obtain ⟨b1, b2, b3⟩ := tk_fore (x.t % 4).toNat (putV ⟨#[]⟩ x.vk x.vn x.vt ++ s) (by omega)
  have hv : tvK (putV ⟨#[]⟩ x.vk x.vn x.vt ++ s) = x.vk ∧ tvI (putV ⟨#[]⟩ x.vk x.vn x.vt ++ s) = x.vn ∧ tvT (putV ⟨#[]⟩ x.vk x.vn x.vt ++ s) = x.vt ∧ tvR (putV ⟨#[]⟩ x.vk x.vn x.vt ++ s) = s ∧ tvE (putV ⟨#[]⟩ x.vk x.vn x.vt ++ s) = 0 := by
    rcases hc with ⟨_, c1, _⟩ | ⟨_, c1, c2, c3⟩
    · exact tv_fore h1 h2 c1 s
    · obtain ⟨z1, z2, z3⟩ := tk_fore 0 s (by omega)
      have ez : putV ⟨#[]⟩ x.vk x.vn x.vt ++ s = putS 0 ++ s := by
        unfold putV
        rw [c1, if_pos (by decide), ba_nil]
      have eL : tvL (putS 0 ++ s) = (0, 0, ⟨#[]⟩, s, 0) := by
        unfold tvL
        rw [z1, z2, z3, if_neg (by simp), if_neg (by simp), if_pos rfl]
      unfold tvK tvI tvT tvR tvE
      rw [ez, eL, c1, c2, c3]
      exact ⟨rfl, rfl, rfl, rfl, rfl⟩
  obtain ⟨v1, v2, v3, v4, v5⟩ := hv
  rw [e]
  generalize putS x.p.size ++ (x.p ++ (putS (x.k % 4).toNat ++ (putS (x.t % 4).toNat ++ (putV ⟨#[]⟩ x.vk x.vn x.vt ++ s)))) = S at ht ⊢
  have g1 : f1 S = putS (x.k % 4).toNat ++ (putS (x.t % 4).toNat ++ (putV ⟨#[]⟩ x.vk x.vn x.vt ++ s)) := by unfold f1 ttR; rw [ht]
  have g2 : f2 S = putS (x.t % 4).toNat ++ (putV ⟨#[]⟩ x.vk x.vn x.vt ++ s) := by unfold f2; rw [g1, a2]
  have g3 : f3 S = putV ⟨#[]⟩ x.vk x.vn x.vt ++ s := by unfold f3; rw [g2, b2]
  have gT : ttT S 102 = x.p := by unfold ttT; rw [ht]
  have gE : ttE S 102 = 0 := by unfold ttE; rw [ht]
  have hE : errF S = 0 := by unfold errF; rw [gE, g1, a3, g2, b3, g3, v5]; rfl
  have hk : fdK S = x := by
    unfold fdK
    rw [gT, g1, a1, g2, b1, g3, v1, v2, v3, show (((x.k % 4).toNat : Nat) : Int) = x.k by omega, show (((x.t % 4).toNat : Nat) : Int) = x.t by omega]
  unfold tfL
  rw [hE, if_neg (by simp), hk, g1, a1, g2, b1, g3, v4, if_neg (by omega)]
def tfX (s : ByteArray) : Fd := (tfL s).1
def tfR (s : ByteArray) : ByteArray := (tfL s).2.1
def tfE (s : ByteArray) : Nat := (tfL s).2.2
theorem tf_of {s : ByteArray} {x : Fd} {r : ByteArray} {e : Nat} (h : tfL s = (x, r, e)) : tfX s = x ∧ tfR s = r ∧ tfE s = e := by
  unfold tfX tfR tfE; rw [h]; exact ⟨rfl, rfl, rfl⟩
/-- P11.7: so many fields. -/
def takeFs : Nat → List Fd → ByteArray → List Fd × ByteArray × Nat
  | 0, L, s => (L, s, 0)
  | n + 1, L, s => if tfE s ≠ 0 then ([], ⟨#[]⟩, tfE s) else takeFs n (L ++ [tfX s]) (tfR s)
theorem takeFs_err {k : Nat} {L : List Fd} {s : ByteArray} (h : tfE s ≠ 0) : takeFs (k + 1) L s = ([], ⟨#[]⟩, tfE s) := by rw [takeFs, if_pos h]
theorem takeFs_ok {k : Nat} {L : List Fd} {s : ByteArray} (h : tfE s = 0) : takeFs (k + 1) L s = takeFs k (L ++ [tfX s]) (tfR s) := by rw [takeFs, if_neg (by simp [h])]
open Classical in
noncomputable def tscL (s : ByteArray) : List Fd × ByteArray × Nat :=
  if tkE s ≠ 0 then ([], ⟨#[]⟩, tkE s) else if 24 < tkN s then ([], ⟨#[]⟩, 4)
  else if (takeFs (tkN s) [] (tkR s)).2.2 ≠ 0 then ([], ⟨#[]⟩, (takeFs (tkN s) [] (tkR s)).2.2)
  else if ScOk (takeFs (tkN s) [] (tkR s)).1 then ((takeFs (tkN s) [] (tkR s)).1, (takeFs (tkN s) [] (tkR s)).2.1, 0) else ([], ⟨#[]⟩, 3)
def BdFs (L : List Fd) : Prop := ∀ x ∈ L, -9223372036854775808 ≤ x.vn ∧ x.vn ≤ 9223372036854775807
theorem takeFs_fore : ∀ (L L0 : List Fd) (s : ByteArray), (∀ x ∈ L, rightF x = true) → BdFs L → takeFs L.length L0 (encFs L ++ s) = (L0 ++ L, s, 0)
  | [], L0, s, _, _ => by
    show takeFs 0 L0 (⟨#[]⟩ ++ s) = _
    rw [ba_nil, takeFs, List.append_nil]
  | x :: L, L0, s, h, hb => by
    have h1 := hb x (List.mem_cons_self ..)
    have ht := tf_of (tf_fore (h x (List.mem_cons_self ..)) h1.1 h1.2 (encFs L ++ s))
    have e : encFs (x :: L) ++ s = putFd ⟨#[]⟩ x ++ (encFs L ++ s) := by
      show putFd ⟨#[]⟩ x ++ encFs L ++ s = _
      rw [ba_assoc]
    rw [e, List.length_cons, takeFs_ok ht.2.2, ht.1, ht.2.1, takeFs_fore L (L0 ++ [x]) s (fun y hy => h y (List.mem_cons_of_mem _ hy)) (fun y hy => hb y (List.mem_cons_of_mem _ hy)), List.append_assoc]
    rfl
/-- P11.10: what is right is put and taken. -/
theorem tsc_fore {L : List Fd} (h : ScOk L) (hb : BdFs L) (s : ByteArray) : tscL (putSc ⟨#[]⟩ L ++ s) = (L, s, 0) := by
  have e : putSc ⟨#[]⟩ L ++ s = putS L.length ++ (encFs L ++ s) := by
    unfold putSc
    simp only [ba_assoc, ba_nil]
  have hf := h.few
  obtain ⟨k1, k2, k3⟩ := tk_fore L.length (encFs L ++ s) (by omega)
  unfold tscL
  rw [e, k1, k2, k3, if_neg (by simp), if_neg (by omega), takeFs_fore L [] s h.ent hb, List.nil_append, if_neg (by simp), if_pos h]
/-- P11.9. -/
def kindT (k : Int) : ByteArray := if k % 4 = 1 then ⟨#[114, 101, 103]⟩ else if k % 4 = 2 then ⟨#[115, 101, 116]⟩ else if k % 4 = 3 then ⟨#[99, 116, 114]⟩ else ⟨#[63]⟩
def typeT (t : Int) : ByteArray := if t % 4 = 1 then ⟨#[105, 110, 116]⟩ else if t % 4 = 2 then ⟨#[116, 101, 120, 116]⟩ else if t % 4 = 3 then ⟨#[98, 111, 111, 108]⟩ else ⟨#[63]⟩
def lineF (x : Fd) : ByteArray := x.p ++ ⟨#[32]⟩ ++ kindT x.k ++ ⟨#[32]⟩ ++ typeT x.t ++ (if x.k = 1 then ⟨#[32]⟩ ++ textV x.vk x.vn x.vt else ⟨#[]⟩) ++ ⟨#[10]⟩
def textSc (L : List Fd) : ByteArray := L.foldl (fun b x => b ++ lineF x) ⟨#[]⟩
/-- P11.5: whether a path is above one of the fields. -/
def underF (L : List Fd) (p : ByteArray) : Bool := L.any fun x => decide ((L4.spl p.data.toList).length ≤ (L4.spl x.p.data.toList).length) && L4.matL (L4.spl p.data.toList) ((L4.spl x.p.data.toList).take (L4.spl p.data.toList).length)
/-- P11.10: what is found is under it. -/
theorem under_find {L : List Fd} {p : ByteArray} (h : (findF L p).isSome = true) : underF L p = true := by
  unfold findF at h
  rw [List.find?_isSome] at h
  obtain ⟨x, hx, hm⟩ := h
  unfold underF
  rw [List.any_eq_true]
  refine ⟨x, hx, ?_⟩
  have hm2 := hm
  unfold L4.matS L4.matL at hm2
  rw [Bool.and_eq_true, beq_iff_eq] at hm2
  rw [Bool.and_eq_true, decide_eq_true_iff]
  refine ⟨by rw [hm2.1]; exact Nat.le_refl _, ?_⟩
  rw [List.take_of_length_le (by rw [hm2.1]; exact Nat.le_refl _)]
  exact hm
end Go.Proofs.YtjieofiaoepccaaDoor

namespace Go.Proofs.YtjieofiaoepccaaDoor
open Go.RowKit Go.Sort

instance : Inhabited Fd := ⟨Fd.none⟩
/-- The fields of each path, in the same order. -/
def ofP (p : ByteArray) (L : List Fd) : List Fd := L.filter fun x => decide (x.p = p)
def Stab (L M : List Fd) : Prop := ∀ p : ByteArray, ofP p L = ofP p M
theorem ofP_app (p : ByteArray) (L M : List Fd) : ofP p (L ++ M) = ofP p L ++ ofP p M := List.filter_append ..
theorem Stab.refl (L : List Fd) : Stab L L := fun _ => rfl
theorem Stab.symm {L M : List Fd} (h : Stab L M) : Stab M L := fun p => (h p).symm
theorem Stab.trans {L M N : List Fd} (h : Stab L M) (k : Stab M N) : Stab L N := fun p => (h p).trans (k p)
theorem Stab.app {A B C D : List Fd} (h : Stab A B) (k : Stab C D) : Stab (A ++ C) (B ++ D) := fun p => by rw [ofP_app, ofP_app, h p, k p]
theorem Stab.mid {P X Y S : List Fd} (h : Stab (P ++ X ++ S) (P ++ Y ++ S)) : Stab X Y := fun p => by
  have := h p
  rw [ofP_app, ofP_app, ofP_app, ofP_app] at this
  exact List.append_cancel_left (List.append_cancel_right this)
theorem mem_ofP {p : ByteArray} {L : List Fd} {x : Fd} : x ∈ ofP p L ↔ x ∈ L ∧ x.p = p := by
  unfold ofP
  rw [List.mem_filter, decide_eq_true_iff]
theorem Stab.mem {L M : List Fd} (h : Stab L M) (x : Fd) : x ∈ L ↔ x ∈ M := by
  have e := h x.p
  constructor
  · intro hx
    exact (mem_ofP.1 (e ▸ mem_ofP.2 ⟨hx, rfl⟩)).1
  · intro hx
    exact (mem_ofP.1 (e ▸ mem_ofP.2 ⟨hx, rfl⟩ : x ∈ ofP x.p L)).1
theorem ofP_none {p : ByteArray} {L : List Fd} (h : ∀ x ∈ L, x.p ≠ p) : ofP p L = [] := by
  unfold ofP
  rw [List.filter_eq_nil_iff]
  exact fun x hx => by rw [decide_eq_true_iff]; exact h x hx
theorem Stab.turn {X Y : List Fd} (h : ∀ x ∈ X, ∀ y ∈ Y, x.p ≠ y.p) : Stab (X ++ Y) (Y ++ X) := fun p => by
  rw [ofP_app, ofP_app]
  by_cases hx : ∃ x ∈ X, x.p = p
  · obtain ⟨x, hx, rfl⟩ := hx
    rw [ofP_none (p := x.p) (L := Y) fun y hy e => h x hx y hy e.symm]
    simp
  · rw [ofP_none (p := p) (L := X) fun x hx2 e => hx ⟨x, hx2, e⟩]
    simp
/-- There is just one. -/
theorem flat_one : ∀ (L M : List Fd), Flat L → Flat M → Stab L M → L = M
  | [], [], _, _, _ => rfl
  | [], y :: M, _, _, h => absurd ((h.mem y).2 (by simp)) (by simp)
  | x :: L, [], _, _, h => absurd ((h.mem x).1 (by simp)) (by simp)
  | x :: L, y :: M, hL, hM, h => by
    obtain ⟨l1, l2⟩ := List.pairwise_cons.1 hL
    obtain ⟨m1, m2⟩ := List.pairwise_cons.1 hM
    have e : x.p = y.p := by
      have a : ¬ LtP y.p x.p := by
        rcases List.mem_cons.1 ((h.mem y).2 (by simp)) with e | e
        · rw [e]; exact LtP.irrefl _
        · exact l1 y e
      have b : ¬ LtP x.p y.p := by
        rcases List.mem_cons.1 ((h.mem x).1 (by simp)) with e | e
        · rw [e]; exact LtP.irrefl _
        · exact m1 x e
      rcases LtP.tri x.p y.p with c | c | c
      · exact absurd c b
      · exact c
      · exact absurd c a
    have hx := h x.p
    unfold ofP at hx
    rw [List.filter_cons_of_pos (by simp), List.filter_cons_of_pos (by simpa using e.symm)] at hx
    obtain ⟨rfl, hx2⟩ := List.cons.inj hx
    have ht : Stab L M := fun p => by
      by_cases hp : x.p = p
      · rw [← hp]; exact hx2
      · have := h p
        unfold ofP at this
        rw [List.filter_cons_of_neg (by simpa using hp), List.filter_cons_of_neg (by simpa using hp)] at this
        exact this
    rw [flat_one L M l2 m2 ht]
theorem insF_stab (L : List Fd) (x : Fd) : Stab (insF L x) (L ++ [x]) := fun p => by
  unfold insF
  rw [show x :: L.filter (fun y => decide (LtP x.p y.p)) = [x] ++ L.filter (fun y => decide (LtP x.p y.p)) from rfl, ofP_app, ofP_app, ofP_app]
  by_cases hp : x.p = p
  · have e1 : ofP p (L.filter fun y => decide (LtP x.p y.p)) = [] := ofP_none fun y hy e => by
      have := (List.mem_filter.1 hy).2
      rw [decide_eq_true_iff, e, hp] at this
      exact LtP.irrefl _ this
    have e2 : ofP p (L.filter fun y => !decide (LtP x.p y.p)) = ofP p L := by
      unfold ofP
      rw [List.filter_filter]
      refine List.filter_congr fun y _ => ?_
      by_cases hy : y.p = p
      · rw [hy, hp]; simp [LtP.irrefl]
      · simp [hy]
    rw [e1, e2, List.append_nil]
  · have e0 : ofP p [x] = [] := ofP_none fun y hy => by rw [List.mem_singleton.1 hy]; exact hp
    rw [e0, List.nil_append, List.append_nil]
    by_cases hq : LtP x.p p
    · have e1 : ofP p (L.filter fun y => decide (LtP x.p y.p)) = ofP p L := by
        unfold ofP
        rw [List.filter_filter]
        refine List.filter_congr fun y _ => ?_
        by_cases hy : y.p = p
        · rw [hy]; simp [hq]
        · simp [hy]
      have e2 : ofP p (L.filter fun y => !decide (LtP x.p y.p)) = [] := ofP_none fun y hy e => by
        have := (List.mem_filter.1 hy).2
        rw [e] at this
        simp [hq] at this
      rw [e1, e2, List.nil_append]
    · have e1 : ofP p (L.filter fun y => decide (LtP x.p y.p)) = [] := ofP_none fun y hy e => by
        have := (List.mem_filter.1 hy).2
        rw [decide_eq_true_iff, e] at this
        exact hq this
      have e2 : ofP p (L.filter fun y => !decide (LtP x.p y.p)) = ofP p L := by
        unfold ofP
        rw [List.filter_filter]
        refine List.filter_congr fun y _ => ?_
        by_cases hy : y.p = p
        · rw [hy]; simp [hq]
        · simp [hy]
      rw [e1, e2, List.append_nil]
theorem foldl_stab : ∀ (L M : List Fd), Stab (L.foldl insF M) (M ++ L)
  | [], M => by rw [List.append_nil]; exact Stab.refl _
  | x :: L, M => by
    rw [List.foldl_cons]
    refine (foldl_stab L (insF M x)).trans ?_
    rw [show M ++ x :: L = M ++ [x] ++ L by simp]
    exact (insF_stab M x).app (Stab.refl L)
theorem ofF_stab (L : List Fd) : Stab (ofF L) L := by
  have := foldl_stab L []
  rw [List.nil_append] at this
  exact this
theorem ofF_is {Z L : List Fd} (h : Flat Z) (k : Stab Z L) : Z = ofF L := flat_one _ _ h (ofF_flat L) (k.trans (ofF_stab L).symm)
/-- Two rows in order, each in two parts, which part so that all of both first ones stand ahead of all of both second ones. -/
theorem stab_parts {X1 X2 Y1 Y2 Z1 Z2 : List Fd} (hX : Flat (X1 ++ X2)) (hY : Flat (Y1 ++ Y2)) (h1 : ∀ x ∈ X1, ∀ y ∈ Y2, ¬ LtP y.p x.p) (h2 : ∀ x ∈ X2, ∀ y ∈ Y1, LtP y.p x.p)
    (z1 : Stab Z1 (X1 ++ Y1)) (z2 : Stab Z2 (X2 ++ Y2)) (f1 : Flat Z1) (f2 : Flat Z2) : Flat (Z1 ++ Z2) ∧ Stab (Z1 ++ Z2) (X1 ++ X2 ++ (Y1 ++ Y2)) := by
  constructor
  · unfold Flat
    rw [List.pairwise_append]
    refine ⟨f1, f2, fun a ha b hb => ?_⟩
    have ha2 := List.mem_append.1 ((z1.mem a).1 ha)
    have hb2 := List.mem_append.1 ((z2.mem b).1 hb)
    rcases ha2 with ha2 | ha2 <;> rcases hb2 with hb2 | hb2
    · exact (List.pairwise_append.1 hX).2.2 a ha2 b hb2
    · exact h1 a ha2 b hb2
    · exact (h2 b hb2 a ha2).asymm
    · exact (List.pairwise_append.1 hY).2.2 a ha2 b hb2
  · refine (z1.app z2).trans ?_
    have := Stab.turn (X := Y1) (Y := X2) fun y hy x hx e => by
      have := h2 x hx y hy
      rw [e] at this
      exact LtP.irrefl _ this
    have := (Stab.refl X1).app (this.app (Stab.refl Y2))
    simpa [List.append_assoc] using this
/-- An exchange, in a row as a list. -/
theorem arr_get (A : List Fd) (x : Fd) (B : List Fd) {i : Nat} (h : i = A.length) : (A ++ x :: B).toArray[i]! = x := by
  subst h
  rw [getElem!_pos _ _ (by simp)]
  simp
theorem arr_at {L : List Fd} {i : Nat} {x : Fd} (h : L[i]? = some x) : L.toArray[i]! = x := by
  have hl := (List.getElem?_eq_some_iff.1 h).1
  rw [getElem!_pos _ i (by simpa using hl)]
  simpa using (List.getElem?_eq_some_iff.1 h).2
theorem swp_at (A : List Fd) (x : Fd) (M : List Fd) (y : Fd) (B : List Fd) {i j : Nat} (hi : i = A.length) (hj : j = A.length + 1 + M.length) : swp (A ++ x :: (M ++ y :: B)).toArray i j = (A ++ y :: (M ++ x :: B)).toArray := by
  have e1 := arr_get A x (M ++ y :: B) hi
  have e2 : (A ++ x :: (M ++ y :: B)).toArray[j]! = y := by
    rw [show A ++ x :: (M ++ y :: B) = (A ++ x :: M) ++ y :: B by simp]
    exact arr_get (A ++ x :: M) y B (by rw [hj]; simp; omega)
  unfold swp
  rw [e1, e2]
  subst hi hj
  rw [List.setIfInBounds_toArray, List.setIfInBounds_toArray]
  congr 1
  rw [List.set_append_right _ _ (Nat.le_refl _), Nat.sub_self, List.set_cons_zero, List.set_append_right _ _ (by omega), show A.length + 1 + M.length - A.length = M.length + 1 by omega, List.set_cons_succ, List.set_append_right _ _ (Nat.le_refl _), Nat.sub_self, List.set_cons_zero]
theorem swp_sym (d : Array Fd) (i j : Nat) : swp d i j = swp d j i := by
  unfold swp
  by_cases h : i = j
  · subst h; rfl
  · rw [Array.setIfInBounds_comm _ _ h]
/-- Two of a row side by side, exchanged. -/
theorem swp_next (A : List Fd) (x y : Fd) (B : List Fd) {i : Nat} (hi : i = A.length) : swp (A ++ x :: y :: B).toArray (i + 1) i = (A ++ y :: x :: B).toArray := by
  rw [swp_sym]
  exact swp_at A x [] y B hi (by rw [hi]; simp)
theorem split_two {d : Array Fd} {i : Nat} (h : i + 1 < d.size) : ∃ A x y B, d = (A ++ x :: y :: B).toArray ∧ A.length = i ∧ d[i]! = x ∧ d[i + 1]! = y := by
  refine ⟨d.toList.take i, d[i]!, d[i + 1]!, d.toList.drop (i + 2), ?_, by simp; omega, rfl, rfl⟩
  apply Array.ext'
  show d.toList = _
  have e1 : d.toList.drop i = d[i]! :: d[i + 1]! :: d.toList.drop (i + 2) := by
    rw [List.drop_eq_getElem_cons (by simp; omega), List.drop_eq_getElem_cons (by simp; omega)]
    rw [getElem!_pos d i (by omega), getElem!_pos d (i + 1) (by omega)]
    simp
  rw [← e1, List.take_append_drop]
/-- Less, as it is asked: by the path alone. -/
def ltF (x y : Fd) : Bool := decide (LtP x.p y.p)
theorem ltF_swo : SWO ltF where
  irrefl x := decide_eq_false (LtP.irrefl _)
  trans x y z h1 h2 := decide_eq_true ((of_decide_eq_true h1).trans (of_decide_eq_true h2))
  ntrans x y z h1 h2 := by
    refine decide_eq_false fun h => ?_
    rcases LtP.not.1 (of_decide_eq_false h1) with e | e
    · exact of_decide_eq_false h2 (by rw [e]; exact h)
    · exact of_decide_eq_false h2 (e.trans h)
theorem swp_stab {d : Array Fd} {j : Nat} (h : j + 1 < d.size) (hl : ltF d[j + 1]! d[j]! = true) : Stab (swp d (j + 1) j).toList d.toList := by
  obtain ⟨A, x, y, B, rfl, h1, h2, h3⟩ := split_two h
  rw [h2, h3] at hl
  rw [swp_next A x y B h1.symm]
  show Stab (A ++ y :: x :: B) (A ++ x :: y :: B)
  have := (Stab.refl A).app ((Stab.turn (X := [y]) (Y := [x]) fun a ha b hb e => by
    obtain rfl := List.mem_singleton.1 ha
    obtain rfl := List.mem_singleton.1 hb
    have := of_decide_eq_true hl
    rw [e] at this
    exact LtP.irrefl _ this).app (Stab.refl B))
  simpa using this
theorem insInner_stab (a : Nat) : ∀ (j : Nat) (d : Array Fd), j < d.size → Stab (insInner ltF a j d).toList d.toList
  | 0, d, _ => Stab.refl _
  | j + 1, d, h => by
    unfold insInner
    split
    · rename_i hc
      rw [Bool.and_eq_true] at hc
      refine (insInner_stab a j _ ?_).trans (swp_stab h hc.2)
      unfold swp
      simp; omega
    · exact Stab.refl _
theorem insInner_size (a : Nat) : ∀ (j : Nat) (d : Array Fd), (insInner ltF a j d).size = d.size
  | 0, d => rfl
  | j + 1, d => by
    unfold insInner
    split
    · rw [insInner_size a j]; unfold swp; simp
    · rfl
theorem insOuter_stab (a b : Nat) : ∀ (m i : Nat) (d : Array Fd), b - i = m → b ≤ d.size → Stab (insOuter ltF a b i d).toList d.toList
  | 0, i, d, h, _ => by
    unfold insOuter
    rw [if_neg (by omega)]
    exact Stab.refl _
  | m + 1, i, d, h, hb => by
    unfold insOuter
    rw [if_pos (by omega)]
    exact (insOuter_stab a b m (i + 1) _ (by omega) (by rw [insInner_size]; exact hb)).trans (insInner_stab a i d (by omega))
/-- A part of a row, sorted by insertion. -/
theorem ins_part (P X S : List Fd) {a b : Nat} (ha : a = P.length) (hb : b = P.length + X.length) : ∃ Z, insertionSort ltF (P ++ X ++ S).toArray a b = (P ++ Z ++ S).toArray ∧ Z.length = X.length ∧ Flat Z ∧ Stab Z X := by
  have hsz : b ≤ (P ++ X ++ S).toArray.size := by simp; omega
  obtain ⟨⟨p1, p2, _⟩, ps⟩ := insertionSort_holds ltF_swo (P ++ X ++ S).toArray a b (by omega) hsz
  have st : Stab (insertionSort ltF (P ++ X ++ S).toArray a b).toList (P ++ X ++ S) := insOuter_stab a b _ (a + 1) _ rfl hsz
  generalize insertionSort ltF (P ++ X ++ S).toArray a b = d at p1 p2 ps st
  have hl : d.toList.length = P.length + X.length + S.length := by
    have := p1; simp at this; simp; omega
  have hg : ∀ i, i < d.toList.length → d[i]! = d.toList[i]! := fun i hi => by
    rw [getElem!_pos d i (by simpa using hi), getElem!_pos d.toList i hi]; simp
  have e1 : d.toList.take a = P := by
    refine List.ext_getElem (by rw [List.length_take]; omega) fun i h1 h2 => ?_
    have h3 := p2 i (.inl (by omega))
    have h4 : (P ++ X ++ S).toArray[i]! = P[i] := arr_at (by rw [List.append_assoc, List.getElem?_append_left h2]; exact List.getElem?_eq_getElem h2)
    rw [List.length_take] at h1
    rw [h4, getElem!_pos d i (by simp at hl; omega)] at h3
    rw [List.getElem_take, ← h3]; simp
  have e2 : d.toList.drop b = S := by
    refine List.ext_getElem (by rw [List.length_drop]; omega) fun i h1 h2 => ?_
    have h3 := p2 (b + i) (.inr (by omega))
    have h4 : (P ++ X ++ S).toArray[b + i]! = S[i] := arr_at (by
      rw [List.getElem?_append_right (by simp; omega), show b + i - (P ++ X).length = i by simp; omega]; exact List.getElem?_eq_getElem h2)
    rw [List.length_drop] at h1
    rw [h4, getElem!_pos d (b + i) (by simp at hl; omega)] at h3
    rw [List.getElem_drop, ← h3]; simp
  refine ⟨(d.toList.drop a).take X.length, ?_, by rw [List.length_take, List.length_drop]; omega, ?_, ?_⟩
  · apply Array.ext'
    show d.toList = _
    have e3 : (d.toList.drop a).drop X.length = S := by rw [List.drop_drop, show a + X.length = b by omega]; exact e2
    conv => lhs; rw [← List.take_append_drop a d.toList, e1, ← List.take_append_drop X.length (d.toList.drop a), e3]
    simp
  · unfold Flat
    rw [List.pairwise_iff_getElem]
    intro i j hi hj hij
    rw [List.length_take, List.length_drop] at hi hj
    have := ps (a + i) (a + j) (by omega) (by omega) (by omega)
    rw [getElem!_pos d (a + i) (by simp at hl; omega), getElem!_pos d (a + j) (by simp at hl; omega)] at this
    have h5 := of_decide_eq_false this
    simpa using h5
  · refine Stab.mid (P := P) (S := S) ?_
    have e3 : P ++ (d.toList.drop a).take X.length ++ S = d.toList := by
      have e4 : (d.toList.drop a).drop X.length = S := by rw [List.drop_drop, show a + X.length = b by omega]; exact e2
      conv => rhs; rw [← List.take_append_drop a d.toList, e1, ← List.take_append_drop X.length (d.toList.drop a), e4]
      simp
    rw [e3]; exact st
end Go.Proofs.YtjieofiaoepccaaDoor

