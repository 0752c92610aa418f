/-
  What is proved: plain facts on P4.4 to P4.9 over texts: what a loop over the segments finds is what the document asks.
-/
import Derived.Test.YtepjhijnihjedaaPMem
namespace Go.Proofs.Ytepjhijnihjedaa
open Go.RowKit

def star : ByteArray := ⟨#[42]⟩
def rightS (p : ByteArray) : Bool := rightL (spl p.data.toList)
def patS (p : ByteArray) : Bool := patL (spl p.data.toList)
def begS (p q : ByteArray) : Bool := begL (spl p.data.toList) (spl q.data.toList)
def matS (p q : ByteArray) : Bool := matL (spl p.data.toList) (spl q.data.toList)
def apS (p q : ByteArray) : Bool := apL (spl p.data.toList) (spl q.data.toList)
/-- The segment at place k. -/
def sg (p : ByteArray) (k : Nat) : ByteArray := (splS p).getD k ⟨#[]⟩
theorem sg_get (p : ByteArray) (k : Nat) (h : k < (splS p).length) : (spl p.data.toList)[k]? = some (sg p k).data.toList := by
  rw [← splS_list, toLs_get, List.getElem?_eq_getElem h]
  unfold sg
  rw [List.getD_eq_getElem?_getD, List.getElem?_eq_getElem h]
  rfl
theorem sg_size (p : ByteArray) (k : Nat) : (sg p k).size ≤ p.size := by
  unfold sg
  rw [List.getD_eq_getElem?_getD]
  cases e : (splS p)[k]? with
  | none => exact Nat.zero_le _
  | some x => exact splS_size p x (List.mem_of_getElem? e)
theorem spl_some (p : ByteArray) (i : Nat) (x : List UInt8) (h : (spl p.data.toList)[i]? = some x) : i < (splS p).length ∧ x = (sg p i).data.toList := by
  have h1 : i < (splS p).length := by
    rw [← toLs_len, splS_list]
    exact (List.getElem?_eq_some_iff.1 h).1
  exact ⟨h1, by rw [sg_get p i h1] at h; exact (Option.some.inj h).symm⟩
theorem spl_length (p : ByteArray) : (spl p.data.toList).length = (splS p).length := by rw [← toLs_len, splS_list]
theorem str_eq (a b : ByteArray) : (a.toList == b.toList) = (a.data.toList == b.data.toList) := by rw [Lib.toList_data, Lib.toList_data]
theorem str_ne (a b : ByteArray) : (a.toList != b.toList) = (a.data.toList != b.data.toList) := by rw [Lib.toList_data, Lib.toList_data]

theorem right_no (p : ByteArray) (k : Nat) (hk : k < (splS p).length) (h : segS (sg p k) = false) : rightS p = false := by
  unfold rightS rightL
  have : (spl p.data.toList).all segL = false := by
    rw [List.all_eq_false]
    exact ⟨_, List.mem_of_getElem? (sg_get p k hk), by unfold segS at h; simp [h]⟩
  rw [this, Bool.false_and]
theorem right_yes (p : ByteArray) (h : ∀ i, i < (splS p).length → segS (sg p i) = true) : rightS p = decide ((splS p).length ≤ 6) := by
  unfold rightS rightL
  have : (spl p.data.toList).all segL = true := by
    rw [List.all_eq_true]
    intro x hx
    obtain ⟨i, hi⟩ := List.getElem?_of_mem hx
    obtain ⟨h1, rfl⟩ := spl_some p i x hi
    exact h i h1
  rw [this, Bool.true_and, spl_length]

theorem patAll_no : ∀ (L : List (List UInt8)) (k i : Nat) (x : List UInt8), L[i]? = some x → patAt (k + i) x = false → patAll k L = false
  | [], _, _, _, h, _ => by simp at h
  | s :: r, k, 0, x, h, h2 => by
    have : s = x := by simpa using h
    subst this
    rw [Nat.add_zero] at h2
    simp [patAll, h2]
  | s :: r, k, i + 1, x, h, h2 => by
    have := patAll_no r (k + 1) i x (by simpa using h) (by rw [Nat.add_assoc, Nat.add_comm 1 i]; exact h2)
    simp [patAll, this]
theorem patAll_yes : ∀ (L : List (List UInt8)) (k : Nat), (∀ i x, L[i]? = some x → patAt (k + i) x = true) → patAll k L = true
  | [], _, _ => rfl
  | s :: r, k, h => by
    have h0 := h 0 s rfl
    rw [Nat.add_zero] at h0
    have := patAll_yes r (k + 1) (fun i x hx => by rw [Nat.add_assoc, Nat.add_comm 1 i]; exact h (i + 1) x (by simpa using hx))
    simp [patAll, h0, this]
def patK (p : ByteArray) (k : Nat) : Bool := patAt k (sg p k).data.toList
theorem pat_no (p : ByteArray) (k : Nat) (hk : k < (splS p).length) (h : patK p k = false) : patS p = false := by
  unfold patS patL
  rw [patAll_no _ 0 k _ (sg_get p k hk) (by rw [Nat.zero_add]; exact h), Bool.false_and]
theorem pat_yes (p : ByteArray) (h : ∀ i, i < (splS p).length → patK p i = true) : patS p = decide ((splS p).length ≤ 6) := by
  unfold patS patL
  rw [patAll_yes _ 0 (fun i x hx => by
    obtain ⟨h1, rfl⟩ := spl_some p i x hx
    rw [Nat.zero_add]; exact h i h1), Bool.true_and, spl_length]
theorem patK_seg (p : ByteArray) (k : Nat) (h : segS (sg p k) = true) : patK p k = true := by
  unfold patK patAt; unfold segS at h; rw [h, Bool.true_or]
theorem patK_zero (p : ByteArray) (h : segS (sg p 0) = false) : patK p 0 = false := by
  unfold patK patAt; unfold segS at h; rw [h]; rfl
theorem patK_star (p : ByteArray) (k : Nat) (hk : ¬ k = 0) (h : (sg p k).data.toList = [42]) : patK p k = true := by
  unfold patK patAt; rw [h]; simp [hk]
theorem patK_not (p : ByteArray) (k : Nat) (h : segS (sg p k) = false) (h2 : ¬ (sg p k).data.toList = [42]) : patK p k = false := by
  unfold patK patAt; unfold segS at h; rw [h]; simp [h2]
theorem seg_star (s : ByteArray) (h : s.data.toList = [42]) : segS s = false := by unfold segS; rw [h]; rfl

theorem begL_no : ∀ (l m : List (List UInt8)) (k : Nat) (x y : List UInt8), l[k]? = some x → m[k]? = some y → ¬ y = [42] → ¬ y = x → begL l m = false
  | _, [], _, _, _, _, h, _, _ => by simp at h
  | [], _ :: _, _, _, _, h, _, _, _ => by simp at h
  | a :: l, b :: m, 0, x, y, h1, h2, h3, h4 => by
    have e1 : a = x := by simpa using h1
    have e2 : b = y := by simpa using h2
    subst e1; subst e2
    simp [begL, h3, h4]
  | a :: l, b :: m, k + 1, x, y, h1, h2, h3, h4 => by
    have := begL_no l m k x y (by simpa using h1) (by simpa using h2) h3 h4
    simp [begL, this]
theorem begL_yes : ∀ (l m : List (List UInt8)), m.length ≤ l.length → (∀ (k : Nat) (x y : List UInt8), l[k]? = some x → m[k]? = some y → y = [42] ∨ y = x) → begL l m = true
  | _, [], _, _ => by unfold begL; rfl
  | [], _ :: _, h, _ => by simp at h
  | a :: l, b :: m, h, hh => by
    have h0 := hh 0 a b rfl rfl
    have := begL_yes l m (by simpa using h) (fun k x y h1 h2 => hh (k + 1) x y (by simpa using h1) (by simpa using h2))
    simp [begL, this, h0]
theorem beg_short (p q : ByteArray) (h : (splS p).length < (splS q).length) : begS p q = false :=
  begL_short _ _ (by rw [spl_length, spl_length]; exact h)
theorem beg_no (p q : ByteArray) (k : Nat) (h1 : k < (splS p).length) (h2 : k < (splS q).length) (h3 : ¬ (sg q k).data.toList = [42]) (h4 : ¬ (sg q k).data.toList = (sg p k).data.toList) : begS p q = false :=
  begL_no _ _ k _ _ (sg_get p k h1) (sg_get q k h2) h3 h4
theorem beg_yes (p q : ByteArray) (h : (splS q).length ≤ (splS p).length) (hh : ∀ k, k < (splS q).length → (sg q k).data.toList = [42] ∨ (sg q k).data.toList = (sg p k).data.toList) : begS p q = true :=
  begL_yes _ _ (by rw [spl_length, spl_length]; exact h) fun k x y h1 h2 => by
    obtain ⟨_, rfl⟩ := spl_some p k x h1
    obtain ⟨h3, rfl⟩ := spl_some q k y h2
    exact hh k h3
theorem mat_def (p q : ByteArray) : matS p q = ((p.data.toList.count 47 == q.data.toList.count 47) && begS p q) := by
  unfold matS matL begS
  rw [spl_len, spl_len, show (p.data.toList.count 47 + 1 == q.data.toList.count 47 + 1) = (p.data.toList.count 47 == q.data.toList.count 47) by rw [Bool.eq_iff_iff]; simp]

theorem apL_at : ∀ (l m : List (List UInt8)) (k : Nat) (x y : List UInt8), l[k]? = some x → m[k]? = some y → (∀ i, i < k → l[i]? = m[i]?) → ¬ x = y → apL l m = (x != [42] && y != [42])
  | [], _, _, _, _, h, _, _, _ => by simp at h
  | _ :: _, [], _, _, _, _, h, _, _ => by simp at h
  | a :: l, b :: m, 0, x, y, h1, h2, _, h4 => by
    have e1 : a = x := by simpa using h1
    have e2 : b = y := by simpa using h2
    subst e1; subst e2
    unfold apL
    rw [if_neg h4]
  | a :: l, b :: m, k + 1, x, y, h1, h2, h3, h4 => by
    have h0 : a = b := by simpa using h3 0 (by omega)
    unfold apL
    rw [if_pos h0]
    exact apL_at l m k x y (by simpa using h1) (by simpa using h2) (fun i hi => by simpa using h3 (i + 1) (by omega)) h4
theorem apL_end : ∀ (l m : List (List UInt8)), (∀ i, i < l.length → i < m.length → l[i]? = m[i]?) → apL l m = false
  | [], _, _ => by unfold apL; rfl
  | _ :: _, [], _ => by unfold apL; rfl
  | a :: l, b :: m, h => by
    have h0 : a = b := by simpa using h 0 (by simp) (by simp)
    unfold apL
    rw [if_pos h0]
    exact apL_end l m (fun i h1 h2 => by simpa using h (i + 1) (by simpa using h1) (by simpa using h2))
theorem ap_at (p q : ByteArray) (k : Nat) (h1 : k < (splS p).length) (h2 : k < (splS q).length) (h3 : ∀ i, i < k → (sg p i).data.toList = (sg q i).data.toList) (h4 : ¬ (sg p k).data.toList = (sg q k).data.toList) :
    apS p q = ((sg p k).data.toList != [42] && (sg q k).data.toList != [42]) :=
  apL_at _ _ k _ _ (sg_get p k h1) (sg_get q k h2) (fun i hi => by rw [sg_get p i (by omega), sg_get q i (by omega), h3 i hi]) h4
theorem ap_end (p q : ByteArray) (h3 : ∀ i, i < (splS p).length → i < (splS q).length → (sg p i).data.toList = (sg q i).data.toList) : apS p q = false :=
  apL_end _ _ (fun i h1 h2 => by
    rw [spl_length] at h1 h2
    rw [sg_get p i h1, sg_get q i h2, h3 i h1 h2])
end Go.Proofs.Ytepjhijnihjedaa
