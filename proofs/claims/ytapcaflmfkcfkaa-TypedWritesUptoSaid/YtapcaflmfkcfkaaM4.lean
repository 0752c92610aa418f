/-
  What is proved: plain facts on P4.4 to P4.9 over texts: what a loop over the segments finds is what the document asks.
  path.inSeg, path.Seg and the document's Seg, called with any text, return whether it is a segment (P4.1); the world has new blocks at most.
  the document's own Take of layer 3, called with any text of up to 1000 bytes, returns the same as val.Take; the world has new blocks at most.
  the check on a region's order that region_mix asks (mixB), reckoned by one number's bits in the place of an array: what it finds holds of mixB.
-/
import Derived.Test.YtapcaflmfkcfkaaM3
import Derived.WalkKit
import Derived.WalkSpells
import Derived.WalkLawsBesides
import Derived.LoopTactic
import Derived.RowKit3
import Derived.Outline
import Derived.Test.YtapcaflmfkcfkaaM2
namespace Go.Proofs.Ytapcaflmfkcfkaa.L4
open Go.RowKit

def star : ByteArray := ⟨#[42]⟩
def rightS (p : ByteArray) : Bool := rightL (spl p.data.toList)
def patS (p : ByteArray) : Bool := patL (spl p.data.toList)
def begS (p q : ByteArray) : Bool := begL (spl p.data.toList) (spl q.data.toList)
def matS (p q : ByteArray) : Bool := matL (spl p.data.toList) (spl q.data.toList)
def apS (p q : ByteArray) : Bool := apL (spl p.data.toList) (spl q.data.toList)
/-- The segment at place k. -/
def sg (p : ByteArray) (k : Nat) : ByteArray := (splS p).getD k ⟨#[]⟩
theorem sg_get (p : ByteArray) (k : Nat) (h : k < (splS p).length) : (spl p.data.toList)[k]? = some (sg p k).data.toList := by
  rw [← splS_list, toLs_get, List.getElem?_eq_getElem h]
  unfold sg
  rw [List.getD_eq_getElem?_getD, List.getElem?_eq_getElem h]
  rfl
theorem sg_size (p : ByteArray) (k : Nat) : (sg p k).size ≤ p.size := by
  unfold sg
  rw [List.getD_eq_getElem?_getD]
  cases e : (splS p)[k]? with
  | none => exact Nat.zero_le _
  | some x => exact splS_size p x (List.mem_of_getElem? e)
theorem spl_some (p : ByteArray) (i : Nat) (x : List UInt8) (h : (spl p.data.toList)[i]? = some x) : i < (splS p).length ∧ x = (sg p i).data.toList := by
  have h1 : i < (splS p).length := by
    rw [← toLs_len, splS_list]
    exact (List.getElem?_eq_some_iff.1 h).1
  exact ⟨h1, by rw [sg_get p i h1] at h; exact (Option.some.inj h).symm⟩
theorem spl_length (p : ByteArray) : (spl p.data.toList).length = (splS p).length := by rw [← toLs_len, splS_list]
theorem str_eq (a b : ByteArray) : (a.toList == b.toList) = (a.data.toList == b.data.toList) := by rw [Lib.toList_data, Lib.toList_data]
theorem str_ne (a b : ByteArray) : (a.toList != b.toList) = (a.data.toList != b.data.toList) := by rw [Lib.toList_data, Lib.toList_data]

theorem right_no (p : ByteArray) (k : Nat) (hk : k < (splS p).length) (h : segS (sg p k) = false) : rightS p = false := by
  unfold rightS rightL
  have : (spl p.data.toList).all segL = false := by
    rw [List.all_eq_false]
    exact ⟨_, List.mem_of_getElem? (sg_get p k hk), by unfold segS at h; simp [h]⟩
  rw [this, Bool.false_and]
theorem right_yes (p : ByteArray) (h : ∀ i, i < (splS p).length → segS (sg p i) = true) : rightS p = decide ((splS p).length ≤ 6) := by
  unfold rightS rightL
  have : (spl p.data.toList).all segL = true := by
    rw [List.all_eq_true]
    intro x hx
    obtain ⟨i, hi⟩ := List.getElem?_of_mem hx
    obtain ⟨h1, rfl⟩ := spl_some p i x hi
    exact h i h1
  rw [this, Bool.true_and, spl_length]

theorem patAll_no : ∀ (L : List (List UInt8)) (k i : Nat) (x : List UInt8), L[i]? = some x → patAt (k + i) x = false → patAll k L = false
  | [], _, _, _, h, _ => by simp at h
  | s :: r, k, 0, x, h, h2 => by
    have : s = x := by simpa using h
    subst this
    rw [Nat.add_zero] at h2
    simp [patAll, h2]
  | s :: r, k, i + 1, x, h, h2 => by
    have := patAll_no r (k + 1) i x (by simpa using h) (by rw [Nat.add_assoc, Nat.add_comm 1 i]; exact h2)
    simp [patAll, this]
theorem patAll_yes : ∀ (L : List (List UInt8)) (k : Nat), (∀ i x, L[i]? = some x → patAt (k + i) x = true) → patAll k L = true
  | [], _, _ => rfl
  | s :: r, k, h => by
    have h0 := h 0 s rfl
    rw [Nat.add_zero] at h0
    have := patAll_yes r (k + 1) (fun i x hx => by rw [Nat.add_assoc, Nat.add_comm 1 i]; exact h (i + 1) x (by simpa using hx))
    simp [patAll, h0, this]
def patK (p : ByteArray) (k : Nat) : Bool := patAt k (sg p k).data.toList
theorem pat_no (p : ByteArray) (k : Nat) (hk : k < (splS p).length) (h : patK p k = false) : patS p = false := by
  unfold patS patL
  rw [patAll_no _ 0 k _ (sg_get p k hk) (by rw [Nat.zero_add]; exact h), Bool.false_and]
theorem pat_yes (p : ByteArray) (h : ∀ i, i < (splS p).length → patK p i = true) : patS p = decide ((splS p).length ≤ 6) := by
  unfold patS patL
  rw [patAll_yes _ 0 (fun i x hx => by
    obtain ⟨h1, rfl⟩ := spl_some p i x hx
    rw [Nat.zero_add]; exact h i h1), Bool.true_and, spl_length]
theorem patK_seg (p : ByteArray) (k : Nat) (h : segS (sg p k) = true) : patK p k = true := by
  unfold patK patAt; unfold segS at h; rw [h, Bool.true_or]
theorem patK_zero (p : ByteArray) (h : segS (sg p 0) = false) : patK p 0 = false := by
  unfold patK patAt; unfold segS at h; rw [h]; rfl
theorem patK_star (p : ByteArray) (k : Nat) (hk : ¬ k = 0) (h : (sg p k).data.toList = [42]) : patK p k = true := by
  unfold patK patAt; rw [h]; simp [hk]
theorem patK_not (p : ByteArray) (k : Nat) (h : segS (sg p k) = false) (h2 : ¬ (sg p k).data.toList = [42]) : patK p k = false := by
  unfold patK patAt; unfold segS at h; rw [h]; simp [h2]
theorem seg_star (s : ByteArray) (h : s.data.toList = [42]) : segS s = false := by unfold segS; rw [h]; rfl

theorem begL_no : ∀ (l m : List (List UInt8)) (k : Nat) (x y : List UInt8), l[k]? = some x → m[k]? = some y → ¬ y = [42] → ¬ y = x → begL l m = false
  | _, [], _, _, _, _, h, _, _ => by simp at h
  | [], _ :: _, _, _, _, h, _, _, _ => by simp at h
  | a :: l, b :: m, 0, x, y, h1, h2, h3, h4 => by
    have e1 : a = x := by simpa using h1
    have e2 : b = y := by simpa using h2
    subst e1; subst e2
    simp [begL, h3, h4]
  | a :: l, b :: m, k + 1, x, y, h1, h2, h3, h4 => by
    have := begL_no l m k x y (by simpa using h1) (by simpa using h2) h3 h4
    simp [begL, this]
theorem begL_yes : ∀ (l m : List (List UInt8)), m.length ≤ l.length → (∀ (k : Nat) (x y : List UInt8), l[k]? = some x → m[k]? = some y → y = [42] ∨ y = x) → begL l m = true
  | _, [], _, _ => by unfold begL; rfl
  | [], _ :: _, h, _ => by simp at h
  | a :: l, b :: m, h, hh => by
    have h0 := hh 0 a b rfl rfl
    have := begL_yes l m (by simpa using h) (fun k x y h1 h2 => hh (k + 1) x y (by simpa using h1) (by simpa using h2))
    simp [begL, this, h0]
theorem beg_short (p q : ByteArray) (h : (splS p).length < (splS q).length) : begS p q = false :=
  begL_short _ _ (by rw [spl_length, spl_length]; exact h)
theorem beg_no (p q : ByteArray) (k : Nat) (h1 : k < (splS p).length) (h2 : k < (splS q).length) (h3 : ¬ (sg q k).data.toList = [42]) (h4 : ¬ (sg q k).data.toList = (sg p k).data.toList) : begS p q = false :=
  begL_no _ _ k _ _ (sg_get p k h1) (sg_get q k h2) h3 h4
theorem beg_yes (p q : ByteArray) (h : (splS q).length ≤ (splS p).length) (hh : ∀ k, k < (splS q).length → (sg q k).data.toList = [42] ∨ (sg q k).data.toList = (sg p k).data.toList) : begS p q = true :=
  begL_yes _ _ (by rw [spl_length, spl_length]; exact h) fun k x y h1 h2 => by
    obtain ⟨_, rfl⟩ := spl_some p k x h1
    obtain ⟨h3, rfl⟩ := spl_some q k y h2
    exact hh k h3
theorem mat_def (p q : ByteArray) : matS p q = ((p.data.toList.count 47 == q.data.toList.count 47) && begS p q) := by
  unfold matS matL begS
  rw [spl_len, spl_len, show (p.data.toList.count 47 + 1 == q.data.toList.count 47 + 1) = (p.data.toList.count 47 == q.data.toList.count 47) by rw [Bool.eq_iff_iff]; simp]

theorem apL_at : ∀ (l m : List (List UInt8)) (k : Nat) (x y : List UInt8), l[k]? = some x → m[k]? = some y → (∀ i, i < k → l[i]? = m[i]?) → ¬ x = y → apL l m = (x != [42] && y != [42])
  | [], _, _, _, _, h, _, _, _ => by simp at h
  | _ :: _, [], _, _, _, _, h, _, _ => by simp at h
  | a :: l, b :: m, 0, x, y, h1, h2, _, h4 => by
    have e1 : a = x := by simpa using h1
    have e2 : b = y := by simpa using h2
    subst e1; subst e2
    unfold apL
    rw [if_neg h4]
  | a :: l, b :: m, k + 1, x, y, h1, h2, h3, h4 => by
    have h0 : a = b := by simpa using h3 0 (by omega)
    unfold apL
    rw [if_pos h0]
    exact apL_at l m k x y (by simpa using h1) (by simpa using h2) (fun i hi => by simpa using h3 (i + 1) (by omega)) h4
theorem apL_end : ∀ (l m : List (List UInt8)), (∀ i, i < l.length → i < m.length → l[i]? = m[i]?) → apL l m = false
  | [], _, _ => by unfold apL; rfl
  | _ :: _, [], _ => by unfold apL; rfl
  | a :: l, b :: m, h => by
    have h0 : a = b := by simpa using h 0 (by simp) (by simp)
    unfold apL
    rw [if_pos h0]
    exact apL_end l m (fun i h1 h2 => by simpa using h (i + 1) (by simpa using h1) (by simpa using h2))
theorem ap_at (p q : ByteArray) (k : Nat) (h1 : k < (splS p).length) (h2 : k < (splS q).length) (h3 : ∀ i, i < k → (sg p i).data.toList = (sg q i).data.toList) (h4 : ¬ (sg p k).data.toList = (sg q k).data.toList) :
    apS p q = ((sg p k).data.toList != [42] && (sg q k).data.toList != [42]) :=
  apL_at _ _ k _ _ (sg_get p k h1) (sg_get q k h2) (fun i hi => by rw [sg_get p i (by omega), sg_get q i (by omega), h3 i hi]) h4
theorem ap_end (p q : ByteArray) (h3 : ∀ i, i < (splS p).length → i < (splS q).length → (sg p i).data.toList = (sg q i).data.toList) : apS p q = false :=
  apL_end _ _ (fun i h1 h2 => by
    rw [spl_length] at h1 h2
    rw [sg_get p i h1, sg_get q i h2, h3 i h1 h2])
end Go.Proofs.Ytapcaflmfkcfkaa.L4

namespace Go.Proofs.Ytapcaflmfkcfkaa.L4
open Go.RowKit

theorem ret_bool {a b : Bool} (h : a = b) : Ending.returned (.bool a) = .returned (.bool b) := by rw [h]
theorem okC_cases (c : Nat) : (c < 48 ∧ okC c = false) ∨ (48 ≤ c ∧ c ≤ 57 ∧ okC c = true) ∨ (57 < c ∧ c < 95 ∧ okC c = false) ∨ (c = 95 ∧ okC c = true) ∨ (c = 96 ∧ okC c = false) ∨ (97 ≤ c ∧ c ≤ 122 ∧ okC c = true) ∨ (122 < c ∧ okC c = false) := by
  by_cases h1 : 97 ≤ c ∧ c ≤ 122 ∨ 48 ≤ c ∧ c ≤ 57 ∨ c = 95
  · have h : okC c = true := decide_eq_true h1
    rcases h1 with h1 | h1 | h1
    · exact .inr (.inr (.inr (.inr (.inr (.inl ⟨h1.1, h1.2, h⟩)))))
    · exact .inr (.inl ⟨h1.1, h1.2, h⟩)
    · exact .inr (.inr (.inr (.inl ⟨h1, h⟩)))
  · have h : okC c = false := decide_eq_false h1
    simp only [h]
    simp
    omega
theorem text_none {t : ByteArray} (h : t.size = 0) : t.toList = [] := by
  rw [Lib.toList_data]; exact List.eq_nil_of_length_eq_zero h
theorem text_some {t : ByteArray} (h : ¬ t.size = 0) : t.toList ≠ [] ∧ t.toList.isEmpty = false ∧ (t.toList == []) = false := by
  have : t.toList ≠ [] := by rw [Lib.toList_data]; intro e; exact h (by rw [ba_size, e]; rfl)
  refine ⟨this, by simpa using this, by simpa using this⟩
theorem segS_nil {t : ByteArray} (h : t.size = 0) : segS t = false := by
  have : t.data.toList = [] := List.eq_nil_of_length_eq_zero h
  unfold segS; rw [this]; rfl
theorem segS_few {s : ByteArray} (h : ∀ i (hi : i < s.size), okC s[i].toNat = true) (h0 : ¬ s.size = 0) : segS s = decide (s.size ≤ 16) := by
  rw [segS_all s h]
  have : s.data.toList.isEmpty = false := by
    rw [List.isEmpty_eq_false_iff]; intro e; exact h0 (by rw [ba_size, e]; rfl)
  rw [this]; rfl

set_option maxRecDepth 100000 in
set_option maxHeartbeats 1000000 in
theorem inSeg_any (c : Nat) (w : World) (hc : c ≤ 2147483647) :
    Calls Try.prog 55 #[.int .i32 c] w fun e w' => e = .returned (.bool (okC c)) ∧ w = w' := by
  rcases okC_cases c with ⟨h1, h2⟩ | ⟨h0, h1, h2⟩ | ⟨h0, h1, h2⟩ | ⟨h1, h2⟩ | ⟨h1, h2⟩ | ⟨h0, h1, h2⟩ | ⟨h1, h2⟩
  all_goals (have H := Lib.hid h2; clear h2)
  · have n5 : ((c : Int) == 95) = false := beq_eq_false_iff_ne.2 (by omega)
    go_enter Try.func55, Try.ntmps55
    go_wp2
    go_ret
    exact ⟨ret_bool (by rw [H.out] <;> (simp; omega)), rfl⟩
  · have n5 : ((c : Int) == 95) = false := beq_eq_false_iff_ne.2 (by omega)
    go_enter Try.func55, Try.ntmps55
    go_wp2
    go_ret
    exact ⟨ret_bool (by rw [H.out] <;> (simp; omega)), rfl⟩
  · have n5 : ((c : Int) == 95) = false := beq_eq_false_iff_ne.2 (by omega)
    go_enter Try.func55, Try.ntmps55
    go_wp2
    go_ret
    exact ⟨ret_bool (by rw [H.out] <;> (simp; omega)), rfl⟩
  · subst h1
    go_enter Try.func55, Try.ntmps55
    go_wp2
    go_ret
    exact ⟨ret_bool (by rw [H.out] <;> (simp; omega)), rfl⟩
  · subst h1
    go_enter Try.func55, Try.ntmps55
    go_wp2
    go_ret
    exact ⟨ret_bool (by rw [H.out] <;> (simp; omega)), rfl⟩
  · have n5 : ((c : Int) == 95) = false := beq_eq_false_iff_ne.2 (by omega)
    go_enter Try.func55, Try.ntmps55
    go_wp2
    go_ret
    exact ⟨ret_bool (by rw [H.out] <;> (simp; omega)), rfl⟩
  · have n5 : ((c : Int) == 95) = false := beq_eq_false_iff_ne.2 (by omega)
    go_enter Try.func55, Try.ntmps55
    go_wp2
    go_ret
    exact ⟨ret_bool (by rw [H.out] <;> (simp; omega)), rfl⟩
theorem inSeg_c (c : Nat) (b : Bool) (hb : okC c = b) (hc : c ≤ 2147483647) (w : World) :
    Calls Try.prog 55 #[.int .i32 c] w fun e w' => e = .returned (.bool b) ∧ w = w' := by
  subst hb; exact inSeg_any c w hc

theorem ke_iter (w : World) (s : ByteArray) (pos : Nat) : Ke w (w.iter s pos) := (Ke.refl w).alloc _

set_option maxRecDepth 100000 in
set_option maxHeartbeats 2000000 in
theorem seg_any (s : ByteArray) (w : World) (hs : s.size ≤ 9223372036854775807) :
    Calls Try.prog 45 #[.string s] w fun e w' => e = .returned (.bool (segS s)) ∧ Ke w w' := by
  go_enter Try.func45, Try.ntmps45
  go_wp2
  go_loopw [] (fun wr => ∃ pos : Nat, pos ≤ s.size ∧ wr = w.iter s pos ∧ ∀ i (hi : i < s.size), i < pos → okC s[i].toNat = true) (fun wr => s.size - wr.iterPos w.heap.size)
  case atStart => exact ⟨0, Nat.zero_le _, rfl, fun i hi h => absurd h (by omega)⟩
  case round =>
    obtain ⟨pos, hle, rfl, hok⟩ := hrel
    have HO := Lib.hid hok
    clear hok
    by_cases hp : pos < s.size
    · have hnx : ∀ ty, (Instr.next (.pointer (some ⟨w.heap.size, 0, none⟩)) true ty).run Try.prog (w.iter s pos) = _ := fun ty => run_next_any w s pos ty hp
      have hd1 := decode_le s pos
      have HR := Lib.hid (rune_okC s pos hp)
      cases hb : okC (Utf8.decode s pos).1 with
      | true =>
        have HW := Lib.hid (rune_one s pos hp hb)
        have HB := Lib.hid hb
        clear hb
        go_wp2_with (go_at_call 55; ((with_reducible refine (inSeg_c _ true HB.out hd1 _).mono ?_); rintro e w' ⟨rfl, rfl⟩))
        go_roundw
        case rel =>
          refine ⟨pos + 1, by omega, by rw [HW.out], fun i hi h => ?_⟩
          rcases Nat.lt_or_ge i pos with h3 | h3
          · exact HO.out i hi h3
          · obtain rfl : i = pos := by omega
            rw [← HR.out]; exact HB.out
        case measure => rw [World.iterPos_iter, World.iterPos_iter, HW.out]; omega
      | false =>
        have HB := Lib.hid hb
        clear hb
        go_wp2_with (go_at_call 55; ((with_reducible refine (inSeg_c _ false HB.out hd1 _).mono ?_); rintro e w' ⟨rfl, rfl⟩))
        go_ret
        exact ⟨ret_bool (segS_no s pos hp (by rw [← HR.out]; exact HB.out)).symm, ke_iter _ _ _⟩
    · have hnx : ∀ ty, (Instr.next (.pointer (some ⟨w.heap.size, 0, none⟩)) true ty).run Try.prog (w.iter s pos) = _ := fun ty => run_next_end w s pos ty hp
      have HO2 := Lib.hid (fun i hi => HO.out i hi (show i < pos by omega))
      by_cases h0 : s.size = 0
      · have h1 := text_none h0
        have HZ := Lib.hid (segS_nil h0)
        clear h0
        go_wp2
        go_ret
        exact ⟨ret_bool HZ.out.symm, ke_iter _ _ _⟩
      · obtain ⟨h1, h2, h3⟩ := text_some h0
        have HZ := Lib.hid (segS_few HO2.out h0)
        go_wp2
        go_ret
        exact ⟨ret_bool (by rw [HZ.out, decide_eq_decide]; omega), ke_iter _ _ _⟩

set_option maxRecDepth 100000 in
set_option maxHeartbeats 4000000 in
theorem rseg_any (s : ByteArray) (w : World) (hs : s.size ≤ 9223372036854775807) :
    Calls Try.prog 47 #[.string s] w fun e w' => e = .returned (.bool (segS s)) ∧ Ke w w' := by
  go_enter Try.func47, Try.ntmps47
  go_wp2
  go_loopw [] (fun wr => ∃ pos : Nat, pos ≤ s.size ∧ wr = w.iter s pos ∧ ∀ i (hi : i < s.size), i < pos → okC s[i].toNat = true) (fun wr => s.size - wr.iterPos w.heap.size)
  case atStart => exact ⟨0, Nat.zero_le _, rfl, fun i hi h => absurd h (by omega)⟩
  case round =>
    obtain ⟨pos, hle, rfl, hok⟩ := hrel
    have HO := Lib.hid hok
    clear hok
    by_cases hp : pos < s.size
    · have hnx : ∀ ty, (Instr.next (.pointer (some ⟨w.heap.size, 0, none⟩)) true ty).run Try.prog (w.iter s pos) = _ := fun ty => run_next_any w s pos ty hp
      have hd1 := decode_le s pos
      have HR := Lib.hid (rune_okC s pos hp)
      have HW : okC (Utf8.decode s pos).1 = true → (Utf8.decode s pos).2 = 1 := rune_one s pos hp
      generalize hcc : (Utf8.decode s pos).1 = c at hnx hd1 HR HW
      generalize hww : (Utf8.decode s pos).2 = wd at hnx HW
      clear hcc hww
      have HW := Lib.hid HW
      have HI : okC c = true → ∀ i (hi : i < s.size), i < pos + 1 → okC s[i].toNat = true := fun hk i hi h => by
        rcases Nat.lt_or_ge i pos with h3 | h3
        · exact HO.out i hi h3
        · obtain rfl : i = pos := by omega
          rw [← HR.out]; exact hk
      have HI := Lib.hid HI
      have HN : okC c = false → segS s = false := fun hk => segS_no s pos hp (by rw [← HR.out]; exact hk)
      have HN := Lib.hid HN
      rcases okC_cases c with ⟨h1, h2⟩ | ⟨h0, h1, h2⟩ | ⟨h0, h1, h2⟩ | ⟨h1, h2⟩ | ⟨h1, h2⟩ | ⟨h0, h1, h2⟩ | ⟨h1, h2⟩
      · have n5 : ((c : Int) != 95) = true := bne_iff_ne.2 (by omega)
        have H := Lib.hid h2
        clear h2
        go_wp2
        go_ret
        exact ⟨ret_bool (HN.out H.out).symm, ke_iter _ _ _⟩
      · have H := Lib.hid h2
        clear h2
        go_wp2
        go_roundw
        case rel => exact ⟨pos + 1, by omega, by rw [HW.out H.out], HI.out H.out⟩
        case measure => rw [World.iterPos_iter, World.iterPos_iter, HW.out H.out]; omega
      · have n5 : ((c : Int) != 95) = true := bne_iff_ne.2 (by omega)
        have H := Lib.hid h2
        clear h2
        go_wp2
        go_ret
        exact ⟨ret_bool (HN.out H.out).symm, ke_iter _ _ _⟩
      · subst h1
        have H := Lib.hid h2
        clear h2
        go_wp2
        go_roundw
        case rel => exact ⟨pos + 1, by omega, by rw [HW.out H.out], HI.out H.out⟩
        case measure => rw [World.iterPos_iter, World.iterPos_iter, HW.out H.out]; omega
      · subst h1
        have H := Lib.hid h2
        clear h2
        go_wp2
        go_ret
        exact ⟨ret_bool (HN.out H.out).symm, ke_iter _ _ _⟩
      · have H := Lib.hid h2
        clear h2
        go_wp2
        go_roundw
        case rel => exact ⟨pos + 1, by omega, by rw [HW.out H.out], HI.out H.out⟩
        case measure => rw [World.iterPos_iter, World.iterPos_iter, HW.out H.out]; omega
      · have n5 : ((c : Int) != 95) = true := bne_iff_ne.2 (by omega)
        have H := Lib.hid h2
        clear h2
        go_wp2
        go_ret
        exact ⟨ret_bool (HN.out H.out).symm, ke_iter _ _ _⟩
    · have hnx : ∀ ty, (Instr.next (.pointer (some ⟨w.heap.size, 0, none⟩)) true ty).run Try.prog (w.iter s pos) = _ := fun ty => run_next_end w s pos ty hp
      have HO2 := Lib.hid (fun i hi => HO.out i hi (show i < pos by omega))
      by_cases h0 : s.size = 0
      · have h1 := text_none h0
        have HZ := Lib.hid (segS_nil h0)
        clear h0
        go_wp2
        go_ret
        exact ⟨ret_bool HZ.out.symm, ke_iter _ _ _⟩
      · obtain ⟨h1, h2, h3⟩ := text_some h0
        have HZ := Lib.hid (segS_few HO2.out h0)
        go_wp2
        go_ret
        exact ⟨ret_bool (by rw [HZ.out, decide_eq_decide]; omega), ke_iter _ _ _⟩
theorem seg_c (s : ByteArray) (b : Bool) (hb : segS s = b) (hs : s.size ≤ 9223372036854775807) (w : World) :
    Calls Try.prog 45 #[.string s] w fun e w' => e = .returned (.bool b) ∧ Ke w w' := by
  subst hb; exact seg_any s w hs
theorem rseg_c (s : ByteArray) (b : Bool) (hb : segS s = b) (hs : s.size ≤ 9223372036854775807) (w : World) :
    Calls Try.prog 47 #[.string s] w fun e w' => e = .returned (.bool b) ∧ Ke w w' := by
  subst hb; exact rseg_any s w hs
end Go.Proofs.Ytapcaflmfkcfkaa.L4

namespace Go.Proofs.Ytapcaflmfkcfkaa
open Go.RowKit

end Go.Proofs.Ytapcaflmfkcfkaa

namespace Go.Proofs.Ytapcaflmfkcfkaa
open Go.RowKit

def bits (n m : Nat) : Array Bool := ((List.range n).map (Nat.testBit m)).toArray
theorem bits_size (n m : Nat) : (bits n m).size = n := by simp [bits]
theorem bits_getD (n m j : Nat) (d : Bool) : (bits n m).getD j d = if j < n then m.testBit j else d := by
  rw [Array.getD_eq_getD_getElem?]
  unfold bits
  rw [List.getElem?_toArray, List.getElem?_map]
  by_cases h : j < n
  · rw [if_pos h, List.getElem?_range h]; rfl
  · rw [if_neg h, List.getElem?_eq_none (by rw [List.length_range]; omega)]; rfl
theorem bits_set (n m i : Nat) : (bits n m).setIfInBounds i true = bits n (m ||| 2 ^ i) := by
  apply Array.ext
  · simp [bits]
  · intro j h1 h2
    have hj : j < n := by simpa [bits] using h2
    rw [Array.getElem_setIfInBounds (by simpa [bits] using hj)]
    simp only [bits, List.getElem_toArray, List.getElem_map, List.getElem_range, Nat.testBit_or, Nat.testBit_two_pow]
    by_cases e : i = j
    · simp [e]
    · simp [e]
theorem bits_none (n : Nat) : Array.replicate n false = bits n 0 := by
  apply Array.ext
  · simp [bits]
  · intro j h1 h2
    simp [bits]

def isReady (ops : Array Oper) (n m i : Nat) : Bool :=
  !m.testBit i && match ops[i]? with
    | some o => o.after.all fun e => !Region.binds .any e || (Nat.blt e.on n && m.testBit e.on)
    | none => false
def isFree (ops : Array Oper) (n m i : Nat) : Bool :=
  match ops[i]? with
  | none => false
  | some oi => (List.range n).all fun j => j == i || m.testBit j || match ops[j]? with
      | some oj => oj.after.any (fun e => Region.binds .any e && e.on == i) || oi.apart ops oj
      | none => true
def isPlain (ops : Array Oper) (i : Nat) : Bool := match ops[i]? with | some o => plainOp o.op | none => false
def quietF (ops : Array Oper) (n : Nat) : List Nat → Nat → Option Nat
  | [], m => some m
  | i :: r, m => if (Nat.blt i n && isReady ops n m i && isFree ops n m i && isPlain ops i) = true then quietF ops n r (m ||| 2 ^ i) else none
def mixF (ops : Array Oper) (n : Nat) : List (List Nat × Option Nat) → Nat → Bool
  | [], m => (List.range n).all fun j => !isReady ops n m j
  | (l, x) :: r, m => match quietF ops n l m with
    | none => false
    | some y => match x with
      | none => mixF ops n r y
      | some i => Nat.blt i n && (List.range n).all (fun j => isReady ops n y j == (j == i)) && (ops[i]?).isSome && mixF ops n r (y ||| 2 ^ i)

theorem ready_bits (ops : Array Oper) (m : Nat) : Region.ready .any ops (bits ops.size m) = (List.range ops.size).filter fun i => isReady ops ops.size m i := by
  unfold Region.ready
  apply List.filter_congr
  intro i hi
  have hi' : i < ops.size := List.mem_range.1 hi
  unfold isReady
  rw [bits_getD, if_pos hi']
  congr 1
  rw [Array.getElem?_eq_getElem hi']
  simp only [Option.map_some, Option.getD_some]
  congr 1
  funext e
  rw [bits_getD]
  by_cases h : e.on < ops.size
  · rw [if_pos h, show Nat.blt e.on ops.size = true by rw [Nat.blt_eq]; exact h, Bool.true_and]
  · rw [if_neg h, show Nat.blt e.on ops.size = false by rw [Bool.eq_false_iff, Ne, Nat.blt_eq]; exact h, Bool.false_and]
theorem free_bits (ops : Array Oper) (m i : Nat) : Region.free .any ops (bits ops.size m) i = isFree ops ops.size m i := by
  unfold Region.free isFree
  cases ops[i]? with
  | none => rfl
  | some oi =>
    simp only
    rw [Bool.eq_iff_iff, List.all_eq_true, List.all_eq_true]
    have hb : ∀ j, j ∈ List.range ops.size → (bits ops.size m).getD j true = m.testBit j := fun j hj => by
      rw [bits_getD, if_pos (List.mem_range.1 hj)]
    constructor
    · intro h j hj
      have := h j hj
      rwa [hb j hj] at this
    · intro h j hj
      rw [hb j hj]
      exact h j hj
theorem filter_one {n i : Nat} {p : Nat → Bool} (hi : i < n) (h : ∀ j, j < n → p j = (j == i)) : (List.range n).filter p = [i] := by
  rw [List.filter_congr (q := fun j => j == i) (fun j hj => h j (List.mem_range.1 hj))]
  induction n with
  | zero => omega
  | succ n ih =>
    rw [List.range_succ, List.filter_append]
    by_cases e : i = n
    · subst e
      rw [List.filter_eq_nil_iff.2 (fun j hj => by have := List.mem_range.1 hj; simp; omega)]
      simp
    · rw [ih (by omega) (fun j hj => h j (by omega))]
      simp [Ne.symm e]
theorem quietF_B (ops : Array Oper) : ∀ (l : List Nat) (m y : Nat), quietF ops ops.size l m = some y → quietB ops l (bits ops.size m) = some (bits ops.size y)
  | [], m, y, h => by
    simp only [quietF, Option.some.injEq] at h
    subst h; rfl
  | i :: r, m, y, h => by
    simp only [quietF] at h
    split at h
    · rename_i hc
      rw [Bool.and_eq_true, Bool.and_eq_true, Bool.and_eq_true, Nat.blt_eq] at hc
      obtain ⟨⟨⟨hi, hr⟩, hf⟩, hp⟩ := hc
      have hok : okAt ops (bits ops.size m) i = true := by
        unfold okAt
        rw [Bool.and_eq_true, Bool.and_eq_true]
        refine ⟨?_, by rw [free_bits]; exact hf, hp⟩
        rw [ready_bits, List.contains_iff_mem, List.mem_filter]
        exact ⟨List.mem_range.2 hi, hr⟩
      simp only [quietB]
      rw [if_pos hok, bits_set]
      exact quietF_B ops r _ y h
    · cases h
theorem mixF_B (ops : Array Oper) : ∀ (S : List (List Nat × Option Nat)) (m : Nat), mixF ops ops.size S m = true → mixB ops S (bits ops.size m) = true
  | [], m, h => by
    simp only [mixF, List.all_eq_true, Bool.not_eq_true'] at h
    simp only [mixB, List.isEmpty_iff]
    rw [ready_bits, List.filter_eq_nil_iff]
    intro j hj
    rw [h j hj]
    simp
  | (l, x) :: r, m, h => by
    simp only [mixF] at h
    cases hq : quietF ops ops.size l m with
    | none => rw [hq] at h; simp at h
    | some y =>
      rw [hq] at h
      simp only [mixB, quietF_B ops l m y hq]
      cases x with
      | none => exact mixF_B ops r y h
      | some i =>
        simp only [Bool.and_eq_true, Nat.blt_eq, List.all_eq_true, beq_iff_eq] at h
        obtain ⟨⟨⟨hi, ha⟩, hs⟩, hm⟩ := h
        simp only [Bool.and_eq_true, beq_iff_eq]
        refine ⟨⟨?_, hs⟩, by rw [bits_set]; exact mixF_B ops r _ hm⟩
        rw [ready_bits]
        exact filter_one hi fun j hj => ha j (List.mem_range.2 hj)
theorem mix_fast {l : List Oper} {S : List (List Nat × Option Nat)} (n : Nat) (hn : l.length = n) (h : mixF l.toArray n S 0 = true) : mixB l.toArray S (Array.replicate l.length false) = true := by
  subst hn
  have := mixF_B l.toArray S 0 (by rw [List.size_toArray]; exact h)
  rwa [List.size_toArray, ← bits_none] at this
end Go.Proofs.Ytapcaflmfkcfkaa

