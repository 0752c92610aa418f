/-
  What is proved: words for memory that layer 4's contracts use: a world that has all that another one has, block by block ('Ke'); a slice of texts that lies in memory ('Sl'); what a rune of a text is where its byte is small, and where it is not; P4.1 and P4.2 over texts.
-/
import Derived.Test.YtepjhijnihjedaaProg
import Derived.Test.YtepjhijnihjedaaPMath
import Derived.Below
import Derived.WalkSmall
import Derived.OwnWalk
import Derived.Lib.OthersKept
import Derived.Lib.DecodeN
import Derived.Lib.Strings
import Derived.Lib.Hide
namespace Go.Proofs.Ytepjhijnihjedaa
open Go.RowKit

def Ke (w w' : World) : Prop := Below w.heap.size w w'
theorem Ke.refl (w : World) : Ke w w := Below.refl _ _
theorem Ke.size {w w' : World} (h : Ke w w') : w.heap.size ≤ w'.heap.size := Below.size h
theorem Ke.trans {a b c : World} (h : Ke a b) (k : Ke b c) : Ke a c := Below.trans h (Below.mono k h.size)
theorem Ke.cell {w w' : World} (h : Ke w w') {p : Addr} (hp : p.block < w.heap.size) : w'.cell? p = w.cell? p := Below.cell h hp
theorem Ke.at_ {w w' : World} (h : Ke w w') {p : Addr} {v : Value} (hc : w.cell? p = some v) : w'.cell? p = some v := (h.cell (World.block_lt_of_cell? w _ hc)).trans hc
theorem Ke.alloc {a w : World} (h : Ke a w) (o : Obj) : Ke a (w.alloc o) := Below.alloc h h.size o
theorem Ke.drew {a w : World} (h : Ke a w) : Ke a w.drew := Below.drew h
theorem Ke.drewN {a w : World} (h : Ke a w) (n : Nat) : Ke a (w.drewN n) := below_drewN h n
theorem Ke.heap {a w : World} (h : Ke a w) {k : Nat} {o : Obj} (hk : a.heap[k]? = some o) : w.heap[k]? = some o :=
  (Below.block h k (Array.getElem?_eq_some_iff.1 hk).1).trans hk

def strV (x : ByteArray) : Value := .string x
theorem strV_one (L : List ByteArray) : ∀ u ∈ L.map strV, u.oneCell' = true := by
  intro u hu
  obtain ⟨_, _, rfl⟩ := List.mem_map.1 hu
  rfl

/-- n texts L lie at address ad, c have room. -/
def Sl (w : World) (ad : Addr) (n c : Nat) (L : List ByteArray) : Prop :=
  n = L.length ∧ n ≤ c ∧ c ≤ maxLen ∧ ad.block < w.heap.size ∧ ∀ j x, L[j]? = some x → w.cell? (ad.add j) = some (.string x)
theorem Sl.ke {w w' : World} {ad : Addr} {n c : Nat} {L : List ByteArray} (h : Sl w ad n c L) (hk : Ke w w') : Sl w' ad n c L :=
  ⟨h.1, h.2.1, h.2.2.1, Nat.lt_of_lt_of_le h.2.2.2.1 hk.size, fun j x hj => hk.at_ (h.2.2.2.2 j x hj)⟩
theorem Sl.drew {w : World} {ad : Addr} {n c : Nat} {L : List ByteArray} (h : Sl w ad n c L) : Sl w.drew ad n c L := h
theorem Sl.get {w : World} {b o n c : Nat} {L : List ByteArray} (h : Sl w ⟨b, o, none⟩ n c L) {k : Nat} (hk : k < n) : w.cell? ⟨b, o + k, none⟩ = some (.string (L.getD k ⟨#[]⟩)) := by
  have hl : k < L.length := by rw [← h.1]; exact hk
  have := h.2.2.2.2 k L[k] (List.getElem?_eq_getElem hl)
  rw [Addr.add_lit] at this
  rw [this, List.getD_eq_getElem?_getD, List.getElem?_eq_getElem hl]
  rfl
theorem Sl.of_own {w : World} {base n : Nat} {e : TypeId} {v : Value} {L : List ByteArray} (h : w.ownsRow base e 1 v n (L.map strV)) (hn : 0 < n) :
    ∃ g c, v = .slice (some ⟨g, 0, none⟩) n c ∧ base ≤ g ∧ Sl w ⟨g, 0, none⟩ n c L := by
  have hl : L.length = n := by simpa using h.1
  have hc := fun g (hg : v.ownBlock = some g) => h.cells (g := g) hg
  rcases h.2 with ⟨_, h0⟩ | ⟨g, cap, cur, rfl, hb, hg, h1, h2, _⟩
  · omega
  · refine ⟨g, cap, rfl, hb, hl.symm, h1, h2, (Array.getElem?_eq_some_iff.1 hg).1, fun j x hj => ?_⟩
    exact hc g rfl j _ (by rw [List.getElem?_map, hj]; rfl)

theorem ba_ext {a b : ByteArray} (h : a.data.toList = b.data.toList) : a = b := ByteArray.ext (Array.ext' h)
theorem ba_app (a b : ByteArray) : (a ++ b).data.toList = a.data.toList ++ b.data.toList := by rw [ByteArray.data_append, Array.toList_append]
theorem ba_size (a : ByteArray) : a.size = a.data.toList.length := rfl
def ofL (l : List UInt8) : ByteArray := ⟨l.toArray⟩
theorem ofL_list (l : List UInt8) : (ofL l).data.toList = l := rfl
theorem ofL_back (a : ByteArray) : ofL a.data.toList = a := rfl
def toLs (L : List ByteArray) : List (List UInt8) := L.map (·.data.toList)
def ofLs (L : List (List UInt8)) : List ByteArray := L.map ofL
theorem toLs_ofLs (L : List (List UInt8)) : toLs (ofLs L) = L := by
  unfold toLs ofLs
  rw [List.map_map]
  exact List.map_id' L
theorem ofLs_toLs (L : List ByteArray) : ofLs (toLs L) = L := by
  unfold toLs ofLs
  rw [List.map_map]
  exact List.map_id' L
theorem toLs_len (L : List ByteArray) : (toLs L).length = L.length := List.length_map _
theorem toLs_app (L M : List ByteArray) : toLs (L ++ M) = toLs L ++ toLs M := List.map_append
theorem toLs_get (L : List ByteArray) (k : Nat) : (toLs L)[k]? = (L[k]?).map (·.data.toList) := List.getElem?_map

/-- P4.2, over texts. -/
def splS (p : ByteArray) : List ByteArray := ofLs (spl p.data.toList)
theorem splS_list (p : ByteArray) : toLs (splS p) = spl p.data.toList := toLs_ofLs _
theorem splS_len (p : ByteArray) : (splS p).length = p.data.toList.count 47 + 1 := by
  rw [← toLs_len, splS_list, spl_len]
theorem splS_pos (p : ByteArray) : 0 < (splS p).length := by rw [splS_len]; omega
theorem splS_le (p : ByteArray) : (splS p).length ≤ p.size + 1 := by
  rw [splS_len]
  have := List.count_le_length (a := (47 : UInt8)) (l := p.data.toList)
  rw [← ba_size] at this
  omega
theorem splS_size (p : ByteArray) : ∀ x ∈ splS p, x.size ≤ p.size := by
  intro x hx
  obtain ⟨l, hl, rfl⟩ := List.mem_map.1 hx
  exact spl_size _ l hl

/-- What is done behind b0 bytes of p, and that there is no stroke from there up to pos. -/
structure SInv (p : ByteArray) (acc : List ByteArray) (b0 pos : Nat) : Prop where
  le : b0 ≤ pos
  lt : pos ≤ p.size
  no : ∀ i (h : i < p.size), b0 ≤ i → i < pos → p[i] ≠ 47
  eq : toLs acc ++ spl (p.data.toList.drop b0) = spl p.data.toList
  len : acc.length ≤ b0
theorem SInv.start (p : ByteArray) : SInv p [] 0 0 := ⟨Nat.le_refl _, Nat.zero_le _, fun _ _ _ h => absurd h (by omega), rfl, Nat.le_refl _⟩
theorem SInv.move {p : ByteArray} {acc : List ByteArray} {b0 pos : Nat} (h : SInv p acc b0 pos) (n : Nat) (hn : pos + n ≤ p.size) (hb : ∀ i (hi : i < p.size), pos ≤ i → i < pos + n → p[i] ≠ 47) : SInv p acc b0 (pos + n) :=
  ⟨by have := h.le; omega, hn, fun i hi h1 h2 => by
    rcases Nat.lt_or_ge i pos with h3 | h3
    · exact h.no i hi h1 h3
    · exact hb i hi h3 h2, h.eq, h.len⟩
theorem byte_at (p : ByteArray) (i : Nat) (h : i < p.size) : p.data.toList[i]? = some p[i] := by
  rw [List.getElem?_eq_getElem (by simpa using h)]
  rfl
theorem SInv.part {p : ByteArray} {acc : List ByteArray} {b0 pos : Nat} (h : SInv p acc b0 pos) : ∀ c ∈ (p.extract b0 pos).data.toList, c ≠ 47 := by
  intro c hc
  rw [Lib.extract_data] at hc
  obtain ⟨i, hi, he⟩ := List.getElem_of_mem hc
  simp only [List.length_take, List.length_drop] at hi
  have h2 := h.lt
  have hi2 : b0 + i < p.size := by rw [ba_size]; omega
  have e2 : c = p[b0 + i] := by
    rw [← he, List.getElem_take, List.getElem_drop]
    have := byte_at p (b0 + i) hi2
    rw [List.getElem?_eq_getElem (by simpa using hi2)] at this
    exact Option.some.inj this
  rw [e2]
  exact h.no (b0 + i) hi2 (by omega) (by omega)
theorem drop_cut (l : List UInt8) (b0 pos : Nat) (h : b0 ≤ pos) : l.drop b0 = (l.drop b0).take (pos - b0) ++ l.drop pos := by
  conv => lhs; rw [← List.take_append_drop (pos - b0) (l.drop b0)]
  rw [List.drop_drop, show b0 + (pos - b0) = pos by omega]
theorem SInv.cut {p : ByteArray} {acc : List ByteArray} {b0 pos : Nat} (h : SInv p acc b0 pos) (hp : pos < p.size) (hc : p[pos] = 47) : SInv p (acc ++ [p.extract b0 pos]) (pos + 1) (pos + 1) := by
  refine ⟨Nat.le_refl _, hp, fun _ _ h1 h2 => absurd h2 (by omega), ?_, by have := h.len; have := h.le; simp; omega⟩
  have hp' := h.part
  rw [Lib.extract_data] at hp'
  rw [← h.eq, toLs_app, List.append_assoc]
  congr 1
  rw [drop_cut p.data.toList b0 pos h.le, List.drop_eq_getElem_cons (i := pos) (by simpa using hp)]
  have e : p.data.toList[pos]'(by simpa using hp) = 47 := by rw [← hc]; rfl
  rw [e, spl_cut _ _ hp']
  simp [toLs]
theorem SInv.done {p : ByteArray} {acc : List ByteArray} {b0 : Nat} (h : SInv p acc b0 p.size) : acc ++ [p.extract b0 p.size] = splS p := by
  have hp' := h.part
  rw [Lib.extract_data] at hp'
  have e : toLs (acc ++ [p.extract b0 p.size]) = spl p.data.toList := by
    rw [← h.eq, toLs_app]
    congr 1
    have e2 : (p.data.toList.drop b0).take (p.size - b0) = p.data.toList.drop b0 := List.take_of_length_le (by rw [List.length_drop, ← ba_size]; omega)
    rw [e2] at hp'
    rw [spl_none _ hp']
    simp [toLs, e2]
  rw [← ofLs_toLs (acc ++ [p.extract b0 p.size]), e]
  rfl

/-- A rune of a text. -/
theorem get_byte (s : ByteArray) (i : Nat) (h : i < s.size) : s.get! i = s[i] := by
  simp [ByteArray.get!, getElem!_pos, h]
  rfl
theorem rune_wide (s : ByteArray) (pos : Nat) (h : pos < s.size) (hb : 128 ≤ s[pos].toNat) :
    128 ≤ (Utf8.decode s pos).1 ∧ 1 ≤ (Utf8.decode s pos).2 ∧ pos + (Utf8.decode s pos).2 ≤ s.size ∧ ∀ i (hi : i < s.size), pos ≤ i → i < pos + (Utf8.decode s pos).2 → 128 ≤ s[i].toNat := by
  obtain ⟨h1, h2⟩ := decode_high s pos h hb
  refine ⟨h1, h2, ?_⟩
  have g : ∀ k (hk : pos + k < s.size), s.get! (pos + k) = s[pos + k] := fun k hk => get_byte s _ hk
  rw [Lib.decode_at]
  have g0 := get_byte s pos h
  rw [← g0] at hb
  have key : ∀ i (hi : i < s.size), pos ≤ i → i < pos + 1 → 128 ≤ s[i].toNat := fun i hi ha hc => by
    obtain rfl : i = pos := by omega
    rw [← g0]; exact hb
  have step : ∀ n, pos + n < s.size → (s.get! (pos + n)).toNat / 64 = 2 → (∀ i (hi : i < s.size), pos ≤ i → i < pos + n → 128 ≤ s[i].toNat) → ∀ i (hi : i < s.size), pos ≤ i → i < pos + (n + 1) → 128 ≤ s[i].toNat := by
    intro n hn hd ih i hi ha hc
    by_cases e : i = pos + n
    · subst e
      rw [← g n hn]; omega
    · exact ih i hi ha (by omega)
  unfold Lib.decodeN
  split
  · omega
  · split
    · rename_i _ hh
      split
      · exact ⟨by simp only; omega, step 1 (by omega) hh.2.2 key⟩
      · exact ⟨by simp only; omega, key⟩
    · split
      · rename_i _ _ hh
        split
        · exact ⟨by simp only; omega, step 2 (by omega) hh.2.2.2 (step 1 (by omega) hh.2.1.2 key)⟩
        · exact ⟨by simp only; omega, key⟩
      · split
        · rename_i _ _ _ hh
          split
          · exact ⟨by simp only; omega, step 3 (by omega) hh.2.2.2.2 (step 2 (by omega) hh.2.2.1.2 (step 1 (by omega) hh.2.1.2 key))⟩
          · exact ⟨by simp only; omega, key⟩
        · exact ⟨by simp only; omega, key⟩
/-- P4.1, of a rune. -/
theorem rune_okC (s : ByteArray) (pos : Nat) (h : pos < s.size) : okC (Utf8.decode s pos).1 = okC s[pos].toNat := by
  by_cases hb : s[pos].toNat < 128
  · rw [decode_ascii s pos h hb]
  · have h1 := (decode_high s pos h (by omega)).1
    cases e1 : okC (Utf8.decode s pos).1 with
    | true => have := okC_small _ e1; omega
    | false =>
      cases e2 : okC s[pos].toNat with
      | true => have := okC_small _ e2; omega
      | false => rfl
theorem rune_one (s : ByteArray) (pos : Nat) (h : pos < s.size) (hok : okC (Utf8.decode s pos).1 = true) : (Utf8.decode s pos).2 = 1 := by
  by_cases hb : s[pos].toNat < 128
  · rw [decode_ascii s pos h hb]
  · have h1 := (decode_high s pos h (by omega)).1
    have := okC_small _ hok; omega
def segS (s : ByteArray) : Bool := segL s.data.toList
theorem segS_no (s : ByteArray) (i : Nat) (h : i < s.size) (hb : okC s[i].toNat = false) : segS s = false := by
  have : s.data.toList.all (fun c => okC c.toNat) = false := by
    rw [List.all_eq_false]
    exact ⟨s[i], List.mem_of_getElem? (byte_at s i h), by simp [hb]⟩
  unfold segS segL
  rw [this, Bool.false_and]
theorem segS_all (s : ByteArray) (h : ∀ i (hi : i < s.size), okC s[i].toNat = true) : segS s = (!s.data.toList.isEmpty && decide (s.size ≤ 16)) := by
  have : s.data.toList.all (fun c => okC c.toNat) = true := by
    rw [List.all_eq_true]
    intro c hc
    obtain ⟨i, hi, he⟩ := List.getElem_of_mem hc
    have hi2 : i < s.size := hi
    rw [← he]
    exact h i hi2
  unfold segS segL
  rw [this, Bool.true_and]
  rfl
end Go.Proofs.Ytepjhijnihjedaa
