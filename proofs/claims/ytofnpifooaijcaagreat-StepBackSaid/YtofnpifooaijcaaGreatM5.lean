/-
  What is proved: plain facts on the document's paths (P4.1 to P4.11), on lists of bytes alone; no program is spoken of here.
  words for memory that layer 4's contracts use: a world that has all that another one has, block by block ('Ke'); a slice of texts that lies in memory ('Sl'); what a rune of a text is where its byte is small, and where it is not; P4.1 and P4.2 over texts.
  plain facts on P4.4 to P4.9 over texts: what a loop over the segments finds is what the document asks.
  path.inSeg, path.Seg and the document's Seg, called with any text, return whether it is a segment (P4.1); the world has new blocks at most.
  the document's own Take of layer 3, called with any text of up to 1000 bytes, returns the same as val.Take; the world has new blocks at most.
-/
import Derived.Lib.Join
import Derived.Test.YtofnpifooaijcaaGreatProg
import Derived.Below
import Derived.WalkSmall
import Derived.OwnWalk
import Derived.Lib.OthersKept
import Derived.Lib.DecodeN
import Derived.Lib.Strings
import Derived.Lib.Hide
import Derived.WalkKit
import Derived.WalkSpells
import Derived.WalkLawsBesides
import Derived.LoopTactic
import Derived.RowKit3
import Derived.Outline
import Derived.Test.YtofnpifooaijcaaGreatM3
namespace Go.Proofs.YtofnpifooaijcaaGreat.L4
def spl : List UInt8 → List (List UInt8)
  | [] => [[]]
  | c :: r => if c = 47 then [] :: spl r else match spl r with
    | [] => [[c]]
    | s :: t => (c :: s) :: t
theorem spl_ne (l : List UInt8) : spl l ≠ [] := by
  cases l with
  | nil => simp [spl]
  | cons c r =>
    unfold spl
    split
    · simp
    · split <;> simp
theorem spl_stroke (r : List UInt8) : spl (47 :: r) = [] :: spl r := by simp [spl]
theorem spl_plain (c : UInt8) (r : List UInt8) (h : c ≠ 47) : ∃ s t, spl r = s :: t ∧ spl (c :: r) = (c :: s) :: t := by
  cases e : spl r with
  | nil => exact absurd e (spl_ne r)
  | cons s t => exact ⟨s, t, rfl, by simp only [spl, if_neg h, e]⟩
theorem spl_none : ∀ (l : List UInt8), (∀ c ∈ l, c ≠ 47) → spl l = [l]
  | [], _ => rfl
  | c :: r, h => by
    obtain ⟨s, t, e1, e2⟩ := spl_plain c r (h c (by simp))
    rw [spl_none r (fun x hx => h x (by simp [hx]))] at e1
    injection e1 with a b
    rw [e2, ← a, ← b]
theorem spl_cut : ∀ (a r : List UInt8), (∀ c ∈ a, c ≠ 47) → spl (a ++ 47 :: r) = a :: spl r
  | [], r, _ => spl_stroke r
  | c :: a, r, h => by
    obtain ⟨s, t, e1, e2⟩ := spl_plain c (a ++ 47 :: r) (h c (by simp))
    rw [spl_cut a r (fun x hx => h x (by simp [hx]))] at e1
    injection e1 with x y
    rw [List.cons_append, e2, ← x, ← y]
theorem spl_len : ∀ l : List UInt8, (spl l).length = l.count 47 + 1
  | [] => rfl
  | c :: r => by
    have ih := spl_len r
    by_cases h : c = 47
    · subst h; rw [spl_stroke]; simp [ih]
    · obtain ⟨s, t, e1, e2⟩ := spl_plain c r h
      rw [e1] at ih
      rw [e2, List.count_cons_of_ne h, ← ih]
      rfl
theorem spl_no : ∀ (l : List UInt8) s, s ∈ spl l → ∀ c ∈ s, c ≠ 47
  | [], s, hs => by
    have : s = [] := by simpa [spl] using hs
    subst this; simp
  | c :: r, s, hs => by
    by_cases h : c = 47
    · subst h
      rw [spl_stroke] at hs
      rcases List.mem_cons.1 hs with rfl | hs
      · simp
      · exact spl_no r s hs
    · obtain ⟨s', t, e1, e2⟩ := spl_plain c r h
      rw [e2] at hs
      rcases List.mem_cons.1 hs with rfl | hs
      · intro x hx
        rcases List.mem_cons.1 hx with rfl | hx
        · exact h
        · exact spl_no r s' (by rw [e1]; simp) x hx
      · exact spl_no r s (by rw [e1]; simp [hs])
theorem spl_size : ∀ l : List UInt8, ∀ s ∈ spl l, s.length ≤ l.length
  | [], s, hs => by
    have : s = [] := by simpa [spl] using hs
    subst this; simp
  | c :: r, s, hs => by
    by_cases h : c = 47
    · subst h
      rw [spl_stroke] at hs
      rcases List.mem_cons.1 hs with rfl | hs
      · simp
      · have := spl_size r s hs; simp; omega
    · obtain ⟨s', t, e1, e2⟩ := spl_plain c r h
      rw [e2] at hs
      rcases List.mem_cons.1 hs with rfl | hs
      · have := spl_size r s' (by rw [e1]; simp); simp; omega
      · have := spl_size r s (by rw [e1]; simp [hs]); simp; omega
def joi (L : List (List UInt8)) : List UInt8 := Lib.join L [47]
theorem joi_cons2 (a b : List UInt8) (r : List (List UInt8)) : joi (a :: b :: r) = a ++ 47 :: joi (b :: r) := by
  unfold joi
  rw [Lib.join_cons, Lib.join_cons]
  simp [Lib.joinTail]
theorem joi_one (a : List UInt8) : joi [a] = a := Lib.join_one a _
theorem joi_nil : joi [] = [] := rfl
theorem joi_spl : ∀ l : List UInt8, joi (spl l) = l
  | [] => joi_one []
  | c :: r => by
    have ih := joi_spl r
    by_cases h : c = 47
    · subst h
      rw [spl_stroke]
      cases e : spl r with
      | nil => exact absurd e (spl_ne r)
      | cons b t => rw [joi_cons2, ← e, ih]; rfl
    · obtain ⟨s, t, e1, e2⟩ := spl_plain c r h
      rw [e1] at ih
      rw [e2]
      cases t with
      | nil => rw [joi_one] at ih ⊢; rw [ih]
      | cons b t => rw [joi_cons2] at ih ⊢; rw [List.cons_append, ih]
theorem spl_joi : ∀ L : List (List UInt8), L ≠ [] → (∀ s ∈ L, ∀ c ∈ s, c ≠ 47) → spl (joi L) = L
  | [], h, _ => absurd rfl h
  | [a], _, h => by rw [joi_one]; exact spl_none a (h a (by simp))
  | a :: b :: r, _, h => by
    rw [joi_cons2, spl_cut a _ (h a (by simp)), spl_joi (b :: r) (by simp) (fun s hs => h s (by simp [hs]))]
theorem joi_len : ∀ (L : List (List UInt8)) (m : Nat), (∀ s ∈ L, s.length ≤ m) → (joi L).length ≤ L.length * (m + 1)
  | [], _, _ => by simp [joi_nil]
  | [a], m, h => by
    have := h a (by simp)
    rw [joi_one]; simp; omega
  | a :: b :: r, m, h => by
    have h1 := h a (by simp)
    have h2 := joi_len (b :: r) m (fun s hs => h s (by simp [hs]))
    rw [joi_cons2]
    simp only [List.length_append, List.length_cons, Nat.add_mul, Nat.one_mul] at h2 ⊢
    omega
def okC (c : Nat) : Bool := decide (97 ≤ c ∧ c ≤ 122 ∨ 48 ≤ c ∧ c ≤ 57 ∨ c = 95)
theorem okC_small (c : Nat) (h : okC c = true) : c < 128 ∧ c ≠ 47 ∧ c ≠ 42 := by
  unfold okC at h; simp only [decide_eq_true_eq] at h; omega
def segL (l : List UInt8) : Bool := l.all (fun c => okC c.toNat) && (!l.isEmpty && decide (l.length ≤ 16))
theorem segL_len (l : List UInt8) (h : segL l = true) : l.length ≤ 16 ∧ l ≠ [] := by
  unfold segL at h
  simp only [Bool.and_eq_true, Bool.not_eq_true', List.isEmpty_eq_false_iff, decide_eq_true_eq] at h
  exact ⟨h.2.2, h.2.1⟩
theorem segL_no (l : List UInt8) (h : segL l = true) : ∀ c ∈ l, c ≠ 47 := by
  unfold segL at h
  simp only [Bool.and_eq_true, List.all_eq_true] at h
  rintro c hc rfl
  exact (okC_small _ (h.1 _ hc)).2.1 rfl
theorem segL_star : segL [42] = false := by decide
def patAt (k : Nat) (s : List UInt8) : Bool := segL s || (k != 0 && s == [42])
def patAll : Nat → List (List UInt8) → Bool
  | _, [] => true
  | k, s :: r => patAt k s && patAll (k + 1) r
def patL (L : List (List UInt8)) : Bool := patAll 0 L && decide (L.length ≤ 6)
def begL : List (List UInt8) → List (List UInt8) → Bool
  | _, [] => true
  | [], _ :: _ => false
  | x :: l, y :: m => (y == [42] || y == x) && begL l m
theorem begL_short : ∀ (l m : List (List UInt8)), l.length < m.length → begL l m = false
  | _, [], h => by simp at h
  | [], _ :: _, _ => rfl
  | x :: l, y :: m, h => by simp [begL, begL_short l m (by simpa using h)]
def matL (l m : List (List UInt8)) : Bool := l.length == m.length && begL l m
def apL : List (List UInt8) → List (List UInt8) → Bool
  | x :: l, y :: m => if x = y then apL l m else (x != [42] && y != [42])
  | _, _ => false
theorem apL_comm : ∀ l m, apL l m = apL m l
  | [], [] => rfl
  | [], _ :: _ => rfl
  | _ :: _, [] => rfl
  | x :: l, y :: m => by
    unfold apL
    by_cases h : x = y
    · rw [if_pos h, if_pos h.symm, apL_comm l m]
    · rw [if_neg h, if_neg (fun e => h e.symm), Bool.and_comm]
end Go.Proofs.YtofnpifooaijcaaGreat.L4
namespace Go.Proofs.YtofnpifooaijcaaGreat.L4
open Go.RowKit
def Ke (w w' : World) : Prop := Below w.heap.size w w'
theorem Ke.refl (w : World) : Ke w w := Below.refl _ _
theorem Ke.size {w w' : World} (h : Ke w w') : w.heap.size ≤ w'.heap.size := Below.size h
theorem Ke.trans {a b c : World} (h : Ke a b) (k : Ke b c) : Ke a c := Below.trans h (Below.mono k h.size)
theorem Ke.cell {w w' : World} (h : Ke w w') {p : Addr} (hp : p.block < w.heap.size) : w'.cell? p = w.cell? p := Below.cell h hp
theorem Ke.at_ {w w' : World} (h : Ke w w') {p : Addr} {v : Value} (hc : w.cell? p = some v) : w'.cell? p = some v := (h.cell (World.block_lt_of_cell? w _ hc)).trans hc
theorem Ke.alloc {a w : World} (h : Ke a w) (o : Obj) : Ke a (w.alloc o) := Below.alloc h h.size o
theorem Ke.drew {a w : World} (h : Ke a w) : Ke a w.drew := Below.drew h
theorem Ke.drewN {a w : World} (h : Ke a w) (n : Nat) : Ke a (w.drewN n) := below_drewN h n
def strV (x : ByteArray) : Value := .string x
theorem strV_one (L : List ByteArray) : ∀ u ∈ L.map strV, u.oneCell' = true := by
  intro u hu
  obtain ⟨_, _, rfl⟩ := List.mem_map.1 hu
  rfl
def Sl (w : World) (ad : Addr) (n c : Nat) (L : List ByteArray) : Prop :=
  n = L.length ∧ n ≤ c ∧ c ≤ maxLen ∧ ad.block < w.heap.size ∧ ∀ j x, L[j]? = some x → w.cell? (ad.add j) = some (.string x)
theorem Sl.ke {w w' : World} {ad : Addr} {n c : Nat} {L : List ByteArray} (h : Sl w ad n c L) (hk : Ke w w') : Sl w' ad n c L :=
  ⟨h.1, h.2.1, h.2.2.1, Nat.lt_of_lt_of_le h.2.2.2.1 hk.size, fun j x hj => hk.at_ (h.2.2.2.2 j x hj)⟩
theorem Sl.get {w : World} {b o n c : Nat} {L : List ByteArray} (h : Sl w ⟨b, o, none⟩ n c L) {k : Nat} (hk : k < n) : w.cell? ⟨b, o + k, none⟩ = some (.string (L.getD k ⟨#[]⟩)) := by
  have hl : k < L.length := by rw [← h.1]; exact hk
  have := h.2.2.2.2 k L[k] (List.getElem?_eq_getElem hl)
  rw [Addr.add_lit] at this
  rw [this, List.getD_eq_getElem?_getD, List.getElem?_eq_getElem hl]
  rfl
theorem Sl.of_own {w : World} {base n : Nat} {e : TypeId} {v : Value} {L : List ByteArray} (h : w.ownsRow base e 1 v n (L.map strV)) (hn : 0 < n) :
    ∃ g c, v = .slice (some ⟨g, 0, none⟩) n c ∧ base ≤ g ∧ Sl w ⟨g, 0, none⟩ n c L := by
  have hl : L.length = n := by simpa using h.1
  have hc := fun g (hg : v.ownBlock = some g) => h.cells (g := g) hg
  rcases h.2 with ⟨_, h0⟩ | ⟨g, cap, cur, rfl, hb, hg, h1, h2, _⟩
  · omega
  · refine ⟨g, cap, rfl, hb, hl.symm, h1, h2, (Array.getElem?_eq_some_iff.1 hg).1, fun j x hj => ?_⟩
    exact hc g rfl j _ (by rw [List.getElem?_map, hj]; rfl)
theorem ba_ext {a b : ByteArray} (h : a.data.toList = b.data.toList) : a = b := ByteArray.ext (Array.ext' h)
theorem ba_app (a b : ByteArray) : (a ++ b).data.toList = a.data.toList ++ b.data.toList := by rw [ByteArray.data_append, Array.toList_append]
theorem ba_size (a : ByteArray) : a.size = a.data.toList.length := rfl
def ofL (l : List UInt8) : ByteArray := ⟨l.toArray⟩
theorem ofL_list (l : List UInt8) : (ofL l).data.toList = l := rfl
def toLs (L : List ByteArray) : List (List UInt8) := L.map (·.data.toList)
def ofLs (L : List (List UInt8)) : List ByteArray := L.map ofL
theorem toLs_ofLs (L : List (List UInt8)) : toLs (ofLs L) = L := by
  unfold toLs ofLs
  rw [List.map_map]
  exact List.map_id' L
theorem ofLs_toLs (L : List ByteArray) : ofLs (toLs L) = L := by
  unfold toLs ofLs
  rw [List.map_map]
  exact List.map_id' L
theorem toLs_len (L : List ByteArray) : (toLs L).length = L.length := List.length_map _
theorem toLs_app (L M : List ByteArray) : toLs (L ++ M) = toLs L ++ toLs M := List.map_append
theorem toLs_get (L : List ByteArray) (k : Nat) : (toLs L)[k]? = (L[k]?).map (·.data.toList) := List.getElem?_map
def splS (p : ByteArray) : List ByteArray := ofLs (spl p.data.toList)
theorem splS_list (p : ByteArray) : toLs (splS p) = spl p.data.toList := toLs_ofLs _
theorem splS_len (p : ByteArray) : (splS p).length = p.data.toList.count 47 + 1 := by
  rw [← toLs_len, splS_list, spl_len]
theorem splS_pos (p : ByteArray) : 0 < (splS p).length := by rw [splS_len]; omega
theorem splS_le (p : ByteArray) : (splS p).length ≤ p.size + 1 := by
  rw [splS_len]
  have := List.count_le_length (a := (47 : UInt8)) (l := p.data.toList)
  rw [← ba_size] at this
  omega
theorem splS_size (p : ByteArray) : ∀ x ∈ splS p, x.size ≤ p.size := by
  intro x hx
  obtain ⟨l, hl, rfl⟩ := List.mem_map.1 hx
  exact spl_size _ l hl
structure SInv (p : ByteArray) (acc : List ByteArray) (b0 pos : Nat) : Prop where
  le : b0 ≤ pos
  lt : pos ≤ p.size
  no : ∀ i (h : i < p.size), b0 ≤ i → i < pos → p[i] ≠ 47
  eq : toLs acc ++ spl (p.data.toList.drop b0) = spl p.data.toList
  len : acc.length ≤ b0
theorem SInv.start (p : ByteArray) : SInv p [] 0 0 := ⟨Nat.le_refl _, Nat.zero_le _, fun _ _ _ h => absurd h (by omega), rfl, Nat.le_refl _⟩
theorem SInv.move {p : ByteArray} {acc : List ByteArray} {b0 pos : Nat} (h : SInv p acc b0 pos) (n : Nat) (hn : pos + n ≤ p.size) (hb : ∀ i (hi : i < p.size), pos ≤ i → i < pos + n → p[i] ≠ 47) : SInv p acc b0 (pos + n) :=
  ⟨by have := h.le; omega, hn, fun i hi h1 h2 => by
    rcases Nat.lt_or_ge i pos with h3 | h3
    · exact h.no i hi h1 h3
    · exact hb i hi h3 h2, h.eq, h.len⟩
theorem byte_at (p : ByteArray) (i : Nat) (h : i < p.size) : p.data.toList[i]? = some p[i] := by
  rw [List.getElem?_eq_getElem (by simpa using h)]
  rfl
theorem SInv.part {p : ByteArray} {acc : List ByteArray} {b0 pos : Nat} (h : SInv p acc b0 pos) : ∀ c ∈ (p.extract b0 pos).data.toList, c ≠ 47 := by
  intro c hc
  rw [Lib.extract_data] at hc
  obtain ⟨i, hi, he⟩ := List.getElem_of_mem hc
  simp only [List.length_take, List.length_drop] at hi
  have h2 := h.lt
  have hi2 : b0 + i < p.size := by rw [ba_size]; omega
  have e2 : c = p[b0 + i] := by
    rw [← he, List.getElem_take, List.getElem_drop]
    have := byte_at p (b0 + i) hi2
    rw [List.getElem?_eq_getElem (by simpa using hi2)] at this
    exact Option.some.inj this
  rw [e2]
  exact h.no (b0 + i) hi2 (by omega) (by omega)
theorem drop_cut (l : List UInt8) (b0 pos : Nat) (h : b0 ≤ pos) : l.drop b0 = (l.drop b0).take (pos - b0) ++ l.drop pos := by
  conv => lhs; rw [← List.take_append_drop (pos - b0) (l.drop b0)]
  rw [List.drop_drop, show b0 + (pos - b0) = pos by omega]
theorem SInv.cut {p : ByteArray} {acc : List ByteArray} {b0 pos : Nat} (h : SInv p acc b0 pos) (hp : pos < p.size) (hc : p[pos] = 47) : SInv p (acc ++ [p.extract b0 pos]) (pos + 1) (pos + 1) := by
  refine ⟨Nat.le_refl _, hp, fun _ _ h1 h2 => absurd h2 (by omega), ?_, by have := h.len; have := h.le; simp; omega⟩
  have hp' := h.part
  rw [Lib.extract_data] at hp'
  rw [← h.eq, toLs_app, List.append_assoc]
  congr 1
  rw [drop_cut p.data.toList b0 pos h.le, List.drop_eq_getElem_cons (i := pos) (by simpa using hp)]
  have e : p.data.toList[pos]'(by simpa using hp) = 47 := by rw [← hc]; rfl
  rw [e, spl_cut _ _ hp']
  simp [toLs]
theorem SInv.done {p : ByteArray} {acc : List ByteArray} {b0 : Nat} (h : SInv p acc b0 p.size) : acc ++ [p.extract b0 p.size] = splS p := by
  have hp' := h.part
  rw [Lib.extract_data] at hp'
  have e : toLs (acc ++ [p.extract b0 p.size]) = spl p.data.toList := by
    rw [← h.eq, toLs_app]
    congr 1
    have e2 : (p.data.toList.drop b0).take (p.size - b0) = p.data.toList.drop b0 := List.take_of_length_le (by rw [List.length_drop, ← ba_size]; omega)
    rw [e2] at hp'
    rw [spl_none _ hp']
    simp [toLs, e2]
  rw [← ofLs_toLs (acc ++ [p.extract b0 p.size]), e]
  rfl
theorem get_byte (s : ByteArray) (i : Nat) (h : i < s.size) : s.get! i = s[i] := by
  simp [ByteArray.get!, getElem!_pos, h]
  rfl
theorem rune_wide (s : ByteArray) (pos : Nat) (h : pos < s.size) (hb : 128 ≤ s[pos].toNat) :
    128 ≤ (Utf8.decode s pos).1 ∧ 1 ≤ (Utf8.decode s pos).2 ∧ pos + (Utf8.decode s pos).2 ≤ s.size ∧ ∀ i (hi : i < s.size), pos ≤ i → i < pos + (Utf8.decode s pos).2 → 128 ≤ s[i].toNat := by
  obtain ⟨h1, h2⟩ := decode_high s pos h hb
  refine ⟨h1, h2, ?_⟩
  have g : ∀ k (hk : pos + k < s.size), s.get! (pos + k) = s[pos + k] := fun k hk => get_byte s _ hk
  rw [Lib.decode_at]
  have g0 := get_byte s pos h
  rw [← g0] at hb
  have key : ∀ i (hi : i < s.size), pos ≤ i → i < pos + 1 → 128 ≤ s[i].toNat := fun i hi ha hc => by
    obtain rfl : i = pos := by omega
    rw [← g0]; exact hb
  have step : ∀ n, pos + n < s.size → (s.get! (pos + n)).toNat / 64 = 2 → (∀ i (hi : i < s.size), pos ≤ i → i < pos + n → 128 ≤ s[i].toNat) → ∀ i (hi : i < s.size), pos ≤ i → i < pos + (n + 1) → 128 ≤ s[i].toNat := by
    intro n hn hd ih i hi ha hc
    by_cases e : i = pos + n
    · subst e
      rw [← g n hn]; omega
    · exact ih i hi ha (by omega)
  unfold Lib.decodeN
  split
  · omega
  · split
    · rename_i _ hh
      split
      · exact ⟨by simp only; omega, step 1 (by omega) hh.2.2 key⟩
      · exact ⟨by simp only; omega, key⟩
    · split
      · rename_i _ _ hh
        split
        · exact ⟨by simp only; omega, step 2 (by omega) hh.2.2.2 (step 1 (by omega) hh.2.1.2 key)⟩
        · exact ⟨by simp only; omega, key⟩
      · split
        · rename_i _ _ _ hh
          split
          · exact ⟨by simp only; omega, step 3 (by omega) hh.2.2.2.2 (step 2 (by omega) hh.2.2.1.2 (step 1 (by omega) hh.2.1.2 key))⟩
          · exact ⟨by simp only; omega, key⟩
        · exact ⟨by simp only; omega, key⟩
theorem rune_okC (s : ByteArray) (pos : Nat) (h : pos < s.size) : okC (Utf8.decode s pos).1 = okC s[pos].toNat := by
  by_cases hb : s[pos].toNat < 128
  · rw [decode_ascii s pos h hb]
  · have h1 := (decode_high s pos h (by omega)).1
    cases e1 : okC (Utf8.decode s pos).1 with
    | true => have := okC_small _ e1; omega
    | false =>
      cases e2 : okC s[pos].toNat with
      | true => have := okC_small _ e2; omega
      | false => rfl
theorem rune_one (s : ByteArray) (pos : Nat) (h : pos < s.size) (hok : okC (Utf8.decode s pos).1 = true) : (Utf8.decode s pos).2 = 1 := by
  by_cases hb : s[pos].toNat < 128
  · rw [decode_ascii s pos h hb]
  · have h1 := (decode_high s pos h (by omega)).1
    have := okC_small _ hok; omega
def segS (s : ByteArray) : Bool := segL s.data.toList
theorem segS_no (s : ByteArray) (i : Nat) (h : i < s.size) (hb : okC s[i].toNat = false) : segS s = false := by
  have : s.data.toList.all (fun c => okC c.toNat) = false := by
    rw [List.all_eq_false]
    exact ⟨s[i], List.mem_of_getElem? (byte_at s i h), by simp [hb]⟩
  unfold segS segL
  rw [this, Bool.false_and]
theorem segS_all (s : ByteArray) (h : ∀ i (hi : i < s.size), okC s[i].toNat = true) : segS s = (!s.data.toList.isEmpty && decide (s.size ≤ 16)) := by
  have : s.data.toList.all (fun c => okC c.toNat) = true := by
    rw [List.all_eq_true]
    intro c hc
    obtain ⟨i, hi, he⟩ := List.getElem_of_mem hc
    have hi2 : i < s.size := hi
    rw [← he]
    exact h i hi2
  unfold segS segL
  rw [this, Bool.true_and]
  rfl
def star : ByteArray := ⟨#[42]⟩
def patS (p : ByteArray) : Bool := patL (spl p.data.toList)
def begS (p q : ByteArray) : Bool := begL (spl p.data.toList) (spl q.data.toList)
def matS (p q : ByteArray) : Bool := matL (spl p.data.toList) (spl q.data.toList)
def apS (p q : ByteArray) : Bool := apL (spl p.data.toList) (spl q.data.toList)
def sg (p : ByteArray) (k : Nat) : ByteArray := (splS p).getD k ⟨#[]⟩
theorem sg_get (p : ByteArray) (k : Nat) (h : k < (splS p).length) : (spl p.data.toList)[k]? = some (sg p k).data.toList := by
  rw [← splS_list, toLs_get, List.getElem?_eq_getElem h]
  unfold sg
  rw [List.getD_eq_getElem?_getD, List.getElem?_eq_getElem h]
  rfl
theorem sg_size (p : ByteArray) (k : Nat) : (sg p k).size ≤ p.size := by
  unfold sg
  rw [List.getD_eq_getElem?_getD]
  cases e : (splS p)[k]? with
  | none => exact Nat.zero_le _
  | some x => exact splS_size p x (List.mem_of_getElem? e)
theorem spl_some (p : ByteArray) (i : Nat) (x : List UInt8) (h : (spl p.data.toList)[i]? = some x) : i < (splS p).length ∧ x = (sg p i).data.toList := by
  have h1 : i < (splS p).length := by
    rw [← toLs_len, splS_list]
    exact (List.getElem?_eq_some_iff.1 h).1
  exact ⟨h1, by rw [sg_get p i h1] at h; exact (Option.some.inj h).symm⟩
theorem spl_length (p : ByteArray) : (spl p.data.toList).length = (splS p).length := by rw [← toLs_len, splS_list]
theorem str_eq (a b : ByteArray) : (a.toList == b.toList) = (a.data.toList == b.data.toList) := by rw [Lib.toList_data, Lib.toList_data]
theorem patAll_no : ∀ (L : List (List UInt8)) (k i : Nat) (x : List UInt8), L[i]? = some x → patAt (k + i) x = false → patAll k L = false
  | [], _, _, _, h, _ => by simp at h
  | s :: r, k, 0, x, h, h2 => by
    have : s = x := by simpa using h
    subst this
    rw [Nat.add_zero] at h2
    simp [patAll, h2]
  | s :: r, k, i + 1, x, h, h2 => by
    have := patAll_no r (k + 1) i x (by simpa using h) (by rw [Nat.add_assoc, Nat.add_comm 1 i]; exact h2)
    simp [patAll, this]
theorem patAll_yes : ∀ (L : List (List UInt8)) (k : Nat), (∀ i x, L[i]? = some x → patAt (k + i) x = true) → patAll k L = true
  | [], _, _ => rfl
  | s :: r, k, h => by
    have h0 := h 0 s rfl
    rw [Nat.add_zero] at h0
    have := patAll_yes r (k + 1) (fun i x hx => by rw [Nat.add_assoc, Nat.add_comm 1 i]; exact h (i + 1) x (by simpa using hx))
    simp [patAll, h0, this]
def patK (p : ByteArray) (k : Nat) : Bool := patAt k (sg p k).data.toList
theorem pat_no (p : ByteArray) (k : Nat) (hk : k < (splS p).length) (h : patK p k = false) : patS p = false := by
  unfold patS patL
  rw [patAll_no _ 0 k _ (sg_get p k hk) (by rw [Nat.zero_add]; exact h), Bool.false_and]
theorem pat_yes (p : ByteArray) (h : ∀ i, i < (splS p).length → patK p i = true) : patS p = decide ((splS p).length ≤ 6) := by
  unfold patS patL
  rw [patAll_yes _ 0 (fun i x hx => by
    obtain ⟨h1, rfl⟩ := spl_some p i x hx
    rw [Nat.zero_add]; exact h i h1), Bool.true_and, spl_length]
theorem patK_seg (p : ByteArray) (k : Nat) (h : segS (sg p k) = true) : patK p k = true := by
  unfold patK patAt; unfold segS at h; rw [h, Bool.true_or]
theorem patK_zero (p : ByteArray) (h : segS (sg p 0) = false) : patK p 0 = false := by
  unfold patK patAt; unfold segS at h; rw [h]; rfl
theorem patK_star (p : ByteArray) (k : Nat) (hk : ¬ k = 0) (h : (sg p k).data.toList = [42]) : patK p k = true := by
  unfold patK patAt; rw [h]; simp [hk]
theorem patK_not (p : ByteArray) (k : Nat) (h : segS (sg p k) = false) (h2 : ¬ (sg p k).data.toList = [42]) : patK p k = false := by
  unfold patK patAt; unfold segS at h; rw [h]; simp [h2]
theorem begL_no : ∀ (l m : List (List UInt8)) (k : Nat) (x y : List UInt8), l[k]? = some x → m[k]? = some y → ¬ y = [42] → ¬ y = x → begL l m = false
  | _, [], _, _, _, _, h, _, _ => by simp at h
  | [], _ :: _, _, _, _, h, _, _, _ => by simp at h
  | a :: l, b :: m, 0, x, y, h1, h2, h3, h4 => by
    have e1 : a = x := by simpa using h1
    have e2 : b = y := by simpa using h2
    subst e1; subst e2
    simp [begL, h3, h4]
  | a :: l, b :: m, k + 1, x, y, h1, h2, h3, h4 => by
    have := begL_no l m k x y (by simpa using h1) (by simpa using h2) h3 h4
    simp [begL, this]
theorem begL_yes : ∀ (l m : List (List UInt8)), m.length ≤ l.length → (∀ (k : Nat) (x y : List UInt8), l[k]? = some x → m[k]? = some y → y = [42] ∨ y = x) → begL l m = true
  | _, [], _, _ => by unfold begL; rfl
  | [], _ :: _, h, _ => by simp at h
  | a :: l, b :: m, h, hh => by
    have h0 := hh 0 a b rfl rfl
    have := begL_yes l m (by simpa using h) (fun k x y h1 h2 => hh (k + 1) x y (by simpa using h1) (by simpa using h2))
    simp [begL, this, h0]
theorem beg_short (p q : ByteArray) (h : (splS p).length < (splS q).length) : begS p q = false :=
  begL_short _ _ (by rw [spl_length, spl_length]; exact h)
theorem beg_no (p q : ByteArray) (k : Nat) (h1 : k < (splS p).length) (h2 : k < (splS q).length) (h3 : ¬ (sg q k).data.toList = [42]) (h4 : ¬ (sg q k).data.toList = (sg p k).data.toList) : begS p q = false :=
  begL_no _ _ k _ _ (sg_get p k h1) (sg_get q k h2) h3 h4
theorem beg_yes (p q : ByteArray) (h : (splS q).length ≤ (splS p).length) (hh : ∀ k, k < (splS q).length → (sg q k).data.toList = [42] ∨ (sg q k).data.toList = (sg p k).data.toList) : begS p q = true :=
  begL_yes _ _ (by rw [spl_length, spl_length]; exact h) fun k x y h1 h2 => by
    obtain ⟨_, rfl⟩ := spl_some p k x h1
    obtain ⟨h3, rfl⟩ := spl_some q k y h2
    exact hh k h3
theorem mat_def (p q : ByteArray) : matS p q = ((p.data.toList.count 47 == q.data.toList.count 47) && begS p q) := by
  unfold matS matL begS
  rw [spl_len, spl_len, show (p.data.toList.count 47 + 1 == q.data.toList.count 47 + 1) = (p.data.toList.count 47 == q.data.toList.count 47) by rw [Bool.eq_iff_iff]; simp]
theorem apL_at : ∀ (l m : List (List UInt8)) (k : Nat) (x y : List UInt8), l[k]? = some x → m[k]? = some y → (∀ i, i < k → l[i]? = m[i]?) → ¬ x = y → apL l m = (x != [42] && y != [42])
  | [], _, _, _, _, h, _, _, _ => by simp at h
  | _ :: _, [], _, _, _, _, h, _, _ => by simp at h
  | a :: l, b :: m, 0, x, y, h1, h2, _, h4 => by
    have e1 : a = x := by simpa using h1
    have e2 : b = y := by simpa using h2
    subst e1; subst e2
    unfold apL
    rw [if_neg h4]
  | a :: l, b :: m, k + 1, x, y, h1, h2, h3, h4 => by
    have h0 : a = b := by simpa using h3 0 (by omega)
    unfold apL
    rw [if_pos h0]
    exact apL_at l m k x y (by simpa using h1) (by simpa using h2) (fun i hi => by simpa using h3 (i + 1) (by omega)) h4
theorem apL_end : ∀ (l m : List (List UInt8)), (∀ i, i < l.length → i < m.length → l[i]? = m[i]?) → apL l m = false
  | [], _, _ => by unfold apL; rfl
  | _ :: _, [], _ => by unfold apL; rfl
  | a :: l, b :: m, h => by
    have h0 : a = b := by simpa using h 0 (by simp) (by simp)
    unfold apL
    rw [if_pos h0]
    exact apL_end l m (fun i h1 h2 => by simpa using h (i + 1) (by simpa using h1) (by simpa using h2))
theorem ap_at (p q : ByteArray) (k : Nat) (h1 : k < (splS p).length) (h2 : k < (splS q).length) (h3 : ∀ i, i < k → (sg p i).data.toList = (sg q i).data.toList) (h4 : ¬ (sg p k).data.toList = (sg q k).data.toList) :
    apS p q = ((sg p k).data.toList != [42] && (sg q k).data.toList != [42]) :=
  apL_at _ _ k _ _ (sg_get p k h1) (sg_get q k h2) (fun i hi => by rw [sg_get p i (by omega), sg_get q i (by omega), h3 i hi]) h4
theorem ap_end (p q : ByteArray) (h3 : ∀ i, i < (splS p).length → i < (splS q).length → (sg p i).data.toList = (sg q i).data.toList) : apS p q = false :=
  apL_end _ _ (fun i h1 h2 => by
    rw [spl_length] at h1 h2
    rw [sg_get p i h1, sg_get q i h2, h3 i h1 h2])
theorem ret_bool {a b : Bool} (h : a = b) : Ending.returned (.bool a) = .returned (.bool b) := by rw [h]
theorem okC_cases (c : Nat) : (c < 48 ∧ okC c = false) ∨ (48 ≤ c ∧ c ≤ 57 ∧ okC c = true) ∨ (57 < c ∧ c < 95 ∧ okC c = false) ∨ (c = 95 ∧ okC c = true) ∨ (c = 96 ∧ okC c = false) ∨ (97 ≤ c ∧ c ≤ 122 ∧ okC c = true) ∨ (122 < c ∧ okC c = false) := by
  by_cases h1 : 97 ≤ c ∧ c ≤ 122 ∨ 48 ≤ c ∧ c ≤ 57 ∨ c = 95
  · have h : okC c = true := decide_eq_true h1
    rcases h1 with h1 | h1 | h1
    · exact .inr (.inr (.inr (.inr (.inr (.inl ⟨h1.1, h1.2, h⟩)))))
    · exact .inr (.inl ⟨h1.1, h1.2, h⟩)
    · exact .inr (.inr (.inr (.inl ⟨h1, h⟩)))
  · have h : okC c = false := decide_eq_false h1
    simp only [h]
    simp
    omega
theorem text_none {t : ByteArray} (h : t.size = 0) : t.toList = [] := by
  rw [Lib.toList_data]; exact List.eq_nil_of_length_eq_zero h
theorem text_some {t : ByteArray} (h : ¬ t.size = 0) : t.toList ≠ [] ∧ t.toList.isEmpty = false ∧ (t.toList == []) = false := by
  have : t.toList ≠ [] := by rw [Lib.toList_data]; intro e; exact h (by rw [ba_size, e]; rfl)
  refine ⟨this, by simpa using this, by simpa using this⟩
theorem segS_nil {t : ByteArray} (h : t.size = 0) : segS t = false := by
  have : t.data.toList = [] := List.eq_nil_of_length_eq_zero h
  unfold segS; rw [this]; rfl
theorem segS_few {s : ByteArray} (h : ∀ i (hi : i < s.size), okC s[i].toNat = true) (h0 : ¬ s.size = 0) : segS s = decide (s.size ≤ 16) := by
  rw [segS_all s h]
  have : s.data.toList.isEmpty = false := by
    rw [List.isEmpty_eq_false_iff]; intro e; exact h0 (by rw [ba_size, e]; rfl)
  rw [this]; rfl
set_option maxRecDepth 100000 in
set_option maxHeartbeats 1000000 in
theorem inSeg_any (c : Nat) (w : World) (hc : c ≤ 2147483647) :
    Calls Tryz.prog 150 #[.int .i32 c] w fun e w' => e = .returned (.bool (okC c)) ∧ w = w' := by
  rcases okC_cases c with ⟨h1, h2⟩ | ⟨h0, h1, h2⟩ | ⟨h0, h1, h2⟩ | ⟨h1, h2⟩ | ⟨h1, h2⟩ | ⟨h0, h1, h2⟩ | ⟨h1, h2⟩
  all_goals (have H := Lib.hid h2; clear h2)
  · have n5 : ((c : Int) == 95) = false := beq_eq_false_iff_ne.2 (by omega)
    go_enter Tryz.func150, Tryz.ntmps150
    go_wp2
    go_ret
    exact ⟨ret_bool (by rw [H.out] <;> (simp; omega)), rfl⟩
  · have n5 : ((c : Int) == 95) = false := beq_eq_false_iff_ne.2 (by omega)
    go_enter Tryz.func150, Tryz.ntmps150
    go_wp2
    go_ret
    exact ⟨ret_bool (by rw [H.out] <;> (simp; omega)), rfl⟩
  · have n5 : ((c : Int) == 95) = false := beq_eq_false_iff_ne.2 (by omega)
    go_enter Tryz.func150, Tryz.ntmps150
    go_wp2
    go_ret
    exact ⟨ret_bool (by rw [H.out] <;> (simp; omega)), rfl⟩
  · subst h1
    go_enter Tryz.func150, Tryz.ntmps150
    go_wp2
    go_ret
    exact ⟨ret_bool (by rw [H.out] <;> (simp; omega)), rfl⟩
  · subst h1
    go_enter Tryz.func150, Tryz.ntmps150
    go_wp2
    go_ret
    exact ⟨ret_bool (by rw [H.out] <;> (simp; omega)), rfl⟩
  · have n5 : ((c : Int) == 95) = false := beq_eq_false_iff_ne.2 (by omega)
    go_enter Tryz.func150, Tryz.ntmps150
    go_wp2
    go_ret
    exact ⟨ret_bool (by rw [H.out] <;> (simp; omega)), rfl⟩
  · have n5 : ((c : Int) == 95) = false := beq_eq_false_iff_ne.2 (by omega)
    go_enter Tryz.func150, Tryz.ntmps150
    go_wp2
    go_ret
    exact ⟨ret_bool (by rw [H.out] <;> (simp; omega)), rfl⟩
theorem inSeg_c (c : Nat) (b : Bool) (hb : okC c = b) (hc : c ≤ 2147483647) (w : World) :
    Calls Tryz.prog 150 #[.int .i32 c] w fun e w' => e = .returned (.bool b) ∧ w = w' := by
  subst hb; exact inSeg_any c w hc
theorem ke_iter (w : World) (s : ByteArray) (pos : Nat) : Ke w (w.iter s pos) := (Ke.refl w).alloc _
set_option maxRecDepth 100000 in
set_option maxHeartbeats 2000000 in
theorem seg_any (s : ByteArray) (w : World) (hs : s.size ≤ 9223372036854775807) :
    Calls Tryz.prog 130 #[.string s] w fun e w' => e = .returned (.bool (segS s)) ∧ Ke w w' := by
  go_enter Tryz.func130, Tryz.ntmps130
  go_wp2
  go_loopw [] (fun wr => ∃ pos : Nat, pos ≤ s.size ∧ wr = w.iter s pos ∧ ∀ i (hi : i < s.size), i < pos → okC s[i].toNat = true) (fun wr => s.size - wr.iterPos w.heap.size)
  case atStart => exact ⟨0, Nat.zero_le _, rfl, fun i hi h => absurd h (by omega)⟩
  case round =>
    obtain ⟨pos, hle, rfl, hok⟩ := hrel
    have HO := Lib.hid hok
    clear hok
    by_cases hp : pos < s.size
    · have hnx : ∀ ty, (Instr.next (.pointer (some ⟨w.heap.size, 0, none⟩)) true ty).run Tryz.prog (w.iter s pos) = _ := fun ty => run_next_any w s pos ty hp
      have hd1 := decode_le s pos
      have HR := Lib.hid (rune_okC s pos hp)
      cases hb : okC (Utf8.decode s pos).1 with
      | true =>
        have HW := Lib.hid (rune_one s pos hp hb)
        have HB := Lib.hid hb
        clear hb
        go_wp2_with (go_at_call 150; ((with_reducible refine (inSeg_c _ true HB.out hd1 _).mono ?_); rintro e w' ⟨rfl, rfl⟩))
        go_roundw
        case rel =>
          refine ⟨pos + 1, by omega, by rw [HW.out], fun i hi h => ?_⟩
          rcases Nat.lt_or_ge i pos with h3 | h3
          · exact HO.out i hi h3
          · obtain rfl : i = pos := by omega
            rw [← HR.out]; exact HB.out
        case measure => rw [World.iterPos_iter, World.iterPos_iter, HW.out]; omega
      | false =>
        have HB := Lib.hid hb
        clear hb
        go_wp2_with (go_at_call 150; ((with_reducible refine (inSeg_c _ false HB.out hd1 _).mono ?_); rintro e w' ⟨rfl, rfl⟩))
        go_ret
        exact ⟨ret_bool (segS_no s pos hp (by rw [← HR.out]; exact HB.out)).symm, ke_iter _ _ _⟩
    · have hnx : ∀ ty, (Instr.next (.pointer (some ⟨w.heap.size, 0, none⟩)) true ty).run Tryz.prog (w.iter s pos) = _ := fun ty => run_next_end w s pos ty hp
      have HO2 := Lib.hid (fun i hi => HO.out i hi (show i < pos by omega))
      by_cases h0 : s.size = 0
      · have h1 := text_none h0
        have HZ := Lib.hid (segS_nil h0)
        clear h0
        go_wp2
        go_ret
        exact ⟨ret_bool HZ.out.symm, ke_iter _ _ _⟩
      · obtain ⟨h1, h2, h3⟩ := text_some h0
        have HZ := Lib.hid (segS_few HO2.out h0)
        go_wp2
        go_ret
        exact ⟨ret_bool (by rw [HZ.out, decide_eq_decide]; omega), ke_iter _ _ _⟩
theorem seg_c (s : ByteArray) (b : Bool) (hb : segS s = b) (hs : s.size ≤ 9223372036854775807) (w : World) :
    Calls Tryz.prog 130 #[.string s] w fun e w' => e = .returned (.bool b) ∧ Ke w w' := by
  subst hb; exact seg_any s w hs
end Go.Proofs.YtofnpifooaijcaaGreat.L4
namespace Go.Proofs.YtofnpifooaijcaaGreat
open Go.RowKit
end Go.Proofs.YtofnpifooaijcaaGreat
