/-
  What is proved: path.Apart and the document's, called with any two texts of up to 2^40 bytes, return what P4.8 says; the world has new blocks at most.
  the document's FieldRight of layer 11 (P11.1), called with any field of bounded texts, returns what that says; paths' questions with Kept; the world has new blocks at most.
  Long of layer 11's laws and the document's Find of layer 11 (P11.4), called with any schema (and path) of bounded texts, return what those say; the world has new blocks at most.
  the document's Under of layer 11 (P11.5), called with any schema and path of bounded texts, returns what that says; the world has new blocks at most.
  plain facts on the two schemas of the example that layer 11's laws answer: one is right and is found in, put, taken, told and made again as it should; the other is not right, and is taken with its error.
  the document's Prefix of layer 14 (P14.1), called with any pattern and top of bounded length, tells whether the one's first segments are just those of the other; the world has new blocks at most.
  the document's Swap, called with any text of up to 2000 bytes, any place, and any slice of up to 1000 texts of up to 2000 bytes (nil let in), returns what P4.9 says; the world has new blocks at most.
  the document's moved and Move of layer 14 (P14.2), called with any step and pattern of bounded lengths, return what the chapter says; the world has new blocks at most.
  the document's Same of layer 11 (P11.8), called with any two schemas that lie in memory, tells whether they are the same; the world has new blocks at most.
  the document's one of layer 14, called with any schema and pattern, tells the place of the first field at just that pattern; the world has new blocks at most.
  words for the rows of fields that layer 11's calls make.
  a row of fields that a call makes, one of its fields (or a field's Path) written in its place; one of its fields taken out of the middle.
  the document's leaf of layer 14 (a part of P14.3), called with any field and step of bounded lengths, returns the field turned and whether it fits; the world has new blocks at most.
  the document's leaf of layer 14 (a part of P14.3), called with any field and a step of the kind 6, returns the field turned and whether it fits; the world has new blocks at most.
  the document's leaf of layer 14 (a part of P14.3), called with any field and a step of the kind 7, returns the field turned and whether it fits; the world has new blocks at most.
-/
import Derived.Test.YtofnpifooaijcaaGreatM11
import Derived.Deep.QuietTactic
import Derived.BigQuiet
import Derived.Test.YtofnpifooaijcaaGreatM10
import Derived.Test.YtofnpifooaijcaaGreatM3
import Derived.Test.YtofnpifooaijcaaGreatM9
import Derived.Test.YtofnpifooaijcaaGreatM6
import Derived.Test.YtofnpifooaijcaaGreatM4
import Derived.Laws.OwnMore
namespace Go.Proofs.YtofnpifooaijcaaGreat.L4
open Go.RowKit
set_option maxRecDepth 100000 in
set_option maxHeartbeats 4000000 in
theorem ap_any (p q : ByteArray) (w : World) (hp : p.size ≤ 1099511627776) (hq : q.size ≤ 1099511627776) :
    Calls Tryz.prog 128 #[.string p, .string q] w fun e w' => e = .returned (.bool (apS p q)) ∧ Ke w w' := by
  have hn1 := splS_le p
  have hn2 := splS_le q
  obtain ⟨mn, hmn⟩ : ∃ mn : Nat, mn = min (splS p).length (splS q).length := ⟨_, rfl⟩
  have hm1 : mn ≤ (splS p).length := by omega
  have hm2 : mn ≤ (splS q).length := by omega
  have hm3 : mn = (splS p).length ∨ mn = (splS q).length := by omega
  have HMN := Lib.hid hmn
  have HM3 := Lib.hid hm3
  clear hmn hm3
  go_enter Tryz.func128, Tryz.ntmps128
  go_wp2_with fail
  go_at_call 51
  refine (split_any p _ hp).mono ?_
  rintro e w1 ⟨b1, c1, rfl, hs1, hbb1, hk1⟩
  have hcm1 := hs1.2.1
  have hcx1 := hs1.2.2.1
  simp only [maxLen] at hcx1
  have HS1 := Lib.hid hs1
  have HK1 := Lib.hid hk1
  clear hs1 hk1 hbb1
  go_wp2_with fail
  go_at_call 51
  refine (split_any q _ hq).mono ?_
  rintro e w2 ⟨b2, c2, rfl, hs2, hbb2, hk2⟩
  have hcm2 := hs2.2.1
  have hcx2 := hs2.2.2.1
  simp only [maxLen] at hcx2
  have HS2 := Lib.hid hs2
  have HS3 := Lib.hid (HS1.out.ke hk2)
  have HK := Lib.hid (HK1.out.trans hk2)
  clear hs2 hk2 hbb2 HS1 HK1
  go_wp2
  go_loopw [17] (fun i wr => ∃ k j : Nat, k ≤ mn ∧ i = .int .i64 k ∧ wr = w2.drewN j ∧ ∀ i, i < k → (sg p i).data.toList = (sg q i).data.toList) (fun i _ => mn - (intOf i).toNat)
  case atStart => exact ⟨0, 0, Nat.zero_le _, rfl, rfl, fun j hj => absurd hj (by omega)⟩
  case round =>
    obtain ⟨k, j, hkl, rfl, rfl, hall⟩ := hrel
    have HA := Lib.hid hall
    clear hall
    by_cases hlt : k < mn
    · have kp : k < (splS p).length := by omega
      have kq : k < (splS q).length := by omega
      have g1 := sl_at HS3.out kp
      have g2 := sl_at HS2.out kq
      have kp2 : (k : Int) < (splS p).length := by omega
      have kq2 : (k : Int) < (splS q).length := by omega
      have k0 : (0 : Int) ≤ k := by omega
      by_cases hxy : (sg p k).data.toList = (sg q k).data.toList
      · have HX := Lib.hid hxy
        rw [← ba_ext hxy] at g2
        clear hxy
        go_wp2
        go_quiet (fail)
        go_wp2
        go_roundw
        case rel =>
          refine ⟨k + 1, _, hlt, by go_num, rfl, fun i hi => ?_⟩
          rcases Nat.lt_or_ge i k with h3 | h3
          · exact HA.out i h3
          · obtain rfl : i = k := by omega
            exact HX.out
        case measure => simp [intOf]; omega
      · have HR := Lib.hid (ap_at p q k kp kq HA.out hxy)
        obtain ⟨t1, t2, t3, t4⟩ := str_not hxy
        by_cases hx : (sg p k).data.toList = [42]
        · have hy : ¬ (sg q k).data.toList = [42] := fun e => hxy (hx.trans e.symm)
          have HF := Lib.hid (show apS p q = false by rw [HR.out, hx]; rfl)
          rw [star_yes hx] at g1
          obtain ⟨s1, s2⟩ := star_not hy
          obtain ⟨s3, s4⟩ := star_not2 hy
          clear hx hy hxy t1 t2 t3 t4
          go_wp2
          go_quiet (fail)
          go_wp2
          go_ret
          exact ⟨ret_bool HF.out.symm, HK.out.drewN _⟩
        · obtain ⟨s1, s2⟩ := star_not hx
          obtain ⟨s3, s4⟩ := star_not2 hx
          by_cases hy : (sg q k).data.toList = [42]
          · have HF := Lib.hid (show apS p q = false by rw [HR.out, hy, Bool.and_comm]; rfl)
            rw [star_yes hy] at g2
            clear hx hy hxy t1 t2 t3 t4
            go_wp2
            go_quiet (fail)
            go_wp2
            go_ret
            exact ⟨ret_bool HF.out.symm, HK.out.drewN _⟩
          · have HF := Lib.hid (show apS p q = true by rw [HR.out, bne_iff_ne.2 hx, bne_iff_ne.2 hy]; rfl)
            obtain ⟨s5, s6⟩ := star_not hy
            clear hx hy hxy
            go_wp2
            go_quiet (fail)
            go_wp2
            go_ret
            exact ⟨ret_bool HF.out.symm, HK.out.drewN _⟩
    · have HE := Lib.hid (ap_end p q (fun i h1 h2 => HA.out i (by have := HM3.out; omega)))
      have hm5 : min ((splS p).length : Int) ((splS q).length : Int) ≤ (k : Int) := by have := HM3.out; omega
      go_wp2
      go_ret
      exact ⟨ret_bool HE.out.symm, HK.out.drewN _⟩
end Go.Proofs.YtofnpifooaijcaaGreat.L4
namespace Go.Proofs.YtofnpifooaijcaaGreat
open Go.RowKit
set_option linter.unusedVariables false
theorem zero_val (x : Fd) : (x.vk = 0 ∧ x.vn = 0 ∧ x.vt = ⟨#[]⟩ ∧ zeroF x = true) ∨ (zeroF x = false ∧ ((x.vk == 0) = false ∨ ((x.vk == 0) = true ∧ (x.vn == 0) = false) ∨ ((x.vk == 0) = true ∧ (x.vn == 0) = true ∧ x.vt.toList ≠ [] ∧ x.vt.toList.isEmpty = false ∧ (x.vt.toList == []) = false))) := by
  by_cases h1 : x.vk = 0
  · by_cases h2 : x.vn = 0
    · by_cases h3 : x.vt.size = 0
      · exact .inl ⟨h1, h2, empty_of h3, by unfold zeroF; exact decide_eq_true ⟨h1, h2, h3⟩⟩
      · exact .inr ⟨by unfold zeroF; exact decide_eq_false fun h => h3 h.2.2, .inr (.inr ⟨beq_iff_eq.2 h1, beq_iff_eq.2 h2, full_of h3⟩)⟩
    · exact .inr ⟨by unfold zeroF; exact decide_eq_false fun h => h2 h.2.1, .inr (.inl ⟨beq_iff_eq.2 h1, by simpa using h2⟩)⟩
  · exact .inr ⟨by unfold zeroF; exact decide_eq_false fun h => h1 h.1, .inl (by simpa using h1)⟩
structure Box1 (w : World) (b : Nat) (u : Value) : Prop where
  c0 : w.cell? ⟨b, 0, none⟩ = some u
  f : ∀ j, w.frozen? ⟨b, j, none⟩ = false
  lt : b < w.heap.size
theorem Box1.kept {w w' : World} {b : Nat} {u : Value} (h : Box1 w b u) (hk : Kept w w') : Box1 w' b u :=
  ⟨hk.cell h.c0, fun j => (hk.2.1 ⟨b, j, none⟩ h.lt).trans (h.f j), Nat.lt_of_lt_of_le h.lt hk.2.2⟩
theorem Box1.new (w : World) (u : Value) (t : TypeId) : Box1 (w.alloc (.cells #[u] t)) w.heap.size u :=
  ⟨(Kept.refl _).box 0 _ rfl, fun j => by rw [frozen?_alloc_cells]; simp [World.frozen?], by simp⟩
def ShortF (L : List Fd) (n : Nat) : Prop := (∀ x ∈ L, x.p.size ≤ 200 ∧ x.vt.size ≤ 300) ∧ n ≤ 40
set_option maxRecDepth 100000 in
set_option maxHeartbeats 8000000 in
theorem flong_any (A : Option Addr) (n c : Nat) (L : List Fd) (w : World) (h : Fl w A n c L) (hw : ∀ x ∈ L, x.p.size ≤ 9223372036854775807 ∧ x.vt.size ≤ 9223372036854775807) (r : Bool) (hr : r = true ↔ ¬ ShortF L n) :
    Calls Tryz.prog 5 #[.agg #[.slice A n c]] w fun e w' => e = .returned (.bool r) ∧ Kept w w' := by
  have hk := (Kept.refl w).alloc #[.slice A n c] 24
  have hcap := h.cap.1; have hcap2 := h.cap.2
  have HNL := Lib.hid h.1; have HSZ := Lib.hid hw; have HR := Lib.hid hr
  have HB := Lib.hid (Box1.new w (.slice A n c) 24)
  have HH := Lib.hid (h.kept hk)
  obtain ⟨U, hU⟩ : ∃ U, w.alloc (.cells #[.slice A n c] 24) = U := ⟨_, rfl⟩
  rw [hU] at hk HB HH
  have HK := Lib.hid hk; have HUU := Lib.hid hU
  have d0 := HB.out.c0
  clear h hw hr hk hU
  go_enter Tryz.func5, Tryz.ntmps5
  go_wp2_with fail
  rw [HUU.out]
  go_wp2_with fail
  clear d0
  go_loopw [8] (fun i wr => ∃ t : Nat, t ≤ n ∧ i = .int .i64 t ∧ Kept U wr ∧ ∀ x ∈ L.take t, x.p.size ≤ 200 ∧ x.vt.size ≤ 300) (fun i _ => n - (intOf i).toNat)
  case atStart => exact ⟨0, Nat.zero_le _, rfl, Kept.refl _, fun x hx => by simp at hx⟩
  case round =>
    obtain ⟨t, ht, rfl, hkr, hall⟩ := hrel
    have HKR := Lib.hid hkr; have HA := Lib.hid hall
    clear hkr hall
    by_cases hlt : t < n
    · obtain ⟨g, o, x, rfl, hx, EX⟩ := (HH.out.kept HKR.out).get hlt
      have x0 := EX.c0; have x1 := EX.c1; have x2 := EX.c2; have x3 := EX.c3; have x4 := EX.c4; have x5 := EX.c5
      have HE := FdB.new wr x 28
      have z0 := HE.c0; have z1 := HE.c1; have z2 := HE.c2; have z3 := HE.c3; have z4 := HE.c4; have z5 := HE.c5
      have hsx := HSZ.out x (List.mem_of_getElem? hx)
      have hs1 := hsx.1; have hs2 := hsx.2
      have HXX := Lib.hid hx
      have HKA := Lib.hid ((Kept.refl wr).alloc #[.string x.p, .int .i64 x.k, .int .i64 x.t, .int .i64 x.vk, .int .i64 x.vn, .string x.vt] 28)
      clear EX hx HE hsx
      by_cases h1 : 200 < x.p.size
      · have f1 : decide ((200 : Int) < (x.p.size : Int)) = true := decide_eq_true (by omega)
        have f2 : decide (200 < x.p.size) = true := decide_eq_true h1
        have HF := Lib.hid (show true = r from (HR.out.2 fun hs => by have := (hs.1 x (List.mem_of_getElem? HXX.out)).1; omega).symm)
        clear h1
        go_wp2_with fail
        go_ret
        exact ⟨ret_bool HF.out, HK.out.trans (HKR.out.trans HKA.out)⟩
      · have f1 : decide ((200 : Int) < (x.p.size : Int)) = false := decide_eq_false (by omega)
        have f2 : decide (200 < x.p.size) = false := decide_eq_false h1
        by_cases h2 : 300 < x.vt.size
        · have f3 : decide ((300 : Int) < (x.vt.size : Int)) = true := decide_eq_true (by omega)
          have f4 : decide (300 < x.vt.size) = true := decide_eq_true h2
          have HF := Lib.hid (show true = r from (HR.out.2 fun hs => by have := (hs.1 x (List.mem_of_getElem? HXX.out)).2; omega).symm)
          clear h1 h2
          go_wp2_with fail
          go_ret
          exact ⟨ret_bool HF.out, HK.out.trans (HKR.out.trans HKA.out)⟩
        · have f3 : decide ((300 : Int) < (x.vt.size : Int)) = false := decide_eq_false (by omega)
          have f4 : decide (300 < x.vt.size) = false := decide_eq_false h2
          have HN := Lib.hid (show ∀ y ∈ L.take (t + 1), y.p.size ≤ 200 ∧ y.vt.size ≤ 300 from fun y hy => by
            rw [List.take_add_one, HXX.out, Option.toList_some, List.mem_append, List.mem_singleton] at hy
            rcases hy with hy | rfl
            · exact HA.out y hy
            · omega)
          clear h1 h2
          go_wp2_with fail
          go_roundw
          case rel => exact ⟨t + 1, hlt, by go_num, HKR.out.trans HKA.out, HN.out⟩
          case measure => simp [intOf]; omega
    · obtain rfl : t = n := by omega
      have HT := Lib.hid (show ∀ x ∈ L, x.p.size ≤ 200 ∧ x.vt.size ≤ 300 by
        have := HA.out
        rw [show L.take t = L from List.take_of_length_le (by rw [← HNL.out]; exact Nat.le_refl _)] at this
        exact this)
      have hb := HB.out.kept HKR.out
      have d0 := hb.c0
      clear hb
      by_cases h1 : 40 < t
      · have f1 : decide ((40 : Int) < (t : Int)) = true := decide_eq_true (by omega)
        have f2 : decide (40 < t) = true := decide_eq_true h1
        have HF := Lib.hid (show true = r from (HR.out.2 fun hs => by have := hs.2; omega).symm)
        clear h1
        go_wp2_with fail
        go_ret
        exact ⟨ret_bool HF.out, HK.out.trans HKR.out⟩
      · have f1 : decide ((40 : Int) < (t : Int)) = false := decide_eq_false (by omega)
        have f2 : decide (40 < t) = false := decide_eq_false h1
        have HF := Lib.hid (show false = r by
          cases r with
          | false => rfl
          | true => exact absurd ⟨HT.out, by omega⟩ (HR.out.1 rfl))
        clear h1
        go_wp2_with fail
        go_ret
        exact ⟨ret_bool HF.out, HK.out.trans HKR.out⟩
def findR (L : List Fd) (p : ByteArray) : Fd × Bool := match findF L p with
  | some y => (y, true)
  | none => (.none, false)
theorem findR_at {L : List Fd} {p : ByteArray} {t : Nat} {x : Fd} (hx : L[t]? = some x) (hm : L4.matS p x.p = true) (hall : ∀ y ∈ L.take t, L4.matS p y.p = false) : findR L p = (x, true) := by
  have e : findF L p = some x := by
    unfold findF
    have hl := (List.getElem?_eq_some_iff.1 hx)
    obtain ⟨h1, h2⟩ := hl
    have hs : L = L.take t ++ x :: L.drop (t + 1) := by
      have := List.drop_eq_getElem_cons h1
      rw [h2] at this
      rw [← this, List.take_append_drop]
    rw [hs, List.find?_append, List.find?_eq_none.2 (fun y hy => by rw [hall y hy]; decide), Option.none_or, List.find?_cons_of_pos (p := fun x : Fd => L4.matS p x.p) hm]
  unfold findR
  rw [e]
theorem findR_none {L : List Fd} {p : ByteArray} (hall : ∀ y ∈ L, L4.matS p y.p = false) : findR L p = (.none, false) := by
  have e : findF L p = none := by
    unfold findF
    rw [List.find?_eq_none]
    exact fun y hy => by rw [hall y hy]; decide
  unfold findR
  rw [e]
def x1 : Fd := ⟨⟨#[97, 47, 120]⟩, 1, 1, 1, 0, ⟨#[]⟩⟩
def x2 : Fd := ⟨⟨#[97, 47, 121]⟩, 2, 2, 0, 0, ⟨#[]⟩⟩
def x3 : Fd := ⟨⟨#[99]⟩, 3, 1, 0, 0, ⟨#[]⟩⟩
def x4 : Fd := ⟨⟨#[109, 47, 42, 47, 116]⟩, 1, 2, 2, 0, ⟨#[]⟩⟩
def y1 : Fd := ⟨⟨#[97, 47, 42]⟩, 1, 1, 1, 0, ⟨#[]⟩⟩
def y2 : Fd := ⟨⟨#[97, 47, 98]⟩, 1, 1, 1, 0, ⟨#[]⟩⟩
def smL : List Fd := [x1, x2, x3, x4]
theorem rightX1 : rightF x1 = true := by kernel_rfl
theorem rightX2 : rightF x2 = true := by kernel_rfl
theorem rightX3 : rightF x3 = true := by kernel_rfl
theorem rightX4 : rightF x4 = true := by kernel_rfl
theorem smL_ok : ScOk smL := by
  refine ⟨by decide, ?_, ?_, ?_⟩
  · intro x hx
    unfold smL at hx
    simp only [List.mem_cons, List.not_mem_nil, or_false] at hx
    rcases hx with rfl | rfl | rfl | rfl
    · exact rightX1
    · exact rightX2
    · exact rightX3
    · exact rightX4
  · unfold smL
    simp only [List.pairwise_cons, List.mem_cons, List.not_mem_nil, or_false, forall_eq_or_imp, forall_eq, List.Pairwise.nil, and_true, false_implies, implies_true]
    exact ⟨⟨by decide, by decide, by decide⟩, ⟨by decide, by decide⟩, by decide⟩
  · unfold smL
    simp only [List.pairwise_cons, List.mem_cons, List.not_mem_nil, or_false, forall_eq_or_imp, forall_eq, List.Pairwise.nil, and_true, false_implies, implies_true]
    exact ⟨⟨by kernel_rfl, by kernel_rfl, by kernel_rfl⟩, ⟨by kernel_rfl, by kernel_rfl⟩, by kernel_rfl⟩
theorem sl_kept {w w' : World} {b n c : Nat} {L : List ByteArray} (h : L4.Sl w ⟨b, 0, none⟩ n c L) (hk : Kept w w') : L4.Sl w' ⟨b, 0, none⟩ n c L :=
  ⟨h.1, h.2.1, h.2.2.1, Nat.lt_of_lt_of_le h.2.2.2.1 hk.2.2, fun j x hj => by have := h.2.2.2.2 j x hj; rw [Addr.add_lit] at this ⊢; exact hk.cell this⟩
end Go.Proofs.YtofnpifooaijcaaGreat
namespace Go.Proofs.YtofnpifooaijcaaGreat.L4
open Go.RowKit
end Go.Proofs.YtofnpifooaijcaaGreat.L4
namespace Go.Proofs.YtofnpifooaijcaaGreat
open Go.RowKit
set_option linter.unusedVariables false
theorem moveS_in {x : St} {p : ByteArray} (h : preS p x.p) : moveS x p = movedS x p := by unfold moveS; exact if_pos h
theorem moveS_out {x : St} {p : ByteArray} (h : ¬ preS p x.p) : moveS x p = p := by unfold moveS; exact if_neg h
theorem sl_one (w : World) (x : ByteArray) (ty : TypeId) : L4.Sl (w.alloc (.cells #[.string x] ty)) ⟨w.heap.size, 0, none⟩ 1 1 [x] :=
  ⟨rfl, Nat.le_refl _, by simp [maxLen], by simp, fun j y hj => by
    match j, hj with
    | 0, hj => obtain rfl := Option.some.inj hj; exact (Kept.refl _).box 0 _ rfl
    | j + 1, hj => simp at hj⟩
theorem sl_two (w : World) (x y : ByteArray) (ty : TypeId) : L4.Sl (w.alloc (.cells #[.string x, .string y] ty)) ⟨w.heap.size, 0, none⟩ 2 2 [x, y] :=
  ⟨rfl, Nat.le_refl _, by simp [maxLen], by simp, fun j z hj => by
    match j, hj with
    | 0, hj => obtain rfl := Option.some.inj hj; exact (Kept.refl _).box 0 _ rfl
    | 1, hj => obtain rfl := Option.some.inj hj; exact (Kept.refl _).box 1 _ rfl
    | j + 2, hj => simp at hj⟩
theorem fd_eq {x y : Fd} (h : x = y) : (x.p.toList == y.p.toList) = true ∧ (x.k == y.k) = true ∧ (x.t == y.t) = true ∧ (x.vk == y.vk) = true ∧ (x.vn == y.vn) = true ∧ (x.vt.toList == y.vt.toList) = true := by subst h; simp
theorem tls_eq {a b : ByteArray} (h : (a.toList == b.toList) = true) : a = b := by
  rw [beq_iff_eq, Lib.toList_data, Lib.toList_data] at h
  exact ba_ext h
theorem fd_of {x y : Fd} (h : (x.p.toList == y.p.toList) = true ∧ (x.k == y.k) = true ∧ (x.t == y.t) = true ∧ (x.vk == y.vk) = true ∧ (x.vn == y.vn) = true ∧ (x.vt.toList == y.vt.toList) = true) : x = y := by
  obtain ⟨h0, h1, h2, h3, h4, h5⟩ := h
  obtain ⟨x0, x1, x2, x3, x4, x5⟩ := x
  obtain ⟨y0, y1, y2, y3, y4, y5⟩ := y
  have e0 := tls_eq h0
  have e5 := tls_eq h5
  simp only [beq_iff_eq] at h1 h2 h3 h4 e0 e5
  subst h1 h2 h3 h4 e0 e5
  rfl
theorem fd_ne {x y : Fd} (h : ¬ x = y) : ((x.p.toList == y.p.toList) = false) ∨ ((x.p.toList == y.p.toList) = true ∧ (x.k == y.k) = false) ∨ ((x.p.toList == y.p.toList) = true ∧ (x.k == y.k) = true ∧ (x.t == y.t) = false) ∨ ((x.p.toList == y.p.toList) = true ∧ (x.k == y.k) = true ∧ (x.t == y.t) = true ∧ (x.vk == y.vk) = false) ∨ ((x.p.toList == y.p.toList) = true ∧ (x.k == y.k) = true ∧ (x.t == y.t) = true ∧ (x.vk == y.vk) = true ∧ (x.vn == y.vn) = false) ∨ ((x.p.toList == y.p.toList) = true ∧ (x.k == y.k) = true ∧ (x.t == y.t) = true ∧ (x.vk == y.vk) = true ∧ (x.vn == y.vn) = true ∧ (x.vt.toList == y.vt.toList) = false) := by
  by_cases h0 : (x.p.toList == y.p.toList) = true
  case neg => exact .inl (by rw [← Bool.not_eq_true]; exact h0)
  by_cases h1 : (x.k == y.k) = true
  case neg => exact .inr (.inl (⟨h0, by rw [← Bool.not_eq_true]; exact h1⟩))
  by_cases h2 : (x.t == y.t) = true
  case neg => exact .inr (.inr (.inl (⟨h0, h1, by rw [← Bool.not_eq_true]; exact h2⟩)))
  by_cases h3 : (x.vk == y.vk) = true
  case neg => exact .inr (.inr (.inr (.inl (⟨h0, h1, h2, by rw [← Bool.not_eq_true]; exact h3⟩))))
  by_cases h4 : (x.vn == y.vn) = true
  case neg => exact .inr (.inr (.inr (.inr (.inl (⟨h0, h1, h2, h3, by rw [← Bool.not_eq_true]; exact h4⟩)))))
  exact .inr (.inr (.inr (.inr (.inr (⟨h0, h1, h2, h3, h4, by rw [← Bool.not_eq_true]; exact fun h5 => h (fd_of ⟨h0, h1, h2, h3, h4, h5⟩)⟩)))))
def OneR (L : List Fd) (p : ByteArray) (r : Int) : Prop :=
  (∃ t x, r = ((t : Nat) : Int) ∧ L[t]? = some x ∧ x.p = p ∧ ∀ y ∈ L.take t, y.p ≠ p) ∨ (r = -1 ∧ ∀ y ∈ L, y.p ≠ p)
theorem oneR_one {L : List Fd} {p : ByteArray} {r s : Int} (h : OneR L p r) (h' : OneR L p s) : r = s := by
  have key : ∀ {t u : Nat} {x : Fd}, L[t]? = some x → x.p = p → (∀ y ∈ L.take u, y.p ≠ p) → ¬ t < u := by
    intro t u x h1 h2 h3 hlt
    refine h3 x ?_ h2
    rw [List.mem_iff_getElem?]
    exact ⟨t, by rw [List.getElem?_take, if_pos hlt, h1]⟩
  rcases h with ⟨t, x, h1, h2, h3, h4⟩ | ⟨h1, h2⟩ <;> rcases h' with ⟨u, y, k1, k2, k3, k4⟩ | ⟨k1, k2⟩
  · have := key h2 h3 k4; have := key k2 k3 h4; omega
  · exact absurd h3 (k2 x (List.mem_of_getElem? h2))
  · exact absurd k3 (h2 y (List.mem_of_getElem? k2))
  · omega
theorem oneR_ex (L : List Fd) (p : ByteArray) : ∃ r, OneR L p r := by
  induction L with
  | nil => exact ⟨-1, .inr ⟨rfl, fun y hy => by cases hy⟩⟩
  | cons x L ih =>
    by_cases e : x.p = p
    · exact ⟨0, .inl ⟨0, x, rfl, rfl, e, fun y hy => by simp at hy⟩⟩
    · obtain ⟨r, hr⟩ := ih
      rcases hr with ⟨t, y, h1, h2, h3, h4⟩ | ⟨h1, h2⟩
      · refine ⟨((t + 1 : Nat) : Int), .inl ⟨t + 1, y, rfl, by simpa using h2, h3, fun z hz => ?_⟩⟩
        rw [List.take_succ_cons] at hz
        rcases List.mem_cons.1 hz with rfl | hz
        · exact e
        · exact h4 z hz
      · refine ⟨-1, .inr ⟨rfl, fun z hz => ?_⟩⟩
        rcases List.mem_cons.1 hz with rfl | hz
        · exact e
        · exact h2 z hz
theorem txt_eq {a b : ByteArray} (h : a = b) : (a.toList == b.toList) = true := by rw [h]; simp
theorem txt_ne {a b : ByteArray} (h : ¬ a = b) : (a.toList == b.toList) = false := by rw [← Bool.not_eq_true]; exact fun e => h (tls_eq e)
theorem OutF.made {U w : World} (hk : Kept U w) : OutF U (w.alloc (.cells #[] 28)) (.slice (some ⟨w.heap.size, 0, none⟩) 0 0) [] :=
  ⟨World.ownsRow_made (base := U.heap.size) (e := 28) (size := 6) w #[] 0 hk.2.2 (by simp [maxLen]) rfl, hk.alloc _ _⟩
def OfS (L : List Fd) (w : World) (e : Ending) (w' : World) : Prop := ∃ A c, e = .returned (.agg #[.slice A L.length c]) ∧ Fl w' A L.length c (ofF L) ∧ Kept w w'
theorem flatF_set {L : List Fd} {t : Nat} {y : Fd} (ht : t < L.length) {A : List Value} (h1 : ∀ i, i < 6 → A[t * 6 + i]? = (cellF y)[i]?) (h2 : ∀ i, i < t * 6 ∨ t * 6 + 6 ≤ i → A[i]? = (flatF L)[i]?) : flatF (L.set t y) = A := by
  apply List.ext_getElem?
  intro i
  have hi : i = i / 6 * 6 + i % 6 := by omega
  have hr : i % 6 < 6 := Nat.mod_lt _ (by decide)
  by_cases hj : i / 6 < L.length
  · by_cases e : t = i / 6
    · have hz : (L.set t y)[i / 6]? = some y := by rw [← e, List.getElem?_set_self ht]
      rw [hi, flatF_get _ _ _ hz _ hr, ← e, h1 _ hr]
    · obtain ⟨z, hz⟩ : ∃ z, L[i / 6]? = some z := ⟨_, List.getElem?_eq_getElem hj⟩
      have hz2 : (L.set t y)[i / 6]? = some z := by rw [List.getElem?_set_ne e, hz]
      rw [h2 i (by omega), hi, flatF_get _ _ _ hz2 _ hr, flatF_get _ _ _ hz _ hr]
  · rw [h2 i (by omega), List.getElem?_eq_none (by rw [flatF_len, List.length_set]; omega), List.getElem?_eq_none (by rw [flatF_len]; omega)]
theorem OutF.cell {U wr : World} {g c : Nat} {L : List Fd} (h : OutF U wr (.slice (some ⟨g, 0, none⟩) L.length c) L) {t i : Nat} {x : Fd} {v : Value} (hx : L[t]? = some x) (hi : (cellF x)[i]? = some v) :
    wr.cell? ⟨g, t * 6 + i, none⟩ = some v ∧ wr.frozen? ⟨g, t * 6 + i, none⟩ = false := by
  have hl := (List.getElem?_eq_some_iff.1 hx).1
  have h6 : i < 6 := (List.getElem?_eq_some_iff.1 hi).1
  refine ⟨?_, h.own.frozenAt _⟩
  rw [h.own.cellAt _ (by omega), flatF_get L t x hx i h6, hi]
theorem OutF.setP {U wr : World} {g c : Nat} {L : List Fd} (h : OutF U wr (.slice (some ⟨g, 0, none⟩) L.length c) L) {t : Nat} {x : Fd} (hx : L[t]? = some x) (p : ByteArray) :
    OutF U (wr.setCell ⟨g, t * 6, none⟩ (.string p)) (.slice (some ⟨g, 0, none⟩) L.length c) (L.set t (x.withP p)) := by
  have hl := (List.getElem?_eq_some_iff.1 hx).1
  have hb := (h.own.lt g rfl).1
  have e : flatF (L.set t (x.withP p)) = (flatF L).set (t * 6) (.string p) := by
    refine flatF_set hl (fun i hi => ?_) (fun i hi => List.getElem?_set_ne (by omega))
    have hf := flatF_get L t x hx i hi
    match i, hi with
    | 0, _ => rw [Nat.add_zero, List.getElem?_set_self (by rw [flatF_len]; omega)]; rfl
    | 1, _ => rw [List.getElem?_set_ne (by omega), hf]; rfl
    | 2, _ => rw [List.getElem?_set_ne (by omega), hf]; rfl
    | 3, _ => rw [List.getElem?_set_ne (by omega), hf]; rfl
    | 4, _ => rw [List.getElem?_set_ne (by omega), hf]; rfl
    | 5, _ => rw [List.getElem?_set_ne (by omega), hf]; rfl
  refine ⟨?_, h.ke.setCell (a := ⟨g, t * 6, none⟩) hb _⟩
  rw [List.length_set, e]
  exact (h.own.stored _ _).1
theorem OutF.setX {U wr : World} {g c : Nat} {L : List Fd} (h : OutF U wr (.slice (some ⟨g, 0, none⟩) L.length c) L) {t : Nat} (hl : t < L.length) (y : Fd) :
    OutF U ((((((wr.setCell ⟨g, t * 6, none⟩ (.string y.p)).setCell ⟨g, t * 6 + 1, none⟩ (.int .i64 y.k)).setCell ⟨g, t * 6 + 2, none⟩ (.int .i64 y.t)).setCell ⟨g, t * 6 + 3, none⟩ (.int .i64 y.vk)).setCell ⟨g, t * 6 + 4, none⟩ (.int .i64 y.vn)).setCell ⟨g, t * 6 + 5, none⟩ (.string y.vt)) (.slice (some ⟨g, 0, none⟩) L.length c) (L.set t y) := by
  have hb := (h.own.lt g rfl).1
  have hfl := flatF_len L
  have e : flatF (L.set t y) = ((((((flatF L).set (t * 6) (.string y.p)).set (t * 6 + 1) (.int .i64 y.k)).set (t * 6 + 2) (.int .i64 y.t)).set (t * 6 + 3) (.int .i64 y.vk)).set (t * 6 + 4) (.int .i64 y.vn)).set (t * 6 + 5) (.string y.vt) := by
    refine flatF_set hl (fun i hi => ?_) (fun i hi => ?_)
    · match i, hi with
      | 0, _ => rw [List.getElem?_set_ne (by omega), List.getElem?_set_ne (by omega), List.getElem?_set_ne (by omega), List.getElem?_set_ne (by omega), List.getElem?_set_ne (by omega), Nat.add_zero, List.getElem?_set_self (by omega)]; rfl
      | 1, _ => rw [List.getElem?_set_ne (by omega), List.getElem?_set_ne (by omega), List.getElem?_set_ne (by omega), List.getElem?_set_ne (by omega), List.getElem?_set_self (by simp; omega)]; rfl
      | 2, _ => rw [List.getElem?_set_ne (by omega), List.getElem?_set_ne (by omega), List.getElem?_set_ne (by omega), List.getElem?_set_self (by simp; omega)]; rfl
      | 3, _ => rw [List.getElem?_set_ne (by omega), List.getElem?_set_ne (by omega), List.getElem?_set_self (by simp; omega)]; rfl
      | 4, _ => rw [List.getElem?_set_ne (by omega), List.getElem?_set_self (by simp; omega)]; rfl
      | 5, _ => rw [List.getElem?_set_self (by simp; omega)]; rfl
    · rw [List.getElem?_set_ne (by omega), List.getElem?_set_ne (by omega), List.getElem?_set_ne (by omega), List.getElem?_set_ne (by omega), List.getElem?_set_ne (by omega), List.getElem?_set_ne (by omega)]
  refine ⟨?_, (((((h.ke.setCell (a := ⟨g, t * 6, none⟩) hb _).setCell (a := ⟨g, t * 6 + 1, none⟩) hb _).setCell (a := ⟨g, t * 6 + 2, none⟩) hb _).setCell (a := ⟨g, t * 6 + 3, none⟩) hb _).setCell (a := ⟨g, t * 6 + 4, none⟩) hb _).setCell (a := ⟨g, t * 6 + 5, none⟩) hb _⟩
  rw [List.length_set, e]
  exact ((((((h.own.stored _ _).1.stored _ _).1.stored _ _).1.stored _ _).1.stored _ _).1.stored _ _).1
theorem OutF.cut {U wr : World} {g n c : Nat} {L : List Fd} (h : OutF U wr (.slice (some ⟨g, 0, none⟩) n c) L) {k : Nat} (hk : k ≤ L.length) : OutF U wr (.slice (some ⟨g, 0, none⟩) k c) (L.take k) := by
  refine ⟨?_, h.ke⟩
  have hfl := flatF_len L
  have hlk : (L.take k).length = k := by rw [List.length_take]; omega
  have hft : flatF (L.take k) = (flatF L).take (k * 6) := by
    have e : flatF L = flatF (L.take k) ++ flatF (L.drop k) := by rw [← flatF_app, List.take_append_drop]
    conv => rhs; rw [e, List.take_left' (by rw [flatF_len, hlk])]
  rw [hlk, hft]
  obtain ⟨h1, h2⟩ := h.own
  refine ⟨by rw [List.length_take, hfl]; omega, ?_⟩
  rcases h2 with ⟨h', _⟩ | ⟨g', cap', cur, h', hb, hg, hnc, hcm, hcs, ht⟩
  · simp at h'
  · simp only [Value.slice.injEq, Option.some.injEq, Addr.mk.injEq, and_true] at h'
    obtain ⟨rfl, rfl, rfl⟩ := h'
    exact .inr ⟨g, c, cur, rfl, hb, hg, by omega, hcm, hcs, by rw [← ht, List.take_take, Nat.min_eq_left (by omega)]⟩
theorem cell_besideK {w : World} {b i j : Nat} {v u : Value} (hij : i ≠ j) (h : w.cell? ⟨b, j, none⟩ = some u) : (w.setCell ⟨b, i, none⟩ v).cell? ⟨b, j, none⟩ = some u := by
  rw [World.cell?_setCell_other _ _ _ _ (fun e => hij (by cases e; rfl))]; exact h
theorem cell_offK {w : World} {b b' i j : Nat} {v u : Value} (hb : b ≠ b') (h : w.cell? ⟨b', j, none⟩ = some u) : (w.setCell ⟨b, i, none⟩ v).cell? ⟨b', j, none⟩ = some u := by
  rw [World.cell?_setCell_other _ _ _ _ (fun e => hb (by cases e; rfl))]; exact h
theorem StB.far {w : World} {bl g i : Nat} {A : Option Addr} {n c : Nat} {x : St} (h : StB w bl A n c x) (hne : g ≠ bl) (v : Value) : StB (w.setCell ⟨g, i, none⟩ v) bl A n c x :=
  ⟨fun j u hu => cell_offK hne (h.r j u hu), fun j => by rw [World.frozen?_setCell]; exact h.f j, by have := h.lt; simpa [World.setCell] using this⟩
theorem FdB.far {w : World} {b g i : Nat} {x : Fd} (h : FdB w b x) (hne : g ≠ b) (v : Value) : FdB (w.setCell ⟨g, i, none⟩ v) b x :=
  ⟨cell_offK hne h.c0, cell_offK hne h.c1, cell_offK hne h.c2, cell_offK hne h.c3, cell_offK hne h.c4, cell_offK hne h.c5, fun j => by rw [World.frozen?_setCell]; exact h.f j, by have := h.lt; simpa [World.setCell] using this⟩
theorem FdB.setP {w : World} {b : Nat} {x : Fd} (h : FdB w b x) (p : ByteArray) : FdB (World.setCell w ⟨b, 0, none⟩ (.string p)) b (x.withP p) :=
  ⟨World.cell?_setCell_same _ _ _ (h.c0), cell_besideK (by decide) (h.c1), cell_besideK (by decide) (h.c2), cell_besideK (by decide) (h.c3), cell_besideK (by decide) (h.c4), cell_besideK (by decide) (h.c5), fun j => by rw [World.frozen?_setCell]; exact h.f j, by have := h.lt; simpa [World.setCell] using this⟩
theorem FdB.setKi {w : World} {b : Nat} {x : Fd} (h : FdB w b x) (k : Int) : FdB (World.setCell w ⟨b, 1, none⟩ (.int .i64 k)) b ⟨x.p, k, x.t, x.vk, x.vn, x.vt⟩ :=
  ⟨cell_besideK (by decide) (h.c0), World.cell?_setCell_same _ _ _ (h.c1), cell_besideK (by decide) (h.c2), cell_besideK (by decide) (h.c3), cell_besideK (by decide) (h.c4), cell_besideK (by decide) (h.c5), fun j => by rw [World.frozen?_setCell]; exact h.f j, by have := h.lt; simpa [World.setCell] using this⟩
theorem FdB.setTy {w : World} {b : Nat} {x : Fd} (h : FdB w b x) (k : Int) : FdB (World.setCell w ⟨b, 2, none⟩ (.int .i64 k)) b ⟨x.p, x.k, k, x.vk, x.vn, x.vt⟩ :=
  ⟨cell_besideK (by decide) (h.c0), cell_besideK (by decide) (h.c1), World.cell?_setCell_same _ _ _ (h.c2), cell_besideK (by decide) (h.c3), cell_besideK (by decide) (h.c4), cell_besideK (by decide) (h.c5), fun j => by rw [World.frozen?_setCell]; exact h.f j, by have := h.lt; simpa [World.setCell] using this⟩
theorem FdB.setDef {w : World} {b : Nat} {x : Fd} (h : FdB w b x) (v : Va) : FdB (World.setCell (World.setCell (World.setCell w ⟨b, 3, none⟩ (.int .i64 v.k)) ⟨b, 4, none⟩ (.int .i64 v.n)) ⟨b, 5, none⟩ (.string v.t)) b (x.withD x.k x.t v) :=
  ⟨cell_besideK (by decide) (cell_besideK (by decide) (cell_besideK (by decide) (h.c0))), cell_besideK (by decide) (cell_besideK (by decide) (cell_besideK (by decide) (h.c1))), cell_besideK (by decide) (cell_besideK (by decide) (cell_besideK (by decide) (h.c2))), cell_besideK (by decide) (cell_besideK (by decide) (World.cell?_setCell_same _ _ _ (h.c3))), cell_besideK (by decide) (World.cell?_setCell_same _ _ _ (cell_besideK (by decide) (h.c4))), World.cell?_setCell_same _ _ _ (cell_besideK (by decide) (cell_besideK (by decide) (h.c5))), fun j => by rw [World.frozen?_setCell, World.frozen?_setCell, World.frozen?_setCell]; exact h.f j, by have := h.lt; simpa [World.setCell] using this⟩
theorem FdB.setAll {w : World} {b : Nat} {x : Fd} (h : FdB w b x) (y : Fd) : FdB (World.setCell (World.setCell (World.setCell (World.setCell (World.setCell (World.setCell w ⟨b, 0, none⟩ (.string y.p)) ⟨b, 1, none⟩ (.int .i64 y.k)) ⟨b, 2, none⟩ (.int .i64 y.t)) ⟨b, 3, none⟩ (.int .i64 y.vk)) ⟨b, 4, none⟩ (.int .i64 y.vn)) ⟨b, 5, none⟩ (.string y.vt)) b y :=
  ⟨cell_besideK (by decide) (cell_besideK (by decide) (cell_besideK (by decide) (cell_besideK (by decide) (cell_besideK (by decide) (World.cell?_setCell_same _ _ _ (h.c0)))))), cell_besideK (by decide) (cell_besideK (by decide) (cell_besideK (by decide) (cell_besideK (by decide) (World.cell?_setCell_same _ _ _ (cell_besideK (by decide) (h.c1)))))), cell_besideK (by decide) (cell_besideK (by decide) (cell_besideK (by decide) (World.cell?_setCell_same _ _ _ (cell_besideK (by decide) (cell_besideK (by decide) (h.c2)))))), cell_besideK (by decide) (cell_besideK (by decide) (World.cell?_setCell_same _ _ _ (cell_besideK (by decide) (cell_besideK (by decide) (cell_besideK (by decide) (h.c3)))))), cell_besideK (by decide) (World.cell?_setCell_same _ _ _ (cell_besideK (by decide) (cell_besideK (by decide) (cell_besideK (by decide) (cell_besideK (by decide) (h.c4)))))), World.cell?_setCell_same _ _ _ (cell_besideK (by decide) (cell_besideK (by decide) (cell_besideK (by decide) (cell_besideK (by decide) (cell_besideK (by decide) (h.c5)))))), fun j => by rw [World.frozen?_setCell, World.frozen?_setCell, World.frozen?_setCell, World.frozen?_setCell, World.frozen?_setCell, World.frozen?_setCell]; exact h.f j, by have := h.lt; simpa [World.setCell] using this⟩
theorem FdB.setKD {w : World} {b : Nat} {x : Fd} (h : FdB w b x) (k : Int) (v : Va) : FdB (World.setCell (World.setCell (World.setCell (World.setCell w ⟨b, 1, none⟩ (.int .i64 k)) ⟨b, 3, none⟩ (.int .i64 v.k)) ⟨b, 4, none⟩ (.int .i64 v.n)) ⟨b, 5, none⟩ (.string v.t)) b (x.withD k x.t v) :=
  ⟨cell_besideK (by decide) (cell_besideK (by decide) (cell_besideK (by decide) (cell_besideK (by decide) (h.c0)))), cell_besideK (by decide) (cell_besideK (by decide) (cell_besideK (by decide) (World.cell?_setCell_same _ _ _ (h.c1)))), cell_besideK (by decide) (cell_besideK (by decide) (cell_besideK (by decide) (cell_besideK (by decide) (h.c2)))), cell_besideK (by decide) (cell_besideK (by decide) (World.cell?_setCell_same _ _ _ (cell_besideK (by decide) (h.c3)))), cell_besideK (by decide) (World.cell?_setCell_same _ _ _ (cell_besideK (by decide) (cell_besideK (by decide) (h.c4)))), World.cell?_setCell_same _ _ _ (cell_besideK (by decide) (cell_besideK (by decide) (cell_besideK (by decide) (h.c5)))), fun j => by rw [World.frozen?_setCell, World.frozen?_setCell, World.frozen?_setCell, World.frozen?_setCell]; exact h.f j, by have := h.lt; simpa [World.setCell] using this⟩
theorem VaO.farK {w : World} {b g i : Nat} {v : Va} (h : VaO w b v) (hne : g ≠ b) (u : Value) : VaO (w.setCell ⟨g, i, none⟩ u) b v :=
  ⟨cell_offK hne h.c0, cell_offK hne h.c1, cell_offK hne h.c2, fun j => by rw [World.frozen?_setCell]; exact h.f j, by have := h.lt; simpa [World.setCell] using this⟩
def leafG (x : St) (f : Fd) : Fd :=
  if x.k = 6 then f.withP (movedS x f.p) else if x.k = 7 then f.withP (movedS x f.p) else if x.k = 8 then f.withD 2 f.t .zero else if x.k = 9 then f.withD 1 f.t x.d
  else if f.k = 1 then f.withD f.k x.b (applyT x.T (defV f)) else f.withD f.k x.b (defV f)
def LeafP (x : St) (f : Fd) : Prop :=
  if x.k = 6 then f.k = 1 else if x.k = 7 then f.k = 1 else if x.k = 8 then f.k = 1 ∧ defV f = x.d else if x.k = 9 then f.k = 2
  else f.k ≠ 3 ∧ f.t = x.a ∧ (f.k = 1 → wayT x.T (applyT x.T (defV f)) = defV f)
end Go.Proofs.YtofnpifooaijcaaGreat
