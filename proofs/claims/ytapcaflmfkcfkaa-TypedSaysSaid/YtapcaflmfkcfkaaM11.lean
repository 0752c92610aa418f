/-
  What is proved: Long of layer 11's laws and the document's Find of layer 11 (P11.4), called with any schema (and path) of bounded texts, return what those say; the world has new blocks at most.
  plain facts on what fits a schema (P12.1 to P12.5): what fits, paths that rise, each once, what a path has where nobody wrote; no program is spoken of here.
-/
import Derived.Test.YtapcaflmfkcfkaaM10
namespace Go.Proofs.Ytapcaflmfkcfkaa
open Go.RowKit
set_option linter.unusedVariables false

/-- One cell in a block of its own. -/
structure Box1 (w : World) (b : Nat) (u : Value) : Prop where
  c0 : w.cell? ⟨b, 0, none⟩ = some u
  f : ∀ j, w.frozen? ⟨b, j, none⟩ = false
  lt : b < w.heap.size
theorem Box1.kept {w w' : World} {b : Nat} {u : Value} (h : Box1 w b u) (hk : Kept w w') : Box1 w' b u :=
  ⟨hk.cell h.c0, fun j => (hk.2.1 ⟨b, j, none⟩ h.lt).trans (h.f j), Nat.lt_of_lt_of_le h.lt hk.2.2⟩
theorem Box1.new (w : World) (u : Value) (t : TypeId) : Box1 (w.alloc (.cells #[u] t)) w.heap.size u :=
  ⟨(Kept.refl _).box 0 _ rfl, fun j => by rw [frozen?_alloc_cells]; simp [World.frozen?], by simp⟩
def ShortF (L : List Fd) (n : Nat) : Prop := (∀ x ∈ L, x.p.size ≤ 200 ∧ x.vt.size ≤ 300) ∧ n ≤ 40
set_option maxRecDepth 100000 in
set_option maxHeartbeats 8000000 in
theorem flong_any (A : Option Addr) (n c : Nat) (L : List Fd) (w : World) (h : Fl w A n c L) (hw : ∀ x ∈ L, x.p.size ≤ 9223372036854775807 ∧ x.vt.size ≤ 9223372036854775807) (r : Bool) (hr : r = true ↔ ¬ ShortF L n) :
    Calls Try.prog 5 #[.agg #[.slice A n c]] w fun e w' => e = .returned (.bool r) ∧ Kept w w' := by
  have hk := (Kept.refl w).alloc #[.slice A n c] 24
  have hcap := h.cap.1; have hcap2 := h.cap.2
  have HNL := Lib.hid h.1; have HSZ := Lib.hid hw; have HR := Lib.hid hr
  have HB := Lib.hid (Box1.new w (.slice A n c) 24)
  have HH := Lib.hid (h.kept hk)
  obtain ⟨U, hU⟩ : ∃ U, w.alloc (.cells #[.slice A n c] 24) = U := ⟨_, rfl⟩
  rw [hU] at hk HB HH
  have HK := Lib.hid hk; have HUU := Lib.hid hU
  have d0 := HB.out.c0
  clear h hw hr hk hU
  go_enter Try.func5, Try.ntmps5
  go_wp2_with fail
  rw [HUU.out]
  go_wp2_with fail
  clear d0
  go_loopw [8] (fun i wr => ∃ t : Nat, t ≤ n ∧ i = .int .i64 t ∧ Kept U wr ∧ ∀ x ∈ L.take t, x.p.size ≤ 200 ∧ x.vt.size ≤ 300) (fun i _ => n - (intOf i).toNat)
  case atStart => exact ⟨0, Nat.zero_le _, rfl, Kept.refl _, fun x hx => by simp at hx⟩
  case round =>
    obtain ⟨t, ht, rfl, hkr, hall⟩ := hrel
    have HKR := Lib.hid hkr; have HA := Lib.hid hall
    clear hkr hall
    by_cases hlt : t < n
    · obtain ⟨g, o, x, rfl, hx, EX⟩ := (HH.out.kept HKR.out).get hlt
      have x0 := EX.c0; have x1 := EX.c1; have x2 := EX.c2; have x3 := EX.c3; have x4 := EX.c4; have x5 := EX.c5
      have HE := FdB.new wr x 44
      have z0 := HE.c0; have z1 := HE.c1; have z2 := HE.c2; have z3 := HE.c3; have z4 := HE.c4; have z5 := HE.c5
      have hsx := HSZ.out x (List.mem_of_getElem? hx)
      have hs1 := hsx.1; have hs2 := hsx.2
      have HXX := Lib.hid hx
      have HKA := Lib.hid ((Kept.refl wr).alloc #[.string x.p, .int .i64 x.k, .int .i64 x.t, .int .i64 x.vk, .int .i64 x.vn, .string x.vt] 44)
      clear EX hx HE hsx
      by_cases h1 : 200 < x.p.size
      · have f1 : decide ((200 : Int) < (x.p.size : Int)) = true := decide_eq_true (by omega)
        have f2 : decide (200 < x.p.size) = true := decide_eq_true h1
        have HF := Lib.hid (show true = r from (HR.out.2 fun hs => by have := (hs.1 x (List.mem_of_getElem? HXX.out)).1; omega).symm)
        clear h1
        go_wp2_with fail
        go_ret
        exact ⟨ret_bool HF.out, HK.out.trans (HKR.out.trans HKA.out)⟩
      · have f1 : decide ((200 : Int) < (x.p.size : Int)) = false := decide_eq_false (by omega)
        have f2 : decide (200 < x.p.size) = false := decide_eq_false h1
        by_cases h2 : 300 < x.vt.size
        · have f3 : decide ((300 : Int) < (x.vt.size : Int)) = true := decide_eq_true (by omega)
          have f4 : decide (300 < x.vt.size) = true := decide_eq_true h2
          have HF := Lib.hid (show true = r from (HR.out.2 fun hs => by have := (hs.1 x (List.mem_of_getElem? HXX.out)).2; omega).symm)
          clear h1 h2
          go_wp2_with fail
          go_ret
          exact ⟨ret_bool HF.out, HK.out.trans (HKR.out.trans HKA.out)⟩
        · have f3 : decide ((300 : Int) < (x.vt.size : Int)) = false := decide_eq_false (by omega)
          have f4 : decide (300 < x.vt.size) = false := decide_eq_false h2
          have HN := Lib.hid (show ∀ y ∈ L.take (t + 1), y.p.size ≤ 200 ∧ y.vt.size ≤ 300 from fun y hy => by
            rw [List.take_add_one, HXX.out, Option.toList_some, List.mem_append, List.mem_singleton] at hy
            rcases hy with hy | rfl
            · exact HA.out y hy
            · omega)
          clear h1 h2
          go_wp2_with fail
          go_roundw
          case rel => exact ⟨t + 1, hlt, by go_num, HKR.out.trans HKA.out, HN.out⟩
          case measure => simp [intOf]; omega
    · obtain rfl : t = n := by omega
      have HT := Lib.hid (show ∀ x ∈ L, x.p.size ≤ 200 ∧ x.vt.size ≤ 300 by
        have := HA.out
        rw [show L.take t = L from List.take_of_length_le (by rw [← HNL.out]; exact Nat.le_refl _)] at this
        exact this)
      have hb := HB.out.kept HKR.out
      have d0 := hb.c0
      clear hb
      by_cases h1 : 40 < t
      · have f1 : decide ((40 : Int) < (t : Int)) = true := decide_eq_true (by omega)
        have f2 : decide (40 < t) = true := decide_eq_true h1
        have HF := Lib.hid (show true = r from (HR.out.2 fun hs => by have := hs.2; omega).symm)
        clear h1
        go_wp2_with fail
        go_ret
        exact ⟨ret_bool HF.out, HK.out.trans HKR.out⟩
      · have f1 : decide ((40 : Int) < (t : Int)) = false := decide_eq_false (by omega)
        have f2 : decide (40 < t) = false := decide_eq_false h1
        have HF := Lib.hid (show false = r by
          cases r with
          | false => rfl
          | true => exact absurd ⟨HT.out, by omega⟩ (HR.out.1 rfl))
        clear h1
        go_wp2_with fail
        go_ret
        exact ⟨ret_bool HF.out, HK.out.trans HKR.out⟩
/-- P11.4: what is found. -/
def findR (L : List Fd) (p : ByteArray) : Fd × Bool := match findF L p with
  | some y => (y, true)
  | none => (.none, false)
theorem findR_at {L : List Fd} {p : ByteArray} {t : Nat} {x : Fd} (hx : L[t]? = some x) (hm : L4.matS p x.p = true) (hall : ∀ y ∈ L.take t, L4.matS p y.p = false) : findR L p = (x, true) := by
  have e : findF L p = some x := by
    unfold findF
    have hl := (List.getElem?_eq_some_iff.1 hx)
    obtain ⟨h1, h2⟩ := hl
    have hs : L = L.take t ++ x :: L.drop (t + 1) := by
      have := List.drop_eq_getElem_cons h1
      rw [h2] at this
      rw [← this, List.take_append_drop]
    rw [hs, List.find?_append, List.find?_eq_none.2 (fun y hy => by rw [hall y hy]; decide), Option.none_or, List.find?_cons_of_pos (p := fun x : Fd => L4.matS p x.p) hm]
  unfold findR
  rw [e]
theorem findR_none {L : List Fd} {p : ByteArray} (hall : ∀ y ∈ L, L4.matS p y.p = false) : findR L p = (.none, false) := by
  have e : findF L p = none := by
    unfold findF
    rw [List.find?_eq_none]
    exact fun y hy => by rw [hall y hy]; decide
  unfold findR
  rw [e]
set_option maxRecDepth 100000 in
set_option maxHeartbeats 8000000 in
theorem rfind_any (A : Option Addr) (n c : Nat) (L : List Fd) (p : ByteArray) (w : World) (h : Fl w A n c L) (hw : ∀ x ∈ L, x.p.size ≤ 1099511627776) (hp : p.size ≤ 1099511627776) (y : Fd) (z : Bool) (hyz : findR L p = (y, z)) :
    Calls Try.prog 21 #[.agg #[.slice A n c], .string p] w fun e w' => e = .returned (.tuple #[.agg #[.string y.p, .int .i64 y.k, .int .i64 y.t, .int .i64 y.vk, .int .i64 y.vn, .string y.vt], .bool z]) ∧ Kept w w' := by
  have hk := ((Kept.refl w).alloc #[.slice A n c] 24).alloc #[.string ⟨#[]⟩, .int .i64 0, .int .i64 0, .int .i64 0, .int .i64 0, .string ⟨#[]⟩] 44
  have hcap := h.cap.1; have hcap2 := h.cap.2
  have HNL := Lib.hid h.1; have HSZ := Lib.hid hw; have HP := Lib.hid hp; have HY := Lib.hid hyz
  have HB := Lib.hid ((Box1.new w (.slice A n c) 24).kept ((Kept.refl _).alloc #[.string ⟨#[]⟩, .int .i64 0, .int .i64 0, .int .i64 0, .int .i64 0, .string ⟨#[]⟩] 44))
  have hr := FdB.new (w.alloc (.cells #[.slice A n c] 24)) .none 44
  simp only [Fd.none] at hr
  rw [show (w.alloc (.cells #[.slice A n c] 24)).heap.size = w.heap.size + 1 by simp] at hr
  have HH := Lib.hid (h.kept hk)
  obtain ⟨U, hU⟩ : ∃ U, (w.alloc (.cells #[.slice A n c] 24)).alloc (.cells #[.string ⟨#[]⟩, .int .i64 0, .int .i64 0, .int .i64 0, .int .i64 0, .string ⟨#[]⟩] 44) = U := ⟨_, rfl⟩
  rw [hU] at hk HB HH hr
  have HK := Lib.hid hk; have HUU := Lib.hid hU; have HRES := Lib.hid hr
  have d0 := HB.out.c0
  clear h hw hp hyz hk hU hr
  go_enter Try.func21, Try.ntmps21
  go_wp2_with fail
  rw [HUU.out]
  go_wp2_with fail
  clear d0
  go_loopw [11] (fun i wr => ∃ t : Nat, t ≤ n ∧ i = .int .i64 t ∧ Kept U wr ∧ ∀ x ∈ L.take t, L4.matS p x.p = false) (fun i _ => n - (intOf i).toNat)
  case atStart => exact ⟨0, Nat.zero_le _, rfl, Kept.refl _, fun x hx => by simp at hx⟩
  case round =>
    obtain ⟨t, ht, rfl, hkr, hall⟩ := hrel
    have HKR := Lib.hid hkr; have HA := Lib.hid hall
    clear hkr hall
    by_cases hlt : t < n
    · obtain ⟨g, o, x, rfl, hx, EX⟩ := (HH.out.kept HKR.out).get hlt
      have x0 := EX.c0; have x1 := EX.c1; have x2 := EX.c2; have x3 := EX.c3; have x4 := EX.c4; have x5 := EX.c5
      have HE := Lib.hid (FdB.new wr x 44)
      have z0 := HE.out.c0
      have HXX := Lib.hid hx
      have hka := (Kept.refl wr).alloc #[.string x.p, .int .i64 x.k, .int .i64 x.t, .int .i64 x.vk, .int .i64 x.vn, .string x.vt] 44
      have HKA := Lib.hid hka
      obtain ⟨b, hb⟩ : ∃ b, L4.matS p x.p = b := ⟨_, rfl⟩
      have AM := Lib.hid (fun w => rmatK p x.p b hb HP.out (HSZ.out x (List.mem_of_getElem? HXX.out)) w)
      have HBB := Lib.hid hb
      clear EX hx hka hb
      go_wp2_with fail
      go_at_call 38
      refine (AM.out _).mono ?_
      rintro e w1 ⟨rfl, hk1⟩
      have HK1 := Lib.hid (HKR.out.trans (HKA.out.trans hk1))
      replace HE := Lib.hid (HE.out.kept hk1)
      clear hk1 z0 x0 x1 x2 x3 x4 x5
      cases b with
      | true =>
        have hyz := HY.out
        rw [findR_at HXX.out HBB.out HA.out] at hyz
        obtain ⟨rfl, rfl⟩ := Prod.mk.inj hyz
        have hr := HRES.out.kept HK1.out
        have rf := hr.f
        have r0 := hr.c0; have r1 := hr.c1; have r2 := hr.c2; have r3 := hr.c3; have r4 := hr.c4; have r5 := hr.c5
        have z0 := HE.out.c0; have z1 := HE.out.c1; have z2 := HE.out.c2; have z3 := HE.out.c3; have z4 := HE.out.c4; have z5 := HE.out.c5
        clear hyz hr
        go_wp2_with fail
        refine bodyPost_ret (by simp [results, Try.results21, go_sem, *]) rfl ⟨rfl, ?_⟩
        exact ((((((HK.out.trans HK1.out).setCell (Nat.le_add_right _ 1) _).setCell (Nat.le_add_right _ 1) _).setCell (Nat.le_add_right _ 1) _).setCell (Nat.le_add_right _ 1) _).setCell (Nat.le_add_right _ 1) _).setCell (Nat.le_add_right _ 1) _
      | false =>
        have HN := Lib.hid (show ∀ y ∈ L.take (t + 1), L4.matS p y.p = false from fun y hy => by
          rw [List.take_add_one, HXX.out, Option.toList_some, List.mem_append, List.mem_singleton] at hy
          rcases hy with hy | rfl
          · exact HA.out y hy
          · exact HBB.out)
        go_wp2_with fail
        go_roundw
        case rel => exact ⟨t + 1, hlt, by go_num, HK1.out, HN.out⟩
        case measure => simp [intOf]; omega
    · obtain rfl : t = n := by omega
      have hyz := HY.out
      rw [findR_none (fun y hy => HA.out y (by rw [List.take_of_length_le (by rw [← HNL.out]; exact Nat.le_refl _)]; exact hy))] at hyz
      obtain ⟨rfl, rfl⟩ := Prod.mk.inj hyz
      have hr := HRES.out.kept HKR.out
      have rf := hr.f
      have r0 := hr.c0; have r1 := hr.c1; have r2 := hr.c2; have r3 := hr.c3; have r4 := hr.c4; have r5 := hr.c5
      clear hyz hr
      go_wp2_with fail
      refine bodyPost_ret (by simp [results, Try.results21, go_sem, Fd.none, *]) rfl ⟨rfl, ?_⟩
      exact ((((((HK.out.trans HKR.out).setCell (Nat.le_add_right _ 1) _).setCell (Nat.le_add_right _ 1) _).setCell (Nat.le_add_right _ 1) _).setCell (Nat.le_add_right _ 1) _).setCell (Nat.le_add_right _ 1) _).setCell (Nat.le_add_right _ 1) _
end Go.Proofs.Ytapcaflmfkcfkaa

namespace Go.Proofs.Ytapcaflmfkcfkaa
open Go.RowKit
set_option linter.unusedVariables false

/-- P12.1. -/
def fitsE (L : List Fd) (x : En) : Bool := (findR L x.p).2 && (rightE x && ((findR L x.p).1.k == x.k && (findR L x.p).1.t == x.vk))
/-- P12.2. -/
def allE (L : List Fd) (M : List En) : Bool := M.all (fitsE L)
theorem allE_no {L : List Fd} {M : List En} {t : Nat} {x : En} (hx : M[t]? = some x) (h : fitsE L x = false) : allE L M = false := by
  unfold allE
  rw [List.all_eq_false]
  exact ⟨x, List.mem_of_getElem? hx, by rw [h]; decide⟩
theorem allE_yes {L : List Fd} {M : List En} (h : ∀ x ∈ M, fitsE L x = true) : allE L M = true := by
  unfold allE
  rw [List.all_eq_true]
  exact h
/-- P12.3. -/
def PathsS (L : List En) (M : List ByteArray) : Prop := M.Pairwise LtP ∧ ∀ p, p ∈ M ↔ ∃ x ∈ L, x.p = p
theorem rise_one : ∀ (M N : List ByteArray), M.Pairwise LtP → N.Pairwise LtP → (∀ p, p ∈ M ↔ p ∈ N) → M = N
  | [], [], _, _, _ => rfl
  | [], y :: N, _, _, h => absurd ((h y).2 (by simp)) (by simp)
  | x :: M, [], _, _, h => absurd ((h x).1 (by simp)) (by simp)
  | x :: M, y :: N, hM, hN, h => by
    obtain ⟨m1, m2⟩ := List.pairwise_cons.1 hM
    obtain ⟨n1, n2⟩ := List.pairwise_cons.1 hN
    have e : x = y := by
      rcases List.mem_cons.1 ((h x).1 (by simp)) with e | e
      · exact e
      · rcases List.mem_cons.1 ((h y).2 (by simp)) with e2 | e2
        · exact e2.symm
        · exact absurd (m1 y e2) (n1 x e).asymm
    subst e
    rw [rise_one M N m2 n2 fun p => ?_]
    constructor
    · intro hp
      rcases List.mem_cons.1 ((h p).1 (List.mem_cons_of_mem _ hp)) with e | e
      · exact absurd (e ▸ m1 p hp) (LtP.irrefl _)
      · exact e
    · intro hp
      rcases List.mem_cons.1 ((h p).2 (List.mem_cons_of_mem _ hp)) with e | e
      · exact absurd (e ▸ n1 p hp) (LtP.irrefl _)
      · exact e
theorem PathsS.one {L : List En} {M N : List ByteArray} (h : PathsS L M) (k : PathsS L N) : M = N := rise_one M N h.1 k.1 fun p => (h.2 p).trans (k.2 p).symm
theorem PathsS.nil : PathsS [] [] := ⟨List.Pairwise.nil, fun p => by simp⟩
theorem mem_take_succ {L : List En} {t : Nat} {x : En} (hx : L[t]? = some x) (y : En) : y ∈ L.take (t + 1) ↔ y ∈ L.take t ∨ y = x := by
  rw [List.take_add_one, hx, Option.toList_some, List.mem_append, List.mem_singleton]
theorem PathsS.same {L : List En} {t : Nat} {x : En} {M : List ByteArray} (h : PathsS (L.take t) M) (hx : L[t]? = some x) (hm : x.p ∈ M) : PathsS (L.take (t + 1)) M := by
  refine ⟨h.1, fun p => ?_⟩
  rw [h.2 p]
  constructor
  · rintro ⟨y, hy, e⟩
    exact ⟨y, (mem_take_succ hx y).2 (.inl hy), e⟩
  · rintro ⟨y, hy, e⟩
    rcases (mem_take_succ hx y).1 hy with h1 | h1
    · exact ⟨y, h1, e⟩
    · subst h1
      exact (h.2 p).1 (e ▸ hm)
theorem PathsS.put {L : List En} {t k : Nat} {x : En} {M : List ByteArray} (h : PathsS (L.take t) M) (hx : L[t]? = some x) (h1 : ∀ i y, i < k → M[i]? = some y → LtP y x.p) (h2 : ∀ i y, k ≤ i → M[i]? = some y → LtP x.p y) : PathsS (L.take (t + 1)) (M.take k ++ [x.p] ++ M.drop k) := by
  have a1 : ∀ y ∈ M.take k, LtP y x.p := fun y hy => by
    obtain ⟨i, hi⟩ := List.mem_iff_getElem?.1 hy
    rw [List.getElem?_take] at hi
    split at hi
    · exact h1 i y (by assumption) hi
    · cases hi
  have a2 : ∀ y ∈ M.drop k, LtP x.p y := fun y hy => by
    obtain ⟨i, hi⟩ := List.mem_iff_getElem?.1 hy
    rw [List.getElem?_drop] at hi
    exact h2 (k + i) y (Nat.le_add_right _ _) hi
  constructor
  · rw [List.append_assoc, List.pairwise_append]
    refine ⟨h.1.sublist (List.take_sublist _ _), ?_, fun a ha b hb => ?_⟩
    · rw [List.singleton_append, List.pairwise_cons]
      exact ⟨a2, h.1.sublist (List.drop_sublist _ _)⟩
    · rw [List.singleton_append, List.mem_cons] at hb
      rcases hb with e | e
      · rw [e]; exact a1 a ha
      · exact (a1 a ha).trans (a2 b e)
  · intro p
    have hs : p ∈ M ↔ p ∈ M.take k ∨ p ∈ M.drop k := by rw [← List.mem_append, List.take_append_drop]
    constructor
    · intro hp
      rw [List.mem_append, List.mem_append, List.mem_singleton] at hp
      rcases hp with (e | e) | e
      · obtain ⟨y, hy, e2⟩ := (h.2 p).1 (hs.2 (.inl e))
        exact ⟨y, (mem_take_succ hx y).2 (.inl hy), e2⟩
      · exact ⟨x, (mem_take_succ hx x).2 (.inr rfl), e.symm⟩
      · obtain ⟨y, hy, e2⟩ := (h.2 p).1 (hs.2 (.inr e))
        exact ⟨y, (mem_take_succ hx y).2 (.inl hy), e2⟩
    · rintro ⟨y, hy, e⟩
      rw [List.mem_append, List.mem_append, List.mem_singleton]
      rcases (mem_take_succ hx y).1 hy with h3 | h3
      · rcases hs.1 ((h.2 p).2 ⟨y, h3, e⟩) with h4 | h4
        · exact .inl (.inl h4)
        · exact .inr h4
      · subst h3
        exact .inl (.inr e.symm)
/-- P12.4: kind, number, text and error. -/
def defR (L : List Fd) (p : ByteArray) : (Int × Int × ByteArray) × Int :=
  if L4.rightS p = true ∧ (findR L p).2 = true then
    if (findR L p).1.k = 1 then (((findR L p).1.vk, (findR L p).1.vn, (findR L p).1.vt), 0)
    else if (findR L p).1.k = 3 then ((1, 0, ⟨#[]⟩), 0) else ((0, 0, ⟨#[]⟩), 0)
  else ((0, 0, ⟨#[]⟩), 6)
end Go.Proofs.Ytapcaflmfkcfkaa

