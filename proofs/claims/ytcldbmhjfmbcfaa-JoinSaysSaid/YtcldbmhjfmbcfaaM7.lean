/-
  What is proved: words for memory that layer 5's contracts use: a slice of dots that lies in memory ('Dl'), and what a world that has all that another one has keeps of it.
  dot.Cmp, called with any two dots, returns their order (P5.2), and lays blocks alone; the document's Cmp likewise.
  Right and Put of package dot and of the document's layer 5, called with any dot, return what P5.1 and P5.3 say; the world has new blocks at most.
  Take of package dot and of the document's layer 5, called with any text, return what P5.4 says; the world has new blocks at most.
  plain facts on dots as bytes (P5.3, P5.4): what is put is taken, whatever follows; what is taken is put as these bytes; no program is spoken of here.
  Text of package dot and of the document's layer 5, called with any dot, returns what P5.8 says; the world has new blocks at most.
-/
import Derived.Test.YtcldbmhjfmbcfaaProg
import Derived.Test.YtcldbmhjfmbcfaaM2
import Derived.Laws.StructEq
import Derived.WalkKit
import Derived.WalkSmall
import Derived.OwnWalk
import Derived.Lib.Hide
import Derived.Below
import Derived.Shelf.GgSortFunc.RowK
import Derived.Test.YtcldbmhjfmbcfaaM3
import Derived.Sort.Grow
import Derived.Test.YtcldbmhjfmbcfaaM1
namespace Go.Proofs.Ytcldbmhjfmbcfaa
open Go.RowKit

/-- A dot, as a value. -/
def dotV (x : Int × Int) : Value := .agg #[.int .i64 x.1, .int .i64 x.2]
def Dl (w : World) (A : Option Addr) (n c : Nat) (L : List (Int × Int)) : Prop :=
  n = L.length ∧ n ≤ c ∧ c ≤ maxLen ∧ (A = none → c = 0) ∧ (n = 0 ∨ ∃ b o, A = some ⟨b, o, none⟩ ∧ ∀ j x, L[j]? = some x → w.cell? ⟨b, o + j * 2, none⟩ = some (.int .i64 x.1) ∧ w.cell? ⟨b, o + j * 2 + 1, none⟩ = some (.int .i64 x.2))
theorem Dl.kept {w w' : World} {A : Option Addr} {n c : Nat} {L : List (Int × Int)} (h : Dl w A n c L) (hk : Kept w w') : Dl w' A n c L :=
  ⟨h.1, h.2.1, h.2.2.1, h.2.2.2.1, h.2.2.2.2.imp id fun ⟨b, o, hA, hc⟩ => ⟨b, o, hA, fun j x hj => ⟨hk.cell (hc j x hj).1, hk.cell (hc j x hj).2⟩⟩⟩
theorem Dl.nil (w : World) : Dl w none 0 0 [] := ⟨rfl, Nat.le_refl _, Nat.zero_le _, fun _ => rfl, .inl rfl⟩
theorem Dl.len {w : World} {A : Option Addr} {n c : Nat} {L : List (Int × Int)} (h : Dl w A n c L) : L.length = n := h.1.symm
theorem Dl.cap {w : World} {A : Option Addr} {n c : Nat} {L : List (Int × Int)} (h : Dl w A n c L) : n ≤ c ∧ c ≤ 9223372036854775807 := ⟨h.2.1, h.2.2.1⟩
theorem Dl.get {w : World} {A : Option Addr} {n c : Nat} {L : List (Int × Int)} (h : Dl w A n c L) {k : Nat} (hk : k < n) :
    ∃ b o x, A = some ⟨b, o, none⟩ ∧ L[k]? = some x ∧ w.cell? ⟨b, o + k * 2, none⟩ = some (.int .i64 x.1) ∧ w.cell? ⟨b, o + k * 2 + 1, none⟩ = some (.int .i64 x.2) := by
  have hl : k < L.length := by rw [← h.1]; exact hk
  rcases h.2.2.2.2 with h0 | ⟨b, o, hA, hc⟩
  · omega
  · have := hc k L[k] (List.getElem?_eq_getElem hl)
    exact ⟨b, o, L[k], hA, List.getElem?_eq_getElem hl, this.1, this.2⟩

/-- The cells of dots. -/
def flatD (L : List (Int × Int)) : List Value := L.flatMap fun x => [.int .i64 x.1, .int .i64 x.2]
theorem flatD_nil : flatD [] = [] := rfl
theorem flatD_cons (x : Int × Int) (L : List (Int × Int)) : flatD (x :: L) = .int .i64 x.1 :: .int .i64 x.2 :: flatD L := rfl
theorem flatD_app (L M : List (Int × Int)) : flatD (L ++ M) = flatD L ++ flatD M := List.flatMap_append
theorem flatD_len (L : List (Int × Int)) : (flatD L).length = L.length * 2 := by
  induction L with
  | nil => rfl
  | cons x L ih => rw [flatD_cons, List.length_cons, List.length_cons, List.length_cons, ih]; omega
theorem flatD_one (L : List (Int × Int)) : ∀ u ∈ flatD L, u.oneCell' = true := by
  intro u hu
  obtain ⟨x, _, hx⟩ := List.mem_flatMap.1 hu
  simp only [List.mem_cons, List.not_mem_nil, or_false] at hx
  rcases hx with rfl | rfl <;> rfl
theorem flatD_get : ∀ (L : List (Int × Int)) (j : Nat) (x : Int × Int), L[j]? = some x → (flatD L)[j * 2]? = some (.int .i64 x.1) ∧ (flatD L)[j * 2 + 1]? = some (.int .i64 x.2)
  | [], j, x, h => by simp at h
  | y :: L, 0, x, h => by
    obtain rfl : y = x := by simpa using h
    exact ⟨rfl, rfl⟩
  | y :: L, j + 1, x, h => by
    have ih := flatD_get L j x (by simpa using h)
    rw [flatD_cons, show (j + 1) * 2 = (j * 2) + 1 + 1 by omega]
    simpa using ih
theorem flatD_at : ∀ (L : List (Int × Int)) (i : Nat) (u : Value), (flatD L)[i]? = some u → ∃ j x, L[j]? = some x ∧ ((i = j * 2 ∧ u = .int .i64 x.1) ∨ (i = j * 2 + 1 ∧ u = .int .i64 x.2))
  | [], i, u, h => by simp [flatD_nil] at h
  | y :: L, 0, u, h => ⟨0, y, rfl, .inl ⟨rfl, by simpa [flatD_cons] using h.symm⟩⟩
  | y :: L, 1, u, h => ⟨0, y, rfl, .inr ⟨rfl, by simpa [flatD_cons] using h.symm⟩⟩
  | y :: L, i + 2, u, h => by
    obtain ⟨j, x, hj, hc⟩ := flatD_at L i u (by simpa [flatD_cons] using h)
    refine ⟨j + 1, x, by simpa using hj, ?_⟩
    rcases hc with ⟨h1, h2⟩ | ⟨h1, h2⟩
    · exact .inl ⟨by omega, h2⟩
    · exact .inr ⟨by omega, h2⟩
theorem Dl.of_own {w : World} {base n : Nat} {e : TypeId} {v : Value} {L : List (Int × Int)} (h : w.ownsRow base e 2 v n (flatD L)) : ∃ A c, v = .slice A n c ∧ Dl w A n c L := by
  have hl : n = L.length := by have := h.1; rw [flatD_len] at this; omega
  have hc := fun g (hg : v.ownBlock = some g) => h.cells (g := g) hg
  rcases h.2 with ⟨rfl, h0⟩ | ⟨g, cap, cur, rfl, hb, hg, h1, h2, _⟩
  · subst h0
    exact ⟨none, 0, rfl, hl, Nat.le_refl _, Nat.zero_le _, fun _ => rfl, .inl rfl⟩
  · refine ⟨some ⟨g, 0, none⟩, cap, rfl, hl, h1, h2, fun h => by simp at h, .inr ⟨g, 0, rfl, fun j x hj => ?_⟩⟩
    have hx := flatD_get L j x hj
    have c0 := hc g rfl _ _ hx.1
    have c1 := hc g rfl _ _ hx.2
    rw [Addr.add_lit, Nat.zero_add] at c0 c1
    rw [Nat.zero_add]
    exact ⟨c0, c1⟩

theorem Dl.of_own' {w : World} {base n : Nat} {e : TypeId} {v : Value} {L : List (Int × Int)} (h : w.ownsRow base e 2 v n (flatD L)) : ∃ A c, v = .slice A n c ∧ Dl w A n c L ∧ ∀ ad, A = some ad → base ≤ ad.block := by
  obtain ⟨A, c, rfl, hd⟩ := Dl.of_own h
  refine ⟨A, c, rfl, hd, fun ad e => ?_⟩
  subst e
  exact (h.lt ad.block rfl).1
theorem kept_of_below {w w' : World} (h : Below w.heap.size w w') : Kept w w' :=
  ⟨h.frame _, fun _ ha => h.frozen ha, h.size⟩
theorem Kept.drewN {W w : World} (h : Kept W w) (n : Nat) : Kept W (w.drewN n) := h
theorem Kept.setCell {W w : World} (h : Kept W w) {a : Addr} (ha : W.heap.size ≤ a.block) (v : Value) : Kept W (w.setCell a v) := by
  obtain ⟨⟨h1, h2, h3⟩, hf, hs⟩ := h
  refine ⟨⟨h1, h2, fun i hi => ?_⟩, fun x hx => (World.frozen?_setCell _ _ _ _).trans (hf x hx), by simpa [World.setCell] using hs⟩
  rw [Below.heap_setCell _ _ _ _ (by omega)]
  exact h3 i hi
theorem Kept.box0 {w : World} {W : World} {x0 x1 : Value} {t : TypeId} (hg : Kept (w.alloc (.cells #[x0, x1] t)) W) : W.cell? ⟨w.heap.size, 0, none⟩ = some x0 := hg.box 0 _ rfl
theorem Kept.box1 {w : World} {W : World} {x0 x1 : Value} {t : TypeId} (hg : Kept (w.alloc (.cells #[x0, x1] t)) W) : W.cell? ⟨w.heap.size, 1, none⟩ = some x1 := hg.box 1 _ rfl
theorem lt_of_kept {w w1 : World} {c : Array Value} {t : TypeId} (hg : Kept (w.alloc (.cells c t)) w1) : w.heap.size < w1.heap.size := by
  have := hg.2.2; simp at this; omega
end Go.Proofs.Ytcldbmhjfmbcfaa

namespace Go.Proofs.Ytcldbmhjfmbcfaa
open Go.RowKit

def or2 (x y : Int) : Int := if x ≠ 0 then x else y
set_option maxHeartbeats 400000 in
theorem or2_any (b : Nat) (x y : Int) (w : World) (h0 : w.cell? ⟨b, 0, none⟩ = some (.int .i64 x)) (h1 : w.cell? ⟨b, 1, none⟩ = some (.int .i64 y)) :
    Calls Try.prog 69 #[.slice (some ⟨b, 0, none⟩) 2 2] w fun e w' => e = .returned (.int .i64 (or2 x y)) ∧ w = w' := by
  go_enter Try.func69, Try.ntmps69
  go_wp2
  go_loop [8] (fun i => ∃ k : Nat, k ≤ 2 ∧ (0 < k → x = 0) ∧ (1 < k → y = 0) ∧ i = .int .i64 k) (fun i => 2 - (intOf i).toNat)
  case atStart => exact ⟨0, by omega, by omega, by omega, rfl⟩
  case round =>
    obtain ⟨k, hk, a0, a1, rfl⟩ := hrel
    obtain rfl | rfl | rfl : k = 0 ∨ k = 1 ∨ k = 2 := by omega
    · by_cases hx : x = 0
      · have d : (x != 0) = false := by simp [hx]
        have HX := Lib.hid hx
        clear hx
        go_wp2
        exact ⟨⟨1, by omega, fun _ => HX.out, by omega, rfl⟩, by simp [intOf]⟩
      · have d : (x != 0) = true := by simp [hx]
        have HO := Lib.hid (show x = or2 x y by unfold or2; rw [if_pos hx])
        go_wp2
        go_ret
        exact ⟨ret_int HO.out, rfl⟩
    · have hx := a0 (by omega)
      have HO := Lib.hid (show y = or2 x y by unfold or2; rw [if_neg (by simp [hx])])
      by_cases hy : y = 0
      · have d : (y != 0) = false := by simp [hy]
        have HX := Lib.hid hx
        have HY := Lib.hid hy
        clear hx hy a0
        go_wp2
        exact ⟨⟨2, by omega, fun _ => HX.out, fun _ => HY.out, rfl⟩, by simp [intOf]⟩
      · have d : (y != 0) = true := by simp [hy]
        clear hx a0
        go_wp2
        go_ret
        exact ⟨ret_int HO.out, rfl⟩
    · have HO := Lib.hid (show 0 = or2 x y by unfold or2; rw [if_neg (by simp [a0 (by omega)]), a1 (by omega)])
      clear a0 a1
      go_wp2
      go_ret
      exact ⟨ret_int HO.out, rfl⟩

theorem grow3 (w : World) (o1 o2 o3 : Obj) : ((w.alloc o1).alloc o2).drew.alloc o3 = Sort.grow (w.drewN 1) #[o1, o2, o3] := by
  rw [Sort.alloc_eq_grow, Sort.alloc_eq_grow, Sort.alloc_eq_grow]
  show Sort.grow (Sort.grow (Sort.grow (w.drewN 1) #[o1]) #[o2]) #[o3] = _
  rw [Sort.grow_grow, Sort.grow_grow]
  rfl

set_option maxRecDepth 100000 in
set_option maxHeartbeats 1000000 in
theorem dcmp_any (x1 x2 y1 y2 : Int) (w : World) :
    Calls Try.prog 48 #[.agg #[.int .i64 x1, .int .i64 x2], .agg #[.int .i64 y1, .int .i64 y2]] w
      fun e w' => e = .returned (.int .i64 (cmpD (x1, x2) (y1, y2))) ∧ ∃ q os, w' = Sort.grow (w.drewN q) os := by
  go_enter Try.func48, Try.ntmps48
  go_wp2_with fail
  refine region_tail 10 (by kernel_rfl) (by kernel_rfl) ?_
  intro wd hwd
  have a0 : wd.cell? ⟨w.heap.size, 0, none⟩ = some (.int .i64 x1) := by rw [hwd]; simp [go_sem]
  have a1 : wd.cell? ⟨w.heap.size, 1, none⟩ = some (.int .i64 x2) := by rw [hwd]; simp [go_sem]
  have b0 : wd.cell? ⟨w.heap.size + 1, 0, none⟩ = some (.int .i64 y1) := by rw [hwd]; simp [go_sem]
  have b1 : wd.cell? ⟨w.heap.size + 1, 1, none⟩ = some (.int .i64 y2) := by rw [hwd]; simp [go_sem]
  have HW := Lib.hid hwd
  clear hwd
  simp only [List.take_succ_cons, List.take_zero, List.drop_succ_cons, List.drop_zero]
  repeat (first | still_step | (still_call (cmpInt_st _ _ _)))
  refine wpStill_nil ?_
  go_wp2_with (go_at_call 69; refine (or2_any _ (cmpI x1 y1) (cmpI x2 y2) _ (by simp [go_sem]) (by simp [go_sem])).mono ?_; rintro e w' ⟨rfl, rfl⟩)
  go_ret
  exact ⟨ret_int rfl, 1, #[_, _, _], by rw [HW.out]; exact grow3 w _ _ _⟩

theorem dcmp_c (x y : Int × Int) (r : Int) (h : cmpD x y = r) (w : World) :
    Calls Try.prog 48 #[.agg #[.int .i64 x.1, .int .i64 x.2], .agg #[.int .i64 y.1, .int .i64 y.2]] w fun e w' => e = .returned (.int .i64 r) ∧ Kept w w' := by
  subst h
  exact (dcmp_any x.1 x.2 y.1 y.2 w).mono fun _ _ ⟨he, q, os, hw⟩ => ⟨he, by rw [hw]; exact kept_grow w q os⟩
theorem rcmp_c (x y : Int × Int) (r : Int) (h : cmpD x y = r) (w : World) :
    Calls Try.prog 43 #[.agg #[.int .i64 x.1, .int .i64 x.2], .agg #[.int .i64 y.1, .int .i64 y.2]] w fun e w' => e = .returned (.int .i64 r) ∧ Kept w w' := by
  subst h
  obtain ⟨x1, x2⟩ := x
  obtain ⟨y1, y2⟩ := y
  simp only
  rcases Int.lt_trichotomy x1 y1 with h | h | h
  · have d1 : (x1 == y1) = false := by simp; omega
    have d2 : decide (x1 < y1) = true := by simpa using h
    have HR := Lib.hid (show (-1 : Int) = cmpD (x1, x2) (y1, y2) by unfold cmpD cmpI; simp [h])
    clear h
    go_enter Try.func43, Try.ntmps43
    go_wp2
    go_ret
    exact ⟨ret_int HR.out, ((Kept.refl _).alloc _ _).alloc _ _⟩
  · subst h
    have d1 : (x1 == x1) = true := by simp
    have d2 : decide (x1 < x1) = false := by simp
    rcases Int.lt_trichotomy x2 y2 with h | h | h
    · have e1 : (x2 == y2) = false := by simp; omega
      have e2 : decide (x2 < y2) = true := by simpa using h
      have HR := Lib.hid (show (-1 : Int) = cmpD (x1, x2) (x1, y2) by unfold cmpD cmpI; simp [h])
      clear h
      go_enter Try.func43, Try.ntmps43
      go_wp2
      go_ret
      exact ⟨ret_int HR.out, ((Kept.refl _).alloc _ _).alloc _ _⟩
    · subst h
      have e1 : (x2 == x2) = true := by simp
      have HR := Lib.hid (show (0 : Int) = cmpD (x1, x2) (x1, x2) by unfold cmpD cmpI; simp)
      go_enter Try.func43, Try.ntmps43
      go_wp2
      go_ret
      exact ⟨ret_int HR.out, ((Kept.refl _).alloc _ _).alloc _ _⟩
    · have e1 : (x2 == y2) = false := by simp; omega
      have e2 : decide (x2 < y2) = false := by simp; omega
      have HR := Lib.hid (show (1 : Int) = cmpD (x1, x2) (x1, y2) by unfold cmpD cmpI; simp [h]; omega)
      clear h
      go_enter Try.func43, Try.ntmps43
      go_wp2
      go_ret
      exact ⟨ret_int HR.out, ((Kept.refl _).alloc _ _).alloc _ _⟩
  · have d1 : (x1 == y1) = false := by simp; omega
    have d2 : decide (x1 < y1) = false := by simp; omega
    have HR := Lib.hid (show (1 : Int) = cmpD (x1, x2) (y1, y2) by unfold cmpD cmpI; simp [h]; omega)
    clear h
    go_enter Try.func43, Try.ntmps43
    go_wp2
    go_ret
    exact ⟨ret_int HR.out, ((Kept.refl _).alloc _ _).alloc _ _⟩
end Go.Proofs.Ytcldbmhjfmbcfaa

namespace Go.Proofs.Ytcldbmhjfmbcfaa
open Go.RowKit

/-- P5.1. -/
def rightD (x : Int × Int) : Bool := decide (0 ≤ x.1 ∧ x.1 < 64 ∧ 1 ≤ x.2 ∧ x.2 ≤ 1073741824)
theorem rightD_bd {d : Int × Int} (h : rightD d = true) : 0 ≤ d.1 ∧ d.1 < 64 ∧ 1 ≤ d.2 ∧ d.2 ≤ 1073741824 := by
  unfold rightD at h; exact of_decide_eq_true h
/-- P5.3. -/
def putD (b : ByteArray) (x : Int × Int) : ByteArray := b ++ putS (zigI x.1).toNat ++ putS (zigI x.2).toNat

set_option maxRecDepth 100000 in
theorem dright_any (x1 x2 : Int) (w : World) :
    Calls Try.prog 71 #[.agg #[.int .i64 x1, .int .i64 x2]] w fun e w' => e = .returned (.bool (rightD (x1, x2))) ∧ Kept w w' := by
  by_cases a1 : 0 ≤ x1
  · by_cases a2 : x1 < 64
    · by_cases a3 : 1 ≤ x2
      · by_cases a4 : x2 ≤ 1073741824
        · have HR := Lib.hid (show true = rightD (x1, x2) by unfold rightD; simp [a1, a2, a3, a4])
          go_enter Try.func71, Try.ntmps71
          go_wp2
          go_ret
          exact ⟨ret_bool HR.out, (Kept.refl _).alloc _ _⟩
        · have HR := Lib.hid (show false = rightD (x1, x2) by unfold rightD; simp [a4])
          have e4 : decide (x2 ≤ 1073741824) = false := by simpa using a4
          go_enter Try.func71, Try.ntmps71
          go_wp2
          go_ret
          exact ⟨ret_bool HR.out, (Kept.refl _).alloc _ _⟩
      · have HR := Lib.hid (show false = rightD (x1, x2) by unfold rightD; simp [a3])
        have e3 : decide (1 ≤ x2) = false := by simpa using a3
        go_enter Try.func71, Try.ntmps71
        go_wp2
        go_ret
        exact ⟨ret_bool HR.out, (Kept.refl _).alloc _ _⟩
    · have HR := Lib.hid (show false = rightD (x1, x2) by unfold rightD; simp [a2])
      have e2 : decide (x1 < 64) = false := by simpa using a2
      go_enter Try.func71, Try.ntmps71
      go_wp2
      go_ret
      exact ⟨ret_bool HR.out, (Kept.refl _).alloc _ _⟩
  · have HR := Lib.hid (show false = rightD (x1, x2) by unfold rightD; simp [a1])
    have e1 : decide (0 ≤ x1) = false := by simpa using a1
    go_enter Try.func71, Try.ntmps71
    go_wp2
    go_ret
    exact ⟨ret_bool HR.out, (Kept.refl _).alloc _ _⟩
theorem dright_c (x : Int × Int) (r : Bool) (h : rightD x = r) (w : World) :
    Calls Try.prog 71 #[.agg #[.int .i64 x.1, .int .i64 x.2]] w fun e w' => e = .returned (.bool r) ∧ Kept w w' := by
  subst h; exact dright_any x.1 x.2 w

set_option maxRecDepth 100000 in
theorem rrightD_any (x1 x2 : Int) (w : World) :
    Calls Try.prog 41 #[.agg #[.int .i64 x1, .int .i64 x2]] w fun e w' => e = .returned (.bool (rightD (x1, x2))) ∧ Kept w w' := by
  by_cases a1 : 0 ≤ x1
  · by_cases a2 : x1 < 64
    · by_cases a3 : 1 ≤ x2
      · by_cases a4 : x2 ≤ 1073741824
        · have HR := Lib.hid (show true = rightD (x1, x2) by unfold rightD; simp [a1, a2, a3, a4])
          go_enter Try.func41, Try.ntmps41
          go_wp2
          go_ret
          exact ⟨ret_bool HR.out, (Kept.refl _).alloc _ _⟩
        · have HR := Lib.hid (show false = rightD (x1, x2) by unfold rightD; simp [a4])
          have e4 : decide (x2 ≤ 1073741824) = false := by simpa using a4
          go_enter Try.func41, Try.ntmps41
          go_wp2
          go_ret
          exact ⟨ret_bool HR.out, (Kept.refl _).alloc _ _⟩
      · have HR := Lib.hid (show false = rightD (x1, x2) by unfold rightD; simp [a3])
        have e3 : decide (1 ≤ x2) = false := by simpa using a3
        go_enter Try.func41, Try.ntmps41
        go_wp2
        go_ret
        exact ⟨ret_bool HR.out, (Kept.refl _).alloc _ _⟩
    · have HR := Lib.hid (show false = rightD (x1, x2) by unfold rightD; simp [a2])
      have e2 : decide (x1 < 64) = false := by simpa using a2
      go_enter Try.func41, Try.ntmps41
      go_wp2
      go_ret
      exact ⟨ret_bool HR.out, (Kept.refl _).alloc _ _⟩
  · have HR := Lib.hid (show false = rightD (x1, x2) by unfold rightD; simp [a1])
    have e1 : decide (0 ≤ x1) = false := by simpa using a1
    go_enter Try.func41, Try.ntmps41
    go_wp2
    go_ret
    exact ⟨ret_bool HR.out, (Kept.refl _).alloc _ _⟩
theorem rrightD_c (x : Int × Int) (r : Bool) (h : rightD x = r) (w : World) :
    Calls Try.prog 41 #[.agg #[.int .i64 x.1, .int .i64 x.2]] w fun e w' => e = .returned (.bool r) ∧ Kept w w' := by
  subst h; exact rrightD_any x.1 x.2 w

end Go.Proofs.Ytcldbmhjfmbcfaa

namespace Go.Proofs.Ytcldbmhjfmbcfaa
open Go.RowKit

/-- P5.4. -/
def tdL (s : ByteArray) : (Int × Int) × ByteArray × Nat :=
  if tkE s ≠ 0 then ((0, 0), ⟨#[]⟩, tkE s)
  else if tkE (tkR s) ≠ 0 then ((0, 0), ⟨#[]⟩, tkE (tkR s))
  else if rightD (tiN s, tiN (tkR s)) = true ∨ (tiN s = 0 ∧ tiN (tkR s) = 0) then ((tiN s, tiN (tkR s)), tkR (tkR s), 0)
  else ((0, 0), ⟨#[]⟩, 3)
def tdX (s : ByteArray) : Int × Int := (tdL s).1
def tdR (s : ByteArray) : ByteArray := (tdL s).2.1
def tdE (s : ByteArray) : Nat := (tdL s).2.2
theorem td_of {s : ByteArray} {x1 x2 : Int} {r : ByteArray} {e : Nat} {z : Int} (h : tdL s = ((x1, x2), r, e)) (hz : (e : Int) = z) :
    Ending.returned (.tuple #[.agg #[.int .i64 x1, .int .i64 x2], .string r, .int .i64 z]) = .returned (.tuple #[.agg #[.int .i64 (tdX s).1, .int .i64 (tdX s).2], .string (tdR s), .int .i64 (tdE s)]) := by
  unfold tdX tdR tdE; rw [h, hz]

/-- A block of two cells that may be written. -/
structure Box2 (w : World) (b : Nat) (x0 x1 : Value) : Prop where
  c0 : w.cell? ⟨b, 0, none⟩ = some x0
  c1 : w.cell? ⟨b, 1, none⟩ = some x1
  f : ∀ i, w.frozen? ⟨b, i, none⟩ = false
theorem Box2.kept {w w' : World} {b : Nat} {x0 x1 : Value} (h : Box2 w b x0 x1) (hg : Kept w w') : Box2 w' b x0 x1 :=
  ⟨hg.cell h.c0, hg.cell h.c1, fun i => (hg.2.1 ⟨b, i, none⟩ (show b < w.heap.size from World.block_lt_of_cell? w _ h.c0)).trans (h.f i)⟩
theorem Box2.new (w : World) (x0 x1 : Value) (t : TypeId) : Box2 (w.alloc (.cells #[x0, x1] t)) w.heap.size x0 x1 :=
  ⟨Kept.box0 (Kept.refl _), Kept.box1 (Kept.refl _), fun i => by rw [frozen?_alloc_cells]; simp [World.frozen?]⟩
theorem Box2.set0 {w : World} {b : Nat} {x0 x1 : Value} (h : Box2 w b x0 x1) (v : Value) : Box2 (w.setCell ⟨b, 0, none⟩ v) b v x1 :=
  ⟨World.cell?_setCell_same _ _ _ h.c0, by rw [World.cell?_setCell_other _ _ _ _ (by simp)]; exact h.c1, fun i => by rw [World.frozen?_setCell]; exact h.f i⟩
theorem Box2.set1 {w : World} {b : Nat} {x0 x1 : Value} (h : Box2 w b x0 x1) (v : Value) : Box2 (w.setCell ⟨b, 1, none⟩ v) b x0 v :=
  ⟨by rw [World.cell?_setCell_other _ _ _ _ (by simp)]; exact h.c0, World.cell?_setCell_same _ _ _ h.c1, fun i => by rw [World.frozen?_setCell]; exact h.f i⟩
theorem Box2.far {w : World} {b c o : Nat} {x0 x1 : Value} (h : Box2 w b x0 x1) (hne : b ≠ c) (v : Value) : Box2 (w.setCell ⟨c, o, none⟩ v) b x0 x1 := by
  have e : ∀ i, (w.setCell ⟨c, o, none⟩ v).cell? ⟨b, i, none⟩ = w.cell? ⟨b, i, none⟩ := fun i => World.cell?_setCell_other _ _ _ _ (by intro e; injection e; omega)
  exact ⟨by rw [e]; exact h.c0, by rw [e]; exact h.c1, fun i => by rw [World.frozen?_setCell]; exact h.f i⟩
theorem kept_set2 {W w : World} (h : Kept W w) (x0 x1 : Value) {b : Nat} (hb : W.heap.size ≤ b) : Kept W ((w.setCell ⟨b, 0, none⟩ x0).setCell ⟨b, 1, none⟩ x1) :=
  (h.setCell hb x0).setCell hb x1
end Go.Proofs.Ytcldbmhjfmbcfaa

namespace Go.Proofs.Ytcldbmhjfmbcfaa
open Go.RowKit

def encDo (x : Int × Int) : ByteArray := putS (zigI x.1).toNat ++ putS (zigI x.2).toNat
theorem putD_enc (b : ByteArray) (x : Int × Int) : putD b x = b ++ encDo x := by
  unfold putD encDo
  rw [ba_assoc]
theorem td_fore (x : Int × Int) (s : ByteArray) (h : rightD x = true) : tdX (encDo x ++ s) = x ∧ tdR (encDo x ++ s) = s ∧ tdE (encDo x ++ s) = 0 := by
  obtain ⟨x1, x2⟩ := x
  obtain ⟨b1, b2, b3, b4⟩ := rightD_bd h
  simp only at b1 b2 b3 b4
  have e : encDo (x1, x2) ++ s = putS (zigI x1).toNat ++ (putS (zigI x2).toNat ++ s) := by unfold encDo; rw [ba_assoc]
  obtain ⟨p1, p2, p3⟩ := ti_fore x1 (putS (zigI x2).toNat ++ s) (by omega) (by omega)
  obtain ⟨q1, q2, q3⟩ := ti_fore x2 s (by omega) (by omega)
  have ht : tdL (encDo (x1, x2) ++ s) = ((x1, x2), s, 0) := by
    unfold tdL
    rw [e, p3, p2, q3, q2, p1, q1, if_neg (by simp), if_neg (by simp), if_pos (.inl h)]
  exact ⟨by unfold tdX; rw [ht], by unfold tdR; rw [ht], by unfold tdE; rw [ht]⟩
theorem td_aft (s : ByteArray) (h : tdE s = 0) : encDo (tdX s) ++ tdR s = s := by
  unfold tdE tdL at h
  unfold tdX tdR tdL
  split at h
  · rename_i he; exact absurd h he
  · rename_i he
    split at h
    · rename_i he2; exact absurd h he2
    · rename_i he2
      split at h
      · rename_i hr
        rw [if_neg he, if_neg he2, if_pos hr]
        have h1 := ti_aft s (by simpa using he)
        have h2 := ti_aft (tkR s) (by simpa using he2)
        show encDo (tiN s, tiN (tkR s)) ++ tkR (tkR s) = s
        unfold encDo
        rw [ba_assoc, h2, h1]
      · cases h
/-- The dot that names the version at the beginning. -/
theorem td_none (s : ByteArray) : tdX (encDo (0, 0) ++ s) = (0, 0) ∧ tdR (encDo (0, 0) ++ s) = s ∧ tdE (encDo (0, 0) ++ s) = 0 := by
  have e : encDo (0, 0) ++ s = putS (zigI 0).toNat ++ (putS (zigI 0).toNat ++ s) := by unfold encDo; rw [ba_assoc]
  obtain ⟨p1, p2, p3⟩ := ti_fore 0 (putS (zigI 0).toNat ++ s) (by omega) (by omega)
  obtain ⟨q1, q2, q3⟩ := ti_fore 0 s (by omega) (by omega)
  have ht : tdL (encDo (0, 0) ++ s) = ((0, 0), s, 0) := by
    unfold tdL
    rw [e, p3, p2, q3, q2, p1, q1, if_neg (by simp), if_neg (by simp), if_pos (.inr ⟨rfl, rfl⟩)]
  exact ⟨by unfold tdX; rw [ht], by unfold tdR; rw [ht], by unfold tdE; rw [ht]⟩
end Go.Proofs.Ytcldbmhjfmbcfaa

namespace Go.Proofs.Ytcldbmhjfmbcfaa
open Go.RowKit

/-- P5.8. -/
def textD (x : Int × Int) : ByteArray := itoaS x.1 ++ ⟨#[46]⟩ ++ itoaS x.2

theorem itoaS_size (n : Int) (h0 : -9223372036854775808 ≤ n) (h1 : n ≤ 9223372036854775807) : (itoaS n).size ≤ 21 := by
  have := Lib.itoa_length_le n h0 h1
  show (Lib.itoa n).toArray.size ≤ 21
  rw [List.size_toArray]
  omega
end Go.Proofs.Ytcldbmhjfmbcfaa

