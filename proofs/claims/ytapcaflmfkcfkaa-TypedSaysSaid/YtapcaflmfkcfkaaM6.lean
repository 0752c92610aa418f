/-
  What is proved: words for memory that layer 5's contracts use: a slice of dots that lies in memory ('Dl'), and what a world that has all that another one has keeps of it.
  dot.Cmp, called with any two dots, returns their order (P5.2), and lays blocks alone; the document's Cmp likewise.
  Right and Put of package dot and of the document's layer 5, called with any dot, return what P5.1 and P5.3 say; the world has new blocks at most.
  Take of package dot and of the document's layer 5, called with any text, return what P5.4 says; the world has new blocks at most.
  plain facts on dots as bytes (P5.3, P5.4): what is put is taken, whatever follows; what is taken is put as these bytes; no program is spoken of here.
  Text of package dot and of the document's layer 5, called with any dot, returns what P5.8 says; the world has new blocks at most.
  plain facts on what events left (P7.1 to P7.6): what is right, as bytes, as it is told; what is right is put and taken, whatever follows; what is taken is right, and put as these bytes; no program is spoken of here.
-/
import Derived.Test.YtapcaflmfkcfkaaProg
import Derived.Test.YtapcaflmfkcfkaaM2
import Derived.Laws.StructEq
import Derived.WalkKit
import Derived.WalkSmall
import Derived.OwnWalk
import Derived.Lib.Hide
import Derived.Below
import Derived.Shelf.GgSortFunc.RowK
import Derived.Sort.Grow
import Derived.Test.YtapcaflmfkcfkaaM1
import Derived.Test.YtapcaflmfkcfkaaM3
import Derived.Test.YtapcaflmfkcfkaaM4
namespace Go.Proofs.Ytapcaflmfkcfkaa
open Go.RowKit

/-- A dot, as a value. -/
def dotV (x : Int × Int) : Value := .agg #[.int .i64 x.1, .int .i64 x.2]
def Dl (w : World) (A : Option Addr) (n c : Nat) (L : List (Int × Int)) : Prop :=
  n = L.length ∧ n ≤ c ∧ c ≤ maxLen ∧ (A = none → c = 0) ∧ (n = 0 ∨ ∃ b o, A = some ⟨b, o, none⟩ ∧ ∀ j x, L[j]? = some x → w.cell? ⟨b, o + j * 2, none⟩ = some (.int .i64 x.1) ∧ w.cell? ⟨b, o + j * 2 + 1, none⟩ = some (.int .i64 x.2))
theorem Dl.kept {w w' : World} {A : Option Addr} {n c : Nat} {L : List (Int × Int)} (h : Dl w A n c L) (hk : Kept w w') : Dl w' A n c L :=
  ⟨h.1, h.2.1, h.2.2.1, h.2.2.2.1, h.2.2.2.2.imp id fun ⟨b, o, hA, hc⟩ => ⟨b, o, hA, fun j x hj => ⟨hk.cell (hc j x hj).1, hk.cell (hc j x hj).2⟩⟩⟩
theorem Dl.nil (w : World) : Dl w none 0 0 [] := ⟨rfl, Nat.le_refl _, Nat.zero_le _, fun _ => rfl, .inl rfl⟩
theorem Dl.len {w : World} {A : Option Addr} {n c : Nat} {L : List (Int × Int)} (h : Dl w A n c L) : L.length = n := h.1.symm
theorem Dl.cap {w : World} {A : Option Addr} {n c : Nat} {L : List (Int × Int)} (h : Dl w A n c L) : n ≤ c ∧ c ≤ 9223372036854775807 := ⟨h.2.1, h.2.2.1⟩
theorem Dl.get {w : World} {A : Option Addr} {n c : Nat} {L : List (Int × Int)} (h : Dl w A n c L) {k : Nat} (hk : k < n) :
    ∃ b o x, A = some ⟨b, o, none⟩ ∧ L[k]? = some x ∧ w.cell? ⟨b, o + k * 2, none⟩ = some (.int .i64 x.1) ∧ w.cell? ⟨b, o + k * 2 + 1, none⟩ = some (.int .i64 x.2) := by
  have hl : k < L.length := by rw [← h.1]; exact hk
  rcases h.2.2.2.2 with h0 | ⟨b, o, hA, hc⟩
  · omega
  · have := hc k L[k] (List.getElem?_eq_getElem hl)
    exact ⟨b, o, L[k], hA, List.getElem?_eq_getElem hl, this.1, this.2⟩

/-- The cells of dots. -/
def flatD (L : List (Int × Int)) : List Value := L.flatMap fun x => [.int .i64 x.1, .int .i64 x.2]
theorem flatD_nil : flatD [] = [] := rfl
theorem flatD_cons (x : Int × Int) (L : List (Int × Int)) : flatD (x :: L) = .int .i64 x.1 :: .int .i64 x.2 :: flatD L := rfl
theorem flatD_app (L M : List (Int × Int)) : flatD (L ++ M) = flatD L ++ flatD M := List.flatMap_append
theorem flatD_len (L : List (Int × Int)) : (flatD L).length = L.length * 2 := by
  induction L with
  | nil => rfl
  | cons x L ih => rw [flatD_cons, List.length_cons, List.length_cons, List.length_cons, ih]; omega
theorem flatD_one (L : List (Int × Int)) : ∀ u ∈ flatD L, u.oneCell' = true := by
  intro u hu
  obtain ⟨x, _, hx⟩ := List.mem_flatMap.1 hu
  simp only [List.mem_cons, List.not_mem_nil, or_false] at hx
  rcases hx with rfl | rfl <;> rfl
theorem flatD_get : ∀ (L : List (Int × Int)) (j : Nat) (x : Int × Int), L[j]? = some x → (flatD L)[j * 2]? = some (.int .i64 x.1) ∧ (flatD L)[j * 2 + 1]? = some (.int .i64 x.2)
  | [], j, x, h => by simp at h
  | y :: L, 0, x, h => by
    obtain rfl : y = x := by simpa using h
    exact ⟨rfl, rfl⟩
  | y :: L, j + 1, x, h => by
    have ih := flatD_get L j x (by simpa using h)
    rw [flatD_cons, show (j + 1) * 2 = (j * 2) + 1 + 1 by omega]
    simpa using ih
theorem flatD_at : ∀ (L : List (Int × Int)) (i : Nat) (u : Value), (flatD L)[i]? = some u → ∃ j x, L[j]? = some x ∧ ((i = j * 2 ∧ u = .int .i64 x.1) ∨ (i = j * 2 + 1 ∧ u = .int .i64 x.2))
  | [], i, u, h => by simp [flatD_nil] at h
  | y :: L, 0, u, h => ⟨0, y, rfl, .inl ⟨rfl, by simpa [flatD_cons] using h.symm⟩⟩
  | y :: L, 1, u, h => ⟨0, y, rfl, .inr ⟨rfl, by simpa [flatD_cons] using h.symm⟩⟩
  | y :: L, i + 2, u, h => by
    obtain ⟨j, x, hj, hc⟩ := flatD_at L i u (by simpa [flatD_cons] using h)
    refine ⟨j + 1, x, by simpa using hj, ?_⟩
    rcases hc with ⟨h1, h2⟩ | ⟨h1, h2⟩
    · exact .inl ⟨by omega, h2⟩
    · exact .inr ⟨by omega, h2⟩
theorem Dl.of_own {w : World} {base n : Nat} {e : TypeId} {v : Value} {L : List (Int × Int)} (h : w.ownsRow base e 2 v n (flatD L)) : ∃ A c, v = .slice A n c ∧ Dl w A n c L := by
  have hl : n = L.length := by have := h.1; rw [flatD_len] at this; omega
  have hc := fun g (hg : v.ownBlock = some g) => h.cells (g := g) hg
  rcases h.2 with ⟨rfl, h0⟩ | ⟨g, cap, cur, rfl, hb, hg, h1, h2, _⟩
  · subst h0
    exact ⟨none, 0, rfl, hl, Nat.le_refl _, Nat.zero_le _, fun _ => rfl, .inl rfl⟩
  · refine ⟨some ⟨g, 0, none⟩, cap, rfl, hl, h1, h2, fun h => by simp at h, .inr ⟨g, 0, rfl, fun j x hj => ?_⟩⟩
    have hx := flatD_get L j x hj
    have c0 := hc g rfl _ _ hx.1
    have c1 := hc g rfl _ _ hx.2
    rw [Addr.add_lit, Nat.zero_add] at c0 c1
    rw [Nat.zero_add]
    exact ⟨c0, c1⟩

theorem Dl.of_own' {w : World} {base n : Nat} {e : TypeId} {v : Value} {L : List (Int × Int)} (h : w.ownsRow base e 2 v n (flatD L)) : ∃ A c, v = .slice A n c ∧ Dl w A n c L ∧ ∀ ad, A = some ad → base ≤ ad.block := by
  obtain ⟨A, c, rfl, hd⟩ := Dl.of_own h
  refine ⟨A, c, rfl, hd, fun ad e => ?_⟩
  subst e
  exact (h.lt ad.block rfl).1
theorem kept_of_below {w w' : World} (h : Below w.heap.size w w') : Kept w w' :=
  ⟨h.frame _, fun _ ha => h.frozen ha, h.size⟩
theorem Kept.drewN {W w : World} (h : Kept W w) (n : Nat) : Kept W (w.drewN n) := h
theorem Kept.setCell {W w : World} (h : Kept W w) {a : Addr} (ha : W.heap.size ≤ a.block) (v : Value) : Kept W (w.setCell a v) := by
  obtain ⟨⟨h1, h2, h3⟩, hf, hs⟩ := h
  refine ⟨⟨h1, h2, fun i hi => ?_⟩, fun x hx => (World.frozen?_setCell _ _ _ _).trans (hf x hx), by simpa [World.setCell] using hs⟩
  rw [Below.heap_setCell _ _ _ _ (by omega)]
  exact h3 i hi
theorem Kept.box0 {w : World} {W : World} {x0 x1 : Value} {t : TypeId} (hg : Kept (w.alloc (.cells #[x0, x1] t)) W) : W.cell? ⟨w.heap.size, 0, none⟩ = some x0 := hg.box 0 _ rfl
theorem Kept.box1 {w : World} {W : World} {x0 x1 : Value} {t : TypeId} (hg : Kept (w.alloc (.cells #[x0, x1] t)) W) : W.cell? ⟨w.heap.size, 1, none⟩ = some x1 := hg.box 1 _ rfl
theorem lt_of_kept {w w1 : World} {c : Array Value} {t : TypeId} (hg : Kept (w.alloc (.cells c t)) w1) : w.heap.size < w1.heap.size := by
  have := hg.2.2; simp at this; omega
end Go.Proofs.Ytapcaflmfkcfkaa

namespace Go.Proofs.Ytapcaflmfkcfkaa
open Go.RowKit

def or2 (x y : Int) : Int := if x ≠ 0 then x else y
theorem grow3 (w : World) (o1 o2 o3 : Obj) : ((w.alloc o1).alloc o2).drew.alloc o3 = Sort.grow (w.drewN 1) #[o1, o2, o3] := by
  rw [Sort.alloc_eq_grow, Sort.alloc_eq_grow, Sort.alloc_eq_grow]
  show Sort.grow (Sort.grow (Sort.grow (w.drewN 1) #[o1]) #[o2]) #[o3] = _
  rw [Sort.grow_grow, Sort.grow_grow]
  rfl

end Go.Proofs.Ytapcaflmfkcfkaa

namespace Go.Proofs.Ytapcaflmfkcfkaa
open Go.RowKit

/-- P5.1. -/
def rightD (x : Int × Int) : Bool := decide (0 ≤ x.1 ∧ x.1 < 64 ∧ 1 ≤ x.2 ∧ x.2 ≤ 1073741824)
theorem rightD_bd {d : Int × Int} (h : rightD d = true) : 0 ≤ d.1 ∧ d.1 < 64 ∧ 1 ≤ d.2 ∧ d.2 ≤ 1073741824 := by
  unfold rightD at h; exact of_decide_eq_true h
/-- P5.3. -/
def putD (b : ByteArray) (x : Int × Int) : ByteArray := b ++ putS (zigI x.1).toNat ++ putS (zigI x.2).toNat

set_option maxRecDepth 100000 in
theorem dright_any (x1 x2 : Int) (w : World) :
    Calls Try.prog 30 #[.agg #[.int .i64 x1, .int .i64 x2]] w fun e w' => e = .returned (.bool (rightD (x1, x2))) ∧ Kept w w' := by
  by_cases a1 : 0 ≤ x1
  · by_cases a2 : x1 < 64
    · by_cases a3 : 1 ≤ x2
      · by_cases a4 : x2 ≤ 1073741824
        · have HR := Lib.hid (show true = rightD (x1, x2) by unfold rightD; simp [a1, a2, a3, a4])
          go_enter Try.func30, Try.ntmps30
          go_wp2
          go_ret
          exact ⟨ret_bool HR.out, (Kept.refl _).alloc _ _⟩
        · have HR := Lib.hid (show false = rightD (x1, x2) by unfold rightD; simp [a4])
          have e4 : decide (x2 ≤ 1073741824) = false := by simpa using a4
          go_enter Try.func30, Try.ntmps30
          go_wp2
          go_ret
          exact ⟨ret_bool HR.out, (Kept.refl _).alloc _ _⟩
      · have HR := Lib.hid (show false = rightD (x1, x2) by unfold rightD; simp [a3])
        have e3 : decide (1 ≤ x2) = false := by simpa using a3
        go_enter Try.func30, Try.ntmps30
        go_wp2
        go_ret
        exact ⟨ret_bool HR.out, (Kept.refl _).alloc _ _⟩
    · have HR := Lib.hid (show false = rightD (x1, x2) by unfold rightD; simp [a2])
      have e2 : decide (x1 < 64) = false := by simpa using a2
      go_enter Try.func30, Try.ntmps30
      go_wp2
      go_ret
      exact ⟨ret_bool HR.out, (Kept.refl _).alloc _ _⟩
  · have HR := Lib.hid (show false = rightD (x1, x2) by unfold rightD; simp [a1])
    have e1 : decide (0 ≤ x1) = false := by simpa using a1
    go_enter Try.func30, Try.ntmps30
    go_wp2
    go_ret
    exact ⟨ret_bool HR.out, (Kept.refl _).alloc _ _⟩
theorem dright_c (x : Int × Int) (r : Bool) (h : rightD x = r) (w : World) :
    Calls Try.prog 30 #[.agg #[.int .i64 x.1, .int .i64 x.2]] w fun e w' => e = .returned (.bool r) ∧ Kept w w' := by
  subst h; exact dright_any x.1 x.2 w

set_option maxRecDepth 100000 in
theorem rrightD_any (x1 x2 : Int) (w : World) :
    Calls Try.prog 39 #[.agg #[.int .i64 x1, .int .i64 x2]] w fun e w' => e = .returned (.bool (rightD (x1, x2))) ∧ Kept w w' := by
  by_cases a1 : 0 ≤ x1
  · by_cases a2 : x1 < 64
    · by_cases a3 : 1 ≤ x2
      · by_cases a4 : x2 ≤ 1073741824
        · have HR := Lib.hid (show true = rightD (x1, x2) by unfold rightD; simp [a1, a2, a3, a4])
          go_enter Try.func39, Try.ntmps39
          go_wp2
          go_ret
          exact ⟨ret_bool HR.out, (Kept.refl _).alloc _ _⟩
        · have HR := Lib.hid (show false = rightD (x1, x2) by unfold rightD; simp [a4])
          have e4 : decide (x2 ≤ 1073741824) = false := by simpa using a4
          go_enter Try.func39, Try.ntmps39
          go_wp2
          go_ret
          exact ⟨ret_bool HR.out, (Kept.refl _).alloc _ _⟩
      · have HR := Lib.hid (show false = rightD (x1, x2) by unfold rightD; simp [a3])
        have e3 : decide (1 ≤ x2) = false := by simpa using a3
        go_enter Try.func39, Try.ntmps39
        go_wp2
        go_ret
        exact ⟨ret_bool HR.out, (Kept.refl _).alloc _ _⟩
    · have HR := Lib.hid (show false = rightD (x1, x2) by unfold rightD; simp [a2])
      have e2 : decide (x1 < 64) = false := by simpa using a2
      go_enter Try.func39, Try.ntmps39
      go_wp2
      go_ret
      exact ⟨ret_bool HR.out, (Kept.refl _).alloc _ _⟩
  · have HR := Lib.hid (show false = rightD (x1, x2) by unfold rightD; simp [a1])
    have e1 : decide (0 ≤ x1) = false := by simpa using a1
    go_enter Try.func39, Try.ntmps39
    go_wp2
    go_ret
    exact ⟨ret_bool HR.out, (Kept.refl _).alloc _ _⟩
theorem rrightD_c (x : Int × Int) (r : Bool) (h : rightD x = r) (w : World) :
    Calls Try.prog 39 #[.agg #[.int .i64 x.1, .int .i64 x.2]] w fun e w' => e = .returned (.bool r) ∧ Kept w w' := by
  subst h; exact rrightD_any x.1 x.2 w

end Go.Proofs.Ytapcaflmfkcfkaa

namespace Go.Proofs.Ytapcaflmfkcfkaa
open Go.RowKit

/-- P5.4. -/
def tdL (s : ByteArray) : (Int × Int) × ByteArray × Nat :=
  if tkE s ≠ 0 then ((0, 0), ⟨#[]⟩, tkE s)
  else if tkE (tkR s) ≠ 0 then ((0, 0), ⟨#[]⟩, tkE (tkR s))
  else if rightD (tiN s, tiN (tkR s)) = true ∨ (tiN s = 0 ∧ tiN (tkR s) = 0) then ((tiN s, tiN (tkR s)), tkR (tkR s), 0)
  else ((0, 0), ⟨#[]⟩, 3)
def tdX (s : ByteArray) : Int × Int := (tdL s).1
def tdR (s : ByteArray) : ByteArray := (tdL s).2.1
def tdE (s : ByteArray) : Nat := (tdL s).2.2
theorem td_of {s : ByteArray} {x1 x2 : Int} {r : ByteArray} {e : Nat} {z : Int} (h : tdL s = ((x1, x2), r, e)) (hz : (e : Int) = z) :
    Ending.returned (.tuple #[.agg #[.int .i64 x1, .int .i64 x2], .string r, .int .i64 z]) = .returned (.tuple #[.agg #[.int .i64 (tdX s).1, .int .i64 (tdX s).2], .string (tdR s), .int .i64 (tdE s)]) := by
  unfold tdX tdR tdE; rw [h, hz]

/-- A block of two cells that may be written. -/
structure Box2 (w : World) (b : Nat) (x0 x1 : Value) : Prop where
  c0 : w.cell? ⟨b, 0, none⟩ = some x0
  c1 : w.cell? ⟨b, 1, none⟩ = some x1
  f : ∀ i, w.frozen? ⟨b, i, none⟩ = false
theorem Box2.kept {w w' : World} {b : Nat} {x0 x1 : Value} (h : Box2 w b x0 x1) (hg : Kept w w') : Box2 w' b x0 x1 :=
  ⟨hg.cell h.c0, hg.cell h.c1, fun i => (hg.2.1 ⟨b, i, none⟩ (show b < w.heap.size from World.block_lt_of_cell? w _ h.c0)).trans (h.f i)⟩
theorem Box2.new (w : World) (x0 x1 : Value) (t : TypeId) : Box2 (w.alloc (.cells #[x0, x1] t)) w.heap.size x0 x1 :=
  ⟨Kept.box0 (Kept.refl _), Kept.box1 (Kept.refl _), fun i => by rw [frozen?_alloc_cells]; simp [World.frozen?]⟩
theorem Box2.set0 {w : World} {b : Nat} {x0 x1 : Value} (h : Box2 w b x0 x1) (v : Value) : Box2 (w.setCell ⟨b, 0, none⟩ v) b v x1 :=
  ⟨World.cell?_setCell_same _ _ _ h.c0, by rw [World.cell?_setCell_other _ _ _ _ (by simp)]; exact h.c1, fun i => by rw [World.frozen?_setCell]; exact h.f i⟩
theorem Box2.set1 {w : World} {b : Nat} {x0 x1 : Value} (h : Box2 w b x0 x1) (v : Value) : Box2 (w.setCell ⟨b, 1, none⟩ v) b x0 v :=
  ⟨by rw [World.cell?_setCell_other _ _ _ _ (by simp)]; exact h.c0, World.cell?_setCell_same _ _ _ h.c1, fun i => by rw [World.frozen?_setCell]; exact h.f i⟩
theorem Box2.far {w : World} {b c o : Nat} {x0 x1 : Value} (h : Box2 w b x0 x1) (hne : b ≠ c) (v : Value) : Box2 (w.setCell ⟨c, o, none⟩ v) b x0 x1 := by
  have e : ∀ i, (w.setCell ⟨c, o, none⟩ v).cell? ⟨b, i, none⟩ = w.cell? ⟨b, i, none⟩ := fun i => World.cell?_setCell_other _ _ _ _ (by intro e; injection e; omega)
  exact ⟨by rw [e]; exact h.c0, by rw [e]; exact h.c1, fun i => by rw [World.frozen?_setCell]; exact h.f i⟩
theorem kept_set2 {W w : World} (h : Kept W w) (x0 x1 : Value) {b : Nat} (hb : W.heap.size ≤ b) : Kept W ((w.setCell ⟨b, 0, none⟩ x0).setCell ⟨b, 1, none⟩ x1) :=
  (h.setCell hb x0).setCell hb x1
end Go.Proofs.Ytapcaflmfkcfkaa

namespace Go.Proofs.Ytapcaflmfkcfkaa
open Go.RowKit

def encDo (x : Int × Int) : ByteArray := putS (zigI x.1).toNat ++ putS (zigI x.2).toNat
theorem putD_enc (b : ByteArray) (x : Int × Int) : putD b x = b ++ encDo x := by
  unfold putD encDo
  rw [ba_assoc]
theorem td_fore (x : Int × Int) (s : ByteArray) (h : rightD x = true) : tdX (encDo x ++ s) = x ∧ tdR (encDo x ++ s) = s ∧ tdE (encDo x ++ s) = 0 := by
  obtain ⟨x1, x2⟩ := x
  obtain ⟨b1, b2, b3, b4⟩ := rightD_bd h
  simp only at b1 b2 b3 b4
  have e : encDo (x1, x2) ++ s = putS (zigI x1).toNat ++ (putS (zigI x2).toNat ++ s) := by unfold encDo; rw [ba_assoc]
  obtain ⟨p1, p2, p3⟩ := ti_fore x1 (putS (zigI x2).toNat ++ s) (by omega) (by omega)
  obtain ⟨q1, q2, q3⟩ := ti_fore x2 s (by omega) (by omega)
  have ht : tdL (encDo (x1, x2) ++ s) = ((x1, x2), s, 0) := by
    unfold tdL
    rw [e, p3, p2, q3, q2, p1, q1, if_neg (by simp), if_neg (by simp), if_pos (.inl h)]
  exact ⟨by unfold tdX; rw [ht], by unfold tdR; rw [ht], by unfold tdE; rw [ht]⟩
theorem td_aft (s : ByteArray) (h : tdE s = 0) : encDo (tdX s) ++ tdR s = s := by
  unfold tdE tdL at h
  unfold tdX tdR tdL
  split at h
  · rename_i he; exact absurd h he
  · rename_i he
    split at h
    · rename_i he2; exact absurd h he2
    · rename_i he2
      split at h
      · rename_i hr
        rw [if_neg he, if_neg he2, if_pos hr]
        have h1 := ti_aft s (by simpa using he)
        have h2 := ti_aft (tkR s) (by simpa using he2)
        show encDo (tiN s, tiN (tkR s)) ++ tkR (tkR s) = s
        unfold encDo
        rw [ba_assoc, h2, h1]
      · cases h
/-- The dot that names the version at the beginning. -/
theorem td_none (s : ByteArray) : tdX (encDo (0, 0) ++ s) = (0, 0) ∧ tdR (encDo (0, 0) ++ s) = s ∧ tdE (encDo (0, 0) ++ s) = 0 := by
  have e : encDo (0, 0) ++ s = putS (zigI 0).toNat ++ (putS (zigI 0).toNat ++ s) := by unfold encDo; rw [ba_assoc]
  obtain ⟨p1, p2, p3⟩ := ti_fore 0 (putS (zigI 0).toNat ++ s) (by omega) (by omega)
  obtain ⟨q1, q2, q3⟩ := ti_fore 0 s (by omega) (by omega)
  have ht : tdL (encDo (0, 0) ++ s) = ((0, 0), s, 0) := by
    unfold tdL
    rw [e, p3, p2, q3, q2, p1, q1, if_neg (by simp), if_neg (by simp), if_pos (.inr ⟨rfl, rfl⟩)]
  exact ⟨by unfold tdX; rw [ht], by unfold tdR; rw [ht], by unfold tdE; rw [ht]⟩
end Go.Proofs.Ytapcaflmfkcfkaa

namespace Go.Proofs.Ytapcaflmfkcfkaa
open Go.RowKit

/-- P5.8. -/
def textD (x : Int × Int) : ByteArray := itoaS x.1 ++ ⟨#[46]⟩ ++ itoaS x.2

theorem itoaS_size (n : Int) (h0 : -9223372036854775808 ≤ n) (h1 : n ≤ 9223372036854775807) : (itoaS n).size ≤ 21 := by
  have := Lib.itoa_length_le n h0 h1
  show (Lib.itoa n).toArray.size ≤ 21
  rw [List.size_toArray]
  omega
end Go.Proofs.Ytapcaflmfkcfkaa

namespace Go.Proofs.Ytapcaflmfkcfkaa
open Go.RowKit

/-- What an event left. -/
structure En where
  d : Int × Int
  p : ByteArray
  k : Int
  vk : Int
  vn : Int
  vt : ByteArray
  e : Int × Int
def En.none : En := ⟨(0, 0), ⟨#[]⟩, 0, 0, 0, ⟨#[]⟩, (0, 0)⟩

/-- P7.1. -/
def kindE (k vk : Int) : Bool := decide (k = 1 ∨ k = 2 ∨ k = 3 ∧ vk = 1)
def verE (d : Int × Int) : Bool := decide (d.1 = 0 ∧ d.2 = 0) || rightD d
def rightE (x : En) : Bool := rightD x.d && L4.rightS x.p && kindE x.k x.vk && rightB x.vk x.vn x.vt && verE x.e
/-- P7.3. -/
def putE (b : ByteArray) (x : En) : ByteArray := putD (putV (putD b x.d ++ putS x.p.size ++ x.p ++ putS (x.k % 4).toNat) x.vk x.vn x.vt) x.e
/-- P7.5. -/
def markE (k : Int) : ByteArray := if k % 4 = 1 then ⟨#[61]⟩ else if k % 4 = 2 then ⟨#[43]⟩ else if k % 4 = 3 then ⟨#[35]⟩ else ⟨#[63]⟩
def textE (x : En) : ByteArray := textD x.d ++ ⟨#[32]⟩ ++ x.p ++ markE x.k ++ textV x.vk x.vn x.vt ++ ⟨#[64]⟩ ++ textD x.e

/-- P7.4: what is left to take, part by part. -/
def r1 (s : ByteArray) : ByteArray := tdR s
def r2 (s : ByteArray) : ByteArray := ttR (r1 s) 102
def r3 (s : ByteArray) : ByteArray := tkR (r2 s)
def r4 (s : ByteArray) : ByteArray := tvR (r3 s)
def r5 (s : ByteArray) : ByteArray := tdR (r4 s)
def enK (s : ByteArray) (k : Int) : En := ⟨tdX s, ttT (r1 s) 102, k, tvK (r3 s), tvI (r3 s), tvT (r3 s), tdX (r4 s)⟩
/-- P7.4: the first error. -/
def errE (s : ByteArray) : Nat :=
  if tdE s ≠ 0 then tdE s else if ttE (r1 s) 102 ≠ 0 then ttE (r1 s) 102 else if tkE (r2 s) ≠ 0 then tkE (r2 s) else if tvE (r3 s) ≠ 0 then tvE (r3 s) else tdE (r4 s)
def teL (s : ByteArray) : En × ByteArray × Nat :=
  if errE s ≠ 0 then (.none, ⟨#[]⟩, errE s)
  else if tkN (r2 s) ≤ 3 ∧ rightE (enK s (tkN (r2 s))) = true then (enK s (tkN (r2 s)), r5 s, 0)
  else (.none, ⟨#[]⟩, 3)
def teX (s : ByteArray) : En := (teL s).1
def teR (s : ByteArray) : ByteArray := (teL s).2.1
def teE (s : ByteArray) : Nat := (teL s).2.2
theorem te_of {s : ByteArray} {x : En} {r : ByteArray} {e : Nat} (h : teL s = (x, r, e)) : teX s = x ∧ teR s = r ∧ teE s = e := by
  unfold teX teR teE; rw [h]; exact ⟨rfl, rfl, rfl⟩

theorem rightS_size {p : ByteArray} (h : L4.rightS p = true) : p.size ≤ 102 := by
  unfold L4.rightS L4.rightL at h
  simp only [Bool.and_eq_true, List.all_eq_true, decide_eq_true_eq] at h
  have h2 := L4.joi_len (L4.spl p.data.toList) 16 fun s hs => (L4.segL_len s (h.1 s hs)).1
  rw [L4.joi_spl, ← ba_size] at h2
  have := Nat.mul_le_mul_right 17 h.2
  omega
theorem rightE_of {x : En} : rightE x = true ↔ rightD x.d = true ∧ L4.rightS x.p = true ∧ kindE x.k x.vk = true ∧ rightB x.vk x.vn x.vt = true ∧ verE x.e = true := by
  unfold rightE
  simp only [Bool.and_eq_true, and_assoc]
theorem verE_of {d : Int × Int} (h : verE d = true) : d = (0, 0) ∨ rightD d = true := by
  unfold verE at h
  simp only [Bool.or_eq_true, decide_eq_true_eq] at h
  exact h.imp (fun h => Prod.ext h.1 h.2) id

theorem putV_enc (b : ByteArray) (k n : Int) (t : ByteArray) : putV b k n t = b ++ putV ⟨#[]⟩ k n t := by
  unfold putV
  repeat (first | rfl | split)
  all_goals (simp only [ba_nil, ba_assoc])
theorem putE_enc (b : ByteArray) (x : En) : putE b x = b ++ (encDo x.d ++ (putS x.p.size ++ (x.p ++ (putS (x.k % 4).toNat ++ (putV ⟨#[]⟩ x.vk x.vn x.vt ++ encDo x.e))))) := by
  unfold putE
  rw [putD_enc, putV_enc, putD_enc]
  simp only [ba_assoc]
theorem putE_nil (x : En) : putE ⟨#[]⟩ x = encDo x.d ++ (putS x.p.size ++ (x.p ++ (putS (x.k % 4).toNat ++ (putV ⟨#[]⟩ x.vk x.vn x.vt ++ encDo x.e)))) := by
  rw [putE_enc, ba_nil]

theorem tv_fore {k n : Int} {t : ByteArray} (h1 : -9223372036854775808 ≤ n) (h2 : n ≤ 9223372036854775807) (hr : rightB k n t = true) (x : ByteArray) :
    tvK (putV ⟨#[]⟩ k n t ++ x) = k ∧ tvI (putV ⟨#[]⟩ k n t ++ x) = n ∧ tvT (putV ⟨#[]⟩ k n t ++ x) = t ∧ tvR (putV ⟨#[]⟩ k n t ++ x) = x ∧ tvE (putV ⟨#[]⟩ k n t ++ x) = 0 := by
  have := tv_put k n t x h1 h2 hr
  unfold tvK tvI tvT tvR tvE
  rw [this]
  exact ⟨rfl, rfl, rfl, rfl, rfl⟩
theorem tv_aft (s : ByteArray) (h : tvE s = 0) (hr : rightB (tvK s) (tvI s) (tvT s) = true) : putV ⟨#[]⟩ (tvK s) (tvI s) (tvT s) ++ tvR s = s := by
  have hz : (zigI 0).toNat = 0 := rfl
  unfold tvE tvL at h
  unfold tvK tvI tvT tvL at hr
  unfold tvK tvI tvT tvR tvL
  by_cases h1 : tkE s ≠ 0
  · rw [if_pos h1] at h; exact absurd h h1
  rw [if_neg h1] at h hr ⊢
  by_cases h2 : 3 < tkN s
  · rw [if_pos h2] at h; simp at h
  rw [if_neg h2] at h hr ⊢
  by_cases h3 : tkN s = 0
  · rw [if_pos h3] at hr; simp [rightB] at hr
  rw [if_neg h3] at h hr ⊢
  have hs := tk_aft s (by omega)
  by_cases h4 : tkN s = 2
  · rw [if_pos h4] at h hr ⊢
    by_cases h5 : ttE (tkR s) 200 ≠ 0
    · rw [if_pos h5] at h; exact absurd h h5
    rw [if_neg h5]
    have ht := (tt_aft (tkR s) 200 (by omega)).1
    show (⟨#[]⟩ ++ putS 2 ++ putS (ttT (tkR s) 200).size ++ ttT (tkR s) 200) ++ ttR (tkR s) 200 = s
    rw [ba_nil]
    simp only [ba_assoc]
    rw [ht, ← h4]
    exact hs
  rw [if_neg h4] at h hr ⊢
  by_cases h5 : tkE (tkR s) ≠ 0
  · rw [if_pos h5] at h; exact absurd h h5
  rw [if_neg h5] at h hr ⊢
  by_cases h6 : rightB (tkN s) (tiN (tkR s)) ⟨#[]⟩ = true
  · rw [if_pos h6]
    have ht := ti_aft (tkR s) (by omega)
    have h7 : tkN s = 1 ∨ tkN s = 3 := by omega
    show putV ⟨#[]⟩ (tkN s) (tiN (tkR s)) ⟨#[]⟩ ++ tkR (tkR s) = s
    unfold putV
    rw [if_neg (by omega), if_neg (by omega), show ((tkN s : Int) % 4).toNat = tkN s by omega, ba_nil]
    simp only [ba_assoc]
    rw [ht]
    exact hs
  · rw [if_neg h6] at h; simp at h

/-- P7.6. -/
theorem te_fore {x : En} (h : rightE x = true) (h1 : -9223372036854775808 ≤ x.vn) (h2 : x.vn ≤ 9223372036854775807) (s : ByteArray) : teL (putE ⟨#[]⟩ x ++ s) = (x, s, 0) := by
  obtain ⟨a1, a2, a3, a4, a5⟩ := rightE_of.1 h
  have hk : x.k = 1 ∨ x.k = 2 ∨ x.k = 3 := by
    unfold kindE at a3
    simp only [decide_eq_true_eq] at a3
    omega
  have hkn : (x.k % 4).toNat < 18446744073709551616 := by omega
  have hk4 : (((x.k % 4).toNat : Nat) : Int) = x.k := by omega
  have e : putE ⟨#[]⟩ x ++ s = encDo x.d ++ (putS x.p.size ++ (x.p ++ (putS (x.k % 4).toNat ++ (putV ⟨#[]⟩ x.vk x.vn x.vt ++ (encDo x.e ++ s))))) := by
    rw [putE_nil]
    simp only [ba_assoc]
  obtain ⟨d1, d2, d3⟩ := td_fore x.d (putS x.p.size ++ (x.p ++ (putS (x.k % 4).toNat ++ (putV ⟨#[]⟩ x.vk x.vn x.vt ++ (encDo x.e ++ s))))) a1
  have hp := tt_fore x.p (putS (x.k % 4).toNat ++ (putV ⟨#[]⟩ x.vk x.vn x.vt ++ (encDo x.e ++ s))) 102 (by have := rightS_size a2; omega) (by decide)
  obtain ⟨k1, k2, k3⟩ := tk_fore (x.k % 4).toNat (putV ⟨#[]⟩ x.vk x.vn x.vt ++ (encDo x.e ++ s)) hkn
  obtain ⟨v1, v2, v3, v4, v5⟩ := tv_fore h1 h2 a4 (encDo x.e ++ s)
  obtain ⟨w1, w2, w3⟩ : tdX (encDo x.e ++ s) = x.e ∧ tdR (encDo x.e ++ s) = s ∧ tdE (encDo x.e ++ s) = 0 := by
    rcases verE_of a5 with h0 | h0
    · rw [h0]; exact td_none s
    · exact td_fore x.e s h0
  rw [e]
  have g1 : r1 (encDo x.d ++ (putS x.p.size ++ (x.p ++ (putS (x.k % 4).toNat ++ (putV ⟨#[]⟩ x.vk x.vn x.vt ++ (encDo x.e ++ s)))))) = putS x.p.size ++ (x.p ++ (putS (x.k % 4).toNat ++ (putV ⟨#[]⟩ x.vk x.vn x.vt ++ (encDo x.e ++ s)))) := d2
  generalize encDo x.d ++ (putS x.p.size ++ (x.p ++ (putS (x.k % 4).toNat ++ (putV ⟨#[]⟩ x.vk x.vn x.vt ++ (encDo x.e ++ s))))) = S at *
  have g2 : r2 S = putS (x.k % 4).toNat ++ (putV ⟨#[]⟩ x.vk x.vn x.vt ++ (encDo x.e ++ s)) := by unfold r2 ttR; rw [g1, hp]
  have g3 : r3 S = putV ⟨#[]⟩ x.vk x.vn x.vt ++ (encDo x.e ++ s) := by unfold r3; rw [g2, k2]
  have g4 : r4 S = encDo x.e ++ s := by unfold r4; rw [g3, v4]
  have g5 : r5 S = s := by unfold r5; rw [g4, w2]
  have gt : ttT (r1 S) 102 = x.p := by unfold ttT; rw [g1, hp]
  have gE : ttE (r1 S) 102 = 0 := by unfold ttE; rw [g1, hp]
  have he : errE S = 0 := by
    unfold errE
    rw [d3, gE, g2, k3, g3, v5, g4, w3]
    rfl
  have hx : enK S (tkN (r2 S)) = x := by
    unfold enK
    rw [d1, gt, g2, k1, hk4, g3, v1, v2, v3, g4, w1]
  unfold teL
  rw [he, if_neg (by simp), hx, g5, if_pos ⟨by rw [g2, k1]; omega, h⟩]
theorem err_none {s : ByteArray} (h : errE s = 0) : tdE s = 0 ∧ ttE (r1 s) 102 = 0 ∧ tkE (r2 s) = 0 ∧ tvE (r3 s) = 0 ∧ tdE (r4 s) = 0 := by
  unfold errE at h
  by_cases q1 : tdE s = 0
  · rw [if_neg (by omega)] at h
    by_cases q2 : ttE (r1 s) 102 = 0
    · rw [if_neg (by omega)] at h
      by_cases q3 : tkE (r2 s) = 0
      · rw [if_neg (by omega)] at h
        by_cases q4 : tvE (r3 s) = 0
        · rw [if_neg (by omega)] at h
          exact ⟨q1, q2, q3, q4, h⟩
        · rw [if_pos q4] at h; exact absurd h q4
      · rw [if_pos q3] at h; exact absurd h q3
    · rw [if_pos q2] at h; exact absurd h q2
  · rw [if_pos q1] at h; exact absurd h q1
/-- What is taken is put as these bytes. -/
theorem en_aft {s : ByteArray} (h : errE s = 0) (hk : tkN (r2 s) ≤ 3) (hr : rightB (tvK (r3 s)) (tvI (r3 s)) (tvT (r3 s)) = true) :
    encDo (tdX s) ++ (putS (ttT (r1 s) 102).size ++ (ttT (r1 s) 102 ++ (putS (((tkN (r2 s) : Nat) : Int) % 4).toNat ++ (putV ⟨#[]⟩ (tvK (r3 s)) (tvI (r3 s)) (tvT (r3 s)) ++ (encDo (tdX (r4 s)) ++ r5 s))))) = s := by
  obtain ⟨e1, e2, e3, e4, e5⟩ := err_none h
  have x5 : encDo (tdX (r4 s)) ++ r5 s = r4 s := td_aft (r4 s) e5
  have x4 : putV ⟨#[]⟩ (tvK (r3 s)) (tvI (r3 s)) (tvT (r3 s)) ++ r4 s = r3 s := tv_aft (r3 s) e4 hr
  have x3 : putS (tkN (r2 s)) ++ r3 s = r2 s := tk_aft (r2 s) e3
  have x2 : putS (ttT (r1 s) 102).size ++ (ttT (r1 s) 102 ++ r2 s) = r1 s := (tt_aft (r1 s) 102 e2).1
  have x1 : encDo (tdX s) ++ r1 s = s := td_aft s e1
  rw [x5, x4, show (((tkN (r2 s) : Nat) : Int) % 4).toNat = tkN (r2 s) by omega, x3, x2, x1]
/-- P7.6, the way back. -/
theorem te_aft {s : ByteArray} (h : teE s = 0) : rightE (teX s) = true ∧ putE ⟨#[]⟩ (teX s) ++ teR s = s := by
  by_cases h1 : errE s = 0
  · by_cases h2 : tkN (r2 s) ≤ 3 ∧ rightE (enK s (tkN (r2 s))) = true
    · have hL : teL s = (enK s (tkN (r2 s)), r5 s, 0) := by
        unfold teL
        rw [if_neg (by omega), if_pos h2]
      obtain ⟨t1, t2, _⟩ := te_of hL
      rw [t1, t2]
      refine ⟨h2.2, ?_⟩
      obtain ⟨_, _, _, a4, _⟩ := rightE_of.1 h2.2
      have key := en_aft h1 h2.1 a4
      rw [putE_nil]
      unfold enK
      simp only [ba_assoc]
      exact key
    · have hL : teL s = (.none, ⟨#[]⟩, 3) := by
        unfold teL
        rw [if_neg (by omega), if_neg h2]
      have := (te_of hL).2.2
      omega
  · have hL : teL s = (.none, ⟨#[]⟩, errE s) := by
      unfold teL
      rw [if_pos h1]
    have := (te_of hL).2.2
    omega
end Go.Proofs.Ytapcaflmfkcfkaa

