/-
  What is proved: words for memory that layer 5's contracts use: a slice of dots that lies in memory ('Dl'), and what a world that has all that another one has keeps of it.
  dot.Cmp, called with any two dots, returns their order (P5.2), and lays blocks alone; the document's Cmp likewise.
  Right and Put of package dot and of the document's layer 5, called with any dot, return what P5.1 and P5.3 say; the world has new blocks at most.
  Take of package dot and of the document's layer 5, called with any text, return what P5.4 says; the world has new blocks at most.
  plain facts on dots as bytes (P5.3, P5.4): what is put is taken, whatever follows; what is taken is put as these bytes; no program is spoken of here.
  strconv.Itoa, called with any int where its table reads as its initialiser lays it, returns the number's decimal digits: the library's contract, laid at this program's numbers.
  Text of package val and of the document's layer 3, called with any value where the laid tables read as their initialisers lay them, return what P3.5 says; the world has new blocks at most.
  the document's own number and Text of layer 3, called with any value, return what P3.5 says; the world has new blocks at most.
  Text of package dot and of the document's layer 5, called with any dot, returns what P5.8 says; the world has new blocks at most.
-/
import Derived.Test.YtjieofiaoepccaaGreatDoorProg
import Derived.Test.YtjieofiaoepccaaGreatDoorM2
import Derived.Test.YtjieofiaoepccaaGreatDoorM3
import Derived.Laws.StructEq
import Derived.WalkKit
import Derived.WalkSmall
import Derived.OwnWalk
import Derived.Lib.Hide
import Derived.Below
import Derived.Shelf.GgSortFunc.RowK
import Derived.Sort.Grow
import Derived.Test.YtjieofiaoepccaaGreatDoorM4
import Derived.Shelf.Strings.Builder1
import Derived.Shelf.Strings.Builder2
import Derived.Shelf.Strings.OnBuilder
import Derived.Shelf.LaysM
import Derived.Shelf.Strconv.Itoa3
import Derived.Shelf.Strings.Search1
import Derived.Shelf.Strings.Search2
import Derived.Shelf.Strings.Search3
import Derived.Shelf.Strings.Count
import Derived.Shelf.Strings.Shaped
import Derived.Lib.ItoaLen
namespace Go.Proofs.YtjieofiaoepccaaGreatDoor
open Go.RowKit

/-- A dot, as a value. -/
def dotV (x : Int × Int) : Value := .agg #[.int .i64 x.1, .int .i64 x.2]
def Dl (w : World) (A : Option Addr) (n c : Nat) (L : List (Int × Int)) : Prop :=
  n = L.length ∧ n ≤ c ∧ c ≤ maxLen ∧ (A = none → c = 0) ∧ (n = 0 ∨ ∃ b o, A = some ⟨b, o, none⟩ ∧ ∀ j x, L[j]? = some x → w.cell? ⟨b, o + j * 2, none⟩ = some (.int .i64 x.1) ∧ w.cell? ⟨b, o + j * 2 + 1, none⟩ = some (.int .i64 x.2))
theorem Dl.kept {w w' : World} {A : Option Addr} {n c : Nat} {L : List (Int × Int)} (h : Dl w A n c L) (hk : Kept w w') : Dl w' A n c L :=
  ⟨h.1, h.2.1, h.2.2.1, h.2.2.2.1, h.2.2.2.2.imp id fun ⟨b, o, hA, hc⟩ => ⟨b, o, hA, fun j x hj => ⟨hk.cell (hc j x hj).1, hk.cell (hc j x hj).2⟩⟩⟩
theorem Dl.nil (w : World) : Dl w none 0 0 [] := ⟨rfl, Nat.le_refl _, Nat.zero_le _, fun _ => rfl, .inl rfl⟩
theorem Dl.len {w : World} {A : Option Addr} {n c : Nat} {L : List (Int × Int)} (h : Dl w A n c L) : L.length = n := h.1.symm
theorem Dl.cap {w : World} {A : Option Addr} {n c : Nat} {L : List (Int × Int)} (h : Dl w A n c L) : n ≤ c ∧ c ≤ 9223372036854775807 := ⟨h.2.1, h.2.2.1⟩
theorem Dl.get {w : World} {A : Option Addr} {n c : Nat} {L : List (Int × Int)} (h : Dl w A n c L) {k : Nat} (hk : k < n) :
    ∃ b o x, A = some ⟨b, o, none⟩ ∧ L[k]? = some x ∧ w.cell? ⟨b, o + k * 2, none⟩ = some (.int .i64 x.1) ∧ w.cell? ⟨b, o + k * 2 + 1, none⟩ = some (.int .i64 x.2) := by
  have hl : k < L.length := by rw [← h.1]; exact hk
  rcases h.2.2.2.2 with h0 | ⟨b, o, hA, hc⟩
  · omega
  · have := hc k L[k] (List.getElem?_eq_getElem hl)
    exact ⟨b, o, L[k], hA, List.getElem?_eq_getElem hl, this.1, this.2⟩

/-- The cells of dots. -/
def flatD (L : List (Int × Int)) : List Value := L.flatMap fun x => [.int .i64 x.1, .int .i64 x.2]
theorem flatD_nil : flatD [] = [] := rfl
theorem flatD_cons (x : Int × Int) (L : List (Int × Int)) : flatD (x :: L) = .int .i64 x.1 :: .int .i64 x.2 :: flatD L := rfl
theorem flatD_app (L M : List (Int × Int)) : flatD (L ++ M) = flatD L ++ flatD M := List.flatMap_append
theorem flatD_len (L : List (Int × Int)) : (flatD L).length = L.length * 2 := by
  induction L with
  | nil => rfl
  | cons x L ih => rw [flatD_cons, List.length_cons, List.length_cons, List.length_cons, ih]; omega
theorem flatD_one (L : List (Int × Int)) : ∀ u ∈ flatD L, u.oneCell' = true := by
  intro u hu
  obtain ⟨x, _, hx⟩ := List.mem_flatMap.1 hu
  simp only [List.mem_cons, List.not_mem_nil, or_false] at hx
  rcases hx with rfl | rfl <;> rfl
theorem flatD_get : ∀ (L : List (Int × Int)) (j : Nat) (x : Int × Int), L[j]? = some x → (flatD L)[j * 2]? = some (.int .i64 x.1) ∧ (flatD L)[j * 2 + 1]? = some (.int .i64 x.2)
  | [], j, x, h => by simp at h
  | y :: L, 0, x, h => by
    obtain rfl : y = x := by simpa using h
    exact ⟨rfl, rfl⟩
  | y :: L, j + 1, x, h => by
    have ih := flatD_get L j x (by simpa using h)
    rw [flatD_cons, show (j + 1) * 2 = (j * 2) + 1 + 1 by omega]
    simpa using ih
theorem flatD_at : ∀ (L : List (Int × Int)) (i : Nat) (u : Value), (flatD L)[i]? = some u → ∃ j x, L[j]? = some x ∧ ((i = j * 2 ∧ u = .int .i64 x.1) ∨ (i = j * 2 + 1 ∧ u = .int .i64 x.2))
  | [], i, u, h => by simp [flatD_nil] at h
  | y :: L, 0, u, h => ⟨0, y, rfl, .inl ⟨rfl, by simpa [flatD_cons] using h.symm⟩⟩
  | y :: L, 1, u, h => ⟨0, y, rfl, .inr ⟨rfl, by simpa [flatD_cons] using h.symm⟩⟩
  | y :: L, i + 2, u, h => by
    obtain ⟨j, x, hj, hc⟩ := flatD_at L i u (by simpa [flatD_cons] using h)
    refine ⟨j + 1, x, by simpa using hj, ?_⟩
    rcases hc with ⟨h1, h2⟩ | ⟨h1, h2⟩
    · exact .inl ⟨by omega, h2⟩
    · exact .inr ⟨by omega, h2⟩
theorem Dl.of_own {w : World} {base n : Nat} {e : TypeId} {v : Value} {L : List (Int × Int)} (h : w.ownsRow base e 2 v n (flatD L)) : ∃ A c, v = .slice A n c ∧ Dl w A n c L := by
  have hl : n = L.length := by have := h.1; rw [flatD_len] at this; omega
  have hc := fun g (hg : v.ownBlock = some g) => h.cells (g := g) hg
  rcases h.2 with ⟨rfl, h0⟩ | ⟨g, cap, cur, rfl, hb, hg, h1, h2, _⟩
  · subst h0
    exact ⟨none, 0, rfl, hl, Nat.le_refl _, Nat.zero_le _, fun _ => rfl, .inl rfl⟩
  · refine ⟨some ⟨g, 0, none⟩, cap, rfl, hl, h1, h2, fun h => by simp at h, .inr ⟨g, 0, rfl, fun j x hj => ?_⟩⟩
    have hx := flatD_get L j x hj
    have c0 := hc g rfl _ _ hx.1
    have c1 := hc g rfl _ _ hx.2
    rw [Addr.add_lit, Nat.zero_add] at c0 c1
    rw [Nat.zero_add]
    exact ⟨c0, c1⟩

theorem Dl.of_own' {w : World} {base n : Nat} {e : TypeId} {v : Value} {L : List (Int × Int)} (h : w.ownsRow base e 2 v n (flatD L)) : ∃ A c, v = .slice A n c ∧ Dl w A n c L ∧ ∀ ad, A = some ad → base ≤ ad.block := by
  obtain ⟨A, c, rfl, hd⟩ := Dl.of_own h
  refine ⟨A, c, rfl, hd, fun ad e => ?_⟩
  subst e
  exact (h.lt ad.block rfl).1
theorem kept_of_below {w w' : World} (h : Below w.heap.size w w') : Kept w w' :=
  ⟨h.frame _, fun _ ha => h.frozen ha, h.size⟩
theorem Kept.drewN {W w : World} (h : Kept W w) (n : Nat) : Kept W (w.drewN n) := h
theorem Kept.setCell {W w : World} (h : Kept W w) {a : Addr} (ha : W.heap.size ≤ a.block) (v : Value) : Kept W (w.setCell a v) := by
  obtain ⟨⟨h1, h2, h3⟩, hf, hs⟩ := h
  refine ⟨⟨h1, h2, fun i hi => ?_⟩, fun x hx => (World.frozen?_setCell _ _ _ _).trans (hf x hx), by simpa [World.setCell] using hs⟩
  rw [Below.heap_setCell _ _ _ _ (by omega)]
  exact h3 i hi
theorem Kept.box0 {w : World} {W : World} {x0 x1 : Value} {t : TypeId} (hg : Kept (w.alloc (.cells #[x0, x1] t)) W) : W.cell? ⟨w.heap.size, 0, none⟩ = some x0 := hg.box 0 _ rfl
theorem Kept.box1 {w : World} {W : World} {x0 x1 : Value} {t : TypeId} (hg : Kept (w.alloc (.cells #[x0, x1] t)) W) : W.cell? ⟨w.heap.size, 1, none⟩ = some x1 := hg.box 1 _ rfl
theorem lt_of_kept {w w1 : World} {c : Array Value} {t : TypeId} (hg : Kept (w.alloc (.cells c t)) w1) : w.heap.size < w1.heap.size := by
  have := hg.2.2; simp at this; omega
end Go.Proofs.YtjieofiaoepccaaGreatDoor

namespace Go.Proofs.YtjieofiaoepccaaGreatDoor
open Go.RowKit

def or2 (x y : Int) : Int := if x ≠ 0 then x else y
theorem grow3 (w : World) (o1 o2 o3 : Obj) : ((w.alloc o1).alloc o2).drew.alloc o3 = Sort.grow (w.drewN 1) #[o1, o2, o3] := by
  rw [Sort.alloc_eq_grow, Sort.alloc_eq_grow, Sort.alloc_eq_grow]
  show Sort.grow (Sort.grow (Sort.grow (w.drewN 1) #[o1]) #[o2]) #[o3] = _
  rw [Sort.grow_grow, Sort.grow_grow]
  rfl

end Go.Proofs.YtjieofiaoepccaaGreatDoor

namespace Go.Proofs.YtjieofiaoepccaaGreatDoor
open Go.RowKit

/-- P5.1. -/
def rightD (x : Int × Int) : Bool := decide (0 ≤ x.1 ∧ x.1 < 64 ∧ 1 ≤ x.2 ∧ x.2 ≤ 1073741824)
theorem rightD_bd {d : Int × Int} (h : rightD d = true) : 0 ≤ d.1 ∧ d.1 < 64 ∧ 1 ≤ d.2 ∧ d.2 ≤ 1073741824 := by
  unfold rightD at h; exact of_decide_eq_true h
/-- P5.3. -/
def putD (b : ByteArray) (x : Int × Int) : ByteArray := b ++ putS (zigI x.1).toNat ++ putS (zigI x.2).toNat

end Go.Proofs.YtjieofiaoepccaaGreatDoor

namespace Go.Proofs.YtjieofiaoepccaaGreatDoor
open Go.RowKit

/-- P5.4. -/
def tdL (s : ByteArray) : (Int × Int) × ByteArray × Nat :=
  if tkE s ≠ 0 then ((0, 0), ⟨#[]⟩, tkE s)
  else if tkE (tkR s) ≠ 0 then ((0, 0), ⟨#[]⟩, tkE (tkR s))
  else if rightD (tiN s, tiN (tkR s)) = true ∨ (tiN s = 0 ∧ tiN (tkR s) = 0) then ((tiN s, tiN (tkR s)), tkR (tkR s), 0)
  else ((0, 0), ⟨#[]⟩, 3)
def tdX (s : ByteArray) : Int × Int := (tdL s).1
def tdR (s : ByteArray) : ByteArray := (tdL s).2.1
def tdE (s : ByteArray) : Nat := (tdL s).2.2
theorem td_of {s : ByteArray} {x1 x2 : Int} {r : ByteArray} {e : Nat} {z : Int} (h : tdL s = ((x1, x2), r, e)) (hz : (e : Int) = z) :
    Ending.returned (.tuple #[.agg #[.int .i64 x1, .int .i64 x2], .string r, .int .i64 z]) = .returned (.tuple #[.agg #[.int .i64 (tdX s).1, .int .i64 (tdX s).2], .string (tdR s), .int .i64 (tdE s)]) := by
  unfold tdX tdR tdE; rw [h, hz]

/-- A block of two cells that may be written. -/
structure Box2 (w : World) (b : Nat) (x0 x1 : Value) : Prop where
  c0 : w.cell? ⟨b, 0, none⟩ = some x0
  c1 : w.cell? ⟨b, 1, none⟩ = some x1
  f : ∀ i, w.frozen? ⟨b, i, none⟩ = false
theorem Box2.kept {w w' : World} {b : Nat} {x0 x1 : Value} (h : Box2 w b x0 x1) (hg : Kept w w') : Box2 w' b x0 x1 :=
  ⟨hg.cell h.c0, hg.cell h.c1, fun i => (hg.2.1 ⟨b, i, none⟩ (show b < w.heap.size from World.block_lt_of_cell? w _ h.c0)).trans (h.f i)⟩
theorem Box2.new (w : World) (x0 x1 : Value) (t : TypeId) : Box2 (w.alloc (.cells #[x0, x1] t)) w.heap.size x0 x1 :=
  ⟨Kept.box0 (Kept.refl _), Kept.box1 (Kept.refl _), fun i => by rw [frozen?_alloc_cells]; simp [World.frozen?]⟩
theorem Box2.set0 {w : World} {b : Nat} {x0 x1 : Value} (h : Box2 w b x0 x1) (v : Value) : Box2 (w.setCell ⟨b, 0, none⟩ v) b v x1 :=
  ⟨World.cell?_setCell_same _ _ _ h.c0, by rw [World.cell?_setCell_other _ _ _ _ (by simp)]; exact h.c1, fun i => by rw [World.frozen?_setCell]; exact h.f i⟩
theorem Box2.set1 {w : World} {b : Nat} {x0 x1 : Value} (h : Box2 w b x0 x1) (v : Value) : Box2 (w.setCell ⟨b, 1, none⟩ v) b x0 v :=
  ⟨by rw [World.cell?_setCell_other _ _ _ _ (by simp)]; exact h.c0, World.cell?_setCell_same _ _ _ h.c1, fun i => by rw [World.frozen?_setCell]; exact h.f i⟩
theorem Box2.far {w : World} {b c o : Nat} {x0 x1 : Value} (h : Box2 w b x0 x1) (hne : b ≠ c) (v : Value) : Box2 (w.setCell ⟨c, o, none⟩ v) b x0 x1 := by
  have e : ∀ i, (w.setCell ⟨c, o, none⟩ v).cell? ⟨b, i, none⟩ = w.cell? ⟨b, i, none⟩ := fun i => World.cell?_setCell_other _ _ _ _ (by intro e; injection e; omega)
  exact ⟨by rw [e]; exact h.c0, by rw [e]; exact h.c1, fun i => by rw [World.frozen?_setCell]; exact h.f i⟩
theorem kept_set2 {W w : World} (h : Kept W w) (x0 x1 : Value) {b : Nat} (hb : W.heap.size ≤ b) : Kept W ((w.setCell ⟨b, 0, none⟩ x0).setCell ⟨b, 1, none⟩ x1) :=
  (h.setCell hb x0).setCell hb x1
theorem takeIntK (s : ByteArray) (n : Int) (r : ByteArray) (k : Int) (hn : tiN s = n) (hr : tkR s = r) (hk : (tkE s : Int) = k) (hs : s.size ≤ 100000) (w : World) :
    Calls Tryz.prog 82 #[.string s] w fun e w' => e = .returned (.tuple #[.int .i64 n, .string r, .int .i64 k]) ∧ Kept w w' :=
  (takeInt_c s n r k hn hr hk (by omega) w).mono fun _ _ ⟨he, hg⟩ => ⟨he, kept_of hg⟩
theorem rtakeIntK (s : ByteArray) (n : Int) (r : ByteArray) (k : Int) (hn : tiN s = n) (hr : tkR s = r) (hk : (tkE s : Int) = k) (hs : s.size ≤ 100000) (w : World) :
    Calls Tryz.prog 83 #[.string s] w fun e w' => e = .returned (.tuple #[.int .i64 n, .string r, .int .i64 k]) ∧ Kept w w' := by
  subst hn hr hk; exact (rtakeInt_any s w hs).mono fun _ _ ⟨he, hg⟩ => ⟨he, kept_of hg⟩

end Go.Proofs.YtjieofiaoepccaaGreatDoor

namespace Go.Proofs.YtjieofiaoepccaaGreatDoor
open Go.RowKit

def encDo (x : Int × Int) : ByteArray := putS (zigI x.1).toNat ++ putS (zigI x.2).toNat
theorem putD_enc (b : ByteArray) (x : Int × Int) : putD b x = b ++ encDo x := by
  unfold putD encDo
  rw [ba_assoc]
theorem td_fore (x : Int × Int) (s : ByteArray) (h : rightD x = true) : tdX (encDo x ++ s) = x ∧ tdR (encDo x ++ s) = s ∧ tdE (encDo x ++ s) = 0 := by
  obtain ⟨x1, x2⟩ := x
  obtain ⟨b1, b2, b3, b4⟩ := rightD_bd h
  simp only at b1 b2 b3 b4
  have e : encDo (x1, x2) ++ s = putS (zigI x1).toNat ++ (putS (zigI x2).toNat ++ s) := by unfold encDo; rw [ba_assoc]
  obtain ⟨p1, p2, p3⟩ := ti_fore x1 (putS (zigI x2).toNat ++ s) (by omega) (by omega)
  obtain ⟨q1, q2, q3⟩ := ti_fore x2 s (by omega) (by omega)
  have ht : tdL (encDo (x1, x2) ++ s) = ((x1, x2), s, 0) := by
    unfold tdL
    rw [e, p3, p2, q3, q2, p1, q1, if_neg (by simp), if_neg (by simp), if_pos (.inl h)]
  exact ⟨by unfold tdX; rw [ht], by unfold tdR; rw [ht], by unfold tdE; rw [ht]⟩
theorem td_aft (s : ByteArray) (h : tdE s = 0) : encDo (tdX s) ++ tdR s = s := by
  unfold tdE tdL at h
  unfold tdX tdR tdL
  split at h
  · rename_i he; exact absurd h he
  · rename_i he
    split at h
    · rename_i he2; exact absurd h he2
    · rename_i he2
      split at h
      · rename_i hr
        rw [if_neg he, if_neg he2, if_pos hr]
        have h1 := ti_aft s (by simpa using he)
        have h2 := ti_aft (tkR s) (by simpa using he2)
        show encDo (tiN s, tiN (tkR s)) ++ tkR (tkR s) = s
        unfold encDo
        rw [ba_assoc, h2, h1]
      · cases h
/-- The dot that names the version at the beginning. -/
theorem td_none (s : ByteArray) : tdX (encDo (0, 0) ++ s) = (0, 0) ∧ tdR (encDo (0, 0) ++ s) = s ∧ tdE (encDo (0, 0) ++ s) = 0 := by
  have e : encDo (0, 0) ++ s = putS (zigI 0).toNat ++ (putS (zigI 0).toNat ++ s) := by unfold encDo; rw [ba_assoc]
  obtain ⟨p1, p2, p3⟩ := ti_fore 0 (putS (zigI 0).toNat ++ s) (by omega) (by omega)
  obtain ⟨q1, q2, q3⟩ := ti_fore 0 s (by omega) (by omega)
  have ht : tdL (encDo (0, 0) ++ s) = ((0, 0), s, 0) := by
    unfold tdL
    rw [e, p3, p2, q3, q2, p1, q1, if_neg (by simp), if_neg (by simp), if_pos (.inr ⟨rfl, rfl⟩)]
  exact ⟨by unfold tdX; rw [ht], by unfold tdR; rw [ht], by unfold tdE; rw [ht]⟩
end Go.Proofs.YtjieofiaoepccaaGreatDoor

namespace Go.Proofs
open Go.Shelf
def Tryz.laysM171_ren : Go.Shelf.Ren := ⟨fun | 171 => 89 | 243 => 99 | 246 => 103 | 283 => 109 | 284 => 110 | 285 => 111 | 286 => 112 | 129 => 117 | 317 => 116 | 318 => 118 | 319 => 119 | 320 => 120 | 337 => 121 | 338 => 122 | n => n, fun | 3 => 3 | 9 => 9 | 2 => 2 | 4 => 4 | 171 => 109 | 0 => 0 | 53 => 47 | 37 => 58 | 5 => 5 | 173 => 111 | 212 => 117 | 51 => 113 | 20 => 20 | 213 => 118 | 46 => 85 | 232 => 122 | 233 => 123 | n => n, fun | 17 => 4 | 18 => 5 | 19 => 6 | n => n⟩
theorem Tryz.laysM171 : Go.Proofs.LaysM.n171 Tryz.prog Tryz.laysM171_ren := {
  mixed := by kernel_rfl
  f129 := Tryz.func117.trans (congrArg some (by kernel_rfl))
  f171 := Tryz.func89.trans (congrArg some (by kernel_rfl))
  f243 := Tryz.func99.trans (congrArg some (by kernel_rfl))
  f246 := Tryz.func103.trans (congrArg some (by kernel_rfl))
  f283 := Tryz.func109.trans (congrArg some (by kernel_rfl))
  f284 := Tryz.func110.trans (congrArg some (by kernel_rfl))
  f285 := Tryz.func111.trans (congrArg some (by kernel_rfl))
  f286 := Tryz.func112.trans (congrArg some (by kernel_rfl))
  f317 := Tryz.func116.trans (congrArg some (by kernel_rfl))
  f318 := Tryz.func118.trans (congrArg some (by kernel_rfl))
  f319 := Tryz.func119.trans (congrArg some (by kernel_rfl))
  f320 := Tryz.func120.trans (congrArg some (by kernel_rfl))
  f337 := Tryz.func121.trans (congrArg some (by kernel_rfl))
  f338 := Tryz.func122.trans (congrArg some (by kernel_rfl))
  t0 := Tryz.underlying0
  a0 := Tryz.isAgg0
  z0 := Tryz.sizeOf0
  v0 := Tryz.zeroValue0
  t2 := Tryz.underlying2
  a2 := Tryz.isAgg2
  z2 := Tryz.sizeOf2
  v2 := Tryz.zeroValue2
  t3 := Tryz.underlying3
  a3 := Tryz.isAgg3
  z3 := Tryz.sizeOf3
  v3 := Tryz.zeroValue3
  t4 := Tryz.underlying4
  a4 := Tryz.isAgg4
  z4 := Tryz.sizeOf4
  v4 := Tryz.zeroValue4
  t5 := Tryz.underlying5
  a5 := Tryz.isAgg5
  z5 := Tryz.sizeOf5
  v5 := Tryz.zeroValue5
  t9 := Tryz.underlying9
  a9 := Tryz.isAgg9
  z9 := Tryz.sizeOf9
  v9 := Tryz.zeroValue9
  t20 := Tryz.underlying20
  a20 := Tryz.isAgg20
  z20 := Tryz.sizeOf20
  v20 := Tryz.zeroValue20
  t37 := Tryz.underlying58
  a37 := Tryz.isAgg58
  z37 := Tryz.sizeOf58
  v37 := Tryz.zeroValue58
  t46 := Tryz.underlying85
  a46 := Tryz.isAgg85
  z46 := Tryz.sizeOf85
  v46 := Tryz.zeroValue85
  t51 := Tryz.underlying113
  a51 := Tryz.isAgg113
  z51 := Tryz.sizeOf113
  v51 := Tryz.zeroValue113
  t53 := Tryz.underlying47
  a53 := Tryz.isAgg47
  z53 := Tryz.sizeOf47
  v53 := Tryz.zeroValue47
  t171 := Tryz.underlying109
  a171 := Tryz.isAgg109
  z171 := Tryz.sizeOf109
  v171 := Tryz.zeroValue109
  t173 := Tryz.underlying111
  a173 := Tryz.isAgg111
  z173 := Tryz.sizeOf111
  v173 := Tryz.zeroValue111
  t212 := Tryz.underlying117
  a212 := Tryz.isAgg117
  z212 := Tryz.sizeOf117
  v212 := Tryz.zeroValue117
  t213 := Tryz.underlying118
  a213 := Tryz.isAgg118
  z213 := Tryz.sizeOf118
  t232 := Tryz.underlying122
  a232 := Tryz.isAgg122
  z232 := Tryz.sizeOf122
  v232 := Tryz.zeroValue122
  t233 := Tryz.underlying123
  a233 := Tryz.isAgg123
  z233 := Tryz.sizeOf123
  v233 := Tryz.zeroValue123
  g17 := by kernel_rfl
  g18 := by kernel_rfl
  g19 := by kernel_rfl
  i0 := by kernel_rfl
  i2 := by kernel_rfl
  i3 := by kernel_rfl
  i4 := by kernel_rfl
  i5 := by kernel_rfl
  i9 := by kernel_rfl
  i20 := by kernel_rfl
  i37 := by kernel_rfl
  i46 := by kernel_rfl
  i51 := by kernel_rfl
  i53 := by kernel_rfl
  i171 := by kernel_rfl
  i173 := by kernel_rfl
  i212 := by kernel_rfl
  i232 := by kernel_rfl
  i233 := by kernel_rfl
  m17 := by kernel_rfl
  m18 := by kernel_rfl
  m19 := by kernel_rfl }
open Go.RowKit Go.Sort Go.Lib in
theorem Tryz.strconv_Itoa (n : Int) (h0 : -9223372036854775808 ≤ n) (h1 : n ≤ 9223372036854775807) (w : World) (htab : Lib.TabIs Tryz.prog w "internal/strconv.uint64pow10" .u64 Lib.pow10Tab) :
    Calls Tryz.prog 89 #[.int .i64 n] w fun e w' => e = .returned (.string ⟨(Lib.itoa n).toArray⟩) ∧ ∃ k os, w' = grow (w.drewN k) os := Any.strconv_Itoa Tryz.laysM171 n h0 h1 w htab
end Go.Proofs

namespace Go.Proofs.YtjieofiaoepccaaGreatDoor
open Go.RowKit

def noS : ByteArray := ⟨#[110, 111]⟩
def yesS : ByteArray := ⟨#[121, 101, 115]⟩
/-- What the listed variables hold: the table of powers of ten, and the two truths. -/
structure LaidW (w : World) : Prop where
  tab : Lib.TabIs Tryz.prog w "internal/strconv.uint64pow10" .u64 Lib.pow10Tab
  no : w.cell? ⟨2, 0, none⟩ = some (.string noS)
  yes : w.cell? ⟨2, 1, none⟩ = some (.string yesS)

theorem LaidW.kept {w w' : World} (h : LaidW w) (hg : Kept w w') : LaidW w' :=
  ⟨Kept.var h.tab hg, hg.cell h.no, hg.cell h.yes⟩
theorem LaidW.grown {w w' : World} (h : LaidW w) (hg : Grown w w') : LaidW w' := h.kept (kept_of hg)

/-- P3.5. -/
def itoaS (n : Int) : ByteArray := ⟨(Lib.itoa n).toArray⟩
def textV (k n : Int) (t : ByteArray) : ByteArray :=
  if k = 1 then itoaS n else if k = 2 then ⟨#[39]⟩ ++ t else if k = 3 then (if n % 2 = 0 then noS else yesS) else ⟨#[45]⟩

theorem itoa_any (n : Int) (w : World) (h0 : -9223372036854775808 ≤ n) (h1 : n ≤ 9223372036854775807) (hl : LaidW w) :
    Calls Tryz.prog 89 #[.int .i64 n] w fun e w' => e = .returned (.string (itoaS n)) ∧ Kept w w' :=
  (Tryz.strconv_Itoa n h0 h1 w hl.tab).mono fun _ _ ⟨he, k, os, hw⟩ => ⟨he, by rw [hw]; exact kept_grow w k os⟩

theorem vtext_any (k n : Int) (t : ByteArray) (w : World) (h0 : -9223372036854775808 ≤ n) (h1 : n ≤ 9223372036854775807) (ht : t.size ≤ 1000000000000) (hl : LaidW w) :
    Calls Tryz.prog 75 #[.agg #[.int .i64 k, .int .i64 n, .string t]] w fun e w' => e = .returned (.string (textV k n t)) ∧ Kept w w' := by
  by_cases k1 : k = 1
  · subst k1
    have HR := Lib.hid (show itoaS n = textV 1 n t from rfl)
    have hl' := hl.grown ((Grown.refl w).alloc #[.int .i64 1, .int .i64 n, .string t] 28)
    clear hl
    go_enter Tryz.func75, Tryz.ntmps75
    go_wp2_with (go_at_call 89; ((with_reducible refine (itoa_any n _ h0 h1 hl').mono ?_); rintro e w1 ⟨rfl, hg⟩))
    go_ret
    exact ⟨ret_str HR.out, (kept_of ((Grown.refl _).alloc _ _)).trans (by assumption)⟩
  by_cases k2 : k = 2
  · subst k2
    have HR := Lib.hid (show ⟨#[39]⟩ ++ t = textV 2 n t from rfl)
    clear hl
    go_enter Tryz.func75, Tryz.ntmps75
    go_wp2_with fail
    go_ret
    exact ⟨ret_str HR.out, kept_of ((Grown.refl _).alloc _ _)⟩
  by_cases k3 : k = 3
  · subst k3
    have hl' := hl.grown ((Grown.refl w).alloc #[.int .i64 3, .int .i64 n, .string t] 28)
    have e0 := hl'.no
    have e1 := hl'.yes
    have hand := i64_and1 n
    clear hl hl'
    by_cases hn : n % 2 = 0
    · rw [hn] at hand
      have HR := Lib.hid (show noS = textV 3 n t by unfold textV; simp [hn])
      clear hn
      go_enter Tryz.func75, Tryz.ntmps75
      go_wp2_with fail
      go_ret
      exact ⟨ret_str HR.out, kept_of ((Grown.refl _).alloc _ _)⟩
    · have HR := Lib.hid (show yesS = textV 3 n t by unfold textV; simp [hn])
      have hn1 : n % 2 = 1 := by omega
      rw [hn1] at hand
      clear hn hn1
      go_enter Tryz.func75, Tryz.ntmps75
      go_wp2_with fail
      go_ret
      exact ⟨ret_str HR.out, kept_of ((Grown.refl _).alloc _ _)⟩
  · have HR := Lib.hid (show ⟨#[45]⟩ = textV k n t by unfold textV; rw [if_neg k1, if_neg k2, if_neg k3])
    have d1 : (k == 1) = false := by simpa using k1
    have d2 : (k == 2) = false := by simpa using k2
    have d3 : (k == 3) = false := by simpa using k3
    clear hl
    go_enter Tryz.func75, Tryz.ntmps75
    go_wp2_with fail
    go_ret
    exact ⟨ret_str HR.out, kept_of ((Grown.refl _).alloc _ _)⟩
end Go.Proofs.YtjieofiaoepccaaGreatDoor

namespace Go.Proofs.YtjieofiaoepccaaGreatDoor
open Go.RowKit

def digS (u : Nat) : ByteArray := ⟨(Lib.decDigits u).toArray⟩
/-- What holds at each round's head: u is left, o are the digits behind it. -/
def NumInv (N u : Nat) (o : ByteArray) : Prop := digS u ++ o = digS N ∧ u ≤ N ∧ o.size + (Lib.decDigits u).length = (Lib.decDigits N).length
theorem numInv_step {N u : Nat} {o : ByteArray} (h : NumInv N u o) (hu : 10 ≤ u) : NumInv N (u / 10) (byteS (48 + (u : Int) % 10) ++ o) := by
  obtain ⟨h1, h2, h3⟩ := h
  have e : Lib.decDigits u = Lib.decDigits (u / 10) ++ [UInt8.ofNat (48 + u % 10)] := by rw [Lib.decDigits, dif_neg (by omega)]
  refine ⟨?_, by omega, ?_⟩
  · rw [← h1]
    apply ba_ext
    rw [ba_app, ba_app, ba_app]
    show Lib.decDigits (u / 10) ++ ([UInt8.ofNat (48 + (u : Int) % 10).toNat] ++ o.data.toList) = Lib.decDigits u ++ o.data.toList
    rw [e, show (48 + (u : Int) % 10).toNat = 48 + u % 10 by omega]
    simp
  · rw [ByteArray.size_append, byteS_size]
    rw [e] at h3
    simp at h3
    omega
theorem numInv_end {N u : Nat} {o : ByteArray} (h : NumInv N u o) (hu : u < 10) : byteS (48 + (u : Int)) ++ o = digS N := by
  rw [← h.1]
  congr 1
  unfold byteS digS
  rw [Lib.decDigits_one hu, show (48 + (u : Int)).toNat = 48 + u by omega]

theorem itoa_pos (n : Int) (h : 0 ≤ n) : digS n.natAbs = itoaS n := by
  unfold digS itoaS Lib.itoa
  rw [if_neg (by omega), show n.natAbs = n.toNat by omega]
theorem itoa_min (n : Int) (h : n < 0) : (⟨#[45]⟩ : ByteArray) ++ digS n.natAbs = itoaS n := by
  unfold digS itoaS Lib.itoa
  rw [if_pos h]
  apply ba_ext
  rw [ba_app]
  rfl

theorem digs_len (u : Nat) (h : u ≤ 9223372036854775808) : (Lib.decDigits u).length ≤ 21 := by
  by_cases e : u = 9223372036854775808
  · subst e
    have := Lib.itoa_length_le (-9223372036854775808) (by decide) (by decide)
    unfold Lib.itoa at this
    rw [if_pos (by decide)] at this
    simp only [List.length_cons] at this
    have e2 : (-9223372036854775808 : Int).natAbs = 9223372036854775808 := by decide
    rw [e2] at this
    omega
  · have := Lib.itoa_length_le (u : Int) (by omega) (by omega)
    unfold Lib.itoa at this
    rw [if_neg (by omega)] at this
    simpa using this

set_option maxRecDepth 100000 in
set_option maxHeartbeats 1000000 in
theorem number_any (n : Int) (w : World) (h0 : -9223372036854775808 ≤ n) (h1 : n ≤ 9223372036854775807) :
    Calls Tryz.prog 76 #[.int .i64 n] w fun e w' => e = .returned (.string (itoaS n)) ∧ Grown w w' := by
  by_cases hn : n < 0
  · have HU : ∃ N : Nat, n.natAbs = N ∧ 1 ≤ N ∧ N ≤ 9223372036854775808 ∧ IntKind.u64.wrap (-(IntKind.u64.wrap n)) = (N : Int) := ⟨_, rfl, by omega, by omega, by rw [IntKind.wrap_u64, IntKind.wrap_u64]; omega⟩
    obtain ⟨N, hN, hN0, hN1, hwr⟩ := HU
    have HE := Lib.hid (itoa_min n hn)
    rw [hN] at HE
    have HL := Lib.hid (digs_len N hN1)
    clear hN
    go_enter Tryz.func76, Tryz.ntmps76
    go_wp2_with fail
    clear hwr
    go_loopw [3, 4] (fun a b wr => ∃ (u : Nat) (o : ByteArray), NumInv N u o ∧ Grown w wr ∧ a = .int .u64 u ∧ b = .string o) (fun a _ _ => (intOf a).toNat)
    case atStart => exact ⟨N, ⟨#[]⟩, ⟨ba_ext (by rw [ba_app]; exact List.append_nil _), Nat.le_refl _, Nat.zero_add _⟩, Grown.refl _, rfl, rfl⟩
    case round =>
      obtain ⟨u, o, hinv, hgr, rfl, rfl⟩ := hrel
      have hu1 : u ≤ N := hinv.2.1
      have ho : o.size ≤ 21 := by have := hinv.2.2; have := HL.out; omega
      by_cases hu : 10 ≤ u
      · have h1t := one_text (48 + (u : Int) % 10) wr
        have h1s := byteS_size (48 + (u : Int) % 10)
        have HS := Lib.hid (numInv_step hinv hu)
        clear hinv
        go_wp2_with fail
        exact ⟨⟨u / 10, _, HS.out, hgr.alloc _ _, by go_num, rfl⟩, by simp [intOf]; omega⟩
      · have h1t := one_text (48 + (u : Int)) wr
        have h1s := byteS_size (48 + (u : Int))
        have HS := Lib.hid (numInv_end hinv (by omega))
        have hsz : (byteS (48 + (u : Int)) ++ o).size ≤ 22 := by rw [ByteArray.size_append, h1s]; omega
        clear hinv
        go_wp2_with fail
        go_ret
        exact ⟨ret_str (by rw [HS.out]; exact HE.out), hgr.alloc _ _⟩
  · obtain ⟨N, rfl⟩ : ∃ N : Nat, n = (N : Int) := ⟨n.toNat, by omega⟩
    have HE := Lib.hid (itoa_pos (N : Int) (by omega))
    rw [show (N : Int).natAbs = N by omega] at HE
    have hN1 : N ≤ 9223372036854775808 := by omega
    have HL := Lib.hid (digs_len N hN1)
    go_enter Tryz.func76, Tryz.ntmps76
    go_wp2_with fail
    go_loopw [3, 4] (fun a b wr => ∃ (u : Nat) (o : ByteArray), NumInv N u o ∧ Grown w wr ∧ a = .int .u64 u ∧ b = .string o) (fun a _ _ => (intOf a).toNat)
    case atStart => exact ⟨N, ⟨#[]⟩, ⟨ba_ext (by rw [ba_app]; exact List.append_nil _), Nat.le_refl _, Nat.zero_add _⟩, Grown.refl _, rfl, rfl⟩
    case round =>
      obtain ⟨u, o, hinv, hgr, rfl, rfl⟩ := hrel
      have hu1 : u ≤ N := hinv.2.1
      have ho : o.size ≤ 21 := by have := hinv.2.2; have := HL.out; omega
      by_cases hu : 10 ≤ u
      · have h1t := one_text (48 + (u : Int) % 10) wr
        have h1s := byteS_size (48 + (u : Int) % 10)
        have HS := Lib.hid (numInv_step hinv hu)
        clear hinv
        go_wp2_with fail
        exact ⟨⟨u / 10, _, HS.out, hgr.alloc _ _, by go_num, rfl⟩, by simp [intOf]; omega⟩
      · have h1t := one_text (48 + (u : Int)) wr
        have h1s := byteS_size (48 + (u : Int))
        have HS := Lib.hid (numInv_end hinv (by omega))
        have hsz : (byteS (48 + (u : Int)) ++ o).size ≤ 22 := by rw [ByteArray.size_append, h1s]; omega
        clear hinv
        go_wp2_with fail
        go_ret
        exact ⟨ret_str (by rw [HS.out]; exact HE.out), hgr.alloc _ _⟩

theorem idx_no (wx : World) : (Instr.index 90 (.agg #[.string ⟨#[110, 111]⟩, .string ⟨#[121, 101, 115]⟩]) (.int .i64 0)).run Tryz.prog wx = .ok (.string ⟨#[110, 111]⟩) wx := by kernel_rfl
theorem idx_yes (wx : World) : (Instr.index 90 (.agg #[.string ⟨#[110, 111]⟩, .string ⟨#[121, 101, 115]⟩]) (.int .i64 1)).run Tryz.prog wx = .ok (.string ⟨#[121, 101, 115]⟩) wx := by kernel_rfl

theorem rtextV_any (k n : Int) (t : ByteArray) (w : World) (h0 : -9223372036854775808 ≤ n) (h1 : n ≤ 9223372036854775807) (ht : t.size ≤ 1000000000000) :
    Calls Tryz.prog 51 #[.agg #[.int .i64 k, .int .i64 n, .string t]] w fun e w' => e = .returned (.string (textV k n t)) ∧ Grown w w' := by
  by_cases k1 : k = 1
  · subst k1
    have HR := Lib.hid (show itoaS n = textV 1 n t from rfl)
    go_enter Tryz.func51, Tryz.ntmps51
    go_wp2_with (go_at_call 76; ((with_reducible refine (number_any n _ h0 h1).mono ?_); rintro e w1 ⟨rfl, hg⟩))
    go_ret
    exact ⟨ret_str HR.out, grown_trans ((Grown.refl _).alloc _ _) (by assumption)⟩
  by_cases k2 : k = 2
  · subst k2
    have HR := Lib.hid (show ⟨#[39]⟩ ++ t = textV 2 n t from rfl)
    go_enter Tryz.func51, Tryz.ntmps51
    go_wp2_with fail
    go_ret
    exact ⟨ret_str HR.out, (Grown.refl _).alloc _ _⟩
  by_cases k3 : k = 3
  · subst k3
    have hand := i64_and1 n
    by_cases hn : n % 2 = 0
    · rw [hn] at hand
      have hix := idx_no
      have HR := Lib.hid (show noS = textV 3 n t by unfold textV; simp [hn])
      clear hn
      go_enter Tryz.func51, Tryz.ntmps51
      go_wp2_with fail
      go_ret
      exact ⟨ret_str HR.out, (Grown.refl _).alloc _ _⟩
    · have HR := Lib.hid (show yesS = textV 3 n t by unfold textV; simp [hn])
      have hn1 : n % 2 = 1 := by omega
      rw [hn1] at hand
      have hix := idx_yes
      clear hn hn1
      go_enter Tryz.func51, Tryz.ntmps51
      go_wp2_with fail
      go_ret
      exact ⟨ret_str HR.out, (Grown.refl _).alloc _ _⟩
  · have HR := Lib.hid (show ⟨#[45]⟩ = textV k n t by unfold textV; rw [if_neg k1, if_neg k2, if_neg k3])
    have d1 : (k == 1) = false := by simpa using k1
    have d2 : (k == 2) = false := by simpa using k2
    have d3 : (k == 3) = false := by simpa using k3
    go_enter Tryz.func51, Tryz.ntmps51
    go_wp2_with fail
    go_ret
    exact ⟨ret_str HR.out, (Grown.refl _).alloc _ _⟩
end Go.Proofs.YtjieofiaoepccaaGreatDoor

namespace Go.Proofs.YtjieofiaoepccaaGreatDoor
open Go.RowKit

/-- P5.8. -/
def textD (x : Int × Int) : ByteArray := itoaS x.1 ++ ⟨#[46]⟩ ++ itoaS x.2

theorem itoaS_size (n : Int) (h0 : -9223372036854775808 ≤ n) (h1 : n ≤ 9223372036854775807) : (itoaS n).size ≤ 21 := by
  have := Lib.itoa_length_le n h0 h1
  show (Lib.itoa n).toArray.size ≤ 21
  rw [List.size_toArray]
  omega
end Go.Proofs.YtjieofiaoepccaaGreatDoor

