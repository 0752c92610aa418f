/-
  What is proved: words for memory that layer 6's contracts use: a slice of ints that lies in memory ('Il'), append of such onto a row of the call's own, and what a world that has all that another one has keeps of it.
  the document's at, Has, Same and Most of layer 6, called with any sets that lie in memory, return what P6.2, P6.8 and P6.10 say; the world has new blocks at most.
  this program bears the library's slices.SortFunc at dots: its numbers here, laid for the library's contract.
  slices.SortFunc at dots, with dot.Cmp, over a row of the call's own: the row holds the same dots, rising or level; all else is kept.
-/
import Derived.Test.YtoggcpfogeoeaaaGreatDoorM12
import Derived.Test.YtoggcpfogeoeaaaGreatDoorM13
import Derived.Maps.AppendAt
import Derived.Shelf.SlSortCmp.NoneTotal
import Derived.Test.YtoggcpfogeoeaaaGreatDoorProg
import Derived.Test.YtoggcpfogeoeaaaGreatDoorM9
namespace Go.Proofs.YtoggcpfogeoeaaaGreatDoor
open Go.RowKit

def Il (w : World) (A : Option Addr) (n c : Nat) (V : List Int) : Prop :=
  n = V.length ∧ n ≤ c ∧ c ≤ maxLen ∧ (A = none → c = 0) ∧ (n = 0 ∨ ∃ b o, A = some ⟨b, o, none⟩ ∧ ∀ j x, V[j]? = some x → w.cell? ⟨b, o + j, none⟩ = some (.int .i64 x))
theorem Il.kept {w w' : World} {A : Option Addr} {n c : Nat} {V : List Int} (h : Il w A n c V) (hk : Kept w w') : Il w' A n c V :=
  ⟨h.1, h.2.1, h.2.2.1, h.2.2.2.1, h.2.2.2.2.imp id fun ⟨b, o, hA, hc⟩ => ⟨b, o, hA, fun j x hj => hk.cell (hc j x hj)⟩⟩
theorem Il.nil (w : World) : Il w none 0 0 [] := ⟨rfl, Nat.le_refl _, Nat.zero_le _, fun _ => rfl, .inl rfl⟩
theorem Il.cap {w : World} {A : Option Addr} {n c : Nat} {V : List Int} (h : Il w A n c V) : n ≤ c ∧ c ≤ 9223372036854775807 := ⟨h.2.1, h.2.2.1⟩
theorem Il.get {w : World} {A : Option Addr} {n c : Nat} {V : List Int} (h : Il w A n c V) {k : Nat} (hk : k < n) :
    ∃ b o x, A = some ⟨b, o, none⟩ ∧ V[k]? = some x ∧ w.cell? ⟨b, o + k, none⟩ = some (.int .i64 x) := by
  have hl : k < V.length := by rw [← h.1]; exact hk
  rcases h.2.2.2.2 with h0 | ⟨b, o, hA, hc⟩
  · omega
  · exact ⟨b, o, V[k], hA, List.getElem?_eq_getElem hl, hc k V[k] (List.getElem?_eq_getElem hl)⟩

/-- The cells of ints. -/
def intsV (V : List Int) : List Value := V.map fun x => .int .i64 x
theorem intsV_app (V W : List Int) : intsV (V ++ W) = intsV V ++ intsV W := List.map_append
theorem intsV_len (V : List Int) : (intsV V).length = V.length := List.length_map ..
theorem intsV_one (V : List Int) : ∀ u ∈ intsV V, u.oneCell' = true := by
  intro u hu
  obtain ⟨x, _, rfl⟩ := List.mem_map.1 hu
  rfl
theorem intsV_get {V : List Int} {j : Nat} {x : Int} (h : V[j]? = some x) : (intsV V)[j]? = some (.int .i64 x) := by
  unfold intsV; rw [List.getElem?_map, h]; rfl
theorem Il.of_own {w : World} {base n : Nat} {e : TypeId} {v : Value} {V : List Int} (h : w.ownsRow base e 1 v n (intsV V)) : ∃ A c, v = .slice A n c ∧ Il w A n c V := by
  have hl : n = V.length := by have := h.1; rw [intsV_len] at this; omega
  have hc := fun g (hg : v.ownBlock = some g) => h.cells (g := g) hg
  rcases h.2 with ⟨rfl, h0⟩ | ⟨g, cap, cur, rfl, hb, hg, h1, h2, _⟩
  · subst h0
    exact ⟨none, 0, rfl, hl, Nat.le_refl _, Nat.zero_le _, fun _ => rfl, .inl rfl⟩
  · refine ⟨some ⟨g, 0, none⟩, cap, rfl, hl, h1, h2, fun h => by simp at h, .inr ⟨g, 0, rfl, fun j x hj => ?_⟩⟩
    have := hc g rfl _ _ (intsV_get hj)
    rwa [Addr.add_lit] at this
theorem infoI : (Tryz.prog.info? 3).map (fun i => (i.zero, i.size, i.bytes)) = some (some (.int .i64 0), 1, 8) := by kernel_rfl
theorem app_ints (w : World) (base : Nat) (v : Value) (n : Nat) (xs : List Value) (h : w.ownsRow base 3 1 v n xs) (A : Option Addr) (m c : Nat) (V : List Int) (hs : Il w A m c V) (hb : n + m ≤ 8000000000000) (hbase : base ≤ w.heap.size) :
    ∃ v' w', (Builtin.append_ #[25, 25] 25 #[v, .slice A m c]).run Tryz.prog w = .ok v' w' ∧ w'.ownsRow base 3 1 v' (n + m) (xs ++ intsV V) ∧ w.grownBy w' v.ownBlock ∧ (v'.ownBlock = v.ownBlock ∨ v'.ownBlock = some w.heap.size) := by
  obtain ⟨i0, hi0, hz0, hz1, hz2⟩ := info_parts infoI
  cases A with
  | none =>
    obtain rfl := hs.2.2.2.1 rfl
    obtain rfl : m = 0 := by have := hs.2.1; omega
    have hV : V = [] := List.eq_nil_of_length_eq_zero hs.1.symm
    subst hV
    exact ⟨v, w, run_append_owned_none w base _ _ _ i0 1 Tryz.underlying25 hi0 v n xs h, by simpa [intsV] using h, World.grownBy.refl w _, .inl rfl⟩
  | some ad =>
    obtain ⟨v', w', hr, ho, hg, _, hat⟩ := run_append_own_at (P := Tryz.prog) w base 25 25 3 i0 (.int .i64 0) 1 8 Tryz.underlying25 hi0 hz0 hz1 hz2 rfl (by decide) v n xs h ad m c (intsV V)
      (by rw [intsV_len, hs.1, Nat.mul_one]) (fun j u hj => by
        unfold intsV at hj
        rw [List.getElem?_map] at hj
        obtain ⟨x, hx, rfl⟩ := Option.map_eq_some_iff.1 hj
        have hkl := (List.getElem?_eq_some_iff.1 hx).1
        obtain ⟨b, o, y, hA, hy, c1⟩ := hs.get (k := j) (by rw [hs.1]; exact hkl)
        obtain rfl : y = x := Option.some.inj (hy.symm.trans hx)
        obtain rfl := Option.some.inj hA
        rw [Addr.add_lit]
        exact c1) (intsV_one _) (by simp only [maxLen]; omega) (by omega) hbase
    exact ⟨v', w', hr, ho, hg, hat⟩
theorem il_head {w : World} {A : Option Addr} {n c k : Nat} {V : List Int} (h : Il w A n c V) (hk : k ≤ n) : Il w A k c (V.take k) := by
  obtain ⟨h1, h2, h3, h4, h5⟩ := h
  refine ⟨by rw [List.length_take]; omega, by omega, h3, h4, ?_⟩
  rcases h5 with h0 | ⟨b, o, hA, hc⟩
  · exact .inl (by omega)
  · refine .inr ⟨b, o, hA, fun j x hj => hc j x ?_⟩
    rw [List.getElem?_take] at hj
    split at hj
    · exact hj
    · cases hj
theorem sizeI (W : World) : (Go.sizeOf (Tryz.prog.elem 25)).run Tryz.prog W = .ok 1 W := by kernel_rfl
theorem run_ihead (A : Option Addr) (n c k : Nat) (hk : k ≤ c) (W : World) :
    (Instr.slice 25 (.slice A n c) none (some (.int .i64 (k : Int))) none).run Tryz.prog W = .ok (.slice A k c) W := by
  rw [run_slice_h W 25 _ n c (by kernel_rfl) .i64 (k : Int) (by omega) (by omega), sizeI]
  cases A <;> simp [Result.andThen, sliced, Addr.add]
theorem run_ihead2 (A : Option Addr) (n c k : Nat) (hk : k ≤ c) (W : World) :
    (Instr.sliceAt 25 (.slice A n c) none (some (.int .i64 (k : Int))) none).run Tryz.prog W = .ok (.slice A k c) W := by
  rw [run_sliceAt_slice W _ _ _ _ _ (by kernel_rfl)]; exact run_ihead A n c k hk W
end Go.Proofs.YtoggcpfogeoeaaaGreatDoor

namespace Go.Proofs.YtoggcpfogeoeaaaGreatDoor
open Go.RowKit

def hasB (V : List Int) (C : List (Int × Int)) (d : Int × Int) : Bool := decide (hasC V C d)
end Go.Proofs.YtoggcpfogeoeaaaGreatDoor

namespace Go.Proofs
open Go.Shelf
def Tryz.sortDots_ren : Go.Shelf.Ren := ⟨fun | 6 => 55 | 15 => 79 | 14 => 78 | 28 => 103 | 29 => 104 | 20 => 95 | 21 => 96 | 22 => 97 | 23 => 98 | 24 => 99 | 25 => 100 | 26 => 101 | 27 => 102 | 46 => 111 | 47 => 112 | 48 => 113 | 49 => 114 | 50 => 115 | 57 => 118 | n => n, fun | 22 => 23 | 24 => 31 | 25 => 66 | 3 => 3 | 39 => 96 | 0 => 0 | 53 => 156 | 55 => 82 | 4 => 4 | 46 => 150 | 45 => 149 | 50 => 56 | 5 => 5 | 9 => 9 | 66 => 162 | 70 => 166 | 76 => 169 | 77 => 170 | n => n, fun | n => n⟩
theorem Tryz.sortDots : Go.Proofs.SlLaysF0.n6 Tryz.prog Tryz.sortDots_ren := {
  mixed := by kernel_rfl
  f6 := ⟨Tryz.f55.name, by decide, Tryz.func55.trans (congrArg some (by kernel_rfl))⟩
  f14 := ⟨Tryz.f78.name, by decide, Tryz.func78.trans (congrArg some (by kernel_rfl))⟩
  f15 := Tryz.func79.trans (congrArg some (by kernel_rfl))
  f20 := ⟨Tryz.f95.name, by decide, Tryz.func95.trans (congrArg some (by kernel_rfl))⟩
  f21 := ⟨Tryz.f96.name, by decide, Tryz.func96.trans (congrArg some (by kernel_rfl))⟩
  f22 := ⟨Tryz.f97.name, by decide, Tryz.func97.trans (congrArg some (by kernel_rfl))⟩
  f23 := ⟨Tryz.f98.name, by decide, Tryz.func98.trans (congrArg some (by kernel_rfl))⟩
  f24 := ⟨Tryz.f99.name, by decide, Tryz.func99.trans (congrArg some (by kernel_rfl))⟩
  f25 := ⟨Tryz.f100.name, by decide, Tryz.func100.trans (congrArg some (by kernel_rfl))⟩
  f26 := ⟨Tryz.f101.name, by decide, Tryz.func101.trans (congrArg some (by kernel_rfl))⟩
  f27 := ⟨Tryz.f102.name, by decide, Tryz.func102.trans (congrArg some (by kernel_rfl))⟩
  f28 := Tryz.func103.trans (congrArg some (by kernel_rfl))
  f29 := Tryz.func104.trans (congrArg some (by kernel_rfl))
  f46 := ⟨Tryz.f111.name, by decide, Tryz.func111.trans (congrArg some (by kernel_rfl))⟩
  f47 := Tryz.func112.trans (congrArg some (by kernel_rfl))
  f48 := Tryz.func113.trans (congrArg some (by kernel_rfl))
  f49 := ⟨Tryz.f114.name, by decide, Tryz.func114.trans (congrArg some (by kernel_rfl))⟩
  f50 := ⟨Tryz.f115.name, by decide, Tryz.func115.trans (congrArg some (by kernel_rfl))⟩
  f57 := ⟨Tryz.f118.name, by decide, Tryz.func118.trans (congrArg some (by kernel_rfl))⟩
  t0 := Tryz.underlying0
  a0 := Tryz.isAgg0
  z0 := Tryz.sizeOf0
  v0 := Tryz.zeroValue0
  t3 := Tryz.underlying3
  a3 := Tryz.isAgg3
  z3 := Tryz.sizeOf3
  v3 := Tryz.zeroValue3
  t4 := Tryz.underlying4
  a4 := Tryz.isAgg4
  z4 := Tryz.sizeOf4
  v4 := Tryz.zeroValue4
  t5 := Tryz.underlying5
  a5 := Tryz.isAgg5
  z5 := Tryz.sizeOf5
  v5 := Tryz.zeroValue5
  t9 := Tryz.underlying9
  a9 := Tryz.isAgg9
  z9 := Tryz.sizeOf9
  v9 := Tryz.zeroValue9
  t22 := Tryz.underlying23
  a22 := Tryz.isAgg23
  z22 := Tryz.sizeOf23
  v22 := Tryz.zeroValue23
  t25 := Tryz.underlying66
  a25 := Tryz.isAgg66
  z25 := Tryz.sizeOf66
  v25 := Tryz.zeroValue66
  t39 := Tryz.underlying96
  a39 := Tryz.isAgg96
  z39 := Tryz.sizeOf96
  v39 := Tryz.zeroValue96
  t45 := Tryz.underlying149
  a45 := Tryz.isAgg149
  z45 := Tryz.sizeOf149
  v45 := Tryz.zeroValue149
  t46 := Tryz.underlying150
  a46 := Tryz.isAgg150
  z46 := Tryz.sizeOf150
  v46 := Tryz.zeroValue150
  t50 := Tryz.underlying56
  a50 := Tryz.isAgg56
  z50 := Tryz.sizeOf56
  v50 := Tryz.zeroValue56
  t53 := Tryz.underlying156
  a53 := Tryz.isAgg156
  z53 := Tryz.sizeOf156
  v53 := Tryz.zeroValue156
  t55 := Tryz.underlying82
  a55 := Tryz.isAgg82
  z55 := Tryz.sizeOf82
  v55 := Tryz.zeroValue82
  t66 := Tryz.underlying162
  a66 := Tryz.isAgg162
  z66 := Tryz.sizeOf162
  v66 := Tryz.zeroValue162
  t70 := Tryz.underlying166
  a70 := Tryz.isAgg166
  z70 := Tryz.sizeOf166
  v70 := Tryz.zeroValue166
  t76 := Tryz.underlying169
  a76 := Tryz.isAgg169
  z76 := Tryz.sizeOf169
  v76 := Tryz.zeroValue169
  t77 := Tryz.underlying170
  a77 := Tryz.isAgg170
  z77 := Tryz.sizeOf170
  v77 := Tryz.zeroValue170 }
end Go.Proofs

namespace Go.Proofs.YtoggcpfogeoeaaaGreatDoor
open Go.RowKit Go.Shelf Go.Sort

def encD (x : Int × Int) : List Value := [.int .i64 x.1, .int .i64 x.2]
/-- A row of dots that may be written. -/
def Own (w : World) (g : Nat) (d : Array (Int × Int)) : Prop :=
  ∀ j, j < d.size → w.cell? ⟨g, j * 2, none⟩ = some (.int .i64 d[j]!.1) ∧ w.cell? ⟨g, j * 2 + 1, none⟩ = some (.int .i64 d[j]!.2) ∧ w.frozen? ⟨g, j * 2, none⟩ = false ∧ w.frozen? ⟨g, j * 2 + 1, none⟩ = false
theorem Own.holdsK {w : World} {g : Nat} {d : Array (Int × Int)} (h : Own w g d) : HoldsK encD 2 w g 0 d := by
  intro j hj
  rw [size_flatK] at hj
  have hk := h (j / 2) (by omega)
  rw [Nat.zero_add, get_flatK encD 2 d j hj]
  rcases Nat.mod_two_eq_zero_or_one j with e | e
  · rw [e, show j = j / 2 * 2 by omega, show j / 2 * 2 / 2 = j / 2 by omega]
    exact ⟨hk.1, hk.2.2.1⟩
  · rw [e, show j = j / 2 * 2 + 1 by omega, show (j / 2 * 2 + 1) / 2 = j / 2 by omega]
    exact ⟨hk.2.1, hk.2.2.2⟩
theorem Own.of_holdsK {w : World} {g : Nat} {d : Array (Int × Int)} (h : HoldsK encD 2 w g 0 d) : Own w g d := by
  intro j hj
  have h0 := h (j * 2) (by rw [size_flatK]; omega)
  have h1 := h (j * 2 + 1) (by rw [size_flatK]; omega)
  rw [Nat.zero_add, get_flatK encD 2 d _ (by omega), show j * 2 / 2 = j by omega, show j * 2 % 2 = 0 by omega] at h0
  rw [Nat.zero_add, get_flatK encD 2 d _ (by omega), show (j * 2 + 1) / 2 = j by omega, show (j * 2 + 1) % 2 = 1 by omega] at h1
  exact ⟨h0.1, h1.1, h0.2, h1.2⟩
theorem toArr_get {L : List (Int × Int)} {j : Nat} {x : Int × Int} (h : L[j]? = some x) : L.toArray[j]! = x := by
  have hl := (List.getElem?_eq_some_iff.1 h).1
  rw [getElem!_pos _ j (by simpa using hl)]
  simpa using (List.getElem?_eq_some_iff.1 h).2
theorem Own.of_owns {w : World} {base g n cap : Nat} {e : TypeId} {L : List (Int × Int)} (h : w.ownsRow base e 2 (.slice (some ⟨g, 0, none⟩) n cap) n (flatD L)) : Own w g L.toArray := by
  intro j hj
  have hj' : j < L.length := by simpa using hj
  have hx := flatD_get L j L[j] (List.getElem?_eq_getElem hj')
  have hc := fun i u => h.cells (g := g) rfl i u
  have c0 := hc _ _ hx.1
  have c1 := hc _ _ hx.2
  rw [Addr.add_lit, Nat.zero_add] at c0 c1
  rw [toArr_get (List.getElem?_eq_getElem hj')]
  exact ⟨c0, c1, h.frozenAt _, h.frozenAt _⟩
theorem Own.lt {w : World} {g : Nat} {d : Array (Int × Int)} (h : Own w g d) (hd : 0 < d.size) : g < w.heap.size := World.block_lt_of_cell? w _ (h 0 hd).1

theorem kept_sortWorld {W w : World} {g m : Nat} {d : Array (Int × Int)} {os : Array Obj} (h : Kept W w) (hW : W.heap.size ≤ g) : Kept W (sortWorldK encD 2 w g 0 m d os) := by
  obtain ⟨⟨h1, h2, h3⟩, hf, hs⟩ := h
  have hb : ∀ i, i < W.heap.size → (sortWorldK encD 2 w g 0 m d os).heap[i]? = w.heap[i]? := fun i hi => by
    unfold sortWorldK
    rw [heap_grow_old _ _ (by simp [putRowK]; omega)]
    show (w.heap.modify g _)[i]? = _
    rw [Array.getElem?_modify, if_neg (by omega)]
  refine ⟨⟨h1, h2, fun i hi => ?_⟩, fun a ha => ?_, ?_⟩
  · rw [hb i hi]; exact h3 i hi
  · rw [← hf a ha]
    exact World.frozen?_of_block (w := w) (hb a.block ha)
  · unfold sortWorldK
    rw [size_grow]
    simp [putRowK]; omega
theorem own_sortWorld {w : World} {g m : Nat} {d d' : Array (Int × Int)} {os : Array Obj} (h : Own w g d) (hd : 0 < d.size) (hs : d'.size = d.size) : Own (sortWorldK encD 2 w g 0 m d' os) g d' := by
  have hg := h.lt hd
  refine Own.of_holdsK ?_
  unfold sortWorldK
  exact holdsK_grow encD 2 _ os g 0 d' (by simp [putRowK]; omega) (holdsK_putRowK encD 2 (Sort.ahead w m) g 0 d d' h.holdsK hs)

theorem ltOfD (x y : Int × Int) : ltOf cmpD x y = true ↔ LtD x y := by unfold ltOf; rw [decide_eq_true_iff, cmpD_lt]
theorem ltOfD_no (x y : Int × Int) : ltOf cmpD x y = false ↔ ¬ LtD x y := by unfold ltOf; rw [decide_eq_false_iff_not, cmpD_lt]
theorem swoD : SWO (ltOf cmpD) where
  irrefl x := (ltOfD_no x x).2 (LtD.irrefl x)
  trans x y z h1 h2 := (ltOfD x z).2 (((ltOfD x y).1 h1).trans ((ltOfD y z).1 h2))
  ntrans x y z h1 h2 := by rw [ltOfD_no] at *; unfold LtD at *; omega
theorem cmpLaysD (g n : Nat) (w : World) : CmpLays Tryz.prog 32 #[] encD 2 cmpD g 0 n w :=
  fun _ _ _ _ x y => dcmp_any x.1 x.2 y.1 y.2 _

/-- slices.SortFunc(row, dot.Cmp). -/
theorem sortF_any (g cap : Nat) (d : Array (Int × Int)) (w W : World) (h : Own w g d) (hd : 0 < d.size) (hn : d.size ≤ 1000000) (hK : Kept W w) (hW : W.heap.size ≤ g) :
    Calls Tryz.prog 55 #[.slice (some ⟨g, 0, none⟩) d.size cap, .func (.func 32) #[] #[]] w fun e w' => e = .returned (.tuple #[]) ∧
      ∃ d', d'.size = d.size ∧ d'.toList.Perm d.toList ∧ (∀ i j, i < j → j < d'.size → ¬ LtD d'[j]! d'[i]!) ∧ Own w' g d' ∧ Kept W w' := by
  have eg : ∀ args w, (callFunc 32 args).run Tryz.prog w = .ok (.enter 32 args) w := enters_of Tryz.func32 (by kernel_rfl) rfl
  have hcon := AnyQ.slices_SortFunc Tryz.sortDots 2 Tryz.isAgg31 Tryz.sizeOf31 encD (fun _ => rfl) (fun x v hv => by simp [encD] at hv; rcases hv with rfl | rfl <;> rfl) cmpD swoD 32 #[] g 0 cap d w eg (cmpLaysD g d.size w) h.holdsK (h.lt hd) (by omega)
  refine hcon.mono fun e w' ⟨he, d', m, os, hp, hs, hw⟩ => ⟨he, d', hp.1, ?_, fun i j hij hj => ?_, ?_, ?_⟩
  · have := hp.2.2
    rw [Array.extract_eq_self_of_le (by rw [hp.1]; exact Nat.le_refl _), Array.extract_eq_self_of_le (Nat.le_refl _)] at this
    exact this
  · exact (ltOfD_no _ _).1 (hs i j (Nat.zero_le _) hij (by rw [← hp.1]; exact hj))
  · rw [hw]; exact own_sortWorld h hd hp.1
  · rw [hw]; exact kept_sortWorld hK hW
theorem sortF_none (A : Option Addr) (cap : Nat) (w : World) :
    Calls Tryz.prog 55 #[.slice A 0 cap, .func (.func 32) #[] #[]] w fun e w' => e = .returned (.tuple #[]) ∧ w' = w :=
  AnyF.slices_SortFunc_none Tryz.sortDots A cap _ w
end Go.Proofs.YtoggcpfogeoeaaaGreatDoor

