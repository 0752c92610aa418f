/-
  What is proved: words for memory that layer 6's contracts use: a slice of ints that lies in memory ('Il'), append of such onto a row of the call's own, and what a world that has all that another one has keeps of it.
  the document's at, Has, Same and Most of layer 6, called with any sets that lie in memory, return what P6.2, P6.8 and P6.10 say; the world has new blocks at most.
  this program bears the library's slices.SortFunc at dots: its numbers here, laid for the library's contract.
  slices.SortFunc at dots, with dot.Cmp, over a row of the call's own: the row holds the same dots, rising or level; all else is kept.
-/
import Derived.Test.YtcldbmhjfmbcfaaM8
import Derived.Test.YtcldbmhjfmbcfaaM9
import Derived.Maps.AppendAt
import Derived.Shelf.SlSortCmp.NoneTotal
import Derived.Test.YtcldbmhjfmbcfaaProg
import Derived.Test.YtcldbmhjfmbcfaaM7
namespace Go.Proofs.Ytcldbmhjfmbcfaa
open Go.RowKit

def Il (w : World) (A : Option Addr) (n c : Nat) (V : List Int) : Prop :=
  n = V.length ∧ n ≤ c ∧ c ≤ maxLen ∧ (A = none → c = 0) ∧ (n = 0 ∨ ∃ b o, A = some ⟨b, o, none⟩ ∧ ∀ j x, V[j]? = some x → w.cell? ⟨b, o + j, none⟩ = some (.int .i64 x))
theorem Il.kept {w w' : World} {A : Option Addr} {n c : Nat} {V : List Int} (h : Il w A n c V) (hk : Kept w w') : Il w' A n c V :=
  ⟨h.1, h.2.1, h.2.2.1, h.2.2.2.1, h.2.2.2.2.imp id fun ⟨b, o, hA, hc⟩ => ⟨b, o, hA, fun j x hj => hk.cell (hc j x hj)⟩⟩
theorem Il.nil (w : World) : Il w none 0 0 [] := ⟨rfl, Nat.le_refl _, Nat.zero_le _, fun _ => rfl, .inl rfl⟩
theorem Il.cap {w : World} {A : Option Addr} {n c : Nat} {V : List Int} (h : Il w A n c V) : n ≤ c ∧ c ≤ 9223372036854775807 := ⟨h.2.1, h.2.2.1⟩
theorem Il.get {w : World} {A : Option Addr} {n c : Nat} {V : List Int} (h : Il w A n c V) {k : Nat} (hk : k < n) :
    ∃ b o x, A = some ⟨b, o, none⟩ ∧ V[k]? = some x ∧ w.cell? ⟨b, o + k, none⟩ = some (.int .i64 x) := by
  have hl : k < V.length := by rw [← h.1]; exact hk
  rcases h.2.2.2.2 with h0 | ⟨b, o, hA, hc⟩
  · omega
  · exact ⟨b, o, V[k], hA, List.getElem?_eq_getElem hl, hc k V[k] (List.getElem?_eq_getElem hl)⟩

/-- The cells of ints. -/
def intsV (V : List Int) : List Value := V.map fun x => .int .i64 x
theorem intsV_app (V W : List Int) : intsV (V ++ W) = intsV V ++ intsV W := List.map_append
theorem intsV_len (V : List Int) : (intsV V).length = V.length := List.length_map ..
theorem intsV_one (V : List Int) : ∀ u ∈ intsV V, u.oneCell' = true := by
  intro u hu
  obtain ⟨x, _, rfl⟩ := List.mem_map.1 hu
  rfl
theorem intsV_get {V : List Int} {j : Nat} {x : Int} (h : V[j]? = some x) : (intsV V)[j]? = some (.int .i64 x) := by
  unfold intsV; rw [List.getElem?_map, h]; rfl
theorem Il.of_own {w : World} {base n : Nat} {e : TypeId} {v : Value} {V : List Int} (h : w.ownsRow base e 1 v n (intsV V)) : ∃ A c, v = .slice A n c ∧ Il w A n c V := by
  have hl : n = V.length := by have := h.1; rw [intsV_len] at this; omega
  have hc := fun g (hg : v.ownBlock = some g) => h.cells (g := g) hg
  rcases h.2 with ⟨rfl, h0⟩ | ⟨g, cap, cur, rfl, hb, hg, h1, h2, _⟩
  · subst h0
    exact ⟨none, 0, rfl, hl, Nat.le_refl _, Nat.zero_le _, fun _ => rfl, .inl rfl⟩
  · refine ⟨some ⟨g, 0, none⟩, cap, rfl, hl, h1, h2, fun h => by simp at h, .inr ⟨g, 0, rfl, fun j x hj => ?_⟩⟩
    have := hc g rfl _ _ (intsV_get hj)
    rwa [Addr.add_lit] at this
theorem infoI : (Try.prog.info? 3).map (fun i => (i.zero, i.size, i.bytes)) = some (some (.int .i64 0), 1, 8) := by kernel_rfl
theorem app_ints (w : World) (base : Nat) (v : Value) (n : Nat) (xs : List Value) (h : w.ownsRow base 3 1 v n xs) (A : Option Addr) (m c : Nat) (V : List Int) (hs : Il w A m c V) (hb : n + m ≤ 8000000000000) (hbase : base ≤ w.heap.size) :
    ∃ v' w', (Builtin.append_ #[23, 23] 23 #[v, .slice A m c]).run Try.prog w = .ok v' w' ∧ w'.ownsRow base 3 1 v' (n + m) (xs ++ intsV V) ∧ w.grownBy w' v.ownBlock ∧ (v'.ownBlock = v.ownBlock ∨ v'.ownBlock = some w.heap.size) := by
  obtain ⟨i0, hi0, hz0, hz1, hz2⟩ := info_parts infoI
  cases A with
  | none =>
    obtain rfl := hs.2.2.2.1 rfl
    obtain rfl : m = 0 := by have := hs.2.1; omega
    have hV : V = [] := List.eq_nil_of_length_eq_zero hs.1.symm
    subst hV
    exact ⟨v, w, run_append_owned_none w base _ _ _ i0 1 Try.underlying23 hi0 v n xs h, by simpa [intsV] using h, World.grownBy.refl w _, .inl rfl⟩
  | some ad =>
    obtain ⟨v', w', hr, ho, hg, _, hat⟩ := run_append_own_at (P := Try.prog) w base 23 23 3 i0 (.int .i64 0) 1 8 Try.underlying23 hi0 hz0 hz1 hz2 rfl (by decide) v n xs h ad m c (intsV V)
      (by rw [intsV_len, hs.1, Nat.mul_one]) (fun j u hj => by
        unfold intsV at hj
        rw [List.getElem?_map] at hj
        obtain ⟨x, hx, rfl⟩ := Option.map_eq_some_iff.1 hj
        have hkl := (List.getElem?_eq_some_iff.1 hx).1
        obtain ⟨b, o, y, hA, hy, c1⟩ := hs.get (k := j) (by rw [hs.1]; exact hkl)
        obtain rfl : y = x := Option.some.inj (hy.symm.trans hx)
        obtain rfl := Option.some.inj hA
        rw [Addr.add_lit]
        exact c1) (intsV_one _) (by simp only [maxLen]; omega) (by omega) hbase
    exact ⟨v', w', hr, ho, hg, hat⟩
theorem il_head {w : World} {A : Option Addr} {n c k : Nat} {V : List Int} (h : Il w A n c V) (hk : k ≤ n) : Il w A k c (V.take k) := by
  obtain ⟨h1, h2, h3, h4, h5⟩ := h
  refine ⟨by rw [List.length_take]; omega, by omega, h3, h4, ?_⟩
  rcases h5 with h0 | ⟨b, o, hA, hc⟩
  · exact .inl (by omega)
  · refine .inr ⟨b, o, hA, fun j x hj => hc j x ?_⟩
    rw [List.getElem?_take] at hj
    split at hj
    · exact hj
    · cases hj
theorem sizeI (W : World) : (Go.sizeOf (Try.prog.elem 23)).run Try.prog W = .ok 1 W := by kernel_rfl
theorem run_ihead (A : Option Addr) (n c k : Nat) (hk : k ≤ c) (W : World) :
    (Instr.slice 23 (.slice A n c) none (some (.int .i64 (k : Int))) none).run Try.prog W = .ok (.slice A k c) W := by
  rw [run_slice_h W 23 _ n c (by kernel_rfl) .i64 (k : Int) (by omega) (by omega), sizeI]
  cases A <;> simp [Result.andThen, sliced, Addr.add]
theorem run_ihead2 (A : Option Addr) (n c k : Nat) (hk : k ≤ c) (W : World) :
    (Instr.sliceAt 23 (.slice A n c) none (some (.int .i64 (k : Int))) none).run Try.prog W = .ok (.slice A k c) W := by
  rw [run_sliceAt_slice W _ _ _ _ _ (by kernel_rfl)]; exact run_ihead A n c k hk W
end Go.Proofs.Ytcldbmhjfmbcfaa

namespace Go.Proofs.Ytcldbmhjfmbcfaa
open Go.RowKit

set_option maxRecDepth 100000 in
theorem at_any (A : Option Addr) (n c : Nat) (V : List Int) (B : Option Addr) (m k : Nat) (r : Int) (w : World) (h : Il w A n c V) :
    Calls Try.prog 42 #[.agg #[.slice A n c, .slice B m k], .int .i64 r] w fun e w' => e = .returned (.int .i64 (atV V r)) ∧ Kept w w' := by
  have hcap := h.cap.1
  have hcap2 := h.cap.2
  rcases Int.lt_or_le r 0 with h0 | h0
  · have HR := Lib.hid (show 0 = atV V r from (atV_neg V h0).symm)
    clear h
    have d1 : decide (r < 0) = true := by simpa using h0
    go_enter Try.func42, Try.ntmps42
    go_wp2
    go_ret
    exact ⟨ret_int HR.out, (Kept.refl _).alloc _ _⟩
  · obtain ⟨j, rfl⟩ : ∃ j : Nat, r = j := ⟨r.toNat, by omega⟩
    have d1 : decide ((j : Int) < 0) = false := by rw [decide_eq_false_iff_not]; omega
    by_cases hj : j < n
    · obtain ⟨b, o, x, rfl, hx, g⟩ := (h.kept ((Kept.refl w).alloc #[.slice A n c, .slice B m k] 26)).get hj
      have HR := Lib.hid (show x = atV V j from (atV_in hx).symm)
      have d2 : decide ((n : Int) ≤ (j : Int)) = false := by rw [decide_eq_false_iff_not]; omega
      have d3 : decide (n ≤ j) = false := by rw [decide_eq_false_iff_not]; omega
      clear h hx h0
      go_enter Try.func42, Try.ntmps42
      go_wp2
      go_ret
      exact ⟨ret_int HR.out, (Kept.refl _).alloc _ _⟩
    · have HR := Lib.hid (show 0 = atV V j from (atV_out V (by have := h.1; omega)).symm)
      have d2 : decide ((n : Int) ≤ (j : Int)) = true := by rw [decide_eq_true_iff]; omega
      have d3 : decide (n ≤ j) = true := by rw [decide_eq_true_iff]; omega
      clear h h0
      go_enter Try.func42, Try.ntmps42
      go_wp2
      go_ret
      exact ⟨ret_int HR.out, (Kept.refl _).alloc _ _⟩
theorem at_c (A : Option Addr) (n c : Nat) (V : List Int) (B : Option Addr) (m k : Nat) (r x : Int) (hx : atV V r = x) (w : World) (h : Il w A n c V) :
    Calls Try.prog 42 #[.agg #[.slice A n c, .slice B m k], .int .i64 r] w fun e w' => e = .returned (.int .i64 x) ∧ Kept w w' := by
  subst hx; exact at_any A n c V B m k r w h

def hasB (V : List Int) (C : List (Int × Int)) (d : Int × Int) : Bool := decide (hasC V C d)
set_option maxRecDepth 100000 in
set_option maxHeartbeats 1000000 in
theorem rhasC_any (A : Option Addr) (n c : Nat) (V : List Int) (B : Option Addr) (m k : Nat) (C : List (Int × Int)) (x1 x2 : Int) (w : World) (h : Il w A n c V) (hd : Dl w B m k C) (r : Bool) (hr : decide (hasC V C (x1, x2)) = r) :
    Calls Try.prog 38 #[.agg #[.slice A n c, .slice B m k], .agg #[.int .i64 x1, .int .i64 x2]] w fun e w' => e = .returned (.bool r) ∧ Kept w w' := by
  have hK := ((Kept.refl w).alloc #[.slice A n c, .slice B m k] 26).alloc #[.int .i64 x1, .int .i64 x2] 42
  have c0 := KExt.cell (((Kept.refl (w.alloc (.cells #[.slice A n c, .slice B m k] 26))).alloc #[.int .i64 x1, .int .i64 x2] 42).box0)
  have c1 := KExt.cell (((Kept.refl (w.alloc (.cells #[.slice A n c, .slice B m k] 26))).alloc #[.int .i64 x1, .int .i64 x2] 42).box1)
  have c2 := KExt.cell (Kept.box0 (Kept.refl ((w.alloc (.cells #[.slice A n c, .slice B m k] 26)).alloc (.cells #[.int .i64 x1, .int .i64 x2] 42))))
  have c3 := KExt.cell (Kept.box1 (Kept.refl ((w.alloc (.cells #[.slice A n c, .slice B m k] 26)).alloc (.cells #[.int .i64 x1, .int .i64 x2] 42))))
  rw [show (w.alloc (.cells #[.slice A n c, .slice B m k] 26)).heap.size = w.heap.size + 1 by simp] at c2 c3
  obtain ⟨t, ht⟩ : ∃ t, atV V x1 = t := ⟨_, rfl⟩
  obtain ⟨z, hz⟩ : ∃ z, decide ((x1, x2) ∈ C) = z := ⟨_, rfl⟩
  have AA := Lib.hid (fun w h => at_c A n c V B m k x1 t ht w h)
  have AH := Lib.hid (fun w h => rhas_c B m k C (x1, x2) z hz w h)
  have HI := Lib.hid (h.kept hK)
  have HD := Lib.hid (hd.kept hK)
  have HK := Lib.hid hK
  have hrr : r = ((decide (1 ≤ x2) && decide (x2 ≤ t)) || z) := by
    rw [← hr, ← ht, ← hz, Bool.eq_iff_iff, decide_eq_true_iff]
    unfold hasC
    simp only [Bool.or_eq_true, Bool.and_eq_true, decide_eq_true_iff]
  clear h hd hK ht hz hr
  by_cases h1 : 1 ≤ x2
  · have d1 : decide (1 ≤ x2) = true := by simpa using h1
    by_cases h2 : x2 ≤ t
    · have d2 : decide (x2 ≤ t) = true := by simpa using h2
      have HR := Lib.hid (show true = r by rw [hrr, d1, d2]; rfl)
      clear hrr h1 h2
      go_enter Try.func38, Try.ntmps38
      go_wp2_with fail
      refine region_kept _ (by kernel_rfl) (by kernel_rfl) (Kept.refl _) ?_
      repeat (go_big_quiet_step ((first
        | (go_at_call 42; (with_reducible exact KExt.callsK (AA.out _ (HI.out.kept (KExt.g _)))))
        | (go_at_call 60; (with_reducible exact KExt.callsK (AH.out _ (HD.out.kept (KExt.g _)))))
        | fail)))
      refine wpQuiet_nil ?_
      intro G
      go_wp2_with fail
      go_ret
      exact ⟨ret_bool HR.out, HK.out.trans G.g⟩
    · have d2 : decide (x2 ≤ t) = false := by simpa using h2
      have HR := Lib.hid (show z = r by rw [hrr, d1, d2]; rfl)
      clear hrr h1 h2
      go_enter Try.func38, Try.ntmps38
      go_wp2_with fail
      refine region_kept _ (by kernel_rfl) (by kernel_rfl) (Kept.refl _) ?_
      repeat (go_big_quiet_step ((first
        | (go_at_call 42; (with_reducible exact KExt.callsK (AA.out _ (HI.out.kept (KExt.g _)))))
        | (go_at_call 60; (with_reducible exact KExt.callsK (AH.out _ (HD.out.kept (KExt.g _)))))
        | fail)))
      refine wpQuiet_nil ?_
      intro G
      go_wp2_with fail
      go_ret
      exact ⟨ret_bool HR.out, HK.out.trans G.g⟩
  · have d1 : decide (1 ≤ x2) = false := by simpa using h1
    have HR := Lib.hid (show z = r by rw [hrr, d1]; rfl)
    clear hrr h1
    go_enter Try.func38, Try.ntmps38
    go_wp2_with fail
    refine region_kept _ (by kernel_rfl) (by kernel_rfl) (Kept.refl _) ?_
    repeat (go_big_quiet_step ((first
      | (go_at_call 42; (with_reducible exact KExt.callsK (AA.out _ (HI.out.kept (KExt.g _)))))
      | (go_at_call 60; (with_reducible exact KExt.callsK (AH.out _ (HD.out.kept (KExt.g _)))))
      | fail)))
    refine wpQuiet_nil ?_
    intro G
    go_wp2_with fail
    go_ret
    exact ⟨ret_bool HR.out, HK.out.trans G.g⟩
end Go.Proofs.Ytcldbmhjfmbcfaa

namespace Go.Proofs
open Go.Shelf
def Try.sortDots_ren : Go.Shelf.Ren := ⟨fun | 6 => 67 | 15 => 83 | 14 => 82 | 28 => 95 | 29 => 96 | 20 => 87 | 21 => 88 | 22 => 89 | 23 => 90 | 24 => 91 | 25 => 92 | 26 => 93 | 27 => 94 | 46 => 97 | 47 => 98 | 48 => 99 | 49 => 100 | 50 => 101 | 57 => 102 | n => n, fun | 22 => 24 | 24 => 42 | 25 => 65 | 3 => 3 | 39 => 84 | 0 => 0 | 53 => 105 | 55 => 107 | 4 => 4 | 46 => 99 | 45 => 98 | 50 => 66 | 5 => 5 | 9 => 9 | 66 => 108 | 70 => 112 | 76 => 114 | 77 => 115 | n => n, fun | n => n⟩
theorem Try.sortDots : Go.Proofs.SlLaysF0.n6 Try.prog Try.sortDots_ren := {
  mixed := by kernel_rfl
  f6 := ⟨Try.f67.name, by decide, Try.func67.trans (congrArg some (by kernel_rfl))⟩
  f14 := ⟨Try.f82.name, by decide, Try.func82.trans (congrArg some (by kernel_rfl))⟩
  f15 := Try.func83.trans (congrArg some (by kernel_rfl))
  f20 := ⟨Try.f87.name, by decide, Try.func87.trans (congrArg some (by kernel_rfl))⟩
  f21 := ⟨Try.f88.name, by decide, Try.func88.trans (congrArg some (by kernel_rfl))⟩
  f22 := ⟨Try.f89.name, by decide, Try.func89.trans (congrArg some (by kernel_rfl))⟩
  f23 := ⟨Try.f90.name, by decide, Try.func90.trans (congrArg some (by kernel_rfl))⟩
  f24 := ⟨Try.f91.name, by decide, Try.func91.trans (congrArg some (by kernel_rfl))⟩
  f25 := ⟨Try.f92.name, by decide, Try.func92.trans (congrArg some (by kernel_rfl))⟩
  f26 := ⟨Try.f93.name, by decide, Try.func93.trans (congrArg some (by kernel_rfl))⟩
  f27 := ⟨Try.f94.name, by decide, Try.func94.trans (congrArg some (by kernel_rfl))⟩
  f28 := Try.func95.trans (congrArg some (by kernel_rfl))
  f29 := Try.func96.trans (congrArg some (by kernel_rfl))
  f46 := ⟨Try.f97.name, by decide, Try.func97.trans (congrArg some (by kernel_rfl))⟩
  f47 := Try.func98.trans (congrArg some (by kernel_rfl))
  f48 := Try.func99.trans (congrArg some (by kernel_rfl))
  f49 := ⟨Try.f100.name, by decide, Try.func100.trans (congrArg some (by kernel_rfl))⟩
  f50 := ⟨Try.f101.name, by decide, Try.func101.trans (congrArg some (by kernel_rfl))⟩
  f57 := ⟨Try.f102.name, by decide, Try.func102.trans (congrArg some (by kernel_rfl))⟩
  t0 := Try.underlying0
  a0 := Try.isAgg0
  z0 := Try.sizeOf0
  v0 := Try.zeroValue0
  t3 := Try.underlying3
  a3 := Try.isAgg3
  z3 := Try.sizeOf3
  v3 := Try.zeroValue3
  t4 := Try.underlying4
  a4 := Try.isAgg4
  z4 := Try.sizeOf4
  v4 := Try.zeroValue4
  t5 := Try.underlying5
  a5 := Try.isAgg5
  z5 := Try.sizeOf5
  v5 := Try.zeroValue5
  t9 := Try.underlying9
  a9 := Try.isAgg9
  z9 := Try.sizeOf9
  v9 := Try.zeroValue9
  t22 := Try.underlying24
  a22 := Try.isAgg24
  z22 := Try.sizeOf24
  v22 := Try.zeroValue24
  t25 := Try.underlying65
  a25 := Try.isAgg65
  z25 := Try.sizeOf65
  v25 := Try.zeroValue65
  t39 := Try.underlying84
  a39 := Try.isAgg84
  z39 := Try.sizeOf84
  v39 := Try.zeroValue84
  t45 := Try.underlying98
  a45 := Try.isAgg98
  z45 := Try.sizeOf98
  v45 := Try.zeroValue98
  t46 := Try.underlying99
  a46 := Try.isAgg99
  z46 := Try.sizeOf99
  v46 := Try.zeroValue99
  t50 := Try.underlying66
  a50 := Try.isAgg66
  z50 := Try.sizeOf66
  v50 := Try.zeroValue66
  t53 := Try.underlying105
  a53 := Try.isAgg105
  z53 := Try.sizeOf105
  v53 := Try.zeroValue105
  t55 := Try.underlying107
  a55 := Try.isAgg107
  z55 := Try.sizeOf107
  v55 := Try.zeroValue107
  t66 := Try.underlying108
  a66 := Try.isAgg108
  z66 := Try.sizeOf108
  v66 := Try.zeroValue108
  t70 := Try.underlying112
  a70 := Try.isAgg112
  z70 := Try.sizeOf112
  v70 := Try.zeroValue112
  t76 := Try.underlying114
  a76 := Try.isAgg114
  z76 := Try.sizeOf114
  v76 := Try.zeroValue114
  t77 := Try.underlying115
  a77 := Try.isAgg115
  z77 := Try.sizeOf115
  v77 := Try.zeroValue115 }
end Go.Proofs

namespace Go.Proofs.Ytcldbmhjfmbcfaa
open Go.RowKit Go.Shelf Go.Sort

def encD (x : Int × Int) : List Value := [.int .i64 x.1, .int .i64 x.2]
/-- A row of dots that may be written. -/
def Own (w : World) (g : Nat) (d : Array (Int × Int)) : Prop :=
  ∀ j, j < d.size → w.cell? ⟨g, j * 2, none⟩ = some (.int .i64 d[j]!.1) ∧ w.cell? ⟨g, j * 2 + 1, none⟩ = some (.int .i64 d[j]!.2) ∧ w.frozen? ⟨g, j * 2, none⟩ = false ∧ w.frozen? ⟨g, j * 2 + 1, none⟩ = false
theorem Own.holdsK {w : World} {g : Nat} {d : Array (Int × Int)} (h : Own w g d) : HoldsK encD 2 w g 0 d := by
  intro j hj
  rw [size_flatK] at hj
  have hk := h (j / 2) (by omega)
  rw [Nat.zero_add, get_flatK encD 2 d j hj]
  rcases Nat.mod_two_eq_zero_or_one j with e | e
  · rw [e, show j = j / 2 * 2 by omega, show j / 2 * 2 / 2 = j / 2 by omega]
    exact ⟨hk.1, hk.2.2.1⟩
  · rw [e, show j = j / 2 * 2 + 1 by omega, show (j / 2 * 2 + 1) / 2 = j / 2 by omega]
    exact ⟨hk.2.1, hk.2.2.2⟩
theorem Own.of_holdsK {w : World} {g : Nat} {d : Array (Int × Int)} (h : HoldsK encD 2 w g 0 d) : Own w g d := by
  intro j hj
  have h0 := h (j * 2) (by rw [size_flatK]; omega)
  have h1 := h (j * 2 + 1) (by rw [size_flatK]; omega)
  rw [Nat.zero_add, get_flatK encD 2 d _ (by omega), show j * 2 / 2 = j by omega, show j * 2 % 2 = 0 by omega] at h0
  rw [Nat.zero_add, get_flatK encD 2 d _ (by omega), show (j * 2 + 1) / 2 = j by omega, show (j * 2 + 1) % 2 = 1 by omega] at h1
  exact ⟨h0.1, h1.1, h0.2, h1.2⟩
theorem toArr_get {L : List (Int × Int)} {j : Nat} {x : Int × Int} (h : L[j]? = some x) : L.toArray[j]! = x := by
  have hl := (List.getElem?_eq_some_iff.1 h).1
  rw [getElem!_pos _ j (by simpa using hl)]
  simpa using (List.getElem?_eq_some_iff.1 h).2
theorem Own.of_owns {w : World} {base g n cap : Nat} {e : TypeId} {L : List (Int × Int)} (h : w.ownsRow base e 2 (.slice (some ⟨g, 0, none⟩) n cap) n (flatD L)) : Own w g L.toArray := by
  intro j hj
  have hj' : j < L.length := by simpa using hj
  have hx := flatD_get L j L[j] (List.getElem?_eq_getElem hj')
  have hc := fun i u => h.cells (g := g) rfl i u
  have c0 := hc _ _ hx.1
  have c1 := hc _ _ hx.2
  rw [Addr.add_lit, Nat.zero_add] at c0 c1
  rw [toArr_get (List.getElem?_eq_getElem hj')]
  exact ⟨c0, c1, h.frozenAt _, h.frozenAt _⟩
theorem Own.lt {w : World} {g : Nat} {d : Array (Int × Int)} (h : Own w g d) (hd : 0 < d.size) : g < w.heap.size := World.block_lt_of_cell? w _ (h 0 hd).1

theorem kept_sortWorld {W w : World} {g m : Nat} {d : Array (Int × Int)} {os : Array Obj} (h : Kept W w) (hW : W.heap.size ≤ g) : Kept W (sortWorldK encD 2 w g 0 m d os) := by
  obtain ⟨⟨h1, h2, h3⟩, hf, hs⟩ := h
  have hb : ∀ i, i < W.heap.size → (sortWorldK encD 2 w g 0 m d os).heap[i]? = w.heap[i]? := fun i hi => by
    unfold sortWorldK
    rw [heap_grow_old _ _ (by simp [putRowK]; omega)]
    show (w.heap.modify g _)[i]? = _
    rw [Array.getElem?_modify, if_neg (by omega)]
  refine ⟨⟨h1, h2, fun i hi => ?_⟩, fun a ha => ?_, ?_⟩
  · rw [hb i hi]; exact h3 i hi
  · rw [← hf a ha]
    exact World.frozen?_of_block (w := w) (hb a.block ha)
  · unfold sortWorldK
    rw [size_grow]
    simp [putRowK]; omega
theorem own_sortWorld {w : World} {g m : Nat} {d d' : Array (Int × Int)} {os : Array Obj} (h : Own w g d) (hd : 0 < d.size) (hs : d'.size = d.size) : Own (sortWorldK encD 2 w g 0 m d' os) g d' := by
  have hg := h.lt hd
  refine Own.of_holdsK ?_
  unfold sortWorldK
  exact holdsK_grow encD 2 _ os g 0 d' (by simp [putRowK]; omega) (holdsK_putRowK encD 2 (Sort.ahead w m) g 0 d d' h.holdsK hs)

theorem ltOfD (x y : Int × Int) : ltOf cmpD x y = true ↔ LtD x y := by unfold ltOf; rw [decide_eq_true_iff, cmpD_lt]
theorem ltOfD_no (x y : Int × Int) : ltOf cmpD x y = false ↔ ¬ LtD x y := by unfold ltOf; rw [decide_eq_false_iff_not, cmpD_lt]
theorem swoD : SWO (ltOf cmpD) where
  irrefl x := (ltOfD_no x x).2 (LtD.irrefl x)
  trans x y z h1 h2 := (ltOfD x z).2 (((ltOfD x y).1 h1).trans ((ltOfD y z).1 h2))
  ntrans x y z h1 h2 := by rw [ltOfD_no] at *; unfold LtD at *; omega
theorem cmpLaysD (g n : Nat) (w : World) : CmpLays Try.prog 48 #[] encD 2 cmpD g 0 n w :=
  fun _ _ _ _ x y => dcmp_any x.1 x.2 y.1 y.2 _

/-- slices.SortFunc(row, dot.Cmp). -/
theorem sortF_any (g cap : Nat) (d : Array (Int × Int)) (w W : World) (h : Own w g d) (hd : 0 < d.size) (hn : d.size ≤ 1000000) (hK : Kept W w) (hW : W.heap.size ≤ g) :
    Calls Try.prog 67 #[.slice (some ⟨g, 0, none⟩) d.size cap, .func (.func 48) #[] #[]] w fun e w' => e = .returned (.tuple #[]) ∧
      ∃ d', d'.size = d.size ∧ d'.toList.Perm d.toList ∧ (∀ i j, i < j → j < d'.size → ¬ LtD d'[j]! d'[i]!) ∧ Own w' g d' ∧ Kept W w' := by
  have eg : ∀ args w, (callFunc 48 args).run Try.prog w = .ok (.enter 48 args) w := enters_of Try.func48 (by kernel_rfl) rfl
  have hcon := AnyQ.slices_SortFunc Try.sortDots 2 Try.isAgg42 Try.sizeOf42 encD (fun _ => rfl) (fun x v hv => by simp [encD] at hv; rcases hv with rfl | rfl <;> rfl) cmpD swoD 48 #[] g 0 cap d w eg (cmpLaysD g d.size w) h.holdsK (h.lt hd) (by omega)
  refine hcon.mono fun e w' ⟨he, d', m, os, hp, hs, hw⟩ => ⟨he, d', hp.1, ?_, fun i j hij hj => ?_, ?_, ?_⟩
  · have := hp.2.2
    rw [Array.extract_eq_self_of_le (by rw [hp.1]; exact Nat.le_refl _), Array.extract_eq_self_of_le (Nat.le_refl _)] at this
    exact this
  · exact (ltOfD_no _ _).1 (hs i j (Nat.zero_le _) hij (by rw [← hp.1]; exact hj))
  · rw [hw]; exact own_sortWorld h hd hp.1
  · rw [hw]; exact kept_sortWorld hK hW
theorem sortF_none (A : Option Addr) (cap : Nat) (w : World) :
    Calls Try.prog 67 #[.slice A 0 cap, .func (.func 48) #[] #[]] w fun e w' => e = .returned (.tuple #[]) ∧ w' = w :=
  AnyF.slices_SortFunc_none Try.sortDots A cap _ w
end Go.Proofs.Ytcldbmhjfmbcfaa

