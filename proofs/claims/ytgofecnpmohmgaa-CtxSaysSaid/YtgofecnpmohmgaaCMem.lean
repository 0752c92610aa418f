/-
  What is proved: words for memory that layer 6's contracts use: a slice of ints that lies in memory ('Il'), append of such onto a row of the call's own, and what a world that has all that another one has keeps of it.
-/
import Derived.Test.YtgofecnpmohmgaaCMath
import Derived.Test.YtgofecnpmohmgaaDLib
import Derived.Test.YtgofecnpmohmgaaDWith
import Derived.Maps.AppendAt
namespace Go.Proofs.Ytgofecnpmohmgaa
open Go.RowKit

def Il (w : World) (A : Option Addr) (n c : Nat) (V : List Int) : Prop :=
  n = V.length ∧ n ≤ c ∧ c ≤ maxLen ∧ (A = none → c = 0) ∧ (n = 0 ∨ ∃ b o, A = some ⟨b, o, none⟩ ∧ ∀ j x, V[j]? = some x → w.cell? ⟨b, o + j, none⟩ = some (.int .i64 x))
theorem Il.kept {w w' : World} {A : Option Addr} {n c : Nat} {V : List Int} (h : Il w A n c V) (hk : Kept w w') : Il w' A n c V :=
  ⟨h.1, h.2.1, h.2.2.1, h.2.2.2.1, h.2.2.2.2.imp id fun ⟨b, o, hA, hc⟩ => ⟨b, o, hA, fun j x hj => hk.cell (hc j x hj)⟩⟩
theorem Il.nil (w : World) : Il w none 0 0 [] := ⟨rfl, Nat.le_refl _, Nat.zero_le _, fun _ => rfl, .inl rfl⟩
theorem Il.cap {w : World} {A : Option Addr} {n c : Nat} {V : List Int} (h : Il w A n c V) : n ≤ c ∧ c ≤ 9223372036854775807 := ⟨h.2.1, h.2.2.1⟩
theorem Il.get {w : World} {A : Option Addr} {n c : Nat} {V : List Int} (h : Il w A n c V) {k : Nat} (hk : k < n) :
    ∃ b o x, A = some ⟨b, o, none⟩ ∧ V[k]? = some x ∧ w.cell? ⟨b, o + k, none⟩ = some (.int .i64 x) := by
  have hl : k < V.length := by rw [← h.1]; exact hk
  rcases h.2.2.2.2 with h0 | ⟨b, o, hA, hc⟩
  · omega
  · exact ⟨b, o, V[k], hA, List.getElem?_eq_getElem hl, hc k V[k] (List.getElem?_eq_getElem hl)⟩

/-- The cells of ints. -/
def intsV (V : List Int) : List Value := V.map fun x => .int .i64 x
theorem intsV_app (V W : List Int) : intsV (V ++ W) = intsV V ++ intsV W := List.map_append
theorem intsV_len (V : List Int) : (intsV V).length = V.length := List.length_map ..
theorem intsV_one (V : List Int) : ∀ u ∈ intsV V, u.oneCell' = true := by
  intro u hu
  obtain ⟨x, _, rfl⟩ := List.mem_map.1 hu
  rfl
theorem intsV_get {V : List Int} {j : Nat} {x : Int} (h : V[j]? = some x) : (intsV V)[j]? = some (.int .i64 x) := by
  unfold intsV; rw [List.getElem?_map, h]; rfl
theorem Il.of_own {w : World} {base n : Nat} {e : TypeId} {v : Value} {V : List Int} (h : w.ownsRow base e 1 v n (intsV V)) : ∃ A c, v = .slice A n c ∧ Il w A n c V := by
  have hl : n = V.length := by have := h.1; rw [intsV_len] at this; omega
  have hc := fun g (hg : v.ownBlock = some g) => h.cells (g := g) hg
  rcases h.2 with ⟨rfl, h0⟩ | ⟨g, cap, cur, rfl, hb, hg, h1, h2, _⟩
  · subst h0
    exact ⟨none, 0, rfl, hl, Nat.le_refl _, Nat.zero_le _, fun _ => rfl, .inl rfl⟩
  · refine ⟨some ⟨g, 0, none⟩, cap, rfl, hl, h1, h2, fun h => by simp at h, .inr ⟨g, 0, rfl, fun j x hj => ?_⟩⟩
    have := hc g rfl _ _ (intsV_get hj)
    rwa [Addr.add_lit] at this
theorem infoI : (Try.prog.info? 3).map (fun i => (i.zero, i.size, i.bytes)) = some (some (.int .i64 0), 1, 8) := by kernel_rfl
theorem app_ints (w : World) (base : Nat) (v : Value) (n : Nat) (xs : List Value) (h : w.ownsRow base 3 1 v n xs) (A : Option Addr) (m c : Nat) (V : List Int) (hs : Il w A m c V) (hb : n + m ≤ 8000000000000) (hbase : base ≤ w.heap.size) :
    ∃ v' w', (Builtin.append_ #[22, 22] 22 #[v, .slice A m c]).run Try.prog w = .ok v' w' ∧ w'.ownsRow base 3 1 v' (n + m) (xs ++ intsV V) ∧ w.grownBy w' v.ownBlock ∧ (v'.ownBlock = v.ownBlock ∨ v'.ownBlock = some w.heap.size) := by
  obtain ⟨i0, hi0, hz0, hz1, hz2⟩ := info_parts infoI
  cases A with
  | none =>
    obtain rfl := hs.2.2.2.1 rfl
    obtain rfl : m = 0 := by have := hs.2.1; omega
    have hV : V = [] := List.eq_nil_of_length_eq_zero hs.1.symm
    subst hV
    exact ⟨v, w, run_append_owned_none w base _ _ _ i0 1 Try.underlying22 hi0 v n xs h, by simpa [intsV] using h, World.grownBy.refl w _, .inl rfl⟩
  | some ad =>
    obtain ⟨v', w', hr, ho, hg, _, hat⟩ := run_append_own_at (P := Try.prog) w base 22 22 3 i0 (.int .i64 0) 1 8 Try.underlying22 hi0 hz0 hz1 hz2 rfl (by decide) v n xs h ad m c (intsV V)
      (by rw [intsV_len, hs.1, Nat.mul_one]) (fun j u hj => by
        unfold intsV at hj
        rw [List.getElem?_map] at hj
        obtain ⟨x, hx, rfl⟩ := Option.map_eq_some_iff.1 hj
        have hkl := (List.getElem?_eq_some_iff.1 hx).1
        obtain ⟨b, o, y, hA, hy, c1⟩ := hs.get (k := j) (by rw [hs.1]; exact hkl)
        obtain rfl : y = x := Option.some.inj (hy.symm.trans hx)
        obtain rfl := Option.some.inj hA
        rw [Addr.add_lit]
        exact c1) (intsV_one _) (by simp only [maxLen]; omega) (by omega) hbase
    exact ⟨v', w', hr, ho, hg, hat⟩
theorem il_head {w : World} {A : Option Addr} {n c k : Nat} {V : List Int} (h : Il w A n c V) (hk : k ≤ n) : Il w A k c (V.take k) := by
  obtain ⟨h1, h2, h3, h4, h5⟩ := h
  refine ⟨by rw [List.length_take]; omega, by omega, h3, h4, ?_⟩
  rcases h5 with h0 | ⟨b, o, hA, hc⟩
  · exact .inl (by omega)
  · refine .inr ⟨b, o, hA, fun j x hj => hc j x ?_⟩
    rw [List.getElem?_take] at hj
    split at hj
    · exact hj
    · cases hj
theorem sizeI (W : World) : (Go.sizeOf (Try.prog.elem 22)).run Try.prog W = .ok 1 W := by kernel_rfl
theorem run_ihead (A : Option Addr) (n c k : Nat) (hk : k ≤ c) (W : World) :
    (Instr.slice 22 (.slice A n c) none (some (.int .i64 (k : Int))) none).run Try.prog W = .ok (.slice A k c) W := by
  rw [run_slice_h W 22 _ n c (by kernel_rfl) .i64 (k : Int) (by omega) (by omega), sizeI]
  cases A <;> simp [Result.andThen, sliced, Addr.add]
theorem run_ihead2 (A : Option Addr) (n c k : Nat) (hk : k ≤ c) (W : World) :
    (Instr.sliceAt 22 (.slice A n c) none (some (.int .i64 (k : Int))) none).run Try.prog W = .ok (.slice A k c) W := by
  rw [run_sliceAt_slice W _ _ _ _ _ (by kernel_rfl)]; exact run_ihead A n c k hk W
end Go.Proofs.Ytgofecnpmohmgaa
