/-
  What is proved: strings.Builder's WriteString and String, of a builder that the call itself has made, do what their documentation says: the library's contracts, laid at this program's numbers.
-/
import Derived.Shelf.Strings.Builder1
import Derived.Test.YtgofecnpmohmgaaGRow
namespace Go.Proofs.Ytgofecnpmohmgaa
open Go.RowKit

def builderRen : Go.Shelf.Ren := ⟨fun | 166 => 61 | 169 => 65 | 240 => 80 | 276 => 87 | n => n, fun | 0 => 0 | 3 => 3 | 4 => 4 | 5 => 5 | 9 => 9 | 20 => 20 | 37 => 75 | 70 => 74 | 72 => 77 | 75 => 79 | 80 => 85 | 127 => 95 | 164 => 99 | n => n, fun | n => n⟩
theorem lays166 : Go.Proofs.Lays.n166 Try.prog builderRen := {
  mixed := by kernel_rfl
  f166 := Try.func61.trans (congrArg some (by kernel_rfl))
  f240 := Try.func80.trans (congrArg some (by kernel_rfl))
  f276 := Try.func87.trans (congrArg some (by kernel_rfl))
  t0 := Try.underlying0
  a0 := Try.isAgg0
  z0 := Try.sizeOf0
  v0 := Try.zeroValue0
  t3 := Try.underlying3
  a3 := Try.isAgg3
  z3 := Try.sizeOf3
  v3 := Try.zeroValue3
  t4 := Try.underlying4
  a4 := Try.isAgg4
  z4 := Try.sizeOf4
  v4 := Try.zeroValue4
  t9 := Try.underlying9
  a9 := Try.isAgg9
  z9 := Try.sizeOf9
  v9 := Try.zeroValue9
  t20 := Try.underlying20
  a20 := Try.isAgg20
  z20 := Try.sizeOf20
  v20 := Try.zeroValue20
  t37 := Try.underlying75
  a37 := Try.isAgg75
  z37 := Try.sizeOf75
  v37 := Try.zeroValue75
  t70 := Try.underlying74
  a70 := Try.isAgg74
  z70 := Try.sizeOf74
  v70 := Try.zeroValue74
  t72 := Try.underlying77
  a72 := Try.isAgg77
  z72 := Try.sizeOf77
  v72 := Try.zeroValue77
  t75 := Try.underlying79
  a75 := Try.isAgg79
  z75 := Try.sizeOf79
  v75 := Try.zeroValue79
  t164 := Try.underlying99
  a164 := Try.isAgg99
  z164 := Try.sizeOf99
  v164 := Try.zeroValue99
}
theorem lays169 : Go.Proofs.Lays.n169 Try.prog builderRen := {
  mixed := by kernel_rfl
  f169 := Try.func65.trans (congrArg some (by kernel_rfl))
  t0 := Try.underlying0
  a0 := Try.isAgg0
  z0 := Try.sizeOf0
  v0 := Try.zeroValue0
  t3 := Try.underlying3
  a3 := Try.isAgg3
  z3 := Try.sizeOf3
  v3 := Try.zeroValue3
  t9 := Try.underlying9
  a9 := Try.isAgg9
  z9 := Try.sizeOf9
  v9 := Try.zeroValue9
  t37 := Try.underlying75
  a37 := Try.isAgg75
  z37 := Try.sizeOf75
  v37 := Try.zeroValue75
  t70 := Try.underlying74
  a70 := Try.isAgg74
  z70 := Try.sizeOf74
  v70 := Try.zeroValue74
  t72 := Try.underlying77
  a72 := Try.isAgg77
  z72 := Try.sizeOf77
  v72 := Try.zeroValue77
  t127 := Try.underlying95
  a127 := Try.isAgg95
  z127 := Try.sizeOf95
  v127 := Try.zeroValue95
}
theorem extraB : Go.Proofs.Builder.Extra Try.prog builderRen where
  sizeBuilder := by kernel_rfl
  liesBuilder := by kernel_rfl
  t5 := Try.underlying5
  a5 := Try.isAgg5
  z5 := Try.sizeOf5
  v5 := Try.zeroValue5
  infoByte := by kernel_rfl
  cellsByte := by kernel_rfl
  sizeByte := by kernel_rfl
  neB5 := by decide

/-- A builder in block b that holds l; U: what is left alone. -/
structure Bld (U : World) (b : Nat) (w : World) (l : List UInt8) : Prop where
  is : Lib.IsBuilder 77 5 b b (Lib.byteCells l) w
  ke : Kept U w
  lo : U.heap.size ≤ b
theorem kept_below {U w w' : World} {B : Nat} (h : Kept U w) (hb : Below B w w') (hU : U.heap.size ≤ B) : Kept U w' := by
  obtain ⟨⟨h1, h2, h3⟩, hf, hs⟩ := h
  refine ⟨⟨hb.os.trans h1, hb.output.trans h2, fun i hi => ?_⟩, fun a ha => (hb.frozen (Nat.lt_of_lt_of_le ha hU)).trans (hf a ha), Nat.le_trans hs hb.size⟩
  rw [hb.block i (Nat.lt_of_lt_of_le hi hU)]
  exact h3 i hi
theorem bat_kept {w w' : World} {T e : TypeId} {B b : Nat} {p : Value} {bs : List Value} (h : Lib.BuilderAt T e B b p bs w) (hk : Kept w w') : Lib.BuilderAt T e B b p bs w' := by
  obtain ⟨hB, v, hb, hown, hne⟩ := h
  refine ⟨hB, v, ?_, own_kept hown hk, hne⟩
  rw [hk.blk (by
    rcases Nat.lt_or_ge b w.heap.size with h' | h'
    · exact h'
    · rw [Array.getElem?_eq_none h'] at hb; cases hb)]
  exact hb
theorem Bld.kept {U w w' : World} {b : Nat} {l : List UInt8} (h : Bld U b w l) (hk : Kept w w') : Bld U b w' l :=
  ⟨h.is.imp (bat_kept · hk) (bat_kept · hk), h.ke.trans hk, h.lo⟩
theorem Bld.start (U : World) : Bld U U.heap.size (U.alloc (.cells #[.pointer none, .slice none 0 0] 77)) [] :=
  ⟨Lib.fresh_isBuilder _ _ U, (Kept.refl U).alloc _ _, Nat.le_refl _⟩
theorem bld_lt {U w : World} {b : Nat} {l : List UInt8} (h : Bld U b w l) : b < w.heap.size := by
  rcases h.is with h | h
  · exact h.lt
  · exact h.lt
theorem write_any {U w : World} {b : Nat} {l : List UInt8} (h : Bld U b w l) (s : ByteArray) (hl : l.length + s.size ≤ 140737488355328) (r : List UInt8) (hr : l ++ s.data.toList = r) :
    Calls Try.prog 61 #[.pointer (some ⟨b, 0, none⟩), .string s] w fun e w' => e = .returned (.tuple #[.int .i64 s.size, .nilIface]) ∧ Bld U b w' r := by
  have hc := Go.Proofs.Any.Builder_WriteString lays166 extraB b b (Lib.byteCells l) s w h.is (by rw [Lib.byteCells_length]; exact hl) (Nat.le_of_lt (bld_lt h))
  refine hc.mono fun e w' ⟨he, hb, hbe⟩ => ⟨he, ⟨.inr ?_, kept_below h.ke hbe h.lo, h.lo⟩⟩
  rw [Lib.strCells_eq, ← Lib.byteCells_append, hr] at hb
  exact hb
theorem string_any {U w : World} {b : Nat} {l : List UInt8} (h : Bld U b w l) :
    Calls Try.prog 65 #[.pointer (some ⟨b, 0, none⟩)] w fun e w' => e = .returned (.string ⟨l.toArray⟩) ∧ Kept U w' := by
  have hc := Go.Proofs.Any.Builder_String_any lays169 extraB b b l w h.is (Nat.le_of_lt (bld_lt h))
  exact hc.mono fun e w' ⟨he, hbe⟩ => ⟨he, kept_below h.ke hbe h.lo⟩
end Go.Proofs.Ytgofecnpmohmgaa
