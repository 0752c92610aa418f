/-
  What is proved: the library's insertion sort, stable sort (at up to 40 fields) and Clone at fields: the row is in order by the paths, those of one path as they stood; all else is kept.
  words for the rows of fields that layer 11's calls make.
  strings.Count at a text of one byte and strings.Join return what their documentation says: the library's contracts, laid at this program's numbers.
  path.strokes, path.Split and the document's Split, called with any text of up to 2^40 bytes, return how many strokes it has, and its segments, in new memory (P4.2); the world has new blocks at most.
  the document's Split, called with any text of up to 2^40 bytes, returns its segments, in new memory (P4.2); the world has new blocks at most.
-/
import Derived.Test.YtjieofiaoepccaaGreatDoorM16
import Derived.Test.YtjieofiaoepccaaGreatDoorM12
import Derived.Test.YtjieofiaoepccaaGreatDoorM13
import Derived.Shelf.Strings.OnBuilder
import Derived.Shelf.Strings.Count
import Derived.Test.YtjieofiaoepccaaGreatDoorProg
import Derived.Test.YtjieofiaoepccaaGreatDoorM7
namespace Go.Proofs.YtjieofiaoepccaaGreatDoor
open Go.Shelf Go.RowKit Go.Lib Go.Sort
set_option linter.unusedVariables false

/-- What the sort knows of its row and its caller's world. -/
structure Srt (w0 : World) (g pb : Nat) (L : List Fd) : Prop where
  row : RowK cellF 6 w0 g 0 L.toArray
  fn : w0.cell? ⟨pb, 0, none⟩ = some (.func (.func 54) #[] #[])
  ne : pb ≠ g
  few : L.length ≤ 40
theorem Srt.lays {w0 : World} {g pb : Nat} {L : List Fd} (h : Srt w0 g pb L) : CmpLays Tryz.prog 79 #[.pointer (some ⟨pb, 0, none⟩)] cellF 6 cmpF g 0 L.toArray.size w0 := cmpLaysF pb g _ w0 h.fn h.ne
theorem eg_fn : ∀ args w, (callFunc 79 args).run Tryz.prog w = .ok (.enter 79 args) w := enters_of Tryz.func79 (by kernel_rfl) rfl
theorem cellF_len (x : Fd) : (cellF x).length = 6 := rfl
theorem cellF_one (x : Fd) : ∀ v ∈ cellF x, v.oneCell' = true := fun v hv => flatF_one [x] v (by simpa [flatF] using hv)
/-- A part of the row, sorted by insertion. -/
theorem insp_any {w0 : World} {g pb : Nat} {L : List Fd} (h : Srt w0 g pb L) (cap a b : Nat) (Pr X S : List Fd) (W : World) (ha : a = Pr.length) (hb : b = Pr.length + X.length) (hL : b + S.length = L.length) (H : SWF cellF 6 w0 g 0 (Pr ++ (X ++ S)) W) :
    Calls Tryz.prog 100 #[.slice (some ⟨g, 0, none⟩) L.length cap, .int .i64 a, .int .i64 b, .func (.func 79) #[] #[.pointer (some ⟨pb, 0, none⟩)]] W fun e w' => e = .returned (.tuple #[]) ∧ ∃ Z, Z.length = X.length ∧ Flat Z ∧ Stab Z X ∧ SWF cellF 6 w0 g 0 (Pr ++ (Z ++ S)) w' := by
  have hsz : (Pr ++ (X ++ S)).toArray.size = L.toArray.size := by simp only [List.size_toArray, List.length_append]; omega
  have hh := H.holds h.row.hblk h.row.hH hsz
  have hblk := h.row.hblk
  have hpb : W.cell? ⟨pb, 0, none⟩ = some (.func (.func 54) #[] #[]) := by
    obtain ⟨n, os, hW⟩ := H
    rw [hW]; exact cell_sortK (World.block_lt_of_cell? w0 _ h.fn) h.ne h.fn
  have hc := AnyQ.insertionSortCmpFunc Tryz.insFields 6 Tryz.isAgg30 Tryz.sizeOf30 cellF cellF_len cellF_one cmpF 79 #[.pointer (some ⟨pb, 0, none⟩)] g 0 cap a b (Pr ++ (X ++ S)).toArray W eg_fn (cmpLaysF pb g _ W hpb h.ne) hh (H.lt hblk) (by omega) (by rw [hsz]; simp only [List.size_toArray]; omega) (by rw [hsz]; simp only [List.size_toArray]; have := h.few; omega)
  obtain ⟨Z, z1, z2, z3, z4⟩ := ins_part Pr X S ha hb
  rw [List.append_assoc] at z1
  rw [hsz, List.size_toArray, cmpF_lto, z1] at hc
  refine hc.mono ?_
  rintro e w' ⟨rfl, n, os, rfl⟩
  refine ⟨rfl, Z, z2, z3, z4, ?_⟩
  have := SWK.on H hblk n (Pr ++ Z ++ S).toArray os (by simp only [List.size_toArray, List.length_append]; omega)
  show SWF _ _ _ _ _ _ _
  rw [← List.append_assoc]
  exact this
set_option maxRecDepth 100000 in
set_option maxHeartbeats 4000000 in
theorem insn_any (A : Option Addr) (c : Nat) (f : Value) (w : World) : Calls Tryz.prog 100 #[.slice A 0 c, .int .i64 0, .int .i64 0, f] w fun e w' => e = .returned (.tuple #[]) ∧ w' = w := by
  go_enter Tryz.func100, Tryz.ntmps100
  go_wp2
  refine wp_loop_rounds 1 ?_
  rw [rounds_succ]
  go_wp2
  go_end0
  exact ⟨rfl, rfl⟩
set_option maxRecDepth 100000 in
set_option maxHeartbeats 4000000 in
theorem stabn_any (A : Option Addr) (c : Nat) (f : Value) (w : World) : Calls Tryz.prog 90 #[.slice A 0 c, .int .i64 0, f] w fun e w' => e = .returned (.tuple #[]) ∧ w' = w := by
  go_enter Tryz.func90, Tryz.ntmps90
  go_wp2
  refine wp_loop_rounds 1 ?_
  rw [rounds_succ]
  go_wp2_with (go_at_call 100; refine (insn_any _ _ _ _).mono ?_; rintro e w1 ⟨rfl, rfl⟩)
  refine wp_loop_rounds 1 ?_
  rw [rounds_succ]
  go_wp2
  go_end0
  exact ⟨rfl, rfl⟩
/-- What the sort leaves. -/
def StbS (w0 : World) (g : Nat) (L : List Fd) (e : Ending) (w' : World) : Prop := e = .returned (.tuple #[]) ∧ SWF cellF 6 w0 g 0 (ofF L) w'
set_option maxRecDepth 100000 in
set_option maxHeartbeats 4000000 in
theorem stab_few {w0 : World} {g pb : Nat} {L : List Fd} (h : Srt w0 g pb L) (cap n : Nat) (hn : n = L.length) (h0 : 0 < n) (h1 : n < 20) :
    Calls Tryz.prog 90 #[.slice (some ⟨g, 0, none⟩) n cap, .int .i64 n, .func (.func 79) #[] #[.pointer (some ⟨pb, 0, none⟩)]] w0 (StbS w0 g L) := by
  have HH := Lib.hid h
  have S0 : Aside (SWF cellF 6 w0 g 0 L w0) := SWK.start h.row.hH
  have hfew := h.few
  have q1 : ¬ (20 : Int) ≤ (n : Int) := by omega
  have q2 : ¬ (20 : Int) < (n : Int) := by omega
  have HI := Lib.hid (insp_any h cap 0 n [] L [] w0 rfl (by simp; omega) (by simp; omega) (by simpa using S0.out))
  rw [← hn] at HI
  have HN := Lib.hid hn
  clear hn h
  go_enter Tryz.func90, Tryz.ntmps90
  go_wp2
  refine wp_loop_rounds 1 ?_
  rw [rounds_succ]
  go_wp2_with (go_at_call 100; refine HI.out.mono ?_; rintro e w1 ⟨rfl, Z, z1, z2, z3, hS⟩)
  refine wp_loop_rounds 1 ?_
  rw [rounds_succ]
  go_wp2
  go_end0
  refine ⟨rfl, ?_⟩
  rw [← ofF_is z2 z3]
  simpa using hS
set_option maxRecDepth 100000 in
set_option maxHeartbeats 4000000 in
theorem stab_one {w0 : World} {g pb : Nat} {L : List Fd} (h : Srt w0 g pb L) (cap n : Nat) (hn : n = L.length) (h0 : 0 < n) (h1 : n = 20) :
    Calls Tryz.prog 90 #[.slice (some ⟨g, 0, none⟩) n cap, .int .i64 n, .func (.func 79) #[] #[.pointer (some ⟨pb, 0, none⟩)]] w0 (StbS w0 g L) := by
  have HH := Lib.hid h
  have S0 : Aside (SWF cellF 6 w0 g 0 L w0) := SWK.start h.row.hH
  have hfew := h.few
  have HI := Lib.hid (insp_any h cap 0 20 [] L [] w0 rfl (by simp; omega) (by simp; omega) (by simpa using S0.out))
  rw [← hn, h1] at HI
  have HN := Lib.hid hn
  clear hn h
  go_enter Tryz.func90, Tryz.ntmps90
  subst h1
  go_wp2
  refine wp_loop_rounds 2 ?_
  rw [rounds_succ]
  go_wp2_with (go_at_call 100; refine HI.out.mono ?_; rintro e w1 ⟨rfl, Z, z1, z2, z3, hS⟩)
  have HJ := Lib.hid (insp_any HH.out cap 20 20 Z [] [] w1 (by have := HN.out; omega) (by have := HN.out; simp; omega) (by have := HN.out; simp; omega) (by simpa using hS))
  rw [← HN.out] at HJ
  have HZ := Lib.hid (ofF_is z2 z3)
  clear hS z1 z2 z3
  try rw [rounds_succ]
  go_wp2_with (go_at_call 100; refine HJ.out.mono ?_; rintro e w2 ⟨rfl, Z2, z1, z2, z3, hS⟩)
  refine wp_loop_rounds 1 ?_
  rw [rounds_succ]
  go_wp2
  go_end0
  refine ⟨rfl, ?_⟩
  obtain rfl : Z2 = [] := List.eq_nil_of_length_eq_zero z1
  rw [← HZ.out]
  simpa using hS
set_option maxRecDepth 100000 in
set_option maxHeartbeats 4000000 in
theorem stab_two {w0 : World} {g pb : Nat} {L : List Fd} (h : Srt w0 g pb L) (cap n : Nat) (hn : n = L.length) (h0 : 0 < n) (h1 : 20 < n) (h2 : n < 40) :
    Calls Tryz.prog 90 #[.slice (some ⟨g, 0, none⟩) n cap, .int .i64 n, .func (.func 79) #[] #[.pointer (some ⟨pb, 0, none⟩)]] w0 (StbS w0 g L) := by
  have HH := Lib.hid h
  have S0 : Aside (SWF cellF 6 w0 g 0 L w0) := SWK.start h.row.hH
  have hfew := h.few
  have q1 : (20 : Int) ≤ (n : Int) := by omega
  have q2 : (20 : Int) < (n : Int) := by omega
  have q3 : ¬ (40 : Int) ≤ (n : Int) := by omega
  have q4 : ¬ (40 : Int) < (n : Int) := by omega
  have HI := Lib.hid (insp_any h cap 0 20 [] (L.take 20) (L.drop 20) w0 rfl (by rw [List.length_take, List.length_nil]; omega) (by rw [List.length_drop]; omega) (by simpa using S0.out))
  rw [← hn] at HI
  have HN := Lib.hid hn
  clear hn h
  go_enter Tryz.func90, Tryz.ntmps90
  go_wp2
  refine wp_loop_rounds 2 ?_
  rw [rounds_succ]
  go_wp2_with (go_at_call 100; refine HI.out.mono ?_; rintro e w1 ⟨rfl, Z1, z1, f1, s1, hS⟩)
  have HJ := Lib.hid (insp_any HH.out cap 20 n Z1 (L.drop 20) [] w1 (by rw [z1, List.length_take]; have := HN.out; omega) (by rw [z1, List.length_take, List.length_drop]; have := HN.out; omega) (by have := HN.out; simp; omega) (by simpa using hS))
  rw [← HN.out] at HJ
  have Hz1 := Lib.hid z1; have Hf1 := Lib.hid f1; have Hs1 := Lib.hid s1
  clear hS z1 f1 s1
  try rw [rounds_succ]
  go_wp2_with (go_at_call 100; refine HJ.out.mono ?_; rintro e w2 ⟨rfl, Z2, z2, f2, s2, hS⟩)
  have HM := Lib.hid (sym_any 6 sortP cellF cmpF cmpF_lt 79 #[.pointer (some ⟨pb, 0, none⟩)] g 0 cap L.length L.toArray w0 eg_fn HH.out.lays HH.out.row (by simp) (by have := HH.out.few; omega) _ 0 20 n [] Z1 Z2 [] w2 rfl (by rw [Hz1.out, List.length_take]; have := HN.out; omega) (by rw [z2, List.length_drop]; have := HN.out; omega) rfl (by rw [Hz1.out, List.length_take]; simp; have := HN.out; omega) (by rw [Hz1.out, z2, List.length_take, List.length_drop]; simp; have := HN.out; omega) (by simpa using HN.out) Hf1.out f2 (by simpa using hS))
  rw [← HN.out] at HM
  have HS := Lib.hid s2
  clear hS z2 f2 s2
  refine wp_loop_rounds 2 ?_
  rw [rounds_succ]
  go_wp2
  refine wp_loop_rounds 1 ?_
  rw [rounds_succ]
  go_wp2_with (go_at_call 101; refine HM.out.mono ?_; rintro e w3 ⟨rfl, Z, z, f, s, hS⟩)
  try rw [rounds_succ]
  go_wp2
  go_end0
  refine ⟨rfl, ?_⟩
  have hz : Stab Z L := by
    have := s.trans (Hs1.out.app HS.out)
    rwa [List.take_append_drop] at this
  rw [← ofF_is f hz]
  simpa using hS
set_option maxRecDepth 100000 in
set_option maxHeartbeats 4000000 in
theorem stab_all {w0 : World} {g pb : Nat} {L : List Fd} (h : Srt w0 g pb L) (cap n : Nat) (hn : n = L.length) (h0 : 0 < n) (h1 : n = 40) :
    Calls Tryz.prog 90 #[.slice (some ⟨g, 0, none⟩) n cap, .int .i64 n, .func (.func 79) #[] #[.pointer (some ⟨pb, 0, none⟩)]] w0 (StbS w0 g L) := by
  have HH := Lib.hid h
  have S0 : Aside (SWF cellF 6 w0 g 0 L w0) := SWK.start h.row.hH
  have hfew := h.few
  have HI := Lib.hid (insp_any h cap 0 20 [] (L.take 20) (L.drop 20) w0 rfl (by rw [List.length_take, List.length_nil]; omega) (by rw [List.length_drop]; omega) (by simpa using S0.out))
  rw [← hn, h1] at HI
  have HN := Lib.hid hn
  clear hn h
  go_enter Tryz.func90, Tryz.ntmps90
  subst h1
  go_wp2
  refine wp_loop_rounds 3 ?_
  rw [rounds_succ]
  go_wp2_with (go_at_call 100; refine HI.out.mono ?_; rintro e w1 ⟨rfl, Z1, z1, f1, s1, hS⟩)
  have HJ := Lib.hid (insp_any HH.out cap 20 40 Z1 (L.drop 20) [] w1 (by rw [z1, List.length_take]; have := HN.out; omega) (by rw [z1, List.length_take, List.length_drop]; have := HN.out; omega) (by have := HN.out; simp; omega) (by simpa using hS))
  rw [← HN.out] at HJ
  have Hz1 := Lib.hid z1; have Hf1 := Lib.hid f1; have Hs1 := Lib.hid s1
  clear hS z1 f1 s1
  try rw [rounds_succ]
  go_wp2_with (go_at_call 100; refine HJ.out.mono ?_; rintro e w2 ⟨rfl, Z2, z2, f2, s2, hS⟩)
  have HK := Lib.hid (insp_any HH.out cap 40 40 (Z1 ++ Z2) [] [] w2 (by rw [List.length_append, Hz1.out, z2, List.length_take, List.length_drop]; have := HN.out; omega) (by rw [List.length_append, Hz1.out, z2, List.length_take, List.length_drop]; have := HN.out; simp; omega) (by have := HN.out; simp; omega) (by simpa using hS))
  rw [← HN.out] at HK
  have Hz2 := Lib.hid z2; have Hf2 := Lib.hid f2; have Hs2 := Lib.hid s2
  clear hS z2 f2 s2
  try rw [rounds_succ]
  go_wp2_with (go_at_call 100; refine HK.out.mono ?_; rintro e w2b ⟨rfl, Z3, z3, f3, s3, hS⟩)
  obtain rfl : Z3 = [] := List.eq_nil_of_length_eq_zero z3
  have HM := Lib.hid (sym_any 6 sortP cellF cmpF cmpF_lt 79 #[.pointer (some ⟨pb, 0, none⟩)] g 0 cap L.length L.toArray w0 eg_fn HH.out.lays HH.out.row (by simp) (by have := HH.out.few; omega) _ 0 20 40 [] Z1 Z2 [] w2b rfl (by rw [Hz1.out, List.length_take]; have := HN.out; omega) (by rw [Hz2.out, List.length_drop]; have := HN.out; omega) rfl (by rw [Hz1.out, List.length_take]; simp; have := HN.out; omega) (by rw [Hz1.out, Hz2.out, List.length_take, List.length_drop]; simp; have := HN.out; omega) (by simpa using HN.out) Hf1.out Hf2.out (by simpa using hS))
  rw [← HN.out] at HM
  clear hS z3 f3 s3
  refine wp_loop_rounds 2 ?_
  rw [rounds_succ]
  go_wp2
  refine wp_loop_rounds 2 ?_
  rw [rounds_succ]
  go_wp2_with (go_at_call 101; refine HM.out.mono ?_; rintro e w3 ⟨rfl, Z, z, f, s, hS⟩)
  try rw [rounds_succ]
  go_wp2
  try rw [rounds_succ]
  go_wp2
  go_end0
  refine ⟨rfl, ?_⟩
  have hz : Stab Z L := by
    have := s.trans (Hs1.out.app Hs2.out)
    rwa [List.take_append_drop] at this
  rw [← ofF_is f hz]
  simpa using hS
theorem stab_any {w0 : World} {g pb : Nat} {L : List Fd} (h : Srt w0 g pb L) (cap n : Nat) (hn : n = L.length) (h0 : 0 < n) :
    Calls Tryz.prog 90 #[.slice (some ⟨g, 0, none⟩) n cap, .int .i64 n, .func (.func 79) #[] #[.pointer (some ⟨pb, 0, none⟩)]] w0 (StbS w0 g L) := by
  have := h.few
  by_cases h1 : n < 20
  · exact stab_few h cap n hn h0 h1
  · by_cases h2 : n = 20
    · exact stab_one h cap n hn h0 h2
    · by_cases h3 : n < 40
      · exact stab_two h cap n hn h0 (by omega) h3
      · exact stab_all h cap n hn h0 (by omega)
end Go.Proofs.YtjieofiaoepccaaGreatDoor

namespace Go.Proofs.YtjieofiaoepccaaGreatDoor
open Go.RowKit
theorem OutF.lower {U U2 w : World} {v : Value} {L : List Fd} (h : OutF U2 w v L) (hk : Kept U U2) : OutF U w v L :=
  ⟨own_mono h.own fun g hg => Nat.le_trans hk.2.2 (h.own.lt g hg).1, hk.trans h.ke⟩
theorem OutF.made {U w : World} (hk : Kept U w) : OutF U (w.alloc (.cells #[] 30)) (.slice (some ⟨w.heap.size, 0, none⟩) 0 0) [] :=
  ⟨World.ownsRow_made (base := U.heap.size) (e := 30) (size := 6) w #[] 0 hk.2.2 (by simp [maxLen]) rfl, hk.alloc _ _⟩
/-- P11.3: what Of hands back. -/
def OfS (L : List Fd) (w : World) (e : Ending) (w' : World) : Prop := ∃ A c, e = .returned (.agg #[.slice A L.length c]) ∧ Fl w' A L.length c (ofF L) ∧ Kept w w'
end Go.Proofs.YtjieofiaoepccaaGreatDoor

namespace Go.Proofs
open Go.Shelf
def Tryz.lays156_ren : Go.Shelf.Ren := ⟨fun | 156 => 49 | 165 => 74 | 166 => 42 | 169 => 45 | 240 => 70 | 241 => 88 | 276 => 85 | 277 => 98 | n => n, fun | 31 => 54 | 9 => 9 | 3 => 3 | 4 => 4 | 0 => 0 | 20 => 20 | 72 => 60 | 76 => 63 | 70 => 57 | 37 => 58 | 75 => 62 | 127 => 86 | 164 => 98 | 5 => 5 | 80 => 67 | n => n, fun | n => n⟩
theorem Tryz.lays156 : Go.Proofs.Lays.n156 Tryz.prog Tryz.lays156_ren := {
  mixed := by kernel_rfl
  f156 := Tryz.func49.trans (congrArg some (by kernel_rfl))
  f165 := Tryz.func74.trans (congrArg some (by kernel_rfl))
  f166 := Tryz.func42.trans (congrArg some (by kernel_rfl))
  f169 := Tryz.func45.trans (congrArg some (by kernel_rfl))
  f240 := Tryz.func70.trans (congrArg some (by kernel_rfl))
  f241 := Tryz.func88.trans (congrArg some (by kernel_rfl))
  f276 := Tryz.func85.trans (congrArg some (by kernel_rfl))
  f277 := Tryz.func98.trans (congrArg some (by kernel_rfl))
  t0 := Tryz.underlying0
  a0 := Tryz.isAgg0
  z0 := Tryz.sizeOf0
  v0 := Tryz.zeroValue0
  t3 := Tryz.underlying3
  a3 := Tryz.isAgg3
  z3 := Tryz.sizeOf3
  v3 := Tryz.zeroValue3
  t4 := Tryz.underlying4
  a4 := Tryz.isAgg4
  z4 := Tryz.sizeOf4
  v4 := Tryz.zeroValue4
  t9 := Tryz.underlying9
  a9 := Tryz.isAgg9
  z9 := Tryz.sizeOf9
  v9 := Tryz.zeroValue9
  t20 := Tryz.underlying20
  a20 := Tryz.isAgg20
  z20 := Tryz.sizeOf20
  v20 := Tryz.zeroValue20
  t31 := Tryz.underlying54
  a31 := Tryz.isAgg54
  z31 := Tryz.sizeOf54
  v31 := Tryz.zeroValue54
  t37 := Tryz.underlying58
  a37 := Tryz.isAgg58
  z37 := Tryz.sizeOf58
  v37 := Tryz.zeroValue58
  t70 := Tryz.underlying57
  a70 := Tryz.isAgg57
  z70 := Tryz.sizeOf57
  v70 := Tryz.zeroValue57
  t72 := Tryz.underlying60
  a72 := Tryz.isAgg60
  z72 := Tryz.sizeOf60
  v72 := Tryz.zeroValue60
  t75 := Tryz.underlying62
  a75 := Tryz.isAgg62
  z75 := Tryz.sizeOf62
  v75 := Tryz.zeroValue62
  t76 := Tryz.underlying63
  a76 := Tryz.isAgg63
  z76 := Tryz.sizeOf63
  v76 := Tryz.zeroValue63
  t127 := Tryz.underlying86
  a127 := Tryz.isAgg86
  z127 := Tryz.sizeOf86
  v127 := Tryz.zeroValue86
  t164 := Tryz.underlying98
  a164 := Tryz.isAgg98
  z164 := Tryz.sizeOf98
  v164 := Tryz.zeroValue98 }
theorem Tryz.Builder_Extra_156 : Builder.Extra Tryz.prog Tryz.lays156_ren := {
  sizeBuilder := by kernel_rfl
  liesBuilder := by kernel_rfl
  t5 := Tryz.underlying5
  a5 := Tryz.isAgg5
  z5 := Tryz.sizeOf5
  v5 := Tryz.zeroValue5
  infoByte := by kernel_rfl
  cellsByte := by kernel_rfl
  sizeByte := by kernel_rfl
  neB5 := by decide }
open Go.RowKit in
theorem Tryz.strings_Join_none (a : Option Addr) (c : Nat) (sep : ByteArray) (w : World) :
    Calls Tryz.prog 49 #[.slice a 0 c, .string sep] w fun e w' => e = .returned (.string ⟨#[]⟩) ∧ w' = w := Any.strings_Join_none Tryz.lays156 Tryz.Builder_Extra_156 a c sep w
open Go.RowKit in
theorem Tryz.strings_Join (bk o c : Nat) (xs : List ByteArray) (sep : ByteArray) (w : World) (hcells : ∀ (j : Nat) x, xs[j]? = some x → w.cell? ⟨bk, o + j, none⟩ = some (.string x)) (hbk : bk < w.heap.size) (hN : xs.length ≤ 140737488355328) (hcap : xs.length ≤ c) (hlen : (Lib.join (xs.map (·.data.toList)) sep.data.toList).length ≤ 140737488355328) :
    Calls Tryz.prog 49 #[.slice (some ⟨bk, o, none⟩) xs.length c, .string sep] w fun e w' => e = .returned (.string ⟨(Lib.join (xs.map (·.data.toList)) sep.data.toList).toArray⟩) ∧ Below w.heap.size w w' := Any.strings_Join Tryz.lays156 Tryz.Builder_Extra_156 bk o c xs sep w hcells hbk hN hcap hlen
def Tryz.lays138_ren : Go.Shelf.Ren := ⟨fun | 138 => 84 | 195 => 94 | 218 => 95 | 143 => 96 | 219 => 102 | 217 => 105 | 225 => 106 | 224 => 107 | 267 => 108 | 266 => 114 | 314 => 115 | n => n, fun | 9 => 9 | 3 => 3 | 4 => 4 | 5 => 5 | 0 => 0 | 46 => 85 | 146 => 114 | 51 => 113 | n => n, fun | 1 => 3 | n => n⟩
theorem Tryz.lays138 : Go.Proofs.Lays.n138 Tryz.prog Tryz.lays138_ren := {
  mixed := by kernel_rfl
  f138 := Tryz.func84.trans (congrArg some (by kernel_rfl))
  f143 := Tryz.func96.trans (congrArg some (by kernel_rfl))
  f195 := Tryz.func94.trans (congrArg some (by kernel_rfl))
  f217 := Tryz.func105.trans (congrArg some (by kernel_rfl))
  f218 := Tryz.func95.trans (congrArg some (by kernel_rfl))
  f219 := Tryz.func102.trans (congrArg some (by kernel_rfl))
  f224 := Tryz.func107.trans (congrArg some (by kernel_rfl))
  f225 := Tryz.func106.trans (congrArg some (by kernel_rfl))
  f266 := Tryz.func114.trans (congrArg some (by kernel_rfl))
  f267 := Tryz.func108.trans (congrArg some (by kernel_rfl))
  f314 := Tryz.func115.trans (congrArg some (by kernel_rfl))
  t0 := Tryz.underlying0
  a0 := Tryz.isAgg0
  z0 := Tryz.sizeOf0
  v0 := Tryz.zeroValue0
  t3 := Tryz.underlying3
  a3 := Tryz.isAgg3
  z3 := Tryz.sizeOf3
  v3 := Tryz.zeroValue3
  t4 := Tryz.underlying4
  a4 := Tryz.isAgg4
  z4 := Tryz.sizeOf4
  v4 := Tryz.zeroValue4
  t5 := Tryz.underlying5
  a5 := Tryz.isAgg5
  z5 := Tryz.sizeOf5
  v5 := Tryz.zeroValue5
  t9 := Tryz.underlying9
  a9 := Tryz.isAgg9
  z9 := Tryz.sizeOf9
  v9 := Tryz.zeroValue9
  t46 := Tryz.underlying85
  a46 := Tryz.isAgg85
  z46 := Tryz.sizeOf85
  v46 := Tryz.zeroValue85
  t51 := Tryz.underlying113
  a51 := Tryz.isAgg113
  z51 := Tryz.sizeOf113
  v51 := Tryz.zeroValue113
  t146 := Tryz.underlying114
  a146 := Tryz.isAgg114
  z146 := Tryz.sizeOf114
  v146 := Tryz.zeroValue114
  g1 := by kernel_rfl }
open Go.RowKit Go.Lib in
theorem Tryz.strings_Count_one (s : ByteArray) (c : UInt8) (w : World) :
    Calls Tryz.prog 84 #[.string s, .string ⟨#[c]⟩] w fun e w' => e = .returned (.int .i64 (Lib.countByte s.data.toList c)) ∧ w' = w := Any.strings_Count_one Tryz.lays138 s c w
end Go.Proofs

namespace Go.Proofs.YtjieofiaoepccaaGreatDoor.L4
open Go.RowKit

theorem strokes_any (p : ByteArray) (w : World) :
    Calls Tryz.prog 66 #[.string p] w fun e w' => e = .returned (.int .i64 (p.data.toList.count 47 : Nat)) ∧ w = w' := by
  go_enter Tryz.func66, Tryz.ntmps66
  go_wp2_with (go_at_call 84; ((with_reducible refine (Tryz.strings_Count_one _ 47 _).mono ?_); rintro e w' ⟨rfl, rfl⟩))
  go_ret
  exact ⟨rfl, rfl⟩

theorem infoStr : (Tryz.prog.info? 9).map (fun i => (i.zero, i.size, i.bytes)) = some (some (.string ⟨#[]⟩), 1, 16) := by kernel_rfl

/-- What Split leaves. -/
def Splits (p : ByteArray) (w : World) (e : Ending) (w' : World) : Prop :=
  ∃ b c, e = .returned (.slice (some ⟨b, 0, none⟩) (splS p).length c) ∧ Sl w' ⟨b, 0, none⟩ (splS p).length c (splS p) ∧ w.heap.size ≤ b ∧ Ke w w'
theorem splits_end {p : ByteArray} {w w' : World} {v : Value} {n : Nat} {acc : List ByteArray} (h : w'.ownsRow w.heap.size 9 1 v n (acc.map strV)) (ha : acc = splS p) (hk : Below w.heap.size w w') : Splits p w (.returned v) w' := by
  subst ha
  have hn : (splS p).length = n := by simpa using h.1
  have hp := splS_pos p
  subst hn
  obtain ⟨g, c, rfl, hb, hs⟩ := Sl.of_own h hp
  exact ⟨g, c, rfl, hs, hb, hk⟩

theorem ownsRow_iter {w : World} {base : Nat} {e : TypeId} {size : Nat} {v : Value} {n : Nat} {xs : List Value} (h : w.ownsRow base e size v n xs) {k : Nat} {s : ByteArray} {pos : Nat} (hk : w.heap[k]? = some (.stringIter s pos)) (q : Nat) : (w.iterAt k s q).ownsRow base e size v n xs := by
  obtain ⟨h1, h2⟩ := h
  refine ⟨h1, ?_⟩
  rcases h2 with h2 | ⟨g, cap, cur, hv, hb, hg, r⟩
  · exact .inl h2
  · refine .inr ⟨g, cap, cur, hv, hb, ?_, r⟩
    rw [Lib.iterAt_other _ _ _ _ _ (fun e => by rw [e, hk] at hg; cases hg)]
    exact hg
theorem own_not_iter {w : World} {base : Nat} {e : TypeId} {size : Nat} {v : Value} {n : Nat} {xs : List Value} (h : w.ownsRow base e size v n xs) {k : Nat} {s : ByteArray} {pos : Nat} (hk : w.heap[k]? = some (.stringIter s pos)) : some k ≠ v.ownBlock := by
  rcases h.2 with ⟨rfl, _⟩ | ⟨g, cap, cur, rfl, hb, hg, r⟩
  · simp [Value.ownBlock]
  · intro e
    have e2 : k = g := by simpa [Value.ownBlock] using e
    subst e2
    rw [hk] at hg; cases hg
theorem cell_one_new (w : World) (x : ByteArray) (t : TypeId) : ∀ j u, ([x].map strV)[j]? = some u → (w.alloc (.cells #[.string x] t)).cell? ((⟨w.heap.size, 0, none⟩ : Addr).add j) = some u := by
  intro j u hj
  match j, hj with
  | 0, hj => simp [strV] at hj; subst hj; simp [Addr.add]
  | j + 1, hj => simp at hj

/-- A text's segments, one more. -/
theorem acc_snoc (acc : List ByteArray) (x : ByteArray) : acc.map strV ++ [strV x] = (acc ++ [x]).map strV := by simp

/-- What holds at each round's head of path.Split. -/
def SRel (p : ByteArray) (w : World) (l bg : Value) (wr : World) : Prop :=
  ∃ (pos b0 : Nat) (acc : List ByteArray), bg = .int .i64 b0 ∧ SInv p acc b0 pos ∧ wr.ownsRow w.heap.size 9 1 l acc.length (acc.map strV) ∧ wr.heap[w.heap.size + 1]? = some (.stringIter p pos) ∧ Below w.heap.size w wr

theorem srel_move {p : ByteArray} {w wr : World} {l : Value} {pos b0 : Nat} {acc : List ByteArray} (hi : SInv p acc b0 pos) (ho : wr.ownsRow w.heap.size 9 1 l acc.length (acc.map strV)) (hit : wr.heap[w.heap.size + 1]? = some (.stringIter p pos)) (hb : Below w.heap.size w wr)
    (hp : pos < p.size) (hc : ¬ (Utf8.decode p pos).1 = 47) : SRel p w l (.int .i64 b0) (wr.iterAt (w.heap.size + 1) p (pos + (Utf8.decode p pos).2)) := by
  refine ⟨pos + (Utf8.decode p pos).2, b0, acc, rfl, ?_, ownsRow_iter ho hit _, Lib.iterAt_heap _ _ _ _ _ hit, Lib.below_iterAt hb (by omega) _ _⟩
  by_cases hs : p[pos].toNat < 128
  · rw [decode_ascii p pos hp hs] at hc ⊢
    refine hi.move 1 (by omega) fun i hi1 h1 h2 => ?_
    obtain rfl : i = pos := by omega
    intro e
    exact hc (by rw [e]; rfl)
  · obtain ⟨_, h2, h3, h4⟩ := rune_wide p pos hp (by omega)
    refine hi.move _ h3 fun i hi1 h5 h6 => ?_
    have := h4 i hi1 h5 h6
    intro e
    rw [e] at this
    exact absurd this (by decide)
theorem srel_cut {p : ByteArray} {w wr w1 : World} {l l1 : Value} {pos b0 : Nat} {acc : List ByteArray} (hi : SInv p acc b0 pos) (ho : wr.ownsRow w.heap.size 9 1 l acc.length (acc.map strV)) (hit : wr.heap[w.heap.size + 1]? = some (.stringIter p pos)) (hb : Below w.heap.size w wr)
    (hp : pos < p.size) (hc : (Utf8.decode p pos).1 = 47)
    (h1 : w1.ownsRow w.heap.size 9 1 l1 (acc.length + 1) (acc.map strV ++ [strV (p.extract b0 pos)]))
    (hg : ((wr.iterAt (w.heap.size + 1) p (pos + 1)).alloc (.cells #[.string (p.extract b0 pos)] 9)).grownBy w1 l.ownBlock) : SRel p w l1 (.int .i64 ((pos + 1 : Nat) : Int)) w1 ∧ w1.heap[w.heap.size + 1]? = some (.stringIter p (pos + 1)) := by
  have hp47 : p[pos] = 47 := by
    by_cases hs : p[pos].toNat < 128
    · rw [decode_ascii p pos hp hs] at hc
      exact UInt8.toNat_inj.1 (by simpa using hc)
    · have := (decode_high p pos hp (by omega)).1; omega
  have ho2 := (ownsRow_iter ho hit (pos + 1))
  have hit2 := Lib.iterAt_heap wr (w.heap.size + 1) p pos (pos + 1) hit
  have hb2 := Lib.below_iterAt hb (k := w.heap.size + 1) (by omega) p (pos + 1)
  have hsz : w.heap.size + 1 < wr.heap.size := (Array.getElem?_eq_some_iff.1 hit).1
  have hsz2 : (wr.iterAt (w.heap.size + 1) p (pos + 1)).heap.size = wr.heap.size := Lib.iterAt_size _ _ _ _
  have hit3 : w1.heap[w.heap.size + 1]? = some (.stringIter p (pos + 1)) := by
    rw [hg.block _ (by simp [hsz2]; omega) (own_not_iter ho2 hit2), Below.heap_alloc _ _ _ (by omega)]
    exact hit2
  refine ⟨⟨pos + 1, pos + 1, acc ++ [p.extract b0 pos], rfl, hi.cut hp hp47, ?_, hit3, ?_⟩, hit3⟩
  · rw [acc_snoc] at h1; simpa using h1
  · refine (hb2.alloc (by omega) _).grown hg (by simp [hsz2]; omega) fun k hk => ?_
    exact (ho2.lt k hk).1

/-- The room that Split makes. -/
theorem make_room (n : Nat) (hn : n ≤ 1099511627776) : ∃ cs : Array Value, cs.size = n + 1 ∧
    ∀ W : World, (Instr.makeSlice 54 (.int .i64 0) (.int .i64 ((n : Int) + 1))).run Tryz.prog W = .ok (.slice (some ⟨W.heap.size, 0, none⟩) 0 (n + 1)) (W.alloc (.cells cs 9)) := by
  obtain ⟨i0, hi0, hz0, hz1, hz2⟩ := info_parts infoStr
  refine ⟨madeCells (Value.string ⟨#[]⟩).cells (n + 1), size_madeCells _ _, fun W => ?_⟩
  have h := run_make (P := Tryz.prog) W 54 9 i0 (.string ⟨#[]⟩) Tryz.underlying54 hi0 hz0 .i64 .i64 0 ((n : Int) + 1) (by omega) (by omega) (by rw [hz2]; omega) (by omega)
  rw [hz1, show ((n : Int) + 1).toNat = n + 1 by omega, Nat.mul_one] at h
  exact h

set_option maxRecDepth 100000 in
set_option maxHeartbeats 4000000 in
theorem split_any (p : ByteArray) (w : World) (hp : p.size ≤ 1099511627776) :
    Calls Tryz.prog 38 #[.string p] w (Splits p w) := by
  obtain ⟨i0, hi0, hz0, hz1, hz2⟩ := info_parts infoStr
  have hct : p.data.toList.count 47 ≤ p.size := List.count_le_length
  generalize hn : p.data.toList.count 47 = n at hct
  have HN := Lib.hid hn
  clear hn
  obtain ⟨cs, hcs, hmk⟩ := make_room n (by omega)
  have HC := Lib.hid hcs
  clear hcs
  have HI0 := Lib.hid hi0; have HZ0 := Lib.hid hz0; have HZ1 := Lib.hid hz1; have HZ2 := Lib.hid hz2
  clear hi0 hz0 hz1 hz2
  go_enter Tryz.func38, Tryz.ntmps38
  go_wp2_with (first
    | (go_at_call 66; ((with_reducible refine (strokes_any _ _).mono ?_); rintro e w' ⟨rfl, rfl⟩; rw [HN.out])))
  go_loopw [3, 4] (fun l bg wr => SRel p w l bg wr) (fun _ _ wr => p.size - wr.iterPos (w.heap.size + 1))
  case atStart =>
    refine ⟨0, 0, [], rfl, SInv.start p, ?_, ?_, ?_⟩
    · exact (World.ownsRow_made w cs (n + 1) (Nat.le_refl _) (by simp only [maxLen]; omega) (by rw [HC.out, Nat.mul_one])).alloc _
    · have := World.iter_heap (w.alloc (.cells cs 9)) p 0
      simpa using this
    · exact ((Below.refl _ _).alloc (Nat.le_refl _) _).alloc (by simp) _
  case round =>
    obtain ⟨pos, b0, acc, rfl, hi, ho, hit, hb⟩ := hrel
    have hle := hi.le
    have hlt := hi.lt
    have hal := hi.len
    have hsz : w.heap.size + 1 < wr.heap.size := (Array.getElem?_eq_some_iff.1 hit).1
    by_cases hpp : pos < p.size
    · have hnx : ∀ ty, (Instr.next (.pointer (some ⟨w.heap.size + 1, 0, none⟩)) true ty).run Tryz.prog wr = _ := fun ty => Lib.run_next_any_at wr (w.heap.size + 1) p pos ty hit hpp
      have hd1 := decode_le p pos
      by_cases h47 : (Utf8.decode p pos).1 = 47
      · have hone : (Utf8.decode p pos).2 = 1 := by
          by_cases hs : p[pos].toNat < 128
          · rw [decode_ascii p pos hpp hs]
          · have := (decode_high p pos hpp (by omega)).1; omega
        have HCut := Lib.hid (fun (w1 : World) (l1 : Value) => srel_cut (w1 := w1) (l1 := l1) hi ho hit hb hpp h47)
        rw [hone, h47] at hnx
        have ho2 := (ownsRow_iter ho hit (pos + 1)).alloc (.cells #[.string (p.extract b0 pos)] 9)
        have hit2 := Lib.hid (Lib.iterAt_heap wr (w.heap.size + 1) p pos (pos + 1) hit)
        have HIT := Lib.hid hit
        have hsz2 : (wr.iterAt (w.heap.size + 1) p (pos + 1)).heap.size = wr.heap.size := Lib.iterAt_size _ _ _ _
        have HSZ := Lib.hid hsz2
        clear h47 hone hit hsz2
        go_wp2_with (at_builtin; refine wpList_append_own _ rfl _ _ 54 rfl w.heap.size 9 i0 (.string ⟨#[]⟩) 1 16 Tryz.underlying54 HI0.out HZ0.out HZ1.out HZ2.out rfl (by decide) _ _ _ rfl ho2 ⟨(wr.iterAt (w.heap.size + 1) p (pos + 1)).heap.size, 0, none⟩ 1 1 ([p.extract b0 pos].map strV) rfl rfl ?c1 ?c2 ?c3 ?c4 ?c5 ?_)
        case c1 => exact cell_one_new _ _ _
        case c2 => exact strV_one _
        case c3 => simp only [maxLen]; omega
        case c4 => omega
        case c5 => simp [HSZ.out]; omega
        intro l1 w1 hown1 hg1 _
        have HR := Lib.hid (HCut.out w1 l1 hown1 hg1)
        clear hown1 hg1
        go_wp2
        go_roundw
        case rel => exact HR.out.1
        case measure =>
          rw [iterPos_of HR.out.2, iterPos_of HIT.out]
          omega
      · have HM := Lib.hid (srel_move hi ho hit hb hpp h47)
        have hb47 : (((Utf8.decode p pos).1 : Int) == 47) = false := beq_eq_false_iff_ne.2 (by omega)
        have hwd : 1 ≤ (Utf8.decode p pos).2 := by
          by_cases hs : p[pos].toNat < 128
          · rw [decode_ascii p pos hpp hs]; exact Nat.le_refl _
          · exact (decode_high p pos hpp (by omega)).2
        have HIT := Lib.hid hit
        clear h47 hit
        go_wp2
        go_roundw
        case rel => exact HM.out
        case measure =>
          rw [iterPos_of (Lib.iterAt_heap wr (w.heap.size + 1) p pos _ HIT.out), iterPos_of HIT.out]
          omega
    · have hnx : ∀ ty, (Instr.next (.pointer (some ⟨w.heap.size + 1, 0, none⟩)) true ty).run Tryz.prog wr = _ := fun ty => Lib.run_next_end_at wr (w.heap.size + 1) p pos ty hit hpp
      obtain rfl : pos = p.size := by omega
      have HD := Lib.hid hi.done
      have ho2 := ho.alloc (.cells #[.string (p.extract b0 p.size)] 9)
      clear hit
      go_wp2_with (at_builtin; refine wpList_append_own _ rfl _ _ 54 rfl w.heap.size 9 i0 (.string ⟨#[]⟩) 1 16 Tryz.underlying54 HI0.out HZ0.out HZ1.out HZ2.out rfl (by decide) _ _ _ rfl ho2 ⟨wr.heap.size, 0, none⟩ 1 1 ([p.extract b0 p.size].map strV) rfl rfl ?d1 ?d2 ?d3 ?d4 ?d5 ?_)
      case d1 => exact cell_one_new _ _ _
      case d2 => exact strV_one _
      case d3 => simp only [maxLen]; omega
      case d4 => omega
      case d5 => simp; omega
      intro l1 w1 hown1 hg1 _
      rw [acc_snoc] at hown1
      have HE := Lib.hid (splits_end hown1 HD.out ((hb.alloc (by omega) _).grown hg1 (by simp; omega) fun k hk => (ho.lt k hk).1))
      clear hown1 hg1
      go_wp2
      go_ret
      exact HE.out
end Go.Proofs.YtjieofiaoepccaaGreatDoor.L4

namespace Go.Proofs.YtjieofiaoepccaaGreatDoor.L4
open Go.RowKit

theorem idx (s : ByteArray) (k : Nat) (hlt : k < s.size) : ∃ c : Nat, RowKit.Hid (c = s[k].toNat) ∧ c < 256 ∧ ∀ wx, (Instr.index 9 (.string s) (.int .i64 k)).run Tryz.prog wx = .ok (.int .u8 c) wx :=
  ⟨s[k].toNat, rfl, s[k].toNat_lt, fun wx => by simp [go_sem, hlt]⟩

/-- What holds at each round's head of the document's Split. -/
def RRel (p : ByteArray) (w : World) (l bg iv : Value) (wr : World) : Prop :=
  ∃ (i b0 : Nat) (acc : List ByteArray), iv = .int .i64 i ∧ bg = .int .i64 b0 ∧ ((i ≤ p.size ∧ SInv p acc b0 i) ∨ (i = p.size + 1 ∧ acc = splS p)) ∧ acc.length ≤ p.size + 1 ∧ wr.ownsRow w.heap.size 9 1 l acc.length (acc.map strV) ∧ Below w.heap.size w wr

theorem rrel_move {p : ByteArray} {w wr : World} {l : Value} {i b0 : Nat} {acc : List ByteArray} (hi : SInv p acc b0 i) (ho : wr.ownsRow w.heap.size 9 1 l acc.length (acc.map strV)) (hb : Below w.heap.size w wr)
    (hp : i < p.size) (hc : p[i] ≠ 47) : RRel p w l (.int .i64 b0) (.int .i64 ((i + 1 : Nat) : Int)) wr :=
  ⟨i + 1, b0, acc, rfl, rfl, .inl ⟨hp, hi.move 1 hp fun j hj h1 h2 => by obtain rfl : j = i := by omega
                                                                         exact hc⟩, by have := hi.len; have := hi.le; omega, ho, hb⟩
theorem rrel_app {p : ByteArray} {w wr w1 : World} {l l1 : Value} {i b0 : Nat} {acc : List ByteArray} (hi : SInv p acc b0 i) (ho : wr.ownsRow w.heap.size 9 1 l acc.length (acc.map strV)) (hb : Below w.heap.size w wr)
    (hcase : (∃ hp : i < p.size, p[i] = 47) ∨ i = p.size)
    (h1 : w1.ownsRow w.heap.size 9 1 l1 (acc.length + 1) (acc.map strV ++ [strV (p.extract b0 i)]))
    (hg : (wr.alloc (.cells #[.string (p.extract b0 i)] 9)).grownBy w1 l.ownBlock) : RRel p w l1 (.int .i64 ((i + 1 : Nat) : Int)) (.int .i64 ((i + 1 : Nat) : Int)) w1 := by
  have hl := hi.len
  have hle := hi.le
  have hlt := hi.lt
  refine ⟨i + 1, i + 1, acc ++ [p.extract b0 i], rfl, rfl, ?_, by simp; omega, by rw [acc_snoc] at h1; simpa using h1, ?_⟩
  · rcases hcase with ⟨hp, hc⟩ | rfl
    · exact .inl ⟨hp, hi.cut hp hc⟩
    · exact .inr ⟨rfl, hi.done⟩
  · have := hb.size
    exact (hb.alloc (by omega) _).grown hg (by simp; omega) fun k hk => (ho.lt k hk).1

set_option maxRecDepth 100000 in
set_option maxHeartbeats 4000000 in
theorem rsplit_any (p : ByteArray) (w : World) (hp : p.size ≤ 1099511627776) :
    Calls Tryz.prog 40 #[.string p] w (Splits p w) := by
  obtain ⟨i0, hi0, hz0, hz1, hz2⟩ := info_parts infoStr
  have HI0 := Lib.hid hi0; have HZ0 := Lib.hid hz0; have HZ1 := Lib.hid hz1; have HZ2 := Lib.hid hz2
  clear hi0 hz0 hz1 hz2
  go_enter Tryz.func40, Tryz.ntmps40
  go_wp2
  go_loopw [3, 4, 5] (fun l bg iv wr => RRel p w l bg iv wr) (fun _ _ iv _ => p.size + 1 - (intOf iv).toNat)
  case atStart => exact ⟨0, 0, [], rfl, rfl, .inl ⟨Nat.zero_le _, SInv.start p⟩, by simp, World.ownsRow_nil _ _ _ _, Below.refl _ _⟩
  case round =>
    obtain ⟨i, b0, acc, rfl, rfl, hc, hal, ho, hb⟩ := hrel
    have hsz := hb.size
    rcases hc with ⟨hi1, hi⟩ | ⟨rfl, ha⟩
    · have hle := hi.le
      by_cases he : i = p.size
      · have H1 := Lib.hid (fun (w1 : World) (l1 : Value) => rrel_app (w1 := w1) (l1 := l1) hi ho hb (.inr he))
        have hb1 : ((i : Int) == (p.size : Int)) = true := beq_iff_eq.2 (by omega)
        have hb2 : (i == p.size) = true := beq_iff_eq.2 he
        have ho2 := ho.alloc (.cells #[.string (p.extract b0 i)] 9)
        have hi2 : p.size ≤ i := by omega
        clear he
        go_wp2_with (at_builtin; refine wpList_append_own _ rfl _ _ 54 rfl w.heap.size 9 i0 (.string ⟨#[]⟩) 1 16 Tryz.underlying54 HI0.out HZ0.out HZ1.out HZ2.out rfl (by decide) _ _ _ rfl ho2 ⟨wr.heap.size, 0, none⟩ 1 1 ([p.extract b0 i].map strV) rfl rfl ?d1 ?d2 ?d3 ?d4 ?d5 ?_)
        case d1 => exact cell_one_new _ _ _
        case d2 => exact strV_one _
        case d3 => simp only [maxLen]; omega
        case d4 => omega
        case d5 => simp; omega
        intro l1 w1 hown1 hg1 _
        have HR := Lib.hid (H1.out w1 l1 hown1 hg1)
        clear hown1 hg1
        go_wp2
        go_roundw
        case rel => exact HR.out
        case measure => simp [intOf]; omega
      · have hb1 : ((i : Int) == (p.size : Int)) = false := beq_eq_false_iff_ne.2 (by omega)
        have hb2 : (i == p.size) = false := beq_eq_false_iff_ne.2 he
        have hlt : i < p.size := by omega
        obtain ⟨c, HC, hc256, hix⟩ := idx p i hlt
        by_cases h47 : c = 47
        · have hp47 : p[i] = 47 := UInt8.toNat_inj.1 (by rw [← HC.out, h47]; rfl)
          have H1 := Lib.hid (fun (w1 : World) (l1 : Value) => rrel_app (w1 := w1) (l1 := l1) hi ho hb (.inl ⟨hlt, hp47⟩))
          have hcb : ((c : Int) == 47) = true := beq_iff_eq.2 (by omega)
          have ho2 := ho.alloc (.cells #[.string (p.extract b0 i)] 9)
          clear hp47 h47 he
          go_wp2_with (at_builtin; refine wpList_append_own _ rfl _ _ 54 rfl w.heap.size 9 i0 (.string ⟨#[]⟩) 1 16 Tryz.underlying54 HI0.out HZ0.out HZ1.out HZ2.out rfl (by decide) _ _ _ rfl ho2 ⟨wr.heap.size, 0, none⟩ 1 1 ([p.extract b0 i].map strV) rfl rfl ?e1 ?e2 ?e3 ?e4 ?e5 ?_)
          case e1 => exact cell_one_new _ _ _
          case e2 => exact strV_one _
          case e3 => simp only [maxLen]; omega
          case e4 => omega
          case e5 => simp; omega
          intro l1 w1 hown1 hg1 _
          have HR := Lib.hid (H1.out w1 l1 hown1 hg1)
          clear hown1 hg1
          go_wp2
          go_roundw
          case rel => exact HR.out
          case measure => simp [intOf]; omega
        · have hcb : ((c : Int) == 47) = false := beq_eq_false_iff_ne.2 (by omega)
          have HR := Lib.hid (rrel_move hi ho hb hlt (fun e => h47 (by rw [HC.out, e]; rfl)))
          clear h47 he
          go_wp2
          go_roundw
          case rel => exact HR.out
          case measure => simp [intOf]; omega
    · have HE := Lib.hid (splits_end ho ha hb)
      clear ha
      go_wp2
      go_ret
      exact HE.out
end Go.Proofs.YtjieofiaoepccaaGreatDoor.L4

