/-
  What is proved: the library's insertion sort, stable sort (at up to 40 fields) and Clone at fields: the row is in order by the paths, those of one path as they stood; all else is kept.
  schema.Of (P11.3), called with any slice of up to 40 fields, returns them by their paths, those of one path as they came; the world has new blocks at most.
-/
import Derived.Test.YtofnpifooaijcaaGreatM36
import Derived.Test.YtofnpifooaijcaaGreatM6
import Derived.Test.YtofnpifooaijcaaGreatM12
import Derived.Test.YtofnpifooaijcaaGreatM13
namespace Go.Proofs.YtofnpifooaijcaaGreat
open Go.Shelf Go.RowKit Go.Lib Go.Sort
set_option linter.unusedVariables false
structure Srt (w0 : World) (g pb : Nat) (L : List Fd) : Prop where
  row : RowK cellF 6 w0 g 0 L.toArray
  fn : w0.cell? ⟨pb, 0, none⟩ = some (.func (.func 91) #[] #[])
  ne : pb ≠ g
  few : L.length ≤ 40
theorem Srt.lays {w0 : World} {g pb : Nat} {L : List Fd} (h : Srt w0 g pb L) : CmpLays Tryz.prog 135 #[.pointer (some ⟨pb, 0, none⟩)] cellF 6 cmpF g 0 L.toArray.size w0 := cmpLaysF pb g _ w0 h.fn h.ne
theorem eg_fn : ∀ args w, (callFunc 135 args).run Tryz.prog w = .ok (.enter 135 args) w := enters_of Tryz.func135 (by kernel_rfl) rfl
theorem cellF_len (x : Fd) : (cellF x).length = 6 := rfl
theorem cellF_one (x : Fd) : ∀ v ∈ cellF x, v.oneCell' = true := fun v hv => flatF_one [x] v (by simpa [flatF] using hv)
theorem insp_any {w0 : World} {g pb : Nat} {L : List Fd} (h : Srt w0 g pb L) (cap a b : Nat) (Pr X S : List Fd) (W : World) (ha : a = Pr.length) (hb : b = Pr.length + X.length) (hL : b + S.length = L.length) (H : SWF cellF 6 w0 g 0 (Pr ++ (X ++ S)) W) :
    Calls Tryz.prog 167 #[.slice (some ⟨g, 0, none⟩) L.length cap, .int .i64 a, .int .i64 b, .func (.func 135) #[] #[.pointer (some ⟨pb, 0, none⟩)]] W fun e w' => e = .returned (.tuple #[]) ∧ ∃ Z, Z.length = X.length ∧ Flat Z ∧ Stab Z X ∧ SWF cellF 6 w0 g 0 (Pr ++ (Z ++ S)) w' := by
  have hsz : (Pr ++ (X ++ S)).toArray.size = L.toArray.size := by simp only [List.size_toArray, List.length_append]; omega
  have hh := H.holds h.row.hblk h.row.hH hsz
  have hblk := h.row.hblk
  have hpb : W.cell? ⟨pb, 0, none⟩ = some (.func (.func 91) #[] #[]) := by
    obtain ⟨n, os, hW⟩ := H
    rw [hW]; exact cell_sortK (World.block_lt_of_cell? w0 _ h.fn) h.ne h.fn
  have hc := AnyQ.insertionSortCmpFunc Tryz.insFields 6 Tryz.isAgg28 Tryz.sizeOf28 cellF cellF_len cellF_one cmpF 135 #[.pointer (some ⟨pb, 0, none⟩)] g 0 cap a b (Pr ++ (X ++ S)).toArray W eg_fn (cmpLaysF pb g _ W hpb h.ne) hh (H.lt hblk) (by omega) (by rw [hsz]; simp only [List.size_toArray]; omega) (by rw [hsz]; simp only [List.size_toArray]; have := h.few; omega)
  obtain ⟨Z, z1, z2, z3, z4⟩ := ins_part Pr X S ha hb
  rw [List.append_assoc] at z1
  rw [hsz, List.size_toArray, cmpF_lto, z1] at hc
  refine hc.mono ?_
  rintro e w' ⟨rfl, n, os, rfl⟩
  refine ⟨rfl, Z, z2, z3, z4, ?_⟩
  have := SWK.on H hblk n (Pr ++ Z ++ S).toArray os (by simp only [List.size_toArray, List.length_append]; omega)
  show SWF _ _ _ _ _ _ _
  rw [← List.append_assoc]
  exact this
set_option maxRecDepth 100000 in
set_option maxHeartbeats 4000000 in
theorem insn_any (A : Option Addr) (c : Nat) (f : Value) (w : World) : Calls Tryz.prog 167 #[.slice A 0 c, .int .i64 0, .int .i64 0, f] w fun e w' => e = .returned (.tuple #[]) ∧ w' = w := by
  go_enter Tryz.func167, Tryz.ntmps167
  go_wp2
  refine wp_loop_rounds 1 ?_
  rw [rounds_succ]
  go_wp2
  go_end0
  exact ⟨rfl, rfl⟩
set_option maxRecDepth 100000 in
set_option maxHeartbeats 4000000 in
theorem stabn_any (A : Option Addr) (c : Nat) (f : Value) (w : World) : Calls Tryz.prog 154 #[.slice A 0 c, .int .i64 0, f] w fun e w' => e = .returned (.tuple #[]) ∧ w' = w := by
  go_enter Tryz.func154, Tryz.ntmps154
  go_wp2
  refine wp_loop_rounds 1 ?_
  rw [rounds_succ]
  go_wp2_with (go_at_call 167; refine (insn_any _ _ _ _).mono ?_; rintro e w1 ⟨rfl, rfl⟩)
  refine wp_loop_rounds 1 ?_
  rw [rounds_succ]
  go_wp2
  go_end0
  exact ⟨rfl, rfl⟩
def StbS (w0 : World) (g : Nat) (L : List Fd) (e : Ending) (w' : World) : Prop := e = .returned (.tuple #[]) ∧ SWF cellF 6 w0 g 0 (ofF L) w'
set_option maxRecDepth 100000 in
set_option maxHeartbeats 4000000 in
theorem stab_few {w0 : World} {g pb : Nat} {L : List Fd} (h : Srt w0 g pb L) (cap n : Nat) (hn : n = L.length) (h0 : 0 < n) (h1 : n < 20) :
    Calls Tryz.prog 154 #[.slice (some ⟨g, 0, none⟩) n cap, .int .i64 n, .func (.func 135) #[] #[.pointer (some ⟨pb, 0, none⟩)]] w0 (StbS w0 g L) := by
  have HH := Lib.hid h
  have S0 : Aside (SWF cellF 6 w0 g 0 L w0) := SWK.start h.row.hH
  have hfew := h.few
  have q1 : ¬ (20 : Int) ≤ (n : Int) := by omega
  have q2 : ¬ (20 : Int) < (n : Int) := by omega
  have HI := Lib.hid (insp_any h cap 0 n [] L [] w0 rfl (by simp; omega) (by simp; omega) (by simpa using S0.out))
  rw [← hn] at HI
  have HN := Lib.hid hn
  clear hn h
  go_enter Tryz.func154, Tryz.ntmps154
  go_wp2
  refine wp_loop_rounds 1 ?_
  rw [rounds_succ]
  go_wp2_with (go_at_call 167; refine HI.out.mono ?_; rintro e w1 ⟨rfl, Z, z1, z2, z3, hS⟩)
  refine wp_loop_rounds 1 ?_
  rw [rounds_succ]
  go_wp2
  go_end0
  refine ⟨rfl, ?_⟩
  rw [← ofF_is z2 z3]
  simpa using hS
set_option maxRecDepth 100000 in
set_option maxHeartbeats 4000000 in
theorem stab_one {w0 : World} {g pb : Nat} {L : List Fd} (h : Srt w0 g pb L) (cap n : Nat) (hn : n = L.length) (h0 : 0 < n) (h1 : n = 20) :
    Calls Tryz.prog 154 #[.slice (some ⟨g, 0, none⟩) n cap, .int .i64 n, .func (.func 135) #[] #[.pointer (some ⟨pb, 0, none⟩)]] w0 (StbS w0 g L) := by
  have HH := Lib.hid h
  have S0 : Aside (SWF cellF 6 w0 g 0 L w0) := SWK.start h.row.hH
  have hfew := h.few
  have HI := Lib.hid (insp_any h cap 0 20 [] L [] w0 rfl (by simp; omega) (by simp; omega) (by simpa using S0.out))
  rw [← hn, h1] at HI
  have HN := Lib.hid hn
  clear hn h
  go_enter Tryz.func154, Tryz.ntmps154
  subst h1
  go_wp2
  refine wp_loop_rounds 2 ?_
  rw [rounds_succ]
  go_wp2_with (go_at_call 167; refine HI.out.mono ?_; rintro e w1 ⟨rfl, Z, z1, z2, z3, hS⟩)
  have HJ := Lib.hid (insp_any HH.out cap 20 20 Z [] [] w1 (by have := HN.out; omega) (by have := HN.out; simp; omega) (by have := HN.out; simp; omega) (by simpa using hS))
  rw [← HN.out] at HJ
  have HZ := Lib.hid (ofF_is z2 z3)
  clear hS z1 z2 z3
  try rw [rounds_succ]
  go_wp2_with (go_at_call 167; refine HJ.out.mono ?_; rintro e w2 ⟨rfl, Z2, z1, z2, z3, hS⟩)
  refine wp_loop_rounds 1 ?_
  rw [rounds_succ]
  go_wp2
  go_end0
  refine ⟨rfl, ?_⟩
  obtain rfl : Z2 = [] := List.eq_nil_of_length_eq_zero z1
  rw [← HZ.out]
  simpa using hS
set_option maxRecDepth 100000 in
set_option maxHeartbeats 4000000 in
theorem stab_two {w0 : World} {g pb : Nat} {L : List Fd} (h : Srt w0 g pb L) (cap n : Nat) (hn : n = L.length) (h0 : 0 < n) (h1 : 20 < n) (h2 : n < 40) :
    Calls Tryz.prog 154 #[.slice (some ⟨g, 0, none⟩) n cap, .int .i64 n, .func (.func 135) #[] #[.pointer (some ⟨pb, 0, none⟩)]] w0 (StbS w0 g L) := by
  have HH := Lib.hid h
  have S0 : Aside (SWF cellF 6 w0 g 0 L w0) := SWK.start h.row.hH
  have hfew := h.few
  have q1 : (20 : Int) ≤ (n : Int) := by omega
  have q2 : (20 : Int) < (n : Int) := by omega
  have q3 : ¬ (40 : Int) ≤ (n : Int) := by omega
  have q4 : ¬ (40 : Int) < (n : Int) := by omega
  have HI := Lib.hid (insp_any h cap 0 20 [] (L.take 20) (L.drop 20) w0 rfl (by rw [List.length_take, List.length_nil]; omega) (by rw [List.length_drop]; omega) (by simpa using S0.out))
  rw [← hn] at HI
  have HN := Lib.hid hn
  clear hn h
  go_enter Tryz.func154, Tryz.ntmps154
  go_wp2
  refine wp_loop_rounds 2 ?_
  rw [rounds_succ]
  go_wp2_with (go_at_call 167; refine HI.out.mono ?_; rintro e w1 ⟨rfl, Z1, z1, f1, s1, hS⟩)
  have HJ := Lib.hid (insp_any HH.out cap 20 n Z1 (L.drop 20) [] w1 (by rw [z1, List.length_take]; have := HN.out; omega) (by rw [z1, List.length_take, List.length_drop]; have := HN.out; omega) (by have := HN.out; simp; omega) (by simpa using hS))
  rw [← HN.out] at HJ
  have Hz1 := Lib.hid z1; have Hf1 := Lib.hid f1; have Hs1 := Lib.hid s1
  clear hS z1 f1 s1
  try rw [rounds_succ]
  go_wp2_with (go_at_call 167; refine HJ.out.mono ?_; rintro e w2 ⟨rfl, Z2, z2, f2, s2, hS⟩)
  have HM := Lib.hid (sym_any 6 sortP cellF cmpF cmpF_lt 135 #[.pointer (some ⟨pb, 0, none⟩)] g 0 cap L.length L.toArray w0 eg_fn HH.out.lays HH.out.row (by simp) (by have := HH.out.few; omega) _ 0 20 n [] Z1 Z2 [] w2 rfl (by rw [Hz1.out, List.length_take]; have := HN.out; omega) (by rw [z2, List.length_drop]; have := HN.out; omega) rfl (by rw [Hz1.out, List.length_take]; simp; have := HN.out; omega) (by rw [Hz1.out, z2, List.length_take, List.length_drop]; simp; have := HN.out; omega) (by simpa using HN.out) Hf1.out f2 (by simpa using hS))
  rw [← HN.out] at HM
  have HS := Lib.hid s2
  clear hS z2 f2 s2
  refine wp_loop_rounds 2 ?_
  rw [rounds_succ]
  go_wp2
  refine wp_loop_rounds 1 ?_
  rw [rounds_succ]
  go_wp2_with (go_at_call 168; refine HM.out.mono ?_; rintro e w3 ⟨rfl, Z, z, f, s, hS⟩)
  try rw [rounds_succ]
  go_wp2
  go_end0
  refine ⟨rfl, ?_⟩
  have hz : Stab Z L := by
    have := s.trans (Hs1.out.app HS.out)
    rwa [List.take_append_drop] at this
  rw [← ofF_is f hz]
  simpa using hS
set_option maxRecDepth 100000 in
set_option maxHeartbeats 4000000 in
theorem stab_all {w0 : World} {g pb : Nat} {L : List Fd} (h : Srt w0 g pb L) (cap n : Nat) (hn : n = L.length) (h0 : 0 < n) (h1 : n = 40) :
    Calls Tryz.prog 154 #[.slice (some ⟨g, 0, none⟩) n cap, .int .i64 n, .func (.func 135) #[] #[.pointer (some ⟨pb, 0, none⟩)]] w0 (StbS w0 g L) := by
  have HH := Lib.hid h
  have S0 : Aside (SWF cellF 6 w0 g 0 L w0) := SWK.start h.row.hH
  have hfew := h.few
  have HI := Lib.hid (insp_any h cap 0 20 [] (L.take 20) (L.drop 20) w0 rfl (by rw [List.length_take, List.length_nil]; omega) (by rw [List.length_drop]; omega) (by simpa using S0.out))
  rw [← hn, h1] at HI
  have HN := Lib.hid hn
  clear hn h
  go_enter Tryz.func154, Tryz.ntmps154
  subst h1
  go_wp2
  refine wp_loop_rounds 3 ?_
  rw [rounds_succ]
  go_wp2_with (go_at_call 167; refine HI.out.mono ?_; rintro e w1 ⟨rfl, Z1, z1, f1, s1, hS⟩)
  have HJ := Lib.hid (insp_any HH.out cap 20 40 Z1 (L.drop 20) [] w1 (by rw [z1, List.length_take]; have := HN.out; omega) (by rw [z1, List.length_take, List.length_drop]; have := HN.out; omega) (by have := HN.out; simp; omega) (by simpa using hS))
  rw [← HN.out] at HJ
  have Hz1 := Lib.hid z1; have Hf1 := Lib.hid f1; have Hs1 := Lib.hid s1
  clear hS z1 f1 s1
  try rw [rounds_succ]
  go_wp2_with (go_at_call 167; refine HJ.out.mono ?_; rintro e w2 ⟨rfl, Z2, z2, f2, s2, hS⟩)
  have HK := Lib.hid (insp_any HH.out cap 40 40 (Z1 ++ Z2) [] [] w2 (by rw [List.length_append, Hz1.out, z2, List.length_take, List.length_drop]; have := HN.out; omega) (by rw [List.length_append, Hz1.out, z2, List.length_take, List.length_drop]; have := HN.out; simp; omega) (by have := HN.out; simp; omega) (by simpa using hS))
  rw [← HN.out] at HK
  have Hz2 := Lib.hid z2; have Hf2 := Lib.hid f2; have Hs2 := Lib.hid s2
  clear hS z2 f2 s2
  try rw [rounds_succ]
  go_wp2_with (go_at_call 167; refine HK.out.mono ?_; rintro e w2b ⟨rfl, Z3, z3, f3, s3, hS⟩)
  obtain rfl : Z3 = [] := List.eq_nil_of_length_eq_zero z3
  have HM := Lib.hid (sym_any 6 sortP cellF cmpF cmpF_lt 135 #[.pointer (some ⟨pb, 0, none⟩)] g 0 cap L.length L.toArray w0 eg_fn HH.out.lays HH.out.row (by simp) (by have := HH.out.few; omega) _ 0 20 40 [] Z1 Z2 [] w2b rfl (by rw [Hz1.out, List.length_take]; have := HN.out; omega) (by rw [Hz2.out, List.length_drop]; have := HN.out; omega) rfl (by rw [Hz1.out, List.length_take]; simp; have := HN.out; omega) (by rw [Hz1.out, Hz2.out, List.length_take, List.length_drop]; simp; have := HN.out; omega) (by simpa using HN.out) Hf1.out Hf2.out (by simpa using hS))
  rw [← HN.out] at HM
  clear hS z3 f3 s3
  refine wp_loop_rounds 2 ?_
  rw [rounds_succ]
  go_wp2
  refine wp_loop_rounds 2 ?_
  rw [rounds_succ]
  go_wp2_with (go_at_call 168; refine HM.out.mono ?_; rintro e w3 ⟨rfl, Z, z, f, s, hS⟩)
  try rw [rounds_succ]
  go_wp2
  try rw [rounds_succ]
  go_wp2
  go_end0
  refine ⟨rfl, ?_⟩
  have hz : Stab Z L := by
    have := s.trans (Hs1.out.app Hs2.out)
    rwa [List.take_append_drop] at this
  rw [← ofF_is f hz]
  simpa using hS
theorem stab_any {w0 : World} {g pb : Nat} {L : List Fd} (h : Srt w0 g pb L) (cap n : Nat) (hn : n = L.length) (h0 : 0 < n) :
    Calls Tryz.prog 154 #[.slice (some ⟨g, 0, none⟩) n cap, .int .i64 n, .func (.func 135) #[] #[.pointer (some ⟨pb, 0, none⟩)]] w0 (StbS w0 g L) := by
  have := h.few
  by_cases h1 : n < 20
  · exact stab_few h cap n hn h0 h1
  · by_cases h2 : n = 20
    · exact stab_one h cap n hn h0 h2
    · by_cases h3 : n < 40
      · exact stab_two h cap n hn h0 (by omega) h3
      · exact stab_all h cap n hn h0 (by omega)
end Go.Proofs.YtofnpifooaijcaaGreat
namespace Go.Proofs.YtofnpifooaijcaaGreat
open Go.RowKit Go.Lib Go.Sort
set_option linter.unusedVariables false
set_option maxRecDepth 100000 in
set_option maxHeartbeats 4000000 in
theorem clf_any (A : Option Addr) (n c : Nat) (L : List Fd) (w : World) (h : Fl w A n c L) (hn : n ≤ 1000000) :
    Calls Tryz.prog 83 #[.slice A n c] w fun e w' => ∃ v, e = .returned v ∧ OutF w w' v L := by
  have q22 : ∀ (w : World) (a : Option Addr) (n c n' c' : Nat), (binOp .eql 22 (.slice a n c) (.slice none n' c')).run Tryz.prog w = .ok (.bool a.isNone) w := fun w a n c n' c' => Lib.run_eql_slice_nil w _ _ a n c n' c' Tryz.underlying22
  cases A with
  | none =>
    obtain rfl : n = 0 := by have := h.2.2.2.1 rfl; have := h.2.1; omega
    have hL : L = [] := List.eq_nil_of_length_eq_zero h.1.symm
    subst hL
    clear h
    go_enter Tryz.func83, Tryz.ntmps83
    go_wp2
    go_ret
    exact ⟨_, rfl, OutF.start w⟩
  | some ad =>
    obtain ⟨v1, w1, hr1, ho1⟩ := (OutF.made (Kept.refl w)).app (some ad) n c L (h.kept ((Kept.refl w).alloc #[] 28)) (by simp; omega)
    rw [List.nil_append] at ho1
    have HR1 := Lib.hid hr1
    have HO1 := Lib.hid ho1
    clear hr1 ho1 h
    go_enter Tryz.func83, Tryz.ntmps83
    go_wp2_with (at_builtin; refine Lib.wpList_append_run _ rfl _ _ _ _ rfl _ _ rfl rfl _ _ HR1.out ?_)
    go_ret
    exact ⟨_, rfl, HO1.out⟩
set_option maxRecDepth 100000 in
set_option maxHeartbeats 4000000 in
theorem sorn_any (A : Option Addr) (c : Nat) (f : Value) (w : World) : Calls Tryz.prog 134 #[.slice A 0 c, f] w fun e w' => e = .returned (.tuple #[]) ∧ w' = w := by
  go_enter Tryz.func134, Tryz.ntmps134
  go_wp2_with (go_at_call 154; refine (stabn_any _ _ _ _).mono ?_; rintro e w1 ⟨rfl, rfl⟩)
  go_end0
  exact ⟨rfl, rfl⟩
set_option maxRecDepth 100000 in
set_option maxHeartbeats 4000000 in
theorem sor_any {w0 : World} {g pb : Nat} {L : List Fd} (h : Srt w0 g pb L) (cap n : Nat) (hn : n = L.length) (h0 : 0 < n) :
    Calls Tryz.prog 134 #[.slice (some ⟨g, 0, none⟩) n cap, .func (.func 135) #[] #[.pointer (some ⟨pb, 0, none⟩)]] w0 (StbS w0 g L) := by
  have HS := Lib.hid (stab_any h cap n hn h0)
  clear h hn h0
  go_enter Tryz.func134, Tryz.ntmps134
  go_wp2_with (go_at_call 154; refine HS.out.mono ?_; rintro e w1 ⟨rfl, hS⟩)
  go_end0
  exact ⟨rfl, hS⟩
set_option maxRecDepth 100000 in
set_option maxHeartbeats 4000000 in
theorem placed_any (A : Option Addr) (n c : Nat) (L : List Fd) (w : World) (h : Fl w A n c L) (hn : n ≤ 40) :
    Calls Tryz.prog 90 #[.slice A n c, .func (.func 91) #[] #[]] w fun e w' => ∃ A c, e = .returned (.slice A L.length c) ∧ Fl w' A L.length c (ofF L) ∧ Kept w w' := by
  have hk := (Kept.refl w).alloc #[.func (.func 91) #[] #[]] 90
  have hb : (w.alloc (.cells #[.func (.func 91) #[] #[]] 90)).cell? ⟨w.heap.size, 0, none⟩ = some (.func (.func 91) #[] #[]) := (Kept.refl _).box 0 _ rfl
  have HL := Lib.hid h.1
  have hlt : w.heap.size < (w.alloc (.cells #[.func (.func 91) #[] #[]] 90)).heap.size := by simp
  obtain ⟨U, hU⟩ : ∃ U, w.alloc (.cells #[.func (.func 91) #[] #[]] 90) = U := ⟨_, rfl⟩
  rw [hU] at hk hb hlt
  have AC := Lib.hid (clf_any A n c L U (h.kept hk) (by omega))
  have HK := Lib.hid hk; have HB := Lib.hid hb; have HUU := Lib.hid hU; have HLT := Lib.hid hlt
  have hmf : ∀ W : World, (Instr.makeFunc (.func 135) #[] #[.pointer (some ⟨w.heap.size, 0, none⟩)]).run Tryz.prog W = .ok (.func (.func 135) #[] #[.pointer (some ⟨w.heap.size, 0, none⟩)]) W := fun W => rfl
  clear h hk hb hU hlt
  go_enter Tryz.func90, Tryz.ntmps90
  go_wp2_with fail
  rw [HUU.out]
  go_wp2_with fail
  go_at_call 83
  refine AC.out.mono ?_
  rintro e w1 ⟨v, rfl, ho⟩
  by_cases h0 : L.length = 0
  · obtain ⟨A1, c1, rfl, hf, _, _, _⟩ := ho.form
    have HO := Lib.hid ho.ke
    have hL : L = [] := List.eq_nil_of_length_eq_zero h0
    have H0 := Lib.hid h0
    have HF := Lib.hid hf
    rw [h0] at HF ⊢
    clear ho hf h0
    go_wp2_with (go_at_call 134; refine (sorn_any _ _ _ _).mono ?_; rintro e w2 ⟨rfl, rfl⟩)
    go_ret
    refine ⟨A1, c1, by rw [H0.out]; rfl, ?_, HK.out.trans HO.out⟩
    have := HF.out
    rw [hL] at this ⊢
    exact this
  · obtain ⟨g, cap, rfl, hb, hcap⟩ : ∃ g cap, v = .slice (some ⟨g, 0, none⟩) L.length cap ∧ U.heap.size ≤ g ∧ L.length ≤ cap ∧ cap ≤ maxLen := by
      rcases ho.own.2 with ⟨_, e⟩ | ⟨g, cap, cur, rfl, hb, _, h1, h2, _⟩
      · exact absurd e h0
      · exact ⟨g, cap, rfl, hb, h1, h2⟩
    have hs : Srt w1 g w.heap.size L := ⟨rowK_of (holdsK_of ho.own) (by omega), ho.ke.cell HB.out, by have := HLT.out; omega, by have := HL.out; omega⟩
    have AS := Lib.hid (sor_any hs cap L.length rfl (by omega))
    have HS := Lib.hid hs
    have HO := Lib.hid ho.ke; have HG := Lib.hid hb; have HC := Lib.hid hcap
    clear ho hs h0 hb hcap
    go_wp2_with (go_at_call 134; refine AS.out.mono ?_; rintro e w2 ⟨rfl, hS⟩)
    go_ret
    refine ⟨some ⟨g, 0, none⟩, cap, rfl, ?_, ?_⟩
    · have hh := hS.holds HS.out.row.hblk HS.out.row.hH (by simp only [List.size_toArray]; rw [ofF_len])
      exact fl_of hh (ofF_len L).symm HC.out.1 HC.out.2
    · obtain ⟨m, os, hw⟩ := hS
      rw [hw]
      exact kept_sortK (HK.out.trans HO.out) (Nat.le_trans HK.out.2.2 HG.out)
set_option maxRecDepth 100000 in
set_option maxHeartbeats 4000000 in
theorem sof_any (A : Option Addr) (n c : Nat) (L : List Fd) (w : World) (h : Fl w A n c L) (hn : n ≤ 40) :
    Calls Tryz.prog 31 #[.slice A n c] w (OfS L w) := by
  have hk := (Kept.refl w).alloc #[.slice none 0 0] 24
  have HRES := Lib.hid (Box1.new w (.slice none 0 0) 24)
  have HK := Lib.hid hk
  have AC := Lib.hid (placed_any A n c L _ (h.kept hk) hn)
  clear hk h hn
  go_enter Tryz.func31, Tryz.ntmps31
  go_wp2_with fail
  go_at_call 90
  refine AC.out.mono ?_
  rintro e w1 ⟨A', c', rfl, hf, hk⟩
  have hr := HRES.out.kept hk
  have rf := hr.f
  have r0 := hr.c0
  have HF := Lib.hid (show OfS L w _ _ from ⟨A', c', rfl, hr.fl _ hf, (HK.out.trans hk).setCell (a := ⟨w.heap.size, 0, none⟩) (Nat.le_refl _) (.slice A' L.length c')⟩)
  clear hr hf hk
  go_wp2_with fail
  exact bodyPost_ret (by simp [results, Tryz.results31, go_sem, *]) rfl HF.out
end Go.Proofs.YtofnpifooaijcaaGreat
