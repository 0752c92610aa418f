/-
  What is proved: path.strokes, path.Split and the document's Split, called with any text of up to 2^40 bytes, return how many strokes it has, and its segments, in new memory (P4.2); the world has new blocks at most.
  path.Join and the document's Join, called with a slice of up to a million texts of up to a million bytes each, return these with strokes between (P4.3); the world has new blocks at most.
  slices.Grow of the nil slice, and slices.Concat of any slices of texts (a million texts at most in all), as the library's text has them, at texts: the result lies in a row of its own and holds the slices' texts, one slice behind the other; the world has new blocks at most.
  path.Swap, called with any text of up to 2000 bytes, any place, and any slice of up to 1000 texts of up to 2000 bytes (nil let in), returns what P4.9 says; the world has new blocks at most.
  plain facts on where a field is behind a step (P14.2): as path.Swap has it, and, where the step's own parts are right, one prefix in the place of another; no program is spoken of here.
-/
import Derived.Test.YtofnpifooaijcaaGreatM5
import Derived.Test.YtofnpifooaijcaaGreatM8
import Derived.Lib.AppendZerosOnto
import Derived.Lib.AppendZeros
import Derived.Lib.SliceRun
import Derived.Lib.Walk
import Derived.StillTailTactics
import Derived.BigQuiet
import Derived.IntWalk
namespace Go.Proofs.YtofnpifooaijcaaGreat.L4
open Go.RowKit
theorem strokes_any (p : ByteArray) (w : World) :
    Calls Tryz.prog 113 #[.string p] w fun e w' => e = .returned (.int .i64 (p.data.toList.count 47 : Nat)) ∧ w = w' := by
  go_enter Tryz.func113, Tryz.ntmps113
  go_wp2_with (go_at_call 145; ((with_reducible refine (Tryz.strings_Count_one _ 47 _).mono ?_); rintro e w' ⟨rfl, rfl⟩))
  go_ret
  exact ⟨rfl, rfl⟩
theorem infoStr : (Tryz.prog.info? 9).map (fun i => (i.zero, i.size, i.bytes)) = some (some (.string ⟨#[]⟩), 1, 16) := by kernel_rfl
def Splits (p : ByteArray) (w : World) (e : Ending) (w' : World) : Prop :=
  ∃ b c, e = .returned (.slice (some ⟨b, 0, none⟩) (splS p).length c) ∧ Sl w' ⟨b, 0, none⟩ (splS p).length c (splS p) ∧ w.heap.size ≤ b ∧ Ke w w'
theorem splits_end {p : ByteArray} {w w' : World} {v : Value} {n : Nat} {acc : List ByteArray} (h : w'.ownsRow w.heap.size 9 1 v n (acc.map strV)) (ha : acc = splS p) (hk : Below w.heap.size w w') : Splits p w (.returned v) w' := by
  subst ha
  have hn : (splS p).length = n := by simpa using h.1
  have hp := splS_pos p
  subst hn
  obtain ⟨g, c, rfl, hb, hs⟩ := Sl.of_own h hp
  exact ⟨g, c, rfl, hs, hb, hk⟩
theorem ownsRow_iter {w : World} {base : Nat} {e : TypeId} {size : Nat} {v : Value} {n : Nat} {xs : List Value} (h : w.ownsRow base e size v n xs) {k : Nat} {s : ByteArray} {pos : Nat} (hk : w.heap[k]? = some (.stringIter s pos)) (q : Nat) : (w.iterAt k s q).ownsRow base e size v n xs := by
  obtain ⟨h1, h2⟩ := h
  refine ⟨h1, ?_⟩
  rcases h2 with h2 | ⟨g, cap, cur, hv, hb, hg, r⟩
  · exact .inl h2
  · refine .inr ⟨g, cap, cur, hv, hb, ?_, r⟩
    rw [Lib.iterAt_other _ _ _ _ _ (fun e => by rw [e, hk] at hg; cases hg)]
    exact hg
theorem own_not_iter {w : World} {base : Nat} {e : TypeId} {size : Nat} {v : Value} {n : Nat} {xs : List Value} (h : w.ownsRow base e size v n xs) {k : Nat} {s : ByteArray} {pos : Nat} (hk : w.heap[k]? = some (.stringIter s pos)) : some k ≠ v.ownBlock := by
  rcases h.2 with ⟨rfl, _⟩ | ⟨g, cap, cur, rfl, hb, hg, r⟩
  · simp [Value.ownBlock]
  · intro e
    have e2 : k = g := by simpa [Value.ownBlock] using e
    subst e2
    rw [hk] at hg; cases hg
theorem cell_one_new (w : World) (x : ByteArray) (t : TypeId) : ∀ j u, ([x].map strV)[j]? = some u → (w.alloc (.cells #[.string x] t)).cell? ((⟨w.heap.size, 0, none⟩ : Addr).add j) = some u := by
  intro j u hj
  match j, hj with
  | 0, hj => simp [strV] at hj; subst hj; simp [Addr.add]
  | j + 1, hj => simp at hj
theorem acc_snoc (acc : List ByteArray) (x : ByteArray) : acc.map strV ++ [strV x] = (acc ++ [x]).map strV := by simp
def SRel (p : ByteArray) (w : World) (l bg : Value) (wr : World) : Prop :=
  ∃ (pos b0 : Nat) (acc : List ByteArray), bg = .int .i64 b0 ∧ SInv p acc b0 pos ∧ wr.ownsRow w.heap.size 9 1 l acc.length (acc.map strV) ∧ wr.heap[w.heap.size + 1]? = some (.stringIter p pos) ∧ Below w.heap.size w wr
theorem srel_move {p : ByteArray} {w wr : World} {l : Value} {pos b0 : Nat} {acc : List ByteArray} (hi : SInv p acc b0 pos) (ho : wr.ownsRow w.heap.size 9 1 l acc.length (acc.map strV)) (hit : wr.heap[w.heap.size + 1]? = some (.stringIter p pos)) (hb : Below w.heap.size w wr)
    (hp : pos < p.size) (hc : ¬ (Utf8.decode p pos).1 = 47) : SRel p w l (.int .i64 b0) (wr.iterAt (w.heap.size + 1) p (pos + (Utf8.decode p pos).2)) := by
  refine ⟨pos + (Utf8.decode p pos).2, b0, acc, rfl, ?_, ownsRow_iter ho hit _, Lib.iterAt_heap _ _ _ _ _ hit, Lib.below_iterAt hb (by omega) _ _⟩
  by_cases hs : p[pos].toNat < 128
  · rw [decode_ascii p pos hp hs] at hc ⊢
    refine hi.move 1 (by omega) fun i hi1 h1 h2 => ?_
    obtain rfl : i = pos := by omega
    intro e
    exact hc (by rw [e]; rfl)
  · obtain ⟨_, h2, h3, h4⟩ := rune_wide p pos hp (by omega)
    refine hi.move _ h3 fun i hi1 h5 h6 => ?_
    have := h4 i hi1 h5 h6
    intro e
    rw [e] at this
    exact absurd this (by decide)
theorem srel_cut {p : ByteArray} {w wr w1 : World} {l l1 : Value} {pos b0 : Nat} {acc : List ByteArray} (hi : SInv p acc b0 pos) (ho : wr.ownsRow w.heap.size 9 1 l acc.length (acc.map strV)) (hit : wr.heap[w.heap.size + 1]? = some (.stringIter p pos)) (hb : Below w.heap.size w wr)
    (hp : pos < p.size) (hc : (Utf8.decode p pos).1 = 47)
    (h1 : w1.ownsRow w.heap.size 9 1 l1 (acc.length + 1) (acc.map strV ++ [strV (p.extract b0 pos)]))
    (hg : ((wr.iterAt (w.heap.size + 1) p (pos + 1)).alloc (.cells #[.string (p.extract b0 pos)] 9)).grownBy w1 l.ownBlock) : SRel p w l1 (.int .i64 ((pos + 1 : Nat) : Int)) w1 ∧ w1.heap[w.heap.size + 1]? = some (.stringIter p (pos + 1)) := by
  have hp47 : p[pos] = 47 := by
    by_cases hs : p[pos].toNat < 128
    · rw [decode_ascii p pos hp hs] at hc
      exact UInt8.toNat_inj.1 (by simpa using hc)
    · have := (decode_high p pos hp (by omega)).1; omega
  have ho2 := (ownsRow_iter ho hit (pos + 1))
  have hit2 := Lib.iterAt_heap wr (w.heap.size + 1) p pos (pos + 1) hit
  have hb2 := Lib.below_iterAt hb (k := w.heap.size + 1) (by omega) p (pos + 1)
  have hsz : w.heap.size + 1 < wr.heap.size := (Array.getElem?_eq_some_iff.1 hit).1
  have hsz2 : (wr.iterAt (w.heap.size + 1) p (pos + 1)).heap.size = wr.heap.size := Lib.iterAt_size _ _ _ _
  have hit3 : w1.heap[w.heap.size + 1]? = some (.stringIter p (pos + 1)) := by
    rw [hg.block _ (by simp [hsz2]; omega) (own_not_iter ho2 hit2), Below.heap_alloc _ _ _ (by omega)]
    exact hit2
  refine ⟨⟨pos + 1, pos + 1, acc ++ [p.extract b0 pos], rfl, hi.cut hp hp47, ?_, hit3, ?_⟩, hit3⟩
  · rw [acc_snoc] at h1; simpa using h1
  · refine (hb2.alloc (by omega) _).grown hg (by simp [hsz2]; omega) fun k hk => ?_
    exact (ho2.lt k hk).1
theorem make_room (n : Nat) (hn : n ≤ 1099511627776) : ∃ cs : Array Value, cs.size = n + 1 ∧
    ∀ W : World, (Instr.makeSlice 78 (.int .i64 0) (.int .i64 ((n : Int) + 1))).run Tryz.prog W = .ok (.slice (some ⟨W.heap.size, 0, none⟩) 0 (n + 1)) (W.alloc (.cells cs 9)) := by
  obtain ⟨i0, hi0, hz0, hz1, hz2⟩ := info_parts infoStr
  refine ⟨madeCells (Value.string ⟨#[]⟩).cells (n + 1), size_madeCells _ _, fun W => ?_⟩
  have h := run_make (P := Tryz.prog) W 78 9 i0 (.string ⟨#[]⟩) Tryz.underlying78 hi0 hz0 .i64 .i64 0 ((n : Int) + 1) (by omega) (by omega) (by rw [hz2]; omega) (by omega)
  rw [hz1, show ((n : Int) + 1).toNat = n + 1 by omega, Nat.mul_one] at h
  exact h
set_option maxRecDepth 100000 in
set_option maxHeartbeats 4000000 in
theorem split_any (p : ByteArray) (w : World) (hp : p.size ≤ 1099511627776) :
    Calls Tryz.prog 51 #[.string p] w (Splits p w) := by
  obtain ⟨i0, hi0, hz0, hz1, hz2⟩ := info_parts infoStr
  have hct : p.data.toList.count 47 ≤ p.size := List.count_le_length
  generalize hn : p.data.toList.count 47 = n at hct
  have HN := Lib.hid hn
  clear hn
  obtain ⟨cs, hcs, hmk⟩ := make_room n (by omega)
  have HC := Lib.hid hcs
  clear hcs
  have HI0 := Lib.hid hi0; have HZ0 := Lib.hid hz0; have HZ1 := Lib.hid hz1; have HZ2 := Lib.hid hz2
  clear hi0 hz0 hz1 hz2
  go_enter Tryz.func51, Tryz.ntmps51
  go_wp2_with (first
    | (go_at_call 113; ((with_reducible refine (strokes_any _ _).mono ?_); rintro e w' ⟨rfl, rfl⟩; rw [HN.out])))
  go_loopw [3, 4] (fun l bg wr => SRel p w l bg wr) (fun _ _ wr => p.size - wr.iterPos (w.heap.size + 1))
  case atStart =>
    refine ⟨0, 0, [], rfl, SInv.start p, ?_, ?_, ?_⟩
    · exact (World.ownsRow_made w cs (n + 1) (Nat.le_refl _) (by simp only [maxLen]; omega) (by rw [HC.out, Nat.mul_one])).alloc _
    · have := World.iter_heap (w.alloc (.cells cs 9)) p 0
      simpa using this
    · exact ((Below.refl _ _).alloc (Nat.le_refl _) _).alloc (by simp) _
  case round =>
    obtain ⟨pos, b0, acc, rfl, hi, ho, hit, hb⟩ := hrel
    have hle := hi.le
    have hlt := hi.lt
    have hal := hi.len
    have hsz : w.heap.size + 1 < wr.heap.size := (Array.getElem?_eq_some_iff.1 hit).1
    by_cases hpp : pos < p.size
    · have hnx : ∀ ty, (Instr.next (.pointer (some ⟨w.heap.size + 1, 0, none⟩)) true ty).run Tryz.prog wr = _ := fun ty => Lib.run_next_any_at wr (w.heap.size + 1) p pos ty hit hpp
      have hd1 := decode_le p pos
      by_cases h47 : (Utf8.decode p pos).1 = 47
      · have hone : (Utf8.decode p pos).2 = 1 := by
          by_cases hs : p[pos].toNat < 128
          · rw [decode_ascii p pos hpp hs]
          · have := (decode_high p pos hpp (by omega)).1; omega
        have HCut := Lib.hid (fun (w1 : World) (l1 : Value) => srel_cut (w1 := w1) (l1 := l1) hi ho hit hb hpp h47)
        rw [hone, h47] at hnx
        have ho2 := (ownsRow_iter ho hit (pos + 1)).alloc (.cells #[.string (p.extract b0 pos)] 9)
        have hit2 := Lib.hid (Lib.iterAt_heap wr (w.heap.size + 1) p pos (pos + 1) hit)
        have HIT := Lib.hid hit
        have hsz2 : (wr.iterAt (w.heap.size + 1) p (pos + 1)).heap.size = wr.heap.size := Lib.iterAt_size _ _ _ _
        have HSZ := Lib.hid hsz2
        clear h47 hone hit hsz2
        go_wp2_with (at_builtin; refine wpList_append_own _ rfl _ _ 78 rfl w.heap.size 9 i0 (.string ⟨#[]⟩) 1 16 Tryz.underlying78 HI0.out HZ0.out HZ1.out HZ2.out rfl (by decide) _ _ _ rfl ho2 ⟨(wr.iterAt (w.heap.size + 1) p (pos + 1)).heap.size, 0, none⟩ 1 1 ([p.extract b0 pos].map strV) rfl rfl ?c1 ?c2 ?c3 ?c4 ?c5 ?_)
        case c1 => exact cell_one_new _ _ _
        case c2 => exact strV_one _
        case c3 => simp only [maxLen]; omega
        case c4 => omega
        case c5 => simp [HSZ.out]; omega
        intro l1 w1 hown1 hg1 _
        have HR := Lib.hid (HCut.out w1 l1 hown1 hg1)
        clear hown1 hg1
        go_wp2
        go_roundw
        case rel => exact HR.out.1
        case measure =>
          rw [iterPos_of HR.out.2, iterPos_of HIT.out]
          omega
      · have HM := Lib.hid (srel_move hi ho hit hb hpp h47)
        have hb47 : (((Utf8.decode p pos).1 : Int) == 47) = false := beq_eq_false_iff_ne.2 (by omega)
        have hwd : 1 ≤ (Utf8.decode p pos).2 := by
          by_cases hs : p[pos].toNat < 128
          · rw [decode_ascii p pos hpp hs]; exact Nat.le_refl _
          · exact (decode_high p pos hpp (by omega)).2
        have HIT := Lib.hid hit
        clear h47 hit
        go_wp2
        go_roundw
        case rel => exact HM.out
        case measure =>
          rw [iterPos_of (Lib.iterAt_heap wr (w.heap.size + 1) p pos _ HIT.out), iterPos_of HIT.out]
          omega
    · have hnx : ∀ ty, (Instr.next (.pointer (some ⟨w.heap.size + 1, 0, none⟩)) true ty).run Tryz.prog wr = _ := fun ty => Lib.run_next_end_at wr (w.heap.size + 1) p pos ty hit hpp
      obtain rfl : pos = p.size := by omega
      have HD := Lib.hid hi.done
      have ho2 := ho.alloc (.cells #[.string (p.extract b0 p.size)] 9)
      clear hit
      go_wp2_with (at_builtin; refine wpList_append_own _ rfl _ _ 78 rfl w.heap.size 9 i0 (.string ⟨#[]⟩) 1 16 Tryz.underlying78 HI0.out HZ0.out HZ1.out HZ2.out rfl (by decide) _ _ _ rfl ho2 ⟨wr.heap.size, 0, none⟩ 1 1 ([p.extract b0 p.size].map strV) rfl rfl ?d1 ?d2 ?d3 ?d4 ?d5 ?_)
      case d1 => exact cell_one_new _ _ _
      case d2 => exact strV_one _
      case d3 => simp only [maxLen]; omega
      case d4 => omega
      case d5 => simp; omega
      intro l1 w1 hown1 hg1 _
      rw [acc_snoc] at hown1
      have HE := Lib.hid (splits_end hown1 HD.out ((hb.alloc (by omega) _).grown hg1 (by simp; omega) fun k hk => (ho.lt k hk).1))
      clear hown1 hg1
      go_wp2
      go_ret
      exact HE.out
theorem ret_str {a b : ByteArray} (h : a = b) : Ending.returned (.string a) = .returned (.string b) := by rw [h]
def joiS (L : List ByteArray) : ByteArray := ofL (joi (toLs L))
def Few (L : List ByteArray) : Prop := L.length ≤ 1000000 ∧ ∀ x ∈ L, x.size ≤ 1000000
theorem joiS_size (L : List ByteArray) (h : Few L) : (joiS L).size ≤ 1000001000000 := by
  have h1 := joi_len (toLs L) 1000000 (fun s hs => by
    obtain ⟨x, hx, rfl⟩ := List.mem_map.1 hs
    exact h.2 x hx)
  rw [toLs_len] at h1
  have h2 : L.length * (1000000 + 1) ≤ 1000000 * (1000000 + 1) := Nat.mul_le_mul_right _ h.1
  have h3 : (joiS L).size = (joi (toLs L)).length := by unfold joiS; rw [ba_size, ofL_list]
  omega
theorem joi_snoc : ∀ (L : List (List UInt8)) (x : List UInt8), L ≠ [] → joi (L ++ [x]) = joi L ++ 47 :: x
  | [], _, h => absurd rfl h
  | [a], x, _ => by rw [List.cons_append, List.nil_append, joi_cons2, joi_one, joi_one]
  | a :: b :: r, x, _ => by
    have := joi_snoc (b :: r) x (by simp)
    rw [List.cons_append, List.cons_append, joi_cons2, joi_cons2, ← List.cons_append, this]
    simp
theorem join_any (b o n c : Nat) (L : List ByteArray) (w : World) (h : Sl w ⟨b, o, none⟩ n c L) (hf : Few L) :
    Calls Tryz.prog 114 #[.slice (some ⟨b, o, none⟩) n c] w fun e w' => e = .returned (.string (joiS L)) ∧ Ke w w' := by
  have hz := joiS_size L hf
  obtain ⟨rfl, h2, h3, h4, h5⟩ := h
  have HC := Lib.hid (Tryz.strings_Join b o c L ⟨#[47]⟩ w (fun j x hj => by have := h5 j x hj; rwa [Addr.add_lit] at this) h4 (by have := hf.1; omega) h2 (by
    have e : (Lib.join (L.map (·.data.toList)) (⟨#[47]⟩ : ByteArray).data.toList).length = (joiS L).size := by unfold joiS; rw [ba_size, ofL_list]; rfl
    omega))
  clear h5 h4 h3 h2
  go_enter Tryz.func114, Tryz.ntmps114
  go_wp2_with (go_at_call 146; ((with_reducible refine HC.out.mono ?_); rintro e w1 ⟨rfl, hk⟩))
  go_ret
  exact ⟨rfl, hk⟩
theorem join_nil (c : Nat) (w : World) :
    Calls Tryz.prog 114 #[.slice none 0 c] w fun e w' => e = .returned (.string (joiS [])) ∧ Ke w w' := by
  go_enter Tryz.func114, Tryz.ntmps114
  go_wp2_with (go_at_call 146; ((with_reducible refine (Tryz.strings_Join_none _ _ _ _).mono ?_); rintro e w1 ⟨rfl, rfl⟩))
  go_ret
  exact ⟨rfl, Ke.refl _⟩
theorem join_own (base n : Nat) (v : Value) (L : List ByteArray) (w : World) (h : w.ownsRow base 9 1 v n (L.map strV)) (hf : Few L) :
    Calls Tryz.prog 114 #[v] w fun e w' => e = .returned (.string (joiS L)) ∧ Ke w w' := by
  rcases Nat.eq_zero_or_pos n with h0 | h0
  · subst h0
    have hl : L = [] := List.eq_nil_of_length_eq_zero (by simpa using h.1)
    subst hl
    rcases h.2 with ⟨rfl, _⟩ | ⟨g, cap, cur, rfl, _, hg, h1, h2, _⟩
    · exact join_nil 0 w
    · exact join_any g 0 0 cap [] w ⟨rfl, h1, h2, (Array.getElem?_eq_some_iff.1 hg).1, fun j x hj => by simp at hj⟩ hf
  · obtain ⟨g, c, rfl, _, hs⟩ := Sl.of_own h h0
    exact join_any g 0 n c L w hs hf
def Src (w : World) (A : Option Addr) (n c : Nat) (L : List ByteArray) : Prop := (A = none ∧ n = 0 ∧ c = 0 ∧ L = []) ∨ ∃ ad, A = some ad ∧ Sl w ad n c L
theorem Src.ke {w w' : World} {A : Option Addr} {n c : Nat} {L : List ByteArray} (h : Src w A n c L) (hk : Ke w w') : Src w' A n c L :=
  h.elim .inl fun ⟨ad, e, hs⟩ => .inr ⟨ad, e, hs.ke hk⟩
theorem Src.len {w : World} {A : Option Addr} {n c : Nat} {L : List ByteArray} (h : Src w A n c L) : L.length = n := by
  rcases h with ⟨_, rfl, _, rfl⟩ | ⟨ad, _, hs⟩
  · rfl
  · exact hs.1.symm
theorem Src.cap {w : World} {A : Option Addr} {n c : Nat} {L : List ByteArray} (h : Src w A n c L) : n ≤ c ∧ c ≤ maxLen := by
  rcases h with ⟨_, rfl, rfl, rfl⟩ | ⟨ad, _, hs⟩
  · exact ⟨Nat.le_refl _, by simp [maxLen]⟩
  · exact ⟨hs.2.1, hs.2.2.1⟩
theorem app_src (w : World) (base : Nat) (v : Value) (n : Nat) (xs : List Value) (h : w.ownsRow base 9 1 v n xs) (A : Option Addr) (m c : Nat) (L : List ByteArray) (hs : Src w A m c L) (hb : n + m ≤ 8000000000000) (hbase : base ≤ w.heap.size) :
    ∃ v' w', (Builtin.append_ #[78, 78] 78 #[v, .slice A m c]).run Tryz.prog w = .ok v' w' ∧ w'.ownsRow base 9 1 v' (n + m) (xs ++ L.map strV) ∧ w.grownBy w' v.ownBlock ∧ (v' = .slice none 0 0 → v = .slice none 0 0) := by
  obtain ⟨i0, hi0, hz0, hz1, hz2⟩ := info_parts infoStr
  rcases hs with ⟨rfl, rfl, rfl, rfl⟩ | ⟨ad, rfl, h1, h2, h3, h4, h5⟩
  · exact ⟨v, w, run_append_owned_none w base _ _ _ i0 1 Tryz.underlying78 hi0 v n xs h, by simpa using h, World.grownBy.refl w _, id⟩
  · obtain ⟨v', w', hr, ho, hg, hv⟩ := run_append_own (P := Tryz.prog) w base 78 78 9 i0 (.string ⟨#[]⟩) 1 16 Tryz.underlying78 hi0 hz0 hz1 hz2 rfl (by decide) v n xs h ad m c (L.map strV)
      (by rw [List.length_map, h1, Nat.mul_one]) (fun j u hj => by
        rw [List.getElem?_map] at hj
        obtain ⟨x, hx, rfl⟩ := Option.map_eq_some_iff.1 hj
        exact h5 j x hx) (strV_one _) (by simp only [maxLen]; omega) (by omega) hbase
    exact ⟨v', w', hr, ho, hg, fun e => (hv.1 e).1⟩
set_option maxRecDepth 100000 in
set_option maxHeartbeats 1000000 in
theorem grow_nil (n : Nat) (w : World) (hn : n ≤ 1000000) :
    Calls Tryz.prog 147 #[.slice none 0 0, .int .i64 n] w fun e w' => ∃ v, e = .returned v ∧ w'.ownsRow w.heap.size 9 1 v 0 [] ∧ Ke w w' := by
  rcases Nat.eq_zero_or_pos n with h0 | h0
  · subst h0
    go_enter Tryz.func147, Tryz.ntmps147
    go_wp2
    go_ret
    exact ⟨_, rfl, World.ownsRow_nil _ _ _ _, Ke.refl _⟩
  · obtain ⟨i0, hi0, hz0, hz1, hz2⟩ := info_parts infoStr
    have hrz := Lib.run_append_grow_zeros (P := Tryz.prog) w 78 3 78 9 i0 (.string ⟨#[]⟩) .i64 .i64 Tryz.underlying78 Tryz.underlying3 hi0 hz0 none 0 0 [] (run_firstCells_none w.drew i0.size 0 0 0) n h0 (by omega) (by omega) (by omega) (by rw [hz2]; omega)
      (growslice_fits (by omega) (by rw [hz2]; omega))
    have hG1 := grownCap_ge w (0 + n) 0 9
    have hG2 := grownCap_le_maxLen w (0 + n) 0 9 (by simp only [maxLen]; omega)
    generalize grownCap w (0 + n) 0 9 = G at hrz hG1 hG2
    have hsz : (([] : List Value).toArray ++ Builtin.zeroCells (Value.string ⟨#[]⟩).cells n ++ Builtin.zeroCells (Value.string ⟨#[]⟩).cells (G - (0 + n))).size = G := by
      rw [Array.size_append, Array.size_append, size_zeroCells, size_zeroCells]
      simp [Value.cells]; omega
    generalize ([] : List Value).toArray ++ Builtin.zeroCells (Value.string ⟨#[]⟩).cells n ++ Builtin.zeroCells (Value.string ⟨#[]⟩).cells (G - (0 + n)) = cs at hrz hsz
    rw [Nat.zero_add] at hrz hG1
    have HE := Lib.hid (show (w.drew.alloc (.cells cs 9)).ownsRow w.heap.size 9 1 (.slice (some ⟨w.heap.size, 0, none⟩) 0 G) 0 [] from
      World.ownsRow_made w.drew cs G (Nat.le_refl _) hG2 (by rw [hsz, Nat.mul_one]))
    have HRZ := Lib.hid hrz
    simp only [maxLen] at hG2
    clear hi0 hz0 hz1 hz2 hsz hrz
    go_enter Tryz.func147, Tryz.ntmps147
    go_wp2_with (at_builtin; refine Lib.wpList_append_run _ rfl _ _ _ _ rfl _ _ rfl rfl _ _ HRZ.out ?_)
    go_ret
    exact ⟨_, rfl, HE.out, ((Ke.refl _).drew).alloc _⟩
structure S4 where
  A : Option Addr
  n : Nat
  c : Nat
  L : List ByteArray
def totK (SS : List S4) (k : Nat) : Nat := ((SS.take k).map (·.n)).sum
def catK (SS : List S4) (k : Nat) : List ByteArray := (SS.take k).flatMap (·.L)
theorem totK_succ (SS : List S4) (k : Nat) (s : S4) (h : SS[k]? = some s) : totK SS (k + 1) = totK SS k + s.n := by
  unfold totK; rw [List.take_add_one, h]; simp
theorem catK_succ (SS : List S4) (k : Nat) (s : S4) (h : SS[k]? = some s) : catK SS (k + 1) = catK SS k ++ s.L := by
  unfold catK; rw [List.take_add_one, h]; simp
theorem totK_le (SS : List S4) (k : Nat) : totK SS k ≤ totK SS SS.length := by
  unfold totK
  rw [List.take_length]
  induction SS generalizing k with
  | nil => simp
  | cons a r ih =>
    cases k with
    | zero => simp
    | succ k => have := ih k; simp only [List.take_succ_cons, List.map_cons, List.sum_cons]; omega
set_option maxRecDepth 100000 in
set_option maxHeartbeats 2000000 in
theorem concat_any (bb : Nat) (SS : List S4) (w : World) (hN : SS.length ≤ 1000) (hT : totK SS SS.length ≤ 1000000)
    (hcell : ∀ k s, SS[k]? = some s → w.cell? ⟨bb, k, none⟩ = some (.slice s.A s.n s.c)) (hsrc : ∀ s ∈ SS, Src w s.A s.n s.c s.L) :
    Calls Tryz.prog 115 #[.slice (some ⟨bb, 0, none⟩) SS.length SS.length] w fun e w' => ∃ v, e = .returned v ∧ w'.ownsRow w.heap.size 9 1 v (totK SS SS.length) ((catK SS SS.length).map strV) ∧ Ke w w' := by
  have HC := Lib.hid hcell
  have HS := Lib.hid hsrc
  have HT := Lib.hid (totK_le SS)
  clear hcell hsrc
  go_enter Tryz.func115, Tryz.ntmps115
  go_wp2
  go_loop [3, 11] (fun s i => ∃ k : Nat, k ≤ SS.length ∧ i = .int .i64 k ∧ s = .int .i64 (totK SS k)) (fun _ i => SS.length - (intOf i).toNat)
  case atStart => exact ⟨0, Nat.zero_le _, rfl, rfl⟩
  case round =>
    obtain ⟨k, hk, rfl, rfl⟩ := hrel
    have ht := HT.out k
    by_cases hlt : k < SS.length
    · obtain ⟨s, hs⟩ : ∃ s, SS[k]? = some s := ⟨_, List.getElem?_eq_getElem hlt⟩
      have g := HC.out k s hs
      have hcp := (HS.out s (List.mem_of_getElem? hs)).cap
      have hc1 := hcp.1
      have hc2 := hcp.2
      simp only [maxLen] at hc2
      have ht2 := HT.out (k + 1)
      have HN := Lib.hid (totK_succ SS k s hs)
      have ht3 : totK SS k + s.n ≤ 1000000 := by have := HN.out; omega
      obtain ⟨sA, sn, sc, sL⟩ := s
      clear hs hcp ht2
      simp only at g hc1 hc2 ht3 HN
      go_wp2
      go_round
      case rel => exact ⟨k + 1, hlt, by go_num, by rw [HN.out]; go_num⟩
      case measure => simp [intOf]; omega
    · obtain rfl : k = SS.length := by omega
      clear ht
      go_wp2_with (go_at_call 147; ((with_reducible refine (grow_nil _ _ hT).mono ?_); rintro e w1 ⟨v0, rfl, ho0, hk0⟩))
      have HO := Lib.hid ho0
      have HK := Lib.hid hk0
      clear ho0 hk0
      go_loopw [6, 27] (fun v i wr => ∃ k : Nat, k ≤ SS.length ∧ i = .int .i64 k ∧ wr.ownsRow w.heap.size 9 1 v (totK SS k) ((catK SS k).map strV) ∧ Ke w wr) (fun _ i _ => SS.length - (intOf i).toNat)
      case atStart => exact ⟨0, Nat.zero_le _, rfl, HO.out, HK.out⟩
      case round =>
        obtain ⟨k, hk, rfl, ho, hkw⟩ := hrel
        have HO2 := Lib.hid ho
        have HK2 := Lib.hid hkw
        clear ho hkw
        have ht := HT.out k
        by_cases hlt : k < SS.length
        · obtain ⟨s, hs⟩ : ∃ s, SS[k]? = some s := ⟨_, List.getElem?_eq_getElem hlt⟩
          have g := HK2.out.at_ (HC.out k s hs)
          have HSR := Lib.hid ((HS.out s (List.mem_of_getElem? hs)).ke HK2.out)
          have hcp := HSR.out.cap
          have hc1 := hcp.1
          have hc2 := hcp.2
          simp only [maxLen] at hc2
          have ht2 := HT.out (k + 1)
          have HN := Lib.hid (totK_succ SS k s hs)
          have HM := Lib.hid (catK_succ SS k s hs)
          have ht3 : totK SS k + s.n ≤ 1000000 := by have := HN.out; omega
          obtain ⟨sA, sn, sc, sL⟩ := s
          clear hs hcp ht2
          simp only at g hc1 hc2 ht3 HN HSR HM
          obtain ⟨v1, w1, hr1, ho1, hg1, _⟩ := app_src _ _ _ _ _ HO2.out sA sn sc sL HSR.out (by omega) HK2.out.size
          have HR1 := Lib.hid hr1
          have HO3 := Lib.hid ho1
          have HK3 := Lib.hid (show Ke w w1 from Below.grown HK2.out hg1 HK2.out.size fun j hj => (HO2.out.lt j hj).1)
          clear hr1 ho1 hg1
          go_wp2_with (at_builtin; refine Lib.wpList_append_run _ rfl _ _ _ _ rfl _ _ rfl rfl _ _ HR1.out ?_)
          go_roundw
          case rel =>
            refine ⟨k + 1, hlt, by go_num, ?_, HK3.out⟩
            rw [HN.out, HM.out, List.map_append]
            exact HO3.out
          case measure => simp [intOf]; omega
        · obtain rfl : k = SS.length := by omega
          clear ht
          go_wp2
          go_ret
          exact ⟨_, rfl, HO2.out, HK2.out⟩
theorem region_tail {P : Program} {id : Nat} {Q : Exit → Act → World → Prop} {a : Act} {w : World} {l : List Oper} (n : Nat) (hm : P.follows .mixedOrders = true) (hB : Region.lexTailB .any l.toArray n = true)
    (h : ∀ wd : World, wd = w.drew → wpStill P l.toArray wd (fun a' => wpList P l.toArray Q (l.drop n) a' wd) (l.take n) a) : (Code.region id l.toArray true).wp P Q a w :=
  wp_region_still_tail n hm hB (h _ rfl)
def swapT (p : ByteArray) (k : Nat) (M : List ByteArray) : List ByteArray := (splS p).take k ++ M ++ (splS p).drop (k + 1)
def swapS (p : ByteArray) (at_ : Int) (M : List ByteArray) : ByteArray := if 0 ≤ at_ ∧ at_ < (splS p).length then joiS (swapT p at_.toNat M) else p
theorem swapT_len (p : ByteArray) (k : Nat) (M : List ByteArray) (h : k < (splS p).length) : (swapT p k M).length = k + M.length + ((splS p).length - (k + 1)) := by
  unfold swapT
  rw [List.length_append, List.length_append, List.length_take, List.length_drop]
  omega
theorem swapT_few (p : ByteArray) (k : Nat) (M : List ByteArray) (h : k < (splS p).length) (hp : p.size ≤ 2000) (hM : M.length ≤ 1000) (hx : ∀ x ∈ M, x.size ≤ 2000) : Few (swapT p k M) := by
  have h1 := splS_le p
  refine ⟨by rw [swapT_len p k M h]; omega, fun x hxx => ?_⟩
  unfold swapT at hxx
  rcases List.mem_append.1 hxx with h2 | h2
  · rcases List.mem_append.1 h2 with h3 | h3
    · have := splS_size p x (List.mem_of_mem_take h3); omega
    · have := hx x h3; omega
  · have := splS_size p x (List.mem_of_mem_drop h2); omega
theorem cut_head (b n c k : Nat) (L : List ByteArray) (w : World) (h : Sl w ⟨b, 0, none⟩ n c L) (hk : k ≤ n) : Sl w ⟨b, 0, none⟩ k c (L.take k) := by
  obtain ⟨h1, h2, h3, h4, h5⟩ := h
  refine ⟨by rw [List.length_take]; omega, by omega, h3, h4, fun j x hj => h5 j x ?_⟩
  rw [List.getElem?_take] at hj
  split at hj
  · exact hj
  · cases hj
theorem size24 (W : World) : (Go.sizeOf (Tryz.prog.elem 78)).run Tryz.prog W = .ok 1 W := by kernel_rfl
theorem run_head (b n c k : Nat) (hk : k ≤ c) (W : World) :
    (Instr.slice 78 (.slice (some ⟨b, 0, none⟩) n c) none (some (.int .i64 (k : Int))) none).run Tryz.prog W = .ok (.slice (some ⟨b, 0, none⟩) k c) W := by
  rw [run_slice_h W 78 _ n c (by kernel_rfl) .i64 (k : Int) (by omega) (by omega), size24]
  simp [Result.andThen, sliced, Addr.add]
theorem run_head2 (b n c k : Nat) (hk : k ≤ c) (W : World) :
    (Instr.sliceAt 78 (.slice (some ⟨b, 0, none⟩) n c) none (some (.int .i64 (k : Int))) none).run Tryz.prog W = .ok (.slice (some ⟨b, 0, none⟩) k c) W := by
  rw [run_sliceAt_slice W _ _ _ _ _ (by kernel_rfl)]; exact run_head b n c k hk W
theorem cut_tail (b n c k : Nat) (L : List ByteArray) (w : World) (h : Sl w ⟨b, 0, none⟩ n c L) (hk : k < n) : ∃ a2 : Addr, Sl w a2 (n - (k + 1)) (c - (k + 1)) (L.drop (k + 1)) ∧
    (∀ W : World, (Instr.slice 78 (.slice (some ⟨b, 0, none⟩) n c) (some (.int .i64 ((k : Int) + 1))) none none).run Tryz.prog W = .ok (.slice (some a2) (n - (k + 1)) (c - (k + 1))) W) ∧
    (∀ W : World, (Instr.sliceAt 78 (.slice (some ⟨b, 0, none⟩) n c) (some (.int .i64 ((k : Int) + 1))) none none).run Tryz.prog W = .ok (.slice (some a2) (n - (k + 1)) (c - (k + 1))) W) := by
  obtain ⟨h1, h2, h3, h4, h5⟩ := h
  have hr : ∀ W : World, (Instr.slice 78 (.slice (some ⟨b, 0, none⟩) n c) (some (.int .i64 ((k : Int) + 1))) none none).run Tryz.prog W = .ok (.slice (some (if c = k + 1 then ⟨b, 0, none⟩ else ⟨b, k + 1, none⟩)) (n - (k + 1)) (c - (k + 1))) W := fun W => by
    rw [run_slice_l W 78 _ n c (by kernel_rfl) .i64 ((k : Int) + 1) (by omega) (by omega), size24]
    simp only [Result.andThen, sliced, show ((k : Int) + 1).toNat = k + 1 by omega, Nat.mul_one, Option.map_some, Addr.add_lit, Nat.zero_add]
    split <;> rfl
  refine ⟨_, ?_, hr, fun W => by rw [run_sliceAt_slice W _ _ _ _ _ (by kernel_rfl)]; exact hr W⟩
  refine ⟨by rw [List.length_drop]; omega, by omega, by omega, by split <;> exact h4, fun j x hj => ?_⟩
  have hj2 : j < n - (k + 1) := by
    have := (List.getElem?_eq_some_iff.1 hj).1
    rw [List.length_drop] at this; omega
  rw [if_neg (by omega), Addr.add_lit]
  have := h5 (k + 1 + j) x (by rw [← hj, List.getElem?_drop])
  rwa [Addr.add_lit, Nat.zero_add] at this
theorem concat3 (wd : World) (s0 s1 s2 : S4) (h0 : Src wd s0.A s0.n s0.c s0.L) (h1 : Src wd s1.A s1.n s1.c s1.L) (h2 : Src wd s2.A s2.n s2.c s2.L) (hT : s0.n + s1.n + s2.n ≤ 1000000) :
    Calls Tryz.prog 115 #[.slice (some ⟨wd.heap.size, 0, none⟩) 3 3] (wd.alloc (.cells #[.slice s0.A s0.n s0.c, .slice s1.A s1.n s1.c, .slice s2.A s2.n s2.c] 78))
      fun e w' => ∃ v, e = .returned v ∧ w'.ownsRow (wd.heap.size + 1) 9 1 v (s0.n + s1.n + s2.n) ((s0.L ++ s1.L ++ s2.L).map strV) ∧ Ke wd w' := by
  have hk := (Ke.refl wd).alloc (.cells #[.slice s0.A s0.n s0.c, .slice s1.A s1.n s1.c, .slice s2.A s2.n s2.c] 78)
  have e1 : totK [s0, s1, s2] 3 = s0.n + s1.n + s2.n := by simp [totK]; omega
  have e2 : catK [s0, s1, s2] 3 = s0.L ++ s1.L ++ s2.L := by simp [catK]
  refine (concat_any wd.heap.size [s0, s1, s2] _ (by simp) (by show totK [s0, s1, s2] 3 ≤ _; omega) ?_ ?_).mono ?_
  · intro k s hks
    rw [World.cell?_alloc_new]
    match k, hks with
    | 0, hks => simp at hks; subst hks; rfl
    | 1, hks => simp at hks; subst hks; rfl
    | 2, hks => simp at hks; subst hks; rfl
    | k + 3, hks => simp at hks
  · intro s hs
    simp only [List.mem_cons, List.not_mem_nil, or_false] at hs
    rcases hs with rfl | rfl | rfl
    · exact h0.ke hk
    · exact h1.ke hk
    · exact h2.ke hk
  · rintro e w' ⟨v, rfl, ho, hw⟩
    have ho2 : w'.ownsRow (wd.alloc (.cells #[.slice s0.A s0.n s0.c, .slice s1.A s1.n s1.c, .slice s2.A s2.n s2.c] 78)).heap.size 9 1 v (totK [s0, s1, s2] 3) ((catK [s0, s1, s2] 3).map strV) := ho
    rw [e1, e2] at ho2
    exact ⟨v, rfl, by simpa using ho2, hk.trans hw⟩
set_option maxRecDepth 100000 in
set_option maxHeartbeats 2000000 in
theorem swap_any (p : ByteArray) (i : Int) (A : Option Addr) (n c : Nat) (M : List ByteArray) (w : World) (hp : p.size ≤ 2000) (hi1 : -9223372036854775808 ≤ i) (hi2 : i ≤ 9223372036854775807) (hs : Src w A n c M) (hn : n ≤ 1000) (hx : ∀ x ∈ M, x.size ≤ 2000) :
    Calls Tryz.prog 52 #[.string p, .int .i64 i, .slice A n c] w fun e w' => e = .returned (.string (swapS p i M)) ∧ Ke w w' := by
  have hl := splS_le p
  have hcc := hs.cap
  have HML := Lib.hid hs.len
  have HSRC := Lib.hid hs
  have HX := Lib.hid hx
  obtain ⟨hc1, hc2⟩ := hcc
  simp only [maxLen] at hc2
  clear hs hx
  by_cases hlo : i < 0
  · have HR := Lib.hid (show swapS p i M = p by unfold swapS; rw [if_neg (by omega)])
    go_enter Tryz.func52, Tryz.ntmps52
    go_wp2_with (go_at_call 51; ((with_reducible refine (split_any p _ (by omega)).mono ?_); rintro e w1 ⟨b, c0, rfl, hs, hbb, hk⟩))
    go_ret
    exact ⟨ret_str HR.out.symm, hk⟩
  by_cases hhi : i < (splS p).length
  · obtain ⟨k, rfl⟩ : ∃ k : Nat, i = (k : Int) := ⟨i.toNat, by omega⟩
    have hkl : k < (splS p).length := by omega
    have HR := Lib.hid (show swapS p k M = joiS (swapT p k M) by unfold swapS; rw [if_pos (by omega), Int.toNat_natCast])
    have HF := Lib.hid (swapT_few p k M hkl hp (by have := HML.out; omega) HX.out)
    clear hlo hhi
    go_enter Tryz.func52, Tryz.ntmps52
    go_wp2_with (go_at_call 51; ((with_reducible refine (split_any p _ (by omega)).mono ?_); rintro e w1 ⟨b, c0, rfl, hs, hbb, hk⟩))
    obtain ⟨a2, ht, hr2, hr3⟩ := cut_tail b _ c0 k _ w1 hs hkl
    have hh := cut_head b _ c0 k _ w1 hs (by omega)
    have hcm := hs.2.1
    have hcx := hs.2.2.1
    simp only [maxLen] at hcx
    have hr0 := run_head b (splS p).length c0 k (by omega)
    have hr1 := run_head2 b (splS p).length c0 k (by omega)
    have HH := Lib.hid hh
    have HT := Lib.hid ht
    have HK := Lib.hid hk
    clear hh ht hk hs
    have hwr : IntKind.i64.wrap ((k : Int) + 1) = (k : Int) + 1 := IntWalk.i64_in _ (by omega)
    refine region_tail 8 (by kernel_rfl) (by kernel_rfl) ?_
    intro wd hwd
    have hkd : Ke w1 wd := by rw [hwd]; exact (Ke.refl _).drew
    have HKD := Lib.hid hkd
    clear hwd hkd
    simp only [List.take_succ_cons, List.take_zero, List.drop_succ_cons, List.drop_zero]
    repeat still_step
    refine wpStill_nil ?_
    clear hwr
    have HC := Lib.hid (concat3 wd ⟨some ⟨b, 0, none⟩, k, c0, (splS p).take k⟩ ⟨A, n, c, M⟩ ⟨some a2, (splS p).length - (k + 1), c0 - (k + 1), (splS p).drop (k + 1)⟩
      (.inr ⟨_, rfl, HH.out.ke HKD.out⟩) (HSRC.out.ke (HK.out.trans HKD.out)) (.inr ⟨_, rfl, HT.out.ke HKD.out⟩) (by simp only; omega))
    go_wp2_with (go_at_call 115; ((with_reducible refine HC.out.mono ?_); rintro e w2 ⟨v, rfl, ho, hkw⟩))
    have HJ := Lib.hid (join_own _ _ v (swapT p k M) w2 ho HF.out)
    have HK2 := Lib.hid hkw
    clear ho hkw
    go_wp2_with (go_at_call 114; ((with_reducible refine HJ.out.mono ?_); rintro e w3 ⟨rfl, hk3⟩))
    go_ret
    exact ⟨ret_str HR.out.symm, HK.out.trans (HKD.out.trans (HK2.out.trans hk3))⟩
  · have HR := Lib.hid (show swapS p i M = p by unfold swapS; rw [if_neg (by omega)])
    go_enter Tryz.func52, Tryz.ntmps52
    go_wp2_with (go_at_call 51; ((with_reducible refine (split_any p _ (by omega)).mono ?_); rintro e w1 ⟨b, c0, rfl, hs, hbb, hk⟩))
    go_ret
    exact ⟨ret_str HR.out.symm, hk⟩
end Go.Proofs.YtofnpifooaijcaaGreat.L4
namespace Go.Proofs.YtofnpifooaijcaaGreat
open Go.RowKit
set_option linter.unusedVariables false
theorem splS_sL (p : ByteArray) : (L4.splS p).length = (sL p).length := (L4.spl_length p).symm
theorem swapS_in (p : ByteArray) (k : Nat) (M : List ByteArray) (hk : k < (sL p).length) : L4.swapS p (k : Int) M = paB ((sL p).take k ++ M.map (·.data.toList) ++ (sL p).drop (k + 1)) := by
  unfold L4.swapS
  rw [if_pos ⟨by omega, by rw [splS_sL]; omega⟩]
  unfold L4.joiS paB L4.swapT
  have h : L4.toLs (L4.splS p) = sL p := L4.splS_list p
  unfold L4.toLs at h ⊢
  rw [Int.toNat_natCast, List.map_append, List.map_append, List.map_take, List.map_drop, h]
theorem swapS_out (p : ByteArray) (i : Int) (M : List ByteArray) (h : i < 0 ∨ (sL p).length ≤ i) : L4.swapS p i M = p := by
  unfold L4.swapS
  rw [if_neg (by rw [splS_sL]; omega)]
def movedS (x : St) (p : ByteArray) : ByteArray :=
  if x.k = 1 then L4.swapS p ((sL x.p).length - 1 : Int) [x.nm]
  else if x.k = 2 then L4.swapS p ((sL x.p).length - 2 : Int) []
  else if x.k = 3 then L4.swapS p ((sL x.p).length - 1 : Int) [x.nm, L4.sg p ((sL x.p).length - 1)]
  else if x.k = 6 then underB p
  else if x.k = 7 then L4.swapS p ((sL x.p).length : Int) []
  else p
open Classical in
noncomputable def moveS (x : St) (p : ByteArray) : ByteArray := if sL x.p <+: sL p then movedS x p else p
theorem take_app {Q r : List Sg} {i : Nat} (h : i ≤ Q.length) : (Q ++ r).take i = Q.take i := by rw [List.take_append_of_le_length h]
theorem drop_app {Q r : List Sg} {i : Nat} (h : i ≤ Q.length) : (Q ++ r).drop i = Q.drop i ++ r := by rw [List.drop_append_of_le_length h]
theorem moveS_mv {x : St} (hm : Mv x) (h2 : x.k = 2 → 2 ≤ (sL x.p).length) (p : ByteArray) : moveS x p = paB (mvL (sL x.p) (toS x) (sL p)) := by
  unfold moveS
  split
  · rename_i hp
    obtain ⟨r, hr⟩ := hp
    have hn : 1 ≤ (sL x.p).length := by
      have := List.length_pos_iff.2 (sL_ne x.p)
      omega
    have hl : (sL x.p).length ≤ (sL p).length := by rw [← hr, List.length_append]; omega
    rw [← hr, mvL_in]
    unfold movedS toS topL
    rcases hm with hk | hk | hk
    · rw [if_pos hk, if_pos hk, show ((sL x.p).length - 1 : Int) = (((sL x.p).length - 1 : Nat) : Int) by omega, swapS_in _ _ _ (by omega), ← hr, take_app (by omega), drop_app (by omega), show (sL x.p).length - 1 + 1 = (sL x.p).length by omega, List.drop_length]
      simp
    · have h22 := h2 hk
      rw [if_neg (by omega), if_pos hk, if_neg (by omega), if_pos hk, show ((sL x.p).length - 2 : Int) = (((sL x.p).length - 2 : Nat) : Int) by omega, swapS_in _ _ _ (by omega), ← hr, take_app (by omega), drop_app (by omega), show (sL x.p).length - 2 + 1 = (sL x.p).length - 1 by omega]
      simp
    · have hsg : (L4.sg p ((sL x.p).length - 1)).data.toList = (sL x.p).getD ((sL x.p).length - 1) [] := by
        have h1 := L4.sg_get p ((sL x.p).length - 1) (by rw [splS_sL]; omega)
        have h3 : (sL p)[(sL x.p).length - 1]? = (sL x.p)[(sL x.p).length - 1]? := by rw [← hr, List.getElem?_append_left (by omega)]
        rw [show L4.spl p.data.toList = sL p from rfl, h3] at h1
        rw [List.getD_eq_getElem?_getD, h1]
        rfl
      have hdr : (sL x.p).drop ((sL x.p).length - 1) = [(sL x.p).getD ((sL x.p).length - 1) []] := by
        obtain ⟨Q0, a, hQ⟩ := one_of (sL_ne x.p)
        rw [hQ]; simp
      rw [if_neg (by omega), if_neg (by omega), if_pos hk, if_neg (by omega), if_neg (by omega), show ((sL x.p).length - 1 : Int) = (((sL x.p).length - 1 : Nat) : Int) by omega, swapS_in _ _ _ (by omega), ← hr, take_app (by omega), drop_app (by omega), show (sL x.p).length - 1 + 1 = (sL x.p).length by omega, List.drop_length, hdr]
      simp [hsg]
  · rename_i hp
    rw [mvL_out hp, paB_sL]
theorem moveS_F {x : St} (hm : Mv x) (h2 : x.k = 2 → 2 ≤ (sL x.p).length) (f : Fd) : f.withP (moveS x f.p) = moveF x f := by rw [moveS_mv hm h2]; rfl
theorem shape_two {x : St} (h : ShapeR x) (hk : x.k = 2) : 2 ≤ (sL x.p).length := by
  rcases h with ⟨h, _⟩ | ⟨_, _, h, _⟩ | ⟨h, _⟩ | ⟨h, _⟩ | ⟨h, _⟩ | ⟨h, _⟩
  case inr.inl => exact h
  all_goals omega
theorem moveS_self {x : St} (hm : Mv x) (h : ShapeR x) : moveS x x.p = paB (toS x) := by
  rw [moveS_mv hm (shape_two h)]
  have := mvL_in (Q := sL x.p) (Q' := toS x) (r := [])
  rw [List.append_nil, List.append_nil] at this
  rw [this]
end Go.Proofs.YtofnpifooaijcaaGreat
