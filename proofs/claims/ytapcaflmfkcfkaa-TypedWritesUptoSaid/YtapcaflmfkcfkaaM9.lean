/-
  What is proved: path.strokes, path.Split and the document's Split, called with any text of up to 2^40 bytes, return how many strokes it has, and its segments, in new memory (P4.2); the world has new blocks at most.
  the document's Split, called with any text of up to 2^40 bytes, returns its segments, in new memory (P4.2); the world has new blocks at most.
  path.Right and path.Pattern and the document's, called with any text of up to 2^40 bytes, return whether it is a path, and whether it is a pattern (P4.4, P4.5); the world has new blocks at most.
-/
import Derived.Test.YtapcaflmfkcfkaaM4
import Derived.Test.YtapcaflmfkcfkaaM8
namespace Go.Proofs.Ytapcaflmfkcfkaa.L4
open Go.RowKit

theorem strokes_any (p : ByteArray) (w : World) :
    Calls Try.prog 49 #[.string p] w fun e w' => e = .returned (.int .i64 (p.data.toList.count 47 : Nat)) ∧ w = w' := by
  go_enter Try.func49, Try.ntmps49
  go_wp2_with (go_at_call 56; ((with_reducible refine (Try.strings_Count_one _ 47 _).mono ?_); rintro e w' ⟨rfl, rfl⟩))
  go_ret
  exact ⟨rfl, rfl⟩

theorem infoStr : (Try.prog.info? 9).map (fun i => (i.zero, i.size, i.bytes)) = some (some (.string ⟨#[]⟩), 1, 16) := by kernel_rfl

/-- What Split leaves. -/
def Splits (p : ByteArray) (w : World) (e : Ending) (w' : World) : Prop :=
  ∃ b c, e = .returned (.slice (some ⟨b, 0, none⟩) (splS p).length c) ∧ Sl w' ⟨b, 0, none⟩ (splS p).length c (splS p) ∧ w.heap.size ≤ b ∧ Ke w w'
theorem splits_end {p : ByteArray} {w w' : World} {v : Value} {n : Nat} {acc : List ByteArray} (h : w'.ownsRow w.heap.size 9 1 v n (acc.map strV)) (ha : acc = splS p) (hk : Below w.heap.size w w') : Splits p w (.returned v) w' := by
  subst ha
  have hn : (splS p).length = n := by simpa using h.1
  have hp := splS_pos p
  subst hn
  obtain ⟨g, c, rfl, hb, hs⟩ := Sl.of_own h hp
  exact ⟨g, c, rfl, hs, hb, hk⟩

theorem ownsRow_iter {w : World} {base : Nat} {e : TypeId} {size : Nat} {v : Value} {n : Nat} {xs : List Value} (h : w.ownsRow base e size v n xs) {k : Nat} {s : ByteArray} {pos : Nat} (hk : w.heap[k]? = some (.stringIter s pos)) (q : Nat) : (w.iterAt k s q).ownsRow base e size v n xs := by
  obtain ⟨h1, h2⟩ := h
  refine ⟨h1, ?_⟩
  rcases h2 with h2 | ⟨g, cap, cur, hv, hb, hg, r⟩
  · exact .inl h2
  · refine .inr ⟨g, cap, cur, hv, hb, ?_, r⟩
    rw [Lib.iterAt_other _ _ _ _ _ (fun e => by rw [e, hk] at hg; cases hg)]
    exact hg
theorem own_not_iter {w : World} {base : Nat} {e : TypeId} {size : Nat} {v : Value} {n : Nat} {xs : List Value} (h : w.ownsRow base e size v n xs) {k : Nat} {s : ByteArray} {pos : Nat} (hk : w.heap[k]? = some (.stringIter s pos)) : some k ≠ v.ownBlock := by
  rcases h.2 with ⟨rfl, _⟩ | ⟨g, cap, cur, rfl, hb, hg, r⟩
  · simp [Value.ownBlock]
  · intro e
    have e2 : k = g := by simpa [Value.ownBlock] using e
    subst e2
    rw [hk] at hg; cases hg
theorem cell_one_new (w : World) (x : ByteArray) (t : TypeId) : ∀ j u, ([x].map strV)[j]? = some u → (w.alloc (.cells #[.string x] t)).cell? ((⟨w.heap.size, 0, none⟩ : Addr).add j) = some u := by
  intro j u hj
  match j, hj with
  | 0, hj => simp [strV] at hj; subst hj; simp [Addr.add]
  | j + 1, hj => simp at hj

/-- A text's segments, one more. -/
theorem acc_snoc (acc : List ByteArray) (x : ByteArray) : acc.map strV ++ [strV x] = (acc ++ [x]).map strV := by simp

/-- What holds at each round's head of path.Split. -/
def SRel (p : ByteArray) (w : World) (l bg : Value) (wr : World) : Prop :=
  ∃ (pos b0 : Nat) (acc : List ByteArray), bg = .int .i64 b0 ∧ SInv p acc b0 pos ∧ wr.ownsRow w.heap.size 9 1 l acc.length (acc.map strV) ∧ wr.heap[w.heap.size + 1]? = some (.stringIter p pos) ∧ Below w.heap.size w wr

theorem srel_move {p : ByteArray} {w wr : World} {l : Value} {pos b0 : Nat} {acc : List ByteArray} (hi : SInv p acc b0 pos) (ho : wr.ownsRow w.heap.size 9 1 l acc.length (acc.map strV)) (hit : wr.heap[w.heap.size + 1]? = some (.stringIter p pos)) (hb : Below w.heap.size w wr)
    (hp : pos < p.size) (hc : ¬ (Utf8.decode p pos).1 = 47) : SRel p w l (.int .i64 b0) (wr.iterAt (w.heap.size + 1) p (pos + (Utf8.decode p pos).2)) := by
  refine ⟨pos + (Utf8.decode p pos).2, b0, acc, rfl, ?_, ownsRow_iter ho hit _, Lib.iterAt_heap _ _ _ _ _ hit, Lib.below_iterAt hb (by omega) _ _⟩
  by_cases hs : p[pos].toNat < 128
  · rw [decode_ascii p pos hp hs] at hc ⊢
    refine hi.move 1 (by omega) fun i hi1 h1 h2 => ?_
    obtain rfl : i = pos := by omega
    intro e
    exact hc (by rw [e]; rfl)
  · obtain ⟨_, h2, h3, h4⟩ := rune_wide p pos hp (by omega)
    refine hi.move _ h3 fun i hi1 h5 h6 => ?_
    have := h4 i hi1 h5 h6
    intro e
    rw [e] at this
    exact absurd this (by decide)
theorem srel_cut {p : ByteArray} {w wr w1 : World} {l l1 : Value} {pos b0 : Nat} {acc : List ByteArray} (hi : SInv p acc b0 pos) (ho : wr.ownsRow w.heap.size 9 1 l acc.length (acc.map strV)) (hit : wr.heap[w.heap.size + 1]? = some (.stringIter p pos)) (hb : Below w.heap.size w wr)
    (hp : pos < p.size) (hc : (Utf8.decode p pos).1 = 47)
    (h1 : w1.ownsRow w.heap.size 9 1 l1 (acc.length + 1) (acc.map strV ++ [strV (p.extract b0 pos)]))
    (hg : ((wr.iterAt (w.heap.size + 1) p (pos + 1)).alloc (.cells #[.string (p.extract b0 pos)] 9)).grownBy w1 l.ownBlock) : SRel p w l1 (.int .i64 ((pos + 1 : Nat) : Int)) w1 ∧ w1.heap[w.heap.size + 1]? = some (.stringIter p (pos + 1)) := by
  have hp47 : p[pos] = 47 := by
    by_cases hs : p[pos].toNat < 128
    · rw [decode_ascii p pos hp hs] at hc
      exact UInt8.toNat_inj.1 (by simpa using hc)
    · have := (decode_high p pos hp (by omega)).1; omega
  have ho2 := (ownsRow_iter ho hit (pos + 1))
  have hit2 := Lib.iterAt_heap wr (w.heap.size + 1) p pos (pos + 1) hit
  have hb2 := Lib.below_iterAt hb (k := w.heap.size + 1) (by omega) p (pos + 1)
  have hsz : w.heap.size + 1 < wr.heap.size := (Array.getElem?_eq_some_iff.1 hit).1
  have hsz2 : (wr.iterAt (w.heap.size + 1) p (pos + 1)).heap.size = wr.heap.size := Lib.iterAt_size _ _ _ _
  have hit3 : w1.heap[w.heap.size + 1]? = some (.stringIter p (pos + 1)) := by
    rw [hg.block _ (by simp [hsz2]; omega) (own_not_iter ho2 hit2), Below.heap_alloc _ _ _ (by omega)]
    exact hit2
  refine ⟨⟨pos + 1, pos + 1, acc ++ [p.extract b0 pos], rfl, hi.cut hp hp47, ?_, hit3, ?_⟩, hit3⟩
  · rw [acc_snoc] at h1; simpa using h1
  · refine (hb2.alloc (by omega) _).grown hg (by simp [hsz2]; omega) fun k hk => ?_
    exact (ho2.lt k hk).1

/-- The room that Split makes. -/
theorem make_room (n : Nat) (hn : n ≤ 1099511627776) : ∃ cs : Array Value, cs.size = n + 1 ∧
    ∀ W : World, (Instr.makeSlice 35 (.int .i64 0) (.int .i64 ((n : Int) + 1))).run Try.prog W = .ok (.slice (some ⟨W.heap.size, 0, none⟩) 0 (n + 1)) (W.alloc (.cells cs 9)) := by
  obtain ⟨i0, hi0, hz0, hz1, hz2⟩ := info_parts infoStr
  refine ⟨madeCells (Value.string ⟨#[]⟩).cells (n + 1), size_madeCells _ _, fun W => ?_⟩
  have h := run_make (P := Try.prog) W 35 9 i0 (.string ⟨#[]⟩) Try.underlying35 hi0 hz0 .i64 .i64 0 ((n : Int) + 1) (by omega) (by omega) (by rw [hz2]; omega) (by omega)
  rw [hz1, show ((n : Int) + 1).toNat = n + 1 by omega, Nat.mul_one] at h
  exact h

set_option maxRecDepth 100000 in
set_option maxHeartbeats 4000000 in
theorem split_any (p : ByteArray) (w : World) (hp : p.size ≤ 1099511627776) :
    Calls Try.prog 44 #[.string p] w (Splits p w) := by
  obtain ⟨i0, hi0, hz0, hz1, hz2⟩ := info_parts infoStr
  have hct : p.data.toList.count 47 ≤ p.size := List.count_le_length
  generalize hn : p.data.toList.count 47 = n at hct
  have HN := Lib.hid hn
  clear hn
  obtain ⟨cs, hcs, hmk⟩ := make_room n (by omega)
  have HC := Lib.hid hcs
  clear hcs
  have HI0 := Lib.hid hi0; have HZ0 := Lib.hid hz0; have HZ1 := Lib.hid hz1; have HZ2 := Lib.hid hz2
  clear hi0 hz0 hz1 hz2
  go_enter Try.func44, Try.ntmps44
  go_wp2_with (first
    | (go_at_call 49; ((with_reducible refine (strokes_any _ _).mono ?_); rintro e w' ⟨rfl, rfl⟩; rw [HN.out])))
  go_loopw [3, 4] (fun l bg wr => SRel p w l bg wr) (fun _ _ wr => p.size - wr.iterPos (w.heap.size + 1))
  case atStart =>
    refine ⟨0, 0, [], rfl, SInv.start p, ?_, ?_, ?_⟩
    · exact (World.ownsRow_made w cs (n + 1) (Nat.le_refl _) (by simp only [maxLen]; omega) (by rw [HC.out, Nat.mul_one])).alloc _
    · have := World.iter_heap (w.alloc (.cells cs 9)) p 0
      simpa using this
    · exact ((Below.refl _ _).alloc (Nat.le_refl _) _).alloc (by simp) _
  case round =>
    obtain ⟨pos, b0, acc, rfl, hi, ho, hit, hb⟩ := hrel
    have hle := hi.le
    have hlt := hi.lt
    have hal := hi.len
    have hsz : w.heap.size + 1 < wr.heap.size := (Array.getElem?_eq_some_iff.1 hit).1
    by_cases hpp : pos < p.size
    · have hnx : ∀ ty, (Instr.next (.pointer (some ⟨w.heap.size + 1, 0, none⟩)) true ty).run Try.prog wr = _ := fun ty => Lib.run_next_any_at wr (w.heap.size + 1) p pos ty hit hpp
      have hd1 := decode_le p pos
      by_cases h47 : (Utf8.decode p pos).1 = 47
      · have hone : (Utf8.decode p pos).2 = 1 := by
          by_cases hs : p[pos].toNat < 128
          · rw [decode_ascii p pos hpp hs]
          · have := (decode_high p pos hpp (by omega)).1; omega
        have HCut := Lib.hid (fun (w1 : World) (l1 : Value) => srel_cut (w1 := w1) (l1 := l1) hi ho hit hb hpp h47)
        rw [hone, h47] at hnx
        have ho2 := (ownsRow_iter ho hit (pos + 1)).alloc (.cells #[.string (p.extract b0 pos)] 9)
        have hit2 := Lib.hid (Lib.iterAt_heap wr (w.heap.size + 1) p pos (pos + 1) hit)
        have HIT := Lib.hid hit
        have hsz2 : (wr.iterAt (w.heap.size + 1) p (pos + 1)).heap.size = wr.heap.size := Lib.iterAt_size _ _ _ _
        have HSZ := Lib.hid hsz2
        clear h47 hone hit hsz2
        go_wp2_with (at_builtin; refine wpList_append_own _ rfl _ _ 35 rfl w.heap.size 9 i0 (.string ⟨#[]⟩) 1 16 Try.underlying35 HI0.out HZ0.out HZ1.out HZ2.out rfl (by decide) _ _ _ rfl ho2 ⟨(wr.iterAt (w.heap.size + 1) p (pos + 1)).heap.size, 0, none⟩ 1 1 ([p.extract b0 pos].map strV) rfl rfl ?c1 ?c2 ?c3 ?c4 ?c5 ?_)
        case c1 => exact cell_one_new _ _ _
        case c2 => exact strV_one _
        case c3 => simp only [maxLen]; omega
        case c4 => omega
        case c5 => simp [HSZ.out]; omega
        intro l1 w1 hown1 hg1 _
        have HR := Lib.hid (HCut.out w1 l1 hown1 hg1)
        clear hown1 hg1
        go_wp2
        go_roundw
        case rel => exact HR.out.1
        case measure =>
          rw [iterPos_of HR.out.2, iterPos_of HIT.out]
          omega
      · have HM := Lib.hid (srel_move hi ho hit hb hpp h47)
        have hb47 : (((Utf8.decode p pos).1 : Int) == 47) = false := beq_eq_false_iff_ne.2 (by omega)
        have hwd : 1 ≤ (Utf8.decode p pos).2 := by
          by_cases hs : p[pos].toNat < 128
          · rw [decode_ascii p pos hpp hs]; exact Nat.le_refl _
          · exact (decode_high p pos hpp (by omega)).2
        have HIT := Lib.hid hit
        clear h47 hit
        go_wp2
        go_roundw
        case rel => exact HM.out
        case measure =>
          rw [iterPos_of (Lib.iterAt_heap wr (w.heap.size + 1) p pos _ HIT.out), iterPos_of HIT.out]
          omega
    · have hnx : ∀ ty, (Instr.next (.pointer (some ⟨w.heap.size + 1, 0, none⟩)) true ty).run Try.prog wr = _ := fun ty => Lib.run_next_end_at wr (w.heap.size + 1) p pos ty hit hpp
      obtain rfl : pos = p.size := by omega
      have HD := Lib.hid hi.done
      have ho2 := ho.alloc (.cells #[.string (p.extract b0 p.size)] 9)
      clear hit
      go_wp2_with (at_builtin; refine wpList_append_own _ rfl _ _ 35 rfl w.heap.size 9 i0 (.string ⟨#[]⟩) 1 16 Try.underlying35 HI0.out HZ0.out HZ1.out HZ2.out rfl (by decide) _ _ _ rfl ho2 ⟨wr.heap.size, 0, none⟩ 1 1 ([p.extract b0 p.size].map strV) rfl rfl ?d1 ?d2 ?d3 ?d4 ?d5 ?_)
      case d1 => exact cell_one_new _ _ _
      case d2 => exact strV_one _
      case d3 => simp only [maxLen]; omega
      case d4 => omega
      case d5 => simp; omega
      intro l1 w1 hown1 hg1 _
      rw [acc_snoc] at hown1
      have HE := Lib.hid (splits_end hown1 HD.out ((hb.alloc (by omega) _).grown hg1 (by simp; omega) fun k hk => (ho.lt k hk).1))
      clear hown1 hg1
      go_wp2
      go_ret
      exact HE.out
end Go.Proofs.Ytapcaflmfkcfkaa.L4

namespace Go.Proofs.Ytapcaflmfkcfkaa.L4
open Go.RowKit

theorem idx (s : ByteArray) (k : Nat) (hlt : k < s.size) : ∃ c : Nat, RowKit.Hid (c = s[k].toNat) ∧ c < 256 ∧ ∀ wx, (Instr.index 9 (.string s) (.int .i64 k)).run Try.prog wx = .ok (.int .u8 c) wx :=
  ⟨s[k].toNat, rfl, s[k].toNat_lt, fun wx => by simp [go_sem, hlt]⟩

/-- What holds at each round's head of the document's Split. -/
def RRel (p : ByteArray) (w : World) (l bg iv : Value) (wr : World) : Prop :=
  ∃ (i b0 : Nat) (acc : List ByteArray), iv = .int .i64 i ∧ bg = .int .i64 b0 ∧ ((i ≤ p.size ∧ SInv p acc b0 i) ∨ (i = p.size + 1 ∧ acc = splS p)) ∧ acc.length ≤ p.size + 1 ∧ wr.ownsRow w.heap.size 9 1 l acc.length (acc.map strV) ∧ Below w.heap.size w wr

theorem rrel_move {p : ByteArray} {w wr : World} {l : Value} {i b0 : Nat} {acc : List ByteArray} (hi : SInv p acc b0 i) (ho : wr.ownsRow w.heap.size 9 1 l acc.length (acc.map strV)) (hb : Below w.heap.size w wr)
    (hp : i < p.size) (hc : p[i] ≠ 47) : RRel p w l (.int .i64 b0) (.int .i64 ((i + 1 : Nat) : Int)) wr :=
  ⟨i + 1, b0, acc, rfl, rfl, .inl ⟨hp, hi.move 1 hp fun j hj h1 h2 => by obtain rfl : j = i := by omega
                                                                         exact hc⟩, by have := hi.len; have := hi.le; omega, ho, hb⟩
theorem rrel_app {p : ByteArray} {w wr w1 : World} {l l1 : Value} {i b0 : Nat} {acc : List ByteArray} (hi : SInv p acc b0 i) (ho : wr.ownsRow w.heap.size 9 1 l acc.length (acc.map strV)) (hb : Below w.heap.size w wr)
    (hcase : (∃ hp : i < p.size, p[i] = 47) ∨ i = p.size)
    (h1 : w1.ownsRow w.heap.size 9 1 l1 (acc.length + 1) (acc.map strV ++ [strV (p.extract b0 i)]))
    (hg : (wr.alloc (.cells #[.string (p.extract b0 i)] 9)).grownBy w1 l.ownBlock) : RRel p w l1 (.int .i64 ((i + 1 : Nat) : Int)) (.int .i64 ((i + 1 : Nat) : Int)) w1 := by
  have hl := hi.len
  have hle := hi.le
  have hlt := hi.lt
  refine ⟨i + 1, i + 1, acc ++ [p.extract b0 i], rfl, rfl, ?_, by simp; omega, by rw [acc_snoc] at h1; simpa using h1, ?_⟩
  · rcases hcase with ⟨hp, hc⟩ | rfl
    · exact .inl ⟨hp, hi.cut hp hc⟩
    · exact .inr ⟨rfl, hi.done⟩
  · have := hb.size
    exact (hb.alloc (by omega) _).grown hg (by simp; omega) fun k hk => (ho.lt k hk).1

set_option maxRecDepth 100000 in
set_option maxHeartbeats 4000000 in
theorem rsplit_any (p : ByteArray) (w : World) (hp : p.size ≤ 1099511627776) :
    Calls Try.prog 46 #[.string p] w (Splits p w) := by
  obtain ⟨i0, hi0, hz0, hz1, hz2⟩ := info_parts infoStr
  have HI0 := Lib.hid hi0; have HZ0 := Lib.hid hz0; have HZ1 := Lib.hid hz1; have HZ2 := Lib.hid hz2
  clear hi0 hz0 hz1 hz2
  go_enter Try.func46, Try.ntmps46
  go_wp2
  go_loopw [3, 4, 5] (fun l bg iv wr => RRel p w l bg iv wr) (fun _ _ iv _ => p.size + 1 - (intOf iv).toNat)
  case atStart => exact ⟨0, 0, [], rfl, rfl, .inl ⟨Nat.zero_le _, SInv.start p⟩, by simp, World.ownsRow_nil _ _ _ _, Below.refl _ _⟩
  case round =>
    obtain ⟨i, b0, acc, rfl, rfl, hc, hal, ho, hb⟩ := hrel
    have hsz := hb.size
    rcases hc with ⟨hi1, hi⟩ | ⟨rfl, ha⟩
    · have hle := hi.le
      by_cases he : i = p.size
      · have H1 := Lib.hid (fun (w1 : World) (l1 : Value) => rrel_app (w1 := w1) (l1 := l1) hi ho hb (.inr he))
        have hb1 : ((i : Int) == (p.size : Int)) = true := beq_iff_eq.2 (by omega)
        have hb2 : (i == p.size) = true := beq_iff_eq.2 he
        have ho2 := ho.alloc (.cells #[.string (p.extract b0 i)] 9)
        have hi2 : p.size ≤ i := by omega
        clear he
        go_wp2_with (at_builtin; refine wpList_append_own _ rfl _ _ 35 rfl w.heap.size 9 i0 (.string ⟨#[]⟩) 1 16 Try.underlying35 HI0.out HZ0.out HZ1.out HZ2.out rfl (by decide) _ _ _ rfl ho2 ⟨wr.heap.size, 0, none⟩ 1 1 ([p.extract b0 i].map strV) rfl rfl ?d1 ?d2 ?d3 ?d4 ?d5 ?_)
        case d1 => exact cell_one_new _ _ _
        case d2 => exact strV_one _
        case d3 => simp only [maxLen]; omega
        case d4 => omega
        case d5 => simp; omega
        intro l1 w1 hown1 hg1 _
        have HR := Lib.hid (H1.out w1 l1 hown1 hg1)
        clear hown1 hg1
        go_wp2
        go_roundw
        case rel => exact HR.out
        case measure => simp [intOf]; omega
      · have hb1 : ((i : Int) == (p.size : Int)) = false := beq_eq_false_iff_ne.2 (by omega)
        have hb2 : (i == p.size) = false := beq_eq_false_iff_ne.2 he
        have hlt : i < p.size := by omega
        obtain ⟨c, HC, hc256, hix⟩ := idx p i hlt
        by_cases h47 : c = 47
        · have hp47 : p[i] = 47 := UInt8.toNat_inj.1 (by rw [← HC.out, h47]; rfl)
          have H1 := Lib.hid (fun (w1 : World) (l1 : Value) => rrel_app (w1 := w1) (l1 := l1) hi ho hb (.inl ⟨hlt, hp47⟩))
          have hcb : ((c : Int) == 47) = true := beq_iff_eq.2 (by omega)
          have ho2 := ho.alloc (.cells #[.string (p.extract b0 i)] 9)
          clear hp47 h47 he
          go_wp2_with (at_builtin; refine wpList_append_own _ rfl _ _ 35 rfl w.heap.size 9 i0 (.string ⟨#[]⟩) 1 16 Try.underlying35 HI0.out HZ0.out HZ1.out HZ2.out rfl (by decide) _ _ _ rfl ho2 ⟨wr.heap.size, 0, none⟩ 1 1 ([p.extract b0 i].map strV) rfl rfl ?e1 ?e2 ?e3 ?e4 ?e5 ?_)
          case e1 => exact cell_one_new _ _ _
          case e2 => exact strV_one _
          case e3 => simp only [maxLen]; omega
          case e4 => omega
          case e5 => simp; omega
          intro l1 w1 hown1 hg1 _
          have HR := Lib.hid (H1.out w1 l1 hown1 hg1)
          clear hown1 hg1
          go_wp2
          go_roundw
          case rel => exact HR.out
          case measure => simp [intOf]; omega
        · have hcb : ((c : Int) == 47) = false := beq_eq_false_iff_ne.2 (by omega)
          have HR := Lib.hid (rrel_move hi ho hb hlt (fun e => h47 (by rw [HC.out, e]; rfl)))
          clear h47 he
          go_wp2
          go_roundw
          case rel => exact HR.out
          case measure => simp [intOf]; omega
    · have HE := Lib.hid (splits_end ho ha hb)
      clear ha
      go_wp2
      go_ret
      exact HE.out
end Go.Proofs.Ytapcaflmfkcfkaa.L4

namespace Go.Proofs.Ytapcaflmfkcfkaa.L4
open Go.RowKit

theorem sl_at {w : World} {b c : Nat} {p : ByteArray} (h : Sl w ⟨b, 0, none⟩ (splS p).length c (splS p)) {k : Nat} (hk : k < (splS p).length) : w.cell? ⟨b, k, none⟩ = some (.string (sg p k)) := by
  have := h.get hk
  rwa [Nat.zero_add] at this
/-- A text against the star, in the walk's words. -/
theorem star_yes {s : ByteArray} (h : s.data.toList = [42]) : s = ⟨#[42]⟩ := ba_ext h
theorem star_not {s : ByteArray} (h : ¬ s.data.toList = [42]) : (s.toList == [42]) = false ∧ (s.toList != [42]) = true := by
  rw [Lib.toList_data]; exact ⟨beq_eq_false_iff_ne.2 h, bne_iff_ne.2 h⟩

set_option maxRecDepth 100000 in
set_option maxHeartbeats 2000000 in
theorem right_any (p : ByteArray) (w : World) (hp : p.size ≤ 1099511627776) :
    Calls Try.prog 25 #[.string p] w fun e w' => e = .returned (.bool (rightS p)) ∧ Ke w w' := by
  have hn1 := splS_le p
  go_enter Try.func25, Try.ntmps25
  go_wp2_with (go_at_call 44; ((with_reducible refine (split_any p _ hp).mono ?_); rintro e w1 ⟨b, c, rfl, hs, hbb, hk⟩))
  have hcm := hs.2.1
  have hcx := hs.2.2.1
  simp only [maxLen] at hcx
  have HS := Lib.hid hs
  have HK := Lib.hid hk
  clear hs hk
  go_loopw [10] (fun i wr => ∃ k : Nat, k ≤ (splS p).length ∧ i = .int .i64 k ∧ Ke w1 wr ∧ ∀ j, j < k → segS (sg p j) = true) (fun i _ => (splS p).length - (intOf i).toNat)
  case atStart => exact ⟨0, Nat.zero_le _, rfl, Ke.refl _, fun j hj => absurd hj (by omega)⟩
  case round =>
    obtain ⟨k, hkl, rfl, hkr, hall⟩ := hrel
    have HA := Lib.hid hall
    have HR := Lib.hid hkr
    clear hall hkr
    by_cases hlt : k < (splS p).length
    · have g := sl_at (HS.out.ke HR.out) hlt
      have hsz := sg_size p k
      cases hsg : segS (sg p k) with
      | true =>
        have HG := Lib.hid hsg
        clear hsg
        go_wp2_with (go_at_call 45; ((with_reducible refine (seg_c _ true HG.out (by omega) _).mono ?_); rintro e w2 ⟨rfl, hk2⟩))
        go_roundw
        case rel =>
          refine ⟨k + 1, hlt, by go_num, HR.out.trans hk2, fun j hj => ?_⟩
          rcases Nat.lt_or_ge j k with h3 | h3
          · exact HA.out j h3
          · obtain rfl : j = k := by omega
            exact HG.out
        case measure => simp [intOf]; omega
      | false =>
        have HG := Lib.hid hsg
        clear hsg
        go_wp2_with (go_at_call 45; ((with_reducible refine (seg_c _ false HG.out (by omega) _).mono ?_); rintro e w2 ⟨rfl, hk2⟩))
        go_ret
        exact ⟨ret_bool (right_no p k hlt HG.out).symm, HK.out.trans (HR.out.trans hk2)⟩
    · have HY := Lib.hid (right_yes p (fun i hi => HA.out i (by omega)))
      go_wp2
      go_ret
      exact ⟨ret_bool (by rw [HY.out, decide_eq_decide]; omega), HK.out.trans HR.out⟩

set_option maxRecDepth 100000 in
set_option maxHeartbeats 2000000 in
theorem rright_any (p : ByteArray) (w : World) (hp : p.size ≤ 1099511627776) :
    Calls Try.prog 26 #[.string p] w fun e w' => e = .returned (.bool (rightS p)) ∧ Ke w w' := by
  have hn1 := splS_le p
  go_enter Try.func26, Try.ntmps26
  go_wp2_with (go_at_call 46; ((with_reducible refine (rsplit_any p _ hp).mono ?_); rintro e w1 ⟨b, c, rfl, hs, hbb, hk⟩))
  have hcm := hs.2.1
  have hcx := hs.2.2.1
  simp only [maxLen] at hcx
  have HS := Lib.hid hs
  have HK := Lib.hid hk
  clear hs hk
  go_loopw [10] (fun i wr => ∃ k : Nat, k ≤ (splS p).length ∧ i = .int .i64 k ∧ Ke w1 wr ∧ ∀ j, j < k → segS (sg p j) = true) (fun i _ => (splS p).length - (intOf i).toNat)
  case atStart => exact ⟨0, Nat.zero_le _, rfl, Ke.refl _, fun j hj => absurd hj (by omega)⟩
  case round =>
    obtain ⟨k, hkl, rfl, hkr, hall⟩ := hrel
    have HA := Lib.hid hall
    have HR := Lib.hid hkr
    clear hall hkr
    by_cases hlt : k < (splS p).length
    · have g := sl_at (HS.out.ke HR.out) hlt
      have hsz := sg_size p k
      cases hsg : segS (sg p k) with
      | true =>
        have HG := Lib.hid hsg
        clear hsg
        go_wp2_with (go_at_call 47; ((with_reducible refine (rseg_c _ true HG.out (by omega) _).mono ?_); rintro e w2 ⟨rfl, hk2⟩))
        go_roundw
        case rel =>
          refine ⟨k + 1, hlt, by go_num, HR.out.trans hk2, fun j hj => ?_⟩
          rcases Nat.lt_or_ge j k with h3 | h3
          · exact HA.out j h3
          · obtain rfl : j = k := by omega
            exact HG.out
        case measure => simp [intOf]; omega
      | false =>
        have HG := Lib.hid hsg
        clear hsg
        go_wp2_with (go_at_call 47; ((with_reducible refine (rseg_c _ false HG.out (by omega) _).mono ?_); rintro e w2 ⟨rfl, hk2⟩))
        go_ret
        exact ⟨ret_bool (right_no p k hlt HG.out).symm, HK.out.trans (HR.out.trans hk2)⟩
    · have HY := Lib.hid (right_yes p (fun i hi => HA.out i (by omega)))
      go_wp2
      go_ret
      exact ⟨ret_bool (by rw [HY.out, decide_eq_decide]; omega), HK.out.trans HR.out⟩

set_option maxRecDepth 100000 in
set_option maxHeartbeats 2000000 in
theorem rpat_any (p : ByteArray) (w : World) (hp : p.size ≤ 1099511627776) :
    Calls Try.prog 48 #[.string p] w fun e w' => e = .returned (.bool (patS p)) ∧ Ke w w' := by
  have hn1 := splS_le p
  have hn0 := splS_pos p
  go_enter Try.func48, Try.ntmps48
  go_wp2_with (go_at_call 46; ((with_reducible refine (rsplit_any p _ hp).mono ?_); rintro e w1 ⟨b, c, rfl, hs, hbb, hk⟩))
  have hcm := hs.2.1
  have hcx := hs.2.2.1
  simp only [maxLen] at hcx
  have HS := Lib.hid hs
  have HK := Lib.hid hk
  clear hs hk
  go_loopw [10] (fun i wr => ∃ k : Nat, k ≤ (splS p).length ∧ i = .int .i64 k ∧ Ke w1 wr ∧ ∀ j, j < k → (segS (sg p j) = true ∨ (sg p j).data.toList = [42])) (fun i _ => (splS p).length - (intOf i).toNat)
  case atStart => exact ⟨0, Nat.zero_le _, rfl, Ke.refl _, fun j hj => absurd hj (by omega)⟩
  case round =>
    obtain ⟨k, hkl, rfl, hkr, hall⟩ := hrel
    have HA := Lib.hid hall
    have HR := Lib.hid hkr
    clear hall hkr
    by_cases hlt : k < (splS p).length
    · have g := sl_at (HS.out.ke HR.out) hlt
      have hsz := sg_size p k
      by_cases hst : (sg p k).data.toList = [42]
      · have HP := Lib.hid (Or.inr (a := segS (sg p k) = true) hst)
        rw [star_yes hst] at g
        clear hst
        go_wp2
        go_roundw
        case rel =>
          refine ⟨k + 1, hlt, by go_num, HR.out, fun j hj => ?_⟩
          rcases Nat.lt_or_ge j k with h3 | h3
          · exact HA.out j h3
          · obtain rfl : j = k := by omega
            exact HP.out
        case measure => simp [intOf]; omega
      · obtain ⟨s1, s2⟩ := star_not hst
        cases hsg : segS (sg p k) with
        | true =>
          have HG := Lib.hid hsg
          have HP := Lib.hid (Or.inl (b := (sg p k).data.toList = [42]) hsg)
          clear hsg hst
          go_wp2_with (go_at_call 47; ((with_reducible refine (rseg_c _ true HG.out (by omega) _).mono ?_); rintro e w2 ⟨rfl, hk2⟩))
          go_roundw
          case rel =>
            refine ⟨k + 1, hlt, by go_num, HR.out.trans hk2, fun j hj => ?_⟩
            rcases Nat.lt_or_ge j k with h3 | h3
            · exact HA.out j h3
            · obtain rfl : j = k := by omega
              exact HP.out
          case measure => simp [intOf]; omega
        | false =>
          have HG := Lib.hid hsg
          have HP := Lib.hid (patK_not p k hsg hst)
          clear hsg hst
          go_wp2_with (go_at_call 47; ((with_reducible refine (rseg_c _ false HG.out (by omega) _).mono ?_); rintro e w2 ⟨rfl, hk2⟩))
          go_ret
          exact ⟨ret_bool (pat_no p k hlt HP.out).symm, HK.out.trans (HR.out.trans hk2)⟩
    · have g := sl_at (HS.out.ke HR.out) hn0
      by_cases h6 : (splS p).length ≤ 6
      · have d6 : decide (((splS p).length : Int) ≤ 6) = true := decide_eq_true (by omega)
        by_cases hst : (sg p 0).data.toList = [42]
        · have HN := Lib.hid (pat_no p 0 hn0 (patK_zero p (seg_star _ hst)))
          rw [star_yes hst] at g
          clear hst
          go_wp2
          go_ret
          exact ⟨ret_bool HN.out.symm, HK.out.trans HR.out⟩
        · obtain ⟨s1, s2⟩ := star_not hst
          have HY := Lib.hid (pat_yes p (fun i hi => by
            rcases HA.out i (by omega) with h | h
            · exact patK_seg p i h
            · exact patK_star p i (fun e => hst (by rw [← e]; exact h)) h))
          clear hst
          go_wp2
          go_ret
          exact ⟨ret_bool (by rw [HY.out]; simp; omega), HK.out.trans HR.out⟩
      · have d6 : decide (((splS p).length : Int) ≤ 6) = false := decide_eq_false (by omega)
        have HN := Lib.hid (show patS p = false by
          unfold patS patL
          rw [spl_length, decide_eq_false h6, Bool.and_false])
        go_wp2
        go_ret
        exact ⟨ret_bool HN.out.symm, HK.out.trans HR.out⟩
end Go.Proofs.Ytapcaflmfkcfkaa.L4

