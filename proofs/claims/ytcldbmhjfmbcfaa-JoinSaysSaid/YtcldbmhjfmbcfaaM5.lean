/-
  What is proved: path.inSeg, path.Seg and the document's Seg, called with any text, return whether it is a segment (P4.1); the world has new blocks at most.
  path.strokes, path.Split and the document's Split, called with any text of up to 2^40 bytes, return how many strokes it has, and its segments, in new memory (P4.2); the world has new blocks at most.
  the document's Split, called with any text of up to 2^40 bytes, returns its segments, in new memory (P4.2); the world has new blocks at most.
  path.Right and path.Pattern and the document's, called with any text of up to 2^40 bytes, return whether it is a path, and whether it is a pattern (P4.4, P4.5); the world has new blocks at most.
  the document's own Take of layer 3, called with any text of up to 1000 bytes, returns the same as val.Take; the world has new blocks at most.
  the check on a region's order that region_mix asks (mixB), reckoned by one number's bits in the place of an array: what it finds holds of mixB.
-/
import Derived.Test.YtcldbmhjfmbcfaaM4
import Derived.WalkKit
import Derived.WalkSpells
import Derived.WalkLawsBesides
import Derived.LoopTactic
import Derived.RowKit3
import Derived.Outline
import Derived.Test.YtcldbmhjfmbcfaaProg
import Derived.Test.YtcldbmhjfmbcfaaM3
import Derived.Test.YtcldbmhjfmbcfaaM2
namespace Go.Proofs.Ytcldbmhjfmbcfaa.L4
open Go.RowKit

theorem ret_bool {a b : Bool} (h : a = b) : Ending.returned (.bool a) = .returned (.bool b) := by rw [h]
theorem okC_cases (c : Nat) : (c < 48 ∧ okC c = false) ∨ (48 ≤ c ∧ c ≤ 57 ∧ okC c = true) ∨ (57 < c ∧ c < 95 ∧ okC c = false) ∨ (c = 95 ∧ okC c = true) ∨ (c = 96 ∧ okC c = false) ∨ (97 ≤ c ∧ c ≤ 122 ∧ okC c = true) ∨ (122 < c ∧ okC c = false) := by
  by_cases h1 : 97 ≤ c ∧ c ≤ 122 ∨ 48 ≤ c ∧ c ≤ 57 ∨ c = 95
  · have h : okC c = true := decide_eq_true h1
    rcases h1 with h1 | h1 | h1
    · exact .inr (.inr (.inr (.inr (.inr (.inl ⟨h1.1, h1.2, h⟩)))))
    · exact .inr (.inl ⟨h1.1, h1.2, h⟩)
    · exact .inr (.inr (.inr (.inl ⟨h1, h⟩)))
  · have h : okC c = false := decide_eq_false h1
    simp only [h]
    simp
    omega
theorem text_none {t : ByteArray} (h : t.size = 0) : t.toList = [] := by
  rw [Lib.toList_data]; exact List.eq_nil_of_length_eq_zero h
theorem text_some {t : ByteArray} (h : ¬ t.size = 0) : t.toList ≠ [] ∧ t.toList.isEmpty = false ∧ (t.toList == []) = false := by
  have : t.toList ≠ [] := by rw [Lib.toList_data]; intro e; exact h (by rw [ba_size, e]; rfl)
  refine ⟨this, by simpa using this, by simpa using this⟩
theorem segS_nil {t : ByteArray} (h : t.size = 0) : segS t = false := by
  have : t.data.toList = [] := List.eq_nil_of_length_eq_zero h
  unfold segS; rw [this]; rfl
theorem segS_few {s : ByteArray} (h : ∀ i (hi : i < s.size), okC s[i].toNat = true) (h0 : ¬ s.size = 0) : segS s = decide (s.size ≤ 16) := by
  rw [segS_all s h]
  have : s.data.toList.isEmpty = false := by
    rw [List.isEmpty_eq_false_iff]; intro e; exact h0 (by rw [ba_size, e]; rfl)
  rw [this]; rfl

theorem ke_iter (w : World) (s : ByteArray) (pos : Nat) : Ke w (w.iter s pos) := (Ke.refl w).alloc _

set_option maxRecDepth 100000 in
set_option maxHeartbeats 4000000 in
theorem rseg_any (s : ByteArray) (w : World) (hs : s.size ≤ 9223372036854775807) :
    Calls Try.prog 81 #[.string s] w fun e w' => e = .returned (.bool (segS s)) ∧ Ke w w' := by
  go_enter Try.func81, Try.ntmps81
  go_wp2
  go_loopw [] (fun wr => ∃ pos : Nat, pos ≤ s.size ∧ wr = w.iter s pos ∧ ∀ i (hi : i < s.size), i < pos → okC s[i].toNat = true) (fun wr => s.size - wr.iterPos w.heap.size)
  case atStart => exact ⟨0, Nat.zero_le _, rfl, fun i hi h => absurd h (by omega)⟩
  case round =>
    obtain ⟨pos, hle, rfl, hok⟩ := hrel
    have HO := Lib.hid hok
    clear hok
    by_cases hp : pos < s.size
    · have hnx : ∀ ty, (Instr.next (.pointer (some ⟨w.heap.size, 0, none⟩)) true ty).run Try.prog (w.iter s pos) = _ := fun ty => run_next_any w s pos ty hp
      have hd1 := decode_le s pos
      have HR := Lib.hid (rune_okC s pos hp)
      have HW : okC (Utf8.decode s pos).1 = true → (Utf8.decode s pos).2 = 1 := rune_one s pos hp
      generalize hcc : (Utf8.decode s pos).1 = c at hnx hd1 HR HW
      generalize hww : (Utf8.decode s pos).2 = wd at hnx HW
      clear hcc hww
      have HW := Lib.hid HW
      have HI : okC c = true → ∀ i (hi : i < s.size), i < pos + 1 → okC s[i].toNat = true := fun hk i hi h => by
        rcases Nat.lt_or_ge i pos with h3 | h3
        · exact HO.out i hi h3
        · obtain rfl : i = pos := by omega
          rw [← HR.out]; exact hk
      have HI := Lib.hid HI
      have HN : okC c = false → segS s = false := fun hk => segS_no s pos hp (by rw [← HR.out]; exact hk)
      have HN := Lib.hid HN
      rcases okC_cases c with ⟨h1, h2⟩ | ⟨h0, h1, h2⟩ | ⟨h0, h1, h2⟩ | ⟨h1, h2⟩ | ⟨h1, h2⟩ | ⟨h0, h1, h2⟩ | ⟨h1, h2⟩
      · have n5 : ((c : Int) != 95) = true := bne_iff_ne.2 (by omega)
        have H := Lib.hid h2
        clear h2
        go_wp2
        go_ret
        exact ⟨ret_bool (HN.out H.out).symm, ke_iter _ _ _⟩
      · have H := Lib.hid h2
        clear h2
        go_wp2
        go_roundw
        case rel => exact ⟨pos + 1, by omega, by rw [HW.out H.out], HI.out H.out⟩
        case measure => rw [World.iterPos_iter, World.iterPos_iter, HW.out H.out]; omega
      · have n5 : ((c : Int) != 95) = true := bne_iff_ne.2 (by omega)
        have H := Lib.hid h2
        clear h2
        go_wp2
        go_ret
        exact ⟨ret_bool (HN.out H.out).symm, ke_iter _ _ _⟩
      · subst h1
        have H := Lib.hid h2
        clear h2
        go_wp2
        go_roundw
        case rel => exact ⟨pos + 1, by omega, by rw [HW.out H.out], HI.out H.out⟩
        case measure => rw [World.iterPos_iter, World.iterPos_iter, HW.out H.out]; omega
      · subst h1
        have H := Lib.hid h2
        clear h2
        go_wp2
        go_ret
        exact ⟨ret_bool (HN.out H.out).symm, ke_iter _ _ _⟩
      · have H := Lib.hid h2
        clear h2
        go_wp2
        go_roundw
        case rel => exact ⟨pos + 1, by omega, by rw [HW.out H.out], HI.out H.out⟩
        case measure => rw [World.iterPos_iter, World.iterPos_iter, HW.out H.out]; omega
      · have n5 : ((c : Int) != 95) = true := bne_iff_ne.2 (by omega)
        have H := Lib.hid h2
        clear h2
        go_wp2
        go_ret
        exact ⟨ret_bool (HN.out H.out).symm, ke_iter _ _ _⟩
    · have hnx : ∀ ty, (Instr.next (.pointer (some ⟨w.heap.size, 0, none⟩)) true ty).run Try.prog (w.iter s pos) = _ := fun ty => run_next_end w s pos ty hp
      have HO2 := Lib.hid (fun i hi => HO.out i hi (show i < pos by omega))
      by_cases h0 : s.size = 0
      · have h1 := text_none h0
        have HZ := Lib.hid (segS_nil h0)
        clear h0
        go_wp2
        go_ret
        exact ⟨ret_bool HZ.out.symm, ke_iter _ _ _⟩
      · obtain ⟨h1, h2, h3⟩ := text_some h0
        have HZ := Lib.hid (segS_few HO2.out h0)
        go_wp2
        go_ret
        exact ⟨ret_bool (by rw [HZ.out, decide_eq_decide]; omega), ke_iter _ _ _⟩
theorem rseg_c (s : ByteArray) (b : Bool) (hb : segS s = b) (hs : s.size ≤ 9223372036854775807) (w : World) :
    Calls Try.prog 81 #[.string s] w fun e w' => e = .returned (.bool b) ∧ Ke w w' := by
  subst hb; exact rseg_any s w hs
end Go.Proofs.Ytcldbmhjfmbcfaa.L4

namespace Go.Proofs.Ytcldbmhjfmbcfaa
end Go.Proofs.Ytcldbmhjfmbcfaa

namespace Go.Proofs.Ytcldbmhjfmbcfaa.L4
open Go.RowKit

theorem infoStr : (Try.prog.info? 9).map (fun i => (i.zero, i.size, i.bytes)) = some (some (.string ⟨#[]⟩), 1, 16) := by kernel_rfl

/-- What Split leaves. -/
def Splits (p : ByteArray) (w : World) (e : Ending) (w' : World) : Prop :=
  ∃ b c, e = .returned (.slice (some ⟨b, 0, none⟩) (splS p).length c) ∧ Sl w' ⟨b, 0, none⟩ (splS p).length c (splS p) ∧ w.heap.size ≤ b ∧ Ke w w'
theorem splits_end {p : ByteArray} {w w' : World} {v : Value} {n : Nat} {acc : List ByteArray} (h : w'.ownsRow w.heap.size 9 1 v n (acc.map strV)) (ha : acc = splS p) (hk : Below w.heap.size w w') : Splits p w (.returned v) w' := by
  subst ha
  have hn : (splS p).length = n := by simpa using h.1
  have hp := splS_pos p
  subst hn
  obtain ⟨g, c, rfl, hb, hs⟩ := Sl.of_own h hp
  exact ⟨g, c, rfl, hs, hb, hk⟩

theorem ownsRow_iter {w : World} {base : Nat} {e : TypeId} {size : Nat} {v : Value} {n : Nat} {xs : List Value} (h : w.ownsRow base e size v n xs) {k : Nat} {s : ByteArray} {pos : Nat} (hk : w.heap[k]? = some (.stringIter s pos)) (q : Nat) : (w.iterAt k s q).ownsRow base e size v n xs := by
  obtain ⟨h1, h2⟩ := h
  refine ⟨h1, ?_⟩
  rcases h2 with h2 | ⟨g, cap, cur, hv, hb, hg, r⟩
  · exact .inl h2
  · refine .inr ⟨g, cap, cur, hv, hb, ?_, r⟩
    rw [Lib.iterAt_other _ _ _ _ _ (fun e => by rw [e, hk] at hg; cases hg)]
    exact hg
theorem own_not_iter {w : World} {base : Nat} {e : TypeId} {size : Nat} {v : Value} {n : Nat} {xs : List Value} (h : w.ownsRow base e size v n xs) {k : Nat} {s : ByteArray} {pos : Nat} (hk : w.heap[k]? = some (.stringIter s pos)) : some k ≠ v.ownBlock := by
  rcases h.2 with ⟨rfl, _⟩ | ⟨g, cap, cur, rfl, hb, hg, r⟩
  · simp [Value.ownBlock]
  · intro e
    have e2 : k = g := by simpa [Value.ownBlock] using e
    subst e2
    rw [hk] at hg; cases hg
theorem cell_one_new (w : World) (x : ByteArray) (t : TypeId) : ∀ j u, ([x].map strV)[j]? = some u → (w.alloc (.cells #[.string x] t)).cell? ((⟨w.heap.size, 0, none⟩ : Addr).add j) = some u := by
  intro j u hj
  match j, hj with
  | 0, hj => simp [strV] at hj; subst hj; simp [Addr.add]
  | j + 1, hj => simp at hj

/-- A text's segments, one more. -/
theorem acc_snoc (acc : List ByteArray) (x : ByteArray) : acc.map strV ++ [strV x] = (acc ++ [x]).map strV := by simp

/-- What holds at each round's head of path.Split. -/
def SRel (p : ByteArray) (w : World) (l bg : Value) (wr : World) : Prop :=
  ∃ (pos b0 : Nat) (acc : List ByteArray), bg = .int .i64 b0 ∧ SInv p acc b0 pos ∧ wr.ownsRow w.heap.size 9 1 l acc.length (acc.map strV) ∧ wr.heap[w.heap.size + 1]? = some (.stringIter p pos) ∧ Below w.heap.size w wr

theorem srel_move {p : ByteArray} {w wr : World} {l : Value} {pos b0 : Nat} {acc : List ByteArray} (hi : SInv p acc b0 pos) (ho : wr.ownsRow w.heap.size 9 1 l acc.length (acc.map strV)) (hit : wr.heap[w.heap.size + 1]? = some (.stringIter p pos)) (hb : Below w.heap.size w wr)
    (hp : pos < p.size) (hc : ¬ (Utf8.decode p pos).1 = 47) : SRel p w l (.int .i64 b0) (wr.iterAt (w.heap.size + 1) p (pos + (Utf8.decode p pos).2)) := by
  refine ⟨pos + (Utf8.decode p pos).2, b0, acc, rfl, ?_, ownsRow_iter ho hit _, Lib.iterAt_heap _ _ _ _ _ hit, Lib.below_iterAt hb (by omega) _ _⟩
  by_cases hs : p[pos].toNat < 128
  · rw [decode_ascii p pos hp hs] at hc ⊢
    refine hi.move 1 (by omega) fun i hi1 h1 h2 => ?_
    obtain rfl : i = pos := by omega
    intro e
    exact hc (by rw [e]; rfl)
  · obtain ⟨_, h2, h3, h4⟩ := rune_wide p pos hp (by omega)
    refine hi.move _ h3 fun i hi1 h5 h6 => ?_
    have := h4 i hi1 h5 h6
    intro e
    rw [e] at this
    exact absurd this (by decide)
theorem srel_cut {p : ByteArray} {w wr w1 : World} {l l1 : Value} {pos b0 : Nat} {acc : List ByteArray} (hi : SInv p acc b0 pos) (ho : wr.ownsRow w.heap.size 9 1 l acc.length (acc.map strV)) (hit : wr.heap[w.heap.size + 1]? = some (.stringIter p pos)) (hb : Below w.heap.size w wr)
    (hp : pos < p.size) (hc : (Utf8.decode p pos).1 = 47)
    (h1 : w1.ownsRow w.heap.size 9 1 l1 (acc.length + 1) (acc.map strV ++ [strV (p.extract b0 pos)]))
    (hg : ((wr.iterAt (w.heap.size + 1) p (pos + 1)).alloc (.cells #[.string (p.extract b0 pos)] 9)).grownBy w1 l.ownBlock) : SRel p w l1 (.int .i64 ((pos + 1 : Nat) : Int)) w1 ∧ w1.heap[w.heap.size + 1]? = some (.stringIter p (pos + 1)) := by
  have hp47 : p[pos] = 47 := by
    by_cases hs : p[pos].toNat < 128
    · rw [decode_ascii p pos hp hs] at hc
      exact UInt8.toNat_inj.1 (by simpa using hc)
    · have := (decode_high p pos hp (by omega)).1; omega
  have ho2 := (ownsRow_iter ho hit (pos + 1))
  have hit2 := Lib.iterAt_heap wr (w.heap.size + 1) p pos (pos + 1) hit
  have hb2 := Lib.below_iterAt hb (k := w.heap.size + 1) (by omega) p (pos + 1)
  have hsz : w.heap.size + 1 < wr.heap.size := (Array.getElem?_eq_some_iff.1 hit).1
  have hsz2 : (wr.iterAt (w.heap.size + 1) p (pos + 1)).heap.size = wr.heap.size := Lib.iterAt_size _ _ _ _
  have hit3 : w1.heap[w.heap.size + 1]? = some (.stringIter p (pos + 1)) := by
    rw [hg.block _ (by simp [hsz2]; omega) (own_not_iter ho2 hit2), Below.heap_alloc _ _ _ (by omega)]
    exact hit2
  refine ⟨⟨pos + 1, pos + 1, acc ++ [p.extract b0 pos], rfl, hi.cut hp hp47, ?_, hit3, ?_⟩, hit3⟩
  · rw [acc_snoc] at h1; simpa using h1
  · refine (hb2.alloc (by omega) _).grown hg (by simp [hsz2]; omega) fun k hk => ?_
    exact (ho2.lt k hk).1

/-- The room that Split makes. -/
theorem make_room (n : Nat) (hn : n ≤ 1099511627776) : ∃ cs : Array Value, cs.size = n + 1 ∧
    ∀ W : World, (Instr.makeSlice 92 (.int .i64 0) (.int .i64 ((n : Int) + 1))).run Try.prog W = .ok (.slice (some ⟨W.heap.size, 0, none⟩) 0 (n + 1)) (W.alloc (.cells cs 9)) := by
  obtain ⟨i0, hi0, hz0, hz1, hz2⟩ := info_parts infoStr
  refine ⟨madeCells (Value.string ⟨#[]⟩).cells (n + 1), size_madeCells _ _, fun W => ?_⟩
  have h := run_make (P := Try.prog) W 92 9 i0 (.string ⟨#[]⟩) Try.underlying92 hi0 hz0 .i64 .i64 0 ((n : Int) + 1) (by omega) (by omega) (by rw [hz2]; omega) (by omega)
  rw [hz1, show ((n : Int) + 1).toNat = n + 1 by omega, Nat.mul_one] at h
  exact h

end Go.Proofs.Ytcldbmhjfmbcfaa.L4

namespace Go.Proofs.Ytcldbmhjfmbcfaa.L4
open Go.RowKit

theorem idx (s : ByteArray) (k : Nat) (hlt : k < s.size) : ∃ c : Nat, RowKit.Hid (c = s[k].toNat) ∧ c < 256 ∧ ∀ wx, (Instr.index 9 (.string s) (.int .i64 k)).run Try.prog wx = .ok (.int .u8 c) wx :=
  ⟨s[k].toNat, rfl, s[k].toNat_lt, fun wx => by simp [go_sem, hlt]⟩

/-- What holds at each round's head of the document's Split. -/
def RRel (p : ByteArray) (w : World) (l bg iv : Value) (wr : World) : Prop :=
  ∃ (i b0 : Nat) (acc : List ByteArray), iv = .int .i64 i ∧ bg = .int .i64 b0 ∧ ((i ≤ p.size ∧ SInv p acc b0 i) ∨ (i = p.size + 1 ∧ acc = splS p)) ∧ acc.length ≤ p.size + 1 ∧ wr.ownsRow w.heap.size 9 1 l acc.length (acc.map strV) ∧ Below w.heap.size w wr

theorem rrel_move {p : ByteArray} {w wr : World} {l : Value} {i b0 : Nat} {acc : List ByteArray} (hi : SInv p acc b0 i) (ho : wr.ownsRow w.heap.size 9 1 l acc.length (acc.map strV)) (hb : Below w.heap.size w wr)
    (hp : i < p.size) (hc : p[i] ≠ 47) : RRel p w l (.int .i64 b0) (.int .i64 ((i + 1 : Nat) : Int)) wr :=
  ⟨i + 1, b0, acc, rfl, rfl, .inl ⟨hp, hi.move 1 hp fun j hj h1 h2 => by obtain rfl : j = i := by omega
                                                                         exact hc⟩, by have := hi.len; have := hi.le; omega, ho, hb⟩
theorem rrel_app {p : ByteArray} {w wr w1 : World} {l l1 : Value} {i b0 : Nat} {acc : List ByteArray} (hi : SInv p acc b0 i) (ho : wr.ownsRow w.heap.size 9 1 l acc.length (acc.map strV)) (hb : Below w.heap.size w wr)
    (hcase : (∃ hp : i < p.size, p[i] = 47) ∨ i = p.size)
    (h1 : w1.ownsRow w.heap.size 9 1 l1 (acc.length + 1) (acc.map strV ++ [strV (p.extract b0 i)]))
    (hg : (wr.alloc (.cells #[.string (p.extract b0 i)] 9)).grownBy w1 l.ownBlock) : RRel p w l1 (.int .i64 ((i + 1 : Nat) : Int)) (.int .i64 ((i + 1 : Nat) : Int)) w1 := by
  have hl := hi.len
  have hle := hi.le
  have hlt := hi.lt
  refine ⟨i + 1, i + 1, acc ++ [p.extract b0 i], rfl, rfl, ?_, by simp; omega, by rw [acc_snoc] at h1; simpa using h1, ?_⟩
  · rcases hcase with ⟨hp, hc⟩ | rfl
    · exact .inl ⟨hp, hi.cut hp hc⟩
    · exact .inr ⟨rfl, hi.done⟩
  · have := hb.size
    exact (hb.alloc (by omega) _).grown hg (by simp; omega) fun k hk => (ho.lt k hk).1

set_option maxRecDepth 100000 in
set_option maxHeartbeats 4000000 in
theorem rsplit_any (p : ByteArray) (w : World) (hp : p.size ≤ 1099511627776) :
    Calls Try.prog 80 #[.string p] w (Splits p w) := by
  obtain ⟨i0, hi0, hz0, hz1, hz2⟩ := info_parts infoStr
  have HI0 := Lib.hid hi0; have HZ0 := Lib.hid hz0; have HZ1 := Lib.hid hz1; have HZ2 := Lib.hid hz2
  clear hi0 hz0 hz1 hz2
  go_enter Try.func80, Try.ntmps80
  go_wp2
  go_loopw [3, 4, 5] (fun l bg iv wr => RRel p w l bg iv wr) (fun _ _ iv _ => p.size + 1 - (intOf iv).toNat)
  case atStart => exact ⟨0, 0, [], rfl, rfl, .inl ⟨Nat.zero_le _, SInv.start p⟩, by simp, World.ownsRow_nil _ _ _ _, Below.refl _ _⟩
  case round =>
    obtain ⟨i, b0, acc, rfl, rfl, hc, hal, ho, hb⟩ := hrel
    have hsz := hb.size
    rcases hc with ⟨hi1, hi⟩ | ⟨rfl, ha⟩
    · have hle := hi.le
      by_cases he : i = p.size
      · have H1 := Lib.hid (fun (w1 : World) (l1 : Value) => rrel_app (w1 := w1) (l1 := l1) hi ho hb (.inr he))
        have hb1 : ((i : Int) == (p.size : Int)) = true := beq_iff_eq.2 (by omega)
        have hb2 : (i == p.size) = true := beq_iff_eq.2 he
        have ho2 := ho.alloc (.cells #[.string (p.extract b0 i)] 9)
        have hi2 : p.size ≤ i := by omega
        clear he
        go_wp2_with (at_builtin; refine wpList_append_own _ rfl _ _ 92 rfl w.heap.size 9 i0 (.string ⟨#[]⟩) 1 16 Try.underlying92 HI0.out HZ0.out HZ1.out HZ2.out rfl (by decide) _ _ _ rfl ho2 ⟨wr.heap.size, 0, none⟩ 1 1 ([p.extract b0 i].map strV) rfl rfl ?d1 ?d2 ?d3 ?d4 ?d5 ?_)
        case d1 => exact cell_one_new _ _ _
        case d2 => exact strV_one _
        case d3 => simp only [maxLen]; omega
        case d4 => omega
        case d5 => simp; omega
        intro l1 w1 hown1 hg1 _
        have HR := Lib.hid (H1.out w1 l1 hown1 hg1)
        clear hown1 hg1
        go_wp2
        go_roundw
        case rel => exact HR.out
        case measure => simp [intOf]; omega
      · have hb1 : ((i : Int) == (p.size : Int)) = false := beq_eq_false_iff_ne.2 (by omega)
        have hb2 : (i == p.size) = false := beq_eq_false_iff_ne.2 he
        have hlt : i < p.size := by omega
        obtain ⟨c, HC, hc256, hix⟩ := idx p i hlt
        by_cases h47 : c = 47
        · have hp47 : p[i] = 47 := UInt8.toNat_inj.1 (by rw [← HC.out, h47]; rfl)
          have H1 := Lib.hid (fun (w1 : World) (l1 : Value) => rrel_app (w1 := w1) (l1 := l1) hi ho hb (.inl ⟨hlt, hp47⟩))
          have hcb : ((c : Int) == 47) = true := beq_iff_eq.2 (by omega)
          have ho2 := ho.alloc (.cells #[.string (p.extract b0 i)] 9)
          clear hp47 h47 he
          go_wp2_with (at_builtin; refine wpList_append_own _ rfl _ _ 92 rfl w.heap.size 9 i0 (.string ⟨#[]⟩) 1 16 Try.underlying92 HI0.out HZ0.out HZ1.out HZ2.out rfl (by decide) _ _ _ rfl ho2 ⟨wr.heap.size, 0, none⟩ 1 1 ([p.extract b0 i].map strV) rfl rfl ?e1 ?e2 ?e3 ?e4 ?e5 ?_)
          case e1 => exact cell_one_new _ _ _
          case e2 => exact strV_one _
          case e3 => simp only [maxLen]; omega
          case e4 => omega
          case e5 => simp; omega
          intro l1 w1 hown1 hg1 _
          have HR := Lib.hid (H1.out w1 l1 hown1 hg1)
          clear hown1 hg1
          go_wp2
          go_roundw
          case rel => exact HR.out
          case measure => simp [intOf]; omega
        · have hcb : ((c : Int) == 47) = false := beq_eq_false_iff_ne.2 (by omega)
          have HR := Lib.hid (rrel_move hi ho hb hlt (fun e => h47 (by rw [HC.out, e]; rfl)))
          clear h47 he
          go_wp2
          go_roundw
          case rel => exact HR.out
          case measure => simp [intOf]; omega
    · have HE := Lib.hid (splits_end ho ha hb)
      clear ha
      go_wp2
      go_ret
      exact HE.out
end Go.Proofs.Ytcldbmhjfmbcfaa.L4

namespace Go.Proofs.Ytcldbmhjfmbcfaa.L4
open Go.RowKit

theorem sl_at {w : World} {b c : Nat} {p : ByteArray} (h : Sl w ⟨b, 0, none⟩ (splS p).length c (splS p)) {k : Nat} (hk : k < (splS p).length) : w.cell? ⟨b, k, none⟩ = some (.string (sg p k)) := by
  have := h.get hk
  rwa [Nat.zero_add] at this
/-- A text against the star, in the walk's words. -/
theorem star_yes {s : ByteArray} (h : s.data.toList = [42]) : s = ⟨#[42]⟩ := ba_ext h
theorem star_not {s : ByteArray} (h : ¬ s.data.toList = [42]) : (s.toList == [42]) = false ∧ (s.toList != [42]) = true := by
  rw [Lib.toList_data]; exact ⟨beq_eq_false_iff_ne.2 h, bne_iff_ne.2 h⟩

set_option maxRecDepth 100000 in
set_option maxHeartbeats 2000000 in
theorem rright_any (p : ByteArray) (w : World) (hp : p.size ≤ 1099511627776) :
    Calls Try.prog 62 #[.string p] w fun e w' => e = .returned (.bool (rightS p)) ∧ Ke w w' := by
  have hn1 := splS_le p
  go_enter Try.func62, Try.ntmps62
  go_wp2_with (go_at_call 80; ((with_reducible refine (rsplit_any p _ hp).mono ?_); rintro e w1 ⟨b, c, rfl, hs, hbb, hk⟩))
  have hcm := hs.2.1
  have hcx := hs.2.2.1
  simp only [maxLen] at hcx
  have HS := Lib.hid hs
  have HK := Lib.hid hk
  clear hs hk
  go_loopw [10] (fun i wr => ∃ k : Nat, k ≤ (splS p).length ∧ i = .int .i64 k ∧ Ke w1 wr ∧ ∀ j, j < k → segS (sg p j) = true) (fun i _ => (splS p).length - (intOf i).toNat)
  case atStart => exact ⟨0, Nat.zero_le _, rfl, Ke.refl _, fun j hj => absurd hj (by omega)⟩
  case round =>
    obtain ⟨k, hkl, rfl, hkr, hall⟩ := hrel
    have HA := Lib.hid hall
    have HR := Lib.hid hkr
    clear hall hkr
    by_cases hlt : k < (splS p).length
    · have g := sl_at (HS.out.ke HR.out) hlt
      have hsz := sg_size p k
      cases hsg : segS (sg p k) with
      | true =>
        have HG := Lib.hid hsg
        clear hsg
        go_wp2_with (go_at_call 81; ((with_reducible refine (rseg_c _ true HG.out (by omega) _).mono ?_); rintro e w2 ⟨rfl, hk2⟩))
        go_roundw
        case rel =>
          refine ⟨k + 1, hlt, by go_num, HR.out.trans hk2, fun j hj => ?_⟩
          rcases Nat.lt_or_ge j k with h3 | h3
          · exact HA.out j h3
          · obtain rfl : j = k := by omega
            exact HG.out
        case measure => simp [intOf]; omega
      | false =>
        have HG := Lib.hid hsg
        clear hsg
        go_wp2_with (go_at_call 81; ((with_reducible refine (rseg_c _ false HG.out (by omega) _).mono ?_); rintro e w2 ⟨rfl, hk2⟩))
        go_ret
        exact ⟨ret_bool (right_no p k hlt HG.out).symm, HK.out.trans (HR.out.trans hk2)⟩
    · have HY := Lib.hid (right_yes p (fun i hi => HA.out i (by omega)))
      go_wp2
      go_ret
      exact ⟨ret_bool (by rw [HY.out, decide_eq_decide]; omega), HK.out.trans HR.out⟩

end Go.Proofs.Ytcldbmhjfmbcfaa.L4

namespace Go.Proofs.Ytcldbmhjfmbcfaa
open Go.RowKit

end Go.Proofs.Ytcldbmhjfmbcfaa

namespace Go.Proofs.Ytcldbmhjfmbcfaa
open Go.RowKit

def bits (n m : Nat) : Array Bool := ((List.range n).map (Nat.testBit m)).toArray
theorem bits_size (n m : Nat) : (bits n m).size = n := by simp [bits]
theorem bits_getD (n m j : Nat) (d : Bool) : (bits n m).getD j d = if j < n then m.testBit j else d := by
  rw [Array.getD_eq_getD_getElem?]
  unfold bits
  rw [List.getElem?_toArray, List.getElem?_map]
  by_cases h : j < n
  · rw [if_pos h, List.getElem?_range h]; rfl
  · rw [if_neg h, List.getElem?_eq_none (by rw [List.length_range]; omega)]; rfl
theorem bits_set (n m i : Nat) : (bits n m).setIfInBounds i true = bits n (m ||| 2 ^ i) := by
  apply Array.ext
  · simp [bits]
  · intro j h1 h2
    have hj : j < n := by simpa [bits] using h2
    rw [Array.getElem_setIfInBounds (by simpa [bits] using hj)]
    simp only [bits, List.getElem_toArray, List.getElem_map, List.getElem_range, Nat.testBit_or, Nat.testBit_two_pow]
    by_cases e : i = j
    · simp [e]
    · simp [e]
theorem bits_none (n : Nat) : Array.replicate n false = bits n 0 := by
  apply Array.ext
  · simp [bits]
  · intro j h1 h2
    simp [bits]

def isReady (ops : Array Oper) (n m i : Nat) : Bool :=
  !m.testBit i && match ops[i]? with
    | some o => o.after.all fun e => !Region.binds .any e || (Nat.blt e.on n && m.testBit e.on)
    | none => false
def isFree (ops : Array Oper) (n m i : Nat) : Bool :=
  match ops[i]? with
  | none => false
  | some oi => (List.range n).all fun j => j == i || m.testBit j || match ops[j]? with
      | some oj => oj.after.any (fun e => Region.binds .any e && e.on == i) || oi.apart ops oj
      | none => true
def isPlain (ops : Array Oper) (i : Nat) : Bool := match ops[i]? with | some o => plainOp o.op | none => false
def quietF (ops : Array Oper) (n : Nat) : List Nat → Nat → Option Nat
  | [], m => some m
  | i :: r, m => if (Nat.blt i n && isReady ops n m i && isFree ops n m i && isPlain ops i) = true then quietF ops n r (m ||| 2 ^ i) else none
def mixF (ops : Array Oper) (n : Nat) : List (List Nat × Option Nat) → Nat → Bool
  | [], m => (List.range n).all fun j => !isReady ops n m j
  | (l, x) :: r, m => match quietF ops n l m with
    | none => false
    | some y => match x with
      | none => mixF ops n r y
      | some i => Nat.blt i n && (List.range n).all (fun j => isReady ops n y j == (j == i)) && (ops[i]?).isSome && mixF ops n r (y ||| 2 ^ i)

theorem ready_bits (ops : Array Oper) (m : Nat) : Region.ready .any ops (bits ops.size m) = (List.range ops.size).filter fun i => isReady ops ops.size m i := by
  unfold Region.ready
  apply List.filter_congr
  intro i hi
  have hi' : i < ops.size := List.mem_range.1 hi
  unfold isReady
  rw [bits_getD, if_pos hi']
  congr 1
  rw [Array.getElem?_eq_getElem hi']
  simp only [Option.map_some, Option.getD_some]
  congr 1
  funext e
  rw [bits_getD]
  by_cases h : e.on < ops.size
  · rw [if_pos h, show Nat.blt e.on ops.size = true by rw [Nat.blt_eq]; exact h, Bool.true_and]
  · rw [if_neg h, show Nat.blt e.on ops.size = false by rw [Bool.eq_false_iff, Ne, Nat.blt_eq]; exact h, Bool.false_and]
theorem free_bits (ops : Array Oper) (m i : Nat) : Region.free .any ops (bits ops.size m) i = isFree ops ops.size m i := by
  unfold Region.free isFree
  cases ops[i]? with
  | none => rfl
  | some oi =>
    simp only
    rw [Bool.eq_iff_iff, List.all_eq_true, List.all_eq_true]
    have hb : ∀ j, j ∈ List.range ops.size → (bits ops.size m).getD j true = m.testBit j := fun j hj => by
      rw [bits_getD, if_pos (List.mem_range.1 hj)]
    constructor
    · intro h j hj
      have := h j hj
      rwa [hb j hj] at this
    · intro h j hj
      rw [hb j hj]
      exact h j hj
theorem filter_one {n i : Nat} {p : Nat → Bool} (hi : i < n) (h : ∀ j, j < n → p j = (j == i)) : (List.range n).filter p = [i] := by
  rw [List.filter_congr (q := fun j => j == i) (fun j hj => h j (List.mem_range.1 hj))]
  induction n with
  | zero => omega
  | succ n ih =>
    rw [List.range_succ, List.filter_append]
    by_cases e : i = n
    · subst e
      rw [List.filter_eq_nil_iff.2 (fun j hj => by have := List.mem_range.1 hj; simp; omega)]
      simp
    · rw [ih (by omega) (fun j hj => h j (by omega))]
      simp [Ne.symm e]
theorem quietF_B (ops : Array Oper) : ∀ (l : List Nat) (m y : Nat), quietF ops ops.size l m = some y → quietB ops l (bits ops.size m) = some (bits ops.size y)
  | [], m, y, h => by
    simp only [quietF, Option.some.injEq] at h
    subst h; rfl
  | i :: r, m, y, h => by
    simp only [quietF] at h
    split at h
    · rename_i hc
      rw [Bool.and_eq_true, Bool.and_eq_true, Bool.and_eq_true, Nat.blt_eq] at hc
      obtain ⟨⟨⟨hi, hr⟩, hf⟩, hp⟩ := hc
      have hok : okAt ops (bits ops.size m) i = true := by
        unfold okAt
        rw [Bool.and_eq_true, Bool.and_eq_true]
        refine ⟨?_, by rw [free_bits]; exact hf, hp⟩
        rw [ready_bits, List.contains_iff_mem, List.mem_filter]
        exact ⟨List.mem_range.2 hi, hr⟩
      simp only [quietB]
      rw [if_pos hok, bits_set]
      exact quietF_B ops r _ y h
    · cases h
theorem mixF_B (ops : Array Oper) : ∀ (S : List (List Nat × Option Nat)) (m : Nat), mixF ops ops.size S m = true → mixB ops S (bits ops.size m) = true
  | [], m, h => by
    simp only [mixF, List.all_eq_true, Bool.not_eq_true'] at h
    simp only [mixB, List.isEmpty_iff]
    rw [ready_bits, List.filter_eq_nil_iff]
    intro j hj
    rw [h j hj]
    simp
  | (l, x) :: r, m, h => by
    simp only [mixF] at h
    cases hq : quietF ops ops.size l m with
    | none => rw [hq] at h; simp at h
    | some y =>
      rw [hq] at h
      simp only [mixB, quietF_B ops l m y hq]
      cases x with
      | none => exact mixF_B ops r y h
      | some i =>
        simp only [Bool.and_eq_true, Nat.blt_eq, List.all_eq_true, beq_iff_eq] at h
        obtain ⟨⟨⟨hi, ha⟩, hs⟩, hm⟩ := h
        simp only [Bool.and_eq_true, beq_iff_eq]
        refine ⟨⟨?_, hs⟩, by rw [bits_set]; exact mixF_B ops r _ hm⟩
        rw [ready_bits]
        exact filter_one hi fun j hj => ha j (List.mem_range.2 hj)
theorem mix_fast {l : List Oper} {S : List (List Nat × Option Nat)} (n : Nat) (hn : l.length = n) (h : mixF l.toArray n S 0 = true) : mixB l.toArray S (Array.replicate l.length false) = true := by
  subst hn
  have := mixF_B l.toArray S 0 (by rw [List.size_toArray]; exact h)
  rwa [List.size_toArray, ← bits_none] at this
end Go.Proofs.Ytcldbmhjfmbcfaa

