/-
  What is proved: the document's Split, called with any text of up to 2^40 bytes, returns its segments, in new memory (P4.2); the world has new blocks at most.
-/
import Derived.Test.YtepjhijnihjedaaPSplit
namespace Go.Proofs.Ytepjhijnihjedaa
open Go.RowKit

theorem idx (s : ByteArray) (k : Nat) (hlt : k < s.size) : ∃ c : Nat, RowKit.Hid (c = s[k].toNat) ∧ c < 256 ∧ ∀ wx, (Instr.index 9 (.string s) (.int .i64 k)).run Try.prog wx = .ok (.int .u8 c) wx :=
  ⟨s[k].toNat, rfl, s[k].toNat_lt, fun wx => by simp [go_sem, hlt]⟩

/-- What holds at each round's head of the document's Split. -/
def RRel (p : ByteArray) (w : World) (l bg iv : Value) (wr : World) : Prop :=
  ∃ (i b0 : Nat) (acc : List ByteArray), iv = .int .i64 i ∧ bg = .int .i64 b0 ∧ ((i ≤ p.size ∧ SInv p acc b0 i) ∨ (i = p.size + 1 ∧ acc = splS p)) ∧ acc.length ≤ p.size + 1 ∧ wr.ownsRow w.heap.size 9 1 l acc.length (acc.map strV) ∧ Below w.heap.size w wr

theorem rrel_move {p : ByteArray} {w wr : World} {l : Value} {i b0 : Nat} {acc : List ByteArray} (hi : SInv p acc b0 i) (ho : wr.ownsRow w.heap.size 9 1 l acc.length (acc.map strV)) (hb : Below w.heap.size w wr)
    (hp : i < p.size) (hc : p[i] ≠ 47) : RRel p w l (.int .i64 b0) (.int .i64 ((i + 1 : Nat) : Int)) wr :=
  ⟨i + 1, b0, acc, rfl, rfl, .inl ⟨hp, hi.move 1 hp fun j hj h1 h2 => by obtain rfl : j = i := by omega
                                                                         exact hc⟩, by have := hi.len; have := hi.le; omega, ho, hb⟩
theorem rrel_app {p : ByteArray} {w wr w1 : World} {l l1 : Value} {i b0 : Nat} {acc : List ByteArray} (hi : SInv p acc b0 i) (ho : wr.ownsRow w.heap.size 9 1 l acc.length (acc.map strV)) (hb : Below w.heap.size w wr)
    (hcase : (∃ hp : i < p.size, p[i] = 47) ∨ i = p.size)
    (h1 : w1.ownsRow w.heap.size 9 1 l1 (acc.length + 1) (acc.map strV ++ [strV (p.extract b0 i)]))
    (hg : (wr.alloc (.cells #[.string (p.extract b0 i)] 9)).grownBy w1 l.ownBlock) : RRel p w l1 (.int .i64 ((i + 1 : Nat) : Int)) (.int .i64 ((i + 1 : Nat) : Int)) w1 := by
  have hl := hi.len
  have hle := hi.le
  have hlt := hi.lt
  refine ⟨i + 1, i + 1, acc ++ [p.extract b0 i], rfl, rfl, ?_, by simp; omega, by rw [acc_snoc] at h1; simpa using h1, ?_⟩
  · rcases hcase with ⟨hp, hc⟩ | rfl
    · exact .inl ⟨hp, hi.cut hp hc⟩
    · exact .inr ⟨rfl, hi.done⟩
  · have := hb.size
    exact (hb.alloc (by omega) _).grown hg (by simp; omega) fun k hk => (ho.lt k hk).1

set_option maxRecDepth 100000 in
set_option maxHeartbeats 4000000 in
theorem rsplit_any (p : ByteArray) (w : World) (hp : p.size ≤ 1099511627776) :
    Calls Try.prog 9 #[.string p] w (Splits p w) := by
  obtain ⟨i0, hi0, hz0, hz1, hz2⟩ := info_parts infoStr
  have HI0 := Lib.hid hi0; have HZ0 := Lib.hid hz0; have HZ1 := Lib.hid hz1; have HZ2 := Lib.hid hz2
  clear hi0 hz0 hz1 hz2
  go_enter Try.func9, Try.ntmps9
  go_wp2
  go_loopw [3, 4, 5] (fun l bg iv wr => RRel p w l bg iv wr) (fun _ _ iv _ => p.size + 1 - (intOf iv).toNat)
  case atStart => exact ⟨0, 0, [], rfl, rfl, .inl ⟨Nat.zero_le _, SInv.start p⟩, by simp, World.ownsRow_nil _ _ _ _, Below.refl _ _⟩
  case round =>
    obtain ⟨i, b0, acc, rfl, rfl, hc, hal, ho, hb⟩ := hrel
    have hsz := hb.size
    rcases hc with ⟨hi1, hi⟩ | ⟨rfl, ha⟩
    · have hle := hi.le
      by_cases he : i = p.size
      · have H1 := Lib.hid (fun (w1 : World) (l1 : Value) => rrel_app (w1 := w1) (l1 := l1) hi ho hb (.inr he))
        have hb1 : ((i : Int) == (p.size : Int)) = true := beq_iff_eq.2 (by omega)
        have hb2 : (i == p.size) = true := beq_iff_eq.2 he
        have ho2 := ho.alloc (.cells #[.string (p.extract b0 i)] 9)
        have hi2 : p.size ≤ i := by omega
        clear he
        go_wp2_with (at_builtin; refine wpList_append_own _ rfl _ _ 24 rfl w.heap.size 9 i0 (.string ⟨#[]⟩) 1 16 Try.underlying24 HI0.out HZ0.out HZ1.out HZ2.out rfl (by decide) _ _ _ rfl ho2 ⟨wr.heap.size, 0, none⟩ 1 1 ([p.extract b0 i].map strV) rfl rfl ?d1 ?d2 ?d3 ?d4 ?d5 ?_)
        case d1 => exact cell_one_new _ _ _
        case d2 => exact strV_one _
        case d3 => simp only [maxLen]; omega
        case d4 => omega
        case d5 => simp; omega
        intro l1 w1 hown1 hg1 _
        have HR := Lib.hid (H1.out w1 l1 hown1 hg1)
        clear hown1 hg1
        go_wp2
        go_roundw
        case rel => exact HR.out
        case measure => simp [intOf]; omega
      · have hb1 : ((i : Int) == (p.size : Int)) = false := beq_eq_false_iff_ne.2 (by omega)
        have hb2 : (i == p.size) = false := beq_eq_false_iff_ne.2 he
        have hlt : i < p.size := by omega
        obtain ⟨c, HC, hc256, hix⟩ := idx p i hlt
        by_cases h47 : c = 47
        · have hp47 : p[i] = 47 := UInt8.toNat_inj.1 (by rw [← HC.out, h47]; rfl)
          have H1 := Lib.hid (fun (w1 : World) (l1 : Value) => rrel_app (w1 := w1) (l1 := l1) hi ho hb (.inl ⟨hlt, hp47⟩))
          have hcb : ((c : Int) == 47) = true := beq_iff_eq.2 (by omega)
          have ho2 := ho.alloc (.cells #[.string (p.extract b0 i)] 9)
          clear hp47 h47 he
          go_wp2_with (at_builtin; refine wpList_append_own _ rfl _ _ 24 rfl w.heap.size 9 i0 (.string ⟨#[]⟩) 1 16 Try.underlying24 HI0.out HZ0.out HZ1.out HZ2.out rfl (by decide) _ _ _ rfl ho2 ⟨wr.heap.size, 0, none⟩ 1 1 ([p.extract b0 i].map strV) rfl rfl ?e1 ?e2 ?e3 ?e4 ?e5 ?_)
          case e1 => exact cell_one_new _ _ _
          case e2 => exact strV_one _
          case e3 => simp only [maxLen]; omega
          case e4 => omega
          case e5 => simp; omega
          intro l1 w1 hown1 hg1 _
          have HR := Lib.hid (H1.out w1 l1 hown1 hg1)
          clear hown1 hg1
          go_wp2
          go_roundw
          case rel => exact HR.out
          case measure => simp [intOf]; omega
        · have hcb : ((c : Int) == 47) = false := beq_eq_false_iff_ne.2 (by omega)
          have HR := Lib.hid (rrel_move hi ho hb hlt (fun e => h47 (by rw [HC.out, e]; rfl)))
          clear h47 he
          go_wp2
          go_roundw
          case rel => exact HR.out
          case measure => simp [intOf]; omega
    · have HE := Lib.hid (splits_end ho ha hb)
      clear ha
      go_wp2
      go_ret
      exact HE.out
end Go.Proofs.Ytepjhijnihjedaa
