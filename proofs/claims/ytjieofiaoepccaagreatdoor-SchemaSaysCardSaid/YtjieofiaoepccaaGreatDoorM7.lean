/-
  What is proved: path.inSeg, path.Seg and the document's Seg, called with any text, return whether it is a segment (P4.1); the world has new blocks at most.
  the check on a region's order that region_mix asks (mixB), reckoned by one number's bits in the place of an array: what it finds holds of mixB.
  as region_mix (XMix), where at some places either of two operations may come first: both are walked.
-/
import Derived.Test.YtjieofiaoepccaaGreatDoorM6
import Derived.WalkKit
import Derived.WalkSpells
import Derived.WalkLawsBesides
import Derived.LoopTactic
import Derived.RowKit3
import Derived.Outline
import Derived.Test.YtjieofiaoepccaaGreatDoorM2
namespace Go.Proofs.YtjieofiaoepccaaGreatDoor.L4
open Go.RowKit

theorem ret_bool {a b : Bool} (h : a = b) : Ending.returned (.bool a) = .returned (.bool b) := by rw [h]
theorem okC_cases (c : Nat) : (c < 48 ∧ okC c = false) ∨ (48 ≤ c ∧ c ≤ 57 ∧ okC c = true) ∨ (57 < c ∧ c < 95 ∧ okC c = false) ∨ (c = 95 ∧ okC c = true) ∨ (c = 96 ∧ okC c = false) ∨ (97 ≤ c ∧ c ≤ 122 ∧ okC c = true) ∨ (122 < c ∧ okC c = false) := by
  by_cases h1 : 97 ≤ c ∧ c ≤ 122 ∨ 48 ≤ c ∧ c ≤ 57 ∨ c = 95
  · have h : okC c = true := decide_eq_true h1
    rcases h1 with h1 | h1 | h1
    · exact .inr (.inr (.inr (.inr (.inr (.inl ⟨h1.1, h1.2, h⟩)))))
    · exact .inr (.inl ⟨h1.1, h1.2, h⟩)
    · exact .inr (.inr (.inr (.inl ⟨h1, h⟩)))
  · have h : okC c = false := decide_eq_false h1
    simp only [h]
    simp
    omega
theorem text_none {t : ByteArray} (h : t.size = 0) : t.toList = [] := by
  rw [Lib.toList_data]; exact List.eq_nil_of_length_eq_zero h
theorem text_some {t : ByteArray} (h : ¬ t.size = 0) : t.toList ≠ [] ∧ t.toList.isEmpty = false ∧ (t.toList == []) = false := by
  have : t.toList ≠ [] := by rw [Lib.toList_data]; intro e; exact h (by rw [ba_size, e]; rfl)
  refine ⟨this, by simpa using this, by simpa using this⟩
theorem segS_nil {t : ByteArray} (h : t.size = 0) : segS t = false := by
  have : t.data.toList = [] := List.eq_nil_of_length_eq_zero h
  unfold segS; rw [this]; rfl
theorem segS_few {s : ByteArray} (h : ∀ i (hi : i < s.size), okC s[i].toNat = true) (h0 : ¬ s.size = 0) : segS s = decide (s.size ≤ 16) := by
  rw [segS_all s h]
  have : s.data.toList.isEmpty = false := by
    rw [List.isEmpty_eq_false_iff]; intro e; exact h0 (by rw [ba_size, e]; rfl)
  rw [this]; rfl

set_option maxRecDepth 100000 in
set_option maxHeartbeats 1000000 in
theorem inSeg_any (c : Nat) (w : World) (hc : c ≤ 2147483647) :
    Calls Tryz.prog 81 #[.int .i32 c] w fun e w' => e = .returned (.bool (okC c)) ∧ w = w' := by
  rcases okC_cases c with ⟨h1, h2⟩ | ⟨h0, h1, h2⟩ | ⟨h0, h1, h2⟩ | ⟨h1, h2⟩ | ⟨h1, h2⟩ | ⟨h0, h1, h2⟩ | ⟨h1, h2⟩
  all_goals (have H := Lib.hid h2; clear h2)
  · have n5 : ((c : Int) == 95) = false := beq_eq_false_iff_ne.2 (by omega)
    go_enter Tryz.func81, Tryz.ntmps81
    go_wp2
    go_ret
    exact ⟨ret_bool (by rw [H.out] <;> (simp; omega)), rfl⟩
  · have n5 : ((c : Int) == 95) = false := beq_eq_false_iff_ne.2 (by omega)
    go_enter Tryz.func81, Tryz.ntmps81
    go_wp2
    go_ret
    exact ⟨ret_bool (by rw [H.out] <;> (simp; omega)), rfl⟩
  · have n5 : ((c : Int) == 95) = false := beq_eq_false_iff_ne.2 (by omega)
    go_enter Tryz.func81, Tryz.ntmps81
    go_wp2
    go_ret
    exact ⟨ret_bool (by rw [H.out] <;> (simp; omega)), rfl⟩
  · subst h1
    go_enter Tryz.func81, Tryz.ntmps81
    go_wp2
    go_ret
    exact ⟨ret_bool (by rw [H.out] <;> (simp; omega)), rfl⟩
  · subst h1
    go_enter Tryz.func81, Tryz.ntmps81
    go_wp2
    go_ret
    exact ⟨ret_bool (by rw [H.out] <;> (simp; omega)), rfl⟩
  · have n5 : ((c : Int) == 95) = false := beq_eq_false_iff_ne.2 (by omega)
    go_enter Tryz.func81, Tryz.ntmps81
    go_wp2
    go_ret
    exact ⟨ret_bool (by rw [H.out] <;> (simp; omega)), rfl⟩
  · have n5 : ((c : Int) == 95) = false := beq_eq_false_iff_ne.2 (by omega)
    go_enter Tryz.func81, Tryz.ntmps81
    go_wp2
    go_ret
    exact ⟨ret_bool (by rw [H.out] <;> (simp; omega)), rfl⟩
theorem inSeg_c (c : Nat) (b : Bool) (hb : okC c = b) (hc : c ≤ 2147483647) (w : World) :
    Calls Tryz.prog 81 #[.int .i32 c] w fun e w' => e = .returned (.bool b) ∧ w = w' := by
  subst hb; exact inSeg_any c w hc

theorem ke_iter (w : World) (s : ByteArray) (pos : Nat) : Ke w (w.iter s pos) := (Ke.refl w).alloc _

set_option maxRecDepth 100000 in
set_option maxHeartbeats 2000000 in
theorem seg_any (s : ByteArray) (w : World) (hs : s.size ≤ 9223372036854775807) :
    Calls Tryz.prog 57 #[.string s] w fun e w' => e = .returned (.bool (segS s)) ∧ Ke w w' := by
  go_enter Tryz.func57, Tryz.ntmps57
  go_wp2
  go_loopw [] (fun wr => ∃ pos : Nat, pos ≤ s.size ∧ wr = w.iter s pos ∧ ∀ i (hi : i < s.size), i < pos → okC s[i].toNat = true) (fun wr => s.size - wr.iterPos w.heap.size)
  case atStart => exact ⟨0, Nat.zero_le _, rfl, fun i hi h => absurd h (by omega)⟩
  case round =>
    obtain ⟨pos, hle, rfl, hok⟩ := hrel
    have HO := Lib.hid hok
    clear hok
    by_cases hp : pos < s.size
    · have hnx : ∀ ty, (Instr.next (.pointer (some ⟨w.heap.size, 0, none⟩)) true ty).run Tryz.prog (w.iter s pos) = _ := fun ty => run_next_any w s pos ty hp
      have hd1 := decode_le s pos
      have HR := Lib.hid (rune_okC s pos hp)
      cases hb : okC (Utf8.decode s pos).1 with
      | true =>
        have HW := Lib.hid (rune_one s pos hp hb)
        have HB := Lib.hid hb
        clear hb
        go_wp2_with (go_at_call 81; ((with_reducible refine (inSeg_c _ true HB.out hd1 _).mono ?_); rintro e w' ⟨rfl, rfl⟩))
        go_roundw
        case rel =>
          refine ⟨pos + 1, by omega, by rw [HW.out], fun i hi h => ?_⟩
          rcases Nat.lt_or_ge i pos with h3 | h3
          · exact HO.out i hi h3
          · obtain rfl : i = pos := by omega
            rw [← HR.out]; exact HB.out
        case measure => rw [World.iterPos_iter, World.iterPos_iter, HW.out]; omega
      | false =>
        have HB := Lib.hid hb
        clear hb
        go_wp2_with (go_at_call 81; ((with_reducible refine (inSeg_c _ false HB.out hd1 _).mono ?_); rintro e w' ⟨rfl, rfl⟩))
        go_ret
        exact ⟨ret_bool (segS_no s pos hp (by rw [← HR.out]; exact HB.out)).symm, ke_iter _ _ _⟩
    · have hnx : ∀ ty, (Instr.next (.pointer (some ⟨w.heap.size, 0, none⟩)) true ty).run Tryz.prog (w.iter s pos) = _ := fun ty => run_next_end w s pos ty hp
      have HO2 := Lib.hid (fun i hi => HO.out i hi (show i < pos by omega))
      by_cases h0 : s.size = 0
      · have h1 := text_none h0
        have HZ := Lib.hid (segS_nil h0)
        clear h0
        go_wp2
        go_ret
        exact ⟨ret_bool HZ.out.symm, ke_iter _ _ _⟩
      · obtain ⟨h1, h2, h3⟩ := text_some h0
        have HZ := Lib.hid (segS_few HO2.out h0)
        go_wp2
        go_ret
        exact ⟨ret_bool (by rw [HZ.out, decide_eq_decide]; omega), ke_iter _ _ _⟩

set_option maxRecDepth 100000 in
set_option maxHeartbeats 4000000 in
theorem rseg_any (s : ByteArray) (w : World) (hs : s.size ≤ 9223372036854775807) :
    Calls Tryz.prog 59 #[.string s] w fun e w' => e = .returned (.bool (segS s)) ∧ Ke w w' := by
  go_enter Tryz.func59, Tryz.ntmps59
  go_wp2
  go_loopw [] (fun wr => ∃ pos : Nat, pos ≤ s.size ∧ wr = w.iter s pos ∧ ∀ i (hi : i < s.size), i < pos → okC s[i].toNat = true) (fun wr => s.size - wr.iterPos w.heap.size)
  case atStart => exact ⟨0, Nat.zero_le _, rfl, fun i hi h => absurd h (by omega)⟩
  case round =>
    obtain ⟨pos, hle, rfl, hok⟩ := hrel
    have HO := Lib.hid hok
    clear hok
    by_cases hp : pos < s.size
    · have hnx : ∀ ty, (Instr.next (.pointer (some ⟨w.heap.size, 0, none⟩)) true ty).run Tryz.prog (w.iter s pos) = _ := fun ty => run_next_any w s pos ty hp
      have hd1 := decode_le s pos
      have HR := Lib.hid (rune_okC s pos hp)
      have HW : okC (Utf8.decode s pos).1 = true → (Utf8.decode s pos).2 = 1 := rune_one s pos hp
      generalize hcc : (Utf8.decode s pos).1 = c at hnx hd1 HR HW
      generalize hww : (Utf8.decode s pos).2 = wd at hnx HW
      clear hcc hww
      have HW := Lib.hid HW
      have HI : okC c = true → ∀ i (hi : i < s.size), i < pos + 1 → okC s[i].toNat = true := fun hk i hi h => by
        rcases Nat.lt_or_ge i pos with h3 | h3
        · exact HO.out i hi h3
        · obtain rfl : i = pos := by omega
          rw [← HR.out]; exact hk
      have HI := Lib.hid HI
      have HN : okC c = false → segS s = false := fun hk => segS_no s pos hp (by rw [← HR.out]; exact hk)
      have HN := Lib.hid HN
      rcases okC_cases c with ⟨h1, h2⟩ | ⟨h0, h1, h2⟩ | ⟨h0, h1, h2⟩ | ⟨h1, h2⟩ | ⟨h1, h2⟩ | ⟨h0, h1, h2⟩ | ⟨h1, h2⟩
      · have n5 : ((c : Int) != 95) = true := bne_iff_ne.2 (by omega)
        have H := Lib.hid h2
        clear h2
        go_wp2
        go_ret
        exact ⟨ret_bool (HN.out H.out).symm, ke_iter _ _ _⟩
      · have H := Lib.hid h2
        clear h2
        go_wp2
        go_roundw
        case rel => exact ⟨pos + 1, by omega, by rw [HW.out H.out], HI.out H.out⟩
        case measure => rw [World.iterPos_iter, World.iterPos_iter, HW.out H.out]; omega
      · have n5 : ((c : Int) != 95) = true := bne_iff_ne.2 (by omega)
        have H := Lib.hid h2
        clear h2
        go_wp2
        go_ret
        exact ⟨ret_bool (HN.out H.out).symm, ke_iter _ _ _⟩
      · subst h1
        have H := Lib.hid h2
        clear h2
        go_wp2
        go_roundw
        case rel => exact ⟨pos + 1, by omega, by rw [HW.out H.out], HI.out H.out⟩
        case measure => rw [World.iterPos_iter, World.iterPos_iter, HW.out H.out]; omega
      · subst h1
        have H := Lib.hid h2
        clear h2
        go_wp2
        go_ret
        exact ⟨ret_bool (HN.out H.out).symm, ke_iter _ _ _⟩
      · have H := Lib.hid h2
        clear h2
        go_wp2
        go_roundw
        case rel => exact ⟨pos + 1, by omega, by rw [HW.out H.out], HI.out H.out⟩
        case measure => rw [World.iterPos_iter, World.iterPos_iter, HW.out H.out]; omega
      · have n5 : ((c : Int) != 95) = true := bne_iff_ne.2 (by omega)
        have H := Lib.hid h2
        clear h2
        go_wp2
        go_ret
        exact ⟨ret_bool (HN.out H.out).symm, ke_iter _ _ _⟩
    · have hnx : ∀ ty, (Instr.next (.pointer (some ⟨w.heap.size, 0, none⟩)) true ty).run Tryz.prog (w.iter s pos) = _ := fun ty => run_next_end w s pos ty hp
      have HO2 := Lib.hid (fun i hi => HO.out i hi (show i < pos by omega))
      by_cases h0 : s.size = 0
      · have h1 := text_none h0
        have HZ := Lib.hid (segS_nil h0)
        clear h0
        go_wp2
        go_ret
        exact ⟨ret_bool HZ.out.symm, ke_iter _ _ _⟩
      · obtain ⟨h1, h2, h3⟩ := text_some h0
        have HZ := Lib.hid (segS_few HO2.out h0)
        go_wp2
        go_ret
        exact ⟨ret_bool (by rw [HZ.out, decide_eq_decide]; omega), ke_iter _ _ _⟩
theorem seg_c (s : ByteArray) (b : Bool) (hb : segS s = b) (hs : s.size ≤ 9223372036854775807) (w : World) :
    Calls Tryz.prog 57 #[.string s] w fun e w' => e = .returned (.bool b) ∧ Ke w w' := by
  subst hb; exact seg_any s w hs
theorem rseg_c (s : ByteArray) (b : Bool) (hb : segS s = b) (hs : s.size ≤ 9223372036854775807) (w : World) :
    Calls Tryz.prog 59 #[.string s] w fun e w' => e = .returned (.bool b) ∧ Ke w w' := by
  subst hb; exact rseg_any s w hs
end Go.Proofs.YtjieofiaoepccaaGreatDoor.L4

namespace Go.Proofs.YtjieofiaoepccaaGreatDoor
open Go.RowKit

def bits (n m : Nat) : Array Bool := ((List.range n).map (Nat.testBit m)).toArray
theorem bits_size (n m : Nat) : (bits n m).size = n := by simp [bits]
theorem bits_getD (n m j : Nat) (d : Bool) : (bits n m).getD j d = if j < n then m.testBit j else d := by
  rw [Array.getD_eq_getD_getElem?]
  unfold bits
  rw [List.getElem?_toArray, List.getElem?_map]
  by_cases h : j < n
  · rw [if_pos h, List.getElem?_range h]; rfl
  · rw [if_neg h, List.getElem?_eq_none (by rw [List.length_range]; omega)]; rfl
theorem bits_set (n m i : Nat) : (bits n m).setIfInBounds i true = bits n (m ||| 2 ^ i) := by
  apply Array.ext
  · simp [bits]
  · intro j h1 h2
    have hj : j < n := by simpa [bits] using h2
    rw [Array.getElem_setIfInBounds (by simpa [bits] using hj)]
    simp only [bits, List.getElem_toArray, List.getElem_map, List.getElem_range, Nat.testBit_or, Nat.testBit_two_pow]
    by_cases e : i = j
    · simp [e]
    · simp [e]
theorem bits_none (n : Nat) : Array.replicate n false = bits n 0 := by
  apply Array.ext
  · simp [bits]
  · intro j h1 h2
    simp [bits]

def isReady (ops : Array Oper) (n m i : Nat) : Bool :=
  !m.testBit i && match ops[i]? with
    | some o => o.after.all fun e => !Region.binds .any e || (Nat.blt e.on n && m.testBit e.on)
    | none => false
def isFree (ops : Array Oper) (n m i : Nat) : Bool :=
  match ops[i]? with
  | none => false
  | some oi => (List.range n).all fun j => j == i || m.testBit j || match ops[j]? with
      | some oj => oj.after.any (fun e => Region.binds .any e && e.on == i) || oi.apart ops oj
      | none => true
def isPlain (ops : Array Oper) (i : Nat) : Bool := match ops[i]? with | some o => plainOp o.op | none => false
def quietF (ops : Array Oper) (n : Nat) : List Nat → Nat → Option Nat
  | [], m => some m
  | i :: r, m => if (Nat.blt i n && isReady ops n m i && isFree ops n m i && isPlain ops i) = true then quietF ops n r (m ||| 2 ^ i) else none
def mixF (ops : Array Oper) (n : Nat) : List (List Nat × Option Nat) → Nat → Bool
  | [], m => (List.range n).all fun j => !isReady ops n m j
  | (l, x) :: r, m => match quietF ops n l m with
    | none => false
    | some y => match x with
      | none => mixF ops n r y
      | some i => Nat.blt i n && (List.range n).all (fun j => isReady ops n y j == (j == i)) && (ops[i]?).isSome && mixF ops n r (y ||| 2 ^ i)

theorem ready_bits (ops : Array Oper) (m : Nat) : Region.ready .any ops (bits ops.size m) = (List.range ops.size).filter fun i => isReady ops ops.size m i := by
  unfold Region.ready
  apply List.filter_congr
  intro i hi
  have hi' : i < ops.size := List.mem_range.1 hi
  unfold isReady
  rw [bits_getD, if_pos hi']
  congr 1
  rw [Array.getElem?_eq_getElem hi']
  simp only [Option.map_some, Option.getD_some]
  congr 1
  funext e
  rw [bits_getD]
  by_cases h : e.on < ops.size
  · rw [if_pos h, show Nat.blt e.on ops.size = true by rw [Nat.blt_eq]; exact h, Bool.true_and]
  · rw [if_neg h, show Nat.blt e.on ops.size = false by rw [Bool.eq_false_iff, Ne, Nat.blt_eq]; exact h, Bool.false_and]
theorem free_bits (ops : Array Oper) (m i : Nat) : Region.free .any ops (bits ops.size m) i = isFree ops ops.size m i := by
  unfold Region.free isFree
  cases ops[i]? with
  | none => rfl
  | some oi =>
    simp only
    rw [Bool.eq_iff_iff, List.all_eq_true, List.all_eq_true]
    have hb : ∀ j, j ∈ List.range ops.size → (bits ops.size m).getD j true = m.testBit j := fun j hj => by
      rw [bits_getD, if_pos (List.mem_range.1 hj)]
    constructor
    · intro h j hj
      have := h j hj
      rwa [hb j hj] at this
    · intro h j hj
      rw [hb j hj]
      exact h j hj
theorem filter_one {n i : Nat} {p : Nat → Bool} (hi : i < n) (h : ∀ j, j < n → p j = (j == i)) : (List.range n).filter p = [i] := by
  rw [List.filter_congr (q := fun j => j == i) (fun j hj => h j (List.mem_range.1 hj))]
  induction n with
  | zero => omega
  | succ n ih =>
    rw [List.range_succ, List.filter_append]
    by_cases e : i = n
    · subst e
      rw [List.filter_eq_nil_iff.2 (fun j hj => by have := List.mem_range.1 hj; simp; omega)]
      simp
    · rw [ih (by omega) (fun j hj => h j (by omega))]
      simp [Ne.symm e]
theorem quietF_B (ops : Array Oper) : ∀ (l : List Nat) (m y : Nat), quietF ops ops.size l m = some y → quietB ops l (bits ops.size m) = some (bits ops.size y)
  | [], m, y, h => by
    simp only [quietF, Option.some.injEq] at h
    subst h; rfl
  | i :: r, m, y, h => by
    simp only [quietF] at h
    split at h
    · rename_i hc
      rw [Bool.and_eq_true, Bool.and_eq_true, Bool.and_eq_true, Nat.blt_eq] at hc
      obtain ⟨⟨⟨hi, hr⟩, hf⟩, hp⟩ := hc
      have hok : okAt ops (bits ops.size m) i = true := by
        unfold okAt
        rw [Bool.and_eq_true, Bool.and_eq_true]
        refine ⟨?_, by rw [free_bits]; exact hf, hp⟩
        rw [ready_bits, List.contains_iff_mem, List.mem_filter]
        exact ⟨List.mem_range.2 hi, hr⟩
      simp only [quietB]
      rw [if_pos hok, bits_set]
      exact quietF_B ops r _ y h
    · cases h
theorem mixF_B (ops : Array Oper) : ∀ (S : List (List Nat × Option Nat)) (m : Nat), mixF ops ops.size S m = true → mixB ops S (bits ops.size m) = true
  | [], m, h => by
    simp only [mixF, List.all_eq_true, Bool.not_eq_true'] at h
    simp only [mixB, List.isEmpty_iff]
    rw [ready_bits, List.filter_eq_nil_iff]
    intro j hj
    rw [h j hj]
    simp
  | (l, x) :: r, m, h => by
    simp only [mixF] at h
    cases hq : quietF ops ops.size l m with
    | none => rw [hq] at h; simp at h
    | some y =>
      rw [hq] at h
      simp only [mixB, quietF_B ops l m y hq]
      cases x with
      | none => exact mixF_B ops r y h
      | some i =>
        simp only [Bool.and_eq_true, Nat.blt_eq, List.all_eq_true, beq_iff_eq] at h
        obtain ⟨⟨⟨hi, ha⟩, hs⟩, hm⟩ := h
        simp only [Bool.and_eq_true, beq_iff_eq]
        refine ⟨⟨?_, hs⟩, by rw [bits_set]; exact mixF_B ops r _ hm⟩
        rw [ready_bits]
        exact filter_one hi fun j hj => ha j (List.mem_range.2 hj)
theorem mix_fast {l : List Oper} {S : List (List Nat × Option Nat)} (n : Nat) (hn : l.length = n) (h : mixF l.toArray n S 0 = true) : mixB l.toArray S (Array.replicate l.length false) = true := by
  subst hn
  have := mixF_B l.toArray S 0 (by rw [List.size_toArray]; exact h)
  rwa [List.size_toArray, ← bits_none] at this
end Go.Proofs.YtjieofiaoepccaaGreatDoor

namespace Go.Proofs.YtjieofiaoepccaaGreatDoor
open Go.RowKit

inductive Plan where
  | stop : Plan
  | read : List Nat → Plan → Plan
  | one : Nat → Plan → Plan
  | two : Nat → Plan → Nat → Plan → Plan
  | three : Nat → Plan → Nat → Plan → Nat → Plan → Plan
def planN : Plan → Nat
  | .stop => 0
  | .read l p => planN p + l.length
  | .one _ p => planN p + 1
  | .two _ p _ _ => planN p + 1
  | .three _ p _ _ _ _ => planN p + 1
def planB (ops : Array Oper) : Plan → Array Bool → Bool
  | .stop, listed => (Region.ready .any ops listed).isEmpty
  | .read l p, listed => match quietB ops l listed with
    | none => false
    | some y => planB ops p y
  | .one i p, listed => Region.ready .any ops listed == [i] && (ops[i]?).isSome && planB ops p (listed.setIfInBounds i true)
  | .two i p j q, listed => Region.ready .any ops listed == [i, j] && (ops[i]?).isSome && (ops[j]?).isSome && planN p == planN q && planB ops p (listed.setIfInBounds i true) && planB ops q (listed.setIfInBounds j true)
  | .three i p j q k r, listed => Region.ready .any ops listed == [i, j, k] && (ops[i]?).isSome && (ops[j]?).isSome && (ops[k]?).isSome && planN p == planN q && planN p == planN r && planB ops p (listed.setIfInBounds i true) && planB ops q (listed.setIfInBounds j true) && planB ops r (listed.setIfInBounds k true)
def wpPlan (P : Program) (ops : Array Oper) (C : World → Prop) (Q : Exit → Act → World → Prop) : Plan → Act → World → Prop
  | .stop, a, w => Q .normal a w
  | .read l p, a, w => wpQuiet P ops C (fun a' => wpPlan P ops C Q p a' w) (pickOps ops.toList l) a
  | .one i p, a, w => wpList P ops (soloQ fun a' w' => C w' ∧ wpPlan P ops C Q p a' w') (pickOps ops.toList [i]) a w
  | .two i p j q, a, w => wpList P ops (soloQ fun a' w' => C w' ∧ wpPlan P ops C Q p a' w') (pickOps ops.toList [i]) a w ∧ wpList P ops (soloQ fun a' w' => C w' ∧ wpPlan P ops C Q q a' w') (pickOps ops.toList [j]) a w
  | .three i p j q k r, a, w => wpList P ops (soloQ fun a' w' => C w' ∧ wpPlan P ops C Q p a' w') (pickOps ops.toList [i]) a w ∧ wpList P ops (soloQ fun a' w' => C w' ∧ wpPlan P ops C Q q a' w') (pickOps ops.toList [j]) a w ∧ wpList P ops (soloQ fun a' w' => C w' ∧ wpPlan P ops C Q r a' w') (pickOps ops.toList [k]) a w

section
variable {P : Program} {ops : Array Oper} {Q : Exit → Act → World → Prop} {C : World → Prop}
theorem op_of_list {i : Nat} {o : Oper} {a : Act} {w : World} {K : Act → World → Prop} (ho : ops[i]? = some o) (h : wpList P ops (soloQ K) (pickOps ops.toList [i]) a w) : wpOp P ops Q i K a w := by
  have e : pickOps ops.toList [i] = [o] := by
    rw [pickOps_cons, show ops.toList[i]? = some o by rw [Array.getElem?_toList]; exact ho, consO_some, pickOps_nil]
  rw [e] at h
  unfold wpOp
  simp only [ho]
  simp only [wpList] at h
  by_cases hw : Region.wanted o (yielded ops a.tmps) = true
  · rw [if_pos hw] at h ⊢
    rcases h with h | ⟨_, _, _, hf⟩
    · exact .inl (wp_of_solo h)
    · exact (hf : False).elim
  · rw [if_neg hw] at h ⊢
    exact h
theorem wpOp_mono {i : Nat} {a : Act} {w : World} {K K' : Act → World → Prop} (hK : ∀ a w, K a w → K' a w) (h : wpOp P ops Q i K a w) : wpOp P ops Q i K' a w := by
  unfold wpOp at *
  split
  · rename_i ho; simp only [ho] at h; exact hK _ _ h
  · rename_i o ho
    simp only [ho] at h
    split
    · rename_i hw
      rw [if_pos hw] at h
      exact h.imp (Oper.wp_mono hK) id
    · rename_i hw
      rw [if_neg hw] at h
      exact hK _ _ h
theorem plan_any (hs : Region.noSelect ops = true) (hQ : ∀ c d v a w, Q (.panic c) (Act.put a d v) w → Q (.panic c) a w) : ∀ (p : Plan) (listed : Array Bool) (a : Act) (w : World),
    planB ops p listed = true → C w → wpPlan P ops C Q p a w → wpAnyH P .any ops Q C (planN p) listed a w
  | .stop, listed, a, w, hB, hC, h => by
    simp only [planB, List.isEmpty_iff] at hB
    exact wpAnyH_done hB h _
  | .read l p, listed, a, w, hB, hC, h => by
    simp only [planB] at hB
    cases hq : quietB ops l listed with
    | none => rw [hq] at hB; simp at hB
    | some y =>
      rw [hq] at hB
      exact quiet_any hs hQ l listed y (planN p) a w _ hq hC h fun a' h' => plan_any hs hQ p y a' w hB hC h'
  | .one i p, listed, a, w, hB, hC, h => by
    simp only [planB, Bool.and_eq_true, beq_iff_eq] at hB
    obtain ⟨⟨hr, hi⟩, hB⟩ := hB
    obtain ⟨o, ho⟩ := Option.isSome_iff_exists.1 hi
    refine wpAnyH_all hr (by simp) fun j hj => ?_
    obtain rfl : j = i := by simpa using hj
    exact wpOp_mono (fun a2 w2 h2 => ⟨h2.1, plan_any hs hQ p _ a2 w2 hB h2.1 h2.2⟩) (op_of_list ho h)
  | .two i p j q, listed, a, w, hB, hC, h => by
    simp only [planB, Bool.and_eq_true, beq_iff_eq] at hB
    obtain ⟨⟨⟨⟨⟨hr, hi⟩, hj⟩, hn⟩, hB1⟩, hB2⟩ := hB
    obtain ⟨o1, ho1⟩ := Option.isSome_iff_exists.1 hi
    obtain ⟨o2, ho2⟩ := Option.isSome_iff_exists.1 hj
    refine wpAnyH_all hr (by simp) fun t ht => ?_
    simp only [List.mem_cons, List.not_mem_nil, or_false] at ht
    rcases ht with rfl | rfl
    · exact wpOp_mono (fun a2 w2 h2 => ⟨h2.1, plan_any hs hQ p _ a2 w2 hB1 h2.1 h2.2⟩) (op_of_list ho1 h.1)
    · exact wpOp_mono (fun a2 w2 h2 => ⟨h2.1, by rw [hn]; exact plan_any hs hQ q _ a2 w2 hB2 h2.1 h2.2⟩) (op_of_list ho2 h.2)
  | .three i p j q k r, listed, a, w, hB, hC, h => by
    simp only [planB, Bool.and_eq_true, beq_iff_eq] at hB
    obtain ⟨⟨⟨⟨⟨⟨⟨⟨hr, hi⟩, hj⟩, hk⟩, hn⟩, hn2⟩, hB1⟩, hB2⟩, hB3⟩ := hB
    obtain ⟨o1, ho1⟩ := Option.isSome_iff_exists.1 hi
    obtain ⟨o2, ho2⟩ := Option.isSome_iff_exists.1 hj
    obtain ⟨o3, ho3⟩ := Option.isSome_iff_exists.1 hk
    refine wpAnyH_all hr (by simp) fun t ht => ?_
    simp only [List.mem_cons, List.not_mem_nil, or_false] at ht
    rcases ht with rfl | rfl | rfl
    · exact wpOp_mono (fun a2 w2 h2 => ⟨h2.1, plan_any hs hQ p _ a2 w2 hB1 h2.1 h2.2⟩) (op_of_list ho1 h.1)
    · exact wpOp_mono (fun a2 w2 h2 => ⟨h2.1, by rw [hn]; exact plan_any hs hQ q _ a2 w2 hB2 h2.1 h2.2⟩) (op_of_list ho2 h.2.1)
    · exact wpOp_mono (fun a2 w2 h2 => ⟨h2.1, by rw [hn2]; exact plan_any hs hQ r _ a2 w2 hB3 h2.1 h2.2⟩) (op_of_list ho3 h.2.2)
end

def planF (ops : Array Oper) (n : Nat) : Plan → Nat → Bool
  | .stop, m => (List.range n).all fun j => !isReady ops n m j
  | .read l p, m => match quietF ops n l m with
    | none => false
    | some y => planF ops n p y
  | .one i p, m => Nat.blt i n && (List.range n).all (fun t => isReady ops n m t == (t == i)) && (ops[i]?).isSome && planF ops n p (m ||| 2 ^ i)
  | .two i p j q, m => Nat.blt i j && Nat.blt j n && (List.range n).all (fun t => isReady ops n m t == (t == i || t == j)) && (ops[i]?).isSome && (ops[j]?).isSome && planN p == planN q && planF ops n p (m ||| 2 ^ i) && planF ops n q (m ||| 2 ^ j)
  | .three i p j q k r, m => Nat.blt i j && Nat.blt j k && Nat.blt k n && (List.range n).all (fun t => isReady ops n m t == (t == i || t == j || t == k)) && (ops[i]?).isSome && (ops[j]?).isSome && (ops[k]?).isSome && planN p == planN q && planN p == planN r && planF ops n p (m ||| 2 ^ i) && planF ops n q (m ||| 2 ^ j) && planF ops n r (m ||| 2 ^ k)
theorem filter_two {n i j : Nat} {p : Nat → Bool} (hij : i < j) (hj : j < n) (h : ∀ t, t < n → p t = (t == i || t == j)) : (List.range n).filter p = [i, j] := by
  rw [List.filter_congr (q := fun t => t == i || t == j) (fun t ht => h t (List.mem_range.1 ht))]
  clear h
  induction n with
  | zero => omega
  | succ n ih =>
    rw [List.range_succ, List.filter_append]
    by_cases e : j = n
    · subst e
      have : (List.range j).filter (fun t => t == i || t == j) = [i] := by
        rw [List.filter_congr (q := fun t => t == i) (fun t ht => by have := List.mem_range.1 ht; rw [show (t == j) = false by simp; omega, Bool.or_false])]
        exact filter_one hij fun t _ => rfl
      rw [this]
      simp
    · rw [ih (by omega)]
      have h1 : (n == i || n == j) = false := by simp; omega
      simp [h1]
theorem filter_three {n i j k : Nat} {p : Nat → Bool} (hij : i < j) (hjk : j < k) (hk : k < n) (h : ∀ t, t < n → p t = (t == i || t == j || t == k)) : (List.range n).filter p = [i, j, k] := by
  rw [List.filter_congr (q := fun t => t == i || t == j || t == k) (fun t ht => h t (List.mem_range.1 ht))]
  clear h
  induction n with
  | zero => omega
  | succ n ih =>
    rw [List.range_succ, List.filter_append]
    by_cases e : k = n
    · subst e
      have : (List.range k).filter (fun t => t == i || t == j || t == k) = [i, j] := by
        rw [List.filter_congr (q := fun t => t == i || t == j) (fun t ht => by have := List.mem_range.1 ht; rw [show (t == k) = false by simp; omega, Bool.or_false])]
        exact filter_two hij hjk fun t _ => rfl
      rw [this]
      simp
    · rw [ih (by omega)]
      have h1 : (n == i || n == j || n == k) = false := by simp; omega
      simp [h1]
theorem planF_B (ops : Array Oper) : ∀ (p : Plan) (m : Nat), planF ops ops.size p m = true → planB ops p (bits ops.size m) = true
  | .stop, m, h => by
    simp only [planF, List.all_eq_true, Bool.not_eq_true'] at h
    simp only [planB, List.isEmpty_iff]
    rw [ready_bits, List.filter_eq_nil_iff]
    intro j hj
    rw [h j hj]
    simp
  | .read l p, m, h => by
    simp only [planF] at h
    cases hq : quietF ops ops.size l m with
    | none => rw [hq] at h; simp at h
    | some y =>
      rw [hq] at h
      simp only [planB, quietF_B ops l m y hq]
      exact planF_B ops p y h
  | .one i p, m, h => by
    simp only [planF, Bool.and_eq_true, Nat.blt_eq, List.all_eq_true, beq_iff_eq] at h
    obtain ⟨⟨⟨hi, ha⟩, hs⟩, hm⟩ := h
    simp only [planB, Bool.and_eq_true, beq_iff_eq]
    refine ⟨⟨?_, hs⟩, by rw [bits_set]; exact planF_B ops p _ hm⟩
    rw [ready_bits]
    exact filter_one hi fun t ht => ha t (List.mem_range.2 ht)
  | .two i p j q, m, h => by
    simp only [planF, Bool.and_eq_true, Nat.blt_eq, List.all_eq_true, beq_iff_eq] at h
    obtain ⟨⟨⟨⟨⟨⟨⟨hij, hj⟩, ha⟩, h1⟩, h2⟩, hn⟩, hp⟩, hq⟩ := h
    simp only [planB, Bool.and_eq_true, beq_iff_eq]
    refine ⟨⟨⟨⟨⟨?_, h1⟩, h2⟩, hn⟩, by rw [bits_set]; exact planF_B ops p _ hp⟩, by rw [bits_set]; exact planF_B ops q _ hq⟩
    rw [ready_bits]
    exact filter_two hij hj fun t ht => ha t (List.mem_range.2 ht)
  | .three i p j q k r, m, h => by
    simp only [planF, Bool.and_eq_true, Nat.blt_eq, List.all_eq_true, beq_iff_eq] at h
    obtain ⟨⟨⟨⟨⟨⟨⟨⟨⟨⟨⟨hij, hjk⟩, hk⟩, ha⟩, h1⟩, h2⟩, h3⟩, hn⟩, hn2⟩, hp⟩, hq⟩, hr⟩ := h
    simp only [planB, Bool.and_eq_true, beq_iff_eq]
    refine ⟨⟨⟨⟨⟨⟨⟨⟨?_, h1⟩, h2⟩, h3⟩, hn⟩, hn2⟩, by rw [bits_set]; exact planF_B ops p _ hp⟩, by rw [bits_set]; exact planF_B ops q _ hq⟩, by rw [bits_set]; exact planF_B ops r _ hr⟩
    rw [ready_bits]
    exact filter_three hij hjk hk fun t ht => ha t (List.mem_range.2 ht)
theorem wpPlan_read {P : Program} {ops : Array Oper} {C : World → Prop} {Q : Exit → Act → World → Prop} {l : List Nat} {p : Plan} {a : Act} {w : World} :
    wpPlan P ops C Q (.read l p) a w = wpQuiet P ops C (fun a' => wpPlan P ops C Q p a' w) (pickOps ops.toList l) a := rfl
theorem wpPlan_one {P : Program} {ops : Array Oper} {C : World → Prop} {Q : Exit → Act → World → Prop} {i : Nat} {p : Plan} {a : Act} {w : World} :
    wpPlan P ops C Q (.one i p) a w = wpList P ops (soloQ fun a' w' => C w' ∧ wpPlan P ops C Q p a' w') (pickOps ops.toList [i]) a w := rfl
theorem wpPlan_two {P : Program} {ops : Array Oper} {C : World → Prop} {Q : Exit → Act → World → Prop} {i j : Nat} {p q : Plan} {a : Act} {w : World} :
    wpPlan P ops C Q (.two i p j q) a w = (wpList P ops (soloQ fun a' w' => C w' ∧ wpPlan P ops C Q p a' w') (pickOps ops.toList [i]) a w ∧ wpList P ops (soloQ fun a' w' => C w' ∧ wpPlan P ops C Q q a' w') (pickOps ops.toList [j]) a w) := rfl
theorem wpPlan_three {P : Program} {ops : Array Oper} {C : World → Prop} {Q : Exit → Act → World → Prop} {i j k : Nat} {p q r : Plan} {a : Act} {w : World} :
    wpPlan P ops C Q (.three i p j q k r) a w = (wpList P ops (soloQ fun a' w' => C w' ∧ wpPlan P ops C Q p a' w') (pickOps ops.toList [i]) a w ∧ wpList P ops (soloQ fun a' w' => C w' ∧ wpPlan P ops C Q q a' w') (pickOps ops.toList [j]) a w ∧ wpList P ops (soloQ fun a' w' => C w' ∧ wpPlan P ops C Q r a' w') (pickOps ops.toList [k]) a w) := rfl
theorem wpPlan_stop {P : Program} {ops : Array Oper} {C : World → Prop} {Q : Exit → Act → World → Prop} {a : Act} {w : World} (h : Q .normal a w) : wpPlan P ops C Q .stop a w := h
theorem soloP {W : World} {P : Program} {ops : Array Oper} {Q : Exit → Act → World → Prop} {p : Plan} {a : Act} {w : World} (hk : Kept W w) (h : wpPlan P ops (fun w' => ∃ g : KExt W, w' = g.w) Q p a w) :
    soloQ (fun a' w' => (∃ g : KExt W, w' = g.w) ∧ wpPlan P ops (fun w' => ∃ g : KExt W, w' = g.w) Q p a' w') .normal a w := ⟨⟨⟨w, hk⟩, rfl⟩, h⟩
/-- The region, walked by the plan. -/
theorem region_plan {P : Program} (W : World) {id : Nat} {Q : Exit → Act → World → Prop} {a : Act} {w : World} {l : List Oper} (n : Nat) (p : Plan) (hm : P.follows .mixedOrders = true) (hs : Region.noSelect l.toArray = true) (hl : l.length = n) (hn : planN p = n)
    (hB : planF l.toArray n p 0 = true) (hQ : ∀ c d v a w, Q (.panic c) (Act.put a d v) w → Q (.panic c) a w) (h0 : Kept W w)
    (h : ∀ wd : World, Kept w wd → wpPlan P l.toArray (fun w' => ∃ g : KExt W, w' = g.w) Q p a wd) : (Code.region id l.toArray true).wp P Q a w := by
  subst hl
  refine wp_region_held (S := fun w' => ∃ g : KExt W, w' = g.w) hm ?_
  have hk : Kept w { w with drawn := w.drawn + 1 } := (Kept.refl w).drew
  have hB2 := planF_B l.toArray p 0 (by rw [List.size_toArray]; exact hB)
  rw [List.size_toArray, ← bits_none] at hB2
  have := plan_any (Q := Q) (C := fun w' => ∃ g : KExt W, w' = g.w) hs hQ p (Array.replicate l.length false) a { w with drawn := w.drawn + 1 } hB2 ⟨⟨_, h0.trans hk⟩, rfl⟩ (h _ hk)
  rw [hn] at this
  rw [List.size_toArray]
  exact this
end Go.Proofs.YtjieofiaoepccaaGreatDoor

