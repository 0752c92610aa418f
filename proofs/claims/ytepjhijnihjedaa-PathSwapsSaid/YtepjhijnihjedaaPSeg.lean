/-
  What is proved: path.inSeg, path.Seg and the document's Seg, called with any text, return whether it is a segment (P4.1); the world has new blocks at most.
-/
import Derived.Test.YtepjhijnihjedaaPMem
import Derived.WalkKit
import Derived.WalkSpells
import Derived.WalkLawsBesides
import Derived.LoopTactic
import Derived.RowKit3
import Derived.Outline
namespace Go.Proofs.Ytepjhijnihjedaa
open Go.RowKit

theorem ret_bool {a b : Bool} (h : a = b) : Ending.returned (.bool a) = .returned (.bool b) := by rw [h]
theorem okC_cases (c : Nat) : (c < 48 ∧ okC c = false) ∨ (48 ≤ c ∧ c ≤ 57 ∧ okC c = true) ∨ (57 < c ∧ c < 95 ∧ okC c = false) ∨ (c = 95 ∧ okC c = true) ∨ (c = 96 ∧ okC c = false) ∨ (97 ≤ c ∧ c ≤ 122 ∧ okC c = true) ∨ (122 < c ∧ okC c = false) := by
  by_cases h1 : 97 ≤ c ∧ c ≤ 122 ∨ 48 ≤ c ∧ c ≤ 57 ∨ c = 95
  · have h : okC c = true := decide_eq_true h1
    rcases h1 with h1 | h1 | h1
    · exact .inr (.inr (.inr (.inr (.inr (.inl ⟨h1.1, h1.2, h⟩)))))
    · exact .inr (.inl ⟨h1.1, h1.2, h⟩)
    · exact .inr (.inr (.inr (.inl ⟨h1, h⟩)))
  · have h : okC c = false := decide_eq_false h1
    simp only [h]
    simp
    omega
theorem text_none {t : ByteArray} (h : t.size = 0) : t.toList = [] := by
  rw [Lib.toList_data]; exact List.eq_nil_of_length_eq_zero h
theorem text_some {t : ByteArray} (h : ¬ t.size = 0) : t.toList ≠ [] ∧ t.toList.isEmpty = false ∧ (t.toList == []) = false := by
  have : t.toList ≠ [] := by rw [Lib.toList_data]; intro e; exact h (by rw [ba_size, e]; rfl)
  refine ⟨this, by simpa using this, by simpa using this⟩
theorem segS_nil {t : ByteArray} (h : t.size = 0) : segS t = false := by
  have : t.data.toList = [] := List.eq_nil_of_length_eq_zero h
  unfold segS; rw [this]; rfl
theorem segS_few {s : ByteArray} (h : ∀ i (hi : i < s.size), okC s[i].toNat = true) (h0 : ¬ s.size = 0) : segS s = decide (s.size ≤ 16) := by
  rw [segS_all s h]
  have : s.data.toList.isEmpty = false := by
    rw [List.isEmpty_eq_false_iff]; intro e; exact h0 (by rw [ba_size, e]; rfl)
  rw [this]; rfl

set_option maxRecDepth 100000 in
set_option maxHeartbeats 1000000 in
theorem inSeg_any (c : Nat) (w : World) (hc : c ≤ 2147483647) :
    Calls Try.prog 27 #[.int .i32 c] w fun e w' => e = .returned (.bool (okC c)) ∧ w = w' := by
  rcases okC_cases c with ⟨h1, h2⟩ | ⟨h0, h1, h2⟩ | ⟨h0, h1, h2⟩ | ⟨h1, h2⟩ | ⟨h1, h2⟩ | ⟨h0, h1, h2⟩ | ⟨h1, h2⟩
  all_goals (have H := Lib.hid h2; clear h2)
  · have n5 : ((c : Int) == 95) = false := beq_eq_false_iff_ne.2 (by omega)
    go_enter Try.func27, Try.ntmps27
    go_wp2
    go_ret
    exact ⟨ret_bool (by rw [H.out] <;> (simp; omega)), rfl⟩
  · have n5 : ((c : Int) == 95) = false := beq_eq_false_iff_ne.2 (by omega)
    go_enter Try.func27, Try.ntmps27
    go_wp2
    go_ret
    exact ⟨ret_bool (by rw [H.out] <;> (simp; omega)), rfl⟩
  · have n5 : ((c : Int) == 95) = false := beq_eq_false_iff_ne.2 (by omega)
    go_enter Try.func27, Try.ntmps27
    go_wp2
    go_ret
    exact ⟨ret_bool (by rw [H.out] <;> (simp; omega)), rfl⟩
  · subst h1
    go_enter Try.func27, Try.ntmps27
    go_wp2
    go_ret
    exact ⟨ret_bool (by rw [H.out] <;> (simp; omega)), rfl⟩
  · subst h1
    go_enter Try.func27, Try.ntmps27
    go_wp2
    go_ret
    exact ⟨ret_bool (by rw [H.out] <;> (simp; omega)), rfl⟩
  · have n5 : ((c : Int) == 95) = false := beq_eq_false_iff_ne.2 (by omega)
    go_enter Try.func27, Try.ntmps27
    go_wp2
    go_ret
    exact ⟨ret_bool (by rw [H.out] <;> (simp; omega)), rfl⟩
  · have n5 : ((c : Int) == 95) = false := beq_eq_false_iff_ne.2 (by omega)
    go_enter Try.func27, Try.ntmps27
    go_wp2
    go_ret
    exact ⟨ret_bool (by rw [H.out] <;> (simp; omega)), rfl⟩
theorem inSeg_c (c : Nat) (b : Bool) (hb : okC c = b) (hc : c ≤ 2147483647) (w : World) :
    Calls Try.prog 27 #[.int .i32 c] w fun e w' => e = .returned (.bool b) ∧ w = w' := by
  subst hb; exact inSeg_any c w hc

theorem ke_iter (w : World) (s : ByteArray) (pos : Nat) : Ke w (w.iter s pos) := (Ke.refl w).alloc _

set_option maxRecDepth 100000 in
set_option maxHeartbeats 2000000 in
theorem seg_any (s : ByteArray) (w : World) (hs : s.size ≤ 9223372036854775807) :
    Calls Try.prog 11 #[.string s] w fun e w' => e = .returned (.bool (segS s)) ∧ Ke w w' := by
  go_enter Try.func11, Try.ntmps11
  go_wp2
  go_loopw [] (fun wr => ∃ pos : Nat, pos ≤ s.size ∧ wr = w.iter s pos ∧ ∀ i (hi : i < s.size), i < pos → okC s[i].toNat = true) (fun wr => s.size - wr.iterPos w.heap.size)
  case atStart => exact ⟨0, Nat.zero_le _, rfl, fun i hi h => absurd h (by omega)⟩
  case round =>
    obtain ⟨pos, hle, rfl, hok⟩ := hrel
    have HO := Lib.hid hok
    clear hok
    by_cases hp : pos < s.size
    · have hnx : ∀ ty, (Instr.next (.pointer (some ⟨w.heap.size, 0, none⟩)) true ty).run Try.prog (w.iter s pos) = _ := fun ty => run_next_any w s pos ty hp
      have hd1 := decode_le s pos
      have HR := Lib.hid (rune_okC s pos hp)
      cases hb : okC (Utf8.decode s pos).1 with
      | true =>
        have HW := Lib.hid (rune_one s pos hp hb)
        have HB := Lib.hid hb
        clear hb
        go_wp2_with (go_at_call 27; ((with_reducible refine (inSeg_c _ true HB.out hd1 _).mono ?_); rintro e w' ⟨rfl, rfl⟩))
        go_roundw
        case rel =>
          refine ⟨pos + 1, by omega, by rw [HW.out], fun i hi h => ?_⟩
          rcases Nat.lt_or_ge i pos with h3 | h3
          · exact HO.out i hi h3
          · obtain rfl : i = pos := by omega
            rw [← HR.out]; exact HB.out
        case measure => rw [World.iterPos_iter, World.iterPos_iter, HW.out]; omega
      | false =>
        have HB := Lib.hid hb
        clear hb
        go_wp2_with (go_at_call 27; ((with_reducible refine (inSeg_c _ false HB.out hd1 _).mono ?_); rintro e w' ⟨rfl, rfl⟩))
        go_ret
        exact ⟨ret_bool (segS_no s pos hp (by rw [← HR.out]; exact HB.out)).symm, ke_iter _ _ _⟩
    · have hnx : ∀ ty, (Instr.next (.pointer (some ⟨w.heap.size, 0, none⟩)) true ty).run Try.prog (w.iter s pos) = _ := fun ty => run_next_end w s pos ty hp
      have HO2 := Lib.hid (fun i hi => HO.out i hi (show i < pos by omega))
      by_cases h0 : s.size = 0
      · have h1 := text_none h0
        have HZ := Lib.hid (segS_nil h0)
        clear h0
        go_wp2
        go_ret
        exact ⟨ret_bool HZ.out.symm, ke_iter _ _ _⟩
      · obtain ⟨h1, h2, h3⟩ := text_some h0
        have HZ := Lib.hid (segS_few HO2.out h0)
        go_wp2
        go_ret
        exact ⟨ret_bool (by rw [HZ.out, decide_eq_decide]; omega), ke_iter _ _ _⟩

set_option maxRecDepth 100000 in
set_option maxHeartbeats 4000000 in
theorem rseg_any (s : ByteArray) (w : World) (hs : s.size ≤ 9223372036854775807) :
    Calls Try.prog 12 #[.string s] w fun e w' => e = .returned (.bool (segS s)) ∧ Ke w w' := by
  go_enter Try.func12, Try.ntmps12
  go_wp2
  go_loopw [] (fun wr => ∃ pos : Nat, pos ≤ s.size ∧ wr = w.iter s pos ∧ ∀ i (hi : i < s.size), i < pos → okC s[i].toNat = true) (fun wr => s.size - wr.iterPos w.heap.size)
  case atStart => exact ⟨0, Nat.zero_le _, rfl, fun i hi h => absurd h (by omega)⟩
  case round =>
    obtain ⟨pos, hle, rfl, hok⟩ := hrel
    have HO := Lib.hid hok
    clear hok
    by_cases hp : pos < s.size
    · have hnx : ∀ ty, (Instr.next (.pointer (some ⟨w.heap.size, 0, none⟩)) true ty).run Try.prog (w.iter s pos) = _ := fun ty => run_next_any w s pos ty hp
      have hd1 := decode_le s pos
      have HR := Lib.hid (rune_okC s pos hp)
      have HW : okC (Utf8.decode s pos).1 = true → (Utf8.decode s pos).2 = 1 := rune_one s pos hp
      generalize hcc : (Utf8.decode s pos).1 = c at hnx hd1 HR HW
      generalize hww : (Utf8.decode s pos).2 = wd at hnx HW
      clear hcc hww
      have HW := Lib.hid HW
      have HI : okC c = true → ∀ i (hi : i < s.size), i < pos + 1 → okC s[i].toNat = true := fun hk i hi h => by
        rcases Nat.lt_or_ge i pos with h3 | h3
        · exact HO.out i hi h3
        · obtain rfl : i = pos := by omega
          rw [← HR.out]; exact hk
      have HI := Lib.hid HI
      have HN : okC c = false → segS s = false := fun hk => segS_no s pos hp (by rw [← HR.out]; exact hk)
      have HN := Lib.hid HN
      rcases okC_cases c with ⟨h1, h2⟩ | ⟨h0, h1, h2⟩ | ⟨h0, h1, h2⟩ | ⟨h1, h2⟩ | ⟨h1, h2⟩ | ⟨h0, h1, h2⟩ | ⟨h1, h2⟩
      · have n5 : ((c : Int) != 95) = true := bne_iff_ne.2 (by omega)
        have H := Lib.hid h2
        clear h2
        go_wp2
        go_ret
        exact ⟨ret_bool (HN.out H.out).symm, ke_iter _ _ _⟩
      · have H := Lib.hid h2
        clear h2
        go_wp2
        go_roundw
        case rel => exact ⟨pos + 1, by omega, by rw [HW.out H.out], HI.out H.out⟩
        case measure => rw [World.iterPos_iter, World.iterPos_iter, HW.out H.out]; omega
      · have n5 : ((c : Int) != 95) = true := bne_iff_ne.2 (by omega)
        have H := Lib.hid h2
        clear h2
        go_wp2
        go_ret
        exact ⟨ret_bool (HN.out H.out).symm, ke_iter _ _ _⟩
      · subst h1
        have H := Lib.hid h2
        clear h2
        go_wp2
        go_roundw
        case rel => exact ⟨pos + 1, by omega, by rw [HW.out H.out], HI.out H.out⟩
        case measure => rw [World.iterPos_iter, World.iterPos_iter, HW.out H.out]; omega
      · subst h1
        have H := Lib.hid h2
        clear h2
        go_wp2
        go_ret
        exact ⟨ret_bool (HN.out H.out).symm, ke_iter _ _ _⟩
      · have H := Lib.hid h2
        clear h2
        go_wp2
        go_roundw
        case rel => exact ⟨pos + 1, by omega, by rw [HW.out H.out], HI.out H.out⟩
        case measure => rw [World.iterPos_iter, World.iterPos_iter, HW.out H.out]; omega
      · have n5 : ((c : Int) != 95) = true := bne_iff_ne.2 (by omega)
        have H := Lib.hid h2
        clear h2
        go_wp2
        go_ret
        exact ⟨ret_bool (HN.out H.out).symm, ke_iter _ _ _⟩
    · have hnx : ∀ ty, (Instr.next (.pointer (some ⟨w.heap.size, 0, none⟩)) true ty).run Try.prog (w.iter s pos) = _ := fun ty => run_next_end w s pos ty hp
      have HO2 := Lib.hid (fun i hi => HO.out i hi (show i < pos by omega))
      by_cases h0 : s.size = 0
      · have h1 := text_none h0
        have HZ := Lib.hid (segS_nil h0)
        clear h0
        go_wp2
        go_ret
        exact ⟨ret_bool HZ.out.symm, ke_iter _ _ _⟩
      · obtain ⟨h1, h2, h3⟩ := text_some h0
        have HZ := Lib.hid (segS_few HO2.out h0)
        go_wp2
        go_ret
        exact ⟨ret_bool (by rw [HZ.out, decide_eq_decide]; omega), ke_iter _ _ _⟩
theorem seg_c (s : ByteArray) (b : Bool) (hb : segS s = b) (hs : s.size ≤ 9223372036854775807) (w : World) :
    Calls Try.prog 11 #[.string s] w fun e w' => e = .returned (.bool b) ∧ Ke w w' := by
  subst hb; exact seg_any s w hs
theorem rseg_c (s : ByteArray) (b : Bool) (hb : segS s = b) (hs : s.size ≤ 9223372036854775807) (w : World) :
    Calls Try.prog 12 #[.string s] w fun e w' => e = .returned (.bool b) ∧ Ke w w' := by
  subst hb; exact rseg_any s w hs
end Go.Proofs.Ytepjhijnihjedaa
