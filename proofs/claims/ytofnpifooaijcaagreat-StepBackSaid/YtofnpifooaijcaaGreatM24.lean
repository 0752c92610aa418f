/-
  What is proved: package step's moveAlone (P14.3), called with any fields and any step of bounded lengths, tells whether some fields move, and none stands where they are led; the world has new blocks at most.
  package step's become (a part of P14.3), called with any field and a step of no kind that turns one field of bounded lengths, returns the field turned and whether it fits; the world has new blocks at most.
  package step's become (a part of P14.3), called with any field and a step of the kind 6 of bounded lengths, returns the field turned and whether it fits; the world has new blocks at most.
-/
import Derived.Test.YtofnpifooaijcaaGreatM16
import Derived.Test.YtofnpifooaijcaaGreatM13
import Derived.Test.YtofnpifooaijcaaGreatM12
namespace Go.Proofs.YtofnpifooaijcaaGreat
open Go.RowKit
set_option linter.unusedVariables false
theorem sL_short (p : ByteArray) : (sL p).length ≤ p.size + 1 ∧ ∀ s ∈ sL p, s.length ≤ p.size := by
  refine ⟨?_, fun s hs => L4.spl_size _ s hs⟩
  rw [← splS_sL]
  exact L4.splS_le p
theorem swap_big {p : ByteArray} {M : List ByteArray} (hp : p.size ≤ 2000) (hM : M.length ≤ 2) (hx : ∀ x ∈ M, x.size ≤ 2000) (i : Int) : (L4.swapS p i M).size ≤ 10000000 := by
  by_cases h : 0 ≤ i ∧ i < (sL p).length
  · obtain ⟨k, rfl⟩ : ∃ k : Nat, i = k := ⟨i.toNat, by omega⟩
    rw [swapS_in p k M (by omega)]
    obtain ⟨h1, h2⟩ := sL_short p
    have hl : ((sL p).take k ++ M.map (·.data.toList) ++ (sL p).drop (k + 1)).length ≤ 2003 := by
      rw [List.length_append, List.length_append, List.length_map, List.length_take, List.length_drop]
      omega
    have hs : ∀ s ∈ (sL p).take k ++ M.map (·.data.toList) ++ (sL p).drop (k + 1), s.length ≤ 2000 := fun s hs => by
      rcases List.mem_append.1 hs with hs | hs
      · rcases List.mem_append.1 hs with hs | hs
        · have := h2 s (List.take_subset _ _ hs); omega
        · obtain ⟨x, hx1, rfl⟩ := List.mem_map.1 hs
          exact hx x hx1
      · have := h2 s (List.drop_subset _ _ hs); omega
    have hj := joi_len (k := 2000) _ hs
    have e : ∀ l : List Sg, (paB l).size = (L4.joi l).length := fun l => by unfold paB L4.ofL; simp [ByteArray.size]
    rw [e]
    have := Nat.mul_le_mul hl (Nat.le_refl (2000 + 1))
    omega
  · rw [swapS_out p i M (by omega)]
    omega
theorem move_big {x : St} {p : ByteArray} (hxp : x.p.size ≤ 2000) (hnm : x.nm.size ≤ 2000) (hp : p.size ≤ 2000) : (moveS x p).size ≤ 10000000 := by
  unfold moveS
  split
  · unfold movedS
    split
    · exact swap_big hp (by simp) (fun y hy => by rw [List.mem_singleton] at hy; subst hy; exact hnm) _
    · split
      · exact swap_big hp (by simp) (fun y hy => by simp at hy) _
      · split
        · refine swap_big hp (by simp) (fun y hy => ?_) _
          simp only [List.mem_cons, List.not_mem_nil, or_false] at hy
          rcases hy with rfl | rfl
          · exact hnm
          · exact Nat.le_trans (L4.sg_size _ _) hp
        · split
          · unfold underB
            rw [ByteArray.size_append]
            have : (⟨#[47, 42]⟩ : ByteArray).size = 2 := rfl
            omega
          · split
            · exact swap_big hp (by simp) (fun y hy => by simp at hy) _
            · omega
  · omega
def AloneR (L : List Fd) (x : St) : Prop := (∃ f ∈ L, preS f.p x.p) ∧ ∀ f ∈ L, ¬ preS f.p x.p → ¬ preS f.p (moveS x x.p)
set_option maxRecDepth 100000 in
set_option maxHeartbeats 16000000 in
theorem salone_any (AL : Option Addr) (m cL : Nat) (L : List Fd) (A : Option Addr) (n c : Nat) (x : St) (w : World) (hl : Fl w AL m cL L) (hxp : x.p.size ≤ 2000) (hnm : x.nm.size ≤ 2000) (hL : ∀ f ∈ L, f.p.size ≤ 2000) (r : Bool) (hr : r = true ↔ AloneR L x) :
    Calls Tryz.prog 85 #[.slice AL m cL, .agg (cellS A n c x).toArray] w fun e w' => e = .returned (.bool r) ∧ Kept w w' := by
  have hcap := hl.cap.1; have hcap2 := hl.cap.2
  have hk := (Kept.refl w).alloc (cellS A n c x).toArray 33
  have HS := Lib.hid (StB.new w A n c x 33)
  have hlU := hl.kept hk
  obtain ⟨U, hU⟩ : ∃ U, w.alloc (.cells (cellS A n c x).toArray 33) = U := ⟨_, rfl⟩
  rw [hU] at hk HS hlU
  obtain ⟨q, hq⟩ : ∃ q, moveS x x.p = q := ⟨_, rfl⟩
  have hqz : q.size ≤ 10000000 := by rw [← hq]; exact move_big hxp hnm hxp
  have AM := Lib.hid (fun w => smove_any x.p A n c x w hxp hxp hnm q hq)
  have HK := Lib.hid hk; have HUU := Lib.hid hU; have HR := Lib.hid hr; have HL := Lib.hid hlU; have HLZ := Lib.hid hL; have HQ := Lib.hid hq; have HQZ := Lib.hid hqz; have HXZ := Lib.hid hxp; have HLN := Lib.hid hl.1
  clear hk hU hr hl hlU hL hq hqz hxp hnm
  have c1 := HS.out.c1
  go_enter Tryz.func85, Tryz.ntmps85
  go_wp2_with (first | rw [HUU.out] | refine wpList_load_mid rfl 33 _ rfl w.heap.size 0 rfl _ _ HS.out.r Tryz.underlying33 rfl (step_size A n c x) ?_)
  go_at_call 12
  refine (AM.out _).mono ?_
  rintro e u1 ⟨rfl, hk1⟩
  replace HK := Lib.hid (HK.out.trans hk1); replace HS := Lib.hid (HS.out.kept hk1); replace HL := Lib.hid (HL.out.kept hk1)
  clear hk1 c1
  go_wp2_with fail
  go_loopw [6, 16] (fun s i wr => ∃ (t : Nat) (b : Bool), t ≤ m ∧ i = .int .i64 t ∧ s = .bool b ∧ (b = true ↔ ∃ f ∈ L.take t, preS f.p x.p) ∧ (∀ f ∈ L.take t, ¬ preS f.p x.p → ¬ preS f.p (moveS x x.p)) ∧ Kept u1 wr) (fun _ i _ => m - (intOf i).toNat)
  case atStart => exact ⟨0, false, Nat.zero_le _, rfl, rfl, by simp, fun f hf => by simp at hf, Kept.refl _⟩
  case round =>
    obtain ⟨t, b, ht, rfl, rfl, hb, hall, hkr⟩ := hrel
    have HB1 := Lib.hid hb; have HAL := Lib.hid hall; have HKR := Lib.hid hkr
    clear hb hall hkr
    by_cases hlt : t < m
    · obtain ⟨g, o, f, rfl, hf, EX⟩ := (HL.out.kept HKR.out).get hlt
      have x0 := EX.c0; have x1 := EX.c1; have x2 := EX.c2; have x3 := EX.c3; have x4 := EX.c4; have x5 := EX.c5
      have HE := Lib.hid (FdB.new wr f 28)
      have z0 := HE.out.c0
      have HF := Lib.hid hf
      have HFM := Lib.hid (List.mem_of_getElem? hf)
      have hka := (Kept.refl wr).alloc #[.string f.p, .int .i64 f.k, .int .i64 f.t, .int .i64 f.vk, .int .i64 f.vn, .string f.vt] 28
      have HKA := Lib.hid (HKR.out.trans hka)
      have HSR := Lib.hid ((HS.out.kept HKR.out).kept hka)
      have c1 := HSR.out.c1
      obtain ⟨d, hd⟩ := bool_of (preS f.p x.p)
      have A1 := Lib.hid (fun w => spre_any f.p x.p (by have := HLZ.out f HFM.out; omega) (by have := HXZ.out; omega) d hd w)
      have HD := Lib.hid hd
      obtain ⟨d2, hd2⟩ := bool_of (preS f.p q)
      have A2 := Lib.hid (fun w => spre_any f.p q (by have := HLZ.out f HFM.out; omega) (by have := HQZ.out; omega) d2 hd2 w)
      have HD2 := Lib.hid hd2
      clear EX hf hka hd hd2
      go_wp2_with fail
      go_at_call 14
      refine (A1.out _).mono ?_
      rintro e u2 ⟨rfl, rfl⟩
      cases d with
      | true =>
        have HP := Lib.hid (show preS f.p x.p from HD.out.1 (by first | rfl | trivial))
        have HN1 := Lib.hid (show (true : Bool) = true ↔ ∃ z ∈ L.take (t + 1), preS z.p x.p from by
          rw [take_ex HF.out]
          exact ⟨fun _ => .inr HP.out, fun _ => rfl⟩)
        have HN2 := Lib.hid (take_all (P := fun f => ¬ preS f.p x.p → ¬ preS f.p (moveS x x.p)) HF.out HAL.out (fun k => absurd HP.out k))
        cases b with
        | true =>
          go_wp2_with fail
          go_roundw
          case rel => exact ⟨t + 1, true, hlt, by go_num, rfl, (by first | exact HN1.out | exact ⟨fun _ => HN1.out.1 trivial, fun _ => rfl⟩), HN2.out, HKA.out⟩
          case measure => simp [intOf]; omega
        | false =>
          go_wp2_with fail
          go_roundw
          case rel => exact ⟨t + 1, true, hlt, by go_num, rfl, (by first | exact HN1.out | exact ⟨fun _ => HN1.out.1 trivial, fun _ => rfl⟩), HN2.out, HKA.out⟩
          case measure => simp [intOf]; omega
      | false =>
        have HP := Lib.hid (show ¬ preS f.p x.p from fun k => by have := HD.out.2 k; cases this)
        go_wp2_with fail
        go_at_call 14
        refine (A2.out _).mono ?_
        rintro e u2 ⟨rfl, rfl⟩
        cases d2 with
        | true =>
          have HQ2 := Lib.hid (show preS f.p q from HD2.out.1 (by first | rfl | trivial))
          have HFIN := Lib.hid (show false = r by
            rw [eq_comm, ← Bool.not_eq_true, HR.out]
            exact fun k => k.2 f HFM.out HP.out (by rw [HQ.out]; exact HQ2.out))
          go_wp2_with fail
          go_ret
          exact ⟨ret_bool HFIN.out, HK.out.trans HKA.out⟩
        | false =>
          have HQ2 := Lib.hid (show ¬ preS f.p q from fun k => by have := HD2.out.2 k; cases this)
          have HN1 := Lib.hid (show b = true ↔ ∃ z ∈ L.take (t + 1), preS z.p x.p from by
            rw [take_ex HF.out]
            exact ⟨fun h => .inl (HB1.out.1 h), fun h => h.elim HB1.out.2 (fun k => absurd k HP.out)⟩)
          have HN2 := Lib.hid (take_all (P := fun f => ¬ preS f.p x.p → ¬ preS f.p (moveS x x.p)) HF.out HAL.out (fun _ => by rw [HQ.out]; exact HQ2.out))
          cases b with
          | true =>
            go_wp2_with fail
            go_roundw
            case rel => exact ⟨t + 1, true, hlt, by go_num, rfl, (by first | exact HN1.out | exact ⟨fun _ => HN1.out.1 trivial, fun _ => rfl⟩), HN2.out, HKA.out⟩
            case measure => simp [intOf]; omega
          | false =>
            go_wp2_with fail
            go_roundw
            case rel => exact ⟨t + 1, false, hlt, by go_num, rfl, (by first | exact HN1.out | exact ⟨fun _ => HN1.out.1 trivial, fun _ => rfl⟩), HN2.out, HKA.out⟩
            case measure => simp [intOf]; omega
    · obtain rfl : t = m := by omega
      have HFIN := Lib.hid (show b = r by
        have e : L.take t = L := List.take_of_length_le (by rw [← HLN.out]; exact Nat.le_refl _)
        have h1 := HB1.out; have h2 := HAL.out
        rw [e] at h1 h2
        rw [Bool.eq_iff_iff, HR.out, h1]
        exact ⟨fun k => ⟨k, h2⟩, fun k => k.1⟩)
      go_wp2_with fail
      go_ret
      exact ⟨ret_bool HFIN.out, HK.out.trans HKR.out⟩
set_option maxRecDepth 100000 in
set_option maxHeartbeats 16000000 in
theorem sbec_0 (A : Option Addr) (n c : Nat) (x : St) (f : Fd) (w : World) (hp : f.p.size ≤ 2000) (hxp : x.p.size ≤ 2000) (hnm : x.nm.size ≤ 2000) (g : Fd) (z : Bool) (q : x.k < 6 ∨ 10 < x.k) (hg : Fd.none = g) (hz : false = z) :
    Calls Tryz.prog 89 #[.agg #[.string f.p, .int .i64 f.k, .int .i64 f.t, .int .i64 f.vk, .int .i64 f.vn, .string f.vt], .agg (cellS A n c x).toArray] w fun e w' => e = .returned (.tuple #[.agg #[.string g.p, .int .i64 g.k, .int .i64 g.t, .int .i64 g.vk, .int .i64 g.vn, .string g.vt], .bool z]) ∧ Kept w w' := by
  have hk := ((((Kept.refl w).alloc #[.string f.p, .int .i64 f.k, .int .i64 f.t, .int .i64 f.vk, .int .i64 f.vn, .string f.vt] 28).alloc (cellS A n c x).toArray 33).alloc #[.string ⟨#[]⟩, .int .i64 0, .int .i64 0, .int .i64 0, .int .i64 0, .string ⟨#[]⟩] 28).alloc #[.string f.p, .int .i64 f.k, .int .i64 f.t, .int .i64 f.vk, .int .i64 f.vn, .string f.vt] 28
  have hf := (((FdB.new w f 28).kept ((Kept.refl _).alloc (cellS A n c x).toArray 33)).kept ((Kept.refl _).alloc #[.string ⟨#[]⟩, .int .i64 0, .int .i64 0, .int .i64 0, .int .i64 0, .string ⟨#[]⟩] 28)).kept ((Kept.refl _).alloc #[.string f.p, .int .i64 f.k, .int .i64 f.t, .int .i64 f.vk, .int .i64 f.vn, .string f.vt] 28)
  have hs := ((StB.new (w.alloc (.cells #[.string f.p, .int .i64 f.k, .int .i64 f.t, .int .i64 f.vk, .int .i64 f.vn, .string f.vt] 28)) A n c x 33).kept ((Kept.refl _).alloc #[.string ⟨#[]⟩, .int .i64 0, .int .i64 0, .int .i64 0, .int .i64 0, .string ⟨#[]⟩] 28)).kept ((Kept.refl _).alloc #[.string f.p, .int .i64 f.k, .int .i64 f.t, .int .i64 f.vk, .int .i64 f.vn, .string f.vt] 28)
  have hr := (FdB.new ((w.alloc (.cells #[.string f.p, .int .i64 f.k, .int .i64 f.t, .int .i64 f.vk, .int .i64 f.vn, .string f.vt] 28)).alloc (.cells (cellS A n c x).toArray 33)) .none 28).kept ((Kept.refl _).alloc #[.string f.p, .int .i64 f.k, .int .i64 f.t, .int .i64 f.vk, .int .i64 f.vn, .string f.vt] 28)
  have ho := FdB.new (((w.alloc (.cells #[.string f.p, .int .i64 f.k, .int .i64 f.t, .int .i64 f.vk, .int .i64 f.vn, .string f.vt] 28)).alloc (.cells (cellS A n c x).toArray 33)).alloc (.cells #[.string ⟨#[]⟩, .int .i64 0, .int .i64 0, .int .i64 0, .int .i64 0, .string ⟨#[]⟩] 28)) f 28
  have hf0 := ((FdB.new w f 28).kept ((Kept.refl _).alloc (cellS A n c x).toArray 33)).kept ((Kept.refl _).alloc #[.string ⟨#[]⟩, .int .i64 0, .int .i64 0, .int .i64 0, .int .i64 0, .string ⟨#[]⟩] 28)
  simp only [Fd.none] at hr
  rw [show (w.alloc (.cells #[.string f.p, .int .i64 f.k, .int .i64 f.t, .int .i64 f.vk, .int .i64 f.vn, .string f.vt] 28)).heap.size = w.heap.size + 1 by simp] at hs
  rw [show ((w.alloc (.cells #[.string f.p, .int .i64 f.k, .int .i64 f.t, .int .i64 f.vk, .int .i64 f.vn, .string f.vt] 28)).alloc (.cells (cellS A n c x).toArray 33)).heap.size = w.heap.size + 2 by simp] at hr
  rw [show (((w.alloc (.cells #[.string f.p, .int .i64 f.k, .int .i64 f.t, .int .i64 f.vk, .int .i64 f.vn, .string f.vt] 28)).alloc (.cells (cellS A n c x).toArray 33)).alloc (.cells #[.string ⟨#[]⟩, .int .i64 0, .int .i64 0, .int .i64 0, .int .i64 0, .string ⟨#[]⟩] 28)).heap.size = w.heap.size + 3 by simp] at ho
  obtain ⟨U, hU⟩ : ∃ U, ((w.alloc (.cells #[.string f.p, .int .i64 f.k, .int .i64 f.t, .int .i64 f.vk, .int .i64 f.vn, .string f.vt] 28)).alloc (.cells (cellS A n c x).toArray 33)).alloc (.cells #[.string ⟨#[]⟩, .int .i64 0, .int .i64 0, .int .i64 0, .int .i64 0, .string ⟨#[]⟩] 28) = U := ⟨_, rfl⟩
  rw [hU] at hk hf hs hr ho hf0
  have hz3 : w.heap.size + 3 = U.heap.size := by rw [← hU]; simp
  have HZ3 := Lib.hid hz3
  clear hz3
  obtain ⟨V, hV⟩ : ∃ V, U.alloc (.cells #[.string f.p, .int .i64 f.k, .int .i64 f.t, .int .i64 f.vk, .int .i64 f.vn, .string f.vt] 28) = V := ⟨_, rfl⟩
  rw [hV] at hk hf hs hr ho
  have HK := Lib.hid hk; have HF := Lib.hid hf; have HS := Lib.hid hs; have HRB := Lib.hid hr; have HO := Lib.hid ho; have HUU := Lib.hid hU; have HVV := Lib.hid hV
  have HPZ := Lib.hid hp; have HXZ := Lib.hid hxp; have HNZ := Lib.hid hnm
  have HG0 := Lib.hid hf0
  have n1 : w.heap.size ≠ w.heap.size + 1 := by omega
  have n2 : w.heap.size ≠ w.heap.size + 2 := by omega
  have n3 : w.heap.size ≠ w.heap.size + 3 := by omega
  have n4 : w.heap.size + 2 ≠ w.heap.size + 3 := by omega
  have N1 := Lib.hid n1; have N2 := Lib.hid n2; have N3 := Lib.hid n3; have N4 := Lib.hid n4
  clear hk hf hs hr ho hU hV hp hxp hnm n1 n2 n3 n4 hf0
  have c0 := HS.out.c0
  have g0 := HG0.out.c0; have g1 := HG0.out.c1; have g2 := HG0.out.c2; have g3 := HG0.out.c3; have g4 := HG0.out.c4; have g5 := HG0.out.c5
  have HGG := Lib.hid hg; have HZZ := Lib.hid hz
  have n61 : (x.k == 6) = false := by simp; omega
  have n62 : decide (x.k = 6) = false := decide_eq_false (by omega)
  have n71 : (x.k == 7) = false := by simp; omega
  have n72 : decide (x.k = 7) = false := decide_eq_false (by omega)
  have n81 : (x.k == 8) = false := by simp; omega
  have n82 : decide (x.k = 8) = false := decide_eq_false (by omega)
  have n91 : (x.k == 9) = false := by simp; omega
  have n92 : decide (x.k = 9) = false := decide_eq_false (by omega)
  have n101 : (x.k == 10) = false := by simp; omega
  have n102 : decide (x.k = 10) = false := decide_eq_false (by omega)
  clear q hg hz
  have HFIN := Lib.hid (show Ending.returned (.tuple #[.agg #[.string ⟨#[]⟩, .int .i64 0, .int .i64 0, .int .i64 0, .int .i64 0, .string ⟨#[]⟩], .bool false]) = Ending.returned (.tuple #[.agg #[.string g.p, .int .i64 g.k, .int .i64 g.t, .int .i64 g.vk, .int .i64 g.vn, .string g.vt], .bool z]) by rw [← HGG.out, ← HZZ.out]; rfl)
  have f0 := HF.out.c0; have f1 := HF.out.c1; have f2 := HF.out.c2; have f3 := HF.out.c3; have f4 := HF.out.c4; have f5 := HF.out.c5; have ff := HF.out.f
  have r0 := HRB.out.c0; have r1 := HRB.out.c1; have r2 := HRB.out.c2; have r3 := HRB.out.c3; have r4 := HRB.out.c4; have r5 := HRB.out.c5; have rf := HRB.out.f
  go_enter Tryz.func89, Tryz.ntmps89
  go_wp2_with (first | rw [HUU.out] | rw [HVV.out])
  refine bodyPost_ret (by simp [results, Tryz.results89, go_sem, *]) rfl ⟨HFIN.out, ?_⟩
  exact (((((((HK.out).setCell (a := ⟨w.heap.size + 2, 0, none⟩) (Nat.le_add_right _ 2) _).setCell (a := ⟨w.heap.size + 2, 1, none⟩) (Nat.le_add_right _ 2) _).setCell (a := ⟨w.heap.size + 2, 2, none⟩) (Nat.le_add_right _ 2) _).setCell (a := ⟨w.heap.size + 2, 3, none⟩) (Nat.le_add_right _ 2) _).setCell (a := ⟨w.heap.size + 2, 4, none⟩) (Nat.le_add_right _ 2) _).setCell (a := ⟨w.heap.size + 2, 5, none⟩) (Nat.le_add_right _ 2) _)
set_option maxRecDepth 100000 in
set_option maxHeartbeats 16000000 in
theorem sbec_6 (A : Option Addr) (n c : Nat) (x : St) (f : Fd) (w : World) (hp : f.p.size ≤ 2000) (hxp : x.p.size ≤ 2000) (hnm : x.nm.size ≤ 2000) (g : Fd) (z : Bool) (q : x.k = 6) (hg : f.withP (moveS x f.p) = g) (hz : z = true ↔ f.k = 1) :
    Calls Tryz.prog 89 #[.agg #[.string f.p, .int .i64 f.k, .int .i64 f.t, .int .i64 f.vk, .int .i64 f.vn, .string f.vt], .agg (cellS A n c x).toArray] w fun e w' => e = .returned (.tuple #[.agg #[.string g.p, .int .i64 g.k, .int .i64 g.t, .int .i64 g.vk, .int .i64 g.vn, .string g.vt], .bool z]) ∧ Kept w w' := by
  have hk := ((((Kept.refl w).alloc #[.string f.p, .int .i64 f.k, .int .i64 f.t, .int .i64 f.vk, .int .i64 f.vn, .string f.vt] 28).alloc (cellS A n c x).toArray 33).alloc #[.string ⟨#[]⟩, .int .i64 0, .int .i64 0, .int .i64 0, .int .i64 0, .string ⟨#[]⟩] 28).alloc #[.string f.p, .int .i64 f.k, .int .i64 f.t, .int .i64 f.vk, .int .i64 f.vn, .string f.vt] 28
  have hf := (((FdB.new w f 28).kept ((Kept.refl _).alloc (cellS A n c x).toArray 33)).kept ((Kept.refl _).alloc #[.string ⟨#[]⟩, .int .i64 0, .int .i64 0, .int .i64 0, .int .i64 0, .string ⟨#[]⟩] 28)).kept ((Kept.refl _).alloc #[.string f.p, .int .i64 f.k, .int .i64 f.t, .int .i64 f.vk, .int .i64 f.vn, .string f.vt] 28)
  have hs := ((StB.new (w.alloc (.cells #[.string f.p, .int .i64 f.k, .int .i64 f.t, .int .i64 f.vk, .int .i64 f.vn, .string f.vt] 28)) A n c x 33).kept ((Kept.refl _).alloc #[.string ⟨#[]⟩, .int .i64 0, .int .i64 0, .int .i64 0, .int .i64 0, .string ⟨#[]⟩] 28)).kept ((Kept.refl _).alloc #[.string f.p, .int .i64 f.k, .int .i64 f.t, .int .i64 f.vk, .int .i64 f.vn, .string f.vt] 28)
  have hr := (FdB.new ((w.alloc (.cells #[.string f.p, .int .i64 f.k, .int .i64 f.t, .int .i64 f.vk, .int .i64 f.vn, .string f.vt] 28)).alloc (.cells (cellS A n c x).toArray 33)) .none 28).kept ((Kept.refl _).alloc #[.string f.p, .int .i64 f.k, .int .i64 f.t, .int .i64 f.vk, .int .i64 f.vn, .string f.vt] 28)
  have ho := FdB.new (((w.alloc (.cells #[.string f.p, .int .i64 f.k, .int .i64 f.t, .int .i64 f.vk, .int .i64 f.vn, .string f.vt] 28)).alloc (.cells (cellS A n c x).toArray 33)).alloc (.cells #[.string ⟨#[]⟩, .int .i64 0, .int .i64 0, .int .i64 0, .int .i64 0, .string ⟨#[]⟩] 28)) f 28
  have hf0 := ((FdB.new w f 28).kept ((Kept.refl _).alloc (cellS A n c x).toArray 33)).kept ((Kept.refl _).alloc #[.string ⟨#[]⟩, .int .i64 0, .int .i64 0, .int .i64 0, .int .i64 0, .string ⟨#[]⟩] 28)
  simp only [Fd.none] at hr
  rw [show (w.alloc (.cells #[.string f.p, .int .i64 f.k, .int .i64 f.t, .int .i64 f.vk, .int .i64 f.vn, .string f.vt] 28)).heap.size = w.heap.size + 1 by simp] at hs
  rw [show ((w.alloc (.cells #[.string f.p, .int .i64 f.k, .int .i64 f.t, .int .i64 f.vk, .int .i64 f.vn, .string f.vt] 28)).alloc (.cells (cellS A n c x).toArray 33)).heap.size = w.heap.size + 2 by simp] at hr
  rw [show (((w.alloc (.cells #[.string f.p, .int .i64 f.k, .int .i64 f.t, .int .i64 f.vk, .int .i64 f.vn, .string f.vt] 28)).alloc (.cells (cellS A n c x).toArray 33)).alloc (.cells #[.string ⟨#[]⟩, .int .i64 0, .int .i64 0, .int .i64 0, .int .i64 0, .string ⟨#[]⟩] 28)).heap.size = w.heap.size + 3 by simp] at ho
  obtain ⟨U, hU⟩ : ∃ U, ((w.alloc (.cells #[.string f.p, .int .i64 f.k, .int .i64 f.t, .int .i64 f.vk, .int .i64 f.vn, .string f.vt] 28)).alloc (.cells (cellS A n c x).toArray 33)).alloc (.cells #[.string ⟨#[]⟩, .int .i64 0, .int .i64 0, .int .i64 0, .int .i64 0, .string ⟨#[]⟩] 28) = U := ⟨_, rfl⟩
  rw [hU] at hk hf hs hr ho hf0
  have hz3 : w.heap.size + 3 = U.heap.size := by rw [← hU]; simp
  have HZ3 := Lib.hid hz3
  clear hz3
  obtain ⟨V, hV⟩ : ∃ V, U.alloc (.cells #[.string f.p, .int .i64 f.k, .int .i64 f.t, .int .i64 f.vk, .int .i64 f.vn, .string f.vt] 28) = V := ⟨_, rfl⟩
  rw [hV] at hk hf hs hr ho
  have HK := Lib.hid hk; have HF := Lib.hid hf; have HS := Lib.hid hs; have HRB := Lib.hid hr; have HO := Lib.hid ho; have HUU := Lib.hid hU; have HVV := Lib.hid hV
  have HPZ := Lib.hid hp; have HXZ := Lib.hid hxp; have HNZ := Lib.hid hnm
  have HG0 := Lib.hid hf0
  have n1 : w.heap.size ≠ w.heap.size + 1 := by omega
  have n2 : w.heap.size ≠ w.heap.size + 2 := by omega
  have n3 : w.heap.size ≠ w.heap.size + 3 := by omega
  have n4 : w.heap.size + 2 ≠ w.heap.size + 3 := by omega
  have N1 := Lib.hid n1; have N2 := Lib.hid n2; have N3 := Lib.hid n3; have N4 := Lib.hid n4
  clear hk hf hs hr ho hU hV hp hxp hnm n1 n2 n3 n4 hf0
  have c0 := HS.out.c0
  have g0 := HG0.out.c0; have g1 := HG0.out.c1; have g2 := HG0.out.c2; have g3 := HG0.out.c3; have g4 := HG0.out.c4; have g5 := HG0.out.c5
  obtain ⟨p2, hp2⟩ : ∃ p, moveS x f.p = p := ⟨_, rfl⟩
  have HGG := Lib.hid (show f.withP p2 = g by rw [← hp2]; exact hg)
  have HZL := Lib.hid hz
  have A2 := Lib.hid (fun w => smove_any f.p A n c x w HPZ.out HXZ.out HNZ.out p2 hp2)
  have e61 : (x.k == 6) = true := by rw [q]; rfl
  have e62 : decide (x.k = 6) = true := decide_eq_true q
  clear q hp2 hg hz
  have f0 := HF.out.c0; have f1 := HF.out.c1; have f2 := HF.out.c2; have f3 := HF.out.c3; have f4 := HF.out.c4; have f5 := HF.out.c5; have ff := HF.out.f
  go_enter Tryz.func89, Tryz.ntmps89
  go_wp2_with (first | rw [HUU.out] | rw [HVV.out] | (refine wpList_load_mid rfl 33 _ rfl (w.heap.size + 1) 0 rfl _ _ HS.out.r Tryz.underlying33 rfl (step_size A n c x) ?_))
  rw [← HZ3.out]
  clear f0 f1 f2 f3 f4 f5 ff
  clear g0 g1 g2 g3 g4 g5
  go_at_call 12
  refine (A2.out _).mono ?_
  rintro e u2 ⟨rfl, hk⟩
  replace HK := Lib.hid (HK.out.trans hk); replace HF := Lib.hid (HF.out.kept hk); replace HS := Lib.hid (HS.out.kept hk); replace HRB := Lib.hid (HRB.out.kept hk); replace HO := Lib.hid (HO.out.kept hk)
  clear hk c0
  have f0 := HF.out.c0; have f1 := HF.out.c1; have f2 := HF.out.c2; have f3 := HF.out.c3; have f4 := HF.out.c4; have f5 := HF.out.c5; have ff := HF.out.f
  replace HF := Lib.hid (HF.out.setP p2)
  replace HS := Lib.hid ((HS.out).far (i := 0) N1.out (.string p2))
  replace HRB := Lib.hid ((HRB.out).far (i := 0) N2.out (.string p2))
  replace HO := Lib.hid ((HO.out).far (i := 0) N3.out (.string p2))
  replace HK := Lib.hid ((HK.out).setCell (a := ⟨w.heap.size, 0, none⟩) (Nat.le_refl _) (.string p2))
  obtain ⟨u3, hu3⟩ : ∃ u, (World.setCell u2 ⟨w.heap.size, 0, none⟩ (.string p2)) = u := ⟨_, rfl⟩
  rw [hu3] at HF HS HRB HO HK
  have HU3 := Lib.hid hu3
  clear hu3
  by_cases q1 : f.k = 1
  · have HZZ := Lib.hid (show true = z from (HZL.out.2 q1).symm)
    have HFIN := Lib.hid (show Ending.returned (.tuple #[.agg #[.string p2, .int .i64 f.k, .int .i64 f.t, .int .i64 f.vk, .int .i64 f.vn, .string f.vt], .bool true]) = Ending.returned (.tuple #[.agg #[.string g.p, .int .i64 g.k, .int .i64 g.t, .int .i64 g.vk, .int .i64 g.vn, .string g.vt], .bool z]) by rw [← HGG.out, ← HZZ.out]; rfl)
    have q11 : (f.k == 1) = true := by rw [q1]; simp
    have q12 : (f.k != 1) = false := by rw [q1]; simp
    have q13 : decide (f.k = 1) = true := decide_eq_true q1
    clear q1
    go_wp2_with (rw [HU3.out])
    clear f0 f1 f2 f3 f4 f5 ff
    have hn2 := N2.out
    have hn4 := N4.out.symm
    have E0 := KExtE.cell (b := w.heap.size + 2) hn2 HF.out.c0
    have E1 := KExtE.cell (b := w.heap.size + 2) hn2 HF.out.c1
    have E2 := KExtE.cell (b := w.heap.size + 2) hn2 HF.out.c2
    have E3 := KExtE.cell (b := w.heap.size + 2) hn2 HF.out.c3
    have E4 := KExtE.cell (b := w.heap.size + 2) hn2 HF.out.c4
    have E5 := KExtE.cell (b := w.heap.size + 2) hn2 HF.out.c5
    have O0 := KExtE.cell (b := w.heap.size + 2) hn4 HO.out.c0
    have O1 := KExtE.cell (b := w.heap.size + 2) hn4 HO.out.c1
    have O2 := KExtE.cell (b := w.heap.size + 2) hn4 HO.out.c2
    have O3 := KExtE.cell (b := w.heap.size + 2) hn4 HO.out.c3
    have O4 := KExtE.cell (b := w.heap.size + 2) hn4 HO.out.c4
    have O5 := KExtE.cell (b := w.heap.size + 2) hn4 HO.out.c5
    simp only [Fd.withP] at E0 E1 E2 E3 E4 E5
    clear hn2 hn4
    refine region_planE (w.heap.size + 2) u3 6 (.read [0, 1, 2, 3] (.one 4 (.read [5] .stop))) (by kernel_rfl) (by kernel_rfl) (by kernel_rfl) (by kernel_rfl) (by kernel_rfl) (fun _ d _ _ _ h => by cases d <;> exact h) (Kept.refl _) ?_
    intro wd hwd
    have HV := Lib.hid hwd
    clear hwd
    rw [wpPlan_read]
    simp only [pA, pB, pC, pD, pE]
    repeat (go_big_quiet_step (fail))
    refine wpQuiet_nil ?_
    clear E0 E1 E2 E3 E4 E5 O0 O1 O2 O3 O4 O5
    replace HRB := Lib.hid (HRB.out.kept HV.out)
    have r0 := HRB.out.c0; have r1 := HRB.out.c1; have r2 := HRB.out.c2; have r3 := HRB.out.c3; have r4 := HRB.out.c4; have r5 := HRB.out.c5; have rf := HRB.out.f
    rw [wpPlan_one]
    simp only [pA, pB, pC, pD, pE]
    go_wp2_with fail
    clear r0 r1 r2 r3 r4 r5 rf
    have HE := Lib.hid (((((((KeptE.of (G := w.heap.size + 2) HV.out).set (a := ⟨w.heap.size + 2, 0, none⟩) (.inl rfl) (.string p2)).set (a := ⟨w.heap.size + 2, 1, none⟩) (.inl rfl) (.int .i64 f.k)).set (a := ⟨w.heap.size + 2, 2, none⟩) (.inl rfl) (.int .i64 f.t)).set (a := ⟨w.heap.size + 2, 3, none⟩) (.inl rfl) (.int .i64 f.vk)).set (a := ⟨w.heap.size + 2, 4, none⟩) (.inl rfl) (.int .i64 f.vn)).set (a := ⟨w.heap.size + 2, 5, none⟩) (.inl rfl) (.string f.vt))
    have HKF := Lib.hid (((((((HK.out.trans HV.out).setCell (a := ⟨w.heap.size + 2, 0, none⟩) (Nat.le_add_right _ 2) (.string p2)).setCell (a := ⟨w.heap.size + 2, 1, none⟩) (Nat.le_add_right _ 2) (.int .i64 f.k)).setCell (a := ⟨w.heap.size + 2, 2, none⟩) (Nat.le_add_right _ 2) (.int .i64 f.t)).setCell (a := ⟨w.heap.size + 2, 3, none⟩) (Nat.le_add_right _ 2) (.int .i64 f.vk)).setCell (a := ⟨w.heap.size + 2, 4, none⟩) (Nat.le_add_right _ 2) (.int .i64 f.vn)).setCell (a := ⟨w.heap.size + 2, 5, none⟩) (Nat.le_add_right _ 2) (.string f.vt))
    have HRF := Lib.hid (HRB.out.setAll ⟨p2, f.k, f.t, f.vk, f.vn, f.vt⟩)
    obtain ⟨w9, hw9⟩ : ∃ u, (World.setCell (World.setCell (World.setCell (World.setCell (World.setCell (World.setCell wd ⟨w.heap.size + 2, 0, none⟩ (.string p2)) ⟨w.heap.size + 2, 1, none⟩ (.int .i64 f.k)) ⟨w.heap.size + 2, 2, none⟩ (.int .i64 f.t)) ⟨w.heap.size + 2, 3, none⟩ (.int .i64 f.vk)) ⟨w.heap.size + 2, 4, none⟩ (.int .i64 f.vn)) ⟨w.heap.size + 2, 5, none⟩ (.string f.vt)) = u := ⟨_, rfl⟩
    simp only at HRF
    rw [hw9] at HE HKF HRF ⊢
    clear hw9
    refine soloE HE.out ?_
    rw [wpPlan_read]
    simp only [pA, pB, pC, pD, pE]
    repeat (go_big_quiet_step (fail))
    refine wpQuiet_nil ?_
    refine wpPlan_stop ?_
    have r0 := HRF.out.c0; have r1 := HRF.out.c1; have r2 := HRF.out.c2; have r3 := HRF.out.c3; have r4 := HRF.out.c4; have r5 := HRF.out.c5
    go_wp2_with fail
    exact bodyPost_ret (by simp [results, Tryz.results89, go_sem, *]) rfl ⟨HFIN.out, HKF.out⟩
  · have HZZ := Lib.hid (show false = z by rw [eq_comm, ← Bool.not_eq_true, HZL.out]; exact q1)
    have HFIN := Lib.hid (show Ending.returned (.tuple #[.agg #[.string p2, .int .i64 f.k, .int .i64 f.t, .int .i64 f.vk, .int .i64 f.vn, .string f.vt], .bool false]) = Ending.returned (.tuple #[.agg #[.string g.p, .int .i64 g.k, .int .i64 g.t, .int .i64 g.vk, .int .i64 g.vn, .string g.vt], .bool z]) by rw [← HGG.out, ← HZZ.out]; rfl)
    have q11 : (f.k == 1) = false := by simpa using q1
    have q12 : (f.k != 1) = true := by simpa using q1
    have q13 : decide (f.k = 1) = false := decide_eq_false q1
    clear q1
    go_wp2_with (rw [HU3.out])
    clear f0 f1 f2 f3 f4 f5 ff
    have hn2 := N2.out
    have hn4 := N4.out.symm
    have E0 := KExtE.cell (b := w.heap.size + 2) hn2 HF.out.c0
    have E1 := KExtE.cell (b := w.heap.size + 2) hn2 HF.out.c1
    have E2 := KExtE.cell (b := w.heap.size + 2) hn2 HF.out.c2
    have E3 := KExtE.cell (b := w.heap.size + 2) hn2 HF.out.c3
    have E4 := KExtE.cell (b := w.heap.size + 2) hn2 HF.out.c4
    have E5 := KExtE.cell (b := w.heap.size + 2) hn2 HF.out.c5
    have O0 := KExtE.cell (b := w.heap.size + 2) hn4 HO.out.c0
    have O1 := KExtE.cell (b := w.heap.size + 2) hn4 HO.out.c1
    have O2 := KExtE.cell (b := w.heap.size + 2) hn4 HO.out.c2
    have O3 := KExtE.cell (b := w.heap.size + 2) hn4 HO.out.c3
    have O4 := KExtE.cell (b := w.heap.size + 2) hn4 HO.out.c4
    have O5 := KExtE.cell (b := w.heap.size + 2) hn4 HO.out.c5
    simp only [Fd.withP] at E0 E1 E2 E3 E4 E5
    clear hn2 hn4
    refine region_planE (w.heap.size + 2) u3 6 (.read [0, 1, 2, 3] (.one 4 (.read [5] .stop))) (by kernel_rfl) (by kernel_rfl) (by kernel_rfl) (by kernel_rfl) (by kernel_rfl) (fun _ d _ _ _ h => by cases d <;> exact h) (Kept.refl _) ?_
    intro wd hwd
    have HV := Lib.hid hwd
    clear hwd
    rw [wpPlan_read]
    simp only [pA, pB, pC, pD, pE]
    repeat (go_big_quiet_step (fail))
    refine wpQuiet_nil ?_
    clear E0 E1 E2 E3 E4 E5 O0 O1 O2 O3 O4 O5
    replace HRB := Lib.hid (HRB.out.kept HV.out)
    have r0 := HRB.out.c0; have r1 := HRB.out.c1; have r2 := HRB.out.c2; have r3 := HRB.out.c3; have r4 := HRB.out.c4; have r5 := HRB.out.c5; have rf := HRB.out.f
    rw [wpPlan_one]
    simp only [pA, pB, pC, pD, pE]
    go_wp2_with fail
    clear r0 r1 r2 r3 r4 r5 rf
    have HE := Lib.hid (((((((KeptE.of (G := w.heap.size + 2) HV.out).set (a := ⟨w.heap.size + 2, 0, none⟩) (.inl rfl) (.string p2)).set (a := ⟨w.heap.size + 2, 1, none⟩) (.inl rfl) (.int .i64 f.k)).set (a := ⟨w.heap.size + 2, 2, none⟩) (.inl rfl) (.int .i64 f.t)).set (a := ⟨w.heap.size + 2, 3, none⟩) (.inl rfl) (.int .i64 f.vk)).set (a := ⟨w.heap.size + 2, 4, none⟩) (.inl rfl) (.int .i64 f.vn)).set (a := ⟨w.heap.size + 2, 5, none⟩) (.inl rfl) (.string f.vt))
    have HKF := Lib.hid (((((((HK.out.trans HV.out).setCell (a := ⟨w.heap.size + 2, 0, none⟩) (Nat.le_add_right _ 2) (.string p2)).setCell (a := ⟨w.heap.size + 2, 1, none⟩) (Nat.le_add_right _ 2) (.int .i64 f.k)).setCell (a := ⟨w.heap.size + 2, 2, none⟩) (Nat.le_add_right _ 2) (.int .i64 f.t)).setCell (a := ⟨w.heap.size + 2, 3, none⟩) (Nat.le_add_right _ 2) (.int .i64 f.vk)).setCell (a := ⟨w.heap.size + 2, 4, none⟩) (Nat.le_add_right _ 2) (.int .i64 f.vn)).setCell (a := ⟨w.heap.size + 2, 5, none⟩) (Nat.le_add_right _ 2) (.string f.vt))
    have HRF := Lib.hid (HRB.out.setAll ⟨p2, f.k, f.t, f.vk, f.vn, f.vt⟩)
    obtain ⟨w9, hw9⟩ : ∃ u, (World.setCell (World.setCell (World.setCell (World.setCell (World.setCell (World.setCell wd ⟨w.heap.size + 2, 0, none⟩ (.string p2)) ⟨w.heap.size + 2, 1, none⟩ (.int .i64 f.k)) ⟨w.heap.size + 2, 2, none⟩ (.int .i64 f.t)) ⟨w.heap.size + 2, 3, none⟩ (.int .i64 f.vk)) ⟨w.heap.size + 2, 4, none⟩ (.int .i64 f.vn)) ⟨w.heap.size + 2, 5, none⟩ (.string f.vt)) = u := ⟨_, rfl⟩
    simp only at HRF
    rw [hw9] at HE HKF HRF ⊢
    clear hw9
    refine soloE HE.out ?_
    rw [wpPlan_read]
    simp only [pA, pB, pC, pD, pE]
    repeat (go_big_quiet_step (fail))
    refine wpQuiet_nil ?_
    refine wpPlan_stop ?_
    have r0 := HRF.out.c0; have r1 := HRF.out.c1; have r2 := HRF.out.c2; have r3 := HRF.out.c3; have r4 := HRF.out.c4; have r5 := HRF.out.c5
    go_wp2_with fail
    exact bodyPost_ret (by simp [results, Tryz.results89, go_sem, *]) rfl ⟨HFIN.out, HKF.out⟩
end Go.Proofs.YtofnpifooaijcaaGreat
