/-
  What is proved: slices.Equal at entries, as the library's text has it, and Same of package store (P8.7), called with any slices of entries, or states, that lie in memory: whether they are the same; the world has new blocks at most.
  path.Begins and path.Match and the document's, called with any two texts of up to 2^40 bytes, return what P4.6 and P4.7 say; the world has new blocks at most.
  At of package store (P8.8), called with any state and any pattern, of bounded texts, returns the entries whose path begins with the pattern; the world has new blocks at most.
-/
import Derived.Test.YtoggcpfogeoeaaaGreatDoorM20
import Derived.Test.YtoggcpfogeoeaaaGreatDoorM21
import Derived.Test.YtoggcpfogeoeaaaGreatDoorM18
import Derived.Deep.QuietTactic
import Derived.BigQuiet
namespace Go.Proofs.YtoggcpfogeoeaaaGreatDoor
open Go.RowKit
set_option linter.unusedVariables false

theorem en_eq {x y : En} (h : x = y) : (x.d.1 == y.d.1) = true ∧ (x.d.2 == y.d.2) = true ∧ (x.p.toList == y.p.toList) = true ∧ (x.k == y.k) = true ∧ (x.vk == y.vk) = true ∧ (x.vn == y.vn) = true ∧ (x.vt.toList == y.vt.toList) = true ∧ (x.e.1 == y.e.1) = true ∧ (x.e.2 == y.e.2) = true := by subst h; simp
theorem tl_eq {a b : ByteArray} (h : (a.toList == b.toList) = true) : a = b := by
  rw [beq_iff_eq, Lib.toList_data, Lib.toList_data] at h
  exact ba_ext h
theorem en_of {x y : En} (h : (x.d.1 == y.d.1) = true ∧ (x.d.2 == y.d.2) = true ∧ (x.p.toList == y.p.toList) = true ∧ (x.k == y.k) = true ∧ (x.vk == y.vk) = true ∧ (x.vn == y.vn) = true ∧ (x.vt.toList == y.vt.toList) = true ∧ (x.e.1 == y.e.1) = true ∧ (x.e.2 == y.e.2) = true) : x = y := by
  obtain ⟨h0, h1, h2, h3, h4, h5, h6, h7, h8⟩ := h
  obtain ⟨⟨x0, x1⟩, x2, x3, x4, x5, x6, ⟨x7, x8⟩⟩ := x
  obtain ⟨⟨y0, y1⟩, y2, y3, y4, y5, y6, ⟨y7, y8⟩⟩ := y
  have e2 := tl_eq h2
  have e6 := tl_eq h6
  simp only [beq_iff_eq] at h0 h1 h3 h4 h5 h7 h8 e2 e6
  subst h0 h1 h3 h4 h5 h7 h8 e2 e6
  rfl
theorem en_ne {x y : En} (h : ¬ x = y) : ((x.d.1 == y.d.1) = false) ∨ ((x.d.1 == y.d.1) = true ∧ (x.d.2 == y.d.2) = false) ∨ ((x.d.1 == y.d.1) = true ∧ (x.d.2 == y.d.2) = true ∧ (x.p.toList == y.p.toList) = false) ∨ ((x.d.1 == y.d.1) = true ∧ (x.d.2 == y.d.2) = true ∧ (x.p.toList == y.p.toList) = true ∧ (x.k == y.k) = false) ∨ ((x.d.1 == y.d.1) = true ∧ (x.d.2 == y.d.2) = true ∧ (x.p.toList == y.p.toList) = true ∧ (x.k == y.k) = true ∧ (x.vk == y.vk) = false) ∨ ((x.d.1 == y.d.1) = true ∧ (x.d.2 == y.d.2) = true ∧ (x.p.toList == y.p.toList) = true ∧ (x.k == y.k) = true ∧ (x.vk == y.vk) = true ∧ (x.vn == y.vn) = false) ∨ ((x.d.1 == y.d.1) = true ∧ (x.d.2 == y.d.2) = true ∧ (x.p.toList == y.p.toList) = true ∧ (x.k == y.k) = true ∧ (x.vk == y.vk) = true ∧ (x.vn == y.vn) = true ∧ (x.vt.toList == y.vt.toList) = false) ∨ ((x.d.1 == y.d.1) = true ∧ (x.d.2 == y.d.2) = true ∧ (x.p.toList == y.p.toList) = true ∧ (x.k == y.k) = true ∧ (x.vk == y.vk) = true ∧ (x.vn == y.vn) = true ∧ (x.vt.toList == y.vt.toList) = true ∧ (x.e.1 == y.e.1) = false) ∨ ((x.d.1 == y.d.1) = true ∧ (x.d.2 == y.d.2) = true ∧ (x.p.toList == y.p.toList) = true ∧ (x.k == y.k) = true ∧ (x.vk == y.vk) = true ∧ (x.vn == y.vn) = true ∧ (x.vt.toList == y.vt.toList) = true ∧ (x.e.1 == y.e.1) = true ∧ (x.e.2 == y.e.2) = false) := by
  by_cases h0 : (x.d.1 == y.d.1) = true
  case neg => exact (.inl (by rw [← Bool.not_eq_true]; exact h0))
  by_cases h1 : (x.d.2 == y.d.2) = true
  case neg => exact .inr ((.inl ⟨h0, by rw [← Bool.not_eq_true]; exact h1⟩))
  by_cases h2 : (x.p.toList == y.p.toList) = true
  case neg => exact .inr (.inr ((.inl ⟨h0, h1, by rw [← Bool.not_eq_true]; exact h2⟩)))
  by_cases h3 : (x.k == y.k) = true
  case neg => exact .inr (.inr (.inr ((.inl ⟨h0, h1, h2, by rw [← Bool.not_eq_true]; exact h3⟩))))
  by_cases h4 : (x.vk == y.vk) = true
  case neg => exact .inr (.inr (.inr (.inr ((.inl ⟨h0, h1, h2, h3, by rw [← Bool.not_eq_true]; exact h4⟩)))))
  by_cases h5 : (x.vn == y.vn) = true
  case neg => exact .inr (.inr (.inr (.inr (.inr ((.inl ⟨h0, h1, h2, h3, h4, by rw [← Bool.not_eq_true]; exact h5⟩))))))
  by_cases h6 : (x.vt.toList == y.vt.toList) = true
  case neg => exact .inr (.inr (.inr (.inr (.inr (.inr ((.inl ⟨h0, h1, h2, h3, h4, h5, by rw [← Bool.not_eq_true]; exact h6⟩)))))))
  by_cases h7 : (x.e.1 == y.e.1) = true
  case neg => exact .inr (.inr (.inr (.inr (.inr (.inr (.inr ((.inl ⟨h0, h1, h2, h3, h4, h5, h6, by rw [← Bool.not_eq_true]; exact h7⟩))))))))
  exact .inr (.inr (.inr (.inr (.inr (.inr (.inr (.inr (⟨h0, h1, h2, h3, h4, h5, h6, h7, by rw [← Bool.not_eq_true]; exact fun h8 => h (en_of ⟨h0, h1, h2, h3, h4, h5, h6, h7, h8⟩)⟩))))))))

set_option maxRecDepth 100000 in
set_option maxHeartbeats 8000000 in
theorem equalE_any (A : Option Addr) (n c : Nat) (V : List En) (A' : Option Addr) (n' c' : Nat) (V' : List En) (w : World) (h : El w A n c V) (h' : El w A' n' c' V') (r : Bool) (hr : r = true ↔ V = V') :
    Calls Tryz.prog 42 #[.slice A n c, .slice A' n' c'] w fun e w' => e = .returned (.bool r) ∧ Kept w w' := by
  have hcap := h.cap.1; have hcap2 := h.cap.2; have hcap' := h'.cap.1; have hcap2' := h'.cap.2
  have HN := Lib.hid h.1; have HN' := Lib.hid h'.1
  have HI := Lib.hid h; have HI' := Lib.hid h'
  have HR := Lib.hid hr
  clear h h' hr
  by_cases hn : n = n'
  · subst hn
    go_enter Tryz.func42, Tryz.ntmps42
    go_wp2_with fail
    go_loopw [13] (fun i wr => ∃ j : Nat, j ≤ n ∧ i = .int .i64 j ∧ Kept w wr ∧ ∀ i, i < j → V[i]? = V'[i]?) (fun i _ => n - (intOf i).toNat)
    case atStart => exact ⟨0, Nat.zero_le _, rfl, Kept.refl _, fun i hi => absurd hi (by omega)⟩
    case round =>
      obtain ⟨j, hj, rfl, hkr, hall⟩ := hrel
      have HR2 := Lib.hid hkr
      have HA := Lib.hid hall
      clear hkr hall
      by_cases hlt : j < n
      · obtain ⟨g, o, y, rfl, hy, EY⟩ := (HI.out.kept HR2.out).get hlt
        obtain ⟨g', o', x, rfl, hx, EX⟩ := (HI'.out.kept HR2.out).get hlt
        have y0 := KExt.cell EY.c0; have y1 := KExt.cell EY.c1; have y2 := KExt.cell EY.c2; have y3 := KExt.cell EY.c3; have y4 := KExt.cell EY.c4; have y5 := KExt.cell EY.c5; have y6 := KExt.cell EY.c6; have y7 := KExt.cell EY.c7; have y8 := KExt.cell EY.c8
        have x0 := KExt.cell EX.c0; have x1 := KExt.cell EX.c1; have x2 := KExt.cell EX.c2; have x3 := KExt.cell EX.c3; have x4 := KExt.cell EX.c4; have x5 := KExt.cell EX.c5; have x6 := KExt.cell EX.c6; have x7 := KExt.cell EX.c7; have x8 := KExt.cell EX.c8
        have HY := Lib.hid hy
        have HX := Lib.hid hx
        clear hy hx EY EX
        by_cases hyy : y = x
        · have HN2 := Lib.hid (show ∀ i, i < j + 1 → V[i]? = V'[i]? from fun i hi => by
            rcases Nat.lt_or_ge i j with h | h
            · exact HA.out i h
            · obtain rfl : i = j := by omega
              rw [HY.out, HX.out, hyy])
          obtain ⟨d0, d1, d2, d3, d4, d5, d6, d7, d8⟩ := en_eq hyy
          clear hyy
          go_wp2_with fail
          refine region_kept _ (by kernel_rfl) (by kernel_rfl) (Kept.refl _) ?_
          repeat (go_big_quiet_step (fail))
          refine wpQuiet_nil ?_
          intro G
          clear y0 y1 y2 y3 y4 y5 y6 y7 y8 x0 x1 x2 x3 x4 x5 x6 x7 x8
          go_wp2_with fail
          go_roundw
          case rel => exact ⟨j + 1, hlt, by go_num, HR2.out.trans G.g, HN2.out⟩
          case measure => simp [intOf]; omega
        · have HF := Lib.hid (show false = r by
            rw [eq_comm, ← Bool.not_eq_true, HR.out]
            rintro rfl
            exact hyy (Option.some.inj (HY.out.symm.trans HX.out)))
          rcases en_ne hyy with d0 | ⟨d0, d1⟩ | ⟨d0, d1, d2⟩ | ⟨d0, d1, d2, d3⟩ | ⟨d0, d1, d2, d3, d4⟩ | ⟨d0, d1, d2, d3, d4, d5⟩ | ⟨d0, d1, d2, d3, d4, d5, d6⟩ | ⟨d0, d1, d2, d3, d4, d5, d6, d7⟩ | ⟨d0, d1, d2, d3, d4, d5, d6, d7, d8⟩
          all_goals
            clear hyy
            go_wp2_with fail
            refine region_kept _ (by kernel_rfl) (by kernel_rfl) (Kept.refl _) ?_
            repeat (go_big_quiet_step (fail))
            refine wpQuiet_nil ?_
            intro G
            clear y0 y1 y2 y3 y4 y5 y6 y7 y8 x0 x1 x2 x3 x4 x5 x6 x7 x8
            go_wp2_with fail
            go_ret
            exact ⟨ret_bool HF.out, HR2.out.trans G.g⟩
      · obtain rfl : j = n := by omega
        have HF := Lib.hid (show true = r by
          rw [eq_comm, HR.out]
          refine List.ext_getElem? fun i => ?_
          rcases Nat.lt_or_ge i j with h | h
          · exact HA.out i h
          · rw [List.getElem?_eq_none (by have := HN.out; omega), List.getElem?_eq_none (by have := HN'.out; omega)])
        go_wp2_with fail
        go_ret
        exact ⟨ret_bool HF.out, HR2.out⟩
  · have d1 : ((n : Int) != n') = true := by simp; omega
    have HF := Lib.hid (show false = r by
      rw [eq_comm, ← Bool.not_eq_true, HR.out]
      rintro rfl
      exact hn (HN.out.trans HN'.out.symm))
    clear hn
    go_enter Tryz.func42, Tryz.ntmps42
    go_wp2_with fail
    go_ret
    exact ⟨ret_bool HF.out, Kept.refl _⟩

set_option maxRecDepth 100000 in
set_option maxHeartbeats 4000000 in
theorem ssame_any (A : Option Addr) (n c : Nat) (L : List En) (B : Option Addr) (m k : Nat) (V : List Int) (D : Option Addr) (p q : Nat) (C : List (Int × Int)) (A' : Option Addr) (n' c' : Nat) (L' : List En) (B' : Option Addr) (m' k' : Nat) (V' : List Int) (D' : Option Addr) (p' q' : Nat) (C' : List (Int × Int)) (w : World)
    (h : El w A n c L) (hi : Il w B m k V) (hd : Dl w D p q C) (h' : El w A' n' c' L') (hi' : Il w B' m' k' V') (hd' : Dl w D' p' q' C') (r : Bool) (hr : r = true ↔ L = L' ∧ V = V' ∧ C = C') :
    Calls Tryz.prog 15 #[.agg #[.slice A n c, .slice B m k, .slice D p q], .agg #[.slice A' n' c', .slice B' m' k', .slice D' p' q']] w fun e w' => e = .returned (.bool r) ∧ Kept w w' := by
  have hK := ((Kept.refl w).alloc #[.slice A n c, .slice B m k, .slice D p q] 29).alloc #[.slice A' n' c', .slice B' m' k', .slice D' p' q'] 29
  obtain ⟨u, hu⟩ : ∃ u : Bool, u = true ↔ L = L' := by
    by_cases e : L = L'
    · exact ⟨true, fun _ => e, fun _ => rfl⟩
    · exact ⟨false, (fun h => by cases h), fun h => absurd h e⟩
  obtain ⟨z, hz⟩ : ∃ z, decide (V = V' ∧ C = C') = z := ⟨_, rfl⟩
  have AI := Lib.hid (equalE_any A n c L A' n' c' L' _ (h.kept hK) (h'.kept hK) u hu)
  have HI := Lib.hid (hi.kept hK); have HD := Lib.hid (hd.kept hK)
  have HI' := Lib.hid (hi'.kept hK); have HD' := Lib.hid (hd'.kept hK)
  have HK := Lib.hid hK
  have HZ := Lib.hid hz
  have hrr : r = (u && z) := by rw [← hz, Bool.eq_iff_iff, hr, Bool.and_eq_true, hu, decide_eq_true_iff]
  have b0 := (Box3.new w (.slice A n c) (.slice B m k) (.slice D p q) 29).kept ((Kept.refl _).alloc #[.slice A' n' c', .slice B' m' k', .slice D' p' q'] 29)
  have b1 := Box3.new (w.alloc (.cells #[.slice A n c, .slice B m k, .slice D p q] 29)) (.slice A' n' c') (.slice B' m' k') (.slice D' p' q') 29
  rw [show (w.alloc (.cells #[.slice A n c, .slice B m k, .slice D p q] 29)).heap.size = w.heap.size + 1 by simp] at b1
  have HB0 := Lib.hid b0; have HB1 := Lib.hid b1
  clear h hi hd h' hi' hd' hK hz hu hr b0 b1
  cases u with
  | false =>
    have HR := Lib.hid (show false = r by rw [hrr]; rfl)
    clear hrr
    go_enter Tryz.func15, Tryz.ntmps15
    go_wp2_with fail
    go_at_call 42
    refine AI.out.mono ?_
    rintro e w1 ⟨rfl, hk1⟩
    go_wp2_with fail
    go_ret
    exact ⟨ret_bool HR.out, HK.out.trans hk1⟩
  | true =>
    have HR := Lib.hid (show z = r by rw [hrr]; rfl)
    clear hrr
    go_enter Tryz.func15, Tryz.ntmps15
    go_wp2_with fail
    go_at_call 42
    refine AI.out.mono ?_
    rintro e w1 ⟨rfl, hk1⟩
    have b0 := HB0.out.kept hk1
    have b1 := HB1.out.kept hk1
    have e0 := b0.c0; have e1 := b0.c1; have e2 := b0.c2; have f0 := b1.c0; have f1 := b1.c1; have f2 := b1.c2
    have AD := Lib.hid (gsame_any B m k V D p q C B' m' k' V' D' p' q' C' _ (HI.out.kept hk1) (HD.out.kept hk1) (HI'.out.kept hk1) (HD'.out.kept hk1) z HZ.out)
    clear b0 b1
    go_wp2_with fail
    go_at_call 43
    refine AD.out.mono ?_
    rintro e w2 ⟨rfl, hk2⟩
    go_wp2_with fail
    go_ret
    exact ⟨ret_bool HR.out, HK.out.trans (hk1.trans hk2)⟩
end Go.Proofs.YtoggcpfogeoeaaaGreatDoor

namespace Go.Proofs.YtoggcpfogeoeaaaGreatDoor.L4
open Go.RowKit

/-- Two texts that differ, in the walk's words. -/
theorem str_not {x y : ByteArray} (h : ¬ x.data.toList = y.data.toList) : (x.toList == y.toList) = false ∧ (x.toList != y.toList) = true ∧ (y.toList == x.toList) = false ∧ (y.toList != x.toList) = true := by
  rw [Lib.toList_data, Lib.toList_data]
  exact ⟨beq_eq_false_iff_ne.2 h, bne_iff_ne.2 h, beq_eq_false_iff_ne.2 (fun e => h e.symm), bne_iff_ne.2 (fun e => h e.symm)⟩
theorem star_not2 {s : ByteArray} (h : ¬ s.data.toList = [42]) : ([42] == s.toList) = false ∧ ([42] != s.toList) = true := by
  rw [Lib.toList_data]; exact ⟨beq_eq_false_iff_ne.2 (fun e => h e.symm), bne_iff_ne.2 (fun e => h e.symm)⟩

set_option maxRecDepth 100000 in
set_option maxHeartbeats 4000000 in
theorem beg_any (p q : ByteArray) (w : World) (hp : p.size ≤ 1099511627776) (hq : q.size ≤ 1099511627776) :
    Calls Tryz.prog 44 #[.string p, .string q] w fun e w' => e = .returned (.bool (begS p q)) ∧ Ke w w' := by
  have hn1 := splS_le p
  have hn2 := splS_le q
  go_enter Tryz.func44, Tryz.ntmps44
  go_wp2_with fail
  go_at_call 46
  refine (split_any p _ hp).mono ?_
  rintro e w1 ⟨b1, c1, rfl, hs1, hbb1, hk1⟩
  have hcm1 := hs1.2.1
  have hcx1 := hs1.2.2.1
  simp only [maxLen] at hcx1
  have HS1 := Lib.hid hs1
  have HK1 := Lib.hid hk1
  clear hs1 hk1 hbb1
  go_wp2_with fail
  go_at_call 46
  refine (split_any q _ hq).mono ?_
  rintro e w2 ⟨b2, c2, rfl, hs2, hbb2, hk2⟩
  have hcm2 := hs2.2.1
  have hcx2 := hs2.2.2.1
  simp only [maxLen] at hcx2
  have HS2 := Lib.hid hs2
  have HS3 := Lib.hid (HS1.out.ke hk2)
  have HK := Lib.hid (HK1.out.trans hk2)
  clear hs2 hk2 hbb2 HS1 HK1
  by_cases hsh : (splS p).length < (splS q).length
  · have d1 : decide ((splS p).length < (splS q).length) = true := decide_eq_true hsh
    go_wp2
    go_ret
    exact ⟨ret_bool (beg_short p q hsh).symm, HK.out⟩
  have d1 : decide ((splS p).length < (splS q).length) = false := decide_eq_false hsh
  go_wp2
  go_loop [20] (fun i => ∃ k : Nat, k ≤ (splS q).length ∧ i = .int .i64 k ∧ ∀ j, j < k → (sg q j).data.toList = [42] ∨ (sg q j).data.toList = (sg p j).data.toList) (fun i => (splS q).length - (intOf i).toNat)
  case atStart => exact ⟨0, Nat.zero_le _, rfl, fun j hj => absurd hj (by omega)⟩
  case round =>
    obtain ⟨k, hkl, rfl, hall⟩ := hrel
    have HA := Lib.hid hall
    clear hall
    by_cases hlt : k < (splS q).length
    · have g1 := sl_at HS3.out (k := k) (by omega)
      have g2 := sl_at HS2.out hlt
      have kp : k < (splS p).length := by omega
      have kp2 : (k : Int) < (splS p).length := by omega
      have kq2 : (k : Int) < (splS q).length := by omega
      have k0 : (0 : Int) ≤ k := by omega
      have HN := Lib.hid (fun (h : (sg q k).data.toList = [42] ∨ (sg q k).data.toList = (sg p k).data.toList) (j : Nat) (hj : j < k + 1) => show (sg q j).data.toList = [42] ∨ (sg q j).data.toList = (sg p j).data.toList by
        rcases Nat.lt_or_ge j k with h3 | h3
        · exact HA.out j h3
        · obtain rfl : j = k := by omega
          exact h)
      by_cases hst : (sg q k).data.toList = [42]
      · have HM := Lib.hid (HN.out (.inl hst))
        by_cases hxs : (sg p k).data.toList = [42]
        · rw [star_yes hst] at g2
          rw [star_yes hxs] at g1
          clear hst hxs
          go_wp2
          go_round
          case rel => exact ⟨k + 1, hlt, by go_num, HM.out⟩
          case measure => simp [intOf]; omega
        · rw [star_yes hst] at g2
          obtain ⟨s1, s2⟩ := star_not hxs
          obtain ⟨s3, s4⟩ := star_not2 hxs
          clear hst hxs
          go_wp2
          go_round
          case rel => exact ⟨k + 1, hlt, by go_num, HM.out⟩
          case measure => simp [intOf]; omega
      · obtain ⟨s1, s2⟩ := star_not hst
        by_cases hxy : (sg q k).data.toList = (sg p k).data.toList
        · have HM := Lib.hid (HN.out (.inr hxy))
          rw [← ba_ext hxy] at g1
          clear hst hxy
          go_wp2
          go_round
          case rel => exact ⟨k + 1, hlt, by go_num, HM.out⟩
          case measure => simp [intOf]; omega
        · have HM := Lib.hid (beg_no p q k kp hlt hst hxy)
          obtain ⟨t1, t2, t3, t4⟩ := str_not hxy
          clear hst hxy
          go_wp2
          go_ret
          exact ⟨ret_bool HM.out.symm, HK.out⟩
    · have HY := Lib.hid (beg_yes p q (by omega) (fun j hj => HA.out j (by omega)))
      go_wp2
      go_ret
      exact ⟨ret_bool HY.out.symm, HK.out⟩
theorem beg_any_c (p q : ByteArray) (r : Bool) (hr : begS p q = r) (hp : p.size ≤ 1099511627776) (hq : q.size ≤ 1099511627776) (w : World) :
    Calls Tryz.prog 44 #[.string p, .string q] w fun e w' => e = .returned (.bool r) ∧ Ke w w' := by
  subst hr; exact beg_any p q w hp hq

end Go.Proofs.YtoggcpfogeoeaaaGreatDoor.L4

namespace Go.Proofs.YtoggcpfogeoeaaaGreatDoor
open Go.RowKit
set_option linter.unusedVariables false

def atE (L : List En) (p : ByteArray) : List En := L.filter fun x => L4.begS x.p p
theorem atE_skip {L : List En} {p : ByteArray} {t : Nat} {x : En} (h : L[t]? = some x) (hx : L4.begS x.p p = false) : atE (L.take (t + 1)) p = atE (L.take t) p := by
  unfold atE
  rw [List.take_add_one, h, Option.toList_some, List.filter_append, List.filter_cons, if_neg (by rw [hx]; decide), List.filter_nil, List.append_nil]
theorem atE_put {L : List En} {p : ByteArray} {t : Nat} {x : En} (h : L[t]? = some x) (hx : L4.begS x.p p = true) : atE (L.take (t + 1)) p = atE (L.take t) p ++ [x] := by
  unfold atE
  rw [List.take_add_one, h, Option.toList_some, List.filter_append, List.filter_cons, if_pos hx, List.filter_nil]
theorem beg_k (p q : ByteArray) (r : Bool) (hr : L4.begS p q = r) (hp : p.size ≤ 1099511627776) (hq : q.size ≤ 1099511627776) (w : World) :
    Calls Tryz.prog 44 #[.string p, .string q] w fun e w' => e = .returned (.bool r) ∧ Kept w w' :=
  (L4.beg_any_c p q r hr hp hq w).mono fun _ _ ⟨he, hk⟩ => ⟨he, kept_of_below hk⟩

set_option maxRecDepth 100000 in
set_option maxHeartbeats 8000000 in
theorem sat_any (A : Option Addr) (n c : Nat) (L : List En) (u1 u2 : Value) (pat : ByteArray) (w : World)
    (h : El w A n c L) (hn : n ≤ 1000000) (hsz : ∀ x ∈ L, x.p.size ≤ 1099511627776) (hq : pat.size ≤ 1099511627776) :
    Calls Tryz.prog 17 #[.agg #[.slice A n c, u1, u2], .string pat] w fun e w' => ∃ A' c', e = .returned (.slice A' (atE L pat).length c') ∧ El w' A' (atE L pat).length c' (atE L pat) ∧ Kept w w' := by
  have hk := (Kept.refl w).alloc #[.slice A n c, u1, u2] 29
  have hcap := h.cap.1; have hcap2 := h.cap.2
  have HNL := Lib.hid h.1
  have HSZ := Lib.hid hsz
  have HQ := Lib.hid hq
  have HB := Box3.new w (.slice A n c) u1 u2 29
  have HK := Lib.hid hk
  have HH := Lib.hid (h.kept hk)
  obtain ⟨U, hU⟩ : ∃ U, w.alloc (.cells #[.slice A n c, u1, u2] 29) = U := ⟨_, rfl⟩
  rw [hU] at HK HH HB
  have HUU := Lib.hid hU
  have d0 := HB.c0
  clear h hsz hk hU HB hq
  go_enter Tryz.func17, Tryz.ntmps17
  go_wp2_with fail
  rw [HUU.out]
  go_wp2_with fail
  clear d0
  go_loopw [5, 11] (fun v i wr => ∃ t : Nat, t ≤ n ∧ i = .int .i64 t ∧ OutE U wr v (atE (L.take t) pat)) (fun _ i _ => n - (intOf i).toNat)
  case atStart => exact ⟨0, Nat.zero_le _, rfl, by rw [List.take_zero]; exact OutE.start U⟩
  case round =>
    obtain ⟨t, ht, rfl, hm⟩ := hrel
    obtain ⟨A3, c3, rfl, hel3, hfr3, hc3, hcm3⟩ := hm.form
    have HO := Lib.hid hm
    have HE3 := Lib.hid hel3
    clear hm hel3 hfr3
    by_cases hlt : t < n
    · obtain ⟨g, o, x, rfl, hx, EX⟩ := (HH.out.kept HO.out.ke).get hlt
      have x0 := EX.c0; have x1 := EX.c1; have x2 := EX.c2; have x3 := EX.c3; have x4 := EX.c4; have x5 := EX.c5; have x6 := EX.c6; have x7 := EX.c7; have x8 := EX.c8
      have HXX := Lib.hid hx
      obtain ⟨z, hz⟩ : ∃ z, L4.begS x.p pat = z := ⟨_, rfl⟩
      have AP := Lib.hid (fun w => beg_k x.p pat z hz (HSZ.out x (List.mem_of_getElem? hx)) HQ.out w)
      have HZ := Lib.hid hz
      have HE := Lib.hid (Ent.new wr x 35)
      clear EX hx hz
      have e5 := HE.out
      have z0 := e5.c0; have z1 := e5.c1; have z2 := e5.c2; have z3 := e5.c3; have z4 := e5.c4; have z5 := e5.c5; have z6 := e5.c6; have z7 := e5.c7; have z8 := e5.c8
      clear e5
      go_wp2_with fail
      go_at_call 44
      refine (AP.out _).mono ?_
      rintro e w5 ⟨rfl, hk5⟩
      have hk6 := ((Kept.refl wr).alloc #[.int .i64 x.d.1, .int .i64 x.d.2, .string x.p, .int .i64 x.k, .int .i64 x.vk, .int .i64 x.vn, .string x.vt, .int .i64 x.e.1, .int .i64 x.e.2] 35).trans hk5
      have HE5 := Lib.hid (HE.out.kept hk5)
      clear x0 x1 x2 x3 x4 x5 x6 x7 x8
      clear z0 z1 z2 z3 z4 z5 z6 z7 z8
      cases z with
      | false =>
        have HN := Lib.hid (atE_skip HXX.out HZ.out)
        have HO6 := Lib.hid (HO.out.kept hk6)
        clear hk5 hk6
        go_wp2_with fail
        go_roundw
        case rel => exact ⟨t + 1, hlt, by go_num, by rw [HN.out]; exact HO6.out⟩
        case measure => simp [intOf]; omega
      | true =>
        have HN := Lib.hid (atE_put HXX.out HZ.out)
        have hle : (atE (L.take t) pat).length ≤ 1000000 := Nat.le_trans (List.length_filter_le ..) (by rw [List.length_take]; omega)
        have hk7 := hk6.trans ((Kept.refl w5).alloc #[.int .i64 x.d.1, .int .i64 x.d.2, .string x.p, .int .i64 x.k, .int .i64 x.vk, .int .i64 x.vn, .string x.vt, .int .i64 x.e.1, .int .i64 x.e.2] 35)
        obtain ⟨v8, w8, hr8, ho8⟩ := (HO.out.kept hk7).app _ _ _ _ (el_one (Ent.new w5 x 35)) (by omega)
        have HR8 := Lib.hid hr8
        have HO8 := Lib.hid ho8
        have e5 := HE5.out
        have y0 := e5.c0; have y1 := e5.c1; have y2 := e5.c2; have y3 := e5.c3; have y4 := e5.c4; have y5 := e5.c5; have y6 := e5.c6; have y7 := e5.c7; have y8 := e5.c8
        clear hr8 ho8 hk5 hk6 hk7 e5 hle
        go_wp2_with (at_builtin; refine Lib.wpList_append_run _ rfl (.tmp 19) (.tmp 21) _ _ rfl _ _ rfl rfl _ _ HR8.out ?_)
        go_roundw
        case rel => exact ⟨t + 1, hlt, by go_num, by rw [HN.out]; exact HO8.out⟩
        case measure => simp [intOf]; omega
    · obtain rfl : t = n := by omega
      have HT := Lib.hid (show L.take t = L from List.take_of_length_le (by rw [← HNL.out]; exact Nat.le_refl _))
      go_wp2_with fail
      go_ret
      rw [HT.out] at HE3 ⊢
      exact ⟨A3, c3, rfl, HE3.out, HK.out.trans HO.out.ke⟩
end Go.Proofs.YtoggcpfogeoeaaaGreatDoor

