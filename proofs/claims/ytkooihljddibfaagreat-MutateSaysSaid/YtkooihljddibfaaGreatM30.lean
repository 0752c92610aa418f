/-
  What is proved: the document's place and Get of layer 8 (P8.2), called with any entries, or state, that rise and any dot, return the dot's place and whether it is there, and what it left; the document's keeps of layer 9 tells of an entry whether it stays; the world has new blocks at most.
  plain facts on two lists of entries gone through side by side, as they rise: what comes of it is the entries of a join; no program is spoken of here.
-/
import Derived.Test.YtkooihljddibfaaGreatM19
import Derived.Test.YtkooihljddibfaaGreatM17
import Derived.Test.YtkooihljddibfaaGreatM8
import Derived.Test.YtkooihljddibfaaGreatM20
import Derived.IntWalk
import Derived.BigQuiet
namespace Go.Proofs.YtkooihljddibfaaGreat
open Go.RowKit
set_option linter.unusedVariables false

theorem rdot_ne {x y : Int × Int} (h : ¬ x = y) : (x.1 == y.1) = false ∨ ((x.1 == y.1) = true ∧ (x.2 == y.2) = false) := by
  by_cases h1 : x.1 = y.1
  · refine .inr ⟨by simpa using h1, ?_⟩
    rw [beq_eq_false_iff_ne]
    exact fun h2 => h (Prod.ext h1 h2)
  · exact .inl (by rw [beq_eq_false_iff_ne]; exact h1)
set_option maxRecDepth 100000 in
set_option maxHeartbeats 8000000 in
theorem rplace_any (A : Option Addr) (n c : Nat) (L : List En) (d1 d2 : Int) (w : World) (h : El w A n c L) (hr : RiseE L) (hn : n ≤ 1000000) (z : Bool) (hz : hasE L (d1, d2) = z) :
    Calls Tryz.prog 94 #[.slice A n c, .agg #[.int .i64 d1, .int .i64 d2]] w
      fun e w' => ∃ k : Nat, e = .returned (.tuple #[.int .i64 k, .bool z]) ∧ PlaceE L (d1, d2) k ∧ Kept w w' := by
  have hc1 := h.cap.1
  have hc2 := h.cap.2
  have HZ := Lib.hid hz
  have HD := Lib.hid h
  have HR := Lib.hid hr
  have HE := Lib.hid (Box2.new w (.int .i64 d1) (.int .i64 d2) 30)
  clear h hr hz
  go_enter Tryz.func94, Tryz.ntmps94
  go_wp2_with fail
  go_loopw [6, 7] (fun i j wr => ∃ a b : Nat, a ≤ b ∧ b ≤ n ∧ i = .int .i64 a ∧ j = .int .i64 b ∧ Kept (w.alloc (.cells #[.int .i64 d1, .int .i64 d2] 30)) wr ∧ (∀ t y, t < a → L[t]? = some y → LtD y.d (d1, d2)) ∧ (∀ t y, b ≤ t → L[t]? = some y → ¬ LtD y.d (d1, d2))) (fun i j _ => (intOf j).toNat - (intOf i).toNat)
  case atStart => exact ⟨0, n, Nat.zero_le _, Nat.le_refl _, rfl, rfl, Kept.refl _, fun t y ht => absurd ht (by omega), fun t y ht hy => absurd (List.getElem?_eq_some_iff.1 hy).1 (by have := HD.out.1; omega)⟩
  case round =>
    obtain ⟨a, b, hab, hbn, rfl, rfl, hkr, hlo, hhi⟩ := hrel
    have HK := Lib.hid hkr
    have HLO := Lib.hid hlo
    have HHI := Lib.hid hhi
    have EX := HE.out.kept hkr
    have x0 := KExt.cell EX.c0; have x1 := KExt.cell EX.c1
    clear hkr hlo hhi EX
    by_cases hlt : a < b
    · obtain ⟨m, hm⟩ : ∃ m : Nat, ((a : Int) + b) / 2 = (m : Int) := ⟨(a + b) / 2, by omega⟩
      have hma : a ≤ m := by omega
      have hmb : m < b := by omega
      have hmn : m < n := by omega
      have hab2 : IntKind.i64.wrap ((a : Int) + b) = (a : Int) + b := by rw [IntWalk.i64_in _ (by omega)]
      have HM := Lib.hid hm
      clear hm
      go_wp2_with fail
      rw [HM.out]
      clear hab2
      obtain ⟨g, o, y, rfl, hy, EY⟩ := (HD.out.kept (((Kept.refl w).alloc _ _).trans HK.out)).get hmn
      have y0 := KExt.cell EY.c0; have y1 := KExt.cell EY.c1; have y2 := KExt.cell EY.c2; have y3 := KExt.cell EY.c3; have y4 := KExt.cell EY.c4; have y5 := KExt.cell EY.c5; have y6 := KExt.cell EY.c6; have y7 := KExt.cell EY.c7; have y8 := KExt.cell EY.c8
      have HY := Lib.hid hy
      clear EY hy
      obtain ⟨r, hrr⟩ : ∃ r, cmpD y.d (d1, d2) = r := ⟨_, rfl⟩
      have AC := Lib.hid (fun w => rcmp_c y.d (d1, d2) r hrr w)
      by_cases hl : LtD y.d (d1, d2)
      · have hr0 : decide (r < 0) = true := by rw [decide_eq_true_iff, ← hrr]; exact (cmpD_lt _ _).2 hl
        have HN := Lib.hid (show ∀ t y, t < m + 1 → L[t]? = some y → LtD y.d (d1, d2) from fun t y2 ht hy2 => by
          rcases Nat.lt_or_ge t m with h3 | h3
          · exact (riseE_get HR.out hy2 HY.out h3).trans hl
          · obtain rfl : t = m := by omega
            obtain rfl := Option.some.inj (hy2.symm.trans HY.out)
            exact hl)
        clear hl hrr
        refine region_kept _ (by kernel_rfl) (by kernel_rfl) (Kept.refl _) ?_
        repeat (go_big_quiet_step ((first
          | (go_at_call 54; (with_reducible exact KExt.callsK (AC.out _)))
          | fail)))
        refine wpQuiet_nil ?_
        intro G
        clear y0 y1 y2 y3 y4 y5 y6 y7 y8 x0 x1
        go_wp2_with fail
        go_roundw
        case rel => exact ⟨m + 1, b, by omega, hbn, by go_num, rfl, HK.out.trans G.g, HN.out, HHI.out⟩
        case measure => simp [intOf]; omega
      · have hr0 : decide (r < 0) = false := by rw [decide_eq_false_iff_not, ← hrr, cmpD_lt]; exact hl
        have HN := Lib.hid (show ∀ t y, m ≤ t → L[t]? = some y → ¬ LtD y.d (d1, d2) from fun t y2 ht hy2 h5 => by
          rcases Nat.lt_or_ge m t with h3 | h3
          · exact hl ((riseE_get HR.out HY.out hy2 h3).trans h5)
          · obtain rfl : t = m := by omega
            obtain rfl := Option.some.inj (hy2.symm.trans HY.out)
            exact hl h5)
        clear hl hrr
        refine region_kept _ (by kernel_rfl) (by kernel_rfl) (Kept.refl _) ?_
        repeat (go_big_quiet_step ((first
          | (go_at_call 54; (with_reducible exact KExt.callsK (AC.out _)))
          | fail)))
        refine wpQuiet_nil ?_
        intro G
        clear y0 y1 y2 y3 y4 y5 y6 y7 y8 x0 x1
        go_wp2_with fail
        go_roundw
        case rel => exact ⟨a, m, by omega, by omega, rfl, rfl, HK.out.trans G.g, HLO.out, HN.out⟩
        case measure => simp [intOf]; omega
    · obtain rfl : a = b := by omega
      have HT := Lib.hid (place_at HR.out (by have := HD.out.1; omega) HLO.out HHI.out)
      have HK2 := Lib.hid (((Kept.refl w).alloc _ _).trans HK.out)
      by_cases han : a < n
      · obtain ⟨g, o, y, rfl, hy, EY⟩ := (HD.out.kept (((Kept.refl w).alloc _ _).trans HK.out)).get han
        have y0 := KExt.cell EY.c0; have y1 := KExt.cell EY.c1; have y2 := KExt.cell EY.c2; have y3 := KExt.cell EY.c3; have y4 := KExt.cell EY.c4; have y5 := KExt.cell EY.c5; have y6 := KExt.cell EY.c6; have y7 := KExt.cell EY.c7; have y8 := KExt.cell EY.c8
        have hF : (cmpD y.d (d1, d2) == 0) = z := by rw [← HZ.out]; exact has_at HR.out HLO.out HHI.out hy
        by_cases hyd : y.d = (d1, d2)
        · have hzt : z = true := by rw [← hF, beq_iff_eq, cmpD_eq]; exact hyd
          have q1 : (y.d.1 == d1) = true := by rw [hyd]; simp
          have q2 : (y.d.2 == d2) = true := by rw [hyd]; simp
          have HZT := Lib.hid hzt
          clear hF hyd hy EY hzt
          go_wp2_with fail
          refine region_kept _ (by kernel_rfl) (by kernel_rfl) (Kept.refl _) ?_
          repeat (go_big_quiet_step (fail))
          refine wpQuiet_nil ?_
          intro G
          clear y0 y1 y2 y3 y4 y5 y6 y7 y8 x0 x1
          go_wp2_with fail
          go_ret2
          exact ⟨a, by rw [HZT.out]; rfl, HT.out, HK2.out.trans G.g⟩
        · have hzf : z = false := by rw [← hF, beq_eq_false_iff_ne]; exact fun e => hyd ((cmpD_eq _ _).1 e)
          have HZF := Lib.hid hzf
          have q0 : (y.d.1 == d1) = false ∨ ((y.d.1 == d1) = true ∧ (y.d.2 == d2) = false) := rdot_ne hyd
          clear hF hyd hy EY hzf
          rcases q0 with q1 | ⟨q1, q2⟩
          all_goals
            go_wp2_with fail
            refine region_kept _ (by kernel_rfl) (by kernel_rfl) (Kept.refl _) ?_
            repeat (go_big_quiet_step (fail))
            refine wpQuiet_nil ?_
            intro G
            clear y0 y1 y2 y3 y4 y5 y6 y7 y8 x0 x1
            go_wp2_with fail
            go_ret2
            exact ⟨a, by rw [HZF.out]; rfl, HT.out, HK2.out.trans G.g⟩
      · have hF := Lib.hid (show z = false by rw [← HZ.out]; exact has_end fun t y ht hy => HLO.out t y (by have := HD.out.1; omega) hy)
        go_wp2_with fail
        refine region_kept _ (by kernel_rfl) (by kernel_rfl) (Kept.refl _) ?_
        repeat (go_big_quiet_step (fail))
        refine wpQuiet_nil ?_
        intro G
        clear x0 x1
        go_wp2_with fail
        go_ret2
        exact ⟨a, by rw [hF.out]; rfl, HT.out, HK2.out.trans G.g⟩

set_option maxRecDepth 100000 in
set_option maxHeartbeats 4000000 in
theorem rget_any (A : Option Addr) (n c : Nat) (L : List En) (u1 u2 : Value) (d1 d2 : Int) (w : World) (h : El w A n c L) (hr : RiseE L) (hn : n ≤ 1000000) (z : Bool) (hz : hasE L (d1, d2) = z) :
    Calls Tryz.prog 82 #[.agg #[.slice A n c, u1, u2], .agg #[.int .i64 d1, .int .i64 d2]] w (Gets L (d1, d2) z w) := by
  have hk := (((Kept.refl w).alloc #[.slice A n c, u1, u2] 28).alloc #[.int .i64 d1, .int .i64 d2] 30).alloc #[.int .i64 0, .int .i64 0, .string ⟨#[]⟩, .int .i64 0, .int .i64 0, .int .i64 0, .string ⟨#[]⟩, .int .i64 0, .int .i64 0] 34
  have HS := Lib.hid (rplace_any A n c L d1 d2 _ (h.kept hk) hr hn z hz)
  have HK := Lib.hid hk
  have HD := Lib.hid (h.kept hk)
  have hc1 := h.cap.1
  have hc2 := h.cap.2
  have HB := Lib.hid ((Box3.new w (.slice A n c) u1 u2 28).kept (((Kept.refl _).alloc #[.int .i64 d1, .int .i64 d2] 30).alloc #[.int .i64 0, .int .i64 0, .string ⟨#[]⟩, .int .i64 0, .int .i64 0, .int .i64 0, .string ⟨#[]⟩, .int .i64 0, .int .i64 0] 34))
  have hen0 := EntF.new ((w.alloc (.cells #[.slice A n c, u1, u2] 28)).alloc (.cells #[.int .i64 d1, .int .i64 d2] 30)) .none 34
  simp only [En.none] at hen0
  rw [show ((w.alloc (.cells #[.slice A n c, u1, u2] 28)).alloc (.cells #[.int .i64 d1, .int .i64 d2] 30)).heap.size = w.heap.size + 2 by simp] at hen0
  have HEN := Lib.hid hen0
  have HN := Lib.hid h.1
  have HZ := Lib.hid hz
  clear h hr hk hz hen0
  go_enter Tryz.func82, Tryz.ntmps82
  go_wp2_with fail
  go_at_call 94
  refine HS.out.mono ?_
  rintro e w1 ⟨k, rfl, hp, hk1⟩
  have hb := HB.out.kept hk1
  have b0 := hb.c0
  have HK1 := Lib.hid (HK.out.trans hk1)
  have HD1 := Lib.hid (HD.out.kept hk1)
  have hen := HEN.out.kept hk1
  have xf := hen.f
  have x0 := hen.ent.c0; have x1 := hen.ent.c1; have x2 := hen.ent.c2; have x3 := hen.ent.c3; have x4 := hen.ent.c4; have x5 := hen.ent.c5; have x6 := hen.ent.c6; have x7 := hen.ent.c7; have x8 := hen.ent.c8
  have HP := Lib.hid hp
  clear hb hk1 hp hen
  cases z with
  | false =>
    go_wp2_with fail
    refine bodyPost_ret (by simp [results, Tryz.results82, go_sem, En.none, *]) rfl ⟨.none, rfl, (fun h => by cases h), (fun _ => rfl), ?_⟩
    exact ((((((((((HK1.out.setCell (Nat.le_add_right _ 2) _).setCell (Nat.le_add_right _ 2) _).setCell (Nat.le_add_right _ 2) _).setCell (Nat.le_add_right _ 2) _).setCell (Nat.le_add_right _ 2) _).setCell (Nat.le_add_right _ 2) _).setCell (Nat.le_add_right _ 2) _).setCell (Nat.le_add_right _ 2) _).setCell (Nat.le_add_right _ 2) _))
  | true =>
    obtain ⟨y, hy, hyd⟩ := HP.out.yes HZ.out
    have hkn : k < n := by have := (List.getElem?_eq_some_iff.1 hy).1; have := HN.out; omega
    obtain ⟨g, o, y', rfl, hy', EY⟩ := HD1.out.get hkn
    obtain rfl := Option.some.inj (hy.symm.trans hy')
    have HY := Lib.hid (List.mem_of_getElem? hy)
    have HYD := Lib.hid hyd
    have y0 := EY.c0; have y1 := EY.c1; have y2 := EY.c2; have y3 := EY.c3; have y4 := EY.c4; have y5 := EY.c5; have y6 := EY.c6; have y7 := EY.c7; have y8 := EY.c8
    clear EY hy hy' hyd
    go_wp2_with fail
    refine bodyPost_ret (by simp [results, Tryz.results82, go_sem, *]) rfl ⟨y, rfl, (fun _ => ⟨HY.out, HYD.out⟩), (fun h => by cases h), ?_⟩
    exact ((((((((((HK1.out.setCell (Nat.le_add_right _ 2) _).setCell (Nat.le_add_right _ 2) _).setCell (Nat.le_add_right _ 2) _).setCell (Nat.le_add_right _ 2) _).setCell (Nat.le_add_right _ 2) _).setCell (Nat.le_add_right _ 2) _).setCell (Nat.le_add_right _ 2) _).setCell (Nat.le_add_right _ 2) _).setCell (Nat.le_add_right _ 2) _))

set_option maxRecDepth 100000 in
set_option maxHeartbeats 4000000 in
theorem rkeeps_any (x : En) (A : Option Addr) (n c : Nat) (L : List En) (B : Option Addr) (m k : Nat) (V : List Int) (D : Option Addr) (p q : Nat) (C : List (Int × Int)) (w : World) (h : Stt w A n c B m k D p q L V C) (hr : RiseE L) (hn : n ≤ 1000000) (r : Bool) (hrr : stayE L V C x = r) :
    Calls Tryz.prog 63 #[.agg #[.int .i64 x.d.1, .int .i64 x.d.2, .string x.p, .int .i64 x.k, .int .i64 x.vk, .int .i64 x.vn, .string x.vt, .int .i64 x.e.1, .int .i64 x.e.2], .agg #[.slice A n c, .slice B m k, .slice D p q]] w fun e w' => e = .returned (.bool r) ∧ Kept w w' := by
  have hk := ((Kept.refl w).alloc #[.int .i64 x.d.1, .int .i64 x.d.2, .string x.p, .int .i64 x.k, .int .i64 x.vk, .int .i64 x.vn, .string x.vt, .int .i64 x.e.1, .int .i64 x.e.2] 34).alloc #[.slice A n c, .slice B m k, .slice D p q] 28
  have e0 := (Ent.new w x 34).kept ((Kept.refl _).alloc #[.slice A n c, .slice B m k, .slice D p q] 28)
  have b0 := Box3.new (w.alloc (.cells #[.int .i64 x.d.1, .int .i64 x.d.2, .string x.p, .int .i64 x.k, .int .i64 x.vk, .int .i64 x.vn, .string x.vt, .int .i64 x.e.1, .int .i64 x.e.2] 34)) (.slice A n c) (.slice B m k) (.slice D p q) 28
  rw [show (w.alloc (.cells #[.int .i64 x.d.1, .int .i64 x.d.2, .string x.p, .int .i64 x.k, .int .i64 x.vk, .int .i64 x.vn, .string x.vt, .int .i64 x.e.1, .int .i64 x.e.2] 34)).heap.size = w.heap.size + 1 by simp] at b0
  have hs := h.kept hk
  obtain ⟨z, hz⟩ : ∃ z, hasE L x.d = z := ⟨_, rfl⟩
  have AG := Lib.hid (rget_any A n c L (.slice B m k) (.slice D p q) x.d.1 x.d.2 _ hs.el hr hn z hz)
  have HEN := Lib.hid e0
  have HB := Lib.hid b0
  have HK := Lib.hid hk
  have HS := Lib.hid hs
  obtain ⟨z1, hz1⟩ : ∃ z1, decide (hasC V C x.d) = z1 := ⟨_, rfl⟩
  have hrz : r = (z || !z1) := by rw [← hrr]; unfold stayE; rw [hz, hz1]
  have HZ1 := Lib.hid hz1
  have y0 := b0.c0; have y1 := b0.c1; have y2 := b0.c2
  have x0 := e0.c0; have x1 := e0.c1
  clear h hk hs hr hrr hz hz1 b0 e0
  cases z with
  | true =>
    have HR := Lib.hid (show true = r by rw [hrz]; rfl)
    clear hrz
    go_enter Tryz.func63, Tryz.ntmps63
    go_wp2_with fail
    go_at_call 82
    refine AG.out.mono ?_
    rintro e w1 ⟨y, rfl, -, -, hk1⟩
    have HK2 := Lib.hid ((HK.out.trans hk1).alloc #[.int .i64 y.d.1, .int .i64 y.d.2, .string y.p, .int .i64 y.k, .int .i64 y.vk, .int .i64 y.vn, .string y.vt, .int .i64 y.e.1, .int .i64 y.e.2] 34)
    clear hk1
    go_wp2_with fail
    go_ret
    exact ⟨ret_bool HR.out, HK2.out⟩
  | false =>
    have HR := Lib.hid (show (!z1) = r by rw [hrz]; rfl)
    clear hrz
    go_enter Tryz.func63, Tryz.ntmps63
    go_wp2_with fail
    go_at_call 82
    refine AG.out.mono ?_
    rintro e w1 ⟨y, rfl, -, -, hk1⟩
    have hka := hk1.alloc #[.int .i64 y.d.1, .int .i64 y.d.2, .string y.p, .int .i64 y.k, .int .i64 y.vk, .int .i64 y.vn, .string y.vt, .int .i64 y.e.1, .int .i64 y.e.2] 34
    have HK2 := Lib.hid (HK.out.trans hka)
    have en := HEN.out.kept hka
    have x2 := en.c0; have x3 := en.c1
    have bb := HB.out.kept hka
    have y3 := bb.c1; have y4 := bb.c2
    have AH := Lib.hid (rhasC_any B m k V D p q C x.d.1 x.d.2 _ (HS.out.il.kept hka) (HS.out.dl.kept hka) z1 HZ1.out)
    clear hk1 hka en y0 y1 y2 x0 x1 bb
    go_wp2_with fail
    go_at_call 23
    refine AH.out.mono ?_
    rintro e w2 ⟨rfl, hk2⟩
    have HK3 := Lib.hid (HK2.out.trans hk2)
    clear hk2 y3 y4 x2 x3
    go_wp2_with fail
    go_ret
    exact ⟨ret_bool HR.out, HK3.out⟩
end Go.Proofs.YtkooihljddibfaaGreat

namespace Go.Proofs.YtkooihljddibfaaGreat
open Go.RowKit
set_option linter.unusedVariables false

/-- Whether one's entry stays, and whether the other one's does. -/
def keepL (b : Sta) (x : En) : Prop := hasE b.L x.d = true ∨ ¬ b.has x.d
def keepR (a : Sta) (x : En) : Prop := hasE a.L x.d = false ∧ ¬ a.has x.d
instance (b : Sta) (x : En) : Decidable (keepL b x) := inferInstanceAs (Decidable (hasE b.L x.d = true ∨ ¬ b.has x.d))
instance (a : Sta) (x : En) : Decidable (keepR a x) := inferInstanceAs (Decidable (hasE a.L x.d = false ∧ ¬ a.has x.d))
theorem mem_take_succ {L : List En} {i : Nat} {x : En} (h : L[i]? = some x) (z : En) : z ∈ L.take (i + 1) ↔ z ∈ L.take i ∨ z = x := by
  rw [List.take_add_one, h, Option.toList_some, List.mem_append, List.mem_singleton]
theorem mem_drop_succ {L : List En} {i : Nat} {x : En} (h : L[i]? = some x) (z : En) : z ∈ L.drop i ↔ z = x ∨ z ∈ L.drop (i + 1) := by
  obtain ⟨hlt, he⟩ := List.getElem?_eq_some_iff.1 h
  rw [List.drop_eq_getElem_cons hlt, he, List.mem_cons]
theorem rise_take {L : List En} (hr : RiseE L) {i : Nat} {x z : En} (h : L[i]? = some x) (hz : z ∈ L.take i) : LtD z.d x.d := by
  obtain ⟨t, ht⟩ := List.getElem?_of_mem hz
  rw [List.getElem?_take] at ht
  split at ht
  · obtain ⟨h1, e1⟩ := List.getElem?_eq_some_iff.1 ht
    obtain ⟨h2, e2⟩ := List.getElem?_eq_some_iff.1 h
    have := List.pairwise_iff_getElem.1 hr t i h1 h2 (by assumption)
    rwa [e1, e2] at this
  · cases ht
theorem rise_drop {L : List En} (hr : RiseE L) {i : Nat} {x z : En} (h : L[i]? = some x) (hz : z ∈ L.drop (i + 1)) : LtD x.d z.d := by
  obtain ⟨t, ht⟩ := List.getElem?_of_mem hz
  rw [List.getElem?_drop] at ht
  obtain ⟨h1, e1⟩ := List.getElem?_eq_some_iff.1 ht
  obtain ⟨h2, e2⟩ := List.getElem?_eq_some_iff.1 h
  have := List.pairwise_iff_getElem.1 hr i (i + 1 + t) h2 h1 (by omega)
  rwa [e1, e2] at this
structure Mid (a b : Sta) (i k : Nat) (X : List En) : Prop where
  rise : RiseE X
  mem : ∀ x, x ∈ X ↔ (x ∈ a.L.take i ∧ keepL b x) ∨ (x ∈ b.L.take k ∧ keepR a x)
  lo : ∀ x ∈ a.L.take i, ∀ y ∈ b.L.drop k, LtD x.d y.d
  lo2 : ∀ x ∈ b.L.take k, ∀ y ∈ a.L.drop i, LtD x.d y.d
section
variable {a b : Sta} {i k : Nat} {X : List En}
theorem Mid.start : Mid a b 0 0 [] :=
  ⟨riseE_nil, fun x => by simp, (fun x hx => by simp at hx), fun x hx => by simp at hx⟩
theorem Mid.app {x : En} (h : Mid a b i k X) (hx : ∀ z ∈ X, LtD z.d x.d) : RiseE (X ++ [x]) := by
  unfold RiseE
  rw [List.pairwise_append]
  exact ⟨h.rise, List.pairwise_singleton _ _, fun z hz y hy => by obtain rfl : y = x := by simpa using hy
                                                                  exact hx z hz⟩
theorem Mid.left (h : Mid a b i k X) (ha : RiseE a.L) {x : En} (hx : a.L[i]? = some x) (hlt : ∀ y ∈ b.L.drop k, LtD x.d y.d) : Mid a b (i + 1) k (if keepL b x then X ++ [x] else X) := by
  have hlo : ∀ z ∈ a.L.take (i + 1), ∀ y ∈ b.L.drop k, LtD z.d y.d := fun z hz y hy => by
    rcases (mem_take_succ hx z).1 hz with h1 | rfl
    · exact h.lo z h1 y hy
    · exact hlt y hy
  have hlo2 : ∀ z ∈ b.L.take k, ∀ y ∈ a.L.drop (i + 1), LtD z.d y.d := fun z hz y hy => h.lo2 z hz y ((mem_drop_succ hx y).2 (.inr hy))
  have hX : ∀ z ∈ X, LtD z.d x.d := fun z hz => by
    rcases (h.mem z).1 hz with ⟨h1, _⟩ | ⟨h1, _⟩
    · exact rise_take ha hx h1
    · exact h.lo2 z h1 x ((mem_drop_succ hx x).2 (.inl rfl))
  by_cases hk : keepL b x
  · rw [if_pos hk]
    refine ⟨h.app hX, fun z => ?_, hlo, hlo2⟩
    rw [List.mem_append, List.mem_singleton, h.mem, mem_take_succ hx]
    constructor
    · rintro ((⟨h1, h2⟩ | h1) | rfl)
      · exact .inl ⟨.inl h1, h2⟩
      · exact .inr h1
      · exact .inl ⟨.inr rfl, hk⟩
    · rintro (⟨h1 | h1, h2⟩ | h1)
      · exact .inl (.inl ⟨h1, h2⟩)
      · exact .inr h1
      · exact .inl (.inr h1)
  · rw [if_neg hk]
    refine ⟨h.rise, fun z => ?_, hlo, hlo2⟩
    rw [h.mem, mem_take_succ hx]
    constructor
    · rintro (⟨h1, h2⟩ | h1)
      · exact .inl ⟨.inl h1, h2⟩
      · exact .inr h1
    · rintro (⟨h1 | h1, h2⟩ | h1)
      · exact .inl ⟨h1, h2⟩
      · exact absurd (h1 ▸ h2) hk
      · exact .inr h1
theorem Mid.right_ (h : Mid a b i k X) (hb : RiseE b.L) {x : En} (hx : b.L[k]? = some x) (hlt : ∀ y ∈ a.L.drop i, LtD x.d y.d) : Mid a b i (k + 1) (if keepR a x then X ++ [x] else X) := by
  have hlo : ∀ z ∈ b.L.take (k + 1), ∀ y ∈ a.L.drop i, LtD z.d y.d := fun z hz y hy => by
    rcases (mem_take_succ hx z).1 hz with h1 | rfl
    · exact h.lo2 z h1 y hy
    · exact hlt y hy
  have hlo2 : ∀ z ∈ a.L.take i, ∀ y ∈ b.L.drop (k + 1), LtD z.d y.d := fun z hz y hy => h.lo z hz y ((mem_drop_succ hx y).2 (.inr hy))
  have hX : ∀ z ∈ X, LtD z.d x.d := fun z hz => by
    rcases (h.mem z).1 hz with ⟨h1, _⟩ | ⟨h1, _⟩
    · exact h.lo z h1 x ((mem_drop_succ hx x).2 (.inl rfl))
    · exact rise_take hb hx h1
  by_cases hk : keepR a x
  · rw [if_pos hk]
    refine ⟨h.app hX, fun z => ?_, hlo2, hlo⟩
    rw [List.mem_append, List.mem_singleton, h.mem, mem_take_succ hx]
    constructor
    · rintro ((h1 | ⟨h1, h2⟩) | rfl)
      · exact .inl h1
      · exact .inr ⟨.inl h1, h2⟩
      · exact .inr ⟨.inr rfl, hk⟩
    · rintro (h1 | ⟨h1 | h1, h2⟩)
      · exact .inl (.inl h1)
      · exact .inl (.inr ⟨h1, h2⟩)
      · exact .inr h1
  · rw [if_neg hk]
    refine ⟨h.rise, fun z => ?_, hlo2, hlo⟩
    rw [h.mem, mem_take_succ hx]
    constructor
    · rintro (h1 | ⟨h1, h2⟩)
      · exact .inl h1
      · exact .inr ⟨.inl h1, h2⟩
    · rintro (h1 | ⟨h1 | h1, h2⟩)
      · exact .inl h1
      · exact .inr ⟨h1, h2⟩
      · exact absurd (h1 ▸ h2) hk
theorem Mid.both (h : Mid a b i k X) (ha : RiseE a.L) (hb : RiseE b.L) {x y : En} (hx : a.L[i]? = some x) (hy : b.L[k]? = some y) (e : x.d = y.d) : Mid a b (i + 1) (k + 1) (X ++ [x]) := by
  have hyb : hasE b.L x.d = true := hasE_iff.2 ⟨y, List.mem_of_getElem? hy, e.symm⟩
  have hxa : hasE a.L y.d = true := hasE_iff.2 ⟨x, List.mem_of_getElem? hx, e⟩
  refine ⟨h.app fun z hz => ?_, fun z => ?_, fun z hz u hu => ?_, fun z hz u hu => ?_⟩
  · rcases (h.mem z).1 hz with ⟨h1, _⟩ | ⟨h1, _⟩
    · exact rise_take ha hx h1
    · exact h.lo2 z h1 x ((mem_drop_succ hx x).2 (.inl rfl))
  · rw [List.mem_append, List.mem_singleton, h.mem, mem_take_succ hx, mem_take_succ hy]
    constructor
    · rintro ((⟨h1, h2⟩ | ⟨h1, h2⟩) | rfl)
      · exact .inl ⟨.inl h1, h2⟩
      · exact .inr ⟨.inl h1, h2⟩
      · exact .inl ⟨.inr rfl, .inl hyb⟩
    · rintro (⟨h1 | h1, h2⟩ | ⟨h1 | h1, h2⟩)
      · exact .inl (.inl ⟨h1, h2⟩)
      · exact .inr h1
      · exact .inl (.inr ⟨h1, h2⟩)
      · rw [h1] at h2
        unfold keepR at h2
        rw [hxa] at h2
        cases h2.1
  · have hu2 := (mem_drop_succ hy u).2 (.inr hu)
    rcases (mem_take_succ hx z).1 hz with h1 | rfl
    · exact h.lo z h1 u hu2
    · rw [e]; exact rise_drop hb hy hu
  · have hu2 := (mem_drop_succ hx u).2 (.inr hu)
    rcases (mem_take_succ hy z).1 hz with h1 | rfl
    · exact h.lo2 z h1 u hu2
    · rw [← e]; exact rise_drop ha hx hu
theorem Mid.fin (h : Mid a b a.L.length b.L.length X) {V : List Int} {C : List (Int × Int)} (hs : SetC (fun d => a.has d ∨ b.has d) V C) : JoinOf a b ⟨X, V, C⟩ := by
  refine ⟨h.rise, fun x => ?_, hs⟩
  have := h.mem x
  rw [List.take_length, List.take_length] at this
  exact this
end
end Go.Proofs.YtkooihljddibfaaGreat

