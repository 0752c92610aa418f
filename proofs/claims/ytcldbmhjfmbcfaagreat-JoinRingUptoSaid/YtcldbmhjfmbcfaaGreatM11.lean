/-
  What is proved: the document's With and Sort of layer 5, called with any slice of dots that lies in memory (a rising one for With) and any dot, return what P5.5 and P5.6 say; the world has new blocks at most.
  the document's Right of layer 6, called with any set that lies in memory, tells whether it is right (P6.1); the world has new blocks at most.
  worlds that have all that another one has but for one block ('KeptE'): what is read of other blocks reads on.
  rows that a call owns, beside one another: a row reads on behind what leaves older blocks alone; two rows of other kinds of elements are apart; an int of a row written; worlds that have all that another one has but for one block ('KeptE').
-/
import Derived.Test.YtcldbmhjfmbcfaaGreatM9
import Derived.Test.YtcldbmhjfmbcfaaGreatM10
import Derived.Lib.Walk
import Derived.IntWalk
import Derived.Test.YtcldbmhjfmbcfaaGreatM6
import Derived.Deep.Heap
import Derived.OneCell
namespace Go.Proofs.YtcldbmhjfmbcfaaGreat
open Go.RowKit

theorem rise_get {L : List (Int × Int)} (hr : Rise L) {s t : Nat} {y z : Int × Int} (hs : L[s]? = some y) (ht : L[t]? = some z) (h : s < t) : LtD y z := by
  obtain ⟨e1, e2⟩ := List.getElem?_eq_some_iff.1 hs
  obtain ⟨e3, e4⟩ := List.getElem?_eq_some_iff.1 ht
  have := List.pairwise_iff_getElem.1 hr s t e1 e3 h
  rwa [e2, e4] at this
theorem with_at {L : List (Int × Int)} {d : Int × Int} {k : Nat} (hr : Rise L) (hkl : k ≤ L.length) (hup : ∀ t y, k ≤ t → L[t]? = some y → LtD d y) (hlo : ∀ m y, k = m + 1 → L[m]? = some y → LtD y d) : WithD L d (L.take k ++ [(d.1, d.2)] ++ L.drop k) := by
  rw [List.append_assoc]
  refine WithD.put hr k (fun x hx => ?_) fun x hx => ?_
  · obtain ⟨t, ht⟩ := List.getElem?_of_mem hx
    rw [List.getElem?_take] at ht
    split at ht
    · rename_i htk
      obtain ⟨m, rfl⟩ : ∃ m, k = m + 1 := ⟨k - 1, by omega⟩
      rcases Nat.lt_or_ge t m with h | h
      · have hy := List.getElem?_eq_getElem (show m < L.length by omega)
        exact (rise_get hr ht hy h).trans (hlo m _ rfl hy)
      · obtain rfl : t = m := by omega
        exact hlo t _ rfl ht
    · cases ht
  · obtain ⟨t, ht⟩ := List.getElem?_of_mem hx
    rw [List.getElem?_drop] at ht
    exact hup _ _ (by omega) ht

theorem appD3 (w : World) (A0 A2 : Option Addr) (n0 c0 n2 c2 : Nat) (x1 x2 : Int) (L0 L2 : List (Int × Int)) (h0 : Dl w A0 n0 c0 L0) (h2 : Dl w A2 n2 c2 L2) (hT : n0 + 1 + n2 ≤ 1000000) :
    ∃ v1 w1 v2 w2 v3 w3, (Builtin.append_ #[27, 27] 27 #[.slice (some ⟨w.heap.size, 0, none⟩) 0 0, .slice A0 n0 c0]).run Tryz.prog (w.alloc (.cells #[] 43)) = .ok v1 w1 ∧
      (Builtin.append_ #[27, 27] 27 #[v1, .slice (some ⟨w1.heap.size, 0, none⟩) 1 1]).run Tryz.prog (w1.alloc (.cells #[.int .i64 x1, .int .i64 x2] 43)) = .ok v2 w2 ∧
      (Builtin.append_ #[27, 27] 27 #[v2, .slice A2 n2 c2]).run Tryz.prog w2 = .ok v3 w3 ∧
      w3.ownsRow w.heap.size 43 2 v3 (n0 + 1 + n2) (flatD (L0 ++ [(x1, x2)] ++ L2)) ∧ Kept w w1 ∧ Kept w w2 ∧ Kept w w3 := by
  have hk0 : Kept w (w.alloc (.cells #[] 43)) := (Kept.refl w).alloc _ _
  have ho0 : (w.alloc (.cells #[] 43)).ownsRow w.heap.size 43 2 (.slice (some ⟨w.heap.size, 0, none⟩) 0 0) 0 [] := World.ownsRow_made w #[] 0 (Nat.le_refl _) (by simp [maxLen]) rfl
  obtain ⟨v1, w1, hr1, ho1, hg1⟩ := app_dots _ _ _ _ _ ho0 A0 n0 c0 L0 (h0.kept hk0) (by omega) hk0.2.2
  have hk1 : Kept w w1 := kept_grown hk0 hg1 fun j hj => (ho0.lt j hj).1
  have hk1' := hk1.alloc #[.int .i64 x1, .int .i64 x2] 43
  have ho1' := ho1.alloc (.cells #[.int .i64 x1, .int .i64 x2] 43)
  obtain ⟨v2, w2, hr2, ho2, hg2⟩ := app_dots _ _ _ _ _ ho1' (some ⟨w1.heap.size, 0, none⟩) 1 1 [(x1, x2)] (dl_one w1 x1 x2 _) (by omega) hk1'.2.2
  have hk2 : Kept w w2 := kept_grown hk1' hg2 fun j hj => (ho1'.lt j hj).1
  obtain ⟨v3, w3, hr3, ho3, hg3⟩ := app_dots _ _ _ _ _ ho2 A2 n2 c2 L2 (h2.kept hk2) (by omega) hk2.2.2
  have hk3 : Kept w w3 := kept_grown hk2 hg3 fun j hj => (ho2.lt j hj).1
  refine ⟨v1, w1, v2, w2, v3, w3, hr1, hr2, hr3, ?_, hk1, hk2, hk3⟩
  rw [Nat.zero_add, List.nil_append, ← flatD_app, ← flatD_app] at ho3
  exact ho3

set_option maxRecDepth 100000 in
set_option maxHeartbeats 2000000 in
theorem rdwith_any (A : Option Addr) (n c : Nat) (L : List (Int × Int)) (x1 x2 : Int) (w : World) (h : Dl w A n c L) (hr : Rise L) (hn : n ≤ 999999) :
    Calls Tryz.prog 109 #[.slice A n c, .agg #[.int .i64 x1, .int .i64 x2]] w (Withs A L (x1, x2) w) := by
  have hcap := h.cap.1
  have hcap2 := h.cap.2
  have HR := Lib.hid hr
  have HD := Lib.hid h
  have HL := Lib.hid h.1
  clear h hr
  go_enter Tryz.func109, Tryz.ntmps109
  go_wp2_with fail
  go_loopw [5] (fun i wr => ∃ k : Nat, k ≤ n ∧ i = .int .i64 k ∧ Kept (w.alloc (.cells #[.int .i64 x1, .int .i64 x2] 43)) wr ∧ ∀ t y, k ≤ t → L[t]? = some y → LtD (x1, x2) y) (fun i _ => (intOf i).toNat)
  case atStart => exact ⟨n, Nat.le_refl _, rfl, Kept.refl _, fun t y ht hy => absurd (List.getElem?_eq_some_iff.1 hy).1 (by have := HL.out; omega)⟩
  case round =>
    obtain ⟨k, hk, rfl, hkr, hup⟩ := hrel
    have HU := Lib.hid hup
    have HKR := Lib.hid hkr
    have hkr0 := Lib.hid hkr
    have HW := Lib.hid (((Kept.refl w).alloc #[.int .i64 x1, .int .i64 x2] 43).trans hkr)
    have d0 := KExt.cell hkr.box0
    have d1 := KExt.cell hkr.box1
    clear hup hkr
    rcases Nat.eq_zero_or_pos k with h0 | h0
    · have q : decide ((0 : Int) < k) = false := by rw [decide_eq_false_iff_not]; omega
      have q2 : decide (0 < k) = false := by rw [decide_eq_false_iff_not]; omega
      have HX := Lib.hid (with_at (L := L) (d := (x1, x2)) (k := k) HR.out (by omega) HU.out (fun m y e => by omega))
      clear h0
      go_wp2_with fail
      refine region_kept _ (by kernel_rfl) (by kernel_rfl) (Kept.refl _) ?_
      repeat (go_big_quiet_step ((first
        | (go_at_call 84; (with_reducible exact KExt.callsK (AC.out _)))
        | fail)))
      refine wpQuiet_nil ?_
      intro G
      go_wp2_with fail
      refine region_kept wr (by kernel_rfl) (by kernel_rfl) G.g ?_
      repeat (go_big_quiet_step (fail))
      refine wpQuiet_nil ?_
      intro G2
      obtain ⟨wz, hz⟩ := G2
      have f0 := hz.cell (hkr0.out.box0)
      have f1 := hz.cell (hkr0.out.box1)
      simp only
      obtain ⟨A2, ht, hr2, hr3⟩ := dl_tail (HD.out.kept (HW.out.trans hz)) hk
      have hr4 := run_dhead A n c k (by omega)
      have hr5 := run_dhead2 A n c k (by omega)
      obtain ⟨v1, w1, v2, w2, v3, w3, ha1, ha2, ha3, ho, hk1, hk2, hk3⟩ := appD3 wz A A2 k c (n - k) (c - k) x1 x2 (L.take k) (L.drop k) (dl_head (HD.out.kept (HW.out.trans hz)) hk) ht (by omega)
      have HA1 := Lib.hid ha1
      have HA2 := Lib.hid ha2
      have HA3 := Lib.hid ha3
      have HO := Lib.hid ho
      have HK3 := Lib.hid (HW.out.trans (hz.trans hk3))
      have HZ := Lib.hid (HW.out.trans hz).2.2
      have e0 := hk1.cell f0
      have e1 := hk1.cell f1
      clear ha1 ha2 ha3 ho hk1 hk2 hk3 ht d0 d1 f0 f1 hz
      go_wp2_with (first
        | (at_builtin; refine Lib.wpList_append_run _ rfl (.tmp 35) (.tmp 38) _ _ rfl _ _ rfl rfl _ _ HA1.out ?_)
        | (at_builtin; refine Lib.wpList_append_run _ rfl (.tmp 40) (.tmp 42) _ _ rfl _ _ rfl rfl _ _ HA2.out ?_)
        | (at_builtin; refine Lib.wpList_append_run _ rfl (.tmp 44) (.tmp 47) _ _ rfl _ _ rfl rfl _ _ HA3.out ?_))
      obtain ⟨A3, c3, rfl, hd, hf⟩ := Dl.of_own' HO.out
      go_ret
      exact ⟨A3, _, c3, _, rfl, hd, HX.out, by have := HL.out; omega, HK3.out, .inr fun ad e => Nat.le_trans HZ.out (hf ad e)⟩
    · obtain ⟨m, hkm⟩ : ∃ m, k = m + 1 := ⟨k - 1, by omega⟩
      have q : decide ((0 : Int) < k) = true := by rw [decide_eq_true_iff]; omega
      have q2 : decide (0 < k) = true := by rw [decide_eq_true_iff]; omega
      have hmn : m < n := by omega
      obtain ⟨g, o, ⟨y1, y2⟩, rfl, hy, g1, g2⟩ := (HD.out.kept HW.out).get hmn
      have c1 := KExt.cell g1
      have c2 := KExt.cell g2
      simp only at c1 c2
      have HY := Lib.hid hy
      have hsub : IntKind.i64.wrap ((k : Int) - 1) = (m : Int) := by rw [IntWalk.i64_in _ (by omega)]; omega
      have HKM := Lib.hid hkm
      clear g1 g2 hy h0 hkm
      obtain ⟨r, hrr⟩ : ∃ r, cmpD (y1, y2) (x1, x2) = r := ⟨_, rfl⟩
      have AC := Lib.hid (fun w => rcmp_c (y1, y2) (x1, x2) r hrr w)
      rcases LtD.tri (y1, y2) (x1, x2) with hl | hl | hl
      · have hr0 : decide (0 < r) = false := by rw [decide_eq_false_iff_not, ← hrr, cmpD_gt]; exact LtD.asymm hl
        have hne : ¬ ((y1, y2) : Int × Int) = (x1, x2) := fun e => LtD.irrefl _ (e ▸ hl)
        have HX := Lib.hid (with_at (L := L) (d := (x1, x2)) (k := k) HR.out (by have := HL.out; omega) HU.out (fun m' y e hy => by
          obtain rfl : m' = m := by have := HKM.out; omega
          obtain rfl := Option.some.inj (hy.symm.trans HY.out)
          exact hl))
        clear hl hrr
        rcases dot_ne hne with e1 | ⟨e1, e2⟩
        · clear hne
          go_wp2_with fail
          refine region_kept _ (by kernel_rfl) (by kernel_rfl) (Kept.refl _) ?_
          repeat (go_big_quiet_step ((first
            | (go_at_call 84; (with_reducible exact KExt.callsK (AC.out _)))
            | fail)))
          refine wpQuiet_nil ?_
          intro G
          go_wp2_with fail
          refine region_kept wr (by kernel_rfl) (by kernel_rfl) G.g ?_
          repeat (go_big_quiet_step (fail))
          refine wpQuiet_nil ?_
          intro G2
          clear c1 c2 e1 hr0 hsub
          generalize (some (⟨g, o, none⟩ : Addr)) = A at HD ⊢
          obtain ⟨wz, hz⟩ := G2
          have f0 := hz.cell (hkr0.out.box0)
          have f1 := hz.cell (hkr0.out.box1)
          simp only
          obtain ⟨A2, ht, hr2, hr3⟩ := dl_tail (HD.out.kept (HW.out.trans hz)) hk
          have hr4 := run_dhead A n c k (by omega)
          have hr5 := run_dhead2 A n c k (by omega)
          obtain ⟨v1, w1, v2, w2, v3, w3, ha1, ha2, ha3, ho, hk1, hk2, hk3⟩ := appD3 wz A A2 k c (n - k) (c - k) x1 x2 (L.take k) (L.drop k) (dl_head (HD.out.kept (HW.out.trans hz)) hk) ht (by omega)
          have HA1 := Lib.hid ha1
          have HA2 := Lib.hid ha2
          have HA3 := Lib.hid ha3
          have HO := Lib.hid ho
          have HK3 := Lib.hid (HW.out.trans (hz.trans hk3))
          have HZ := Lib.hid (HW.out.trans hz).2.2
          have e0 := hk1.cell f0
          have e1 := hk1.cell f1
          clear ha1 ha2 ha3 ho hk1 hk2 hk3 ht d0 d1 f0 f1 hz
          go_wp2_with (first
            | (at_builtin; refine Lib.wpList_append_run _ rfl (.tmp 35) (.tmp 38) _ _ rfl _ _ rfl rfl _ _ HA1.out ?_)
            | (at_builtin; refine Lib.wpList_append_run _ rfl (.tmp 40) (.tmp 42) _ _ rfl _ _ rfl rfl _ _ HA2.out ?_)
            | (at_builtin; refine Lib.wpList_append_run _ rfl (.tmp 44) (.tmp 47) _ _ rfl _ _ rfl rfl _ _ HA3.out ?_))
          obtain ⟨A3, c3, rfl, hd, hf⟩ := Dl.of_own' HO.out
          go_ret
          exact ⟨A3, _, c3, _, rfl, hd, HX.out, by have := HL.out; omega, HK3.out, .inr fun ad e => Nat.le_trans HZ.out (hf ad e)⟩
        · clear hne
          go_wp2_with fail
          refine region_kept _ (by kernel_rfl) (by kernel_rfl) (Kept.refl _) ?_
          repeat (go_big_quiet_step ((first
            | (go_at_call 84; (with_reducible exact KExt.callsK (AC.out _)))
            | fail)))
          refine wpQuiet_nil ?_
          intro G
          go_wp2_with fail
          refine region_kept wr (by kernel_rfl) (by kernel_rfl) G.g ?_
          repeat (go_big_quiet_step (fail))
          refine wpQuiet_nil ?_
          intro G2
          clear c1 c2 e1 e2 hr0 hsub
          generalize (some (⟨g, o, none⟩ : Addr)) = A at HD ⊢
          obtain ⟨wz, hz⟩ := G2
          have f0 := hz.cell (hkr0.out.box0)
          have f1 := hz.cell (hkr0.out.box1)
          simp only
          obtain ⟨A2, ht, hr2, hr3⟩ := dl_tail (HD.out.kept (HW.out.trans hz)) hk
          have hr4 := run_dhead A n c k (by omega)
          have hr5 := run_dhead2 A n c k (by omega)
          obtain ⟨v1, w1, v2, w2, v3, w3, ha1, ha2, ha3, ho, hk1, hk2, hk3⟩ := appD3 wz A A2 k c (n - k) (c - k) x1 x2 (L.take k) (L.drop k) (dl_head (HD.out.kept (HW.out.trans hz)) hk) ht (by omega)
          have HA1 := Lib.hid ha1
          have HA2 := Lib.hid ha2
          have HA3 := Lib.hid ha3
          have HO := Lib.hid ho
          have HK3 := Lib.hid (HW.out.trans (hz.trans hk3))
          have HZ := Lib.hid (HW.out.trans hz).2.2
          have e0 := hk1.cell f0
          have e1 := hk1.cell f1
          clear ha1 ha2 ha3 ho hk1 hk2 hk3 ht d0 d1 f0 f1 hz
          go_wp2_with (first
            | (at_builtin; refine Lib.wpList_append_run _ rfl (.tmp 35) (.tmp 38) _ _ rfl _ _ rfl rfl _ _ HA1.out ?_)
            | (at_builtin; refine Lib.wpList_append_run _ rfl (.tmp 40) (.tmp 42) _ _ rfl _ _ rfl rfl _ _ HA2.out ?_)
            | (at_builtin; refine Lib.wpList_append_run _ rfl (.tmp 44) (.tmp 47) _ _ rfl _ _ rfl rfl _ _ HA3.out ?_))
          obtain ⟨A3, c3, rfl, hd, hf⟩ := Dl.of_own' HO.out
          go_ret
          exact ⟨A3, _, c3, _, rfl, hd, HX.out, by have := HL.out; omega, HK3.out, .inr fun ad e => Nat.le_trans HZ.out (hf ad e)⟩
      · have hr0 : decide (0 < r) = false := by rw [decide_eq_false_iff_not, ← hrr, cmpD_gt, hl]; exact LtD.irrefl _
        have HX := Lib.hid (WithD.self HR.out (hl ▸ List.mem_of_getElem? HY.out))
        simp only [Prod.mk.injEq] at hl
        have e1 : (y1 == x1) = true := by simpa using hl.1
        have e2 : (y2 == x2) = true := by simpa using hl.2
        clear hl hrr
        go_wp2_with fail
        refine region_kept _ (by kernel_rfl) (by kernel_rfl) (Kept.refl _) ?_
        repeat (go_big_quiet_step ((first
          | (go_at_call 84; (with_reducible exact KExt.callsK (AC.out _)))
          | fail)))
        refine wpQuiet_nil ?_
        intro G
        go_wp2_with fail
        refine region_kept wr (by kernel_rfl) (by kernel_rfl) G.g ?_
        repeat (go_big_quiet_step (fail))
        refine wpQuiet_nil ?_
        intro G2
        clear c1 c2 e1 e2 hr0 hsub d0 d1
        go_wp2_with fail
        go_ret
        exact ⟨some ⟨g, o, none⟩, n, c, L, rfl, HD.out.kept (HW.out.trans G2.g), HX.out, by have := HL.out; omega, HW.out.trans G2.g, .inl rfl⟩
      · have hr0 : decide (0 < r) = true := by rw [decide_eq_true_iff, ← hrr, cmpD_gt]; exact hl
        have HN := Lib.hid (show ∀ t y, m ≤ t → L[t]? = some y → LtD (x1, x2) y from fun t y ht hy => by
          rcases Nat.lt_or_ge m t with h3 | h3
          · exact HU.out t y (by have := HKM.out; omega) hy
          · obtain rfl : t = m := by omega
            obtain rfl := Option.some.inj (hy.symm.trans HY.out)
            exact hl)
        clear hl hrr
        go_wp2_with fail
        refine region_kept _ (by kernel_rfl) (by kernel_rfl) (Kept.refl _) ?_
        repeat (go_big_quiet_step ((first
          | (go_at_call 84; (with_reducible exact KExt.callsK (AC.out _)))
          | fail)))
        refine wpQuiet_nil ?_
        intro G
        clear c1 c2 hr0 d0 d1
        go_wp2_with fail
        go_roundw
        case rel => exact ⟨m, by omega, by go_num, HKR.out.trans G.g, HN.out⟩
        case measure => have := HKM.out; simp [intOf]; omega

set_option maxRecDepth 100000 in
set_option maxHeartbeats 2000000 in
theorem rdsort_any (A : Option Addr) (n c : Nat) (L : List (Int × Int)) (w : World) (h : Dl w A n c L) (hn : n ≤ 999990) :
    Calls Tryz.prog 94 #[.slice A n c] w (Sorts L w) := by
  have hcap := h.cap.1
  have hcap2 := h.cap.2
  have HL := Lib.hid h.1
  have HD := Lib.hid h
  clear h
  go_enter Tryz.func94, Tryz.ntmps94
  go_wp2_with fail
  go_loopw [3, 8] (fun v i wr => ∃ (k : Nat) (A1 : Option Addr) (m c1 : Nat) (X : List (Int × Int)), k ≤ n ∧ i = .int .i64 k ∧ v = .slice A1 m c1 ∧ Dl wr A1 m c1 X ∧ SortD (L.take k) X ∧ m ≤ k ∧ Kept w wr ∧ ∀ ad, A1 = some ad → w.heap.size ≤ ad.block) (fun _ i _ => n - (intOf i).toNat)
  case atStart => exact ⟨0, none, 0, 0, [], Nat.zero_le _, rfl, rfl, Dl.nil _, ⟨rise_nil, fun x => Iff.rfl⟩, Nat.le_refl _, Kept.refl _, fun ad e => by cases e⟩
  case round =>
    obtain ⟨k, A1, m, c1, X, hk, rfl, rfl, hd, hs, hm, hkr, hfr⟩ := hrel
    have HFR := Lib.hid hfr
    have HD1 := Lib.hid hd
    have HS := Lib.hid hs
    have HK := Lib.hid hkr
    have HM := Lib.hid hd.1
    clear hd hs hkr hfr
    by_cases hlt : k < n
    · obtain ⟨g, o, ⟨y1, y2⟩, rfl, hy, g1, g2⟩ := (HD.out.kept HK.out).get hlt
      have HY := Lib.hid hy
      clear hy
      simp only at g1 g2
      have AC := Lib.hid (rdwith_any A1 m c1 X y1 y2 (wr.alloc (.cells #[.int .i64 y1, .int .i64 y2] 43)) (HD1.out.kept ((Kept.refl _).alloc _ _)) HS.out.rise (by omega))
      go_wp2_with fail
      go_at_call 109
      refine AC.out.mono ?_
      rintro e w2 ⟨A2, m2, c2, X2, rfl, hd2, hw2, hm2, hk2, hf2⟩
      have HF2 := Lib.hid hf2
      have HD2 := Lib.hid hd2
      have HW2 := Lib.hid hw2
      have HK2 := Lib.hid (HK.out.trans (((Kept.refl wr).alloc _ _).trans hk2))
      clear hd2 hw2 hk2 hf2 g1 g2
      go_wp2_with fail
      go_roundw
      case rel =>
        refine ⟨k + 1, A2, m2, c2, X2, hlt, by go_num, rfl, HD2.out, ?_, by have := HM.out; omega, HK2.out, fun ad e => by
          rcases HF2.out with h | h
          · exact HFR.out ad (h ▸ e)
          · exact Nat.le_trans (Nat.le_trans HK.out.2.2 (by simp)) (h ad e)⟩
        rw [List.take_add_one, HY.out]
        exact HS.out.step HW2.out
      case measure => simp [intOf]; omega
    · obtain rfl : k = n := by omega
      go_wp2_with fail
      go_ret
      exact ⟨A1, m, c1, X, rfl, HD1.out, by have := HS.out; rwa [List.take_of_length_le (by rw [HL.out]; exact Nat.le_refl _)] at this, by have := HL.out; omega, HK.out, HFR.out⟩
end Go.Proofs.YtcldbmhjfmbcfaaGreat

namespace Go.Proofs.YtcldbmhjfmbcfaaGreat
open Go.RowKit

/-- What is asked of the j-th dot. -/
def DotOk (V : List Int) (C : List (Int × Int)) (j : Nat) (d : Int × Int) : Prop := rightD d = true ∧ atV V d.1 < d.2 - 1 ∧ ∀ i e, j = i + 1 → C[i]? = some e → LtD e d
theorem right_of {V : List Int} {C : List (Int × Int)} (hb : ∀ i x, V[i]? = some x → 0 ≤ x ∧ x ≤ 1073741824 ∧ (i + 1 = V.length → x ≠ 0)) (hc : ∀ j d, C[j]? = some d → DotOk V C j d) (hl : V.length ≤ 64) : RightC V C := by
  have hrise : ∀ m, m ≤ C.length → Rise (C.take m) := by
    intro m
    induction m with
    | zero => intro _; rw [List.take_zero]; exact rise_nil
    | succ m ih =>
      intro hm
      have h1 := ih (by omega)
      have hd := List.getElem?_eq_getElem (show m < C.length by omega)
      rw [List.take_add_one, hd]
      unfold Rise
      rw [List.pairwise_append]
      refine ⟨h1, by simp, fun x hx y hy => ?_⟩
      obtain rfl : y = C[m] := by simpa using hy
      have hok := (hc m _ hd).2.2
      cases m with
      | zero => rw [List.take_zero] at hx; cases hx
      | succ i =>
        have he := List.getElem?_eq_getElem (show i < C.length by omega)
        have hlt := hok i _ rfl he
        obtain ⟨q, hq⟩ := List.getElem?_of_mem hx
        have hql := (List.getElem?_eq_some_iff.1 hq).1
        rw [List.length_take] at hql
        rcases Nat.lt_or_ge q i with h | h
        · have hi : (C.take (i + 1))[i]? = some C[i] := by rw [List.getElem?_take, if_pos (by omega)]; exact he
          exact (rise_get h1 hq hi h).trans hlt
        · obtain rfl : q = i := by omega
          rw [List.getElem?_take, if_pos (by omega), he] at hq
          obtain rfl := Option.some.inj hq
          exact hlt
  refine ⟨⟨hl, fun x hx => ?_⟩, fun k hk => ?_, ?_, fun d hd => ?_, fun d hd => ?_⟩
  · obtain ⟨i, hi⟩ := List.getElem?_of_mem hx
    exact ⟨(hb i x hi).1, (hb i x hi).2.1⟩
  · have hi := List.getElem?_eq_getElem (show k < V.length by omega)
    rw [List.getD_eq_getElem?_getD, hi]
    exact (hb k _ hi).2.2 hk.symm
  · have := hrise C.length (Nat.le_refl _)
    rwa [List.take_length] at this
  · obtain ⟨j, hj⟩ := List.getElem?_of_mem hd
    exact (hc j d hj).1
  · obtain ⟨j, hj⟩ := List.getElem?_of_mem hd
    exact (hc j d hj).2.1
theorem RightC.ok {V : List Int} {C : List (Int × Int)} (h : RightC V C) {j : Nat} {d : Int × Int} (hd : C[j]? = some d) : DotOk V C j d :=
  ⟨h.right d (List.mem_of_getElem? hd), h.apart d (List.mem_of_getElem? hd), fun i e hj he => rise_get h.rise he hd (by omega)⟩
theorem no_r {r : Bool} {P : Prop} (hr : r = true ↔ P) (h : ¬ P) : false = r := by
  cases r with
  | true => exact absurd (hr.1 rfl) h
  | false => rfl
theorem yes_r {r b : Bool} {P : Prop} (hr : r = true ↔ P) (h : b = true ↔ P) : b = r := by
  rw [Bool.eq_iff_iff, h, hr]

end Go.Proofs.YtcldbmhjfmbcfaaGreat

namespace Go.Proofs.YtcldbmhjfmbcfaaGreat
open Go.RowKit

theorem Kept.blk {W W' : World} (h : Kept W W') {i : Nat} (hi : i < W.heap.size) : W'.heap[i]? = W.heap[i]? := by
  have hk := h.1.2.2 i hi
  cases h1 : W.heap[i]? with
  | none => rw [h1] at hk; exact hk
  | some o =>
    rw [h1] at hk
    cases h2 : W'.heap[i]? with
    | none => rw [h2] at hk; cases o <;> simp at hk
    | some o' =>
      rw [h2] at hk
      cases o <;> cases o' <;> simp only [false_or, Option.some.injEq, reduceCtorEq] at hk ⊢
      case cells.cells c t fr c' t' fr' =>
        obtain ⟨rfl, rfl, _, he⟩ := hk
        have : c' = c := Array.ext_getElem? fun j => he j (fun f => f)
        subst this; rfl
      all_goals first | exact hk | (obtain ⟨rfl, rfl⟩ := hk; rfl)
theorem kept_blk {W W' : World} (h1 : W'.os = W.os) (h2 : W'.output = W.output) (h3 : W.heap.size ≤ W'.heap.size) (h : ∀ i, i < W.heap.size → W'.heap[i]? = W.heap[i]?) : Kept W W' := by
  refine ⟨⟨h1, h2, fun i hi => ?_⟩, fun a ha => World.frozen?_of_block (w := W) (h _ ha), h3⟩
  have := (World.keptBut_refl W (fun _ => False)).2.2 i hi
  rw [h i hi]
  exact this

/-- All that W has, but for block G. -/
structure KeptE (G : Nat) (W w : World) : Prop where
  os : w.os = W.os
  output : w.output = W.output
  size : W.heap.size ≤ w.heap.size
  blk : ∀ i, i < W.heap.size → i ≠ G → w.heap[i]? = W.heap[i]?
theorem KeptE.of {G : Nat} {W w : World} (h : Kept W w) : KeptE G W w := ⟨h.1.1, h.1.2.1, h.2.2, fun _ hi _ => h.blk hi⟩
theorem KeptE.refl (G : Nat) (W : World) : KeptE G W W := .of (Kept.refl W)
theorem KeptE.trans {G : Nat} {W w u : World} (h : KeptE G W w) (k : Kept w u) : KeptE G W u :=
  ⟨k.1.1.trans h.os, k.1.2.1.trans h.output, Nat.le_trans h.size k.2.2, fun i hi hg => (k.blk (Nat.lt_of_lt_of_le hi h.size)).trans (h.blk i hi hg)⟩
theorem KeptE.grown {G : Nat} {W w u : World} {row : Option Nat} (h : KeptE G W w) (k : w.grownBy u row) (hr : ∀ g, row = some g → g = G ∨ W.heap.size ≤ g) : KeptE G W u :=
  ⟨k.os.trans h.os, k.output.trans h.output, Nat.le_trans h.size k.size, fun i hi hg => (k.block i (Nat.lt_of_lt_of_le hi h.size) (fun e => by
    rcases hr i e.symm with h1 | h1
    · exact hg h1
    · omega)).trans (h.blk i hi hg)⟩
theorem KeptE.set {G : Nat} {W w : World} (h : KeptE G W w) {a : Addr} (ha : a.block = G ∨ W.heap.size ≤ a.block) (v : Value) : KeptE G W (w.setCell a v) :=
  ⟨h.os, h.output, by have := h.size; simpa [World.setCell] using this, fun i hi hg => by
    rw [Deep.blk_setCell_other w a v i (fun e => by rcases ha with h1 | h1 <;> omega)]
    exact h.blk i hi hg⟩
theorem KeptE.kept {G : Nat} {W0 W w : World} (h : KeptE G W w) (k : Kept W0 W) (hG : W0.heap.size ≤ G) : Kept W0 w :=
  kept_blk (h.os.trans k.1.1) (h.output.trans k.1.2.1) (Nat.le_trans k.2.2 h.size) fun i hi => (h.blk i (Nat.lt_of_lt_of_le hi k.2.2) (by omega)).trans (k.blk hi)
theorem KeptE.cell {G : Nat} {W w : World} (h : KeptE G W w) {b o : Nat} {v : Value} (hb : b ≠ G) (hc : W.cell? ⟨b, o, none⟩ = some v) : w.cell? ⟨b, o, none⟩ = some v := by
  rw [World.cell?_of_block (w := W) (h.blk b (World.block_lt_of_cell? W _ hc) hb)]
  exact hc
theorem KeptE.froz {G : Nat} {W w : World} (h : KeptE G W w) {b o : Nat} {f : Bool} (hb : b ≠ G) (hl : b < W.heap.size) (hc : W.frozen? ⟨b, o, none⟩ = f) : w.frozen? ⟨b, o, none⟩ = f := by
  rw [World.frozen?_of_block (w := W) (h.blk b hl hb)]
  exact hc
end Go.Proofs.YtcldbmhjfmbcfaaGreat

namespace Go.Proofs.YtcldbmhjfmbcfaaGreat
open Go.RowKit

theorem Dl.keptE {G : Nat} {w w' : World} {A : Option Addr} {n c : Nat} {L : List (Int × Int)} (h : Dl w A n c L) (hk : KeptE G w w') (hA : ∀ ad, A = some ad → ad.block ≠ G) : Dl w' A n c L :=
  ⟨h.1, h.2.1, h.2.2.1, h.2.2.2.1, h.2.2.2.2.imp id fun ⟨b, o, hA2, hc⟩ => ⟨b, o, hA2, fun j x hj => ⟨hk.cell (hA _ hA2) (hc j x hj).1, hk.cell (hA _ hA2) (hc j x hj).2⟩⟩⟩
theorem Il.keptE {G : Nat} {w w' : World} {A : Option Addr} {n c : Nat} {V : List Int} (h : Il w A n c V) (hk : KeptE G w w') (hA : ∀ ad, A = some ad → ad.block ≠ G) : Il w' A n c V :=
  ⟨h.1, h.2.1, h.2.2.1, h.2.2.2.1, h.2.2.2.2.imp id fun ⟨b, o, hA2, hc⟩ => ⟨b, o, hA2, fun j x hj => hk.cell (hA _ hA2) (hc j x hj)⟩⟩

theorem app_dots_at (w : World) (base : Nat) (v : Value) (n : Nat) (xs : List Value) (h : w.ownsRow base 43 2 v n xs) (A : Option Addr) (m c : Nat) (L : List (Int × Int)) (hs : Dl w A m c L) (hb : n + m ≤ 8000000000000) (hbase : base ≤ w.heap.size) :
    ∃ v' w', (Builtin.append_ #[27, 27] 27 #[v, .slice A m c]).run Tryz.prog w = .ok v' w' ∧ w'.ownsRow base 43 2 v' (n + m) (xs ++ flatD L) ∧ w.grownBy w' v.ownBlock ∧ (v'.ownBlock = v.ownBlock ∨ v'.ownBlock = some w.heap.size) := by
  obtain ⟨i0, hi0, hz0, hz1, hz2⟩ := info_parts infoDot
  cases A with
  | none =>
    obtain rfl := hs.2.2.2.1 rfl
    obtain rfl : m = 0 := by have := hs.2.1; omega
    have hL : L = [] := List.eq_nil_of_length_eq_zero hs.1.symm
    subst hL
    exact ⟨v, w, run_append_owned_none w base _ _ _ i0 2 Tryz.underlying27 hi0 v n xs h, by simpa [flatD_nil] using h, World.grownBy.refl w _, .inl rfl⟩
  | some ad =>
    obtain ⟨v', w', hr, ho, hg, _, hat⟩ := run_append_own_at (P := Tryz.prog) w base 27 27 43 i0 (.agg #[.int .i64 0, .int .i64 0]) 2 16 Tryz.underlying27 hi0 hz0 hz1 hz2 rfl (by decide) v n xs h ad m c (flatD L)
      (by rw [flatD_len, hs.1]) (fun j u hj => by
        obtain ⟨k, x, hk, hc⟩ := flatD_at L j u hj
        have hkl := (List.getElem?_eq_some_iff.1 hk).1
        obtain ⟨b, o, y, hA, hy, c1, c2⟩ := hs.get (k := k) (by rw [hs.1]; exact hkl)
        obtain rfl : y = x := Option.some.inj (hy.symm.trans hk)
        obtain rfl := Option.some.inj hA
        rw [Addr.add_lit]
        rcases hc with ⟨rfl, rfl⟩ | ⟨rfl, rfl⟩
        · exact c1
        · exact c2) (flatD_one _) (by simp only [maxLen]; omega) (by omega) hbase
    exact ⟨v', w', hr, ho, hg, hat⟩


section
variable {w : World} {base : Nat} {e : TypeId} {size : Nat} {v : Value} {n : Nat} {xs : List Value}
theorem own_blk {w' : World} (h : w.ownsRow base e size v n xs) (hb : ∀ g, v.ownBlock = some g → w'.heap[g]? = w.heap[g]?) : w'.ownsRow base e size v n xs := by
  obtain ⟨h1, h2⟩ := h
  refine ⟨h1, ?_⟩
  rcases h2 with h2 | ⟨g, cap, cur, rfl, hg, hh, r⟩
  · exact .inl h2
  · exact .inr ⟨g, cap, cur, rfl, hg, by rw [hb g rfl]; exact hh, r⟩
theorem own_kept {w' : World} (h : w.ownsRow base e size v n xs) (hk : Kept w w') : w'.ownsRow base e size v n xs :=
  own_blk h fun g hg => hk.blk (h.lt g hg).2
theorem own_kind (h : w.ownsRow base e size v n xs) {g : Nat} (hg : v.ownBlock = some g) : ∃ c, w.heap[g]? = some (.cells c e (0, 0)) := by
  rcases h.2 with ⟨rfl, _⟩ | ⟨g', cap, cur, rfl, _, hgg, _⟩
  · simp [Value.ownBlock] at hg
  · simp [Value.ownBlock] at hg
    subst hg
    exact ⟨cur, hgg⟩
/-- Rows of two kinds of elements lie in two blocks. -/
theorem own_apart {base' size' n' : Nat} {e' : TypeId} {u : Value} {ys : List Value} (h : w.ownsRow base e size v n xs) (k : w.ownsRow base' e' size' u n' ys) (he : e ≠ e') : v.ownBlock = none ∨ v.ownBlock ≠ u.ownBlock := by
  cases hv : v.ownBlock with
  | none => exact .inl rfl
  | some g =>
    refine .inr fun hu => ?_
    obtain ⟨c1, h1⟩ := own_kind h hv
    obtain ⟨c2, h2⟩ := own_kind k hu.symm
    rw [h1] at h2
    simp only [Option.some.injEq, Obj.cells.injEq] at h2
    exact he h2.2.1
end
theorem own_mono {w : World} {base base' : Nat} {e : TypeId} {size : Nat} {v : Value} {n : Nat} {xs : List Value} (h : w.ownsRow base e size v n xs) (hb : ∀ g, v.ownBlock = some g → base' ≤ g) : w.ownsRow base' e size v n xs := by
  obtain ⟨h1, h2⟩ := h
  refine ⟨h1, ?_⟩
  rcases h2 with h2 | ⟨g, cap, cur, rfl, hg, r⟩
  · exact .inl h2
  · exact .inr ⟨g, cap, cur, rfl, hb g rfl, r⟩
/-- A row of ints that is not empty: its cells may be read and written. -/
theorem own_int {w : World} {base : Nat} {e : TypeId} {v : Value} {n : Nat} {V : List Int} (h : w.ownsRow base e 1 v n (intsV V)) {k : Nat} {x : Int} (hx : V[k]? = some x) :
    ∃ g cap, v = .slice (some ⟨g, 0, none⟩) n cap ∧ base ≤ g ∧ n ≤ cap ∧ cap ≤ maxLen ∧ w.cell? ⟨g, k, none⟩ = some (.int .i64 x) ∧ w.frozen? ⟨g, k, none⟩ = false ∧
      ∀ y : Int, (w.setCell ⟨g, k, none⟩ (.int .i64 y)).ownsRow base e 1 v n (intsV (V.set k y)) := by
  have hk := (List.getElem?_eq_some_iff.1 hx).1
  have hcell := fun g (hg : v.ownBlock = some g) => h.cells (g := g) hg
  obtain ⟨h1, h2⟩ := h
  have hn : n = V.length := by rw [intsV_len] at h1; omega
  rcases h2 with ⟨rfl, h0⟩ | ⟨g, cap, cur, rfl, hg, hh, hnc, hcm, hcs, htk⟩
  · omega
  · have hc := hcell g rfl k _ (intsV_get hx)
    rw [Addr.add_lit, Nat.zero_add] at hc
    refine ⟨g, cap, rfl, hg, hnc, hcm, hc, by simp [World.frozen?, hh], fun y => ⟨by rw [intsV_len, List.length_set, ← intsV_len]; exact h1, .inr ⟨g, cap, cur.setIfInBounds k (.int .i64 y), rfl, hg, ?_, hnc, hcm, by rw [Array.size_setIfInBounds]; exact hcs, ?_⟩⟩⟩
    · show (w.heap.modify g _)[g]? = _
      rw [Array.getElem?_modify, if_pos rfl, hh]
      rfl
    · rw [Array.toList_setIfInBounds]
      apply List.ext_getElem?
      intro i
      have e1 : (cur.toList.take (n * 1))[i]? = (intsV V)[i]? := by rw [htk]
      rw [List.getElem?_take, List.getElem?_set]
      unfold intsV at e1 ⊢
      rw [List.getElem?_map] at e1 ⊢
      rw [List.getElem?_set]
      rw [List.getElem?_take] at e1
      by_cases hi : i < n * 1
      · rw [if_pos hi] at e1 ⊢
        by_cases hki : k = i
        · subst hki
          have hlt : k < cur.size := by omega
          simp [hlt, hk]
        · rw [if_neg hki, if_neg hki]
          exact e1
      · rw [if_neg hi] at e1 ⊢
        have hi2 : V.length ≤ i := by omega
        rw [if_neg (by omega), List.getElem?_eq_none hi2]; rfl
end Go.Proofs.YtcldbmhjfmbcfaaGreat

