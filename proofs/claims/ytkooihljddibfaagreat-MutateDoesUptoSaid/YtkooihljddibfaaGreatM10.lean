/-
  What is proved: the document's With and Sort of layer 5, called with any slice of dots that lies in memory (a rising one for With) and any dot, return what P5.5 and P5.6 say; the world has new blocks at most.
  the document's Right of layer 6, called with any set that lies in memory, tells whether it is right (P6.1); the world has new blocks at most.
  worlds that have all that another one has but for one block ('KeptE'): what is read of other blocks reads on.
-/
import Derived.Test.YtkooihljddibfaaGreatM8
import Derived.Test.YtkooihljddibfaaGreatM9
import Derived.Lib.Walk
import Derived.IntWalk
import Derived.Test.YtkooihljddibfaaGreatM6
import Derived.Deep.Heap
import Derived.OneCell
namespace Go.Proofs.YtkooihljddibfaaGreat
open Go.RowKit

theorem rise_get {L : List (Int × Int)} (hr : Rise L) {s t : Nat} {y z : Int × Int} (hs : L[s]? = some y) (ht : L[t]? = some z) (h : s < t) : LtD y z := by
  obtain ⟨e1, e2⟩ := List.getElem?_eq_some_iff.1 hs
  obtain ⟨e3, e4⟩ := List.getElem?_eq_some_iff.1 ht
  have := List.pairwise_iff_getElem.1 hr s t e1 e3 h
  rwa [e2, e4] at this
theorem with_at {L : List (Int × Int)} {d : Int × Int} {k : Nat} (hr : Rise L) (hkl : k ≤ L.length) (hup : ∀ t y, k ≤ t → L[t]? = some y → LtD d y) (hlo : ∀ m y, k = m + 1 → L[m]? = some y → LtD y d) : WithD L d (L.take k ++ [(d.1, d.2)] ++ L.drop k) := by
  rw [List.append_assoc]
  refine WithD.put hr k (fun x hx => ?_) fun x hx => ?_
  · obtain ⟨t, ht⟩ := List.getElem?_of_mem hx
    rw [List.getElem?_take] at ht
    split at ht
    · rename_i htk
      obtain ⟨m, rfl⟩ : ∃ m, k = m + 1 := ⟨k - 1, by omega⟩
      rcases Nat.lt_or_ge t m with h | h
      · have hy := List.getElem?_eq_getElem (show m < L.length by omega)
        exact (rise_get hr ht hy h).trans (hlo m _ rfl hy)
      · obtain rfl : t = m := by omega
        exact hlo t _ rfl ht
    · cases ht
  · obtain ⟨t, ht⟩ := List.getElem?_of_mem hx
    rw [List.getElem?_drop] at ht
    exact hup _ _ (by omega) ht

theorem appD3 (w : World) (A0 A2 : Option Addr) (n0 c0 n2 c2 : Nat) (x1 x2 : Int) (L0 L2 : List (Int × Int)) (h0 : Dl w A0 n0 c0 L0) (h2 : Dl w A2 n2 c2 L2) (hT : n0 + 1 + n2 ≤ 1000000) :
    ∃ v1 w1 v2 w2 v3 w3, (Builtin.append_ #[24, 24] 24 #[.slice (some ⟨w.heap.size, 0, none⟩) 0 0, .slice A0 n0 c0]).run Tryz.prog (w.alloc (.cells #[] 30)) = .ok v1 w1 ∧
      (Builtin.append_ #[24, 24] 24 #[v1, .slice (some ⟨w1.heap.size, 0, none⟩) 1 1]).run Tryz.prog (w1.alloc (.cells #[.int .i64 x1, .int .i64 x2] 30)) = .ok v2 w2 ∧
      (Builtin.append_ #[24, 24] 24 #[v2, .slice A2 n2 c2]).run Tryz.prog w2 = .ok v3 w3 ∧
      w3.ownsRow w.heap.size 30 2 v3 (n0 + 1 + n2) (flatD (L0 ++ [(x1, x2)] ++ L2)) ∧ Kept w w1 ∧ Kept w w2 ∧ Kept w w3 := by
  have hk0 : Kept w (w.alloc (.cells #[] 30)) := (Kept.refl w).alloc _ _
  have ho0 : (w.alloc (.cells #[] 30)).ownsRow w.heap.size 30 2 (.slice (some ⟨w.heap.size, 0, none⟩) 0 0) 0 [] := World.ownsRow_made w #[] 0 (Nat.le_refl _) (by simp [maxLen]) rfl
  obtain ⟨v1, w1, hr1, ho1, hg1⟩ := app_dots _ _ _ _ _ ho0 A0 n0 c0 L0 (h0.kept hk0) (by omega) hk0.2.2
  have hk1 : Kept w w1 := kept_grown hk0 hg1 fun j hj => (ho0.lt j hj).1
  have hk1' := hk1.alloc #[.int .i64 x1, .int .i64 x2] 30
  have ho1' := ho1.alloc (.cells #[.int .i64 x1, .int .i64 x2] 30)
  obtain ⟨v2, w2, hr2, ho2, hg2⟩ := app_dots _ _ _ _ _ ho1' (some ⟨w1.heap.size, 0, none⟩) 1 1 [(x1, x2)] (dl_one w1 x1 x2 _) (by omega) hk1'.2.2
  have hk2 : Kept w w2 := kept_grown hk1' hg2 fun j hj => (ho1'.lt j hj).1
  obtain ⟨v3, w3, hr3, ho3, hg3⟩ := app_dots _ _ _ _ _ ho2 A2 n2 c2 L2 (h2.kept hk2) (by omega) hk2.2.2
  have hk3 : Kept w w3 := kept_grown hk2 hg3 fun j hj => (ho2.lt j hj).1
  refine ⟨v1, w1, v2, w2, v3, w3, hr1, hr2, hr3, ?_, hk1, hk2, hk3⟩
  rw [Nat.zero_add, List.nil_append, ← flatD_app, ← flatD_app] at ho3
  exact ho3

set_option maxRecDepth 100000 in
set_option maxHeartbeats 2000000 in
theorem rdwith_any (A : Option Addr) (n c : Nat) (L : List (Int × Int)) (x1 x2 : Int) (w : World) (h : Dl w A n c L) (hr : Rise L) (hn : n ≤ 999999) :
    Calls Tryz.prog 91 #[.slice A n c, .agg #[.int .i64 x1, .int .i64 x2]] w (Withs A L (x1, x2) w) := by
  have hcap := h.cap.1
  have hcap2 := h.cap.2
  have HR := Lib.hid hr
  have HD := Lib.hid h
  have HL := Lib.hid h.1
  clear h hr
  go_enter Tryz.func91, Tryz.ntmps91
  go_wp2_with fail
  go_loopw [5] (fun i wr => ∃ k : Nat, k ≤ n ∧ i = .int .i64 k ∧ Kept (w.alloc (.cells #[.int .i64 x1, .int .i64 x2] 30)) wr ∧ ∀ t y, k ≤ t → L[t]? = some y → LtD (x1, x2) y) (fun i _ => (intOf i).toNat)
  case atStart => exact ⟨n, Nat.le_refl _, rfl, Kept.refl _, fun t y ht hy => absurd (List.getElem?_eq_some_iff.1 hy).1 (by have := HL.out; omega)⟩
  case round =>
    obtain ⟨k, hk, rfl, hkr, hup⟩ := hrel
    have HU := Lib.hid hup
    have HKR := Lib.hid hkr
    have hkr0 := Lib.hid hkr
    have HW := Lib.hid (((Kept.refl w).alloc #[.int .i64 x1, .int .i64 x2] 30).trans hkr)
    have d0 := KExt.cell hkr.box0
    have d1 := KExt.cell hkr.box1
    clear hup hkr
    rcases Nat.eq_zero_or_pos k with h0 | h0
    · have q : decide ((0 : Int) < k) = false := by rw [decide_eq_false_iff_not]; omega
      have q2 : decide (0 < k) = false := by rw [decide_eq_false_iff_not]; omega
      have HX := Lib.hid (with_at (L := L) (d := (x1, x2)) (k := k) HR.out (by omega) HU.out (fun m y e => by omega))
      clear h0
      go_wp2_with fail
      refine region_kept _ (by kernel_rfl) (by kernel_rfl) (Kept.refl _) ?_
      repeat (go_big_quiet_step ((first
        | (go_at_call 54; (with_reducible exact KExt.callsK (AC.out _)))
        | fail)))
      refine wpQuiet_nil ?_
      intro G
      go_wp2_with fail
      refine region_kept wr (by kernel_rfl) (by kernel_rfl) G.g ?_
      repeat (go_big_quiet_step (fail))
      refine wpQuiet_nil ?_
      intro G2
      obtain ⟨wz, hz⟩ := G2
      have f0 := hz.cell (hkr0.out.box0)
      have f1 := hz.cell (hkr0.out.box1)
      simp only
      obtain ⟨A2, ht, hr2, hr3⟩ := dl_tail (HD.out.kept (HW.out.trans hz)) hk
      have hr4 := run_dhead A n c k (by omega)
      have hr5 := run_dhead2 A n c k (by omega)
      obtain ⟨v1, w1, v2, w2, v3, w3, ha1, ha2, ha3, ho, hk1, hk2, hk3⟩ := appD3 wz A A2 k c (n - k) (c - k) x1 x2 (L.take k) (L.drop k) (dl_head (HD.out.kept (HW.out.trans hz)) hk) ht (by omega)
      have HA1 := Lib.hid ha1
      have HA2 := Lib.hid ha2
      have HA3 := Lib.hid ha3
      have HO := Lib.hid ho
      have HK3 := Lib.hid (HW.out.trans (hz.trans hk3))
      have HZ := Lib.hid (HW.out.trans hz).2.2
      have e0 := hk1.cell f0
      have e1 := hk1.cell f1
      clear ha1 ha2 ha3 ho hk1 hk2 hk3 ht d0 d1 f0 f1 hz
      go_wp2_with (first
        | (at_builtin; refine Lib.wpList_append_run _ rfl (.tmp 35) (.tmp 38) _ _ rfl _ _ rfl rfl _ _ HA1.out ?_)
        | (at_builtin; refine Lib.wpList_append_run _ rfl (.tmp 40) (.tmp 42) _ _ rfl _ _ rfl rfl _ _ HA2.out ?_)
        | (at_builtin; refine Lib.wpList_append_run _ rfl (.tmp 44) (.tmp 47) _ _ rfl _ _ rfl rfl _ _ HA3.out ?_))
      obtain ⟨A3, c3, rfl, hd, hf⟩ := Dl.of_own' HO.out
      go_ret
      exact ⟨A3, _, c3, _, rfl, hd, HX.out, by have := HL.out; omega, HK3.out, .inr fun ad e => Nat.le_trans HZ.out (hf ad e)⟩
    · obtain ⟨m, hkm⟩ : ∃ m, k = m + 1 := ⟨k - 1, by omega⟩
      have q : decide ((0 : Int) < k) = true := by rw [decide_eq_true_iff]; omega
      have q2 : decide (0 < k) = true := by rw [decide_eq_true_iff]; omega
      have hmn : m < n := by omega
      obtain ⟨g, o, ⟨y1, y2⟩, rfl, hy, g1, g2⟩ := (HD.out.kept HW.out).get hmn
      have c1 := KExt.cell g1
      have c2 := KExt.cell g2
      simp only at c1 c2
      have HY := Lib.hid hy
      have hsub : IntKind.i64.wrap ((k : Int) - 1) = (m : Int) := by rw [IntWalk.i64_in _ (by omega)]; omega
      have HKM := Lib.hid hkm
      clear g1 g2 hy h0 hkm
      obtain ⟨r, hrr⟩ : ∃ r, cmpD (y1, y2) (x1, x2) = r := ⟨_, rfl⟩
      have AC := Lib.hid (fun w => rcmp_c (y1, y2) (x1, x2) r hrr w)
      rcases LtD.tri (y1, y2) (x1, x2) with hl | hl | hl
      · have hr0 : decide (0 < r) = false := by rw [decide_eq_false_iff_not, ← hrr, cmpD_gt]; exact LtD.asymm hl
        have hne : ¬ ((y1, y2) : Int × Int) = (x1, x2) := fun e => LtD.irrefl _ (e ▸ hl)
        have HX := Lib.hid (with_at (L := L) (d := (x1, x2)) (k := k) HR.out (by have := HL.out; omega) HU.out (fun m' y e hy => by
          obtain rfl : m' = m := by have := HKM.out; omega
          obtain rfl := Option.some.inj (hy.symm.trans HY.out)
          exact hl))
        clear hl hrr
        rcases dot_ne hne with e1 | ⟨e1, e2⟩
        · clear hne
          go_wp2_with fail
          refine region_kept _ (by kernel_rfl) (by kernel_rfl) (Kept.refl _) ?_
          repeat (go_big_quiet_step ((first
            | (go_at_call 54; (with_reducible exact KExt.callsK (AC.out _)))
            | fail)))
          refine wpQuiet_nil ?_
          intro G
          go_wp2_with fail
          refine region_kept wr (by kernel_rfl) (by kernel_rfl) G.g ?_
          repeat (go_big_quiet_step (fail))
          refine wpQuiet_nil ?_
          intro G2
          clear c1 c2 e1 hr0 hsub
          generalize (some (⟨g, o, none⟩ : Addr)) = A at HD ⊢
          obtain ⟨wz, hz⟩ := G2
          have f0 := hz.cell (hkr0.out.box0)
          have f1 := hz.cell (hkr0.out.box1)
          simp only
          obtain ⟨A2, ht, hr2, hr3⟩ := dl_tail (HD.out.kept (HW.out.trans hz)) hk
          have hr4 := run_dhead A n c k (by omega)
          have hr5 := run_dhead2 A n c k (by omega)
          obtain ⟨v1, w1, v2, w2, v3, w3, ha1, ha2, ha3, ho, hk1, hk2, hk3⟩ := appD3 wz A A2 k c (n - k) (c - k) x1 x2 (L.take k) (L.drop k) (dl_head (HD.out.kept (HW.out.trans hz)) hk) ht (by omega)
          have HA1 := Lib.hid ha1
          have HA2 := Lib.hid ha2
          have HA3 := Lib.hid ha3
          have HO := Lib.hid ho
          have HK3 := Lib.hid (HW.out.trans (hz.trans hk3))
          have HZ := Lib.hid (HW.out.trans hz).2.2
          have e0 := hk1.cell f0
          have e1 := hk1.cell f1
          clear ha1 ha2 ha3 ho hk1 hk2 hk3 ht d0 d1 f0 f1 hz
          go_wp2_with (first
            | (at_builtin; refine Lib.wpList_append_run _ rfl (.tmp 35) (.tmp 38) _ _ rfl _ _ rfl rfl _ _ HA1.out ?_)
            | (at_builtin; refine Lib.wpList_append_run _ rfl (.tmp 40) (.tmp 42) _ _ rfl _ _ rfl rfl _ _ HA2.out ?_)
            | (at_builtin; refine Lib.wpList_append_run _ rfl (.tmp 44) (.tmp 47) _ _ rfl _ _ rfl rfl _ _ HA3.out ?_))
          obtain ⟨A3, c3, rfl, hd, hf⟩ := Dl.of_own' HO.out
          go_ret
          exact ⟨A3, _, c3, _, rfl, hd, HX.out, by have := HL.out; omega, HK3.out, .inr fun ad e => Nat.le_trans HZ.out (hf ad e)⟩
        · clear hne
          go_wp2_with fail
          refine region_kept _ (by kernel_rfl) (by kernel_rfl) (Kept.refl _) ?_
          repeat (go_big_quiet_step ((first
            | (go_at_call 54; (with_reducible exact KExt.callsK (AC.out _)))
            | fail)))
          refine wpQuiet_nil ?_
          intro G
          go_wp2_with fail
          refine region_kept wr (by kernel_rfl) (by kernel_rfl) G.g ?_
          repeat (go_big_quiet_step (fail))
          refine wpQuiet_nil ?_
          intro G2
          clear c1 c2 e1 e2 hr0 hsub
          generalize (some (⟨g, o, none⟩ : Addr)) = A at HD ⊢
          obtain ⟨wz, hz⟩ := G2
          have f0 := hz.cell (hkr0.out.box0)
          have f1 := hz.cell (hkr0.out.box1)
          simp only
          obtain ⟨A2, ht, hr2, hr3⟩ := dl_tail (HD.out.kept (HW.out.trans hz)) hk
          have hr4 := run_dhead A n c k (by omega)
          have hr5 := run_dhead2 A n c k (by omega)
          obtain ⟨v1, w1, v2, w2, v3, w3, ha1, ha2, ha3, ho, hk1, hk2, hk3⟩ := appD3 wz A A2 k c (n - k) (c - k) x1 x2 (L.take k) (L.drop k) (dl_head (HD.out.kept (HW.out.trans hz)) hk) ht (by omega)
          have HA1 := Lib.hid ha1
          have HA2 := Lib.hid ha2
          have HA3 := Lib.hid ha3
          have HO := Lib.hid ho
          have HK3 := Lib.hid (HW.out.trans (hz.trans hk3))
          have HZ := Lib.hid (HW.out.trans hz).2.2
          have e0 := hk1.cell f0
          have e1 := hk1.cell f1
          clear ha1 ha2 ha3 ho hk1 hk2 hk3 ht d0 d1 f0 f1 hz
          go_wp2_with (first
            | (at_builtin; refine Lib.wpList_append_run _ rfl (.tmp 35) (.tmp 38) _ _ rfl _ _ rfl rfl _ _ HA1.out ?_)
            | (at_builtin; refine Lib.wpList_append_run _ rfl (.tmp 40) (.tmp 42) _ _ rfl _ _ rfl rfl _ _ HA2.out ?_)
            | (at_builtin; refine Lib.wpList_append_run _ rfl (.tmp 44) (.tmp 47) _ _ rfl _ _ rfl rfl _ _ HA3.out ?_))
          obtain ⟨A3, c3, rfl, hd, hf⟩ := Dl.of_own' HO.out
          go_ret
          exact ⟨A3, _, c3, _, rfl, hd, HX.out, by have := HL.out; omega, HK3.out, .inr fun ad e => Nat.le_trans HZ.out (hf ad e)⟩
      · have hr0 : decide (0 < r) = false := by rw [decide_eq_false_iff_not, ← hrr, cmpD_gt, hl]; exact LtD.irrefl _
        have HX := Lib.hid (WithD.self HR.out (hl ▸ List.mem_of_getElem? HY.out))
        simp only [Prod.mk.injEq] at hl
        have e1 : (y1 == x1) = true := by simpa using hl.1
        have e2 : (y2 == x2) = true := by simpa using hl.2
        clear hl hrr
        go_wp2_with fail
        refine region_kept _ (by kernel_rfl) (by kernel_rfl) (Kept.refl _) ?_
        repeat (go_big_quiet_step ((first
          | (go_at_call 54; (with_reducible exact KExt.callsK (AC.out _)))
          | fail)))
        refine wpQuiet_nil ?_
        intro G
        go_wp2_with fail
        refine region_kept wr (by kernel_rfl) (by kernel_rfl) G.g ?_
        repeat (go_big_quiet_step (fail))
        refine wpQuiet_nil ?_
        intro G2
        clear c1 c2 e1 e2 hr0 hsub d0 d1
        go_wp2_with fail
        go_ret
        exact ⟨some ⟨g, o, none⟩, n, c, L, rfl, HD.out.kept (HW.out.trans G2.g), HX.out, by have := HL.out; omega, HW.out.trans G2.g, .inl rfl⟩
      · have hr0 : decide (0 < r) = true := by rw [decide_eq_true_iff, ← hrr, cmpD_gt]; exact hl
        have HN := Lib.hid (show ∀ t y, m ≤ t → L[t]? = some y → LtD (x1, x2) y from fun t y ht hy => by
          rcases Nat.lt_or_ge m t with h3 | h3
          · exact HU.out t y (by have := HKM.out; omega) hy
          · obtain rfl : t = m := by omega
            obtain rfl := Option.some.inj (hy.symm.trans HY.out)
            exact hl)
        clear hl hrr
        go_wp2_with fail
        refine region_kept _ (by kernel_rfl) (by kernel_rfl) (Kept.refl _) ?_
        repeat (go_big_quiet_step ((first
          | (go_at_call 54; (with_reducible exact KExt.callsK (AC.out _)))
          | fail)))
        refine wpQuiet_nil ?_
        intro G
        clear c1 c2 hr0 d0 d1
        go_wp2_with fail
        go_roundw
        case rel => exact ⟨m, by omega, by go_num, HKR.out.trans G.g, HN.out⟩
        case measure => have := HKM.out; simp [intOf]; omega

set_option maxRecDepth 100000 in
set_option maxHeartbeats 2000000 in
theorem rdsort_any (A : Option Addr) (n c : Nat) (L : List (Int × Int)) (w : World) (h : Dl w A n c L) (hn : n ≤ 999990) :
    Calls Tryz.prog 76 #[.slice A n c] w (Sorts L w) := by
  have hcap := h.cap.1
  have hcap2 := h.cap.2
  have HL := Lib.hid h.1
  have HD := Lib.hid h
  clear h
  go_enter Tryz.func76, Tryz.ntmps76
  go_wp2_with fail
  go_loopw [3, 8] (fun v i wr => ∃ (k : Nat) (A1 : Option Addr) (m c1 : Nat) (X : List (Int × Int)), k ≤ n ∧ i = .int .i64 k ∧ v = .slice A1 m c1 ∧ Dl wr A1 m c1 X ∧ SortD (L.take k) X ∧ m ≤ k ∧ Kept w wr ∧ ∀ ad, A1 = some ad → w.heap.size ≤ ad.block) (fun _ i _ => n - (intOf i).toNat)
  case atStart => exact ⟨0, none, 0, 0, [], Nat.zero_le _, rfl, rfl, Dl.nil _, ⟨rise_nil, fun x => Iff.rfl⟩, Nat.le_refl _, Kept.refl _, fun ad e => by cases e⟩
  case round =>
    obtain ⟨k, A1, m, c1, X, hk, rfl, rfl, hd, hs, hm, hkr, hfr⟩ := hrel
    have HFR := Lib.hid hfr
    have HD1 := Lib.hid hd
    have HS := Lib.hid hs
    have HK := Lib.hid hkr
    have HM := Lib.hid hd.1
    clear hd hs hkr hfr
    by_cases hlt : k < n
    · obtain ⟨g, o, ⟨y1, y2⟩, rfl, hy, g1, g2⟩ := (HD.out.kept HK.out).get hlt
      have HY := Lib.hid hy
      clear hy
      simp only at g1 g2
      have AC := Lib.hid (rdwith_any A1 m c1 X y1 y2 (wr.alloc (.cells #[.int .i64 y1, .int .i64 y2] 30)) (HD1.out.kept ((Kept.refl _).alloc _ _)) HS.out.rise (by omega))
      go_wp2_with fail
      go_at_call 91
      refine AC.out.mono ?_
      rintro e w2 ⟨A2, m2, c2, X2, rfl, hd2, hw2, hm2, hk2, hf2⟩
      have HF2 := Lib.hid hf2
      have HD2 := Lib.hid hd2
      have HW2 := Lib.hid hw2
      have HK2 := Lib.hid (HK.out.trans (((Kept.refl wr).alloc _ _).trans hk2))
      clear hd2 hw2 hk2 hf2 g1 g2
      go_wp2_with fail
      go_roundw
      case rel =>
        refine ⟨k + 1, A2, m2, c2, X2, hlt, by go_num, rfl, HD2.out, ?_, by have := HM.out; omega, HK2.out, fun ad e => by
          rcases HF2.out with h | h
          · exact HFR.out ad (h ▸ e)
          · exact Nat.le_trans (Nat.le_trans HK.out.2.2 (by simp)) (h ad e)⟩
        rw [List.take_add_one, HY.out]
        exact HS.out.step HW2.out
      case measure => simp [intOf]; omega
    · obtain rfl : k = n := by omega
      go_wp2_with fail
      go_ret
      exact ⟨A1, m, c1, X, rfl, HD1.out, by have := HS.out; rwa [List.take_of_length_le (by rw [HL.out]; exact Nat.le_refl _)] at this, by have := HL.out; omega, HK.out, HFR.out⟩
end Go.Proofs.YtkooihljddibfaaGreat

namespace Go.Proofs.YtkooihljddibfaaGreat
open Go.RowKit

/-- What is asked of the j-th dot. -/
def DotOk (V : List Int) (C : List (Int × Int)) (j : Nat) (d : Int × Int) : Prop := rightD d = true ∧ atV V d.1 < d.2 - 1 ∧ ∀ i e, j = i + 1 → C[i]? = some e → LtD e d
theorem right_of {V : List Int} {C : List (Int × Int)} (hb : ∀ i x, V[i]? = some x → 0 ≤ x ∧ x ≤ 1073741824 ∧ (i + 1 = V.length → x ≠ 0)) (hc : ∀ j d, C[j]? = some d → DotOk V C j d) (hl : V.length ≤ 64) : RightC V C := by
  have hrise : ∀ m, m ≤ C.length → Rise (C.take m) := by
    intro m
    induction m with
    | zero => intro _; rw [List.take_zero]; exact rise_nil
    | succ m ih =>
      intro hm
      have h1 := ih (by omega)
      have hd := List.getElem?_eq_getElem (show m < C.length by omega)
      rw [List.take_add_one, hd]
      unfold Rise
      rw [List.pairwise_append]
      refine ⟨h1, by simp, fun x hx y hy => ?_⟩
      obtain rfl : y = C[m] := by simpa using hy
      have hok := (hc m _ hd).2.2
      cases m with
      | zero => rw [List.take_zero] at hx; cases hx
      | succ i =>
        have he := List.getElem?_eq_getElem (show i < C.length by omega)
        have hlt := hok i _ rfl he
        obtain ⟨q, hq⟩ := List.getElem?_of_mem hx
        have hql := (List.getElem?_eq_some_iff.1 hq).1
        rw [List.length_take] at hql
        rcases Nat.lt_or_ge q i with h | h
        · have hi : (C.take (i + 1))[i]? = some C[i] := by rw [List.getElem?_take, if_pos (by omega)]; exact he
          exact (rise_get h1 hq hi h).trans hlt
        · obtain rfl : q = i := by omega
          rw [List.getElem?_take, if_pos (by omega), he] at hq
          obtain rfl := Option.some.inj hq
          exact hlt
  refine ⟨⟨hl, fun x hx => ?_⟩, fun k hk => ?_, ?_, fun d hd => ?_, fun d hd => ?_⟩
  · obtain ⟨i, hi⟩ := List.getElem?_of_mem hx
    exact ⟨(hb i x hi).1, (hb i x hi).2.1⟩
  · have hi := List.getElem?_eq_getElem (show k < V.length by omega)
    rw [List.getD_eq_getElem?_getD, hi]
    exact (hb k _ hi).2.2 hk.symm
  · have := hrise C.length (Nat.le_refl _)
    rwa [List.take_length] at this
  · obtain ⟨j, hj⟩ := List.getElem?_of_mem hd
    exact (hc j d hj).1
  · obtain ⟨j, hj⟩ := List.getElem?_of_mem hd
    exact (hc j d hj).2.1
theorem RightC.ok {V : List Int} {C : List (Int × Int)} (h : RightC V C) {j : Nat} {d : Int × Int} (hd : C[j]? = some d) : DotOk V C j d :=
  ⟨h.right d (List.mem_of_getElem? hd), h.apart d (List.mem_of_getElem? hd), fun i e hj he => rise_get h.rise he hd (by omega)⟩
theorem no_r {r : Bool} {P : Prop} (hr : r = true ↔ P) (h : ¬ P) : false = r := by
  cases r with
  | true => exact absurd (hr.1 rfl) h
  | false => rfl
theorem yes_r {r b : Bool} {P : Prop} (hr : r = true ↔ P) (h : b = true ↔ P) : b = r := by
  rw [Bool.eq_iff_iff, h, hr]

set_option maxRecDepth 100000 in
set_option maxHeartbeats 4000000 in
theorem rrightC_any (A : Option Addr) (n c : Nat) (V : List Int) (B : Option Addr) (m k : Nat) (C : List (Int × Int)) (w : World) (h : Il w A n c V) (hd : Dl w B m k C) (r : Bool) (hr : r = true ↔ RightC V C) :
    Calls Tryz.prog 25 #[.agg #[.slice A n c, .slice B m k]] w fun e w' => e = .returned (.bool r) ∧ Kept w w' := by
  have hcap := h.cap.1; have hcap2 := h.cap.2; have hdap := hd.cap.1; have hdap2 := hd.cap.2
  have HN := Lib.hid h.1; have HM := Lib.hid hd.1
  have HI := Lib.hid h; have HD := Lib.hid hd
  have HR := Lib.hid hr
  have HK := Lib.hid ((Kept.refl w).alloc #[.slice A n c, .slice B m k] 26)
  clear h hd hr
  go_enter Tryz.func25, Tryz.ntmps25
  go_wp2_with fail
  go_loopw [10] (fun i wr => ∃ t : Nat, t ≤ n ∧ i = .int .i64 t ∧ Kept (w.alloc (.cells #[.slice A n c, .slice B m k] 26)) wr ∧ ∀ i x, i < t → V[i]? = some x → 0 ≤ x ∧ x ≤ 1073741824 ∧ (i + 1 = V.length → x ≠ 0)) (fun i _ => n - (intOf i).toNat)
  case atStart => exact ⟨0, Nat.zero_le _, rfl, Kept.refl _, fun i x hi => absurd hi (by omega)⟩
  case round =>
    obtain ⟨t, ht, rfl, hkr, hall⟩ := hrel
    have HR1 := Lib.hid hkr
    have HA := Lib.hid hall
    have e0 := hkr.box0
    have e1 := hkr.box1
    clear hkr hall
    by_cases hlt : t < n
    · obtain ⟨g, o, x, rfl, hx, g1⟩ := (HI.out.kept (HK.out.trans HR1.out)).get hlt
      have HX := Lib.hid hx
      clear hx
      have hsub : IntKind.i64.wrap ((n : Int) - 1) = (n : Int) - 1 := by rw [IntWalk.i64_in _ (by omega)]
      by_cases h1 : x < 0
      · have d1 : decide (x < 0) = true := by simpa using h1
        have HF := Lib.hid (no_r HR.out fun hh => by have := (hh.vec.bd x (List.mem_of_getElem? HX.out)).1; omega)
        clear h1
        go_wp2_with fail
        go_ret
        exact ⟨ret_bool HF.out, HK.out.trans HR1.out⟩
      by_cases h2 : 1073741824 < x
      · have d1 : decide (x < 0) = false := by simpa using h1
        have d2 : decide (1073741824 < x) = true := by simpa using h2
        have HF := Lib.hid (no_r HR.out fun hh => by have := (hh.vec.bd x (List.mem_of_getElem? HX.out)).2; omega)
        clear h1 h2
        go_wp2_with fail
        go_ret
        exact ⟨ret_bool HF.out, HK.out.trans HR1.out⟩
      have d1 : decide (x < 0) = false := by simpa using h1
      have d2 : decide (1073741824 < x) = false := by simpa using h2
      by_cases h3 : t + 1 = n
      · have d3 : ((t : Int) == (n : Int) - 1) = true := by rw [beq_iff_eq]; omega
        by_cases h4 : x = 0
        · have d4 : (x == 0) = true := by simpa using h4
          have HF := Lib.hid (no_r HR.out fun hh => hh.last t (by have := HN.out; omega) (by rw [List.getD_eq_getElem?_getD, HX.out, h4]; rfl))
          clear h1 h2 h3 h4
          go_wp2_with fail
          go_ret
          exact ⟨ret_bool HF.out, HK.out.trans HR1.out⟩
        · have d4 : (x == 0) = false := by simpa using h4
          have HN2 := Lib.hid (show ∀ i y, i < t + 1 → V[i]? = some y → 0 ≤ y ∧ y ≤ 1073741824 ∧ (i + 1 = V.length → y ≠ 0) from fun i y hi hy => by
            rcases Nat.lt_or_ge i t with h | h
            · exact HA.out i y h hy
            · obtain rfl : i = t := by omega
              obtain rfl := Option.some.inj (hy.symm.trans HX.out)
              exact ⟨by omega, by omega, fun _ => h4⟩)
          clear h1 h2 h3 h4 e0 e1
          have e0 := HR1.out.box0
          go_wp2_with fail
          go_roundw
          case rel => exact ⟨t + 1, hlt, by go_num, HR1.out, HN2.out⟩
          case measure => simp [intOf]; omega
      · have d3 : ((t : Int) == (n : Int) - 1) = false := by rw [beq_eq_false_iff_ne]; omega
        have HN2 := Lib.hid (show ∀ i y, i < t + 1 → V[i]? = some y → 0 ≤ y ∧ y ≤ 1073741824 ∧ (i + 1 = V.length → y ≠ 0) from fun i y hi hy => by
          rcases Nat.lt_or_ge i t with h | h
          · exact HA.out i y h hy
          · obtain rfl : i = t := by omega
            obtain rfl := Option.some.inj (hy.symm.trans HX.out)
            exact ⟨by omega, by omega, fun hl => absurd hl (by have := HN.out; omega)⟩)
        clear h1 h2 h3 e0 e1
        have e0 := HR1.out.box0
        go_wp2_with fail
        go_roundw
        case rel => exact ⟨t + 1, hlt, by go_num, HR1.out, HN2.out⟩
        case measure => simp [intOf]; omega
    · have htn : t = n := by omega
      have HB := Lib.hid (show ∀ i x, V[i]? = some x → 0 ≤ x ∧ x ≤ 1073741824 ∧ (i + 1 = V.length → x ≠ 0) from fun i x hx => HA.out i x (by have := (List.getElem?_eq_some_iff.1 hx).1; have := HN.out; omega) hx)
      clear htn
      go_wp2_with fail
      go_loopw [37] (fun i wr => ∃ t : Nat, t ≤ m ∧ i = .int .i64 t ∧ Kept (w.alloc (.cells #[.slice A n c, .slice B m k] 26)) wr ∧ ∀ j d, j < t → C[j]? = some d → DotOk V C j d) (fun i _ => m - (intOf i).toNat)
      case atStart => exact ⟨0, Nat.zero_le _, rfl, HR1.out, fun i x hi => absurd hi (by omega)⟩
      case round =>
        clear hlt ht e0 e1
        obtain ⟨t, ht, rfl, hkr, hall⟩ := hrel
        have HR2 := Lib.hid hkr
        have HA2 := Lib.hid hall
        clear hkr hall
        by_cases hlt : t < m
        · obtain ⟨g, o, ⟨y1, y2⟩, hA, hy, g1, g2⟩ := (HD.out.kept (HK.out.trans HR2.out)).get hlt
          simp only at g1 g2
          have HY := Lib.hid hy
          clear hy
          have e0 := KExt.cell ((HR2.out.alloc #[.int .i64 y1, .int .i64 y2] 30).box0)
          have e1 := KExt.cell ((HR2.out.alloc #[.int .i64 y1, .int .i64 y2] 30).box1)
          have d0 := KExt.cell (Kept.box0 (Kept.refl (wr.alloc (.cells #[.int .i64 y1, .int .i64 y2] 30))))
          have d1 := KExt.cell (Kept.box1 (Kept.refl (wr.alloc (.cells #[.int .i64 y1, .int .i64 y2] 30))))
          obtain ⟨q, hq⟩ : ∃ q, rightD (y1, y2) = q := ⟨_, rfl⟩
          have AR := Lib.hid (fun w => rrightD_c (y1, y2) q hq w)
          obtain ⟨a, ha⟩ : ∃ a, atV V y1 = a := ⟨_, rfl⟩
          have AA := Lib.hid (fun w h => at_c A n c V B m k y1 a ha w h)
          have HI2 := Lib.hid (HI.out.kept (HK.out.trans (HR2.out.alloc #[.int .i64 y1, .int .i64 y2] 30)))
          have HQ := Lib.hid hq
          have HAV := Lib.hid ha
          clear hq ha
          cases q with
          | false =>
            have AC := AR
            have HF := Lib.hid (no_r HR.out fun hh => by have := hh.right _ (List.mem_of_getElem? HY.out); rw [HQ.out] at this; cases this)
            subst hA
            go_wp2_with fail
            refine region_kept _ (by kernel_rfl) (by kernel_rfl) (Kept.refl _) ?_
            repeat (go_big_quiet_step ((first
              | (go_at_call 49; (with_reducible exact KExt.callsK (AR.out _)))
              | (go_at_call 52; (with_reducible exact KExt.callsK (AA.out _ (HI2.out.kept (KExt.g _)))))
              | (go_at_call 54; (with_reducible exact KExt.callsK (AC.out _)))
              | fail)))
            refine wpQuiet_nil ?_
            intro G

            clear e0 e1 d0 d1 g1 g2
            go_wp2_with fail
            go_ret
            exact ⟨ret_bool HF.out, HK.out.trans (HR2.out.trans (((Kept.refl _).alloc _ _).trans G.g))⟩
          | true =>
            obtain ⟨b1, b2, b3, b4⟩ := rightD_bd HQ.out
            simp only at b1 b2 b3 b4
            have hsub : IntKind.i64.wrap (y2 - 1) = y2 - 1 := by rw [IntWalk.i64_in _ (by omega)]
            clear b1 b2
            by_cases h5 : y2 - 1 ≤ a
            · have f1 : decide (y2 - 1 ≤ a) = true := by simpa using h5
              have AC := AR
              have HF := Lib.hid (no_r HR.out fun hh => by have := hh.apart _ (List.mem_of_getElem? HY.out); simp only at this; rw [HAV.out] at this; omega)
              clear h5 b3 b4
              subst hA
              go_wp2_with fail
              refine region_kept _ (by kernel_rfl) (by kernel_rfl) (Kept.refl _) ?_
              repeat (go_big_quiet_step ((first
                | (go_at_call 49; (with_reducible exact KExt.callsK (AR.out _)))
                | (go_at_call 52; (with_reducible exact KExt.callsK (AA.out _ (HI2.out.kept (KExt.g _)))))
                | (go_at_call 54; (with_reducible exact KExt.callsK (AC.out _)))
                | fail)))
              refine wpQuiet_nil ?_
              intro G

              clear e0 e1 d0 d1 g1 g2
              go_wp2_with fail
              go_ret
              exact ⟨ret_bool HF.out, HK.out.trans (HR2.out.trans (((Kept.refl _).alloc _ _).trans G.g))⟩
            · have f1 : decide (y2 - 1 ≤ a) = false := by simpa using h5
              rcases Nat.eq_zero_or_pos t with h6 | h6
              · have f2 : decide ((0 : Int) < t) = false := by rw [decide_eq_false_iff_not]; omega
                have f3 : decide (0 < t) = false := by rw [decide_eq_false_iff_not]; omega
                have AC := AR
                have HN2 := Lib.hid (show ∀ j d, j < t + 1 → C[j]? = some d → DotOk V C j d from fun j d hj hd => by
                  obtain rfl : j = t := by omega
                  obtain rfl := Option.some.inj (hd.symm.trans HY.out)
                  exact ⟨HQ.out, by simp only; rw [HAV.out]; omega, fun i e hi => by omega⟩)
                clear h5 h6 b3 b4
                subst hA
                go_wp2_with fail
                refine region_kept _ (by kernel_rfl) (by kernel_rfl) (Kept.refl _) ?_
                repeat (go_big_quiet_step ((first
                  | (go_at_call 49; (with_reducible exact KExt.callsK (AR.out _)))
                  | (go_at_call 52; (with_reducible exact KExt.callsK (AA.out _ (HI2.out.kept (KExt.g _)))))
                  | (go_at_call 54; (with_reducible exact KExt.callsK (AC.out _)))
                  | fail)))
                refine wpQuiet_nil ?_
                intro G

                clear e0 e1 d0 d1 g1 g2
                go_wp2_with fail
                go_roundw
                case rel => exact ⟨t + 1, hlt, by go_num, HR2.out.trans (((Kept.refl _).alloc _ _).trans G.g), HN2.out⟩
                case measure => simp [intOf]; omega
              · have f2 : decide ((0 : Int) < t) = true := by rw [decide_eq_true_iff]; omega
                have f3 : decide (0 < t) = true := by rw [decide_eq_true_iff]; omega
                obtain ⟨j, hkj⟩ : ∃ j, t = j + 1 := ⟨t - 1, by omega⟩
                have hsub2 : IntKind.i64.wrap ((t : Int) - 1) = (j : Int) := by rw [IntWalk.i64_in _ (by omega)]; omega
                have hjm : j < m := by omega
                obtain ⟨g', o', ⟨z1, z2⟩, hA', hz, c3, c4⟩ := (HD.out.kept (HK.out.trans (HR2.out.alloc #[.int .i64 y1, .int .i64 y2] 30))).get hjm
                obtain ⟨rfl, rfl⟩ : g = g' ∧ o = o' := by simpa using hA.symm.trans hA'
                simp only at c3 c4
                have d3 := KExt.cell c3
                have d4 := KExt.cell c4
                have HZ := Lib.hid hz
                have HKJ := Lib.hid hkj
                obtain ⟨z, hzz⟩ : ∃ z, cmpD (z1, z2) (y1, y2) = z := ⟨_, rfl⟩
                have AC := Lib.hid (fun w => rcmp_c (z1, z2) (y1, y2) z hzz w)
                clear hz c3 c4 hA'
                by_cases h7 : 0 ≤ z
                · have f4 : decide (0 ≤ z) = true := by simpa using h7
                  have HF := Lib.hid (no_r HR.out fun hh => by
                    have := (cmpD_lt (z1, z2) (y1, y2)).2 ((hh.ok HY.out).2.2 j _ HKJ.out HZ.out)
                    omega)
                  clear h5 h6 h7 b3 b4 hzz hkj
                  subst hA
                  go_wp2_with fail
                  refine region_kept _ (by kernel_rfl) (by kernel_rfl) (Kept.refl _) ?_
                  repeat (go_big_quiet_step ((first
                    | (go_at_call 49; (with_reducible exact KExt.callsK (AR.out _)))
                    | (go_at_call 52; (with_reducible exact KExt.callsK (AA.out _ (HI2.out.kept (KExt.g _)))))
                    | (go_at_call 54; (with_reducible exact KExt.callsK (AC.out _)))
                    | fail)))
                  refine wpQuiet_nil ?_
                  intro G

                  clear e0 e1 d0 d1 g1 g2
                  go_wp2_with fail
                  go_ret
                  exact ⟨ret_bool HF.out, HK.out.trans (HR2.out.trans (((Kept.refl _).alloc _ _).trans G.g))⟩
                · have f4 : decide (0 ≤ z) = false := by simpa using h7
                  have HN2 := Lib.hid (show ∀ j d, j < t + 1 → C[j]? = some d → DotOk V C j d from fun j' d hj hd => by
                    rcases Nat.lt_or_ge j' t with h | h
                    · exact HA2.out j' d h hd
                    · obtain rfl : j' = t := by omega
                      obtain rfl := Option.some.inj (hd.symm.trans HY.out)
                      refine ⟨HQ.out, by simp only; rw [HAV.out]; omega, fun i e hi he => ?_⟩
                      obtain rfl : i = j := by omega
                      obtain rfl := Option.some.inj (he.symm.trans HZ.out)
                      exact (cmpD_lt _ _).1 (by rw [hzz]; omega))
                  clear h5 h6 h7 b3 b4 hzz hkj
                  subst hA
                  go_wp2_with fail
                  refine region_kept _ (by kernel_rfl) (by kernel_rfl) (Kept.refl _) ?_
                  repeat (go_big_quiet_step ((first
                    | (go_at_call 49; (with_reducible exact KExt.callsK (AR.out _)))
                    | (go_at_call 52; (with_reducible exact KExt.callsK (AA.out _ (HI2.out.kept (KExt.g _)))))
                    | (go_at_call 54; (with_reducible exact KExt.callsK (AC.out _)))
                    | fail)))
                  refine wpQuiet_nil ?_
                  intro G

                  clear e0 e1 d0 d1 g1 g2
                  go_wp2_with fail
                  go_roundw
                  case rel => exact ⟨t + 1, hlt, by go_num, HR2.out.trans (((Kept.refl _).alloc _ _).trans G.g), HN2.out⟩
                  case measure => simp [intOf]; omega
        · have htm : t = m := by omega
          have HC := Lib.hid (show ∀ j d, C[j]? = some d → DotOk V C j d from fun j d hd => HA2.out j d (by have := (List.getElem?_eq_some_iff.1 hd).1; have := HM.out; omega) hd)
          have e0 := HR2.out.box0
          have e1 := HR2.out.box1
          have HF := Lib.hid (yes_r (b := decide (n ≤ 64)) HR.out ⟨fun hb => right_of HB.out HC.out (by have := of_decide_eq_true hb; have := HN.out; omega), fun hh => by rw [decide_eq_true_iff]; have := hh.vec.len; have := HN.out; omega⟩)
          clear htm
          by_cases h64 : n ≤ 64
          · have f1 : decide ((n : Int) ≤ 64) = true := by rw [decide_eq_true_iff]; omega
            have f2 : decide (n ≤ 64) = true := by rw [decide_eq_true_iff]; omega
            rw [f2] at HF
            clear h64
            go_wp2_with fail
            go_ret
            exact ⟨ret_bool HF.out, HK.out.trans HR2.out⟩
          · have f1 : decide ((n : Int) ≤ 64) = false := by rw [decide_eq_false_iff_not]; omega
            have f2 : decide (n ≤ 64) = false := by rw [decide_eq_false_iff_not]; omega
            rw [f2] at HF
            clear h64
            go_wp2_with fail
            go_ret
            exact ⟨ret_bool HF.out, HK.out.trans HR2.out⟩
end Go.Proofs.YtkooihljddibfaaGreat

namespace Go.Proofs.YtkooihljddibfaaGreat
open Go.RowKit

theorem Kept.blk {W W' : World} (h : Kept W W') {i : Nat} (hi : i < W.heap.size) : W'.heap[i]? = W.heap[i]? := by
  have hk := h.1.2.2 i hi
  cases h1 : W.heap[i]? with
  | none => rw [h1] at hk; exact hk
  | some o =>
    rw [h1] at hk
    cases h2 : W'.heap[i]? with
    | none => rw [h2] at hk; cases o <;> simp at hk
    | some o' =>
      rw [h2] at hk
      cases o <;> cases o' <;> simp only [false_or, Option.some.injEq, reduceCtorEq] at hk ⊢
      case cells.cells c t fr c' t' fr' =>
        obtain ⟨rfl, rfl, _, he⟩ := hk
        have : c' = c := Array.ext_getElem? fun j => he j (fun f => f)
        subst this; rfl
      all_goals first | exact hk | (obtain ⟨rfl, rfl⟩ := hk; rfl)
theorem kept_blk {W W' : World} (h1 : W'.os = W.os) (h2 : W'.output = W.output) (h3 : W.heap.size ≤ W'.heap.size) (h : ∀ i, i < W.heap.size → W'.heap[i]? = W.heap[i]?) : Kept W W' := by
  refine ⟨⟨h1, h2, fun i hi => ?_⟩, fun a ha => World.frozen?_of_block (w := W) (h _ ha), h3⟩
  have := (World.keptBut_refl W (fun _ => False)).2.2 i hi
  rw [h i hi]
  exact this

/-- All that W has, but for block G. -/
structure KeptE (G : Nat) (W w : World) : Prop where
  os : w.os = W.os
  output : w.output = W.output
  size : W.heap.size ≤ w.heap.size
  blk : ∀ i, i < W.heap.size → i ≠ G → w.heap[i]? = W.heap[i]?
theorem KeptE.of {G : Nat} {W w : World} (h : Kept W w) : KeptE G W w := ⟨h.1.1, h.1.2.1, h.2.2, fun _ hi _ => h.blk hi⟩
theorem KeptE.refl (G : Nat) (W : World) : KeptE G W W := .of (Kept.refl W)
theorem KeptE.trans {G : Nat} {W w u : World} (h : KeptE G W w) (k : Kept w u) : KeptE G W u :=
  ⟨k.1.1.trans h.os, k.1.2.1.trans h.output, Nat.le_trans h.size k.2.2, fun i hi hg => (k.blk (Nat.lt_of_lt_of_le hi h.size)).trans (h.blk i hi hg)⟩
theorem KeptE.grown {G : Nat} {W w u : World} {row : Option Nat} (h : KeptE G W w) (k : w.grownBy u row) (hr : ∀ g, row = some g → g = G ∨ W.heap.size ≤ g) : KeptE G W u :=
  ⟨k.os.trans h.os, k.output.trans h.output, Nat.le_trans h.size k.size, fun i hi hg => (k.block i (Nat.lt_of_lt_of_le hi h.size) (fun e => by
    rcases hr i e.symm with h1 | h1
    · exact hg h1
    · omega)).trans (h.blk i hi hg)⟩
theorem KeptE.set {G : Nat} {W w : World} (h : KeptE G W w) {a : Addr} (ha : a.block = G ∨ W.heap.size ≤ a.block) (v : Value) : KeptE G W (w.setCell a v) :=
  ⟨h.os, h.output, by have := h.size; simpa [World.setCell] using this, fun i hi hg => by
    rw [Deep.blk_setCell_other w a v i (fun e => by rcases ha with h1 | h1 <;> omega)]
    exact h.blk i hi hg⟩
theorem KeptE.kept {G : Nat} {W0 W w : World} (h : KeptE G W w) (k : Kept W0 W) (hG : W0.heap.size ≤ G) : Kept W0 w :=
  kept_blk (h.os.trans k.1.1) (h.output.trans k.1.2.1) (Nat.le_trans k.2.2 h.size) fun i hi => (h.blk i (Nat.lt_of_lt_of_le hi k.2.2) (by omega)).trans (k.blk hi)
theorem KeptE.cell {G : Nat} {W w : World} (h : KeptE G W w) {b o : Nat} {v : Value} (hb : b ≠ G) (hc : W.cell? ⟨b, o, none⟩ = some v) : w.cell? ⟨b, o, none⟩ = some v := by
  rw [World.cell?_of_block (w := W) (h.blk b (World.block_lt_of_cell? W _ hc) hb)]
  exact hc
theorem KeptE.froz {G : Nat} {W w : World} (h : KeptE G W w) {b o : Nat} {f : Bool} (hb : b ≠ G) (hl : b < W.heap.size) (hc : W.frozen? ⟨b, o, none⟩ = f) : w.frozen? ⟨b, o, none⟩ = f := by
  rw [World.frozen?_of_block (w := W) (h.blk b hl hb)]
  exact hc
end Go.Proofs.YtkooihljddibfaaGreat

