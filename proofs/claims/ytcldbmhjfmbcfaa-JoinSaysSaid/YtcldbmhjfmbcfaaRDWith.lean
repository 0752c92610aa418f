/-
  What is proved: the document's With and Sort of layer 5, called with any slice of dots that lies in memory (a rising one for With) and any dot, return what P5.5 and P5.6 say; the world has new blocks at most.
-/
import Derived.Test.YtcldbmhjfmbcfaaM9
import Derived.Test.YtcldbmhjfmbcfaaM11
import Derived.Lib.Walk
import Derived.IntWalk
namespace Go.Proofs.Ytcldbmhjfmbcfaa
open Go.RowKit

theorem rise_get {L : List (Int × Int)} (hr : Rise L) {s t : Nat} {y z : Int × Int} (hs : L[s]? = some y) (ht : L[t]? = some z) (h : s < t) : LtD y z := by
  obtain ⟨e1, e2⟩ := List.getElem?_eq_some_iff.1 hs
  obtain ⟨e3, e4⟩ := List.getElem?_eq_some_iff.1 ht
  have := List.pairwise_iff_getElem.1 hr s t e1 e3 h
  rwa [e2, e4] at this
theorem with_at {L : List (Int × Int)} {d : Int × Int} {k : Nat} (hr : Rise L) (hkl : k ≤ L.length) (hup : ∀ t y, k ≤ t → L[t]? = some y → LtD d y) (hlo : ∀ m y, k = m + 1 → L[m]? = some y → LtD y d) : WithD L d (L.take k ++ [(d.1, d.2)] ++ L.drop k) := by
  rw [List.append_assoc]
  refine WithD.put hr k (fun x hx => ?_) fun x hx => ?_
  · obtain ⟨t, ht⟩ := List.getElem?_of_mem hx
    rw [List.getElem?_take] at ht
    split at ht
    · rename_i htk
      obtain ⟨m, rfl⟩ : ∃ m, k = m + 1 := ⟨k - 1, by omega⟩
      rcases Nat.lt_or_ge t m with h | h
      · have hy := List.getElem?_eq_getElem (show m < L.length by omega)
        exact (rise_get hr ht hy h).trans (hlo m _ rfl hy)
      · obtain rfl : t = m := by omega
        exact hlo t _ rfl ht
    · cases ht
  · obtain ⟨t, ht⟩ := List.getElem?_of_mem hx
    rw [List.getElem?_drop] at ht
    exact hup _ _ (by omega) ht

theorem appD3 (w : World) (A0 A2 : Option Addr) (n0 c0 n2 c2 : Nat) (x1 x2 : Int) (L0 L2 : List (Int × Int)) (h0 : Dl w A0 n0 c0 L0) (h2 : Dl w A2 n2 c2 L2) (hT : n0 + 1 + n2 ≤ 1000000) :
    ∃ v1 w1 v2 w2 v3 w3, (Builtin.append_ #[24, 24] 24 #[.slice (some ⟨w.heap.size, 0, none⟩) 0 0, .slice A0 n0 c0]).run Try.prog (w.alloc (.cells #[] 42)) = .ok v1 w1 ∧
      (Builtin.append_ #[24, 24] 24 #[v1, .slice (some ⟨w1.heap.size, 0, none⟩) 1 1]).run Try.prog (w1.alloc (.cells #[.int .i64 x1, .int .i64 x2] 42)) = .ok v2 w2 ∧
      (Builtin.append_ #[24, 24] 24 #[v2, .slice A2 n2 c2]).run Try.prog w2 = .ok v3 w3 ∧
      w3.ownsRow w.heap.size 42 2 v3 (n0 + 1 + n2) (flatD (L0 ++ [(x1, x2)] ++ L2)) ∧ Kept w w1 ∧ Kept w w2 ∧ Kept w w3 := by
  have hk0 : Kept w (w.alloc (.cells #[] 42)) := (Kept.refl w).alloc _ _
  have ho0 : (w.alloc (.cells #[] 42)).ownsRow w.heap.size 42 2 (.slice (some ⟨w.heap.size, 0, none⟩) 0 0) 0 [] := World.ownsRow_made w #[] 0 (Nat.le_refl _) (by simp [maxLen]) rfl
  obtain ⟨v1, w1, hr1, ho1, hg1⟩ := app_dots _ _ _ _ _ ho0 A0 n0 c0 L0 (h0.kept hk0) (by omega) hk0.2.2
  have hk1 : Kept w w1 := kept_grown hk0 hg1 fun j hj => (ho0.lt j hj).1
  have hk1' := hk1.alloc #[.int .i64 x1, .int .i64 x2] 42
  have ho1' := ho1.alloc (.cells #[.int .i64 x1, .int .i64 x2] 42)
  obtain ⟨v2, w2, hr2, ho2, hg2⟩ := app_dots _ _ _ _ _ ho1' (some ⟨w1.heap.size, 0, none⟩) 1 1 [(x1, x2)] (dl_one w1 x1 x2 _) (by omega) hk1'.2.2
  have hk2 : Kept w w2 := kept_grown hk1' hg2 fun j hj => (ho1'.lt j hj).1
  obtain ⟨v3, w3, hr3, ho3, hg3⟩ := app_dots _ _ _ _ _ ho2 A2 n2 c2 L2 (h2.kept hk2) (by omega) hk2.2.2
  have hk3 : Kept w w3 := kept_grown hk2 hg3 fun j hj => (ho2.lt j hj).1
  refine ⟨v1, w1, v2, w2, v3, w3, hr1, hr2, hr3, ?_, hk1, hk2, hk3⟩
  rw [Nat.zero_add, List.nil_append, ← flatD_app, ← flatD_app] at ho3
  exact ho3

set_option maxRecDepth 100000 in
set_option maxHeartbeats 2000000 in
theorem rdwith_any (A : Option Addr) (n c : Nat) (L : List (Int × Int)) (x1 x2 : Int) (w : World) (h : Dl w A n c L) (hr : Rise L) (hn : n ≤ 999999) :
    Calls Try.prog 85 #[.slice A n c, .agg #[.int .i64 x1, .int .i64 x2]] w (Withs A L (x1, x2) w) := by
  have hcap := h.cap.1
  have hcap2 := h.cap.2
  have HR := Lib.hid hr
  have HD := Lib.hid h
  have HL := Lib.hid h.1
  clear h hr
  go_enter Try.func85, Try.ntmps85
  go_wp2_with fail
  go_loopw [5] (fun i wr => ∃ k : Nat, k ≤ n ∧ i = .int .i64 k ∧ Kept (w.alloc (.cells #[.int .i64 x1, .int .i64 x2] 42)) wr ∧ ∀ t y, k ≤ t → L[t]? = some y → LtD (x1, x2) y) (fun i _ => (intOf i).toNat)
  case atStart => exact ⟨n, Nat.le_refl _, rfl, Kept.refl _, fun t y ht hy => absurd (List.getElem?_eq_some_iff.1 hy).1 (by have := HL.out; omega)⟩
  case round =>
    obtain ⟨k, hk, rfl, hkr, hup⟩ := hrel
    have HU := Lib.hid hup
    have HKR := Lib.hid hkr
    have hkr0 := Lib.hid hkr
    have HW := Lib.hid (((Kept.refl w).alloc #[.int .i64 x1, .int .i64 x2] 42).trans hkr)
    have d0 := KExt.cell hkr.box0
    have d1 := KExt.cell hkr.box1
    clear hup hkr
    rcases Nat.eq_zero_or_pos k with h0 | h0
    · have q : decide ((0 : Int) < k) = false := by rw [decide_eq_false_iff_not]; omega
      have q2 : decide (0 < k) = false := by rw [decide_eq_false_iff_not]; omega
      have HX := Lib.hid (with_at (L := L) (d := (x1, x2)) (k := k) HR.out (by omega) HU.out (fun m y e => by omega))
      clear h0
      go_wp2_with fail
      refine region_kept _ (by kernel_rfl) (by kernel_rfl) (Kept.refl _) ?_
      repeat (go_big_quiet_step ((first
        | (go_at_call 43; (with_reducible exact KExt.callsK (AC.out _)))
        | fail)))
      refine wpQuiet_nil ?_
      intro G
      go_wp2_with fail
      refine region_kept wr (by kernel_rfl) (by kernel_rfl) G.g ?_
      repeat (go_big_quiet_step (fail))
      refine wpQuiet_nil ?_
      intro G2
      obtain ⟨wz, hz⟩ := G2
      have f0 := hz.cell (hkr0.out.box0)
      have f1 := hz.cell (hkr0.out.box1)
      simp only
      obtain ⟨A2, ht, hr2, hr3⟩ := dl_tail (HD.out.kept (HW.out.trans hz)) hk
      have hr4 := run_dhead A n c k (by omega)
      have hr5 := run_dhead2 A n c k (by omega)
      obtain ⟨v1, w1, v2, w2, v3, w3, ha1, ha2, ha3, ho, hk1, hk2, hk3⟩ := appD3 wz A A2 k c (n - k) (c - k) x1 x2 (L.take k) (L.drop k) (dl_head (HD.out.kept (HW.out.trans hz)) hk) ht (by omega)
      have HA1 := Lib.hid ha1
      have HA2 := Lib.hid ha2
      have HA3 := Lib.hid ha3
      have HO := Lib.hid ho
      have HK3 := Lib.hid (HW.out.trans (hz.trans hk3))
      have HZ := Lib.hid (HW.out.trans hz).2.2
      have e0 := hk1.cell f0
      have e1 := hk1.cell f1
      clear ha1 ha2 ha3 ho hk1 hk2 hk3 ht d0 d1 f0 f1 hz
      go_wp2_with (first
        | (at_builtin; refine Lib.wpList_append_run _ rfl (.tmp 35) (.tmp 38) _ _ rfl _ _ rfl rfl _ _ HA1.out ?_)
        | (at_builtin; refine Lib.wpList_append_run _ rfl (.tmp 40) (.tmp 42) _ _ rfl _ _ rfl rfl _ _ HA2.out ?_)
        | (at_builtin; refine Lib.wpList_append_run _ rfl (.tmp 44) (.tmp 47) _ _ rfl _ _ rfl rfl _ _ HA3.out ?_))
      obtain ⟨A3, c3, rfl, hd, hf⟩ := Dl.of_own' HO.out
      go_ret
      exact ⟨A3, _, c3, _, rfl, hd, HX.out, by have := HL.out; omega, HK3.out, .inr fun ad e => Nat.le_trans HZ.out (hf ad e)⟩
    · obtain ⟨m, hkm⟩ : ∃ m, k = m + 1 := ⟨k - 1, by omega⟩
      have q : decide ((0 : Int) < k) = true := by rw [decide_eq_true_iff]; omega
      have q2 : decide (0 < k) = true := by rw [decide_eq_true_iff]; omega
      have hmn : m < n := by omega
      obtain ⟨g, o, ⟨y1, y2⟩, rfl, hy, g1, g2⟩ := (HD.out.kept HW.out).get hmn
      have c1 := KExt.cell g1
      have c2 := KExt.cell g2
      simp only at c1 c2
      have HY := Lib.hid hy
      have hsub : IntKind.i64.wrap ((k : Int) - 1) = (m : Int) := by rw [IntWalk.i64_in _ (by omega)]; omega
      have HKM := Lib.hid hkm
      clear g1 g2 hy h0 hkm
      obtain ⟨r, hrr⟩ : ∃ r, cmpD (y1, y2) (x1, x2) = r := ⟨_, rfl⟩
      have AC := Lib.hid (fun w => rcmp_c (y1, y2) (x1, x2) r hrr w)
      rcases LtD.tri (y1, y2) (x1, x2) with hl | hl | hl
      · have hr0 : decide (0 < r) = false := by rw [decide_eq_false_iff_not, ← hrr, cmpD_gt]; exact LtD.asymm hl
        have hne : ¬ ((y1, y2) : Int × Int) = (x1, x2) := fun e => LtD.irrefl _ (e ▸ hl)
        have HX := Lib.hid (with_at (L := L) (d := (x1, x2)) (k := k) HR.out (by have := HL.out; omega) HU.out (fun m' y e hy => by
          obtain rfl : m' = m := by have := HKM.out; omega
          obtain rfl := Option.some.inj (hy.symm.trans HY.out)
          exact hl))
        clear hl hrr
        rcases dot_ne hne with e1 | ⟨e1, e2⟩
        · clear hne
          go_wp2_with fail
          refine region_kept _ (by kernel_rfl) (by kernel_rfl) (Kept.refl _) ?_
          repeat (go_big_quiet_step ((first
            | (go_at_call 43; (with_reducible exact KExt.callsK (AC.out _)))
            | fail)))
          refine wpQuiet_nil ?_
          intro G
          go_wp2_with fail
          refine region_kept wr (by kernel_rfl) (by kernel_rfl) G.g ?_
          repeat (go_big_quiet_step (fail))
          refine wpQuiet_nil ?_
          intro G2
          clear c1 c2 e1 hr0 hsub
          generalize (some (⟨g, o, none⟩ : Addr)) = A at HD ⊢
          obtain ⟨wz, hz⟩ := G2
          have f0 := hz.cell (hkr0.out.box0)
          have f1 := hz.cell (hkr0.out.box1)
          simp only
          obtain ⟨A2, ht, hr2, hr3⟩ := dl_tail (HD.out.kept (HW.out.trans hz)) hk
          have hr4 := run_dhead A n c k (by omega)
          have hr5 := run_dhead2 A n c k (by omega)
          obtain ⟨v1, w1, v2, w2, v3, w3, ha1, ha2, ha3, ho, hk1, hk2, hk3⟩ := appD3 wz A A2 k c (n - k) (c - k) x1 x2 (L.take k) (L.drop k) (dl_head (HD.out.kept (HW.out.trans hz)) hk) ht (by omega)
          have HA1 := Lib.hid ha1
          have HA2 := Lib.hid ha2
          have HA3 := Lib.hid ha3
          have HO := Lib.hid ho
          have HK3 := Lib.hid (HW.out.trans (hz.trans hk3))
          have HZ := Lib.hid (HW.out.trans hz).2.2
          have e0 := hk1.cell f0
          have e1 := hk1.cell f1
          clear ha1 ha2 ha3 ho hk1 hk2 hk3 ht d0 d1 f0 f1 hz
          go_wp2_with (first
            | (at_builtin; refine Lib.wpList_append_run _ rfl (.tmp 35) (.tmp 38) _ _ rfl _ _ rfl rfl _ _ HA1.out ?_)
            | (at_builtin; refine Lib.wpList_append_run _ rfl (.tmp 40) (.tmp 42) _ _ rfl _ _ rfl rfl _ _ HA2.out ?_)
            | (at_builtin; refine Lib.wpList_append_run _ rfl (.tmp 44) (.tmp 47) _ _ rfl _ _ rfl rfl _ _ HA3.out ?_))
          obtain ⟨A3, c3, rfl, hd, hf⟩ := Dl.of_own' HO.out
          go_ret
          exact ⟨A3, _, c3, _, rfl, hd, HX.out, by have := HL.out; omega, HK3.out, .inr fun ad e => Nat.le_trans HZ.out (hf ad e)⟩
        · clear hne
          go_wp2_with fail
          refine region_kept _ (by kernel_rfl) (by kernel_rfl) (Kept.refl _) ?_
          repeat (go_big_quiet_step ((first
            | (go_at_call 43; (with_reducible exact KExt.callsK (AC.out _)))
            | fail)))
          refine wpQuiet_nil ?_
          intro G
          go_wp2_with fail
          refine region_kept wr (by kernel_rfl) (by kernel_rfl) G.g ?_
          repeat (go_big_quiet_step (fail))
          refine wpQuiet_nil ?_
          intro G2
          clear c1 c2 e1 e2 hr0 hsub
          generalize (some (⟨g, o, none⟩ : Addr)) = A at HD ⊢
          obtain ⟨wz, hz⟩ := G2
          have f0 := hz.cell (hkr0.out.box0)
          have f1 := hz.cell (hkr0.out.box1)
          simp only
          obtain ⟨A2, ht, hr2, hr3⟩ := dl_tail (HD.out.kept (HW.out.trans hz)) hk
          have hr4 := run_dhead A n c k (by omega)
          have hr5 := run_dhead2 A n c k (by omega)
          obtain ⟨v1, w1, v2, w2, v3, w3, ha1, ha2, ha3, ho, hk1, hk2, hk3⟩ := appD3 wz A A2 k c (n - k) (c - k) x1 x2 (L.take k) (L.drop k) (dl_head (HD.out.kept (HW.out.trans hz)) hk) ht (by omega)
          have HA1 := Lib.hid ha1
          have HA2 := Lib.hid ha2
          have HA3 := Lib.hid ha3
          have HO := Lib.hid ho
          have HK3 := Lib.hid (HW.out.trans (hz.trans hk3))
          have HZ := Lib.hid (HW.out.trans hz).2.2
          have e0 := hk1.cell f0
          have e1 := hk1.cell f1
          clear ha1 ha2 ha3 ho hk1 hk2 hk3 ht d0 d1 f0 f1 hz
          go_wp2_with (first
            | (at_builtin; refine Lib.wpList_append_run _ rfl (.tmp 35) (.tmp 38) _ _ rfl _ _ rfl rfl _ _ HA1.out ?_)
            | (at_builtin; refine Lib.wpList_append_run _ rfl (.tmp 40) (.tmp 42) _ _ rfl _ _ rfl rfl _ _ HA2.out ?_)
            | (at_builtin; refine Lib.wpList_append_run _ rfl (.tmp 44) (.tmp 47) _ _ rfl _ _ rfl rfl _ _ HA3.out ?_))
          obtain ⟨A3, c3, rfl, hd, hf⟩ := Dl.of_own' HO.out
          go_ret
          exact ⟨A3, _, c3, _, rfl, hd, HX.out, by have := HL.out; omega, HK3.out, .inr fun ad e => Nat.le_trans HZ.out (hf ad e)⟩
      · have hr0 : decide (0 < r) = false := by rw [decide_eq_false_iff_not, ← hrr, cmpD_gt, hl]; exact LtD.irrefl _
        have HX := Lib.hid (WithD.self HR.out (hl ▸ List.mem_of_getElem? HY.out))
        simp only [Prod.mk.injEq] at hl
        have e1 : (y1 == x1) = true := by simpa using hl.1
        have e2 : (y2 == x2) = true := by simpa using hl.2
        clear hl hrr
        go_wp2_with fail
        refine region_kept _ (by kernel_rfl) (by kernel_rfl) (Kept.refl _) ?_
        repeat (go_big_quiet_step ((first
          | (go_at_call 43; (with_reducible exact KExt.callsK (AC.out _)))
          | fail)))
        refine wpQuiet_nil ?_
        intro G
        go_wp2_with fail
        refine region_kept wr (by kernel_rfl) (by kernel_rfl) G.g ?_
        repeat (go_big_quiet_step (fail))
        refine wpQuiet_nil ?_
        intro G2
        clear c1 c2 e1 e2 hr0 hsub d0 d1
        go_wp2_with fail
        go_ret
        exact ⟨some ⟨g, o, none⟩, n, c, L, rfl, HD.out.kept (HW.out.trans G2.g), HX.out, by have := HL.out; omega, HW.out.trans G2.g, .inl rfl⟩
      · have hr0 : decide (0 < r) = true := by rw [decide_eq_true_iff, ← hrr, cmpD_gt]; exact hl
        have HN := Lib.hid (show ∀ t y, m ≤ t → L[t]? = some y → LtD (x1, x2) y from fun t y ht hy => by
          rcases Nat.lt_or_ge m t with h3 | h3
          · exact HU.out t y (by have := HKM.out; omega) hy
          · obtain rfl : t = m := by omega
            obtain rfl := Option.some.inj (hy.symm.trans HY.out)
            exact hl)
        clear hl hrr
        go_wp2_with fail
        refine region_kept _ (by kernel_rfl) (by kernel_rfl) (Kept.refl _) ?_
        repeat (go_big_quiet_step ((first
          | (go_at_call 43; (with_reducible exact KExt.callsK (AC.out _)))
          | fail)))
        refine wpQuiet_nil ?_
        intro G
        clear c1 c2 hr0 d0 d1
        go_wp2_with fail
        go_roundw
        case rel => exact ⟨m, by omega, by go_num, HKR.out.trans G.g, HN.out⟩
        case measure => have := HKM.out; simp [intOf]; omega

set_option maxRecDepth 100000 in
set_option maxHeartbeats 2000000 in
theorem rdsort_any (A : Option Addr) (n c : Nat) (L : List (Int × Int)) (w : World) (h : Dl w A n c L) (hn : n ≤ 999990) :
    Calls Try.prog 77 #[.slice A n c] w (Sorts L w) := by
  have hcap := h.cap.1
  have hcap2 := h.cap.2
  have HL := Lib.hid h.1
  have HD := Lib.hid h
  clear h
  go_enter Try.func77, Try.ntmps77
  go_wp2_with fail
  go_loopw [3, 8] (fun v i wr => ∃ (k : Nat) (A1 : Option Addr) (m c1 : Nat) (X : List (Int × Int)), k ≤ n ∧ i = .int .i64 k ∧ v = .slice A1 m c1 ∧ Dl wr A1 m c1 X ∧ SortD (L.take k) X ∧ m ≤ k ∧ Kept w wr ∧ ∀ ad, A1 = some ad → w.heap.size ≤ ad.block) (fun _ i _ => n - (intOf i).toNat)
  case atStart => exact ⟨0, none, 0, 0, [], Nat.zero_le _, rfl, rfl, Dl.nil _, ⟨rise_nil, fun x => Iff.rfl⟩, Nat.le_refl _, Kept.refl _, fun ad e => by cases e⟩
  case round =>
    obtain ⟨k, A1, m, c1, X, hk, rfl, rfl, hd, hs, hm, hkr, hfr⟩ := hrel
    have HFR := Lib.hid hfr
    have HD1 := Lib.hid hd
    have HS := Lib.hid hs
    have HK := Lib.hid hkr
    have HM := Lib.hid hd.1
    clear hd hs hkr hfr
    by_cases hlt : k < n
    · obtain ⟨g, o, ⟨y1, y2⟩, rfl, hy, g1, g2⟩ := (HD.out.kept HK.out).get hlt
      have HY := Lib.hid hy
      clear hy
      simp only at g1 g2
      have AC := Lib.hid (rdwith_any A1 m c1 X y1 y2 (wr.alloc (.cells #[.int .i64 y1, .int .i64 y2] 42)) (HD1.out.kept ((Kept.refl _).alloc _ _)) HS.out.rise (by omega))
      go_wp2_with fail
      go_at_call 85
      refine AC.out.mono ?_
      rintro e w2 ⟨A2, m2, c2, X2, rfl, hd2, hw2, hm2, hk2, hf2⟩
      have HF2 := Lib.hid hf2
      have HD2 := Lib.hid hd2
      have HW2 := Lib.hid hw2
      have HK2 := Lib.hid (HK.out.trans (((Kept.refl wr).alloc _ _).trans hk2))
      clear hd2 hw2 hk2 hf2 g1 g2
      go_wp2_with fail
      go_roundw
      case rel =>
        refine ⟨k + 1, A2, m2, c2, X2, hlt, by go_num, rfl, HD2.out, ?_, by have := HM.out; omega, HK2.out, fun ad e => by
          rcases HF2.out with h | h
          · exact HFR.out ad (h ▸ e)
          · exact Nat.le_trans (Nat.le_trans HK.out.2.2 (by simp)) (h ad e)⟩
        rw [List.take_add_one, HY.out]
        exact HS.out.step HW2.out
      case measure => simp [intOf]; omega
    · obtain rfl : k = n := by omega
      go_wp2_with fail
      go_ret
      exact ⟨A1, m, c1, X, rfl, HD1.out, by have := HS.out; rwa [List.take_of_length_le (by rw [HL.out]; exact Nat.le_refl _)] at this, by have := HL.out; omega, HK.out, HFR.out⟩
end Go.Proofs.Ytcldbmhjfmbcfaa
