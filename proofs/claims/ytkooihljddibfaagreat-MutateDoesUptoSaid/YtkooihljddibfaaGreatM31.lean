/-
  What is proved: the document's Join of layer 9 (P9.1), called with any two states in order that lie in memory, returns what is known where both are; the world has new blocks at most.
  Next and Play of the document's layer 10, called with any states, entries and dots that lie in memory, return what P10.1 and P10.4 say; the world has new blocks at most.
-/
import Derived.Test.YtkooihljddibfaaGreatM30
import Derived.Test.YtkooihljddibfaaGreatM24
import Derived.Test.YtkooihljddibfaaGreatM23
namespace Go.Proofs.YtkooihljddibfaaGreat
open Go.RowKit
set_option linter.unusedVariables false

theorem stay_keepL {b : Sta} {x : En} : stayE b.L b.V b.C x = true ↔ keepL b x := by
  unfold stayE keepL
  rw [Bool.or_eq_true, Bool.not_eq_true', decide_eq_false_iff_not]
  rfl
theorem stay_keepR {a : Sta} {y : En} (h : hasE a.L y.d = false) : stayE a.L a.V a.C y = true ↔ keepR a y := by
  unfold stayE keepR
  rw [Bool.or_eq_true, Bool.not_eq_true', decide_eq_false_iff_not, h]
  simp only [Bool.false_eq_true, false_or, true_and]
  rfl
theorem drop_lt {L : List En} (hr : RiseE L) {k : Nat} {y x : En} (hy : L[k]? = some y) (h : LtD x.d y.d) : ∀ z ∈ L.drop k, LtD x.d z.d := fun z hz => by
  rcases (mem_drop_succ hy z).1 hz with rfl | hz
  · exact h
  · exact h.trans (rise_drop hr hy hz)
theorem Mid.notL {a b : Sta} {i k : Nat} {X : List En} (h : Mid a b i k X) {y : En} (hy : b.L[k]? = some y) (hlt : ∀ x ∈ a.L.drop i, LtD y.d x.d) : hasE a.L y.d = false := by
  rw [← Bool.not_eq_true, hasE_iff]
  rintro ⟨x, hx, e⟩
  rw [← List.take_append_drop i a.L] at hx
  rcases List.mem_append.1 hx with hx | hx
  · exact LtD.irrefl _ (e ▸ h.lo x hx y ((mem_drop_succ hy y).2 (.inl rfl)))
  · exact LtD.irrefl _ (e ▸ hlt x hx)
theorem drop_end {L : List En} {k : Nat} (h : L.length ≤ k) {p : En → Prop} : ∀ z ∈ L.drop k, p z := fun z hz => by rw [List.drop_eq_nil_of_le h] at hz; cases hz
theorem Mid.leftT {a b : Sta} {i k : Nat} {X : List En} {x : En} (h : Mid a b i k X) (ha : RiseE a.L) (hx : a.L[i]? = some x) (hlt : ∀ y ∈ b.L.drop k, LtD x.d y.d) (hs : stayE b.L b.V b.C x = true) : Mid a b (i + 1) k (X ++ [x]) := by
  have := h.left ha hx hlt
  rwa [if_pos (stay_keepL.1 hs)] at this
theorem Mid.leftF {a b : Sta} {i k : Nat} {X : List En} {x : En} (h : Mid a b i k X) (ha : RiseE a.L) (hx : a.L[i]? = some x) (hlt : ∀ y ∈ b.L.drop k, LtD x.d y.d) (hs : stayE b.L b.V b.C x = false) : Mid a b (i + 1) k X := by
  have := h.left ha hx hlt
  rwa [if_neg (fun e => by rw [stay_keepL.2 e] at hs; cases hs)] at this
theorem Mid.rightT {a b : Sta} {i k : Nat} {X : List En} {y : En} (h : Mid a b i k X) (hb : RiseE b.L) (hy : b.L[k]? = some y) (hlt : ∀ x ∈ a.L.drop i, LtD y.d x.d) (hs : stayE a.L a.V a.C y = true) : Mid a b i (k + 1) (X ++ [y]) := by
  have := h.right_ hb hy hlt
  rwa [if_pos ((stay_keepR (h.notL hy hlt)).1 hs)] at this
theorem Mid.rightF {a b : Sta} {i k : Nat} {X : List En} {y : En} (h : Mid a b i k X) (hb : RiseE b.L) (hy : b.L[k]? = some y) (hlt : ∀ x ∈ a.L.drop i, LtD y.d x.d) (hs : stayE a.L a.V a.C y = false) : Mid a b i (k + 1) X := by
  have := h.right_ hb hy hlt
  rwa [if_neg (fun e => by rw [(stay_keepR (h.notL hy hlt)).2 e] at hs; cases hs)] at this

set_option maxRecDepth 100000 in
set_option maxHeartbeats 32000000 in
theorem rjoin_st (A : Option Addr) (n c : Nat) (B : Option Addr) (m k0 : Nat) (D : Option Addr) (p q : Nat) (a : Sta) (A' : Option Addr) (n' c' : Nat) (B' : Option Addr) (m' k' : Nat) (D' : Option Addr) (p' q' : Nat) (b : Sta) (w : World)
    (h : Stt w A n c B m k0 D p q a.L a.V a.C) (h' : Stt w A' n' c' B' m' k' D' p' q' b.L b.V b.C) (ha : Ord a) (hb : Ord b) (hn : n ≤ 100000) (hp : p ≤ 100000) (hn' : n' ≤ 100000) (hp' : p' ≤ 100000) :
    Calls Tryz.prog 36 #[.agg #[.slice A n c, .slice B m k0, .slice D p q], .agg #[.slice A' n' c', .slice B' m' k', .slice D' p' q']] w (StJ (Joined a b) w) := by
  have hk := ((Kept.refl w).alloc #[.slice A n c, .slice B m k0, .slice D p q] 28).alloc #[.slice A' n' c', .slice B' m' k', .slice D' p' q'] 28
  have hk3 := hk.alloc #[.slice none 0 0, .slice none 0 0, .slice none 0 0] 28
  have b0 := ((Box3.new w (.slice A n c) (.slice B m k0) (.slice D p q) 28).kept ((Kept.refl _).alloc #[.slice A' n' c', .slice B' m' k', .slice D' p' q'] 28)).kept ((Kept.refl _).alloc #[.slice none 0 0, .slice none 0 0, .slice none 0 0] 28)
  have b1 := (Box3.new (w.alloc (.cells #[.slice A n c, .slice B m k0, .slice D p q] 28)) (.slice A' n' c') (.slice B' m' k') (.slice D' p' q') 28).kept ((Kept.refl _).alloc #[.slice none 0 0, .slice none 0 0, .slice none 0 0] 28)
  have b2 := Box3.new ((w.alloc (.cells #[.slice A n c, .slice B m k0, .slice D p q] 28)).alloc (.cells #[.slice A' n' c', .slice B' m' k', .slice D' p' q'] 28)) (.slice none 0 0) (.slice none 0 0) (.slice none 0 0) 28
  rw [show (w.alloc (.cells #[.slice A n c, .slice B m k0, .slice D p q] 28)).heap.size = w.heap.size + 1 by simp] at b1
  rw [show ((w.alloc (.cells #[.slice A n c, .slice B m k0, .slice D p q] 28)).alloc (.cells #[.slice A' n' c', .slice B' m' k', .slice D' p' q'] 28)).heap.size = w.heap.size + 2 by simp] at b2
  have hsz : (((w.alloc (.cells #[.slice A n c, .slice B m k0, .slice D p q] 28)).alloc (.cells #[.slice A' n' c', .slice B' m' k', .slice D' p' q'] 28)).alloc (.cells #[.slice none 0 0, .slice none 0 0, .slice none 0 0] 28)).heap.size = w.heap.size + 3 := by simp
  have HA := Lib.hid (h.kept hk3); have HB := Lib.hid (h'.kept hk3)
  have HOA := Lib.hid ha; have HOB := Lib.hid hb
  obtain ⟨U, hU⟩ : ∃ U, ((w.alloc (.cells #[.slice A n c, .slice B m k0, .slice D p q] 28)).alloc (.cells #[.slice A' n' c', .slice B' m' k', .slice D' p' q'] 28)).alloc (.cells #[.slice none 0 0, .slice none 0 0, .slice none 0 0] 28) = U := ⟨_, rfl⟩
  rw [hU] at hk3 b0 b1 b2 hsz HA HB
  have HK := Lib.hid hk3; have HBA := Lib.hid b0; have HBB := Lib.hid b1; have HRES := Lib.hid b2; have HUU := Lib.hid hU
  have hcap := h.el.cap.1; have hcap2 := h.el.cap.2; have hcap3 := h'.el.cap.1; have hcap4 := h'.el.cap.2
  have HNA := Lib.hid h.el.1; have HNB := Lib.hid h'.el.1; have HPA := Lib.hid h.dl.1; have HPB := Lib.hid h'.dl.1
  have HSZ := Lib.hid hsz
  clear h h' ha hb hk hk3 b0 b1 b2 hU hsz
  go_enter Tryz.func36, Tryz.ntmps36
  go_wp2_with fail
  rw [HUU.out]
  go_loopw [5, 6, 7] (fun v vi vk wr => ∃ (i k : Nat) (X : List En), i ≤ n ∧ k ≤ n' ∧ vi = .int .i64 i ∧ vk = .int .i64 k ∧ OutE U wr v X ∧ Mid a b i k X ∧ X.length ≤ i + k) (fun _ vi vk _ => (n - (intOf vi).toNat) + (n' - (intOf vk).toNat))
  case atStart => exact ⟨0, 0, [], Nat.zero_le _, Nat.zero_le _, rfl, rfl, OutE.start U, Mid.start, Nat.le_refl _⟩
  case round =>
    obtain ⟨i, k, X, hi, hk, rfl, rfl, hX, hMM, hXL⟩ := hrel
    obtain ⟨A3, c3, rfl, hel3, hfr3, hc3, hcm3⟩ := hX.form
    have HO := Lib.hid hX
    have HMM := Lib.hid hMM
    have HE3 := Lib.hid hel3
    have HF3 := Lib.hid hfr3
    have ba := HBA.out.kept hX.ke; have bb := HBB.out.kept hX.ke
    have p0 := ba.c0; have p1 := ba.c1; have p2 := ba.c2; have q0 := bb.c0; have q1 := bb.c1; have q2 := bb.c2
    have P0 := KExt.cell ba.c0; have P1 := KExt.cell ba.c1; have P2 := KExt.cell ba.c2; have Q0 := KExt.cell bb.c0; have Q1 := KExt.cell bb.c1; have Q2 := KExt.cell bb.c2
    clear hX hMM hel3 hfr3 ba bb
    by_cases hin : i < n
    · by_cases hkn : k < n'
      · obtain ⟨gx, ox, x, hgx, hx, EX⟩ := (HA.out.el.kept HO.out.ke).get hin
        subst hgx
        have HX := Lib.hid hx
        have HEX := Lib.hid EX
        have x0 := KExt.cell EX.c0; have x1 := KExt.cell EX.c1; have x2 := KExt.cell EX.c2; have x3 := KExt.cell EX.c3; have x4 := KExt.cell EX.c4; have x5 := KExt.cell EX.c5; have x6 := KExt.cell EX.c6; have x7 := KExt.cell EX.c7; have x8 := KExt.cell EX.c8
        clear hx EX
        obtain ⟨gy, oy, y, hgy, hy, EY⟩ := (HB.out.el.kept HO.out.ke).get hkn
        subst hgy
        have HY := Lib.hid hy
        have HEY := Lib.hid EY
        have y0 := KExt.cell EY.c0; have y1 := KExt.cell EY.c1; have y2 := KExt.cell EY.c2; have y3 := KExt.cell EY.c3; have y4 := KExt.cell EY.c4; have y5 := KExt.cell EY.c5; have y6 := KExt.cell EY.c6; have y7 := KExt.cell EY.c7; have y8 := KExt.cell EY.c8
        clear hy EY
        have fi : ((i : Int) == (n : Int)) = false := by rw [beq_eq_false_iff_ne]; omega
        have fi2 : (i == n) = false := by rw [beq_eq_false_iff_ne]; omega
        have fk : ((k : Int) == (n' : Int)) = false := by rw [beq_eq_false_iff_ne]; omega
        have fk2 : (k == n') = false := by rw [beq_eq_false_iff_ne]; omega
        obtain ⟨r, hrr⟩ : ∃ r, cmpD x.d y.d = r := ⟨_, rfl⟩
        have AC := Lib.hid (fun w => recmp_c x y r hrr w)
        have HRR := Lib.hid hrr
        by_cases hr : r < 0
        · have r0 : decide (r < 0) = true := by rw [decide_eq_true_iff]; exact hr
          have HLT := Lib.hid (show ∀ z ∈ b.L.drop k, LtD x.d z.d from drop_lt HOB.out.rise HY.out ((cmpD_lt _ _).1 (by rw [HRR.out]; exact hr)))
          clear hrr hr
          obtain ⟨z, hz⟩ : ∃ z, stayE b.L b.V b.C x = z := ⟨_, rfl⟩
          have AK := Lib.hid (fun g : KExt wr => rkeeps_any x _ n' c' b.L B' m' k' b.V D' p' q' b.C _ ((HB.out.kept HO.out.ke).kept g.g) HOB.out.rise (by omega) z hz)
          have HZ := Lib.hid hz
          clear hz
          go_wp2_with fail
          refine region_kept wr (by kernel_rfl) (by kernel_rfl) (Kept.refl _) ?_
          repeat (go_big_quiet_step ((first | (go_at_call 24; (with_reducible exact KExt.callsK (AC.out _))) | fail)))
          refine wpQuiet_nil ?_
          intro G7
          go_wp2_with fail
          refine region_kept wr (by kernel_rfl) (by kernel_rfl) (G7.g) ?_
          repeat (go_big_quiet_step ((first | (go_at_call 63; (with_reducible exact KExt.callsK (AK.out _))) | fail)))
          refine wpQuiet_nil ?_
          intro G9
          cases z with
          | false =>
            have HN := Lib.hid (HMM.out.leftF HOA.out.rise HX.out HLT.out HZ.out)
            clear p0 p1 p2 q0 q1 q2 P0 P1 P2 Q0 Q1 Q2 x0 x1 x2 x3 x4 x5 x6 x7 x8 y0 y1 y2 y3 y4 y5 y6 y7 y8
            go_wp2_with fail
            go_roundw
            case rel => exact ⟨i + 1, k, X, by omega, hk, by go_num, rfl, HO.out.kept G9.g, HN.out, by omega⟩
            case measure => simp [intOf]; omega
          | true =>
            have HN := Lib.hid (HMM.out.leftT HOA.out.rise HX.out HLT.out HZ.out)
            clear p0 p1 p2 q0 q1 q2 P0 P1 P2 Q0 Q1 Q2 x0 x1 x2 x3 x4 x5 x6 x7 x8 y0 y1 y2 y3 y4 y5 y6 y7 y8
            have ba := HBA.out.kept (HO.out.ke.trans G9.g); have bb := HBB.out.kept (HO.out.ke.trans G9.g)
            have p0 := ba.c0; have q0 := bb.c0
            have EV := (HEX.out.kept G9.g)
            have x0 := EV.c0; have x1 := EV.c1; have x2 := EV.c2; have x3 := EV.c3; have x4 := EV.c4; have x5 := EV.c5; have x6 := EV.c6; have x7 := EV.c7; have x8 := EV.c8
            have hka := (Kept.refl G9.w).alloc #[.int .i64 x.d.1, .int .i64 x.d.2, .string x.p, .int .i64 x.k, .int .i64 x.vk, .int .i64 x.vn, .string x.vt, .int .i64 x.e.1, .int .i64 x.e.2] 34
            obtain ⟨v8, w8, hr8, ho8⟩ := ((HO.out.kept G9.g).kept hka).app _ _ _ _ (el_one (Ent.new G9.w x 34)) (by omega)
            have HR8 := Lib.hid hr8
            have HO9 := Lib.hid ho8
            clear hr8 ho8 hka ba bb EV
            go_wp2_with (at_builtin; refine Lib.wpList_append_run _ rfl (.tmp 66) (.tmp 72) _ _ rfl _ _ rfl rfl _ _ HR8.out ?_)
            go_roundw
            case rel => exact ⟨i + 1, k, X ++ [x], by omega, hk, by go_num, rfl, HO9.out, HN.out, by rw [List.length_append]; simp only [List.length_cons, List.length_nil]; omega⟩
            case measure => simp [intOf]; omega
        · by_cases hr2 : 0 < r
          · have r0 : decide (r < 0) = false := by rw [decide_eq_false_iff_not]; exact hr
            have r1 : decide (0 < r) = true := by rw [decide_eq_true_iff]; exact hr2
            have r2 : decide (r > 0) = true := r1
            have HLT := Lib.hid (show ∀ z ∈ a.L.drop i, LtD y.d z.d from drop_lt HOA.out.rise HX.out ((cmpD_gt _ _).1 (by rw [HRR.out]; exact hr2)))
            clear hrr hr hr2
            obtain ⟨z, hz⟩ : ∃ z, stayE a.L a.V a.C y = z := ⟨_, rfl⟩
            have AK := Lib.hid (fun g : KExt wr => rkeeps_any y _ n c a.L B m k0 a.V D p q a.C _ ((HA.out.kept HO.out.ke).kept g.g) HOA.out.rise (by omega) z hz)
            have HZ := Lib.hid hz
            clear hz
            go_wp2_with fail
            refine region_kept wr (by kernel_rfl) (by kernel_rfl) (Kept.refl _) ?_
            repeat (go_big_quiet_step ((first | (go_at_call 24; (with_reducible exact KExt.callsK (AC.out _))) | fail)))
            refine wpQuiet_nil ?_
            intro G7
            go_wp2_with fail
            refine region_kept wr (by kernel_rfl) (by kernel_rfl) (G7.g) ?_
            repeat (go_big_quiet_step ((first | (go_at_call 24; (with_reducible exact KExt.callsK (AC.out _))) | fail)))
            refine wpQuiet_nil ?_
            intro G8
            go_wp2_with fail
            refine region_kept wr (by kernel_rfl) (by kernel_rfl) (G8.g) ?_
            repeat (go_big_quiet_step ((first | (go_at_call 63; (with_reducible exact KExt.callsK (AK.out _))) | fail)))
            refine wpQuiet_nil ?_
            intro G9
            cases z with
            | false =>
              have HN := Lib.hid (HMM.out.rightF HOB.out.rise HY.out HLT.out HZ.out)
              clear p0 p1 p2 q0 q1 q2 P0 P1 P2 Q0 Q1 Q2 x0 x1 x2 x3 x4 x5 x6 x7 x8 y0 y1 y2 y3 y4 y5 y6 y7 y8
              go_wp2_with fail
              go_roundw
              case rel => exact ⟨i, k + 1, X, hi, by omega, rfl, by go_num, HO.out.kept G9.g, HN.out, by omega⟩
              case measure => simp [intOf]; omega
            | true =>
              have HN := Lib.hid (HMM.out.rightT HOB.out.rise HY.out HLT.out HZ.out)
              clear p0 p1 p2 q0 q1 q2 P0 P1 P2 Q0 Q1 Q2 x0 x1 x2 x3 x4 x5 x6 x7 x8 y0 y1 y2 y3 y4 y5 y6 y7 y8
              have ba := HBA.out.kept (HO.out.ke.trans G9.g); have bb := HBB.out.kept (HO.out.ke.trans G9.g)
              have p0 := ba.c0; have q0 := bb.c0
              have EV := (HEY.out.kept G9.g)
              have x0 := EV.c0; have x1 := EV.c1; have x2 := EV.c2; have x3 := EV.c3; have x4 := EV.c4; have x5 := EV.c5; have x6 := EV.c6; have x7 := EV.c7; have x8 := EV.c8
              have hka := (Kept.refl G9.w).alloc #[.int .i64 y.d.1, .int .i64 y.d.2, .string y.p, .int .i64 y.k, .int .i64 y.vk, .int .i64 y.vn, .string y.vt, .int .i64 y.e.1, .int .i64 y.e.2] 34
              obtain ⟨v8, w8, hr8, ho8⟩ := ((HO.out.kept G9.g).kept hka).app _ _ _ _ (el_one (Ent.new G9.w y 34)) (by omega)
              have HR8 := Lib.hid hr8
              have HO9 := Lib.hid ho8
              clear hr8 ho8 hka ba bb EV
              go_wp2_with (at_builtin; refine Lib.wpList_append_run _ rfl (.tmp 103) (.tmp 109) _ _ rfl _ _ rfl rfl _ _ HR8.out ?_)
              go_roundw
              case rel => exact ⟨i, k + 1, X ++ [y], hi, by omega, rfl, by go_num, HO9.out, HN.out, by rw [List.length_append]; simp only [List.length_cons, List.length_nil]; omega⟩
              case measure => simp [intOf]; omega
          · have r0 : decide (r < 0) = false := by rw [decide_eq_false_iff_not]; exact hr
            have r1 : decide (0 < r) = false := by rw [decide_eq_false_iff_not]; exact hr2
            have r2 : decide (r > 0) = false := r1
            have HN := Lib.hid (HMM.out.both HOA.out.rise HOB.out.rise HX.out HY.out ((cmpD_eq _ _).1 (by rw [HRR.out]; omega)))
            clear hrr hr hr2
            go_wp2_with fail
            refine region_kept wr (by kernel_rfl) (by kernel_rfl) (Kept.refl _) ?_
            repeat (go_big_quiet_step ((first | (go_at_call 24; (with_reducible exact KExt.callsK (AC.out _))) | fail)))
            refine wpQuiet_nil ?_
            intro G7
            go_wp2_with fail
            refine region_kept wr (by kernel_rfl) (by kernel_rfl) (G7.g) ?_
            repeat (go_big_quiet_step ((first | (go_at_call 24; (with_reducible exact KExt.callsK (AC.out _))) | fail)))
            refine wpQuiet_nil ?_
            intro G9
            clear p0 p1 p2 q0 q1 q2 P0 P1 P2 Q0 Q1 Q2 x0 x1 x2 x3 x4 x5 x6 x7 x8 y0 y1 y2 y3 y4 y5 y6 y7 y8
            have ba := HBA.out.kept (HO.out.ke.trans G9.g); have bb := HBB.out.kept (HO.out.ke.trans G9.g)
            have p0 := ba.c0; have q0 := bb.c0
            have EV := (HEX.out.kept G9.g)
            have x0 := EV.c0; have x1 := EV.c1; have x2 := EV.c2; have x3 := EV.c3; have x4 := EV.c4; have x5 := EV.c5; have x6 := EV.c6; have x7 := EV.c7; have x8 := EV.c8
            have hka := (Kept.refl G9.w).alloc #[.int .i64 x.d.1, .int .i64 x.d.2, .string x.p, .int .i64 x.k, .int .i64 x.vk, .int .i64 x.vn, .string x.vt, .int .i64 x.e.1, .int .i64 x.e.2] 34
            obtain ⟨v8, w8, hr8, ho8⟩ := ((HO.out.kept G9.g).kept hka).app _ _ _ _ (el_one (Ent.new G9.w x 34)) (by omega)
            have HR8 := Lib.hid hr8
            have HO9 := Lib.hid ho8
            clear hr8 ho8 hka ba bb EV
            go_wp2_with (at_builtin; refine Lib.wpList_append_run _ rfl (.tmp 20) (.tmp 26) _ _ rfl _ _ rfl rfl _ _ HR8.out ?_)
            go_roundw
            case rel => exact ⟨i + 1, k + 1, X ++ [x], by omega, by omega, by go_num, by go_num, HO9.out, HN.out, by rw [List.length_append]; simp only [List.length_cons, List.length_nil]; omega⟩
            case measure => simp [intOf]; omega
      · obtain ⟨gx, ox, x, hgx, hx, EX⟩ := (HA.out.el.kept HO.out.ke).get hin
        subst hgx
        have HX := Lib.hid hx
        have HEX := Lib.hid EX
        have x0 := KExt.cell EX.c0; have x1 := KExt.cell EX.c1; have x2 := KExt.cell EX.c2; have x3 := KExt.cell EX.c3; have x4 := KExt.cell EX.c4; have x5 := KExt.cell EX.c5; have x6 := KExt.cell EX.c6; have x7 := KExt.cell EX.c7; have x8 := KExt.cell EX.c8
        clear hx EX
        have fk : ((k : Int) == (n' : Int)) = true := by rw [beq_iff_eq]; omega
        have fk2 : (k == n') = true := by rw [beq_iff_eq]; omega
        have HLT := Lib.hid (show ∀ y ∈ b.L.drop k, LtD x.d y.d from drop_end (by have := HNB.out; omega))
        obtain ⟨z, hz⟩ : ∃ z, stayE b.L b.V b.C x = z := ⟨_, rfl⟩
        have AK := Lib.hid (fun g : KExt wr => rkeeps_any x _ n' c' b.L B' m' k' b.V D' p' q' b.C _ ((HB.out.kept HO.out.ke).kept g.g) HOB.out.rise (by omega) z hz)
        have HZ := Lib.hid hz
        clear hz
        go_wp2_with fail
        refine region_kept wr (by kernel_rfl) (by kernel_rfl) (Kept.refl _) ?_
        repeat (go_big_quiet_step (fail))
        refine wpQuiet_nil ?_
        intro G7
        go_wp2_with fail
        refine region_kept wr (by kernel_rfl) (by kernel_rfl) (G7.g) ?_
        repeat (go_big_quiet_step ((first | (go_at_call 63; (with_reducible exact KExt.callsK (AK.out _))) | fail)))
        refine wpQuiet_nil ?_
        intro G9
        cases z with
        | false =>
          have HN := Lib.hid (HMM.out.leftF HOA.out.rise HX.out HLT.out HZ.out)
          clear p0 p1 p2 q0 q1 q2 P0 P1 P2 Q0 Q1 Q2 x0 x1 x2 x3 x4 x5 x6 x7 x8
          go_wp2_with fail
          go_roundw
          case rel => exact ⟨i + 1, k, X, by omega, hk, by go_num, rfl, HO.out.kept G9.g, HN.out, by omega⟩
          case measure => simp [intOf]; omega
        | true =>
          have HN := Lib.hid (HMM.out.leftT HOA.out.rise HX.out HLT.out HZ.out)
          clear p0 p1 p2 q0 q1 q2 P0 P1 P2 Q0 Q1 Q2 x0 x1 x2 x3 x4 x5 x6 x7 x8
          have ba := HBA.out.kept (HO.out.ke.trans G9.g); have bb := HBB.out.kept (HO.out.ke.trans G9.g)
          have p0 := ba.c0; have q0 := bb.c0
          have EV := (HEX.out.kept G9.g)
          have x0 := EV.c0; have x1 := EV.c1; have x2 := EV.c2; have x3 := EV.c3; have x4 := EV.c4; have x5 := EV.c5; have x6 := EV.c6; have x7 := EV.c7; have x8 := EV.c8
          have hka := (Kept.refl G9.w).alloc #[.int .i64 x.d.1, .int .i64 x.d.2, .string x.p, .int .i64 x.k, .int .i64 x.vk, .int .i64 x.vn, .string x.vt, .int .i64 x.e.1, .int .i64 x.e.2] 34
          obtain ⟨v8, w8, hr8, ho8⟩ := ((HO.out.kept G9.g).kept hka).app _ _ _ _ (el_one (Ent.new G9.w x 34)) (by omega)
          have HR8 := Lib.hid hr8
          have HO9 := Lib.hid ho8
          clear hr8 ho8 hka ba bb EV
          go_wp2_with (at_builtin; refine Lib.wpList_append_run _ rfl (.tmp 66) (.tmp 72) _ _ rfl _ _ rfl rfl _ _ HR8.out ?_)
          go_roundw
          case rel => exact ⟨i + 1, k, X ++ [x], by omega, hk, by go_num, rfl, HO9.out, HN.out, by rw [List.length_append]; simp only [List.length_cons, List.length_nil]; omega⟩
          case measure => simp [intOf]; omega
    · by_cases hkn : k < n'
      · obtain ⟨gy, oy, y, hgy, hy, EY⟩ := (HB.out.el.kept HO.out.ke).get hkn
        subst hgy
        have HY := Lib.hid hy
        have HEY := Lib.hid EY
        have y0 := KExt.cell EY.c0; have y1 := KExt.cell EY.c1; have y2 := KExt.cell EY.c2; have y3 := KExt.cell EY.c3; have y4 := KExt.cell EY.c4; have y5 := KExt.cell EY.c5; have y6 := KExt.cell EY.c6; have y7 := KExt.cell EY.c7; have y8 := KExt.cell EY.c8
        clear hy EY
        have fi : ((i : Int) == (n : Int)) = true := by rw [beq_iff_eq]; omega
        have fi2 : (i == n) = true := by rw [beq_iff_eq]; omega
        have fk : ((k : Int) == (n' : Int)) = false := by rw [beq_eq_false_iff_ne]; omega
        have fk2 : (k == n') = false := by rw [beq_eq_false_iff_ne]; omega
        have HLT := Lib.hid (show ∀ z ∈ a.L.drop i, LtD y.d z.d from drop_end (by have := HNA.out; omega))
        obtain ⟨z, hz⟩ : ∃ z, stayE a.L a.V a.C y = z := ⟨_, rfl⟩
        have AK := Lib.hid (fun g : KExt wr => rkeeps_any y _ n c a.L B m k0 a.V D p q a.C _ ((HA.out.kept HO.out.ke).kept g.g) HOA.out.rise (by omega) z hz)
        have HZ := Lib.hid hz
        clear hz
        go_wp2_with fail
        refine region_kept wr (by kernel_rfl) (by kernel_rfl) (Kept.refl _) ?_
        repeat (go_big_quiet_step (fail))
        refine wpQuiet_nil ?_
        intro G7
        go_wp2_with fail
        refine region_kept wr (by kernel_rfl) (by kernel_rfl) (G7.g) ?_
        repeat (go_big_quiet_step (fail))
        refine wpQuiet_nil ?_
        intro G8
        go_wp2_with fail
        refine region_kept wr (by kernel_rfl) (by kernel_rfl) (G8.g) ?_
        repeat (go_big_quiet_step ((first | (go_at_call 63; (with_reducible exact KExt.callsK (AK.out _))) | fail)))
        refine wpQuiet_nil ?_
        intro G9
        cases z with
        | false =>
          have HN := Lib.hid (HMM.out.rightF HOB.out.rise HY.out HLT.out HZ.out)
          clear p0 p1 p2 q0 q1 q2 P0 P1 P2 Q0 Q1 Q2 y0 y1 y2 y3 y4 y5 y6 y7 y8
          go_wp2_with fail
          go_roundw
          case rel => exact ⟨i, k + 1, X, hi, by omega, rfl, by go_num, HO.out.kept G9.g, HN.out, by omega⟩
          case measure => simp [intOf]; omega
        | true =>
          have HN := Lib.hid (HMM.out.rightT HOB.out.rise HY.out HLT.out HZ.out)
          clear p0 p1 p2 q0 q1 q2 P0 P1 P2 Q0 Q1 Q2 y0 y1 y2 y3 y4 y5 y6 y7 y8
          have ba := HBA.out.kept (HO.out.ke.trans G9.g); have bb := HBB.out.kept (HO.out.ke.trans G9.g)
          have p0 := ba.c0; have q0 := bb.c0
          have EV := (HEY.out.kept G9.g)
          have x0 := EV.c0; have x1 := EV.c1; have x2 := EV.c2; have x3 := EV.c3; have x4 := EV.c4; have x5 := EV.c5; have x6 := EV.c6; have x7 := EV.c7; have x8 := EV.c8
          have hka := (Kept.refl G9.w).alloc #[.int .i64 y.d.1, .int .i64 y.d.2, .string y.p, .int .i64 y.k, .int .i64 y.vk, .int .i64 y.vn, .string y.vt, .int .i64 y.e.1, .int .i64 y.e.2] 34
          obtain ⟨v8, w8, hr8, ho8⟩ := ((HO.out.kept G9.g).kept hka).app _ _ _ _ (el_one (Ent.new G9.w y 34)) (by omega)
          have HR8 := Lib.hid hr8
          have HO9 := Lib.hid ho8
          clear hr8 ho8 hka ba bb EV
          go_wp2_with (at_builtin; refine Lib.wpList_append_run _ rfl (.tmp 103) (.tmp 109) _ _ rfl _ _ rfl rfl _ _ HR8.out ?_)
          go_roundw
          case rel => exact ⟨i, k + 1, X ++ [y], hi, by omega, rfl, by go_num, HO9.out, HN.out, by rw [List.length_append]; simp only [List.length_cons, List.length_nil]; omega⟩
          case measure => simp [intOf]; omega
      · obtain rfl : i = n := by omega
        obtain rfl : k = n' := by omega
        have HFM := Lib.hid (show Mid a b a.L.length b.L.length X by rw [← HNA.out, ← HNB.out]; exact HMM.out)
        clear P0 P1 P2 Q0 Q1 Q2
        go_wp2_with fail
        go_at_call 64
        refine (rjoin_any B m k0 a.V D p q a.C B' m' k' b.V D' p' q' b.C _ (HA.out.il.kept HO.out.ke) HOA.out.ctx.vec (HA.out.dl.kept HO.out.ke) (HB.out.il.kept HO.out.ke) HOB.out.ctx.vec (HB.out.dl.kept HO.out.ke) (by omega)).mono ?_
        rintro e w9 ⟨A9, n9, c9, B9, m9, k9, V9, C9, rfl, hi9, hd9, hs9, hmm, hk9, hfa, hfb⟩
        have hsz6 : w.heap.size + 3 ≤ wr.heap.size := by rw [← HSZ.out]; exact HO.out.ke.2.2
        have hset : SetC (fun d => a.has d ∨ b.has d) V9 C9 := ⟨hs9.right, fun d => (hs9.has d).trans (join_has HOA.out.ctx HOB.out.ctx d)⟩
        have hml : m9 = C9.length := hd9.1
        have hr := HRES.out.kept (HO.out.ke.trans hk9)
        have e0 := hr.c0; have e1 := hr.c1; have e2 := hr.c2; have ef0 := hr.f 0; have ef1 := hr.f 1; have ef2 := hr.f 2
        have HFIN := Lib.hid (stj_box (W := w) (b := w.heap.size + 2) (s := ⟨X, V9, C9⟩) (HE3.out.kept hk9) hi9 hd9 (fun ad e => by have := HF3.out ad e; have := HSZ.out; omega) (fun ad e => by have := hfa ad e; omega) (fun ad e => by have := hfb ad e; omega) (Nat.le_add_right _ 2) (HK.out.trans (HO.out.ke.trans hk9)) (show Joined a b ⟨X, V9, C9⟩ from ⟨HFM.out.fin hset, by show X.length ≤ _; have := HNA.out; have := HNB.out; omega, by show C9.length ≤ _; have := HPA.out; have := HPB.out; omega⟩))
        clear hi9 hd9 hs9 hmm hk9 hfa hfb hset hml hr p0 p1 p2 q0 q1 q2
        go_wp2_with fail
        exact bodyPost_ret (by simp [results, Tryz.results36, go_sem, *]) rfl HFIN.out
end Go.Proofs.YtkooihljddibfaaGreat

namespace Go.Proofs.YtkooihljddibfaaGreat
open Go.RowKit
set_option linter.unusedVariables false

set_option maxRecDepth 100000 in
set_option maxHeartbeats 8000000 in
theorem rnext_any (u0 : Value) (A : Option Addr) (n c : Nat) (V : List Int) (B : Option Addr) (m k : Nat) (C : List (Int × Int)) (r : Int) (w : World) (h : Il w A n c V) (hd : Dl w B m k C) (hr : RightC V C) :
    Calls Tryz.prog 9 #[.agg #[u0, .slice A n c, .slice B m k], .int .i64 r] w fun e w' => NextS V C r e ∧ Kept w w' := by
  have hk := ((Kept.refl w).alloc #[u0, .slice A n c, .slice B m k] 28).alloc #[.int .i64 0, .int .i64 0] 30
  have hb := (Box3.new w u0 (.slice A n c) (.slice B m k) 28).kept ((Kept.refl _).alloc #[.int .i64 0, .int .i64 0] 30)
  have hb2 := Box2.new (w.alloc (.cells #[u0, .slice A n c, .slice B m k] 28)) (.int .i64 0) (.int .i64 0) 30
  rw [show (w.alloc (.cells #[u0, .slice A n c, .slice B m k] 28)).heap.size = w.heap.size + 1 by simp] at hb2
  have AM := Lib.hid (rmost_any A n c V B m k C r _ (h.kept hk) (hd.kept hk))
  have HM := Lib.hid (most_bd hr r)
  have HK := Lib.hid hk; have HB := Lib.hid hb; have HB2 := Lib.hid hb2
  obtain ⟨z, hz⟩ : ∃ z, mostC V C r = z := ⟨_, rfl⟩
  rw [hz] at AM HM
  unfold NextS
  rw [hz]
  clear h hd hr hk hb hb2 hz
  have b1 := HB.out.c1; have b2 := HB.out.c2
  have hwz : IntKind.i64.wrap (z + 1) = z + 1 := by have := HM.out; rw [IntWalk.i64_in _ (by omega)]
  by_cases h1 : r < 0
  · have t1 : decide (r < 0) = true := decide_eq_true h1
    have HN := Lib.hid (show ¬ (0 ≤ r ∧ r < 64 ∧ z < 1073741824) by omega)
    clear h1
    go_enter Tryz.func9, Tryz.ntmps9
    go_wp2_with fail
    go_at_call 29
    refine AM.out.mono ?_
    rintro e w1 ⟨rfl, hk1⟩
    have hr1 := HB2.out.kept hk1
    clear b1 b2
    have r0 := hr1.c0; have r1 := hr1.c1; have rf := hr1.f
    have HK1 := Lib.hid (HK.out.trans hk1)
    clear hr1 hk1
    go_wp2_with fail
    refine bodyPost_ret (by simp [results, Tryz.results9, go_sem, *]) rfl ⟨.inr ⟨HN.out, rfl⟩, ?_⟩
    exact (HK1.out.setCell (Nat.le_add_right _ 1) _).setCell (Nat.le_add_right _ 1) _
  · have t1 : decide (r < 0) = false := decide_eq_false h1
    by_cases h2 : 64 ≤ r
    · have t2 : decide (64 ≤ r) = true := decide_eq_true h2
      have HN := Lib.hid (show ¬ (0 ≤ r ∧ r < 64 ∧ z < 1073741824) by omega)
      clear h1 h2
      go_enter Tryz.func9, Tryz.ntmps9
      go_wp2_with fail
      go_at_call 29
      refine AM.out.mono ?_
      rintro e w1 ⟨rfl, hk1⟩
      have hr1 := HB2.out.kept hk1
      clear b1 b2
      have r0 := hr1.c0; have r1 := hr1.c1; have rf := hr1.f
      have HK1 := Lib.hid (HK.out.trans hk1)
      clear hr1 hk1
      go_wp2_with fail
      refine bodyPost_ret (by simp [results, Tryz.results9, go_sem, *]) rfl ⟨.inr ⟨HN.out, rfl⟩, ?_⟩
      exact (HK1.out.setCell (Nat.le_add_right _ 1) _).setCell (Nat.le_add_right _ 1) _
    · have t2 : decide (64 ≤ r) = false := decide_eq_false h2
      by_cases h3 : 1073741824 ≤ z
      · have t3 : decide (1073741824 ≤ z) = true := decide_eq_true h3
        have HN := Lib.hid (show ¬ (0 ≤ r ∧ r < 64 ∧ z < 1073741824) by omega)
        clear h1 h2 h3
        go_enter Tryz.func9, Tryz.ntmps9
        go_wp2_with fail
        go_at_call 29
        refine AM.out.mono ?_
        rintro e w1 ⟨rfl, hk1⟩
        have hr1 := HB2.out.kept hk1
        clear b1 b2
        have r0 := hr1.c0; have r1 := hr1.c1; have rf := hr1.f
        have HK1 := Lib.hid (HK.out.trans hk1)
        clear hr1 hk1
        go_wp2_with fail
        refine bodyPost_ret (by simp [results, Tryz.results9, go_sem, *]) rfl ⟨.inr ⟨HN.out, rfl⟩, ?_⟩
        exact (HK1.out.setCell (Nat.le_add_right _ 1) _).setCell (Nat.le_add_right _ 1) _
      · have t3 : decide (1073741824 ≤ z) = false := decide_eq_false h3
        have HN := Lib.hid (show 0 ≤ r ∧ r < 64 ∧ z < 1073741824 by omega)
        clear h1 h2 h3
        go_enter Tryz.func9, Tryz.ntmps9
        go_wp2_with fail
        go_at_call 29
        refine AM.out.mono ?_
        rintro e w1 ⟨rfl, hk1⟩
        have hr1 := HB2.out.kept hk1
        clear b1 b2
        have r0 := hr1.c0; have r1 := hr1.c1; have rf := hr1.f
        have HK1 := Lib.hid (HK.out.trans hk1)
        clear hr1 hk1
        go_wp2_with fail
        refine bodyPost_ret (by simp [results, Tryz.results9, go_sem, *]) rfl ⟨.inl ⟨HN.out, rfl⟩, ?_⟩
        exact (HK1.out.setCell (Nat.le_add_right _ 1) _).setCell (Nat.le_add_right _ 1) _
set_option maxRecDepth 100000 in
set_option maxHeartbeats 8000000 in
theorem rplay_any (A : Option Addr) (n c : Nat) (B : Option Addr) (m k : Nat) (D : Option Addr) (p q : Nat) (a : Sta) (A' : Option Addr) (n' c' : Nat) (B' : Option Addr) (m' k' : Nat) (D' : Option Addr) (p' q' : Nat) (b : Sta) (w : World)
    (h : Stt w A n c B m k D p q a.L a.V a.C) (h' : Stt w A' n' c' B' m' k' D' p' q' b.L b.V b.C) (ha : Ord a) (hb : Ord b) (hn : n ≤ 100000) (hp : p ≤ 100000) (hn' : n' ≤ 100000) (hp' : p' ≤ 100000) :
    Calls Tryz.prog 16 #[.agg #[.slice A n c, .slice B m k, .slice D p q], .agg #[.slice A' n' c', .slice B' m' k', .slice D' p' q']] w (StJ (Joined a b) w) := by
  have hk := ((Kept.refl w).alloc #[.slice A n c, .slice B m k, .slice D p q] 28).alloc #[.slice A' n' c', .slice B' m' k', .slice D' p' q'] 28
  have hk3 := hk.alloc #[.slice none 0 0, .slice none 0 0, .slice none 0 0] 28
  have b0 := ((Box3.new w (.slice A n c) (.slice B m k) (.slice D p q) 28).kept ((Kept.refl _).alloc #[.slice A' n' c', .slice B' m' k', .slice D' p' q'] 28)).kept ((Kept.refl _).alloc #[.slice none 0 0, .slice none 0 0, .slice none 0 0] 28)
  have b1 := (Box3.new (w.alloc (.cells #[.slice A n c, .slice B m k, .slice D p q] 28)) (.slice A' n' c') (.slice B' m' k') (.slice D' p' q') 28).kept ((Kept.refl _).alloc #[.slice none 0 0, .slice none 0 0, .slice none 0 0] 28)
  have b2 := Box3.new ((w.alloc (.cells #[.slice A n c, .slice B m k, .slice D p q] 28)).alloc (.cells #[.slice A' n' c', .slice B' m' k', .slice D' p' q'] 28)) (.slice none 0 0) (.slice none 0 0) (.slice none 0 0) 28
  rw [show (w.alloc (.cells #[.slice A n c, .slice B m k, .slice D p q] 28)).heap.size = w.heap.size + 1 by simp] at b1
  rw [show ((w.alloc (.cells #[.slice A n c, .slice B m k, .slice D p q] 28)).alloc (.cells #[.slice A' n' c', .slice B' m' k', .slice D' p' q'] 28)).heap.size = w.heap.size + 2 by simp] at b2
  have HC := Lib.hid (rjoin_st A n c B m k D p q a A' n' c' B' m' k' D' p' q' b _ (h.kept hk3) (h'.kept hk3) ha hb hn hp hn' hp')
  have HRES := Lib.hid b2; have HK := Lib.hid hk3
  have x0 := b0.c0; have x1 := b0.c1; have x2 := b0.c2; have y0 := b1.c0; have y1 := b1.c1; have y2 := b1.c2
  clear h h' hk hk3 b0 b1 b2 hn hp hn' hp'
  go_enter Tryz.func16, Tryz.ntmps16
  go_wp2_with fail
  go_at_call 36
  refine HC.out.mono ?_
  rintro e w7 ⟨A7, n7, c7, B7, m7, k7, D7, p7, q7, s7, rfl, hs7, hS7, hk7⟩
  have hres := HRES.out.kept hk7
  have e0 := hres.c0; have e1 := hres.c1; have e2 := hres.c2; have ef := hres.f
  have HF := Lib.hid (stj_put (S := Joined a b) (W := w) hs7 hres (Nat.le_add_right _ 2) (HK.out.trans hk7) hS7)
  clear hs7 hS7 hk7 hres x0 x1 x2 y0 y1 y2
  go_wp2_with fail
  exact bodyPost_ret (by simp [results, Tryz.results16, go_sem, *]) rfl HF.out
end Go.Proofs.YtkooihljddibfaaGreat

