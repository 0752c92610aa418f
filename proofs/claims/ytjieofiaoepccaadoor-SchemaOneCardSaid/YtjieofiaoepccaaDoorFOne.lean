/-
  What is proved: SchemaOne of layer 11's laws, called with any schema and path, returns true; the world has new blocks at most.
-/
import Derived.Test.YtjieofiaoepccaaDoorM22
namespace Go.Proofs.YtjieofiaoepccaaDoor
open Go.RowKit
set_option linter.unusedVariables false

theorem putFd_le (b : ByteArray) {x : Fd} (h : FdS x) : (putFd b x).size ≤ b.size + 560 := by
  unfold putFd
  refine Nat.le_trans (putV_size _ _ _ _) ?_
  have h1 := putS_size x.p.size; have h2 := putS_size (x.k % 4).toNat; have h3 := putS_size (x.t % 4).toNat
  have := h.p; have := h.vt
  simp only [ByteArray.size_append]
  omega
theorem putSc_le (b : ByteArray) (L : List Fd) (h : ∀ x ∈ L, FdS x) : (putSc b L).size ≤ b.size + 10 + L.length * 560 := by
  have key : ∀ t, t ≤ L.length → (putScL b L t).size ≤ b.size + 10 + t * 560 := by
    intro t
    induction t with
    | zero =>
      intro _
      have := putS_size L.length
      show (b ++ putS L.length).size ≤ _
      rw [ByteArray.size_append]; omega
    | succ t ih =>
      intro ht
      have hx : L[t]? = some L[t] := List.getElem?_eq_getElem ht
      rw [putScL_step b hx]
      have h1 := putFd_le (putScL b L t) (h _ (List.getElem_mem ht))
      have h2 := ih (by omega)
      omega
  have := key L.length (Nat.le_refl _)
  rwa [putScL_all] at this
theorem prigK (p : ByteArray) (b : Bool) (h : L4.rightS p = b) (hp : p.size ≤ 1099511627776) (w : World) :
    Calls Tryd.prog 7 #[.string p] w fun e w' => e = .returned (.bool b) ∧ Kept w w' := by
  subst h
  exact (L4.right_any p w hp).mono fun _ _ ⟨he, hk⟩ => ⟨he, kept_of_below hk⟩
theorem pmatK (p q : ByteArray) (b : Bool) (h : L4.matS p q = b) (hp : p.size ≤ 1099511627776) (hq : q.size ≤ 1099511627776) (w : World) :
    Calls Tryd.prog 8 #[.string p, .string q] w fun e w' => e = .returned (.bool b) ∧ Kept w w' := by
  subst h
  exact (L4.mat_any p q w hp hq).mono fun _ _ ⟨he, hk⟩ => ⟨he, kept_of_below hk⟩
theorem findR_some {L : List Fd} {p : ByteArray} {y : Fd} {z : Bool} (h : findR L p = (y, z)) : z = (findF L p).isSome := by
  unfold findR at h
  split at h
  · rename_i e; rw [e]; exact (Prod.mk.inj h).2.symm
  · rename_i e; rw [e]; exact (Prod.mk.inj h).2.symm
theorem zero_of {cnt : Nat} (h1 : (false == decide (cnt = 1)) = true) (h2 : cnt ≤ 1) : cnt = 0 := by
  have h3 : ¬ cnt = 1 := by simpa using h1
  omega
theorem drop_rev {L : List Fd} {k : Nat} {x : Fd} (h : L[k]? = some x) : (L.drop k).reverse = (L.drop (k + 1)).reverse ++ [x] := by
  obtain ⟨h1, h2⟩ := List.getElem?_eq_some_iff.1 h
  rw [List.drop_eq_getElem_cons h1, List.reverse_cons, h2]
open Classical in
set_option maxRecDepth 100000 in
set_option maxHeartbeats 32000000 in
theorem fone_any (A : Option Addr) (n c : Nat) (L : List Fd) (p : ByteArray) (w : World) (h : Fl w A n c L) (hw : IntF L) (hp : p.size ≤ 9223372036854775807) (hl : LaidF w) :
    Calls Tryd.prog 3 #[.agg #[.slice A n c], .string p] w fun e w' => e = .returned (.bool true) ∧ Kept w w' := by
  have hk := (Kept.refl w).alloc #[.slice A n c] 24
  have hcap := h.cap.1; have hcap2 := h.cap.2
  have HNL := Lib.hid h.1; have HSZ := Lib.hid hw; have HLW := Lib.hid hl
  have HB := Lib.hid (Box1.new w (.slice A n c) 24)
  have HH := Lib.hid (h.kept hk)
  obtain ⟨U, hU⟩ : ∃ U, w.alloc (.cells #[.slice A n c] 24) = U := ⟨_, rfl⟩
  rw [hU] at hk HB HH
  have HK := Lib.hid hk; have HUU := Lib.hid hU
  have d0 := HB.out.c0
  clear h hw hk hU hl
  go_enter Tryd.func3, Tryd.ntmps3
  go_wp2_with fail
  rw [HUU.out]
  go_wp2_with fail
  by_cases hS : ShortF L n
  · have AL := Lib.hid (fun w h => flong_any A n c L w h HSZ.out.w false ⟨(fun h => by cases h), fun h => absurd hS h⟩)
    by_cases h1 : 200 < p.size
    · have f1 : decide ((200 : Int) < (p.size : Int)) = true := decide_eq_true (by omega)
      have f2 : decide (200 < p.size) = true := decide_eq_true (by omega)
      clear hS h1
      go_at_call 4
      refine (AL.out _ HH.out).mono ?_
      rintro e w1 ⟨rfl, hk1⟩
      have HK1 := Lib.hid hk1
      have d0 := (HB.out.kept hk1).c0
      have HH1 := Lib.hid (HH.out.kept hk1)
      clear hk1
      go_wp2_with fail
      go_at_call 6
      refine (fawake_any _ (HLW.out.kept (HK.out.trans HK1.out))).mono ?_
      rintro e w2 ⟨rfl, hk2⟩
      have HK2 := Lib.hid hk2
      clear hk2
      go_wp2_with fail
      go_ret
      exact ⟨rfl, HK.out.trans (HK1.out.trans HK2.out)⟩
    · have f1 : decide ((200 : Int) < (p.size : Int)) = false := decide_eq_false (by omega)
      have f2 : decide (200 < p.size) = false := decide_eq_false (by omega)
      have HS := Lib.hid (HSZ.out.s hS)
      by_cases h2 : ScOk L
      · have HOK := Lib.hid h2
        clear h2
        have hn40 := hS.2
        clear hS
        go_at_call 4
        refine (AL.out _ HH.out).mono ?_
        rintro e w1 ⟨rfl, hk1⟩
        have HK1 := Lib.hid hk1
        have d0 := (HB.out.kept hk1).c0
        have HH1 := Lib.hid (HH.out.kept hk1)
        clear hk1
        go_wp2_with fail
        go_at_call 5
        refine (rsc_any A n c L _ HH1.out (fds_w HS.out) true ⟨fun _ => HOK.out, fun _ => rfl⟩).mono ?_
        rintro e w2 ⟨rfl, hk1⟩
        replace HK1 := Lib.hid (HK1.out.trans hk1)
        clear d0
        have d0 := (HB.out.kept HK1.out).c0
        clear hk1
        have HP9 := Lib.hid (show p.size ≤ 1099511627776 by omega)
        obtain ⟨rb, hrb⟩ : ∃ rb, L4.rightS p = rb := ⟨_, rfl⟩
        have AR := Lib.hid (fun w => prigK p rb hrb HP9.out w)
        clear hrb
        go_wp2_with fail
        clear d0
        go_loopw [5, 31] (fun m i wr => ∃ t cnt : Nat, t ≤ n ∧ i = .int .i64 t ∧ m = .int .i64 cnt ∧ cnt ≤ t ∧ (rb = true → cnt = matN L p t) ∧ (rb = false → cnt = 0) ∧ Kept U wr) (fun _ i _ => n - (intOf i).toNat)
        case atStart => exact ⟨0, 0, Nat.zero_le _, rfl, rfl, Nat.le_refl _, (fun _ => rfl), (fun _ => rfl), HK1.out⟩
        case round =>
          obtain ⟨t, cnt, ht, rfl, rfl, hct, hc1, hc2, hkr⟩ := hrel
          have HKR := Lib.hid hkr
          clear hkr
          by_cases hlt : t < n
          · obtain ⟨g, o, x, rfl, hx, EX⟩ := (HH.out.kept HKR.out).get hlt
            have x0 := EX.c0; have x1 := EX.c1; have x2 := EX.c2; have x3 := EX.c3; have x4 := EX.c4; have x5 := EX.c5
            have hka := (Kept.refl wr).alloc #[.string x.p, .int .i64 x.k, .int .i64 x.t, .int .i64 x.vk, .int .i64 x.vn, .string x.vt] 30
            have HE := Lib.hid (FdB.new wr x 30)
            obtain ⟨W5, hW5⟩ : ∃ W5, wr.alloc (.cells #[.string x.p, .int .i64 x.k, .int .i64 x.t, .int .i64 x.vk, .int .i64 x.vn, .string x.vt] 30) = W5 := ⟨_, rfl⟩
            rw [hW5] at hka HE
            have HKA := Lib.hid (HKR.out.trans hka)
            have HW5 := Lib.hid hW5
            have hfs := HS.out x (List.mem_of_getElem? hx)
            have hp1 : x.p.size ≤ 1099511627776 := Nat.le_trans hfs.p (by decide)
            obtain ⟨mb, hmb⟩ : ∃ mb, L4.matS p x.p = mb := ⟨_, rfl⟩
            have AM := Lib.hid (fun w => pmatK p x.p mb hmb HP9.out hp1 w)
            have HST := Lib.hid (matN_step (p := p) hx)
            rw [hmb] at HST
            have HC := Lib.hid hc1; have HC2 := Lib.hid hc2
            clear EX hx hka hW5 hfs hp1 hmb hc1 hc2
            go_wp2_with fail
            go_at_call 7
            rw [HW5.out]
            refine (AR.out _).mono ?_
            rintro e w3 ⟨rfl, hk3⟩
            replace HE := Lib.hid (HE.out.kept hk3)
            replace HKA := Lib.hid (HKA.out.trans hk3)
            clear hk3 x0 x1 x2 x3 x4 x5
            have z0 := HE.out.c0
            cases rb with
            | false =>
              go_wp2_with fail
              go_roundw
              case rel => exact ⟨t + 1, cnt, hlt, by go_num, rfl, by omega, (fun h => by cases h), HC2.out, HKA.out⟩
              case measure => simp [intOf]; omega
            | true =>
              go_wp2_with fail
              go_at_call 8
              refine (AM.out _).mono ?_
              rintro e w4 ⟨rfl, hk4⟩
              replace HKA := Lib.hid (HKA.out.trans hk4)
              clear hk4
              cases mb with
              | false =>
                have HN := Lib.hid (show cnt = matN L p (t + 1) by have h1 := HC.out (by trivial); have h2 := HST.out; rw [if_neg (by simp)] at h2; omega)
                go_wp2_with fail
                go_roundw
                case rel => exact ⟨t + 1, cnt, hlt, by go_num, rfl, by omega, (fun _ => HN.out), (fun h => by cases h), HKA.out⟩
                case measure => simp [intOf]; omega
              | true =>
                have HN := Lib.hid (show cnt + 1 = matN L p (t + 1) by have h1 := HC.out (by trivial); have h2 := HST.out; rw [if_pos rfl] at h2; omega)
                go_wp2_with fail
                go_roundw
                case rel => exact ⟨t + 1, cnt + 1, hlt, by go_num, by go_num, by omega, (fun _ => HN.out), (fun h => by cases h), HKA.out⟩
                case measure => simp [intOf]; omega
          · obtain rfl : t = n := by omega
            have hnt : decide ((t : Int) < (t : Int)) = false := decide_eq_false (by omega)
            have hnt2 : decide (t < t) = false := decide_eq_false (by omega)
            have HQ := Lib.hid (HK.out.trans HKR.out)
            replace HB := Lib.hid (HB.out.kept HKR.out); replace HH := Lib.hid (HH.out.kept HKR.out)
            obtain ⟨y, z, hyz⟩ : ∃ y z, findR L p = (y, z) := ⟨_, _, rfl⟩
            have HY := Lib.hid hyz
            have hmf := mat_few HOK.out p
            rw [← HNL.out] at hmf
            have hzs := findR_some hyz
            have hfm := find_mat L p
            rw [← hzs, ← HNL.out] at hfm
            have hc1' : cnt ≤ 1 := by
              cases rb with
              | false => have := hc2 (by trivial); omega
              | true => have := hc1 (by trivial); omega
            have HZC := Lib.hid (show rb = true → (z == decide (cnt = 1)) = true from fun h => by
              have h1 := hc1 h
              cases z with
              | true => have := hfm.1 rfl; rw [decide_eq_true (by omega)]; rfl
              | false => rw [decide_eq_false (fun h2 => by have := hfm.2 (by omega); cases this)]; rfl)
            have HZU := Lib.hid (show z = true → underF L p = true from fun h => under_find (by rw [← hzs]; exact h))
            have HC1 := Lib.hid hc1'
            clear hyz hmf hzs hfm hc1 hc2 hc1'
            have d0 := HB.out.c0
            go_wp2_with fail
            clear hnt hnt2
            go_at_call 9
            refine (sfind_any _ _ _ L p _ HH.out (fds_p2 HS.out) HP9.out y z HY.out).mono ?_
            rintro e v1 ⟨rfl, hk⟩
            have hka := (Kept.refl v1).alloc #[.string y.p, .int .i64 y.k, .int .i64 y.t, .int .i64 y.vk, .int .i64 y.vn, .string y.vt] 30
            replace HQ := Lib.hid (HQ.out.trans (hk.trans hka)); replace HB := Lib.hid (HB.out.kept (hk.trans hka)); replace HH := Lib.hid (HH.out.kept (hk.trans hka))
            clear hk hka d0
            obtain ⟨P0, hP0⟩ : ∃ P0, putSc ⟨#[]⟩ L = P0 := ⟨_, rfl⟩
            have hz0 : P0.size ≤ 30000 := by
              have h1 := putSc_le ⟨#[]⟩ L HS.out
              have h2 := HNL.out
              have h3 : (⟨#[]⟩ : ByteArray).size = 0 := rfl
              rw [← hP0]; omega
            have hz1 : (P0 ++ p).size ≤ 31000 := by rw [ByteArray.size_append]; omega
            have AT := Lib.hid (fun w => stake_c (P0 ++ p) L p 0 (by rw [← hP0]; exact tsc_fore HOK.out (fun x hx => ⟨(HS.out x hx).lo, (HS.out x hx).hi⟩) p) w (by omega))
            have HP0 := Lib.hid hP0
            clear hP0 hz1
            have d0 := HB.out.c0
            go_wp2_with fail
            go_at_call 11
            refine (sput_c ⟨#[]⟩ _ _ _ L P0 HP0.out _ HH.out hn40 HS.out (by decide)).mono ?_
            rintro e v2 ⟨rfl, hk⟩
            replace HQ := Lib.hid (HQ.out.trans hk); replace HB := Lib.hid (HB.out.kept hk); replace HH := Lib.hid (HH.out.kept hk)
            clear hk d0
            go_wp2_with fail
            go_at_call 10
            refine (AT.out _).mono ?_
            rintro e v3 ⟨A3, c3, rfl, h3, hk⟩
            have hka := (Kept.refl v3).alloc #[.slice A3 L.length c3] 24
            have HT := Lib.hid (h3.kept hka)
            have HBT := Lib.hid (Box1.new v3 (.slice A3 L.length c3) 24)
            replace HQ := Lib.hid (HQ.out.trans (hk.trans hka)); replace HB := Lib.hid (HB.out.kept (hk.trans hka)); replace HH := Lib.hid (HH.out.kept (hk.trans hka))
            clear hk hka h3 AT hz0
            obtain ⟨W, hW⟩ : ∃ W, v3.alloc (.cells #[.slice A3 L.length c3] 24) = W := ⟨_, rfl⟩
            have d0 := HB.out.c0
            rw [hW] at HQ HB HH HT HBT
            have HWW := Lib.hid hW
            clear hW
            have q0 : IntKind.i64.wrap ((t : Int) - 1) = (t : Int) - 1 := IntWalk.i64_in _ (by omega)
            go_wp2_with fail
            rw [HWW.out]
            clear d0
            go_loopw [13, 14] (fun v i wr => ∃ k : Nat, k ≤ t ∧ i = .int .i64 ((k : Int) - 1) ∧ OutF W wr v (L.drop k).reverse) (fun _ i _ => (intOf i + 1).toNat)
            case atStart => exact ⟨t, Nat.le_refl _, rfl, by rw [List.drop_of_length_le (by rw [← HNL.out]; exact Nat.le_refl _)]; exact OutF.start W⟩
            case round =>
              obtain ⟨k, hk, rfl, ho⟩ := hrel
              have HO := Lib.hid ho
              clear ho q0
              by_cases hk0 : 0 < k
              · obtain ⟨k', rfl⟩ : ∃ k', k = k' + 1 := ⟨k - 1, by omega⟩
                have hb2 := HB.out.kept HO.out.ke
                have d0 := hb2.c0
                obtain ⟨g, o, x, rfl, hx, EX⟩ := (HH.out.kept HO.out.ke).get (show k' < t by omega)
                have x0 := EX.c0; have x1 := EX.c1; have x2 := EX.c2; have x3 := EX.c3; have x4 := EX.c4; have x5 := EX.c5
                have q1 : decide ((0 : Int) ≤ (((k' + 1 : Nat) : Int) - 1)) = true := decide_eq_true (by omega)
                have e1 : (((k' + 1 : Nat) : Int) - 1) = (k' : Int) := by omega
                have q2 : IntKind.i64.wrap ((k' : Int) - 1) = (k' : Int) - 1 := IntWalk.i64_in _ (by omega)
                have q3 : decide ((0 : Int) ≤ (k' : Int)) = true := decide_eq_true (by omega)
                have hkt : k' < t := by omega
                have hka := (Kept.refl wr).alloc #[.string x.p, .int .i64 x.k, .int .i64 x.t, .int .i64 x.vk, .int .i64 x.vn, .string x.vt] 30
                have hlen : (L.drop (k' + 1)).reverse.length ≤ 40 := by rw [List.length_reverse, List.length_drop]; have := HNL.out; omega
                obtain ⟨v', w', hr, ho⟩ := (HO.out.kept hka).app _ 1 1 [x] (fl_one (FdB.new wr x 30)) (by omega)
                rw [← drop_rev hx] at ho
                have HR := Lib.hid hr; have HN := Lib.hid ho
                clear EX hx hka hr ho hb2 hlen
                rw [e1]
                go_wp2_with (at_builtin; refine Lib.wpList_append_run _ rfl (.tmp 69) (.tmp 75) _ _ rfl _ _ rfl rfl _ _ HR.out ?_)
                go_roundw
                case rel => exact ⟨k', by omega, by first | rfl | go_num, HN.out⟩
                case measure => simp [intOf] <;> omega
              · obtain rfl : k = 0 := by omega
                have q1 : decide ((0 : Int) ≤ (((0 : Nat) : Int) - 1)) = false := decide_eq_false (by omega)
                have q2 : decide ((0 : Int) ≤ -1) = false := by decide
                replace HQ := Lib.hid (HQ.out.trans HO.out.ke); replace HB := Lib.hid (HB.out.kept HO.out.ke); replace HH := Lib.hid (HH.out.kept HO.out.ke); replace HT := Lib.hid (HT.out.kept HO.out.ke); replace HBT := Lib.hid (HBT.out.kept HO.out.ke)
                obtain ⟨A8, c8, rfl, h8, _, _, _⟩ := HO.out.form
                have hl8 : (L.drop 0).reverse.length = t := by rw [List.drop_zero, List.length_reverse]; exact HNL.out.symm
                rw [hl8] at h8 ⊢
                rw [List.drop_zero] at h8
                have HLB := Lib.hid h8
                have HOF := Lib.hid (ofF_back HOK.out.rise)
                have h81 := h8.cap.1; have h82 := h8.cap.2
                clear h8 hl8
                have hcl := HC1.out
                have r1 : decide ((cnt : Int) ≤ 1) = true := decide_eq_true (by omega)
                have r2 : decide (cnt ≤ 1) = true := decide_eq_true hcl
                simp only [Int.zero_sub, Int.ofNat_zero]
                go_wp2_with fail
                cases rb with
                | true =>
                  cases z with
                  | true =>
                    have hc9 : cnt = 1 := by have := HZC.out (by trivial); simpa using this
                    subst hc9
                    have d0 := KExt.cell HB.out.c0; have d1 := KExt.cell HBT.out.c0
                    try dsimp only [List.append]
                    refine region_plan wr 46 (.read [0, 1, 2, 3] (.one 4 (.read [5, 6, 7, 8, 9, 10, 11, 12, 13, 14, 15, 16, 17, 18] (.one 19 (.read [20, 21, 22, 23, 24, 25, 26, 27, 28, 29, 30, 31, 32, 33] (.one 34 (.read [35, 36, 37, 39] (.one 38 (.one 40 (.read [41, 42] (.one 43 (.read [44, 45] .stop)))))))))))) (by kernel_rfl) (by kernel_rfl) (by kernel_rfl) (by kernel_rfl) (by kernel_rfl) (fun _ d _ _ _ h => by cases d <;> exact h) (Kept.refl _) ?_
                    intro wd hwd
                    have HV := Lib.hid hwd
                    clear hwd
                    rw [wpPlan_read]
                    simp only [pickOps_cons, pickOps_nil, consO_some, List.getElem?_cons_zero, List.getElem?_cons_succ]
                    repeat (go_big_quiet_step (fail))
                    refine wpQuiet_nil ?_
                    rw [wpPlan_one]
                    simp only [pickOps_cons, pickOps_nil, consO_some, List.getElem?_cons_zero, List.getElem?_cons_succ]
                    go_wp2_with (go_at_call 7; refine (AR.out _).mono ?_; rintro e u0 ⟨rfl, hk⟩)
                    replace HV := Lib.hid (HV.out.trans hk)
                    clear hk
                    refine soloP HV.out ?_
                    rw [wpPlan_read]
                    simp only [pickOps_cons, pickOps_nil, consO_some, List.getElem?_cons_zero, List.getElem?_cons_succ]
                    repeat (go_big_quiet_step (fail))
                    refine wpQuiet_nil ?_
                    rw [wpPlan_one]
                    simp only [pickOps_cons, pickOps_nil, consO_some, List.getElem?_cons_zero, List.getElem?_cons_succ]
                    go_wp2_with (go_at_call 12; refine (sund_any _ _ _ L p _ (HH.out.kept HV.out) (fds_p HS.out) HP9.out true (HZU.out (by trivial))).mono ?_; rintro e u1 ⟨rfl, hk⟩)
                    replace HV := Lib.hid (HV.out.trans hk)
                    clear hk
                    refine soloP HV.out ?_
                    rw [wpPlan_read]
                    simp only [pickOps_cons, pickOps_nil, consO_some, List.getElem?_cons_zero, List.getElem?_cons_succ]
                    repeat (go_big_quiet_step (fail))
                    refine wpQuiet_nil ?_
                    rw [wpPlan_one]
                    simp only [pickOps_cons, pickOps_nil, consO_some, List.getElem?_cons_zero, List.getElem?_cons_succ]
                    go_wp2_with (go_at_call 13; refine (ssame_any _ _ _ L _ _ _ L _ (HT.out.kept HV.out) (HH.out.kept HV.out) true (by simp)).mono ?_; rintro e u2 ⟨rfl, hk⟩)
                    replace HV := Lib.hid (HV.out.trans hk)
                    clear hk
                    refine soloP HV.out ?_
                    rw [wpPlan_read]
                    simp only [pickOps_cons, pickOps_nil, consO_some, List.getElem?_cons_zero, List.getElem?_cons_succ]
                    repeat (go_big_quiet_step (fail))
                    refine wpQuiet_nil ?_
                    rw [wpPlan_one]
                    simp only [pickOps_cons, pickOps_nil, consO_some, List.getElem?_cons_zero, List.getElem?_cons_succ]
                    go_wp2_with (go_at_call 14; refine (sof_c _ _ _ _ L HOF.out _ (HLB.out.kept HV.out) (by omega)).mono ?_; rintro e u3 ⟨A9, c9, rfl, hf, hk⟩)
                    have HF9 := Lib.hid hf
                    replace HV := Lib.hid (HV.out.trans hk)
                    clear hf hk
                    refine soloP HV.out ?_
                    rw [wpPlan_one]
                    simp only [pickOps_cons, pickOps_nil, consO_some, List.getElem?_cons_zero, List.getElem?_cons_succ]
                    go_wp2_with (go_at_call 13; refine (ssame_any _ _ _ L _ _ _ L _ HF9.out (HH.out.kept HV.out) true (by simp)).mono ?_; rintro e u4 ⟨rfl, hk⟩)
                    replace HV := Lib.hid (HV.out.trans hk)
                    clear hk
                    refine soloP HV.out ?_
                    rw [wpPlan_read]
                    simp only [pickOps_cons, pickOps_nil, consO_some, List.getElem?_cons_zero, List.getElem?_cons_succ]
                    repeat (go_big_quiet_step (fail))
                    refine wpQuiet_nil ?_
                    rw [wpPlan_one]
                    simp only [pickOps_cons, pickOps_nil, consO_some, List.getElem?_cons_zero, List.getElem?_cons_succ]
                    go_wp2_with (go_at_call 6; refine (fawake_any _ (HLW.out.kept (HQ.out.trans HV.out))).mono ?_; rintro e u5 ⟨rfl, hk⟩)
                    replace HV := Lib.hid (HV.out.trans hk)
                    clear hk
                    refine soloP HV.out ?_
                    rw [wpPlan_read]
                    simp only [pickOps_cons, pickOps_nil, consO_some, List.getElem?_cons_zero, List.getElem?_cons_succ]
                    repeat (go_big_quiet_step (fail))
                    refine wpQuiet_nil ?_
                    refine wpPlan_stop ?_
                    clear d0 d1
                    go_wp2_with fail
                    go_ret
                    exact ⟨rfl, HQ.out.trans HV.out⟩
                  | false =>
                    have hc9 : cnt = 0 := by have h1 := HZC.out (by trivial); have h2 := HC1.out; exact zero_of h1 h2
                    subst hc9
                    have d0 := KExt.cell HB.out.c0; have d1 := KExt.cell HBT.out.c0
                    try dsimp only [List.append]
                    refine region_plan wr 46 (.read [0, 1, 2, 3] (.one 4 (.read [5, 6, 7, 8, 9, 10, 11, 12, 13, 14, 15, 16, 17, 18] (.one 19 (.read [20, 21, 22, 23, 24, 25, 26, 27, 28, 29, 30, 31, 32, 33] (.one 34 (.read [35, 36, 37, 39] (.one 38 (.one 40 (.read [41, 42] (.one 43 (.read [44, 45] .stop)))))))))))) (by kernel_rfl) (by kernel_rfl) (by kernel_rfl) (by kernel_rfl) (by kernel_rfl) (fun _ d _ _ _ h => by cases d <;> exact h) (Kept.refl _) ?_
                    intro wd hwd
                    have HV := Lib.hid hwd
                    clear hwd
                    rw [wpPlan_read]
                    simp only [pickOps_cons, pickOps_nil, consO_some, List.getElem?_cons_zero, List.getElem?_cons_succ]
                    repeat (go_big_quiet_step (fail))
                    refine wpQuiet_nil ?_
                    rw [wpPlan_one]
                    simp only [pickOps_cons, pickOps_nil, consO_some, List.getElem?_cons_zero, List.getElem?_cons_succ]
                    go_wp2_with (go_at_call 7; refine (AR.out _).mono ?_; rintro e u0 ⟨rfl, hk⟩)
                    replace HV := Lib.hid (HV.out.trans hk)
                    clear hk
                    refine soloP HV.out ?_
                    rw [wpPlan_read]
                    simp only [pickOps_cons, pickOps_nil, consO_some, List.getElem?_cons_zero, List.getElem?_cons_succ]
                    repeat (go_big_quiet_step (fail))
                    refine wpQuiet_nil ?_
                    rw [wpPlan_one]
                    simp only [pickOps_cons, pickOps_nil, consO_some, List.getElem?_cons_zero, List.getElem?_cons_succ]
                    go_wp2_with fail
                    refine soloP HV.out ?_
                    rw [wpPlan_read]
                    simp only [pickOps_cons, pickOps_nil, consO_some, List.getElem?_cons_zero, List.getElem?_cons_succ]
                    repeat (go_big_quiet_step (fail))
                    refine wpQuiet_nil ?_
                    rw [wpPlan_one]
                    simp only [pickOps_cons, pickOps_nil, consO_some, List.getElem?_cons_zero, List.getElem?_cons_succ]
                    go_wp2_with (go_at_call 13; refine (ssame_any _ _ _ L _ _ _ L _ (HT.out.kept HV.out) (HH.out.kept HV.out) true (by simp)).mono ?_; rintro e u2 ⟨rfl, hk⟩)
                    replace HV := Lib.hid (HV.out.trans hk)
                    clear hk
                    refine soloP HV.out ?_
                    rw [wpPlan_read]
                    simp only [pickOps_cons, pickOps_nil, consO_some, List.getElem?_cons_zero, List.getElem?_cons_succ]
                    repeat (go_big_quiet_step (fail))
                    refine wpQuiet_nil ?_
                    rw [wpPlan_one]
                    simp only [pickOps_cons, pickOps_nil, consO_some, List.getElem?_cons_zero, List.getElem?_cons_succ]
                    go_wp2_with (go_at_call 14; refine (sof_c _ _ _ _ L HOF.out _ (HLB.out.kept HV.out) (by omega)).mono ?_; rintro e u3 ⟨A9, c9, rfl, hf, hk⟩)
                    have HF9 := Lib.hid hf
                    replace HV := Lib.hid (HV.out.trans hk)
                    clear hf hk
                    refine soloP HV.out ?_
                    rw [wpPlan_one]
                    simp only [pickOps_cons, pickOps_nil, consO_some, List.getElem?_cons_zero, List.getElem?_cons_succ]
                    go_wp2_with (go_at_call 13; refine (ssame_any _ _ _ L _ _ _ L _ HF9.out (HH.out.kept HV.out) true (by simp)).mono ?_; rintro e u4 ⟨rfl, hk⟩)
                    replace HV := Lib.hid (HV.out.trans hk)
                    clear hk
                    refine soloP HV.out ?_
                    rw [wpPlan_read]
                    simp only [pickOps_cons, pickOps_nil, consO_some, List.getElem?_cons_zero, List.getElem?_cons_succ]
                    repeat (go_big_quiet_step (fail))
                    refine wpQuiet_nil ?_
                    rw [wpPlan_one]
                    simp only [pickOps_cons, pickOps_nil, consO_some, List.getElem?_cons_zero, List.getElem?_cons_succ]
                    go_wp2_with (go_at_call 6; refine (fawake_any _ (HLW.out.kept (HQ.out.trans HV.out))).mono ?_; rintro e u5 ⟨rfl, hk⟩)
                    replace HV := Lib.hid (HV.out.trans hk)
                    clear hk
                    refine soloP HV.out ?_
                    rw [wpPlan_read]
                    simp only [pickOps_cons, pickOps_nil, consO_some, List.getElem?_cons_zero, List.getElem?_cons_succ]
                    repeat (go_big_quiet_step (fail))
                    refine wpQuiet_nil ?_
                    refine wpPlan_stop ?_
                    clear d0 d1
                    go_wp2_with fail
                    go_ret
                    exact ⟨rfl, HQ.out.trans HV.out⟩
                | false =>
                  cases z with
                  | true =>
                    have d0 := KExt.cell HB.out.c0; have d1 := KExt.cell HBT.out.c0
                    try dsimp only [List.append]
                    refine region_plan wr 46 (.read [0, 1, 2, 3] (.one 4 (.read [5, 6, 7, 8, 9, 10, 11, 12, 13, 14, 15, 16, 17, 18] (.one 19 (.read [20, 21, 22, 23, 24, 25, 26, 27, 28, 29, 30, 31, 32, 33] (.one 34 (.read [35, 36, 37, 39] (.one 38 (.one 40 (.read [41, 42] (.one 43 (.read [44, 45] .stop)))))))))))) (by kernel_rfl) (by kernel_rfl) (by kernel_rfl) (by kernel_rfl) (by kernel_rfl) (fun _ d _ _ _ h => by cases d <;> exact h) (Kept.refl _) ?_
                    intro wd hwd
                    have HV := Lib.hid hwd
                    clear hwd
                    rw [wpPlan_read]
                    simp only [pickOps_cons, pickOps_nil, consO_some, List.getElem?_cons_zero, List.getElem?_cons_succ]
                    repeat (go_big_quiet_step (fail))
                    refine wpQuiet_nil ?_
                    rw [wpPlan_one]
                    simp only [pickOps_cons, pickOps_nil, consO_some, List.getElem?_cons_zero, List.getElem?_cons_succ]
                    go_wp2_with (go_at_call 7; refine (AR.out _).mono ?_; rintro e u0 ⟨rfl, hk⟩)
                    replace HV := Lib.hid (HV.out.trans hk)
                    clear hk
                    refine soloP HV.out ?_
                    rw [wpPlan_read]
                    simp only [pickOps_cons, pickOps_nil, consO_some, List.getElem?_cons_zero, List.getElem?_cons_succ]
                    repeat (go_big_quiet_step (fail))
                    refine wpQuiet_nil ?_
                    rw [wpPlan_one]
                    simp only [pickOps_cons, pickOps_nil, consO_some, List.getElem?_cons_zero, List.getElem?_cons_succ]
                    go_wp2_with (go_at_call 12; refine (sund_any _ _ _ L p _ (HH.out.kept HV.out) (fds_p HS.out) HP9.out true (HZU.out (by trivial))).mono ?_; rintro e u1 ⟨rfl, hk⟩)
                    replace HV := Lib.hid (HV.out.trans hk)
                    clear hk
                    refine soloP HV.out ?_
                    rw [wpPlan_read]
                    simp only [pickOps_cons, pickOps_nil, consO_some, List.getElem?_cons_zero, List.getElem?_cons_succ]
                    repeat (go_big_quiet_step (fail))
                    refine wpQuiet_nil ?_
                    rw [wpPlan_one]
                    simp only [pickOps_cons, pickOps_nil, consO_some, List.getElem?_cons_zero, List.getElem?_cons_succ]
                    go_wp2_with (go_at_call 13; refine (ssame_any _ _ _ L _ _ _ L _ (HT.out.kept HV.out) (HH.out.kept HV.out) true (by simp)).mono ?_; rintro e u2 ⟨rfl, hk⟩)
                    replace HV := Lib.hid (HV.out.trans hk)
                    clear hk
                    refine soloP HV.out ?_
                    rw [wpPlan_read]
                    simp only [pickOps_cons, pickOps_nil, consO_some, List.getElem?_cons_zero, List.getElem?_cons_succ]
                    repeat (go_big_quiet_step (fail))
                    refine wpQuiet_nil ?_
                    rw [wpPlan_one]
                    simp only [pickOps_cons, pickOps_nil, consO_some, List.getElem?_cons_zero, List.getElem?_cons_succ]
                    go_wp2_with (go_at_call 14; refine (sof_c _ _ _ _ L HOF.out _ (HLB.out.kept HV.out) (by omega)).mono ?_; rintro e u3 ⟨A9, c9, rfl, hf, hk⟩)
                    have HF9 := Lib.hid hf
                    replace HV := Lib.hid (HV.out.trans hk)
                    clear hf hk
                    refine soloP HV.out ?_
                    rw [wpPlan_one]
                    simp only [pickOps_cons, pickOps_nil, consO_some, List.getElem?_cons_zero, List.getElem?_cons_succ]
                    go_wp2_with (go_at_call 13; refine (ssame_any _ _ _ L _ _ _ L _ HF9.out (HH.out.kept HV.out) true (by simp)).mono ?_; rintro e u4 ⟨rfl, hk⟩)
                    replace HV := Lib.hid (HV.out.trans hk)
                    clear hk
                    refine soloP HV.out ?_
                    rw [wpPlan_read]
                    simp only [pickOps_cons, pickOps_nil, consO_some, List.getElem?_cons_zero, List.getElem?_cons_succ]
                    repeat (go_big_quiet_step (fail))
                    refine wpQuiet_nil ?_
                    rw [wpPlan_one]
                    simp only [pickOps_cons, pickOps_nil, consO_some, List.getElem?_cons_zero, List.getElem?_cons_succ]
                    go_wp2_with (go_at_call 6; refine (fawake_any _ (HLW.out.kept (HQ.out.trans HV.out))).mono ?_; rintro e u5 ⟨rfl, hk⟩)
                    replace HV := Lib.hid (HV.out.trans hk)
                    clear hk
                    refine soloP HV.out ?_
                    rw [wpPlan_read]
                    simp only [pickOps_cons, pickOps_nil, consO_some, List.getElem?_cons_zero, List.getElem?_cons_succ]
                    repeat (go_big_quiet_step (fail))
                    refine wpQuiet_nil ?_
                    refine wpPlan_stop ?_
                    clear d0 d1
                    go_wp2_with fail
                    go_ret
                    exact ⟨rfl, HQ.out.trans HV.out⟩
                  | false =>
                    have d0 := KExt.cell HB.out.c0; have d1 := KExt.cell HBT.out.c0
                    try dsimp only [List.append]
                    refine region_plan wr 46 (.read [0, 1, 2, 3] (.one 4 (.read [5, 6, 7, 8, 9, 10, 11, 12, 13, 14, 15, 16, 17, 18] (.one 19 (.read [20, 21, 22, 23, 24, 25, 26, 27, 28, 29, 30, 31, 32, 33] (.one 34 (.read [35, 36, 37, 39] (.one 38 (.one 40 (.read [41, 42] (.one 43 (.read [44, 45] .stop)))))))))))) (by kernel_rfl) (by kernel_rfl) (by kernel_rfl) (by kernel_rfl) (by kernel_rfl) (fun _ d _ _ _ h => by cases d <;> exact h) (Kept.refl _) ?_
                    intro wd hwd
                    have HV := Lib.hid hwd
                    clear hwd
                    rw [wpPlan_read]
                    simp only [pickOps_cons, pickOps_nil, consO_some, List.getElem?_cons_zero, List.getElem?_cons_succ]
                    repeat (go_big_quiet_step (fail))
                    refine wpQuiet_nil ?_
                    rw [wpPlan_one]
                    simp only [pickOps_cons, pickOps_nil, consO_some, List.getElem?_cons_zero, List.getElem?_cons_succ]
                    go_wp2_with (go_at_call 7; refine (AR.out _).mono ?_; rintro e u0 ⟨rfl, hk⟩)
                    replace HV := Lib.hid (HV.out.trans hk)
                    clear hk
                    refine soloP HV.out ?_
                    rw [wpPlan_read]
                    simp only [pickOps_cons, pickOps_nil, consO_some, List.getElem?_cons_zero, List.getElem?_cons_succ]
                    repeat (go_big_quiet_step (fail))
                    refine wpQuiet_nil ?_
                    rw [wpPlan_one]
                    simp only [pickOps_cons, pickOps_nil, consO_some, List.getElem?_cons_zero, List.getElem?_cons_succ]
                    go_wp2_with fail
                    refine soloP HV.out ?_
                    rw [wpPlan_read]
                    simp only [pickOps_cons, pickOps_nil, consO_some, List.getElem?_cons_zero, List.getElem?_cons_succ]
                    repeat (go_big_quiet_step (fail))
                    refine wpQuiet_nil ?_
                    rw [wpPlan_one]
                    simp only [pickOps_cons, pickOps_nil, consO_some, List.getElem?_cons_zero, List.getElem?_cons_succ]
                    go_wp2_with (go_at_call 13; refine (ssame_any _ _ _ L _ _ _ L _ (HT.out.kept HV.out) (HH.out.kept HV.out) true (by simp)).mono ?_; rintro e u2 ⟨rfl, hk⟩)
                    replace HV := Lib.hid (HV.out.trans hk)
                    clear hk
                    refine soloP HV.out ?_
                    rw [wpPlan_read]
                    simp only [pickOps_cons, pickOps_nil, consO_some, List.getElem?_cons_zero, List.getElem?_cons_succ]
                    repeat (go_big_quiet_step (fail))
                    refine wpQuiet_nil ?_
                    rw [wpPlan_one]
                    simp only [pickOps_cons, pickOps_nil, consO_some, List.getElem?_cons_zero, List.getElem?_cons_succ]
                    go_wp2_with (go_at_call 14; refine (sof_c _ _ _ _ L HOF.out _ (HLB.out.kept HV.out) (by omega)).mono ?_; rintro e u3 ⟨A9, c9, rfl, hf, hk⟩)
                    have HF9 := Lib.hid hf
                    replace HV := Lib.hid (HV.out.trans hk)
                    clear hf hk
                    refine soloP HV.out ?_
                    rw [wpPlan_one]
                    simp only [pickOps_cons, pickOps_nil, consO_some, List.getElem?_cons_zero, List.getElem?_cons_succ]
                    go_wp2_with (go_at_call 13; refine (ssame_any _ _ _ L _ _ _ L _ HF9.out (HH.out.kept HV.out) true (by simp)).mono ?_; rintro e u4 ⟨rfl, hk⟩)
                    replace HV := Lib.hid (HV.out.trans hk)
                    clear hk
                    refine soloP HV.out ?_
                    rw [wpPlan_read]
                    simp only [pickOps_cons, pickOps_nil, consO_some, List.getElem?_cons_zero, List.getElem?_cons_succ]
                    repeat (go_big_quiet_step (fail))
                    refine wpQuiet_nil ?_
                    rw [wpPlan_one]
                    simp only [pickOps_cons, pickOps_nil, consO_some, List.getElem?_cons_zero, List.getElem?_cons_succ]
                    go_wp2_with (go_at_call 6; refine (fawake_any _ (HLW.out.kept (HQ.out.trans HV.out))).mono ?_; rintro e u5 ⟨rfl, hk⟩)
                    replace HV := Lib.hid (HV.out.trans hk)
                    clear hk
                    refine soloP HV.out ?_
                    rw [wpPlan_read]
                    simp only [pickOps_cons, pickOps_nil, consO_some, List.getElem?_cons_zero, List.getElem?_cons_succ]
                    repeat (go_big_quiet_step (fail))
                    refine wpQuiet_nil ?_
                    refine wpPlan_stop ?_
                    clear d0 d1
                    go_wp2_with fail
                    go_ret
                    exact ⟨rfl, HQ.out.trans HV.out⟩
      · have HNO := Lib.hid h2
        clear hS h2
        go_at_call 4
        refine (AL.out _ HH.out).mono ?_
        rintro e w1 ⟨rfl, hk1⟩
        have HK1 := Lib.hid hk1
        have d0 := (HB.out.kept hk1).c0
        have HH1 := Lib.hid (HH.out.kept hk1)
        clear hk1
        go_wp2_with fail
        go_at_call 5
        refine (rsc_any A n c L _ HH1.out (fds_w HS.out) false ⟨(fun h => by cases h), fun h => absurd h HNO.out⟩).mono ?_
        rintro e w2 ⟨rfl, hk1⟩
        replace HK1 := Lib.hid (HK1.out.trans hk1)
        clear d0
        have d0 := (HB.out.kept HK1.out).c0
        clear hk1
        go_wp2_with fail
        go_at_call 6
        refine (fawake_any _ (HLW.out.kept (HK.out.trans HK1.out))).mono ?_
        rintro e w2 ⟨rfl, hk2⟩
        have HK2 := Lib.hid hk2
        clear hk2
        go_wp2_with fail
        go_ret
        exact ⟨rfl, HK.out.trans (HK1.out.trans HK2.out)⟩
  · have AL := Lib.hid (fun w h => flong_any A n c L w h HSZ.out.w true ⟨fun _ => hS, fun _ => rfl⟩)
    clear hS
    go_at_call 4
    refine (AL.out _ HH.out).mono ?_
    rintro e w1 ⟨rfl, hk1⟩
    have HK1 := Lib.hid hk1
    have d0 := (HB.out.kept hk1).c0
    have HH1 := Lib.hid (HH.out.kept hk1)
    clear hk1
    go_wp2_with fail
    go_at_call 6
    refine (fawake_any _ (HLW.out.kept (HK.out.trans HK1.out))).mono ?_
    rintro e w2 ⟨rfl, hk2⟩
    have HK2 := Lib.hid hk2
    clear hk2
    go_wp2_with fail
    go_ret
    exact ⟨rfl, HK.out.trans (HK1.out.trans HK2.out)⟩
end Go.Proofs.YtjieofiaoepccaaDoor
