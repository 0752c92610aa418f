/-
  What is proved: the law TableSharp of layer 13, called with any table and case that a machine can hold, returns true; the world has new blocks at most.
-/
import Derived.Test.YtjcnjmlgedmmoaaDoorM26
import Derived.Deep.DeepCutAuto
namespace Go.Proofs.YtjcnjmlgedmmoaaDoor
open Go.RowKit
set_option linter.unusedVariables false

theorem ap_size {T : Tb} (hs : ShortT T) (hz : SzT T) (x : Va) (h : x.t.size ≤ 200) : (applyT T x).t.size ≤ 1099511627776 := by
  unfold applyT forthT backT
  have hL : ∀ p ∈ T.L, p.f.t.size ≤ 1099511627776 ∧ p.t.t.size ≤ 1099511627776 := hz.L
  split
  · split
    · rename_i p e; exact (hL p (fstT_some e).1).1
    · split
      · omega
      · exact hz.b
  · split
    · rename_i p e; exact (hL p (fstF_some e).1).2
    · split
      · omega
      · exact hz.d
theorem way_size {T : Tb} (hs : ShortT T) (hz : SzT T) (x : Va) (h : x.t.size ≤ 200) : (wayT T x).t.size ≤ 1099511627776 := by
  rw [← (apply_turn T x).1]
  exact ap_size (T := turnT T) ⟨hs.L, hs.few, hs.db⟩ hz.turn x h
set_option maxRecDepth 100000 in
set_option maxHeartbeats 8000000 in
theorem hsharp_any (A : Option Addr) (n c : Nat) (T : Tb) (v : Va) (a b : Int) (w : World) (h : Pal w A n c T.L) (hh : HoldT T) (htr : TruW w) :
    Calls Tryd.prog 6 #[.agg #[.slice A n c, .bool T.keep, .int .i64 T.d.k, .int .i64 T.d.n, .string T.d.t, .int .i64 T.b.k, .int .i64 T.b.n, .string T.b.t, .bool T.tu], .agg #[.int .i64 v.k, .int .i64 v.n, .string v.t, .int .i64 a, .int .i64 b]] w fun e w' => e = .returned (.bool true) ∧ Kept w w' := by
  have hk := ((Kept.refl w).alloc #[.slice A n c, .bool T.keep, .int .i64 T.d.k, .int .i64 T.d.n, .string T.d.t, .int .i64 T.b.k, .int .i64 T.b.n, .string T.b.t, .bool T.tu] 26).alloc #[.int .i64 v.k, .int .i64 v.n, .string v.t, .int .i64 a, .int .i64 b] 28
  have ht := (TabB.new w A n c T 26).kept ((Kept.refl (w.alloc (.cells #[.slice A n c, .bool T.keep, .int .i64 T.d.k, .int .i64 T.d.n, .string T.d.t, .int .i64 T.b.k, .int .i64 T.b.n, .string T.b.t, .bool T.tu] 26))).alloc #[.int .i64 v.k, .int .i64 v.n, .string v.t, .int .i64 a, .int .i64 b] 28)
  have hc := CasB.new (w.alloc (.cells #[.slice A n c, .bool T.keep, .int .i64 T.d.k, .int .i64 T.d.n, .string T.d.t, .int .i64 T.b.k, .int .i64 T.b.n, .string T.b.t, .bool T.tu] 26)) v a b 28
  rw [show (w.alloc (.cells #[.slice A n c, .bool T.keep, .int .i64 T.d.k, .int .i64 T.d.n, .string T.d.t, .int .i64 T.b.k, .int .i64 T.b.n, .string T.b.t, .bool T.tu] 26)).heap.size = w.heap.size + 1 by simp] at hc
  have hp := h.kept hk
  have HN := Lib.hid h.1; have hcap := h.cap.1; have hcap2 := h.cap.2
  obtain ⟨U, hU⟩ : ∃ U, (w.alloc (.cells #[.slice A n c, .bool T.keep, .int .i64 T.d.k, .int .i64 T.d.n, .string T.d.t, .int .i64 T.b.k, .int .i64 T.b.n, .string T.b.t, .bool T.tu] 26)).alloc (.cells #[.int .i64 v.k, .int .i64 v.n, .string v.t, .int .i64 a, .int .i64 b] 28) = U := ⟨_, rfl⟩
  rw [hU] at hk ht hc hp
  have HK := Lib.hid hk; have HUU := Lib.hid hU; have HT := Lib.hid ht; have HC := Lib.hid hc; have HH := Lib.hid hp
  obtain ⟨l, hl⟩ := bool_of (¬ ShortT T)
  have AL := Lib.hid (fun w h => hlong_any A n c T w h hh l hl)
  have HL := Lib.hid hl; have HTW := Lib.hid htr
  clear h hh hk ht hc hp hU hl htr
  have t0 := HT.out.c0; have t1 := HT.out.c1; have t2 := HT.out.c2; have t3 := HT.out.c3; have t4 := HT.out.c4; have t5 := HT.out.c5; have t6 := HT.out.c6; have t7 := HT.out.c7; have t8 := HT.out.c8
  have c3 := HC.out.c3; have c4 := HC.out.c4
  go_enter Tryd.func6, Tryd.ntmps6
  go_wp2_with fail
  rw [HUU.out]
  go_wp2_with fail
  go_at_call 7
  refine (AL.out _ HH.out).mono ?_
  rintro e w1 ⟨rfl, hk1⟩
  replace HK := Lib.hid (HK.out.trans hk1); replace HT := Lib.hid (HT.out.kept hk1); replace HC := Lib.hid (HC.out.kept hk1); replace HH := Lib.hid (HH.out.kept hk1)
  clear t0 t1 t2 t3 t4 t5 t6 t7 t8 c3 c4
  clear hk1
  have t0 := HT.out.c0; have t1 := HT.out.c1; have t2 := HT.out.c2; have t3 := HT.out.c3; have t4 := HT.out.c4; have t5 := HT.out.c5; have t6 := HT.out.c6; have t7 := HT.out.c7; have t8 := HT.out.c8
  have c3 := HC.out.c3; have c4 := HC.out.c4
  cases l with
  | true =>
    go_wp2_with fail
    go_at_call 8
    refine (hawake_any _).mono ?_
    rintro e w9 ⟨rfl, hk9⟩
    have HF := Lib.hid (HK.out.trans hk9)
    clear hk9
    go_wp2_with fail
    go_ret
    exact ⟨rfl, HF.out⟩
  | false =>
    have HSP := Lib.hid (show ShortT T from Classical.not_not.1 fun k => by have := HL.out.2 k; cases this)
    have HSZ := Lib.hid HSP.out.szT
    have hn20 : n ≤ 20 := by have := HSP.out.few; have := HN.out; omega
    obtain ⟨z, hz⟩ := bool_of (RightT T a b)
    obtain ⟨y, hy⟩ := bool_of (LossT T a b)
    have AZ := Lib.hid (fun w h => htright_any A n c T a b w h HSZ.out z hz)
    have AY := Lib.hid (fun w h k => htloss_any A n c T a b w h HSZ.out y hy (fun _ _ _ => k))
    have HZ := Lib.hid hz; have HY := Lib.hid hy
    clear hz hy
    go_wp2_with fail
    go_at_call 18
    refine (AZ.out _ HH.out).mono ?_
    rintro e w2 ⟨rfl, hk2⟩
    replace HK := Lib.hid (HK.out.trans hk2); replace HT := Lib.hid (HT.out.kept hk2); replace HC := Lib.hid (HC.out.kept hk2); replace HH := Lib.hid (HH.out.kept hk2)
    clear t0 t1 t2 t3 t4 t5 t6 t7 t8 c3 c4
    clear hk2
    have t0 := HT.out.c0; have t1 := HT.out.c1; have t2 := HT.out.c2; have t3 := HT.out.c3; have t4 := HT.out.c4; have t5 := HT.out.c5; have t6 := HT.out.c6; have t7 := HT.out.c7; have t8 := HT.out.c8
    have c3 := HC.out.c3; have c4 := HC.out.c4
    cases z with
    | false =>
      go_wp2_with fail
      go_at_call 8
      refine (hawake_any _).mono ?_
      rintro e w9 ⟨rfl, hk9⟩
      have HF := Lib.hid (HK.out.trans hk9)
      clear hk9
      go_wp2_with fail
      go_ret
      exact ⟨rfl, HF.out⟩
    | true =>
      have HRT := Lib.hid (show RightT T a b by simpa using HZ.out)
      go_wp2_with fail
      go_at_call 20
      refine (AY.out _ HH.out (HTW.out.kept HK.out)).mono ?_
      rintro e w3 ⟨rfl, hk3⟩
      replace HK := Lib.hid (HK.out.trans hk3); replace HT := Lib.hid (HT.out.kept hk3); replace HC := Lib.hid (HC.out.kept hk3); replace HH := Lib.hid (HH.out.kept hk3)
      clear t0 t1 t2 t3 t4 t5 t6 t7 t8 c3 c4
      clear hk3
      have t0 := HT.out.c0; have t1 := HT.out.c1; have t2 := HT.out.c2; have t3 := HT.out.c3; have t4 := HT.out.c4; have t5 := HT.out.c5; have t6 := HT.out.c6; have t7 := HT.out.c7; have t8 := HT.out.c8
      have c3 := HC.out.c3; have c4 := HC.out.c4
      cases y with
      | true =>
        go_wp2_with fail
        go_at_call 8
        refine (hawake_any _).mono ?_
        rintro e w9 ⟨rfl, hk9⟩
        have HF := Lib.hid (HK.out.trans hk9)
        clear hk9
        go_wp2_with fail
        go_ret
        exact ⟨rfl, HF.out⟩
      | false =>
        have HNL := Lib.hid (show ¬ LossT T a b from fun k => by have := HY.out.2 k; cases this)
        go_wp2_with fail
        obtain ⟨V, hV⟩ : ∃ V, w3 = V := ⟨_, rfl⟩
        rw [hV] at HK HT HC HH ⊢
        clear t0 t1 t2 t3 t4 t5 t6 t7 t8 c3 c4
        clear hV
        go_loopw [5, 34] (fun l i wr => ∃ t : Nat, t ≤ n ∧ i = .int .i64 t ∧ OutVl V wr l (valsP (T.L.take t))) (fun _ i _ => n - (intOf i).toNat)
        case atStart => exact ⟨0, Nat.zero_le _, rfl, by rw [List.take_zero]; exact OutVl.start V⟩
        case round =>
          obtain ⟨t, ht, rfl, hout⟩ := hrel
          obtain ⟨A5, c5, rfl, hf5, -, h51, h52⟩ := hout.form
          have HO := Lib.hid hout
          clear hout hf5
          by_cases hlt : t < n
          · obtain ⟨g, o, x, rfl, hx, EX⟩ := (HH.out.kept HO.out.ke).get hlt
            have x0 := EX.c0; have x1 := EX.c1; have x2 := EX.c2; have x3 := EX.c3; have x4 := EX.c4; have x5 := EX.c5
            have HXX := Lib.hid hx
            have hlen : (valsP (T.L.take t)).length = 2 * t := by rw [valsP_len, List.length_take, ← HN.out]; omega
            have hka := ((Kept.refl wr).alloc #[.int .i64 x.f.k, .int .i64 x.f.n, .string x.f.t, .int .i64 x.t.k, .int .i64 x.t.n, .string x.t.t] 44).alloc #[.int .i64 x.f.k, .int .i64 x.f.n, .string x.f.t, .int .i64 x.t.k, .int .i64 x.t.n, .string x.t.t] 24
            have hnv := vl_two (wr.alloc (.cells #[.int .i64 x.f.k, .int .i64 x.f.n, .string x.f.t, .int .i64 x.t.k, .int .i64 x.t.n, .string x.t.t] 44)) x.f x.t 24
            obtain ⟨v8, w8, hr8, ho8⟩ := (HO.out.kept hka).app _ 2 2 _ hnv (by rw [hlen]; omega)
            rw [show (wr.alloc (.cells #[.int .i64 x.f.k, .int .i64 x.f.n, .string x.f.t, .int .i64 x.t.k, .int .i64 x.t.n, .string x.t.t] 44)).heap.size = wr.heap.size + 1 by simp] at hr8
            have HR8 := Lib.hid hr8
            have HO8 := Lib.hid (show OutVl V w8 v8 (valsP (T.L.take (t + 1))) by rw [valsP_snoc HXX.out]; exact ho8)
            clear EX hx hka hnv hr8 ho8 hlen
            go_wp2_with (at_builtin; refine Lib.wpList_append_run _ rfl (.tmp 38) (.tmp 43) _ _ rfl _ _ rfl rfl _ _ HR8.out ?_)
            go_roundw
            case rel => exact ⟨t + 1, hlt, by go_num, HO8.out⟩
            case measure => simp [intOf]; omega
          · obtain rfl : n = t := by omega
            have hall : T.L.take n = T.L := List.take_of_length_le (by rw [← HN.out]; exact Nat.le_refl _)
            rw [hall] at HO h51 ⊢
            have hlen : (valsP T.L).length = 2 * n := by rw [valsP_len, ← HN.out]
            have hka := (Kept.refl wr).alloc #[.int .i64 3, .int .i64 0, .string ⟨#[]⟩, .int .i64 3, .int .i64 1, .string ⟨#[]⟩] 24
            have hnv := vl_two wr noV yesV 24
            obtain ⟨v8, w8, hr8, ho8⟩ := (HO.out.kept hka).app _ 2 2 _ hnv (by rw [hlen]; omega)
            obtain ⟨M, hM⟩ : ∃ M, valsP T.L ++ [noV, yesV] = M := ⟨_, rfl⟩
            rw [hM] at ho8
            have HM := Lib.hid hM
            have HR8 := Lib.hid hr8
            have HO8 := Lib.hid ho8
            have HML := Lib.hid (show M.length = 2 * n + 2 by rw [← hM, List.length_append, hlen]; rfl)
            clear hka hnv hr8 ho8 hlen hall hM
            go_wp2_with (at_builtin; refine Lib.wpList_append_run _ rfl (.tmp 46) (.tmp 49) _ _ rfl _ _ rfl rfl _ _ HR8.out ?_)
            obtain ⟨V2, hV2⟩ : ∃ u, w8 = u := ⟨_, rfl⟩
            rw [hV2] at HO8 ⊢
            clear hV2
            go_loopw [5, 51] (fun l i wr => ∃ k : Nat, k ≤ 10 ∧ i = .int .i64 k ∧ OutVl V wr l (M ++ tens k)) (fun _ i _ => 10 - (intOf i).toNat)
            case atStart => exact ⟨0, Nat.zero_le _, rfl, by show OutVl V V2 v8 (M ++ []); rw [List.append_nil]; exact HO8.out⟩
            case round =>
              obtain ⟨t, ht10, rfl, hout⟩ := hrel
              obtain ⟨A6, c6, rfl, hf6, -, h61, h62⟩ := hout.form
              obtain ⟨N6, hN6⟩ : ∃ N, (M ++ tens t).length = N := ⟨_, rfl⟩
              rw [hN6] at hout h61 ⊢
              have HN6 := Lib.hid hN6
              have HO := Lib.hid hout
              clear hout hf6 hN6
              by_cases hlt : t < 10
              · have dlt : decide ((t : Int) < (10 : Int)) = true := decide_eq_true (by omega)
                have HLN := Lib.hid (show (M ++ tens t).length ≤ 1000 by rw [List.length_append, HML.out, tens_len]; omega)
                obtain ⟨zz, hzz⟩ : ∃ z : Nat, 48 + t = z := ⟨_, rfl⟩
                have w1 : IntKind.i64.wrap ((48 : Int) + (t : Int)) = (zz : Int) := by rw [IntWalk.i64_in _ (by omega)]; omega
                have w2 : IntKind.u8.wrap (zz : Int) = (zz : Int) := by rw [IntKind.wrap_u8]; omega
                have HZZ := Lib.hid hzz
                clear hzz
                go_wp2_with fail
                refine region_plan V 12 (.read [0, 1, 3, 4, 5] (.two 2 (.one 6 (.one 7 (.read [8] (.one 9 (.one 10 (.read [11] .stop)))))) 6 (.two 2 (.one 7 (.read [8] (.one 9 (.one 10 (.read [11] .stop))))) 7 (.read [8] (.one 2 (.one 9 (.one 10 (.read [11] .stop)))))))) (by kernel_rfl) (by kernel_rfl) (by kernel_rfl) (by kernel_rfl) (by kernel_rfl) (fun _ d _ _ _ h => by cases d <;> exact h) HO.out.ke ?_
                intro wd hwd
                replace HO := Lib.hid (HO.out.kept hwd)
                clear hwd
                rw [wpPlan_read]
                simp only [pickOps_cons, pickOps_nil, consO_some, List.getElem?_cons_zero, List.getElem?_cons_succ]
                repeat (go_big_quiet_step (fail))
                refine wpQuiet_nil ?_
                rw [wpPlan_two]
                simp only [pickOps_cons, pickOps_nil, consO_some, List.getElem?_cons_zero, List.getElem?_cons_succ]
                constructor
                · go_wp2_with (go_at_call 26; refine (hint_any (t : Int) _).mono ?_; rintro e z1 ⟨rfl, hkz⟩)
                  replace HO := Lib.hid (HO.out.kept hkz)
                  clear hkz
                  refine soloP HO.out.ke ?_
                  rw [wpPlan_one]
                  simp only [pickOps_cons, pickOps_nil, consO_some, List.getElem?_cons_zero, List.getElem?_cons_succ]
                  go_wp2_with fail
                  have hkz := (Kept.refl z1).alloc #[.int .u8 (zz : Int)] 5
                  replace HO := Lib.hid (HO.out.kept hkz)
                  have HBY := Lib.hid (show (World.alloc z1 (.cells #[.int .u8 (zz : Int)] 5)).cell? ⟨(World.heap z1).size, 0, none⟩ = _ from (Kept.refl _).box 0 _ rfl)
                  obtain ⟨bz, hbz⟩ : ∃ b, (World.heap z1).size = b := ⟨_, rfl⟩
                  obtain ⟨z2, hwz⟩ : ∃ u, World.alloc z1 (.cells #[.int .u8 (zz : Int)] 5) = u := ⟨_, rfl⟩
                  rw [hwz] at HO HBY ⊢
                  rw [hbz] at HBY ⊢
                  clear hkz hbz hwz
                  refine soloP HO.out.ke ?_
                  rw [wpPlan_one]
                  simp only [pickOps_cons, pickOps_nil, consO_some, List.getElem?_cons_zero, List.getElem?_cons_succ]
                  have hcv := one_text_at (zz : Int) bz z2 HBY.out
                  go_wp2_with fail
                  clear hcv
                  refine soloP HO.out.ke ?_
                  rw [wpPlan_read]
                  simp only [pickOps_cons, pickOps_nil, consO_some, List.getElem?_cons_zero, List.getElem?_cons_succ]
                  repeat (go_big_quiet_step (fail))
                  refine wpQuiet_nil ?_
                  rw [wpPlan_one]
                  simp only [pickOps_cons, pickOps_nil, consO_some, List.getElem?_cons_zero, List.getElem?_cons_succ]
                  go_wp2_with fail
                  have hkz := (Kept.refl z2).alloc #[.int .i64 1, .int .i64 (t : Int), .string ⟨#[]⟩, .int .i64 2, .int .i64 0, .string (byteS (zz : Int))] 24
                  replace HO := Lib.hid (HO.out.kept hkz)
                  have HNV := Lib.hid (vl_two z2 ⟨1, (t : Int), ⟨#[]⟩⟩ ⟨2, 0, byteS (zz : Int)⟩ 24)
                  obtain ⟨bs, hbs⟩ : ∃ b, (World.heap z2).size = b := ⟨_, rfl⟩
                  obtain ⟨z4, hwz⟩ : ∃ u, World.alloc z2 (.cells #[.int .i64 1, .int .i64 (t : Int), .string ⟨#[]⟩, .int .i64 2, .int .i64 0, .string (byteS (zz : Int))] 24) = u := ⟨_, rfl⟩
                  rw [hwz] at HO HNV ⊢
                  rw [hbs] at HNV ⊢
                  clear hkz hbs hwz
                  refine soloP HO.out.ke ?_
                  rw [wpPlan_one]
                  simp only [pickOps_cons, pickOps_nil, consO_some, List.getElem?_cons_zero, List.getElem?_cons_succ]
                  obtain ⟨v8, w8, hr8, ho8⟩ := HO.out.app _ 2 2 _ HNV.out (by have := HLN.out; omega)
                  rw [tens_app HZZ.out] at ho8
                  have HR8 := Lib.hid hr8
                  replace HO := Lib.hid ho8
                  clear hr8 ho8
                  go_wp2_with (at_builtin; refine Lib.wpList_append_run _ rfl (.tmp 54) (.tmp 63) _ _ rfl _ _ rfl rfl _ _ HR8.out ?_)
                  refine soloP HO.out.ke ?_
                  rw [wpPlan_read]
                  simp only [pickOps_cons, pickOps_nil, consO_some, List.getElem?_cons_zero, List.getElem?_cons_succ]
                  repeat (go_big_quiet_step (fail))
                  refine wpQuiet_nil ?_
                  refine wpPlan_stop ?_
                  obtain ⟨A9, c9, rfl, hf9, -, h91, h92⟩ := HO.out.form
                  obtain ⟨N9, hN9⟩ : ∃ N, (M ++ tens (t + 1)).length = N := ⟨_, rfl⟩
                  rw [hN9] at HO h91 ⊢
                  clear hf9 hN9 dlt w1 w2
                  go_wp2_with fail
                  go_roundw
                  case rel => exact ⟨t + 1, hlt, by go_num, HO.out⟩
                  case measure => simp [intOf]; omega
                · go_wp2_with fail
                  have hkz := (Kept.refl wd).alloc #[.int .u8 (zz : Int)] 5
                  replace HO := Lib.hid (HO.out.kept hkz)
                  have HBY := Lib.hid (show (World.alloc wd (.cells #[.int .u8 (zz : Int)] 5)).cell? ⟨(World.heap wd).size, 0, none⟩ = _ from (Kept.refl _).box 0 _ rfl)
                  obtain ⟨bz, hbz⟩ : ∃ b, (World.heap wd).size = b := ⟨_, rfl⟩
                  obtain ⟨z1, hwz⟩ : ∃ u, World.alloc wd (.cells #[.int .u8 (zz : Int)] 5) = u := ⟨_, rfl⟩
                  rw [hwz] at HO HBY ⊢
                  rw [hbz] at HBY ⊢
                  clear hkz hbz hwz
                  refine soloP HO.out.ke ?_
                  rw [wpPlan_two]
                  simp only [pickOps_cons, pickOps_nil, consO_some, List.getElem?_cons_zero, List.getElem?_cons_succ]
                  constructor
                  · go_wp2_with (go_at_call 26; refine (hint_any (t : Int) _).mono ?_; rintro e z2 ⟨rfl, hkz⟩)
                    replace HO := Lib.hid (HO.out.kept hkz)
                    replace HBY := Lib.hid (hkz.cell HBY.out)
                    clear hkz
                    refine soloP HO.out.ke ?_
                    rw [wpPlan_one]
                    simp only [pickOps_cons, pickOps_nil, consO_some, List.getElem?_cons_zero, List.getElem?_cons_succ]
                    have hcv := one_text_at (zz : Int) bz z2 HBY.out
                    go_wp2_with fail
                    clear hcv
                    refine soloP HO.out.ke ?_
                    rw [wpPlan_read]
                    simp only [pickOps_cons, pickOps_nil, consO_some, List.getElem?_cons_zero, List.getElem?_cons_succ]
                    repeat (go_big_quiet_step (fail))
                    refine wpQuiet_nil ?_
                    rw [wpPlan_one]
                    simp only [pickOps_cons, pickOps_nil, consO_some, List.getElem?_cons_zero, List.getElem?_cons_succ]
                    go_wp2_with fail
                    have hkz := (Kept.refl z2).alloc #[.int .i64 1, .int .i64 (t : Int), .string ⟨#[]⟩, .int .i64 2, .int .i64 0, .string (byteS (zz : Int))] 24
                    replace HO := Lib.hid (HO.out.kept hkz)
                    have HNV := Lib.hid (vl_two z2 ⟨1, (t : Int), ⟨#[]⟩⟩ ⟨2, 0, byteS (zz : Int)⟩ 24)
                    obtain ⟨bs, hbs⟩ : ∃ b, (World.heap z2).size = b := ⟨_, rfl⟩
                    obtain ⟨z4, hwz⟩ : ∃ u, World.alloc z2 (.cells #[.int .i64 1, .int .i64 (t : Int), .string ⟨#[]⟩, .int .i64 2, .int .i64 0, .string (byteS (zz : Int))] 24) = u := ⟨_, rfl⟩
                    rw [hwz] at HO HNV ⊢
                    rw [hbs] at HNV ⊢
                    clear hkz hbs hwz
                    refine soloP HO.out.ke ?_
                    rw [wpPlan_one]
                    simp only [pickOps_cons, pickOps_nil, consO_some, List.getElem?_cons_zero, List.getElem?_cons_succ]
                    obtain ⟨v8, w8, hr8, ho8⟩ := HO.out.app _ 2 2 _ HNV.out (by have := HLN.out; omega)
                    rw [tens_app HZZ.out] at ho8
                    have HR8 := Lib.hid hr8
                    replace HO := Lib.hid ho8
                    clear hr8 ho8
                    go_wp2_with (at_builtin; refine Lib.wpList_append_run _ rfl (.tmp 54) (.tmp 63) _ _ rfl _ _ rfl rfl _ _ HR8.out ?_)
                    refine soloP HO.out.ke ?_
                    rw [wpPlan_read]
                    simp only [pickOps_cons, pickOps_nil, consO_some, List.getElem?_cons_zero, List.getElem?_cons_succ]
                    repeat (go_big_quiet_step (fail))
                    refine wpQuiet_nil ?_
                    refine wpPlan_stop ?_
                    obtain ⟨A9, c9, rfl, hf9, -, h91, h92⟩ := HO.out.form
                    obtain ⟨N9, hN9⟩ : ∃ N, (M ++ tens (t + 1)).length = N := ⟨_, rfl⟩
                    rw [hN9] at HO h91 ⊢
                    clear hf9 hN9 dlt w1 w2
                    go_wp2_with fail
                    go_roundw
                    case rel => exact ⟨t + 1, hlt, by go_num, HO.out⟩
                    case measure => simp [intOf]; omega
                  · have hcv := one_text_at (zz : Int) bz z1 HBY.out
                    go_wp2_with fail
                    clear hcv
                    refine soloP HO.out.ke ?_
                    rw [wpPlan_read]
                    simp only [pickOps_cons, pickOps_nil, consO_some, List.getElem?_cons_zero, List.getElem?_cons_succ]
                    repeat (go_big_quiet_step (fail))
                    refine wpQuiet_nil ?_
                    rw [wpPlan_one]
                    simp only [pickOps_cons, pickOps_nil, consO_some, List.getElem?_cons_zero, List.getElem?_cons_succ]
                    go_wp2_with (go_at_call 26; refine (hint_any (t : Int) _).mono ?_; rintro e z3 ⟨rfl, hkz⟩)
                    replace HO := Lib.hid (HO.out.kept hkz)
                    replace HBY := Lib.hid (hkz.cell HBY.out)
                    clear hkz
                    refine soloP HO.out.ke ?_
                    rw [wpPlan_one]
                    simp only [pickOps_cons, pickOps_nil, consO_some, List.getElem?_cons_zero, List.getElem?_cons_succ]
                    go_wp2_with fail
                    have hkz := (Kept.refl z3).alloc #[.int .i64 1, .int .i64 (t : Int), .string ⟨#[]⟩, .int .i64 2, .int .i64 0, .string (byteS (zz : Int))] 24
                    replace HO := Lib.hid (HO.out.kept hkz)
                    have HNV := Lib.hid (vl_two z3 ⟨1, (t : Int), ⟨#[]⟩⟩ ⟨2, 0, byteS (zz : Int)⟩ 24)
                    obtain ⟨bs, hbs⟩ : ∃ b, (World.heap z3).size = b := ⟨_, rfl⟩
                    obtain ⟨z4, hwz⟩ : ∃ u, World.alloc z3 (.cells #[.int .i64 1, .int .i64 (t : Int), .string ⟨#[]⟩, .int .i64 2, .int .i64 0, .string (byteS (zz : Int))] 24) = u := ⟨_, rfl⟩
                    rw [hwz] at HO HNV ⊢
                    rw [hbs] at HNV ⊢
                    clear hkz hbs hwz
                    refine soloP HO.out.ke ?_
                    rw [wpPlan_one]
                    simp only [pickOps_cons, pickOps_nil, consO_some, List.getElem?_cons_zero, List.getElem?_cons_succ]
                    obtain ⟨v8, w8, hr8, ho8⟩ := HO.out.app _ 2 2 _ HNV.out (by have := HLN.out; omega)
                    rw [tens_app HZZ.out] at ho8
                    have HR8 := Lib.hid hr8
                    replace HO := Lib.hid ho8
                    clear hr8 ho8
                    go_wp2_with (at_builtin; refine Lib.wpList_append_run _ rfl (.tmp 54) (.tmp 63) _ _ rfl _ _ rfl rfl _ _ HR8.out ?_)
                    refine soloP HO.out.ke ?_
                    rw [wpPlan_read]
                    simp only [pickOps_cons, pickOps_nil, consO_some, List.getElem?_cons_zero, List.getElem?_cons_succ]
                    repeat (go_big_quiet_step (fail))
                    refine wpQuiet_nil ?_
                    refine wpPlan_stop ?_
                    obtain ⟨A9, c9, rfl, hf9, -, h91, h92⟩ := HO.out.form
                    obtain ⟨N9, hN9⟩ : ∃ N, (M ++ tens (t + 1)).length = N := ⟨_, rfl⟩
                    rw [hN9] at HO h91 ⊢
                    clear hf9 hN9 dlt w1 w2
                    go_wp2_with fail
                    go_roundw
                    case rel => exact ⟨t + 1, hlt, by go_num, HO.out⟩
                    case measure => simp [intOf]; omega
              · obtain rfl : t = 10 := by omega
                have dlt : decide ((10 : Int) < (10 : Int)) = false := by decide
                have HF7 := Lib.hid (show Vll wr A6 N6 c6 (M ++ tens 10) by
                  obtain ⟨A', c', e, hf, _⟩ := HO.out.form
                  rw [HN6.out] at e hf
                  cases e
                  exact hf)
                obtain ⟨N, hN⟩ : ∃ N, M ++ tens 10 = N := ⟨_, rfl⟩
                rw [hN] at HF7 HO
                have HAV := Lib.hid (show allV T = N by rw [← hN, ← HM.out]; rfl)
                have HMM := Lib.hid (show N.length = N6 by rw [← hN]; exact HN6.out)
                clear hN
                go_wp2_with fail
                clear dlt
                obtain ⟨V3, hV3⟩ : ∃ u, wr = u := ⟨_, rfl⟩
                have HKV3 := Lib.hid HO.out.ke
                rw [hV3] at HKV3 HF7 ⊢
                clear hV3
                go_loopw [68] (fun i wr => ∃ t : Nat, t ≤ N6 ∧ i = .int .i64 t ∧ Kept V3 wr ∧ ∀ y ∈ N.take t, BackP T a b y) (fun i _ => N6 - (intOf i).toNat)
                case atStart => exact ⟨0, Nat.zero_le _, rfl, Kept.refl _, fun y hy => by simp at hy⟩
                case round =>
                  obtain ⟨t, ht, rfl, hkr, hall⟩ := hrel
                  have HKR := Lib.hid hkr; have HA := Lib.hid hall
                  clear hkr hall
                  by_cases hlt : t < N6
                  · obtain ⟨g, o, x, rfl, hx, EX⟩ := (HF7.out.kept HKR.out).get hlt
                    have x0 := EX.c0; have x1 := EX.c1; have x2 := EX.c2
                    have HXX := Lib.hid hx
                    have hmem : x ∈ allV T := by rw [HAV.out]; exact List.mem_of_getElem? hx
                    have hrx := all_right HRT.out x hmem
                    have hsx := right_size hrx
                    have hka := (Kept.refl wr).alloc #[.int .i64 x.k, .int .i64 x.n, .string x.t] 24
                    obtain ⟨v1, hv1⟩ : ∃ y, applyT T x = y := ⟨_, rfl⟩
                    obtain ⟨v2, hv2⟩ : ∃ y, wayT T v1 = y := ⟨_, rfl⟩
                    obtain ⟨v3, hv3⟩ : ∃ y, wayT T x = y := ⟨_, rfl⟩
                    obtain ⟨v4, hv4⟩ : ∃ y, applyT T v3 = y := ⟨_, rfl⟩
                    have hz1 : v1.t.size ≤ 1099511627776 := by rw [← hv1]; exact ap_size HSP.out HSZ.out x hsx
                    have hz3 : v3.t.size ≤ 1099511627776 := by rw [← hv3]; exact way_size HSP.out HSZ.out x hsx
                    have A1 := Lib.hid (fun w h => htapply_any A n c T x v1 hv1 (by omega) w h HSZ.out)
                    have A2 := Lib.hid (fun w h => htway_any A n c T v1 v2 hv2 hz1 w h HSZ.out)
                    have A3 := Lib.hid (fun w h => htway_any A n c T x v3 hv3 (by omega) w h HSZ.out)
                    have A4 := Lib.hid (fun w h => htapply_any A n c T v3 v4 hv4 hz3 w h HSZ.out)
                    have HV12 := Lib.hid (show wayT T (applyT T x) = v2 by rw [hv1, hv2]); have HV34 := Lib.hid (show applyT T (wayT T x) = v4 by rw [hv3, hv4])
                    have HKV := Lib.hid (HKR.out.trans hka)
                    have HKA := Lib.hid (HK.out.trans (HKV3.out.trans HKV.out))
                    have HX := Lib.hid (VaO.new wr x 24)
                    have HT9 := Lib.hid (HT.out.kept (HKV3.out.trans HKV.out)); have HC9 := Lib.hid (HC.out.kept (HKV3.out.trans HKV.out)); have HH9 := Lib.hid (HH.out.kept (HKV3.out.trans HKV.out))
                    obtain ⟨W9, hW9⟩ : ∃ u, wr.alloc (.cells #[.int .i64 x.k, .int .i64 x.n, .string x.t] 24) = u := ⟨_, rfl⟩
                    rw [hW9] at HKV HKA HX HT9 HC9 HH9
                    have HW9 := Lib.hid hW9
                    clear EX hx hmem hrx hsx hka hv1 hv2 hv3 hv4 hz1 hz3 hW9
                    go_wp2_with fail
                    rw [HW9.out]
                    clear x0 x1 x2
                    have T0 := KExt.cell HT9.out.c0; have T1 := KExt.cell HT9.out.c1; have T2 := KExt.cell HT9.out.c2; have T3 := KExt.cell HT9.out.c3; have T4 := KExt.cell HT9.out.c4; have T5 := KExt.cell HT9.out.c5; have T6 := KExt.cell HT9.out.c6; have T7 := KExt.cell HT9.out.c7; have T8 := KExt.cell HT9.out.c8
                    have C3 := KExt.cell HC9.out.c3; have C4 := KExt.cell HC9.out.c4
                    have X0 := KExt.cell HX.out.c0; have X1 := KExt.cell HX.out.c1; have X2 := KExt.cell HX.out.c2
                    by_cases qa : x.k = a
                    · have HQA := Lib.hid qa
                      have qa1 : (x.k == a) = true := by rw [qa]; simp
                      have qa2 : (x.k != a) = false := by rw [qa]; simp
                      have qa3 : decide (x.k = a) = true := decide_eq_true qa
                      clear qa
                      by_cases q : v2 = x
                      · have HEq := Lib.hid q
                        obtain ⟨q0, q1, q2⟩ := va_eq q
                        clear q
                        by_cases qb : x.k = b
                        · have HQB := Lib.hid qb
                          have qb1 : (x.k == b) = true := by rw [qb]; simp
                          have qb2 : (x.k != b) = false := by rw [qb]; simp
                          have qb3 : decide (x.k = b) = true := decide_eq_true qb
                          clear qb
                          by_cases r : v4 = x
                          · have HEr := Lib.hid r
                            obtain ⟨r0, r1, r2⟩ := va_eq r
                            clear r
                            have HB := Lib.hid (show BackP T a b x from ⟨fun _ => by rw [HV12.out]; exact HEq.out, fun _ => by rw [HV34.out]; exact HEr.out⟩)
                            have HNX := Lib.hid (show ∀ y ∈ N.take (t + 1), BackP T a b y from fun y hy => by
                              rw [List.take_add_one, HXX.out, Option.toList_some, List.mem_append, List.mem_singleton] at hy
                              rcases hy with hy | rfl
                              · exact HA.out y hy
                              · exact HB.out)
                            refine region_kept _ (by kernel_rfl) (by kernel_rfl) (Kept.refl _) ?_
                            repeat (go_big_quiet_step ((first
                              | (go_at_call 12; (with_reducible first | exact KExt.callsK (A1.out _ (HH9.out.kept (KExt.g _))) | exact KExt.callsK (A4.out _ (HH9.out.kept (KExt.g _)))))
                              | (go_at_call 14; (with_reducible first | exact KExt.callsK (A2.out _ (HH9.out.kept (KExt.g _))) | exact KExt.callsK (A3.out _ (HH9.out.kept (KExt.g _)))))
                              | fail)))
                            refine wpQuiet_nil ?_
                            intro G
                            clear T0 T1 T2 T3 T4 T5 T6 T7 T8 C3 C4 X0 X1 X2
                            go_wp2_with fail
                            go_roundw
                            case rel => exact ⟨t + 1, hlt, by go_num, HKV.out.trans G.g, HNX.out⟩
                            case measure => simp [intOf]; omega
                          · rcases va_ne r with r0 | ⟨r0, r1⟩ | ⟨r0, r1, r2⟩ <;> clear r
                            · refine region_kept _ (by kernel_rfl) (by kernel_rfl) (Kept.refl _) ?_
                              repeat (go_big_quiet_step ((first
                                | (go_at_call 12; (with_reducible first | exact KExt.callsK (A1.out _ (HH9.out.kept (KExt.g _))) | exact KExt.callsK (A4.out _ (HH9.out.kept (KExt.g _)))))
                                | (go_at_call 14; (with_reducible first | exact KExt.callsK (A2.out _ (HH9.out.kept (KExt.g _))) | exact KExt.callsK (A3.out _ (HH9.out.kept (KExt.g _)))))
                                | fail)))
                              refine wpQuiet_nil ?_
                              intro G
                              clear T0 T1 T2 T3 T4 T5 T6 T7 T8 C3 C4 X0 X1 X2
                              go_wp2_with fail
                              go_at_call 8
                              refine (hawake_any _).mono ?_
                              rintro e w9 ⟨rfl, hk9⟩
                              have HF := Lib.hid ((HKA.out.trans G.g).trans hk9)
                              clear hk9
                              go_wp2_with fail
                              go_ret
                              exact ⟨rfl, HF.out⟩
                            · refine region_kept _ (by kernel_rfl) (by kernel_rfl) (Kept.refl _) ?_
                              repeat (go_big_quiet_step ((first
                                | (go_at_call 12; (with_reducible first | exact KExt.callsK (A1.out _ (HH9.out.kept (KExt.g _))) | exact KExt.callsK (A4.out _ (HH9.out.kept (KExt.g _)))))
                                | (go_at_call 14; (with_reducible first | exact KExt.callsK (A2.out _ (HH9.out.kept (KExt.g _))) | exact KExt.callsK (A3.out _ (HH9.out.kept (KExt.g _)))))
                                | fail)))
                              refine wpQuiet_nil ?_
                              intro G
                              clear T0 T1 T2 T3 T4 T5 T6 T7 T8 C3 C4 X0 X1 X2
                              go_wp2_with fail
                              go_at_call 8
                              refine (hawake_any _).mono ?_
                              rintro e w9 ⟨rfl, hk9⟩
                              have HF := Lib.hid ((HKA.out.trans G.g).trans hk9)
                              clear hk9
                              go_wp2_with fail
                              go_ret
                              exact ⟨rfl, HF.out⟩
                            · refine region_kept _ (by kernel_rfl) (by kernel_rfl) (Kept.refl _) ?_
                              repeat (go_big_quiet_step ((first
                                | (go_at_call 12; (with_reducible first | exact KExt.callsK (A1.out _ (HH9.out.kept (KExt.g _))) | exact KExt.callsK (A4.out _ (HH9.out.kept (KExt.g _)))))
                                | (go_at_call 14; (with_reducible first | exact KExt.callsK (A2.out _ (HH9.out.kept (KExt.g _))) | exact KExt.callsK (A3.out _ (HH9.out.kept (KExt.g _)))))
                                | fail)))
                              refine wpQuiet_nil ?_
                              intro G
                              clear T0 T1 T2 T3 T4 T5 T6 T7 T8 C3 C4 X0 X1 X2
                              go_wp2_with fail
                              go_at_call 8
                              refine (hawake_any _).mono ?_
                              rintro e w9 ⟨rfl, hk9⟩
                              have HF := Lib.hid ((HKA.out.trans G.g).trans hk9)
                              clear hk9
                              go_wp2_with fail
                              go_ret
                              exact ⟨rfl, HF.out⟩
                        · have HQB := Lib.hid qb
                          have qb1 : (x.k == b) = false := by simpa using qb
                          have qb2 : (x.k != b) = true := by simpa using qb
                          have qb3 : decide (x.k = b) = false := decide_eq_false qb
                          clear qb
                          have HB := Lib.hid (show BackP T a b x from ⟨fun _ => by rw [HV12.out]; exact HEq.out, fun e => absurd e HQB.out⟩)
                          have HNX := Lib.hid (show ∀ y ∈ N.take (t + 1), BackP T a b y from fun y hy => by
                            rw [List.take_add_one, HXX.out, Option.toList_some, List.mem_append, List.mem_singleton] at hy
                            rcases hy with hy | rfl
                            · exact HA.out y hy
                            · exact HB.out)
                          refine region_kept _ (by kernel_rfl) (by kernel_rfl) (Kept.refl _) ?_
                          repeat (go_big_quiet_step ((first
                            | (go_at_call 12; (with_reducible first | exact KExt.callsK (A1.out _ (HH9.out.kept (KExt.g _))) | exact KExt.callsK (A4.out _ (HH9.out.kept (KExt.g _)))))
                            | (go_at_call 14; (with_reducible first | exact KExt.callsK (A2.out _ (HH9.out.kept (KExt.g _))) | exact KExt.callsK (A3.out _ (HH9.out.kept (KExt.g _)))))
                            | fail)))
                          refine wpQuiet_nil ?_
                          intro G
                          clear T0 T1 T2 T3 T4 T5 T6 T7 T8 C3 C4 X0 X1 X2
                          go_wp2_with fail
                          go_roundw
                          case rel => exact ⟨t + 1, hlt, by go_num, HKV.out.trans G.g, HNX.out⟩
                          case measure => simp [intOf]; omega
                      · rcases va_ne q with q0 | ⟨q0, q1⟩ | ⟨q0, q1, q2⟩ <;> clear q
                        · refine region_kept _ (by kernel_rfl) (by kernel_rfl) (Kept.refl _) ?_
                          repeat (go_big_quiet_step ((first
                            | (go_at_call 12; (with_reducible first | exact KExt.callsK (A1.out _ (HH9.out.kept (KExt.g _))) | exact KExt.callsK (A4.out _ (HH9.out.kept (KExt.g _)))))
                            | (go_at_call 14; (with_reducible first | exact KExt.callsK (A2.out _ (HH9.out.kept (KExt.g _))) | exact KExt.callsK (A3.out _ (HH9.out.kept (KExt.g _)))))
                            | fail)))
                          refine wpQuiet_nil ?_
                          intro G
                          clear T0 T1 T2 T3 T4 T5 T6 T7 T8 C3 C4 X0 X1 X2
                          go_wp2_with fail
                          go_at_call 8
                          refine (hawake_any _).mono ?_
                          rintro e w9 ⟨rfl, hk9⟩
                          have HF := Lib.hid ((HKA.out.trans G.g).trans hk9)
                          clear hk9
                          go_wp2_with fail
                          go_ret
                          exact ⟨rfl, HF.out⟩
                        · refine region_kept _ (by kernel_rfl) (by kernel_rfl) (Kept.refl _) ?_
                          repeat (go_big_quiet_step ((first
                            | (go_at_call 12; (with_reducible first | exact KExt.callsK (A1.out _ (HH9.out.kept (KExt.g _))) | exact KExt.callsK (A4.out _ (HH9.out.kept (KExt.g _)))))
                            | (go_at_call 14; (with_reducible first | exact KExt.callsK (A2.out _ (HH9.out.kept (KExt.g _))) | exact KExt.callsK (A3.out _ (HH9.out.kept (KExt.g _)))))
                            | fail)))
                          refine wpQuiet_nil ?_
                          intro G
                          clear T0 T1 T2 T3 T4 T5 T6 T7 T8 C3 C4 X0 X1 X2
                          go_wp2_with fail
                          go_at_call 8
                          refine (hawake_any _).mono ?_
                          rintro e w9 ⟨rfl, hk9⟩
                          have HF := Lib.hid ((HKA.out.trans G.g).trans hk9)
                          clear hk9
                          go_wp2_with fail
                          go_ret
                          exact ⟨rfl, HF.out⟩
                        · refine region_kept _ (by kernel_rfl) (by kernel_rfl) (Kept.refl _) ?_
                          repeat (go_big_quiet_step ((first
                            | (go_at_call 12; (with_reducible first | exact KExt.callsK (A1.out _ (HH9.out.kept (KExt.g _))) | exact KExt.callsK (A4.out _ (HH9.out.kept (KExt.g _)))))
                            | (go_at_call 14; (with_reducible first | exact KExt.callsK (A2.out _ (HH9.out.kept (KExt.g _))) | exact KExt.callsK (A3.out _ (HH9.out.kept (KExt.g _)))))
                            | fail)))
                          refine wpQuiet_nil ?_
                          intro G
                          clear T0 T1 T2 T3 T4 T5 T6 T7 T8 C3 C4 X0 X1 X2
                          go_wp2_with fail
                          go_at_call 8
                          refine (hawake_any _).mono ?_
                          rintro e w9 ⟨rfl, hk9⟩
                          have HF := Lib.hid ((HKA.out.trans G.g).trans hk9)
                          clear hk9
                          go_wp2_with fail
                          go_ret
                          exact ⟨rfl, HF.out⟩
                    · have HQA := Lib.hid qa
                      have qa1 : (x.k == a) = false := by simpa using qa
                      have qa2 : (x.k != a) = true := by simpa using qa
                      have qa3 : decide (x.k = a) = false := decide_eq_false qa
                      clear qa
                      by_cases qb : x.k = b
                      · have HQB := Lib.hid qb
                        have qb1 : (x.k == b) = true := by rw [qb]; simp
                        have qb2 : (x.k != b) = false := by rw [qb]; simp
                        have qb3 : decide (x.k = b) = true := decide_eq_true qb
                        clear qb
                        by_cases r : v4 = x
                        · have HEr := Lib.hid r
                          obtain ⟨r0, r1, r2⟩ := va_eq r
                          clear r
                          have HB := Lib.hid (show BackP T a b x from ⟨fun e => absurd e HQA.out, fun _ => by rw [HV34.out]; exact HEr.out⟩)
                          have HNX := Lib.hid (show ∀ y ∈ N.take (t + 1), BackP T a b y from fun y hy => by
                            rw [List.take_add_one, HXX.out, Option.toList_some, List.mem_append, List.mem_singleton] at hy
                            rcases hy with hy | rfl
                            · exact HA.out y hy
                            · exact HB.out)
                          refine region_kept _ (by kernel_rfl) (by kernel_rfl) (Kept.refl _) ?_
                          repeat (go_big_quiet_step ((first
                            | (go_at_call 12; (with_reducible first | exact KExt.callsK (A1.out _ (HH9.out.kept (KExt.g _))) | exact KExt.callsK (A4.out _ (HH9.out.kept (KExt.g _)))))
                            | (go_at_call 14; (with_reducible first | exact KExt.callsK (A2.out _ (HH9.out.kept (KExt.g _))) | exact KExt.callsK (A3.out _ (HH9.out.kept (KExt.g _)))))
                            | fail)))
                          refine wpQuiet_nil ?_
                          intro G
                          clear T0 T1 T2 T3 T4 T5 T6 T7 T8 C3 C4 X0 X1 X2
                          go_wp2_with fail
                          go_roundw
                          case rel => exact ⟨t + 1, hlt, by go_num, HKV.out.trans G.g, HNX.out⟩
                          case measure => simp [intOf]; omega
                        · rcases va_ne r with r0 | ⟨r0, r1⟩ | ⟨r0, r1, r2⟩ <;> clear r
                          · refine region_kept _ (by kernel_rfl) (by kernel_rfl) (Kept.refl _) ?_
                            repeat (go_big_quiet_step ((first
                              | (go_at_call 12; (with_reducible first | exact KExt.callsK (A1.out _ (HH9.out.kept (KExt.g _))) | exact KExt.callsK (A4.out _ (HH9.out.kept (KExt.g _)))))
                              | (go_at_call 14; (with_reducible first | exact KExt.callsK (A2.out _ (HH9.out.kept (KExt.g _))) | exact KExt.callsK (A3.out _ (HH9.out.kept (KExt.g _)))))
                              | fail)))
                            refine wpQuiet_nil ?_
                            intro G
                            clear T0 T1 T2 T3 T4 T5 T6 T7 T8 C3 C4 X0 X1 X2
                            go_wp2_with fail
                            go_at_call 8
                            refine (hawake_any _).mono ?_
                            rintro e w9 ⟨rfl, hk9⟩
                            have HF := Lib.hid ((HKA.out.trans G.g).trans hk9)
                            clear hk9
                            go_wp2_with fail
                            go_ret
                            exact ⟨rfl, HF.out⟩
                          · refine region_kept _ (by kernel_rfl) (by kernel_rfl) (Kept.refl _) ?_
                            repeat (go_big_quiet_step ((first
                              | (go_at_call 12; (with_reducible first | exact KExt.callsK (A1.out _ (HH9.out.kept (KExt.g _))) | exact KExt.callsK (A4.out _ (HH9.out.kept (KExt.g _)))))
                              | (go_at_call 14; (with_reducible first | exact KExt.callsK (A2.out _ (HH9.out.kept (KExt.g _))) | exact KExt.callsK (A3.out _ (HH9.out.kept (KExt.g _)))))
                              | fail)))
                            refine wpQuiet_nil ?_
                            intro G
                            clear T0 T1 T2 T3 T4 T5 T6 T7 T8 C3 C4 X0 X1 X2
                            go_wp2_with fail
                            go_at_call 8
                            refine (hawake_any _).mono ?_
                            rintro e w9 ⟨rfl, hk9⟩
                            have HF := Lib.hid ((HKA.out.trans G.g).trans hk9)
                            clear hk9
                            go_wp2_with fail
                            go_ret
                            exact ⟨rfl, HF.out⟩
                          · refine region_kept _ (by kernel_rfl) (by kernel_rfl) (Kept.refl _) ?_
                            repeat (go_big_quiet_step ((first
                              | (go_at_call 12; (with_reducible first | exact KExt.callsK (A1.out _ (HH9.out.kept (KExt.g _))) | exact KExt.callsK (A4.out _ (HH9.out.kept (KExt.g _)))))
                              | (go_at_call 14; (with_reducible first | exact KExt.callsK (A2.out _ (HH9.out.kept (KExt.g _))) | exact KExt.callsK (A3.out _ (HH9.out.kept (KExt.g _)))))
                              | fail)))
                            refine wpQuiet_nil ?_
                            intro G
                            clear T0 T1 T2 T3 T4 T5 T6 T7 T8 C3 C4 X0 X1 X2
                            go_wp2_with fail
                            go_at_call 8
                            refine (hawake_any _).mono ?_
                            rintro e w9 ⟨rfl, hk9⟩
                            have HF := Lib.hid ((HKA.out.trans G.g).trans hk9)
                            clear hk9
                            go_wp2_with fail
                            go_ret
                            exact ⟨rfl, HF.out⟩
                      · have HQB := Lib.hid qb
                        have qb1 : (x.k == b) = false := by simpa using qb
                        have qb2 : (x.k != b) = true := by simpa using qb
                        have qb3 : decide (x.k = b) = false := decide_eq_false qb
                        clear qb
                        have HB := Lib.hid (show BackP T a b x from ⟨fun e => absurd e HQA.out, fun e => absurd e HQB.out⟩)
                        have HNX := Lib.hid (show ∀ y ∈ N.take (t + 1), BackP T a b y from fun y hy => by
                          rw [List.take_add_one, HXX.out, Option.toList_some, List.mem_append, List.mem_singleton] at hy
                          rcases hy with hy | rfl
                          · exact HA.out y hy
                          · exact HB.out)
                        refine region_kept _ (by kernel_rfl) (by kernel_rfl) (Kept.refl _) ?_
                        repeat (go_big_quiet_step ((first
                          | (go_at_call 12; (with_reducible first | exact KExt.callsK (A1.out _ (HH9.out.kept (KExt.g _))) | exact KExt.callsK (A4.out _ (HH9.out.kept (KExt.g _)))))
                          | (go_at_call 14; (with_reducible first | exact KExt.callsK (A2.out _ (HH9.out.kept (KExt.g _))) | exact KExt.callsK (A3.out _ (HH9.out.kept (KExt.g _)))))
                          | fail)))
                        refine wpQuiet_nil ?_
                        intro G
                        clear T0 T1 T2 T3 T4 T5 T6 T7 T8 C3 C4 X0 X1 X2
                        go_wp2_with fail
                        go_roundw
                        case rel => exact ⟨t + 1, hlt, by go_num, HKV.out.trans G.g, HNX.out⟩
                        case measure => simp [intOf]; omega
                  · obtain rfl : t = N6 := by omega
                    have hfin : LossT T a b := HRT.out.sharp fun v hv => HA.out v (by rw [List.take_of_length_le (by rw [HMM.out]; exact Nat.le_refl _), ← HAV.out]; exact among_all hv)
                    exact absurd hfin HNL.out
end Go.Proofs.YtjcnjmlgedmmoaaDoor
