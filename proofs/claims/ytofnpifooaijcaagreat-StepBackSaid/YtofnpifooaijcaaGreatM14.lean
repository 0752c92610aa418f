/-
  What is proved: package table's ways and Put of layer 13 (P13.6), called with any text and any table, of bounded lengths, returns what that says; the world has new blocks at most.
  the document's Put of layer 11 (P11.6), called with any text and any schema, of bounded lengths, returns what that says; the world has new blocks at most.
  package schema's Put of layer 11 (P11.6), called with any text and any schema, of bounded lengths, returns what that says; the world has new blocks at most.
  plain facts on the bytes of a step (P14.5), and their lengths; no program is spoken of here.
  words for memory that layer 14's steps use: a cell of a step written, a whole step written over another; a whole step handed back.
-/
import Derived.Test.YtofnpifooaijcaaGreatM13
import Derived.Test.YtofnpifooaijcaaGreatM12
import Derived.Test.YtofnpifooaijcaaGreatM6
import Derived.Test.YtofnpifooaijcaaGreatM2
import Derived.Test.YtofnpifooaijcaaGreatM8
namespace Go.Proofs.YtofnpifooaijcaaGreat
open Go.RowKit
set_option linter.unusedVariables false
theorem putVa_cut (b : ByteArray) (x : Va) : putVa b x = b ++ putVa ⟨#[]⟩ x := by
  unfold putVa putV
  split
  · rw [ba_nil]
  · split
    · rw [ba_nil, ba_assoc, ba_assoc, ba_assoc]
    · rw [ba_nil, ba_assoc]
theorem putPa_cut (b : ByteArray) (p : Pa) : putPa b p = b ++ putPa ⟨#[]⟩ p := by
  unfold putPa
  rw [putVa_cut (putVa b p.f), putVa_cut b, putVa_cut (putVa ⟨#[]⟩ p.f), ba_assoc]
theorem ba_listT (a b r : ByteArray) (h : a ++ b = r) : a.data.toList ++ b.data.toList = r.data.toList := by
  subst h
  simp [ByteArray.data_append]
theorem ba_lenT (a : ByteArray) : a.data.toList.length = a.size := by simp
theorem tputN (b : ByteArray) (n : Nat) (w : World) (hn : n ≤ 1000000) (hb : b.size ≤ 90000) (r : ByteArray) (hr : b ++ putS n = r) :
    Calls Tryz.prog 64 #[.string b, .int .u64 (n : Int)] w fun e w' => e = .returned (.string r) ∧ Kept w w' := by
  subst hr
  exact (put_any b n w (by omega) (by omega)).mono fun _ _ ⟨he, hg⟩ => ⟨he, kept_of hg⟩
theorem tputVa (b : ByteArray) (x : Va) (h : VaS x) (c : ByteArray) (hc : putVa b x = c) (hb : b.size ≤ 80000) (w : World) :
    Calls Tryz.prog 67 #[.string b, .agg #[.int .i64 x.k, .int .i64 x.n, .string x.t]] w fun e w' => e = .returned (.string c) ∧ Kept w w' := by
  subst hc
  exact (vput_any b x.k x.n x.t w h.lo h.hi (by omega) (by have := h.t; omega)).mono fun _ _ ⟨he, hg⟩ => ⟨he, kept_of hg⟩
set_option maxRecDepth 100000 in
theorem putPa_sz (b : ByteArray) (x : Pa) (h : VaS x.f ∧ VaS x.t) : (putPa b x).size ≤ b.size + 1240 := by
  have h1 := putVa_size b x.f h.1
  have h2 := putVa_size (putVa b x.f) x.t h.2
  unfold putPa
  omega
set_option maxRecDepth 100000 in
theorem putTbL_sz {b : ByteArray} {T : Tb} (h : TbS T) (hb : b.size ≤ 5000) (t : Nat) : (putTbL b T t).size ≤ 5020 + t * 1240 := by
  induction t with
  | zero => rw [putTb_zero, ByteArray.size_append, ByteArray.size_append]; have := putS_size (marksT T); have := putS_size T.L.length; omega
  | succ t ih =>
    cases hx : T.L[t]? with
    | some p => rw [putTb_step hx]; have := putPa_sz (putTbL b T t) p (h.L p (List.mem_of_getElem? hx)); omega
    | none =>
      have e : putTbL b T (t + 1) = putTbL b T t := by
        unfold putTbL
        rw [List.take_add_one, hx, Option.toList_none, List.append_nil]
      rw [e]; omega
set_option maxRecDepth 100000 in
set_option maxHeartbeats 8000000 in
theorem tways_any (A : Option Addr) (n c : Nat) (T : Tb) (w : World) (m : Nat) (hm : marksT T = m) :
    Calls Tryz.prog 122 #[.agg #[.slice A n c, .bool T.keep, .int .i64 T.d.k, .int .i64 T.d.n, .string T.d.t, .int .i64 T.b.k, .int .i64 T.b.n, .string T.b.t, .bool T.tu]] w fun e w' => e = .returned (.int .u64 (m : Int)) ∧ Kept w w' := by
  have HK := Lib.hid ((Kept.refl w).alloc #[.slice A n c, .bool T.keep, .int .i64 T.d.k, .int .i64 T.d.n, .string T.d.t, .int .i64 T.b.k, .int .i64 T.b.n, .string T.b.t, .bool T.tu] 31)
  have HT := Lib.hid (TabB.new w A n c T 31)
  have HM := Lib.hid hm
  have o1 : Go.bits BinOp.or IntKind.u64 0 1 = 1 := by kernel_rfl
  have o2 : Go.bits BinOp.or IntKind.u64 0 2 = 2 := by kernel_rfl
  have o3 : Go.bits BinOp.or IntKind.u64 1 2 = 3 := by kernel_rfl
  clear hm
  rcases Bool.eq_false_or_eq_true T.keep with hkp | hkp <;> rcases Bool.eq_false_or_eq_true T.tu with htu | htu
  · have HF := Lib.hid (show (3 : Int) = (m : Int) by rw [← HM.out]; unfold marksT; rw [hkp, htu]; rfl)
    have t1 := HT.out.c1
    have t8 := HT.out.c8
    rw [hkp, htu] at HK ⊢
    rw [hkp, htu] at t1 t8
    clear hkp htu
    go_enter Tryz.func122, Tryz.ntmps122
    go_wp2_with fail
    go_ret
    exact ⟨congrArg (fun z => Ending.returned (Value.int IntKind.u64 z)) HF.out, HK.out⟩
  · have HF := Lib.hid (show (1 : Int) = (m : Int) by rw [← HM.out]; unfold marksT; rw [hkp, htu]; rfl)
    have t1 := HT.out.c1
    have t8 := HT.out.c8
    rw [hkp, htu] at HK ⊢
    rw [hkp, htu] at t1 t8
    clear hkp htu
    go_enter Tryz.func122, Tryz.ntmps122
    go_wp2_with fail
    go_ret
    exact ⟨congrArg (fun z => Ending.returned (Value.int IntKind.u64 z)) HF.out, HK.out⟩
  · have HF := Lib.hid (show (2 : Int) = (m : Int) by rw [← HM.out]; unfold marksT; rw [hkp, htu]; rfl)
    have t1 := HT.out.c1
    have t8 := HT.out.c8
    rw [hkp, htu] at HK ⊢
    rw [hkp, htu] at t1 t8
    clear hkp htu
    go_enter Tryz.func122, Tryz.ntmps122
    go_wp2_with fail
    go_ret
    exact ⟨congrArg (fun z => Ending.returned (Value.int IntKind.u64 z)) HF.out, HK.out⟩
  · have HF := Lib.hid (show (0 : Int) = (m : Int) by rw [← HM.out]; unfold marksT; rw [hkp, htu]; rfl)
    have t1 := HT.out.c1
    have t8 := HT.out.c8
    rw [hkp, htu] at HK ⊢
    rw [hkp, htu] at t1 t8
    clear hkp htu
    go_enter Tryz.func122, Tryz.ntmps122
    go_wp2_with fail
    go_ret
    exact ⟨congrArg (fun z => Ending.returned (Value.int IntKind.u64 z)) HF.out, HK.out⟩
set_option maxRecDepth 100000 in
set_option maxHeartbeats 8000000 in
theorem htput_any (b : ByteArray) (A : Option Addr) (n c : Nat) (T : Tb) (w : World) (h : Pal w A n c T.L) (hs : TbS T) (hb : b.size ≤ 5000) (r : ByteArray) (hr : putTb b T = r) :
    Calls Tryz.prog 69 #[.string b, .agg #[.slice A n c, .bool T.keep, .int .i64 T.d.k, .int .i64 T.d.n, .string T.d.t, .int .i64 T.b.k, .int .i64 T.b.n, .string T.b.t, .bool T.tu]] w fun e w' => e = .returned (.string r) ∧ Kept w w' := by
  have hk := (Kept.refl w).alloc #[.slice A n c, .bool T.keep, .int .i64 T.d.k, .int .i64 T.d.n, .string T.d.t, .int .i64 T.b.k, .int .i64 T.b.n, .string T.b.t, .bool T.tu] 31
  have hcap := h.cap.1; have hcap2 := h.cap.2
  have HNL := Lib.hid h.1; have HS := Lib.hid hs; have HR := Lib.hid hr
  have hn20 : n ≤ 20 := by have := hs.few; have := h.1; omega
  have HT := Lib.hid (TabB.new w A n c T 31)
  have HH := Lib.hid (h.kept hk)
  have t := (TabB.new w A n c T 31).kept ((Kept.refl _).alloc #[.pointer none, .slice none 0 0] 133)
  have t0 := t.c0; have t1 := t.c1; have t2 := t.c2; have t3 := t.c3; have t4 := t.c4; have t5 := t.c5; have t6 := t.c6; have t7 := t.c7; have t8 := t.c8
  obtain ⟨U, hU⟩ : ∃ U, w.alloc (.cells #[.slice A n c, .bool T.keep, .int .i64 T.d.k, .int .i64 T.d.n, .string T.d.t, .int .i64 T.b.k, .int .i64 T.b.n, .string T.b.t, .bool T.tu] 31) = U := ⟨_, rfl⟩
  have hsU : U.heap.size = w.heap.size + 1 := by rw [← hU]; simp
  have hbl := Bld.start U
  rw [hsU] at hbl
  obtain ⟨V, hV⟩ : ∃ V, U.alloc (.cells #[.pointer none, .slice none 0 0] 133) = V := ⟨_, rfl⟩
  rw [hV] at hbl
  rw [hU] at hk HT HH
  have HK := Lib.hid hk; have HUU := Lib.hid hU; have HVV := Lib.hid hV; have HBL := Lib.hid hbl
  obtain ⟨m, hm⟩ : ∃ m, marksT T = m := ⟨_, rfl⟩
  have hm3 : m ≤ 3 := by rw [← hm]; unfold marksT; split <;> split <;> omega
  obtain ⟨b1, hb1⟩ : ∃ c, b ++ putS m = c := ⟨_, rfl⟩
  obtain ⟨y, hy⟩ : ∃ c, putS n = c := ⟨_, rfl⟩
  have z1 : b1.size ≤ 5010 := by have := putS_size m; rw [← hb1, ByteArray.size_append]; omega
  have zy : y.size ≤ 10 := by rw [← hy]; exact putS_size _
  have AW := Lib.hid (fun w => tways_any A n c T w m hm)
  have P1 := Lib.hid (fun w => tputN b m w (by omega) (by omega) b1 hb1)
  have P2 := Lib.hid (fun w => tputN ⟨#[]⟩ n w (by omega) (by decide) y (by rw [ba_nil, hy]))
  have HZ := Lib.hid (show b1 ++ y = putTbL b T 0 by rw [putTb_zero, hm, hb1, ← h.1, hy])
  have HSZ := Lib.hid (fun t => putTbL_sz hs hb t)
  have hwr : IntKind.u64.wrap (n : Int) = (n : Int) := by rw [IntKind.wrap_u64]; omega
  clear h hs hr hb hk t hU hV hbl hsU hm hb1 hy
  go_enter Tryz.func69, Tryz.ntmps69
  go_wp2_with fail
  rw [HUU.out, HVV.out]
  go_at_call 122
  refine (AW.out _).mono ?_
  rintro e w1 ⟨rfl, hk1⟩
  replace HBL := Lib.hid (HBL.out.kept hk1)
  clear hk1 t0 t1 t2 t3 t4 t5 t6 t7 t8
  go_wp2_with fail
  go_at_call 64
  refine (P1.out _).mono ?_
  rintro e w2 ⟨rfl, hk1⟩
  replace HBL := Lib.hid (HBL.out.kept hk1)
  clear hk1
  go_wp2_with fail
  go_at_call 121
  refine (write_any HBL.out b1 (by simp; omega) b1.data.toList (by simp)).mono ?_
  rintro e w3 ⟨rfl, hbl⟩
  replace HBL := Lib.hid hbl
  have t0 := (HT.out.kept hbl.ke).c0
  clear hbl
  go_wp2_with fail
  go_at_call 64
  refine (P2.out _).mono ?_
  rintro e w4 ⟨rfl, hk1⟩
  replace HBL := Lib.hid (HBL.out.kept hk1)
  clear hk1 t0
  go_wp2_with fail
  go_at_call 121
  refine (write_any HBL.out y (by rw [ba_lenT]; omega) (putTbL b T 0).data.toList (ba_listT _ _ _ HZ.out)).mono ?_
  rintro e w5 ⟨rfl, hbl⟩
  replace HBL := Lib.hid hbl
  have t0 := (HT.out.kept hbl.ke).c0
  clear hbl
  go_wp2_with fail
  clear t0
  go_loopw [22] (fun i wr => ∃ t : Nat, t ≤ n ∧ i = .int .i64 t ∧ Bld U (w.heap.size + 1) wr (putTbL b T t).data.toList) (fun i _ => n - (intOf i).toNat)
  case atStart => exact ⟨0, Nat.zero_le _, rfl, HBL.out⟩
  case round =>
    obtain ⟨t, ht, rfl, hbl⟩ := hrel
    have HBR := Lib.hid hbl
    clear hbl
    have hsz := HSZ.out t
    by_cases hlt : t < n
    · obtain ⟨g, o, x, rfl, hx, EX⟩ := (HH.out.kept HBR.out.ke).get hlt
      have x0 := EX.c0; have x1 := EX.c1; have x2 := EX.c2; have x3 := EX.c3; have x4 := EX.c4; have x5 := EX.c5
      have hka := (Kept.refl wr).alloc #[.int .i64 x.f.k, .int .i64 x.f.n, .string x.f.t, .int .i64 x.t.k, .int .i64 x.t.n, .string x.t.t] 99
      have HE := Lib.hid (PaB.new wr x 99)
      have HXS := Lib.hid (HS.out.L x (List.mem_of_getElem? hx))
      obtain ⟨p1, hp1⟩ : ∃ c, putVa ⟨#[]⟩ x.f = c := ⟨_, rfl⟩
      obtain ⟨p2, hp2⟩ : ∃ c, putVa p1 x.t = c := ⟨_, rfl⟩
      have zp1 : p1.size ≤ 620 := by have := putVa_size ⟨#[]⟩ x.f HXS.out.1; rw [hp1] at this; exact this
      have zp2 : p2.size ≤ 1240 := by have := putVa_size p1 x.t HXS.out.2; rw [hp2] at this; omega
      have A1 := Lib.hid (fun w => tputVa ⟨#[]⟩ x.f HXS.out.1 p1 hp1 (by decide) w)
      have A2 := Lib.hid (fun w => tputVa p1 x.t HXS.out.2 p2 hp2 (by omega) w)
      have HL := Lib.hid (show (putTbL b T t).data.toList ++ p2.data.toList = (putTbL b T (t + 1)).data.toList from ba_listT _ _ _ (by rw [putTb_step hx, putPa_cut]; unfold putPa; rw [hp1, hp2]))
      have HLL := Lib.hid (show (putTbL b T t).data.toList.length + p2.size ≤ 140737488355328 by rw [ba_lenT]; omega)
      obtain ⟨W1, hW1⟩ : ∃ W1, wr.alloc (.cells #[.int .i64 x.f.k, .int .i64 x.f.n, .string x.f.t, .int .i64 x.t.k, .int .i64 x.t.n, .string x.t.t] 99) = W1 := ⟨_, rfl⟩
      rw [hW1] at hka HE
      have HKA := Lib.hid hka; have HW1 := Lib.hid hW1
      clear EX hx hka hW1 hp1 hp2 zp1 zp2
      go_wp2_with fail
      rw [HW1.out]
      clear x0 x1 x2 x3 x4 x5
      refine region_plan U 7 (.read [0, 3] (.two 1 (.two 2 (.one 4 (.one 5 (.one 6 .stop))) 4 (.one 2 (.one 5 (.one 6 .stop)))) 4 (.one 1 (.one 2 (.one 5 (.one 6 .stop)))))) (by kernel_rfl) (by kernel_rfl) (by kernel_rfl) (by kernel_rfl) (by kernel_rfl) (fun _ d _ _ _ h => by cases d <;> exact h) (HBR.out.ke.trans HKA.out) ?_
      intro wd hwd
      have HV := Lib.hid (HKA.out.trans hwd)
      replace HE := Lib.hid (HE.out.kept hwd)
      clear hwd
      rw [wpPlan_read]
      simp only [pA, pB, pC, pD, pE]
      repeat (go_big_quiet_step (fail))
      refine wpQuiet_nil ?_
      rw [wpPlan_two]
      simp only [pA, pB, pC, pD, pE]
      constructor
      · have e0 := HE.out.c0; have e1 := HE.out.c1; have e2 := HE.out.c2
        go_wp2_with fail
        clear e0 e1 e2
        refine soloP (HBR.out.ke.trans HV.out) ?_
        rw [wpPlan_two]
        simp only [pA, pB, pC, pD, pE]
        constructor
        · go_wp2_with (go_at_call 67; refine (A1.out _).mono ?_; rintro e u1 ⟨rfl, hkz⟩)
          replace HV := Lib.hid (HV.out.trans hkz)
          replace HE := Lib.hid (HE.out.kept hkz)
          clear hkz
          refine soloP (HBR.out.ke.trans HV.out) ?_
          rw [wpPlan_one]
          simp only [pA, pB, pC, pD, pE]
          have e0 := HE.out.c3; have e1 := HE.out.c4; have e2 := HE.out.c5
          go_wp2_with fail
          clear e0 e1 e2
          refine soloP (HBR.out.ke.trans HV.out) ?_
          rw [wpPlan_one]
          simp only [pA, pB, pC, pD, pE]
          go_wp2_with (go_at_call 67; refine (A2.out _).mono ?_; rintro e u2 ⟨rfl, hkz⟩)
          replace HV := Lib.hid (HV.out.trans hkz)
          replace HE := Lib.hid (HE.out.kept hkz)
          clear hkz
          refine soloP (HBR.out.ke.trans HV.out) ?_
          rw [wpPlan_one]
          simp only [pA, pB, pC, pD, pE]
          go_wp2_with (go_at_call 121; refine (write_any (HBR.out.kept HV.out) p2 HLL.out _ HL.out).mono ?_; rintro e u9 ⟨rfl, hbl⟩)
          have HBF := Lib.hid hbl
          clear hbl
          refine soloP HBF.out.ke ?_
          refine wpPlan_stop ?_
          go_wp2_with fail
          go_roundw
          case rel => exact ⟨t + 1, hlt, by go_num, HBF.out⟩
          case measure => simp [intOf]; omega
        · have e0 := HE.out.c3; have e1 := HE.out.c4; have e2 := HE.out.c5
          go_wp2_with fail
          clear e0 e1 e2
          refine soloP (HBR.out.ke.trans HV.out) ?_
          rw [wpPlan_one]
          simp only [pA, pB, pC, pD, pE]
          go_wp2_with (go_at_call 67; refine (A1.out _).mono ?_; rintro e u1 ⟨rfl, hkz⟩)
          replace HV := Lib.hid (HV.out.trans hkz)
          replace HE := Lib.hid (HE.out.kept hkz)
          clear hkz
          refine soloP (HBR.out.ke.trans HV.out) ?_
          rw [wpPlan_one]
          simp only [pA, pB, pC, pD, pE]
          go_wp2_with (go_at_call 67; refine (A2.out _).mono ?_; rintro e u2 ⟨rfl, hkz⟩)
          replace HV := Lib.hid (HV.out.trans hkz)
          replace HE := Lib.hid (HE.out.kept hkz)
          clear hkz
          refine soloP (HBR.out.ke.trans HV.out) ?_
          rw [wpPlan_one]
          simp only [pA, pB, pC, pD, pE]
          go_wp2_with (go_at_call 121; refine (write_any (HBR.out.kept HV.out) p2 HLL.out _ HL.out).mono ?_; rintro e u9 ⟨rfl, hbl⟩)
          have HBF := Lib.hid hbl
          clear hbl
          refine soloP HBF.out.ke ?_
          refine wpPlan_stop ?_
          go_wp2_with fail
          go_roundw
          case rel => exact ⟨t + 1, hlt, by go_num, HBF.out⟩
          case measure => simp [intOf]; omega
      · have e0 := HE.out.c3; have e1 := HE.out.c4; have e2 := HE.out.c5
        go_wp2_with fail
        clear e0 e1 e2
        refine soloP (HBR.out.ke.trans HV.out) ?_
        rw [wpPlan_one]
        simp only [pA, pB, pC, pD, pE]
        have e0 := HE.out.c0; have e1 := HE.out.c1; have e2 := HE.out.c2
        go_wp2_with fail
        clear e0 e1 e2
        refine soloP (HBR.out.ke.trans HV.out) ?_
        rw [wpPlan_one]
        simp only [pA, pB, pC, pD, pE]
        go_wp2_with (go_at_call 67; refine (A1.out _).mono ?_; rintro e u1 ⟨rfl, hkz⟩)
        replace HV := Lib.hid (HV.out.trans hkz)
        replace HE := Lib.hid (HE.out.kept hkz)
        clear hkz
        refine soloP (HBR.out.ke.trans HV.out) ?_
        rw [wpPlan_one]
        simp only [pA, pB, pC, pD, pE]
        go_wp2_with (go_at_call 67; refine (A2.out _).mono ?_; rintro e u2 ⟨rfl, hkz⟩)
        replace HV := Lib.hid (HV.out.trans hkz)
        replace HE := Lib.hid (HE.out.kept hkz)
        clear hkz
        refine soloP (HBR.out.ke.trans HV.out) ?_
        rw [wpPlan_one]
        simp only [pA, pB, pC, pD, pE]
        go_wp2_with (go_at_call 121; refine (write_any (HBR.out.kept HV.out) p2 HLL.out _ HL.out).mono ?_; rintro e u9 ⟨rfl, hbl⟩)
        have HBF := Lib.hid hbl
        clear hbl
        refine soloP HBF.out.ke ?_
        refine wpPlan_stop ?_
        go_wp2_with fail
        go_roundw
        case rel => exact ⟨t + 1, hlt, by go_num, HBF.out⟩
        case measure => simp [intOf]; omega
    · obtain rfl : t = n := by omega
      obtain ⟨p1, hp1⟩ : ∃ c, putVa ⟨#[]⟩ T.d = c := ⟨_, rfl⟩
      obtain ⟨p2, hp2⟩ : ∃ c, putVa p1 T.b = c := ⟨_, rfl⟩
      have zp1 : p1.size ≤ 620 := by have := putVa_size ⟨#[]⟩ T.d HS.out.d; rw [hp1] at this; exact this
      have zp2 : p2.size ≤ 1240 := by have := putVa_size p1 T.b HS.out.b; rw [hp2] at this; omega
      have A1 := Lib.hid (fun w => tputVa ⟨#[]⟩ T.d HS.out.d p1 hp1 (by decide) w)
      have A2 := Lib.hid (fun w => tputVa p1 T.b HS.out.b p2 hp2 (by omega) w)
      have HL := Lib.hid (show (putTbL b T t).data.toList ++ p2.data.toList = r.data.toList from ba_listT _ _ _ (by rw [← HR.out]; unfold putTb; rw [putPa_cut, HNL.out]; unfold putPa; rw [hp1, hp2]))
      have HLL := Lib.hid (show (putTbL b T t).data.toList.length + p2.size ≤ 140737488355328 by rw [ba_lenT]; omega)
      clear hp1 hp2 zp1 zp2
      go_wp2_with fail
      have T2 := KExt.cell HT.out.c2; have T3 := KExt.cell HT.out.c3; have T4 := KExt.cell HT.out.c4; have T5 := KExt.cell HT.out.c5; have T6 := KExt.cell HT.out.c6; have T7 := KExt.cell HT.out.c7
      refine region_plan U 7 (.read [0, 1, 3, 4] (.one 2 (.one 5 (.one 6 .stop)))) (by kernel_rfl) (by kernel_rfl) (by kernel_rfl) (by kernel_rfl) (by kernel_rfl) (fun _ d _ _ _ h => by cases d <;> exact h) HBR.out.ke ?_
      intro wd hwd
      have HV := Lib.hid hwd
      clear hwd
      rw [wpPlan_read]
      simp only [pA, pB, pC, pD, pE]
      repeat (go_big_quiet_step (fail))
      refine wpQuiet_nil ?_
      clear T2 T3 T4 T5 T6 T7
      rw [wpPlan_one]
      simp only [pA, pB, pC, pD, pE]
      go_wp2_with (go_at_call 67; refine (A1.out _).mono ?_; rintro e u1 ⟨rfl, hkz⟩)
      replace HV := Lib.hid (HV.out.trans hkz)
      clear hkz
      refine soloP (HBR.out.ke.trans HV.out) ?_
      rw [wpPlan_one]
      simp only [pA, pB, pC, pD, pE]
      go_wp2_with (go_at_call 67; refine (A2.out _).mono ?_; rintro e u2 ⟨rfl, hkz⟩)
      replace HV := Lib.hid (HV.out.trans hkz)
      clear hkz
      refine soloP (HBR.out.ke.trans HV.out) ?_
      rw [wpPlan_one]
      simp only [pA, pB, pC, pD, pE]
      go_wp2_with (go_at_call 121; refine (write_any (HBR.out.kept HV.out) p2 HLL.out _ HL.out).mono ?_; rintro e u9 ⟨rfl, hbl⟩)
      have HBF := Lib.hid hbl
      clear hbl
      refine soloP HBF.out.ke ?_
      refine wpPlan_stop ?_
      go_wp2_with fail
      go_at_call 123
      refine (string_any HBF.out).mono ?_
      rintro e w9 ⟨rfl, hk9⟩
      go_wp2_with fail
      go_ret
      exact ⟨congrArg (fun z => Ending.returned (Value.string z)) (show (⟨r.data⟩ : ByteArray) = r from rfl), HK.out.trans hk9⟩
def putScL (b : ByteArray) (L : List Fd) (t : Nat) : ByteArray := (L.take t).foldl putFd (b ++ putS L.length)
theorem putScL_all (b : ByteArray) (L : List Fd) : putScL b L L.length = putSc b L := by
  unfold putScL putSc
  rw [List.take_length, putFs_enc]
theorem putScL_step (b : ByteArray) {L : List Fd} {t : Nat} {x : Fd} (h : L[t]? = some x) : putScL b L (t + 1) = putFd (putScL b L t) x := by
  unfold putScL
  rw [List.take_add_one, h, Option.toList_some, List.foldl_append]
  rfl
structure FdS (x : Fd) : Prop where
  p : x.p.size ≤ 400
  vt : x.vt.size ≤ 600
  lo : -9223372036854775808 ≤ x.vn
  hi : x.vn ≤ 9223372036854775807
theorem listF_app (a b r : ByteArray) (h : a ++ b = r) : a.data.toList ++ b.data.toList = r.data.toList := by
  subst h
  simp [ByteArray.data_append]
theorem listF_len (a : ByteArray) : a.data.toList.length = a.size := by simp
theorem putFd_size {x : Fd} (h : FdS x) (b : ByteArray) : (putFd b x).size ≤ b.size + 1060 := by
  have q1 := h.p; have q2 := h.vt
  have z1 := putS_size x.p.size; have z2 := putS_size (x.k % 4).toNat; have z3 := putS_size (x.t % 4).toNat
  have := putV_size (b ++ putS x.p.size ++ x.p ++ putS (x.k % 4).toNat ++ putS (x.t % 4).toNat) x.vk x.vn x.vt
  unfold putFd
  simp only [ByteArray.size_append] at this ⊢
  omega
set_option maxRecDepth 100000 in
set_option maxHeartbeats 8000000 in
theorem spf_any (x : Fd) (w : World) (h : FdS x) (r : ByteArray) (hr : putFd ⟨#[]⟩ x = r) :
    Calls Tryz.prog 148 #[.agg #[.string x.p, .int .i64 x.k, .int .i64 x.t, .int .i64 x.vk, .int .i64 x.vn, .string x.vt]] w fun e w' => e = .returned (.string r) ∧ Kept w w' := by
  have hand1 := i64_and3 x.k; have hand2 := i64_and3 x.t
  obtain ⟨m1, hm1, hm14⟩ : ∃ m : Nat, x.k % 4 = (m : Int) ∧ m < 4 := ⟨(x.k % 4).toNat, by omega, by omega⟩
  obtain ⟨m2, hm2, hm24⟩ : ∃ m : Nat, x.t % 4 = (m : Int) ∧ m < 4 := ⟨(x.t % 4).toNat, by omega, by omega⟩
  have hw1 : IntKind.u64.wrap (m1 : Int) = (m1 : Int) := by rw [IntKind.wrap_u64]; omega
  have hw2 : IntKind.u64.wrap (m2 : Int) = (m2 : Int) := by rw [IntKind.wrap_u64]; omega
  obtain ⟨b1, hb1⟩ : ∃ b1, (⟨#[]⟩ : ByteArray) ++ putS x.p.size ++ x.p = b1 := ⟨_, rfl⟩
  obtain ⟨b2, hb2⟩ : ∃ b2, b1 ++ putS m1 = b2 := ⟨_, rfl⟩
  obtain ⟨b3, hb3⟩ : ∃ b3, b2 ++ putS m2 = b3 := ⟨_, rfl⟩
  have q1 := h.p; have q2 := h.vt
  have z1 : b1.size ≤ 410 := by have := putS_size x.p.size; rw [← hb1, ByteArray.size_append, ByteArray.size_append]; show 0 + _ + _ ≤ _; omega
  have z2 : b2.size ≤ 420 := by have := putS_size m1; rw [← hb2, ByteArray.size_append]; omega
  have z3 : b3.size ≤ 430 := by have := putS_size m2; rw [← hb3, ByteArray.size_append]; omega
  have A2 := Lib.hid (fun w => text_any ⟨#[]⟩ x.p w (by decide) (by omega))
  have A3 := Lib.hid (fun w => put_any b1 m1 w (by omega) (by omega))
  have A4 := Lib.hid (fun w => put_any b2 m2 w (by omega) (by omega))
  have A5 := Lib.hid (fun w => vput_any b3 x.vk x.vn x.vt w h.lo h.hi (by omega) (by omega))
  have HR := Lib.hid (show putV b3 x.vk x.vn x.vt = r by rw [← hr]; unfold putFd; rw [hb1, show (x.k % 4).toNat = m1 by omega, hb2, show (x.t % 4).toNat = m2 by omega, hb3])
  rw [hm1] at hand1
  rw [hm2] at hand2
  rw [hb1] at A2
  rw [hb2] at A3
  rw [hb3] at A4
  rw [HR.out] at A5
  have hka := (Kept.refl w).alloc #[.string x.p, .int .i64 x.k, .int .i64 x.t, .int .i64 x.vk, .int .i64 x.vn, .string x.vt] 28
  have HE := Lib.hid (FdB.new w x 28)
  have y0 := HE.out.c0
  have HKA := Lib.hid hka
  clear h hr q1 q2 z1 z2 z3 hb1 hb2 hb3 hm1 hm2 hm14 hm24 hka
  go_enter Tryz.func148, Tryz.ntmps148
  go_wp2_with fail
  go_at_call 65
  refine (A2.out _).mono ?_
  rintro e w2 ⟨rfl, hg⟩
  have hk := kept_of hg
  replace HE := Lib.hid (HE.out.kept hk)
  replace HKA := Lib.hid (HKA.out.trans hk)
  clear hg hk y0 A2
  have y1 := HE.out.c1
  go_wp2_with fail
  go_at_call 64
  refine (A3.out _).mono ?_
  rintro e w3 ⟨rfl, hg⟩
  have hk := kept_of hg
  replace HE := Lib.hid (HE.out.kept hk)
  replace HKA := Lib.hid (HKA.out.trans hk)
  clear hg hk y1 A3
  have y2 := HE.out.c2
  go_wp2_with fail
  go_at_call 64
  refine (A4.out _).mono ?_
  rintro e w4 ⟨rfl, hg⟩
  have hk := kept_of hg
  replace HE := Lib.hid (HE.out.kept hk)
  replace HKA := Lib.hid (HKA.out.trans hk)
  clear hg hk y2 A4
  have y3 := HE.out.c3; have y4 := HE.out.c4; have y5 := HE.out.c5
  go_wp2_with fail
  go_at_call 67
  refine (A5.out _).mono ?_
  rintro e w5 ⟨rfl, hg⟩
  replace HKA := Lib.hid (HKA.out.trans (kept_of hg))
  clear hg y3 y4 y5 A5
  go_wp2_with fail
  go_ret
  exact ⟨rfl, HKA.out⟩
set_option maxRecDepth 100000 in
set_option maxHeartbeats 8000000 in
theorem sput_any (b : ByteArray) (A : Option Addr) (n c : Nat) (L : List Fd) (w : World) (h : Fl w A n c L) (hn : n ≤ 40) (hw : ∀ x ∈ L, FdS x) (hb : b.size ≤ 5000) :
    Calls Tryz.prog 119 #[.string b, .agg #[.slice A n c]] w fun e w' => e = .returned (.string (putSc b L)) ∧ Kept w w' := by
  have hk := (Kept.refl w).alloc #[.slice A n c] 24
  have hcap := h.cap.1; have hcap2 := h.cap.2
  have HNL := Lib.hid h.1; have HSZ := Lib.hid hw
  have HB := Lib.hid (Box1.new w (.slice A n c) 24)
  have HH := Lib.hid (h.kept hk)
  have hB0 := Bld.start (w.alloc (.cells #[.slice A n c] 24))
  have hsz : (w.alloc (.cells #[.slice A n c] 24)).heap.size = w.heap.size + 1 := by simp
  rw [hsz] at hB0
  have hk2 := (Kept.refl (w.alloc (.cells #[.slice A n c] 24))).alloc #[.pointer none, .slice none 0 0] 133
  have d0 := (HB.out.kept hk2).c0
  obtain ⟨U, hU⟩ : ∃ U, w.alloc (.cells #[.slice A n c] 24) = U := ⟨_, rfl⟩
  rw [hU] at hk HB HH hB0
  have HK := Lib.hid hk; have HUU := Lib.hid hU; have HB0 := Lib.hid hB0
  have hwr : IntKind.u64.wrap (n : Int) = (n : Int) := by rw [IntKind.wrap_u64]; omega
  obtain ⟨s0, hs0⟩ : ∃ s, b ++ putS n = s := ⟨_, rfl⟩
  have AN := Lib.hid (fun w => put_any b n w (by omega) (by omega))
  have hz0 : s0.size ≤ 5010 := by have := putS_size n; rw [← hs0, ByteArray.size_append]; omega
  have HS0 := Lib.hid (show putScL b L 0 = s0 by unfold putScL; rw [List.take_zero, ← HNL.out]; exact hs0)
  rw [hs0] at AN
  clear h hw hk hk2 hU hb hs0 hB0 hsz
  go_enter Tryz.func119, Tryz.ntmps119
  go_wp2_with fail
  go_at_call 64
  refine (AN.out _).mono ?_
  rintro e w1 ⟨rfl, hg⟩
  have HBL1 := Lib.hid (HB0.out.kept (by rw [← HUU.out]; exact kept_of hg))
  clear hg d0 hwr AN
  go_wp2_with fail
  go_at_call 121
  refine (write_any HBL1.out s0 (by simp; omega) s0.data.toList (by simp)).mono ?_
  rintro e w2 ⟨rfl, hbl2⟩
  have HBL2 := Lib.hid hbl2
  have d0 := (HB.out.kept hbl2.ke).c0
  clear hbl2
  go_wp2_with fail
  clear d0
  go_loopw [18] (fun i wr => ∃ (t : Nat), t ≤ n ∧ i = .int .i64 t ∧ (putScL b L t).size ≤ 5010 + t * 1060 ∧ Bld U (w.heap.size + 1) wr (putScL b L t).data.toList) (fun i _ => n - (intOf i).toNat)
  case atStart => exact ⟨0, Nat.zero_le _, rfl, by rw [HS0.out]; omega, by rw [HS0.out]; exact HBL2.out⟩
  case round =>
    obtain ⟨t, ht, rfl, hsz, hbl⟩ := hrel
    have HBL := Lib.hid hbl
    clear hbl
    by_cases hlt : t < n
    · obtain ⟨g, o, x, rfl, hx, EX⟩ := (HH.out.kept HBL.out.ke).get hlt
      have hst := putScL_step b hx
      have hfs := HSZ.out x (List.mem_of_getElem? hx)
      rw [putF_enc] at hst
      obtain ⟨y, hy⟩ : ∃ y, putFd ⟨#[]⟩ x = y := ⟨_, rfl⟩
      have hys : y.size ≤ 1060 := by have := putFd_size hfs ⟨#[]⟩; rw [hy] at this; have e : (⟨#[]⟩ : ByteArray).size = 0 := rfl; omega
      have AF := Lib.hid (fun w => spf_any x w hfs y hy)
      rw [hy] at hst
      have hn1 : (putScL b L (t + 1)).size ≤ 5010 + (t + 1) * 1060 := by rw [hst, ByteArray.size_append]; omega
      have HS := Lib.hid (show (putScL b L t).data.toList ++ y.data.toList = (putScL b L (t + 1)).data.toList from listF_app _ _ _ hst.symm)
      have hll : (putScL b L t).data.toList.length + y.size ≤ 140737488355328 := by rw [listF_len]; omega
      have HLL := Lib.hid hll
      have HN1 := Lib.hid hn1
      have x0 := EX.c0; have x1 := EX.c1; have x2 := EX.c2; have x3 := EX.c3; have x4 := EX.c4; have x5 := EX.c5
      have hka := (Kept.refl wr).alloc #[.string x.p, .int .i64 x.k, .int .i64 x.t, .int .i64 x.vk, .int .i64 x.vn, .string x.vt] 28
      have HKA := Lib.hid hka
      clear EX hx hst hfs hy hys hn1 hll hka
      go_wp2_with fail
      go_at_call 148
      refine (AF.out _).mono ?_
      rintro e w5 ⟨rfl, hk5⟩
      have HK5 := Lib.hid (HKA.out.trans hk5)
      clear hk5 x0 x1 x2 x3 x4 x5
      go_wp2_with fail
      go_at_call 121
      refine (write_any (HBL.out.kept HK5.out) y HLL.out _ HS.out).mono ?_
      rintro e w6 ⟨rfl, hbl6⟩
      go_wp2_with fail
      go_roundw
      case rel => exact ⟨t + 1, hlt, by go_num, HN1.out, hbl6⟩
      case measure => simp [intOf]; omega
    · have htn : t = n := by omega
      have HF := Lib.hid (show (⟨(putScL b L t).data.toList.toArray⟩ : ByteArray) = putSc b L by
        rw [htn, HNL.out, putScL_all])
      clear htn
      go_wp2_with fail
      go_at_call 123
      refine (string_any HBL.out).mono ?_
      rintro e w9 ⟨rfl, hk9⟩
      go_wp2_with fail
      go_ret
      exact ⟨by rw [← HF.out]; rfl, HK.out.trans hk9⟩
theorem i64_and15 (n : Int) : Go.bits BinOp.and IntKind.i64 n 15 = n % 16 := by
  have h3 : (BitVec.ofInt 64 15).toNat = 2 ^ 4 - 1 := by decide
  have key : (BitVec.ofInt 64 n &&& BitVec.ofInt 64 15).toNat = (n % ((2 ^ 64 : Nat) : Int)).toNat % 2 ^ 4 := by
    rw [BitVec.toNat_and, BitVec.toNat_ofInt, h3, Nat.and_two_pow_sub_one_eq_mod]
  show IntKind.i64.wrap ((BitVec.ofInt 64 n &&& BitVec.ofInt 64 15).toNat : Nat) = n % 16
  rw [key, IntKind.wrap_i64]
  omega
theorem calls_str {Pr : Program} {f : FuncId} {args : Array Value} {w : World} {v v' : ByteArray} (h : Calls Pr f args w fun e w' => e = .returned (.string v) ∧ Grown w w') (hv : v = v') : Calls Pr f args w fun e w' => e = .returned (.string v') ∧ Kept w w' := by
  subst hv
  exact h.mono fun _ _ ⟨he, hg⟩ => ⟨he, kept_of hg⟩
structure StP (x : St) : Prop where
  p : x.p.size ≤ 400
  nm : x.nm.size ≤ 400
  f : FdS x.f
  d : VaS x.d
  alo : -9223372036854775808 ≤ x.a
  ahi : x.a ≤ 9223372036854775807
  blo : -9223372036854775808 ≤ x.b
  bhi : x.b ≤ 9223372036854775807
  T : TbS x.T
def pS1 (x : St) : ByteArray := ⟨#[]⟩ ++ putS (x.k % 16).toNat
def pS2 (x : St) : ByteArray := pS1 x ++ putS x.p.size ++ x.p
def pS3 (x : St) : ByteArray := pS2 x ++ putS x.nm.size ++ x.nm
def pS4 (x : St) : ByteArray := putSc (pS3 x) [x.f]
def pS5 (x : St) : ByteArray := putV (pS4 x) x.d.k x.d.n x.d.t
def pS6 (x : St) : ByteArray := pS5 x ++ putS (zigI x.a).toNat
def pS7 (x : St) : ByteArray := pS6 x ++ putS (zigI x.b).toNat
def putSt (x : St) : ByteArray := putTb (pS7 x) x.T
theorem one_size {x : Fd} (h : FdS x) (b : ByteArray) : (putSc b [x]).size ≤ b.size + 1070 := by
  have h1 := putFd_size h ⟨#[]⟩
  have h2 := putS_size ([x] : List Fd).length
  have e : (⟨#[]⟩ : ByteArray).size = 0 := rfl
  unfold putSc encFs
  simp only [List.foldr_cons, List.foldr_nil, ByteArray.size_append] at h1 h2 ⊢
  omega
theorem pS_sizes {x : St} (h : StP x) : (pS1 x).size ≤ 10 ∧ (pS2 x).size ≤ 420 ∧ (pS3 x).size ≤ 830 ∧ (pS4 x).size ≤ 1900 ∧ (pS5 x).size ≤ 2530 ∧ (pS6 x).size ≤ 2540 ∧ (pS7 x).size ≤ 2550 := by
  have e : (⟨#[]⟩ : ByteArray).size = 0 := rfl
  have s1 := putS_size (x.k % 16).toNat
  have s2 := putS_size x.p.size; have s3 := putS_size x.nm.size; have s6 := putS_size (zigI x.a).toNat; have s7 := putS_size (zigI x.b).toNat
  have q1 := h.p; have q2 := h.nm; have q3 := h.d.t
  have z1 : (pS1 x).size ≤ 10 := by unfold pS1; rw [ByteArray.size_append]; omega
  have z2 : (pS2 x).size ≤ 420 := by unfold pS2; rw [ByteArray.size_append, ByteArray.size_append]; omega
  have z3 : (pS3 x).size ≤ 830 := by unfold pS3; rw [ByteArray.size_append, ByteArray.size_append]; omega
  have z4 : (pS4 x).size ≤ 1900 := by have := one_size h.f (pS3 x); unfold pS4; omega
  have z5 : (pS5 x).size ≤ 2530 := by have := putV_size (pS4 x) x.d.k x.d.n x.d.t; unfold pS5; omega
  have z6 : (pS6 x).size ≤ 2540 := by unfold pS6; rw [ByteArray.size_append]; omega
  have z7 : (pS7 x).size ≤ 2550 := by unfold pS7; rw [ByteArray.size_append]; omega
  exact ⟨z1, z2, z3, z4, z5, z6, z7⟩
theorem tb_size {T : Tb} (h : TbS T) (b : ByteArray) (hb : b.size ≤ 5000) : (putTb b T).size ≤ 1000000 := by
  have h1 := putTbL_sz h hb T.L.length
  have h2 := h.few
  have h3 := putVa_size (putTbL b T T.L.length) T.d h.d
  have h4 := putVa_size (putVa (putTbL b T T.L.length) T.d) T.b h.b
  show (putVa (putVa (putTbL b T T.L.length) T.d) T.b).size ≤ _
  omega
theorem putSc_one (b : ByteArray) (x : Fd) : b ++ putSc ⟨#[]⟩ [x] = putSc b [x] := by
  unfold putSc
  simp only [ba_assoc, ba_nil]
theorem StB.setAt {w : World} {bl i : Nat} {A : Option Addr} {n c : Nat} {x y : St} {A' : Option Addr} {n' c' : Nat} {v : Value} (h : StB w bl A n c x) (hi : i < 23) (hy : cellS A' n' c' y = (cellS A n c x).set i v) : StB (w.setCell ⟨bl, i, none⟩ v) bl A' n' c' y := by
  refine ⟨fun j u hu => ?_, fun j => by rw [World.frozen?_setCell]; exact h.f j, by have := h.lt; simpa [World.setCell] using this⟩
  rw [hy] at hu
  rw [Nat.zero_add]
  by_cases e : i = j
  · subst e
    rw [List.getElem?_set_self (by rw [cellS_len]; exact hi)] at hu
    obtain ⟨u0, hu0⟩ : ∃ u0, (cellS A n c x)[i]? = some u0 := ⟨_, List.getElem?_eq_getElem (by rw [cellS_len]; exact hi)⟩
    have := h.r i u0 hu0
    rw [Nat.zero_add] at this
    rw [← Option.some.inj hu]
    exact World.cell?_setCell_same _ _ _ this
  · rw [List.getElem?_set_ne e] at hu
    have := h.r j u hu
    rw [Nat.zero_add] at this
    exact cell_besideK e this
theorem StB.setK {w : World} {bl : Nat} {A : Option Addr} {n c : Nat} {x : St} (h : StB w bl A n c x) (k : Int) : StB (w.setCell ⟨bl, 0, none⟩ (.int .i64 k)) bl A n c { x with k := k } := h.setAt (by decide) rfl
theorem StB.setP {w : World} {bl : Nat} {A : Option Addr} {n c : Nat} {x : St} (h : StB w bl A n c x) (p : ByteArray) : StB (w.setCell ⟨bl, 1, none⟩ (.string p)) bl A n c { x with p := p } := h.setAt (by decide) rfl
theorem StB.setN {w : World} {bl : Nat} {A : Option Addr} {n c : Nat} {x : St} (h : StB w bl A n c x) (p : ByteArray) : StB (w.setCell ⟨bl, 2, none⟩ (.string p)) bl A n c { x with nm := p } := h.setAt (by decide) rfl
theorem StB.setF {w : World} {bl : Nat} {A : Option Addr} {n c : Nat} {x : St} (h : StB w bl A n c x) (k : Int) : StB (w.setCell ⟨bl, 12, none⟩ (.int .i64 k)) bl A n c { x with a := k } := h.setAt (by decide) rfl
theorem StB.setG {w : World} {bl : Nat} {A : Option Addr} {n c : Nat} {x : St} (h : StB w bl A n c x) (k : Int) : StB (w.setCell ⟨bl, 13, none⟩ (.int .i64 k)) bl A n c { x with b := k } := h.setAt (by decide) rfl
theorem StB.there {w : World} {bl : Nat} {A : Option Addr} {n c : Nat} {x : St} (h : StB w bl A n c x) (A' : Option Addr) (n' c' : Nat) (y : St) : w.there bl 0 (cellS A' n' c' y).toArray.size := fun j hj => by
  rw [List.size_toArray, cellS_len] at hj
  obtain ⟨u0, hu0⟩ : ∃ u0, (cellS A n c x)[j]? = some u0 := ⟨_, List.getElem?_eq_getElem (by rw [cellS_len]; exact hj)⟩
  exact ⟨by rw [h.r j u0 hu0]; rfl, h.f _⟩
theorem cellS_one (A : Option Addr) (n c : Nat) (x : St) : (cellS A n c x).toArray.all (·.oneCell') = true := all_oneCell_toArray fun v hv => by
  simp only [cellS, List.mem_cons, List.not_mem_nil, or_false] at hv
  rcases hv with h | h | h | h | h | h | h | h | h | h | h | h | h | h | h | h | h | h | h | h | h | h | h <;> subst h <;> rfl
theorem frozen_setCells (b : Nat) : ∀ (vs : List Value) (o : Nat) (w : World) (a : Addr), (w.setCells b o vs).frozen? a = w.frozen? a
  | [], _, _, _ => rfl
  | v :: r, o, w, a => by rw [World.setCells, frozen_setCells b r (o + 1), World.frozen?_setCell]
theorem size_setCells (b : Nat) : ∀ (vs : List Value) (o : Nat) (w : World), (w.setCells b o vs).heap.size = w.heap.size
  | [], _, _ => rfl
  | v :: r, o, w => by rw [World.setCells, size_setCells b r (o + 1)]; simp [World.setCell]
theorem Kept.setCells {W : World} {b : Nat} (hb : W.heap.size ≤ b) : ∀ (vs : List Value) (o : Nat) (w : World), Kept W w → Kept W (w.setCells b o vs)
  | [], _, _, h => h
  | v :: r, o, w, h => by rw [World.setCells]; exact Kept.setCells hb r (o + 1) _ (h.setCell (a := ⟨b, o, none⟩) hb v)
theorem step_sizeA (A : Option Addr) (n c : Nat) (x : St) : (Tryz.prog.info? 33).map (·.size) = some (cellS A n c x).toArray.size := step_info
theorem StB.over {w : World} {bl : Nat} {A : Option Addr} {n c : Nat} {x : St} (h : StB w bl A n c x) (A' : Option Addr) (n' c' : Nat) (y : St) : StB (w.setCells bl 0 (cellS A' n' c' y).toArray.toList) bl A' n' c' y :=
  ⟨World.rangeAt_setCells_same w bl 0 _ (h.there A' n' c' y), fun j => by rw [frozen_setCells]; exact h.f j, by rw [size_setCells]; exact h.lt⟩
end Go.Proofs.YtofnpifooaijcaaGreat
