/-
  What is proved: the document's Put of layer 13 (P13.6), called with any text and any table, of bounded lengths, returns what that says; the world has new blocks at most.
  Long and Int of layer 13's laws, called with any table that a machine can hold, and any number, return what those say; the world has new blocks at most.
  words for the contracts of package table.
-/
import Derived.Test.YtjcnjmlgedmmoaaDoorM11
import Derived.Test.YtjcnjmlgedmmoaaDoorM4
namespace Go.Proofs.YtjcnjmlgedmmoaaDoor
open Go.RowKit
set_option linter.unusedVariables false

/-- The bounds of what a value holds. -/
structure VaS (x : Va) : Prop where
  t : x.t.size ≤ 600
  lo : -9223372036854775808 ≤ x.n
  hi : x.n ≤ 9223372036854775807
structure TbS (T : Tb) : Prop where
  d : VaS T.d
  b : VaS T.b
  L : ∀ p ∈ T.L, VaS p.f ∧ VaS p.t
  few : T.L.length ≤ 20
theorem rputVa (b : ByteArray) (x : Va) (h : VaS x) (c : ByteArray) (hc : putVa b x = c) (hb : b.size ≤ 80000) (w : World) :
    Calls Tryd.prog 51 #[.string b, .agg #[.int .i64 x.k, .int .i64 x.n, .string x.t]] w fun e w' => e = .returned (.string c) ∧ Grown w w' := by
  subst hc
  exact rput_anyV b x.k x.n x.t w h.lo h.hi hb (by have := h.t; omega)
theorem putVa_size (b : ByteArray) (x : Va) (h : VaS x) : (putVa b x).size ≤ b.size + 620 := by
  have := putV_size b x.k x.n x.t; have := h.t; unfold putVa; omega
set_option maxRecDepth 100000 in
set_option maxHeartbeats 8000000 in
theorem rtput_any (b : ByteArray) (A : Option Addr) (n c : Nat) (T : Tb) (w : World) (h : Pal w A n c T.L) (hs : TbS T) (hb : b.size ≤ 5000) (r : ByteArray) (hr : putTb b T = r) :
    Calls Tryd.prog 23 #[.string b, .agg #[.slice A n c, .bool T.keep, .int .i64 T.d.k, .int .i64 T.d.n, .string T.d.t, .int .i64 T.b.k, .int .i64 T.b.n, .string T.b.t, .bool T.tu]] w fun e w' => e = .returned (.string r) ∧ Kept w w' := by
  have hk := (Kept.refl w).alloc #[.slice A n c, .bool T.keep, .int .i64 T.d.k, .int .i64 T.d.n, .string T.d.t, .int .i64 T.b.k, .int .i64 T.b.n, .string T.b.t, .bool T.tu] 26
  have hcap := h.cap.1; have hcap2 := h.cap.2
  have HNL := Lib.hid h.1; have HS := Lib.hid hs; have HR := Lib.hid hr
  have hn20 : n ≤ 20 := by have := hs.few; have := h.1; omega
  have HT := Lib.hid (TabB.new w A n c T 26)
  have HH := Lib.hid (h.kept hk)
  obtain ⟨U, hU⟩ : ∃ U, w.alloc (.cells #[.slice A n c, .bool T.keep, .int .i64 T.d.k, .int .i64 T.d.n, .string T.d.t, .int .i64 T.b.k, .int .i64 T.b.n, .string T.b.t, .bool T.tu] 26) = U := ⟨_, rfl⟩
  rw [hU] at hk HT HH
  have HK := Lib.hid hk; have HUU := Lib.hid hU
  have hwr : IntKind.u64.wrap (n : Int) = (n : Int) := by rw [IntKind.wrap_u64]; omega
  have o1 : Go.bits BinOp.or IntKind.u64 0 1 = 1 := by kernel_rfl
  have o2 : Go.bits BinOp.or IntKind.u64 0 2 = 2 := by kernel_rfl
  have o3 : Go.bits BinOp.or IntKind.u64 1 2 = 3 := by kernel_rfl
  have HZB := Lib.hid hb
  have t0 := HT.out.c0; have t1 := HT.out.c1; have t2 := HT.out.c2; have t3 := HT.out.c3; have t4 := HT.out.c4; have t5 := HT.out.c5; have t6 := HT.out.c6; have t7 := HT.out.c7; have t8 := HT.out.c8
  clear h hs hk hU hr hb
  rcases Bool.eq_false_or_eq_true T.keep with hkp | hkp <;> rcases Bool.eq_false_or_eq_true T.tu with htu | htu
  · have HM := Lib.hid (show marksT T = 3 by unfold marksT; rw [hkp, htu]; rfl)
    rw [hkp] at t1
    rw [htu] at t8
    rw [hkp, htu] at HUU ⊢
    clear hkp htu
    obtain ⟨b1, hb1⟩ : ∃ c, b ++ putS 3 = c := ⟨_, rfl⟩
    obtain ⟨b2, hb2⟩ : ∃ c, b1 ++ putS n = c := ⟨_, rfl⟩
    have z1 : b1.size ≤ 5010 := by have := putS_size 3; have := HZB.out; rw [← hb1, ByteArray.size_append]; omega
    have z2 : b2.size ≤ 5020 := by have := putS_size n; rw [← hb2, ByteArray.size_append]; omega
    have A1 := Lib.hid (fun w => rput9m b 3 3 rfl w (by decide) (by have := HZB.out; omega))
    have A2 := Lib.hid (fun w => rput9m b1 n n rfl w (by omega) (by omega))
    rw [hb1] at A1
    rw [hb2] at A2
    have HB2 := Lib.hid (show putTbL b T 0 = b2 by rw [putTb_zero, HM.out, ← HNL.out, hb1, hb2])
    clear hb1 hb2 z1
    go_enter Tryd.func23, Tryd.ntmps23
    go_wp2_with fail
    rw [HUU.out]
    clear t0 t1 t2 t3 t4 t5 t6 t7 t8 o1 o2 o3
    have T0 := KExt.cell HT.out.c0
    refine region_kept _ (by kernel_rfl) (by kernel_rfl) (Kept.refl _) ?_
    repeat (go_big_quiet_step ((first
      | (go_at_call 50; (with_reducible exact KExt.calls (A1.out _)))
      | (go_at_call 50; (with_reducible exact KExt.calls (A2.out _)))
      | fail)))
    refine wpQuiet_nil ?_
    intro G
    obtain ⟨V, hV⟩ : ∃ V, G.w = V := ⟨_, rfl⟩
    have hkz := G.g
    rw [hV] at hkz ⊢
    replace HK := Lib.hid (HK.out.trans hkz); replace HT := Lib.hid (HT.out.kept hkz); replace HH := Lib.hid (HH.out.kept hkz)
    clear hV hkz G T0 A1 A2 hwr
    have t0 := HT.out.c0
    go_wp2_with fail
    clear t0
    go_loopw [0, 27] (fun v i wr => ∃ (t : Nat) (s : ByteArray), t ≤ n ∧ i = .int .i64 t ∧ v = .string s ∧ putTbL b T t = s ∧ s.size ≤ 5020 + t * 1240 ∧ Kept V wr) (fun _ i _ => n - (intOf i).toNat)
    case atStart => exact ⟨0, b2, Nat.zero_le _, rfl, rfl, HB2.out, by omega, Kept.refl _⟩
    case round =>
      obtain ⟨t, s, ht, rfl, rfl, hss, hsz, hkr⟩ := hrel
      have HSS := Lib.hid hss; have HKR := Lib.hid hkr
      clear hss hkr
      by_cases hlt : t < n
      · obtain ⟨g, o, x, rfl, hx, EX⟩ := (HH.out.kept HKR.out).get hlt
        have x0 := EX.c0; have x1 := EX.c1; have x2 := EX.c2; have x3 := EX.c3; have x4 := EX.c4; have x5 := EX.c5
        have hst := putTb_step (b := b) hx
        rw [HSS.out] at hst
        have hfs := HS.out.L x (List.mem_of_getElem? hx)
        obtain ⟨s1, hs1⟩ : ∃ c, putVa s x.f = c := ⟨_, rfl⟩
        obtain ⟨s2, hs2⟩ : ∃ c, putVa s1 x.t = c := ⟨_, rfl⟩
        have y1 : s1.size ≤ s.size + 620 := by rw [← hs1]; exact putVa_size _ _ hfs.1
        have y2 : s2.size ≤ s1.size + 620 := by rw [← hs2]; exact putVa_size _ _ hfs.2
        have A3 := Lib.hid (fun w => rputVa s x.f hfs.1 s1 hs1 (by omega) w)
        have A4 := Lib.hid (fun w => rputVa s1 x.t hfs.2 s2 hs2 (by omega) w)
        have HN := Lib.hid (show putTbL b T (t + 1) = s2 by rw [hst]; unfold putPa; rw [hs1, hs2])
        have hz2 : s2.size ≤ 5020 + (t + 1) * 1240 := by omega
        have hka := (Kept.refl wr).alloc #[.int .i64 x.f.k, .int .i64 x.f.n, .string x.f.t, .int .i64 x.t.k, .int .i64 x.t.n, .string x.t.t] 44
        have HE := Lib.hid (PaB.new wr x 44)
        obtain ⟨W1, hW1⟩ : ∃ W1, wr.alloc (.cells #[.int .i64 x.f.k, .int .i64 x.f.n, .string x.f.t, .int .i64 x.t.k, .int .i64 x.t.n, .string x.t.t] 44) = W1 := ⟨_, rfl⟩
        have HKA := Lib.hid (HKR.out.trans hka)
        rw [hW1] at HKA HE
        have HW1 := Lib.hid hW1
        clear EX hx hka hW1 hst hfs hs1 hs2 y1 y2
        go_wp2_with fail
        rw [HW1.out]
        clear x0 x1 x2 x3 x4 x5
        have E0 := KExt.cell HE.out.c0; have E1 := KExt.cell HE.out.c1; have E2 := KExt.cell HE.out.c2; have E3 := KExt.cell HE.out.c3; have E4 := KExt.cell HE.out.c4; have E5 := KExt.cell HE.out.c5
        refine region_kept _ (by kernel_rfl) (by kernel_rfl) (Kept.refl _) ?_
        repeat (go_big_quiet_step ((first
          | (go_at_call 51; (with_reducible exact KExt.calls (A3.out _)))
          | (go_at_call 51; (with_reducible exact KExt.calls (A4.out _)))
          | fail)))
        refine wpQuiet_nil ?_
        intro G
        clear E0 E1 E2 E3 E4 E5
        go_wp2_with fail
        go_roundw
        case rel => exact ⟨t + 1, s2, hlt, by go_num, rfl, HN.out, hz2, HKA.out.trans G.g⟩
        case measure => simp [intOf]; omega
      · obtain rfl : t = n := by omega
        replace HT := Lib.hid (HT.out.kept HKR.out)
        obtain ⟨s1, hs1⟩ : ∃ c, putVa s T.d = c := ⟨_, rfl⟩
        obtain ⟨s2, hs2⟩ : ∃ c, putVa s1 T.b = c := ⟨_, rfl⟩
        have y1 : s1.size ≤ s.size + 620 := by rw [← hs1]; exact putVa_size _ _ HS.out.d
        have A3 := Lib.hid (fun w => rputVa s T.d HS.out.d s1 hs1 (by omega) w)
        have A4 := Lib.hid (fun w => rputVa s1 T.b HS.out.b s2 hs2 (by omega) w)
        have HF := Lib.hid (show s2 = r by rw [← HR.out]; unfold putTb putPa; rw [← HNL.out, HSS.out, hs1, hs2])
        clear hs1 hs2 y1
        go_wp2_with fail
        have T2 := KExt.cell HT.out.c2; have T3 := KExt.cell HT.out.c3; have T4 := KExt.cell HT.out.c4; have T5 := KExt.cell HT.out.c5; have T6 := KExt.cell HT.out.c6; have T7 := KExt.cell HT.out.c7
        refine region_kept _ (by kernel_rfl) (by kernel_rfl) (Kept.refl _) ?_
        repeat (go_big_quiet_step ((first
          | (go_at_call 51; (with_reducible exact KExt.calls (A3.out _)))
          | (go_at_call 51; (with_reducible exact KExt.calls (A4.out _)))
          | fail)))
        refine wpQuiet_nil ?_
        intro G
        go_wp2_with fail
        go_ret
        exact ⟨ret_str HF.out, (HK.out.trans HKR.out).trans G.g⟩
  · have HM := Lib.hid (show marksT T = 1 by unfold marksT; rw [hkp, htu]; rfl)
    rw [hkp] at t1
    rw [htu] at t8
    rw [hkp, htu] at HUU ⊢
    clear hkp htu
    obtain ⟨b1, hb1⟩ : ∃ c, b ++ putS 1 = c := ⟨_, rfl⟩
    obtain ⟨b2, hb2⟩ : ∃ c, b1 ++ putS n = c := ⟨_, rfl⟩
    have z1 : b1.size ≤ 5010 := by have := putS_size 1; have := HZB.out; rw [← hb1, ByteArray.size_append]; omega
    have z2 : b2.size ≤ 5020 := by have := putS_size n; rw [← hb2, ByteArray.size_append]; omega
    have A1 := Lib.hid (fun w => rput9m b 1 1 rfl w (by decide) (by have := HZB.out; omega))
    have A2 := Lib.hid (fun w => rput9m b1 n n rfl w (by omega) (by omega))
    rw [hb1] at A1
    rw [hb2] at A2
    have HB2 := Lib.hid (show putTbL b T 0 = b2 by rw [putTb_zero, HM.out, ← HNL.out, hb1, hb2])
    clear hb1 hb2 z1
    go_enter Tryd.func23, Tryd.ntmps23
    go_wp2_with fail
    rw [HUU.out]
    clear t0 t1 t2 t3 t4 t5 t6 t7 t8 o1 o2 o3
    have T0 := KExt.cell HT.out.c0
    refine region_kept _ (by kernel_rfl) (by kernel_rfl) (Kept.refl _) ?_
    repeat (go_big_quiet_step ((first
      | (go_at_call 50; (with_reducible exact KExt.calls (A1.out _)))
      | (go_at_call 50; (with_reducible exact KExt.calls (A2.out _)))
      | fail)))
    refine wpQuiet_nil ?_
    intro G
    obtain ⟨V, hV⟩ : ∃ V, G.w = V := ⟨_, rfl⟩
    have hkz := G.g
    rw [hV] at hkz ⊢
    replace HK := Lib.hid (HK.out.trans hkz); replace HT := Lib.hid (HT.out.kept hkz); replace HH := Lib.hid (HH.out.kept hkz)
    clear hV hkz G T0 A1 A2 hwr
    have t0 := HT.out.c0
    go_wp2_with fail
    clear t0
    go_loopw [0, 27] (fun v i wr => ∃ (t : Nat) (s : ByteArray), t ≤ n ∧ i = .int .i64 t ∧ v = .string s ∧ putTbL b T t = s ∧ s.size ≤ 5020 + t * 1240 ∧ Kept V wr) (fun _ i _ => n - (intOf i).toNat)
    case atStart => exact ⟨0, b2, Nat.zero_le _, rfl, rfl, HB2.out, by omega, Kept.refl _⟩
    case round =>
      obtain ⟨t, s, ht, rfl, rfl, hss, hsz, hkr⟩ := hrel
      have HSS := Lib.hid hss; have HKR := Lib.hid hkr
      clear hss hkr
      by_cases hlt : t < n
      · obtain ⟨g, o, x, rfl, hx, EX⟩ := (HH.out.kept HKR.out).get hlt
        have x0 := EX.c0; have x1 := EX.c1; have x2 := EX.c2; have x3 := EX.c3; have x4 := EX.c4; have x5 := EX.c5
        have hst := putTb_step (b := b) hx
        rw [HSS.out] at hst
        have hfs := HS.out.L x (List.mem_of_getElem? hx)
        obtain ⟨s1, hs1⟩ : ∃ c, putVa s x.f = c := ⟨_, rfl⟩
        obtain ⟨s2, hs2⟩ : ∃ c, putVa s1 x.t = c := ⟨_, rfl⟩
        have y1 : s1.size ≤ s.size + 620 := by rw [← hs1]; exact putVa_size _ _ hfs.1
        have y2 : s2.size ≤ s1.size + 620 := by rw [← hs2]; exact putVa_size _ _ hfs.2
        have A3 := Lib.hid (fun w => rputVa s x.f hfs.1 s1 hs1 (by omega) w)
        have A4 := Lib.hid (fun w => rputVa s1 x.t hfs.2 s2 hs2 (by omega) w)
        have HN := Lib.hid (show putTbL b T (t + 1) = s2 by rw [hst]; unfold putPa; rw [hs1, hs2])
        have hz2 : s2.size ≤ 5020 + (t + 1) * 1240 := by omega
        have hka := (Kept.refl wr).alloc #[.int .i64 x.f.k, .int .i64 x.f.n, .string x.f.t, .int .i64 x.t.k, .int .i64 x.t.n, .string x.t.t] 44
        have HE := Lib.hid (PaB.new wr x 44)
        obtain ⟨W1, hW1⟩ : ∃ W1, wr.alloc (.cells #[.int .i64 x.f.k, .int .i64 x.f.n, .string x.f.t, .int .i64 x.t.k, .int .i64 x.t.n, .string x.t.t] 44) = W1 := ⟨_, rfl⟩
        have HKA := Lib.hid (HKR.out.trans hka)
        rw [hW1] at HKA HE
        have HW1 := Lib.hid hW1
        clear EX hx hka hW1 hst hfs hs1 hs2 y1 y2
        go_wp2_with fail
        rw [HW1.out]
        clear x0 x1 x2 x3 x4 x5
        have E0 := KExt.cell HE.out.c0; have E1 := KExt.cell HE.out.c1; have E2 := KExt.cell HE.out.c2; have E3 := KExt.cell HE.out.c3; have E4 := KExt.cell HE.out.c4; have E5 := KExt.cell HE.out.c5
        refine region_kept _ (by kernel_rfl) (by kernel_rfl) (Kept.refl _) ?_
        repeat (go_big_quiet_step ((first
          | (go_at_call 51; (with_reducible exact KExt.calls (A3.out _)))
          | (go_at_call 51; (with_reducible exact KExt.calls (A4.out _)))
          | fail)))
        refine wpQuiet_nil ?_
        intro G
        clear E0 E1 E2 E3 E4 E5
        go_wp2_with fail
        go_roundw
        case rel => exact ⟨t + 1, s2, hlt, by go_num, rfl, HN.out, hz2, HKA.out.trans G.g⟩
        case measure => simp [intOf]; omega
      · obtain rfl : t = n := by omega
        replace HT := Lib.hid (HT.out.kept HKR.out)
        obtain ⟨s1, hs1⟩ : ∃ c, putVa s T.d = c := ⟨_, rfl⟩
        obtain ⟨s2, hs2⟩ : ∃ c, putVa s1 T.b = c := ⟨_, rfl⟩
        have y1 : s1.size ≤ s.size + 620 := by rw [← hs1]; exact putVa_size _ _ HS.out.d
        have A3 := Lib.hid (fun w => rputVa s T.d HS.out.d s1 hs1 (by omega) w)
        have A4 := Lib.hid (fun w => rputVa s1 T.b HS.out.b s2 hs2 (by omega) w)
        have HF := Lib.hid (show s2 = r by rw [← HR.out]; unfold putTb putPa; rw [← HNL.out, HSS.out, hs1, hs2])
        clear hs1 hs2 y1
        go_wp2_with fail
        have T2 := KExt.cell HT.out.c2; have T3 := KExt.cell HT.out.c3; have T4 := KExt.cell HT.out.c4; have T5 := KExt.cell HT.out.c5; have T6 := KExt.cell HT.out.c6; have T7 := KExt.cell HT.out.c7
        refine region_kept _ (by kernel_rfl) (by kernel_rfl) (Kept.refl _) ?_
        repeat (go_big_quiet_step ((first
          | (go_at_call 51; (with_reducible exact KExt.calls (A3.out _)))
          | (go_at_call 51; (with_reducible exact KExt.calls (A4.out _)))
          | fail)))
        refine wpQuiet_nil ?_
        intro G
        go_wp2_with fail
        go_ret
        exact ⟨ret_str HF.out, (HK.out.trans HKR.out).trans G.g⟩
  · have HM := Lib.hid (show marksT T = 2 by unfold marksT; rw [hkp, htu]; rfl)
    rw [hkp] at t1
    rw [htu] at t8
    rw [hkp, htu] at HUU ⊢
    clear hkp htu
    obtain ⟨b1, hb1⟩ : ∃ c, b ++ putS 2 = c := ⟨_, rfl⟩
    obtain ⟨b2, hb2⟩ : ∃ c, b1 ++ putS n = c := ⟨_, rfl⟩
    have z1 : b1.size ≤ 5010 := by have := putS_size 2; have := HZB.out; rw [← hb1, ByteArray.size_append]; omega
    have z2 : b2.size ≤ 5020 := by have := putS_size n; rw [← hb2, ByteArray.size_append]; omega
    have A1 := Lib.hid (fun w => rput9m b 2 2 rfl w (by decide) (by have := HZB.out; omega))
    have A2 := Lib.hid (fun w => rput9m b1 n n rfl w (by omega) (by omega))
    rw [hb1] at A1
    rw [hb2] at A2
    have HB2 := Lib.hid (show putTbL b T 0 = b2 by rw [putTb_zero, HM.out, ← HNL.out, hb1, hb2])
    clear hb1 hb2 z1
    go_enter Tryd.func23, Tryd.ntmps23
    go_wp2_with fail
    rw [HUU.out]
    clear t0 t1 t2 t3 t4 t5 t6 t7 t8 o1 o2 o3
    have T0 := KExt.cell HT.out.c0
    refine region_kept _ (by kernel_rfl) (by kernel_rfl) (Kept.refl _) ?_
    repeat (go_big_quiet_step ((first
      | (go_at_call 50; (with_reducible exact KExt.calls (A1.out _)))
      | (go_at_call 50; (with_reducible exact KExt.calls (A2.out _)))
      | fail)))
    refine wpQuiet_nil ?_
    intro G
    obtain ⟨V, hV⟩ : ∃ V, G.w = V := ⟨_, rfl⟩
    have hkz := G.g
    rw [hV] at hkz ⊢
    replace HK := Lib.hid (HK.out.trans hkz); replace HT := Lib.hid (HT.out.kept hkz); replace HH := Lib.hid (HH.out.kept hkz)
    clear hV hkz G T0 A1 A2 hwr
    have t0 := HT.out.c0
    go_wp2_with fail
    clear t0
    go_loopw [0, 27] (fun v i wr => ∃ (t : Nat) (s : ByteArray), t ≤ n ∧ i = .int .i64 t ∧ v = .string s ∧ putTbL b T t = s ∧ s.size ≤ 5020 + t * 1240 ∧ Kept V wr) (fun _ i _ => n - (intOf i).toNat)
    case atStart => exact ⟨0, b2, Nat.zero_le _, rfl, rfl, HB2.out, by omega, Kept.refl _⟩
    case round =>
      obtain ⟨t, s, ht, rfl, rfl, hss, hsz, hkr⟩ := hrel
      have HSS := Lib.hid hss; have HKR := Lib.hid hkr
      clear hss hkr
      by_cases hlt : t < n
      · obtain ⟨g, o, x, rfl, hx, EX⟩ := (HH.out.kept HKR.out).get hlt
        have x0 := EX.c0; have x1 := EX.c1; have x2 := EX.c2; have x3 := EX.c3; have x4 := EX.c4; have x5 := EX.c5
        have hst := putTb_step (b := b) hx
        rw [HSS.out] at hst
        have hfs := HS.out.L x (List.mem_of_getElem? hx)
        obtain ⟨s1, hs1⟩ : ∃ c, putVa s x.f = c := ⟨_, rfl⟩
        obtain ⟨s2, hs2⟩ : ∃ c, putVa s1 x.t = c := ⟨_, rfl⟩
        have y1 : s1.size ≤ s.size + 620 := by rw [← hs1]; exact putVa_size _ _ hfs.1
        have y2 : s2.size ≤ s1.size + 620 := by rw [← hs2]; exact putVa_size _ _ hfs.2
        have A3 := Lib.hid (fun w => rputVa s x.f hfs.1 s1 hs1 (by omega) w)
        have A4 := Lib.hid (fun w => rputVa s1 x.t hfs.2 s2 hs2 (by omega) w)
        have HN := Lib.hid (show putTbL b T (t + 1) = s2 by rw [hst]; unfold putPa; rw [hs1, hs2])
        have hz2 : s2.size ≤ 5020 + (t + 1) * 1240 := by omega
        have hka := (Kept.refl wr).alloc #[.int .i64 x.f.k, .int .i64 x.f.n, .string x.f.t, .int .i64 x.t.k, .int .i64 x.t.n, .string x.t.t] 44
        have HE := Lib.hid (PaB.new wr x 44)
        obtain ⟨W1, hW1⟩ : ∃ W1, wr.alloc (.cells #[.int .i64 x.f.k, .int .i64 x.f.n, .string x.f.t, .int .i64 x.t.k, .int .i64 x.t.n, .string x.t.t] 44) = W1 := ⟨_, rfl⟩
        have HKA := Lib.hid (HKR.out.trans hka)
        rw [hW1] at HKA HE
        have HW1 := Lib.hid hW1
        clear EX hx hka hW1 hst hfs hs1 hs2 y1 y2
        go_wp2_with fail
        rw [HW1.out]
        clear x0 x1 x2 x3 x4 x5
        have E0 := KExt.cell HE.out.c0; have E1 := KExt.cell HE.out.c1; have E2 := KExt.cell HE.out.c2; have E3 := KExt.cell HE.out.c3; have E4 := KExt.cell HE.out.c4; have E5 := KExt.cell HE.out.c5
        refine region_kept _ (by kernel_rfl) (by kernel_rfl) (Kept.refl _) ?_
        repeat (go_big_quiet_step ((first
          | (go_at_call 51; (with_reducible exact KExt.calls (A3.out _)))
          | (go_at_call 51; (with_reducible exact KExt.calls (A4.out _)))
          | fail)))
        refine wpQuiet_nil ?_
        intro G
        clear E0 E1 E2 E3 E4 E5
        go_wp2_with fail
        go_roundw
        case rel => exact ⟨t + 1, s2, hlt, by go_num, rfl, HN.out, hz2, HKA.out.trans G.g⟩
        case measure => simp [intOf]; omega
      · obtain rfl : t = n := by omega
        replace HT := Lib.hid (HT.out.kept HKR.out)
        obtain ⟨s1, hs1⟩ : ∃ c, putVa s T.d = c := ⟨_, rfl⟩
        obtain ⟨s2, hs2⟩ : ∃ c, putVa s1 T.b = c := ⟨_, rfl⟩
        have y1 : s1.size ≤ s.size + 620 := by rw [← hs1]; exact putVa_size _ _ HS.out.d
        have A3 := Lib.hid (fun w => rputVa s T.d HS.out.d s1 hs1 (by omega) w)
        have A4 := Lib.hid (fun w => rputVa s1 T.b HS.out.b s2 hs2 (by omega) w)
        have HF := Lib.hid (show s2 = r by rw [← HR.out]; unfold putTb putPa; rw [← HNL.out, HSS.out, hs1, hs2])
        clear hs1 hs2 y1
        go_wp2_with fail
        have T2 := KExt.cell HT.out.c2; have T3 := KExt.cell HT.out.c3; have T4 := KExt.cell HT.out.c4; have T5 := KExt.cell HT.out.c5; have T6 := KExt.cell HT.out.c6; have T7 := KExt.cell HT.out.c7
        refine region_kept _ (by kernel_rfl) (by kernel_rfl) (Kept.refl _) ?_
        repeat (go_big_quiet_step ((first
          | (go_at_call 51; (with_reducible exact KExt.calls (A3.out _)))
          | (go_at_call 51; (with_reducible exact KExt.calls (A4.out _)))
          | fail)))
        refine wpQuiet_nil ?_
        intro G
        go_wp2_with fail
        go_ret
        exact ⟨ret_str HF.out, (HK.out.trans HKR.out).trans G.g⟩
  · have HM := Lib.hid (show marksT T = 0 by unfold marksT; rw [hkp, htu]; rfl)
    rw [hkp] at t1
    rw [htu] at t8
    rw [hkp, htu] at HUU ⊢
    clear hkp htu
    obtain ⟨b1, hb1⟩ : ∃ c, b ++ putS 0 = c := ⟨_, rfl⟩
    obtain ⟨b2, hb2⟩ : ∃ c, b1 ++ putS n = c := ⟨_, rfl⟩
    have z1 : b1.size ≤ 5010 := by have := putS_size 0; have := HZB.out; rw [← hb1, ByteArray.size_append]; omega
    have z2 : b2.size ≤ 5020 := by have := putS_size n; rw [← hb2, ByteArray.size_append]; omega
    have A1 := Lib.hid (fun w => rput9m b 0 0 rfl w (by decide) (by have := HZB.out; omega))
    have A2 := Lib.hid (fun w => rput9m b1 n n rfl w (by omega) (by omega))
    rw [hb1] at A1
    rw [hb2] at A2
    have HB2 := Lib.hid (show putTbL b T 0 = b2 by rw [putTb_zero, HM.out, ← HNL.out, hb1, hb2])
    clear hb1 hb2 z1
    go_enter Tryd.func23, Tryd.ntmps23
    go_wp2_with fail
    rw [HUU.out]
    clear t0 t1 t2 t3 t4 t5 t6 t7 t8 o1 o2 o3
    have T0 := KExt.cell HT.out.c0
    refine region_kept _ (by kernel_rfl) (by kernel_rfl) (Kept.refl _) ?_
    repeat (go_big_quiet_step ((first
      | (go_at_call 50; (with_reducible exact KExt.calls (A1.out _)))
      | (go_at_call 50; (with_reducible exact KExt.calls (A2.out _)))
      | fail)))
    refine wpQuiet_nil ?_
    intro G
    obtain ⟨V, hV⟩ : ∃ V, G.w = V := ⟨_, rfl⟩
    have hkz := G.g
    rw [hV] at hkz ⊢
    replace HK := Lib.hid (HK.out.trans hkz); replace HT := Lib.hid (HT.out.kept hkz); replace HH := Lib.hid (HH.out.kept hkz)
    clear hV hkz G T0 A1 A2 hwr
    have t0 := HT.out.c0
    go_wp2_with fail
    clear t0
    go_loopw [0, 27] (fun v i wr => ∃ (t : Nat) (s : ByteArray), t ≤ n ∧ i = .int .i64 t ∧ v = .string s ∧ putTbL b T t = s ∧ s.size ≤ 5020 + t * 1240 ∧ Kept V wr) (fun _ i _ => n - (intOf i).toNat)
    case atStart => exact ⟨0, b2, Nat.zero_le _, rfl, rfl, HB2.out, by omega, Kept.refl _⟩
    case round =>
      obtain ⟨t, s, ht, rfl, rfl, hss, hsz, hkr⟩ := hrel
      have HSS := Lib.hid hss; have HKR := Lib.hid hkr
      clear hss hkr
      by_cases hlt : t < n
      · obtain ⟨g, o, x, rfl, hx, EX⟩ := (HH.out.kept HKR.out).get hlt
        have x0 := EX.c0; have x1 := EX.c1; have x2 := EX.c2; have x3 := EX.c3; have x4 := EX.c4; have x5 := EX.c5
        have hst := putTb_step (b := b) hx
        rw [HSS.out] at hst
        have hfs := HS.out.L x (List.mem_of_getElem? hx)
        obtain ⟨s1, hs1⟩ : ∃ c, putVa s x.f = c := ⟨_, rfl⟩
        obtain ⟨s2, hs2⟩ : ∃ c, putVa s1 x.t = c := ⟨_, rfl⟩
        have y1 : s1.size ≤ s.size + 620 := by rw [← hs1]; exact putVa_size _ _ hfs.1
        have y2 : s2.size ≤ s1.size + 620 := by rw [← hs2]; exact putVa_size _ _ hfs.2
        have A3 := Lib.hid (fun w => rputVa s x.f hfs.1 s1 hs1 (by omega) w)
        have A4 := Lib.hid (fun w => rputVa s1 x.t hfs.2 s2 hs2 (by omega) w)
        have HN := Lib.hid (show putTbL b T (t + 1) = s2 by rw [hst]; unfold putPa; rw [hs1, hs2])
        have hz2 : s2.size ≤ 5020 + (t + 1) * 1240 := by omega
        have hka := (Kept.refl wr).alloc #[.int .i64 x.f.k, .int .i64 x.f.n, .string x.f.t, .int .i64 x.t.k, .int .i64 x.t.n, .string x.t.t] 44
        have HE := Lib.hid (PaB.new wr x 44)
        obtain ⟨W1, hW1⟩ : ∃ W1, wr.alloc (.cells #[.int .i64 x.f.k, .int .i64 x.f.n, .string x.f.t, .int .i64 x.t.k, .int .i64 x.t.n, .string x.t.t] 44) = W1 := ⟨_, rfl⟩
        have HKA := Lib.hid (HKR.out.trans hka)
        rw [hW1] at HKA HE
        have HW1 := Lib.hid hW1
        clear EX hx hka hW1 hst hfs hs1 hs2 y1 y2
        go_wp2_with fail
        rw [HW1.out]
        clear x0 x1 x2 x3 x4 x5
        have E0 := KExt.cell HE.out.c0; have E1 := KExt.cell HE.out.c1; have E2 := KExt.cell HE.out.c2; have E3 := KExt.cell HE.out.c3; have E4 := KExt.cell HE.out.c4; have E5 := KExt.cell HE.out.c5
        refine region_kept _ (by kernel_rfl) (by kernel_rfl) (Kept.refl _) ?_
        repeat (go_big_quiet_step ((first
          | (go_at_call 51; (with_reducible exact KExt.calls (A3.out _)))
          | (go_at_call 51; (with_reducible exact KExt.calls (A4.out _)))
          | fail)))
        refine wpQuiet_nil ?_
        intro G
        clear E0 E1 E2 E3 E4 E5
        go_wp2_with fail
        go_roundw
        case rel => exact ⟨t + 1, s2, hlt, by go_num, rfl, HN.out, hz2, HKA.out.trans G.g⟩
        case measure => simp [intOf]; omega
      · obtain rfl : t = n := by omega
        replace HT := Lib.hid (HT.out.kept HKR.out)
        obtain ⟨s1, hs1⟩ : ∃ c, putVa s T.d = c := ⟨_, rfl⟩
        obtain ⟨s2, hs2⟩ : ∃ c, putVa s1 T.b = c := ⟨_, rfl⟩
        have y1 : s1.size ≤ s.size + 620 := by rw [← hs1]; exact putVa_size _ _ HS.out.d
        have A3 := Lib.hid (fun w => rputVa s T.d HS.out.d s1 hs1 (by omega) w)
        have A4 := Lib.hid (fun w => rputVa s1 T.b HS.out.b s2 hs2 (by omega) w)
        have HF := Lib.hid (show s2 = r by rw [← HR.out]; unfold putTb putPa; rw [← HNL.out, HSS.out, hs1, hs2])
        clear hs1 hs2 y1
        go_wp2_with fail
        have T2 := KExt.cell HT.out.c2; have T3 := KExt.cell HT.out.c3; have T4 := KExt.cell HT.out.c4; have T5 := KExt.cell HT.out.c5; have T6 := KExt.cell HT.out.c6; have T7 := KExt.cell HT.out.c7
        refine region_kept _ (by kernel_rfl) (by kernel_rfl) (Kept.refl _) ?_
        repeat (go_big_quiet_step ((first
          | (go_at_call 51; (with_reducible exact KExt.calls (A3.out _)))
          | (go_at_call 51; (with_reducible exact KExt.calls (A4.out _)))
          | fail)))
        refine wpQuiet_nil ?_
        intro G
        go_wp2_with fail
        go_ret
        exact ⟨ret_str HF.out, (HK.out.trans HKR.out).trans G.g⟩
end Go.Proofs.YtjcnjmlgedmmoaaDoor

namespace Go.Proofs.YtjcnjmlgedmmoaaDoor
open Go.RowKit
set_option linter.unusedVariables false

/-- The sizes of texts that a machine can hold. -/
structure HoldT (T : Tb) : Prop where
  L : ∀ p ∈ T.L, p.f.t.size ≤ 140737488355328 ∧ p.t.t.size ≤ 140737488355328
  d : T.d.t.size ≤ 140737488355328
  b : T.b.t.size ≤ 140737488355328
/-- What a law goes through. -/
structure ShortT (T : Tb) : Prop where
  L : ∀ p ∈ T.L, p.f.t.size + p.t.t.size ≤ 600
  few : T.L.length ≤ 20
  db : T.d.t.size + T.b.t.size ≤ 600
set_option maxRecDepth 100000 in
set_option maxHeartbeats 8000000 in
theorem hlong_any (A : Option Addr) (n c : Nat) (T : Tb) (w : World) (h : Pal w A n c T.L) (hz : HoldT T) (r : Bool) (hr : r = true ↔ ¬ ShortT T) :
    Calls Tryd.prog 7 #[.agg #[.slice A n c, .bool T.keep, .int .i64 T.d.k, .int .i64 T.d.n, .string T.d.t, .int .i64 T.b.k, .int .i64 T.b.n, .string T.b.t, .bool T.tu]] w fun e w' => e = .returned (.bool r) ∧ Kept w w' := by
  have hk := (Kept.refl w).alloc #[.slice A n c, .bool T.keep, .int .i64 T.d.k, .int .i64 T.d.n, .string T.d.t, .int .i64 T.b.k, .int .i64 T.b.n, .string T.b.t, .bool T.tu] 26
  have hcap := h.cap.1; have hcap2 := h.cap.2
  have HNL := Lib.hid h.1; have HSZ := Lib.hid hz; have HR := Lib.hid hr
  have HT := Lib.hid (TabB.new w A n c T 26)
  have HH := Lib.hid (h.kept hk)
  obtain ⟨U, hU⟩ : ∃ U, w.alloc (.cells #[.slice A n c, .bool T.keep, .int .i64 T.d.k, .int .i64 T.d.n, .string T.d.t, .int .i64 T.b.k, .int .i64 T.b.n, .string T.b.t, .bool T.tu] 26) = U := ⟨_, rfl⟩
  rw [hU] at hk HT HH
  have HK := Lib.hid hk; have HUU := Lib.hid hU
  have t0 := HT.out.c0
  clear h hz hr hk hU
  go_enter Tryd.func7, Tryd.ntmps7
  go_wp2_with fail
  rw [HUU.out]
  go_wp2_with fail
  clear t0
  go_loopw [8] (fun i wr => ∃ t : Nat, t ≤ n ∧ i = .int .i64 t ∧ Kept U wr ∧ ∀ p ∈ T.L.take t, p.f.t.size + p.t.t.size ≤ 600) (fun i _ => n - (intOf i).toNat)
  case atStart => exact ⟨0, Nat.zero_le _, rfl, Kept.refl _, fun p hp => by simp at hp⟩
  case round =>
    obtain ⟨t, ht, rfl, hkr, hall⟩ := hrel
    have HKR := Lib.hid hkr; have HA := Lib.hid hall
    clear hkr hall
    by_cases hlt : t < n
    · obtain ⟨g, o, x, rfl, hx, EX⟩ := (HH.out.kept HKR.out).get hlt
      have x0 := EX.c0; have x1 := EX.c1; have x2 := EX.c2; have x3 := EX.c3; have x4 := EX.c4; have x5 := EX.c5
      have HXX := Lib.hid hx
      have hka := (Kept.refl wr).alloc #[.int .i64 x.f.k, .int .i64 x.f.n, .string x.f.t, .int .i64 x.t.k, .int .i64 x.t.n, .string x.t.t] 44
      have hsx := HSZ.out.L x (List.mem_of_getElem? hx)
      have hs1 := hsx.1; have hs2 := hsx.2
      have HKA := Lib.hid (HKR.out.trans hka)
      obtain ⟨m, hm⟩ : ∃ m, x.f.t.size + x.t.t.size = m := ⟨_, rfl⟩
      have hwr : IntKind.i64.wrap ((x.f.t.size : Int) + (x.t.t.size : Int)) = (m : Int) := by rw [IntWalk.i64_in _ (by omega)]; omega
      have HM := Lib.hid hm
      clear EX hx hka hsx hm hs1 hs2
      by_cases h1 : 600 < m
      · have f1 : decide ((600 : Int) < (m : Int)) = true := decide_eq_true (by omega)
        have f2 : decide (600 < m) = true := decide_eq_true h1
        have HF := Lib.hid (show true = r from (HR.out.2 fun hs => by have := hs.L x (List.mem_of_getElem? HXX.out); have := HM.out; omega).symm)
        clear h1
        go_wp2_with fail
        go_ret
        exact ⟨ret_bool HF.out, HK.out.trans HKA.out⟩
      · have f1 : decide ((600 : Int) < (m : Int)) = false := decide_eq_false (by omega)
        have f2 : decide (600 < m) = false := decide_eq_false h1
        have HN := Lib.hid (show ∀ p ∈ T.L.take (t + 1), p.f.t.size + p.t.t.size ≤ 600 from fun p hp => by
          rw [List.take_add_one, HXX.out, Option.toList_some, List.mem_append, List.mem_singleton] at hp
          rcases hp with hp | rfl
          · exact HA.out p hp
          · have := HM.out; omega)
        clear h1
        go_wp2_with fail
        go_roundw
        case rel => exact ⟨t + 1, hlt, by go_num, HKA.out, HN.out⟩
        case measure => simp [intOf]; omega
    · obtain rfl : t = n := by omega
      have HALL := Lib.hid (show ∀ p ∈ T.L, p.f.t.size + p.t.t.size ≤ 600 from fun p hp => HA.out p (by rw [List.take_of_length_le (by rw [← HNL.out]; exact Nat.le_refl _)]; exact hp))
      have hT2 := HT.out.kept HKR.out
      have t0 := hT2.c0; have t4 := hT2.c4; have t7 := hT2.c7
      have hd := HSZ.out.d; have hb := HSZ.out.b
      obtain ⟨m, hm⟩ : ∃ m, T.d.t.size + T.b.t.size = m := ⟨_, rfl⟩
      have hwr : IntKind.i64.wrap ((T.d.t.size : Int) + (T.b.t.size : Int)) = (m : Int) := by rw [IntWalk.i64_in _ (by omega)]; omega
      have HM := Lib.hid hm
      clear hT2 hm hd hb
      by_cases h1 : 20 < t
      · have f1 : decide ((20 : Int) < (t : Int)) = true := decide_eq_true (by omega)
        have f2 : decide (20 < t) = true := decide_eq_true h1
        have HF := Lib.hid (show true = r from (HR.out.2 fun hs => by have := hs.few; have := HNL.out; omega).symm)
        clear h1
        go_wp2_with fail
        go_ret
        exact ⟨ret_bool HF.out, HK.out.trans HKR.out⟩
      · have f1 : decide ((20 : Int) < (t : Int)) = false := decide_eq_false (by omega)
        have f2 : decide (20 < t) = false := decide_eq_false h1
        by_cases h2 : 600 < m
        · have f3 : decide ((600 : Int) < (m : Int)) = true := decide_eq_true (by omega)
          have f4 : decide (600 < m) = true := decide_eq_true h2
          have HF := Lib.hid (show true = r from (HR.out.2 fun hs => by have := hs.db; have := HM.out; omega).symm)
          clear h1 h2
          go_wp2_with fail
          go_ret
          exact ⟨ret_bool HF.out, HK.out.trans HKR.out⟩
        · have f3 : decide ((600 : Int) < (m : Int)) = false := decide_eq_false (by omega)
          have f4 : decide (600 < m) = false := decide_eq_false h2
          have HF := Lib.hid (show false = r by
            rw [eq_comm, ← Bool.not_eq_true, HR.out, Classical.not_not]
            exact ⟨HALL.out, by have := HNL.out; omega, by have := HM.out; omega⟩)
          clear h1 h2
          go_wp2_with fail
          go_ret
          exact ⟨ret_bool HF.out, HK.out.trans HKR.out⟩
theorem hint_any (k : Int) (w : World) : Calls Tryd.prog 26 #[.int .i64 k] w fun e w' => e = .returned (.agg #[.int .i64 1, .int .i64 k, .string ⟨#[]⟩]) ∧ Kept w w' := by
  have HK := Lib.hid ((Kept.refl w).alloc #[.int .i64 1, .int .i64 k, .string ⟨#[]⟩] 24)
  go_enter Tryd.func26, Tryd.ntmps26
  go_wp2_with fail
  exact bodyPost_ret (by simp [results, Tryd.results26, go_sem]) rfl ⟨rfl, HK.out⟩
end Go.Proofs.YtjcnjmlgedmmoaaDoor

namespace Go.Proofs.YtjcnjmlgedmmoaaDoor
open Go.RowKit
set_option linter.unusedVariables false

/-- Tables that package table's contracts speak of. -/
structure SzT (T : Tb) : Prop where
  L : SzP T.L
  d : T.d.t.size ≤ 1099511627776
  b : T.b.t.size ≤ 1099511627776
  few : T.L.length ≤ 1000
theorem ShortT.szT {T : Tb} (h : ShortT T) : SzT T :=
  ⟨fun p hp => by have := h.L p hp; omega, by have := h.db; omega, by have := h.db; omega, by have := h.few; omega⟩
theorem SzT.turn {T : Tb} (h : SzT T) : SzT (turnT T) := ⟨h.L, h.d, h.b, h.few⟩
/-- P13.3: what Turn hands back: the pairs may lie in memory of their own. -/
def TurnS (n : Nat) (T : Tb) (w : World) (e : Ending) (w' : World) : Prop :=
  ∃ A c, e = .returned (.agg #[.slice A n c, .bool T.keep, .int .i64 T.d.k, .int .i64 T.d.n, .string T.d.t, .int .i64 T.b.k, .int .i64 T.b.n, .string T.b.t, .bool (!T.tu)]) ∧ Pal w' A n c T.L ∧ Kept w w'
end Go.Proofs.YtjcnjmlgedmmoaaDoor

