/-
  What is proved: the document's Take of layer 13 (P13.7), called with any text of up to 100000 bytes, returns what that says; the world has new blocks at most.
-/
import Derived.Test.YtjcnjmlgedmmoaaDoorM11
import Derived.Test.YtjcnjmlgedmmoaaDoorM19
namespace Go.Proofs.YtjcnjmlgedmmoaaDoor
open Go.RowKit
set_option linter.unusedVariables false

set_option maxRecDepth 100000 in
set_option maxHeartbeats 8000000 in
theorem rttake_any (s : ByteArray) (w : World) (hs : s.size ≤ 100000) :
    Calls Tryd.prog 10 #[.string s] w (TakH s w) := by
  have HRES := Lib.hid (TabZ.new w false false 26)
  have HK := Lib.hid ((Kept.refl w).alloc #[.slice none 0 0, .bool false, .int .i64 0, .int .i64 0, .string ⟨#[]⟩, .int .i64 0, .int .i64 0, .string ⟨#[]⟩, .bool false] 26)
  have hrs := tkR_size s
  by_cases h0 : tkE s ≠ 0
  · obtain ⟨z, hz⟩ : ∃ z : Nat, tkE s = z := ⟨_, rfl⟩
    have f1' : ((z : Int) == 0) = false := by simp; omega
    have f2' : ((z : Int) != 0) = true := by simp; omega
    have HTE := Lib.hid (show ttbL s = (.none, ⟨#[]⟩, z) by unfold ttbL; rw [if_pos h0, hz])
    have A1 := Lib.hid (fun w => rtake_c s _ _ (z : Int) rfl rfl (by omega) hs w)
    clear h0 hz hs hrs
    go_enter Tryd.func10, Tryd.ntmps10
    go_wp2_with fail
    go_at_call 29
    refine (A1.out _).mono ?_
    rintro e w1 ⟨rfl, hg⟩
    have hk := kept_of hg
    replace HK := Lib.hid (HK.out.trans hk); replace HRES := Lib.hid (HRES.out.kept hk)
    clear hg hk
    have hr := HRES.out
    have rf := hr.f
    have r0 := hr.c0; have r1 := hr.c1; have r2 := hr.c2; have r3 := hr.c3; have r4 := hr.c4; have r5 := hr.c5; have r6 := hr.c6; have r7 := hr.c7; have r8 := hr.c8
    clear hr
    have HF := Lib.hid (takH_err HTE.out (((((((((HK.out.setCell (a := ⟨w.heap.size, 0, none⟩) (Nat.le_refl _) (.slice none 0 0)).setCell (a := ⟨w.heap.size, 1, none⟩) (Nat.le_refl _) (.bool false)).setCell (a := ⟨w.heap.size, 2, none⟩) (Nat.le_refl _) (.int .i64 0)).setCell (a := ⟨w.heap.size, 3, none⟩) (Nat.le_refl _) (.int .i64 0)).setCell (a := ⟨w.heap.size, 4, none⟩) (Nat.le_refl _) (.string ⟨#[]⟩)).setCell (a := ⟨w.heap.size, 5, none⟩) (Nat.le_refl _) (.int .i64 0)).setCell (a := ⟨w.heap.size, 6, none⟩) (Nat.le_refl _) (.int .i64 0)).setCell (a := ⟨w.heap.size, 7, none⟩) (Nat.le_refl _) (.string ⟨#[]⟩)).setCell (a := ⟨w.heap.size, 8, none⟩) (Nat.le_refl _) (.bool false)))
    go_wp2_with fail
    exact bodyPost_ret (by simp [results, Tryd.results10, go_sem, *]) rfl HF.out
  · obtain ⟨a, ha⟩ : ∃ a, tkN s = a := ⟨_, rfl⟩
    by_cases ga : 3 < a
    · have A1 := Lib.hid (fun w => rtake_c s (a : Int) _ 0 (by rw [ha]) rfl (by omega) hs w)
      have g1 : decide ((3 : Int) < (a : Int)) = true := decide_eq_true (by omega)
      have g2 : decide (3 < a) = true := decide_eq_true (by omega)
      have HTE := Lib.hid (show ttbL s = (.none, ⟨#[]⟩, 3) by unfold ttbL; rw [if_neg h0, if_pos (by omega)])
      clear h0 ha ga hs hrs
      go_enter Tryd.func10, Tryd.ntmps10
      go_wp2_with fail
      go_at_call 29
      refine (A1.out _).mono ?_
      rintro e w1 ⟨rfl, hg⟩
      have hk := kept_of hg
      replace HK := Lib.hid (HK.out.trans hk); replace HRES := Lib.hid (HRES.out.kept hk)
      clear hg hk
      have hr := HRES.out
      have rf := hr.f
      have r0 := hr.c0; have r1 := hr.c1; have r2 := hr.c2; have r3 := hr.c3; have r4 := hr.c4; have r5 := hr.c5; have r6 := hr.c6; have r7 := hr.c7; have r8 := hr.c8
      clear hr
      have HF := Lib.hid (takH_err (z := 3) HTE.out (((((((((HK.out.setCell (a := ⟨w.heap.size, 0, none⟩) (Nat.le_refl _) (.slice none 0 0)).setCell (a := ⟨w.heap.size, 1, none⟩) (Nat.le_refl _) (.bool false)).setCell (a := ⟨w.heap.size, 2, none⟩) (Nat.le_refl _) (.int .i64 0)).setCell (a := ⟨w.heap.size, 3, none⟩) (Nat.le_refl _) (.int .i64 0)).setCell (a := ⟨w.heap.size, 4, none⟩) (Nat.le_refl _) (.string ⟨#[]⟩)).setCell (a := ⟨w.heap.size, 5, none⟩) (Nat.le_refl _) (.int .i64 0)).setCell (a := ⟨w.heap.size, 6, none⟩) (Nat.le_refl _) (.int .i64 0)).setCell (a := ⟨w.heap.size, 7, none⟩) (Nat.le_refl _) (.string ⟨#[]⟩)).setCell (a := ⟨w.heap.size, 8, none⟩) (Nat.le_refl _) (.bool false)))
      go_wp2_with fail
      exact bodyPost_ret (by simp [results, Tryd.results10, go_sem, *]) rfl HF.out
    · obtain ⟨r, hr⟩ : ∃ r, tkR s = r := ⟨_, rfl⟩
      have A1 := Lib.hid (fun w => rtake_c s (a : Int) r 0 (by rw [ha]) hr (by omega) hs w)
      have g1 : decide ((3 : Int) < (a : Int)) = false := decide_eq_false (by omega)
      have g2 : decide (3 < a) = false := decide_eq_false (by omega)
      have hrs2 : r.size ≤ 100000 := by rw [← hr]; omega
      have hrr := tkR_size r
      by_cases h2 : tkE r ≠ 0
      · obtain ⟨z, hz⟩ : ∃ z : Nat, tkE r = z := ⟨_, rfl⟩
        have f1' : ((z : Int) == 0) = false := by simp; omega
        have f2' : ((z : Int) != 0) = true := by simp; omega
        have HTE := Lib.hid (show ttbL s = (.none, ⟨#[]⟩, z) by unfold ttbL; rw [if_neg h0, if_neg (by omega), hr, if_pos h2, hz])
        have A2 := Lib.hid (fun w => rtake_c r _ _ (z : Int) rfl rfl (by omega) hrs2 w)
        clear h0 ha ga hs hrs hr hrs2 hrr h2 hz
        go_enter Tryd.func10, Tryd.ntmps10
        go_wp2_with fail
        go_at_call 29
        refine (A1.out _).mono ?_
        rintro e w1 ⟨rfl, hg⟩
        have hk := kept_of hg
        replace HK := Lib.hid (HK.out.trans hk); replace HRES := Lib.hid (HRES.out.kept hk)
        clear hg hk
        go_wp2_with fail
        go_at_call 29
        refine (A2.out _).mono ?_
        rintro e w2 ⟨rfl, hg⟩
        have hk := kept_of hg
        replace HK := Lib.hid (HK.out.trans hk); replace HRES := Lib.hid (HRES.out.kept hk)
        clear hg hk
        have hr := HRES.out
        have rf := hr.f
        have r0 := hr.c0; have r1 := hr.c1; have r2 := hr.c2; have r3 := hr.c3; have r4 := hr.c4; have r5 := hr.c5; have r6 := hr.c6; have r7 := hr.c7; have r8 := hr.c8
        clear hr
        have HF := Lib.hid (takH_err HTE.out (((((((((HK.out.setCell (a := ⟨w.heap.size, 0, none⟩) (Nat.le_refl _) (.slice none 0 0)).setCell (a := ⟨w.heap.size, 1, none⟩) (Nat.le_refl _) (.bool false)).setCell (a := ⟨w.heap.size, 2, none⟩) (Nat.le_refl _) (.int .i64 0)).setCell (a := ⟨w.heap.size, 3, none⟩) (Nat.le_refl _) (.int .i64 0)).setCell (a := ⟨w.heap.size, 4, none⟩) (Nat.le_refl _) (.string ⟨#[]⟩)).setCell (a := ⟨w.heap.size, 5, none⟩) (Nat.le_refl _) (.int .i64 0)).setCell (a := ⟨w.heap.size, 6, none⟩) (Nat.le_refl _) (.int .i64 0)).setCell (a := ⟨w.heap.size, 7, none⟩) (Nat.le_refl _) (.string ⟨#[]⟩)).setCell (a := ⟨w.heap.size, 8, none⟩) (Nat.le_refl _) (.bool false)))
        go_wp2_with fail
        exact bodyPost_ret (by simp [results, Tryd.results10, go_sem, *]) rfl HF.out
      · obtain ⟨n, hn⟩ : ∃ n, tkN r = n := ⟨_, rfl⟩
        by_cases gn : 8 < n
        · have A2 := Lib.hid (fun w => rtake_c r (n : Int) _ 0 (by rw [hn]) rfl (by omega) hrs2 w)
          have q1 : decide ((8 : Int) < (n : Int)) = true := decide_eq_true (by omega)
          have q2 : decide (8 < n) = true := decide_eq_true (by omega)
          have HTE := Lib.hid (show ttbL s = (.none, ⟨#[]⟩, 4) by unfold ttbL; rw [if_neg h0, if_neg (by omega), hr, if_neg h2, if_pos (by omega)])
          clear h0 ha ga hs hrs hr hrs2 hrr h2 hn gn
          go_enter Tryd.func10, Tryd.ntmps10
          go_wp2_with fail
          go_at_call 29
          refine (A1.out _).mono ?_
          rintro e w1 ⟨rfl, hg⟩
          have hk := kept_of hg
          replace HK := Lib.hid (HK.out.trans hk); replace HRES := Lib.hid (HRES.out.kept hk)
          clear hg hk
          go_wp2_with fail
          go_at_call 29
          refine (A2.out _).mono ?_
          rintro e w2 ⟨rfl, hg⟩
          have hk := kept_of hg
          replace HK := Lib.hid (HK.out.trans hk); replace HRES := Lib.hid (HRES.out.kept hk)
          clear hg hk
          have hr := HRES.out
          have rf := hr.f
          have r0 := hr.c0; have r1 := hr.c1; have r2 := hr.c2; have r3 := hr.c3; have r4 := hr.c4; have r5 := hr.c5; have r6 := hr.c6; have r7 := hr.c7; have r8 := hr.c8
          clear hr
          have HF := Lib.hid (takH_err (z := 4) HTE.out (((((((((HK.out.setCell (a := ⟨w.heap.size, 0, none⟩) (Nat.le_refl _) (.slice none 0 0)).setCell (a := ⟨w.heap.size, 1, none⟩) (Nat.le_refl _) (.bool false)).setCell (a := ⟨w.heap.size, 2, none⟩) (Nat.le_refl _) (.int .i64 0)).setCell (a := ⟨w.heap.size, 3, none⟩) (Nat.le_refl _) (.int .i64 0)).setCell (a := ⟨w.heap.size, 4, none⟩) (Nat.le_refl _) (.string ⟨#[]⟩)).setCell (a := ⟨w.heap.size, 5, none⟩) (Nat.le_refl _) (.int .i64 0)).setCell (a := ⟨w.heap.size, 6, none⟩) (Nat.le_refl _) (.int .i64 0)).setCell (a := ⟨w.heap.size, 7, none⟩) (Nat.le_refl _) (.string ⟨#[]⟩)).setCell (a := ⟨w.heap.size, 8, none⟩) (Nat.le_refl _) (.bool false)))
          go_wp2_with fail
          exact bodyPost_ret (by simp [results, Tryd.results10, go_sem, *]) rfl HF.out
        · obtain ⟨y, hy⟩ : ∃ y, tkR r = y := ⟨_, rfl⟩
          have A2 := Lib.hid (fun w => rtake_c r (n : Int) y 0 (by rw [hn]) hy (by omega) hrs2 w)
          have q1 : decide ((8 : Int) < (n : Int)) = false := decide_eq_false (by omega)
          have q2 : decide (8 < n) = false := decide_eq_false (by omega)
          have hw1 : IntKind.i64.wrap (n : Int) = (n : Int) := by rw [IntWalk.i64_in _ (by omega)]
          have hn8 : n ≤ 8 := by omega
          have hys : y.size ≤ 100000 := by rw [← hy]; omega
          obtain ⟨k1, hk1⟩ : ∃ k, Go.bits BinOp.and IntKind.u64 (a : Int) 1 = k := ⟨_, rfl⟩
          obtain ⟨k2, hk2⟩ : ∃ k, Go.bits BinOp.and IntKind.u64 (a : Int) 2 = k := ⟨_, rfl⟩
          obtain ⟨kp, hkp⟩ : ∃ k, decide (0 < k1) = k := ⟨_, rfl⟩
          obtain ⟨tu, htu⟩ : ∃ k, decide (0 < k2) = k := ⟨_, rfl⟩
          have HTT := Lib.hid (show ttbL s = restTb a (takePs n [] y) by unfold ttbL; rw [if_neg h0, if_neg (by omega), hr, if_neg h2, if_neg (by omega), ha, hn, hy])
          have HKP := Lib.hid (show decide (a % 2 = 1) = kp by rw [← hkp, ← hk1]; exact (bits_keep (by omega)).symm)
          have HTU := Lib.hid (show decide (2 ≤ a) = tu by rw [← htu, ← hk2]; exact (bits_tu (by omega)).symm)
          clear h0 ha ga hs hrs hr hrs2 hrr h2 hn gn hy
          go_enter Tryd.func10, Tryd.ntmps10
          go_wp2_with fail
          go_at_call 29
          refine (A1.out _).mono ?_
          rintro e w1 ⟨rfl, hg⟩
          have hk := kept_of hg
          replace HK := Lib.hid (HK.out.trans hk); replace HRES := Lib.hid (HRES.out.kept hk)
          clear hg hk
          go_wp2_with fail
          go_at_call 29
          refine (A2.out _).mono ?_
          rintro e w2 ⟨rfl, hg⟩
          have hk := kept_of hg
          have hka := (Kept.refl w2).alloc #[.slice none 0 0, .bool kp, .int .i64 0, .int .i64 0, .string ⟨#[]⟩, .int .i64 0, .int .i64 0, .string ⟨#[]⟩, .bool tu] 26
          have HB8 := Lib.hid (TabZ.new w2 kp tu 26)
          replace HK := Lib.hid (HK.out.trans hk); replace HRES := Lib.hid (HRES.out.kept hk)
          have HLB := Lib.hid (show w.heap.size + 1 ≤ w2.heap.size by have := HRES.out.lt; omega)
          replace HK := Lib.hid (HK.out.trans hka); replace HRES := Lib.hid (HRES.out.kept hka)
          obtain ⟨b8, hb8⟩ : ∃ b, w2.heap.size = b := ⟨_, rfl⟩
          go_wp2_with fail
          obtain ⟨U, hU⟩ : ∃ U, w2.alloc (.cells #[.slice none 0 0, .bool kp, .int .i64 0, .int .i64 0, .string ⟨#[]⟩, .int .i64 0, .int .i64 0, .string ⟨#[]⟩, .bool tu] 26) = U := ⟨_, rfl⟩
          rw [hU] at HK HRES HB8 ⊢
          rw [hb8] at HB8 HLB
          have hb8U := HB8.out.lt
          clear hg hk hka hU hk1 hk2 hkp htu
          go_loopw [0, 48] (fun v i wr => ∃ (t : Nat) (s1 : ByteArray) (L : List Pa) (u : Value), t ≤ n ∧ i = .int .i64 t ∧ v = .string s1 ∧ s1.size ≤ 100000 ∧ L.length = t ∧ takePs (n - t) L s1 = takePs n [] y ∧ TakP b8 U wr u L kp tu) (fun _ i _ => n - (intOf i).toNat)
          case atStart => exact ⟨0, y, [], .slice none 0 0, Nat.zero_le _, rfl, rfl, hys, rfl, rfl, TakP.start HB8.out⟩
          case round =>
            obtain ⟨t, s1, L, u, ht, rfl, rfl, hs1, hll, htk, hm⟩ := hrel
            obtain ⟨A3, c3, rfl, hf3, hlow⟩ := hm.form
            rw [hll] at hm hf3
            have HM := Lib.hid hm; have HTK := Lib.hid htk; have HLL := Lib.hid hll; have HF3 := Lib.hid hf3; have HLOW := Lib.hid hlow
            have h31 := hf3.cap.1; have h32 := hf3.cap.2
            have HKW := Lib.hid (hm.ke.kept HK.out (by have := HLB.out; omega))
            have HRW := Lib.hid (HRES.out.keptE hm.ke (by have := HLB.out; omega))
            obtain ⟨x, z, q, hx⟩ : ∃ x z q, twoL s1 = (x, z, q) := ⟨_, _, _, rfl⟩
            have AF := Lib.hid (fun w => rtwo_any s1 x z q hx hs1 w)
            have hz := twoR_szH s1
            have HX := Lib.hid hx
            have hx2 : twoX s1 = x := by unfold twoX; rw [hx]
            have hz2 : twoR s1 = z := by unfold twoR; rw [hx]
            have hq2 : twoE s1 = q := by unfold twoE; rw [hx]
            rw [hz2] at hz
            clear hm htk hll hf3 hlow hx
            by_cases hlt : t < n
            · have hadd : IntKind.i64.wrap ((t : Int) + 1) = ((t + 1 : Nat) : Int) := by rw [IntWalk.i64_in _ (by omega)]; omega
              by_cases hq0 : q = 0
              · have hys2 : z.size ≤ 100000 := by omega
                have HN := Lib.hid (show takePs (n - (t + 1)) (L ++ [x]) z = takePs n [] y by
                  rw [← HTK.out, show n - t = (n - (t + 1)) + 1 by omega, takePs_ok (by rw [hq2]; exact hq0), hx2, hz2])
                subst hq0
                clear hx2 hz2 hq2
                go_wp2_with fail
                go_at_call 30
                refine (AF.out _).mono ?_
                rintro e w5 ⟨rfl, hk5⟩
                have hk6 := (hk5.trans ((Kept.refl w5).alloc #[.int .i64 x.f.k, .int .i64 x.f.n, .string x.f.t, .int .i64 x.t.k, .int .i64 x.t.n, .string x.t.t] 44)).trans ((Kept.refl (w5.alloc (.cells #[.int .i64 x.f.k, .int .i64 x.f.n, .string x.f.t, .int .i64 x.t.k, .int .i64 x.t.n, .string x.t.t] 44))).alloc #[.int .i64 x.f.k, .int .i64 x.f.n, .string x.f.t, .int .i64 x.t.k, .int .i64 x.t.n, .string x.t.t] 44)
                have HE5 := PaB.new w5 x 44
                have hone := pa_one (PaB.new (w5.alloc (.cells #[.int .i64 x.f.k, .int .i64 x.f.n, .string x.f.t, .int .i64 x.t.k, .int .i64 x.t.n, .string x.t.t] 44)) x 44)
                obtain ⟨v8, w8, hr8, hc8, hf8, hm8⟩ := TakP.app (HLL.out ▸ HM.out.kept hk6 : TakP b8 U _ (.slice A3 t c3) L kp tu) hb8U _ _ _ _ hone (by have := HLL.out; omega)
                rw [show (w5.alloc (.cells #[.int .i64 x.f.k, .int .i64 x.f.n, .string x.f.t, .int .i64 x.t.k, .int .i64 x.t.n, .string x.t.t] 44)).heap.size = w5.heap.size + 1 by simp] at hr8
                obtain ⟨A8, c8, rfl, hfo8, _⟩ := hm8.form
                have hl8 : (L ++ [x]).length = t + 1 := by rw [List.length_append, HLL.out]; rfl
                have HL8 := Lib.hid hl8
                rw [hl8] at hr8 hm8 hfo8
                have h81 := hfo8.cap.1; have h82 := hfo8.cap.2
                have HR8 := Lib.hid hr8; have HM8 := Lib.hid hm8
                have b0 := ((HM.out.box.kept hk5).kept ((Kept.refl w5).alloc #[.int .i64 x.f.k, .int .i64 x.f.n, .string x.f.t, .int .i64 x.t.k, .int .i64 x.t.n, .string x.t.t] 44)).c0
                have x0 := HE5.c0; have x1 := HE5.c1; have x2 := HE5.c2; have x3 := HE5.c3; have x4 := HE5.c4; have x5 := HE5.c5
                have hf80 := hf8 0
                clear hr8 hm8 hone hk5 hk6 HE5 hf8 hl8 hfo8
                go_wp2_with (at_builtin; refine Lib.wpList_append_run _ rfl (.tmp 61) (.tmp 63) _ _ rfl _ _ rfl rfl _ _ HR8.out ?_)
                go_roundw
                case rel => exact ⟨t + 1, z, L ++ [x], _, hlt, by first | rfl | go_num, rfl, hys2, HL8.out, HN.out, HM8.out⟩
                case measure => simp [intOf]; omega
              · have HTE := Lib.hid (show ttbL s = (.none, ⟨#[]⟩, q) by
                  have e : takePs n [] y = ([], ⟨#[]⟩, q) := by
                    rw [← HTK.out, show n - t = (n - (t + 1)) + 1 by omega, takePs_err (by rw [hq2]; exact hq0), hq2]
                  rw [HTT.out, e]; unfold restTb; rw [if_pos hq0])
                have f1' : ((q : Int) == 0) = false := by simp; omega
                have f2' : ((q : Int) != 0) = true := by simp; omega
                clear hx2 hz2 hq2 hq0
                go_wp2_with fail
                go_at_call 30
                refine (AF.out _).mono ?_
                rintro e w5 ⟨rfl, hk5⟩
                have hk6 := hk5.trans ((Kept.refl w5).alloc #[.int .i64 x.f.k, .int .i64 x.f.n, .string x.f.t, .int .i64 x.t.k, .int .i64 x.t.n, .string x.t.t] 44)
                have HRES := Lib.hid (HRW.out.kept hk6)
                have HKF := Lib.hid (HKW.out.trans hk6)
                clear hk5 hk6
                have hr := HRES.out
                have rf := hr.f
                have r0 := hr.c0; have r1 := hr.c1; have r2 := hr.c2; have r3 := hr.c3; have r4 := hr.c4; have r5 := hr.c5; have r6 := hr.c6; have r7 := hr.c7; have r8 := hr.c8
                clear hr
                have HF := Lib.hid (takH_err HTE.out (((((((((HKF.out.setCell (a := ⟨w.heap.size, 0, none⟩) (Nat.le_refl _) (.slice none 0 0)).setCell (a := ⟨w.heap.size, 1, none⟩) (Nat.le_refl _) (.bool false)).setCell (a := ⟨w.heap.size, 2, none⟩) (Nat.le_refl _) (.int .i64 0)).setCell (a := ⟨w.heap.size, 3, none⟩) (Nat.le_refl _) (.int .i64 0)).setCell (a := ⟨w.heap.size, 4, none⟩) (Nat.le_refl _) (.string ⟨#[]⟩)).setCell (a := ⟨w.heap.size, 5, none⟩) (Nat.le_refl _) (.int .i64 0)).setCell (a := ⟨w.heap.size, 6, none⟩) (Nat.le_refl _) (.int .i64 0)).setCell (a := ⟨w.heap.size, 7, none⟩) (Nat.le_refl _) (.string ⟨#[]⟩)).setCell (a := ⟨w.heap.size, 8, none⟩) (Nat.le_refl _) (.bool false)))
                go_wp2_with fail
                exact bodyPost_ret (by simp [results, Tryd.results10, go_sem, *]) rfl HF.out
            · have htn : t = n := by omega
              have HALL := Lib.hid (show takePs n [] y = (L, s1, 0) by rw [← HTK.out, htn, Nat.sub_self]; rfl)
              rw [htn] at HLL ⊢
              rw [htn] at HF3 HM h31
              have hnt : decide ((n : Int) < (n : Int)) = false := decide_eq_false (by omega)
              clear hlt ht htn
              by_cases hq0 : q = 0
              · have HTE := Lib.hid (show ttbL s = (⟨L, kp, x.f, x.t, tu⟩, z, 0) by
                  rw [HTT.out, HALL.out]; unfold restTb; rw [if_neg (by simp), if_neg (by rw [hq2, hq0]; simp), HKP.out, HTU.out, hx2, hz2])
                subst hq0
                clear hx2 hz2 hq2
                go_wp2_with fail
                clear hnt
                go_at_call 30
                refine (AF.out _).mono ?_
                rintro e w5 ⟨rfl, hk5⟩
                have hka := (Kept.refl w5).alloc #[.int .i64 x.f.k, .int .i64 x.f.n, .string x.f.t, .int .i64 x.t.k, .int .i64 x.t.n, .string x.t.t] 44
                have hk6 := hk5.trans hka
                have HRES := Lib.hid (HRW.out.kept hk6)
                have HKF := Lib.hid (HKW.out.trans hk6)
                have HBX := Lib.hid (HM.out.box.kept hk6)
                have HPX := Lib.hid (PaB.new w5 x 44)
                have HFF := Lib.hid (HF3.out.kept hk6)
                have HL5 := Lib.hid (show b8 < w5.heap.size from Nat.lt_of_lt_of_le HM.out.box.lt hk5.2.2)
                obtain ⟨p8, hp8⟩ : ∃ b, w5.heap.size = b := ⟨_, rfl⟩
                go_wp2_with fail
                obtain ⟨W6, hW6⟩ : ∃ W6, w5.alloc (.cells #[.int .i64 x.f.k, .int .i64 x.f.n, .string x.f.t, .int .i64 x.t.k, .int .i64 x.t.n, .string x.t.t] 44) = W6 := ⟨_, rfl⟩
                rw [hW6] at HRES HKF HBX HPX HFF ⊢
                rw [hp8] at HPX HL5
                clear hk5 hka hk6 hW6
                have hne : p8 ≠ b8 := by have := HL5.out; omega
                have P0 := KExtE.cell (b := b8) hne HPX.out.c0
                have P1 := KExtE.cell (b := b8) hne HPX.out.c1
                have P2 := KExtE.cell (b := b8) hne HPX.out.c2
                have P3 := KExtE.cell (b := b8) hne HPX.out.c3
                have P4 := KExtE.cell (b := b8) hne HPX.out.c4
                have P5 := KExtE.cell (b := b8) hne HPX.out.c5
                refine region_planE b8 W6 8 (.read [0, 1, 2, 3, 4] (.one 5 (.read [6] (.one 7 .stop)))) (by kernel_rfl) (by kernel_rfl) (by kernel_rfl) (by kernel_rfl) (by kernel_rfl) (fun _ d _ _ _ h => by cases d <;> exact h) (Kept.refl _) ?_
                intro wd hwd
                have HV := Lib.hid hwd
                have HBD := Lib.hid (HBX.out.kept hwd)
                clear hwd
                rw [wpPlan_read]
                simp only [pickOps_cons, pickOps_nil, consO_some, List.getElem?_cons_zero, List.getElem?_cons_succ]
                repeat (go_big_quiet_step (fail))
                refine wpQuiet_nil ?_
                clear P0 P1 P2 P3 P4 P5
                rw [wpPlan_one]
                simp only [pickOps_cons, pickOps_nil, consO_some, List.getElem?_cons_zero, List.getElem?_cons_succ]
                have d2 := HBD.out.c2; have d3 := HBD.out.c3; have d4 := HBD.out.c4; have df := HBD.out.f
                go_wp2_with fail
                have d5 := HBD.out.c5; have d6 := HBD.out.c6; have d7 := HBD.out.c7
                have HKE := Lib.hid (((((KeptE.of (G := b8) HV.out).set (a := ⟨b8, 2, none⟩) (.inl rfl) (.int .i64 x.f.k)).set (a := ⟨b8, 3, none⟩) (.inl rfl) (.int .i64 x.f.n)).set (a := ⟨b8, 4, none⟩) (.inl rfl) (.string x.f.t)))
                replace d5 := cell_beside (i := 4) (v := .string x.f.t) (by decide) (cell_beside (i := 3) (v := .int .i64 x.f.n) (by decide) (cell_beside (i := 2) (v := .int .i64 x.f.k) (by decide) d5))
                replace d6 := cell_beside (i := 4) (v := .string x.f.t) (by decide) (cell_beside (i := 3) (v := .int .i64 x.f.n) (by decide) (cell_beside (i := 2) (v := .int .i64 x.f.k) (by decide) d6))
                replace d7 := cell_beside (i := 4) (v := .string x.f.t) (by decide) (cell_beside (i := 3) (v := .int .i64 x.f.n) (by decide) (cell_beside (i := 2) (v := .int .i64 x.f.k) (by decide) d7))
                have HFR := Lib.hid (show ∀ j, World.frozen? (World.setCell (World.setCell (World.setCell wd ⟨b8, 2, none⟩ (.int .i64 x.f.k)) ⟨b8, 3, none⟩ (.int .i64 x.f.n)) ⟨b8, 4, none⟩ (.string x.f.t)) ⟨b8, j, none⟩ = false from fun j => by rw [World.frozen?_setCell, World.frozen?_setCell, World.frozen?_setCell]; exact df j)
                clear d2 d3 d4 df
                obtain ⟨w7, hw7⟩ : ∃ u, (World.setCell (World.setCell (World.setCell wd ⟨b8, 2, none⟩ (.int .i64 x.f.k)) ⟨b8, 3, none⟩ (.int .i64 x.f.n)) ⟨b8, 4, none⟩ (.string x.f.t)) = u := ⟨_, rfl⟩
                rw [hw7] at HKE d5 d6 d7 HFR ⊢
                refine soloE HKE.out ?_
                rw [wpPlan_read]
                simp only [pickOps_cons, pickOps_nil, consO_some, List.getElem?_cons_zero, List.getElem?_cons_succ]
                repeat (go_big_quiet_step (fail))
                refine wpQuiet_nil ?_
                rw [wpPlan_one]
                simp only [pickOps_cons, pickOps_nil, consO_some, List.getElem?_cons_zero, List.getElem?_cons_succ]
                have df := HFR.out
                go_wp2_with fail
                clear d5 d6 d7 df
                replace HKE := Lib.hid (((HKE.out.set (a := ⟨b8, 5, none⟩) (.inl rfl) (.int .i64 x.t.k)).set (a := ⟨b8, 6, none⟩) (.inl rfl) (.int .i64 x.t.n)).set (a := ⟨b8, 7, none⟩) (.inl rfl) (.string x.t.t))
                have HTB := Lib.hid (HBD.out.fill L x)
                have hlb := HLB.out
                have HKL := Lib.hid (((((((HKF.out.trans HV.out).setCell (a := ⟨b8, 2, none⟩) (by show w.heap.size ≤ b8; omega) (.int .i64 x.f.k)).setCell (a := ⟨b8, 3, none⟩) (by show w.heap.size ≤ b8; omega) (.int .i64 x.f.n)).setCell (a := ⟨b8, 4, none⟩) (by show w.heap.size ≤ b8; omega) (.string x.f.t)).setCell (a := ⟨b8, 5, none⟩) (by show w.heap.size ≤ b8; omega) (.int .i64 x.t.k)).setCell (a := ⟨b8, 6, none⟩) (by show w.heap.size ≤ b8; omega) (.int .i64 x.t.n)).setCell (a := ⟨b8, 7, none⟩) (by show w.heap.size ≤ b8; omega) (.string x.t.t))
                have HPL := Lib.hid (((((((HFF.out.kept HV.out).setLow HLOW.out b8 2 hb8U (.int .i64 x.f.k)).setLow HLOW.out b8 3 hb8U (.int .i64 x.f.n)).setLow HLOW.out b8 4 hb8U (.string x.f.t)).setLow HLOW.out b8 5 hb8U (.int .i64 x.t.k)).setLow HLOW.out b8 6 hb8U (.int .i64 x.t.n)).setLow HLOW.out b8 7 hb8U (.string x.t.t))
                rw [hw7] at HTB HKL HPL
                obtain ⟨w10, hw10⟩ : ∃ u, (World.setCell (World.setCell (World.setCell w7 ⟨b8, 5, none⟩ (.int .i64 x.t.k)) ⟨b8, 6, none⟩ (.int .i64 x.t.n)) ⟨b8, 7, none⟩ (.string x.t.t)) = u := ⟨_, rfl⟩
                rw [hw10] at HKE HTB HKL HPL ⊢
                clear hw7 hw10
                refine soloE HKE.out ?_
                refine wpPlan_stop ?_
                have t0 := HTB.out.c0; have t1 := HTB.out.c1; have t2 := HTB.out.c2; have t3 := HTB.out.c3; have t4 := HTB.out.c4; have t5 := HTB.out.c5; have t6 := HTB.out.c6; have t7 := HTB.out.c7; have t8 := HTB.out.c8
                replace HRES := Lib.hid (HRES.out.keptE HKE.out (by omega))
                have hr := HRES.out
                have rf := hr.f
                have r0 := hr.c0; have r1 := hr.c1; have r2 := hr.c2; have r3 := hr.c3; have r4 := hr.c4; have r5 := hr.c5; have r6 := hr.c6; have r7 := hr.c7; have r8 := hr.c8
                clear hr
                have HF := Lib.hid (show TakH s w (.returned (.tuple #[.agg #[.slice A3 n c3, .bool kp, .int .i64 x.f.k, .int .i64 x.f.n, .string x.f.t, .int .i64 x.t.k, .int .i64 x.t.n, .string x.t.t, .bool tu], .string z, .int .i64 0])) (World.setCell (World.setCell (World.setCell (World.setCell (World.setCell (World.setCell (World.setCell (World.setCell (World.setCell w10 ⟨w.heap.size, 0, none⟩ (.slice A3 n c3)) ⟨w.heap.size, 1, none⟩ (.bool kp)) ⟨w.heap.size, 2, none⟩ (.int .i64 x.f.k)) ⟨w.heap.size, 3, none⟩ (.int .i64 x.f.n)) ⟨w.heap.size, 4, none⟩ (.string x.f.t)) ⟨w.heap.size, 5, none⟩ (.int .i64 x.t.k)) ⟨w.heap.size, 6, none⟩ (.int .i64 x.t.n)) ⟨w.heap.size, 7, none⟩ (.string x.t.t)) ⟨w.heap.size, 8, none⟩ (.bool tu)) by
                  have h1 := takH_ok HTE.out (A := A3) (c := c3) (w := w) (w' := (World.setCell (World.setCell (World.setCell (World.setCell (World.setCell (World.setCell (World.setCell (World.setCell (World.setCell w10 ⟨w.heap.size, 0, none⟩ (.slice A3 n c3)) ⟨w.heap.size, 1, none⟩ (.bool kp)) ⟨w.heap.size, 2, none⟩ (.int .i64 x.f.k)) ⟨w.heap.size, 3, none⟩ (.int .i64 x.f.n)) ⟨w.heap.size, 4, none⟩ (.string x.f.t)) ⟨w.heap.size, 5, none⟩ (.int .i64 x.t.k)) ⟨w.heap.size, 6, none⟩ (.int .i64 x.t.n)) ⟨w.heap.size, 7, none⟩ (.string x.t.t)) ⟨w.heap.size, 8, none⟩ (.bool tu))) (by show Pal _ _ L.length _ L; rw [HLL.out]; exact (((((((((HPL.out).setLow HLOW.out w.heap.size 0 (by omega) (.slice A3 n c3)).setLow HLOW.out w.heap.size 1 (by omega) (.bool kp)).setLow HLOW.out w.heap.size 2 (by omega) (.int .i64 x.f.k)).setLow HLOW.out w.heap.size 3 (by omega) (.int .i64 x.f.n)).setLow HLOW.out w.heap.size 4 (by omega) (.string x.f.t)).setLow HLOW.out w.heap.size 5 (by omega) (.int .i64 x.t.k)).setLow HLOW.out w.heap.size 6 (by omega) (.int .i64 x.t.n)).setLow HLOW.out w.heap.size 7 (by omega) (.string x.t.t)).setLow HLOW.out w.heap.size 8 (by omega) (.bool tu)) ((((((((((HKL.out).setCell (a := ⟨w.heap.size, 0, none⟩) (Nat.le_refl _) (.slice A3 n c3)).setCell (a := ⟨w.heap.size, 1, none⟩) (Nat.le_refl _) (.bool kp)).setCell (a := ⟨w.heap.size, 2, none⟩) (Nat.le_refl _) (.int .i64 x.f.k)).setCell (a := ⟨w.heap.size, 3, none⟩) (Nat.le_refl _) (.int .i64 x.f.n)).setCell (a := ⟨w.heap.size, 4, none⟩) (Nat.le_refl _) (.string x.f.t)).setCell (a := ⟨w.heap.size, 5, none⟩) (Nat.le_refl _) (.int .i64 x.t.k)).setCell (a := ⟨w.heap.size, 6, none⟩) (Nat.le_refl _) (.int .i64 x.t.n)).setCell (a := ⟨w.heap.size, 7, none⟩) (Nat.le_refl _) (.string x.t.t)).setCell (a := ⟨w.heap.size, 8, none⟩) (Nat.le_refl _) (.bool tu))
                  have h2 : (⟨L, kp, x.f, x.t, tu⟩ : Tb).L.length = n := HLL.out
                  rw [h2] at h1
                  exact h1)
                go_wp2_with fail
                exact bodyPost_ret (by simp [results, Tryd.results10, go_sem, *]) rfl HF.out
              · have HTE := Lib.hid (show ttbL s = (.none, ⟨#[]⟩, q) by
                  rw [HTT.out, HALL.out]; unfold restTb; rw [if_neg (by simp), if_pos (by rw [hq2]; exact hq0), hq2])
                have f1' : ((q : Int) == 0) = false := by simp; omega
                have f2' : ((q : Int) != 0) = true := by simp; omega
                clear hx2 hz2 hq2 hq0
                go_wp2_with fail
                clear hnt
                go_at_call 30
                refine (AF.out _).mono ?_
                rintro e w5 ⟨rfl, hk5⟩
                have hk6 := hk5.trans ((Kept.refl w5).alloc #[.int .i64 x.f.k, .int .i64 x.f.n, .string x.f.t, .int .i64 x.t.k, .int .i64 x.t.n, .string x.t.t] 44)
                have HRES := Lib.hid (HRW.out.kept hk6)
                have HKF := Lib.hid (HKW.out.trans hk6)
                clear hk5 hk6
                have hr := HRES.out
                have rf := hr.f
                have r0 := hr.c0; have r1 := hr.c1; have r2 := hr.c2; have r3 := hr.c3; have r4 := hr.c4; have r5 := hr.c5; have r6 := hr.c6; have r7 := hr.c7; have r8 := hr.c8
                clear hr
                have HF := Lib.hid (takH_err HTE.out (((((((((HKF.out.setCell (a := ⟨w.heap.size, 0, none⟩) (Nat.le_refl _) (.slice none 0 0)).setCell (a := ⟨w.heap.size, 1, none⟩) (Nat.le_refl _) (.bool false)).setCell (a := ⟨w.heap.size, 2, none⟩) (Nat.le_refl _) (.int .i64 0)).setCell (a := ⟨w.heap.size, 3, none⟩) (Nat.le_refl _) (.int .i64 0)).setCell (a := ⟨w.heap.size, 4, none⟩) (Nat.le_refl _) (.string ⟨#[]⟩)).setCell (a := ⟨w.heap.size, 5, none⟩) (Nat.le_refl _) (.int .i64 0)).setCell (a := ⟨w.heap.size, 6, none⟩) (Nat.le_refl _) (.int .i64 0)).setCell (a := ⟨w.heap.size, 7, none⟩) (Nat.le_refl _) (.string ⟨#[]⟩)).setCell (a := ⟨w.heap.size, 8, none⟩) (Nat.le_refl _) (.bool false)))
                go_wp2_with fail
                exact bodyPost_ret (by simp [results, Tryd.results10, go_sem, *]) rfl HF.out
end Go.Proofs.YtjcnjmlgedmmoaaDoor
