/-
  What is proved: the document's own taking of one field (P11.7), called with any text of up to 100000 bytes, returns what that says; the world has new blocks at most.
  the document's Take of layer 11 (P11.7), called with any text of up to 100000 bytes, returns what that says; the world has new blocks at most.
-/
import Derived.Test.YtjieofiaoepccaaGreatDoorM19
import Derived.Test.YtjieofiaoepccaaGreatDoorM23
import Derived.Test.YtjieofiaoepccaaGreatDoorRVTake
import Derived.Test.YtjieofiaoepccaaGreatDoorM20
import Derived.Test.YtjieofiaoepccaaGreatDoorM12
namespace Go.Proofs.YtjieofiaoepccaaGreatDoor
open Go.RowKit
set_option linter.unusedVariables false

set_option maxRecDepth 100000 in
set_option maxHeartbeats 8000000 in
theorem rfield_any (s : ByteArray) (w : World) (hs : s.size ≤ 100000) :
    Calls Tryz.prog 33 #[.string s] w fun e w' => e = .returned (.tuple #[.agg #[.string (tfX s).p, .int .i64 (tfX s).k, .int .i64 (tfX s).t, .int .i64 (tfX s).vk, .int .i64 (tfX s).vn, .string (tfX s).vt], .string (tfR s), .int .i64 (tfE s)]) ∧ Kept w w' := by
  have HK := Lib.hid ((Kept.refl w).alloc #[.string ⟨#[]⟩, .int .i64 0, .int .i64 0, .int .i64 0, .int .i64 0, .string ⟨#[]⟩] 30)
  have hres := FdB.new w .none 30
  simp only [Fd.none] at hres
  have HRES := Lib.hid hres
  have hs1 : (f1 s).size ≤ 100000 := Nat.le_trans (ttR_szF s 102) hs
  have hs2 : (f2 s).size ≤ 100000 := Nat.le_trans (tkR_size _) hs1
  have hs3 : (f3 s).size ≤ 100000 := Nat.le_trans (tkR_size _) hs2
  clear hres
  by_cases h0 : ttE s 102 ≠ 0
  · obtain ⟨z, hz⟩ : ∃ z : Nat, ttE s 102 = z := ⟨_, rfl⟩
    have hzn : z ≠ 0 := by omega
    have f1' : ((z : Int) == 0) = false := by simp; omega
    have f2' : ((z : Int) != 0) = true := by simp; omega
    have HEND := Lib.hid (show tfL s = (.none, ⟨#[]⟩, z) by
      have he : errF s = z := by rw [← hz]; exact (by unfold errF; rw [if_pos h0])
      unfold tfL
      rw [he, if_pos hzn])
    obtain ⟨t1, t2, t3⟩ := tf_of HEND.out
    rw [t1, t2, t3]
    clear t1 t2 t3
    have AT := Lib.hid (fun w => rtakeText_c s 102 _ _ (z : Int) rfl rfl (by omega) hs (by decide) (by decide) w)
    clear h0 hz hzn hs hs1 hs2 hs3 HEND
    go_enter Tryz.func33, Tryz.ntmps33
    go_wp2_with fail
    go_at_call 64
    refine (AT.out _).mono ?_
    rintro e w1 ⟨rfl, hg⟩
    have hk := kept_of hg
    replace HK := Lib.hid (HK.out.trans hk)
    replace HRES := Lib.hid (HRES.out.kept hk)
    clear hg hk
    have hr := HRES.out
    have rf := hr.f
    have r0 := hr.c0; have r1 := hr.c1; have r2 := hr.c2; have r3 := hr.c3; have r4 := hr.c4; have r5 := hr.c5
    clear hr
    go_wp2_with fail
    refine bodyPost_ret (by simp [results, Tryz.results33, go_sem, Fd.none, *]) rfl ⟨rfl, ?_⟩
    exact (((((HK.out.setCell (Nat.le_refl _) _).setCell (Nat.le_refl _) _).setCell (Nat.le_refl _) _).setCell (Nat.le_refl _) _).setCell (Nat.le_refl _) _).setCell (Nat.le_refl _) _
  · by_cases h1 : tkE (f1 s) ≠ 0
    · obtain ⟨z, hz⟩ : ∃ z : Nat, tkE (f1 s) = z := ⟨_, rfl⟩
      have hzn : z ≠ 0 := by omega
      have f1' : ((z : Int) == 0) = false := by simp; omega
      have f2' : ((z : Int) != 0) = true := by simp; omega
      have HEND := Lib.hid (show tfL s = (.none, ⟨#[]⟩, z) by
        have he : errF s = z := by rw [← hz]; exact (by unfold errF; rw [if_neg (by omega : ¬ ttE s 102 ≠ 0)]; rw [if_pos h1])
        unfold tfL
        rw [he, if_pos hzn])
      obtain ⟨t1, t2, t3⟩ := tf_of HEND.out
      rw [t1, t2, t3]
      clear t1 t2 t3
      have AT := Lib.hid (fun w => rtakeText_c s 102 _ (f1 s) 0 rfl rfl (by omega) hs (by decide) (by decide) w)
      have AK1 := Lib.hid (fun w => rtake_c (f1 s) _ _ (z : Int) rfl rfl (by omega) hs1 w)
      clear h0 h1 hz hzn hs hs1 hs2 hs3 HEND
      go_enter Tryz.func33, Tryz.ntmps33
      go_wp2_with fail
      go_at_call 64
      refine (AT.out _).mono ?_
      rintro e w1 ⟨rfl, hg⟩
      have hk := kept_of hg
      replace HK := Lib.hid (HK.out.trans hk)
      replace HRES := Lib.hid (HRES.out.kept hk)
      clear hg hk
      go_wp2_with fail
      go_at_call 32
      refine (AK1.out _).mono ?_
      rintro e w2 ⟨rfl, hg⟩
      have hk := kept_of hg
      replace HK := Lib.hid (HK.out.trans hk)
      replace HRES := Lib.hid (HRES.out.kept hk)
      clear hg hk
      have hr := HRES.out
      have rf := hr.f
      have r0 := hr.c0; have r1 := hr.c1; have r2 := hr.c2; have r3 := hr.c3; have r4 := hr.c4; have r5 := hr.c5
      clear hr
      go_wp2_with fail
      refine bodyPost_ret (by simp [results, Tryz.results33, go_sem, Fd.none, *]) rfl ⟨rfl, ?_⟩
      exact (((((HK.out.setCell (Nat.le_refl _) _).setCell (Nat.le_refl _) _).setCell (Nat.le_refl _) _).setCell (Nat.le_refl _) _).setCell (Nat.le_refl _) _).setCell (Nat.le_refl _) _
    · by_cases h2 : tkE (f2 s) ≠ 0
      · obtain ⟨z, hz⟩ : ∃ z : Nat, tkE (f2 s) = z := ⟨_, rfl⟩
        have hzn : z ≠ 0 := by omega
        have f1' : ((z : Int) == 0) = false := by simp; omega
        have f2' : ((z : Int) != 0) = true := by simp; omega
        have HEND := Lib.hid (show tfL s = (.none, ⟨#[]⟩, z) by
          have he : errF s = z := by rw [← hz]; exact (by unfold errF; rw [if_neg (by omega : ¬ ttE s 102 ≠ 0)]; rw [if_neg (by omega : ¬ tkE (f1 s) ≠ 0)]; rw [if_pos h2])
          unfold tfL
          rw [he, if_pos hzn])
        obtain ⟨t1, t2, t3⟩ := tf_of HEND.out
        rw [t1, t2, t3]
        clear t1 t2 t3
        have AT := Lib.hid (fun w => rtakeText_c s 102 _ (f1 s) 0 rfl rfl (by omega) hs (by decide) (by decide) w)
        have AK1 := Lib.hid (fun w => rtake_c (f1 s) _ (f2 s) 0 rfl rfl (by omega) hs1 w)
        have AK2 := Lib.hid (fun w => rtake_c (f2 s) _ _ (z : Int) rfl rfl (by omega) hs2 w)
        clear h0 h1 h2 hz hzn hs hs1 hs2 hs3 HEND
        go_enter Tryz.func33, Tryz.ntmps33
        go_wp2_with fail
        go_at_call 64
        refine (AT.out _).mono ?_
        rintro e w1 ⟨rfl, hg⟩
        have hk := kept_of hg
        replace HK := Lib.hid (HK.out.trans hk)
        replace HRES := Lib.hid (HRES.out.kept hk)
        clear hg hk
        go_wp2_with fail
        go_at_call 32
        refine (AK1.out _).mono ?_
        rintro e w2 ⟨rfl, hg⟩
        have hk := kept_of hg
        replace HK := Lib.hid (HK.out.trans hk)
        replace HRES := Lib.hid (HRES.out.kept hk)
        clear hg hk
        go_wp2_with fail
        go_at_call 32
        refine (AK2.out _).mono ?_
        rintro e w3 ⟨rfl, hg⟩
        have hk := kept_of hg
        replace HK := Lib.hid (HK.out.trans hk)
        replace HRES := Lib.hid (HRES.out.kept hk)
        clear hg hk
        have hr := HRES.out
        have rf := hr.f
        have r0 := hr.c0; have r1 := hr.c1; have r2 := hr.c2; have r3 := hr.c3; have r4 := hr.c4; have r5 := hr.c5
        clear hr
        go_wp2_with fail
        refine bodyPost_ret (by simp [results, Tryz.results33, go_sem, Fd.none, *]) rfl ⟨rfl, ?_⟩
        exact (((((HK.out.setCell (Nat.le_refl _) _).setCell (Nat.le_refl _) _).setCell (Nat.le_refl _) _).setCell (Nat.le_refl _) _).setCell (Nat.le_refl _) _).setCell (Nat.le_refl _) _
      · by_cases h3 : tvE (f3 s) ≠ 0
        · obtain ⟨z, hz⟩ : ∃ z : Nat, tvE (f3 s) = z := ⟨_, rfl⟩
          have hzn : z ≠ 0 := by omega
          have f1' : ((z : Int) == 0) = false := by simp; omega
          have f2' : ((z : Int) != 0) = true := by simp; omega
          have HEND := Lib.hid (show tfL s = (.none, ⟨#[]⟩, z) by
            have he : errF s = z := by rw [← hz]; exact (by unfold errF; rw [if_neg (by omega : ¬ ttE s 102 ≠ 0)]; rw [if_neg (by omega : ¬ tkE (f1 s) ≠ 0)]; rw [if_neg (by omega : ¬ tkE (f2 s) ≠ 0)]; skip)
            unfold tfL
            rw [he, if_pos hzn])
          obtain ⟨t1, t2, t3⟩ := tf_of HEND.out
          rw [t1, t2, t3]
          clear t1 t2 t3
          have AT := Lib.hid (fun w => rtakeText_c s 102 _ (f1 s) 0 rfl rfl (by omega) hs (by decide) (by decide) w)
          have AK1 := Lib.hid (fun w => rtake_c (f1 s) _ (f2 s) 0 rfl rfl (by omega) hs1 w)
          have AK2 := Lib.hid (fun w => rtake_c (f2 s) _ (f3 s) 0 rfl rfl (by omega) hs2 w)
          have AV := Lib.hid (fun w => rvtake_any (f3 s) w hs3)
          rw [hz] at AV
          clear h0 h1 h2 h3 hz hzn hs hs1 hs2 hs3 HEND
          go_enter Tryz.func33, Tryz.ntmps33
          go_wp2_with fail
          go_at_call 64
          refine (AT.out _).mono ?_
          rintro e w1 ⟨rfl, hg⟩
          have hk := kept_of hg
          replace HK := Lib.hid (HK.out.trans hk)
          replace HRES := Lib.hid (HRES.out.kept hk)
          clear hg hk
          go_wp2_with fail
          go_at_call 32
          refine (AK1.out _).mono ?_
          rintro e w2 ⟨rfl, hg⟩
          have hk := kept_of hg
          replace HK := Lib.hid (HK.out.trans hk)
          replace HRES := Lib.hid (HRES.out.kept hk)
          clear hg hk
          go_wp2_with fail
          go_at_call 32
          refine (AK2.out _).mono ?_
          rintro e w3 ⟨rfl, hg⟩
          have hk := kept_of hg
          replace HK := Lib.hid (HK.out.trans hk)
          replace HRES := Lib.hid (HRES.out.kept hk)
          clear hg hk
          go_wp2_with fail
          go_at_call 65
          refine (AV.out _).mono ?_
          rintro e w4 ⟨rfl, hg⟩
          have hk := kept_of hg
          replace HK := Lib.hid (HK.out.trans hk)
          replace HRES := Lib.hid (HRES.out.kept hk)
          clear hg hk
          replace HK := Lib.hid (HK.out.trans ((Kept.refl w4).alloc #[.int .i64 (tvK (f3 s)), .int .i64 (tvI (f3 s)), .string (tvT (f3 s))] 28))
          replace HRES := Lib.hid (HRES.out.kept ((Kept.refl w4).alloc #[.int .i64 (tvK (f3 s)), .int .i64 (tvI (f3 s)), .string (tvT (f3 s))] 28))
          have hr := HRES.out
          have rf := hr.f
          have r0 := hr.c0; have r1 := hr.c1; have r2 := hr.c2; have r3 := hr.c3; have r4 := hr.c4; have r5 := hr.c5
          clear hr
          go_wp2_with fail
          refine bodyPost_ret (by simp [results, Tryz.results33, go_sem, Fd.none, *]) rfl ⟨rfl, ?_⟩
          exact (((((HK.out.setCell (Nat.le_refl _) _).setCell (Nat.le_refl _) _).setCell (Nat.le_refl _) _).setCell (Nat.le_refl _) _).setCell (Nat.le_refl _) _).setCell (Nat.le_refl _) _
        · have AT := Lib.hid (fun w => rtakeText_c s 102 _ (f1 s) 0 rfl rfl (by omega) hs (by decide) (by decide) w)
          have AK1 := Lib.hid (fun w => rtake_c (f1 s) _ (f2 s) 0 rfl rfl (by omega) hs1 w)
          have AK2 := Lib.hid (fun w => rtake_c (f2 s) _ (f3 s) 0 rfl rfl (by omega) hs2 w)
          have AV := Lib.hid (fun w => rvtake_any (f3 s) w hs3)
          rw [show tvE (f3 s) = 0 by omega] at AV
          have hE : errF s = 0 := by unfold errF; rw [if_neg h0, if_neg h1, if_neg h2]; omega
          obtain ⟨a, ha⟩ : ∃ a, tkN (f1 s) = a := ⟨_, rfl⟩
          obtain ⟨b, hb⟩ : ∃ b, tkN (f2 s) = b := ⟨_, rfl⟩
          rw [ha] at AK1
          rw [hb] at AK2
          by_cases ga : 3 < a
          · have g1 : decide ((3 : Int) < (a : Int)) = true := decide_eq_true (by omega)
            have g1' : decide (3 < a) = true := decide_eq_true (by omega)
            have hL : tfL s = (.none, ⟨#[]⟩, 3) := by unfold tfL; rw [hE, if_neg (by simp), if_pos (by omega)]
            obtain ⟨t1, t2, t3⟩ := tf_of hL
            rw [t1, t2, t3]
            clear h0 h1 h2 h3 hs hs1 hs2 hs3 hE hL t1 t2 t3 ha hb
            clear ga
            go_enter Tryz.func33, Tryz.ntmps33
            go_wp2_with fail
            go_at_call 64
            refine (AT.out _).mono ?_
            rintro e w1 ⟨rfl, hg⟩
            have hk := kept_of hg
            replace HK := Lib.hid (HK.out.trans hk)
            replace HRES := Lib.hid (HRES.out.kept hk)
            clear hg hk
            go_wp2_with fail
            go_at_call 32
            refine (AK1.out _).mono ?_
            rintro e w2 ⟨rfl, hg⟩
            have hk := kept_of hg
            replace HK := Lib.hid (HK.out.trans hk)
            replace HRES := Lib.hid (HRES.out.kept hk)
            clear hg hk
            go_wp2_with fail
            go_at_call 32
            refine (AK2.out _).mono ?_
            rintro e w3 ⟨rfl, hg⟩
            have hk := kept_of hg
            replace HK := Lib.hid (HK.out.trans hk)
            replace HRES := Lib.hid (HRES.out.kept hk)
            clear hg hk
            go_wp2_with fail
            go_at_call 65
            refine (AV.out _).mono ?_
            rintro e w4 ⟨rfl, hg⟩
            have hk := kept_of hg
            replace HK := Lib.hid (HK.out.trans hk)
            replace HRES := Lib.hid (HRES.out.kept hk)
            clear hg hk
            replace HK := Lib.hid (HK.out.trans ((Kept.refl w4).alloc #[.int .i64 (tvK (f3 s)), .int .i64 (tvI (f3 s)), .string (tvT (f3 s))] 28))
            replace HRES := Lib.hid (HRES.out.kept ((Kept.refl w4).alloc #[.int .i64 (tvK (f3 s)), .int .i64 (tvI (f3 s)), .string (tvT (f3 s))] 28))
            have hr := HRES.out
            have rf := hr.f
            have r0 := hr.c0; have r1 := hr.c1; have r2 := hr.c2; have r3 := hr.c3; have r4 := hr.c4; have r5 := hr.c5
            clear hr
            go_wp2_with fail
            refine bodyPost_ret (by simp [results, Tryz.results33, go_sem, Fd.none, *]) rfl ⟨rfl, ?_⟩
            exact (((((HK.out.setCell (Nat.le_refl _) _).setCell (Nat.le_refl _) _).setCell (Nat.le_refl _) _).setCell (Nat.le_refl _) _).setCell (Nat.le_refl _) _).setCell (Nat.le_refl _) _
          · by_cases gb : 3 < b
            · have g1 : decide ((3 : Int) < (a : Int)) = false := decide_eq_false (by omega)
              have g1' : decide (3 < a) = false := decide_eq_false (by omega)
              have g2 : decide ((3 : Int) < (b : Int)) = true := decide_eq_true (by omega)
              have g2' : decide (3 < b) = true := decide_eq_true (by omega)
              have hL : tfL s = (.none, ⟨#[]⟩, 3) := by unfold tfL; rw [hE, if_neg (by simp), if_pos (by omega)]
              obtain ⟨t1, t2, t3⟩ := tf_of hL
              rw [t1, t2, t3]
              clear h0 h1 h2 h3 hs hs1 hs2 hs3 hE hL t1 t2 t3 ha hb
              clear ga gb
              go_enter Tryz.func33, Tryz.ntmps33
              go_wp2_with fail
              go_at_call 64
              refine (AT.out _).mono ?_
              rintro e w1 ⟨rfl, hg⟩
              have hk := kept_of hg
              replace HK := Lib.hid (HK.out.trans hk)
              replace HRES := Lib.hid (HRES.out.kept hk)
              clear hg hk
              go_wp2_with fail
              go_at_call 32
              refine (AK1.out _).mono ?_
              rintro e w2 ⟨rfl, hg⟩
              have hk := kept_of hg
              replace HK := Lib.hid (HK.out.trans hk)
              replace HRES := Lib.hid (HRES.out.kept hk)
              clear hg hk
              go_wp2_with fail
              go_at_call 32
              refine (AK2.out _).mono ?_
              rintro e w3 ⟨rfl, hg⟩
              have hk := kept_of hg
              replace HK := Lib.hid (HK.out.trans hk)
              replace HRES := Lib.hid (HRES.out.kept hk)
              clear hg hk
              go_wp2_with fail
              go_at_call 65
              refine (AV.out _).mono ?_
              rintro e w4 ⟨rfl, hg⟩
              have hk := kept_of hg
              replace HK := Lib.hid (HK.out.trans hk)
              replace HRES := Lib.hid (HRES.out.kept hk)
              clear hg hk
              replace HK := Lib.hid (HK.out.trans ((Kept.refl w4).alloc #[.int .i64 (tvK (f3 s)), .int .i64 (tvI (f3 s)), .string (tvT (f3 s))] 28))
              replace HRES := Lib.hid (HRES.out.kept ((Kept.refl w4).alloc #[.int .i64 (tvK (f3 s)), .int .i64 (tvI (f3 s)), .string (tvT (f3 s))] 28))
              have hr := HRES.out
              have rf := hr.f
              have r0 := hr.c0; have r1 := hr.c1; have r2 := hr.c2; have r3 := hr.c3; have r4 := hr.c4; have r5 := hr.c5
              clear hr
              go_wp2_with fail
              refine bodyPost_ret (by simp [results, Tryz.results33, go_sem, Fd.none, *]) rfl ⟨rfl, ?_⟩
              exact (((((HK.out.setCell (Nat.le_refl _) _).setCell (Nat.le_refl _) _).setCell (Nat.le_refl _) _).setCell (Nat.le_refl _) _).setCell (Nat.le_refl _) _).setCell (Nat.le_refl _) _
            · have g1 : decide ((3 : Int) < (a : Int)) = false := decide_eq_false (by omega)
              have g1' : decide (3 < a) = false := decide_eq_false (by omega)
              have g2 : decide ((3 : Int) < (b : Int)) = false := decide_eq_false (by omega)
              have g2' : decide (3 < b) = false := decide_eq_false (by omega)
              have hw1 : IntKind.i64.wrap (a : Int) = (a : Int) := by rw [IntWalk.i64_in _ (by omega)]
              have hw2 : IntKind.i64.wrap (b : Int) = (b : Int) := by rw [IntWalk.i64_in _ (by omega)]
              have hL : tfL s = (fdK s, tvR (f3 s), 0) := by unfold tfL; rw [hE, if_neg (by simp), if_neg (by omega)]
              have hX : fdK s = ⟨ttT s 102, (a : Int), (b : Int), tvK (f3 s), tvI (f3 s), tvT (f3 s)⟩ := by unfold fdK; rw [ha, hb]
              rw [hX] at hL
              obtain ⟨t1, t2, t3⟩ := tf_of hL
              rw [t1, t2, t3]
              clear h0 h1 h2 h3 hs hs1 hs2 hs3 hE hL hX t1 t2 t3 ha hb ga gb
              go_enter Tryz.func33, Tryz.ntmps33
              go_wp2_with fail
              go_at_call 64
              refine (AT.out _).mono ?_
              rintro e w1 ⟨rfl, hg⟩
              have hk := kept_of hg
              replace HK := Lib.hid (HK.out.trans hk)
              replace HRES := Lib.hid (HRES.out.kept hk)
              clear hg hk
              go_wp2_with fail
              go_at_call 32
              refine (AK1.out _).mono ?_
              rintro e w2 ⟨rfl, hg⟩
              have hk := kept_of hg
              replace HK := Lib.hid (HK.out.trans hk)
              replace HRES := Lib.hid (HRES.out.kept hk)
              clear hg hk
              go_wp2_with fail
              go_at_call 32
              refine (AK2.out _).mono ?_
              rintro e w3 ⟨rfl, hg⟩
              have hk := kept_of hg
              replace HK := Lib.hid (HK.out.trans hk)
              replace HRES := Lib.hid (HRES.out.kept hk)
              clear hg hk
              go_wp2_with fail
              go_at_call 65
              refine (AV.out _).mono ?_
              rintro e w4 ⟨rfl, hg⟩
              have hk := kept_of hg
              replace HK := Lib.hid (HK.out.trans hk)
              replace HRES := Lib.hid (HRES.out.kept hk)
              clear hg hk
              replace HK := Lib.hid (HK.out.trans ((Kept.refl w4).alloc #[.int .i64 (tvK (f3 s)), .int .i64 (tvI (f3 s)), .string (tvT (f3 s))] 28))
              replace HRES := Lib.hid (HRES.out.kept ((Kept.refl w4).alloc #[.int .i64 (tvK (f3 s)), .int .i64 (tvI (f3 s)), .string (tvT (f3 s))] 28))
              have hr := HRES.out
              have rf := hr.f
              have r0 := hr.c0; have r1 := hr.c1; have r2 := hr.c2; have r3 := hr.c3; have r4 := hr.c4; have r5 := hr.c5
              clear hr
              go_wp2_with fail
              refine bodyPost_ret (by simp [results, Tryz.results33, go_sem, *]) rfl ⟨rfl, ?_⟩
              exact (((((HK.out.setCell (Nat.le_refl _) _).setCell (Nat.le_refl _) _).setCell (Nat.le_refl _) _).setCell (Nat.le_refl _) _).setCell (Nat.le_refl _) _).setCell (Nat.le_refl _) _
end Go.Proofs.YtjieofiaoepccaaGreatDoor

namespace Go.Proofs.YtjieofiaoepccaaGreatDoor
open Go.RowKit
set_option linter.unusedVariables false

open Classical in
set_option maxRecDepth 100000 in
set_option maxHeartbeats 8000000 in
theorem rftake_any (s : ByteArray) (w : World) (hs : s.size ≤ 100000) :
    Calls Tryz.prog 9 #[.string s] w (TakS s w) := by
  have hk := (Kept.refl w).alloc #[.slice none 0 0] 24
  have HRES := Lib.hid (Box1.new w (.slice none 0 0) 24)
  have HK := Lib.hid hk
  have hrs := tkR_size s
  clear hk
  by_cases h0 : tkE s ≠ 0
  · obtain ⟨z, hz⟩ : ∃ z : Nat, tkE s = z := ⟨_, rfl⟩
    have f1' : ((z : Int) == 0) = false := by simp; omega
    have f2' : ((z : Int) != 0) = true := by simp; omega
    have HT := Lib.hid (show tscL s = ([], ⟨#[]⟩, z) by unfold tscL; rw [if_pos h0, hz])
    have AK := Lib.hid (fun w => rtake_c s _ _ (z : Int) rfl rfl (by omega) hs w)
    clear h0 hz hs hrs
    go_enter Tryz.func9, Tryz.ntmps9
    go_wp2_with fail
    go_at_call 32
    refine (AK.out _).mono ?_
    rintro e w1 ⟨rfl, hg⟩
    have hk := kept_of hg
    replace HK := Lib.hid (HK.out.trans hk)
    replace HRES := Lib.hid (HRES.out.kept hk)
    clear hg hk
    have hr := HRES.out
    have rf := hr.f
    have r0 := hr.c0
    clear hr
    have HF := Lib.hid (takS_err HT.out (HK.out.setCell (a := ⟨w.heap.size, 0, none⟩) (Nat.le_refl _) (.slice none 0 0)))
    go_wp2_with fail
    exact bodyPost_ret (by simp [results, Tryz.results9, go_sem, *]) rfl HF.out
  · obtain ⟨a, ha⟩ : ∃ a, tkN s = a := ⟨_, rfl⟩
    by_cases ga : 24 < a
    · have AK := Lib.hid (fun w => rtake_c s (a : Int) _ 0 (by rw [ha]) rfl (by omega) hs w)
      have g1 : decide ((24 : Int) < (a : Int)) = true := decide_eq_true (by omega)
      have g2 : decide (24 < a) = true := decide_eq_true ga
      have HT := Lib.hid (show tscL s = ([], ⟨#[]⟩, 4) by unfold tscL; rw [if_neg h0, if_pos (by omega)])
      clear h0 ha ga hs hrs
      go_enter Tryz.func9, Tryz.ntmps9
      go_wp2_with fail
      go_at_call 32
      refine (AK.out _).mono ?_
      rintro e w1 ⟨rfl, hg⟩
      have hk := kept_of hg
      replace HK := Lib.hid (HK.out.trans hk)
      replace HRES := Lib.hid (HRES.out.kept hk)
      clear hg hk
      have hr := HRES.out
      have rf := hr.f
      have r0 := hr.c0
      clear hr
      have HF := Lib.hid (takS_err (z := 4) HT.out (HK.out.setCell (a := ⟨w.heap.size, 0, none⟩) (Nat.le_refl _) (.slice none 0 0)))
      go_wp2_with fail
      exact bodyPost_ret (by simp [results, Tryz.results9, go_sem, *]) rfl HF.out
    · obtain ⟨r, hr⟩ : ∃ r, tkR s = r := ⟨_, rfl⟩
      have AK := Lib.hid (fun w => rtake_c s (a : Int) r 0 (by rw [ha]) hr (by omega) hs w)
      have g1 : decide ((24 : Int) < (a : Int)) = false := decide_eq_false (by omega)
      have g2 : decide (24 < a) = false := decide_eq_false ga
      have hw1 : IntKind.i64.wrap (a : Int) = (a : Int) := by rw [IntWalk.i64_in _ (by omega)]
      have ha24 : a ≤ 24 := by omega
      have hrs2 : r.size ≤ 100000 := by rw [← hr]; omega
      have HTT := Lib.hid (show tscL s = if (takeFs a [] r).2.2 ≠ 0 then ([], ⟨#[]⟩, (takeFs a [] r).2.2) else if ScOk (takeFs a [] r).1 then ((takeFs a [] r).1, (takeFs a [] r).2.1, 0) else ([], ⟨#[]⟩, 3) by
        unfold tscL
        rw [if_neg h0, if_neg (by omega), ha, hr])
      clear h0 ha ga hs hrs hr
      go_enter Tryz.func9, Tryz.ntmps9
      go_wp2_with fail
      go_at_call 32
      refine (AK.out _).mono ?_
      rintro e w1 ⟨rfl, hg⟩
      have hk := kept_of hg
      replace HK := Lib.hid (HK.out.trans hk)
      replace HRES := Lib.hid (HRES.out.kept hk)
      have hka := (Kept.refl w1).alloc #[.slice none 0 0] 24
      have HB7 := Lib.hid (Box1.new w1 (.slice none 0 0) 24)
      have HLB := Lib.hid (show w.heap.size + 1 ≤ w1.heap.size by have := HRES.out.lt; omega)
      replace HK := Lib.hid (HK.out.trans hka)
      replace HRES := Lib.hid (HRES.out.kept hka)
      obtain ⟨b7, hb7⟩ : ∃ b, w1.heap.size = b := ⟨_, rfl⟩
      obtain ⟨U, hU⟩ : ∃ U, w1.alloc (.cells #[.slice none 0 0] 24) = U := ⟨_, rfl⟩
      rw [hU] at HK HRES HB7
      rw [hb7] at HB7 HLB
      have HUU := Lib.hid hU
      have HBB := Lib.hid hb7
      clear hg hk hka hU hb7
      go_wp2_with fail
      rw [HUU.out, HBB.out]
      have hb7U := HB7.out.lt
      go_loopw [0, 26] (fun v i wr => ∃ (t : Nat) (s1 : ByteArray) (L : List Fd) (u : Value), t ≤ a ∧ i = .int .i64 t ∧ v = .string s1 ∧ s1.size ≤ 100000 ∧ L.length = t ∧ takeFs (a - t) L s1 = takeFs a [] r ∧ (∀ x ∈ L, x.p.size ≤ 1000 ∧ x.vt.size ≤ 1000) ∧ TakM b7 U wr u L) (fun _ i _ => a - (intOf i).toNat)
      case atStart => exact ⟨0, r, [], .slice none 0 0, Nat.zero_le _, rfl, rfl, hrs2, rfl, rfl, (fun x hx => (by cases hx)), TakM.start HB7.out⟩
      case round =>
        obtain ⟨t, s1, L, u, ht, rfl, rfl, hs1, hll, htk, hsm, hm⟩ := hrel
        obtain ⟨A3, c3, rfl, hf3⟩ := hm.form
        rw [hll] at hm hf3
        have HM := Lib.hid hm; have HTK := Lib.hid htk; have HSM := Lib.hid hsm; have HLL := Lib.hid hll; have HF3 := Lib.hid hf3
        have h31 := hf3.cap.1; have h32 := hf3.cap.2
        have HKW := Lib.hid (hm.ke.kept HK.out (by have := HLB.out; omega))
        have HRW := Lib.hid (HRES.out.keptE hm.ke (by have := HLB.out; omega))
        clear hm htk hsm hll hf3
        by_cases hlt : t < a
        · have hadd : IntKind.i64.wrap ((t : Int) + 1) = ((t + 1 : Nat) : Int) := by rw [IntWalk.i64_in _ (by omega)]; omega
          obtain ⟨x, hx⟩ : ∃ x, tfX s1 = x := ⟨_, rfl⟩
          obtain ⟨y, hy⟩ : ∃ y, tfR s1 = y := ⟨_, rfl⟩
          obtain ⟨q, hq⟩ : ∃ q, tfE s1 = q := ⟨_, rfl⟩
          have AF := Lib.hid (fun w => rfield_any s1 w hs1)
          rw [hx, hy, hq] at AF
          by_cases hq0 : q = 0
          · have hz := tf_sizes (s := s1) (by rw [hq]; exact hq0)
            rw [hx, hy] at hz
            have hys : y.size ≤ 100000 := by omega
            have HSM2 := Lib.hid (show ∀ v ∈ L ++ [x], v.p.size ≤ 1000 ∧ v.vt.size ≤ 1000 from fun v hv => by
              rw [List.mem_append, List.mem_singleton] at hv
              rcases hv with hv | rfl
              · exact HSM.out v hv
              · exact ⟨hz.1, hz.2.1⟩)
            have HN := Lib.hid (show takeFs (a - (t + 1)) (L ++ [x]) y = takeFs a [] r by
              rw [← HTK.out, show a - t = (a - (t + 1)) + 1 by omega, takeFs_ok (by rw [hq]; exact hq0), hx, hy])
            rw [hq0] at AF
            clear hx hy hq hq0 hz
            go_wp2_with fail
            go_at_call 33
            refine (AF.out _).mono ?_
            rintro e w5 ⟨rfl, hk5⟩
            have hk6 := (hk5.trans ((Kept.refl w5).alloc #[.string x.p, .int .i64 x.k, .int .i64 x.t, .int .i64 x.vk, .int .i64 x.vn, .string x.vt] 30)).trans ((Kept.refl (w5.alloc (.cells #[.string x.p, .int .i64 x.k, .int .i64 x.t, .int .i64 x.vk, .int .i64 x.vn, .string x.vt] 30))).alloc #[.string x.p, .int .i64 x.k, .int .i64 x.t, .int .i64 x.vk, .int .i64 x.vn, .string x.vt] 30)
            have HE5 := FdB.new w5 x 30
            have hone := fl_one (FdB.new (w5.alloc (.cells #[.string x.p, .int .i64 x.k, .int .i64 x.t, .int .i64 x.vk, .int .i64 x.vn, .string x.vt] 30)) x 30)
            obtain ⟨v8, w8, hr8, hc8, hf8, hm8⟩ := TakM.app (HLL.out ▸ HM.out.kept hk6 : TakM b7 U _ (.slice A3 t c3) L) hb7U _ _ _ _ hone (by have := HLL.out; omega)
            rw [show (w5.alloc (.cells #[.string x.p, .int .i64 x.k, .int .i64 x.t, .int .i64 x.vk, .int .i64 x.vn, .string x.vt] 30)).heap.size = w5.heap.size + 1 by simp] at hr8
            obtain ⟨A8, c8, rfl, hfo8⟩ := hm8.form
            have hl8 : (L ++ [x]).length = t + 1 := by rw [List.length_append, HLL.out]; rfl
            have HL8 := Lib.hid hl8
            rw [hl8] at hr8 hm8 hfo8
            have h81 := hfo8.cap.1; have h82 := hfo8.cap.2
            have HR8 := Lib.hid hr8; have HM8 := Lib.hid hm8
            have b0 := ((HM.out.box.kept hk5).kept ((Kept.refl w5).alloc #[.string x.p, .int .i64 x.k, .int .i64 x.t, .int .i64 x.vk, .int .i64 x.vn, .string x.vt] 30)).c0
            have x0 := HE5.c0; have x1 := HE5.c1; have x2 := HE5.c2; have x3 := HE5.c3; have x4 := HE5.c4; have x5 := HE5.c5
            have hf80 := hf8 0
            clear hr8 hm8 hone hk5 hk6 HE5 hf8 hl8 hfo8
            go_wp2_with (at_builtin; refine Lib.wpList_append_run _ rfl (.tmp 39) (.tmp 41) _ _ rfl _ _ rfl rfl _ _ HR8.out ?_)
            go_roundw
            case rel => exact ⟨t + 1, y, L ++ [x], _, hlt, by first | rfl | go_num, rfl, hys, HL8.out, HN.out, HSM2.out, HM8.out⟩
            case measure => simp [intOf]; omega
          · have f1' : ((q : Int) == 0) = false := by simp; omega
            have f2' : ((q : Int) != 0) = true := by simp; omega
            have HT := Lib.hid (show tscL s = ([], ⟨#[]⟩, q) by
              have e : takeFs a [] r = ([], ⟨#[]⟩, q) := by
                rw [← HTK.out, show a - t = (a - (t + 1)) + 1 by omega, takeFs_err (by rw [hq]; exact hq0), hq]
              rw [HTT.out, e, if_pos hq0])
            clear hx hy hq hq0
            go_wp2_with fail
            go_at_call 33
            refine (AF.out _).mono ?_
            rintro e w5 ⟨rfl, hk5⟩
            have hk6 := hk5.trans ((Kept.refl w5).alloc #[.string x.p, .int .i64 x.k, .int .i64 x.t, .int .i64 x.vk, .int .i64 x.vn, .string x.vt] 30)
            have hr := HRW.out.kept hk6
            have rf := hr.f
            have r0 := hr.c0
            have HKF := Lib.hid (HKW.out.trans hk6)
            clear hr hk5 hk6
            have HF := Lib.hid (takS_err HT.out (HKF.out.setCell (a := ⟨w.heap.size, 0, none⟩) (Nat.le_refl _) (.slice none 0 0)))
            go_wp2_with fail
            exact bodyPost_ret (by simp [results, Tryz.results9, go_sem, *]) rfl HF.out
        · have hta : t = a := by omega
          have HALL := Lib.hid (show takeFs a [] r = (L, s1, 0) by rw [← HTK.out, hta, Nat.sub_self]; rfl)
          rw [hta] at HLL ⊢
          rw [hta] at HF3 HM h31
          clear hlt ht hta
          have b0 := HM.out.box.c0
          obtain ⟨ok, hok⟩ : ∃ b : Bool, b = true ↔ ScOk L := by
            by_cases e : ScOk L
            · exact ⟨true, fun _ => e, fun _ => rfl⟩
            · exact ⟨false, (fun h => by cases h), fun h => absurd h e⟩
          have AR := Lib.hid (rsc_any A3 a c3 L wr HF3.out (fun v hv => ⟨Nat.le_trans (HSM.out v hv).1 (by decide), Nat.le_trans (HSM.out v hv).2 (by decide)⟩) ok hok)
          have HOK := Lib.hid hok
          clear hok
          go_wp2_with fail
          go_at_call 14
          refine AR.out.mono ?_
          rintro e w6 ⟨rfl, hk6⟩
          have hr := HRW.out.kept hk6
          have rf := hr.f
          have r0 := hr.c0
          have HKF := Lib.hid (HKW.out.trans hk6)
          have HFF := Lib.hid (HF3.out.kept hk6)
          have HRF := Lib.hid (HRW.out.kept hk6)
          have b1 := hk6.cell b0
          clear hr hk6 b0
          cases ok with
          | false =>
            have HT := Lib.hid (show tscL s = ([], ⟨#[]⟩, 3) by
              rw [HTT.out, HALL.out, if_neg (by simp), if_neg (fun h => by have := HOK.out.2 h; cases this)])
            have HF := Lib.hid (takS_err (z := 3) HT.out (HKF.out.setCell (a := ⟨w.heap.size, 0, none⟩) (Nat.le_refl _) (.slice none 0 0)))
            go_wp2_with fail
            exact bodyPost_ret (by simp [results, Tryz.results9, go_sem, *]) rfl HF.out
          | true =>
            have HT := Lib.hid (show tscL s = (L, s1, 0) by
              rw [HTT.out, HALL.out, if_neg (by simp), if_pos (HOK.out.1 rfl)])
            have HF := Lib.hid (show TakS s w (.returned (.tuple #[.agg #[.slice A3 a c3], .string s1, .int .i64 0])) (w6.setCell ⟨w.heap.size, 0, none⟩ (.slice A3 a c3)) by
              have h1 := takS_ok HT.out (A := A3) (c := c3) (w := w) (w' := w6.setCell ⟨w.heap.size, 0, none⟩ (.slice A3 a c3)) (by rw [HLL.out]; exact HRF.out.fl _ HFF.out) (HKF.out.setCell (a := ⟨w.heap.size, 0, none⟩) (Nat.le_refl _) _)
              rw [HLL.out] at h1
              exact h1)
            go_wp2_with fail
            exact bodyPost_ret (by simp [results, Tryz.results9, go_sem, *]) rfl HF.out
end Go.Proofs.YtjieofiaoepccaaGreatDoor

