/-
  What is proved: package step's below and Move (P14.2), called with any step and pattern of bounded lengths, return what the chapter says; the world has new blocks at most.
  slices.Clone at pairs, as the library's text has it, and package table's Turn of layer 13 (P13.3), called with any table, returns it turned, its pairs in memory of their own; the world has new blocks at most.
  words for steps that are handed back whole: the results of a function, read from a block that holds a step; the step of all zeros; what Turn hands back.
-/
import Derived.Test.YtofnpifooaijcaaGreatM15
import Derived.Test.YtofnpifooaijcaaGreatM12
import Derived.Test.YtofnpifooaijcaaGreatM9
import Derived.Test.YtofnpifooaijcaaGreatM13
import Derived.Test.YtofnpifooaijcaaGreatM14
namespace Go.Proofs.YtofnpifooaijcaaGreat
open Go.RowKit
set_option linter.unusedVariables false
theorem sswapN (p : ByteArray) (i : Int) (r : ByteArray) (hr : L4.swapS p i [] = r) (hp : p.size ≤ 2000) (hi1 : -9223372036854775808 ≤ i) (hi2 : i ≤ 9223372036854775807) (w : World) :
    Calls Tryz.prog 52 #[.string p, .int .i64 i, .slice none 0 0] w fun e w' => e = .returned (.string r) ∧ Kept w w' := by
  subst hr
  exact (L4.swap_any p i none 0 0 [] w hp hi1 hi2 (.inl ⟨rfl, rfl, rfl, rfl⟩) (by omega) (fun x hx => by simp at hx)).mono fun _ _ ⟨he, hk⟩ => ⟨he, kept_of_below hk⟩
theorem sswapM (p : ByteArray) (i : Int) (b n c : Nat) (M : List ByteArray) (r : ByteArray) (hr : L4.swapS p i M = r) (hp : p.size ≤ 2000) (hi1 : -9223372036854775808 ≤ i) (hi2 : i ≤ 9223372036854775807) (hn : n ≤ 1000) (hx : ∀ x ∈ M, x.size ≤ 2000) (w : World) (h : L4.Sl w ⟨b, 0, none⟩ n c M) :
    Calls Tryz.prog 52 #[.string p, .int .i64 i, .slice (some ⟨b, 0, none⟩) n c] w fun e w' => e = .returned (.string r) ∧ Kept w w' := by
  subst hr
  exact (L4.swap_any p i _ n c M w hp hi1 hi2 (.inr ⟨_, rfl, h⟩) hn hx).mono fun _ _ ⟨he, hk⟩ => ⟨he, kept_of_below hk⟩
theorem under_joi (p : ByteArray) : L4.joiS [p, ⟨#[42]⟩] = underB p := by
  have e : (L4.joiS [p, ⟨#[42]⟩]).data.toList = (underB p).data.toList := by
    unfold L4.joiS underB
    rw [ba_app]
    show L4.joi [p.data.toList, [42]] = _
    rw [L4.joi_cons2, L4.joi_one]
  have : ∀ a b : ByteArray, a.data.toList = b.data.toList → a = b := fun a b h => by cases a; cases b; simpa using h
  exact this _ _ e
set_option maxHeartbeats 4000000 in
theorem sbelow_any (p : ByteArray) (hp : p.size ≤ 4000) (w : World) :
    Calls Tryz.prog 53 #[.string p] w fun e w' => e = .returned (.string (underB p)) ∧ Kept w w' := by
  have HF := Lib.hid (under_joi p)
  have hka := (Kept.refl w).alloc #[.string p, .string ⟨#[42]⟩] 9
  have hsl := sl_two w p ⟨#[42]⟩ 9
  have hfew : L4.Few [p, ⟨#[42]⟩] := ⟨by simp, fun x hx => by
    simp only [List.mem_cons, List.not_mem_nil, or_false] at hx
    rcases hx with rfl | rfl
    · omega
    · decide⟩
  have A1 := Lib.hid (fun (w : World) h => L4.join_any w.heap.size 0 2 2 [p, ⟨#[42]⟩] (w.alloc (.cells #[.string p, .string ⟨#[42]⟩] 9)) h hfew)
  have HK := Lib.hid hka; have HS := Lib.hid hsl
  clear hka hsl hfew hp
  go_enter Tryz.func53, Tryz.ntmps53
  go_wp2_with fail
  go_at_call 114
  refine (A1.out w HS.out).mono ?_
  rintro e w1 ⟨rfl, hk⟩
  replace HK := Lib.hid (HK.out.trans (kept_of_below hk))
  clear hk
  go_wp2_with fail
  go_ret
  exact ⟨congrArg (fun z => Ending.returned (.string z)) HF.out, HK.out⟩
set_option maxRecDepth 100000 in
set_option maxHeartbeats 8000000 in
theorem smove_any (p : ByteArray) (A : Option Addr) (n c : Nat) (x : St) (w : World) (hp : p.size ≤ 2000) (hxp : x.p.size ≤ 2000) (hnm : x.nm.size ≤ 2000) (r : ByteArray) (hr0 : moveS x p = r) :
    Calls Tryz.prog 12 #[.agg (cellS A n c x).toArray, .string p] w fun e w' => e = .returned (.string r) ∧ Kept w w' := by
  have HK := Lib.hid ((Kept.refl w).alloc (cellS A n c x).toArray 33)
  have HB := Lib.hid (StB.new w A n c x 33)
  obtain ⟨z, hz⟩ := bool_of (preS p x.p)
  have A0 := Lib.hid (fun w => spre_any p x.p (by omega) (by omega) z hz w)
  obtain ⟨U, hU⟩ : ∃ U, w.alloc (.cells (cellS A n c x).toArray 33) = U := ⟨_, rfl⟩
  rw [hU] at HK HB
  have HUU := Lib.hid hU
  cases z with
  | false =>
    have HF := Lib.hid (show p = r by
      rw [← hr0, moveS_out (fun h => by have := hz.2 h; cases this)])
    have c1 := HB.out.c1
    clear hz hr0 hp hxp hnm hU
    go_enter Tryz.func12, Tryz.ntmps12
    go_wp2_with (rw [HUU.out])
    go_at_call 14
    refine (A0.out _).mono ?_
    rintro e u1 ⟨rfl, rfl⟩
    go_wp2_with fail
    go_ret
    exact ⟨ret_str HF.out, HK.out⟩
  | true =>
    have hpre : preS p x.p := by simpa using hz
    have hr : movedS x p = r := by rw [← hr0, moveS_in hpre]
    have hle : x.k = 3 → (sL x.p).length ≤ (sL p).length := fun _ => hpre.length_le
    clear hpre hr0 hz
    obtain ⟨m, hm⟩ : ∃ m, (L4.splS x.p).length = m := ⟨_, rfl⟩
    have A1 := Lib.hid (fun w => spl_n x.p m hm (by omega) w)
    have hmm : m ≤ 2001 := by rw [← hm]; have := L4.splS_le x.p; omega
    have hm1 : 1 ≤ m := by rw [← hm]; exact L4.splS_pos x.p
    rw [splS_sL] at hm
    have HM := Lib.hid hm; have HLE := Lib.hid hle; have HR := Lib.hid hr; have HPZ := Lib.hid hp; have HNZ := Lib.hid hnm
    have w1 : IntKind.i64.wrap ((m : Int) - 1) = ((m - 1 : Nat) : Int) := by rw [IntWalk.i64_in _ (by omega)]; omega
    have w2 : IntKind.i64.wrap ((m : Int) - 2) = (m : Int) - 2 := by rw [IntWalk.i64_in _ (by omega)]
    clear hm hle hr hp hxp hnm hU
    have c0 := HB.out.c0; have c1 := HB.out.c1; have c2 := HB.out.c2
    go_enter Tryz.func12, Tryz.ntmps12
    go_wp2_with (rw [HUU.out])
    go_at_call 14
    refine (A0.out _).mono ?_
    rintro e u1 ⟨rfl, rfl⟩
    go_wp2_with fail
    go_at_call 51
    refine (A1.out _).mono ?_
    rintro e u1 ⟨b1, c3, rfl, hs1, hk⟩
    have hb1 := hs1.2.1; have hb2 := hs1.2.2.1
    replace HK := Lib.hid (HK.out.trans hk); replace HB := Lib.hid (HB.out.kept hk)
    clear hs1 hk c0 c1 c2
    have c0 := HB.out.c0; have c1 := HB.out.c1; have c2 := HB.out.c2
    by_cases q : x.k = 1
    · obtain ⟨y, hy⟩ : ∃ y, L4.swapS p ((m - 1 : Nat) : Int) [x.nm] = y := ⟨_, rfl⟩
      have HF := Lib.hid (show y = r by rw [← HR.out, ← hy]; unfold movedS; rw [if_pos q]; rw [HM.out, show ((m : Int) - 1) = ((m - 1 : Nat) : Int) by omega])
      have AW := Lib.hid (fun b w h => sswapM p ((m - 1 : Nat) : Int) b 1 1 [x.nm] y hy HPZ.out (by omega) (by omega) (by omega) (fun z hz => by rw [List.mem_singleton] at hz; subst hz; exact HNZ.out) w h)
      have e11 : (x.k == 1) = true := by rw [q]; rfl
      have e12 : decide (x.k = 1) = true := decide_eq_true q
      clear q hy
      have hka := (Kept.refl u1).alloc #[.string x.nm] 9
      have hsl := sl_one u1 x.nm 9
      replace HK := Lib.hid (HK.out.trans hka)
      clear hka
      go_wp2_with fail
      go_at_call 52
      refine (AW.out _ _ hsl).mono ?_
      rintro e u2 ⟨rfl, hk⟩
      replace HK := Lib.hid (HK.out.trans hk)
      clear hk
      go_wp2_with fail
      go_ret
      exact ⟨ret_str HF.out, HK.out⟩
    · have n1 := q
      clear q
      by_cases q : x.k = 2
      · have n11 : (x.k == 1) = false := by simpa using n1
        have n12 : decide (x.k = 1) = false := decide_eq_false n1
        obtain ⟨y, hy⟩ : ∃ y, L4.swapS p ((m : Int) - 2) [] = y := ⟨_, rfl⟩
        have HF := Lib.hid (show y = r by rw [← HR.out, ← hy]; unfold movedS; rw [if_neg (by omega)]; rw [if_pos q]; rw [HM.out])
        have AW := Lib.hid (fun w => sswapN p ((m : Int) - 2) y hy HPZ.out (by omega) (by omega) w)
        have e21 : (x.k == 2) = true := by rw [q]; rfl
        have e22 : decide (x.k = 2) = true := decide_eq_true q
        clear q hy
        go_wp2_with fail
        go_at_call 52
        refine (AW.out _).mono ?_
        rintro e u2 ⟨rfl, hk⟩
        replace HK := Lib.hid (HK.out.trans hk)
        clear hk
        go_wp2_with fail
        go_ret
        exact ⟨ret_str HF.out, HK.out⟩
      · have n2 := q
        clear q
        by_cases q : x.k = 3
        · have n11 : (x.k == 1) = false := by simpa using n1
          have n12 : decide (x.k = 1) = false := decide_eq_false n1
          have n21 : (x.k == 2) = false := by simpa using n2
          have n22 : decide (x.k = 2) = false := decide_eq_false n2
          have hle := HLE.out q
          rw [HM.out] at hle
          obtain ⟨np, hnp⟩ : ∃ k, (L4.splS p).length = k := ⟨_, rfl⟩
          have hlt : m - 1 < np := by rw [← hnp, splS_sL]; omega
          have A2 := Lib.hid (fun w => spl_n p np hnp (by have := HPZ.out; omega) w)
          obtain ⟨g, hg⟩ : ∃ g, L4.sg p (m - 1) = g := ⟨_, rfl⟩
          have hgz : g.size ≤ 2000 := by rw [← hg]; exact Nat.le_trans (L4.sg_size _ _) HPZ.out
          obtain ⟨y, hy⟩ : ∃ y, L4.swapS p ((m - 1 : Nat) : Int) [x.nm, g] = y := ⟨_, rfl⟩
          have HF := Lib.hid (show y = r by rw [← HR.out, ← hy, ← hg]; unfold movedS; rw [if_neg (by omega)]; rw [if_neg (by omega)]; rw [if_pos q]; rw [HM.out, show ((m : Int) - 1) = ((m - 1 : Nat) : Int) by omega])
          have HG := Lib.hid hg
          have AW := Lib.hid (fun b w h => sswapM p ((m - 1 : Nat) : Int) b 2 2 [x.nm, g] y hy HPZ.out (by omega) (by omega) (by omega) (fun z hz => by simp only [List.mem_cons, List.not_mem_nil, or_false] at hz; rcases hz with rfl | rfl <;> first | exact HNZ.out | exact hgz) w h)
          have hix : ((m : Int) - 1).toNat = m - 1 := by omega
          have e31 : (x.k == 3) = true := by rw [q]; rfl
          have e32 : decide (x.k = 3) = true := decide_eq_true q
          clear q hy hg hnp
          go_wp2_with fail
          clear c0 c1 c2
          have C2 := KExt.cell HB.out.c2
          refine region_plan u1 14 (.read [0, 1, 2, 3, 4, 5, 7, 8] (.one 6 (.one 9 (.one 10 (.one 11 (.one 12 (.read [13] .stop))))))) (by kernel_rfl) (by kernel_rfl) (by kernel_rfl) (by kernel_rfl) (by kernel_rfl) (fun _ d _ _ _ h => by cases d <;> exact h) (Kept.refl _) ?_
          intro wd hwd
          have HV := Lib.hid hwd
          clear hwd
          rw [wpPlan_read]
          simp only [pA, pB, pC, pD, pE]
          repeat (go_big_quiet_step (fail))
          refine wpQuiet_nil ?_
          clear C2
          rw [wpPlan_one]
          simp only [pA, pB, pC, pD, pE]
          go_wp2_with (go_at_call 51; refine (A2.out _).mono ?_; rintro e z1 ⟨b4, c4, rfl, hs4, hkz⟩)
          have hb4 := hs4.2.2.2.1; have h41 := hs4.2.1; have h42 := hs4.2.2.1
          have hcell : z1.cell? ⟨b4, m - 1, none⟩ = some (.string g) := by
            have := hs4.get hlt
            rw [Nat.zero_add] at this
            rw [this, ← HG.out]; rfl
          replace HV := Lib.hid (HV.out.trans hkz)
          clear hkz hs4
          refine soloP HV.out ?_
          rw [wpPlan_one]
          simp only [pA, pB, pC, pD, pE]
          have hin : m - 1 < np := hlt
          go_wp2_with fail
          refine soloP HV.out ?_
          rw [wpPlan_one]
          simp only [pA, pB, pC, pD, pE]
          go_wp2_with fail
          clear hcell
          refine soloP HV.out ?_
          rw [wpPlan_one]
          simp only [pA, pB, pC, pD, pE]
          go_wp2_with fail
          have hkz := (Kept.refl z1).alloc #[.string x.nm, .string g] 9
          have HSL := Lib.hid (sl_two z1 x.nm g 9)
          replace HV := Lib.hid (HV.out.trans hkz)
          obtain ⟨bs, hbs⟩ : ∃ b, (World.heap z1).size = b := ⟨_, rfl⟩
          obtain ⟨z2, hz2⟩ : ∃ u, World.alloc z1 (.cells #[.string x.nm, .string g] 9) = u := ⟨_, rfl⟩
          rw [hz2] at HV HSL ⊢
          rw [hbs] at HSL ⊢
          clear hkz hz2 hbs
          refine soloP HV.out ?_
          rw [wpPlan_one]
          simp only [pA, pB, pC, pD, pE]
          go_wp2_with (go_at_call 52; refine (AW.out _ _ HSL.out).mono ?_; rintro e z3 ⟨rfl, hkz⟩)
          replace HV := Lib.hid (HV.out.trans hkz)
          clear hkz
          refine soloP HV.out ?_
          rw [wpPlan_read]
          simp only [pA, pB, pC, pD, pE]
          repeat (go_big_quiet_step (fail))
          refine wpQuiet_nil ?_
          refine wpPlan_stop ?_
          go_wp2_with fail
          go_ret
          exact ⟨ret_str HF.out, HK.out.trans HV.out⟩
        · have n3 := q
          clear q
          by_cases q : x.k = 6
          · have n11 : (x.k == 1) = false := by simpa using n1
            have n12 : decide (x.k = 1) = false := decide_eq_false n1
            have n21 : (x.k == 2) = false := by simpa using n2
            have n22 : decide (x.k = 2) = false := decide_eq_false n2
            have n31 : (x.k == 3) = false := by simpa using n3
            have n32 : decide (x.k = 3) = false := decide_eq_false n3
            have HF := Lib.hid (show underB p = r by rw [← HR.out]; unfold movedS; rw [if_neg (by omega)]; rw [if_neg (by omega)]; rw [if_neg (by omega)]; rw [if_pos q])
            have e61 : (x.k == 6) = true := by rw [q]; rfl
            have e62 : decide (x.k = 6) = true := decide_eq_true q
            clear q
            have AB := Lib.hid (fun w => sbelow_any p (by have := HPZ.out; omega) w)
            go_wp2_with fail
            go_at_call 53
            refine (AB.out _).mono ?_
            rintro e u2 ⟨rfl, hk⟩
            replace HK := Lib.hid (HK.out.trans hk)
            clear hk
            go_wp2_with fail
            go_ret
            exact ⟨ret_str HF.out, HK.out⟩
          · have n6 := q
            clear q
            by_cases q : x.k = 7
            · have n11 : (x.k == 1) = false := by simpa using n1
              have n12 : decide (x.k = 1) = false := decide_eq_false n1
              have n21 : (x.k == 2) = false := by simpa using n2
              have n22 : decide (x.k = 2) = false := decide_eq_false n2
              have n31 : (x.k == 3) = false := by simpa using n3
              have n32 : decide (x.k = 3) = false := decide_eq_false n3
              have n61 : (x.k == 6) = false := by simpa using n6
              have n62 : decide (x.k = 6) = false := decide_eq_false n6
              obtain ⟨y, hy⟩ : ∃ y, L4.swapS p (m : Int) [] = y := ⟨_, rfl⟩
              have HF := Lib.hid (show y = r by rw [← HR.out, ← hy]; unfold movedS; rw [if_neg (by omega)]; rw [if_neg (by omega)]; rw [if_neg (by omega)]; rw [if_neg (by omega)]; rw [if_pos q]; rw [HM.out])
              have AW := Lib.hid (fun w => sswapN p (m : Int) y hy HPZ.out (by omega) (by omega) w)
              have e71 : (x.k == 7) = true := by rw [q]; rfl
              have e72 : decide (x.k = 7) = true := decide_eq_true q
              clear q hy
              go_wp2_with fail
              go_at_call 52
              refine (AW.out _).mono ?_
              rintro e u2 ⟨rfl, hk⟩
              replace HK := Lib.hid (HK.out.trans hk)
              clear hk
              go_wp2_with fail
              go_ret
              exact ⟨ret_str HF.out, HK.out⟩
            · have n7 := q
              clear q
              have HF := Lib.hid (show p = r by rw [← HR.out]; unfold movedS; rw [if_neg n1, if_neg n2, if_neg n3, if_neg n6, if_neg n7])
              have n11 : (x.k == 1) = false := by simpa using n1
              have n12 : decide (x.k = 1) = false := decide_eq_false n1
              have n21 : (x.k == 2) = false := by simpa using n2
              have n22 : decide (x.k = 2) = false := decide_eq_false n2
              have n31 : (x.k == 3) = false := by simpa using n3
              have n32 : decide (x.k = 3) = false := decide_eq_false n3
              have n61 : (x.k == 6) = false := by simpa using n6
              have n62 : decide (x.k = 6) = false := decide_eq_false n6
              have n71 : (x.k == 7) = false := by simpa using n7
              have n72 : decide (x.k = 7) = false := decide_eq_false n7
              clear n1 n2 n3 n6 n7
              go_wp2_with fail
              go_ret
              exact ⟨ret_str HF.out, HK.out⟩
set_option maxRecDepth 100000 in
set_option maxHeartbeats 8000000 in
theorem cloneP_any (A : Option Addr) (n c : Nat) (L : List Pa) (w : World) (h : Pal w A n c L) (hn : n ≤ 1000000) :
    Calls Tryz.prog 118 #[.slice A n c] w fun e w' => ∃ A' c', e = .returned (.slice A' n c') ∧ Pal w' A' n c' L ∧ (∀ ad, A' = some ad → w.heap.size ≤ ad.block) ∧ Kept w w' := by
  have q22 : ∀ (w : World) (a : Option Addr) (n c n' c' : Nat), (binOp .eql 29 (.slice a n c) (.slice none n' c')).run Tryz.prog w = .ok (.bool a.isNone) w := fun w a n c n' c' => Lib.run_eql_slice_nil w _ _ a n c n' c' Tryz.underlying29
  cases A with
  | none =>
    obtain rfl : n = 0 := by have := h.2.2.2.1 rfl; have := h.2.1; omega
    have hL : L = [] := List.eq_nil_of_length_eq_zero h.1.symm
    subst hL
    clear h
    go_enter Tryz.func118, Tryz.ntmps118
    go_wp2
    go_ret
    exact ⟨none, 0, rfl, Pal.nil _, (fun ad e => by cases e), Kept.refl _⟩
  | some ad =>
    obtain ⟨v1, w1, hr1, ho1, hg1, _⟩ := app_pas (w.alloc (.cells #[] 99)) w.heap.size (.slice (some ⟨w.heap.size, 0, none⟩) 0 0) 0 [] (World.ownsRow_made w #[] 0 (Nat.le_refl _) (Nat.zero_le _) (by simp)) (some ad) n c L (h.kept ((Kept.refl w).alloc _ _)) (by omega) (by simp)
    rw [Nat.zero_add, List.nil_append] at ho1
    obtain ⟨A2, c2, rfl, hp2, hb2⟩ := Pal.of_own' ho1
    have HK := Lib.hid (kept_grown ((Kept.refl w).alloc #[] 99) hg1 (fun k hk => by simp [Value.ownBlock] at hk; omega))
    have HR1 := Lib.hid hr1
    have HP2 := Lib.hid hp2
    have HB2 := Lib.hid hb2
    clear hr1 ho1 hg1 h hp2 hb2
    go_enter Tryz.func118, Tryz.ntmps118
    go_wp2_with (at_builtin; refine Lib.wpList_append_run _ rfl _ _ _ _ rfl _ _ rfl rfl _ _ HR1.out ?_)
    go_ret
    exact ⟨A2, c2, rfl, HP2.out, HB2.out, HK.out⟩
def TurnSB (n : Nat) (T : Tb) (w : World) (e : Ending) (w' : World) : Prop :=
  ∃ A c, e = .returned (.agg #[.slice A n c, .bool T.keep, .int .i64 T.d.k, .int .i64 T.d.n, .string T.d.t, .int .i64 T.b.k, .int .i64 T.b.n, .string T.b.t, .bool (!T.tu)]) ∧ Pal w' A n c T.L ∧ Kept w w' ∧ ∀ ad, A = some ad → w.heap.size ≤ ad.block
set_option maxRecDepth 100000 in
set_option maxHeartbeats 8000000 in
theorem htturnB_any (A : Option Addr) (n c : Nat) (T : Tb) (w : World) (h : Pal w A n c T.L) (hz : SzT T)  :
    Calls Tryz.prog 60 #[.agg #[.slice A n c, .bool T.keep, .int .i64 T.d.k, .int .i64 T.d.n, .string T.d.t, .int .i64 T.b.k, .int .i64 T.b.n, .string T.b.t, .bool T.tu]] w (TurnSB n T w) := by
  have hk := ((Kept.refl w).alloc #[.slice A n c, .bool T.keep, .int .i64 T.d.k, .int .i64 T.d.n, .string T.d.t, .int .i64 T.b.k, .int .i64 T.b.n, .string T.b.t, .bool T.tu] 31).alloc #[.slice none 0 0, .bool false, .int .i64 0, .int .i64 0, .string ⟨#[]⟩, .int .i64 0, .int .i64 0, .string ⟨#[]⟩, .bool false] 31
  have ht := (TabB.new w A n c T 31).kept ((Kept.refl _).alloc #[.slice none 0 0, .bool false, .int .i64 0, .int .i64 0, .string ⟨#[]⟩, .int .i64 0, .int .i64 0, .string ⟨#[]⟩, .bool false] 31)
  have hr := TabB.new (w.alloc (.cells #[.slice A n c, .bool T.keep, .int .i64 T.d.k, .int .i64 T.d.n, .string T.d.t, .int .i64 T.b.k, .int .i64 T.b.n, .string T.b.t, .bool T.tu] 31)) none 0 0 .none 31
  simp only [Tb.none, Va.zero] at hr
  rw [show (w.alloc (.cells #[.slice A n c, .bool T.keep, .int .i64 T.d.k, .int .i64 T.d.n, .string T.d.t, .int .i64 T.b.k, .int .i64 T.b.n, .string T.b.t, .bool T.tu] 31)).heap.size = w.heap.size + 1 by simp] at hr
  have hnn : n ≤ 1000000 := by have := hz.few; have := h.1; omega
  have hh := h.kept hk
  have hsz : ((w.alloc (.cells #[.slice A n c, .bool T.keep, .int .i64 T.d.k, .int .i64 T.d.n, .string T.d.t, .int .i64 T.b.k, .int .i64 T.b.n, .string T.b.t, .bool T.tu] 31)).alloc (.cells #[.slice none 0 0, .bool false, .int .i64 0, .int .i64 0, .string ⟨#[]⟩, .int .i64 0, .int .i64 0, .string ⟨#[]⟩, .bool false] 31)).heap.size = w.heap.size + 2 := by simp
  obtain ⟨U, hU⟩ : ∃ U, (w.alloc (.cells #[.slice A n c, .bool T.keep, .int .i64 T.d.k, .int .i64 T.d.n, .string T.d.t, .int .i64 T.b.k, .int .i64 T.b.n, .string T.b.t, .bool T.tu] 31)).alloc (.cells #[.slice none 0 0, .bool false, .int .i64 0, .int .i64 0, .string ⟨#[]⟩, .int .i64 0, .int .i64 0, .string ⟨#[]⟩, .bool false] 31) = U := ⟨_, rfl⟩
  rw [hU] at hk ht hr hh hsz
  have AC := Lib.hid (cloneP_any A n c T.L U hh hnn)
  have HK := Lib.hid hk; have HUU := Lib.hid hU; have HT := Lib.hid ht; have HR := Lib.hid hr
  have HSZ := Lib.hid hsz
  have t0 := HT.out.c0
  clear h hz hk ht hr hU hh hnn hsz
  go_enter Tryz.func60, Tryz.ntmps60
  go_wp2_with fail
  rw [HUU.out]
  go_wp2_with fail
  go_at_call 118
  refine AC.out.mono ?_
  rintro e w1 ⟨A1, c1, rfl, hp1, ha1, hk1⟩
  have HK1 := Lib.hid (HK.out.trans hk1)
  have HP1 := Lib.hid hp1; have HA1 := Lib.hid ha1
  have ht1 := HT.out.kept hk1; have hr1 := HR.out.kept hk1
  have hlow0 : w.heap.size < U.heap.size := by have := HSZ.out; omega
  have hlow1 : w.heap.size + 1 < U.heap.size := by have := HSZ.out; omega
  have t1 := ht1.c1; have t2 := ht1.c2; have t3 := ht1.c3; have t4 := ht1.c4; have t5 := ht1.c5; have t6 := ht1.c6; have t7 := ht1.c7; have t8 := ht1.c8; have tf := ht1.f
  clear t0
  have t0 := ht1.c0
  have r0 := hr1.c0; have r1 := hr1.c1; have r2 := hr1.c2; have r3 := hr1.c3; have r4 := hr1.c4; have r5 := hr1.c5; have r6 := hr1.c6; have r7 := hr1.c7; have r8 := hr1.c8; have rf := hr1.f
  have HL := Lib.hid (And.intro hlow0 hlow1)
  clear hp1 ha1 hk1 ht1 hr1 hlow0 hlow1
  go_wp2_with fail
  have hlow0 := HL.out.1; have hlow1 := HL.out.2
  refine bodyPost_ret (by simp [results, Tryz.results60, go_sem, *]) rfl ⟨A1, c1, rfl, ?_, ?_, fun ad e => by have := HA1.out ad e; have := HL.out.1; omega⟩
  · exact ((((((((((HP1.out.setLow HA1.out w.heap.size 0 hlow0 _).setLow HA1.out (w.heap.size) 8 hlow0 _).setLow HA1.out (w.heap.size + 1) 0 hlow1 _).setLow HA1.out (w.heap.size + 1) 1 hlow1 _).setLow HA1.out (w.heap.size + 1) 2 hlow1 _).setLow HA1.out (w.heap.size + 1) 3 hlow1 _).setLow HA1.out (w.heap.size + 1) 4 hlow1 _).setLow HA1.out (w.heap.size + 1) 5 hlow1 _).setLow HA1.out (w.heap.size + 1) 6 hlow1 _).setLow HA1.out (w.heap.size + 1) 7 hlow1 _).setLow HA1.out (w.heap.size + 1) 8 hlow1 _
  · exact ((((((((((HK1.out.setCell (a := ⟨w.heap.size, 0, none⟩) (Nat.le_refl _) _).setCell (a := ⟨w.heap.size, 8, none⟩) (Nat.le_refl _) _).setCell (a := ⟨w.heap.size + 1, 0, none⟩) (Nat.le_add_right _ 1) _).setCell (a := ⟨w.heap.size + 1, 1, none⟩) (Nat.le_add_right _ 1) _).setCell (a := ⟨w.heap.size + 1, 2, none⟩) (Nat.le_add_right _ 1) _).setCell (a := ⟨w.heap.size + 1, 3, none⟩) (Nat.le_add_right _ 1) _).setCell (a := ⟨w.heap.size + 1, 4, none⟩) (Nat.le_add_right _ 1) _).setCell (a := ⟨w.heap.size + 1, 5, none⟩) (Nat.le_add_right _ 1) _).setCell (a := ⟨w.heap.size + 1, 6, none⟩) (Nat.le_add_right _ 1) _).setCell (a := ⟨w.heap.size + 1, 7, none⟩) (Nat.le_add_right _ 1) _).setCell (a := ⟨w.heap.size + 1, 8, none⟩) (Nat.le_add_right _ 1) _
def St.zero : St := ⟨0, ⟨#[]⟩, ⟨#[]⟩, ⟨⟨#[]⟩, 0, 0, 0, 0, ⟨#[]⟩⟩, ⟨0, 0, ⟨#[]⟩⟩, 0, 0, ⟨[], false, ⟨0, 0, ⟨#[]⟩⟩, ⟨0, 0, ⟨#[]⟩⟩, false⟩⟩
theorem StB.zero (w : World) (ty : TypeId) : StB (w.alloc (.cells #[.int .i64 0, .string ⟨#[]⟩, .string ⟨#[]⟩, .string ⟨#[]⟩, .int .i64 0, .int .i64 0, .int .i64 0, .int .i64 0, .string ⟨#[]⟩, .int .i64 0, .int .i64 0, .string ⟨#[]⟩, .int .i64 0, .int .i64 0, .slice none 0 0, .bool false, .int .i64 0, .int .i64 0, .string ⟨#[]⟩, .int .i64 0, .int .i64 0, .string ⟨#[]⟩, .bool false] ty)) w.heap.size none 0 0 St.zero := StB.new w none 0 0 St.zero ty
theorem results_step {fn : Func} {t : Tmp} (h : fn.results = #[.cell t 33]) (tmps : Array Value) {b : Nat} (ht : tmps.getD t undef = .pointer (some ⟨b, 0, none⟩)) {w : World} {A : Option Addr} {n c : Nat} {x : St} (hs : StB w b A n c x) :
    (results fn tmps).run Tryz.prog w = .ok (.agg (cellS A n c x).toArray) w := by
  have e := run_loadVar_mid (P := Tryz.prog) w b 0 33 (cellS A n c x) _ hs.r Tryz.underlying33 rfl (step_size A n c x)
  have ht2 : tmps[t]?.getD undef = .pointer (some ⟨b, 0, none⟩) := by rw [← ht, Array.getD_eq_getD_getElem?]
  simp [results, h, ht2, asAddr, e]
theorem results_step3 {fn : Func} {t u v : Tmp} (h : fn.results = #[.cell t 33, .tmp u, .tmp v]) (tmps : Array Value) {b : Nat} (ht : tmps.getD t undef = .pointer (some ⟨b, 0, none⟩)) {w : World} {A : Option Addr} {n c : Nat} {x : St} (hs : StB w b A n c x) :
    (results fn tmps).run Tryz.prog w = .ok (.tuple #[.agg (cellS A n c x).toArray, tmps.getD u undef, tmps.getD v undef]) w := by
  have e := run_loadVar_mid (P := Tryz.prog) w b 0 33 (cellS A n c x) _ hs.r Tryz.underlying33 rfl (step_size A n c x)
  have ht2 : tmps[t]?.getD undef = .pointer (some ⟨b, 0, none⟩) := by rw [← ht, Array.getD_eq_getD_getElem?]
  simp [results, h, ht2, asAddr, e]
def TurnE (x : St) (w : World) (e : Ending) (w' : World) : Prop :=
  ∃ (A : Option Addr) (n c : Nat), e = .returned (.agg (cellS A n c (turnSt x)).toArray) ∧ Pal w' A n c (turnSt x).T.L ∧ Kept w w'
theorem Pal.setLows {A : Option Addr} {n c B : Nat} {L : List Pa} (hA : ∀ ad, A = some ad → B ≤ ad.block) {b : Nat} (hb : b < B) : ∀ (vs : List Value) (o : Nat) (w : World), Pal w A n c L → Pal (w.setCells b o vs) A n c L
  | [], _, _, h => h
  | v :: r, o, w, h => by rw [World.setCells]; exact Pal.setLows hA hb r (o + 1) _ (h.setLow hA b o hb v)
theorem moveS_selfT {x : St} (hm : Mv x) (h2 : x.k = 2 → 2 ≤ (sL x.p).length) : moveS x x.p = paB (toS x) := by
  rw [moveS_mv hm h2]
  unfold mvL
  rw [if_pos (List.prefix_refl _), List.drop_length, List.append_nil]
theorem St.turn1 {x : St} (q : x.k = 1) {m : Nat} (hm : (L4.splS x.p).length = m) : turnSt x = { x with p := moveS x x.p, nm := L4.sg x.p (m - 1) } := by
  rw [moveS_selfT (.inl q) (fun h => by omega)]
  unfold turnSt
  rw [if_pos q, last_sg hm]
  rfl
theorem St.turn2 {x : St} (q : x.k = 2) {m : Nat} (hm : (L4.splS x.p).length = m) (h2 : 2 ≤ m) : turnSt x = { x with k := 3, p := moveS x x.p, nm := L4.sg x.p (m - 2) } := by
  have hl : 2 ≤ (sL x.p).length := by rw [← splS_sL, hm]; exact h2
  rw [moveS_selfT (.inr (.inl q)) (fun _ => hl)]
  unfold turnSt
  rw [if_neg (by omega), if_pos q, if_pos hl, mid_sg hm h2]
  rfl
theorem St.turn2n {x : St} (q : x.k = 2) {m : Nat} (hm : (L4.splS x.p).length = m) (h2 : ¬ 2 ≤ m) : turnSt x = x := by
  have hl : ¬ 2 ≤ (sL x.p).length := by rw [← splS_sL, hm]; exact h2
  unfold turnSt
  rw [if_neg (by omega), if_pos q, if_neg hl]
theorem St.turn3 {x : St} (q : x.k = 3) : turnSt x = { x with k := 2, p := moveS x x.p, nm := ⟨#[]⟩ } := by
  rw [moveS_selfT (.inr (.inr q)) (fun h => by omega)]
  unfold turnSt
  rw [if_neg (by omega), if_neg (by omega), if_pos q]
def oppK (k : Int) : Int := if k = 4 then 5 else if k = 5 then 4 else if k = 6 then 7 else if k = 7 then 6 else if k = 8 then 9 else if k = 9 then 8 else k
theorem St.turn0 {x : St} (q1 : ¬ x.k = 1) (q2 : ¬ x.k = 2) (q3 : ¬ x.k = 3) (q10 : ¬ x.k = 10) : turnSt x = { x with k := oppK x.k } := by
  unfold turnSt oppK
  rw [if_neg q1, if_neg q2, if_neg q3]
  split
  · rfl
  · split
    · rfl
    · split
      · rfl
      · split
        · rfl
        · split
          · rfl
          · split
            · rfl
            · rfl
theorem St.turn10 {x : St} (q : x.k = 10) : turnSt x = { x with a := x.b, b := x.a, T := turnT x.T } := by
  unfold turnSt
  rw [if_neg (by omega), if_neg (by omega), if_neg (by omega), if_neg (by omega), if_neg (by omega), if_neg (by omega), if_neg (by omega), if_neg (by omega), if_neg (by omega), if_pos q]
theorem StB.setT {w : World} {bl : Nat} {A : Option Addr} {n c : Nat} {x : St} (h : StB w bl A n c x) (A' : Option Addr) (n' c' : Nat) (T : Tb) :
    StB (World.setCell (World.setCell (World.setCell (World.setCell (World.setCell (World.setCell (World.setCell (World.setCell (World.setCell w ⟨bl, 14, none⟩ (.slice A' n' c')) ⟨bl, 15, none⟩ (.bool T.keep)) ⟨bl, 16, none⟩ (.int .i64 T.d.k)) ⟨bl, 17, none⟩ (.int .i64 T.d.n)) ⟨bl, 18, none⟩ (.string T.d.t)) ⟨bl, 19, none⟩ (.int .i64 T.b.k)) ⟨bl, 20, none⟩ (.int .i64 T.b.n)) ⟨bl, 21, none⟩ (.string T.b.t)) ⟨bl, 22, none⟩ (.bool T.tu)) bl A' n' c' { x with T := T } :=
  ((((((((h.setAt (i := 14) (y := x) (A' := A') (n' := n') (c' := c') (by decide) rfl).setAt (i := 15) (y := { x with T := ⟨x.T.L, T.keep, x.T.d, x.T.b, x.T.tu⟩ }) (A' := A') (n' := n') (c' := c') (by decide) rfl).setAt (i := 16) (y := { x with T := ⟨x.T.L, T.keep, ⟨T.d.k, x.T.d.n, x.T.d.t⟩, x.T.b, x.T.tu⟩ }) (A' := A') (n' := n') (c' := c') (by decide) rfl).setAt (i := 17) (y := { x with T := ⟨x.T.L, T.keep, ⟨T.d.k, T.d.n, x.T.d.t⟩, x.T.b, x.T.tu⟩ }) (A' := A') (n' := n') (c' := c') (by decide) rfl).setAt (i := 18) (y := { x with T := ⟨x.T.L, T.keep, T.d, x.T.b, x.T.tu⟩ }) (A' := A') (n' := n') (c' := c') (by decide) rfl).setAt (i := 19) (y := { x with T := ⟨x.T.L, T.keep, T.d, ⟨T.b.k, x.T.b.n, x.T.b.t⟩, x.T.tu⟩ }) (A' := A') (n' := n') (c' := c') (by decide) rfl).setAt (i := 20) (y := { x with T := ⟨x.T.L, T.keep, T.d, ⟨T.b.k, T.b.n, x.T.b.t⟩, x.T.tu⟩ }) (A' := A') (n' := n') (c' := c') (by decide) rfl).setAt (i := 21) (y := { x with T := ⟨x.T.L, T.keep, T.d, T.b, x.T.tu⟩ }) (A' := A') (n' := n') (c' := c') (by decide) rfl).setAt (i := 22) (y := { x with T := T }) (A' := A') (n' := n') (c' := c') (by decide) rfl
def stT (w : World) (g : Nat) (A : Option Addr) (n c : Nat) (T : Tb) : World :=
  World.setCell (World.setCell (World.setCell (World.setCell (World.setCell (World.setCell (World.setCell (World.setCell (World.setCell w ⟨g, 14, none⟩ (.slice A n c)) ⟨g, 15, none⟩ (.bool T.keep)) ⟨g, 16, none⟩ (.int .i64 T.d.k)) ⟨g, 17, none⟩ (.int .i64 T.d.n)) ⟨g, 18, none⟩ (.string T.d.t)) ⟨g, 19, none⟩ (.int .i64 T.b.k)) ⟨g, 20, none⟩ (.int .i64 T.b.n)) ⟨g, 21, none⟩ (.string T.b.t)) ⟨g, 22, none⟩ (.bool T.tu)
theorem StB.setTT {w : World} {bl : Nat} {A : Option Addr} {n c : Nat} {x : St} (h : StB w bl A n c x) (A' : Option Addr) (n' c' : Nat) (T : Tb) : StB (stT w bl A' n' c' T) bl A' n' c' { x with T := T } := h.setT A' n' c' T
theorem StB.farT {w : World} {bl g : Nat} {A : Option Addr} {n c : Nat} {x : St} (h : StB w bl A n c x) (hne : g ≠ bl) (A' : Option Addr) (n' c' : Nat) (T : Tb) : StB (stT w g A' n' c' T) bl A n c x :=
  ((((((((h.far hne _).far hne _).far hne _).far hne _).far hne _).far hne _).far hne _).far hne _).far hne _
theorem Kept.setTT {W w : World} {g : Nat} (h : Kept W w) (hg : W.heap.size ≤ g) (A' : Option Addr) (n' c' : Nat) (T : Tb) : Kept W (stT w g A' n' c' T) :=
  ((((((((h.setCell (a := ⟨g, 14, none⟩) hg _).setCell (a := ⟨g, 15, none⟩) hg _).setCell (a := ⟨g, 16, none⟩) hg _).setCell (a := ⟨g, 17, none⟩) hg _).setCell (a := ⟨g, 18, none⟩) hg _).setCell (a := ⟨g, 19, none⟩) hg _).setCell (a := ⟨g, 20, none⟩) hg _).setCell (a := ⟨g, 21, none⟩) hg _).setCell (a := ⟨g, 22, none⟩) hg _
theorem KeptE.setTT {W w : World} {g : Nat} (h : KeptE g W w) (A' : Option Addr) (n' c' : Nat) (T : Tb) : KeptE g W (stT w g A' n' c' T) :=
  ((((((((h.set (a := ⟨g, 14, none⟩) (.inl rfl) _).set (a := ⟨g, 15, none⟩) (.inl rfl) _).set (a := ⟨g, 16, none⟩) (.inl rfl) _).set (a := ⟨g, 17, none⟩) (.inl rfl) _).set (a := ⟨g, 18, none⟩) (.inl rfl) _).set (a := ⟨g, 19, none⟩) (.inl rfl) _).set (a := ⟨g, 20, none⟩) (.inl rfl) _).set (a := ⟨g, 21, none⟩) (.inl rfl) _).set (a := ⟨g, 22, none⟩) (.inl rfl) _
theorem Pal.setTT {w : World} {A : Option Addr} {n c B g : Nat} {L : List Pa} (h : Pal w A n c L) (hA : ∀ ad, A = some ad → B ≤ ad.block) (hg : g < B) (A' : Option Addr) (n' c' : Nat) (T : Tb) : Pal (stT w g A' n' c' T) A n c L :=
  ((((((((h.setLow hA g 14 hg _).setLow hA g 15 hg _).setLow hA g 16 hg _).setLow hA g 17 hg _).setLow hA g 18 hg _).setLow hA g 19 hg _).setLow hA g 20 hg _).setLow hA g 21 hg _).setLow hA g 22 hg _
set_option maxHeartbeats 4000000 in
theorem sopp_any (k : Int) (w : World) : Calls Tryz.prog 61 #[.int .i64 k] w fun e w' => e = .returned (.int .i64 (oppK k)) ∧ w = w' := by
  by_cases q4 : k = 4
  · have HF := Lib.hid (show (5 : Int) = oppK k by unfold oppK; rw [if_pos q4])
    have e41 : (k == 4) = true := by rw [q4]; rfl
    have e42 : decide (k = 4) = true := decide_eq_true q4
    clear q4
    go_enter Tryz.func61, Tryz.ntmps61
    go_wp2
    go_ret
    exact ⟨congrArg (fun z => Ending.returned (Value.int IntKind.i64 z)) HF.out, rfl⟩
  by_cases q5 : k = 5
  · have HF := Lib.hid (show (4 : Int) = oppK k by unfold oppK; rw [if_neg q4, if_pos q5])
    have n41 : (k == 4) = false := by simpa using q4
    have n42 : decide (k = 4) = false := decide_eq_false q4
    have e51 : (k == 5) = true := by rw [q5]; rfl
    have e52 : decide (k = 5) = true := decide_eq_true q5
    clear q4 q5
    go_enter Tryz.func61, Tryz.ntmps61
    go_wp2
    go_ret
    exact ⟨congrArg (fun z => Ending.returned (Value.int IntKind.i64 z)) HF.out, rfl⟩
  by_cases q6 : k = 6
  · have HF := Lib.hid (show (7 : Int) = oppK k by unfold oppK; rw [if_neg q4, if_neg q5, if_pos q6])
    have n41 : (k == 4) = false := by simpa using q4
    have n42 : decide (k = 4) = false := decide_eq_false q4
    have n51 : (k == 5) = false := by simpa using q5
    have n52 : decide (k = 5) = false := decide_eq_false q5
    have e61 : (k == 6) = true := by rw [q6]; rfl
    have e62 : decide (k = 6) = true := decide_eq_true q6
    clear q4 q5 q6
    go_enter Tryz.func61, Tryz.ntmps61
    go_wp2
    go_ret
    exact ⟨congrArg (fun z => Ending.returned (Value.int IntKind.i64 z)) HF.out, rfl⟩
  by_cases q7 : k = 7
  · have HF := Lib.hid (show (6 : Int) = oppK k by unfold oppK; rw [if_neg q4, if_neg q5, if_neg q6, if_pos q7])
    have n41 : (k == 4) = false := by simpa using q4
    have n42 : decide (k = 4) = false := decide_eq_false q4
    have n51 : (k == 5) = false := by simpa using q5
    have n52 : decide (k = 5) = false := decide_eq_false q5
    have n61 : (k == 6) = false := by simpa using q6
    have n62 : decide (k = 6) = false := decide_eq_false q6
    have e71 : (k == 7) = true := by rw [q7]; rfl
    have e72 : decide (k = 7) = true := decide_eq_true q7
    clear q4 q5 q6 q7
    go_enter Tryz.func61, Tryz.ntmps61
    go_wp2
    go_ret
    exact ⟨congrArg (fun z => Ending.returned (Value.int IntKind.i64 z)) HF.out, rfl⟩
  by_cases q8 : k = 8
  · have HF := Lib.hid (show (9 : Int) = oppK k by unfold oppK; rw [if_neg q4, if_neg q5, if_neg q6, if_neg q7, if_pos q8])
    have n41 : (k == 4) = false := by simpa using q4
    have n42 : decide (k = 4) = false := decide_eq_false q4
    have n51 : (k == 5) = false := by simpa using q5
    have n52 : decide (k = 5) = false := decide_eq_false q5
    have n61 : (k == 6) = false := by simpa using q6
    have n62 : decide (k = 6) = false := decide_eq_false q6
    have n71 : (k == 7) = false := by simpa using q7
    have n72 : decide (k = 7) = false := decide_eq_false q7
    have e81 : (k == 8) = true := by rw [q8]; rfl
    have e82 : decide (k = 8) = true := decide_eq_true q8
    clear q4 q5 q6 q7 q8
    go_enter Tryz.func61, Tryz.ntmps61
    go_wp2
    go_ret
    exact ⟨congrArg (fun z => Ending.returned (Value.int IntKind.i64 z)) HF.out, rfl⟩
  by_cases q9 : k = 9
  · have HF := Lib.hid (show (8 : Int) = oppK k by unfold oppK; rw [if_neg q4, if_neg q5, if_neg q6, if_neg q7, if_neg q8, if_pos q9])
    have n41 : (k == 4) = false := by simpa using q4
    have n42 : decide (k = 4) = false := decide_eq_false q4
    have n51 : (k == 5) = false := by simpa using q5
    have n52 : decide (k = 5) = false := decide_eq_false q5
    have n61 : (k == 6) = false := by simpa using q6
    have n62 : decide (k = 6) = false := decide_eq_false q6
    have n71 : (k == 7) = false := by simpa using q7
    have n72 : decide (k = 7) = false := decide_eq_false q7
    have n81 : (k == 8) = false := by simpa using q8
    have n82 : decide (k = 8) = false := decide_eq_false q8
    have e91 : (k == 9) = true := by rw [q9]; rfl
    have e92 : decide (k = 9) = true := decide_eq_true q9
    clear q4 q5 q6 q7 q8 q9
    go_enter Tryz.func61, Tryz.ntmps61
    go_wp2
    go_ret
    exact ⟨congrArg (fun z => Ending.returned (Value.int IntKind.i64 z)) HF.out, rfl⟩
  have HF := Lib.hid (show k = oppK k by unfold oppK; rw [if_neg q4, if_neg q5, if_neg q6, if_neg q7, if_neg q8, if_neg q9])
  have n41 : (k == 4) = false := by simpa using q4
  have n42 : decide (k = 4) = false := decide_eq_false q4
  have n51 : (k == 5) = false := by simpa using q5
  have n52 : decide (k = 5) = false := decide_eq_false q5
  have n61 : (k == 6) = false := by simpa using q6
  have n62 : decide (k = 6) = false := decide_eq_false q6
  have n71 : (k == 7) = false := by simpa using q7
  have n72 : decide (k = 7) = false := decide_eq_false q7
  have n81 : (k == 8) = false := by simpa using q8
  have n82 : decide (k = 8) = false := decide_eq_false q8
  have n91 : (k == 9) = false := by simpa using q9
  have n92 : decide (k = 9) = false := decide_eq_false q9
  clear q4 q5 q6 q7 q8 q9
  go_enter Tryz.func61, Tryz.ntmps61
  go_wp2
  go_ret
  exact ⟨congrArg (fun z => Ending.returned (Value.int IntKind.i64 z)) HF.out, rfl⟩
end Go.Proofs.YtofnpifooaijcaaGreat
