/-
  What is proved: the helper 'awake' of layer 6's laws returns true; the world has new blocks at most.
-/
import Derived.Test.YtgofecnpmohmgaaCtxG
import Derived.Test.YtgofecnpmohmgaaPlanE
import Derived.Deep.DeepCutAuto
namespace Go.Proofs.Ytgofecnpmohmgaa
open Go.RowKit

theorem at_two (x r : Int) : atV [0, x] r = if r = 1 then x else 0 := by
  by_cases h : 0 ≤ r
  · obtain ⟨k, rfl⟩ : ∃ k : Nat, r = k := ⟨r.toNat, by omega⟩
    rw [atV_nat]
    match k with
    | 0 => simp
    | 1 => simp
    | k + 2 => rw [if_neg (by omega)]; simp
  · rw [atV_neg _ (by omega), if_neg (by omega)]
theorem right_two (x : Int) (C : List (Int × Int)) (hx0 : 1 ≤ x) (hx : x ≤ 1073741824) (hr : Rise C) (hd : ∀ d ∈ C, rightD d = true) (ha : ∀ d ∈ C, atV [0, x] d.1 < d.2 - 1) : RightC [0, x] C :=
  ⟨⟨by simp, fun n hn => by simp only [List.mem_cons, List.not_mem_nil, or_false] at hn; omega⟩, fun k hk => by
    obtain rfl : k = 1 := by simp only [List.length_cons, List.length_nil] at hk; omega
    show x ≠ 0
    omega, hr, hd, ha⟩
theorem rightC0 : RightC [0, 2] [((0 : Int), (9 : Int)), (1, 4)] := by
  refine right_two 2 _ (by decide) (by decide) (by unfold Rise LtD; simp) (fun d hd => ?_) (fun d hd => ?_)
  · simp only [List.mem_cons, List.not_mem_nil, or_false] at hd
    rcases hd with rfl | rfl <;> decide
  · simp only [List.mem_cons, List.not_mem_nil, or_false] at hd
    rcases hd with rfl | rfl <;> decide
theorem rightCj : RightC [0, 4] [((0 : Int), (9 : Int))] := by
  refine right_two 4 _ (by decide) (by decide) (by unfold Rise LtD; simp) (fun d hd => ?_) (fun d hd => ?_)
  · simp only [List.mem_cons, List.not_mem_nil, or_false] at hd
    subst hd; decide
  · simp only [List.mem_cons, List.not_mem_nil, or_false] at hd
    subst hd; decide
theorem rightC2 : RightC [] [((1 : Int), (3 : Int))] :=
  ⟨vecOk_nil, fun k hk => by simp at hk, List.pairwise_singleton _ _, fun d hd => by simp only [List.mem_cons, List.not_mem_nil, or_false] at hd; subst hd; decide, fun d hd => by simp only [List.mem_cons, List.not_mem_nil, or_false] at hd; subst hd; decide⟩
theorem setC0 : SetC (CompS [] [((1 : Int), (4 : Int)), (1, 2), (1, 1), (0, 9), (0, 0)]) [0, 2] [((0 : Int), (9 : Int)), (1, 4)] := by
  refine ⟨rightC0, fun d => ?_⟩
  rw [of_has]
  obtain ⟨a, b⟩ := d
  unfold hasC rightD
  rw [at_two, decide_eq_true_iff]
  simp only [List.mem_cons, List.not_mem_nil, or_false, Prod.mk.injEq]
  split <;> omega
theorem setC2 : SetC (CompS [] [((1 : Int), (3 : Int))]) [] [((1 : Int), (3 : Int))] := by
  refine ⟨rightC2, fun d => ?_⟩
  rw [of_has]
  obtain ⟨a, b⟩ := d
  unfold hasC rightD
  rw [atV_nil, decide_eq_true_iff]
  simp only [List.mem_cons, List.not_mem_nil, or_false, Prod.mk.injEq]
  omega
theorem setCj : SetC (fun d => hasC [0, 2] [((0 : Int), (9 : Int)), (1, 4)] d ∨ hasC [] [((1 : Int), (3 : Int))] d) [0, 4] [((0 : Int), (9 : Int))] := by
  refine ⟨rightCj, fun d => ?_⟩
  obtain ⟨a, b⟩ := d
  unfold hasC
  rw [at_two, at_two, atV_nil]
  simp only [List.mem_cons, List.not_mem_nil, or_false, Prod.mk.injEq]
  split <;> omega
theorem setCa : SetC (fun d => hasC [0, 2] [((0 : Int), (9 : Int)), (1, 4)] d ∨ (rightD d = true ∧ d = ((1 : Int), (3 : Int)))) [0, 4] [((0 : Int), (9 : Int))] := by
  refine ⟨rightCj, fun d => ?_⟩
  obtain ⟨a, b⟩ := d
  unfold hasC rightD
  rw [at_two, at_two, decide_eq_true_iff]
  simp only [List.mem_cons, List.not_mem_nil, or_false, Prod.mk.injEq]
  split <;> omega
theorem tcA : tcL ⟨#[1, 0, 0]⟩ = ([], [], ⟨#[]⟩, 3) := by
  have hn : ¬ RightC [0] [] := fun h => h.last 0 rfl rfl
  have h1 : tcL ⟨#[1, 0, 0]⟩ = formC [0] [] ⟨#[]⟩ := by
    unfold tcL
    rw [if_neg (by decide), if_neg (by decide), if_neg (by decide)]
    unfold cloudC
    rw [if_neg (by decide), if_neg (by decide), if_neg (by decide)]
    rfl
  rw [h1]
  unfold formC
  rw [if_neg hn]
theorem dl_lit (w : World) (L : List (Int × Int)) (t : TypeId) (hl : L.length ≤ 1000) : Dl (w.alloc (.cells (flatD L).toArray t)) (some ⟨w.heap.size, 0, none⟩) L.length L.length L := by
  refine ⟨rfl, Nat.le_refl _, by simp only [maxLen]; omega, (fun h => by cases h), .inr ⟨w.heap.size, 0, rfl, fun j x hj => ?_⟩⟩
  have h := flatD_get L j x hj
  rw [World.cell?_alloc_new, World.cell?_alloc_new, Nat.zero_add, List.getElem?_toArray, List.getElem?_toArray]
  exact h
theorem law_d (a b : Int) (w : World) :
    Calls Try.prog 37 #[.int .i64 a, .int .i64 b] w fun e w' => e = .returned (.agg #[.int .i64 a, .int .i64 b]) ∧ Kept w w' := by
  go_enter Try.func37, Try.ntmps37
  go_wp2
  exact bodyPost_ret (by simp [results, Try.results37, go_sem]) rfl ⟨rfl, (Kept.refl w).alloc _ _⟩
theorem il_lt {w : World} {A : Option Addr} {n c : Nat} {V : List Int} (h : Il w A n c V) (hn : 0 < n) : ∀ ad, A = some ad → ad.block < w.heap.size := fun ad e => by
  obtain ⟨b, o, x, hA, _, hc⟩ := h.get hn
  obtain rfl := Option.some.inj (e.symm.trans hA)
  exact World.block_lt_of_cell? w _ hc
theorem dl_lt {w : World} {A : Option Addr} {n c : Nat} {L : List (Int × Int)} (h : Dl w A n c L) (hn : 0 < n) : ∀ ad, A = some ad → ad.block < w.heap.size := fun ad e => by
  obtain ⟨b, o, x, hA, _, hc, _⟩ := h.get hn
  obtain rfl := Option.some.inj (e.symm.trans hA)
  exact World.block_lt_of_cell? w _ hc
structure Two (w : World) (b : Nat) (x0 x1 : Value) : Prop where
  c0 : w.cell? ⟨b, 0, none⟩ = some x0
  c1 : w.cell? ⟨b, 1, none⟩ = some x1
theorem Two.kept {w w' : World} {b : Nat} {x0 x1 : Value} (h : Two w b x0 x1) (hk : Kept w w') : Two w' b x0 x1 := ⟨hk.cell h.c0, hk.cell h.c1⟩
theorem most_c {A : Option Addr} {n c : Nat} {V : List Int} {B : Option Addr} {m k : Nat} {C : List (Int × Int)} {w : World} (r x : Int) (hx : mostC V C r = x) (h : Calls Try.prog 20 #[.agg #[.slice A n c, .slice B m k], .int .i64 r] w (Says (.int .i64 (mostC V C r)) w)) :
    Calls Try.prog 20 #[.agg #[.slice A n c, .slice B m k], .int .i64 r] w (Says (.int .i64 x) w) := by
  subst hx; exact h
theorem dots9 : (dotsC [0, 2] [((0 : Int), (9 : Int)), (1, 4)]).take (9 : Int).toNat = [((1 : Int), (1 : Int)), (1, 2), (0, 9), (1, 4)] := by decide
/-- What the region that makes j leaves. -/
def HasJ (WC : World) (s2 : Value) (wx : World) : Prop :=
  ∃ (A2 : Option Addr) (c2 : Nat) (B2 : Option Addr) (k2 : Nat) (b2 : Nat), s2 = .pointer (some ⟨b2, 0, none⟩) ∧ Kept WC wx ∧ wx.cell? ⟨b2, 0, none⟩ = some (.slice A2 2 c2) ∧ wx.cell? ⟨b2, 1, none⟩ = some (.slice B2 1 k2) ∧ Il wx A2 2 c2 [0, 4] ∧ Dl wx B2 1 k2 [((0 : Int), (9 : Int))]
theorem hasJ_set {WC w5 : World} {A2 B2 : Option Addr} {c2 k2 b : Nat} (hi : Il w5 A2 2 c2 [0, 4]) (hd : Dl w5 B2 1 k2 [((0 : Int), (9 : Int))]) (hA : ∀ ad, A2 = some ad → ad.block ≠ b) (hB : ∀ ad, B2 = some ad → ad.block ≠ b) (hb : Box2 w5 b (.slice none 0 0) (.slice none 0 0)) (hk : Kept WC w5) (hl : WC.heap.size ≤ b) :
    HasJ WC (.pointer (some ⟨b, 0, none⟩)) ((w5.setCell ⟨b, 0, none⟩ (.slice A2 2 c2)).setCell ⟨b, 1, none⟩ (.slice B2 1 k2)) := by
  have hE : KeptE b w5 ((w5.setCell ⟨b, 0, none⟩ (.slice A2 2 c2)).setCell ⟨b, 1, none⟩ (.slice B2 1 k2)) := ((KeptE.refl b w5).set (.inl rfl) _).set (.inl rfl) _
  have hb2 := (hb.set0 (.slice A2 2 c2)).set1 (.slice B2 1 k2)
  exact ⟨A2, c2, B2, k2, b, rfl, kept_set2 hk _ _ hl, hb2.c0, hb2.c1, hi.keptE hE hA, hd.keptE hE hB⟩

set_option maxRecDepth 100000 in
set_option maxHeartbeats 8000000 in
theorem cawake_any : AwakeC := by
  intro w
  go_enter Try.func7, Try.ntmps7
  go_wp2_with fail
  go_at_call 37
  refine (law_d 1 4 _).mono ?_
  rintro e v0 ⟨rfl, hk⟩
  have HW := Lib.hid hk
  clear hk
  go_wp2_with fail
  go_at_call 37
  refine (law_d 1 2 _).mono ?_
  rintro e v1 ⟨rfl, hk⟩
  replace HW := Lib.hid (HW.out.trans hk)
  clear hk
  go_wp2_with fail
  go_at_call 37
  refine (law_d 1 1 _).mono ?_
  rintro e v2 ⟨rfl, hk⟩
  replace HW := Lib.hid (HW.out.trans hk)
  clear hk
  go_wp2_with fail
  go_at_call 37
  refine (law_d 0 9 _).mono ?_
  rintro e v3 ⟨rfl, hk⟩
  replace HW := Lib.hid (HW.out.trans hk)
  clear hk
  go_wp2_with fail
  go_at_call 37
  refine (law_d 0 0 _).mono ?_
  rintro e v4 ⟨rfl, hk⟩
  replace HW := Lib.hid (HW.out.trans hk)
  clear hk
  have HL := Lib.hid (show Dl (v4.alloc (.cells #[.int .i64 1, .int .i64 4, .int .i64 1, .int .i64 2, .int .i64 1, .int .i64 1, .int .i64 0, .int .i64 9, .int .i64 0, .int .i64 0] 36)) (some ⟨v4.heap.size, 0, none⟩) 5 5 [((1 : Int), (4 : Int)), (1, 2), (1, 1), (0, 9), (0, 0)] from dl_lit v4 [((1 : Int), (4 : Int)), (1, 2), (1, 1), (0, 9), (0, 0)] 36 (by decide))
  replace HW := Lib.hid (HW.out.alloc #[.int .i64 1, .int .i64 4, .int .i64 1, .int .i64 2, .int .i64 1, .int .i64 1, .int .i64 0, .int .i64 9, .int .i64 0, .int .i64 0] 36)
  go_wp2_with fail
  go_at_call 11
  refine (gof_any _ 5 5 [((1 : Int), (4 : Int)), (1, 2), (1, 1), (0, 9), (0, 0)] _ HL.out (by decide)).mono ?_
  rintro e w1 ⟨A1, n1, c1, B1, m1, k1, V1, C1, rfl, hi, hd, hs, hm, hk, _, _⟩
  obtain ⟨rfl, rfl⟩ := hs.same setC0 fun d => Iff.rfl
  obtain rfl : n1 = 2 := hi.1
  obtain rfl : m1 = 2 := hd.1
  have hkb := (Kept.refl w1).alloc #[.slice A1 2 c1, .slice B1 2 k1] 25
  replace HW := Lib.hid (HW.out.trans (hk.trans hkb))
  have HIc := Lib.hid (hi.kept hkb)
  have HDc := Lib.hid (hd.kept hkb)
  have HBc := Lib.hid (Box2.new w1 (.slice A1 2 c1) (.slice B1 2 k1) 25)
  obtain ⟨hcc1, hcc2⟩ := hi.cap
  obtain ⟨hkk1, hkk2⟩ := hd.cap
  clear hi hd hs hm hk hkb HL
  go_wp2_with fail
  have c0 := KExt.cell HBc.out.c0
  have c1' := KExt.cell HBc.out.c1
  go_cut [2] (fun s2 wx => HasJ (w1.alloc (.cells #[.slice A1 2 c1, .slice B1 2 k1] 25)) s2 wx)
  case first =>
    refine region_plan (w1.alloc (.cells #[.slice A1 2 c1, .slice B1 2 k1] 25)) 7 (.read [0] (.two 1 (.two 2 (.two 3 (.two 4 (.one 5 (.one 6 .stop)) 5 (.one 4 (.one 6 .stop))) 5 (.one 3 (.one 4 (.one 6 .stop)))) 5 (.one 2 (.one 3 (.one 4 (.one 6 .stop))))) 5 (.one 1 (.one 2 (.one 3 (.one 4 (.one 6 .stop))))))) (by kernel_rfl) (by kernel_rfl) (by kernel_rfl) (by kernel_rfl) (by kernel_rfl) (fun _ d _ _ _ h => by cases d <;> exact h) (Kept.refl _) ?_
    intro wd hwd
    have HV := Lib.hid hwd
    clear hwd
    rw [wpPlan_read]
    simp only [pickOps_cons, pickOps_nil, consO_some, List.getElem?_cons_zero]
    repeat (go_big_quiet_step (fail))
    refine wpQuiet_nil ?_
    clear c0 c1'
    rw [wpPlan_two]
    simp only [pickOps_cons, pickOps_nil, consO_some, List.getElem?_cons_zero, List.getElem?_cons_succ]
    constructor
    · go_wp2_with (go_at_call 37; refine (law_d 1 3 _).mono ?_; rintro e u1 ⟨rfl, hk⟩)
      replace HV := Lib.hid (HV.out.trans hk)
      clear hk
      refine soloP HV.out ?_
      rw [wpPlan_two]
      simp only [pickOps_cons, pickOps_nil, consO_some, List.getElem?_cons_zero, List.getElem?_cons_succ]
      constructor
      · go_wp2_with fail
        have hk := (Kept.refl u1).alloc #[.int .i64 1, .int .i64 3] 36
        have HL2 := Lib.hid (dl_one u1 1 3 36)
        replace HV := Lib.hid (HV.out.trans hk)
        obtain ⟨u2, hu2⟩ : ∃ u2, u1.alloc (.cells #[.int .i64 1, .int .i64 3] 36) = u2 := ⟨_, rfl⟩
        rw [hu2] at HV HL2 ⊢
        clear hk hu2
        refine soloP HV.out ?_
        rw [wpPlan_two]
        simp only [pickOps_cons, pickOps_nil, consO_some, List.getElem?_cons_zero, List.getElem?_cons_succ]
        constructor
        · go_wp2_with (go_at_call 11; refine (gof_any _ 1 1 [(1, 3)] _ HL2.out (by decide)).mono ?_; rintro e u3 ⟨A3, n3, c3, B3, m3, k3, V3, C3, rfl, hi, hd, hs, hm, hk, _, _⟩)
          obtain ⟨rfl, rfl⟩ := hs.same setC2 fun d => Iff.rfl
          obtain rfl : n3 = 0 := hi.1
          obtain rfl : m3 = 1 := hd.1
          have HI2 := Lib.hid hi
          have HD2 := Lib.hid hd
          clear hi hd hs hm
          replace HL2 := Lib.hid (HL2.out.kept hk)
          replace HV := Lib.hid (HV.out.trans hk)
          clear hk
          refine soloP HV.out ?_
          rw [wpPlan_two]
          simp only [pickOps_cons, pickOps_nil, consO_some, List.getElem?_cons_zero, List.getElem?_cons_succ]
          constructor
          · go_wp2_with (go_at_call 24; refine (gjoin_any A1 2 c1 [0, 2] B1 2 k1 _ A3 0 c3 [] B3 1 k3 _ _ (HIc.out.kept HV.out) rightC0.vec (HDc.out.kept HV.out) HI2.out vecOk_nil HD2.out (by decide)).mono ?_; rintro e u4 ⟨A4, n4, c4, B4, m4, k4, V4, C4, rfl, hi, hd, hs, hm, hk, hfa, hfb⟩)
            obtain ⟨rfl, rfl⟩ := (show SetC (fun d => hasC [0, 2] [((0 : Int), (9 : Int)), (1, 4)] d ∨ hasC [] [((1 : Int), (3 : Int))] d) V4 C4 from ⟨hs.right, fun d => (hs.has d).trans (join_has rightC0 rightC2 d)⟩).same setCj fun d => Iff.rfl
            obtain rfl : n4 = 2 := hi.1
            obtain rfl : m4 = 1 := hd.1
            have HIj := Lib.hid hi
            have HDj := Lib.hid hd
            have HFA := Lib.hid hfa
            have HFB := Lib.hid hfb
            clear hi hd hs hm hfa hfb
            replace HL2 := Lib.hid (HL2.out.kept hk)
            replace HI2 := Lib.hid (HI2.out.kept hk)
            replace HD2 := Lib.hid (HD2.out.kept hk)
            replace HV := Lib.hid (HV.out.trans hk)
            clear hk
            refine soloP HV.out ?_
            rw [wpPlan_one]
            simp only [pickOps_cons, pickOps_nil, consO_some, List.getElem?_cons_zero, List.getElem?_cons_succ]
            go_wp2_with fail
            have hk := (Kept.refl u4).alloc #[.slice none 0 0, .slice none 0 0] 25
            have HB5 := Lib.hid (Box2.new u4 (.slice none 0 0) (.slice none 0 0) 25)
            obtain ⟨b5, hb5⟩ : ∃ b5, u4.heap.size = b5 := ⟨_, rfl⟩
            have hl5 : (w1.alloc (.cells #[.slice A1 2 c1, .slice B1 2 k1] 25)).heap.size ≤ b5 := by have := HV.out.2.2; omega
            have HS5 := Lib.hid (show b5 < (u4.alloc (.cells #[.slice none 0 0, .slice none 0 0] 25)).heap.size by simp; omega)
            have HLA := Lib.hid (il_lt HIj.out (by decide))
            have HLB := Lib.hid (dl_lt HDj.out (by decide))
            replace HL2 := Lib.hid (HL2.out.kept hk)
            replace HI2 := Lib.hid (HI2.out.kept hk)
            replace HD2 := Lib.hid (HD2.out.kept hk)
            replace HIj := Lib.hid (HIj.out.kept hk)
            replace HDj := Lib.hid (HDj.out.kept hk)
            replace HV := Lib.hid (HV.out.trans hk)
            rw [hb5] at HB5 ⊢
            obtain ⟨u5, hu5⟩ : ∃ u5, u4.alloc (.cells #[.slice none 0 0, .slice none 0 0] 25) = u5 := ⟨_, rfl⟩
            rw [hu5] at HB5 HV HS5 HL2 HI2 HD2 HIj HDj ⊢
            clear hk hu5
            refine soloP HV.out ?_
            rw [wpPlan_one]
            simp only [pickOps_cons, pickOps_nil, consO_some, List.getElem?_cons_zero, List.getElem?_cons_succ]
            have e0 := HB5.out.c0; have e1 := HB5.out.c1; have ef0 := HB5.out.f 0; have ef1 := HB5.out.f 1
            have HJ := Lib.hid (hasJ_set (WC := w1.alloc (.cells #[.slice A1 2 c1, .slice B1 2 k1] 25)) HIj.out HDj.out (fun ad e => by have h1 := HLA.out ad e; omega) (fun ad e => by have h1 := HLB.out ad e; omega) HB5.out HV.out hl5)
            go_wp2_with fail
            refine soloP (kept_set2 HV.out _ _ hl5) ?_
            refine wpPlan_stop ?_
            clear e0 e1 ef0 ef1
            go_wp2_with fail
            go_meet
            exact HJ.out
          · go_wp2_with fail
            have hk := (Kept.refl u3).alloc #[.slice none 0 0, .slice none 0 0] 25
            have HB5 := Lib.hid (Box2.new u3 (.slice none 0 0) (.slice none 0 0) 25)
            obtain ⟨b5, hb5⟩ : ∃ b5, u3.heap.size = b5 := ⟨_, rfl⟩
            have hl5 : (w1.alloc (.cells #[.slice A1 2 c1, .slice B1 2 k1] 25)).heap.size ≤ b5 := by have := HV.out.2.2; omega
            have HS5 := Lib.hid (show b5 < (u3.alloc (.cells #[.slice none 0 0, .slice none 0 0] 25)).heap.size by simp; omega)
            replace HL2 := Lib.hid (HL2.out.kept hk)
            replace HI2 := Lib.hid (HI2.out.kept hk)
            replace HD2 := Lib.hid (HD2.out.kept hk)
            replace HV := Lib.hid (HV.out.trans hk)
            rw [hb5] at HB5 ⊢
            obtain ⟨u5, hu5⟩ : ∃ u5, u3.alloc (.cells #[.slice none 0 0, .slice none 0 0] 25) = u5 := ⟨_, rfl⟩
            rw [hu5] at HB5 HV HS5 HL2 HI2 HD2 ⊢
            clear hk hu5
            refine soloP HV.out ?_
            have HPRE := Lib.hid HS5.out
            rw [wpPlan_one]
            simp only [pickOps_cons, pickOps_nil, consO_some, List.getElem?_cons_zero, List.getElem?_cons_succ]
            go_wp2_with (go_at_call 24; refine (gjoin_any A1 2 c1 [0, 2] B1 2 k1 _ A3 0 c3 [] B3 1 k3 _ _ (HIc.out.kept HV.out) rightC0.vec (HDc.out.kept HV.out) HI2.out vecOk_nil HD2.out (by decide)).mono ?_; rintro e u4 ⟨A4, n4, c4, B4, m4, k4, V4, C4, rfl, hi, hd, hs, hm, hk, hfa, hfb⟩)
            obtain ⟨rfl, rfl⟩ := (show SetC (fun d => hasC [0, 2] [((0 : Int), (9 : Int)), (1, 4)] d ∨ hasC [] [((1 : Int), (3 : Int))] d) V4 C4 from ⟨hs.right, fun d => (hs.has d).trans (join_has rightC0 rightC2 d)⟩).same setCj fun d => Iff.rfl
            obtain rfl : n4 = 2 := hi.1
            obtain rfl : m4 = 1 := hd.1
            have HIj := Lib.hid hi
            have HDj := Lib.hid hd
            have HFA := Lib.hid hfa
            have HFB := Lib.hid hfb
            clear hi hd hs hm hfa hfb
            replace HL2 := Lib.hid (HL2.out.kept hk)
            replace HB5 := Lib.hid (HB5.out.kept hk)
            replace HI2 := Lib.hid (HI2.out.kept hk)
            replace HD2 := Lib.hid (HD2.out.kept hk)
            replace HS5 := Lib.hid (Nat.lt_of_lt_of_le HS5.out hk.2.2)
            replace HV := Lib.hid (HV.out.trans hk)
            clear hk
            refine soloP HV.out ?_
            rw [wpPlan_one]
            simp only [pickOps_cons, pickOps_nil, consO_some, List.getElem?_cons_zero, List.getElem?_cons_succ]
            have e0 := HB5.out.c0; have e1 := HB5.out.c1; have ef0 := HB5.out.f 0; have ef1 := HB5.out.f 1
            have HJ := Lib.hid (hasJ_set (WC := w1.alloc (.cells #[.slice A1 2 c1, .slice B1 2 k1] 25)) HIj.out HDj.out (fun ad e => by have h1 := HFA.out ad e; have h2 := HPRE.out; omega) (fun ad e => by have h1 := HFB.out ad e; have h2 := HPRE.out; omega) HB5.out HV.out hl5)
            go_wp2_with fail
            refine soloP (kept_set2 HV.out _ _ hl5) ?_
            refine wpPlan_stop ?_
            clear e0 e1 ef0 ef1
            go_wp2_with fail
            go_meet
            exact HJ.out
        · go_wp2_with fail
          have hk := (Kept.refl u2).alloc #[.slice none 0 0, .slice none 0 0] 25
          have HB5 := Lib.hid (Box2.new u2 (.slice none 0 0) (.slice none 0 0) 25)
          obtain ⟨b5, hb5⟩ : ∃ b5, u2.heap.size = b5 := ⟨_, rfl⟩
          have hl5 : (w1.alloc (.cells #[.slice A1 2 c1, .slice B1 2 k1] 25)).heap.size ≤ b5 := by have := HV.out.2.2; omega
          have HS5 := Lib.hid (show b5 < (u2.alloc (.cells #[.slice none 0 0, .slice none 0 0] 25)).heap.size by simp; omega)
          replace HL2 := Lib.hid (HL2.out.kept hk)
          replace HV := Lib.hid (HV.out.trans hk)
          rw [hb5] at HB5 ⊢
          obtain ⟨u5, hu5⟩ : ∃ u5, u2.alloc (.cells #[.slice none 0 0, .slice none 0 0] 25) = u5 := ⟨_, rfl⟩
          rw [hu5] at HB5 HV HS5 HL2 ⊢
          clear hk hu5
          refine soloP HV.out ?_
          rw [wpPlan_one]
          simp only [pickOps_cons, pickOps_nil, consO_some, List.getElem?_cons_zero, List.getElem?_cons_succ]
          go_wp2_with (go_at_call 11; refine (gof_any _ 1 1 [(1, 3)] _ HL2.out (by decide)).mono ?_; rintro e u3 ⟨A3, n3, c3, B3, m3, k3, V3, C3, rfl, hi, hd, hs, hm, hk, _, _⟩)
          obtain ⟨rfl, rfl⟩ := hs.same setC2 fun d => Iff.rfl
          obtain rfl : n3 = 0 := hi.1
          obtain rfl : m3 = 1 := hd.1
          have HI2 := Lib.hid hi
          have HD2 := Lib.hid hd
          clear hi hd hs hm
          replace HL2 := Lib.hid (HL2.out.kept hk)
          replace HB5 := Lib.hid (HB5.out.kept hk)
          replace HS5 := Lib.hid (Nat.lt_of_lt_of_le HS5.out hk.2.2)
          replace HV := Lib.hid (HV.out.trans hk)
          clear hk
          refine soloP HV.out ?_
          have HPRE := Lib.hid HS5.out
          rw [wpPlan_one]
          simp only [pickOps_cons, pickOps_nil, consO_some, List.getElem?_cons_zero, List.getElem?_cons_succ]
          go_wp2_with (go_at_call 24; refine (gjoin_any A1 2 c1 [0, 2] B1 2 k1 _ A3 0 c3 [] B3 1 k3 _ _ (HIc.out.kept HV.out) rightC0.vec (HDc.out.kept HV.out) HI2.out vecOk_nil HD2.out (by decide)).mono ?_; rintro e u4 ⟨A4, n4, c4, B4, m4, k4, V4, C4, rfl, hi, hd, hs, hm, hk, hfa, hfb⟩)
          obtain ⟨rfl, rfl⟩ := (show SetC (fun d => hasC [0, 2] [((0 : Int), (9 : Int)), (1, 4)] d ∨ hasC [] [((1 : Int), (3 : Int))] d) V4 C4 from ⟨hs.right, fun d => (hs.has d).trans (join_has rightC0 rightC2 d)⟩).same setCj fun d => Iff.rfl
          obtain rfl : n4 = 2 := hi.1
          obtain rfl : m4 = 1 := hd.1
          have HIj := Lib.hid hi
          have HDj := Lib.hid hd
          have HFA := Lib.hid hfa
          have HFB := Lib.hid hfb
          clear hi hd hs hm hfa hfb
          replace HL2 := Lib.hid (HL2.out.kept hk)
          replace HB5 := Lib.hid (HB5.out.kept hk)
          replace HI2 := Lib.hid (HI2.out.kept hk)
          replace HD2 := Lib.hid (HD2.out.kept hk)
          replace HS5 := Lib.hid (Nat.lt_of_lt_of_le HS5.out hk.2.2)
          replace HV := Lib.hid (HV.out.trans hk)
          clear hk
          refine soloP HV.out ?_
          rw [wpPlan_one]
          simp only [pickOps_cons, pickOps_nil, consO_some, List.getElem?_cons_zero, List.getElem?_cons_succ]
          have e0 := HB5.out.c0; have e1 := HB5.out.c1; have ef0 := HB5.out.f 0; have ef1 := HB5.out.f 1
          have HJ := Lib.hid (hasJ_set (WC := w1.alloc (.cells #[.slice A1 2 c1, .slice B1 2 k1] 25)) HIj.out HDj.out (fun ad e => by have h1 := HFA.out ad e; have h2 := HPRE.out; omega) (fun ad e => by have h1 := HFB.out ad e; have h2 := HPRE.out; omega) HB5.out HV.out hl5)
          go_wp2_with fail
          refine soloP (kept_set2 HV.out _ _ hl5) ?_
          refine wpPlan_stop ?_
          clear e0 e1 ef0 ef1
          go_wp2_with fail
          go_meet
          exact HJ.out
      · go_wp2_with fail
        have hk := (Kept.refl u1).alloc #[.slice none 0 0, .slice none 0 0] 25
        have HB5 := Lib.hid (Box2.new u1 (.slice none 0 0) (.slice none 0 0) 25)
        obtain ⟨b5, hb5⟩ : ∃ b5, u1.heap.size = b5 := ⟨_, rfl⟩
        have hl5 : (w1.alloc (.cells #[.slice A1 2 c1, .slice B1 2 k1] 25)).heap.size ≤ b5 := by have := HV.out.2.2; omega
        have HS5 := Lib.hid (show b5 < (u1.alloc (.cells #[.slice none 0 0, .slice none 0 0] 25)).heap.size by simp; omega)
        replace HV := Lib.hid (HV.out.trans hk)
        rw [hb5] at HB5 ⊢
        obtain ⟨u5, hu5⟩ : ∃ u5, u1.alloc (.cells #[.slice none 0 0, .slice none 0 0] 25) = u5 := ⟨_, rfl⟩
        rw [hu5] at HB5 HV HS5 ⊢
        clear hk hu5
        refine soloP HV.out ?_
        rw [wpPlan_one]
        simp only [pickOps_cons, pickOps_nil, consO_some, List.getElem?_cons_zero, List.getElem?_cons_succ]
        go_wp2_with fail
        have hk := (Kept.refl u5).alloc #[.int .i64 1, .int .i64 3] 36
        have HL2 := Lib.hid (dl_one u5 1 3 36)
        replace HB5 := Lib.hid (HB5.out.kept hk)
        replace HS5 := Lib.hid (Nat.lt_of_lt_of_le HS5.out hk.2.2)
        replace HV := Lib.hid (HV.out.trans hk)
        obtain ⟨u2, hu2⟩ : ∃ u2, u5.alloc (.cells #[.int .i64 1, .int .i64 3] 36) = u2 := ⟨_, rfl⟩
        rw [hu2] at HV HL2 HB5 HS5 ⊢
        clear hk hu2
        refine soloP HV.out ?_
        rw [wpPlan_one]
        simp only [pickOps_cons, pickOps_nil, consO_some, List.getElem?_cons_zero, List.getElem?_cons_succ]
        go_wp2_with (go_at_call 11; refine (gof_any _ 1 1 [(1, 3)] _ HL2.out (by decide)).mono ?_; rintro e u3 ⟨A3, n3, c3, B3, m3, k3, V3, C3, rfl, hi, hd, hs, hm, hk, _, _⟩)
        obtain ⟨rfl, rfl⟩ := hs.same setC2 fun d => Iff.rfl
        obtain rfl : n3 = 0 := hi.1
        obtain rfl : m3 = 1 := hd.1
        have HI2 := Lib.hid hi
        have HD2 := Lib.hid hd
        clear hi hd hs hm
        replace HL2 := Lib.hid (HL2.out.kept hk)
        replace HB5 := Lib.hid (HB5.out.kept hk)
        replace HS5 := Lib.hid (Nat.lt_of_lt_of_le HS5.out hk.2.2)
        replace HV := Lib.hid (HV.out.trans hk)
        clear hk
        refine soloP HV.out ?_
        have HPRE := Lib.hid HS5.out
        rw [wpPlan_one]
        simp only [pickOps_cons, pickOps_nil, consO_some, List.getElem?_cons_zero, List.getElem?_cons_succ]
        go_wp2_with (go_at_call 24; refine (gjoin_any A1 2 c1 [0, 2] B1 2 k1 _ A3 0 c3 [] B3 1 k3 _ _ (HIc.out.kept HV.out) rightC0.vec (HDc.out.kept HV.out) HI2.out vecOk_nil HD2.out (by decide)).mono ?_; rintro e u4 ⟨A4, n4, c4, B4, m4, k4, V4, C4, rfl, hi, hd, hs, hm, hk, hfa, hfb⟩)
        obtain ⟨rfl, rfl⟩ := (show SetC (fun d => hasC [0, 2] [((0 : Int), (9 : Int)), (1, 4)] d ∨ hasC [] [((1 : Int), (3 : Int))] d) V4 C4 from ⟨hs.right, fun d => (hs.has d).trans (join_has rightC0 rightC2 d)⟩).same setCj fun d => Iff.rfl
        obtain rfl : n4 = 2 := hi.1
        obtain rfl : m4 = 1 := hd.1
        have HIj := Lib.hid hi
        have HDj := Lib.hid hd
        have HFA := Lib.hid hfa
        have HFB := Lib.hid hfb
        clear hi hd hs hm hfa hfb
        replace HL2 := Lib.hid (HL2.out.kept hk)
        replace HB5 := Lib.hid (HB5.out.kept hk)
        replace HI2 := Lib.hid (HI2.out.kept hk)
        replace HD2 := Lib.hid (HD2.out.kept hk)
        replace HS5 := Lib.hid (Nat.lt_of_lt_of_le HS5.out hk.2.2)
        replace HV := Lib.hid (HV.out.trans hk)
        clear hk
        refine soloP HV.out ?_
        rw [wpPlan_one]
        simp only [pickOps_cons, pickOps_nil, consO_some, List.getElem?_cons_zero, List.getElem?_cons_succ]
        have e0 := HB5.out.c0; have e1 := HB5.out.c1; have ef0 := HB5.out.f 0; have ef1 := HB5.out.f 1
        have HJ := Lib.hid (hasJ_set (WC := w1.alloc (.cells #[.slice A1 2 c1, .slice B1 2 k1] 25)) HIj.out HDj.out (fun ad e => by have h1 := HFA.out ad e; have h2 := HPRE.out; omega) (fun ad e => by have h1 := HFB.out ad e; have h2 := HPRE.out; omega) HB5.out HV.out hl5)
        go_wp2_with fail
        refine soloP (kept_set2 HV.out _ _ hl5) ?_
        refine wpPlan_stop ?_
        clear e0 e1 ef0 ef1
        go_wp2_with fail
        go_meet
        exact HJ.out
    · go_wp2_with fail
      have hk := (Kept.refl wd).alloc #[.slice none 0 0, .slice none 0 0] 25
      have HB5 := Lib.hid (Box2.new wd (.slice none 0 0) (.slice none 0 0) 25)
      obtain ⟨b5, hb5⟩ : ∃ b5, wd.heap.size = b5 := ⟨_, rfl⟩
      have hl5 : (w1.alloc (.cells #[.slice A1 2 c1, .slice B1 2 k1] 25)).heap.size ≤ b5 := by have := HV.out.2.2; omega
      have HS5 := Lib.hid (show b5 < (wd.alloc (.cells #[.slice none 0 0, .slice none 0 0] 25)).heap.size by simp; omega)
      replace HV := Lib.hid (HV.out.trans hk)
      rw [hb5] at HB5 ⊢
      obtain ⟨u5, hu5⟩ : ∃ u5, wd.alloc (.cells #[.slice none 0 0, .slice none 0 0] 25) = u5 := ⟨_, rfl⟩
      rw [hu5] at HB5 HV HS5 ⊢
      clear hk hu5
      refine soloP HV.out ?_
      rw [wpPlan_one]
      simp only [pickOps_cons, pickOps_nil, consO_some, List.getElem?_cons_zero, List.getElem?_cons_succ]
      go_wp2_with (go_at_call 37; refine (law_d 1 3 _).mono ?_; rintro e u1 ⟨rfl, hk⟩)
      replace HB5 := Lib.hid (HB5.out.kept hk)
      replace HS5 := Lib.hid (Nat.lt_of_lt_of_le HS5.out hk.2.2)
      replace HV := Lib.hid (HV.out.trans hk)
      clear hk
      refine soloP HV.out ?_
      rw [wpPlan_one]
      simp only [pickOps_cons, pickOps_nil, consO_some, List.getElem?_cons_zero, List.getElem?_cons_succ]
      go_wp2_with fail
      have hk := (Kept.refl u1).alloc #[.int .i64 1, .int .i64 3] 36
      have HL2 := Lib.hid (dl_one u1 1 3 36)
      replace HB5 := Lib.hid (HB5.out.kept hk)
      replace HS5 := Lib.hid (Nat.lt_of_lt_of_le HS5.out hk.2.2)
      replace HV := Lib.hid (HV.out.trans hk)
      obtain ⟨u2, hu2⟩ : ∃ u2, u1.alloc (.cells #[.int .i64 1, .int .i64 3] 36) = u2 := ⟨_, rfl⟩
      rw [hu2] at HV HL2 HB5 HS5 ⊢
      clear hk hu2
      refine soloP HV.out ?_
      rw [wpPlan_one]
      simp only [pickOps_cons, pickOps_nil, consO_some, List.getElem?_cons_zero, List.getElem?_cons_succ]
      go_wp2_with (go_at_call 11; refine (gof_any _ 1 1 [(1, 3)] _ HL2.out (by decide)).mono ?_; rintro e u3 ⟨A3, n3, c3, B3, m3, k3, V3, C3, rfl, hi, hd, hs, hm, hk, _, _⟩)
      obtain ⟨rfl, rfl⟩ := hs.same setC2 fun d => Iff.rfl
      obtain rfl : n3 = 0 := hi.1
      obtain rfl : m3 = 1 := hd.1
      have HI2 := Lib.hid hi
      have HD2 := Lib.hid hd
      clear hi hd hs hm
      replace HL2 := Lib.hid (HL2.out.kept hk)
      replace HB5 := Lib.hid (HB5.out.kept hk)
      replace HS5 := Lib.hid (Nat.lt_of_lt_of_le HS5.out hk.2.2)
      replace HV := Lib.hid (HV.out.trans hk)
      clear hk
      refine soloP HV.out ?_
      have HPRE := Lib.hid HS5.out
      rw [wpPlan_one]
      simp only [pickOps_cons, pickOps_nil, consO_some, List.getElem?_cons_zero, List.getElem?_cons_succ]
      go_wp2_with (go_at_call 24; refine (gjoin_any A1 2 c1 [0, 2] B1 2 k1 _ A3 0 c3 [] B3 1 k3 _ _ (HIc.out.kept HV.out) rightC0.vec (HDc.out.kept HV.out) HI2.out vecOk_nil HD2.out (by decide)).mono ?_; rintro e u4 ⟨A4, n4, c4, B4, m4, k4, V4, C4, rfl, hi, hd, hs, hm, hk, hfa, hfb⟩)
      obtain ⟨rfl, rfl⟩ := (show SetC (fun d => hasC [0, 2] [((0 : Int), (9 : Int)), (1, 4)] d ∨ hasC [] [((1 : Int), (3 : Int))] d) V4 C4 from ⟨hs.right, fun d => (hs.has d).trans (join_has rightC0 rightC2 d)⟩).same setCj fun d => Iff.rfl
      obtain rfl : n4 = 2 := hi.1
      obtain rfl : m4 = 1 := hd.1
      have HIj := Lib.hid hi
      have HDj := Lib.hid hd
      have HFA := Lib.hid hfa
      have HFB := Lib.hid hfb
      clear hi hd hs hm hfa hfb
      replace HL2 := Lib.hid (HL2.out.kept hk)
      replace HB5 := Lib.hid (HB5.out.kept hk)
      replace HI2 := Lib.hid (HI2.out.kept hk)
      replace HD2 := Lib.hid (HD2.out.kept hk)
      replace HS5 := Lib.hid (Nat.lt_of_lt_of_le HS5.out hk.2.2)
      replace HV := Lib.hid (HV.out.trans hk)
      clear hk
      refine soloP HV.out ?_
      rw [wpPlan_one]
      simp only [pickOps_cons, pickOps_nil, consO_some, List.getElem?_cons_zero, List.getElem?_cons_succ]
      have e0 := HB5.out.c0; have e1 := HB5.out.c1; have ef0 := HB5.out.f 0; have ef1 := HB5.out.f 1
      have HJ := Lib.hid (hasJ_set (WC := w1.alloc (.cells #[.slice A1 2 c1, .slice B1 2 k1] 25)) HIj.out HDj.out (fun ad e => by have h1 := HFA.out ad e; have h2 := HPRE.out; omega) (fun ad e => by have h1 := HFB.out ad e; have h2 := HPRE.out; omega) HB5.out HV.out hl5)
      go_wp2_with fail
      refine soloP (kept_set2 HV.out _ _ hl5) ?_
      refine wpPlan_stop ?_
      clear e0 e1 ef0 ef1
      go_wp2_with fail
      go_meet
      exact HJ.out
  case rest =>
    clear c0 c1'
    obtain ⟨A2, c2, B2, k2, b2, rfl, hkj, j0, j1, hij, hdj⟩ := hcut
    obtain ⟨hjc1, hjc2⟩ := hij.cap
    obtain ⟨hjk1, hjk2⟩ := hdj.cap
    replace HIc := Lib.hid (HIc.out.kept hkj); replace HDc := Lib.hid (HDc.out.kept hkj); replace HBc := Lib.hid (HBc.out.kept hkj)
    have HIj := Lib.hid hij
    have HDj := Lib.hid hdj
    have HBj := Lib.hid (Two.mk j0 j1)
    replace HW := Lib.hid (HW.out.trans hkj)
    clear hkj j0 j1 hij hdj
    have HP := Lib.hid (ctxC.put ⟨#[]⟩ A1 2 c1 [0, 2] B1 2 k1 [((0 : Int), (9 : Int)), (1, 4)] _ HIc.out HDc.out rightC0 (by decide) (by decide))
    have hps := putC_size ⟨#[]⟩ [0, 2] [((0 : Int), (9 : Int)), (1, 4)]
    rw [show (⟨#[]⟩ : ByteArray).size = 0 from rfl] at hps
    simp only [List.length_cons, List.length_nil] at hps
    have HTF := Lib.hid (tc_fore rightC0 (by decide) ⟨#[122]⟩)
    obtain ⟨P, hP⟩ : ∃ P, putC ⟨#[]⟩ [0, 2] [((0 : Int), (9 : Int)), (1, 4)] = P := ⟨_, rfl⟩
    rw [hP] at HP HTF hps
    have hps2 : P.size ≤ 1000 := by omega
    have hps3 : P.size + 1 ≤ 9223372036854775807 := by omega
    have hzps : (P ++ ⟨#[122]⟩).size ≤ 2000 := by rw [ByteArray.size_append, show (⟨#[122]⟩ : ByteArray).size = 1 from rfl]; omega
    have HT := Lib.hid (fun w => ctxC.take (P ++ ⟨#[122]⟩) w (by omega))
    have c0 := HBc.out.c0
    have c1' := HBc.out.c1
    clear hP hps hzps
    go_wp2_with fail
    go_at_call 32
    refine HP.out.mono ?_
    rintro e w2 ⟨rfl, hk⟩
    replace HIc := Lib.hid (HIc.out.kept hk)
    replace HDc := Lib.hid (HDc.out.kept hk)
    replace HBc := Lib.hid (HBc.out.kept hk)
    replace HIj := Lib.hid (HIj.out.kept hk)
    replace HDj := Lib.hid (HDj.out.kept hk)
    replace HBj := Lib.hid (HBj.out.kept hk)
    replace HW := Lib.hid (HW.out.trans hk)
    clear hk
    clear c0 c1'
    go_wp2_with fail
    go_at_call 13
    refine (HT.out _).mono ?_
    rintro e w3 ⟨A5, n5, c5, B5, m5, k5, V5, C5, r5, z5, rfl, hi, hd, ht, hk⟩
    rw [HTF.out] at ht
    simp only [Prod.mk.injEq] at ht
    obtain ⟨rfl, rfl, rfl, rfl⟩ := ht
    obtain rfl : n5 = 2 := hi.1
    obtain rfl : m5 = 2 := hd.1
    replace HIc := Lib.hid (HIc.out.kept hk)
    replace HDc := Lib.hid (HDc.out.kept hk)
    replace HBc := Lib.hid (HBc.out.kept hk)
    replace HIj := Lib.hid (HIj.out.kept hk)
    replace HDj := Lib.hid (HDj.out.kept hk)
    replace HBj := Lib.hid (HBj.out.kept hk)
    replace HW := Lib.hid (HW.out.trans hk)
    clear hk
    have hk := (Kept.refl w3).alloc #[.slice A5 2 c5, .slice B5 2 k5] 25
    have HIt := Lib.hid (hi.kept hk)
    have HDt := Lib.hid (hd.kept hk)
    have HBt := Lib.hid (Two.mk (Box2.new w3 (.slice A5 2 c5) (.slice B5 2 k5) 25).c0 (Box2.new w3 (.slice A5 2 c5) (.slice B5 2 k5) 25).c1)
    replace HIc := Lib.hid (HIc.out.kept hk)
    replace HDc := Lib.hid (HDc.out.kept hk)
    replace HBc := Lib.hid (HBc.out.kept hk)
    replace HIj := Lib.hid (HIj.out.kept hk)
    replace HDj := Lib.hid (HDj.out.kept hk)
    replace HBj := Lib.hid (HBj.out.kept hk)
    replace HW := Lib.hid (HW.out.trans hk)
    clear hk
    clear hi hd
    go_wp2_with fail
    go_at_call 13
    refine (ctxC.take ⟨#[1, 0, 0]⟩ _ (by decide)).mono ?_
    rintro e w4 ⟨A6, n6, c6, B6, m6, k6, V6, C6, r6, z6, rfl, hi, hd, ht, hk⟩
    rw [tcA] at ht
    simp only [Prod.mk.injEq] at ht
    obtain ⟨rfl, rfl, rfl, rfl⟩ := ht
    replace HIc := Lib.hid (HIc.out.kept hk)
    replace HDc := Lib.hid (HDc.out.kept hk)
    replace HBc := Lib.hid (HBc.out.kept hk)
    replace HIj := Lib.hid (HIj.out.kept hk)
    replace HDj := Lib.hid (HDj.out.kept hk)
    replace HBj := Lib.hid (HBj.out.kept hk)
    replace HIt := Lib.hid (HIt.out.kept hk)
    replace HDt := Lib.hid (HDt.out.kept hk)
    replace HBt := Lib.hid (HBt.out.kept hk)
    replace HW := Lib.hid (HW.out.trans hk)
    clear hk
    have hk := (Kept.refl w4).alloc #[.slice A6 n6 c6, .slice B6 m6 k6] 25
    replace HIc := Lib.hid (HIc.out.kept hk)
    replace HDc := Lib.hid (HDc.out.kept hk)
    replace HBc := Lib.hid (HBc.out.kept hk)
    replace HIj := Lib.hid (HIj.out.kept hk)
    replace HDj := Lib.hid (HDj.out.kept hk)
    replace HBj := Lib.hid (HBj.out.kept hk)
    replace HIt := Lib.hid (HIt.out.kept hk)
    replace HDt := Lib.hid (HDt.out.kept hk)
    replace HBt := Lib.hid (HBt.out.kept hk)
    replace HW := Lib.hid (HW.out.trans hk)
    clear hk
    clear hi hd
    have c0 := HBc.out.c0
    have c1' := HBc.out.c1
    have HDN := Lib.hid (ctxC.dots A1 2 c1 [0, 2] B1 2 k1 [((0 : Int), (9 : Int)), (1, 4)] 9 _ HIc.out HDc.out rightC0 (by decide))
    rw [dots9] at HDN
    go_wp2_with fail
    go_at_call 30
    refine HDN.out.mono ?_
    rintro e w5 ⟨A7, c7, rfl, hd, hk⟩
    replace HIc := Lib.hid (HIc.out.kept hk)
    replace HDc := Lib.hid (HDc.out.kept hk)
    replace HBc := Lib.hid (HBc.out.kept hk)
    replace HIj := Lib.hid (HIj.out.kept hk)
    replace HDj := Lib.hid (HDj.out.kept hk)
    replace HBj := Lib.hid (HBj.out.kept hk)
    replace HIt := Lib.hid (HIt.out.kept hk)
    replace HDt := Lib.hid (HDt.out.kept hk)
    replace HBt := Lib.hid (HBt.out.kept hk)
    replace HW := Lib.hid (HW.out.trans hk)
    clear hk
    have HDl := Lib.hid hd
    obtain ⟨hlc1, hlc2⟩ := hd.cap
    clear hd c0 c1' HDN
    have c0 := HBc.out.c0
    have c1' := HBc.out.c1
    have j0 := HBj.out.c0
    have j1 := HBj.out.c1
    go_wp2_with fail
    clear c0 c1' j0 j1
    obtain ⟨g1, o1, x1, rfl, hx1, i1⟩ := HIc.out.get (k := 1) (by decide)
    obtain rfl : (2 : Int) = x1 := by simpa using hx1
    obtain ⟨g2, o2, x2, rfl, hx2, i2, i2'⟩ := HDc.out.get (k := 1) (by decide)
    obtain rfl : ((1 : Int), (4 : Int)) = x2 := by simpa using hx2
    obtain ⟨g3, o3, x3, rfl, hx3, i3⟩ := HIj.out.get (k := 1) (by decide)
    obtain rfl : (4 : Int) = x3 := by simpa using hx3
    obtain ⟨g4, o4, x4, rfl, hx4, i4, i4'⟩ := HDl.out.get (k := 2) (by decide)
    obtain rfl : ((0 : Int), (9 : Int)) = x4 := by simpa using hx4
    simp only [Nat.reduceMul, Nat.add_assoc, Nat.reduceAdd] at i1 i2 i2' i3 i4 i4'
    have p1 := KExt.cell i1
    have p2 := KExt.cell i2
    have p2' := KExt.cell i2'
    have p3 := KExt.cell i3
    have p4 := KExt.cell i4
    have p4' := KExt.cell i4'
    have c0 := KExt.cell HBc.out.c0
    have c1' := KExt.cell HBc.out.c1
    have j0 := KExt.cell HBj.out.c0
    have j1 := KExt.cell HBj.out.c1
    have t0 := KExt.cell HBt.out.c0
    have t1 := KExt.cell HBt.out.c1
    clear hx1 hx2 hx3 hx4 i1 i2 i2' i3 i4 i4'
    try dsimp only [List.append]
    refine region_plan w5 112 (.read [0, 1, 2, 3, 4, 5, 6, 7, 8, 9] (.one 10 (.read [11, 12, 13, 14, 15, 16, 17, 18, 19, 20, 21] (.one 22 (.one 23 (.read [24, 25, 26] (.one 27 (.one 28 (.read [29, 30, 31, 32] (.one 33 (.one 34 (.read [35, 36, 37] (.one 38 (.one 39 (.read [40, 41, 42, 43] (.one 44 (.read [45, 46, 47, 48] (.one 49 (.read [50, 51, 52, 53, 54, 55, 56, 57, 58, 59, 60, 61, 62] (.one 63 (.read [64, 65, 66, 67, 68, 69, 70, 71] (.one 72 (.read [73, 74, 75, 76] (.one 77 (.read [78, 79, 80, 81] (.one 82 (.read [83, 84] (.one 85 (.read [86] (.one 87 (.read [88, 89, 90] (.one 91 (.one 92 (.read [93] (.one 94 (.read [95, 96, 97, 98, 99, 100] (.one 101 (.read [102, 103, 104, 105, 108] (.one 106 (.one 107 (.one 109 (.read [110, 111] .stop)))))))))))))))))))))))))))))))))))))))))) (by kernel_rfl) (by as_aux_lemma => kernel_rfl) (by as_aux_lemma => kernel_rfl) (by kernel_rfl) (by as_aux_lemma => kernel_rfl) (fun _ d _ _ _ h => by cases d <;> exact h) (Kept.refl _) ?_
    intro wd hwd
    have HV := Lib.hid hwd
    clear hwd
    rw [wpPlan_read]
    simp only [pickOps_cons, pickOps_nil, consO_some, List.getElem?_cons_zero, List.getElem?_cons_succ]
    repeat (go_big_quiet_step (fail))
    refine wpQuiet_nil ?_
    rw [wpPlan_one]
    simp only [pickOps_cons, pickOps_nil, consO_some, List.getElem?_cons_zero, List.getElem?_cons_succ]
    go_wp2_with (go_at_call 37; refine (law_d 1 4 _).mono ?_; rintro e u10 ⟨rfl, hk⟩)
    replace HV := Lib.hid (HV.out.trans hk)
    clear hk
    refine soloP HV.out ?_
    rw [wpPlan_read]
    simp only [pickOps_cons, pickOps_nil, consO_some, List.getElem?_cons_zero, List.getElem?_cons_succ]
    repeat (go_big_quiet_step (fail))
    refine wpQuiet_nil ?_
    rw [wpPlan_one]
    simp only [pickOps_cons, pickOps_nil, consO_some, List.getElem?_cons_zero, List.getElem?_cons_succ]
    go_wp2_with (go_at_call 37; refine (law_d 1 2 _).mono ?_; rintro e u22 ⟨rfl, hk⟩)
    replace HV := Lib.hid (HV.out.trans hk)
    clear hk
    refine soloP HV.out ?_
    rw [wpPlan_one]
    simp only [pickOps_cons, pickOps_nil, consO_some, List.getElem?_cons_zero, List.getElem?_cons_succ]
    go_wp2_with (go_at_call 16; refine (ctxC.has (some ⟨g1, o1, none⟩) 2 c1 [0, 2] (some ⟨g2, o2, none⟩) 2 k1 [((0 : Int), (9 : Int)), (1, 4)] 1 2 _ (HIc.out.kept HV.out) (HDc.out.kept HV.out) rightC0 true (by decide)).mono ?_; rintro e u23 ⟨rfl, hk⟩)
    replace HV := Lib.hid (HV.out.trans hk)
    clear hk
    refine soloP HV.out ?_
    rw [wpPlan_read]
    simp only [pickOps_cons, pickOps_nil, consO_some, List.getElem?_cons_zero, List.getElem?_cons_succ]
    repeat (go_big_quiet_step (fail))
    refine wpQuiet_nil ?_
    rw [wpPlan_one]
    simp only [pickOps_cons, pickOps_nil, consO_some, List.getElem?_cons_zero, List.getElem?_cons_succ]
    go_wp2_with (go_at_call 37; refine (law_d 1 3 _).mono ?_; rintro e u27 ⟨rfl, hk⟩)
    replace HV := Lib.hid (HV.out.trans hk)
    clear hk
    refine soloP HV.out ?_
    rw [wpPlan_one]
    simp only [pickOps_cons, pickOps_nil, consO_some, List.getElem?_cons_zero, List.getElem?_cons_succ]
    go_wp2_with (go_at_call 16; refine (ctxC.has (some ⟨g1, o1, none⟩) 2 c1 [0, 2] (some ⟨g2, o2, none⟩) 2 k1 [((0 : Int), (9 : Int)), (1, 4)] 1 3 _ (HIc.out.kept HV.out) (HDc.out.kept HV.out) rightC0 false (by decide)).mono ?_; rintro e u28 ⟨rfl, hk⟩)
    replace HV := Lib.hid (HV.out.trans hk)
    clear hk
    refine soloP HV.out ?_
    rw [wpPlan_read]
    simp only [pickOps_cons, pickOps_nil, consO_some, List.getElem?_cons_zero, List.getElem?_cons_succ]
    repeat (go_big_quiet_step (fail))
    refine wpQuiet_nil ?_
    rw [wpPlan_one]
    simp only [pickOps_cons, pickOps_nil, consO_some, List.getElem?_cons_zero, List.getElem?_cons_succ]
    go_wp2_with (go_at_call 37; refine (law_d 1 4 _).mono ?_; rintro e u33 ⟨rfl, hk⟩)
    replace HV := Lib.hid (HV.out.trans hk)
    clear hk
    refine soloP HV.out ?_
    rw [wpPlan_one]
    simp only [pickOps_cons, pickOps_nil, consO_some, List.getElem?_cons_zero, List.getElem?_cons_succ]
    go_wp2_with (go_at_call 16; refine (ctxC.has (some ⟨g1, o1, none⟩) 2 c1 [0, 2] (some ⟨g2, o2, none⟩) 2 k1 [((0 : Int), (9 : Int)), (1, 4)] 1 4 _ (HIc.out.kept HV.out) (HDc.out.kept HV.out) rightC0 true (by decide)).mono ?_; rintro e u34 ⟨rfl, hk⟩)
    replace HV := Lib.hid (HV.out.trans hk)
    clear hk
    refine soloP HV.out ?_
    rw [wpPlan_read]
    simp only [pickOps_cons, pickOps_nil, consO_some, List.getElem?_cons_zero, List.getElem?_cons_succ]
    repeat (go_big_quiet_step (fail))
    refine wpQuiet_nil ?_
    rw [wpPlan_one]
    simp only [pickOps_cons, pickOps_nil, consO_some, List.getElem?_cons_zero, List.getElem?_cons_succ]
    go_wp2_with (go_at_call 37; refine (law_d 5 1 _).mono ?_; rintro e u38 ⟨rfl, hk⟩)
    replace HV := Lib.hid (HV.out.trans hk)
    clear hk
    refine soloP HV.out ?_
    rw [wpPlan_one]
    simp only [pickOps_cons, pickOps_nil, consO_some, List.getElem?_cons_zero, List.getElem?_cons_succ]
    go_wp2_with (go_at_call 16; refine (ctxC.has (some ⟨g1, o1, none⟩) 2 c1 [0, 2] (some ⟨g2, o2, none⟩) 2 k1 [((0 : Int), (9 : Int)), (1, 4)] 5 1 _ (HIc.out.kept HV.out) (HDc.out.kept HV.out) rightC0 false (by decide)).mono ?_; rintro e u39 ⟨rfl, hk⟩)
    replace HV := Lib.hid (HV.out.trans hk)
    clear hk
    refine soloP HV.out ?_
    rw [wpPlan_read]
    simp only [pickOps_cons, pickOps_nil, consO_some, List.getElem?_cons_zero, List.getElem?_cons_succ]
    repeat (go_big_quiet_step (fail))
    refine wpQuiet_nil ?_
    rw [wpPlan_one]
    simp only [pickOps_cons, pickOps_nil, consO_some, List.getElem?_cons_zero, List.getElem?_cons_succ]
    go_wp2_with (go_at_call 20; refine (most_c 1 4 (by decide) (ctxC.most (some ⟨g1, o1, none⟩) 2 c1 [0, 2] (some ⟨g2, o2, none⟩) 2 k1 [((0 : Int), (9 : Int)), (1, 4)] 1 _ (HIc.out.kept HV.out) (HDc.out.kept HV.out) rightC0)).mono ?_; rintro e u44 ⟨rfl, hk⟩)
    replace HV := Lib.hid (HV.out.trans hk)
    clear hk
    refine soloP HV.out ?_
    rw [wpPlan_read]
    simp only [pickOps_cons, pickOps_nil, consO_some, List.getElem?_cons_zero, List.getElem?_cons_succ]
    repeat (go_big_quiet_step (fail))
    refine wpQuiet_nil ?_
    rw [wpPlan_one]
    simp only [pickOps_cons, pickOps_nil, consO_some, List.getElem?_cons_zero, List.getElem?_cons_succ]
    go_wp2_with (go_at_call 20; refine (most_c 3 0 (by decide) (ctxC.most (some ⟨g1, o1, none⟩) 2 c1 [0, 2] (some ⟨g2, o2, none⟩) 2 k1 [((0 : Int), (9 : Int)), (1, 4)] 3 _ (HIc.out.kept HV.out) (HDc.out.kept HV.out) rightC0)).mono ?_; rintro e u49 ⟨rfl, hk⟩)
    replace HV := Lib.hid (HV.out.trans hk)
    clear hk
    refine soloP HV.out ?_
    rw [wpPlan_read]
    simp only [pickOps_cons, pickOps_nil, consO_some, List.getElem?_cons_zero, List.getElem?_cons_succ]
    repeat (go_big_quiet_step (fail))
    refine wpQuiet_nil ?_
    rw [wpPlan_one]
    simp only [pickOps_cons, pickOps_nil, consO_some, List.getElem?_cons_zero, List.getElem?_cons_succ]
    go_wp2_with (go_at_call 28; refine (ctxC.same A5 2 c5 [0, 2] B5 2 k5 [((0 : Int), (9 : Int)), (1, 4)] (some ⟨g1, o1, none⟩) 2 c1 [0, 2] (some ⟨g2, o2, none⟩) 2 k1 [((0 : Int), (9 : Int)), (1, 4)] _ (HIt.out.kept HV.out) (HDt.out.kept HV.out) (HIc.out.kept HV.out) (HDc.out.kept HV.out) true (by simp)).mono ?_; rintro e u63 ⟨rfl, hk⟩)
    replace HV := Lib.hid (HV.out.trans hk)
    clear hk
    refine soloP HV.out ?_
    rw [wpPlan_read]
    simp only [pickOps_cons, pickOps_nil, consO_some, List.getElem?_cons_zero, List.getElem?_cons_succ]
    repeat (go_big_quiet_step (fail))
    refine wpQuiet_nil ?_
    rw [wpPlan_one]
    simp only [pickOps_cons, pickOps_nil, consO_some, List.getElem?_cons_zero, List.getElem?_cons_succ]
    go_wp2_with (go_at_call 26; refine (ctxC.within (some ⟨g1, o1, none⟩) 2 c1 [0, 2] (some ⟨g2, o2, none⟩) 2 k1 [((0 : Int), (9 : Int)), (1, 4)] (some ⟨g3, o3, none⟩) 2 c2 [0, 4] B2 1 k2 [((0 : Int), (9 : Int))] _ (HIc.out.kept HV.out) (HDc.out.kept HV.out) rightC0 (HIj.out.kept HV.out) (HDj.out.kept HV.out) rightCj (by decide) true ⟨fun _ d hd => (setCj.has d).mpr (.inl hd), fun _ => rfl⟩).mono ?_; rintro e u72 ⟨rfl, hk⟩)
    replace HV := Lib.hid (HV.out.trans hk)
    clear hk
    refine soloP HV.out ?_
    rw [wpPlan_read]
    simp only [pickOps_cons, pickOps_nil, consO_some, List.getElem?_cons_zero, List.getElem?_cons_succ]
    repeat (go_big_quiet_step (fail))
    refine wpQuiet_nil ?_
    rw [wpPlan_one]
    simp only [pickOps_cons, pickOps_nil, consO_some, List.getElem?_cons_zero, List.getElem?_cons_succ]
    go_wp2_with (go_at_call 26; refine (ctxC.within (some ⟨g3, o3, none⟩) 2 c2 [0, 4] B2 1 k2 [((0 : Int), (9 : Int))] (some ⟨g1, o1, none⟩) 2 c1 [0, 2] (some ⟨g2, o2, none⟩) 2 k1 [((0 : Int), (9 : Int)), (1, 4)] _ (HIj.out.kept HV.out) (HDj.out.kept HV.out) rightCj (HIc.out.kept HV.out) (HDc.out.kept HV.out) rightC0 (by decide) false ⟨fun h => absurd h (by decide), fun h => absurd (h (1, 3) (by decide)) (by decide)⟩).mono ?_; rintro e u77 ⟨rfl, hk⟩)
    replace HV := Lib.hid (HV.out.trans hk)
    clear hk
    refine soloP HV.out ?_
    rw [wpPlan_read]
    simp only [pickOps_cons, pickOps_nil, consO_some, List.getElem?_cons_zero, List.getElem?_cons_succ]
    repeat (go_big_quiet_step (fail))
    refine wpQuiet_nil ?_
    rw [wpPlan_one]
    simp only [pickOps_cons, pickOps_nil, consO_some, List.getElem?_cons_zero, List.getElem?_cons_succ]
    go_wp2_with (go_at_call 8; refine (ctxC.right (some ⟨g1, o1, none⟩) 2 c1 [0, 2] (some ⟨g2, o2, none⟩) 2 k1 [((0 : Int), (9 : Int)), (1, 4)] _ (HIc.out.kept HV.out) (HDc.out.kept HV.out) (by decide) (by decide) true ⟨fun _ => rightC0, fun _ => rfl⟩).mono ?_; rintro e u82 ⟨rfl, hk⟩)
    replace HV := Lib.hid (HV.out.trans hk)
    clear hk
    refine soloP HV.out ?_
    rw [wpPlan_read]
    simp only [pickOps_cons, pickOps_nil, consO_some, List.getElem?_cons_zero, List.getElem?_cons_succ]
    repeat (go_big_quiet_step (fail))
    refine wpQuiet_nil ?_
    rw [wpPlan_one]
    simp only [pickOps_cons, pickOps_nil, consO_some, List.getElem?_cons_zero, List.getElem?_cons_succ]
    go_wp2_with fail
    have HI1 := Lib.hid (il_one u82 0 3)
    replace HV := Lib.hid (HV.out.alloc #[.int .i64 0] 3)
    refine soloP HV.out ?_
    rw [wpPlan_read]
    simp only [pickOps_cons, pickOps_nil, consO_some, List.getElem?_cons_zero, List.getElem?_cons_succ]
    repeat (go_big_quiet_step (fail))
    refine wpQuiet_nil ?_
    rw [wpPlan_one]
    simp only [pickOps_cons, pickOps_nil, consO_some, List.getElem?_cons_zero, List.getElem?_cons_succ]
    go_wp2_with (go_at_call 8; refine (ctxC.right _ 1 1 [0] none 0 0 [] _ HI1.out (Dl.nil _) (by decide) (by decide) false ⟨fun h => absurd h (by decide), fun h => absurd rfl (h.last 0 rfl)⟩).mono ?_; rintro e u87 ⟨rfl, hk⟩)
    replace HV := Lib.hid (HV.out.trans hk)
    clear hk
    refine soloP HV.out ?_
    rw [wpPlan_read]
    simp only [pickOps_cons, pickOps_nil, consO_some, List.getElem?_cons_zero, List.getElem?_cons_succ]
    repeat (go_big_quiet_step (fail))
    refine wpQuiet_nil ?_
    rw [wpPlan_one]
    simp only [pickOps_cons, pickOps_nil, consO_some, List.getElem?_cons_zero, List.getElem?_cons_succ]
    go_wp2_with (go_at_call 37; refine (law_d 0 1 _).mono ?_; rintro e u91 ⟨rfl, hk⟩)
    replace HV := Lib.hid (HV.out.trans hk)
    clear hk
    refine soloP HV.out ?_
    rw [wpPlan_one]
    simp only [pickOps_cons, pickOps_nil, consO_some, List.getElem?_cons_zero, List.getElem?_cons_succ]
    go_wp2_with fail
    have HD1 := Lib.hid (dl_one u91 0 1 36)
    replace HV := Lib.hid (HV.out.alloc #[.int .i64 0, .int .i64 1] 36)
    refine soloP HV.out ?_
    rw [wpPlan_read]
    simp only [pickOps_cons, pickOps_nil, consO_some, List.getElem?_cons_zero, List.getElem?_cons_succ]
    repeat (go_big_quiet_step (fail))
    refine wpQuiet_nil ?_
    rw [wpPlan_one]
    simp only [pickOps_cons, pickOps_nil, consO_some, List.getElem?_cons_zero, List.getElem?_cons_succ]
    go_wp2_with (go_at_call 8; refine (ctxC.right none 0 0 [] _ 1 1 [((0 : Int), (1 : Int))] _ (Il.nil _) HD1.out (by decide) (by decide) false ⟨fun h => absurd h (by decide), fun h => absurd (h.apart (0, 1) (by simp)) (by decide)⟩).mono ?_; rintro e u94 ⟨rfl, hk⟩)
    replace HV := Lib.hid (HV.out.trans hk)
    clear hk
    refine soloP HV.out ?_
    rw [wpPlan_read]
    simp only [pickOps_cons, pickOps_nil, consO_some, List.getElem?_cons_zero, List.getElem?_cons_succ]
    repeat (go_big_quiet_step (fail))
    refine wpQuiet_nil ?_
    rw [wpPlan_one]
    simp only [pickOps_cons, pickOps_nil, consO_some, List.getElem?_cons_zero, List.getElem?_cons_succ]
    go_wp2_with (go_at_call 37; refine (law_d 0 9 _).mono ?_; rintro e u101 ⟨rfl, hk⟩)
    replace HV := Lib.hid (HV.out.trans hk)
    clear hk
    refine soloP HV.out ?_
    rw [wpPlan_read]
    simp only [pickOps_cons, pickOps_nil, consO_some, List.getElem?_cons_zero, List.getElem?_cons_succ]
    repeat (go_big_quiet_step (fail))
    refine wpQuiet_nil ?_
    rw [wpPlan_one]
    simp only [pickOps_cons, pickOps_nil, consO_some, List.getElem?_cons_zero, List.getElem?_cons_succ]
    go_wp2_with (go_at_call 37; refine (law_d 1 3 _).mono ?_; rintro e u106 ⟨rfl, hk⟩)
    replace HV := Lib.hid (HV.out.trans hk)
    clear hk
    refine soloP HV.out ?_
    rw [wpPlan_one]
    simp only [pickOps_cons, pickOps_nil, consO_some, List.getElem?_cons_zero, List.getElem?_cons_succ]
    go_wp2_with (go_at_call 18; refine (ctxC.add (some ⟨g1, o1, none⟩) 2 c1 [0, 2] (some ⟨g2, o2, none⟩) 2 k1 [((0 : Int), (9 : Int)), (1, 4)] 1 3 _ (HIc.out.kept HV.out) (HDc.out.kept HV.out) rightC0 (by decide)).mono ?_; rintro e u107 ⟨A8, n8, c8, B8, m8, k8, V8, C8, rfl, hi, hd, hs, hm, hk⟩)
    obtain ⟨rfl, rfl⟩ := hs.same setCa fun d => Iff.rfl
    obtain rfl : n8 = 2 := hi.1
    obtain rfl : m8 = 1 := hd.1
    have HI8 := Lib.hid hi
    have HD8 := Lib.hid hd
    clear hi hd hs hm
    replace HV := Lib.hid (HV.out.trans hk)
    clear hk
    refine soloP HV.out ?_
    rw [wpPlan_one]
    simp only [pickOps_cons, pickOps_nil, consO_some, List.getElem?_cons_zero, List.getElem?_cons_succ]
    go_wp2_with (go_at_call 28; refine (ctxC.same A8 2 c8 [0, 4] B8 1 k8 [((0 : Int), (9 : Int))] (some ⟨g3, o3, none⟩) 2 c2 [0, 4] B2 1 k2 [((0 : Int), (9 : Int))] _ HI8.out HD8.out (HIj.out.kept HV.out) (HDj.out.kept HV.out) true (by simp)).mono ?_; rintro e u109 ⟨rfl, hk⟩)
    replace HV := Lib.hid (HV.out.trans hk)
    clear hk
    refine soloP HV.out ?_
    rw [wpPlan_read]
    simp only [pickOps_cons, pickOps_nil, consO_some, List.getElem?_cons_zero, List.getElem?_cons_succ]
    repeat (go_big_quiet_step (fail))
    refine wpQuiet_nil ?_
    refine wpPlan_stop ?_
    clear p1 p2 p2' p3 p4 p4' c0 c1' j0 j1 t0 t1
    go_wp2_with fail
    go_ret
    exact ⟨rfl, HW.out.trans HV.out⟩
end Go.Proofs.Ytgofecnpmohmgaa
