/-
  What is proved: Compact of package ctx, called with any set that lies in memory and whose Vec is good, returns the set of all that Vec and Cloud have, those that are not right let go (P6.3); the world has new blocks at most.
-/
import Derived.Test.YtkooihljddibfaaGreatM16
import Derived.Test.YtkooihljddibfaaGreatM21
import Derived.Test.YtkooihljddibfaaGreatCComp
import Derived.Test.YtkooihljddibfaaGreatM13
import Derived.Test.YtkooihljddibfaaGreatM9
import Derived.Test.YtkooihljddibfaaGreatM20
import Derived.Laws.CopyOwn
namespace Go.Proofs.YtkooihljddibfaaGreat
open Go.RowKit

def zero64 : Array Value := #[.int .i64 0, .int .i64 0, .int .i64 0, .int .i64 0, .int .i64 0, .int .i64 0, .int .i64 0, .int .i64 0, .int .i64 0, .int .i64 0, .int .i64 0, .int .i64 0, .int .i64 0, .int .i64 0, .int .i64 0, .int .i64 0, .int .i64 0, .int .i64 0, .int .i64 0, .int .i64 0, .int .i64 0, .int .i64 0, .int .i64 0, .int .i64 0, .int .i64 0, .int .i64 0, .int .i64 0, .int .i64 0, .int .i64 0, .int .i64 0, .int .i64 0, .int .i64 0, .int .i64 0, .int .i64 0, .int .i64 0, .int .i64 0, .int .i64 0, .int .i64 0, .int .i64 0, .int .i64 0, .int .i64 0, .int .i64 0, .int .i64 0, .int .i64 0, .int .i64 0, .int .i64 0, .int .i64 0, .int .i64 0, .int .i64 0, .int .i64 0, .int .i64 0, .int .i64 0, .int .i64 0, .int .i64 0, .int .i64 0, .int .i64 0, .int .i64 0, .int .i64 0, .int .i64 0, .int .i64 0, .int .i64 0, .int .i64 0, .int .i64 0, .int .i64 0]
theorem zero64_eq : zero64 = (intsV (List.replicate 64 0)).toArray := by rfl
theorem splice_pad (V : List Int) : splice (intsV (List.replicate 64 0)) 0 (intsV V) = intsV (padV V 64) := by
  unfold splice padV
  rw [intsV_app, List.take_zero, List.nil_append, intsV_len, Nat.zero_add]
  congr 1
  unfold intsV
  rw [← List.map_drop, List.drop_replicate]
theorem intsV_setA (V : List Int) (j : Nat) (y : Int) : (intsV V).toArray.setIfInBounds j (.int .i64 y) = (intsV (V.set j y)).toArray := by
  apply Array.ext'
  simp only [Array.toList_setIfInBounds]
  unfold intsV
  rw [List.map_set]
/-- The array and the row that Compact fills, and what it leaves alone. -/
structure MemG (u : World) (G : Nat) (wr : World) (V : List Int) (v2 : Value) (C : List (Int × Int)) : Prop where
  arr : wr.heap[G]? = some (Obj.cells (intsV V).toArray 94 (0, 0))
  dv : wr.ownsRow u.heap.size 30 2 v2 C.length (flatD C)
  ke : KeptE G u wr
  lt : G < u.heap.size
section
variable {u wr : World} {G : Nat} {v2 : Value} {V : List Int} {C : List (Int × Int)}
theorem MemG.kept {w' : World} (h : MemG u G wr V v2 C) (hk : Kept wr w') : MemG u G w' V v2 C := ⟨blk_kept h.arr hk, own_kept h.dv hk, h.ke.trans hk, h.lt⟩
theorem MemG.cell (h : MemG u G wr V v2 C) {j : Nat} {x : Int} (hx : V[j]? = some x) : wr.cell? ⟨G, j, none⟩ = some (.int .i64 x) := by
  have e := intsV_get hx
  simp only [World.cell?, h.arr]
  rw [List.getElem?_toArray]
  exact e
theorem MemG.froz (h : MemG u G wr V v2 C) (j : Nat) : wr.frozen? ⟨G, j, none⟩ = false := by simp [World.frozen?, h.arr]
theorem MemG.set (h : MemG u G wr V v2 C) (j : Nat) (y : Int) : MemG u G (wr.setCell ⟨G, j, none⟩ (.int .i64 y)) (V.set j y) v2 C :=
  ⟨by rw [set_blk h.arr, intsV_setA], ownsRow_setCell_other h.dv (fun e => by have h1 : u.heap.size ≤ G := (h.dv.lt _ e).1; have h2 := h.lt; omega) _, h.ke.set (.inl rfl) _, h.lt⟩
theorem MemG.put (h : MemG u G wr V v2 C) (hl : C.length ≤ 1000000) (x : Int × Int) :
    ∃ A c w', (Builtin.append_ #[24, 24] 24 #[v2, .slice (some ⟨wr.heap.size, 0, none⟩) 1 1]).run Tryz.prog (wr.alloc (.cells #[.int .i64 x.1, .int .i64 x.2] 30)) = .ok (.slice A (C.length + 1) c) w' ∧ MemG u G w' V (.slice A (C.length + 1) c) (C ++ [x]) := by
  have hk := (Kept.refl wr).alloc #[.int .i64 x.1, .int .i64 x.2] 30
  have h2 := h.kept hk
  obtain ⟨v', w', hr, ho, hg, hat⟩ := app_dots_at _ _ v2 C.length _ h2.dv (some ⟨wr.heap.size, 0, none⟩) 1 1 [x] (dl_one wr x.1 x.2 _) (by omega) (by have := h2.ke.size; omega)
  rw [← flatD_app] at ho
  obtain ⟨A, c, rfl, _⟩ := Dl.of_own ho
  refine ⟨A, c, w', hr, ⟨?_, by rw [List.length_append]; exact ho, h2.ke.grown hg (fun g hgb => .inr (h2.dv.lt g hgb).1), h.lt⟩⟩
  rw [hg.block G (lt_of_some h2.arr) (fun e => by have := (h2.dv.lt G e.symm).1; have := h.lt; omega)]
  exact h2.arr
theorem MemG.form (h : MemG u G wr V v2 C) : ∃ A c, v2 = .slice A C.length c ∧ C.length ≤ c ∧ c ≤ 9223372036854775807 := by
  obtain ⟨A, c, rfl, hd⟩ := Dl.of_own h.dv
  exact ⟨A, c, rfl, hd.cap.1, hd.cap.2⟩
theorem MemG.il (h : MemG u G wr V v2 C) (hl : V.length = 64) : Il wr (some ⟨G, 0, none⟩) 64 64 V :=
  ⟨hl.symm, Nat.le_refl _, by simp [maxLen], (fun h => by cases h), .inr ⟨G, 0, rfl, fun j x hj => by rw [Nat.zero_add]; exact h.cell hj⟩⟩
end

set_option maxRecDepth 100000 in
set_option maxHeartbeats 8000000 in
theorem gcompact_any (A : Option Addr) (n c : Nat) (V : List Int) (B : Option Addr) (m k : Nat) (C : List (Int × Int)) (w : World) (h : Il w A n c V) (hv : VecOk V) (hd : Dl w B m k C) (hm : m ≤ 999990) :
    Calls Tryz.prog 71 #[.agg #[.slice A n c, .slice B m k]] w (SetsF (CompS V C) C.length w) := by
  have hcap := h.cap.1; have hcap2 := h.cap.2; have hdap := hd.cap.1; have hdap2 := hd.cap.2
  have HN := Lib.hid h.1; have HM := Lib.hid hd.1
  have HV := Lib.hid hv
  have hn64 : n ≤ 64 := by have := hv.len; have := h.1; omega
  have HI := Lib.hid h
  have HD := Lib.hid hd
  have hK0 : Kept w (((w.alloc (.cells #[.slice A n c, .slice B m k] 26)).alloc (.cells #[.slice none 0 0, .slice none 0 0] 26)).alloc (.cells zero64 94)) := (((Kept.refl w).alloc #[.slice A n c, .slice B m k] 26).alloc #[.slice none 0 0, .slice none 0 0] 26).alloc zero64 94
  have hsz : (((w.alloc (.cells #[.slice A n c, .slice B m k] 26)).alloc (.cells #[.slice none 0 0, .slice none 0 0] 26)).alloc (.cells zero64 94)).heap.size = w.heap.size + 3 := by simp
  have hbx : (((w.alloc (.cells #[.slice A n c, .slice B m k] 26)).alloc (.cells #[.slice none 0 0, .slice none 0 0] 26)).alloc (.cells zero64 94)).heap[w.heap.size + 2]? = some (Obj.cells zero64 94 (0, 0)) := by
    have := heap_alloc_new ((w.alloc (.cells #[.slice A n c, .slice B m k] 26)).alloc (.cells #[.slice none 0 0, .slice none 0 0] 26)) (.cells zero64 94)
    rwa [show ((w.alloc (.cells #[.slice A n c, .slice B m k] 26)).alloc (.cells #[.slice none 0 0, .slice none 0 0] 26)).heap.size = w.heap.size + 2 by simp] at this
  have hb1 := Box2.new w (.slice A n c) (.slice B m k) 26 |>.kept (((Kept.refl _).alloc #[.slice none 0 0, .slice none 0 0] 26).alloc zero64 94)
  have hb2 := Box2.new (w.alloc (.cells #[.slice A n c, .slice B m k] 26)) (.slice none 0 0) (.slice none 0 0) 26 |>.kept ((Kept.refl _).alloc zero64 94)
  rw [show (w.alloc (.cells #[.slice A n c, .slice B m k] 26)).heap.size = w.heap.size + 1 by simp] at hb2
  have c0 := KExtE.cell (b := w.heap.size + 2) (by omega) hb1.c0
  obtain ⟨U, hU⟩ : ∃ U, (((w.alloc (.cells #[.slice A n c, .slice B m k] 26)).alloc (.cells #[.slice none 0 0, .slice none 0 0] 26)).alloc (.cells zero64 94)) = U := ⟨_, rfl⟩
  rw [hU] at hK0 hsz hbx hb1 hb2
  have HU := Lib.hid hU
  have HK0 := Lib.hid hK0
  have HBX := Lib.hid hbx
  have HB1 := Lib.hid hb1
  have HB2 := Lib.hid hb2
  clear h hd hv hK0 hbx hb1 hb2 hU
  go_enter Tryz.func71, Tryz.ntmps71
  go_wp2_with fail
  refine region_planE (w.heap.size + 2) (((w.alloc (.cells #[.slice A n c, .slice B m k] 26)).alloc (.cells #[.slice none 0 0, .slice none 0 0] 26)).alloc (.cells zero64 94)) 4 (.read [0, 1, 2] (.one 3 .stop)) (by kernel_rfl) (by kernel_rfl) (by kernel_rfl) (by kernel_rfl) (by kernel_rfl) (fun _ d _ _ _ h => by cases d <;> exact h) (Kept.refl _) ?_
  intro wd hwd0
  have HWD := Lib.hid (show Kept U wd by rw [← HU.out]; exact hwd0)
  clear hwd0
  rw [wpPlan_read]
  simp only [pickOps_cons, pickOps_nil, consO_some, List.getElem?_cons_zero, List.getElem?_cons_succ]
  repeat (go_big_quiet_step (fail))
  refine wpQuiet_nil ?_
  rw [wpPlan_one]
  simp only [pickOps_cons, pickOps_nil, consO_some, List.getElem?_cons_zero, List.getElem?_cons_succ]
  have HCS := Lib.hid (HI.out.kept (HK0.out.trans HWD.out))
  have HHG := Lib.hid (show wd.heap[w.heap.size + 2]? = some (.cells (intsV (List.replicate 64 0)).toArray 94 (0, 0)) by rw [← zero64_eq]; exact blk_kept HBX.out HWD.out)
  have HC1 := Lib.hid (show (intsV V).length = Nat.min n 64 by rw [intsV_len, ← HN.out]; simp only [Nat.min_def]; split <;> omega)
  have HC2 := Lib.hid (show 0 < (intsV V).length → (some ⟨w.heap.size + 2, 0, none⟩ : Option Addr) = some ⟨w.heap.size + 2, 0, none⟩ ∧ ∃ ad, A = some ad ∧ ∀ (j : Nat) (v : Value), (intsV V)[j]? = some v → wd.cell? (ad.add j) = some v from fun hp => by
    rw [intsV_len, ← HN.out] at hp
    obtain ⟨b, o, x, hA, _, _⟩ := HCS.out.get hp
    refine ⟨rfl, ⟨b, o, none⟩, hA, fun j y hj => ?_⟩
    unfold intsV at hj
    rw [List.getElem?_map] at hj
    obtain ⟨z, hz, rfl⟩ := Option.map_eq_some_iff.1 hj
    obtain ⟨b', o', x', hA', hx', hc'⟩ := HCS.out.get (k := j) (by have := (List.getElem?_eq_some_iff.1 hz).1; have := HN.out; omega)
    obtain rfl := Option.some.inj (hx'.symm.trans hz)
    obtain ⟨rfl, rfl⟩ : b = b' ∧ o = o' := by simpa using hA.symm.trans hA'
    rw [Addr.add_lit]
    exact hc')
  obtain ⟨Z, hZ⟩ : ∃ Z, intsV (List.replicate 64 0) = Z := ⟨_, rfl⟩
  have HC3 := Lib.hid (show 0 + (intsV V).length ≤ Z.length by rw [← hZ, intsV_len, intsV_len, List.length_replicate, ← HN.out]; omega)
  have HC4 := Lib.hid (intsV_one V)
  obtain ⟨cs, hcs⟩ : ∃ cs, intsV V = cs := ⟨_, rfl⟩
  have HSP := Lib.hid (show splice Z 0 cs = intsV (padV V 64) by rw [← hZ, ← hcs]; exact splice_pad V)
  rw [hZ] at HHG
  rw [hcs] at HC1 HC2 HC3 HC4
  clear hZ hcs
  go_wp2_with (with_reducible refine wpList_copy_splice rfl (.tmp 7) (.tmp 9) 23 23 rfl 3 Tryz.underlying23 (by kernel_rfl) (some ⟨w.heap.size + 2, 0, none⟩) A 64 64 n c rfl rfl (w.heap.size + 2) 0 Z 94 HHG.out cs HC1.out HC2.out HC3.out HC4.out (w.heap.size + 2) wd (Below.refl _ _) (Nat.le_refl _) ?_)
  intro wc hgc hbc
  have HAR := Lib.hid (show wc.heap[w.heap.size + 2]? = some (Obj.cells (intsV (padV V 64)).toArray 94 (0, 0)) by have := hgc.out; rwa [HSP.out] at this)
  have HKE := Lib.hid (show KeptE (w.heap.size + 2) U wc from ⟨hbc.os.trans HWD.out.1.1, hbc.output.trans HWD.out.1.2.1, Nat.le_trans HWD.out.2.2 hbc.size, fun i hi hne => (hbc.block i (by omega)).trans (HWD.out.blk hi)⟩)
  clear hgc hbc
  refine soloE (by rw [HU.out]; exact HKE.out) ?_
  refine wpPlan_stop ?_
  have HKW := Lib.hid (HKE.out.kept HK0.out (by omega))
  have d1 := HKE.out.cell (by omega) HB1.out.c1
  clear c0
  go_wp2_with fail
  go_at_call 88
  refine (dsort_any B m k C _ (HD.out.kept HKW.out) (by omega)).mono ?_
  rintro e u ⟨A1, mX, cX, X, rfl, hx, hs, hmx, hku, hfr⟩
  have hxc1 := hx.cap.1
  have hxc2 := hx.cap.2
  have HX := Lib.hid hx
  have HS := Lib.hid hs
  have HKU := Lib.hid (HKW.out.trans hku)
  have HLX := Lib.hid hx.1
  have hwcs : w.heap.size + 2 < wc.heap.size := lt_of_some HAR.out
  have HNG := Lib.hid (show ∀ ad, A1 = some ad → ad.block ≠ w.heap.size + 2 from fun ad e => by have := hfr ad e; omega)
  have HMX := Lib.hid (show mX ≤ C.length from hmx)
  have hmx2 : mX ≤ 999990 := by have := HM.out; omega
  have hwu := hku.2.2
  have HM0 := Lib.hid (show MemG u (w.heap.size + 2) u (padV V 64) (.slice none 0 0) [] from ⟨blk_kept HAR.out hku, World.ownsRow_nil _ _ _ _, .refl _ _, by omega⟩)
  have HRES := Lib.hid (show u.cell? ⟨w.heap.size + 1, 0, none⟩ = some (.slice none 0 0) ∧ u.cell? ⟨w.heap.size + 1, 1, none⟩ = some (.slice none 0 0) ∧ ∀ i, u.frozen? ⟨w.heap.size + 1, i, none⟩ = false from
    ⟨hku.cell (HKE.out.cell (by omega) HB2.out.c0), hku.cell (HKE.out.cell (by omega) HB2.out.c1), fun i => (hku.2.1 _ (by simp only; omega)).trans (HKE.out.froz (by omega) (by omega) (HB2.out.f i))⟩)
  have HP0 := Lib.hid ((InvC.start HV.out).pad (show 64 ≤ 64 by omega))
  have hl0 : (padV V 64).length = 64 := by rw [padV_len]; have := HV.out.len; omega
  have HL0 := Lib.hid hl0
  clear hx hs hmx hku hfr d1 hl0
  obtain ⟨G, hG⟩ : ∃ G, w.heap.size + 2 = G := ⟨_, rfl⟩
  have hGu : G < u.heap.size := by omega
  have hGw : w.heap.size + 1 < G := by omega
  rw [hG] at HM0 HNG
  go_wp2_with fail
  try rw [hG]
  clear hG
  go_loopw [4, 15] (fun v2 i wr => ∃ (t : Nat) (V1 : List Int) (C1 : List (Int × Int)), t ≤ mX ∧ i = .int .i64 t ∧ MemG u G wr V1 v2 C1 ∧ V1.length = 64 ∧ InvC V (X.take t) V1 C1) (fun _ i _ => mX - (intOf i).toNat)
  case atStart => exact ⟨0, padV V 64, [], Nat.zero_le _, rfl, HM0.out, HL0.out, HP0.out⟩
  case round =>
    obtain ⟨t, V1, C1, ht, rfl, hmc, hl1, hin⟩ := hrel
    have HMC := Lib.hid hmc
    have HIN := Lib.hid hin
    have HL1 := Lib.hid hl1
    have hlc : C1.length ≤ mX := by
      have := hin.sub.length_le
      rw [List.length_take] at this
      have := HLX.out; omega
    clear hmc hin hl1
    by_cases hlt : t < mX
    · obtain ⟨g, o, ⟨y1, y2⟩, rfl, hy, g1, g2⟩ := (HX.out.keptE HMC.out.ke HNG.out).get hlt
      simp only at g1 g2
      have HY := Lib.hid hy
      have HP := Lib.hid (show ∀ p ∈ X.take t, LtD p (y1, y2) from fun p hp => by
        obtain ⟨q, hq⟩ := List.getElem?_of_mem hp
        rw [List.getElem?_take] at hq
        split at hq
        · exact rise_get HS.out.rise hq hy (by assumption)
        · cases hq)
      have HT := Lib.hid (show X.take (t + 1) = X.take t ++ [(y1, y2)] by rw [List.take_add_one, hy]; rfl)
      have HMB := Lib.hid (HMC.out.kept ((Kept.refl wr).alloc #[.int .i64 y1, .int .i64 y2] 30))
      have HBX2 := Lib.hid (show (wr.alloc (.cells #[.int .i64 y1, .int .i64 y2] 30)).heap[wr.heap.size]? = some (Obj.cells #[.int .i64 y1, .int .i64 y2] 30 (0, 0)) from heap_alloc_new wr _)
      obtain ⟨A4, c4, rfl, h41, h42⟩ := HMC.out.form
      clear hy
      cases hq : rightD (y1, y2) with
      | false =>
        have HQ := Lib.hid hq
        have AR := Lib.hid (fun w => dright_c (y1, y2) false hq w)
        clear hq
        go_wp2_with fail
        go_at_call 37
        refine (AR.out _).mono ?_
        rintro e w5 ⟨rfl, hk5⟩
        have HMZ := Lib.hid (HMB.out.kept hk5)
        have HIZ := Lib.hid (show InvC V (X.take (t + 1)) V1 C1 by rw [HT.out]; exact HIN.out.skip fun h => by rw [HQ.out] at h; cases h)
        clear g1 g2
        go_wp2_with fail
        go_roundw
        case rel => exact ⟨t + 1, V1, C1, hlt, by go_num, HMZ.out, HL1.out, HIZ.out⟩
        case measure => simp [intOf]; omega
      | true =>
        have HQ := Lib.hid hq
        have AR := Lib.hid (fun w => dright_c (y1, y2) true hq w)
        obtain ⟨b1, b2, b3, b4⟩ := rightD_bd hq
        simp only at b1 b2 b3 b4
        obtain ⟨r, rfl⟩ : ∃ r : Nat, y1 = r := ⟨y1.toNat, by omega⟩
        have hr64 : r < 64 := by omega
        obtain ⟨x, hx⟩ : ∃ x, V1[r]? = some x := ⟨_, List.getElem?_eq_getElem (by have := HL1.out; omega)⟩
        have HXS := Lib.hid hx
        have HAT := Lib.hid (show atV V1 (r : Int) = x from atV_in hx)
        obtain ⟨hbd1, hbd2⟩ := HIN.out.vec.bd x (List.mem_of_getElem? hx)
        have hsub : IntKind.i64.wrap (y2 - 1) = y2 - 1 := by rw [IntWalk.i64_in _ (by omega)]
        clear hq hx
        go_wp2_with fail
        go_at_call 37
        refine (AR.out _).mono ?_
        rintro e w5 ⟨rfl, hk5⟩
        have HM5 := Lib.hid (HMB.out.kept hk5)
        have HB5 := Lib.hid (blk_kept HBX2.out hk5)
        clear hk5 g1 g2
        have f0 := KExt.cell (blk_cells HB5.out).1
        have f1 := KExt.cell (blk_cells HB5.out).2
        have f2 := KExt.cell (HM5.out.cell HXS.out)
        by_cases hy1 : y2 = x + 1
        · have p1 : (y2 - 1 == x) = true := by rw [beq_iff_eq]; omega
          have HY1 := Lib.hid hy1
          clear hy1
          go_wp2_with fail
          refine region_kept w5 (by kernel_rfl) (by kernel_rfl) (Kept.refl _) ?_
          repeat (go_big_quiet_step (fail))
          refine wpQuiet_nil ?_
          intro Q5
          clear f0 f1 f2 p1
          have e0 := (blk_cells (blk_kept HB5.out Q5.g)).1
          have e1 := (blk_cells (blk_kept HB5.out Q5.g)).2
          have HM6 := Lib.hid (HM5.out.kept Q5.g)
          obtain ⟨w6, hw6⟩ := Q5
          simp only at e0 e1 HM6 ⊢
          have e2 := HM6.out.cell HXS.out
          have e3 := HM6.out.froz r
          have HMZ := Lib.hid (HM6.out.set r y2)
          have HIZ := Lib.hid (show InvC V (X.take (t + 1)) (V1.set r y2) C1 by
            rw [HT.out]
            have := HIN.out.inc HP.out HQ.out (by simp only [Int.toNat_natCast]; have := HL1.out; omega) (by simp only; rw [HAT.out]; exact HY1.out)
            simpa only [Int.toNat_natCast] using this)
          have HLZ := Lib.hid (show (V1.set r y2).length = 64 by rw [List.length_set]; exact HL1.out)
          clear hw6
          go_wp2_with fail
          clear e0 e1 e2 e3 hsub
          go_roundw
          case rel => exact ⟨t + 1, V1.set r y2, C1, hlt, by go_num, HMZ.out, HLZ.out, HIZ.out⟩
          case measure => simp [intOf]; omega
        · have p1 : (y2 - 1 == x) = false := by rw [beq_eq_false_iff_ne]; omega
          by_cases hy2 : x < y2
          · have p2 : decide (x < y2) = true := by simpa using hy2
            go_wp2_with fail
            refine region_kept w5 (by kernel_rfl) (by kernel_rfl) (Kept.refl _) ?_
            repeat (go_big_quiet_step (fail))
            refine wpQuiet_nil ?_
            intro Q5
            clear f0 f1 f2 p1
            have HM6 := Lib.hid (HM5.out.kept Q5.g)
            have HB6 := Lib.hid (blk_kept HB5.out Q5.g)
            obtain ⟨w6, hw6⟩ := Q5
            simp only at HM6 HB6 ⊢
            clear hw6
            have f0 := KExt.cell (blk_cells HB6.out).1
            have f1 := KExt.cell (blk_cells HB6.out).2
            have f2 := KExt.cell (HM6.out.cell HXS.out)
            go_wp2_with fail
            refine region_kept w6 (by kernel_rfl) (by kernel_rfl) (Kept.refl _) ?_
            repeat (go_big_quiet_step (fail))
            refine wpQuiet_nil ?_
            intro Q6
            clear f0 f1 f2 p2
            have HM7 := Lib.hid (HM6.out.kept Q6.g)
            have e0 := (blk_cells (blk_kept HB6.out Q6.g)).1
            have e1 := (blk_cells (blk_kept HB6.out Q6.g)).2
            obtain ⟨w7, hw7⟩ := Q6
            simp only at HM7 e0 e1 ⊢
            clear hw7
            obtain ⟨A8, c8, w8, hr8, hm8⟩ := HM7.out.put (by omega) ((r : Int), y2)
            have HR8 := Lib.hid hr8
            have HM8 := Lib.hid hm8
            have HIZ := Lib.hid (show InvC V (X.take (t + 1)) V1 (C1 ++ [((r : Int), y2)]) by
              rw [HT.out]
              exact HIN.out.put HQ.out (by simp only; rw [HAT.out]; omega))
            clear hr8 hm8 hy1 hy2 hsub
            go_wp2_with (at_builtin; refine Lib.wpList_append_run _ rfl (.tmp 45) (.tmp 47) _ _ rfl _ _ rfl rfl _ _ HR8.out ?_)
            clear e0 e1
            go_roundw
            case rel => exact ⟨t + 1, V1, C1 ++ [((r : Int), y2)], hlt, by go_num, HM8.out, HL1.out, HIZ.out⟩
            case measure => simp [intOf]; omega
          · have p2 : decide (x < y2) = false := by simpa using hy2
            go_wp2_with fail
            refine region_kept w5 (by kernel_rfl) (by kernel_rfl) (Kept.refl _) ?_
            repeat (go_big_quiet_step (fail))
            refine wpQuiet_nil ?_
            intro Q5
            clear f0 f1 f2 p1
            have HM6 := Lib.hid (HM5.out.kept Q5.g)
            have HB6 := Lib.hid (blk_kept HB5.out Q5.g)
            obtain ⟨w6, hw6⟩ := Q5
            simp only at HM6 HB6 ⊢
            clear hw6
            have f0 := KExt.cell (blk_cells HB6.out).1
            have f1 := KExt.cell (blk_cells HB6.out).2
            have f2 := KExt.cell (HM6.out.cell HXS.out)
            go_wp2_with fail
            refine region_kept w6 (by kernel_rfl) (by kernel_rfl) (Kept.refl _) ?_
            repeat (go_big_quiet_step (fail))
            refine wpQuiet_nil ?_
            intro Q6
            clear f0 f1 f2 p2
            have HMZ := Lib.hid (HM6.out.kept Q6.g)
            have HIZ := Lib.hid (show InvC V (X.take (t + 1)) V1 C1 by
              rw [HT.out]
              exact HIN.out.skip fun _ => .inl ⟨b3, by simp only; rw [HAT.out]; omega⟩)
            clear hy1 hy2 hsub
            go_wp2_with fail
            go_roundw
            case rel => exact ⟨t + 1, V1, C1, hlt, by go_num, HMZ.out, HL1.out, HIZ.out⟩
            case measure => simp [intOf]; omega
    · have htm : t = mX := by omega
      have HIF := Lib.hid (show InvC V X V1 C1 by have := HIN.out; rwa [List.take_of_length_le (by have := HLX.out; omega)] at this)
      obtain ⟨A4, c4, rfl, h41, h42⟩ := HMC.out.form
      clear htm
      go_wp2_with fail
      go_at_call 87
      refine (trim_any (some ⟨G, 0, none⟩) 64 64 V1 _ (HMC.out.il HL1.out)).mono ?_
      rintro e w5 ⟨q, hq, rfl, hz, hl, rfl⟩
      have HZ := Lib.hid hz
      have HL := Lib.hid hl
      have hil := il_head (HMC.out.il HL1.out) hq
      clear hz hl
      go_wp2_with fail
      go_at_call 89
      refine (cloneI_any (some ⟨G, 0, none⟩) q 64 (V1.take q) _ hil (by omega)).mono ?_
      rintro e w6 ⟨v6, rfl, ho6, hk6⟩
      have HM6 := Lib.hid (HMC.out.kept hk6)
      have HKE6 := Lib.hid HM6.out.ke
      have e0 := HM6.out.ke.cell (by omega) HRES.out.1
      have e1 := HM6.out.ke.cell (by omega) HRES.out.2.1
      have ef0 := HM6.out.ke.froz (by omega) (by omega) (HRES.out.2.2 0)
      have ef1 := HM6.out.ke.froz (by omega) (by omega) (HRES.out.2.2 1)
      obtain ⟨A6, c6, rfl, hi6⟩ := Il.of_own ho6
      obtain ⟨A7, c7, e7, hd7⟩ := Dl.of_own HM6.out.dv
      simp only [Value.slice.injEq] at e7
      obtain ⟨rfl, _, rfl⟩ := e7
      have HF := Lib.hid (sets_box (W := w) (w0 := u) (b := w.heap.size + 1) hi6 hd7 (fun ad e => by subst e; exact Nat.le_trans HMC.out.ke.size (ho6.lt ad.block rfl).1) (fun ad e => by subst e; exact (HM6.out.dv.lt ad.block rfl).1) (by omega) (by omega)
        (HM6.out.ke.kept HKU.out (by omega)) ((HIF.out.fin HS.out.rise (by have := HL1.out; omega) HZ.out HL.out).comp HS.out.mem) (show C1.length ≤ C.length by have := HMX.out; omega))
      clear hil ho6 hi6 hd7 hk6
      go_wp2_with fail
      exact bodyPost_ret (by simp [results, Tryz.results71, go_sem, *]) rfl HF.out
end Go.Proofs.YtkooihljddibfaaGreat
