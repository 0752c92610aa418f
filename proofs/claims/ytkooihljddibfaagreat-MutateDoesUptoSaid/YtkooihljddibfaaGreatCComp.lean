/-
  What is proved: the document's Compact of layer 6, called with any set that lies in memory and whose Vec is good, returns the set of all that Vec and Cloud have, those that are not right let go (P6.3); the world has new blocks at most.
-/
import Derived.Test.YtkooihljddibfaaGreatRow
import Derived.Test.YtkooihljddibfaaGreatM10
import Derived.Test.YtkooihljddibfaaGreatM6
namespace Go.Proofs.YtkooihljddibfaaGreat
open Go.RowKit

theorem padV_succ {V : List Int} {t : Nat} (h : V.length ≤ t) : padV V (t + 1) = padV V t ++ [0] := by
  unfold padV
  rw [show t + 1 - V.length = (t - V.length) + 1 by omega, List.replicate_succ', List.append_assoc]
theorem padV_self (V : List Int) : padV V V.length = V := by unfold padV; simp
theorem il_one (w : World) (x : Int) (t : TypeId) : Il (w.alloc (.cells #[.int .i64 x] t)) (some ⟨w.heap.size, 0, none⟩) 1 1 [x] := by
  refine ⟨rfl, Nat.le_refl _, by simp [maxLen], (fun h => by cases h), .inr ⟨w.heap.size, 0, rfl, fun j y hj => ?_⟩⟩
  match j, hj with
  | 0, hj =>
    obtain rfl : x = y := by simpa using hj
    rw [World.cell?_alloc_new]; rfl
  | j + 1, hj => simp at hj
/-- The rows that Compact owns, and what it leaves alone. -/
structure MemC (w u : World) (G : Nat) (wr : World) (v : Value) (V : List Int) (v2 : Value) (C : List (Int × Int)) : Prop where
  iv : wr.ownsRow (w.heap.size + 2) 3 1 v V.length (intsV V)
  own : ∀ g, v.ownBlock = some g → g = G ∨ u.heap.size ≤ g
  dv : wr.ownsRow u.heap.size 30 2 v2 C.length (flatD C)
  ke : KeptE G u wr
  lo : w.heap.size + 2 ≤ u.heap.size
section
variable {w u wr : World} {G : Nat} {v v2 : Value} {V : List Int} {C : List (Int × Int)}
theorem MemC.kept {wr' : World} (h : MemC w u G wr v V v2 C) (hk : Kept wr wr') : MemC w u G wr' v V v2 C :=
  ⟨own_kept h.iv hk, h.own, own_kept h.dv hk, h.ke.trans hk, h.lo⟩
theorem MemC.ints (h : MemC w u G wr v V v2 C) : ∃ A c, v = .slice A V.length c ∧ V.length ≤ c ∧ c ≤ 9223372036854775807 := by
  obtain ⟨A, c, rfl, hi⟩ := Il.of_own h.iv
  exact ⟨A, c, rfl, hi.cap.1, hi.cap.2⟩
theorem MemC.grow (h : MemC w u G wr v V v2 C) (hl : V.length ≤ 1000) :
    ∃ v' w', (Builtin.append_ #[23, 23] 23 #[v, .slice (some ⟨wr.heap.size, 0, none⟩) 1 1]).run Tryz.prog (wr.alloc (.cells #[.int .i64 0] 3)) = .ok v' w' ∧ MemC w u G w' v' (V ++ [0]) v2 C ∧
      ∀ (b : Nat) (cs : Array Value), wr.heap[b]? = some (Obj.cells cs 30 (0, 0)) → w'.heap[b]? = some (Obj.cells cs 30 (0, 0)) := by
  have hk := (Kept.refl wr).alloc #[.int .i64 0] 3
  have h2 := h.kept hk
  obtain ⟨v', w', hr, ho, hg, hat⟩ := app_ints _ _ v V.length _ h2.iv (some ⟨wr.heap.size, 0, none⟩) 1 1 [0] (il_one wr 0 _) (by omega) (by have := h.lo; have := h2.ke.size; omega)
  have hsz := h2.ke.size
  refine ⟨v', w', hr, ⟨by rw [List.length_append, intsV_app]; exact ho, fun g hgb => ?_, own_blk h2.dv fun g hgb => ?_, h2.ke.grown hg h2.own, h.lo⟩, fun b cs hb => ?_⟩
  · rcases hat with e | e
    · exact h2.own g (e ▸ hgb)
    · rw [e] at hgb
      exact .inr (by obtain rfl := Option.some.inj hgb; exact hsz)
  · rcases own_apart h2.dv h2.iv (by decide) with e | e
    · rw [e] at hgb; cases hgb
    · exact hg.block g (h2.dv.lt g hgb).2 (fun e2 => e (hgb.trans e2))
  · have hb2 : (wr.alloc (.cells #[.int .i64 0] 3)).heap[b]? = some (Obj.cells cs 30 (0, 0)) := by
      rw [hk.blk (by
        rcases Nat.lt_or_ge b wr.heap.size with h' | h'
        · exact h'
        · rw [Array.getElem?_eq_none h'] at hb; cases hb)]
      exact hb
    rw [hg.block b (by
      rcases Nat.lt_or_ge b (wr.alloc (.cells #[.int .i64 0] 3)).heap.size with h' | h'
      · exact h'
      · rw [Array.getElem?_eq_none h'] at hb2; cases hb2) (fun e => by
        obtain ⟨c2, hc2⟩ := own_kind h2.iv e.symm
        rw [hb2] at hc2
        simp only [Option.some.injEq, Obj.cells.injEq] at hc2
        exact absurd hc2.2.1 (by decide))]
    exact hb2
theorem MemC.put (h : MemC w u G wr v V v2 C) (hl : C.length ≤ 1000000) (x : Int × Int) :
    ∃ v' w', (Builtin.append_ #[24, 24] 24 #[v2, .slice (some ⟨wr.heap.size, 0, none⟩) 1 1]).run Tryz.prog (wr.alloc (.cells #[.int .i64 x.1, .int .i64 x.2] 30)) = .ok v' w' ∧ MemC w u G w' v V v' (C ++ [x]) := by
  have hk := (Kept.refl wr).alloc #[.int .i64 x.1, .int .i64 x.2] 30
  have h2 := h.kept hk
  obtain ⟨v', w', hr, ho, hg, hat⟩ := app_dots_at _ _ v2 C.length _ h2.dv (some ⟨wr.heap.size, 0, none⟩) 1 1 [x] (dl_one wr x.1 x.2 _) (by omega) (by have := h2.ke.size; omega)
  refine ⟨v', w', hr, ⟨own_blk h2.iv fun g hgb => ?_, h.own, by rw [List.length_append, flatD_app]; exact ho, h2.ke.grown hg (fun g hgb => .inr (h2.dv.lt g hgb).1), h.lo⟩⟩
  rcases own_apart h2.iv h2.dv (by decide) with e | e
  · rw [e] at hgb; cases hgb
  · exact hg.block g (h2.iv.lt g hgb).2 (fun e2 => e (hgb.trans e2))
theorem MemC.set (h : MemC w u G wr v V v2 C) {j : Nat} {x : Int} (hx : V[j]? = some x) :
    ∃ g cap, v = .slice (some ⟨g, 0, none⟩) V.length cap ∧ V.length ≤ cap ∧ cap ≤ 9223372036854775807 ∧ wr.cell? ⟨g, j, none⟩ = some (.int .i64 x) ∧ wr.frozen? ⟨g, j, none⟩ = false ∧ ∀ y : Int, MemC w u G (wr.setCell ⟨g, j, none⟩ (.int .i64 y)) v (V.set j y) v2 C := by
  obtain ⟨g, cap, hv, hg, hnc, hcm, hc, hf, hs⟩ := own_int h.iv hx
  have hvb : v.ownBlock = some g := by rw [hv]; rfl
  refine ⟨g, cap, hv, hnc, hcm, hc, hf, fun y => ⟨by rw [List.length_set]; exact hs y, h.own, ownsRow_setCell_other h.dv (fun e => ?_) _, h.ke.set (h.own g hvb) _, h.lo⟩⟩
  rcases own_apart h.iv h.dv (by decide) with e2 | e2
  · rw [e2] at hvb; cases hvb
  · exact e2 (hvb.trans e.symm)
theorem MemC.start {w1 : World} (ho : w1.ownsRow (w.heap.size + 2) 3 1 v V.length (intsV V)) (hG : ∀ g, v.ownBlock = some g → g = G) (hk : Kept w1 u) (hlo : w.heap.size + 2 ≤ w1.heap.size) : MemC w u G u v V (.slice none 0 0) [] :=
  ⟨own_kept ho hk, fun g hg => .inl (hG g hg), World.ownsRow_nil _ _ _ _, .refl _ _, Nat.le_trans hlo hk.2.2⟩
end
theorem lt_of_some {w : World} {b : Nat} {o : Obj} (h : w.heap[b]? = some o) : b < w.heap.size := by
  rcases Nat.lt_or_ge b w.heap.size with h' | h'
  · exact h'
  · rw [Array.getElem?_eq_none h'] at h; cases h
theorem blk_kept {w w' : World} {b : Nat} {o : Obj} (h : w.heap[b]? = some o) (hk : Kept w w') : w'.heap[b]? = some o := by
  rw [hk.blk (lt_of_some h)]; exact h
theorem blk_cells {w : World} {b : Nat} {x0 x1 : Value} {t : TypeId} {f : Nat × Nat} (h : w.heap[b]? = some (Obj.cells #[x0, x1] t f)) : w.cell? ⟨b, 0, none⟩ = some x0 ∧ w.cell? ⟨b, 1, none⟩ = some x1 := by
  simp [World.cell?, h]
/-- What the calls that make a set leave. -/
def Sets (S : Int × Int → Prop) (mx : Nat) (w : World) (e : Ending) (w' : World) : Prop :=
  ∃ A n c B m k V C, e = .returned (.agg #[.slice A n c, .slice B m k]) ∧ Il w' A n c V ∧ Dl w' B m k C ∧ SetC S V C ∧ m ≤ mx ∧ Kept w w'
/-- The same, in blocks of their own. -/
def SetsF (S : Int × Int → Prop) (mx : Nat) (w : World) (e : Ending) (w' : World) : Prop :=
  ∃ A n c B m k V C, e = .returned (.agg #[.slice A n c, .slice B m k]) ∧ Il w' A n c V ∧ Dl w' B m k C ∧ SetC S V C ∧ m ≤ mx ∧ Kept w w' ∧ (∀ ad, A = some ad → w.heap.size ≤ ad.block) ∧ ∀ ad, B = some ad → w.heap.size ≤ ad.block
theorem SetsF.sets {S : Int × Int → Prop} {mx : Nat} {w w' : World} {e : Ending} (h : SetsF S mx w e w') : Sets S mx w e w' := by
  obtain ⟨A, n, c, B, m, k, V, C, h1, h2, h3, h4, h5, h6, _⟩ := h
  exact ⟨A, n, c, B, m, k, V, C, h1, h2, h3, h4, h5, h6⟩
theorem sets_box {S : Int × Int → Prop} {mx : Nat} {W w0 w5 : World} {b n c m k : Nat} {A B : Option Addr} {V : List Int} {C : List (Int × Int)} (hi : Il w5 A n c V) (hd : Dl w5 B m k C) (hfa : ∀ ad, A = some ad → w0.heap.size ≤ ad.block) (hfb : ∀ ad, B = some ad → w0.heap.size ≤ ad.block)
    (hb : b < w0.heap.size) (hW : W.heap.size ≤ b) (hk : Kept W w5) (hs : SetC S V C) (hm : m ≤ mx) :
    SetsF S mx W (.returned (.agg #[.slice A n c, .slice B m k])) ((w5.setCell ⟨b, 0, none⟩ (.slice A n c)).setCell ⟨b, 1, none⟩ (.slice B m k)) := by
  have hE : KeptE b w5 ((w5.setCell ⟨b, 0, none⟩ (.slice A n c)).setCell ⟨b, 1, none⟩ (.slice B m k)) := ((KeptE.refl b w5).set (.inl rfl) _).set (.inl rfl) _
  refine ⟨A, n, c, B, m, k, V, C, rfl, hi.keptE hE (fun ad e => by have := hfa ad e; omega), hd.keptE hE (fun ad e => by have := hfb ad e; omega), hs, hm, kept_set2 hk _ _ hW, fun ad e => by have := hfa ad e; omega, fun ad e => by have := hfb ad e; omega⟩

set_option maxRecDepth 100000 in
set_option maxHeartbeats 8000000 in
theorem rcompact_any (A : Option Addr) (n c : Nat) (V : List Int) (B : Option Addr) (m k : Nat) (C : List (Int × Int)) (w : World) (h : Il w A n c V) (hv : VecOk V) (hd : Dl w B m k C) (hm : m ≤ 999990) :
    Calls Tryz.prog 57 #[.agg #[.slice A n c, .slice B m k]] w (SetsF (CompS V C) C.length w) := by
  have hcap := h.cap.1; have hcap2 := h.cap.2; have hdap := hd.cap.1; have hdap2 := hd.cap.2
  have HN := Lib.hid h.1; have HM := Lib.hid hd.1
  have HV := Lib.hid hv
  have hn64 : n ≤ 64 := by have := hv.len; have := h.1; omega
  have hK0 := ((Kept.refl w).alloc #[.slice A n c, .slice B m k] 26).alloc #[.slice none 0 0, .slice none 0 0] 26
  have hK1 := hK0.alloc #[] 3
  have hsz : ((w.alloc (.cells #[.slice A n c, .slice B m k] 26)).alloc (.cells #[.slice none 0 0, .slice none 0 0] 26)).heap.size = w.heap.size + 2 := by simp
  have hmade := World.ownsRow_made (base := w.heap.size + 2) (e := 3) (size := 1) ((w.alloc (.cells #[.slice A n c, .slice B m k] 26)).alloc (.cells #[.slice none 0 0, .slice none 0 0] 26)) #[] 0 (by rw [hsz]; exact Nat.le_refl _) (by simp [maxLen]) rfl
  rw [hsz] at hmade
  obtain ⟨v0, w1, hr0, ho0, hg0, hat0⟩ := app_ints _ _ _ 0 [] hmade A n c V (h.kept hK1) (by omega) (by simp)
  rw [Nat.zero_add, List.nil_append] at ho0
  have hK2 : Kept ((w.alloc (.cells #[.slice A n c, .slice B m k] 26)).alloc (.cells #[.slice none 0 0, .slice none 0 0] 26)) w1 := kept_grown ((Kept.refl _).alloc #[] 3) hg0 fun g hg => by
    simp [Value.ownBlock] at hg
    rw [hsz]; omega
  have HR0 := Lib.hid hr0
  have HK2 := Lib.hid hK2
  have HK := Lib.hid (hK0.trans hK2)
  obtain ⟨G, hG1, hG2, hG3⟩ : ∃ G, (∀ g, v0.ownBlock = some g → g = G) ∧ w.heap.size + 2 ≤ G ∧ G < w1.heap.size := by
    cases hvb : v0.ownBlock with
    | none => exact ⟨w.heap.size + 2, fun g hg => by simp at hg, Nat.le_refl _, by have := hg0.size; simp at this; omega⟩
    | some g => exact ⟨g, fun g' hg => by simpa using hg.symm, (ho0.lt g hvb).1, (ho0.lt g hvb).2⟩
  have HO0 := Lib.hid (show w1.ownsRow (w.heap.size + 2) 3 1 v0 V.length (intsV V) by rw [← h.1]; exact ho0)
  have HG1 := Lib.hid hG1
  have HD := Lib.hid (hd.kept (hK0.trans hK2))
  have c0 := ((Kept.refl (w.alloc (.cells #[.slice A n c, .slice B m k] 26))).alloc #[.slice none 0 0, .slice none 0 0] 26).trans hK2 |>.box0
  have c1 := ((Kept.refl (w.alloc (.cells #[.slice A n c, .slice B m k] 26))).alloc #[.slice none 0 0, .slice none 0 0] 26).trans hK2 |>.box1
  clear h hd hv hK0 hK1 hK2 hmade hr0 ho0 hg0 hat0 hG1
  go_enter Tryz.func57, Tryz.ntmps57
  go_wp2_with (at_builtin; refine Lib.wpList_append_run _ rfl (.tmp 8) (.tmp 10) _ _ rfl _ _ rfl rfl _ _ HR0.out ?_)
  go_at_call 76
  refine (rdsort_any B m k C _ HD.out hm).mono ?_
  rintro e u ⟨A1, mX, cX, X, rfl, hx, hs, hmx, hku, hfr⟩
  have hxc1 := hx.cap.1
  have hxc2 := hx.cap.2
  have HX := Lib.hid hx
  have HS := Lib.hid hs
  have HKU := Lib.hid (HK.out.trans hku)
  have HLX := Lib.hid hx.1
  have HNG := Lib.hid (show ∀ ad, A1 = some ad → ad.block ≠ G from fun ad e => by have := hfr ad e; omega)
  have HMX := Lib.hid (show mX ≤ C.length from hmx)
  have hmx2 : mX ≤ 999990 := by have := HM.out; omega
  have hres := ((Box2.new (w.alloc (.cells #[.slice A n c, .slice B m k] 26)) (.slice none 0 0) (.slice none 0 0) 26).kept HK2.out).kept hku
  rw [show (w.alloc (.cells #[.slice A n c, .slice B m k] 26)).heap.size = w.heap.size + 1 by simp] at hres
  have HRES := Lib.hid hres
  have HM0 := Lib.hid (MemC.start HO0.out HG1.out hku (by omega))
  have hGu : G < u.heap.size := Nat.lt_of_lt_of_le hG3 hku.2.2
  clear hx hs hmx hku hfr hres c0 c1
  go_wp2_with fail
  go_loopw [3, 4, 16] (fun v v2 i wr => ∃ (t : Nat) (V1 : List Int) (C1 : List (Int × Int)), t ≤ mX ∧ i = .int .i64 t ∧ MemC w u G wr v V1 v2 C1 ∧ InvC V (X.take t) V1 C1) (fun _ _ i _ => mX - (intOf i).toNat)
  case atStart => exact ⟨0, V, [], Nat.zero_le _, rfl, HM0.out, InvC.start HV.out⟩
  case round =>
    obtain ⟨t, V1, C1, ht, rfl, hmc, hin⟩ := hrel
    have HMC := Lib.hid hmc
    have HIN := Lib.hid hin
    have hl1 : V1.length ≤ 64 := hin.vec.len
    have hlc : C1.length ≤ mX := by
      have := hin.sub.length_le
      rw [List.length_take] at this
      have := HLX.out; omega
    clear hmc hin
    by_cases hlt : t < mX
    · obtain ⟨g, o, ⟨y1, y2⟩, rfl, hy, g1, g2⟩ := (HX.out.keptE HMC.out.ke HNG.out).get hlt
      simp only at g1 g2
      have HY := Lib.hid hy
      have HP := Lib.hid (show ∀ p ∈ X.take t, LtD p (y1, y2) from fun p hp => by
        obtain ⟨q, hq⟩ := List.getElem?_of_mem hp
        rw [List.getElem?_take] at hq
        split at hq
        · exact rise_get HS.out.rise hq hy (by assumption)
        · cases hq)
      have HT := Lib.hid (show X.take (t + 1) = X.take t ++ [(y1, y2)] by rw [List.take_add_one, hy]; rfl)
      have HMB := Lib.hid (HMC.out.kept ((Kept.refl wr).alloc #[.int .i64 y1, .int .i64 y2] 30))
      have HBX := Lib.hid (show (wr.alloc (.cells #[.int .i64 y1, .int .i64 y2] 30)).heap[wr.heap.size]? = some (Obj.cells #[.int .i64 y1, .int .i64 y2] 30 (0, 0)) from heap_alloc_new wr _)
      clear hy
      cases hq : rightD (y1, y2) with
      | false =>
        have HQ := Lib.hid hq
        have AR := Lib.hid (fun w => rrightD_c (y1, y2) false hq w)
        obtain ⟨A3, c3, rfl, h31, h32⟩ := HMB.out.ints
        clear hq
        go_wp2_with fail
        go_loopw [3] (fun x wi => x = .slice A3 V1.length c3 ∧ Kept (wr.alloc (.cells #[.int .i64 y1, .int .i64 y2] 30)) wi) (fun _ _ => 0)
        case atStart => exact ⟨rfl, Kept.refl _⟩
        case round =>
          obtain ⟨rfl, hki⟩ := hrel
          have HKI := Lib.hid hki
          have e0 := (blk_cells (blk_kept HBX.out HKI.out)).1
          have e1 := (blk_cells (blk_kept HBX.out HKI.out)).2
          clear hki g1 g2
          go_wp2_with fail
          go_at_call 49
          refine (AR.out _).mono ?_
          rintro e w5 ⟨rfl, hk5⟩
          have HK5 := Lib.hid (HKI.out.trans hk5)
          have f0 := KExt.cell (blk_cells (blk_kept HBX.out HK5.out)).1
          have f1 := KExt.cell (blk_cells (blk_kept HBX.out HK5.out)).2
          clear hk5 e0 e1
          go_wp2_with fail
          refine region_kept _ (by kernel_rfl) (by kernel_rfl) (Kept.refl _) ?_
          repeat (go_big_quiet_step ((first
            | (go_at_call 49; (with_reducible exact KExt.callsK (AR.out _)))
            | fail)))
          refine wpQuiet_nil ?_
          intro Q5
          have HMZ := Lib.hid (HMB.out.kept (HK5.out.trans Q5.g))
          have HIZ := Lib.hid (show InvC V (X.take (t + 1)) V1 C1 by rw [HT.out]; exact HIN.out.skip fun h => by rw [HQ.out] at h; cases h)
          clear f0 f1
          go_wp2_with fail
          go_roundw
          case rel => exact ⟨t + 1, V1, C1, hlt, by go_num, HMZ.out, HIZ.out⟩
          case measure => simp [intOf]; omega
      | true =>
        have HQ := Lib.hid hq
        have AR := Lib.hid (fun w => rrightD_c (y1, y2) true hq w)
        obtain ⟨b1, b2, b3, b4⟩ := rightD_bd hq
        simp only at b1 b2 b3 b4
        obtain ⟨r, rfl⟩ : ∃ r : Nat, y1 = r := ⟨y1.toNat, by omega⟩
        clear hq
        go_wp2_with fail
        clear g1 g2
        go_loopw [3] (fun x wi => ∃ s : Nat, V1.length ≤ s ∧ s ≤ max V1.length (r + 1) ∧ MemC w u G wi x (padV V1 s) u4 C1 ∧ wi.heap[wr.heap.size]? = some (Obj.cells #[.int .i64 (r : Int), .int .i64 y2] 30 (0, 0))) (fun x _ => r + 1 - (match x with | .slice _ l _ => l | _ => 0))
        case atStart => exact ⟨V1.length, Nat.le_refl _, by omega, by rw [padV_self]; exact HMB.out, HBX.out⟩
        case round =>
          obtain ⟨s, hs1, hs2, hmi, hbx⟩ := hrel
          have HMI := Lib.hid hmi
          have HBI := Lib.hid hbx
          have hlen : (padV V1 s).length = s := by rw [padV_len]; omega
          obtain ⟨A3, c3, rfl, h31, h32⟩ := hmi.ints
          rw [hlen] at HMI h31 ⊢
          have e0 := (blk_cells hbx).1
          have e1 := (blk_cells hbx).2
          clear hmi hbx
          by_cases hsr : s ≤ r
          · have d1 : decide ((s : Int) ≤ (r : Int)) = true := by rw [decide_eq_true_iff]; omega
            have d2 : decide (s ≤ r) = true := by rw [decide_eq_true_iff]; exact hsr
            go_wp2_with fail
            go_at_call 49
            refine (AR.out _).mono ?_
            rintro e w5 ⟨rfl, hk5⟩
            obtain ⟨v5, w6, hr6, hm6, hb6⟩ := (HMI.out.kept hk5).grow (by rw [hlen]; omega)
            have HR6 := Lib.hid hr6
            have HM6 := Lib.hid hm6
            have HB6 := Lib.hid (hb6 _ _ (blk_kept HBI.out hk5))
            have f0 := (blk_cells (blk_kept HBI.out hk5)).1
            have f1 := (blk_cells (blk_kept HBI.out hk5)).2
            clear hr6 hm6 hb6 hk5 e0 e1
            obtain ⟨A6, c6, rfl, h61, h62⟩ := HM6.out.ints
            have hl6 : (padV V1 s ++ [0]).length = s + 1 := by rw [List.length_append, hlen]; rfl
            rw [hl6] at HM6 HR6 h61
            go_wp2_with (at_builtin; refine Lib.wpList_append_run _ rfl (.tmp 29) (.tmp 30) _ _ rfl _ _ rfl rfl _ _ HR6.out ?_)
            clear f0 f1
            go_roundw
            case rel => exact ⟨s + 1, by omega, by omega, by rw [padV_succ hs1]; exact HM6.out, HB6.out⟩
            case measure => simp; omega
          · have d1 : decide ((s : Int) ≤ (r : Int)) = false := by rw [decide_eq_false_iff_not]; omega
            have d2 : decide (s ≤ r) = false := by rw [decide_eq_false_iff_not]; exact hsr
            go_wp2_with fail
            go_at_call 49
            refine (AR.out _).mono ?_
            rintro e w5 ⟨rfl, hk5⟩
            have hrl : r < (padV V1 s).length := by omega
            obtain ⟨x, hx⟩ : ∃ x, (padV V1 s)[r]? = some x := ⟨_, List.getElem?_eq_getElem hrl⟩
            have hat : atV (padV V1 s) (r : Int) = x := atV_in hx
            have hbd := (padV_ok HIN.out.vec (show s ≤ 64 by omega)).bd x (List.mem_of_getElem? hx)
            obtain ⟨hbd1, hbd2⟩ := hbd
            obtain ⟨G3, cap3, hv3, hc31, hc32, hcell, hfroz, hset⟩ := (HMI.out.kept hk5).set hx
            simp only [Value.slice.injEq] at hv3
            obtain ⟨rfl, hjunk, rfl⟩ := hv3
            clear hjunk
            have HM5 := Lib.hid (HMI.out.kept hk5)
            have HB5 := Lib.hid (blk_kept HBI.out hk5)
            have HXS := Lib.hid hx
            have HAT := Lib.hid hat
            have HPI := Lib.hid (HIN.out.pad (show s ≤ 64 by omega))
            have f0 := KExt.cell (blk_cells HB5.out).1
            have f1 := KExt.cell (blk_cells HB5.out).2
            have f2 := KExt.cell hcell
            have e3 := (blk_cells HB5.out).1
            have e4 := (blk_cells HB5.out).2
            have hadd : IntKind.i64.wrap (x + 1) = x + 1 := by rw [IntWalk.i64_in _ (by omega)]
            have hrs : r < s := by omega
            clear hset hx hat hk5 hcell hfroz e0 e1 hc31 hc32
            by_cases hy1 : y2 ≤ x
            · have p1 : decide (y2 ≤ x) = true := by simpa using hy1
              go_wp2_with fail
              refine region_kept _ (by kernel_rfl) (by kernel_rfl) (Kept.refl _) ?_
              repeat (go_big_quiet_step ((first
                | (go_at_call 49; (with_reducible exact KExt.callsK (AR.out _)))
                | fail)))
              refine wpQuiet_nil ?_
              intro Q5
              clear e3 e4
              have HMZ := Lib.hid (HM5.out.kept Q5.g)
              have HIZ := Lib.hid (show InvC V (X.take (t + 1)) (padV V1 s) C1 by rw [HT.out]; exact HPI.out.skip fun _ => .inl ⟨b3, by simp only; rw [HAT.out]; exact hy1⟩)
              clear f0 f1 f2 hadd hy1 p1
              go_wp2_with fail
              go_roundw
              case rel => exact ⟨t + 1, padV V1 s, C1, hlt, by go_num, HMZ.out, HIZ.out⟩
              case measure => simp [intOf]; omega
            · have p1 : decide (y2 ≤ x) = false := by simpa using hy1
              by_cases hy2 : y2 = x + 1
              · have p2 : (y2 == x + 1) = true := by simpa using hy2
                have HY2 := Lib.hid hy2
                clear hy2
                go_wp2_with fail
                refine region_kept _ (by kernel_rfl) (by kernel_rfl) (Kept.refl _) ?_
                repeat (go_big_quiet_step ((first
                  | (go_at_call 49; (with_reducible exact KExt.callsK (AR.out _)))
                  | fail)))
                refine wpQuiet_nil ?_
                intro Q5
                clear e3 e4
                go_wp2_with fail
                refine region_kept w5 (by kernel_rfl) (by kernel_rfl) Q5.g ?_
                repeat (go_big_quiet_step (fail))
                refine wpQuiet_nil ?_
                intro Q6
                obtain ⟨wz, hz⟩ := Q6
                simp only
                obtain ⟨G4, cap4, hv4, _, _, hcell4, hfroz4, hset4⟩ := (HM5.out.kept hz).set HXS.out
                simp only [Value.slice.injEq, Option.some.injEq, Addr.mk.injEq] at hv4
                obtain ⟨⟨rfl, _⟩, hjunk, rfl⟩ := hv4
                clear hjunk
                have e0 := hz.cell (blk_cells HB5.out).1
                have HMZ := Lib.hid (hset4 (x + 1))
                have HIZ := Lib.hid (show InvC V (X.take (t + 1)) ((padV V1 s).set r (x + 1)) C1 by
                  rw [HT.out, ← HY2.out]
                  have := HPI.out.inc HP.out HQ.out (by simp only [Int.toNat_natCast]; omega) (by simp only; rw [HAT.out]; exact HY2.out)
                  simpa only [Int.toNat_natCast] using this)
                have hlz : ((padV V1 s).set r (x + 1)).length = s := by rw [List.length_set]; exact hlen
                clear f0 f1 f2 hy1 p1 p2 hset4 hz
                go_wp2_with fail
                clear hcell4 hfroz4 e0 hadd
                go_roundw
                case rel => exact ⟨t + 1, (padV V1 s).set r (x + 1), C1, hlt, by go_num, HMZ.out, HIZ.out⟩
                case measure => simp [intOf]; omega
              · have p2 : (y2 == x + 1) = false := by simpa using hy2
                go_wp2_with fail
                refine region_kept _ (by kernel_rfl) (by kernel_rfl) (Kept.refl _) ?_
                repeat (go_big_quiet_step ((first
                  | (go_at_call 49; (with_reducible exact KExt.callsK (AR.out _)))
                  | fail)))
                refine wpQuiet_nil ?_
                intro Q5
                clear e3 e4
                go_wp2_with fail
                refine region_kept w5 (by kernel_rfl) (by kernel_rfl) Q5.g ?_
                repeat (go_big_quiet_step (fail))
                refine wpQuiet_nil ?_
                intro Q6
                obtain ⟨wz, hz⟩ := Q6
                simp only
                obtain ⟨v7, w7, hr7, hm7⟩ := (HM5.out.kept hz).put (by omega) ((r : Int), y2)
                have e0 := hz.cell (blk_cells HB5.out).1
                have e1 := hz.cell (blk_cells HB5.out).2
                have HR7 := Lib.hid hr7
                have HM7 := Lib.hid hm7
                have HIZ := Lib.hid (show InvC V (X.take (t + 1)) (padV V1 s) (C1 ++ [((r : Int), y2)]) by
                  rw [HT.out]
                  exact HPI.out.put HQ.out (by simp only; rw [HAT.out]; omega))
                clear f0 f1 f2 hy1 hy2 p1 p2 hr7 hm7 hz hadd
                go_wp2_with (at_builtin; refine Lib.wpList_append_run _ rfl (.tmp 32) (.tmp 34) _ _ rfl _ _ rfl rfl _ _ HR7.out ?_)
                clear e0 e1
                go_roundw
                case rel => exact ⟨t + 1, padV V1 s, C1 ++ [((r : Int), y2)], hlt, by go_num, HM7.out, HIZ.out⟩
                case measure => simp [intOf]; omega
    · have htm : t = mX := by omega
      have HIF := Lib.hid (show InvC V X V1 C1 by have := HIN.out; rwa [List.take_of_length_le (by have := HLX.out; omega)] at this)
      obtain ⟨A3, c3, rfl, h31, h32⟩ := HMC.out.ints
      clear htm
      go_wp2_with fail
      go_loop [7] (fun x => ∃ q : Nat, q ≤ V1.length ∧ x = .int .i64 q ∧ ∀ j, q ≤ j → V1.getD j 0 = 0) (fun x => (intOf x).toNat)
      case atStart => exact ⟨V1.length, Nat.le_refl _, rfl, fun j hj => by rw [List.getD_eq_getElem?_getD, List.getElem?_eq_none (by omega)]; rfl⟩
      case round =>
        obtain ⟨q, hq, rfl, hz⟩ := hrel
        have HZ := Lib.hid hz
        clear hz
        rcases Nat.eq_zero_or_pos q with h0 | h0
        · have d1 : decide ((0 : Int) < q) = false := by rw [decide_eq_false_iff_not]; omega
          have d2 : decide (0 < q) = false := by rw [decide_eq_false_iff_not]; omega
          have HL := Lib.hid (show ∀ j, q = j + 1 → V1.getD j 0 ≠ 0 from fun j hj => by omega)
          clear h0
          have hi5 : Il wr A3 V1.length c3 V1 := by
            obtain ⟨A5, c5, e5, hi5⟩ := Il.of_own HMC.out.iv
            simp only [Value.slice.injEq] at e5
            rw [e5.1, e5.2.2]; exact hi5
          have hr4 := run_ihead A3 V1.length c3 q (by omega)
          have hr5 := run_ihead2 A3 V1.length c3 q (by omega)
          obtain ⟨v7, w7, hr7, ho7, hg7, hat7⟩ := app_ints wr (w.heap.size + 2) (.slice none 0 0) 0 [] (World.ownsRow_nil _ _ _ _) A3 q c3 (V1.take q) (il_head hi5 hq) (by omega) (Nat.le_trans HMC.out.lo HMC.out.ke.size)
          have HR7 := Lib.hid hr7
          rw [Nat.zero_add, List.nil_append] at ho7
          have HK7 := Lib.hid (show Kept wr w7 from kept_grown (Kept.refl _) hg7 fun g hg => by simp [Value.ownBlock] at hg)
          obtain ⟨A7, c7, rfl, hi7⟩ := Il.of_own ho7
          obtain ⟨B7, k7, rfl, hd7⟩ := Dl.of_own HMC.out.dv
          have HO7 := Lib.hid ho7
          have HDV := Lib.hid (own_kept HMC.out.dv HK7.out)
          have hlo := HMC.out.lo
          have hne : w.heap.size + 1 ≠ G := by omega
          have HKE := Lib.hid (HMC.out.ke.trans HK7.out)
          have e0 := HKE.out.cell hne HRES.out.c0
          have e1 := HKE.out.cell hne HRES.out.c1
          have ef0 := HKE.out.froz hne (by omega) (HRES.out.f 0)
          have ef1 := HKE.out.froz hne (by omega) (HRES.out.f 1)
          have hl5 : (V1.take q).length = q := by rw [List.length_take]; omega
          clear hr7 ho7 hg7 hat7 hi7 hd7 hi5
          go_wp2_with (at_builtin; refine Lib.wpList_append_run _ rfl (.const (.slice none 0 0)) (.tmp 84) _ _ rfl _ _ rfl rfl _ _ HR7.out ?_)
          refine bodyPost_ret (by simp [results, Tryz.results57, go_sem, *]; rfl) rfl ?_
          have ho8 := ownsRow_setCell_other (ownsRow_setCell_other HO7.out (a := ⟨w.heap.size + 1, 0, none⟩) (fun e => absurd (show w.heap.size + 2 ≤ w.heap.size + 1 from (HO7.out.lt _ e).1) (by omega)) (.slice A7 q c7)) (a := ⟨w.heap.size + 1, 1, none⟩) (fun e => absurd (show w.heap.size + 2 ≤ w.heap.size + 1 from (HO7.out.lt _ e).1) (by omega)) (.slice B7 C1.length k7)
          have hd8 := ownsRow_setCell_other (ownsRow_setCell_other HDV.out (a := ⟨w.heap.size + 1, 0, none⟩) (fun e => absurd (show u.heap.size ≤ w.heap.size + 1 from (HDV.out.lt _ e).1) (by omega)) (.slice A7 q c7)) (a := ⟨w.heap.size + 1, 1, none⟩) (fun e => absurd (show u.heap.size ≤ w.heap.size + 1 from (HDV.out.lt _ e).1) (by omega)) (.slice B7 C1.length k7)
          obtain ⟨A8, c8, e8, hi8⟩ := Il.of_own ho8
          obtain ⟨B8, k8, e9, hd9⟩ := Dl.of_own hd8
          simp only [Value.slice.injEq] at e8 e9
          obtain ⟨rfl, _, rfl⟩ := e8
          obtain ⟨rfl, _, rfl⟩ := e9
          refine ⟨A7, q, c7, B7, C1.length, k7, V1.take q, C1, rfl, hi8, hd9, (HIF.out.fin HS.out.rise hq HZ.out HL.out).comp HS.out.mem, by have := HMX.out; omega, kept_set2 (HKE.out.kept HKU.out (by omega)) _ _ (by omega), fun ad e => ?_, fun ad e => ?_⟩
          · subst e; exact Nat.le_trans (by omega) (ho8.lt ad.block rfl).1
          · subst e; exact Nat.le_trans (by omega) (hd8.lt ad.block rfl).1
        · obtain ⟨p, hp⟩ : ∃ p, q = p + 1 := ⟨q - 1, by omega⟩
          have d1 : decide ((0 : Int) < q) = true := by rw [decide_eq_true_iff]; omega
          have d2 : decide (0 < q) = true := by rw [decide_eq_true_iff]; omega
          have hsub : IntKind.i64.wrap ((q : Int) - 1) = (p : Int) := by rw [IntWalk.i64_in _ (by omega)]; omega
          have hpl : p < V1.length := by omega
          obtain ⟨x, hx⟩ : ∃ x, V1[p]? = some x := ⟨_, List.getElem?_eq_getElem hpl⟩
          obtain ⟨G3, cap3, hv3, _, _, hcell, _, _⟩ := HMC.out.set hx
          simp only [Value.slice.injEq] at hv3
          obtain ⟨rfl, hjunk, rfl⟩ := hv3
          clear hjunk
          have HPP := Lib.hid hp
          have HXX := Lib.hid (show V1.getD p 0 = x by rw [List.getD_eq_getElem?_getD, hx]; rfl)
          clear hp hx
          by_cases hx0 : x = 0
          · have d3 : (x == 0) = true := by simpa using hx0
            have HZ2 := Lib.hid (show ∀ j, p ≤ j → V1.getD j 0 = 0 from fun j hj => by
              rcases Nat.lt_or_ge p j with h | h
              · exact HZ.out j (by have := HPP.out; omega)
              · obtain rfl : j = p := by omega
                rw [HXX.out]; exact hx0)
            clear hx0
            go_wp2_with fail
            go_round
            case rel => exact ⟨p, by omega, by go_num, HZ2.out⟩
            case measure => have := HPP.out; simp [intOf]; omega
          · have d3 : (x == 0) = false := by simpa using hx0
            have HL := Lib.hid (show ∀ j, q = j + 1 → V1.getD j 0 ≠ 0 from fun j hj => by
              obtain rfl : j = p := by have := HPP.out; omega
              rw [HXX.out]; exact hx0)
            clear hx0
            have hi5 : Il wr (some ⟨G3, 0, none⟩) V1.length c3 V1 := by
              obtain ⟨A5, c5, e5, hi5⟩ := Il.of_own HMC.out.iv
              simp only [Value.slice.injEq] at e5
              rw [e5.1, e5.2.2]; exact hi5
            have hr4 := run_ihead (some ⟨G3, 0, none⟩) V1.length c3 q (by omega)
            have hr5 := run_ihead2 (some ⟨G3, 0, none⟩) V1.length c3 q (by omega)
            obtain ⟨v7, w7, hr7, ho7, hg7, hat7⟩ := app_ints wr (w.heap.size + 2) (.slice none 0 0) 0 [] (World.ownsRow_nil _ _ _ _) (some ⟨G3, 0, none⟩) q c3 (V1.take q) (il_head hi5 hq) (by omega) (Nat.le_trans HMC.out.lo HMC.out.ke.size)
            have HR7 := Lib.hid hr7
            rw [Nat.zero_add, List.nil_append] at ho7
            have HK7 := Lib.hid (show Kept wr w7 from kept_grown (Kept.refl _) hg7 fun g hg => by simp [Value.ownBlock] at hg)
            obtain ⟨A7, c7, rfl, hi7⟩ := Il.of_own ho7
            obtain ⟨B7, k7, rfl, hd7⟩ := Dl.of_own HMC.out.dv
            have HO7 := Lib.hid ho7
            have HDV := Lib.hid (own_kept HMC.out.dv HK7.out)
            have hlo := HMC.out.lo
            have hne : w.heap.size + 1 ≠ G := by omega
            have HKE := Lib.hid (HMC.out.ke.trans HK7.out)
            have e0 := HKE.out.cell hne HRES.out.c0
            have e1 := HKE.out.cell hne HRES.out.c1
            have ef0 := HKE.out.froz hne (by omega) (HRES.out.f 0)
            have ef1 := HKE.out.froz hne (by omega) (HRES.out.f 1)
            have hl5 : (V1.take q).length = q := by rw [List.length_take]; omega
            clear hr7 ho7 hg7 hat7 hi7 hd7 hi5
            go_wp2_with (at_builtin; refine Lib.wpList_append_run _ rfl (.const (.slice none 0 0)) (.tmp 84) _ _ rfl _ _ rfl rfl _ _ HR7.out ?_)
            refine bodyPost_ret (by simp [results, Tryz.results57, go_sem, *]; rfl) rfl ?_
            have ho8 := ownsRow_setCell_other (ownsRow_setCell_other HO7.out (a := ⟨w.heap.size + 1, 0, none⟩) (fun e => absurd (show w.heap.size + 2 ≤ w.heap.size + 1 from (HO7.out.lt _ e).1) (by omega)) (.slice A7 q c7)) (a := ⟨w.heap.size + 1, 1, none⟩) (fun e => absurd (show w.heap.size + 2 ≤ w.heap.size + 1 from (HO7.out.lt _ e).1) (by omega)) (.slice B7 C1.length k7)
            have hd8 := ownsRow_setCell_other (ownsRow_setCell_other HDV.out (a := ⟨w.heap.size + 1, 0, none⟩) (fun e => absurd (show u.heap.size ≤ w.heap.size + 1 from (HDV.out.lt _ e).1) (by omega)) (.slice A7 q c7)) (a := ⟨w.heap.size + 1, 1, none⟩) (fun e => absurd (show u.heap.size ≤ w.heap.size + 1 from (HDV.out.lt _ e).1) (by omega)) (.slice B7 C1.length k7)
            obtain ⟨A8, c8, e8, hi8⟩ := Il.of_own ho8
            obtain ⟨B8, k8, e9, hd9⟩ := Dl.of_own hd8
            simp only [Value.slice.injEq] at e8 e9
            obtain ⟨rfl, _, rfl⟩ := e8
            obtain ⟨rfl, _, rfl⟩ := e9
            refine ⟨A7, q, c7, B7, C1.length, k7, V1.take q, C1, rfl, hi8, hd9, (HIF.out.fin HS.out.rise hq HZ.out HL.out).comp HS.out.mem, by have := HMX.out; omega, kept_set2 (HKE.out.kept HKU.out (by omega)) _ _ (by omega), fun ad e => ?_, fun ad e => ?_⟩
            · subst e; exact Nat.le_trans (by omega) (ho8.lt ad.block rfl).1
            · subst e; exact Nat.le_trans (by omega) (hd8.lt ad.block rfl).1
end Go.Proofs.YtkooihljddibfaaGreat
