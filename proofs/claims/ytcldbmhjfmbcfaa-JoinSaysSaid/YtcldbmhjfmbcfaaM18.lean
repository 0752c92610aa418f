/-
  What is proved: slices.Clone at ints, slices.Equal at ints and at dots, as the library's text has them; Same (P6.10) and higher (the greater number of each replica) of package ctx; the world has new blocks at most.
  words for the states that package store's functions hand back ('StS'); a slice of entries cut by three indices, and one entry appended to it: what comes of it lies in a row of its own; the world has new blocks at most.
  a word for a state that lies in memory ('Stt'): its entries, its numbers and its dots; a world with new blocks at most keeps it.
-/
import Derived.Test.YtcldbmhjfmbcfaaM13
import Derived.Test.YtcldbmhjfmbcfaaM9
import Derived.Test.YtcldbmhjfmbcfaaM17
import Derived.IntWalk
import Derived.Test.YtcldbmhjfmbcfaaCComp
import Derived.ArgAppend
namespace Go.Proofs.Ytcldbmhjfmbcfaa
open Go.RowKit

set_option maxRecDepth 100000 in
set_option maxHeartbeats 1000000 in
theorem cloneI_any (A : Option Addr) (n c : Nat) (V : List Int) (w : World) (h : Il w A n c V) (hn : n ≤ 1000000) :
    Calls Try.prog 72 #[.slice A n c] w fun e w' => ∃ v, e = .returned v ∧ w'.ownsRow w.heap.size 3 1 v n (intsV V) ∧ Kept w w' := by
  have q22 : ∀ (w : World) (a : Option Addr) (n c n' c' : Nat), (binOp .eql 23 (.slice a n c) (.slice none n' c')).run Try.prog w = .ok (.bool a.isNone) w := fun w a n c n' c' => Lib.run_eql_slice_nil w _ _ a n c n' c' Try.underlying23
  cases A with
  | none =>
    obtain rfl : n = 0 := by have := h.2.2.2.1 rfl; have := h.2.1; omega
    have hL : V = [] := List.eq_nil_of_length_eq_zero h.1.symm
    subst hL
    clear h
    go_enter Try.func72, Try.ntmps72
    go_wp2
    go_ret
    exact ⟨_, rfl, World.ownsRow_nil _ _ _ _, Kept.refl _⟩
  | some ad =>
    obtain ⟨v1, w1, hr1, ho1, hg1, _⟩ := app_ints (w.alloc (.cells #[] 3)) w.heap.size (.slice (some ⟨w.heap.size, 0, none⟩) 0 0) 0 [] (World.ownsRow_made w #[] 0 (Nat.le_refl _) (Nat.zero_le _) (by simp)) (some ad) n c V (h.kept ((Kept.refl w).alloc _ _)) (by omega) (by simp)
    have HK := Lib.hid (kept_grown ((Kept.refl w).alloc #[] 3) hg1 (fun k hk => by simp [Value.ownBlock] at hk; omega))
    have HR1 := Lib.hid hr1
    have HO1 := Lib.hid ho1
    clear hr1 ho1 hg1 h
    go_enter Try.func72, Try.ntmps72
    go_wp2_with (at_builtin; refine Lib.wpList_append_run _ rfl _ _ _ _ rfl _ _ rfl rfl _ _ HR1.out ?_)
    go_ret
    refine ⟨_, rfl, ?_, HK.out⟩
    have := HO1.out
    rwa [Nat.zero_add, List.nil_append] at this


set_option maxRecDepth 100000 in
set_option maxHeartbeats 1000000 in
theorem equalI_any (A : Option Addr) (n c : Nat) (V : List Int) (A' : Option Addr) (n' c' : Nat) (V' : List Int) (w : World) (h : Il w A n c V) (h' : Il w A' n' c' V') (r : Bool) (hr : decide (V = V') = r) :
    Calls Try.prog 74 #[.slice A n c, .slice A' n' c'] w fun e w' => e = .returned (.bool r) ∧ Kept w w' := by
  have hcap := h.cap.1; have hcap2 := h.cap.2; have hcap' := h'.cap.1; have hcap2' := h'.cap.2
  have HN := Lib.hid h.1; have HN' := Lib.hid h'.1
  have HI := Lib.hid h; have HI' := Lib.hid h'
  have HR := Lib.hid hr
  clear h h' hr
  by_cases hn : n = n'
  · subst hn
    go_enter Try.func74, Try.ntmps74
    go_wp2_with fail
    go_loopw [13] (fun i wr => ∃ j : Nat, j ≤ n ∧ i = .int .i64 j ∧ Kept w wr ∧ ∀ i, i < j → V[i]? = V'[i]?) (fun i _ => n - (intOf i).toNat)
    case atStart => exact ⟨0, Nat.zero_le _, rfl, Kept.refl _, fun i hi => absurd hi (by omega)⟩
    case round =>
      obtain ⟨j, hj, rfl, hkr, hall⟩ := hrel
      have HR2 := Lib.hid hkr
      have HA := Lib.hid hall
      clear hkr hall
      by_cases hlt : j < n
      · obtain ⟨g, o, y, rfl, hy, g1⟩ := (HI.out.kept HR2.out).get hlt
        obtain ⟨g', o', y', rfl, hy', g2⟩ := (HI'.out.kept HR2.out).get hlt
        have f1 := KExt.cell g1
        have f2 := KExt.cell g2
        have HY := Lib.hid hy
        have HY' := Lib.hid hy'
        clear hy hy' g1 g2
        by_cases hyy : y = y'
        · have HN2 := Lib.hid (show ∀ i, i < j + 1 → V[i]? = V'[i]? from fun i hi => by
            rcases Nat.lt_or_ge i j with h | h
            · exact HA.out i h
            · obtain rfl : i = j := by omega
              rw [HY.out, HY'.out, hyy])
          have d1 : (y == y') = true := by simpa using hyy
          clear hyy
          go_wp2_with fail
          refine region_kept _ (by kernel_rfl) (by kernel_rfl) (Kept.refl _) ?_
          repeat (go_big_quiet_step (fail))
          refine wpQuiet_nil ?_
          intro G
          clear f1 f2
          go_wp2_with fail
          go_roundw
          case rel => exact ⟨j + 1, hlt, by go_num, HR2.out.trans G.g, HN2.out⟩
          case measure => simp [intOf]; omega
        · have HF := Lib.hid (show false = r by
            rw [← HR.out, eq_comm, decide_eq_false_iff_not]
            rintro rfl
            exact hyy (Option.some.inj (HY.out.symm.trans HY'.out)))
          have d1 : (y == y') = false := by simpa using hyy
          all_goals
            clear hyy
            go_wp2_with fail
            refine region_kept _ (by kernel_rfl) (by kernel_rfl) (Kept.refl _) ?_
            repeat (go_big_quiet_step (fail))
            refine wpQuiet_nil ?_
            intro G
            clear f1 f2
            go_wp2_with fail
            go_ret
            exact ⟨ret_bool HF.out, HR2.out.trans G.g⟩
      · obtain rfl : j = n := by omega
        have HF := Lib.hid (show true = r by
          rw [← HR.out, eq_comm, decide_eq_true_iff]
          refine List.ext_getElem? fun i => ?_
          rcases Nat.lt_or_ge i j with h | h
          · exact HA.out i h
          · rw [List.getElem?_eq_none (by have := HN.out; omega), List.getElem?_eq_none (by have := HN'.out; omega)])
        go_wp2_with fail
        go_ret
        exact ⟨ret_bool HF.out, HR2.out⟩
  · have d1 : ((n : Int) != n') = true := by simp; omega
    have HF := Lib.hid (show false = r by
      rw [← HR.out, eq_comm, decide_eq_false_iff_not]
      rintro rfl
      exact hn (HN.out.trans HN'.out.symm))
    clear hn
    go_enter Try.func74, Try.ntmps74
    go_wp2_with fail
    go_ret
    exact ⟨ret_bool HF.out, Kept.refl _⟩

set_option maxRecDepth 100000 in
set_option maxHeartbeats 1000000 in
theorem equalD_any (A : Option Addr) (n c : Nat) (V : List (Int × Int)) (A' : Option Addr) (n' c' : Nat) (V' : List (Int × Int)) (w : World) (h : Dl w A n c V) (h' : Dl w A' n' c' V') (r : Bool) (hr : decide (V = V') = r) :
    Calls Try.prog 75 #[.slice A n c, .slice A' n' c'] w fun e w' => e = .returned (.bool r) ∧ Kept w w' := by
  have hcap := h.cap.1; have hcap2 := h.cap.2; have hcap' := h'.cap.1; have hcap2' := h'.cap.2
  have HN := Lib.hid h.1; have HN' := Lib.hid h'.1
  have HI := Lib.hid h; have HI' := Lib.hid h'
  have HR := Lib.hid hr
  clear h h' hr
  by_cases hn : n = n'
  · subst hn
    go_enter Try.func75, Try.ntmps75
    go_wp2_with fail
    go_loopw [13] (fun i wr => ∃ j : Nat, j ≤ n ∧ i = .int .i64 j ∧ Kept w wr ∧ ∀ i, i < j → V[i]? = V'[i]?) (fun i _ => n - (intOf i).toNat)
    case atStart => exact ⟨0, Nat.zero_le _, rfl, Kept.refl _, fun i hi => absurd hi (by omega)⟩
    case round =>
      obtain ⟨j, hj, rfl, hkr, hall⟩ := hrel
      have HR2 := Lib.hid hkr
      have HA := Lib.hid hall
      clear hkr hall
      by_cases hlt : j < n
      · obtain ⟨g, o, ⟨y1, y2⟩, rfl, hy, g1, g1'⟩ := (HI.out.kept HR2.out).get hlt
        obtain ⟨g', o', ⟨z1, z2⟩, rfl, hy', g2, g2'⟩ := (HI'.out.kept HR2.out).get hlt
        simp only at g1 g1' g2 g2'
        have f1 := KExt.cell g1
        have f1' := KExt.cell g1'
        have f2 := KExt.cell g2
        have f2' := KExt.cell g2'
        have HY := Lib.hid hy
        have HY' := Lib.hid hy'
        clear hy hy' g1 g1' g2 g2'
        by_cases hyy : ((y1, y2) : Int × Int) = (z1, z2)
        · have HN2 := Lib.hid (show ∀ i, i < j + 1 → V[i]? = V'[i]? from fun i hi => by
            rcases Nat.lt_or_ge i j with h | h
            · exact HA.out i h
            · obtain rfl : i = j := by omega
              rw [HY.out, HY'.out, hyy])
          simp only [Prod.mk.injEq] at hyy
          have d1 : (y1 == z1) = true := by simpa using hyy.1
          have d2 : (y2 == z2) = true := by simpa using hyy.2
          clear hyy
          go_wp2_with fail
          refine region_kept _ (by kernel_rfl) (by kernel_rfl) (Kept.refl _) ?_
          repeat (go_big_quiet_step (fail))
          refine wpQuiet_nil ?_
          intro G
          clear f1 f2 f1' f2'
          go_wp2_with fail
          go_roundw
          case rel => exact ⟨j + 1, hlt, by go_num, HR2.out.trans G.g, HN2.out⟩
          case measure => simp [intOf]; omega
        · have HF := Lib.hid (show false = r by
            rw [← HR.out, eq_comm, decide_eq_false_iff_not]
            rintro rfl
            exact hyy (Option.some.inj (HY.out.symm.trans HY'.out)))
          rcases dot_ne (fun e => hyy e) with d1 | ⟨d1, d2⟩
          all_goals
            clear hyy
            go_wp2_with fail
            refine region_kept _ (by kernel_rfl) (by kernel_rfl) (Kept.refl _) ?_
            repeat (go_big_quiet_step (fail))
            refine wpQuiet_nil ?_
            intro G
            clear f1 f2 f1' f2'
            go_wp2_with fail
            go_ret
            exact ⟨ret_bool HF.out, HR2.out.trans G.g⟩
      · obtain rfl : j = n := by omega
        have HF := Lib.hid (show true = r by
          rw [← HR.out, eq_comm, decide_eq_true_iff]
          refine List.ext_getElem? fun i => ?_
          rcases Nat.lt_or_ge i j with h | h
          · exact HA.out i h
          · rw [List.getElem?_eq_none (by have := HN.out; omega), List.getElem?_eq_none (by have := HN'.out; omega)])
        go_wp2_with fail
        go_ret
        exact ⟨ret_bool HF.out, HR2.out⟩
  · have d1 : ((n : Int) != n') = true := by simp; omega
    have HF := Lib.hid (show false = r by
      rw [← HR.out, eq_comm, decide_eq_false_iff_not]
      rintro rfl
      exact hn (HN.out.trans HN'.out.symm))
    clear hn
    go_enter Try.func75, Try.ntmps75
    go_wp2_with fail
    go_ret
    exact ⟨ret_bool HF.out, Kept.refl _⟩

set_option maxRecDepth 100000 in
set_option maxHeartbeats 1000000 in
theorem gsame_any (A : Option Addr) (n c : Nat) (V : List Int) (B : Option Addr) (m k : Nat) (C : List (Int × Int)) (A' : Option Addr) (n' c' : Nat) (V' : List Int) (B' : Option Addr) (m' k' : Nat) (C' : List (Int × Int)) (w : World)
    (h : Il w A n c V) (hd : Dl w B m k C) (h' : Il w A' n' c' V') (hd' : Dl w B' m' k' C') (r : Bool) (hr : decide (V = V' ∧ C = C') = r) :
    Calls Try.prog 51 #[.agg #[.slice A n c, .slice B m k], .agg #[.slice A' n' c', .slice B' m' k']] w fun e w' => e = .returned (.bool r) ∧ Kept w w' := by
  have hK := ((Kept.refl w).alloc #[.slice A n c, .slice B m k] 26).alloc #[.slice A' n' c', .slice B' m' k'] 26
  obtain ⟨u, hu⟩ : ∃ u, decide (V = V') = u := ⟨_, rfl⟩
  obtain ⟨z, hz⟩ : ∃ z, decide (C = C') = z := ⟨_, rfl⟩
  have AI := Lib.hid (equalI_any A n c V A' n' c' V' _ (h.kept hK) (h'.kept hK) u hu)
  have HD := Lib.hid (hd.kept hK)
  have HD' := Lib.hid (hd'.kept hK)
  have HK := Lib.hid hK
  have HZ := Lib.hid hz
  have hrr : r = (u && z) := by rw [← hr, ← hu, ← hz, Bool.eq_iff_iff]; simp only [Bool.and_eq_true, decide_eq_true_iff]
  clear h hd h' hd' hK hz hu hr
  cases u with
  | false =>
    have HR := Lib.hid (show false = r by rw [hrr]; rfl)
    clear hrr
    go_enter Try.func51, Try.ntmps51
    go_wp2_with fail
    go_at_call 74
    refine AI.out.mono ?_
    rintro e w1 ⟨rfl, hk1⟩
    go_wp2_with fail
    go_ret
    exact ⟨ret_bool HR.out, HK.out.trans hk1⟩
  | true =>
    have HR := Lib.hid (show z = r by rw [hrr]; rfl)
    clear hrr
    go_enter Try.func51, Try.ntmps51
    go_wp2_with fail
    go_at_call 74
    refine AI.out.mono ?_
    rintro e w1 ⟨rfl, hk1⟩
    have e0 := ((Kept.refl (w.alloc (.cells #[.slice A n c, .slice B m k] 26))).alloc #[.slice A' n' c', .slice B' m' k'] 26 |>.trans hk1).box0
    have e1 := ((Kept.refl (w.alloc (.cells #[.slice A n c, .slice B m k] 26))).alloc #[.slice A' n' c', .slice B' m' k'] 26 |>.trans hk1).box1
    have e2 := hk1.box0
    have e3 := hk1.box1
    rw [show (w.alloc (.cells #[.slice A n c, .slice B m k] 26)).heap.size = w.heap.size + 1 by simp] at e2 e3
    have AD := Lib.hid (equalD_any B m k C B' m' k' C' _ (HD.out.kept hk1) (HD'.out.kept hk1) z HZ.out)
    go_wp2_with fail
    go_at_call 75
    refine AD.out.mono ?_
    rintro e w2 ⟨rfl, hk2⟩
    go_wp2_with fail
    go_ret
    exact ⟨ret_bool HR.out, HK.out.trans (hk1.trans hk2)⟩

/-- The greater ones at the first t places. -/
def hiV (V W : List Int) (t : Nat) : List Int := (List.range V.length).map fun (k : Nat) => if k < t then max (atV V k) (atV W k) else atV V k
theorem hiV_len (V W : List Int) (t : Nat) : (hiV V W t).length = V.length := by unfold hiV; rw [List.length_map, List.length_range]
theorem hiV_get {V W : List Int} {t k : Nat} (hk : k < V.length) : (hiV V W t)[k]? = some (if k < t then max (atV V k) (atV W k) else atV V k) := by
  unfold hiV; rw [List.getElem?_map, List.getElem?_range hk]; rfl
theorem hiV_zero (V W : List Int) : hiV V W 0 = V := by
  refine List.ext_getElem? fun k => ?_
  by_cases hk : k < V.length
  · rw [hiV_get hk, if_neg (by omega), List.getElem?_eq_getElem hk, atV_in (List.getElem?_eq_getElem hk)]
  · rw [List.getElem?_eq_none (by rw [hiV_len]; omega), List.getElem?_eq_none (by omega)]
theorem hiV_succ {V W : List Int} {t : Nat} (ht : t < V.length) : hiV V W (t + 1) = (hiV V W t).set t (max (atV V t) (atV W t)) := by
  refine List.ext_getElem? fun k => ?_
  rw [List.getElem?_set, hiV_len]
  by_cases hk : k < V.length
  · rw [hiV_get hk, hiV_get hk]
    by_cases e : t = k
    · subst e; rw [if_pos (by omega), if_pos rfl, if_pos ht]
    · rw [if_neg e]
      by_cases h : k < t
      · rw [if_pos h, if_pos (by omega)]
      · rw [if_neg h, if_neg (by omega)]
  · rw [if_neg (by omega), List.getElem?_eq_none (by rw [hiV_len]; omega), List.getElem?_eq_none (by rw [hiV_len]; omega)]
theorem hiV_all {V W : List Int} (hv : VecOk V) (hl : W.length ≤ V.length) : hiV V W W.length = maxV V W := by
  refine List.ext_getElem? fun k => ?_
  by_cases hk : k < V.length
  · have h1 : (maxV V W)[k]? = some (max (atV V k) (atV W k)) := by
      unfold maxV; rw [List.getElem?_map, List.getElem?_range (by omega)]; rfl
    rw [hiV_get hk, h1]
    by_cases h : k < W.length
    · rw [if_pos h]
    · rw [if_neg h, atV_out W (r := (k : Int)) (by omega)]
      have := (hv.at_bd k).1
      rw [Int.max_eq_left this]
  · rw [List.getElem?_eq_none (by rw [hiV_len]; omega), List.getElem?_eq_none (by rw [maxV_len]; omega)]
theorem maxV_comm (V W : List Int) : maxV V W = maxV W V := by
  unfold maxV
  rw [Nat.max_comm]
  refine List.map_congr_left fun k _ => ?_
  exact Int.max_comm _ _

set_option maxRecDepth 100000 in
set_option maxHeartbeats 2000000 in
theorem higher_le (A : Option Addr) (n c : Nat) (V : List Int) (A' : Option Addr) (n' c' : Nat) (V' : List Int) (w : World) (h : Il w A n c V) (hv : VecOk V) (h' : Il w A' n' c' V') (hl : n' ≤ n) :
    Calls Try.prog 55 #[.slice A n c, .slice A' n' c'] w fun e w' => ∃ v, e = .returned v ∧ w'.ownsRow w.heap.size 3 1 v n (intsV (maxV V V')) ∧ Kept w w' := by
  have hcap := h.cap.1; have hcap2 := h.cap.2; have hcap' := h'.cap.1; have hcap2' := h'.cap.2
  have hn64 : n ≤ 64 := by have := hv.len; have := h.1; omega
  have HN := Lib.hid h.1; have HN' := Lib.hid h'.1
  have HV := Lib.hid hv
  have HI' := Lib.hid h'
  have HC := Lib.hid (cloneI_any A n c V w h (by omega))
  have d1 : decide ((n : Int) < n') = false := by rw [decide_eq_false_iff_not]; omega
  have d2 : decide (n < n') = false := by rw [decide_eq_false_iff_not]; omega
  clear h h' hv
  go_enter Try.func55, Try.ntmps55
  go_wp2_with fail
  go_at_call 72
  refine HC.out.mono ?_
  rintro e w1 ⟨v, rfl, ho, hk⟩
  have HO := Lib.hid (show w1.ownsRow w.heap.size 3 1 v n (intsV (hiV V V' 0)) by rw [hiV_zero]; exact ho)
  have HK := Lib.hid hk
  obtain ⟨A1, c1, rfl, hi1⟩ := Il.of_own ho
  have h11 := hi1.cap.1
  have h12 := hi1.cap.2
  clear ho hk hi1
  go_wp2_with fail
  go_loopw [19] (fun i wr => ∃ t : Nat, t ≤ n' ∧ i = .int .i64 t ∧ wr.ownsRow w.heap.size 3 1 (.slice A1 n c1) n (intsV (hiV V V' t)) ∧ Kept w wr) (fun i _ => n' - (intOf i).toNat)
  case atStart => exact ⟨0, Nat.zero_le _, rfl, HO.out, HK.out⟩
  case round =>
    obtain ⟨t, ht, rfl, hot, hkt⟩ := hrel
    have HOT := Lib.hid hot
    have HKT := Lib.hid hkt
    clear hot hkt
    by_cases hlt : t < n'
    · obtain ⟨b, o, y, rfl, hy, g1⟩ := (HI'.out.kept HKT.out).get hlt
      have htv : t < V.length := by have := HN.out; omega
      obtain ⟨G, cap, hv3, hb, _, _, hcell, hfroz, hset⟩ := own_int HOT.out (hiV_get (W := V') (t := t) htv)
      rw [if_neg (by omega)] at hcell
      obtain ⟨x, hx⟩ : ∃ x, atV V (t : Int) = x := ⟨_, rfl⟩
      rw [hx] at hcell
      simp only [Value.slice.injEq] at hv3
      obtain ⟨rfl, hjunk, rfl⟩ := hv3
      have HS := Lib.hid (show (wr.setCell ⟨G, t, none⟩ (.int .i64 (max x y))).ownsRow w.heap.size 3 1 (.slice (some ⟨G, 0, none⟩) n c1) n (intsV (hiV V V' (t + 1))) by
        rw [hiV_succ htv, hx, atV_in hy]; exact hset _)
      have HKS := Lib.hid (HKT.out.setCell (a := ⟨G, t, none⟩) hb (.int .i64 (max x y)))
      have htn : t < n := by omega
      clear hjunk hset hx hy
      go_wp2_with fail
      clear g1 hcell hfroz
      go_roundw
      case rel => exact ⟨t + 1, hlt, by go_num, HS.out, HKS.out⟩
      case measure => simp [intOf]; omega
    · obtain rfl : t = n' := by omega
      have HF := Lib.hid (show wr.ownsRow w.heap.size 3 1 (.slice A1 n c1) n (intsV (maxV V V')) by
        have := HOT.out
        rw [HN'.out, hiV_all HV.out (by have := HN.out; have := HN'.out; omega)] at this
        exact this)
      go_wp2_with fail
      go_ret
      exact ⟨_, rfl, HF.out, HKT.out⟩

set_option maxRecDepth 100000 in
set_option maxHeartbeats 2000000 in
theorem higher_lt (A : Option Addr) (n c : Nat) (V : List Int) (A' : Option Addr) (n' c' : Nat) (V' : List Int) (w : World) (h : Il w A n c V) (hv : VecOk V) (h' : Il w A' n' c' V') (hl : n' < n) :
    Calls Try.prog 55 #[.slice A' n' c', .slice A n c] w fun e w' => ∃ v, e = .returned v ∧ w'.ownsRow w.heap.size 3 1 v n (intsV (maxV V V')) ∧ Kept w w' := by
  have hcap := h.cap.1; have hcap2 := h.cap.2; have hcap' := h'.cap.1; have hcap2' := h'.cap.2
  have hn64 : n ≤ 64 := by have := hv.len; have := h.1; omega
  have HN := Lib.hid h.1; have HN' := Lib.hid h'.1
  have HV := Lib.hid hv
  have HI' := Lib.hid h'
  have HC := Lib.hid (cloneI_any A n c V w h (by omega))
  have d1 : decide ((n' : Int) < n) = true := by rw [decide_eq_true_iff]; omega
  have d2 : decide (n' < n) = true := by rw [decide_eq_true_iff]; omega
  clear h h' hv
  go_enter Try.func55, Try.ntmps55
  go_wp2_with fail
  go_at_call 72
  refine HC.out.mono ?_
  rintro e w1 ⟨v, rfl, ho, hk⟩
  have HO := Lib.hid (show w1.ownsRow w.heap.size 3 1 v n (intsV (hiV V V' 0)) by rw [hiV_zero]; exact ho)
  have HK := Lib.hid hk
  obtain ⟨A1, c1, rfl, hi1⟩ := Il.of_own ho
  have h11 := hi1.cap.1
  have h12 := hi1.cap.2
  clear ho hk hi1
  go_wp2_with fail
  go_loopw [19] (fun i wr => ∃ t : Nat, t ≤ n' ∧ i = .int .i64 t ∧ wr.ownsRow w.heap.size 3 1 (.slice A1 n c1) n (intsV (hiV V V' t)) ∧ Kept w wr) (fun i _ => n' - (intOf i).toNat)
  case atStart => exact ⟨0, Nat.zero_le _, rfl, HO.out, HK.out⟩
  case round =>
    obtain ⟨t, ht, rfl, hot, hkt⟩ := hrel
    have HOT := Lib.hid hot
    have HKT := Lib.hid hkt
    clear hot hkt
    by_cases hlt : t < n'
    · obtain ⟨b, o, y, rfl, hy, g1⟩ := (HI'.out.kept HKT.out).get hlt
      have htv : t < V.length := by have := HN.out; omega
      obtain ⟨G, cap, hv3, hb, _, _, hcell, hfroz, hset⟩ := own_int HOT.out (hiV_get (W := V') (t := t) htv)
      rw [if_neg (by omega)] at hcell
      obtain ⟨x, hx⟩ : ∃ x, atV V (t : Int) = x := ⟨_, rfl⟩
      rw [hx] at hcell
      simp only [Value.slice.injEq] at hv3
      obtain ⟨rfl, hjunk, rfl⟩ := hv3
      have HS := Lib.hid (show (wr.setCell ⟨G, t, none⟩ (.int .i64 (max x y))).ownsRow w.heap.size 3 1 (.slice (some ⟨G, 0, none⟩) n c1) n (intsV (hiV V V' (t + 1))) by
        rw [hiV_succ htv, hx, atV_in hy]; exact hset _)
      have HKS := Lib.hid (HKT.out.setCell (a := ⟨G, t, none⟩) hb (.int .i64 (max x y)))
      have htn : t < n := by omega
      clear hjunk hset hx hy
      go_wp2_with fail
      clear g1 hcell hfroz
      go_roundw
      case rel => exact ⟨t + 1, hlt, by go_num, HS.out, HKS.out⟩
      case measure => simp [intOf]; omega
    · obtain rfl : t = n' := by omega
      have HF := Lib.hid (show wr.ownsRow w.heap.size 3 1 (.slice A1 n c1) n (intsV (maxV V V')) by
        have := HOT.out
        rw [HN'.out, hiV_all HV.out (by have := HN.out; have := HN'.out; omega)] at this
        exact this)
      go_wp2_with fail
      go_ret
      exact ⟨_, rfl, HF.out, HKT.out⟩

theorem higher_any (A : Option Addr) (n c : Nat) (V : List Int) (A' : Option Addr) (n' c' : Nat) (V' : List Int) (w : World) (h : Il w A n c V) (hv : VecOk V) (h' : Il w A' n' c' V') (hv' : VecOk V') :
    Calls Try.prog 55 #[.slice A n c, .slice A' n' c'] w fun e w' => ∃ A1 n1 c1, e = .returned (.slice A1 n1 c1) ∧ Il w' A1 n1 c1 (maxV V V') ∧ Kept w w' := by
  rcases Nat.lt_or_ge n n' with hl | hl
  · refine (higher_lt A' n' c' V' A n c V w h' hv' h hl).mono ?_
    rintro e w' ⟨v, rfl, ho, hk⟩
    obtain ⟨A1, c1, rfl, hi1⟩ := Il.of_own ho
    exact ⟨A1, n', c1, rfl, by rw [maxV_comm]; exact hi1, hk⟩
  · refine (higher_le A n c V A' n' c' V' w h hv h' hl).mono ?_
    rintro e w' ⟨v, rfl, ho, hk⟩
    obtain ⟨A1, c1, rfl, hi1⟩ := Il.of_own ho
    exact ⟨A1, n, c1, rfl, hi1, hk⟩
end Go.Proofs.Ytcldbmhjfmbcfaa

namespace Go.Proofs.Ytcldbmhjfmbcfaa
open Go.RowKit

theorem El.keptE {G : Nat} {w w' : World} {A : Option Addr} {n c : Nat} {L : List En} (h : El w A n c L) (hk : KeptE G w w') (hA : ∀ ad, A = some ad → ad.block ≠ G) : El w' A n c L :=
  ⟨h.1, h.2.1, h.2.2.1, h.2.2.2.1, h.2.2.2.2.imp id fun ⟨b, o, hA2, hc⟩ => ⟨b, o, hA2, fun j x hj => EntO.of_flat fun i u hu => hk.cell (hA _ hA2) ((hc j x hj).flat i u hu)⟩⟩
/-- A state with the entries L and the set of the dots that S tells. -/
def StS (L : List En) (S : Int × Int → Prop) (mx : Nat) (w : World) (e : Ending) (w' : World) : Prop :=
  ∃ A n c B m k D p q V C, e = .returned (.agg #[.slice A n c, .slice B m k, .slice D p q]) ∧ El w' A n c L ∧ Il w' B m k V ∧ Dl w' D p q C ∧ SetC S V C ∧ p ≤ mx ∧ Kept w w'
theorem st_box {L : List En} {S : Int × Int → Prop} {mx : Nat} {W w5 : World} {b n c m k p q : Nat} {A B D : Option Addr} {V : List Int} {C : List (Int × Int)} (he : El w5 A n c L) (hi : Il w5 B m k V) (hd : Dl w5 D p q C)
    (ha : ∀ ad, A = some ad → b < ad.block) (hb : ∀ ad, B = some ad → b < ad.block) (hdd : ∀ ad, D = some ad → b < ad.block) (hW : W.heap.size ≤ b) (hk : Kept W w5) (hs : SetC S V C) (hm : p ≤ mx) :
    StS L S mx W (.returned (.agg #[.slice A n c, .slice B m k, .slice D p q])) (((w5.setCell ⟨b, 0, none⟩ (.slice A n c)).setCell ⟨b, 1, none⟩ (.slice B m k)).setCell ⟨b, 2, none⟩ (.slice D p q)) := by
  have hE : KeptE b w5 (((w5.setCell ⟨b, 0, none⟩ (.slice A n c)).setCell ⟨b, 1, none⟩ (.slice B m k)).setCell ⟨b, 2, none⟩ (.slice D p q)) := (((KeptE.refl b w5).set (.inl rfl) _).set (.inl rfl) _).set (.inl rfl) _
  exact ⟨A, n, c, B, m, k, D, p, q, V, C, rfl, he.keptE hE (fun ad e => by have := ha ad e; omega), hi.keptE hE (fun ad e => by have := hb ad e; omega), hd.keptE hE (fun ad e => by have := hdd ad e; omega), hs, hm, ((hk.setCell hW _).setCell hW _).setCell hW _⟩
theorem run_ehead3 (A : Option Addr) (n c k : Nat) (hk : k ≤ c) (W : World) :
    (Instr.slice 22 (.slice A n c) none (some (.int .i64 (k : Int))) (some (.int .i64 (k : Int)))).run Try.prog W = .ok (.slice A k k) W := by
  rw [run_slice_hm W 22 _ n c (by kernel_rfl) .i64 .i64 (k : Int) (k : Int) (by omega) (by omega) (by omega), sizeEn]
  cases A <;> simp [Result.andThen, sliced, Addr.add]
theorem run_ehead4 (A : Option Addr) (n c k : Nat) (hk : k ≤ c) (W : World) :
    (Instr.sliceAt 22 (.slice A n c) none (some (.int .i64 (k : Int))) (some (.int .i64 (k : Int)))).run Try.prog W = .ok (.slice A k k) W := by
  rw [run_sliceAt_slice W _ _ _ _ _ (by kernel_rfl)]; exact run_ehead3 A n c k hk W
/-- One entry appended to a slice cut behind its length: into new memory. -/
theorem app_cut {U w : World} (hU : Kept U w) {A : Option Addr} {k : Nat} {M : List En} (h : El w A k k M) (hk : k ≤ 1000000) {b : Nat} {x : En} (hx : Ent w b x) :
    ∃ v' w', (Builtin.append_ #[22, 22] 22 #[.slice A k k, .slice (some ⟨b, 0, none⟩) 1 1]).run Try.prog w = .ok v' w' ∧ OutE U w' v' (M ++ [x]) := by
  have h1 := el_one hx
  cases A with
  | none =>
    obtain rfl := h.2.2.2.1 rfl
    have hM : M = [] := List.eq_nil_of_length_eq_zero h.1.symm
    subst hM
    exact OutE.app ⟨World.ownsRow_nil _ _ _ _, hU⟩ _ _ _ _ h1 (by simp)
  | some ad =>
    obtain ⟨i0, hi0, hz0, hz1, hz2⟩ := info_parts infoEn
    have hml := h.1
    have olds : ∀ j u, (flatE M)[j]? = some u → w.cell? (ad.add j) = some u := fun j u hj => by
      obtain ⟨t, y, r, ht, rfl, hr9, hu⟩ := flatE_at M j u hj
      have htl := (List.getElem?_eq_some_iff.1 ht).1
      obtain ⟨g, o, z, hA, hz, hc⟩ := h.get (k := t) (by omega)
      obtain rfl : z = y := Option.some.inj (hz.symm.trans ht)
      obtain rfl := Option.some.inj hA
      rw [Addr.add_lit, ← Nat.add_assoc]
      exact hc.flat r u hu
    obtain ⟨v', w', hr, ho, hg⟩ := run_append_arg_grows (P := Try.prog) w 22 22 46 i0 (.agg #[.int .i64 0, .int .i64 0, .string ⟨#[]⟩, .int .i64 0, .int .i64 0, .int .i64 0, .string ⟨#[]⟩, .int .i64 0, .int .i64 0]) 9 88 Try.underlying22 hi0 hz0 hz1 hz2 rfl (by decide)
      ad k k (flatE M) (by rw [flatE_len, ← hml]) olds ⟨b, 0, none⟩ 1 1 (flatE [x]) (by rw [flatE_len]; rfl) (fun j u hj => by
        obtain ⟨t, y, r, ht, rfl, hr9, hu⟩ := flatE_at [x] j u hj
        obtain ⟨g, o, z, hA, hz, hc⟩ := h1.get (k := t) (by have := (List.getElem?_eq_some_iff.1 ht).1; simpa using this)
        obtain rfl : z = y := Option.some.inj (hz.symm.trans ht)
        obtain ⟨rfl, rfl, _⟩ : b = g ∧ 0 = o ∧ True := by
          have := Option.some.inj hA
          simp only [Addr.mk.injEq] at this
          exact ⟨this.1, this.2.1, trivial⟩
        rw [Addr.add_lit, ← Nat.add_assoc]
        exact hc.flat r u hu) (by omega) (by simp only [maxLen]; omega) (by omega)
    refine ⟨v', w', hr, ⟨?_, kept_grown hU hg fun g hg => by cases hg⟩⟩
    rw [List.length_append, ← hml, flatE_app]
    exact own_mono ho fun g hg => Nat.le_trans hU.2.2 (ho.lt g hg).1
end Go.Proofs.Ytcldbmhjfmbcfaa

namespace Go.Proofs.Ytcldbmhjfmbcfaa
open Go.RowKit

/-- A state that lies in memory. -/
structure Stt (w : World) (A : Option Addr) (n c : Nat) (B : Option Addr) (m k : Nat) (D : Option Addr) (p q : Nat) (L : List En) (V : List Int) (C : List (Int × Int)) : Prop where
  el : El w A n c L
  il : Il w B m k V
  dl : Dl w D p q C
theorem Stt.kept {w w' : World} {A B D : Option Addr} {n c m k p q : Nat} {L : List En} {V : List Int} {C : List (Int × Int)} (h : Stt w A n c B m k D p q L V C) (hk : Kept w w') : Stt w' A n c B m k D p q L V C :=
  ⟨h.el.kept hk, h.il.kept hk, h.dl.kept hk⟩
end Go.Proofs.Ytcldbmhjfmbcfaa

