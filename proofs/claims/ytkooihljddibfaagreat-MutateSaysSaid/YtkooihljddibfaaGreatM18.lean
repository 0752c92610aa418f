/-
  What is proved: the document's Dots of layer 6, called with any set that lies in memory and whose Vec is good, and any number, returns the first so many of what the set tells (P6.9); the world has new blocks at most.
  the document's Most and Same of layer 6, called with any sets that lie in memory, return what P6.8 and P6.10 say; the world has new blocks at most.
  plain facts on what a set tells (P6.8, P6.9, P6.14): each of its dots, once; of each replica the greatest; no program is spoken of here.
  plain facts on what events do (P10.1 to P10.5): the next dot is not known; an event that leaves x and takes what G left, joined where it was made: what goes is gone, what it leaves is there, all else stays; no program is spoken of here.
-/
import Derived.Test.YtkooihljddibfaaGreatM8
import Derived.Test.YtkooihljddibfaaGreatRow
import Derived.Test.YtkooihljddibfaaGreatM6
import Derived.IntWalk
import Derived.Test.YtkooihljddibfaaGreatM17
namespace Go.Proofs.YtkooihljddibfaaGreat
open Go.RowKit

/-- A replica's dots up to a number. -/
def repD (i : Nat) (n : Int) : List (Int × Int) := (List.range n.toNat).map fun (s : Nat) => ((i : Int), (s : Int) + 1)
def dotsV (V : List Int) (k : Nat) : List (Int × Int) := (List.range k).flatMap fun i => repD i (V.getD i 0)
/-- P6.9. -/
def dotsC (V : List Int) (C : List (Int × Int)) : List (Int × Int) := dotsV V V.length ++ C
theorem dotsV_succ {V : List Int} {k : Nat} {x : Int} (h : V[k]? = some x) : dotsV V (k + 1) = dotsV V k ++ repD k x := by
  unfold dotsV
  rw [List.range_succ, List.flatMap_append]
  simp [List.getD_eq_getElem?_getD, h]
theorem repD_take (i : Nat) (x : Int) {s : Nat} (h : (s : Int) < x) : (repD i x).take (s + 1) = (repD i x).take s ++ [((i : Int), (s : Int) + 1)] := by
  rw [List.take_add_one]
  congr 1
  unfold repD
  rw [List.getElem?_map, List.getElem?_range (by omega)]
  rfl
theorem repD_all (i : Nat) (x : Int) {s : Nat} (h : x ≤ s) : (repD i x).take s = repD i x := by
  rw [List.take_of_length_le]
  unfold repD
  rw [List.length_map, List.length_range]
  omega
theorem out_add {L : List (Int × Int)} {M : Nat} {d : Int × Int} (h : (L.take M).length < M) : (L ++ [d]).take M = L.take M ++ [d] := by
  rw [List.length_take] at h
  rw [List.take_of_length_le (show (L ++ [d]).length ≤ M by rw [List.length_append]; simp; omega), List.take_of_length_le (by omega)]
theorem out_full {L X : List (Int × Int)} {M : Nat} (h : M ≤ (L.take M).length) : (L ++ X).take M = L.take M := by
  rw [List.length_take] at h
  rw [List.take_append_of_le_length (by omega)]
/-- The slice that grows, and what is left alone. -/
structure OutD (U wr : World) (v : Value) (L : List (Int × Int)) : Prop where
  own : wr.ownsRow U.heap.size 30 2 v L.length (flatD L)
  ke : Kept U wr
theorem OutD.start (U : World) : OutD U U (.slice none 0 0) [] := ⟨World.ownsRow_nil _ _ _ _, Kept.refl _⟩
theorem OutD.kept {U wr w' : World} {v : Value} {L : List (Int × Int)} (h : OutD U wr v L) (hk : Kept wr w') : OutD U w' v L := ⟨own_kept h.own hk, h.ke.trans hk⟩
theorem OutD.form {U wr : World} {v : Value} {L : List (Int × Int)} (h : OutD U wr v L) : ∃ A c, v = .slice A L.length c ∧ L.length ≤ c ∧ c ≤ 9223372036854775807 ∧ Dl wr A L.length c L := by
  obtain ⟨A, c, rfl, hd⟩ := Dl.of_own h.own
  exact ⟨A, c, rfl, hd.cap.1, hd.cap.2, hd⟩
theorem OutD.put {U wr : World} {v : Value} {L : List (Int × Int)} (h : OutD U wr v L) (hl : L.length ≤ 1000000) (x1 x2 : Int) :
    ∃ v' w', (Builtin.append_ #[24, 24] 24 #[v, .slice (some ⟨wr.heap.size, 0, none⟩) 1 1]).run Tryz.prog (wr.alloc (.cells #[.int .i64 x1, .int .i64 x2] 30)) = .ok v' w' ∧ OutD U w' v' (L ++ [(x1, x2)]) := by
  have h2 := h.kept ((Kept.refl wr).alloc #[.int .i64 x1, .int .i64 x2] 30)
  obtain ⟨v', w', hr, ho, hg⟩ := app_dots _ _ v L.length _ h2.own (some ⟨wr.heap.size, 0, none⟩) 1 1 [(x1, x2)] (dl_one wr x1 x2 _) (by omega) h2.ke.2.2
  exact ⟨v', w', hr, ⟨by rw [List.length_append, flatD_app]; exact ho, kept_grown h2.ke hg fun g hgb => (h2.own.lt g hgb).1⟩⟩

end Go.Proofs.YtkooihljddibfaaGreat

namespace Go.Proofs.YtkooihljddibfaaGreat
open Go.RowKit

/-- P6.8. -/
def mostC (V : List Int) (C : List (Int × Int)) (r : Int) : Int := C.foldl (fun n d => if d.1 = r then max n d.2 else n) (atV V r)
theorem mostC_step (V : List Int) (C : List (Int × Int)) (r : Int) (k : Nat) (d : Int × Int) (h : C[k]? = some d) : mostC V (C.take (k + 1)) r = if d.1 = r then max (mostC V (C.take k) r) d.2 else mostC V (C.take k) r := by
  unfold mostC
  rw [List.take_add_one, h, Option.toList_some, List.foldl_append]
  rfl

set_option maxRecDepth 100000 in
set_option maxHeartbeats 1000000 in
theorem rmost_any (A : Option Addr) (n c : Nat) (V : List Int) (B : Option Addr) (m k : Nat) (C : List (Int × Int)) (r : Int) (w : World) (h : Il w A n c V) (hd : Dl w B m k C) :
    Calls Tryz.prog 29 #[.agg #[.slice A n c, .slice B m k], .int .i64 r] w fun e w' => e = .returned (.int .i64 (mostC V C r)) ∧ Kept w w' := by
  have hK := (Kept.refl w).alloc #[.slice A n c, .slice B m k] 26
  have hcap := hd.cap.1
  have hcap2 := hd.cap.2
  have HM := Lib.hid hd.1
  have AA := Lib.hid (at_any A n c V B m k r _ (h.kept hK))
  have HD := Lib.hid hd
  have HK := Lib.hid hK
  clear h hd hK
  go_enter Tryz.func29, Tryz.ntmps29
  go_wp2_with fail
  go_at_call 52
  refine AA.out.mono ?_
  rintro e w1 ⟨rfl, hk1⟩
  have e0 := hk1.box0
  have e1 := hk1.box1
  have HW := Lib.hid (HK.out.trans hk1)
  clear hk1
  go_wp2_with fail
  go_loopw [5, 14] (fun x i wr => ∃ j : Nat, j ≤ m ∧ i = .int .i64 j ∧ x = .int .i64 (mostC V (C.take j) r) ∧ Kept w1 wr) (fun _ i _ => m - (intOf i).toNat)
  case atStart => exact ⟨0, Nat.zero_le _, rfl, rfl, Kept.refl _⟩
  case round =>
    obtain ⟨j, hj, rfl, rfl, hkr⟩ := hrel
    have HR := Lib.hid hkr
    clear hkr
    by_cases hlt : j < m
    · obtain ⟨g, o, ⟨y1, y2⟩, rfl, hy, g1, g2⟩ := (HD.out.kept (HW.out.trans HR.out)).get hlt
      simp only at g1 g2
      have HS := Lib.hid (mostC_step V C r j (y1, y2) hy)
      generalize mostC V (C.take j) r = x at HS
      clear hy e0 e1
      by_cases hr : y1 = r
      · have d1 : (y1 == r) = true := by simpa using hr
        have HE := Lib.hid (show mostC V (C.take (j + 1)) r = max x y2 by rw [HS.out, if_pos hr])
        clear hr
        go_wp2_with fail
        go_roundw
        case rel => exact ⟨j + 1, hlt, by go_num, by rw [HE.out], HR.out.alloc _ _⟩
        case measure => simp [intOf]; omega
      · have d1 : (y1 == r) = false := by simpa using hr
        have HE := Lib.hid (show mostC V (C.take (j + 1)) r = x by rw [HS.out, if_neg hr])
        clear hr
        go_wp2_with fail
        go_roundw
        case rel => exact ⟨j + 1, hlt, by go_num, by rw [HE.out], HR.out.alloc _ _⟩
        case measure => simp [intOf]; omega
    · obtain rfl : j = m := by omega
      clear e0 e1
      go_wp2_with fail
      go_ret
      exact ⟨ret_int (by rw [List.take_of_length_le (by rw [← HM.out]; exact Nat.le_refl _)]), HW.out.trans HR.out⟩

set_option maxRecDepth 100000 in
set_option maxHeartbeats 2000000 in
theorem rsameC_any (A : Option Addr) (n c : Nat) (V : List Int) (B : Option Addr) (m k : Nat) (C : List (Int × Int)) (A' : Option Addr) (n' c' : Nat) (V' : List Int) (B' : Option Addr) (m' k' : Nat) (C' : List (Int × Int)) (w : World)
    (h : Il w A n c V) (hd : Dl w B m k C) (h' : Il w A' n' c' V') (hd' : Dl w B' m' k' C') (r : Bool) (hr : decide (V = V' ∧ C = C') = r) :
    Calls Tryz.prog 34 #[.agg #[.slice A n c, .slice B m k], .agg #[.slice A' n' c', .slice B' m' k']] w fun e w' => e = .returned (.bool r) ∧ Kept w w' := by
  have hcap := h.cap.1; have hcap2 := h.cap.2; have hdap := hd.cap.1; have hdap2 := hd.cap.2
  have hcap' := h'.cap.1; have hcap2' := h'.cap.2; have hdap' := hd'.cap.1; have hdap2' := hd'.cap.2
  have HN := Lib.hid h.1; have HM := Lib.hid hd.1; have HN' := Lib.hid h'.1; have HM' := Lib.hid hd'.1
  have HI := Lib.hid h; have HD := Lib.hid hd; have HI' := Lib.hid h'; have HD' := Lib.hid hd'
  have HR := Lib.hid hr
  have hK := ((Kept.refl w).alloc #[.slice A n c, .slice B m k] 26).alloc #[.slice A' n' c', .slice B' m' k'] 26
  have HK := Lib.hid hK
  clear h hd h' hd' hr hK
  by_cases hn : n = n'
  · by_cases hm : m = m'
    · subst hn hm
      go_enter Tryz.func34, Tryz.ntmps34
      go_wp2_with fail
      go_loopw [26] (fun i wr => ∃ j : Nat, j ≤ n ∧ i = .int .i64 j ∧ Kept ((w.alloc (.cells #[.slice A n c, .slice B m k] 26)).alloc (.cells #[.slice A' n c', .slice B' m k'] 26)) wr ∧ ∀ i, i < j → V[i]? = V'[i]?) (fun i _ => n - (intOf i).toNat)
      case atStart => exact ⟨0, Nat.zero_le _, rfl, Kept.refl _, fun i hi => absurd hi (by omega)⟩
      case round =>
        obtain ⟨j, hj, rfl, hkr, hall⟩ := hrel
        have HR2 := Lib.hid hkr
        have HA := Lib.hid hall
        have e0 := KExt.cell ((((Kept.refl (w.alloc (.cells #[.slice A n c, .slice B m k] 26))).alloc #[.slice A' n c', .slice B' m k'] 26).trans hkr).box0)
        have e1 := KExt.cell ((((Kept.refl (w.alloc (.cells #[.slice A n c, .slice B m k] 26))).alloc #[.slice A' n c', .slice B' m k'] 26).trans hkr).box1)
        have e2 := KExt.cell hkr.box0
        have e3 := KExt.cell hkr.box1
        rw [show (w.alloc (.cells #[.slice A n c, .slice B m k] 26)).heap.size = w.heap.size + 1 by simp] at e2 e3
        clear hkr hall
        by_cases hlt : j < n
        · obtain ⟨g, o, y, rfl, hy, g1⟩ := (HI.out.kept (HK.out.trans HR2.out)).get hlt
          obtain ⟨g', o', y', rfl, hy', g2⟩ := (HI'.out.kept (HK.out.trans HR2.out)).get hlt
          have f1 := KExt.cell g1
          have f2 := KExt.cell g2
          have HY := Lib.hid hy
          have HY' := Lib.hid hy'
          clear hy hy' g1 g2
          by_cases hyy : y = y'
          · have d1 : (y == y') = true := by simpa using hyy
            have HN2 := Lib.hid (show ∀ i, i < j + 1 → V[i]? = V'[i]? from fun i hi => by
              rcases Nat.lt_or_ge i j with h | h
              · exact HA.out i h
              · obtain rfl : i = j := by omega
                rw [HY.out, HY'.out, hyy])
            clear hyy
            go_wp2_with fail
            refine region_kept _ (by kernel_rfl) (by kernel_rfl) (Kept.refl _) ?_
            repeat (go_big_quiet_step (fail))
            refine wpQuiet_nil ?_
            intro G
            clear e0 e1 e2 e3 f1 f2
            go_wp2_with fail
            go_roundw
            case rel => exact ⟨j + 1, hlt, by go_num, HR2.out.trans G.g, HN2.out⟩
            case measure => simp [intOf]; omega
          · have d1 : (y == y') = false := by simpa using hyy
            have HF := Lib.hid (show false = r by
              rw [← HR.out, eq_comm, decide_eq_false_iff_not]
              rintro ⟨rfl, _⟩
              exact hyy (Option.some.inj (HY.out.symm.trans HY'.out)))
            clear hyy
            go_wp2_with fail
            refine region_kept _ (by kernel_rfl) (by kernel_rfl) (Kept.refl _) ?_
            repeat (go_big_quiet_step (fail))
            refine wpQuiet_nil ?_
            intro G
            clear e0 e1 e2 e3 f1 f2
            go_wp2_with fail
            go_ret
            exact ⟨ret_bool HF.out, HK.out.trans (HR2.out.trans G.g)⟩
        · obtain rfl : j = n := by omega
          have HV := Lib.hid (show V = V' from List.ext_getElem? fun i => by
            rcases Nat.lt_or_ge i j with h | h
            · exact HA.out i h
            · rw [List.getElem?_eq_none (by have := HN.out; omega), List.getElem?_eq_none (by have := HN'.out; omega)])
          have i0 := e0 ⟨wr, Kept.refl _⟩
          have i1 := e1 ⟨wr, Kept.refl _⟩
          simp only at i0 i1
          clear e0 e1 e2 e3
          go_wp2_with fail
          go_loopw [44] (fun i wr => ∃ t : Nat, t ≤ m ∧ i = .int .i64 t ∧ Kept ((w.alloc (.cells #[.slice A j c, .slice B m k] 26)).alloc (.cells #[.slice A' j c', .slice B' m k'] 26)) wr ∧ ∀ i, i < t → C[i]? = C'[i]?) (fun i _ => m - (intOf i).toNat)
          case atStart => exact ⟨0, Nat.zero_le _, rfl, HR2.out, fun i hi => absurd hi (by omega)⟩
          case round =>
            obtain ⟨q, hq, rfl, hkr, hall⟩ := hrel
            have HR3 := Lib.hid hkr
            have HA3 := Lib.hid hall
            have e0 := KExt.cell ((((Kept.refl (w.alloc (.cells #[.slice A j c, .slice B m k] 26))).alloc #[.slice A' j c', .slice B' m k'] 26).trans hkr).box0)
            have e1 := KExt.cell ((((Kept.refl (w.alloc (.cells #[.slice A j c, .slice B m k] 26))).alloc #[.slice A' j c', .slice B' m k'] 26).trans hkr).box1)
            have e2 := KExt.cell hkr.box0
            have e3 := KExt.cell hkr.box1
            rw [show (w.alloc (.cells #[.slice A j c, .slice B m k] 26)).heap.size = w.heap.size + 1 by simp] at e2 e3
            clear hkr hall
            by_cases hlt : q < m
            · obtain ⟨g, o, ⟨y1, y2⟩, rfl, hy, g1, g1'⟩ := (HD.out.kept (HK.out.trans HR3.out)).get hlt
              obtain ⟨g', o', ⟨z1, z2⟩, rfl, hy', g2, g2'⟩ := (HD'.out.kept (HK.out.trans HR3.out)).get hlt
              simp only at g1 g1' g2 g2'
              have f1 := KExt.cell g1
              have f1' := KExt.cell g1'
              have f2 := KExt.cell g2
              have f2' := KExt.cell g2'
              have HY := Lib.hid hy
              have HY' := Lib.hid hy'
              clear hy hy' g1 g1' g2 g2'
              by_cases hyy : ((y1, y2) : Int × Int) = (z1, z2)
              · have HN2 := Lib.hid (show ∀ i, i < q + 1 → C[i]? = C'[i]? from fun i hi => by
                  rcases Nat.lt_or_ge i q with h | h
                  · exact HA3.out i h
                  · obtain rfl : i = q := by omega
                    rw [HY.out, HY'.out, hyy])
                simp only [Prod.mk.injEq] at hyy
                have d1 : (y1 == z1) = true := by simpa using hyy.1
                have d2 : (y2 == z2) = true := by simpa using hyy.2
                clear hyy
                go_wp2_with fail
                refine region_kept _ (by kernel_rfl) (by kernel_rfl) (Kept.refl _) ?_
                repeat (go_big_quiet_step (fail))
                refine wpQuiet_nil ?_
                intro G
                clear e0 e1 e2 e3 f1 f2 f1' f2'
                go_wp2_with fail
                go_roundw
                case rel => exact ⟨q + 1, hlt, by go_num, HR3.out.trans G.g, HN2.out⟩
                case measure => simp [intOf]; omega
              · have HF := Lib.hid (show false = r by
                  rw [← HR.out, eq_comm, decide_eq_false_iff_not]
                  rintro ⟨_, rfl⟩
                  exact hyy (Option.some.inj (HY.out.symm.trans HY'.out)))
                have hne : ¬ ((z1, z2) : Int × Int) = (y1, y2) := fun e => hyy e.symm
                rcases dot_ne (fun e => hyy e) with d1 | ⟨d1, d2⟩
                all_goals
                  clear hyy hne
                  go_wp2_with fail
                  refine region_kept _ (by kernel_rfl) (by kernel_rfl) (Kept.refl _) ?_
                  repeat (go_big_quiet_step (fail))
                  refine wpQuiet_nil ?_
                  intro G
                  clear e0 e1 e2 e3 f1 f2 f1' f2'
                  go_wp2_with fail
                  go_ret
                  exact ⟨ret_bool HF.out, HK.out.trans (HR3.out.trans G.g)⟩
            · obtain rfl : q = m := by omega
              have HF := Lib.hid (show true = r by
                rw [← HR.out, eq_comm, decide_eq_true_iff]
                refine ⟨HV.out, List.ext_getElem? fun i => ?_⟩
                rcases Nat.lt_or_ge i q with h | h
                · exact HA3.out i h
                · rw [List.getElem?_eq_none (by have := HM.out; omega), List.getElem?_eq_none (by have := HM'.out; omega)])
              clear e0 e1 e2 e3
              go_wp2_with fail
              go_ret
              exact ⟨ret_bool HF.out, HK.out.trans HR3.out⟩
    · have d1 : ((n : Int) != n') = false := by simp [hn]
      have d2 : ((m : Int) != m') = true := by simp; omega
      have HF := Lib.hid (show false = r by
        rw [← HR.out, eq_comm, decide_eq_false_iff_not]
        rintro ⟨_, rfl⟩
        exact hm (HM.out.trans HM'.out.symm))
      clear hn hm
      go_enter Tryz.func34, Tryz.ntmps34
      go_wp2_with fail
      go_ret
      exact ⟨ret_bool HF.out, HK.out⟩
  · have d1 : ((n : Int) != n') = true := by simp; omega
    have HF := Lib.hid (show false = r by
      rw [← HR.out, eq_comm, decide_eq_false_iff_not]
      rintro ⟨rfl, _⟩
      exact hn (HN.out.trans HN'.out.symm))
    clear hn
    go_enter Tryz.func34, Tryz.ntmps34
    go_wp2_with fail
    go_ret
    exact ⟨ret_bool HF.out, HK.out⟩
end Go.Proofs.YtkooihljddibfaaGreat

namespace Go.Proofs.YtkooihljddibfaaGreat

theorem repD_mem (i : Nat) (x : Int) (d : Int × Int) : d ∈ repD i x ↔ d.1 = i ∧ 1 ≤ d.2 ∧ d.2 ≤ x := by
  unfold repD
  rw [List.mem_map]
  constructor
  · rintro ⟨s, hs, rfl⟩
    have := List.mem_range.1 hs
    exact ⟨rfl, by simp only; omega, by simp only; omega⟩
  · rintro ⟨h1, h2, h3⟩
    refine ⟨(d.2 - 1).toNat, List.mem_range.2 (by omega), ?_⟩
    obtain ⟨a, b⟩ := d
    simp only at h1 h2 h3 ⊢
    rw [h1, Prod.mk.injEq]
    exact ⟨rfl, by omega⟩
theorem repD_nodup (i : Nat) (x : Int) : (repD i x).Nodup := by
  unfold repD List.Nodup
  rw [List.pairwise_map]
  refine List.Pairwise.imp (R := fun a b : Nat => a < b) (fun hab => ?_) List.pairwise_lt_range
  intro e
  simp only [Prod.mk.injEq] at e
  omega
theorem dotsV_mem (V : List Int) (n : Nat) (d : Int × Int) : d ∈ dotsV V n ↔ ∃ i : Nat, i < n ∧ d.1 = i ∧ 1 ≤ d.2 ∧ d.2 ≤ V.getD i 0 := by
  unfold dotsV
  rw [List.mem_flatMap]
  constructor
  · rintro ⟨i, hi, h⟩
    exact ⟨i, List.mem_range.1 hi, (repD_mem _ _ _).1 h⟩
  · rintro ⟨i, hi, h⟩
    exact ⟨i, List.mem_range.2 hi, (repD_mem _ _ _).2 h⟩
theorem dotsV_all (V : List Int) (d : Int × Int) : d ∈ dotsV V V.length ↔ 1 ≤ d.2 ∧ d.2 ≤ atV V d.1 := by
  rw [dotsV_mem]
  constructor
  · rintro ⟨i, hi, h1, h2, h3⟩
    exact ⟨h2, by rw [h1, atV_nat]; exact h3⟩
  · rintro ⟨h1, h2⟩
    by_cases hr : 0 ≤ d.1 ∧ d.1 < V.length
    · refine ⟨d.1.toNat, by omega, by omega, h1, ?_⟩
      rw [← atV_nat, show ((d.1.toNat : Nat) : Int) = d.1 by omega]
      exact h2
    · rcases Int.lt_or_le d.1 0 with h0 | h0
      · rw [atV_neg V h0] at h2; omega
      · rw [atV_out V (by omega)] at h2; omega
theorem dotsV_nodup (V : List Int) (n : Nat) : (dotsV V n).Nodup := by
  induction n with
  | zero => unfold dotsV; exact List.nodup_nil
  | succ n ih =>
    have e : dotsV V (n + 1) = dotsV V n ++ repD n (V.getD n 0) := by
      unfold dotsV
      rw [List.range_succ, List.flatMap_append]
      simp
    rw [e, List.nodup_append]
    refine ⟨ih, repD_nodup _ _, fun a ha b hb hab => ?_⟩
    subst hab
    obtain ⟨i, hi, h1, _⟩ := (dotsV_mem _ _ _).1 ha
    have := ((repD_mem _ _ _).1 hb).1
    omega
theorem dotsC_mem (V : List Int) (C : List (Int × Int)) (d : Int × Int) : d ∈ dotsC V C ↔ hasC V C d := by
  unfold dotsC hasC
  rw [List.mem_append, dotsV_all]
theorem rise_nodup {L : List (Int × Int)} (h : Rise L) : L.Nodup := h.imp fun hab e => by subst e; exact LtD.irrefl _ hab
theorem dotsC_nodup {V : List Int} {C : List (Int × Int)} (h : RightC V C) : (dotsC V C).Nodup := by
  unfold dotsC
  rw [List.nodup_append]
  refine ⟨dotsV_nodup _ _, rise_nodup h.rise, fun a ha b hb hab => ?_⟩
  subst hab
  have h1 := (dotsV_all _ _).1 ha
  have h2 := h.apart a hb
  omega
theorem nodup_le : ∀ (X Y : List (Int × Int)), X.Nodup → (∀ x ∈ X, x ∈ Y) → X.length ≤ Y.length
  | [], _, _, _ => Nat.zero_le _
  | x :: X, Y, hn, hs => by
    have hn2 := List.nodup_cons.1 hn
    have hx := hs x (List.mem_cons_self ..)
    have ih := nodup_le X (Y.erase x) hn2.2 fun y hy => by
      have hne : y ≠ x := fun e => hn2.1 (e ▸ hy)
      exact (List.mem_erase_of_ne hne).2 (hs y (List.mem_cons_of_mem _ hy))
    rw [List.length_erase_of_mem hx] at ih
    have := List.length_pos_of_mem hx
    rw [List.length_cons]
    omega
theorem sort_len {L X : List (Int × Int)} (h : SortD L X) (hn : L.Nodup) (hl : X.length ≤ L.length) : X.length = L.length :=
  Nat.le_antisymm hl (nodup_le L X hn fun x hx => (h.mem x).2 hx)
theorem fold_ge (C : List (Int × Int)) (r : Int) : ∀ a : Int, a ≤ C.foldl (fun n d => if d.1 = r then max n d.2 else n) a ∧ (∀ d ∈ C, d.1 = r → d.2 ≤ C.foldl (fun n d => if d.1 = r then max n d.2 else n) a) ∧
    (C.foldl (fun n d => if d.1 = r then max n d.2 else n) a = a ∨ ∃ d ∈ C, d.1 = r ∧ d.2 = C.foldl (fun n d => if d.1 = r then max n d.2 else n) a) := by
  induction C with
  | nil => exact fun a => ⟨Int.le_refl _, (fun d hd => by cases hd), .inl rfl⟩
  | cons x C ih =>
    intro a
    rw [List.foldl_cons]
    obtain ⟨h1, h2, h3⟩ := ih (if x.1 = r then max a x.2 else a)
    refine ⟨?_, fun d hd hr => ?_, ?_⟩
    · by_cases hr : x.1 = r
      · rw [if_pos hr] at h1 ⊢; omega
      · rw [if_neg hr] at h1 ⊢; exact h1
    · rcases List.mem_cons.1 hd with rfl | hd
      · rw [if_pos hr] at h1 ⊢; omega
      · exact h2 d hd hr
    · rcases h3 with h3 | ⟨d, hd, hr, he⟩
      · rw [h3]
        by_cases hr : x.1 = r
        · rw [if_pos hr]
          rcases Int.le_total a x.2 with hh | hh
          · exact .inr ⟨x, List.mem_cons_self .., hr, by omega⟩
          · exact .inl (by omega)
        · rw [if_neg hr]; exact .inl rfl
      · exact .inr ⟨d, List.mem_cons_of_mem _ hd, hr, he⟩
theorem most_ge {V : List Int} {C : List (Int × Int)} {d : Int × Int} (h : hasC V C d) : d.2 ≤ mostC V C d.1 := by
  obtain ⟨h1, h2, _⟩ := fold_ge C d.1 (atV V d.1)
  unfold mostC
  rcases h with ⟨_, h⟩ | h
  · omega
  · exact h2 d h rfl
theorem most_has {V : List Int} {C : List (Int × Int)} {d : Int × Int} (h : hasC V C d) (h1 : 1 ≤ d.2) : hasC V C (d.1, mostC V C d.1) := by
  have hg := most_ge h
  obtain ⟨_, _, h3⟩ := fold_ge C d.1 (atV V d.1)
  have e : C.foldl (fun n x => if x.1 = d.1 then max n x.2 else n) (atV V d.1) = mostC V C d.1 := rfl
  rw [e] at h3
  rcases h3 with h3 | ⟨x, hx, hr, he⟩
  · exact .inl ⟨by simp only; omega, by simp only; omega⟩
  · refine .inr ?_
    rw [← he, ← hr]
    exact hx
theorem most_bd {V : List Int} {C : List (Int × Int)} (h : RightC V C) (r : Int) : 0 ≤ mostC V C r ∧ mostC V C r ≤ 1073741824 := by
  obtain ⟨h1, h2, h3⟩ := fold_ge C r (atV V r)
  have hb := h.vec.at_bd r
  have e : C.foldl (fun n x => if x.1 = r then max n x.2 else n) (atV V r) = mostC V C r := rfl
  rw [e] at h1 h3
  rcases h3 with h3 | ⟨x, hx, hr, he⟩
  · omega
  · have := rightD_bd (h.right x hx); omega
end Go.Proofs.YtkooihljddibfaaGreat

namespace Go.Proofs.YtkooihljddibfaaGreat
open Go.RowKit
set_option linter.unusedVariables false

/-- P10.1. -/
theorem next_new {V : List Int} {C : List (Int × Int)} {r : Int} : ¬ hasC V C (r, mostC V C r + 1) := fun h => by
  have := most_ge h
  simp only at this
  omega
/-- P10.2, P10.3: which dots an event's set has. -/
def evS (d : Int × Int) (G : List (Int × Int)) (e : Int × Int) : Prop := rightD e = true ∧ (e ∈ G ∨ e = d)
theorem take_ord {t : Sta} {d : Int × Int} {G : List (Int × Int)} (h1 : t.L = []) (h2 : SetC (evS d G) t.V t.C) : Ord t :=
  ⟨by rw [h1]; exact riseE_nil, h2.right, fun x hx => by rw [h1] at hx; cases hx⟩
theorem leave_ord {l : Sta} {x : En} {G : List (Int × Int)} (hx : rightD x.d = true) (h1 : l.L = [x]) (h2 : SetC (evS x.d G) l.V l.C) : Ord l :=
  ⟨by rw [h1]; exact List.pairwise_singleton _ _, h2.right, fun y hy => by
    rw [h1, List.mem_singleton] at hy
    subst hy
    exact (h2.has _).2 ⟨hx, .inr rfl⟩⟩
/-- P10.5: what goes is gone, all else stays. -/
theorem take_does {s t q : Sta} {d : Int × Int} {G : List (Int × Int)} (hs : Ord s) (hn : ¬ s.has d) (h1 : t.L = []) (h2 : SetC (evS d G) t.V t.C) (hq : JoinOf s t q) : q.L = outE s.L G := by
  refine riseE_unique _ _ hq.rise (outE_rise hs.rise G) fun y => ?_
  rw [hq.mem, outE_mem, h1]
  constructor
  · rintro (⟨hy, h3⟩ | ⟨hy, _⟩)
    · refine ⟨hy, fun hg => ?_⟩
      rcases h3 with h3 | h3
      · rw [hasE_iff] at h3; obtain ⟨_, h4, _⟩ := h3; cases h4
      · exact h3 ((h2.has _).2 ⟨hs.ctx.has_right (hs.known y hy), .inl hg⟩)
    · cases hy
  · rintro ⟨hy, hg⟩
    refine .inl ⟨hy, .inr fun h3 => ?_⟩
    rcases ((h2.has _).1 h3).2 with h4 | h4
    · exact hg h4
    · exact hn (h4 ▸ hs.known y hy)
/-- P10.5: what goes is gone, what it leaves is there, all else stays. -/
theorem leave_does {s l p : Sta} {x : En} {G : List (Int × Int)} (hs : Ord s) (hn : ¬ s.has x.d) (h1 : l.L = [x]) (h2 : SetC (evS x.d G) l.V l.C) (hp : JoinOf s l p) : p.L = withE (outE s.L G) x := by
  have key : ∀ y ∈ s.L, y.d ≠ x.d := fun y hy e => hn (e ▸ hs.known y hy)
  refine riseE_unique _ _ hp.rise (withE_rise (outE_rise hs.rise G) x) fun y => ?_
  rw [hp.mem, withE_mem, outE_mem, h1, List.mem_singleton]
  constructor
  · rintro (⟨hy, h3⟩ | ⟨hy, _⟩)
    · refine .inr ⟨⟨hy, fun hg => ?_⟩, key y hy⟩
      rcases h3 with h3 | h3
      · rw [hasE_iff] at h3
        obtain ⟨z, hz, e⟩ := h3
        rw [List.mem_singleton] at hz
        exact key y hy (by rw [← e, hz])
      · exact h3 ((h2.has _).2 ⟨hs.ctx.has_right (hs.known y hy), .inl hg⟩)
    · exact .inl hy
  · rintro (hy | ⟨⟨hy, hg⟩, _⟩)
    · subst hy
      refine .inr ⟨rfl, ?_, hn⟩
      rw [← Bool.not_eq_true]
      exact fun k => hn (hasE_known hs k)
    · refine .inl ⟨hy, .inr fun h3 => ?_⟩
      rcases ((h2.has _).1 h3).2 with h4 | h4
      · exact hg h4
      · exact key y hy h4
theorem withE_new {L : List En} {x : En} (h : ∀ y ∈ L, y.d ≠ x.d) : (withE L x).length = L.length + 1 := by
  have key : ∀ M : List En, (∀ y ∈ M, y.d ≠ x.d) → (M.filter (fun y => decide (LtD y.d x.d))).length + (M.filter (fun y => decide (LtD x.d y.d))).length = M.length := by
    intro M
    induction M with
    | nil => intro _; rfl
    | cons a M ih =>
      intro hM
      have e := ih fun y hy => hM y (List.mem_cons_of_mem _ hy)
      rw [List.filter_cons, List.filter_cons]
      rcases LtD.tri a.d x.d with h1 | h1 | h1
      · rw [if_pos (by simpa using h1), if_neg (by simpa using h1.asymm)]
        simp only [List.length_cons]; omega
      · exact absurd h1 (hM a (List.mem_cons_self ..))
      · rw [if_neg (by simpa using h1.asymm), if_pos (by simpa using h1)]
        simp only [List.length_cons]; omega
  have := key L h
  unfold withE
  rw [List.length_append, List.length_cons]
  omega
theorem riseE_nodup {L : List En} (h : RiseE L) : (L.map (·.d)).Nodup := rise_nodup (riseE_map.1 h)
/-- Of some of the dots: what is left, and what goes, is all. -/
theorem outE_count {L : List En} {G : List (Int × Int)} (hL : RiseE L) (hG : G.Sublist (L.map (·.d))) : (outE L G).length + G.length = L.length := by
  have hn := riseE_nodup hL
  have e : ∀ M : List En, (M.filter fun y => !decide (y.d ∈ G)).length + ((M.map (·.d)).filter fun d => decide (d ∈ G)).length = M.length := by
    intro M
    induction M with
    | nil => rfl
    | cons a M ih =>
      rw [List.map_cons, List.filter_cons, List.filter_cons]
      by_cases h : a.d ∈ G
      · rw [if_neg (by simp [h]), if_pos (by simp [h])]; simp only [List.length_cons]; omega
      · rw [if_pos (by simp [h]), if_neg (by simp [h])]; simp only [List.length_cons]; omega
  have h1 : ((L.map (·.d)).filter fun d => decide (d ∈ G)).length = G.length := Nat.le_antisymm
    (nodup_le _ _ (hn.filter _) fun d hd => by simpa using (List.mem_filter.1 hd).2)
    (nodup_le _ _ (hG.nodup hn) fun d hd => List.mem_filter.2 ⟨hG.subset hd, by simpa using hd⟩)
  have := e L
  unfold outE
  omega
/-- The dots at the places that b tells, of the first k. -/
def pickE (b : Nat → Bool) (L : List En) (k : Nat) : List (Int × Int) := ((List.range k).filter b).filterMap fun i => L[i]?.map (·.d)
theorem pickE_zero (b : Nat → Bool) (L : List En) : pickE b L 0 = [] := rfl
theorem pickE_step {b : Nat → Bool} {L : List En} {k : Nat} {x : En} (h : L[k]? = some x) : pickE b L (k + 1) = if b k = true then pickE b L k ++ [x.d] else pickE b L k := by
  unfold pickE
  rw [List.range_succ, List.filter_append, List.filterMap_append]
  by_cases hb : b k = true
  · rw [if_pos hb, List.filter_cons, if_pos hb]
    simp [h]
  · rw [if_neg hb, List.filter_cons, if_neg hb]
    simp
theorem pick_all (L : List En) : (List.range L.length).filterMap (fun i => L[i]?.map (·.d)) = L.map (·.d) := by
  have key : ∀ k, k ≤ L.length → (List.range k).filterMap (fun i => L[i]?.map (·.d)) = (L.take k).map (·.d) := by
    intro k
    induction k with
    | zero => intro _; simp
    | succ k ih =>
      intro hk
      have e : L[k]? = some L[k] := List.getElem?_eq_getElem (show k < L.length by omega)
      have f : [k].filterMap (fun i => L[i]?.map (·.d)) = [L[k].d] := by rw [List.filterMap_cons, e]; rfl
      rw [List.range_succ, List.filterMap_append, ih (by omega), f, List.take_add_one, e, List.map_append]
      rfl
  rw [key _ (Nat.le_refl _), List.take_length]
theorem pickE_sub {b : Nat → Bool} {L : List En} : (pickE b L L.length).Sublist (L.map (·.d)) := by
  rw [← pick_all]
  exact (List.filter_sublist ..).filterMap _
theorem pickE_len (b : Nat → Bool) (L : List En) (k : Nat) : (pickE b L k).length ≤ k := by
  unfold pickE
  refine Nat.le_trans (List.length_filterMap_le ..) (Nat.le_trans (List.length_filter_le ..) ?_)
  rw [List.length_range]
  exact Nat.le_refl _
/-- Both joins, as the law counts them. -/
theorem does_count {s l t p q : Sta} {x : En} {G : List (Int × Int)} (hs : Ord s) (hn : ¬ s.has x.d) (hG : G.Sublist (s.L.map (·.d))) (h1 : l.L = [x]) (h2 : SetC (evS x.d G) l.V l.C) (h3 : t.L = []) (h4 : SetC (evS x.d G) t.V t.C)
    (hp : JoinOf s l p) (hq : JoinOf s t q) : p.L.length = q.L.length + 1 ∧ q.L.length + G.length = s.L.length := by
  rw [leave_does hs hn h1 h2 hp, take_does hs hn h3 h4 hq]
  exact ⟨withE_new fun y hy e => hn (e ▸ hs.known y (outE_mem.1 hy).1), outE_count hs.rise hG⟩
theorem does_x {s l p : Sta} {x : En} {G : List (Int × Int)} (hs : Ord s) (hn : ¬ s.has x.d) (h1 : l.L = [x]) (h2 : SetC (evS x.d G) l.V l.C) (hp : JoinOf s l p) : x ∈ p.L := by
  rw [leave_does hs hn h1 h2 hp]
  exact withE_mem.2 (.inl rfl)
theorem does_z {s l p : Sta} {x z : En} {G : List (Int × Int)} (hs : Ord s) (hn : ¬ s.has x.d) (h1 : l.L = [x]) (h2 : SetC (evS x.d G) l.V l.C) (hp : JoinOf s l p) (hz : z ∈ s.L) : z ∈ p.L ↔ z.d ∉ G := by
  rw [leave_does hs hn h1 h2 hp, withE_mem, outE_mem]
  have key : z.d ≠ x.d := fun e => hn (e ▸ hs.known z hz)
  constructor
  · rintro (h | ⟨h, _⟩)
    · exact absurd (congrArg En.d h) key
    · exact h.2
  · exact fun h => .inr ⟨⟨hz, h⟩, key⟩
theorem does_has {s l p : Sta} {x z : En} {G : List (Int × Int)} (hs : Ord s) (hn : ¬ s.has x.d) (h1 : l.L = [x]) (h2 : SetC (evS x.d G) l.V l.C) (hp : JoinOf s l p) (hz : z ∈ s.L) : hasE p.L z.d = true ↔ z.d ∉ G := by
  rw [← does_z hs hn h1 h2 hp hz, hasE_iff]
  constructor
  · rintro ⟨y, hy, e⟩
    rcases hp.from_ hy with h | h
    · rw [rise_one hs.rise hz h e.symm]; exact hy
    · rw [h1, List.mem_singleton] at h
      subst h
      exact absurd (e ▸ hs.known z hz) hn
  · exact fun h => ⟨z, h, rfl⟩
end Go.Proofs.YtkooihljddibfaaGreat

