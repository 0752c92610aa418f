/-
  What is proved: the document's Dots of layer 6, called with any set that lies in memory and whose Vec is good, and any number, returns the first so many of what the set tells (P6.9); the world has new blocks at most.
-/
import Derived.Test.YtgofecnpmohmgaaCAt
import Derived.Test.YtgofecnpmohmgaaRow
import Derived.Test.YtgofecnpmohmgaaDTake
import Derived.IntWalk
namespace Go.Proofs.Ytgofecnpmohmgaa
open Go.RowKit

/-- A replica's dots up to a number. -/
def repD (i : Nat) (n : Int) : List (Int × Int) := (List.range n.toNat).map fun (s : Nat) => ((i : Int), (s : Int) + 1)
def dotsV (V : List Int) (k : Nat) : List (Int × Int) := (List.range k).flatMap fun i => repD i (V.getD i 0)
/-- P6.9. -/
def dotsC (V : List Int) (C : List (Int × Int)) : List (Int × Int) := dotsV V V.length ++ C
theorem dotsV_succ {V : List Int} {k : Nat} {x : Int} (h : V[k]? = some x) : dotsV V (k + 1) = dotsV V k ++ repD k x := by
  unfold dotsV
  rw [List.range_succ, List.flatMap_append]
  simp [List.getD_eq_getElem?_getD, h]
theorem repD_take (i : Nat) (x : Int) {s : Nat} (h : (s : Int) < x) : (repD i x).take (s + 1) = (repD i x).take s ++ [((i : Int), (s : Int) + 1)] := by
  rw [List.take_add_one]
  congr 1
  unfold repD
  rw [List.getElem?_map, List.getElem?_range (by omega)]
  rfl
theorem repD_all (i : Nat) (x : Int) {s : Nat} (h : x ≤ s) : (repD i x).take s = repD i x := by
  rw [List.take_of_length_le]
  unfold repD
  rw [List.length_map, List.length_range]
  omega
theorem out_add {L : List (Int × Int)} {M : Nat} {d : Int × Int} (h : (L.take M).length < M) : (L ++ [d]).take M = L.take M ++ [d] := by
  rw [List.length_take] at h
  rw [List.take_of_length_le (show (L ++ [d]).length ≤ M by rw [List.length_append]; simp; omega), List.take_of_length_le (by omega)]
theorem out_full {L X : List (Int × Int)} {M : Nat} (h : M ≤ (L.take M).length) : (L ++ X).take M = L.take M := by
  rw [List.length_take] at h
  rw [List.take_append_of_le_length (by omega)]
/-- The slice that grows, and what is left alone. -/
structure OutD (U wr : World) (v : Value) (L : List (Int × Int)) : Prop where
  own : wr.ownsRow U.heap.size 36 2 v L.length (flatD L)
  ke : Kept U wr
theorem OutD.start (U : World) : OutD U U (.slice none 0 0) [] := ⟨World.ownsRow_nil _ _ _ _, Kept.refl _⟩
theorem OutD.kept {U wr w' : World} {v : Value} {L : List (Int × Int)} (h : OutD U wr v L) (hk : Kept wr w') : OutD U w' v L := ⟨own_kept h.own hk, h.ke.trans hk⟩
theorem OutD.form {U wr : World} {v : Value} {L : List (Int × Int)} (h : OutD U wr v L) : ∃ A c, v = .slice A L.length c ∧ L.length ≤ c ∧ c ≤ 9223372036854775807 ∧ Dl wr A L.length c L := by
  obtain ⟨A, c, rfl, hd⟩ := Dl.of_own h.own
  exact ⟨A, c, rfl, hd.cap.1, hd.cap.2, hd⟩
theorem OutD.put {U wr : World} {v : Value} {L : List (Int × Int)} (h : OutD U wr v L) (hl : L.length ≤ 1000000) (x1 x2 : Int) :
    ∃ v' w', (Builtin.append_ #[23, 23] 23 #[v, .slice (some ⟨wr.heap.size, 0, none⟩) 1 1]).run Try.prog (wr.alloc (.cells #[.int .i64 x1, .int .i64 x2] 36)) = .ok v' w' ∧ OutD U w' v' (L ++ [(x1, x2)]) := by
  have h2 := h.kept ((Kept.refl wr).alloc #[.int .i64 x1, .int .i64 x2] 36)
  obtain ⟨v', w', hr, ho, hg⟩ := app_dots _ _ v L.length _ h2.own (some ⟨wr.heap.size, 0, none⟩) 1 1 [(x1, x2)] (dl_one wr x1 x2 _) (by omega) h2.ke.2.2
  exact ⟨v', w', hr, ⟨by rw [List.length_append, flatD_app]; exact ho, kept_grown h2.ke hg fun g hgb => (h2.own.lt g hgb).1⟩⟩

set_option maxRecDepth 100000 in
set_option maxHeartbeats 4000000 in
theorem rdots_any (A : Option Addr) (n c : Nat) (V : List Int) (B : Option Addr) (m k : Nat) (C : List (Int × Int)) (most : Int) (w : World) (h : Il w A n c V) (hv : VecOk V) (hd : Dl w B m k C) (hmo : most ≤ 100000) :
    Calls Try.prog 31 #[.agg #[.slice A n c, .slice B m k], .int .i64 most] w fun e w' => ∃ A' c', e = .returned (.slice A' ((dotsC V C).take most.toNat).length c') ∧ Dl w' A' ((dotsC V C).take most.toNat).length c' ((dotsC V C).take most.toNat) ∧ Kept w w' := by
  have hcap := h.cap.1; have hcap2 := h.cap.2; have hdap := hd.cap.1; have hdap2 := hd.cap.2
  have HN := Lib.hid h.1; have HM := Lib.hid hd.1
  have hK := (Kept.refl w).alloc #[.slice A n c, .slice B m k] 25
  have HK := Lib.hid hK
  have HI := Lib.hid (h.kept hK)
  have HD := Lib.hid (hd.kept hK)
  have HV := Lib.hid hv
  obtain ⟨M, hM⟩ : ∃ M, most.toNat = M := ⟨_, rfl⟩
  have hM2 : M ≤ 100000 := by omega
  have HX := Lib.hid (Box2.new w (.slice A n c) (.slice B m k) 25)
  obtain ⟨U, hU⟩ : ∃ U, w.alloc (.cells #[.slice A n c, .slice B m k] 25) = U := ⟨_, rfl⟩
  rw [hU] at HK HI HD HX
  rw [hM]
  have HU := Lib.hid hU
  have hlt_iff : ∀ L : List (Int × Int), decide (((L.take M).length : Int) < most) = decide ((L.take M).length < M) := fun L => by
    rw [Bool.eq_iff_iff, decide_eq_true_iff, decide_eq_true_iff]; omega
  have HLT := Lib.hid hlt_iff
  have hlen : ∀ L : List (Int × Int), (L.take M).length ≤ M := fun L => List.length_take_le ..
  have HLE := Lib.hid hlen
  clear h hv hd hK hU hM hlt_iff hlen
  go_enter Try.func31, Try.ntmps31
  go_wp2_with fail
  go_loopw [5, 13] (fun v i wr => ∃ t : Nat, t ≤ n ∧ i = .int .i64 t ∧ OutD U wr v ((dotsV V t).take M)) (fun _ i _ => n - (intOf i).toNat)
  case atStart => exact ⟨0, Nat.zero_le _, rfl, by rw [HU.out, show (dotsV V 0).take M = [] by simp [dotsV]]; exact OutD.start _⟩
  case round =>
    obtain ⟨t, ht, rfl, hout⟩ := hrel
    have HO := Lib.hid hout
    obtain ⟨A3, c3, rfl, h31, h32, _⟩ := hout.form
    have e0 := (HX.out.kept hout.ke).c0
    have e1 := (HX.out.kept hout.ke).c1
    have hle := HLE.out (dotsV V t)
    clear hout
    by_cases hlt : t < n
    · obtain ⟨g, o, x, rfl, hx, g1⟩ := (HI.out.kept HO.out.ke).get hlt
      have hxb := HV.out.bd x (List.mem_of_getElem? hx)
      obtain ⟨hxb1, hxb2⟩ := hxb
      have HS := Lib.hid (dotsV_succ hx)
      have HXV := Lib.hid hx
      clear hx
      go_wp2_with fail
      go_loopw [5, 7] (fun v i wi => ∃ s : Nat, (s : Int) ≤ x ∧ i = .int .i64 ((s : Int) + 1) ∧ OutD U wi v ((dotsV V t ++ (repD t x).take s).take M)) (fun _ i _ => (x + 1 - intOf i).toNat)
      case atStart => exact ⟨0, by omega, rfl, by rw [List.take_zero, List.append_nil]; exact HO.out⟩
      case round =>
        obtain ⟨s, hs, rfl, hout⟩ := hrel
        have HO2 := Lib.hid hout
        obtain ⟨A4, c4, rfl, h41, h42, _⟩ := hout.form
        obtain ⟨g', o', x', hA', hx', g2⟩ := (HI.out.kept hout.ke).get hlt
        obtain ⟨rfl, rfl⟩ : g = g' ∧ o = o' := by simpa using hA'
        obtain rfl : x = x' := Option.some.inj (HXV.out.symm.trans hx')
        have f0 := (HX.out.kept hout.ke).c0
        have f1 := (HX.out.kept hout.ke).c1
        have hle2 := HLE.out (dotsV V t ++ (repD t x).take s)
        have hq := HLT.out (dotsV V t ++ (repD t x).take s)
        obtain ⟨L, hL⟩ : ∃ L, (dotsV V t ++ (repD t x).take s).take M = L := ⟨_, rfl⟩
        rw [hL] at HO2 h41 hle2 hq ⊢
        have HL := Lib.hid hL
        clear hout hA' hx' hL e0 e1 g1
        by_cases hsx : (s : Int) + 1 ≤ x
        · have d1 : decide ((s : Int) + 1 ≤ x) = true := by simpa using hsx
          by_cases hlm : L.length < M
          · have d2 : decide ((L.length : Int) < most) = true := by rw [hq]; simpa using hlm
            obtain ⟨v7, w7, hr7, ho7⟩ := HO2.out.put (by omega) (t : Int) ((s : Int) + 1)
            have HR7 := Lib.hid hr7
            have HO7 := Lib.hid (show OutD U w7 v7 ((dotsV V t ++ (repD t x).take (s + 1)).take M) by
              rw [repD_take t x (by omega), ← List.append_assoc, out_add (by rw [HL.out]; exact hlm), HL.out]
              exact ho7)
            clear hr7 ho7 hq
            go_wp2_with (at_builtin; refine Lib.wpList_append_run _ rfl (.tmp 31) (.tmp 35) _ _ rfl _ _ rfl rfl _ _ HR7.out ?_)
            clear f0 f1 g2
            go_roundw
            case rel => exact ⟨s + 1, by omega, by go_num, HO7.out⟩
            case measure => simp [intOf]; omega
          · have d2 : decide ((L.length : Int) < most) = false := by rw [hq]; simpa using hlm
            have HF := Lib.hid (show (dotsV V (t + 1)).take M = L by
              rw [HS.out, ← HL.out]
              conv => lhs; rw [← List.take_append_drop s (repD t x), ← List.append_assoc]
              exact out_full (by rw [HL.out]; omega))
            clear hq
            go_wp2_with fail
            clear f0 f1 g2
            go_roundw
            case rel => exact ⟨t + 1, hlt, by go_num, by rw [HF.out]; exact HO2.out⟩
            case measure => simp [intOf]; omega
        · have d1 : decide ((s : Int) + 1 ≤ x) = false := by simpa using hsx
          have HF := Lib.hid (show (dotsV V (t + 1)).take M = L by
            rw [HS.out, ← HL.out, repD_all t x (by omega)])
          clear hq
          go_wp2_with fail
          clear f0 f1 g2
          go_roundw
          case rel => exact ⟨t + 1, hlt, by go_num, by rw [HF.out]; exact HO2.out⟩
          case measure => simp [intOf]; omega
    · have htn : t = n := by omega
      have HT := Lib.hid (show dotsV V t = dotsV V V.length by rw [htn, HN.out])
      rw [HT.out] at HO h31 hle ⊢
      clear htn
      go_wp2_with fail
      go_loopw [5, 41] (fun v i wi => ∃ s : Nat, s ≤ m ∧ i = .int .i64 s ∧ OutD U wi v ((dotsV V V.length ++ C.take s).take M)) (fun _ i _ => m - (intOf i).toNat)
      case atStart => exact ⟨0, Nat.zero_le _, rfl, by rw [List.take_zero, List.append_nil]; exact HO.out⟩
      case round =>
        clear e0 e1 h31 hle
        obtain ⟨s, hs, rfl, hout⟩ := hrel
        have HO2 := Lib.hid hout
        obtain ⟨A4, c4, rfl, h41, h42, hdl⟩ := hout.form
        have hle2 := HLE.out (dotsV V V.length ++ C.take s)
        have hq := HLT.out (dotsV V V.length ++ C.take s)
        obtain ⟨L, hL⟩ : ∃ L, (dotsV V V.length ++ C.take s).take M = L := ⟨_, rfl⟩
        rw [hL] at HO2 h41 hle2 hq hdl ⊢
        have HL := Lib.hid hL
        have HDL := Lib.hid hdl
        clear hout hL hdl
        by_cases hlt : s < m
        · obtain ⟨g, o, ⟨y1, y2⟩, rfl, hy, g1, g2⟩ := (HD.out.kept HO2.out.ke).get hlt
          simp only at g1 g2
          have HT2 := Lib.hid (show C.take (s + 1) = C.take s ++ [(y1, y2)] by rw [List.take_add_one, hy]; rfl)
          clear hy
          by_cases hlm : L.length < M
          · have d2 : decide ((L.length : Int) < most) = true := by rw [hq]; simpa using hlm
            obtain ⟨v7, w7, hr7, ho7⟩ := (HO2.out.kept ((Kept.refl _).alloc #[.int .i64 y1, .int .i64 y2] 36)).put (by omega) y1 y2
            rw [show ∀ w : World, (w.alloc (.cells #[.int .i64 y1, .int .i64 y2] 36)).heap.size = w.heap.size + 1 from fun w => by simp] at hr7
            have HR7 := Lib.hid hr7
            have HO7 := Lib.hid (show OutD U w7 v7 ((dotsV V V.length ++ C.take (s + 1)).take M) by
              rw [HT2.out, ← List.append_assoc, out_add (by rw [HL.out]; exact hlm), HL.out]
              exact ho7)
            clear hr7 ho7 hq
            go_wp2_with (at_builtin; refine Lib.wpList_append_run _ rfl (.tmp 49) (.tmp 51) _ _ rfl _ _ rfl rfl _ _ HR7.out ?_)
            clear g1 g2
            go_roundw
            case rel => exact ⟨s + 1, hlt, by go_num, HO7.out⟩
            case measure => simp [intOf]; omega
          · have d2 : decide ((L.length : Int) < most) = false := by rw [hq]; simpa using hlm
            have HF := Lib.hid (show (dotsV V V.length ++ C.take (s + 1)).take M = L by
              rw [HT2.out, ← List.append_assoc, ← HL.out]
              exact out_full (by rw [HL.out]; omega))
            have HO3 := Lib.hid (HO2.out.kept ((Kept.refl _).alloc #[.int .i64 y1, .int .i64 y2] 36))
            clear hq
            go_wp2_with fail
            clear g1 g2
            go_roundw
            case rel => exact ⟨s + 1, hlt, by go_num, by rw [HF.out]; exact HO3.out⟩
            case measure => simp [intOf]; omega
        · have hsm : s = m := by omega
          have HF := Lib.hid (show L = (dotsC V C).take M by
            rw [← HL.out, List.take_of_length_le (show C.length ≤ s by have := HM.out; omega)]
            rfl)
          clear hsm hq
          go_wp2_with fail
          go_ret
          refine ⟨A4, c4, ?_, ?_, HK.out.trans HO2.out.ke⟩
          · rw [← HF.out]; rfl
          · rw [← HF.out]; exact HDL.out
end Go.Proofs.Ytgofecnpmohmgaa
