/-
  What is proved: the document's Dots of layer 6, called with any set that lies in memory and whose Vec is good, and any number, returns the first so many of what the set tells (P6.9); the world has new blocks at most.
  takeVec, takeCloud and Take of package ctx, called with any text of bounded length, return what P6.12 says; the world has new blocks at most.
-/
import Derived.Test.YtoggcpfogeoeaaaGreatDoorM14
import Derived.Test.YtoggcpfogeoeaaaGreatDoorM16
import Derived.Test.YtoggcpfogeoeaaaGreatDoorM10
import Derived.IntWalk
import Derived.Test.YtoggcpfogeoeaaaGreatDoorM30
import Derived.Test.YtoggcpfogeoeaaaGreatDoorM2
namespace Go.Proofs.YtoggcpfogeoeaaaGreatDoor
open Go.RowKit

/-- A replica's dots up to a number. -/
def repD (i : Nat) (n : Int) : List (Int × Int) := (List.range n.toNat).map fun (s : Nat) => ((i : Int), (s : Int) + 1)
def dotsV (V : List Int) (k : Nat) : List (Int × Int) := (List.range k).flatMap fun i => repD i (V.getD i 0)
/-- P6.9. -/
def dotsC (V : List Int) (C : List (Int × Int)) : List (Int × Int) := dotsV V V.length ++ C
theorem dotsV_succ {V : List Int} {k : Nat} {x : Int} (h : V[k]? = some x) : dotsV V (k + 1) = dotsV V k ++ repD k x := by
  unfold dotsV
  rw [List.range_succ, List.flatMap_append]
  simp [List.getD_eq_getElem?_getD, h]
theorem repD_take (i : Nat) (x : Int) {s : Nat} (h : (s : Int) < x) : (repD i x).take (s + 1) = (repD i x).take s ++ [((i : Int), (s : Int) + 1)] := by
  rw [List.take_add_one]
  congr 1
  unfold repD
  rw [List.getElem?_map, List.getElem?_range (by omega)]
  rfl
theorem repD_all (i : Nat) (x : Int) {s : Nat} (h : x ≤ s) : (repD i x).take s = repD i x := by
  rw [List.take_of_length_le]
  unfold repD
  rw [List.length_map, List.length_range]
  omega
theorem out_add {L : List (Int × Int)} {M : Nat} {d : Int × Int} (h : (L.take M).length < M) : (L ++ [d]).take M = L.take M ++ [d] := by
  rw [List.length_take] at h
  rw [List.take_of_length_le (show (L ++ [d]).length ≤ M by rw [List.length_append]; simp; omega), List.take_of_length_le (by omega)]
theorem out_full {L X : List (Int × Int)} {M : Nat} (h : M ≤ (L.take M).length) : (L ++ X).take M = L.take M := by
  rw [List.length_take] at h
  rw [List.take_append_of_le_length (by omega)]
/-- The slice that grows, and what is left alone. -/
structure OutD (U wr : World) (v : Value) (L : List (Int × Int)) : Prop where
  own : wr.ownsRow U.heap.size 31 2 v L.length (flatD L)
  ke : Kept U wr
theorem OutD.start (U : World) : OutD U U (.slice none 0 0) [] := ⟨World.ownsRow_nil _ _ _ _, Kept.refl _⟩
theorem OutD.kept {U wr w' : World} {v : Value} {L : List (Int × Int)} (h : OutD U wr v L) (hk : Kept wr w') : OutD U w' v L := ⟨own_kept h.own hk, h.ke.trans hk⟩
theorem OutD.form {U wr : World} {v : Value} {L : List (Int × Int)} (h : OutD U wr v L) : ∃ A c, v = .slice A L.length c ∧ L.length ≤ c ∧ c ≤ 9223372036854775807 ∧ Dl wr A L.length c L := by
  obtain ⟨A, c, rfl, hd⟩ := Dl.of_own h.own
  exact ⟨A, c, rfl, hd.cap.1, hd.cap.2, hd⟩
theorem OutD.put {U wr : World} {v : Value} {L : List (Int × Int)} (h : OutD U wr v L) (hl : L.length ≤ 1000000) (x1 x2 : Int) :
    ∃ v' w', (Builtin.append_ #[23, 23] 23 #[v, .slice (some ⟨wr.heap.size, 0, none⟩) 1 1]).run Tryz.prog (wr.alloc (.cells #[.int .i64 x1, .int .i64 x2] 31)) = .ok v' w' ∧ OutD U w' v' (L ++ [(x1, x2)]) := by
  have h2 := h.kept ((Kept.refl wr).alloc #[.int .i64 x1, .int .i64 x2] 31)
  obtain ⟨v', w', hr, ho, hg⟩ := app_dots _ _ v L.length _ h2.own (some ⟨wr.heap.size, 0, none⟩) 1 1 [(x1, x2)] (dl_one wr x1 x2 _) (by omega) h2.ke.2.2
  exact ⟨v', w', hr, ⟨by rw [List.length_append, flatD_app]; exact ho, kept_grown h2.ke hg fun g hgb => (h2.own.lt g hgb).1⟩⟩

end Go.Proofs.YtoggcpfogeoeaaaGreatDoor

namespace Go.Proofs.YtoggcpfogeoeaaaGreatDoor
open Go.RowKit

def tvcL (s : ByteArray) : List Int × ByteArray × Nat :=
  if tkE s ≠ 0 then ([], ⟨#[]⟩, tkE s) else if 64 < tkN s then ([], ⟨#[]⟩, 4) else takeVs (tkN s) [] (tkR s)
def tdsL (s : ByteArray) : List (Int × Int) × ByteArray × Nat :=
  if tkE s ≠ 0 then ([], ⟨#[]⟩, tkE s) else if (tkR s).size < tkN s then ([], ⟨#[]⟩, 2) else takeDs (tkN s) [] (tkR s)
theorem tcL_parts (s : ByteArray) : tcL s = if (tvcL s).2.2 ≠ 0 then ([], [], ⟨#[]⟩, (tvcL s).2.2) else if (tdsL (tvcL s).2.1).2.2 ≠ 0 then ([], [], ⟨#[]⟩, (tdsL (tvcL s).2.1).2.2) else formC (tvcL s).1 (tdsL (tvcL s).2.1).1 (tdsL (tvcL s).2.1).2.1 := by
  unfold tcL tvcL
  by_cases h1 : tkE s ≠ 0
  · rw [if_pos h1, if_pos h1, if_pos h1]
  · rw [if_neg h1, if_neg h1]
    by_cases h2 : 64 < tkN s
    · rw [if_pos h2, if_pos h2, if_pos (by decide)]
    · rw [if_neg h2, if_neg h2]
      by_cases h3 : (takeVs (tkN s) [] (tkR s)).2.2 ≠ 0
      · rw [if_pos h3, if_pos h3]
      · rw [if_neg h3, if_neg h3]
        obtain ⟨r, hr⟩ : ∃ r, (takeVs (tkN s) [] (tkR s)).2.1 = r := ⟨_, rfl⟩
        rw [hr]
        unfold cloudC tdsL
        by_cases h4 : tkE r ≠ 0
        · rw [if_pos h4, if_pos h4, if_pos h4]
        · rw [if_neg h4, if_neg h4]
          by_cases h5 : (tkR r).size < tkN r
          · rw [if_pos h5, if_pos h5, if_pos (by decide)]
          · rw [if_neg h5, if_neg h5]
theorem gtakeK (s : ByteArray) (n : Int) (r : ByteArray) (z : Int) (h1 : (tkN s : Int) = n) (h2 : tkR s = r) (h3 : (tkE s : Int) = z) (hs : s.size ≤ 100000) (w : World) :
    Calls Tryz.prog 63 #[.string s] w fun e w' => e = .returned (.tuple #[.int .u64 n, .string r, .int .i64 z]) ∧ Kept w w' :=
  (take_c s n r z h1 h2 h3 (by omega) w).mono fun _ _ ⟨he, hg⟩ => ⟨he, kept_of hg⟩

/-- The slice of ints that grows, and what is left alone. -/
structure OutI (U wr : World) (v : Value) (V : List Int) : Prop where
  own : wr.ownsRow U.heap.size 3 1 v V.length (intsV V)
  ke : Kept U wr
theorem OutI.start (U : World) : OutI U U (.slice none 0 0) [] := ⟨World.ownsRow_nil _ _ _ _, Kept.refl _⟩
theorem OutI.kept {U wr w' : World} {v : Value} {V : List Int} (h : OutI U wr v V) (hk : Kept wr w') : OutI U w' v V := ⟨own_kept h.own hk, h.ke.trans hk⟩
theorem OutI.form {U wr : World} {v : Value} {V : List Int} (h : OutI U wr v V) : ∃ A c, v = .slice A V.length c ∧ V.length ≤ c ∧ c ≤ 9223372036854775807 := by
  obtain ⟨A, c, rfl, hd⟩ := Il.of_own h.own
  exact ⟨A, c, rfl, hd.cap.1, hd.cap.2⟩
theorem OutI.put {U wr : World} {v : Value} {V : List Int} (h : OutI U wr v V) (hl : V.length ≤ 1000000) (x : Int) :
    ∃ v' w', (Builtin.append_ #[25, 25] 25 #[v, .slice (some ⟨wr.heap.size, 0, none⟩) 1 1]).run Tryz.prog (wr.alloc (.cells #[.int .i64 x] 3)) = .ok v' w' ∧ OutI U w' v' (V ++ [x]) := by
  have h2 := h.kept ((Kept.refl wr).alloc #[.int .i64 x] 3)
  obtain ⟨v', w', hr, ho, hg, _⟩ := app_ints _ _ v V.length _ h2.own (some ⟨wr.heap.size, 0, none⟩) 1 1 [x] (il_one wr x _) (by omega) h2.ke.2.2
  exact ⟨v', w', hr, ⟨by rw [List.length_append, intsV_app]; exact ho, kept_grown h2.ke hg fun g hgb => (h2.own.lt g hgb).1⟩⟩

/-- What takeVec and takeCloud leave. -/
def TakeV (s : ByteArray) (w : World) (e : Ending) (w' : World) : Prop :=
  ∃ v V r z, e = .returned (.tuple #[v, .string r, .int .i64 ((z : Nat) : Int)]) ∧ OutI w w' v V ∧ tvcL s = (V, r, z) ∧ r.size ≤ s.size
def TakeD (s : ByteArray) (w : World) (e : Ending) (w' : World) : Prop :=
  ∃ v C r z, e = .returned (.tuple #[v, .string r, .int .i64 ((z : Nat) : Int)]) ∧ OutD w w' v C ∧ tdsL s = (C, r, z) ∧ r.size ≤ s.size
theorem TakeV.err {s : ByteArray} {w w' : World} {z : Nat} (h : tvcL s = ([], ⟨#[]⟩, z)) (hk : Kept w w') : TakeV s w (.returned (.tuple #[.slice none 0 0, .string ⟨#[]⟩, .int .i64 (z : Int)])) w' :=
  ⟨_, [], _, z, rfl, ⟨World.ownsRow_nil _ _ _ _, hk⟩, h, Nat.zero_le _⟩
theorem TakeD.err {s : ByteArray} {w w' : World} {z : Nat} (h : tdsL s = ([], ⟨#[]⟩, z)) (hk : Kept w w') : TakeD s w (.returned (.tuple #[.slice none 0 0, .string ⟨#[]⟩, .int .i64 (z : Int)])) w' :=
  ⟨_, [], _, z, rfl, ⟨World.ownsRow_nil _ _ _ _, hk⟩, h, Nat.zero_le _⟩

set_option maxRecDepth 100000 in
set_option maxHeartbeats 4000000 in
theorem gtakeV (s : ByteArray) (w : World) (hs : s.size ≤ 90000) :
    Calls Tryz.prog 61 #[.string s] w (TakeV s w) := by
  have hbd := tkN_bd s
  have hrs := tkR_size s
  obtain ⟨n, hn⟩ : ∃ n, tkN s = n := ⟨_, rfl⟩
  obtain ⟨r, hr⟩ : ∃ r, tkR s = r := ⟨_, rfl⟩
  obtain ⟨z, hz⟩ : ∃ z, tkE s = z := ⟨_, rfl⟩
  have AT := Lib.hid (fun w => gtakeK s n r z (by rw [hn]) hr (by rw [hz]) (by omega) w)
  have HTC := Lib.hid (show tvcL s = if z ≠ 0 then ([], ⟨#[]⟩, z) else if 64 < n then ([], ⟨#[]⟩, 4) else takeVs n [] r by unfold tvcL; rw [hn, hr, hz])
  rw [hn] at hbd
  rw [hr] at hrs
  clear hn hr hz
  go_enter Tryz.func61, Tryz.ntmps61
  by_cases hz : z = 0
  · have d1 : ((z : Int) != 0) = false := by simp [hz]
    by_cases h64 : 64 < n
    · have d2 : decide ((64 : Int) < n) = true := decide_eq_true (by omega)
      have d3 : decide (64 < n) = true := decide_eq_true h64
      have HF := Lib.hid (show tvcL s = ([], ⟨#[]⟩, 4) by rw [HTC.out, if_neg (by simp [hz]), if_pos h64])
      clear hz h64
      go_wp2_with fail
      go_at_call 63
      refine (AT.out _).mono ?_
      rintro e w1 ⟨rfl, hk1⟩
      go_wp2_with fail
      go_ret3
      exact TakeV.err HF.out hk1
    · have d2 : decide ((64 : Int) < n) = false := decide_eq_false (by omega)
      have d3 : decide (64 < n) = false := decide_eq_false h64
      have HT2 := Lib.hid (show tvcL s = takeVs n [] r by rw [HTC.out, if_neg (by simp [hz]), if_neg h64])
      clear hz
      go_wp2_with fail
      go_at_call 63
      refine (AT.out _).mono ?_
      rintro e w1 ⟨rfl, hk1⟩
      have HK1 := Lib.hid hk1
      clear hk1
      go_wp2_with fail
      go_loopw [6, 8, 24] (fun x v i wr => ∃ (t : Nat) (s1 : ByteArray) (V1 : List Int), t ≤ n ∧ i = .int .u64 t ∧ x = .string s1 ∧ s1.size ≤ s.size ∧ V1.length = t ∧ takeVs (n - t) V1 s1 = takeVs n [] r ∧ OutI w wr v V1) (fun _ _ i _ => n - (intOf i).toNat)
      case atStart => exact ⟨0, r, [], Nat.zero_le _, rfl, rfl, hrs, rfl, rfl, (OutI.start w).kept HK1.out⟩
      case round =>
        obtain ⟨t, s1, V1, ht, rfl, rfl, hs1, hvl, htv, hm⟩ := hrel
        have HMT := Lib.hid hm
        obtain ⟨A3, c3, rfl, h31, h32⟩ := hm.form
        rw [hvl] at HMT h31 ⊢
        have HVL := Lib.hid hvl
        have HTV := Lib.hid htv
        have hrs1 := tkR_size s1
        clear htv hm hvl
        by_cases hlt : t < n
        · have hadd : IntKind.u64.wrap ((t : Int) + 1) = ((t + 1 : Nat) : Int) := by rw [IntKind.wrap_u64]; omega
          obtain ⟨y, hy⟩ : ∃ y, tkR s1 = y := ⟨_, rfl⟩
          obtain ⟨q, hq⟩ : ∃ q, tkE s1 = q := ⟨_, rfl⟩
          obtain ⟨x, hx⟩ : ∃ x, tiN s1 = x := ⟨_, rfl⟩
          have AI := Lib.hid (fun w => takeIntK s1 x y q hx hy (by rw [hq]) (by omega) w)
          rw [hy] at hrs1
          by_cases hq0 : q = 0
          · have g1 : ((q : Int) != 0) = false := by simp [hq0]
            have HN := Lib.hid (show takeVs (n - (t + 1)) (V1 ++ [x]) y = takeVs n [] r by
              rw [← HTV.out, show n - t = (n - (t + 1)) + 1 by omega, takeVs_ok (by rw [hq]; exact hq0), hx, hy])
            clear hx hy hq hq0
            go_wp2_with fail
            go_at_call 82
            refine (AI.out _).mono ?_
            rintro e w5 ⟨rfl, hk5⟩
            obtain ⟨v7, w7, hr7, ho7⟩ := (HMT.out.kept hk5).put (by have := HVL.out; omega) x
            have HR7 := Lib.hid hr7
            have HO7 := Lib.hid ho7
            have hvl7 : (V1 ++ [x]).length = t + 1 := by rw [List.length_append, HVL.out]; rfl
            have HV7 := Lib.hid hvl7
            clear hr7 ho7 hk5 hvl7
            go_wp2_with (at_builtin; refine Lib.wpList_append_run _ rfl (.tmp 35) (.tmp 37) _ _ rfl _ _ rfl rfl _ _ HR7.out ?_)
            go_roundw
            case rel => exact ⟨t + 1, y, V1 ++ [x], by omega, by first | rfl | go_num, rfl, by omega, HV7.out, HN.out, HO7.out⟩
            case measure => simp [intOf]; omega
          · have g1 : ((q : Int) != 0) = true := by simp [hq0]
            have HF := Lib.hid (show tvcL s = ([], ⟨#[]⟩, q) by
              rw [HT2.out, ← HTV.out, show n - t = (n - (t + 1)) + 1 by omega, takeVs_err (by rw [hq]; exact hq0), hq])
            clear hx hy hq hq0 hadd
            go_wp2_with fail
            go_at_call 82
            refine (AI.out _).mono ?_
            rintro e w5 ⟨rfl, hk5⟩
            go_wp2_with fail
            go_ret3
            exact TakeV.err HF.out (HMT.out.ke.trans hk5)
        · have HF := Lib.hid (show tvcL s = (V1, s1, 0) by
            rw [HT2.out, ← HTV.out, show n - t = 0 by omega]; rfl)
          go_wp2_with fail
          go_ret3
          exact ⟨_, V1, s1, 0, rfl, HMT.out, HF.out, hs1⟩
  · have d1 : ((z : Int) != 0) = true := by simp [hz]
    have HF := Lib.hid (show tvcL s = ([], ⟨#[]⟩, z) by rw [HTC.out, if_pos hz])
    clear hz
    go_wp2_with fail
    go_at_call 63
    refine (AT.out _).mono ?_
    rintro e w1 ⟨rfl, hk1⟩
    go_wp2_with fail
    go_ret3
    exact TakeV.err HF.out hk1

set_option maxRecDepth 100000 in
set_option maxHeartbeats 4000000 in
theorem gtakeD (s : ByteArray) (w : World) (hs : s.size ≤ 90000) :
    Calls Tryz.prog 62 #[.string s] w (TakeD s w) := by
  have hbd := tkN_bd s
  have hrs := tkR_size s
  obtain ⟨n, hn⟩ : ∃ n, tkN s = n := ⟨_, rfl⟩
  obtain ⟨r, hr⟩ : ∃ r, tkR s = r := ⟨_, rfl⟩
  obtain ⟨z, hz⟩ : ∃ z, tkE s = z := ⟨_, rfl⟩
  have AT := Lib.hid (fun w => gtakeK s n r z (by rw [hn]) hr (by rw [hz]) (by omega) w)
  have HTC := Lib.hid (show tdsL s = if z ≠ 0 then ([], ⟨#[]⟩, z) else if r.size < n then ([], ⟨#[]⟩, 2) else takeDs n [] r by unfold tdsL; rw [hn, hr, hz])
  rw [hn] at hbd
  rw [hr] at hrs
  clear hn hr hz
  go_enter Tryz.func62, Tryz.ntmps62
  by_cases hz : z = 0
  · have d1 : ((z : Int) != 0) = false := by simp [hz]
    have hwr : IntKind.u64.wrap (r.size : Int) = (r.size : Int) := by rw [IntKind.wrap_u64]; omega
    by_cases h64 : r.size < n
    · have d2 : decide ((r.size : Int) < n) = true := decide_eq_true (by omega)
      have d3 : decide (r.size < n) = true := decide_eq_true h64
      have HF := Lib.hid (show tdsL s = ([], ⟨#[]⟩, 2) by rw [HTC.out, if_neg (by simp [hz]), if_pos h64])
      clear hz h64
      go_wp2_with fail
      go_at_call 63
      refine (AT.out _).mono ?_
      rintro e w1 ⟨rfl, hk1⟩
      go_wp2_with fail
      go_ret3
      exact TakeD.err HF.out hk1
    · have d2 : decide ((r.size : Int) < n) = false := decide_eq_false (by omega)
      have d3 : decide (r.size < n) = false := decide_eq_false h64
      have HT2 := Lib.hid (show tdsL s = takeDs n [] r by rw [HTC.out, if_neg (by simp [hz]), if_neg h64])
      clear hz
      go_wp2_with fail
      go_at_call 63
      refine (AT.out _).mono ?_
      rintro e w1 ⟨rfl, hk1⟩
      have HK1 := Lib.hid hk1
      clear hk1
      go_wp2_with fail
      go_loopw [6, 8, 27] (fun x v i wr => ∃ (t : Nat) (s1 : ByteArray) (V1 : List (Int × Int)), t ≤ n ∧ i = .int .u64 t ∧ x = .string s1 ∧ s1.size ≤ s.size ∧ V1.length = t ∧ takeDs (n - t) V1 s1 = takeDs n [] r ∧ OutD w wr v V1) (fun _ _ i _ => n - (intOf i).toNat)
      case atStart => exact ⟨0, r, [], Nat.zero_le _, rfl, rfl, hrs, rfl, rfl, (OutD.start w).kept HK1.out⟩
      case round =>
        obtain ⟨t, s1, V1, ht, rfl, rfl, hs1, hvl, htv, hm⟩ := hrel
        have HMT := Lib.hid hm
        obtain ⟨A3, c3, rfl, h31, h32, _⟩ := hm.form
        rw [hvl] at HMT h31 ⊢
        have HVL := Lib.hid hvl
        have HTV := Lib.hid htv
        have hrs1 := tdR_size s1
        clear htv hm hvl
        by_cases hlt : t < n
        · have hadd : IntKind.u64.wrap ((t : Int) + 1) = ((t + 1 : Nat) : Int) := by rw [IntKind.wrap_u64]; omega
          obtain ⟨y, hy⟩ : ∃ y, tdR s1 = y := ⟨_, rfl⟩
          obtain ⟨q, hq⟩ : ∃ q, tdE s1 = q := ⟨_, rfl⟩
          obtain ⟨⟨x1, x2⟩, hx⟩ : ∃ x, tdX s1 = x := ⟨_, rfl⟩
          have AI := Lib.hid (fun w => dtake_c s1 (x1, x2) y q hx hy (by rw [hq]) (by omega) w)
          rw [hy] at hrs1
          by_cases hq0 : q = 0
          · have g1 : ((q : Int) != 0) = false := by simp [hq0]
            have HN := Lib.hid (show takeDs (n - (t + 1)) (V1 ++ [(x1, x2)]) y = takeDs n [] r by
              rw [← HTV.out, show n - t = (n - (t + 1)) + 1 by omega, takeDs_ok (by rw [hq]; exact hq0), hx, hy])
            clear hx hy hq hq0
            go_wp2_with fail
            go_at_call 83
            refine (AI.out _).mono ?_
            rintro e w5 ⟨rfl, hk5⟩
            have hk6 := hk5.trans ((Kept.refl w5).alloc #[.int .i64 x1, .int .i64 x2] 31)
            obtain ⟨v7, w7, hr7, ho7⟩ := (HMT.out.kept hk6).put (by have := HVL.out; omega) x1 x2
            rw [show (w5.alloc (.cells #[.int .i64 x1, .int .i64 x2] 31)).heap.size = w5.heap.size + 1 by simp] at hr7
            clear hk6
            have HR7 := Lib.hid hr7
            have HO7 := Lib.hid ho7
            have hvl7 : (V1 ++ [(x1, x2)]).length = t + 1 := by rw [List.length_append, HVL.out]; rfl
            have HV7 := Lib.hid hvl7
            clear hr7 ho7 hk5 hvl7
            go_wp2_with (at_builtin; refine Lib.wpList_append_run _ rfl (.tmp 38) (.tmp 40) _ _ rfl _ _ rfl rfl _ _ HR7.out ?_)
            go_roundw
            case rel => exact ⟨t + 1, y, V1 ++ [(x1, x2)], by omega, by first | rfl | go_num, rfl, by omega, HV7.out, HN.out, HO7.out⟩
            case measure => simp [intOf]; omega
          · have g1 : ((q : Int) != 0) = true := by simp [hq0]
            have HF := Lib.hid (show tdsL s = ([], ⟨#[]⟩, q) by
              rw [HT2.out, ← HTV.out, show n - t = (n - (t + 1)) + 1 by omega, takeDs_err (by rw [hq]; exact hq0), hq])
            clear hx hy hq hq0 hadd
            go_wp2_with fail
            go_at_call 83
            refine (AI.out _).mono ?_
            rintro e w5 ⟨rfl, hk5⟩
            go_wp2_with fail
            go_ret3
            exact TakeD.err HF.out (HMT.out.ke.trans (hk5.trans ((Kept.refl w5).alloc #[.int .i64 x1, .int .i64 x2] 31)))
        · have HF := Lib.hid (show tdsL s = (V1, s1, 0) by
            rw [HT2.out, ← HTV.out, show n - t = 0 by omega]; rfl)
          go_wp2_with fail
          go_ret3
          exact ⟨_, V1, s1, 0, rfl, HMT.out, HF.out, hs1⟩
  · have d1 : ((z : Int) != 0) = true := by simp [hz]
    have HF := Lib.hid (show tdsL s = ([], ⟨#[]⟩, z) by rw [HTC.out, if_pos hz])
    clear hz
    go_wp2_with fail
    go_at_call 63
    refine (AT.out _).mono ?_
    rintro e w1 ⟨rfl, hk1⟩
    go_wp2_with fail
    go_ret3
    exact TakeD.err HF.out hk1

set_option maxRecDepth 100000 in
set_option maxHeartbeats 4000000 in
theorem gtake_any (s : ByteArray) (w : World) (hs : s.size ≤ 90000) :
    Calls Tryz.prog 35 #[.string s] w (TakeC s w) := by
  have AV := Lib.hid (fun w => gtakeV s w hs)
  have HX := Lib.hid (Box2.new w (.slice none 0 0) (.slice none 0 0) 27)
  have HP := Lib.hid (tcL_parts s)
  go_enter Tryz.func35, Tryz.ntmps35
  go_wp2_with fail
  go_at_call 61
  refine (AV.out _).mono ?_
  rintro e w1 ⟨v, V, r, z, rfl, hov, htv, hrz⟩
  have HOV := Lib.hid hov
  have hp := HP.out
  rw [htv] at hp
  simp only at hp
  have HP1 := Lib.hid hp
  have hx := HX.out.kept hov.ke
  have HX1 := Lib.hid hx
  have HK1 := Lib.hid (((Kept.refl w).alloc #[.slice none 0 0, .slice none 0 0] 27).trans hov.ke)
  obtain ⟨A3, c3, rfl, h31, h32⟩ := hov.form
  clear htv hp
  by_cases hz : z = 0
  · have d1 : ((z : Int) != 0) = false := by simp [hz]
    have AD := Lib.hid (fun w => gtakeD r w (by omega))
    have HP2 := Lib.hid (show tcL s = if (tdsL r).2.2 ≠ 0 then ([], [], ⟨#[]⟩, (tdsL r).2.2) else formC V (tdsL r).1 (tdsL r).2.1 by rw [HP1.out, if_neg (by simp [hz])])
    clear hz hov hx
    go_wp2_with fail
    go_at_call 62
    refine (AD.out _).mono ?_
    rintro e w2 ⟨u, C, r2, z2, rfl, hod, htd, hr2⟩
    have HOD := Lib.hid hod
    have hp := HP2.out
    rw [htd] at hp
    simp only at hp
    have HP3 := Lib.hid hp
    have HX2 := Lib.hid (HX1.out.kept hod.ke)
    have HK2 := Lib.hid (HK1.out.trans hod.ke)
    obtain ⟨B4, k4, rfl, h41, h42, _⟩ := hod.form
    have HOV2 := Lib.hid (own_kept HOV.out.own hod.ke)
    have hsz1 := HOV.out.ke.2.2
    clear htd hp hod
    by_cases hz2 : z2 = 0
    · have d2 : ((z2 : Int) != 0) = false := by simp [hz2]
      have HP4 := Lib.hid (show tcL s = formC V C r2 by rw [HP3.out, if_neg (by simp [hz2])])
      obtain ⟨A5, c5, e5, hi5⟩ := Il.of_own HOV2.out
      obtain ⟨B5, k5, e6, hd5⟩ := Dl.of_own HOD.out.own
      simp only [Value.slice.injEq] at e5 e6
      obtain ⟨rfl, _, rfl⟩ := e5
      obtain ⟨rfl, _, rfl⟩ := e6
      have hkb := (Kept.refl w2).alloc #[.slice A3 V.length c3, .slice B4 C.length k4] 27
      by_cases hrc : RightC V C
      · have AR := Lib.hid (gright_any A3 V.length c3 V B4 C.length k4 C _ (hi5.kept hkb) (hd5.kept hkb) true ⟨fun _ => hrc, fun _ => rfl⟩)
        have HF := Lib.hid (show tcL s = (V, C, r2, 0) by rw [HP4.out]; unfold formC; rw [if_pos hrc])
        have HB := Lib.hid (Box2.new w2 (.slice A3 V.length c3) (.slice B4 C.length k4) 27)
        have HKB := Lib.hid hkb
        clear hrc hi5 hd5 hkb hz2
        go_wp2_with fail
        go_at_call 26
        refine AR.out.mono ?_
        rintro e w5 ⟨rfl, hk5⟩
        have hk6 := HKB.out.trans hk5
        have hx5 := HX2.out.kept hk6
        have e0 := hx5.c0; have e1 := hx5.c1; have ef0 := hx5.f 0; have ef1 := hx5.f 1
        have hb5 := HB.out.kept hk5
        have b0 := hb5.c0; have b1 := hb5.c1
        have HEND := Lib.hid (TakeC.ok (U := w.alloc (.cells #[.slice none 0 0, .slice none 0 0] 27)) HF.out (HK2.out.trans hk6) (Nat.le_refl _) (by simp) (own_kept HOV2.out hk6) (own_mono (own_kept HOD.out.own hk6) (fun g hg => Nat.le_trans hsz1 (HOD.out.own.lt g hg).1)))
        clear hx5 hb5 hk5 hk6
        go_wp2_with fail
        exact bodyPost_ret (by simp [results, Tryz.results35, go_sem, *]) rfl HEND.out
      · have AR := Lib.hid (gright_any A3 V.length c3 V B4 C.length k4 C _ (hi5.kept hkb) (hd5.kept hkb) false ⟨(fun h => by cases h), fun h => absurd h hrc⟩)
        have HF := Lib.hid (show tcL s = ([], [], ⟨#[]⟩, 3) by rw [HP4.out]; unfold formC; rw [if_neg hrc])
        have HKB := Lib.hid hkb
        clear hrc hi5 hd5 hkb hz2
        go_wp2_with fail
        go_at_call 26
        refine AR.out.mono ?_
        rintro e w5 ⟨rfl, hk5⟩
        have hk6 := HKB.out.trans hk5
        have hx5 := HX2.out.kept hk6
        have e0 := hx5.c0; have e1 := hx5.c1; have ef0 := hx5.f 0; have ef1 := hx5.f 1
        have HEND := Lib.hid (TakeC.err (w := w) (b := w.heap.size) HF.out (HK2.out.trans hk6) (Nat.le_refl _))
        clear hx5 hk5 hk6
        go_wp2_with fail
        exact bodyPost_ret (by simp [results, Tryz.results35, go_sem, *]) rfl HEND.out
    · have d2 : ((z2 : Int) != 0) = true := by simp [hz2]
      have HF := Lib.hid (show tcL s = ([], [], ⟨#[]⟩, z2) by rw [HP3.out, if_pos hz2])
      have e0 := HX2.out.c0; have e1 := HX2.out.c1; have ef0 := HX2.out.f 0; have ef1 := HX2.out.f 1
      clear hz2
      go_wp2_with fail
      exact bodyPost_ret (by simp [results, Tryz.results35, go_sem, *]) rfl (TakeC.err HF.out HK2.out (Nat.le_refl _))
  · have d1 : ((z : Int) != 0) = true := by simp [hz]
    have HF := Lib.hid (show tcL s = ([], [], ⟨#[]⟩, z) by rw [HP1.out, if_pos hz])
    have e0 := HX1.out.c0; have e1 := HX1.out.c1; have ef0 := HX1.out.f 0; have ef1 := HX1.out.f 1
    clear hz hov hx
    go_wp2_with fail
    exact bodyPost_ret (by simp [results, Tryz.results35, go_sem, *]) rfl (TakeC.err HF.out HK1.out (Nat.le_refl _))
end Go.Proofs.YtoggcpfogeoeaaaGreatDoor

