/-
  What is proved: package step's Turn (P14.4), called with any step of bounded lengths, returns the step that goes back; the world has new blocks at most.
  slices.Equal at pairs, as the library's text has it, and package table's Same of layer 13 (P13.8), called with any tables, tell whether they are the same; the world has new blocks at most.
  package step's Same (P14.7), called with any two steps, tells whether all is the same; the world has new blocks at most.
  the helpers of layer 11's laws that make the example's schema return it; the world has new blocks at most.
  package schema's Find of layer 11 (P11.4), called with any schema and path of bounded texts, returns the first field that the path matches; the world has new blocks at most.
-/
import Derived.Test.YtofnpifooaijcaaGreatM39
import Derived.Test.YtofnpifooaijcaaGreatM40
import Derived.Test.YtofnpifooaijcaaGreatKSTurn10
import Derived.Test.YtofnpifooaijcaaGreatM13
import Derived.Test.YtofnpifooaijcaaGreatM8
import Derived.Test.YtofnpifooaijcaaGreatM10
import Derived.Test.YtofnpifooaijcaaGreatM12
import Derived.Test.YtofnpifooaijcaaGreatM4
import Derived.Test.YtofnpifooaijcaaGreatM6
import Derived.Test.YtofnpifooaijcaaGreatM15
namespace Go.Proofs.YtofnpifooaijcaaGreat
open Go.RowKit
set_option linter.unusedVariables false
theorem sturn_any (A : Option Addr) (n c : Nat) (x : St) (w : World) (h : Pal w A n c x.T.L) (hxp : x.p.size ≤ 2000) (hnm : x.nm.size ≤ 2000) (hT : SzT x.T) :
    Calls Tryz.prog 18 #[.agg (cellS A n c x).toArray] w (TurnE x w) := by
  by_cases q1 : x.k = 1
  · exact sturn1 A n c x w h hxp hnm hT q1
  by_cases q2 : x.k = 2
  · exact sturn2 A n c x w h hxp hnm hT q2
  by_cases q3 : x.k = 3
  · exact sturn3 A n c x w h hxp hnm hT q3
  by_cases q10 : x.k = 10
  · exact sturn10 A n c x w h hxp hnm hT q10
  exact sturn0 A n c x w h hxp hnm hT q1 q2 q3 q10
theorem pa_yes {x y : Pa} (h : x = y) : (x.f.k == y.f.k) = true ∧ (x.f.n == y.f.n) = true ∧ (x.f.t.toList == y.f.t.toList) = true ∧ (x.t.k == y.t.k) = true ∧ (x.t.n == y.t.n) = true ∧ (x.t.t.toList == y.t.t.toList) = true := by subst h; simp
set_option maxRecDepth 100000 in
set_option maxHeartbeats 8000000 in
theorem equalP_any (A : Option Addr) (n c : Nat) (V : List Pa) (A' : Option Addr) (n' c' : Nat) (V' : List Pa) (w : World) (h : Pal w A n c V) (h' : Pal w A' n' c' V') (r : Bool) (hr : r = true ↔ V = V') :
    Calls Tryz.prog 125 #[.slice A n c, .slice A' n' c'] w fun e w' => e = .returned (.bool r) ∧ Kept w w' := by
  have hcap := h.cap.1; have hcap2 := h.cap.2; have hcap' := h'.cap.1; have hcap2' := h'.cap.2
  have HN := Lib.hid h.1; have HN' := Lib.hid h'.1
  have HI := Lib.hid h; have HI' := Lib.hid h'
  have HR := Lib.hid hr
  clear h h' hr
  by_cases hn : n = n'
  · subst hn
    go_enter Tryz.func125, Tryz.ntmps125
    go_wp2_with fail
    go_loopw [13] (fun i wr => ∃ j : Nat, j ≤ n ∧ i = .int .i64 j ∧ Kept w wr ∧ ∀ i, i < j → V[i]? = V'[i]?) (fun i _ => n - (intOf i).toNat)
    case atStart => exact ⟨0, Nat.zero_le _, rfl, Kept.refl _, fun i hi => absurd hi (by omega)⟩
    case round =>
      obtain ⟨j, hj, rfl, hkr, hall⟩ := hrel
      have HR2 := Lib.hid hkr
      have HA := Lib.hid hall
      clear hkr hall
      by_cases hlt : j < n
      · obtain ⟨g, o, x, rfl, hx, EX⟩ := (HI.out.kept HR2.out).get hlt
        obtain ⟨g', o', y, rfl, hy, EY⟩ := (HI'.out.kept HR2.out).get hlt
        have x0 := KExt.cell EX.c0; have y0 := KExt.cell EY.c0; have x1 := KExt.cell EX.c1; have y1 := KExt.cell EY.c1; have x2 := KExt.cell EX.c2; have y2 := KExt.cell EY.c2; have x3 := KExt.cell EX.c3; have y3 := KExt.cell EY.c3; have x4 := KExt.cell EX.c4; have y4 := KExt.cell EY.c4; have x5 := KExt.cell EX.c5; have y5 := KExt.cell EY.c5
        have HY := Lib.hid hy
        have HX := Lib.hid hx
        clear hy hx EY EX
        by_cases hq : x = y
        · have HN2 := Lib.hid (show ∀ i, i < j + 1 → V[i]? = V'[i]? from fun i hi => by
            rcases Nat.lt_or_ge i j with h | h
            · exact HA.out i h
            · obtain rfl : i = j := by omega
              rw [HY.out, HX.out, hq])
          obtain ⟨d0, d1, d2, d3, d4, d5⟩ := pa_yes hq
          clear hq
          go_wp2_with fail
          refine region_kept _ (by kernel_rfl) (by kernel_rfl) (Kept.refl _) ?_
          repeat (go_big_quiet_step (fail))
          refine wpQuiet_nil ?_
          intro G
          clear x0 x1 x2 x3 x4 x5 y0 y1 y2 y3 y4 y5
          go_wp2_with fail
          go_roundw
          case rel => exact ⟨j + 1, hlt, by go_num, HR2.out.trans G.g, HN2.out⟩
          case measure => simp [intOf]; omega
        · have HF := Lib.hid (show false = r by
            rw [eq_comm, ← Bool.not_eq_true, HR.out]
            rintro rfl
            exact hq (Option.some.inj (HX.out.symm.trans HY.out)))
          rcases pa_ne hq with q | ⟨q, q2⟩
          · rcases va_ne q with d0 | ⟨d0, d1⟩ | ⟨d0, d1, d2⟩ <;>
            · clear hq q
              go_wp2_with fail
              refine region_kept _ (by kernel_rfl) (by kernel_rfl) (Kept.refl _) ?_
              repeat (go_big_quiet_step (fail))
              refine wpQuiet_nil ?_
              intro G
              clear x0 x1 x2 x3 x4 x5 y0 y1 y2 y3 y4 y5
              go_wp2_with fail
              go_ret
              exact ⟨ret_bool HF.out, HR2.out.trans G.g⟩
          · obtain ⟨d0, d1, d2⟩ := va_eq q
            rcases va_ne q2 with d3 | ⟨d3, d4⟩ | ⟨d3, d4, d5⟩ <;>
            · clear hq q q2
              go_wp2_with fail
              refine region_kept _ (by kernel_rfl) (by kernel_rfl) (Kept.refl _) ?_
              repeat (go_big_quiet_step (fail))
              refine wpQuiet_nil ?_
              intro G
              clear x0 x1 x2 x3 x4 x5 y0 y1 y2 y3 y4 y5
              go_wp2_with fail
              go_ret
              exact ⟨ret_bool HF.out, HR2.out.trans G.g⟩
      · obtain rfl : j = n := by omega
        have HF := Lib.hid (show true = r by
          rw [eq_comm, HR.out]
          refine List.ext_getElem? fun i => ?_
          rcases Nat.lt_or_ge i j with h | h
          · exact HA.out i h
          · rw [List.getElem?_eq_none (by have := HN.out; omega), List.getElem?_eq_none (by have := HN'.out; omega)])
        go_wp2_with fail
        go_ret
        exact ⟨ret_bool HF.out, HR2.out⟩
  · have d1 : ((n : Int) != n') = true := by simp; omega
    have HF := Lib.hid (show false = r by
      rw [eq_comm, ← Bool.not_eq_true, HR.out]
      rintro rfl
      exact hn (HN.out.trans HN'.out.symm))
    clear hn
    go_enter Tryz.func125, Tryz.ntmps125
    go_wp2_with fail
    go_ret
    exact ⟨ret_bool HF.out, Kept.refl _⟩
set_option maxRecDepth 100000 in
set_option maxHeartbeats 8000000 in
theorem htsame_any (A : Option Addr) (n c : Nat) (T : Tb) (A' : Option Addr) (n' c' : Nat) (S : Tb) (w : World) (h : Pal w A n c T.L) (h' : Pal w A' n' c' S.L) (r : Bool) (hr : r = true ↔ T = S) :
    Calls Tryz.prog 76 #[.agg #[.slice A n c, .bool T.keep, .int .i64 T.d.k, .int .i64 T.d.n, .string T.d.t, .int .i64 T.b.k, .int .i64 T.b.n, .string T.b.t, .bool T.tu], .agg #[.slice A' n' c', .bool S.keep, .int .i64 S.d.k, .int .i64 S.d.n, .string S.d.t, .int .i64 S.b.k, .int .i64 S.b.n, .string S.b.t, .bool S.tu]] w fun e w' => e = .returned (.bool r) ∧ Kept w w' := by
  have hk := ((Kept.refl w).alloc #[.slice A n c, .bool T.keep, .int .i64 T.d.k, .int .i64 T.d.n, .string T.d.t, .int .i64 T.b.k, .int .i64 T.b.n, .string T.b.t, .bool T.tu] 31).alloc #[.slice A' n' c', .bool S.keep, .int .i64 S.d.k, .int .i64 S.d.n, .string S.d.t, .int .i64 S.b.k, .int .i64 S.b.n, .string S.b.t, .bool S.tu] 31
  have HR := Lib.hid hr
  have hb := (TabB.new w A n c T 31).kept ((Kept.refl _).alloc #[.slice A' n' c', .bool S.keep, .int .i64 S.d.k, .int .i64 S.d.n, .string S.d.t, .int .i64 S.b.k, .int .i64 S.b.n, .string S.b.t, .bool S.tu] 31)
  have hb' := TabB.new (w.alloc (.cells #[.slice A n c, .bool T.keep, .int .i64 T.d.k, .int .i64 T.d.n, .string T.d.t, .int .i64 T.b.k, .int .i64 T.b.n, .string T.b.t, .bool T.tu] 31)) A' n' c' S 31
  rw [show (w.alloc (.cells #[.slice A n c, .bool T.keep, .int .i64 T.d.k, .int .i64 T.d.n, .string T.d.t, .int .i64 T.b.k, .int .i64 T.b.n, .string T.b.t, .bool T.tu] 31)).heap.size = w.heap.size + 1 by simp] at hb'
  have hi := h.kept hk; have hi' := h'.kept hk
  obtain ⟨U, hU⟩ : ∃ U, (w.alloc (.cells #[.slice A n c, .bool T.keep, .int .i64 T.d.k, .int .i64 T.d.n, .string T.d.t, .int .i64 T.b.k, .int .i64 T.b.n, .string T.b.t, .bool T.tu] 31)).alloc (.cells #[.slice A' n' c', .bool S.keep, .int .i64 S.d.k, .int .i64 S.d.n, .string S.d.t, .int .i64 S.b.k, .int .i64 S.b.n, .string S.b.t, .bool S.tu] 31) = U := ⟨_, rfl⟩
  rw [hU] at hi hi' hb hb' hk
  obtain ⟨z, hz⟩ := bool_of (T.L = S.L)
  have AE := Lib.hid (equalP_any A n c T.L A' n' c' S.L U hi hi' z hz)
  have HUU := Lib.hid hU; have HB := Lib.hid hb; have HB' := Lib.hid hb'; have HK := Lib.hid hk; have HZ := Lib.hid hz
  have t0 := HB.out.c0; have s0 := HB'.out.c0
  clear h h' hr hk hb hb' hi hi' hU hz
  go_enter Tryz.func76, Tryz.ntmps76
  go_wp2_with fail
  rw [HUU.out]
  go_wp2_with fail
  go_at_call 125
  refine AE.out.mono ?_
  rintro e w1 ⟨rfl, hk1⟩
  replace HK := Lib.hid (HK.out.trans hk1); replace HB := Lib.hid (HB.out.kept hk1); replace HB' := Lib.hid (HB'.out.kept hk1)
  clear hk1 t0 s0
  cases z with
  | false =>
    have HF := Lib.hid (show false = r by rw [eq_comm, ← Bool.not_eq_true, HR.out]; rintro rfl; have := HZ.out.2 rfl; cases this)
    go_wp2_with fail
    go_ret
    exact ⟨ret_bool HF.out, HK.out⟩
  | true =>
    have t1 := HB.out.c1; have s1 := HB'.out.c1
    have t2 := HB.out.c2; have s2 := HB'.out.c2
    have t3 := HB.out.c3; have s3 := HB'.out.c3
    have t4 := HB.out.c4; have s4 := HB'.out.c4
    have t5 := HB.out.c5; have s5 := HB'.out.c5
    have t6 := HB.out.c6; have s6 := HB'.out.c6
    have t7 := HB.out.c7; have s7 := HB'.out.c7
    have t8 := HB.out.c8; have s8 := HB'.out.c8
    by_cases qa : T.keep = S.keep
    · have HEqa := Lib.hid qa
      obtain ⟨qaa, qab⟩ := bool_eq qa
      clear qa
      by_cases qd : T.d = S.d
      · have HEqd := Lib.hid qd
        obtain ⟨qd0, qd1, qd2⟩ := va_eq qd
        clear qd
        by_cases qb : T.b = S.b
        · have HEqb := Lib.hid qb
          obtain ⟨qb0, qb1, qb2⟩ := va_eq qb
          clear qb
          by_cases qu : T.tu = S.tu
          · have HEqu := Lib.hid qu
            obtain ⟨qua, qub⟩ := bool_eq qu
            clear qu
            have HF := Lib.hid (show true = r from (HR.out.2 (tb_ext (HZ.out.1 rfl) HEqa.out HEqd.out HEqb.out HEqu.out)).symm)
            go_wp2_with fail
            go_ret
            exact ⟨ret_bool HF.out, HK.out⟩
          · have HF := Lib.hid (show false = r by rw [eq_comm, ← Bool.not_eq_true, HR.out]; rintro rfl; exact qu rfl)
            obtain ⟨qua, qub⟩ := bool_ne qu
            clear qu
            go_wp2_with fail
            go_ret
            exact ⟨ret_bool HF.out, HK.out⟩
        · have HF := Lib.hid (show false = r by rw [eq_comm, ← Bool.not_eq_true, HR.out]; rintro rfl; exact qb rfl)
          rcases va_ne qb with qb0 | ⟨qb0, qb1⟩ | ⟨qb0, qb1, qb2⟩ <;> clear qb
          · go_wp2_with fail
            go_ret
            exact ⟨ret_bool HF.out, HK.out⟩
          · go_wp2_with fail
            go_ret
            exact ⟨ret_bool HF.out, HK.out⟩
          · go_wp2_with fail
            go_ret
            exact ⟨ret_bool HF.out, HK.out⟩
      · have HF := Lib.hid (show false = r by rw [eq_comm, ← Bool.not_eq_true, HR.out]; rintro rfl; exact qd rfl)
        rcases va_ne qd with qd0 | ⟨qd0, qd1⟩ | ⟨qd0, qd1, qd2⟩ <;> clear qd
        · go_wp2_with fail
          go_ret
          exact ⟨ret_bool HF.out, HK.out⟩
        · go_wp2_with fail
          go_ret
          exact ⟨ret_bool HF.out, HK.out⟩
        · go_wp2_with fail
          go_ret
          exact ⟨ret_bool HF.out, HK.out⟩
    · have HF := Lib.hid (show false = r by rw [eq_comm, ← Bool.not_eq_true, HR.out]; rintro rfl; exact qa rfl)
      obtain ⟨qaa, qab⟩ := bool_ne qa
      clear qa
      go_wp2_with fail
      go_ret
      exact ⟨ret_bool HF.out, HK.out⟩
set_option maxRecDepth 100000 in
set_option maxHeartbeats 16000000 in
theorem ssameS_any (A : Option Addr) (n c : Nat) (x : St) (A' : Option Addr) (n' c' : Nat) (y : St) (w : World) (h : Pal w A n c x.T.L) (h' : Pal w A' n' c' y.T.L) (r : Bool) (hr : r = true ↔ x = y) :
    Calls Tryz.prog 22 #[.agg (cellS A n c x).toArray, .agg (cellS A' n' c' y).toArray] w fun e w' => e = .returned (.bool r) ∧ Kept w w' := by
  have hk := ((Kept.refl w).alloc (cellS A n c x).toArray 33).alloc (cellS A' n' c' y).toArray 33
  have hs := (StB.new w A n c x 33).kept ((Kept.refl _).alloc (cellS A' n' c' y).toArray 33)
  have hs' := StB.new (w.alloc (.cells (cellS A n c x).toArray 33)) A' n' c' y 33
  rw [show (w.alloc (.cells (cellS A n c x).toArray 33)).heap.size = w.heap.size + 1 by simp] at hs'
  obtain ⟨U, hU⟩ : ∃ U, (w.alloc (.cells (cellS A n c x).toArray 33)).alloc (.cells (cellS A' n' c' y).toArray 33) = U := ⟨_, rfl⟩
  rw [hU] at hk hs hs'
  obtain ⟨q, hq⟩ := bool_of (x.T = y.T)
  have AT := Lib.hid (fun w h h' => htsame_any A n c x.T A' n' c' y.T w h h' q hq)
  have HQ := Lib.hid hq
  have HK := Lib.hid hk; have HS := Lib.hid hs; have HS' := Lib.hid hs'; have HUU := Lib.hid hU; have HP := Lib.hid (h.kept hk); have HP' := Lib.hid (h'.kept hk); have HR := Lib.hid hr
  clear hk hs hs' hU h h' hr hq
  by_cases g0 : x.k = y.k
  · by_cases g1 : x.p = y.p
    · by_cases g2 : x.nm = y.nm
      · by_cases g3 : x.f = y.f
        · by_cases g4 : x.d = y.d
          · by_cases g5 : x.a = y.a
            · by_cases g6 : x.b = y.b
              · have HF := Lib.hid (show q = r by
                  rw [Bool.eq_iff_iff, HR.out, HQ.out]
                  exact ⟨fun e => St.ext' g0 g1 g2 g3 g4 g5 g6 e, fun e => by rw [e]⟩)
                have E0 : (x.k == y.k) = true := by rw [g0]; simp
                have E1 := txt_eqK g1
                have E2 := txt_eqK g2
                obtain ⟨E30, E31, E32, E33, E34, E35⟩ := fd_eq g3
                obtain ⟨E40, E41, E42⟩ := va_eq g4
                have E5 : (x.a == y.a) = true := by rw [g5]; simp
                have E6 : (x.b == y.b) = true := by rw [g6]; simp
                clear g0 g1 g2 g3 g4 g5 g6
                have c0 := HS.out.c0; have d0 := HS'.out.c0; have c1 := HS.out.c1; have d1 := HS'.out.c1; have c2 := HS.out.c2; have d2 := HS'.out.c2; have c3 := HS.out.c3; have d3 := HS'.out.c3; have c4 := HS.out.c4; have d4 := HS'.out.c4; have c5 := HS.out.c5; have d5 := HS'.out.c5; have c6 := HS.out.c6; have d6 := HS'.out.c6; have c7 := HS.out.c7; have d7 := HS'.out.c7; have c8 := HS.out.c8; have d8 := HS'.out.c8; have c9 := HS.out.c9; have d9 := HS'.out.c9; have c10 := HS.out.c10; have d10 := HS'.out.c10; have c11 := HS.out.c11; have d11 := HS'.out.c11; have c12 := HS.out.c12; have d12 := HS'.out.c12; have c13 := HS.out.c13; have d13 := HS'.out.c13; have c14 := HS.out.c14; have d14 := HS'.out.c14; have c15 := HS.out.c15; have d15 := HS'.out.c15; have c16 := HS.out.c16; have d16 := HS'.out.c16; have c17 := HS.out.c17; have d17 := HS'.out.c17; have c18 := HS.out.c18; have d18 := HS'.out.c18; have c19 := HS.out.c19; have d19 := HS'.out.c19; have c20 := HS.out.c20; have d20 := HS'.out.c20; have c21 := HS.out.c21; have d21 := HS'.out.c21; have c22 := HS.out.c22; have d22 := HS'.out.c22
                go_enter Tryz.func22, Tryz.ntmps22
                go_wp2_with (rw [HUU.out])
                go_at_call 76
                refine (AT.out _ HP.out HP'.out).mono ?_
                rintro e u2 ⟨rfl, hk2⟩
                replace HK := Lib.hid (HK.out.trans hk2)
                clear hk2
                go_wp2_with fail
                go_ret
                exact ⟨ret_bool HF.out, HK.out⟩
              · have HF := Lib.hid (show false = r by rw [eq_comm, ← Bool.not_eq_true, HR.out]; exact fun e => g6 (by rw [e]))
                have E0 : (x.k == y.k) = true := by rw [g0]; simp
                have E1 := txt_eqK g1
                have E2 := txt_eqK g2
                obtain ⟨E30, E31, E32, E33, E34, E35⟩ := fd_eq g3
                obtain ⟨E40, E41, E42⟩ := va_eq g4
                have E5 : (x.a == y.a) = true := by rw [g5]; simp
                have E6 : (x.b == y.b) = false := by simpa using g6
                clear g0 g1 g2 g3 g4 g5 g6
                have c0 := HS.out.c0; have d0 := HS'.out.c0; have c1 := HS.out.c1; have d1 := HS'.out.c1; have c2 := HS.out.c2; have d2 := HS'.out.c2; have c3 := HS.out.c3; have d3 := HS'.out.c3; have c4 := HS.out.c4; have d4 := HS'.out.c4; have c5 := HS.out.c5; have d5 := HS'.out.c5; have c6 := HS.out.c6; have d6 := HS'.out.c6; have c7 := HS.out.c7; have d7 := HS'.out.c7; have c8 := HS.out.c8; have d8 := HS'.out.c8; have c9 := HS.out.c9; have d9 := HS'.out.c9; have c10 := HS.out.c10; have d10 := HS'.out.c10; have c11 := HS.out.c11; have d11 := HS'.out.c11; have c12 := HS.out.c12; have d12 := HS'.out.c12; have c13 := HS.out.c13; have d13 := HS'.out.c13
                go_enter Tryz.func22, Tryz.ntmps22
                go_wp2_with (rw [HUU.out])
                go_ret
                exact ⟨ret_bool HF.out, HK.out⟩
            · have HF := Lib.hid (show false = r by rw [eq_comm, ← Bool.not_eq_true, HR.out]; exact fun e => g5 (by rw [e]))
              have E0 : (x.k == y.k) = true := by rw [g0]; simp
              have E1 := txt_eqK g1
              have E2 := txt_eqK g2
              obtain ⟨E30, E31, E32, E33, E34, E35⟩ := fd_eq g3
              obtain ⟨E40, E41, E42⟩ := va_eq g4
              have E5 : (x.a == y.a) = false := by simpa using g5
              clear g0 g1 g2 g3 g4 g5
              have c0 := HS.out.c0; have d0 := HS'.out.c0; have c1 := HS.out.c1; have d1 := HS'.out.c1; have c2 := HS.out.c2; have d2 := HS'.out.c2; have c3 := HS.out.c3; have d3 := HS'.out.c3; have c4 := HS.out.c4; have d4 := HS'.out.c4; have c5 := HS.out.c5; have d5 := HS'.out.c5; have c6 := HS.out.c6; have d6 := HS'.out.c6; have c7 := HS.out.c7; have d7 := HS'.out.c7; have c8 := HS.out.c8; have d8 := HS'.out.c8; have c9 := HS.out.c9; have d9 := HS'.out.c9; have c10 := HS.out.c10; have d10 := HS'.out.c10; have c11 := HS.out.c11; have d11 := HS'.out.c11; have c12 := HS.out.c12; have d12 := HS'.out.c12
              go_enter Tryz.func22, Tryz.ntmps22
              go_wp2_with (rw [HUU.out])
              go_ret
              exact ⟨ret_bool HF.out, HK.out⟩
          · have HF := Lib.hid (show false = r by rw [eq_comm, ← Bool.not_eq_true, HR.out]; exact fun e => g4 (by rw [e]))
            have E0 : (x.k == y.k) = true := by rw [g0]; simp
            have E1 := txt_eqK g1
            have E2 := txt_eqK g2
            obtain ⟨E30, E31, E32, E33, E34, E35⟩ := fd_eq g3
            have c0 := HS.out.c0; have d0 := HS'.out.c0; have c1 := HS.out.c1; have d1 := HS'.out.c1; have c2 := HS.out.c2; have d2 := HS'.out.c2; have c3 := HS.out.c3; have d3 := HS'.out.c3; have c4 := HS.out.c4; have d4 := HS'.out.c4; have c5 := HS.out.c5; have d5 := HS'.out.c5; have c6 := HS.out.c6; have d6 := HS'.out.c6; have c7 := HS.out.c7; have d7 := HS'.out.c7; have c8 := HS.out.c8; have d8 := HS'.out.c8; have c9 := HS.out.c9; have d9 := HS'.out.c9; have c10 := HS.out.c10; have d10 := HS'.out.c10; have c11 := HS.out.c11; have d11 := HS'.out.c11
            rcases va_ne g4 with E40 | ⟨E40, E41⟩ | ⟨E40, E41, E42⟩
            all_goals
              clear g0 g1 g2 g3 g4
              go_enter Tryz.func22, Tryz.ntmps22
              go_wp2_with (rw [HUU.out])
              go_ret
              exact ⟨ret_bool HF.out, HK.out⟩
        · have HF := Lib.hid (show false = r by rw [eq_comm, ← Bool.not_eq_true, HR.out]; exact fun e => g3 (by rw [e]))
          have E0 : (x.k == y.k) = true := by rw [g0]; simp
          have E1 := txt_eqK g1
          have E2 := txt_eqK g2
          have c0 := HS.out.c0; have d0 := HS'.out.c0; have c1 := HS.out.c1; have d1 := HS'.out.c1; have c2 := HS.out.c2; have d2 := HS'.out.c2; have c3 := HS.out.c3; have d3 := HS'.out.c3; have c4 := HS.out.c4; have d4 := HS'.out.c4; have c5 := HS.out.c5; have d5 := HS'.out.c5; have c6 := HS.out.c6; have d6 := HS'.out.c6; have c7 := HS.out.c7; have d7 := HS'.out.c7; have c8 := HS.out.c8; have d8 := HS'.out.c8
          rcases fd_ne g3 with E30 | ⟨E30, E31⟩ | ⟨E30, E31, E32⟩ | ⟨E30, E31, E32, E33⟩ | ⟨E30, E31, E32, E33, E34⟩ | ⟨E30, E31, E32, E33, E34, E35⟩
          all_goals
            clear g0 g1 g2 g3
            go_enter Tryz.func22, Tryz.ntmps22
            go_wp2_with (rw [HUU.out])
            go_ret
            exact ⟨ret_bool HF.out, HK.out⟩
      · have HF := Lib.hid (show false = r by rw [eq_comm, ← Bool.not_eq_true, HR.out]; exact fun e => g2 (by rw [e]))
        have E0 : (x.k == y.k) = true := by rw [g0]; simp
        have E1 := txt_eqK g1
        have E2 := txt_neK g2
        clear g0 g1 g2
        have c0 := HS.out.c0; have d0 := HS'.out.c0; have c1 := HS.out.c1; have d1 := HS'.out.c1; have c2 := HS.out.c2; have d2 := HS'.out.c2
        go_enter Tryz.func22, Tryz.ntmps22
        go_wp2_with (rw [HUU.out])
        go_ret
        exact ⟨ret_bool HF.out, HK.out⟩
    · have HF := Lib.hid (show false = r by rw [eq_comm, ← Bool.not_eq_true, HR.out]; exact fun e => g1 (by rw [e]))
      have E0 : (x.k == y.k) = true := by rw [g0]; simp
      have E1 := txt_neK g1
      clear g0 g1
      have c0 := HS.out.c0; have d0 := HS'.out.c0; have c1 := HS.out.c1; have d1 := HS'.out.c1
      go_enter Tryz.func22, Tryz.ntmps22
      go_wp2_with (rw [HUU.out])
      go_ret
      exact ⟨ret_bool HF.out, HK.out⟩
  · have HF := Lib.hid (show false = r by rw [eq_comm, ← Bool.not_eq_true, HR.out]; exact fun e => g0 (by rw [e]))
    have E0 : (x.k == y.k) = false := by simpa using g0
    clear g0
    have c0 := HS.out.c0; have d0 := HS'.out.c0
    go_enter Tryz.func22, Tryz.ntmps22
    go_wp2_with (rw [HUU.out])
    go_ret
    exact ⟨ret_bool HF.out, HK.out⟩
theorem fl_new (w : World) (L : List Fd) (t : TypeId) (cs : Array Value) (h : cs = (flatF L).toArray) (hl : L.length ≤ maxLen) : Fl (w.alloc (.cells cs t)) (some ⟨w.heap.size, 0, none⟩) L.length L.length L := by
  refine ⟨rfl, Nat.le_refl _, hl, (fun h => by cases h), .inr ⟨w.heap.size, 0, rfl, fun j x hj => FdO.of_flat fun i u hu => ?_⟩⟩
  have hi : i < 6 := (List.getElem?_eq_some_iff.1 hu).1
  have hg := flatF_get L j x hj i hi
  rw [show 0 + j * 6 + i = j * 6 + i by omega]
  exact (Kept.refl _).box (j * 6 + i) u (by rw [h, List.getElem?_toArray, hg, hu])
set_option maxRecDepth 100000 in
set_option maxHeartbeats 4000000 in
theorem freg_any (p : ByteArray) (k : Int) (w : World) :
    Calls Tryz.prog 80 #[.string p, .int .i64 k] w fun e w' => e = .returned (.agg #[.string p, .int .i64 1, .int .i64 k, .int .i64 k, .int .i64 0, .string ⟨#[]⟩]) ∧ Kept w w' := by
  have K0 := Lib.hid ((Kept.refl w).alloc #[.string p, .int .i64 1, .int .i64 k, .int .i64 k, .int .i64 0, .string ⟨#[]⟩] 28)
  go_enter Tryz.func80, Tryz.ntmps80
  go_wp2
  refine bodyPost_ret (by simp [results, Tryz.results80, go_sem, *]) rfl ⟨rfl, ?_⟩
  first | exact K0.out | exact ((((((((Kept.refl w).alloc #[.string ⟨#[]⟩, .int .i64 0, .int .i64 0, .int .i64 0, .int .i64 0, .string ⟨#[]⟩] 28).setCell (Nat.le_refl _) _).setCell (Nat.le_refl _) _).setCell (Nat.le_refl _) _).setCell (Nat.le_refl _) _).setCell (Nat.le_refl _) _).setCell (Nat.le_refl _) _)
set_option maxRecDepth 100000 in
set_option maxHeartbeats 4000000 in
theorem fset_any (p : ByteArray) (k : Int) (w : World) :
    Calls Tryz.prog 81 #[.string p, .int .i64 k] w fun e w' => e = .returned (.agg #[.string p, .int .i64 2, .int .i64 k, .int .i64 0, .int .i64 0, .string ⟨#[]⟩]) ∧ Kept w w' := by
  have K0 := Lib.hid ((Kept.refl w).alloc #[.string p, .int .i64 2, .int .i64 k, .int .i64 0, .int .i64 0, .string ⟨#[]⟩] 28)
  go_enter Tryz.func81, Tryz.ntmps81
  go_wp2
  refine bodyPost_ret (by simp [results, Tryz.results81, go_sem, *]) rfl ⟨rfl, ?_⟩
  first | exact K0.out | exact ((((((((Kept.refl w).alloc #[.string ⟨#[]⟩, .int .i64 0, .int .i64 0, .int .i64 0, .int .i64 0, .string ⟨#[]⟩] 28).setCell (Nat.le_refl _) _).setCell (Nat.le_refl _) _).setCell (Nat.le_refl _) _).setCell (Nat.le_refl _) _).setCell (Nat.le_refl _) _).setCell (Nat.le_refl _) _)
set_option maxRecDepth 100000 in
set_option maxHeartbeats 4000000 in
theorem fctr_any (p : ByteArray) (w : World) :
    Calls Tryz.prog 28 #[.string p] w fun e w' => e = .returned (.agg #[.string p, .int .i64 3, .int .i64 1, .int .i64 0, .int .i64 0, .string ⟨#[]⟩]) ∧ Kept w w' := by
  have K0 := Lib.hid ((Kept.refl w).alloc #[.string p, .int .i64 3, .int .i64 1, .int .i64 0, .int .i64 0, .string ⟨#[]⟩] 28)
  go_enter Tryz.func28, Tryz.ntmps28
  go_wp2
  refine bodyPost_ret (by simp [results, Tryz.results28, go_sem, *]) rfl ⟨rfl, ?_⟩
  first | exact K0.out | exact ((((((((Kept.refl w).alloc #[.string ⟨#[]⟩, .int .i64 0, .int .i64 0, .int .i64 0, .int .i64 0, .string ⟨#[]⟩] 28).setCell (Nat.le_refl _) _).setCell (Nat.le_refl _) _).setCell (Nat.le_refl _) _).setCell (Nat.le_refl _) _).setCell (Nat.le_refl _) _).setCell (Nat.le_refl _) _)
set_option maxRecDepth 100000 in
set_option maxHeartbeats 4000000 in
theorem fsmall_any (w : World) :
    Calls Tryz.prog 26 #[] w fun e w' => ∃ b, e = .returned (.agg #[.slice (some ⟨b, 0, none⟩) 4 4]) ∧ Fl w' (some ⟨b, 0, none⟩) 4 4 smL ∧ Kept w w' := by
  have HRES := Lib.hid (Box1.new w (.slice none 0 0) 24)
  have HW := Lib.hid ((Kept.refl w).alloc #[.slice none 0 0] 24)
  go_enter Tryz.func26, Tryz.ntmps26
  go_wp2_with fail
  go_at_call 80
  refine (freg_any ⟨#[97, 47, 120]⟩ 1 _).mono ?_
  rintro e v0 ⟨rfl, hk⟩
  replace HW := Lib.hid (HW.out.trans hk); replace HRES := Lib.hid (HRES.out.kept hk)
  clear hk
  go_wp2_with fail
  go_at_call 81
  refine (fset_any ⟨#[97, 47, 121]⟩ 2 _).mono ?_
  rintro e v1 ⟨rfl, hk⟩
  replace HW := Lib.hid (HW.out.trans hk); replace HRES := Lib.hid (HRES.out.kept hk)
  clear hk
  go_wp2_with fail
  go_at_call 28
  refine (fctr_any ⟨#[99]⟩ _).mono ?_
  rintro e v2 ⟨rfl, hk⟩
  replace HW := Lib.hid (HW.out.trans hk); replace HRES := Lib.hid (HRES.out.kept hk)
  clear hk
  go_wp2_with fail
  go_at_call 80
  refine (freg_any ⟨#[109, 47, 42, 47, 116]⟩ 2 _).mono ?_
  rintro e v3 ⟨rfl, hk⟩
  replace HW := Lib.hid (HW.out.trans hk); replace HRES := Lib.hid (HRES.out.kept hk)
  clear hk
  have hka := (Kept.refl v3).alloc #[.string ⟨#[97, 47, 120]⟩, .int .i64 1, .int .i64 1, .int .i64 1, .int .i64 0, .string ⟨#[]⟩, .string ⟨#[97, 47, 121]⟩, .int .i64 2, .int .i64 2, .int .i64 0, .int .i64 0, .string ⟨#[]⟩, .string ⟨#[99]⟩, .int .i64 3, .int .i64 1, .int .i64 0, .int .i64 0, .string ⟨#[]⟩, .string ⟨#[109, 47, 42, 47, 116]⟩, .int .i64 1, .int .i64 2, .int .i64 2, .int .i64 0, .string ⟨#[]⟩] 28
  have hf := fl_new v3 smL 28 #[.string ⟨#[97, 47, 120]⟩, .int .i64 1, .int .i64 1, .int .i64 1, .int .i64 0, .string ⟨#[]⟩, .string ⟨#[97, 47, 121]⟩, .int .i64 2, .int .i64 2, .int .i64 0, .int .i64 0, .string ⟨#[]⟩, .string ⟨#[99]⟩, .int .i64 3, .int .i64 1, .int .i64 0, .int .i64 0, .string ⟨#[]⟩, .string ⟨#[109, 47, 42, 47, 116]⟩, .int .i64 1, .int .i64 2, .int .i64 2, .int .i64 0, .string ⟨#[]⟩] rfl (by simp [smL, maxLen])
  have hr := HRES.out.kept hka
  have rf := hr.f
  have r0 := hr.c0
  have HF := Lib.hid (show ∃ b, Ending.returned (.agg #[.slice (some ⟨v3.heap.size, 0, none⟩) 4 4]) = .returned (.agg #[.slice (some ⟨b, 0, none⟩) 4 4]) ∧ Fl _ (some ⟨b, 0, none⟩) 4 4 smL ∧ Kept w _ from ⟨v3.heap.size, rfl, hr.fl (.slice (some ⟨v3.heap.size, 0, none⟩) 4 4) hf, (HW.out.trans hka).setCell (a := ⟨w.heap.size, 0, none⟩) (Nat.le_refl _) (.slice (some ⟨v3.heap.size, 0, none⟩) 4 4)⟩)
  clear hka hf hr
  go_wp2_with fail
  exact bodyPost_ret (by simp [results, Tryz.results26, go_sem, *]) rfl HF.out
set_option maxRecDepth 100000 in
set_option maxHeartbeats 8000000 in
theorem sfind_any (A : Option Addr) (n c : Nat) (L : List Fd) (p : ByteArray) (w : World) (h : Fl w A n c L) (hw : ∀ x ∈ L, x.p.size ≤ 1099511627776) (hp : p.size ≤ 1099511627776) (y : Fd) (z : Bool) (hyz : findR L p = (y, z)) :
    Calls Tryz.prog 29 #[.agg #[.slice A n c], .string p] w fun e w' => e = .returned (.tuple #[.agg #[.string y.p, .int .i64 y.k, .int .i64 y.t, .int .i64 y.vk, .int .i64 y.vn, .string y.vt], .bool z]) ∧ Kept w w' := by
  have hk := ((Kept.refl w).alloc #[.slice A n c] 24).alloc #[.string ⟨#[]⟩, .int .i64 0, .int .i64 0, .int .i64 0, .int .i64 0, .string ⟨#[]⟩] 28
  have hcap := h.cap.1; have hcap2 := h.cap.2
  have HNL := Lib.hid h.1; have HSZ := Lib.hid hw; have HP := Lib.hid hp; have HY := Lib.hid hyz
  have HB := Lib.hid ((Box1.new w (.slice A n c) 24).kept ((Kept.refl _).alloc #[.string ⟨#[]⟩, .int .i64 0, .int .i64 0, .int .i64 0, .int .i64 0, .string ⟨#[]⟩] 28))
  have hr := FdB.new (w.alloc (.cells #[.slice A n c] 24)) .none 28
  simp only [Fd.none] at hr
  rw [show (w.alloc (.cells #[.slice A n c] 24)).heap.size = w.heap.size + 1 by simp] at hr
  have HH := Lib.hid (h.kept hk)
  obtain ⟨U, hU⟩ : ∃ U, (w.alloc (.cells #[.slice A n c] 24)).alloc (.cells #[.string ⟨#[]⟩, .int .i64 0, .int .i64 0, .int .i64 0, .int .i64 0, .string ⟨#[]⟩] 28) = U := ⟨_, rfl⟩
  rw [hU] at hk HB HH hr
  have HK := Lib.hid hk; have HUU := Lib.hid hU; have HRES := Lib.hid hr
  have d0 := HB.out.c0
  clear h hw hp hyz hk hU hr
  go_enter Tryz.func29, Tryz.ntmps29
  go_wp2_with fail
  rw [HUU.out]
  go_wp2_with fail
  clear d0
  go_loopw [11] (fun i wr => ∃ t : Nat, t ≤ n ∧ i = .int .i64 t ∧ Kept U wr ∧ ∀ x ∈ L.take t, L4.matS p x.p = false) (fun i _ => n - (intOf i).toNat)
  case atStart => exact ⟨0, Nat.zero_le _, rfl, Kept.refl _, fun x hx => by simp at hx⟩
  case round =>
    obtain ⟨t, ht, rfl, hkr, hall⟩ := hrel
    have HKR := Lib.hid hkr; have HA := Lib.hid hall
    clear hkr hall
    by_cases hlt : t < n
    · obtain ⟨g, o, x, rfl, hx, EX⟩ := (HH.out.kept HKR.out).get hlt
      have x0 := EX.c0; have x1 := EX.c1; have x2 := EX.c2; have x3 := EX.c3; have x4 := EX.c4; have x5 := EX.c5
      have HE := Lib.hid (FdB.new wr x 28)
      have z0 := HE.out.c0
      have HXX := Lib.hid hx
      have hka := (Kept.refl wr).alloc #[.string x.p, .int .i64 x.k, .int .i64 x.t, .int .i64 x.vk, .int .i64 x.vn, .string x.vt] 28
      have HKA := Lib.hid hka
      obtain ⟨b, hb⟩ : ∃ b, L4.matS p x.p = b := ⟨_, rfl⟩
      have AM := Lib.hid (fun w => matK p x.p b hb HP.out (HSZ.out x (List.mem_of_getElem? HXX.out)) w)
      have HBB := Lib.hid hb
      clear EX hx hka hb
      go_wp2_with fail
      go_at_call 82
      refine (AM.out _).mono ?_
      rintro e w1 ⟨rfl, hk1⟩
      have HK1 := Lib.hid (HKR.out.trans (HKA.out.trans hk1))
      replace HE := Lib.hid (HE.out.kept hk1)
      clear hk1 z0 x0 x1 x2 x3 x4 x5
      cases b with
      | true =>
        have hyz := HY.out
        rw [findR_at HXX.out HBB.out HA.out] at hyz
        obtain ⟨rfl, rfl⟩ := Prod.mk.inj hyz
        have hr := HRES.out.kept HK1.out
        have rf := hr.f
        have r0 := hr.c0; have r1 := hr.c1; have r2 := hr.c2; have r3 := hr.c3; have r4 := hr.c4; have r5 := hr.c5
        have z0 := HE.out.c0; have z1 := HE.out.c1; have z2 := HE.out.c2; have z3 := HE.out.c3; have z4 := HE.out.c4; have z5 := HE.out.c5
        clear hyz hr
        go_wp2_with fail
        refine bodyPost_ret (by simp [results, Tryz.results29, go_sem, *]) rfl ⟨rfl, ?_⟩
        exact ((((((HK.out.trans HK1.out).setCell (Nat.le_add_right _ 1) _).setCell (Nat.le_add_right _ 1) _).setCell (Nat.le_add_right _ 1) _).setCell (Nat.le_add_right _ 1) _).setCell (Nat.le_add_right _ 1) _).setCell (Nat.le_add_right _ 1) _
      | false =>
        have HN := Lib.hid (show ∀ y ∈ L.take (t + 1), L4.matS p y.p = false from fun y hy => by
          rw [List.take_add_one, HXX.out, Option.toList_some, List.mem_append, List.mem_singleton] at hy
          rcases hy with hy | rfl
          · exact HA.out y hy
          · exact HBB.out)
        go_wp2_with fail
        go_roundw
        case rel => exact ⟨t + 1, hlt, by go_num, HK1.out, HN.out⟩
        case measure => simp [intOf]; omega
    · obtain rfl : t = n := by omega
      have hyz := HY.out
      rw [findR_none (fun y hy => HA.out y (by rw [List.take_of_length_le (by rw [← HNL.out]; exact Nat.le_refl _)]; exact hy))] at hyz
      obtain ⟨rfl, rfl⟩ := Prod.mk.inj hyz
      have hr := HRES.out.kept HKR.out
      have rf := hr.f
      have r0 := hr.c0; have r1 := hr.c1; have r2 := hr.c2; have r3 := hr.c3; have r4 := hr.c4; have r5 := hr.c5
      clear hyz hr
      go_wp2_with fail
      refine bodyPost_ret (by simp [results, Tryz.results29, go_sem, Fd.none, *]) rfl ⟨rfl, ?_⟩
      exact ((((((HK.out.trans HKR.out).setCell (Nat.le_add_right _ 1) _).setCell (Nat.le_add_right _ 1) _).setCell (Nat.le_add_right _ 1) _).setCell (Nat.le_add_right _ 1) _).setCell (Nat.le_add_right _ 1) _).setCell (Nat.le_add_right _ 1) _
end Go.Proofs.YtofnpifooaijcaaGreat
