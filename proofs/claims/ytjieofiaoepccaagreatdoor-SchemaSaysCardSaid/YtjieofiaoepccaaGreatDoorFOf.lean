/-
  What is proved: the document's Of of layer 11 (P11.3), called with any slice of fields, returns them in their places; the world has new blocks at most.
-/
import Derived.Test.YtjieofiaoepccaaGreatDoorM20
import Derived.Test.YtjieofiaoepccaaGreatDoorM17
import Derived.Test.YtjieofiaoepccaaGreatDoorM12
namespace Go.Proofs.YtjieofiaoepccaaGreatDoor
open Go.RowKit
set_option linter.unusedVariables false

theorem ofF_take {L : List Fd} {t : Nat} {x : Fd} (h : L[t]? = some x) : ofF (L.take (t + 1)) = insF (ofF (L.take t)) x := by
  rw [List.take_add_one, h, Option.toList_some, ofF_snoc]
set_option maxRecDepth 100000 in
set_option maxHeartbeats 16000000 in
theorem rfof_any (A : Option Addr) (n c : Nat) (L : List Fd) (w : World) (h : Fl w A n c L) (hn : n ≤ 100000) :
    Calls Tryz.prog 23 #[.slice A n c] w (OfS L w) := by
  have hk := (Kept.refl w).alloc #[.slice none 0 0] 24
  have hcap := h.cap.1; have hcap2 := h.cap.2
  have HNL := Lib.hid h.1
  have hres := Box1.new w (.slice none 0 0) 24
  have HH := Lib.hid (h.kept hk)
  obtain ⟨U, hU⟩ : ∃ U, w.alloc (.cells #[.slice none 0 0] 24) = U := ⟨_, rfl⟩
  rw [hU] at hk hres HH
  have HK := Lib.hid hk; have HRES := Lib.hid hres; have HUU := Lib.hid hU
  clear h hk hres hU
  go_enter Tryz.func23, Tryz.ntmps23
  go_wp2_with fail
  rw [HUU.out]
  go_loopw [3, 10] (fun v i wr => ∃ t : Nat, t ≤ n ∧ i = .int .i64 t ∧ OutF U wr v (ofF (L.take t))) (fun _ i _ => n - (intOf i).toNat)
  case atStart => exact ⟨0, Nat.zero_le _, rfl, by rw [List.take_zero]; exact OutF.start U⟩
  case round =>
    obtain ⟨t, ht, rfl, ho⟩ := hrel
    obtain ⟨Ao, co, rfl, hfo, _, _, _⟩ := ho.form
    have hlo : (ofF (L.take t)).length = t := by rw [ofF_len, List.length_take]; have := HNL.out; omega
    rw [hlo] at hfo ho ⊢
    have hoc := hfo.cap.1; have hoc2 := hfo.cap.2
    have HO := Lib.hid ho; have HFO := Lib.hid hfo; have HLO := Lib.hid hlo
    clear ho hfo hlo
    by_cases hlt : t < n
    · obtain ⟨g, o, x, rfl, hx, EX⟩ := (HH.out.kept HO.out.ke).get hlt
      have x0 := EX.c0; have x1 := EX.c1; have x2 := EX.c2; have x3 := EX.c3; have x4 := EX.c4; have x5 := EX.c5
      have hka := (Kept.refl wr).alloc #[.string x.p, .int .i64 x.k, .int .i64 x.t, .int .i64 x.vk, .int .i64 x.vn, .string x.vt] 30
      have HE := Lib.hid (FdB.new wr x 30)
      obtain ⟨W5, hW5⟩ : ∃ W5, wr.alloc (.cells #[.string x.p, .int .i64 x.k, .int .i64 x.t, .int .i64 x.vk, .int .i64 x.vn, .string x.vt] 30) = W5 := ⟨_, rfl⟩
      rw [hW5] at hka HE
      have HKA := Lib.hid (HO.out.ke.trans hka); have HF5 := Lib.hid (HFO.out.kept hka)
      have HOF := Lib.hid (ofF_take hx)
      have HW5 := Lib.hid hW5
      clear EX hx hka hW5
      go_wp2_with fail
      rw [HW5.out]
      clear x0 x1 x2 x3 x4 x5
      go_loopw [6] (fun v wy => ∃ k : Nat, k ≤ t ∧ v = .int .i64 k ∧ Kept W5 wy ∧ ∀ i y, k ≤ i → (ofF (L.take t))[i]? = some y → LtP x.p y.p) (fun v _ => (intOf v).toNat)
      case atStart => exact ⟨t, Nat.le_refl _, rfl, Kept.refl _, fun i y hi hy => by
        have := (List.getElem?_eq_some_iff.1 hy).1; have := HLO.out; omega⟩
      case round =>
        obtain ⟨k, hkt, rfl, hky, hall⟩ := hrel
        have HKY := Lib.hid hky; have HALL := Lib.hid hall
        clear hky hall
        by_cases hk0 : k = 0
        · have q1 : decide ((0 : Int) < (k : Int)) = false := decide_eq_false (by omega)
          have q2 : decide (0 < k) = false := decide_eq_false (by omega)
          have HLOW := Lib.hid (show ∀ i y, i < k → (ofF (L.take t))[i]? = some y → ¬ LtP x.p y.p from fun i y hi => by omega)
          clear hk0
          go_wp2_with fail
          refine region_kept _ (by kernel_rfl) (by kernel_rfl) (Kept.refl _) ?_
          repeat (go_big_quiet_step (fail))
          refine wpQuiet_nil ?_
          intro G
          obtain ⟨W6, hW6⟩ : ∃ W6, G.w = W6 := ⟨_, rfl⟩
          have hk6 := HKY.out.trans G.g
          rw [hW6] at hk6 ⊢
          clear hW6 G q1 q2
          have HK6 := Lib.hid hk6
          have hkc : k ≤ co := by omega
          have HFK := Lib.hid (HF5.out.kept hk6)
          have HE6 := Lib.hid (HE.out.kept hk6)
          have HHD := Lib.hid (fl_head HFK.out hkt hkc (Nat.le_refl co))
          obtain ⟨A2, htl, hr2, hr3⟩ := fl_tail HFK.out hkt
          have HTL := Lib.hid htl
          have hrh := run_fhead Ao t co k hkc
          have hrh2 := run_fhead2 Ao t co k hkc
          have hka1 := (Kept.refl W6).alloc #[] 30
          obtain ⟨v7, w7, hr7, ho7⟩ := (OutF.made (Kept.refl W6)).app _ _ _ _ (HHD.out.kept hka1) (by simp; omega)
          rw [List.nil_append] at ho7
          obtain ⟨A7, c7, rfl, hf7, _, _, _⟩ := ho7.form
          have hl7 : ((ofF (L.take t)).take k).length = k := by rw [List.length_take, HLO.out]; omega
          rw [hl7] at hr7 ho7 hf7
          have h71 := hf7.cap.1; have h72 := hf7.cap.2
          have hk7 := ho7.ke
          have hka2 := (Kept.refl w7).alloc #[.string x.p, .int .i64 x.k, .int .i64 x.t, .int .i64 x.vk, .int .i64 x.vn, .string x.vt] 30
          obtain ⟨v8, w8, hr8, ho8⟩ := (ho7.kept hka2).app _ _ _ _ (fl_one (FdB.new w7 x 30)) (by rw [hl7]; omega)
          obtain ⟨A8, c8, rfl, hf8, _, _, _⟩ := ho8.form
          have hl8 : ((ofF (L.take t)).take k ++ [x]).length = k + 1 := by rw [List.length_append, hl7]; rfl
          rw [hl8] at hr8 ho8 hf8
          have h81 := hf8.cap.1; have h82 := hf8.cap.2
          obtain ⟨v9, w9, hr9, ho9⟩ := ho8.app _ _ _ _ (HTL.out.kept ho8.ke) (by rw [hl8]; omega)
          have HINS := Lib.hid (show (ofF (L.take t)).take k ++ [x] ++ (ofF (L.take t)).drop k = ofF (L.take (t + 1)) by
            rw [HOF.out, insF_at (k := k) (ofF_flat _) (by rw [HLO.out]; omega) HLOW.out (fun y hy => HALL.out k y (Nat.le_refl _) hy)]
            simp)
          have HO9 := Lib.hid (show OutF U w9 v9 (ofF (L.take (t + 1))) by rw [← HINS.out]; exact ho9.lower (HKA.out.trans hk6))
          have HR7 := Lib.hid hr7; have HR8 := Lib.hid hr8; have HR9 := Lib.hid hr9
          have e5 := HE6.out.kept hk7
          have y0 := e5.c0; have y1 := e5.c1; have y2 := e5.c2; have y3 := e5.c3; have y4 := e5.c4; have y5 := e5.c5
          clear hk6 htl hka1 hr7 ho7 hf7 hl7 hk7 hka2 hr8 ho8 hf8 hl8 hr9 ho9 e5
          go_wp2_with (first
            | (at_builtin; refine Lib.wpList_append_run _ rfl (.tmp 31) (.tmp 34) _ _ rfl _ _ rfl rfl _ _ HR7.out ?_)
            | (at_builtin; refine Lib.wpList_append_run _ rfl (.tmp 36) (.tmp 38) _ _ rfl _ _ rfl rfl _ _ HR8.out ?_)
            | (at_builtin; refine Lib.wpList_append_run _ rfl (.tmp 40) (.tmp 43) _ _ rfl _ _ rfl rfl _ _ HR9.out ?_))
          clear hr2 hr3 hrh hrh2 y0 y1 y2 y3 y4 y5
          go_roundw
          case rel => exact ⟨t + 1, hlt, by go_num, HO9.out⟩
          case measure => simp [intOf]; omega
        · obtain ⟨k', hkk⟩ : ∃ k', k = k' + 1 := ⟨k - 1, by omega⟩
          obtain ⟨g3, o3, y, rfl, hy, EY⟩ := (HF5.out.kept HKY.out).get (show k' < t by omega)
          have q1 : decide ((0 : Int) < (k : Int)) = true := decide_eq_true (by omega)
          have q2 : decide (0 < k) = true := decide_eq_true (by omega)
          have q3 : IntKind.i64.wrap ((k : Int) - 1) = (k' : Int) := by rw [IntWalk.i64_in _ (by omega)]; omega
          have hkn : k' < t := by omega
          have HYY := Lib.hid hy; have HKK := Lib.hid hkk
          have Y0 := KExt.cell EY.c0
          have X0 := KExt.cell (HE.out.kept HKY.out).c0
          clear hy EY hk0 hkk
          by_cases hlp : LtP x.p y.p
          · have s1 : (Op.bytesLess y.p.toList x.p.toList || y.p.toList == x.p.toList) = false := by
              rw [Bool.or_eq_false_iff, less_of]
              refine ⟨decide_eq_false hlp.asymm, ?_⟩
              rw [beq_eq_false_iff_ne, Lib.toList_data, Lib.toList_data]
              intro e
              exact LtP.irrefl x.p (by unfold LtP at hlp ⊢; rw [e] at hlp; exact hlp)
            have s2 : Op.bytesLess y.p.toList x.p.toList = false := (Bool.or_eq_false_iff.1 s1).1
            have s3 : (y.p.toList == x.p.toList) = false := (Bool.or_eq_false_iff.1 s1).2
            have HN := Lib.hid (show ∀ i z, k' ≤ i → (ofF (L.take t))[i]? = some z → LtP x.p z.p from fun i z hi hz => by
              rcases Nat.eq_or_lt_of_le hi with e | e
              · rw [← e, HYY.out] at hz
                rw [← Option.some.inj hz]; exact hlp
              · exact HALL.out i z (by have := HKK.out; omega) hz)
            clear hlp
            go_wp2_with fail
            refine region_kept _ (by kernel_rfl) (by kernel_rfl) (Kept.refl _) ?_
            repeat (go_big_quiet_step (fail))
            refine wpQuiet_nil ?_
            intro G
            clear X0 Y0
            go_wp2_with fail
            go_roundw
            case rel => exact ⟨k', by omega, by first | rfl | go_num, HKY.out.trans G.g, HN.out⟩
            case measure => have := HKK.out; simp [intOf]; omega
          · have s1 : (Op.bytesLess y.p.toList x.p.toList || y.p.toList == x.p.toList) = true := by
              rw [Bool.or_eq_true, less_of]
              rcases LtP.not.1 hlp with e | e
              · right; rw [e]; simp
              · left; exact decide_eq_true e
            have HLOW := Lib.hid (show ∀ i z, i < k → (ofF (L.take t))[i]? = some z → ¬ LtP x.p z.p from fun i z hi hz hz2 => by
              have hk1 := HKK.out
              rcases Nat.lt_or_ge i k' with e | e
              · have hp := ofF_flat (L.take t)
                obtain ⟨e1, e2⟩ := List.getElem?_eq_some_iff.1 hz
                obtain ⟨e3, e4⟩ := List.getElem?_eq_some_iff.1 HYY.out
                have := List.pairwise_iff_getElem.1 hp i k' e1 e3 e
                rw [e2, e4] at this
                rcases LtP.not.1 this with e5 | e5
                · exact hlp (by rw [← e5]; exact hz2)
                · exact hlp (hz2.trans e5)
              · obtain rfl : i = k' := by omega
                rw [HYY.out] at hz
                rw [← Option.some.inj hz] at hz2
                exact hlp hz2)
            clear hlp
            go_wp2_with fail
            refine region_kept _ (by kernel_rfl) (by kernel_rfl) (Kept.refl _) ?_
            repeat (go_big_quiet_step (fail))
            refine wpQuiet_nil ?_
            intro G
            obtain ⟨W6, hW6⟩ : ∃ W6, G.w = W6 := ⟨_, rfl⟩
            have hk6 := HKY.out.trans G.g
            rw [hW6] at hk6 ⊢
            clear X0 Y0
            clear hW6 G q1 q2 q3 hkn s1
            have HK6 := Lib.hid hk6
            have hkc : k ≤ co := by omega
            have HFK := Lib.hid (HF5.out.kept hk6)
            have HE6 := Lib.hid (HE.out.kept hk6)
            have HHD := Lib.hid (fl_head HFK.out hkt hkc (Nat.le_refl co))
            obtain ⟨A2, htl, hr2, hr3⟩ := fl_tail HFK.out hkt
            have HTL := Lib.hid htl
            have hrh := run_fhead (some ⟨g3, o3, none⟩) t co k hkc
            have hrh2 := run_fhead2 (some ⟨g3, o3, none⟩) t co k hkc
            have hka1 := (Kept.refl W6).alloc #[] 30
            obtain ⟨v7, w7, hr7, ho7⟩ := (OutF.made (Kept.refl W6)).app _ _ _ _ (HHD.out.kept hka1) (by simp; omega)
            rw [List.nil_append] at ho7
            obtain ⟨A7, c7, rfl, hf7, _, _, _⟩ := ho7.form
            have hl7 : ((ofF (L.take t)).take k).length = k := by rw [List.length_take, HLO.out]; omega
            rw [hl7] at hr7 ho7 hf7
            have h71 := hf7.cap.1; have h72 := hf7.cap.2
            have hk7 := ho7.ke
            have hka2 := (Kept.refl w7).alloc #[.string x.p, .int .i64 x.k, .int .i64 x.t, .int .i64 x.vk, .int .i64 x.vn, .string x.vt] 30
            obtain ⟨v8, w8, hr8, ho8⟩ := (ho7.kept hka2).app _ _ _ _ (fl_one (FdB.new w7 x 30)) (by rw [hl7]; omega)
            obtain ⟨A8, c8, rfl, hf8, _, _, _⟩ := ho8.form
            have hl8 : ((ofF (L.take t)).take k ++ [x]).length = k + 1 := by rw [List.length_append, hl7]; rfl
            rw [hl8] at hr8 ho8 hf8
            have h81 := hf8.cap.1; have h82 := hf8.cap.2
            obtain ⟨v9, w9, hr9, ho9⟩ := ho8.app _ _ _ _ (HTL.out.kept ho8.ke) (by rw [hl8]; omega)
            have HINS := Lib.hid (show (ofF (L.take t)).take k ++ [x] ++ (ofF (L.take t)).drop k = ofF (L.take (t + 1)) by
              rw [HOF.out, insF_at (k := k) (ofF_flat _) (by rw [HLO.out]; omega) HLOW.out (fun y hy => HALL.out k y (Nat.le_refl _) hy)]
              simp)
            have HO9 := Lib.hid (show OutF U w9 v9 (ofF (L.take (t + 1))) by rw [← HINS.out]; exact ho9.lower (HKA.out.trans hk6))
            have HR7 := Lib.hid hr7; have HR8 := Lib.hid hr8; have HR9 := Lib.hid hr9
            have e5 := HE6.out.kept hk7
            have y0 := e5.c0; have y1 := e5.c1; have y2 := e5.c2; have y3 := e5.c3; have y4 := e5.c4; have y5 := e5.c5
            clear hk6 htl hka1 hr7 ho7 hf7 hl7 hk7 hka2 hr8 ho8 hf8 hl8 hr9 ho9 e5
            go_wp2_with (first
              | (at_builtin; refine Lib.wpList_append_run _ rfl (.tmp 31) (.tmp 34) _ _ rfl _ _ rfl rfl _ _ HR7.out ?_)
              | (at_builtin; refine Lib.wpList_append_run _ rfl (.tmp 36) (.tmp 38) _ _ rfl _ _ rfl rfl _ _ HR8.out ?_)
              | (at_builtin; refine Lib.wpList_append_run _ rfl (.tmp 40) (.tmp 43) _ _ rfl _ _ rfl rfl _ _ HR9.out ?_))
            clear hr2 hr3 hrh hrh2 y0 y1 y2 y3 y4 y5
            go_roundw
            case rel => exact ⟨t + 1, hlt, by go_num, HO9.out⟩
            case measure => simp [intOf]; omega
    · have htt : t = n := by omega
      have HT := Lib.hid (show L.take t = L from List.take_of_length_le (by rw [← HNL.out]; omega))
      rw [HT.out] at HFO
      have hr := HRES.out.kept HO.out.ke
      have rf := hr.f
      have r0 := hr.c0
      have HF := Lib.hid (show OfS L w (.returned (.agg #[.slice Ao t co])) (wr.setCell ⟨w.heap.size, 0, none⟩ (.slice Ao t co)) by
        have h1 := HFO.out
        refine ⟨Ao, co, ?_, ?_, (HK.out.trans HO.out.ke).setCell (a := ⟨w.heap.size, 0, none⟩) (Nat.le_refl _) _⟩
        · rw [← HNL.out, htt]
        · rw [← HNL.out, ← htt]; exact hr.fl _ h1)
      clear hr
      have hnt : decide ((t : Int) < (n : Int)) = false := decide_eq_false (by omega)
      have hnt2 : decide (t < n) = false := decide_eq_false (by omega)
      clear htt hlt
      go_wp2_with fail
      exact bodyPost_ret (by simp [results, Tryz.results23, go_sem, *]) rfl HF.out
end Go.Proofs.YtjieofiaoepccaaGreatDoor
