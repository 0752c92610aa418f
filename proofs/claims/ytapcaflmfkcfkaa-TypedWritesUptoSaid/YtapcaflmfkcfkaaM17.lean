/-
  What is proved: the document's Paths of layer 12 (P12.3), called with any slice of entries, returns their paths, rising, each once; the world has new blocks at most.
  package typed's Paths (P12.3), called with any slice of entries of bounded texts, returns their paths, rising, each once; the world has new blocks at most.
  path.Join and the document's Join, called with a slice of up to a million texts of up to a million bytes each, return these with strokes between (P4.3); the world has new blocks at most.
  the document's Under of layer 11 (P11.5), called with any schema and path of bounded texts, returns what that says; the world has new blocks at most.
  plain facts on the two schemas of the example that layer 11's laws answer: one is right and is found in, put, taken, told and made again as it should; the other is not right, and is taken with its error.
  the helpers of layer 11's laws that make the example's schema return it; the world has new blocks at most.
-/
import Derived.Test.YtapcaflmfkcfkaaM15
import Derived.Test.YtapcaflmfkcfkaaM13
import Derived.Test.YtapcaflmfkcfkaaFOk
import Derived.Test.YtapcaflmfkcfkaaM8
import Derived.Test.YtapcaflmfkcfkaaM9
import Derived.Test.YtapcaflmfkcfkaaM11
import Derived.Test.YtapcaflmfkcfkaaM4
namespace Go.Proofs.Ytapcaflmfkcfkaa
open Go.RowKit
set_option linter.unusedVariables false

/-- P12.3: what Paths hands back. -/
def PathsV (L : List En) (w : World) (e : Ending) (w' : World) : Prop := ∃ A c M, e = .returned (.slice A M.length c) ∧ PathsS L M ∧ Txl w' A M.length c M ∧ M.length ≤ L.length ∧ Kept w w'
theorem OutX.lower {U U2 w : World} {v : Value} {L : List ByteArray} (h : OutX U2 w v L) (hk : Kept U U2) : OutX U w v L :=
  ⟨own_mono h.own fun g hg => Nat.le_trans hk.2.2 (h.own.lt g hg).1, hk.trans h.ke⟩
theorem OutX.made {U w : World} (hk : Kept U w) : OutX U (w.alloc (.cells #[] 9)) (.slice (some ⟨w.heap.size, 0, none⟩) 0 0) [] :=
  ⟨World.ownsRow_made (base := U.heap.size) (e := 9) (size := 1) w #[] 0 hk.2.2 (by simp [maxLen]) rfl, hk.alloc _ _⟩
theorem run_xhead (A : Option Addr) (n c k : Nat) (hk : k ≤ c) (W : World) :
    (Instr.slice 35 (.slice A n c) none (some (.int .i64 (k : Int))) none).run Try.prog W = .ok (.slice A k c) W := by
  rw [run_slice_h W 35 _ n c (by kernel_rfl) .i64 (k : Int) (by omega) (by omega), size_tx]
  cases A <;> simp [Result.andThen, sliced, Addr.add]
theorem run_xhead2 (A : Option Addr) (n c k : Nat) (hk : k ≤ c) (W : World) :
    (Instr.sliceAt 35 (.slice A n c) none (some (.int .i64 (k : Int))) none).run Try.prog W = .ok (.slice A k c) W := by
  rw [run_sliceAt_slice W _ _ _ _ _ (by kernel_rfl)]; exact run_xhead A n c k hk W
set_option maxRecDepth 100000 in
set_option maxHeartbeats 16000000 in
theorem rpaths_any (A : Option Addr) (n c : Nat) (L : List En) (w : World) (h : El w A n c L) (hn : n ≤ 100000) :
    Calls Try.prog 10 #[.slice A n c] w (PathsV L w) := by
  have hcap := h.cap.1; have hcap2 := h.cap.2
  have HNL := Lib.hid h.1
  have HH := Lib.hid h
  clear h
  go_enter Try.func10, Try.ntmps10
  go_wp2_with fail
  go_loopw [3, 10] (fun v i wr => ∃ (t : Nat) (M : List ByteArray), t ≤ n ∧ i = .int .i64 t ∧ OutX w wr v M ∧ PathsS (L.take t) M ∧ M.length ≤ t) (fun _ i _ => n - (intOf i).toNat)
  case atStart => exact ⟨0, [], Nat.zero_le _, rfl, OutX.start w, by rw [List.take_zero]; exact PathsS.nil, Nat.le_refl _⟩
  case round =>
    obtain ⟨t, M, ht, rfl, ho, hps, hml⟩ := hrel
    obtain ⟨Ao, co, rfl, hfo, _, _, _⟩ := ho.form
    obtain ⟨m, hm⟩ : ∃ m, M.length = m := ⟨_, rfl⟩
    rw [hm] at hfo ho hml ⊢
    have hoc := hfo.cap.1; have hoc2 := hfo.cap.2
    have HO := Lib.hid ho; have HFO := Lib.hid hfo; have HLO := Lib.hid hm; have HPS := Lib.hid hps
    clear ho hfo hm hps
    by_cases hlt : t < n
    · obtain ⟨g, o, x, rfl, hx, EX⟩ := (HH.out.kept HO.out.ke).get hlt
      have x0 := EX.c0; have x1 := EX.c1; have x2 := EX.c2; have x3 := EX.c3; have x4 := EX.c4; have x5 := EX.c5; have x6 := EX.c6; have x7 := EX.c7; have x8 := EX.c8
      have hka := (Kept.refl wr).alloc #[.int .i64 x.d.1, .int .i64 x.d.2, .string x.p, .int .i64 x.k, .int .i64 x.vk, .int .i64 x.vn, .string x.vt, .int .i64 x.e.1, .int .i64 x.e.2] 33
      have HE := Lib.hid (Ent.new wr x 33)
      obtain ⟨W5, hW5⟩ : ∃ W5, wr.alloc (.cells #[.int .i64 x.d.1, .int .i64 x.d.2, .string x.p, .int .i64 x.k, .int .i64 x.vk, .int .i64 x.vn, .string x.vt, .int .i64 x.e.1, .int .i64 x.e.2] 33) = W5 := ⟨_, rfl⟩
      rw [hW5] at hka HE
      have HKA := Lib.hid (HO.out.ke.trans hka); have HF5 := Lib.hid (HFO.out.kept hka); have HO5 := Lib.hid (HO.out.kept hka)
      have HXX := Lib.hid hx
      have HW5 := Lib.hid hW5
      clear EX hx hka hW5
      go_wp2_with fail
      rw [HW5.out]
      clear x0 x1 x2 x3 x4 x5 x6 x7 x8
      go_loopw [6] (fun v wy => ∃ k : Nat, k ≤ m ∧ v = .int .i64 k ∧ Kept W5 wy ∧ ∀ i y, k ≤ i → M[i]? = some y → LtP x.p y) (fun v _ => (intOf v).toNat)
      case atStart => exact ⟨m, Nat.le_refl _, rfl, Kept.refl _, fun i y hi hy => by
        have := (List.getElem?_eq_some_iff.1 hy).1; have := HLO.out; omega⟩
      case round =>
        obtain ⟨k, hkt, rfl, hky, hall⟩ := hrel
        have HKY := Lib.hid hky; have HALL := Lib.hid hall
        clear hky hall
        by_cases hk0 : k = 0
        · have q1 : decide ((0 : Int) < (k : Int)) = false := decide_eq_false (by omega)
          have q2 : decide (0 < k) = false := decide_eq_false (by omega)
          have HLOW := Lib.hid (show ∀ i y, i < k → M[i]? = some y → LtP y x.p from fun i y hi => by omega)
          clear hk0
          go_wp2_with fail
          refine region_kept _ (by kernel_rfl) (by kernel_rfl) (Kept.refl _) ?_
          repeat (go_big_quiet_step (fail))
          refine wpQuiet_nil ?_
          intro G
          obtain ⟨W6, hW6⟩ : ∃ W6, G.w = W6 := ⟨_, rfl⟩
          have HK6 := Lib.hid G.g
          rw [hW6] at HK6 ⊢
          clear hW6 G
          go_wp2_with fail
          refine region_kept _ (by kernel_rfl) (by kernel_rfl) (Kept.refl _) ?_
          repeat (go_big_quiet_step (fail))
          refine wpQuiet_nil ?_
          intro G
          have hk6 := HKY.out.trans (HK6.out.trans G.g)
          obtain ⟨W7, hW7⟩ : ∃ W7, G.w = W7 := ⟨_, rfl⟩
          rw [hW7] at hk6 ⊢
          clear hW7 G q1 q2
          have hkc : k ≤ co := by omega
          have HFK := Lib.hid (HF5.out.kept hk6)
          have HE6 := Lib.hid (HE.out.kept hk6)
          have HHD := Lib.hid (tx_head HFK.out hkt hkc (Nat.le_refl co))
          obtain ⟨A2, htl, hr2, hr3⟩ := tx_tail HFK.out hkt
          have HTL := Lib.hid htl
          have hrh := run_xhead Ao m co k hkc
          have hrh2 := run_xhead2 Ao m co k hkc
          have hka1 := (Kept.refl W7).alloc #[] 9
          obtain ⟨v7, w7, hr7, ho7⟩ := (OutX.made (Kept.refl W7)).app _ _ _ _ (HHD.out.kept hka1) (by simp; omega)
          rw [List.nil_append] at ho7
          obtain ⟨A7, c7, rfl, hf7, _, _, _⟩ := ho7.form
          have hl7 : (M.take k).length = k := by rw [List.length_take, HLO.out]; omega
          rw [hl7] at hr7 ho7 hf7
          have h71 := hf7.cap.1; have h72 := hf7.cap.2
          have hk7 := ho7.ke
          have hka2 := (Kept.refl w7).alloc #[.string x.p] 9
          obtain ⟨v8, w8, hr8, ho8⟩ := (ho7.kept hka2).app _ _ _ _ (tx_one (TxB.new w7 x.p 9)) (by rw [hl7]; omega)
          obtain ⟨A8, c8, rfl, hf8, _, _, _⟩ := ho8.form
          have hl8 : (M.take k ++ [x.p]).length = k + 1 := by rw [List.length_append, hl7]; rfl
          rw [hl8] at hr8 ho8 hf8
          have h81 := hf8.cap.1; have h82 := hf8.cap.2
          obtain ⟨v9, w9, hr9, ho9⟩ := ho8.app _ _ _ _ (HTL.out.kept ho8.ke) (by rw [hl8]; omega)
          have HPN := Lib.hid (HPS.out.put HXX.out HLOW.out HALL.out)
          have HLN := Lib.hid (show (M.take k ++ [x.p] ++ M.drop k).length ≤ t + 1 by rw [List.length_append, hl8, List.length_drop, HLO.out]; omega)
          have HO9 := Lib.hid (show OutX w w9 v9 (M.take k ++ [x.p] ++ M.drop k) from ho9.lower (HKA.out.trans hk6))
          have HR7 := Lib.hid hr7; have HR8 := Lib.hid hr8; have HR9 := Lib.hid hr9
          have e5 := HE6.out.kept hk7
          have y2 := e5.c2
          clear hk6 htl hka1 hr7 ho7 hf7 hl7 hk7 hka2 hr8 ho8 hf8 hl8 hr9 ho9 e5
          go_wp2_with (first
            | (at_builtin; refine Lib.wpList_append_run _ rfl (.tmp 42) (.tmp 45) _ _ rfl _ _ rfl rfl _ _ HR7.out ?_)
            | (at_builtin; refine Lib.wpList_append_run _ rfl (.tmp 47) (.tmp 50) _ _ rfl _ _ rfl rfl _ _ HR8.out ?_)
            | (at_builtin; refine Lib.wpList_append_run _ rfl (.tmp 52) (.tmp 55) _ _ rfl _ _ rfl rfl _ _ HR9.out ?_))
          clear hr2 hr3 hrh hrh2 y2
          go_roundw
          case rel => exact ⟨t + 1, _, hlt, by go_num, HO9.out, HPN.out, HLN.out⟩
          case measure => simp [intOf]; omega
        · obtain ⟨k', hkk⟩ : ∃ k', k = k' + 1 := ⟨k - 1, by omega⟩
          obtain ⟨g3, o3, y, rfl, hy, EY⟩ := (HF5.out.kept HKY.out).get (show k' < m by omega)
          have q1 : decide ((0 : Int) < (k : Int)) = true := decide_eq_true (by omega)
          have q2 : decide (0 < k) = true := decide_eq_true (by omega)
          have q3 : IntKind.i64.wrap ((k : Int) - 1) = (k' : Int) := by rw [IntWalk.i64_in _ (by omega)]; omega
          have hkn : k' < m := by omega
          have HYY := Lib.hid hy; have HKK := Lib.hid hkk
          have HEY := Lib.hid (by have := EY.c0; rwa [Nat.mul_one] at this)
          have Y0 := KExt.cell HEY.out
          have X0 := KExt.cell (HE.out.kept HKY.out).c2
          clear hy EY hk0 hkk
          by_cases hlp : LtP x.p y
          · have s1 : (Op.bytesLess y.toList x.p.toList || y.toList == x.p.toList) = false := by
              rw [Bool.or_eq_false_iff, less_of]
              refine ⟨decide_eq_false hlp.asymm, ?_⟩
              rw [beq_eq_false_iff_ne, Lib.toList_data, Lib.toList_data]
              intro e
              exact LtP.irrefl x.p (by unfold LtP at hlp ⊢; rw [e] at hlp; exact hlp)
            have s2 : Op.bytesLess y.toList x.p.toList = false := (Bool.or_eq_false_iff.1 s1).1
            have s3 : (y.toList == x.p.toList) = false := (Bool.or_eq_false_iff.1 s1).2
            have HN := Lib.hid (show ∀ i z, k' ≤ i → M[i]? = some z → LtP x.p z from fun i z hi hz => by
              rcases Nat.eq_or_lt_of_le hi with e | e
              · rw [← e, HYY.out] at hz
                rw [← Option.some.inj hz]; exact hlp
              · exact HALL.out i z (by have := HKK.out; omega) hz)
            clear hlp
            go_wp2_with fail
            refine region_kept _ (by kernel_rfl) (by kernel_rfl) (Kept.refl _) ?_
            repeat (go_big_quiet_step (fail))
            refine wpQuiet_nil ?_
            intro G
            clear X0 Y0
            go_wp2_with fail
            go_roundw
            case rel => exact ⟨k', by omega, by first | rfl | go_num, HKY.out.trans G.g, HN.out⟩
            case measure => have := HKK.out; simp [intOf]; omega
          · have s1 : (Op.bytesLess y.toList x.p.toList || y.toList == x.p.toList) = true := by
              rw [Bool.or_eq_true, less_of]
              rcases LtP.not.1 hlp with e | e
              · right; rw [e]; simp
              · left; exact decide_eq_true e
            have HLE := Lib.hid (LtP.not.1 hlp)
            clear hlp
            go_wp2_with fail
            refine region_kept _ (by kernel_rfl) (by kernel_rfl) (Kept.refl _) ?_
            repeat (go_big_quiet_step (fail))
            refine wpQuiet_nil ?_
            intro G
            obtain ⟨W6, hW6⟩ : ∃ W6, G.w = W6 := ⟨_, rfl⟩
            have HK6 := Lib.hid G.g
            rw [hW6] at HK6 ⊢
            clear hW6 G
            clear X0 Y0 s1
            have Y0 := KExt.cell (HK6.out.cell HEY.out)
            have X0 := KExt.cell (HE.out.kept (HKY.out.trans HK6.out)).c2
            by_cases hyx : y = x.p
            · have s4 : (y.toList == x.p.toList) = true := by rw [hyx]; simp
              have HN := Lib.hid (HPS.out.same HXX.out (hyx ▸ List.mem_of_getElem? HYY.out))
              clear hyx
              go_wp2_with fail
              refine region_kept _ (by kernel_rfl) (by kernel_rfl) (Kept.refl _) ?_
              repeat (go_big_quiet_step (fail))
              refine wpQuiet_nil ?_
              intro G
              have HK7 := Lib.hid (HKY.out.trans (HK6.out.trans G.g))
              obtain ⟨W7, hW7⟩ : ∃ W7, G.w = W7 := ⟨_, rfl⟩
              rw [hW7] at HK7 ⊢
              clear X0 Y0 hW7 G
              go_wp2_with fail
              go_roundw
              case rel => exact ⟨t + 1, M, hlt, by go_num, HO5.out.kept HK7.out, HN.out, by rw [HLO.out]; omega⟩
              case measure => simp [intOf]; omega
            · have s4 : (y.toList == x.p.toList) = false := by
                rw [beq_eq_false_iff_ne, Lib.toList_data, Lib.toList_data]
                intro e
                exact hyx (ba_ext e)
              have HLOW := Lib.hid (show ∀ i z, i < k → M[i]? = some z → LtP z x.p from fun i z hi hz => by
                have hk1 := HKK.out
                have hlt1 : LtP y x.p := by
                  rcases HLE.out with e | e
                  · exact absurd e (by first | exact hyx | exact fun h => hyx h.symm)
                  · exact e
                rcases Nat.lt_or_ge i k' with e | e
                · obtain ⟨e1, e2⟩ := List.getElem?_eq_some_iff.1 hz
                  obtain ⟨e3, e4⟩ := List.getElem?_eq_some_iff.1 HYY.out
                  have := List.pairwise_iff_getElem.1 HPS.out.1 i k' e1 e3 e
                  rw [e2, e4] at this
                  exact this.trans hlt1
                · obtain rfl : i = k' := by omega
                  rw [HYY.out] at hz
                  rw [← Option.some.inj hz]
                  exact hlt1)
              clear hyx
              go_wp2_with fail
              refine region_kept _ (by kernel_rfl) (by kernel_rfl) (Kept.refl _) ?_
              repeat (go_big_quiet_step (fail))
              refine wpQuiet_nil ?_
              intro G
              have hk6 := HKY.out.trans (HK6.out.trans G.g)
              obtain ⟨W7, hW7⟩ : ∃ W7, G.w = W7 := ⟨_, rfl⟩
              rw [hW7] at hk6 ⊢
              clear hW7 G X0 Y0 q1 q2 q3 hkn s4
              have hkc : k ≤ co := by omega
              have HFK := Lib.hid (HF5.out.kept hk6)
              have HE6 := Lib.hid (HE.out.kept hk6)
              have HHD := Lib.hid (tx_head HFK.out hkt hkc (Nat.le_refl co))
              obtain ⟨A2, htl, hr2, hr3⟩ := tx_tail HFK.out hkt
              have HTL := Lib.hid htl
              have hrh := run_xhead (some ⟨g3, o3, none⟩) m co k hkc
              have hrh2 := run_xhead2 (some ⟨g3, o3, none⟩) m co k hkc
              have hka1 := (Kept.refl W7).alloc #[] 9
              obtain ⟨v7, w7, hr7, ho7⟩ := (OutX.made (Kept.refl W7)).app _ _ _ _ (HHD.out.kept hka1) (by simp; omega)
              rw [List.nil_append] at ho7
              obtain ⟨A7, c7, rfl, hf7, _, _, _⟩ := ho7.form
              have hl7 : (M.take k).length = k := by rw [List.length_take, HLO.out]; omega
              rw [hl7] at hr7 ho7 hf7
              have h71 := hf7.cap.1; have h72 := hf7.cap.2
              have hk7 := ho7.ke
              have hka2 := (Kept.refl w7).alloc #[.string x.p] 9
              obtain ⟨v8, w8, hr8, ho8⟩ := (ho7.kept hka2).app _ _ _ _ (tx_one (TxB.new w7 x.p 9)) (by rw [hl7]; omega)
              obtain ⟨A8, c8, rfl, hf8, _, _, _⟩ := ho8.form
              have hl8 : (M.take k ++ [x.p]).length = k + 1 := by rw [List.length_append, hl7]; rfl
              rw [hl8] at hr8 ho8 hf8
              have h81 := hf8.cap.1; have h82 := hf8.cap.2
              obtain ⟨v9, w9, hr9, ho9⟩ := ho8.app _ _ _ _ (HTL.out.kept ho8.ke) (by rw [hl8]; omega)
              have HPN := Lib.hid (HPS.out.put HXX.out HLOW.out HALL.out)
              have HLN := Lib.hid (show (M.take k ++ [x.p] ++ M.drop k).length ≤ t + 1 by rw [List.length_append, hl8, List.length_drop, HLO.out]; omega)
              have HO9 := Lib.hid (show OutX w w9 v9 (M.take k ++ [x.p] ++ M.drop k) from ho9.lower (HKA.out.trans hk6))
              have HR7 := Lib.hid hr7; have HR8 := Lib.hid hr8; have HR9 := Lib.hid hr9
              have e5 := HE6.out.kept hk7
              have y2 := e5.c2
              clear hk6 htl hka1 hr7 ho7 hf7 hl7 hk7 hka2 hr8 ho8 hf8 hl8 hr9 ho9 e5
              go_wp2_with (first
                | (at_builtin; refine Lib.wpList_append_run _ rfl (.tmp 42) (.tmp 45) _ _ rfl _ _ rfl rfl _ _ HR7.out ?_)
                | (at_builtin; refine Lib.wpList_append_run _ rfl (.tmp 47) (.tmp 50) _ _ rfl _ _ rfl rfl _ _ HR8.out ?_)
                | (at_builtin; refine Lib.wpList_append_run _ rfl (.tmp 52) (.tmp 55) _ _ rfl _ _ rfl rfl _ _ HR9.out ?_))
              clear hr2 hr3 hrh hrh2 y2
              go_roundw
              case rel => exact ⟨t + 1, _, hlt, by go_num, HO9.out, HPN.out, HLN.out⟩
              case measure => simp [intOf]; omega
    · have htt : t = n := by omega
      have HT := Lib.hid (show L.take t = L from List.take_of_length_le (by rw [← HNL.out]; omega))
      have HF := Lib.hid (show PathsV L w (.returned (.slice Ao m co)) wr by
        refine ⟨Ao, co, M, by rw [HLO.out], by have := HPS.out; rwa [HT.out] at this, by rw [HLO.out]; exact HFO.out, by rw [HLO.out, ← HNL.out]; omega, HO.out.ke⟩)
      have hnt : decide ((t : Int) < (n : Int)) = false := decide_eq_false (by omega)
      have hnt2 : decide (t < n) = false := decide_eq_false (by omega)
      clear htt hlt
      go_wp2_with fail
      exact bodyPost_ret (by simp [results, Try.results10, go_sem, *]) rfl HF.out
end Go.Proofs.Ytapcaflmfkcfkaa

namespace Go.Proofs.Ytapcaflmfkcfkaa
open Go.RowKit
set_option linter.unusedVariables false

theorem run_makeMapT (w : World) : (Instr.makeMap 50 none).run Try.prog w = .ok (.map (some w.heap.size)) (w.alloc (.map #[] 0)) := by
  unfold Instr.makeMap
  simp [Result.andThen]
theorem Kept.mapT {W w : World} (h : Kept W w) : Kept W (w.alloc (.map #[] 0)) := kept_grown h (World.grownBy_alloc w _ none) (fun k hk => by cases hk)
theorem KeptE.turnedT {G : Nat} {W w u : World} (h : KeptE G W w) (k : w.mapTurned u G) : KeptE G W u := by
  refine ⟨k.grown.os.trans h.os, k.grown.output.trans h.output, Nat.le_trans h.size k.grown.size, fun i hi hg => (k.grown.block i (Nat.lt_of_lt_of_le hi h.size) (fun e => hg (Option.some.inj e))).trans (h.blk i hi hg)⟩
set_option maxRecDepth 100000 in
set_option maxHeartbeats 8000000 in
theorem tpaths_any (A : Option Addr) (n c : Nat) (L : List En) (w : World) (h : El w A n c L) (hs : ∀ x ∈ L, x.p.size ≤ 1099511627776) (hn : n ≤ 1000) :
    Calls Try.prog 9 #[.slice A n c] w (PathsV L w) := by
  have hmm := run_makeMapT
  have hk := (Kept.refl w).mapT
  have hcap := h.cap.1; have hcap2 := h.cap.2
  have HNL := Lib.hid h.1; have HSZ := Lib.hid hs
  have HM := Lib.hid (SetT.made w)
  have HEL := Lib.hid h
  obtain ⟨U, hU⟩ : ∃ U, w.alloc (.map #[] 0) = U := ⟨_, rfl⟩
  rw [hU] at hk HM
  have HK := Lib.hid hk; have HUU := Lib.hid hU
  clear h hs hk hU
  go_enter Try.func9, Try.ntmps9
  go_wp2_with fail
  rw [HUU.out]
  go_loopw [9] (fun i wr => ∃ t : Nat, t ≤ n ∧ i = .int .i64 t ∧ KeptE w.heap.size U wr ∧ SetT wr w.heap.size ((L.take t).map (·.p))) (fun i _ => n - (intOf i).toNat)
  case atStart => exact ⟨0, Nat.zero_le _, rfl, KeptE.refl _ _, by rw [List.take_zero]; exact HM.out⟩
  case round =>
    obtain ⟨t, ht, rfl, hke, hsm⟩ := hrel
    have HE := Lib.hid hke; have HSM := Lib.hid hsm
    have HKW := Lib.hid (hke.kept HK.out (Nat.le_refl _))
    clear hke hsm
    by_cases hlt : t < n
    · obtain ⟨g, o, x, rfl, hx, EX⟩ := (HEL.out.kept HKW.out).get hlt
      have x0 := EX.c0; have x1 := EX.c1; have x2 := EX.c2; have x3 := EX.c3; have x4 := EX.c4; have x5 := EX.c5; have x6 := EX.c6; have x7 := EX.c7; have x8 := EX.c8
      have HKEY := Lib.hid (keyT x.p (HSZ.out x (List.mem_of_getElem? hx)))
      have HTK := Lib.hid (show (L.take (t + 1)).map (·.p) = (L.take t).map (·.p) ++ [x.p] by rw [List.take_add_one, hx]; simp)
      have hka := (Kept.refl wr).alloc #[.int .i64 x.d.1, .int .i64 x.d.2, .string x.p, .int .i64 x.k, .int .i64 x.vk, .int .i64 x.vn, .string x.vt, .int .i64 x.e.1, .int .i64 x.e.2] 33
      have HSA := Lib.hid (HSM.out.kept hka)
      have HEA := Lib.hid (HE.out.trans hka)
      have HLT := Lib.hid (show ((L.take t).map (·.p)).length < maxLen by rw [List.length_map, List.length_take]; simp only [maxLen]; omega)
      have e2 := (Ent.new wr x 33).c2
      clear hx hka EX
      go_wp2_with (at_mapUpdate; refine wpList_mapUpdate_in _ rfl _ _ _ 50 rfl 9 51 keyedT mapT unitElem w.heap.size _ _ rfl HSA.out HLT.out _ _ _ rfl rfl HKEY.out _ [] unitElem_mk ?_; intro w1 hown1 hturn1; have HT1 := Lib.hid hturn1; have HO1 := Lib.hid hown1; clear hown1 hturn1)
      have HE1 := Lib.hid (HEA.out.turnedT HT1.out)
      have HS1 := Lib.hid (SetT.put HO1.out)
      go_roundw
      case rel => exact ⟨t + 1, hlt, by go_num, HE1.out, by rw [HTK.out]; exact HS1.out⟩
      case measure => simp [intOf]; omega
    · obtain rfl : t = n := by omega
      have HT := Lib.hid (show L.take t = L from List.take_of_length_le (by rw [← HNL.out]; exact Nat.le_refl _))
      rw [HT.out] at HSM
      go_wp2_with fail
      go_at_call 24
      refine (keysY_any _ _).mono ?_
      rintro e w1 ⟨rfl, rfl⟩
      go_wp2_with fail
      go_at_call 23
      refine (sortedY_any _ L wr HSM.out (by rw [← HNL.out]; omega)).mono ?_
      rintro e w2 ⟨A1, c1, M, rfl, hps, hm, hle, hk⟩
      have HF := Lib.hid (show PathsV L w (.returned (.slice A1 M.length c1)) w2 from ⟨A1, c1, M, rfl, hps, hm, hle, HKW.out.trans hk⟩)
      clear hps hm hk
      go_wp2_with fail
      exact bodyPost_ret (by simp [results, Try.results9, go_sem, *]) rfl HF.out
end Go.Proofs.Ytapcaflmfkcfkaa

namespace Go.Proofs.Ytapcaflmfkcfkaa.L4
open Go.RowKit

theorem ret_str {a b : ByteArray} (h : a = b) : Ending.returned (.string a) = .returned (.string b) := by rw [h]
/-- P4.3, over texts. -/
def joiS (L : List ByteArray) : ByteArray := ofL (joi (toLs L))
def Few (L : List ByteArray) : Prop := L.length ≤ 1000000 ∧ ∀ x ∈ L, x.size ≤ 1000000
theorem Few.take {L : List ByteArray} (h : Few L) (k : Nat) : Few (L.take k) :=
  ⟨by rw [List.length_take]; have := h.1; omega, fun x hx => h.2 x (List.mem_of_mem_take hx)⟩
theorem joiS_size (L : List ByteArray) (h : Few L) : (joiS L).size ≤ 1000001000000 := by
  have h1 := joi_len (toLs L) 1000000 (fun s hs => by
    obtain ⟨x, hx, rfl⟩ := List.mem_map.1 hs
    exact h.2 x hx)
  rw [toLs_len] at h1
  have h2 : L.length * (1000000 + 1) ≤ 1000000 * (1000000 + 1) := Nat.mul_le_mul_right _ h.1
  have h3 : (joiS L).size = (joi (toLs L)).length := by unfold joiS; rw [ba_size, ofL_list]
  omega
theorem joi_snoc : ∀ (L : List (List UInt8)) (x : List UInt8), L ≠ [] → joi (L ++ [x]) = joi L ++ 47 :: x
  | [], _, h => absurd rfl h
  | [a], x, _ => by rw [List.cons_append, List.nil_append, joi_cons2, joi_one, joi_one]
  | a :: b :: r, x, _ => by
    have := joi_snoc (b :: r) x (by simp)
    rw [List.cons_append, List.cons_append, joi_cons2, joi_cons2, ← List.cons_append, this]
    simp
theorem joiS_zero (L : List ByteArray) : joiS (L.take 0) = ⟨#[]⟩ := rfl
theorem joiS_first (L : List ByteArray) (h : 0 < L.length) : joiS (L.take 1) = ⟨#[]⟩ ++ L.getD 0 ⟨#[]⟩ := by
  cases L with
  | nil => simp at h
  | cons a r =>
    apply ba_ext
    rw [ba_app]
    unfold joiS
    rw [ofL_list]
    simp [toLs, joi_one]
theorem joiS_next (L : List ByteArray) (k : Nat) (h : k < L.length) (hk : 0 < k) : joiS (L.take (k + 1)) = joiS (L.take k) ++ ⟨#[47]⟩ ++ L.getD k ⟨#[]⟩ := by
  apply ba_ext
  rw [ba_app, ba_app]
  unfold joiS
  rw [ofL_list, ofL_list, List.take_succ_eq_append_getElem h, toLs_app, show toLs [L[k]] = [L[k].data.toList] from rfl, joi_snoc _ _ (by
    intro e
    have := congrArg List.length e
    rw [toLs_len, List.length_take] at this
    have h2 : min k L.length = 0 := this
    omega)]
  rw [List.getD_eq_getElem?_getD, List.getElem?_eq_getElem h]
  simp

end Go.Proofs.Ytapcaflmfkcfkaa.L4

namespace Go.Proofs.Ytapcaflmfkcfkaa
open Go.RowKit
set_option linter.unusedVariables false

/-- P11.5, of one field. -/
def undX (x : Fd) (p : ByteArray) : Bool := decide ((L4.spl p.data.toList).length ≤ (L4.spl x.p.data.toList).length) && L4.matL (L4.spl p.data.toList) ((L4.spl x.p.data.toList).take (L4.spl p.data.toList).length)
theorem underF_at {L : List Fd} {p : ByteArray} {t : Nat} {x : Fd} (hx : L[t]? = some x) (h : undX x p = true) : underF L p = true := by
  unfold underF
  rw [List.any_eq_true]
  exact ⟨x, List.mem_of_getElem? hx, h⟩
theorem underF_none {L : List Fd} {p : ByteArray} (h : ∀ x ∈ L, undX x p = false) : underF L p = false := by
  unfold underF
  rw [List.any_eq_false]
  intro x hx
  have := h x hx
  unfold undX at this
  rw [this]; decide
theorem toLs_take (L : List ByteArray) (k : Nat) : L4.toLs (L.take k) = (L4.toLs L).take k := by
  unfold L4.toLs
  rw [List.map_take]
/-- A path's segments, a number of them joined, are these again. -/
theorem spl_take (q : ByteArray) (k : Nat) (hk : 0 < k) : L4.spl (L4.joiS ((L4.splS q).take k)).data.toList = (L4.spl q.data.toList).take k := by
  unfold L4.joiS
  rw [L4.ofL_list, toLs_take, L4.splS_list]
  have hp := L4.splS_pos q
  rw [← L4.toLs_len, L4.splS_list] at hp
  refine L4.spl_joi _ ?_ ?_
  · intro e
    have := congrArg List.length e
    rw [List.length_take] at this
    have h2 : min k (L4.spl q.data.toList).length = 0 := this
    omega
  · intro s hs
    exact L4.spl_no _ s (List.mem_of_mem_take hs)
theorem splS_n (p : ByteArray) : (L4.spl p.data.toList).length = (L4.splS p).length := by rw [← L4.toLs_len, L4.splS_list]
theorem undX_no {x : Fd} {p : ByteArray} {np nx : Nat} (hp : (L4.splS p).length = np) (hx : (L4.splS x.p).length = nx) (h : ¬ np ≤ nx) : undX x p = false := by
  unfold undX
  rw [splS_n, splS_n, hp, hx, decide_eq_false h]; rfl
theorem undX_yes {x : Fd} {p : ByteArray} {np nx : Nat} (hp : (L4.splS p).length = np) (hx : (L4.splS x.p).length = nx) (h : np ≤ nx) : undX x p = L4.matS p (L4.joiS ((L4.splS x.p).take np)) := by
  have h0 := L4.splS_pos p
  unfold undX L4.matS
  rw [splS_n p, splS_n x.p, spl_take _ _ (by omega), hp, hx, decide_eq_true h, Bool.true_and]
theorem rspl_n (p : ByteArray) (n : Nat) (hn : (L4.splS p).length = n) (hp : p.size ≤ 1099511627776) (w : World) :
    Calls Try.prog 46 #[.string p] w fun e w' => ∃ b c, e = .returned (.slice (some ⟨b, 0, none⟩) n c) ∧ L4.Sl w' ⟨b, 0, none⟩ n c (L4.splS p) ∧ Kept w w' := by
  subst hn
  exact (L4.rsplit_any p w hp).mono fun e w' ⟨b, c, he, hs, _, hk⟩ => ⟨b, c, he, hs, kept_of_below hk⟩
theorem sl_take {w : World} {a : Addr} {n c : Nat} {L : List ByteArray} (h : L4.Sl w a n c L) {k : Nat} (hk : k ≤ n) : L4.Sl w a k c (L.take k) := by
  obtain ⟨h1, h2, h3, h4, h5⟩ := h
  refine ⟨by rw [List.length_take]; omega, by omega, h3, h4, fun j x hj => h5 j x ?_⟩
  rw [List.getElem?_take] at hj
  by_cases hjk : j < k
  · rwa [if_pos hjk] at hj
  · rw [if_neg hjk] at hj; cases hj
theorem splS_few2 (p : ByteArray) (hp : p.size ≤ 2000) : L4.Few (L4.splS p) := by
  have := L4.splS_le p
  exact ⟨by omega, fun x hx => by have := L4.splS_size p x hx; omega⟩
theorem joi_small (q : ByteArray) (hq : q.size ≤ 2000) (k : Nat) : (L4.joiS ((L4.splS q).take k)).size ≤ 1099511627776 :=
  Nat.le_trans (L4.joiS_size _ ((splS_few2 q hq).take k)) (by decide)
end Go.Proofs.Ytapcaflmfkcfkaa

namespace Go.Proofs.Ytapcaflmfkcfkaa
open Go.RowKit
set_option linter.unusedVariables false

def x1 : Fd := ⟨⟨#[97, 47, 120]⟩, 1, 1, 1, 0, ⟨#[]⟩⟩
def x2 : Fd := ⟨⟨#[97, 47, 121]⟩, 2, 2, 0, 0, ⟨#[]⟩⟩
def x3 : Fd := ⟨⟨#[99]⟩, 3, 1, 0, 0, ⟨#[]⟩⟩
def x4 : Fd := ⟨⟨#[109, 47, 42, 47, 116]⟩, 1, 2, 2, 0, ⟨#[]⟩⟩
def y1 : Fd := ⟨⟨#[97, 47, 42]⟩, 1, 1, 1, 0, ⟨#[]⟩⟩
def y2 : Fd := ⟨⟨#[97, 47, 98]⟩, 1, 1, 1, 0, ⟨#[]⟩⟩
/-- The example's schema, and a wrong one. -/
def smL : List Fd := [x1, x2, x3, x4]
def bdL : List Fd := [y1, y2]
theorem rightX1 : rightF x1 = true := by kernel_rfl
theorem rightX2 : rightF x2 = true := by kernel_rfl
theorem rightX3 : rightF x3 = true := by kernel_rfl
theorem rightX4 : rightF x4 = true := by kernel_rfl
theorem rightY1 : rightF y1 = true := by kernel_rfl
theorem rightY2 : rightF y2 = true := by kernel_rfl
theorem rightA : rightF ⟨⟨#[97]⟩, 0, 0, 0, 0, ⟨#[]⟩⟩ = false := by kernel_rfl
theorem smL_ok : ScOk smL := by
  refine ⟨by decide, ?_, ?_, ?_⟩
  · intro x hx
    unfold smL at hx
    simp only [List.mem_cons, List.not_mem_nil, or_false] at hx
    rcases hx with rfl | rfl | rfl | rfl
    · exact rightX1
    · exact rightX2
    · exact rightX3
    · exact rightX4
  · unfold smL
    simp only [List.pairwise_cons, List.mem_cons, List.not_mem_nil, or_false, forall_eq_or_imp, forall_eq, List.Pairwise.nil, and_true, false_implies, implies_true]
    exact ⟨⟨by decide, by decide, by decide⟩, ⟨by decide, by decide⟩, by decide⟩
  · unfold smL
    simp only [List.pairwise_cons, List.mem_cons, List.not_mem_nil, or_false, forall_eq_or_imp, forall_eq, List.Pairwise.nil, and_true, false_implies, implies_true]
    exact ⟨⟨by kernel_rfl, by kernel_rfl, by kernel_rfl⟩, ⟨by kernel_rfl, by kernel_rfl⟩, by kernel_rfl⟩
theorem bdL_no : ¬ ScOk bdL := fun h => by
  have := h.apart
  unfold bdL at this
  simp only [List.pairwise_cons, List.mem_cons, List.not_mem_nil, or_false, forall_eq] at this
  have h2 : L4.apS y2.p y1.p = false := by kernel_rfl
  rw [this.1] at h2
  cases h2
theorem bdL_right : ∀ x ∈ bdL, rightF x = true := by
  intro x hx
  unfold bdL at hx
  simp only [List.mem_cons, List.not_mem_nil, or_false] at hx
  rcases hx with rfl | rfl
  · exact rightY1
  · exact rightY2
theorem smL_bd : BdFs smL := by
  intro x hx
  unfold smL at hx
  simp only [List.mem_cons, List.not_mem_nil, or_false] at hx
  rcases hx with rfl | rfl | rfl | rfl <;> exact ⟨by decide, by decide⟩
theorem bdL_bd : BdFs bdL := by
  intro x hx
  unfold bdL at hx
  simp only [List.mem_cons, List.not_mem_nil, or_false] at hx
  rcases hx with rfl | rfl <;> exact ⟨by decide, by decide⟩
/-- Right fields that are no right schema are taken with ErrForm. -/
theorem tsc_bad {L : List Fd} (hf : L.length ≤ 24) (hr : ∀ x ∈ L, rightF x = true) (hn : ¬ ScOk L) (hb : BdFs L) (s : ByteArray) : tscL (putSc ⟨#[]⟩ L ++ s) = ([], ⟨#[]⟩, 3) := by
  have e : putSc ⟨#[]⟩ L ++ s = putS L.length ++ (encFs L ++ s) := by
    unfold putSc
    simp only [ba_assoc, ba_nil]
  obtain ⟨k1, k2, k3⟩ := tk_fore L.length (encFs L ++ s) (by omega)
  unfold tscL
  rw [e, k1, k2, k3, if_neg (by simp), if_neg (by omega), takeFs_fore L [] s hr hb, List.nil_append, if_neg (by simp), if_neg hn]
/-- More fields than a schema may have are taken with ErrLong. -/
theorem tsc_long {s : ByteArray} (h0 : tkE s = 0) (h1 : 24 < tkN s) : tscL s = ([], ⟨#[]⟩, 4) := by
  unfold tscL
  rw [if_neg (by simp [h0]), if_pos h1]
theorem aw_take : tscL (putSc ⟨#[]⟩ smL ++ ⟨#[122]⟩) = (smL, ⟨#[122]⟩, 0) := tsc_fore smL_ok smL_bd _
theorem aw_bad : tscL (putSc ⟨#[]⟩ bdL) = ([], ⟨#[]⟩, 3) := by
  have := tsc_bad (by decide) bdL_right bdL_no bdL_bd ⟨#[]⟩
  rwa [ba_nil_r] at this
theorem tkN25 : tkN ⟨#[25]⟩ = 25 := by kernel_rfl
theorem aw_long : tscL ⟨#[25]⟩ = ([], ⟨#[]⟩, 4) := tsc_long (by kernel_rfl) (by rw [tkN25]; omega)
theorem aw_find : findR smL ⟨#[109, 47, 107, 49, 47, 116]⟩ = (x4, true) := by kernel_rfl
theorem aw_none : findR smL ⟨#[109, 47, 107, 49]⟩ = (.none, false) := by kernel_rfl
theorem aw_und1 : underF smL ⟨#[109, 47, 107, 49]⟩ = true := by kernel_rfl
theorem aw_und2 : underF smL ⟨#[97]⟩ = true := by kernel_rfl
theorem aw_und3 : underF smL ⟨#[97, 47, 122]⟩ = false := by kernel_rfl
theorem aw_text : textSc smL = ⟨#[97, 47, 120, 32, 114, 101, 103, 32, 105, 110, 116, 32, 48, 10, 97, 47, 121, 32, 115, 101, 116, 32, 116, 101, 120, 116, 10, 99, 32, 99, 116, 114, 32, 105, 110, 116, 10, 109, 47, 42, 47, 116, 32, 114, 101, 103, 32, 116, 101, 120, 116, 32, 39, 10]⟩ := by kernel_rfl
theorem aw_of : ofF [x3, x1, x4, x2] = smL := by kernel_rfl
theorem aw_of2 : ofF [y1, y2] = bdL := by kernel_rfl
end Go.Proofs.Ytapcaflmfkcfkaa

namespace Go.Proofs.Ytapcaflmfkcfkaa
open Go.RowKit
set_option linter.unusedVariables false

theorem fl_new (w : World) (L : List Fd) (t : TypeId) (cs : Array Value) (h : cs = (flatF L).toArray) (hl : L.length ≤ maxLen) : Fl (w.alloc (.cells cs t)) (some ⟨w.heap.size, 0, none⟩) L.length L.length L := by
  refine ⟨rfl, Nat.le_refl _, hl, (fun h => by cases h), .inr ⟨w.heap.size, 0, rfl, fun j x hj => FdO.of_flat fun i u hu => ?_⟩⟩
  have hi : i < 6 := (List.getElem?_eq_some_iff.1 hu).1
  have hg := flatF_get L j x hj i hi
  rw [show 0 + j * 6 + i = j * 6 + i by omega]
  exact (Kept.refl _).box (j * 6 + i) u (by rw [h, List.getElem?_toArray, hg, hu])
theorem fl_at {w : World} {b n c : Nat} {L : List Fd} (h : Fl w (some ⟨b, 0, none⟩) n c L) {j : Nat} {x : Fd} (hj : L[j]? = some x) : FdO w b (j * 6) x := by
  have hl := (List.getElem?_eq_some_iff.1 hj).1
  rcases h.2.2.2.2 with h0 | ⟨b2, o, hA, hc⟩
  · have := h.1; omega
  · have e := Option.some.inj hA
    injection e with e1 e2
    subst e1 e2
    have := hc j x hj
    rwa [Nat.zero_add] at this
set_option maxRecDepth 100000 in
set_option maxHeartbeats 4000000 in
theorem freg_any (p : ByteArray) (k : Int) (w : World) :
    Calls Try.prog 35 #[.string p, .int .i64 k] w fun e w' => e = .returned (.agg #[.string p, .int .i64 1, .int .i64 k, .int .i64 k, .int .i64 0, .string ⟨#[]⟩]) ∧ Kept w w' := by
  have K0 := Lib.hid ((Kept.refl w).alloc #[.string p, .int .i64 1, .int .i64 k, .int .i64 k, .int .i64 0, .string ⟨#[]⟩] 44)
  go_enter Try.func35, Try.ntmps35
  go_wp2
  refine bodyPost_ret (by simp [results, Try.results35, go_sem, *]) rfl ⟨rfl, ?_⟩
  first | exact K0.out | exact ((((((((Kept.refl w).alloc #[.string ⟨#[]⟩, .int .i64 0, .int .i64 0, .int .i64 0, .int .i64 0, .string ⟨#[]⟩] 44).setCell (Nat.le_refl _) _).setCell (Nat.le_refl _) _).setCell (Nat.le_refl _) _).setCell (Nat.le_refl _) _).setCell (Nat.le_refl _) _).setCell (Nat.le_refl _) _)
set_option maxRecDepth 100000 in
set_option maxHeartbeats 4000000 in
theorem fset_any (p : ByteArray) (k : Int) (w : World) :
    Calls Try.prog 36 #[.string p, .int .i64 k] w fun e w' => e = .returned (.agg #[.string p, .int .i64 2, .int .i64 k, .int .i64 0, .int .i64 0, .string ⟨#[]⟩]) ∧ Kept w w' := by
  have K0 := Lib.hid ((Kept.refl w).alloc #[.string p, .int .i64 2, .int .i64 k, .int .i64 0, .int .i64 0, .string ⟨#[]⟩] 44)
  go_enter Try.func36, Try.ntmps36
  go_wp2
  refine bodyPost_ret (by simp [results, Try.results36, go_sem, *]) rfl ⟨rfl, ?_⟩
  first | exact K0.out | exact ((((((((Kept.refl w).alloc #[.string ⟨#[]⟩, .int .i64 0, .int .i64 0, .int .i64 0, .int .i64 0, .string ⟨#[]⟩] 44).setCell (Nat.le_refl _) _).setCell (Nat.le_refl _) _).setCell (Nat.le_refl _) _).setCell (Nat.le_refl _) _).setCell (Nat.le_refl _) _).setCell (Nat.le_refl _) _)
set_option maxRecDepth 100000 in
set_option maxHeartbeats 4000000 in
theorem fctr_any (p : ByteArray) (w : World) :
    Calls Try.prog 37 #[.string p] w fun e w' => e = .returned (.agg #[.string p, .int .i64 3, .int .i64 1, .int .i64 0, .int .i64 0, .string ⟨#[]⟩]) ∧ Kept w w' := by
  have K0 := Lib.hid ((Kept.refl w).alloc #[.string p, .int .i64 3, .int .i64 1, .int .i64 0, .int .i64 0, .string ⟨#[]⟩] 44)
  go_enter Try.func37, Try.ntmps37
  go_wp2
  refine bodyPost_ret (by simp [results, Try.results37, go_sem, *]) rfl ⟨rfl, ?_⟩
  first | exact K0.out | exact ((((((((Kept.refl w).alloc #[.string ⟨#[]⟩, .int .i64 0, .int .i64 0, .int .i64 0, .int .i64 0, .string ⟨#[]⟩] 44).setCell (Nat.le_refl _) _).setCell (Nat.le_refl _) _).setCell (Nat.le_refl _) _).setCell (Nat.le_refl _) _).setCell (Nat.le_refl _) _).setCell (Nat.le_refl _) _)
set_option maxRecDepth 100000 in
set_option maxHeartbeats 4000000 in
theorem fsmall_any (w : World) :
    Calls Try.prog 19 #[] w fun e w' => ∃ b, e = .returned (.agg #[.slice (some ⟨b, 0, none⟩) 4 4]) ∧ Fl w' (some ⟨b, 0, none⟩) 4 4 smL ∧ Kept w w' := by
  have HRES := Lib.hid (Box1.new w (.slice none 0 0) 24)
  have HW := Lib.hid ((Kept.refl w).alloc #[.slice none 0 0] 24)
  go_enter Try.func19, Try.ntmps19
  go_wp2_with fail
  go_at_call 35
  refine (freg_any ⟨#[97, 47, 120]⟩ 1 _).mono ?_
  rintro e v0 ⟨rfl, hk⟩
  replace HW := Lib.hid (HW.out.trans hk); replace HRES := Lib.hid (HRES.out.kept hk)
  clear hk
  go_wp2_with fail
  go_at_call 36
  refine (fset_any ⟨#[97, 47, 121]⟩ 2 _).mono ?_
  rintro e v1 ⟨rfl, hk⟩
  replace HW := Lib.hid (HW.out.trans hk); replace HRES := Lib.hid (HRES.out.kept hk)
  clear hk
  go_wp2_with fail
  go_at_call 37
  refine (fctr_any ⟨#[99]⟩ _).mono ?_
  rintro e v2 ⟨rfl, hk⟩
  replace HW := Lib.hid (HW.out.trans hk); replace HRES := Lib.hid (HRES.out.kept hk)
  clear hk
  go_wp2_with fail
  go_at_call 35
  refine (freg_any ⟨#[109, 47, 42, 47, 116]⟩ 2 _).mono ?_
  rintro e v3 ⟨rfl, hk⟩
  replace HW := Lib.hid (HW.out.trans hk); replace HRES := Lib.hid (HRES.out.kept hk)
  clear hk
  have hka := (Kept.refl v3).alloc #[.string ⟨#[97, 47, 120]⟩, .int .i64 1, .int .i64 1, .int .i64 1, .int .i64 0, .string ⟨#[]⟩, .string ⟨#[97, 47, 121]⟩, .int .i64 2, .int .i64 2, .int .i64 0, .int .i64 0, .string ⟨#[]⟩, .string ⟨#[99]⟩, .int .i64 3, .int .i64 1, .int .i64 0, .int .i64 0, .string ⟨#[]⟩, .string ⟨#[109, 47, 42, 47, 116]⟩, .int .i64 1, .int .i64 2, .int .i64 2, .int .i64 0, .string ⟨#[]⟩] 44
  have hf := fl_new v3 smL 44 #[.string ⟨#[97, 47, 120]⟩, .int .i64 1, .int .i64 1, .int .i64 1, .int .i64 0, .string ⟨#[]⟩, .string ⟨#[97, 47, 121]⟩, .int .i64 2, .int .i64 2, .int .i64 0, .int .i64 0, .string ⟨#[]⟩, .string ⟨#[99]⟩, .int .i64 3, .int .i64 1, .int .i64 0, .int .i64 0, .string ⟨#[]⟩, .string ⟨#[109, 47, 42, 47, 116]⟩, .int .i64 1, .int .i64 2, .int .i64 2, .int .i64 0, .string ⟨#[]⟩] rfl (by simp [smL, maxLen])
  have hr := HRES.out.kept hka
  have rf := hr.f
  have r0 := hr.c0
  have HF := Lib.hid (show ∃ b, Ending.returned (.agg #[.slice (some ⟨v3.heap.size, 0, none⟩) 4 4]) = .returned (.agg #[.slice (some ⟨b, 0, none⟩) 4 4]) ∧ Fl _ (some ⟨b, 0, none⟩) 4 4 smL ∧ Kept w _ from ⟨v3.heap.size, rfl, hr.fl (.slice (some ⟨v3.heap.size, 0, none⟩) 4 4) hf, (HW.out.trans hka).setCell (a := ⟨w.heap.size, 0, none⟩) (Nat.le_refl _) (.slice (some ⟨v3.heap.size, 0, none⟩) 4 4)⟩)
  clear hka hf hr
  go_wp2_with fail
  exact bodyPost_ret (by simp [results, Try.results19, go_sem, *]) rfl HF.out
end Go.Proofs.Ytapcaflmfkcfkaa

