/-
  What is proved: Within of package ctx, called with any right sets that lie in memory, tells whether all of the one is in the other (P6.7); the world has new blocks at most.
-/
import Derived.Test.YtgofecnpmohmgaaGNum
import Derived.Test.YtgofecnpmohmgaaCRight
import Derived.Test.YtgofecnpmohmgaaCComp
import Derived.Test.YtgofecnpmohmgaaCTake
namespace Go.Proofs.Ytgofecnpmohmgaa
open Go.RowKit

theorem within_iff {V V' : List Int} {C C' : List (Int × Int)} (h' : RightC V' C') : (∀ d, hasC V C d → hasC V' C' d) ↔ (∀ (k : Nat) (x : Int), V[k]? = some x → x ≤ atV V' k) ∧ ∀ d ∈ C, hasC V' C' d := by
  constructor
  · intro h
    refine ⟨fun k x hx => ?_, fun d hd => h d (.inr hd)⟩
    have := right_le h'.vec h'.apart h (k : Int)
    rwa [atV_in hx] at this
  · rintro ⟨h1, h2⟩ d (⟨a, b⟩ | hd)
    · refine .inl ⟨a, ?_⟩
      by_cases hr : 0 ≤ d.1 ∧ d.1 < V.length
      · obtain ⟨k, hk⟩ : ∃ k : Nat, d.1 = k := ⟨d.1.toNat, by omega⟩
        have hkl : k < V.length := by omega
        have := h1 k _ (List.getElem?_eq_getElem hkl)
        rw [hk] at b ⊢
        rw [atV_in (List.getElem?_eq_getElem hkl)] at b
        omega
      · rcases Int.lt_or_le d.1 0 with h0 | h0
        · rw [atV_neg V h0] at b; omega
        · rw [atV_out V (by omega)] at b; omega
    · exact h2 d hd

set_option maxRecDepth 100000 in
set_option maxHeartbeats 4000000 in
theorem gwithin_any (A : Option Addr) (n c : Nat) (V : List Int) (B : Option Addr) (m k : Nat) (C : List (Int × Int)) (A' : Option Addr) (n' c' : Nat) (V' : List Int) (B' : Option Addr) (m' k' : Nat) (C' : List (Int × Int)) (w : World)
    (h : Il w A n c V) (hd : Dl w B m k C) (h' : Il w A' n' c' V') (hd' : Dl w B' m' k' C') (hv' : RightC V' C') (hm : m' ≤ 999980) (r : Bool) (hr : r = true ↔ ∀ d, hasC V C d → hasC V' C' d) :
    Calls Try.prog 26 #[.agg #[.slice A n c, .slice B m k], .agg #[.slice A' n' c', .slice B' m' k']] w fun e w' => e = .returned (.bool r) ∧ Kept w w' := by
  have hcap := h.cap.1; have hcap2 := h.cap.2; have hdap := hd.cap.1; have hdap2 := hd.cap.2
  have HN := Lib.hid h.1; have HM := Lib.hid hd.1
  have hK : Kept w ((w.alloc (.cells #[.slice A n c, .slice B m k] 25)).alloc (.cells #[.slice A' n' c', .slice B' m' k'] 25)) := ((Kept.refl w).alloc #[.slice A n c, .slice B m k] 25).alloc #[.slice A' n' c', .slice B' m' k'] 25
  have HI := Lib.hid (h.kept hK); have HD := Lib.hid (hd.kept hK); have HI' := Lib.hid (h'.kept hK); have HD' := Lib.hid (hd'.kept hK)
  have HV' := Lib.hid hv'
  rw [within_iff hv'] at hr
  have HR := Lib.hid hr
  have b0 := Box2.new w (.slice A n c) (.slice B m k) 25 |>.kept ((Kept.refl _).alloc #[.slice A' n' c', .slice B' m' k'] 25)
  have b1 := Box2.new (w.alloc (.cells #[.slice A n c, .slice B m k] 25)) (.slice A' n' c') (.slice B' m' k') 25
  rw [show (w.alloc (.cells #[.slice A n c, .slice B m k] 25)).heap.size = w.heap.size + 1 by simp] at b1
  obtain ⟨U, hU⟩ : ∃ U, (w.alloc (.cells #[.slice A n c, .slice B m k] 25)).alloc (.cells #[.slice A' n' c', .slice B' m' k'] 25) = U := ⟨_, rfl⟩
  rw [hU] at hK HI HD HI' HD' b0 b1
  have HK := Lib.hid hK
  have HX := Lib.hid b0
  have HX' := Lib.hid b1
  have HU := Lib.hid hU
  clear h hd h' hd' hv' hK b0 b1 hr hU
  go_enter Try.func26, Try.ntmps26
  go_wp2_with fail
  go_loopw [14] (fun i wr => ∃ t : Nat, t ≤ n ∧ i = .int .i64 t ∧ Kept U wr ∧ ∀ (j : Nat) (x : Int), j < t → V[j]? = some x → x ≤ atV V' j) (fun i _ => n - (intOf i).toNat)
  case atStart => exact ⟨0, Nat.zero_le _, rfl, by rw [HU.out]; exact Kept.refl _, fun j x hj => absurd hj (by omega)⟩
  case round =>
    obtain ⟨t, ht, rfl, hkr, hall⟩ := hrel
    have HKR := Lib.hid hkr
    have HA := Lib.hid hall
    clear hkr hall
    by_cases hlt : t < n
    · obtain ⟨g, o, x, rfl, hx, g1⟩ := (HI.out.kept HKR.out).get hlt
      have HXV := Lib.hid hx
      obtain ⟨a, ha⟩ : ∃ a, atV V' (t : Int) = a := ⟨_, rfl⟩
      have AA := Lib.hid (num_c A' n' c' V' B' m' k' t a ha wr (HI'.out.kept HKR.out))
      have HAV := Lib.hid ha
      have e0 := (HX'.out.kept HKR.out).c0
      have e1 := (HX'.out.kept HKR.out).c1
      clear hx ha
      by_cases hxa : a < x
      · have d1 : decide (a < x) = true := by simpa using hxa
        have HF := Lib.hid (no_r HR.out fun hh => by have := hh.1 t x HXV.out; rw [HAV.out] at this; omega)
        clear hxa
        go_wp2_with fail
        go_at_call 51
        refine AA.out.mono ?_
        rintro e w5 ⟨rfl, hk5⟩
        go_wp2_with fail
        go_ret
        exact ⟨ret_bool HF.out, HK.out.trans (HKR.out.trans hk5)⟩
      · have d1 : decide (a < x) = false := by simpa using hxa
        have HN2 := Lib.hid (show ∀ (j : Nat) (y : Int), j < t + 1 → V[j]? = some y → y ≤ atV V' j from fun j y hj hy => by
          rcases Nat.lt_or_ge j t with h | h
          · exact HA.out j y h hy
          · obtain rfl : j = t := by omega
            obtain rfl := Option.some.inj (hy.symm.trans HXV.out)
            rw [HAV.out]; omega)
        clear hxa
        go_wp2_with fail
        go_at_call 51
        refine AA.out.mono ?_
        rintro e w5 ⟨rfl, hk5⟩
        clear g1 e0 e1
        go_wp2_with fail
        go_roundw
        case rel => exact ⟨t + 1, hlt, by go_num, HKR.out.trans hk5, HN2.out⟩
        case measure => simp [intOf]; omega
    · have HVV := Lib.hid (show ∀ (j : Nat) (x : Int), V[j]? = some x → x ≤ atV V' j from fun j x hx => HA.out j x (by have := (List.getElem?_eq_some_iff.1 hx).1; have := HN.out; omega) hx)
      have e0 := (HX.out.kept HKR.out).c0
      have e1 := (HX.out.kept HKR.out).c1
      go_wp2_with fail
      clear e0 e1
      go_loopw [28] (fun i wr => ∃ t : Nat, t ≤ m ∧ i = .int .i64 t ∧ Kept U wr ∧ ∀ (j : Nat) (d : Int × Int), j < t → C[j]? = some d → hasC V' C' d) (fun i _ => m - (intOf i).toNat)
      case atStart => exact ⟨0, Nat.zero_le _, rfl, HKR.out, fun j x hj => absurd hj (by omega)⟩
      case round =>
        clear hlt ht
        obtain ⟨t, ht, rfl, hkr, hall⟩ := hrel
        have HK2 := Lib.hid hkr
        have HA2 := Lib.hid hall
        clear hkr hall
        by_cases hlt : t < m
        · obtain ⟨g, o, ⟨y1, y2⟩, rfl, hy, g1, g2⟩ := (HD.out.kept HK2.out).get hlt
          simp only at g1 g2
          have HY := Lib.hid hy
          obtain ⟨q, hq⟩ : ∃ q, decide (((y1, y2) : Int × Int) ∈ C') = q := ⟨_, rfl⟩
          obtain ⟨u, hu⟩ : ∃ u, upB V' (y1, y2) = u := ⟨_, rfl⟩
          have hkb := HK2.out.alloc #[.int .i64 y1, .int .i64 y2] 36
          have AS := Lib.hid (search_any B' m' k' C' y1 y2 (wr.alloc (.cells #[.int .i64 y1, .int .i64 y2] 36)) (HD'.out.kept hkb) HV'.out.rise (by omega))
          have AU := Lib.hid (fun w h => up_any A' n' c' V' B' m' k' y1 y2 w h u hu)
          have HKB := Lib.hid hkb
          have hin : decide (hasC V' C' (y1, y2)) = (u || q) := by rw [hasC_up, hu, hq]
          have HIN := Lib.hid hin
          have hb := Box2.new wr (.int .i64 y1) (.int .i64 y2) 36
          rw [hq] at AS
          have HB := Lib.hid hb
          have e0 := (HX'.out.kept hkb).c0
          have e1 := (HX'.out.kept hkb).c1
          clear hy hq hu hkb hin hb
          cases q with
          | true =>
            have HN2 := Lib.hid (show ∀ (j : Nat) (d : Int × Int), j < t + 1 → C[j]? = some d → hasC V' C' d from fun j d hj hd => by
              rcases Nat.lt_or_ge j t with h | h
              · exact HA2.out j d h hd
              · obtain rfl : j = t := by omega
                obtain rfl := Option.some.inj (hd.symm.trans HY.out)
                have := HIN.out
                rw [Bool.or_true] at this
                exact of_decide_eq_true this)
            go_wp2_with fail
            go_at_call 57
            refine AS.out.mono ?_
            rintro e w5 ⟨p, rfl, _, _, _, hk5⟩
            clear g1 g2 e0 e1
            go_wp2_with fail
            go_roundw
            case rel => exact ⟨t + 1, hlt, by go_num, HKB.out.trans hk5, HN2.out⟩
            case measure => simp [intOf]; omega
          | false =>
            go_wp2_with fail
            go_at_call 57
            refine AS.out.mono ?_
            rintro e w5 ⟨p, rfl, _, _, _, hk5⟩
            have f0 := hk5.cell e0
            have f1 := hk5.cell e1
            have hb5 := HB.out.kept hk5
            have f2 := hb5.c0
            have f3 := hb5.c1
            have AU2 := Lib.hid (AU.out w5 (HI'.out.kept (HKB.out.trans hk5)))
            clear g1 g2 e0 e1 hb5
            cases u with
            | true =>
              have HN2 := Lib.hid (show ∀ (j : Nat) (d : Int × Int), j < t + 1 → C[j]? = some d → hasC V' C' d from fun j d hj hd => by
                rcases Nat.lt_or_ge j t with h | h
                · exact HA2.out j d h hd
                · obtain rfl : j = t := by omega
                  obtain rfl := Option.some.inj (hd.symm.trans HY.out)
                  exact of_decide_eq_true HIN.out)
              go_wp2_with fail
              go_at_call 48
              refine AU2.out.mono ?_
              rintro e w6 ⟨rfl, hk6⟩
              clear f0 f1 f2 f3
              go_wp2_with fail
              go_roundw
              case rel => exact ⟨t + 1, hlt, by go_num, HKB.out.trans (hk5.trans hk6), HN2.out⟩
              case measure => simp [intOf]; omega
            | false =>
              have HF := Lib.hid (no_r HR.out fun hh => of_decide_eq_false HIN.out (hh.2 _ (List.mem_of_getElem? HY.out)))
              go_wp2_with fail
              go_at_call 48
              refine AU2.out.mono ?_
              rintro e w6 ⟨rfl, hk6⟩
              clear f0 f1 f2 f3
              go_wp2_with fail
              go_ret
              exact ⟨ret_bool HF.out, HK.out.trans (HKB.out.trans (hk5.trans hk6))⟩
        · have HCC := Lib.hid (show ∀ d ∈ C, hasC V' C' d from fun d hd => by
            obtain ⟨j, hj⟩ := List.getElem?_of_mem hd
            exact HA2.out j d (by have := (List.getElem?_eq_some_iff.1 hj).1; have := HM.out; omega) hj)
          have HF := Lib.hid (yes_r (b := true) HR.out ⟨fun _ => ⟨HVV.out, HCC.out⟩, fun _ => rfl⟩)
          go_wp2_with fail
          go_ret
          exact ⟨ret_bool HF.out, HK.out.trans HK2.out⟩
end Go.Proofs.Ytgofecnpmohmgaa
