/-
  What is proved: package schema's Take of layer 11 (P11.7), called with any text of up to 100000 bytes, returns what that says; the world has new blocks at most.
  the document's Text of layer 11 (P11.9), called with any schema of bounded lengths, returns what that says; the world has new blocks at most.
  slices.Grow of the nil slice, and slices.Concat of any slices of texts (a million texts at most in all), as the library's text has them, at texts: the result lies in a row of its own and holds the slices' texts, one slice behind the other; the world has new blocks at most.
-/
import Derived.Test.YtjieofiaoepccaaGreatDoorM23
import Derived.Test.YtjieofiaoepccaaGreatDoorM21
import Derived.Test.YtjieofiaoepccaaGreatDoorM22
import Derived.Test.YtjieofiaoepccaaGreatDoorM9
import Derived.Lib.AppendZerosOnto
import Derived.Lib.AppendZeros
import Derived.Lib.SliceRun
import Derived.Lib.Walk
namespace Go.Proofs.YtjieofiaoepccaaGreatDoor
open Go.RowKit
set_option linter.unusedVariables false
open Classical in
set_option maxRecDepth 100000 in
set_option maxHeartbeats 8000000 in
theorem stake_any (s : ByteArray) (w : World) (hs : s.size ≤ 100000) :
    Calls Tryz.prog 8 #[.string s] w (TakS s w) := by
  have hk := (Kept.refl w).alloc #[.slice none 0 0] 24
  have HRES := Lib.hid (Box1.new w (.slice none 0 0) 24)
  have HK := Lib.hid hk
  have hrs := tkR_size s
  clear hk
  by_cases h0 : tkE s ≠ 0
  · obtain ⟨z, hz⟩ : ∃ z : Nat, tkE s = z := ⟨_, rfl⟩
    have f1' : ((z : Int) == 0) = false := by simp; omega
    have f2' : ((z : Int) != 0) = true := by simp; omega
    have HT := Lib.hid (show tscL s = ([], ⟨#[]⟩, z) by unfold tscL; rw [if_pos h0, hz])
    have AK := Lib.hid (fun w => take_c s _ _ (z : Int) rfl rfl (by omega) (by omega) w)
    clear h0 hz hs hrs
    go_enter Tryz.func8, Tryz.ntmps8
    go_wp2_with fail
    go_at_call 30
    refine (AK.out _).mono ?_
    rintro e w1 ⟨rfl, hg⟩
    have hk := kept_of hg
    replace HK := Lib.hid (HK.out.trans hk)
    replace HRES := Lib.hid (HRES.out.kept hk)
    clear hg hk
    have hr := HRES.out
    have rf := hr.f
    have r0 := hr.c0
    clear hr
    have HF := Lib.hid (takS_err HT.out (HK.out.setCell (a := ⟨w.heap.size, 0, none⟩) (Nat.le_refl _) (.slice none 0 0)))
    go_wp2_with fail
    exact bodyPost_ret (by simp [results, Tryz.results8, go_sem, *]) rfl HF.out
  · obtain ⟨a, ha⟩ : ∃ a, tkN s = a := ⟨_, rfl⟩
    by_cases ga : 24 < a
    · have AK := Lib.hid (fun w => take_c s (a : Int) _ 0 (by rw [ha]) rfl (by omega) (by omega) w)
      have g1 : decide ((24 : Int) < (a : Int)) = true := decide_eq_true (by omega)
      have g2 : decide (24 < a) = true := decide_eq_true ga
      have HT := Lib.hid (show tscL s = ([], ⟨#[]⟩, 4) by unfold tscL; rw [if_neg h0, if_pos (by omega)])
      clear h0 ha ga hs hrs
      go_enter Tryz.func8, Tryz.ntmps8
      go_wp2_with fail
      go_at_call 30
      refine (AK.out _).mono ?_
      rintro e w1 ⟨rfl, hg⟩
      have hk := kept_of hg
      replace HK := Lib.hid (HK.out.trans hk)
      replace HRES := Lib.hid (HRES.out.kept hk)
      clear hg hk
      have hr := HRES.out
      have rf := hr.f
      have r0 := hr.c0
      clear hr
      have HF := Lib.hid (takS_err (z := 4) HT.out (HK.out.setCell (a := ⟨w.heap.size, 0, none⟩) (Nat.le_refl _) (.slice none 0 0)))
      go_wp2_with fail
      exact bodyPost_ret (by simp [results, Tryz.results8, go_sem, *]) rfl HF.out
    · obtain ⟨r, hr⟩ : ∃ r, tkR s = r := ⟨_, rfl⟩
      have AK := Lib.hid (fun w => take_c s (a : Int) r 0 (by rw [ha]) hr (by omega) (by omega) w)
      have g1 : decide ((24 : Int) < (a : Int)) = false := decide_eq_false (by omega)
      have g2 : decide (24 < a) = false := decide_eq_false ga
      have hw1 : IntKind.i64.wrap (a : Int) = (a : Int) := by rw [IntWalk.i64_in _ (by omega)]
      have ha24 : a ≤ 24 := by omega
      have hrs2 : r.size ≤ 100000 := by rw [← hr]; omega
      have HTT := Lib.hid (show tscL s = if (takeFs a [] r).2.2 ≠ 0 then ([], ⟨#[]⟩, (takeFs a [] r).2.2) else if ScOk (takeFs a [] r).1 then ((takeFs a [] r).1, (takeFs a [] r).2.1, 0) else ([], ⟨#[]⟩, 3) by
        unfold tscL
        rw [if_neg h0, if_neg (by omega), ha, hr])
      clear h0 ha ga hs hrs hr
      go_enter Tryz.func8, Tryz.ntmps8
      go_wp2_with fail
      go_at_call 30
      refine (AK.out _).mono ?_
      rintro e w1 ⟨rfl, hg⟩
      have hk := kept_of hg
      replace HK := Lib.hid (HK.out.trans hk)
      replace HRES := Lib.hid (HRES.out.kept hk)
      have hka := (Kept.refl w1).alloc #[.slice none 0 0] 24
      have HB7 := Lib.hid (Box1.new w1 (.slice none 0 0) 24)
      have HLB := Lib.hid (show w.heap.size + 1 ≤ w1.heap.size by have := HRES.out.lt; omega)
      replace HK := Lib.hid (HK.out.trans hka)
      replace HRES := Lib.hid (HRES.out.kept hka)
      obtain ⟨b7, hb7⟩ : ∃ b, w1.heap.size = b := ⟨_, rfl⟩
      obtain ⟨U, hU⟩ : ∃ U, w1.alloc (.cells #[.slice none 0 0] 24) = U := ⟨_, rfl⟩
      rw [hU] at HK HRES HB7
      rw [hb7] at HB7 HLB
      have HUU := Lib.hid hU
      have HBB := Lib.hid hb7
      clear hg hk hka hU hb7
      go_wp2_with fail
      rw [HUU.out, HBB.out]
      have hb7U := HB7.out.lt
      go_loopw [6, 26] (fun v i wr => ∃ (t : Nat) (s1 : ByteArray) (L : List Fd) (u : Value), t ≤ a ∧ i = .int .u64 t ∧ v = .string s1 ∧ s1.size ≤ 100000 ∧ L.length = t ∧ takeFs (a - t) L s1 = takeFs a [] r ∧ (∀ x ∈ L, x.p.size ≤ 1000 ∧ x.vt.size ≤ 1000) ∧ TakM b7 U wr u L) (fun _ i _ => a - (intOf i).toNat)
      case atStart => exact ⟨0, r, [], .slice none 0 0, Nat.zero_le _, rfl, rfl, hrs2, rfl, rfl, (fun x hx => (by cases hx)), TakM.start HB7.out⟩
      case round =>
        obtain ⟨t, s1, L, u, ht, rfl, rfl, hs1, hll, htk, hsm, hm⟩ := hrel
        obtain ⟨A3, c3, rfl, hf3⟩ := hm.form
        rw [hll] at hm hf3
        have HM := Lib.hid hm; have HTK := Lib.hid htk; have HSM := Lib.hid hsm; have HLL := Lib.hid hll; have HF3 := Lib.hid hf3
        have h31 := hf3.cap.1; have h32 := hf3.cap.2
        have HKW := Lib.hid (hm.ke.kept HK.out (by have := HLB.out; omega))
        have HRW := Lib.hid (HRES.out.keptE hm.ke (by have := HLB.out; omega))
        clear hm htk hsm hll hf3
        by_cases hlt : t < a
        · have hadd : IntKind.u64.wrap ((t : Int) + 1) = ((t + 1 : Nat) : Int) := by rw [IntKind.wrap_u64]; omega
          obtain ⟨x, hx⟩ : ∃ x, tfX s1 = x := ⟨_, rfl⟩
          obtain ⟨y, hy⟩ : ∃ y, tfR s1 = y := ⟨_, rfl⟩
          obtain ⟨q, hq⟩ : ∃ q, tfE s1 = q := ⟨_, rfl⟩
          have AF := Lib.hid (fun w => stf_any s1 w hs1)
          rw [hx, hy, hq] at AF
          by_cases hq0 : q = 0
          · have hz := tf_sizes (s := s1) (by rw [hq]; exact hq0)
            rw [hx, hy] at hz
            have hys : y.size ≤ 100000 := by omega
            have HSM2 := Lib.hid (show ∀ v ∈ L ++ [x], v.p.size ≤ 1000 ∧ v.vt.size ≤ 1000 from fun v hv => by
              rw [List.mem_append, List.mem_singleton] at hv
              rcases hv with hv | rfl
              · exact HSM.out v hv
              · exact ⟨hz.1, hz.2.1⟩)
            have HN := Lib.hid (show takeFs (a - (t + 1)) (L ++ [x]) y = takeFs a [] r by
              rw [← HTK.out, show a - t = (a - (t + 1)) + 1 by omega, takeFs_ok (by rw [hq]; exact hq0), hx, hy])
            rw [hq0] at AF
            clear hx hy hq hq0 hz
            go_wp2_with fail
            go_at_call 31
            refine (AF.out _).mono ?_
            rintro e w5 ⟨rfl, hk5⟩
            have hk6 := (hk5.trans ((Kept.refl w5).alloc #[.string x.p, .int .i64 x.k, .int .i64 x.t, .int .i64 x.vk, .int .i64 x.vn, .string x.vt] 30)).trans ((Kept.refl (w5.alloc (.cells #[.string x.p, .int .i64 x.k, .int .i64 x.t, .int .i64 x.vk, .int .i64 x.vn, .string x.vt] 30))).alloc #[.string x.p, .int .i64 x.k, .int .i64 x.t, .int .i64 x.vk, .int .i64 x.vn, .string x.vt] 30)
            have HE5 := FdB.new w5 x 30
            have hone := fl_one (FdB.new (w5.alloc (.cells #[.string x.p, .int .i64 x.k, .int .i64 x.t, .int .i64 x.vk, .int .i64 x.vn, .string x.vt] 30)) x 30)
            obtain ⟨v8, w8, hr8, hc8, hf8, hm8⟩ := TakM.app (HLL.out ▸ HM.out.kept hk6 : TakM b7 U _ (.slice A3 t c3) L) hb7U _ _ _ _ hone (by have := HLL.out; omega)
            rw [show (w5.alloc (.cells #[.string x.p, .int .i64 x.k, .int .i64 x.t, .int .i64 x.vk, .int .i64 x.vn, .string x.vt] 30)).heap.size = w5.heap.size + 1 by simp] at hr8
            obtain ⟨A8, c8, rfl, hfo8⟩ := hm8.form
            have hl8 : (L ++ [x]).length = t + 1 := by rw [List.length_append, HLL.out]; rfl
            have HL8 := Lib.hid hl8
            rw [hl8] at hr8 hm8 hfo8
            have h81 := hfo8.cap.1; have h82 := hfo8.cap.2
            have HR8 := Lib.hid hr8; have HM8 := Lib.hid hm8
            have b0 := ((HM.out.box.kept hk5).kept ((Kept.refl w5).alloc #[.string x.p, .int .i64 x.k, .int .i64 x.t, .int .i64 x.vk, .int .i64 x.vn, .string x.vt] 30)).c0
            have x0 := HE5.c0; have x1 := HE5.c1; have x2 := HE5.c2; have x3 := HE5.c3; have x4 := HE5.c4; have x5 := HE5.c5
            have hf80 := hf8 0
            clear hr8 hm8 hone hk5 hk6 HE5 hf8 hl8 hfo8
            go_wp2_with (at_builtin; refine Lib.wpList_append_run _ rfl (.tmp 39) (.tmp 41) _ _ rfl _ _ rfl rfl _ _ HR8.out ?_)
            go_roundw
            case rel => exact ⟨t + 1, y, L ++ [x], _, hlt, by first | rfl | go_num, rfl, hys, HL8.out, HN.out, HSM2.out, HM8.out⟩
            case measure => simp [intOf]; omega
          · have f1' : ((q : Int) == 0) = false := by simp; omega
            have f2' : ((q : Int) != 0) = true := by simp; omega
            have HT := Lib.hid (show tscL s = ([], ⟨#[]⟩, q) by
              have e : takeFs a [] r = ([], ⟨#[]⟩, q) := by
                rw [← HTK.out, show a - t = (a - (t + 1)) + 1 by omega, takeFs_err (by rw [hq]; exact hq0), hq]
              rw [HTT.out, e, if_pos hq0])
            clear hx hy hq hq0
            go_wp2_with fail
            go_at_call 31
            refine (AF.out _).mono ?_
            rintro e w5 ⟨rfl, hk5⟩
            have hk6 := hk5.trans ((Kept.refl w5).alloc #[.string x.p, .int .i64 x.k, .int .i64 x.t, .int .i64 x.vk, .int .i64 x.vn, .string x.vt] 30)
            have hr := HRW.out.kept hk6
            have rf := hr.f
            have r0 := hr.c0
            have HKF := Lib.hid (HKW.out.trans hk6)
            clear hr hk5 hk6
            have HF := Lib.hid (takS_err HT.out (HKF.out.setCell (a := ⟨w.heap.size, 0, none⟩) (Nat.le_refl _) (.slice none 0 0)))
            go_wp2_with fail
            exact bodyPost_ret (by simp [results, Tryz.results8, go_sem, *]) rfl HF.out
        · have hta : t = a := by omega
          have HALL := Lib.hid (show takeFs a [] r = (L, s1, 0) by rw [← HTK.out, hta, Nat.sub_self]; rfl)
          rw [hta] at HLL ⊢
          rw [hta] at HF3 HM h31
          clear hlt ht hta
          have b0 := HM.out.box.c0
          obtain ⟨ok, hok⟩ : ∃ b : Bool, b = true ↔ ScOk L := by
            by_cases e : ScOk L
            · exact ⟨true, fun _ => e, fun _ => rfl⟩
            · exact ⟨false, (fun h => by cases h), fun h => absurd h e⟩
          have AR := Lib.hid (ssc_any A3 a c3 L wr HF3.out (fun v hv => ⟨Nat.le_trans (HSM.out v hv).1 (by decide), Nat.le_trans (HSM.out v hv).2 (by decide)⟩) ok hok)
          have HOK := Lib.hid hok
          clear hok
          go_wp2_with fail
          go_at_call 13
          refine AR.out.mono ?_
          rintro e w6 ⟨rfl, hk6⟩
          have hr := HRW.out.kept hk6
          have rf := hr.f
          have r0 := hr.c0
          have HKF := Lib.hid (HKW.out.trans hk6)
          have HFF := Lib.hid (HF3.out.kept hk6)
          have HRF := Lib.hid (HRW.out.kept hk6)
          have b1 := hk6.cell b0
          clear hr hk6 b0
          cases ok with
          | false =>
            have HT := Lib.hid (show tscL s = ([], ⟨#[]⟩, 3) by
              rw [HTT.out, HALL.out, if_neg (by simp), if_neg (fun h => by have := HOK.out.2 h; cases this)])
            have HF := Lib.hid (takS_err (z := 3) HT.out (HKF.out.setCell (a := ⟨w.heap.size, 0, none⟩) (Nat.le_refl _) (.slice none 0 0)))
            go_wp2_with fail
            exact bodyPost_ret (by simp [results, Tryz.results8, go_sem, *]) rfl HF.out
          | true =>
            have HT := Lib.hid (show tscL s = (L, s1, 0) by
              rw [HTT.out, HALL.out, if_neg (by simp), if_pos (HOK.out.1 rfl)])
            have HF := Lib.hid (show TakS s w (.returned (.tuple #[.agg #[.slice A3 a c3], .string s1, .int .i64 0])) (w6.setCell ⟨w.heap.size, 0, none⟩ (.slice A3 a c3)) by
              have h1 := takS_ok HT.out (A := A3) (c := c3) (w := w) (w' := w6.setCell ⟨w.heap.size, 0, none⟩ (.slice A3 a c3)) (by rw [HLL.out]; exact HRF.out.fl _ HFF.out) (HKF.out.setCell (a := ⟨w.heap.size, 0, none⟩) (Nat.le_refl _) _)
              rw [HLL.out] at h1
              exact h1)
            go_wp2_with fail
            exact bodyPost_ret (by simp [results, Tryz.results8, go_sem, *]) rfl HF.out
end Go.Proofs.YtjieofiaoepccaaGreatDoor

namespace Go.Proofs.YtjieofiaoepccaaGreatDoor
open Go.RowKit
set_option linter.unusedVariables false

def textScL (L : List Fd) (t : Nat) : ByteArray := (L.take t).foldl (fun b x => b ++ lineF x) ⟨#[]⟩
theorem textScL_all (L : List Fd) : textScL L L.length = textSc L := by unfold textScL textSc; rw [List.take_length]
theorem textScL_step {L : List Fd} {t : Nat} {x : Fd} (h : L[t]? = some x) : textScL L (t + 1) = textScL L t ++ lineF x := by
  unfold textScL
  rw [List.take_add_one, h, Option.toList_some, List.foldl_append]
  rfl
theorem textVf_size (k n : Int) (t : ByteArray) (h1 : -9223372036854775808 ≤ n) (h2 : n ≤ 9223372036854775807) : (textV k n t).size ≤ 21 + t.size := by
  have := itoaS_size n h1 h2
  unfold textV
  repeat' split
  · omega
  · rw [ByteArray.size_append]; show 1 + _ ≤ _; omega
  · show 2 ≤ _; omega
  · show 3 ≤ _; omega
  · show 1 ≤ _; omega
set_option maxRecDepth 100000 in
set_option maxHeartbeats 8000000 in
theorem rftext_any (A : Option Addr) (n c : Nat) (L : List Fd) (w : World) (h : Fl w A n c L) (hn : n ≤ 40) (hw : ∀ x ∈ L, FdS x) :
    Calls Tryz.prog 20 #[.agg #[.slice A n c]] w fun e w' => e = .returned (.string (textSc L)) ∧ Kept w w' := by
  have hk := (Kept.refl w).alloc #[.slice A n c] 24
  have hcap := h.cap.1; have hcap2 := h.cap.2
  have HNL := Lib.hid h.1; have HSZ := Lib.hid hw
  have HB := Lib.hid (Box1.new w (.slice A n c) 24)
  have HH := Lib.hid (h.kept hk)
  have hk1 := ((Kept.refl (w.alloc (.cells #[.slice A n c] 24))).alloc #[.string ⟨#[63]⟩, .string ⟨#[114, 101, 103]⟩, .string ⟨#[115, 101, 116]⟩, .string ⟨#[99, 116, 114]⟩] 72)
  have hk2 := ((Kept.refl ((w.alloc (.cells #[.slice A n c] 24)).alloc (.cells #[.string ⟨#[63]⟩, .string ⟨#[114, 101, 103]⟩, .string ⟨#[115, 101, 116]⟩, .string ⟨#[99, 116, 114]⟩] 72))).alloc #[.string ⟨#[63]⟩, .string ⟨#[105, 110, 116]⟩, .string ⟨#[116, 101, 120, 116]⟩, .string ⟨#[98, 111, 111, 108]⟩] 72)
  have K0 : ∀ i v, (#[Value.string ⟨#[63]⟩, .string ⟨#[114, 101, 103]⟩, .string ⟨#[115, 101, 116]⟩, .string ⟨#[99, 116, 114]⟩] : Array Value)[i]? = some v → ((w.alloc (.cells #[.slice A n c] 24)).alloc (.cells #[.string ⟨#[63]⟩, .string ⟨#[114, 101, 103]⟩, .string ⟨#[115, 101, 116]⟩, .string ⟨#[99, 116, 114]⟩] 72)).cell? ⟨w.heap.size + 1, i, none⟩ = some v := fun i v hv => by
    have := (Kept.refl ((w.alloc (.cells #[.slice A n c] 24)).alloc (.cells #[.string ⟨#[63]⟩, .string ⟨#[114, 101, 103]⟩, .string ⟨#[115, 101, 116]⟩, .string ⟨#[99, 116, 114]⟩] 72))).box i v hv
    rwa [show (w.alloc (.cells #[.slice A n c] 24)).heap.size = w.heap.size + 1 by simp] at this
  have T0 : ∀ i v, (#[Value.string ⟨#[63]⟩, .string ⟨#[105, 110, 116]⟩, .string ⟨#[116, 101, 120, 116]⟩, .string ⟨#[98, 111, 111, 108]⟩] : Array Value)[i]? = some v → (((w.alloc (.cells #[.slice A n c] 24)).alloc (.cells #[.string ⟨#[63]⟩, .string ⟨#[114, 101, 103]⟩, .string ⟨#[115, 101, 116]⟩, .string ⟨#[99, 116, 114]⟩] 72)).alloc (.cells #[.string ⟨#[63]⟩, .string ⟨#[105, 110, 116]⟩, .string ⟨#[116, 101, 120, 116]⟩, .string ⟨#[98, 111, 111, 108]⟩] 72)).cell? ⟨w.heap.size + 2, i, none⟩ = some v := fun i v hv => by
    have := (Kept.refl (((w.alloc (.cells #[.slice A n c] 24)).alloc (.cells #[.string ⟨#[63]⟩, .string ⟨#[114, 101, 103]⟩, .string ⟨#[115, 101, 116]⟩, .string ⟨#[99, 116, 114]⟩] 72)).alloc (.cells #[.string ⟨#[63]⟩, .string ⟨#[105, 110, 116]⟩, .string ⟨#[116, 101, 120, 116]⟩, .string ⟨#[98, 111, 111, 108]⟩] 72))).box i v hv
    rwa [show ((w.alloc (.cells #[.slice A n c] 24)).alloc (.cells #[.string ⟨#[63]⟩, .string ⟨#[114, 101, 103]⟩, .string ⟨#[115, 101, 116]⟩, .string ⟨#[99, 116, 114]⟩] 72)).heap.size = w.heap.size + 2 by simp] at this
  obtain ⟨U, hU⟩ : ∃ U, (((w.alloc (.cells #[.slice A n c] 24)).alloc (.cells #[.string ⟨#[63]⟩, .string ⟨#[114, 101, 103]⟩, .string ⟨#[115, 101, 116]⟩, .string ⟨#[99, 116, 114]⟩] 72)).alloc (.cells #[.string ⟨#[63]⟩, .string ⟨#[105, 110, 116]⟩, .string ⟨#[116, 101, 120, 116]⟩, .string ⟨#[98, 111, 111, 108]⟩] 72)) = U := ⟨_, rfl⟩
  replace K0 : ∀ i v, (#[Value.string ⟨#[63]⟩, .string ⟨#[114, 101, 103]⟩, .string ⟨#[115, 101, 116]⟩, .string ⟨#[99, 116, 114]⟩] : Array Value)[i]? = some v → U.cell? ⟨w.heap.size + 1, i, none⟩ = some v := fun i v hv => by rw [← hU]; exact hk2.cell (K0 i v hv)
  rw [hU] at T0
  have HK := Lib.hid (show Kept w U by rw [← hU]; exact hk.trans (hk1.trans hk2))
  replace HB := Lib.hid (show Box1 U w.heap.size (.slice A n c) by rw [← hU]; exact HB.out.kept (hk1.trans hk2))
  replace HH := Lib.hid (show Fl U A n c L by rw [← hU]; exact HH.out.kept (hk1.trans hk2))
  have d0 := HB.out.c0
  have d1 := d0
  rw [← hU] at d1
  have HUU := Lib.hid hU
  have HK0 := Lib.hid K0; have HT0 := Lib.hid T0
  clear h hw hk hk1 hk2 hU K0 T0
  go_enter Tryz.func20, Tryz.ntmps20
  go_wp2_with fail
  rw [HUU.out]
  clear d0 d1
  go_loopw [5, 13] (fun v i wr => ∃ (t : Nat) (s : ByteArray), t ≤ n ∧ i = .int .i64 t ∧ v = .string s ∧ s = textScL L t ∧ s.size ≤ t * 560 ∧ Kept U wr) (fun _ i _ => n - (intOf i).toNat)
  case atStart => exact ⟨0, ⟨#[]⟩, Nat.zero_le _, rfl, rfl, rfl, by show 0 ≤ _; omega, Kept.refl _⟩
  case round =>
    obtain ⟨t, s, ht, rfl, rfl, hs, hsz, hkr⟩ := hrel
    have HS := Lib.hid hs; have HKR := Lib.hid hkr
    clear hs hkr
    by_cases hlt : t < n
    · obtain ⟨g, o, x, rfl, hx, EX⟩ := (HH.out.kept HKR.out).get hlt
      have hst := textScL_step hx
      rw [← HS.out] at hst
      have hfs := HSZ.out x (List.mem_of_getElem? hx)
      have hand1 := i64_and3 x.k; have hand2 := i64_and3 x.t
      obtain ⟨m1, hm1, hm14⟩ : ∃ m : Nat, x.k % 4 = (m : Int) ∧ m < 4 := ⟨(x.k % 4).toNat, by omega, by omega⟩
      obtain ⟨m2, hm2, hm24⟩ : ∃ m : Nat, x.t % 4 = (m : Int) ∧ m < 4 := ⟨(x.t % 4).toNat, by omega, by omega⟩
      obtain ⟨kx, hkx, hkz, hkc⟩ : ∃ kx, kindT x.k = kx ∧ kx.size ≤ 4 ∧ U.cell? ⟨w.heap.size + 1, m1, none⟩ = some (.string kx) := by
        unfold kindT
        match m1, hm1, hm14 with
        | 0, hm1, _ => exact ⟨⟨#[63]⟩, by rw [if_neg (by omega), if_neg (by omega), if_neg (by omega)], by decide, HK0.out 0 _ rfl⟩
        | 1, hm1, _ => exact ⟨⟨#[114, 101, 103]⟩, by rw [if_pos (by omega)], by decide, HK0.out 1 _ rfl⟩
        | 2, hm1, _ => exact ⟨⟨#[115, 101, 116]⟩, by rw [if_neg (by omega), if_pos (by omega)], by decide, HK0.out 2 _ rfl⟩
        | 3, hm1, _ => exact ⟨⟨#[99, 116, 114]⟩, by rw [if_neg (by omega), if_neg (by omega), if_pos (by omega)], by decide, HK0.out 3 _ rfl⟩
      obtain ⟨tx, htx, htz, htc⟩ : ∃ tx, typeT x.t = tx ∧ tx.size ≤ 4 ∧ U.cell? ⟨w.heap.size + 2, m2, none⟩ = some (.string tx) := by
        unfold typeT
        match m2, hm2, hm24 with
        | 0, hm2, _ => exact ⟨⟨#[63]⟩, by rw [if_neg (by omega), if_neg (by omega), if_neg (by omega)], by decide, HT0.out 0 _ rfl⟩
        | 1, hm2, _ => exact ⟨⟨#[105, 110, 116]⟩, by rw [if_pos (by omega)], by decide, HT0.out 1 _ rfl⟩
        | 2, hm2, _ => exact ⟨⟨#[116, 101, 120, 116]⟩, by rw [if_neg (by omega), if_pos (by omega)], by decide, HT0.out 2 _ rfl⟩
        | 3, hm2, _ => exact ⟨⟨#[98, 111, 111, 108]⟩, by rw [if_neg (by omega), if_neg (by omega), if_pos (by omega)], by decide, HT0.out 3 _ rfl⟩
      have q1 := hfs.p; have q2 := hfs.vt
      have p1 : ((⟨#[32]⟩ : ByteArray)).size = 1 := rfl
      have p2 : ((⟨#[10]⟩ : ByteArray)).size = 1 := rfl
      have zt := textVf_size x.vk x.vn x.vt hfs.lo hfs.hi
      obtain ⟨vx, hvx⟩ : ∃ vx, textV x.vk x.vn x.vt = vx := ⟨_, rfl⟩
      have AT := Lib.hid (fun w => rtextV_any x.vk x.vn x.vt w hfs.lo hfs.hi (by omega))
      rw [hvx] at AT zt
      have x0 := EX.c0; have x1 := EX.c1; have x2 := EX.c2; have x3 := EX.c3; have x4 := EX.c4; have x5 := EX.c5
      have hka := (Kept.refl wr).alloc #[.string x.p, .int .i64 x.k, .int .i64 x.t, .int .i64 x.vk, .int .i64 x.vn, .string x.vt] 30
      have HE := Lib.hid (FdB.new wr x 30)
      have HKA := Lib.hid (HKR.out.trans hka)
      obtain ⟨W1, hW1⟩ : ∃ W1, wr.alloc (.cells #[.string x.p, .int .i64 x.k, .int .i64 x.t, .int .i64 x.vk, .int .i64 x.vn, .string x.vt] 30) = W1 := ⟨_, rfl⟩
      rw [hW1] at HE HKA
      have HW1 := Lib.hid hW1
      rw [hm1] at hand1
      rw [hm2] at hand2
      have HLN := Lib.hid (show lineF x = x.p ++ ⟨#[32]⟩ ++ kx ++ ⟨#[32]⟩ ++ tx ++ (if x.k = 1 then ⟨#[32]⟩ ++ vx else ⟨#[]⟩) ++ ⟨#[10]⟩ by unfold lineF; rw [hkx, htx, hvx])
      have HST := Lib.hid hst
      have CK := Lib.hid (HKA.out.cell hkc); have CT := Lib.hid (HKA.out.cell htc)
      clear hst hfs hx EX hka hW1 hkx htx hvx hm1 hm2 hkc htc
      go_wp2_with fail
      rw [HW1.out]
      clear x0 x1 x2 x3 x4 x5
      have c0 := KExt.cell HE.out.c0; have c1 := KExt.cell HE.out.c1; have c2 := KExt.cell HE.out.c2
      have ck := KExt.cell CK.out; have ct := KExt.cell CT.out
      refine region_kept _ (by kernel_rfl) (by kernel_rfl) (Kept.refl _) ?_
      repeat (go_big_quiet_step (fail))
      refine wpQuiet_nil ?_
      intro G
      obtain ⟨w3, hw3⟩ : ∃ w3, G.w = w3 := ⟨_, rfl⟩
      have hk3 := G.g
      rw [hw3] at hk3 ⊢
      replace HE := Lib.hid (HE.out.kept hk3)
      replace HKA := Lib.hid (HKA.out.trans hk3)
      obtain ⟨s2, hs2⟩ : ∃ s2, s ++ (x.p ++ ⟨#[32]⟩ ++ kx ++ ⟨#[32]⟩ ++ tx) = s2 := ⟨_, rfl⟩
      have hz2 : s2.size ≤ s.size + 210 := by rw [← hs2]; simp only [ByteArray.size_append]; omega
      have HS2 := Lib.hid hs2
      rw [hs2]
      clear hk3 hw3 G c0 c1 c2 ck ct CK CT hs2
      have y1 := HE.out.c1; have y3 := HE.out.c3; have y4 := HE.out.c4; have y5 := HE.out.c5
      by_cases h1 : x.k = 1
      · have e1 : (x.k == 1) = true := beq_iff_eq.2 h1
        have HN := Lib.hid (show s2 ++ (⟨#[32]⟩ ++ vx) ++ ⟨#[10]⟩ = textScL L (t + 1) by
          rw [HST.out, HLN.out, if_pos h1, ← HS2.out]
          simp only [ba_assoc])
        have hz3 : (s2 ++ (⟨#[32]⟩ ++ vx) ++ ⟨#[10]⟩).size ≤ (t + 1) * 560 := by simp only [ByteArray.size_append]; omega
        clear h1
        go_wp2_with fail
        go_at_call 51
        refine (AT.out _).mono ?_
        rintro e w4 ⟨rfl, hg⟩
        have HKE := Lib.hid (HKA.out.trans (kept_of hg))
        clear hg y1 y3 y4 y5
        go_wp2_with fail
        go_roundw
        case rel => exact ⟨t + 1, _, hlt, by go_num, rfl, HN.out, hz3, HKE.out⟩
        case measure => simp [intOf]; omega
      · have e1 : (x.k == 1) = false := by simpa using h1
        have HN := Lib.hid (show s2 ++ ⟨#[10]⟩ = textScL L (t + 1) by
          rw [HST.out, HLN.out, if_neg h1, ← HS2.out]
          simp only [ba_assoc, ba_nil])
        have hz3 : (s2 ++ ⟨#[10]⟩).size ≤ (t + 1) * 560 := by simp only [ByteArray.size_append]; omega
        clear h1
        go_wp2_with fail
        clear y1 y3 y4 y5
        go_roundw
        case rel => exact ⟨t + 1, _, hlt, by go_num, rfl, HN.out, hz3, HKA.out⟩
        case measure => simp [intOf]; omega
    · have htt : t = n := by omega
      have HF := Lib.hid (show s = textSc L by rw [HS.out, htt, HNL.out]; exact textScL_all L)
      rw [htt]
      clear hlt htt hsz ht
      go_wp2_with fail
      go_ret
      exact ⟨ret_str HF.out, HK.out.trans HKR.out⟩
end Go.Proofs.YtjieofiaoepccaaGreatDoor

namespace Go.Proofs.YtjieofiaoepccaaGreatDoor.L4
open Go.RowKit

/-- A slice of texts, nil let in. -/
def Src (w : World) (A : Option Addr) (n c : Nat) (L : List ByteArray) : Prop := (A = none ∧ n = 0 ∧ c = 0 ∧ L = []) ∨ ∃ ad, A = some ad ∧ Sl w ad n c L
theorem Src.ke {w w' : World} {A : Option Addr} {n c : Nat} {L : List ByteArray} (h : Src w A n c L) (hk : Ke w w') : Src w' A n c L :=
  h.elim .inl fun ⟨ad, e, hs⟩ => .inr ⟨ad, e, hs.ke hk⟩
theorem Src.len {w : World} {A : Option Addr} {n c : Nat} {L : List ByteArray} (h : Src w A n c L) : L.length = n := by
  rcases h with ⟨_, rfl, _, rfl⟩ | ⟨ad, _, hs⟩
  · rfl
  · exact hs.1.symm
theorem Src.cap {w : World} {A : Option Addr} {n c : Nat} {L : List ByteArray} (h : Src w A n c L) : n ≤ c ∧ c ≤ maxLen := by
  rcases h with ⟨_, rfl, rfl, rfl⟩ | ⟨ad, _, hs⟩
  · exact ⟨Nat.le_refl _, by simp [maxLen]⟩
  · exact ⟨hs.2.1, hs.2.2.1⟩

theorem app_src (w : World) (base : Nat) (v : Value) (n : Nat) (xs : List Value) (h : w.ownsRow base 9 1 v n xs) (A : Option Addr) (m c : Nat) (L : List ByteArray) (hs : Src w A m c L) (hb : n + m ≤ 8000000000000) (hbase : base ≤ w.heap.size) :
    ∃ v' w', (Builtin.append_ #[54, 54] 54 #[v, .slice A m c]).run Tryz.prog w = .ok v' w' ∧ w'.ownsRow base 9 1 v' (n + m) (xs ++ L.map strV) ∧ w.grownBy w' v.ownBlock ∧ (v' = .slice none 0 0 → v = .slice none 0 0) := by
  obtain ⟨i0, hi0, hz0, hz1, hz2⟩ := info_parts infoStr
  rcases hs with ⟨rfl, rfl, rfl, rfl⟩ | ⟨ad, rfl, h1, h2, h3, h4, h5⟩
  · exact ⟨v, w, run_append_owned_none w base _ _ _ i0 1 Tryz.underlying54 hi0 v n xs h, by simpa using h, World.grownBy.refl w _, id⟩
  · obtain ⟨v', w', hr, ho, hg, hv⟩ := run_append_own (P := Tryz.prog) w base 54 54 9 i0 (.string ⟨#[]⟩) 1 16 Tryz.underlying54 hi0 hz0 hz1 hz2 rfl (by decide) v n xs h ad m c (L.map strV)
      (by rw [List.length_map, h1, Nat.mul_one]) (fun j u hj => by
        rw [List.getElem?_map] at hj
        obtain ⟨x, hx, rfl⟩ := Option.map_eq_some_iff.1 hj
        exact h5 j x hx) (strV_one _) (by simp only [maxLen]; omega) (by omega) hbase
    exact ⟨v', w', hr, ho, hg, fun e => (hv.1 e).1⟩

structure S4 where
  A : Option Addr
  n : Nat
  c : Nat
  L : List ByteArray
def totK (SS : List S4) (k : Nat) : Nat := ((SS.take k).map (·.n)).sum
def catK (SS : List S4) (k : Nat) : List ByteArray := (SS.take k).flatMap (·.L)
theorem totK_succ (SS : List S4) (k : Nat) (s : S4) (h : SS[k]? = some s) : totK SS (k + 1) = totK SS k + s.n := by
  unfold totK; rw [List.take_add_one, h]; simp
theorem catK_succ (SS : List S4) (k : Nat) (s : S4) (h : SS[k]? = some s) : catK SS (k + 1) = catK SS k ++ s.L := by
  unfold catK; rw [List.take_add_one, h]; simp
theorem totK_le (SS : List S4) (k : Nat) : totK SS k ≤ totK SS SS.length := by
  unfold totK
  rw [List.take_length]
  induction SS generalizing k with
  | nil => simp
  | cons a r ih =>
    cases k with
    | zero => simp
    | succ k => have := ih k; simp only [List.take_succ_cons, List.map_cons, List.sum_cons]; omega

end Go.Proofs.YtjieofiaoepccaaGreatDoor.L4

