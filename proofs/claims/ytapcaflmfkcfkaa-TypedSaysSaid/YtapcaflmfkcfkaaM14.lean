/-
  What is proved: package schema's FieldRight of layer 11 (P11.1), called with any field of bounded texts, returns what that says; path's questions with Kept; the world has new blocks at most.
  package schema's Find of layer 11 (P11.4), called with any schema and path of bounded texts, returns the first field that the path matches; the world has new blocks at most.
  package typed's Fits and All (P12.1, P12.2), called with any schema and entries of bounded texts, return what the chapter says; the world has new blocks at most.
  the document's Default of layer 12 (P12.4), called with any schema and path of bounded texts, returns what the chapter says; the world has new blocks at most.
  package typed's Default (P12.4), called with any schema and path of bounded texts, returns what the chapter says; the world has new blocks at most.
  this program bears the library's slices.Sorted, maps.Keys and slices.Sort at texts: its numbers here, laid for the library's contracts.
-/
import Derived.Test.YtapcaflmfkcfkaaM8
import Derived.Test.YtapcaflmfkcfkaaM10
import Derived.Test.YtapcaflmfkcfkaaM9
import Derived.Test.YtapcaflmfkcfkaaM3
import Derived.Test.YtapcaflmfkcfkaaM11
import Derived.Test.YtapcaflmfkcfkaaM13
import Derived.Test.YtapcaflmfkcfkaaERight
import Derived.Shelf.SlIter.Nil
import Derived.Shelf.SortM.Plain
import Derived.Shelf.SortM.SortNone
import Derived.Test.YtapcaflmfkcfkaaProg
namespace Go.Proofs.Ytapcaflmfkcfkaa
open Go.RowKit
set_option linter.unusedVariables false

theorem matK (p q : ByteArray) (b : Bool) (h : L4.matS p q = b) (hp : p.size ≤ 1099511627776) (hq : q.size ≤ 1099511627776) (w : World) :
    Calls Try.prog 34 #[.string p, .string q] w fun e w' => e = .returned (.bool b) ∧ Kept w w' := by
  subst h
  exact (L4.mat_any p q w hp hq).mono fun _ _ ⟨he, hk⟩ => ⟨he, kept_of_below hk⟩
end Go.Proofs.Ytapcaflmfkcfkaa

namespace Go.Proofs.Ytapcaflmfkcfkaa
open Go.RowKit
set_option linter.unusedVariables false
set_option maxRecDepth 100000 in
set_option maxHeartbeats 8000000 in
theorem sfind_any (A : Option Addr) (n c : Nat) (L : List Fd) (p : ByteArray) (w : World) (h : Fl w A n c L) (hw : ∀ x ∈ L, x.p.size ≤ 1099511627776) (hp : p.size ≤ 1099511627776) (y : Fd) (z : Bool) (hyz : findR L p = (y, z)) :
    Calls Try.prog 17 #[.agg #[.slice A n c], .string p] w fun e w' => e = .returned (.tuple #[.agg #[.string y.p, .int .i64 y.k, .int .i64 y.t, .int .i64 y.vk, .int .i64 y.vn, .string y.vt], .bool z]) ∧ Kept w w' := by
  have hk := ((Kept.refl w).alloc #[.slice A n c] 24).alloc #[.string ⟨#[]⟩, .int .i64 0, .int .i64 0, .int .i64 0, .int .i64 0, .string ⟨#[]⟩] 44
  have hcap := h.cap.1; have hcap2 := h.cap.2
  have HNL := Lib.hid h.1; have HSZ := Lib.hid hw; have HP := Lib.hid hp; have HY := Lib.hid hyz
  have HB := Lib.hid ((Box1.new w (.slice A n c) 24).kept ((Kept.refl _).alloc #[.string ⟨#[]⟩, .int .i64 0, .int .i64 0, .int .i64 0, .int .i64 0, .string ⟨#[]⟩] 44))
  have hr := FdB.new (w.alloc (.cells #[.slice A n c] 24)) .none 44
  simp only [Fd.none] at hr
  rw [show (w.alloc (.cells #[.slice A n c] 24)).heap.size = w.heap.size + 1 by simp] at hr
  have HH := Lib.hid (h.kept hk)
  obtain ⟨U, hU⟩ : ∃ U, (w.alloc (.cells #[.slice A n c] 24)).alloc (.cells #[.string ⟨#[]⟩, .int .i64 0, .int .i64 0, .int .i64 0, .int .i64 0, .string ⟨#[]⟩] 44) = U := ⟨_, rfl⟩
  rw [hU] at hk HB HH hr
  have HK := Lib.hid hk; have HUU := Lib.hid hU; have HRES := Lib.hid hr
  have d0 := HB.out.c0
  clear h hw hp hyz hk hU hr
  go_enter Try.func17, Try.ntmps17
  go_wp2_with fail
  rw [HUU.out]
  go_wp2_with fail
  clear d0
  go_loopw [11] (fun i wr => ∃ t : Nat, t ≤ n ∧ i = .int .i64 t ∧ Kept U wr ∧ ∀ x ∈ L.take t, L4.matS p x.p = false) (fun i _ => n - (intOf i).toNat)
  case atStart => exact ⟨0, Nat.zero_le _, rfl, Kept.refl _, fun x hx => by simp at hx⟩
  case round =>
    obtain ⟨t, ht, rfl, hkr, hall⟩ := hrel
    have HKR := Lib.hid hkr; have HA := Lib.hid hall
    clear hkr hall
    by_cases hlt : t < n
    · obtain ⟨g, o, x, rfl, hx, EX⟩ := (HH.out.kept HKR.out).get hlt
      have x0 := EX.c0; have x1 := EX.c1; have x2 := EX.c2; have x3 := EX.c3; have x4 := EX.c4; have x5 := EX.c5
      have HE := Lib.hid (FdB.new wr x 44)
      have z0 := HE.out.c0
      have HXX := Lib.hid hx
      have hka := (Kept.refl wr).alloc #[.string x.p, .int .i64 x.k, .int .i64 x.t, .int .i64 x.vk, .int .i64 x.vn, .string x.vt] 44
      have HKA := Lib.hid hka
      obtain ⟨b, hb⟩ : ∃ b, L4.matS p x.p = b := ⟨_, rfl⟩
      have AM := Lib.hid (fun w => matK p x.p b hb HP.out (HSZ.out x (List.mem_of_getElem? HXX.out)) w)
      have HBB := Lib.hid hb
      clear EX hx hka hb
      go_wp2_with fail
      go_at_call 34
      refine (AM.out _).mono ?_
      rintro e w1 ⟨rfl, hk1⟩
      have HK1 := Lib.hid (HKR.out.trans (HKA.out.trans hk1))
      replace HE := Lib.hid (HE.out.kept hk1)
      clear hk1 z0 x0 x1 x2 x3 x4 x5
      cases b with
      | true =>
        have hyz := HY.out
        rw [findR_at HXX.out HBB.out HA.out] at hyz
        obtain ⟨rfl, rfl⟩ := Prod.mk.inj hyz
        have hr := HRES.out.kept HK1.out
        have rf := hr.f
        have r0 := hr.c0; have r1 := hr.c1; have r2 := hr.c2; have r3 := hr.c3; have r4 := hr.c4; have r5 := hr.c5
        have z0 := HE.out.c0; have z1 := HE.out.c1; have z2 := HE.out.c2; have z3 := HE.out.c3; have z4 := HE.out.c4; have z5 := HE.out.c5
        clear hyz hr
        go_wp2_with fail
        refine bodyPost_ret (by simp [results, Try.results17, go_sem, *]) rfl ⟨rfl, ?_⟩
        exact ((((((HK.out.trans HK1.out).setCell (Nat.le_add_right _ 1) _).setCell (Nat.le_add_right _ 1) _).setCell (Nat.le_add_right _ 1) _).setCell (Nat.le_add_right _ 1) _).setCell (Nat.le_add_right _ 1) _).setCell (Nat.le_add_right _ 1) _
      | false =>
        have HN := Lib.hid (show ∀ y ∈ L.take (t + 1), L4.matS p y.p = false from fun y hy => by
          rw [List.take_add_one, HXX.out, Option.toList_some, List.mem_append, List.mem_singleton] at hy
          rcases hy with hy | rfl
          · exact HA.out y hy
          · exact HBB.out)
        go_wp2_with fail
        go_roundw
        case rel => exact ⟨t + 1, hlt, by go_num, HK1.out, HN.out⟩
        case measure => simp [intOf]; omega
    · obtain rfl : t = n := by omega
      have hyz := HY.out
      rw [findR_none (fun y hy => HA.out y (by rw [List.take_of_length_le (by rw [← HNL.out]; exact Nat.le_refl _)]; exact hy))] at hyz
      obtain ⟨rfl, rfl⟩ := Prod.mk.inj hyz
      have hr := HRES.out.kept HKR.out
      have rf := hr.f
      have r0 := hr.c0; have r1 := hr.c1; have r2 := hr.c2; have r3 := hr.c3; have r4 := hr.c4; have r5 := hr.c5
      clear hyz hr
      go_wp2_with fail
      refine bodyPost_ret (by simp [results, Try.results17, go_sem, Fd.none, *]) rfl ⟨rfl, ?_⟩
      exact ((((((HK.out.trans HKR.out).setCell (Nat.le_add_right _ 1) _).setCell (Nat.le_add_right _ 1) _).setCell (Nat.le_add_right _ 1) _).setCell (Nat.le_add_right _ 1) _).setCell (Nat.le_add_right _ 1) _).setCell (Nat.le_add_right _ 1) _
end Go.Proofs.Ytapcaflmfkcfkaa

namespace Go.Proofs.Ytapcaflmfkcfkaa
open Go.RowKit
set_option linter.unusedVariables false

set_option maxRecDepth 100000 in
set_option maxHeartbeats 8000000 in
theorem tfits_any (A : Option Addr) (n c : Nat) (L : List Fd) (x : En) (w : World) (h : Fl w A n c L) (hw : ∀ y ∈ L, y.p.size ≤ 1099511627776) (sp : x.p.size ≤ 1099511627776) (st : x.vt.size ≤ 1099511627776) (b : Bool) (hb : fitsE L x = b) :
    Calls Try.prog 7 #[.agg #[.slice A n c], .agg #[.int .i64 x.d.1, .int .i64 x.d.2, .string x.p, .int .i64 x.k, .int .i64 x.vk, .int .i64 x.vn, .string x.vt, .int .i64 x.e.1, .int .i64 x.e.2]] w fun e w' => e = .returned (.bool b) ∧ Kept w w' := by
  have hk := ((Kept.refl w).alloc #[.slice A n c] 24).alloc #[.int .i64 x.d.1, .int .i64 x.d.2, .string x.p, .int .i64 x.k, .int .i64 x.vk, .int .i64 x.vn, .string x.vt, .int .i64 x.e.1, .int .i64 x.e.2] 33
  have hB := (Box1.new w (.slice A n c) 24).kept ((Kept.refl _).alloc #[.int .i64 x.d.1, .int .i64 x.d.2, .string x.p, .int .i64 x.k, .int .i64 x.vk, .int .i64 x.vn, .string x.vt, .int .i64 x.e.1, .int .i64 x.e.2] 33)
  have he := Ent.new (w.alloc (.cells #[.slice A n c] 24)) x 33
  rw [show (w.alloc (.cells #[.slice A n c] 24)).heap.size = w.heap.size + 1 by simp] at he
  have hh := h.kept hk
  obtain ⟨U, hU⟩ : ∃ U, (w.alloc (.cells #[.slice A n c] 24)).alloc (.cells #[.int .i64 x.d.1, .int .i64 x.d.2, .string x.p, .int .i64 x.k, .int .i64 x.vk, .int .i64 x.vn, .string x.vt, .int .i64 x.e.1, .int .i64 x.e.2] 33) = U := ⟨_, rfl⟩
  rw [hU] at hk hB hh he
  have HK := Lib.hid hk; have HUU := Lib.hid hU; have HE := Lib.hid he; have HB := Lib.hid hB; have HH := Lib.hid hh
  obtain ⟨y, z, hyz⟩ : ∃ y z, findR L x.p = (y, z) := ⟨_, _, rfl⟩
  obtain ⟨r, hr⟩ : ∃ r, rightE x = r := ⟨_, rfl⟩
  have AF := Lib.hid (fun w h => sfind_any A n c L x.p w h hw sp y z hyz)
  have AR := Lib.hid (fun w => eright_c x r hr w sp st)
  have HFIT := Lib.hid (show (z && (r && (y.k == x.k && y.t == x.vk))) = b by rw [← hb]; exact (fitsE_at hyz hr).symm)
  have d0 := HB.out.c0
  have e0 := HE.out.c0
  have e1 := HE.out.c1
  have e2 := HE.out.c2
  have e3 := HE.out.c3
  have e4 := HE.out.c4
  have e5 := HE.out.c5
  have e6 := HE.out.c6
  have e7 := HE.out.c7
  have e8 := HE.out.c8
  clear h hw hk hU he hB hh hyz hr sp st hb
  go_enter Try.func7, Try.ntmps7
  go_wp2_with fail
  rw [HUU.out]
  go_wp2_with fail
  go_at_call 16
  refine (AR.out _).mono ?_
  rintro e w1 ⟨rfl, hk1⟩
  replace HK := Lib.hid (HK.out.trans hk1); replace HB := Lib.hid (HB.out.kept hk1); replace HE := Lib.hid (HE.out.kept hk1); replace HH := Lib.hid (HH.out.kept hk1)
  clear hk1 d0 e0 e1 e2 e3 e4 e5 e6 e7 e8
  cases r with
  | false =>
    have HF := Lib.hid (show false = b by rw [← HFIT.out]; cases z <;> rfl)
    go_wp2_with fail
    go_ret
    exact ⟨ret_bool HF.out, HK.out⟩
  | true =>
    have d0 := HB.out.c0; have e2 := HE.out.c2
    go_wp2_with fail
    go_at_call 17
    refine (AF.out _ HH.out).mono ?_
    rintro e w2 ⟨rfl, hk1⟩
    have hka := (Kept.refl w2).alloc #[.string y.p, .int .i64 y.k, .int .i64 y.t, .int .i64 y.vk, .int .i64 y.vn, .string y.vt] 44
    have hg := FdB.new w2 y 44
    have he := HE.out.kept (hk1.trans hka)
    have HKA := Lib.hid (HK.out.trans (hk1.trans hka))
    clear d0 e2
    have g1 := hg.c1; have g2 := hg.c2; have e3 := he.c3; have e4 := he.c4
    clear hk1 hka hg he
    cases z with
    | false =>
      have HF := Lib.hid (show false = b by rw [← HFIT.out]; rfl)
      go_wp2_with fail
      go_ret
      exact ⟨ret_bool HF.out, HKA.out⟩
    | true =>
      by_cases q : y.k = x.k
      · by_cases q2 : y.t = x.vk
        · have HF := Lib.hid (show true = b by rw [← HFIT.out, q, q2]; simp)
          have p1 : (y.k == x.k) = true := by rw [q]; simp
          have p2 : (y.t == x.vk) = true := by rw [q2]; simp
          have p3 : decide (y.k = x.k) = true := decide_eq_true q
          have p4 : decide (y.t = x.vk) = true := decide_eq_true q2
          clear q q2
          go_wp2_with fail
          go_ret
          exact ⟨ret_bool HF.out, HKA.out⟩
        · have p2 : (y.t == x.vk) = false := by simpa using q2
          have HF := Lib.hid (show false = b by rw [← HFIT.out, p2]; simp)
          have p1 : (y.k == x.k) = true := by rw [q]; simp
          have p3 : decide (y.k = x.k) = true := decide_eq_true q
          have p4 : decide (y.t = x.vk) = false := decide_eq_false q2
          clear q q2
          go_wp2_with fail
          go_ret
          exact ⟨ret_bool HF.out, HKA.out⟩
      · have p1 : (y.k == x.k) = false := by simpa using q
        have HF := Lib.hid (show false = b by rw [← HFIT.out, p1]; simp)
        have p3 : decide (y.k = x.k) = false := decide_eq_false q
        clear q
        go_wp2_with fail
        go_ret
        exact ⟨ret_bool HF.out, HKA.out⟩
set_option maxRecDepth 100000 in
set_option maxHeartbeats 8000000 in
theorem tall_any (A : Option Addr) (n c : Nat) (L : List Fd) (A2 : Option Addr) (m k : Nat) (M : List En) (w : World) (h : Fl w A n c L) (hw : ∀ y ∈ L, y.p.size ≤ 1099511627776) (h2 : El w A2 m k M) (hs : ∀ x ∈ M, x.p.size ≤ 1099511627776 ∧ x.vt.size ≤ 1099511627776) (b : Bool) (hb : allE L M = b) :
    Calls Try.prog 13 #[.agg #[.slice A n c], .slice A2 m k] w fun e w' => e = .returned (.bool b) ∧ Kept w w' := by
  have hk := (Kept.refl w).alloc #[.slice A n c] 24
  have hcap := h2.cap.1; have hcap2 := h2.cap.2
  have HNL := Lib.hid h2.1; have HSZ := Lib.hid hs; have HWW := Lib.hid hw; have HY := Lib.hid hb
  have hB := Box1.new w (.slice A n c) 24
  have hh := h.kept hk; have hh2 := h2.kept hk
  obtain ⟨U, hU⟩ : ∃ U, w.alloc (.cells #[.slice A n c] 24) = U := ⟨_, rfl⟩
  rw [hU] at hk hB hh hh2
  have HK := Lib.hid hk; have HUU := Lib.hid hU; have HB := Lib.hid hB; have HH := Lib.hid hh; have HM := Lib.hid hh2
  clear h hw h2 hs hb hk hU hB hh hh2
  go_enter Try.func13, Try.ntmps13
  go_wp2_with fail
  rw [HUU.out]
  go_loopw [9] (fun i wr => ∃ t : Nat, t ≤ m ∧ i = .int .i64 t ∧ Kept U wr ∧ ∀ x ∈ M.take t, fitsE L x = true) (fun i _ => m - (intOf i).toNat)
  case atStart => exact ⟨0, Nat.zero_le _, rfl, Kept.refl _, fun x hx => by simp at hx⟩
  case round =>
    obtain ⟨t, ht, rfl, hkr, hall⟩ := hrel
    have HKR := Lib.hid hkr; have HA := Lib.hid hall
    clear hkr hall
    by_cases hlt : t < m
    · obtain ⟨g, o, x, rfl, hx, EX⟩ := (HM.out.kept HKR.out).get hlt
      have x0 := EX.c0; have x1 := EX.c1; have x2 := EX.c2; have x3 := EX.c3; have x4 := EX.c4; have x5 := EX.c5; have x6 := EX.c6; have x7 := EX.c7; have x8 := EX.c8
      have HXX := Lib.hid hx
      have hka := (Kept.refl wr).alloc #[.int .i64 x.d.1, .int .i64 x.d.2, .string x.p, .int .i64 x.k, .int .i64 x.vk, .int .i64 x.vn, .string x.vt, .int .i64 x.e.1, .int .i64 x.e.2] 33
      have hE := Ent.new wr x 33
      have e0 := hE.c0; have e1 := hE.c1; have e2 := hE.c2; have e3 := hE.c3; have e4 := hE.c4; have e5 := hE.c5; have e6 := hE.c6; have e7 := hE.c7; have e8 := hE.c8
      have d0 := (HB.out.kept (HKR.out.trans hka)).c0
      obtain ⟨bb, hbb⟩ : ∃ bb, fitsE L x = bb := ⟨_, rfl⟩
      have hsx := HSZ.out x (List.mem_of_getElem? hx)
      have AF := Lib.hid (fun w h => tfits_any A n c L x w h HWW.out hsx.1 hsx.2 bb hbb)
      have HKA := Lib.hid (HKR.out.trans hka); have HBB := Lib.hid hbb
      clear EX hx hka hE hbb hsx
      go_wp2_with fail
      go_at_call 7
      refine (AF.out _ (HH.out.kept HKA.out)).mono ?_
      rintro e w1 ⟨rfl, hk1⟩
      have HK1 := Lib.hid (HKA.out.trans hk1)
      clear hk1 x0 x1 x2 x3 x4 x5 x6 x7 x8 e0 e1 e2 e3 e4 e5 e6 e7 e8 d0
      cases bb with
      | false =>
        have HF := Lib.hid (show false = b by rw [← HY.out]; exact (allE_no HXX.out HBB.out).symm)
        go_wp2_with fail
        go_ret
        exact ⟨ret_bool HF.out, HK.out.trans HK1.out⟩
      | true =>
        have HN := Lib.hid (show ∀ y ∈ M.take (t + 1), fitsE L y = true from fun y hy => by
          rcases (mem_take_succ HXX.out y).1 hy with h | rfl
          · exact HA.out y h
          · exact HBB.out)
        go_wp2_with fail
        go_roundw
        case rel => exact ⟨t + 1, hlt, by go_num, HK1.out, HN.out⟩
        case measure => simp [intOf]; omega
    · obtain rfl : t = m := by omega
      have HF := Lib.hid (show true = b by
        rw [← HY.out]
        exact (allE_yes fun x hx => HA.out x (by rw [List.take_of_length_le (by rw [← HNL.out]; exact Nat.le_refl _)]; exact hx)).symm)
      go_wp2_with fail
      go_ret
      exact ⟨ret_bool HF.out, HK.out.trans HKR.out⟩
end Go.Proofs.Ytapcaflmfkcfkaa

namespace Go.Proofs.Ytapcaflmfkcfkaa
open Go.RowKit
set_option linter.unusedVariables false

theorem defR_at {L : List Fd} {p : ByteArray} {y : Fd} {z r : Bool} (h : findR L p = (y, z)) (hr : L4.rightS p = r) : defR L p = if r = true ∧ z = true then (if y.k = 1 then ((y.vk, y.vn, y.vt), 0) else if y.k = 3 then ((1, 0, ⟨#[]⟩), 0) else ((0, 0, ⟨#[]⟩), 0)) else ((0, 0, ⟨#[]⟩), 6) := by
  unfold defR
  rw [h, hr]
/-- A value in a block of its own. -/
structure VaB (w : World) (b : Nat) (k n : Int) (t : ByteArray) : Prop where
  c0 : w.cell? ⟨b, 0, none⟩ = some (.int .i64 k)
  c1 : w.cell? ⟨b, 1, none⟩ = some (.int .i64 n)
  c2 : w.cell? ⟨b, 2, none⟩ = some (.string t)
  f : ∀ j, w.frozen? ⟨b, j, none⟩ = false
  lt : b < w.heap.size
theorem VaB.kept {w w' : World} {b : Nat} {k n : Int} {t : ByteArray} (h : VaB w b k n t) (hg : Kept w w') : VaB w' b k n t :=
  ⟨hg.cell h.c0, hg.cell h.c1, hg.cell h.c2, fun j => (hg.2.1 ⟨b, j, none⟩ h.lt).trans (h.f j), Nat.lt_of_lt_of_le h.lt hg.2.2⟩
theorem VaB.new (w : World) (k n : Int) (t : ByteArray) (ty : TypeId) : VaB (w.alloc (.cells #[.int .i64 k, .int .i64 n, .string t] ty)) w.heap.size k n t :=
  ⟨(Kept.refl _).box 0 _ rfl, (Kept.refl _).box 1 _ rfl, (Kept.refl _).box 2 _ rfl, fun j => by rw [frozen?_alloc_cells]; simp [World.frozen?], by simp⟩
/-- What Default hands back. -/
def DefV (v : (Int × Int × ByteArray) × Int) : Value := .tuple #[.agg #[.int .i64 v.1.1, .int .i64 v.1.2.1, .string v.1.2.2], .int .i64 v.2]
set_option maxRecDepth 100000 in
set_option maxHeartbeats 8000000 in
theorem rdef_any (A : Option Addr) (n c : Nat) (L : List Fd) (p : ByteArray) (w : World) (h : Fl w A n c L) (hw : ∀ y ∈ L, y.p.size ≤ 1099511627776) (sp : p.size ≤ 1099511627776) (v : (Int × Int × ByteArray) × Int) (hv : defR L p = v) :
    Calls Try.prog 12 #[.agg #[.slice A n c], .string p] w fun e w' => e = .returned (DefV v) ∧ Kept w w' := by
  have hk := ((Kept.refl w).alloc #[.slice A n c] 24).alloc #[.int .i64 0, .int .i64 0, .string ⟨#[]⟩] 31
  have hB := (Box1.new w (.slice A n c) 24).kept ((Kept.refl _).alloc #[.int .i64 0, .int .i64 0, .string ⟨#[]⟩] 31)
  have he := VaB.new (w.alloc (.cells #[.slice A n c] 24)) 0 0 ⟨#[]⟩ 31
  rw [show (w.alloc (.cells #[.slice A n c] 24)).heap.size = w.heap.size + 1 by simp] at he
  have hh := h.kept hk
  obtain ⟨U, hU⟩ : ∃ U, (w.alloc (.cells #[.slice A n c] 24)).alloc (.cells #[.int .i64 0, .int .i64 0, .string ⟨#[]⟩] 31) = U := ⟨_, rfl⟩
  rw [hU] at hk hB hh he
  have HK := Lib.hid hk; have HUU := Lib.hid hU; have HE := Lib.hid he; have HB := Lib.hid hB; have HH := Lib.hid hh
  obtain ⟨y, z, hyz⟩ : ∃ y z, findR L p = (y, z) := ⟨_, _, rfl⟩
  obtain ⟨r, hr⟩ : ∃ r, L4.rightS p = r := ⟨_, rfl⟩
  have AF := Lib.hid (fun w h => rfind_any A n c L p w h hw sp y z hyz)
  have AR := Lib.hid (fun w => rpath_c p r hr sp w)
  have HDEF := Lib.hid ((defR_at hyz hr).symm.trans hv)
  have d0 := HB.out.c0
  clear h hw hk hU he hB hh hyz hr sp hv
  go_enter Try.func12, Try.ntmps12
  go_wp2_with fail
  rw [HUU.out]
  go_wp2_with fail
  go_at_call 21
  refine (AF.out _ HH.out).mono ?_
  rintro e w1 ⟨rfl, hk1⟩
  have hka := (Kept.refl w1).alloc #[.string y.p, .int .i64 y.k, .int .i64 y.t, .int .i64 y.vk, .int .i64 y.vn, .string y.vt] 44
  have HG := Lib.hid (FdB.new w1 y 44)
  have HKA := Lib.hid (hk1.trans hka)
  clear hk1 hka d0
  go_wp2_with fail
  go_at_call 26
  refine (AR.out _).mono ?_
  rintro e w3 ⟨rfl, hk3⟩
  have hg := HG.out.kept hk3; have he := HE.out.kept (HKA.out.trans hk3)
  have HK3 := Lib.hid (HKA.out.trans hk3)
  have g1 := hg.c1; have g2 := hg.c2; have g3 := hg.c3; have g4 := hg.c4; have g5 := hg.c5
  have v0 := he.c0; have v1 := he.c1; have v2 := he.c2; have vf := he.f
  clear hk3 hg he
  cases r with
  | false =>
    have hd := HDEF.out
    rw [if_neg (by simp)] at hd
    obtain rfl := hd
    go_wp2_with fail
    refine bodyPost_ret (by simp [results, Try.results12, go_sem, DefV, *]) rfl ⟨rfl, ?_⟩
    exact (((HK.out.trans HK3.out).setCell (Nat.le_add_right _ 1) _).setCell (Nat.le_add_right _ 1) _).setCell (Nat.le_add_right _ 1) _
  | true =>
    cases z with
    | false =>
      have hd := HDEF.out
      rw [if_neg (by simp)] at hd
      obtain rfl := hd
      go_wp2_with fail
      refine bodyPost_ret (by simp [results, Try.results12, go_sem, DefV, *]) rfl ⟨rfl, ?_⟩
      exact (((HK.out.trans HK3.out).setCell (Nat.le_add_right _ 1) _).setCell (Nat.le_add_right _ 1) _).setCell (Nat.le_add_right _ 1) _
    | true =>
      by_cases q : y.k = 1
      · have p1 : (y.k == 1) = true := by rw [q]; rfl
        have p2 : decide (y.k = 1) = true := decide_eq_true q
        have hd := HDEF.out
        rw [if_pos (by simp), if_pos q] at hd
        obtain rfl := hd
        clear q
        go_wp2_with fail
        refine bodyPost_ret (by simp [results, Try.results12, go_sem, DefV, *]) rfl ⟨rfl, ?_⟩
        exact (((HK.out.trans HK3.out).setCell (Nat.le_add_right _ 1) _).setCell (Nat.le_add_right _ 1) _).setCell (Nat.le_add_right _ 1) _
      · have p1 : (y.k == 1) = false := by simpa using q
        have p2 : decide (y.k = 1) = false := decide_eq_false q
        by_cases q3 : y.k = 3
        · have p3 : (y.k == 3) = true := by rw [q3]; rfl
          have p4 : decide (y.k = 3) = true := decide_eq_true q3
          have hd := HDEF.out
          rw [if_pos (by simp), if_neg q, if_pos q3] at hd
          obtain rfl := hd
          clear q q3
          go_wp2_with fail
          go_at_call 27
          refine (rzero_any 1 _).mono ?_
          rintro e w4 ⟨rfl, hg4⟩
          have hk4 := kept_of hg4
          have he := HE.out.kept (HK3.out.trans hk4)
          replace HK3 := Lib.hid (HK3.out.trans hk4)
          clear hk4 hg4 v0 v1 v2 vf g1 g2 g3 g4 g5
          have v0 := he.c0; have v1 := he.c1; have v2 := he.c2; have vf := he.f
          clear he
          go_wp2_with fail
          refine bodyPost_ret (by simp [results, Try.results12, go_sem, DefV, zeroK, *]) rfl ⟨rfl, ?_⟩
          exact (((HK.out.trans HK3.out).setCell (Nat.le_add_right _ 1) _).setCell (Nat.le_add_right _ 1) _).setCell (Nat.le_add_right _ 1) _
        · have p3 : (y.k == 3) = false := by simpa using q3
          have p4 : decide (y.k = 3) = false := decide_eq_false q3
          have hd := HDEF.out
          rw [if_pos (by simp), if_neg q, if_neg q3] at hd
          obtain rfl := hd
          clear q q3
          go_wp2_with fail
          refine bodyPost_ret (by simp [results, Try.results12, go_sem, DefV, *]) rfl ⟨rfl, ?_⟩
          exact (((HK.out.trans HK3.out).setCell (Nat.le_add_right _ 1) _).setCell (Nat.le_add_right _ 1) _).setCell (Nat.le_add_right _ 1) _
end Go.Proofs.Ytapcaflmfkcfkaa

namespace Go.Proofs.Ytapcaflmfkcfkaa
open Go.RowKit
set_option linter.unusedVariables false

set_option maxRecDepth 100000 in
set_option maxHeartbeats 8000000 in
theorem tdef_any (A : Option Addr) (n c : Nat) (L : List Fd) (p : ByteArray) (w : World) (h : Fl w A n c L) (hw : ∀ y ∈ L, y.p.size ≤ 1099511627776) (sp : p.size ≤ 1099511627776) (v : (Int × Int × ByteArray) × Int) (hv : defR L p = v) :
    Calls Try.prog 11 #[.agg #[.slice A n c], .string p] w fun e w' => e = .returned (DefV v) ∧ Kept w w' := by
  have hk := ((Kept.refl w).alloc #[.slice A n c] 24).alloc #[.int .i64 0, .int .i64 0, .string ⟨#[]⟩] 31
  have hB := (Box1.new w (.slice A n c) 24).kept ((Kept.refl _).alloc #[.int .i64 0, .int .i64 0, .string ⟨#[]⟩] 31)
  have he := VaB.new (w.alloc (.cells #[.slice A n c] 24)) 0 0 ⟨#[]⟩ 31
  rw [show (w.alloc (.cells #[.slice A n c] 24)).heap.size = w.heap.size + 1 by simp] at he
  have hh := h.kept hk
  obtain ⟨U, hU⟩ : ∃ U, (w.alloc (.cells #[.slice A n c] 24)).alloc (.cells #[.int .i64 0, .int .i64 0, .string ⟨#[]⟩] 31) = U := ⟨_, rfl⟩
  rw [hU] at hk hB hh he
  have HK := Lib.hid hk; have HUU := Lib.hid hU; have HE := Lib.hid he; have HB := Lib.hid hB; have HH := Lib.hid hh
  obtain ⟨y, z, hyz⟩ : ∃ y z, findR L p = (y, z) := ⟨_, _, rfl⟩
  obtain ⟨r, hr⟩ : ∃ r, L4.rightS p = r := ⟨_, rfl⟩
  have AF := Lib.hid (fun w h => sfind_any A n c L p w h hw sp y z hyz)
  have AR := Lib.hid (fun w => path_c p r hr sp w)
  have HDEF := Lib.hid ((defR_at hyz hr).symm.trans hv)
  have d0 := HB.out.c0
  clear h hw hk hU he hB hh hyz hr sp hv
  go_enter Try.func11, Try.ntmps11
  go_wp2_with fail
  rw [HUU.out]
  go_wp2_with fail
  go_at_call 25
  refine (AR.out _).mono ?_
  rintro e w1 ⟨rfl, hk1⟩
  have he := HE.out.kept hk1
  have HK3 := Lib.hid hk1
  have d1 := (HB.out.kept hk1).c0
  have v0 := he.c0; have v1 := he.c1; have v2 := he.c2; have vf := he.f
  clear hk1 he d0
  cases r with
  | false =>
    have hd := HDEF.out
    rw [if_neg (by simp)] at hd
    obtain rfl := hd
    go_wp2_with fail
    refine bodyPost_ret (by simp [results, Try.results11, go_sem, DefV, *]) rfl ⟨rfl, ?_⟩
    exact (((HK.out.trans HK3.out).setCell (Nat.le_add_right _ 1) _).setCell (Nat.le_add_right _ 1) _).setCell (Nat.le_add_right _ 1) _
  | true =>
    go_wp2_with fail
    go_at_call 17
    refine (AF.out _ (HH.out.kept HK3.out)).mono ?_
    rintro e w2 ⟨rfl, hk1⟩
    have hka := (Kept.refl w2).alloc #[.string y.p, .int .i64 y.k, .int .i64 y.t, .int .i64 y.vk, .int .i64 y.vn, .string y.vt] 44
    have hg := FdB.new w2 y 44
    replace HK3 := Lib.hid (HK3.out.trans (hk1.trans hka))
    have he := HE.out.kept HK3.out
    clear d1 v0 v1 v2 vf
    have g1 := hg.c1; have g2 := hg.c2; have g3 := hg.c3; have g4 := hg.c4; have g5 := hg.c5
    have v0 := he.c0; have v1 := he.c1; have v2 := he.c2; have vf := he.f
    clear hk1 hka hg he
    cases z with
    | false =>
      have hd := HDEF.out
      rw [if_neg (by simp)] at hd
      obtain rfl := hd
      go_wp2_with fail
      refine bodyPost_ret (by simp [results, Try.results11, go_sem, DefV, *]) rfl ⟨rfl, ?_⟩
      exact (((HK.out.trans HK3.out).setCell (Nat.le_add_right _ 1) _).setCell (Nat.le_add_right _ 1) _).setCell (Nat.le_add_right _ 1) _
    | true =>
      by_cases q : y.k = 1
      · have p1 : (y.k == 1) = true := by rw [q]; rfl
        have p2 : decide (y.k = 1) = true := decide_eq_true q
        have hd := HDEF.out
        rw [if_pos (by simp), if_pos q] at hd
        obtain rfl := hd
        clear q
        go_wp2_with fail
        refine bodyPost_ret (by simp [results, Try.results11, go_sem, DefV, *]) rfl ⟨rfl, ?_⟩
        exact (((HK.out.trans HK3.out).setCell (Nat.le_add_right _ 1) _).setCell (Nat.le_add_right _ 1) _).setCell (Nat.le_add_right _ 1) _
      · have p1 : (y.k == 1) = false := by simpa using q
        have p2 : decide (y.k = 1) = false := decide_eq_false q
        by_cases q3 : y.k = 3
        · have p3 : (y.k == 3) = true := by rw [q3]; rfl
          have p4 : decide (y.k = 3) = true := decide_eq_true q3
          have hd := HDEF.out
          rw [if_pos (by simp), if_neg q, if_pos q3] at hd
          obtain rfl := hd
          clear q q3
          go_wp2_with fail
          go_at_call 18
          refine (vzero_any 1 _).mono ?_
          rintro e w4 ⟨rfl, hg4⟩
          have hk4 := kept_of hg4
          have he := HE.out.kept (HK3.out.trans hk4)
          replace HK3 := Lib.hid (HK3.out.trans hk4)
          clear hk4 hg4 v0 v1 v2 vf g1 g2 g3 g4 g5
          have v0 := he.c0; have v1 := he.c1; have v2 := he.c2; have vf := he.f
          clear he
          go_wp2_with fail
          refine bodyPost_ret (by simp [results, Try.results11, go_sem, DefV, zeroK, *]) rfl ⟨rfl, ?_⟩
          exact (((HK.out.trans HK3.out).setCell (Nat.le_add_right _ 1) _).setCell (Nat.le_add_right _ 1) _).setCell (Nat.le_add_right _ 1) _
        · have p3 : (y.k == 3) = false := by simpa using q3
          have p4 : decide (y.k = 3) = false := decide_eq_false q3
          have hd := HDEF.out
          rw [if_pos (by simp), if_neg q, if_neg q3] at hd
          obtain rfl := hd
          clear q q3
          go_wp2_with fail
          refine bodyPost_ret (by simp [results, Try.results11, go_sem, DefV, *]) rfl ⟨rfl, ?_⟩
          exact (((HK.out.trans HK3.out).setCell (Nat.le_add_right _ 1) _).setCell (Nat.le_add_right _ 1) _).setCell (Nat.le_add_right _ 1) _
end Go.Proofs.Ytapcaflmfkcfkaa

namespace Go.Proofs
open Go.Shelf
def Try.keysY_ren : Go.Shelf.Ren := ⟨fun | 7 => 24 | 10 => 43 | n => n, fun | 23 => 50 | 26 => 9 | 3 => 51 | 28 => 54 | 0 => 0 | 27 => 53 | 33 => 56 | 4 => 4 | n => n, fun | n => n⟩
theorem Try.keysY : Go.Proofs.SlLaysZ.n7 Try.prog Try.keysY_ren := {
  mixed := by kernel_rfl
  f7 := ⟨Try.f24.name, by decide, Try.func24.trans (congrArg some (by kernel_rfl))⟩
  f10 := ⟨Try.f43.name, by decide, Try.func43.trans (congrArg some (by kernel_rfl))⟩
  t0 := Try.underlying0
  a0 := Try.isAgg0
  z0 := Try.sizeOf0
  v0 := Try.zeroValue0
  t4 := Try.underlying4
  a4 := Try.isAgg4
  z4 := Try.sizeOf4
  v4 := Try.zeroValue4
  t23 := Try.underlying50
  a23 := Try.isAgg50
  z23 := Try.sizeOf50
  v23 := Try.zeroValue50
  t26 := Try.underlying9
  a26 := Try.isAgg9
  z26 := Try.sizeOf9
  v26 := Try.zeroValue9
  t27 := Try.underlying53
  a27 := Try.isAgg53
  z27 := Try.sizeOf53
  v27 := Try.zeroValue53
  t28 := Try.underlying54
  a28 := Try.isAgg54
  z28 := Try.sizeOf54
  v28 := Try.zeroValue54
  t33 := Try.underlying56
  a33 := Try.isAgg56
  z33 := Try.sizeOf56
  v33 := Try.zeroValue56 }
def Try.sortedY_ren : Go.Shelf.Ren := ⟨fun | 6 => 23 | 8 => 41 | 9 => 42 | 11 => 52 | 13 => 54 | 12 => 53 | 23 => 66 | 24 => 67 | 14 => 57 | 15 => 58 | 16 => 59 | 17 => 60 | 18 => 61 | 19 => 62 | 20 => 63 | 21 => 64 | 22 => 65 | 25 => 71 | 26 => 72 | 27 => 73 | 28 => 74 | 29 => 75 | 30 => 76 | 31 => 78 | n => n, fun | 26 => 9 | 28 => 54 | 24 => 35 | 0 => 0 | 3 => 3 | 37 => 69 | 48 => 81 | 50 => 83 | 4 => 4 | 40 => 74 | 39 => 73 | 45 => 78 | 5 => 5 | 9 => 9 | 51 => 85 | 55 => 89 | 57 => 91 | 58 => 92 | 33 => 56 | n => n, fun | n => n⟩
theorem Try.sortedY : Go.Proofs.SlLaysZ.n6 Try.prog Try.sortedY_ren := {
  mixed := by kernel_rfl
  f6 := ⟨Try.f23.name, by decide, Try.func23.trans (congrArg some (by kernel_rfl))⟩
  f8 := ⟨Try.f41.name, by decide, Try.func41.trans (congrArg some (by kernel_rfl))⟩
  f11 := ⟨Try.f52.name, by decide, Try.func52.trans (congrArg some (by kernel_rfl))⟩
  t0 := Try.underlying0
  a0 := Try.isAgg0
  z0 := Try.sizeOf0
  v0 := Try.zeroValue0
  t24 := Try.underlying35
  a24 := Try.isAgg35
  z24 := Try.sizeOf35
  v24 := Try.zeroValue35
  t26 := Try.underlying9
  a26 := Try.isAgg9
  z26 := Try.sizeOf9
  v26 := Try.zeroValue9
  t28 := Try.underlying54
  a28 := Try.isAgg54
  z28 := Try.sizeOf54
  v28 := Try.zeroValue54
  i26 := by kernel_rfl }
def Try.sortY_ren : Go.Shelf.Ren := ⟨fun | 6 => 42 | 8 => 54 | 9 => 53 | 19 => 66 | 20 => 67 | 21 => 57 | 22 => 58 | 23 => 59 | 24 => 60 | 25 => 61 | 26 => 62 | 27 => 63 | 28 => 64 | 29 => 65 | 36 => 71 | 31 => 72 | 32 => 73 | 37 => 74 | 38 => 75 | 39 => 76 | 41 => 78 | n => n, fun | 27 => 35 | 29 => 9 | 3 => 3 | 32 => 69 | 26 => 35 | 0 => 0 | 44 => 81 | 46 => 83 | 4 => 4 | 36 => 74 | 35 => 73 | 41 => 78 | 5 => 5 | 9 => 9 | 53 => 85 | 57 => 89 | 63 => 91 | 64 => 92 | n => n, fun | n => n⟩
theorem Try.sortY : Go.Proofs.SlLaysM.n6 Try.prog Try.sortY_ren := {
  mixed := by kernel_rfl
  f6 := ⟨Try.f42.name, by decide, Try.func42.trans (congrArg some (by kernel_rfl))⟩
  f8 := Try.func54.trans (congrArg some (by kernel_rfl))
  f9 := ⟨Try.f53.name, by decide, Try.func53.trans (congrArg some (by kernel_rfl))⟩
  f19 := Try.func66.trans (congrArg some (by kernel_rfl))
  f20 := Try.func67.trans (congrArg some (by kernel_rfl))
  f21 := ⟨Try.f57.name, by decide, Try.func57.trans (congrArg some (by kernel_rfl))⟩
  f22 := ⟨Try.f58.name, by decide, Try.func58.trans (congrArg some (by kernel_rfl))⟩
  f23 := ⟨Try.f59.name, by decide, Try.func59.trans (congrArg some (by kernel_rfl))⟩
  f24 := ⟨Try.f60.name, by decide, Try.func60.trans (congrArg some (by kernel_rfl))⟩
  f25 := ⟨Try.f61.name, by decide, Try.func61.trans (congrArg some (by kernel_rfl))⟩
  f26 := ⟨Try.f62.name, by decide, Try.func62.trans (congrArg some (by kernel_rfl))⟩
  f27 := ⟨Try.f63.name, by decide, Try.func63.trans (congrArg some (by kernel_rfl))⟩
  f28 := ⟨Try.f64.name, by decide, Try.func64.trans (congrArg some (by kernel_rfl))⟩
  f29 := ⟨Try.f65.name, by decide, Try.func65.trans (congrArg some (by kernel_rfl))⟩
  f31 := Try.func72.trans (congrArg some (by kernel_rfl))
  f32 := Try.func73.trans (congrArg some (by kernel_rfl))
  f36 := ⟨Try.f71.name, by decide, Try.func71.trans (congrArg some (by kernel_rfl))⟩
  f37 := ⟨Try.f74.name, by decide, Try.func74.trans (congrArg some (by kernel_rfl))⟩
  f38 := ⟨Try.f75.name, by decide, Try.func75.trans (congrArg some (by kernel_rfl))⟩
  f39 := ⟨Try.f76.name, by decide, Try.func76.trans (congrArg some (by kernel_rfl))⟩
  f41 := ⟨Try.f78.name, by decide, Try.func78.trans (congrArg some (by kernel_rfl))⟩
  t0 := Try.underlying0
  a0 := Try.isAgg0
  z0 := Try.sizeOf0
  v0 := Try.zeroValue0
  t3 := Try.underlying3
  a3 := Try.isAgg3
  z3 := Try.sizeOf3
  v3 := Try.zeroValue3
  t4 := Try.underlying4
  a4 := Try.isAgg4
  z4 := Try.sizeOf4
  v4 := Try.zeroValue4
  t5 := Try.underlying5
  a5 := Try.isAgg5
  z5 := Try.sizeOf5
  v5 := Try.zeroValue5
  t9 := Try.underlying9
  a9 := Try.isAgg9
  z9 := Try.sizeOf9
  v9 := Try.zeroValue9
  t26 := Try.underlying35
  a26 := Try.isAgg35
  z26 := Try.sizeOf35
  v26 := Try.zeroValue35
  t27 := Try.underlying35
  a27 := Try.isAgg35
  z27 := Try.sizeOf35
  v27 := Try.zeroValue35
  t29 := Try.underlying9
  a29 := Try.isAgg9
  z29 := Try.sizeOf9
  v29 := Try.zeroValue9
  t32 := Try.underlying69
  a32 := Try.isAgg69
  z32 := Try.sizeOf69
  v32 := Try.zeroValue69
  t35 := Try.underlying73
  a35 := Try.isAgg73
  z35 := Try.sizeOf73
  v35 := Try.zeroValue73
  t36 := Try.underlying74
  a36 := Try.isAgg74
  z36 := Try.sizeOf74
  v36 := Try.zeroValue74
  t41 := Try.underlying78
  a41 := Try.isAgg78
  z41 := Try.sizeOf78
  v41 := Try.zeroValue78
  t44 := Try.underlying81
  a44 := Try.isAgg81
  z44 := Try.sizeOf81
  v44 := Try.zeroValue81
  t46 := Try.underlying83
  a46 := Try.isAgg83
  z46 := Try.sizeOf83
  v46 := Try.zeroValue83
  t53 := Try.underlying85
  a53 := Try.isAgg85
  z53 := Try.sizeOf85
  v53 := Try.zeroValue85
  t57 := Try.underlying89
  a57 := Try.isAgg89
  z57 := Try.sizeOf89
  v57 := Try.zeroValue89
  t63 := Try.underlying91
  a63 := Try.isAgg91
  z63 := Try.sizeOf91
  v63 := Try.zeroValue91
  t64 := Try.underlying92
  a64 := Try.isAgg92
  z64 := Try.sizeOf92
  v64 := Try.zeroValue92 }
end Go.Proofs

