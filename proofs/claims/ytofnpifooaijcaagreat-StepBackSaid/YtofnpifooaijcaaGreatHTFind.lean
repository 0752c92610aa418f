/-
  What is proved: package table's onLeft, onRight, forth, back, Apply and Back of layer 13 (P13.1, P13.2), called with any table and value, return what the chapter says; the world has new blocks at most.
-/
import Derived.Test.YtofnpifooaijcaaGreatM13
namespace Go.Proofs.YtofnpifooaijcaaGreat
open Go.RowKit
set_option linter.unusedVariables false
def Plc (rt : Bool) (L : List Pa) (v : Va) (r : Int) : Prop :=
  (∃ t x, r = ((t : Nat) : Int) ∧ L[t]? = some x ∧ sideR rt x = v ∧ ∀ y ∈ L.take t, sideR rt y ≠ v) ∨ (r = -1 ∧ ∀ y ∈ L, sideR rt y ≠ v)
theorem plc_first {rt : Bool} {L : List Pa} {v : Va} {r : Int} (h : Plc rt L v r) : (∃ t x, r = ((t : Nat) : Int) ∧ L[t]? = some x ∧ sideR rt x = v ∧ firstR L v rt = (x, true)) ∨ (r = -1 ∧ firstR L v rt = (.none, false)) := by
  rcases h with ⟨t, x, h1, h2, h3, h4⟩ | ⟨h1, h2⟩
  · exact .inl ⟨t, x, h1, h2, h3, firstR_at h2 h3 h4⟩
  · exact .inr ⟨h1, firstR_no h2⟩
theorem plc_lt {L : List Pa} {t : Nat} {x : Pa} (h : L[t]? = some x) : t < L.length := (List.getElem?_eq_some_iff.1 h).1
theorem plc_one {rt : Bool} {L : List Pa} {v : Va} {r s : Int} (h : Plc rt L v r) (h' : Plc rt L v s) : r = s := by
  have key : ∀ {t u : Nat} {x y : Pa}, L[t]? = some x → sideR rt x = v → (∀ y ∈ L.take u, sideR rt y ≠ v) → ¬ t < u := by
    intro t u x _ h1 h2 h3 hlt
    refine h3 x ?_ h2
    rw [List.mem_iff_getElem?]
    exact ⟨t, by rw [List.getElem?_take, if_pos hlt, h1]⟩
  rcases h with ⟨t, x, h1, h2, h3, h4⟩ | ⟨h1, h2⟩ <;> rcases h' with ⟨u, y, k1, k2, k3, k4⟩ | ⟨k1, k2⟩
  · have := key (y := x) h2 h3 k4; have := key (y := x) k2 k3 h4; omega
  · exact absurd h3 (k2 x (List.mem_of_getElem? h2))
  · exact absurd k3 (h2 y (List.mem_of_getElem? k2))
  · omega
theorem plc_ex (rt : Bool) (L : List Pa) (v : Va) : ∃ r, Plc rt L v r := by
  induction L with
  | nil => exact ⟨-1, .inr ⟨rfl, fun y hy => by cases hy⟩⟩
  | cons x L ih =>
    by_cases e : sideR rt x = v
    · exact ⟨0, .inl ⟨0, x, rfl, rfl, e, fun y hy => by simp at hy⟩⟩
    · obtain ⟨r, hr⟩ := ih
      rcases hr with ⟨t, y, h1, h2, h3, h4⟩ | ⟨h1, h2⟩
      · refine ⟨((t + 1 : Nat) : Int), .inl ⟨t + 1, y, rfl, by simpa using h2, h3, fun z hz => ?_⟩⟩
        rw [List.take_succ_cons] at hz
        rcases List.mem_cons.1 hz with rfl | hz
        · exact e
        · exact h4 z hz
      · refine ⟨-1, .inr ⟨rfl, fun z hz => ?_⟩⟩
        rcases List.mem_cons.1 hz with rfl | hz
        · exact e
        · exact h2 z hz
set_option maxRecDepth 100000 in
set_option maxHeartbeats 8000000 in
theorem L1_any (x : Pa) (v : Va) (b : Nat) (w : World) (h : VaO w b v) (r : Bool) (hr : r = true ↔ sideR false x = v) :
    Calls Tryz.prog 181 #[.agg #[.int .i64 x.f.k, .int .i64 x.f.n, .string x.f.t, .int .i64 x.t.k, .int .i64 x.t.n, .string x.t.t], .pointer (some ⟨b, 0, none⟩)] w fun e w' => e = .returned (.bool r) ∧ Kept w w' := by
  have hk := (Kept.refl w).alloc #[.int .i64 x.f.k, .int .i64 x.f.n, .string x.f.t, .int .i64 x.t.k, .int .i64 x.t.n, .string x.t.t] 99
  have hv := h.kept hk
  have v0 := hv.c0; have v1 := hv.c1; have v2 := hv.c2
  have hb := PaB.new w x 99
  have e0 := hb.c0; have e1 := hb.c1; have e2 := hb.c2; have e3 := hb.c3; have e4 := hb.c4; have e5 := hb.c5
  have HK := Lib.hid hk; have HR := Lib.hid hr
  clear h hk hv hb hr
  by_cases hq : x.f = v
  · have HF := Lib.hid (show true = r from (HR.out.2 hq).symm)
    obtain ⟨q0, q1, q2⟩ := va_eq hq
    clear hq
    go_enter Tryz.func181, Tryz.ntmps181
    go_wp2_with fail
    go_ret
    exact ⟨ret_bool HF.out, HK.out⟩
  · have HF := Lib.hid (show false = r by rw [eq_comm, ← Bool.not_eq_true, HR.out]; exact hq)
    rcases va_ne hq with q0 | ⟨q0, q1⟩ | ⟨q0, q1, q2⟩ <;> clear hq <;>
    · go_enter Tryz.func181, Tryz.ntmps181
      go_wp2_with fail
      go_ret
      exact ⟨ret_bool HF.out, HK.out⟩
set_option maxRecDepth 100000 in
set_option maxHeartbeats 8000000 in
theorem idxL_any (A : Option Addr) (n c : Nat) (L : List Pa) (v : Va) (b : Nat) (w : World) (h : Pal w A n c L) (hv : VaO w b v) (r : Int) (hr : Plc false L v r) :
    Calls Tryz.prog 180 #[.slice A n c, .func (.func 181) #[] #[.pointer (some ⟨b, 0, none⟩)]] w fun e w' => e = .returned (.int .i64 r) ∧ Kept w w' := by
  have hcap := h.cap.1; have hcap2 := h.cap.2
  have HNL := Lib.hid h.1; have HH := Lib.hid h; have HV := Lib.hid hv; have HP := Lib.hid hr
  clear h hv hr
  go_enter Tryz.func180, Tryz.ntmps180
  go_wp2_with fail
  go_loopw [8] (fun i wr => ∃ t : Nat, t ≤ n ∧ i = .int .i64 t ∧ Kept w wr ∧ ∀ x ∈ L.take t, sideR false x ≠ v) (fun i _ => n - (intOf i).toNat)
  case atStart => exact ⟨0, Nat.zero_le _, rfl, Kept.refl _, fun x hx => by simp at hx⟩
  case round =>
    obtain ⟨t, ht, rfl, hkr, hall⟩ := hrel
    have HKR := Lib.hid hkr; have HA := Lib.hid hall
    clear hkr hall
    by_cases hlt : t < n
    · obtain ⟨g, o, x, rfl, hx, EX⟩ := (HH.out.kept HKR.out).get hlt
      have x0 := EX.c0; have x1 := EX.c1; have x2 := EX.c2; have x3 := EX.c3; have x4 := EX.c4; have x5 := EX.c5
      have HXX := Lib.hid hx
      obtain ⟨z, hz⟩ := bool_of (sideR false x = v)
      have AC := Lib.hid (L1_any x v b wr (HV.out.kept HKR.out) z hz)
      have HZ := Lib.hid hz
      clear EX hx hz
      go_wp2_with fail
      clear x0 x1 x2 x3 x4 x5
      go_at_call 181
      refine AC.out.mono ?_
      rintro e w1 ⟨rfl, hk1⟩
      have HK1 := Lib.hid (HKR.out.trans hk1)
      clear hk1
      cases z with
      | true =>
        have HF := Lib.hid (show ((t : Nat) : Int) = r from plc_one (.inl ⟨t, x, rfl, HXX.out, HZ.out.1 rfl, HA.out⟩) HP.out)
        go_wp2_with fail
        go_ret
        exact ⟨congrArg (fun z => Ending.returned (Value.int IntKind.i64 z)) HF.out, HK1.out⟩
      | false =>
        have HN := Lib.hid (show ∀ y ∈ L.take (t + 1), sideR false y ≠ v from fun y hy => by
          rw [List.take_add_one, HXX.out, Option.toList_some, List.mem_append, List.mem_singleton] at hy
          rcases hy with hy | rfl
          · exact HA.out y hy
          · exact fun e => by have := HZ.out.2 e; cases this)
        go_wp2_with fail
        go_roundw
        case rel => exact ⟨t + 1, hlt, by go_num, HK1.out, HN.out⟩
        case measure => simp [intOf]; omega
    · obtain rfl : t = n := by omega
      have HF := Lib.hid (show (-1 : Int) = r from plc_one (.inr ⟨rfl, fun y hy => HA.out y (by rw [List.take_of_length_le (by rw [← HNL.out]; exact Nat.le_refl _)]; exact hy)⟩) HP.out)
      go_wp2_with fail
      go_ret
      exact ⟨congrArg (fun z => Ending.returned (Value.int IntKind.i64 z)) HF.out, HKR.out⟩
set_option maxRecDepth 100000 in
set_option maxHeartbeats 8000000 in
theorem onL_any (A : Option Addr) (n c : Nat) (T : Tb) (v : Va) (w : World) (h : Pal w A n c T.L) (r : Int) (hr : Plc false T.L v r) :
    Calls Tryz.prog 172 #[.agg #[.slice A n c, .bool T.keep, .int .i64 T.d.k, .int .i64 T.d.n, .string T.d.t, .int .i64 T.b.k, .int .i64 T.b.n, .string T.b.t, .bool T.tu], .agg #[.int .i64 v.k, .int .i64 v.n, .string v.t]] w fun e w' => e = .returned (.int .i64 r) ∧ Kept w w' := by
  have hmf : ∀ (fn : Fn) (first cap : Array Value) (w : World), (Instr.makeFunc fn first cap).run Tryz.prog w = .ok (.func fn first cap) w := fun _ _ _ _ => rfl
  have hk := ((Kept.refl w).alloc #[.slice A n c, .bool T.keep, .int .i64 T.d.k, .int .i64 T.d.n, .string T.d.t, .int .i64 T.b.k, .int .i64 T.b.n, .string T.b.t, .bool T.tu] 31).alloc #[.int .i64 v.k, .int .i64 v.n, .string v.t] 26
  have ht := (TabB.new w A n c T 31).kept ((Kept.refl _).alloc #[.int .i64 v.k, .int .i64 v.n, .string v.t] 26)
  have hv := VaO.new (w.alloc (.cells #[.slice A n c, .bool T.keep, .int .i64 T.d.k, .int .i64 T.d.n, .string T.d.t, .int .i64 T.b.k, .int .i64 T.b.n, .string T.b.t, .bool T.tu] 31)) v 26
  rw [show (w.alloc (.cells #[.slice A n c, .bool T.keep, .int .i64 T.d.k, .int .i64 T.d.n, .string T.d.t, .int .i64 T.b.k, .int .i64 T.b.n, .string T.b.t, .bool T.tu] 31)).heap.size = w.heap.size + 1 by simp] at hv
  have AC := Lib.hid (idxL_any A n c T.L v (w.heap.size + 1) _ (h.kept hk) hv r hr)
  have HK := Lib.hid hk
  have t0 := ht.c0
  clear h hk ht hv hr
  go_enter Tryz.func172, Tryz.ntmps172
  go_wp2_with fail
  go_at_call 180
  refine AC.out.mono ?_
  rintro e w1 ⟨rfl, hk1⟩
  have HK1 := Lib.hid (HK.out.trans hk1)
  clear hk1 t0
  go_wp2_with fail
  go_ret
  exact ⟨rfl, HK1.out⟩
set_option maxRecDepth 100000 in
set_option maxHeartbeats 8000000 in
theorem R1_any (x : Pa) (v : Va) (b : Nat) (w : World) (h : VaO w b v) (r : Bool) (hr : r = true ↔ sideR true x = v) :
    Calls Tryz.prog 182 #[.agg #[.int .i64 x.f.k, .int .i64 x.f.n, .string x.f.t, .int .i64 x.t.k, .int .i64 x.t.n, .string x.t.t], .pointer (some ⟨b, 0, none⟩)] w fun e w' => e = .returned (.bool r) ∧ Kept w w' := by
  have hk := (Kept.refl w).alloc #[.int .i64 x.f.k, .int .i64 x.f.n, .string x.f.t, .int .i64 x.t.k, .int .i64 x.t.n, .string x.t.t] 99
  have hv := h.kept hk
  have v0 := hv.c0; have v1 := hv.c1; have v2 := hv.c2
  have hb := PaB.new w x 99
  have e0 := hb.c0; have e1 := hb.c1; have e2 := hb.c2; have e3 := hb.c3; have e4 := hb.c4; have e5 := hb.c5
  have HK := Lib.hid hk; have HR := Lib.hid hr
  clear h hk hv hb hr
  by_cases hq : x.t = v
  · have HF := Lib.hid (show true = r from (HR.out.2 hq).symm)
    obtain ⟨q0, q1, q2⟩ := va_eq hq
    clear hq
    go_enter Tryz.func182, Tryz.ntmps182
    go_wp2_with fail
    go_ret
    exact ⟨ret_bool HF.out, HK.out⟩
  · have HF := Lib.hid (show false = r by rw [eq_comm, ← Bool.not_eq_true, HR.out]; exact hq)
    rcases va_ne hq with q0 | ⟨q0, q1⟩ | ⟨q0, q1, q2⟩ <;> clear hq <;>
    · go_enter Tryz.func182, Tryz.ntmps182
      go_wp2_with fail
      go_ret
      exact ⟨ret_bool HF.out, HK.out⟩
set_option maxRecDepth 100000 in
set_option maxHeartbeats 8000000 in
theorem idxR_any (A : Option Addr) (n c : Nat) (L : List Pa) (v : Va) (b : Nat) (w : World) (h : Pal w A n c L) (hv : VaO w b v) (r : Int) (hr : Plc true L v r) :
    Calls Tryz.prog 180 #[.slice A n c, .func (.func 182) #[] #[.pointer (some ⟨b, 0, none⟩)]] w fun e w' => e = .returned (.int .i64 r) ∧ Kept w w' := by
  have hcap := h.cap.1; have hcap2 := h.cap.2
  have HNL := Lib.hid h.1; have HH := Lib.hid h; have HV := Lib.hid hv; have HP := Lib.hid hr
  clear h hv hr
  go_enter Tryz.func180, Tryz.ntmps180
  go_wp2_with fail
  go_loopw [8] (fun i wr => ∃ t : Nat, t ≤ n ∧ i = .int .i64 t ∧ Kept w wr ∧ ∀ x ∈ L.take t, sideR true x ≠ v) (fun i _ => n - (intOf i).toNat)
  case atStart => exact ⟨0, Nat.zero_le _, rfl, Kept.refl _, fun x hx => by simp at hx⟩
  case round =>
    obtain ⟨t, ht, rfl, hkr, hall⟩ := hrel
    have HKR := Lib.hid hkr; have HA := Lib.hid hall
    clear hkr hall
    by_cases hlt : t < n
    · obtain ⟨g, o, x, rfl, hx, EX⟩ := (HH.out.kept HKR.out).get hlt
      have x0 := EX.c0; have x1 := EX.c1; have x2 := EX.c2; have x3 := EX.c3; have x4 := EX.c4; have x5 := EX.c5
      have HXX := Lib.hid hx
      obtain ⟨z, hz⟩ := bool_of (sideR true x = v)
      have AC := Lib.hid (R1_any x v b wr (HV.out.kept HKR.out) z hz)
      have HZ := Lib.hid hz
      clear EX hx hz
      go_wp2_with fail
      clear x0 x1 x2 x3 x4 x5
      go_at_call 182
      refine AC.out.mono ?_
      rintro e w1 ⟨rfl, hk1⟩
      have HK1 := Lib.hid (HKR.out.trans hk1)
      clear hk1
      cases z with
      | true =>
        have HF := Lib.hid (show ((t : Nat) : Int) = r from plc_one (.inl ⟨t, x, rfl, HXX.out, HZ.out.1 rfl, HA.out⟩) HP.out)
        go_wp2_with fail
        go_ret
        exact ⟨congrArg (fun z => Ending.returned (Value.int IntKind.i64 z)) HF.out, HK1.out⟩
      | false =>
        have HN := Lib.hid (show ∀ y ∈ L.take (t + 1), sideR true y ≠ v from fun y hy => by
          rw [List.take_add_one, HXX.out, Option.toList_some, List.mem_append, List.mem_singleton] at hy
          rcases hy with hy | rfl
          · exact HA.out y hy
          · exact fun e => by have := HZ.out.2 e; cases this)
        go_wp2_with fail
        go_roundw
        case rel => exact ⟨t + 1, hlt, by go_num, HK1.out, HN.out⟩
        case measure => simp [intOf]; omega
    · obtain rfl : t = n := by omega
      have HF := Lib.hid (show (-1 : Int) = r from plc_one (.inr ⟨rfl, fun y hy => HA.out y (by rw [List.take_of_length_le (by rw [← HNL.out]; exact Nat.le_refl _)]; exact hy)⟩) HP.out)
      go_wp2_with fail
      go_ret
      exact ⟨congrArg (fun z => Ending.returned (Value.int IntKind.i64 z)) HF.out, HKR.out⟩
set_option maxRecDepth 100000 in
set_option maxHeartbeats 8000000 in
theorem onR_any (A : Option Addr) (n c : Nat) (T : Tb) (v : Va) (w : World) (h : Pal w A n c T.L) (r : Int) (hr : Plc true T.L v r) :
    Calls Tryz.prog 173 #[.agg #[.slice A n c, .bool T.keep, .int .i64 T.d.k, .int .i64 T.d.n, .string T.d.t, .int .i64 T.b.k, .int .i64 T.b.n, .string T.b.t, .bool T.tu], .agg #[.int .i64 v.k, .int .i64 v.n, .string v.t]] w fun e w' => e = .returned (.int .i64 r) ∧ Kept w w' := by
  have hmf : ∀ (fn : Fn) (first cap : Array Value) (w : World), (Instr.makeFunc fn first cap).run Tryz.prog w = .ok (.func fn first cap) w := fun _ _ _ _ => rfl
  have hk := ((Kept.refl w).alloc #[.slice A n c, .bool T.keep, .int .i64 T.d.k, .int .i64 T.d.n, .string T.d.t, .int .i64 T.b.k, .int .i64 T.b.n, .string T.b.t, .bool T.tu] 31).alloc #[.int .i64 v.k, .int .i64 v.n, .string v.t] 26
  have ht := (TabB.new w A n c T 31).kept ((Kept.refl _).alloc #[.int .i64 v.k, .int .i64 v.n, .string v.t] 26)
  have hv := VaO.new (w.alloc (.cells #[.slice A n c, .bool T.keep, .int .i64 T.d.k, .int .i64 T.d.n, .string T.d.t, .int .i64 T.b.k, .int .i64 T.b.n, .string T.b.t, .bool T.tu] 31)) v 26
  rw [show (w.alloc (.cells #[.slice A n c, .bool T.keep, .int .i64 T.d.k, .int .i64 T.d.n, .string T.d.t, .int .i64 T.b.k, .int .i64 T.b.n, .string T.b.t, .bool T.tu] 31)).heap.size = w.heap.size + 1 by simp] at hv
  have AC := Lib.hid (idxR_any A n c T.L v (w.heap.size + 1) _ (h.kept hk) hv r hr)
  have HK := Lib.hid hk
  have t0 := ht.c0
  clear h hk ht hv hr
  go_enter Tryz.func173, Tryz.ntmps173
  go_wp2_with fail
  go_at_call 180
  refine AC.out.mono ?_
  rintro e w1 ⟨rfl, hk1⟩
  have HK1 := Lib.hid (HK.out.trans hk1)
  clear hk1 t0
  go_wp2_with fail
  go_ret
  exact ⟨rfl, HK1.out⟩
set_option maxRecDepth 100000 in
set_option maxHeartbeats 8000000 in
theorem tforth_any (A : Option Addr) (n c : Nat) (T : Tb) (v R : Va) (hR : forthT T v = R) (w : World) (h : Pal w A n c T.L) :
    Calls Tryz.prog 166 #[.agg #[.slice A n c, .bool T.keep, .int .i64 T.d.k, .int .i64 T.d.n, .string T.d.t, .int .i64 T.b.k, .int .i64 T.b.n, .string T.b.t, .bool T.tu], .agg #[.int .i64 v.k, .int .i64 v.n, .string v.t]] w fun e w' => e = .returned (.agg #[.int .i64 R.k, .int .i64 R.n, .string R.t]) ∧ Kept w w' := by
  have HNL := Lib.hid h.1; have hcap := h.cap.1; have hcap2 := h.cap.2
  have hk := (((Kept.refl w).alloc #[.slice A n c, .bool T.keep, .int .i64 T.d.k, .int .i64 T.d.n, .string T.d.t, .int .i64 T.b.k, .int .i64 T.b.n, .string T.b.t, .bool T.tu] 31).alloc #[.int .i64 v.k, .int .i64 v.n, .string v.t] 26).alloc #[.int .i64 0, .int .i64 0, .string ⟨#[]⟩] 26
  have k1 := ((Kept.refl (w.alloc (.cells #[.slice A n c, .bool T.keep, .int .i64 T.d.k, .int .i64 T.d.n, .string T.d.t, .int .i64 T.b.k, .int .i64 T.b.n, .string T.b.t, .bool T.tu] 31))).alloc #[.int .i64 v.k, .int .i64 v.n, .string v.t] 26).alloc #[.int .i64 0, .int .i64 0, .string ⟨#[]⟩] 26
  have k2 := (Kept.refl ((w.alloc (.cells #[.slice A n c, .bool T.keep, .int .i64 T.d.k, .int .i64 T.d.n, .string T.d.t, .int .i64 T.b.k, .int .i64 T.b.n, .string T.b.t, .bool T.tu] 31)).alloc (.cells #[.int .i64 v.k, .int .i64 v.n, .string v.t] 26))).alloc #[.int .i64 0, .int .i64 0, .string ⟨#[]⟩] 26
  have ht := (TabB.new w A n c T 31).kept k1
  have hv := (VaO.new (w.alloc (.cells #[.slice A n c, .bool T.keep, .int .i64 T.d.k, .int .i64 T.d.n, .string T.d.t, .int .i64 T.b.k, .int .i64 T.b.n, .string T.b.t, .bool T.tu] 31)) v 26).kept k2
  have hr := VaO.new ((w.alloc (.cells #[.slice A n c, .bool T.keep, .int .i64 T.d.k, .int .i64 T.d.n, .string T.d.t, .int .i64 T.b.k, .int .i64 T.b.n, .string T.b.t, .bool T.tu] 31)).alloc (.cells #[.int .i64 v.k, .int .i64 v.n, .string v.t] 26)) .zero 26
  simp only [Va.zero] at hr
  rw [show (w.alloc (.cells #[.slice A n c, .bool T.keep, .int .i64 T.d.k, .int .i64 T.d.n, .string T.d.t, .int .i64 T.b.k, .int .i64 T.b.n, .string T.b.t, .bool T.tu] 31)).heap.size = w.heap.size + 1 by simp] at hv
  rw [show ((w.alloc (.cells #[.slice A n c, .bool T.keep, .int .i64 T.d.k, .int .i64 T.d.n, .string T.d.t, .int .i64 T.b.k, .int .i64 T.b.n, .string T.b.t, .bool T.tu] 31)).alloc (.cells #[.int .i64 v.k, .int .i64 v.n, .string v.t] 26)).heap.size = w.heap.size + 1 + 1 by simp] at hr
  have hh := h.kept hk
  obtain ⟨U, hU⟩ : ∃ U, ((w.alloc (.cells #[.slice A n c, .bool T.keep, .int .i64 T.d.k, .int .i64 T.d.n, .string T.d.t, .int .i64 T.b.k, .int .i64 T.b.n, .string T.b.t, .bool T.tu] 31)).alloc (.cells #[.int .i64 v.k, .int .i64 v.n, .string v.t] 26)).alloc (.cells #[.int .i64 0, .int .i64 0, .string ⟨#[]⟩] 26) = U := ⟨_, rfl⟩
  rw [hU] at hk ht hv hr hh
  have HK := Lib.hid hk; have HUU := Lib.hid hU; have HT := Lib.hid ht; have HV := Lib.hid hv; have HR := Lib.hid hr; have HH := Lib.hid hh
  have t0 := HT.out.c0; have t1 := HT.out.c1; have t2 := HT.out.c2; have t3 := HT.out.c3; have t4 := HT.out.c4; have t5 := HT.out.c5; have t6 := HT.out.c6; have t7 := HT.out.c7; have t8 := HT.out.c8
  have v0 := HV.out.c0; have v1 := HV.out.c1; have v2 := HV.out.c2
  clear h hk k1 k2 ht hv hr hh hU
  obtain ⟨r, hr⟩ := plc_ex false T.L v
  have AF := Lib.hid (fun w h => onL_any A n c T v w h r hr)
  have HFR := Lib.hid (plc_first hr)
  have HRR := Lib.hid hR
  clear hr hR
  go_enter Tryz.func166, Tryz.ntmps166
  go_wp2_with fail
  rw [HUU.out]
  go_wp2_with fail
  go_at_call 172
  refine (AF.out _ HH.out).mono ?_
  rintro e w1 ⟨rfl, hk1⟩
  replace HK := Lib.hid (HK.out.trans (hk1)); replace HT := Lib.hid (HT.out.kept (hk1)); replace HV := Lib.hid (HV.out.kept (hk1)); replace HR := Lib.hid (HR.out.kept (hk1))
  replace HH := Lib.hid (HH.out.kept hk1)
  clear t0 t1 t2 t3 t4 t5 t6 t7 t8 v0 v1 v2 hk1
  have r0 := HR.out.c0; have r1 := HR.out.c1; have r2 := HR.out.c2; have rf := HR.out.f
  rcases HFR.out with ⟨t, x, rfl, hx, hs, hf⟩ | ⟨rfl, hf⟩
  · have hlt : t < n := by have := plc_lt hx; rw [← HNL.out] at this; exact this
    obtain ⟨g, o, y, rfl, hy, EX⟩ := HH.out.get hlt
    obtain rfl : y = x := Option.some.inj (hy.symm.trans hx)
    have hf2 := (forthT_at hf).symm.trans HRR.out
    rw [if_pos rfl] at hf2
    subst hf2
    have t0 := HT.out.c0
    have d1 : decide ((0 : Int) ≤ (t : Int)) = true := decide_eq_true (by omega)
    have d2 : decide ((t : Int) ≥ (0 : Int)) = true := decide_eq_true (by omega)
    have x0 := EX.c3; have x1 := EX.c4; have x2 := EX.c5
    clear hx hs hf hy EX
    go_wp2_with fail
    refine bodyPost_ret (by simp [results, Tryz.results166, go_sem, *]) rfl ⟨rfl, ?_⟩
    exact ((HK.out.setCell (a := ⟨w.heap.size + 1 + 1, 0, none⟩) (by simp; omega) _).setCell (a := ⟨w.heap.size + 1 + 1, 1, none⟩) (by simp; omega) _).setCell (a := ⟨w.heap.size + 1 + 1, 2, none⟩) (by simp; omega) _
  · have t1 := HT.out.c1
    rcases Bool.eq_false_or_eq_true T.keep with hkp | hkp
    · have hf2 := (forthT_at hf).symm.trans HRR.out
      rw [if_neg (by simp), if_pos hkp] at hf2
      subst hf2
      rw [hkp] at t1
      have v0 := HV.out.c0; have v1 := HV.out.c1; have v2 := HV.out.c2
      clear hf
      go_wp2_with fail
      refine bodyPost_ret (by simp [results, Tryz.results166, go_sem, *]) rfl ⟨rfl, ?_⟩
      exact ((HK.out.setCell (a := ⟨w.heap.size + 1 + 1, 0, none⟩) (by simp; omega) _).setCell (a := ⟨w.heap.size + 1 + 1, 1, none⟩) (by simp; omega) _).setCell (a := ⟨w.heap.size + 1 + 1, 2, none⟩) (by simp; omega) _
    · have hf2 := (forthT_at hf).symm.trans HRR.out
      rw [if_neg (by simp), if_neg (by rw [hkp]; simp)] at hf2
      subst hf2
      rw [hkp] at t1
      have t2 := HT.out.c2; have t3 := HT.out.c3; have t4 := HT.out.c4
      clear hf
      go_wp2_with fail
      refine bodyPost_ret (by simp [results, Tryz.results166, go_sem, *]) rfl ⟨rfl, ?_⟩
      exact ((HK.out.setCell (a := ⟨w.heap.size + 1 + 1, 0, none⟩) (by simp; omega) _).setCell (a := ⟨w.heap.size + 1 + 1, 1, none⟩) (by simp; omega) _).setCell (a := ⟨w.heap.size + 1 + 1, 2, none⟩) (by simp; omega) _
set_option maxRecDepth 100000 in
set_option maxHeartbeats 8000000 in
theorem tback_any (A : Option Addr) (n c : Nat) (T : Tb) (v R : Va) (hR : backT T v = R) (w : World) (h : Pal w A n c T.L) :
    Calls Tryz.prog 165 #[.agg #[.slice A n c, .bool T.keep, .int .i64 T.d.k, .int .i64 T.d.n, .string T.d.t, .int .i64 T.b.k, .int .i64 T.b.n, .string T.b.t, .bool T.tu], .agg #[.int .i64 v.k, .int .i64 v.n, .string v.t]] w fun e w' => e = .returned (.agg #[.int .i64 R.k, .int .i64 R.n, .string R.t]) ∧ Kept w w' := by
  have HNL := Lib.hid h.1; have hcap := h.cap.1; have hcap2 := h.cap.2
  have hk := (((Kept.refl w).alloc #[.slice A n c, .bool T.keep, .int .i64 T.d.k, .int .i64 T.d.n, .string T.d.t, .int .i64 T.b.k, .int .i64 T.b.n, .string T.b.t, .bool T.tu] 31).alloc #[.int .i64 v.k, .int .i64 v.n, .string v.t] 26).alloc #[.int .i64 0, .int .i64 0, .string ⟨#[]⟩] 26
  have k1 := ((Kept.refl (w.alloc (.cells #[.slice A n c, .bool T.keep, .int .i64 T.d.k, .int .i64 T.d.n, .string T.d.t, .int .i64 T.b.k, .int .i64 T.b.n, .string T.b.t, .bool T.tu] 31))).alloc #[.int .i64 v.k, .int .i64 v.n, .string v.t] 26).alloc #[.int .i64 0, .int .i64 0, .string ⟨#[]⟩] 26
  have k2 := (Kept.refl ((w.alloc (.cells #[.slice A n c, .bool T.keep, .int .i64 T.d.k, .int .i64 T.d.n, .string T.d.t, .int .i64 T.b.k, .int .i64 T.b.n, .string T.b.t, .bool T.tu] 31)).alloc (.cells #[.int .i64 v.k, .int .i64 v.n, .string v.t] 26))).alloc #[.int .i64 0, .int .i64 0, .string ⟨#[]⟩] 26
  have ht := (TabB.new w A n c T 31).kept k1
  have hv := (VaO.new (w.alloc (.cells #[.slice A n c, .bool T.keep, .int .i64 T.d.k, .int .i64 T.d.n, .string T.d.t, .int .i64 T.b.k, .int .i64 T.b.n, .string T.b.t, .bool T.tu] 31)) v 26).kept k2
  have hr := VaO.new ((w.alloc (.cells #[.slice A n c, .bool T.keep, .int .i64 T.d.k, .int .i64 T.d.n, .string T.d.t, .int .i64 T.b.k, .int .i64 T.b.n, .string T.b.t, .bool T.tu] 31)).alloc (.cells #[.int .i64 v.k, .int .i64 v.n, .string v.t] 26)) .zero 26
  simp only [Va.zero] at hr
  rw [show (w.alloc (.cells #[.slice A n c, .bool T.keep, .int .i64 T.d.k, .int .i64 T.d.n, .string T.d.t, .int .i64 T.b.k, .int .i64 T.b.n, .string T.b.t, .bool T.tu] 31)).heap.size = w.heap.size + 1 by simp] at hv
  rw [show ((w.alloc (.cells #[.slice A n c, .bool T.keep, .int .i64 T.d.k, .int .i64 T.d.n, .string T.d.t, .int .i64 T.b.k, .int .i64 T.b.n, .string T.b.t, .bool T.tu] 31)).alloc (.cells #[.int .i64 v.k, .int .i64 v.n, .string v.t] 26)).heap.size = w.heap.size + 1 + 1 by simp] at hr
  have hh := h.kept hk
  obtain ⟨U, hU⟩ : ∃ U, ((w.alloc (.cells #[.slice A n c, .bool T.keep, .int .i64 T.d.k, .int .i64 T.d.n, .string T.d.t, .int .i64 T.b.k, .int .i64 T.b.n, .string T.b.t, .bool T.tu] 31)).alloc (.cells #[.int .i64 v.k, .int .i64 v.n, .string v.t] 26)).alloc (.cells #[.int .i64 0, .int .i64 0, .string ⟨#[]⟩] 26) = U := ⟨_, rfl⟩
  rw [hU] at hk ht hv hr hh
  have HK := Lib.hid hk; have HUU := Lib.hid hU; have HT := Lib.hid ht; have HV := Lib.hid hv; have HR := Lib.hid hr; have HH := Lib.hid hh
  have t0 := HT.out.c0; have t1 := HT.out.c1; have t2 := HT.out.c2; have t3 := HT.out.c3; have t4 := HT.out.c4; have t5 := HT.out.c5; have t6 := HT.out.c6; have t7 := HT.out.c7; have t8 := HT.out.c8
  have v0 := HV.out.c0; have v1 := HV.out.c1; have v2 := HV.out.c2
  clear h hk k1 k2 ht hv hr hh hU
  obtain ⟨r, hr⟩ := plc_ex true T.L v
  have AF := Lib.hid (fun w h => onR_any A n c T v w h r hr)
  have HFR := Lib.hid (plc_first hr)
  have HRR := Lib.hid hR
  clear hr hR
  go_enter Tryz.func165, Tryz.ntmps165
  go_wp2_with fail
  rw [HUU.out]
  go_wp2_with fail
  go_at_call 173
  refine (AF.out _ HH.out).mono ?_
  rintro e w1 ⟨rfl, hk1⟩
  replace HK := Lib.hid (HK.out.trans (hk1)); replace HT := Lib.hid (HT.out.kept (hk1)); replace HV := Lib.hid (HV.out.kept (hk1)); replace HR := Lib.hid (HR.out.kept (hk1))
  replace HH := Lib.hid (HH.out.kept hk1)
  clear t0 t1 t2 t3 t4 t5 t6 t7 t8 v0 v1 v2 hk1
  have r0 := HR.out.c0; have r1 := HR.out.c1; have r2 := HR.out.c2; have rf := HR.out.f
  rcases HFR.out with ⟨t, x, rfl, hx, hs, hf⟩ | ⟨rfl, hf⟩
  · have hlt : t < n := by have := plc_lt hx; rw [← HNL.out] at this; exact this
    obtain ⟨g, o, y, rfl, hy, EX⟩ := HH.out.get hlt
    obtain rfl : y = x := Option.some.inj (hy.symm.trans hx)
    have hf2 := (backT_at hf).symm.trans HRR.out
    rw [if_pos rfl] at hf2
    subst hf2
    have t0 := HT.out.c0
    have d1 : decide ((0 : Int) ≤ (t : Int)) = true := decide_eq_true (by omega)
    have d2 : decide ((t : Int) ≥ (0 : Int)) = true := decide_eq_true (by omega)
    have x0 := EX.c0; have x1 := EX.c1; have x2 := EX.c2
    clear hx hs hf hy EX
    go_wp2_with fail
    refine bodyPost_ret (by simp [results, Tryz.results165, go_sem, *]) rfl ⟨rfl, ?_⟩
    exact ((HK.out.setCell (a := ⟨w.heap.size + 1 + 1, 0, none⟩) (by simp; omega) _).setCell (a := ⟨w.heap.size + 1 + 1, 1, none⟩) (by simp; omega) _).setCell (a := ⟨w.heap.size + 1 + 1, 2, none⟩) (by simp; omega) _
  · have t1 := HT.out.c1
    rcases Bool.eq_false_or_eq_true T.keep with hkp | hkp
    · have hf2 := (backT_at hf).symm.trans HRR.out
      rw [if_neg (by simp), if_pos hkp] at hf2
      subst hf2
      rw [hkp] at t1
      have v0 := HV.out.c0; have v1 := HV.out.c1; have v2 := HV.out.c2
      clear hf
      go_wp2_with fail
      refine bodyPost_ret (by simp [results, Tryz.results165, go_sem, *]) rfl ⟨rfl, ?_⟩
      exact ((HK.out.setCell (a := ⟨w.heap.size + 1 + 1, 0, none⟩) (by simp; omega) _).setCell (a := ⟨w.heap.size + 1 + 1, 1, none⟩) (by simp; omega) _).setCell (a := ⟨w.heap.size + 1 + 1, 2, none⟩) (by simp; omega) _
    · have hf2 := (backT_at hf).symm.trans HRR.out
      rw [if_neg (by simp), if_neg (by rw [hkp]; simp)] at hf2
      subst hf2
      rw [hkp] at t1
      have t2 := HT.out.c5; have t3 := HT.out.c6; have t4 := HT.out.c7
      clear hf
      go_wp2_with fail
      refine bodyPost_ret (by simp [results, Tryz.results165, go_sem, *]) rfl ⟨rfl, ?_⟩
      exact ((HK.out.setCell (a := ⟨w.heap.size + 1 + 1, 0, none⟩) (by simp; omega) _).setCell (a := ⟨w.heap.size + 1 + 1, 1, none⟩) (by simp; omega) _).setCell (a := ⟨w.heap.size + 1 + 1, 2, none⟩) (by simp; omega) _
set_option maxRecDepth 100000 in
set_option maxHeartbeats 8000000 in
theorem htapply_any (A : Option Addr) (n c : Nat) (T : Tb) (v R : Va) (hR : applyT T v = R) (hv : v.t.size ≤ 1099511627776) (w : World) (h : Pal w A n c T.L) (hz : SzT T) :
    Calls Tryz.prog 152 #[.agg #[.slice A n c, .bool T.keep, .int .i64 T.d.k, .int .i64 T.d.n, .string T.d.t, .int .i64 T.b.k, .int .i64 T.b.n, .string T.b.t, .bool T.tu], .agg #[.int .i64 v.k, .int .i64 v.n, .string v.t]] w fun e w' => e = .returned (.agg #[.int .i64 R.k, .int .i64 R.n, .string R.t]) ∧ Kept w w' := by
  clear hz hv
  have hk := (((Kept.refl w).alloc #[.slice A n c, .bool T.keep, .int .i64 T.d.k, .int .i64 T.d.n, .string T.d.t, .int .i64 T.b.k, .int .i64 T.b.n, .string T.b.t, .bool T.tu] 31).alloc #[.int .i64 v.k, .int .i64 v.n, .string v.t] 26).alloc #[.int .i64 0, .int .i64 0, .string ⟨#[]⟩] 26
  have k1 := ((Kept.refl (w.alloc (.cells #[.slice A n c, .bool T.keep, .int .i64 T.d.k, .int .i64 T.d.n, .string T.d.t, .int .i64 T.b.k, .int .i64 T.b.n, .string T.b.t, .bool T.tu] 31))).alloc #[.int .i64 v.k, .int .i64 v.n, .string v.t] 26).alloc #[.int .i64 0, .int .i64 0, .string ⟨#[]⟩] 26
  have k2 := (Kept.refl ((w.alloc (.cells #[.slice A n c, .bool T.keep, .int .i64 T.d.k, .int .i64 T.d.n, .string T.d.t, .int .i64 T.b.k, .int .i64 T.b.n, .string T.b.t, .bool T.tu] 31)).alloc (.cells #[.int .i64 v.k, .int .i64 v.n, .string v.t] 26))).alloc #[.int .i64 0, .int .i64 0, .string ⟨#[]⟩] 26
  have ht := (TabB.new w A n c T 31).kept k1
  have hv := (VaO.new (w.alloc (.cells #[.slice A n c, .bool T.keep, .int .i64 T.d.k, .int .i64 T.d.n, .string T.d.t, .int .i64 T.b.k, .int .i64 T.b.n, .string T.b.t, .bool T.tu] 31)) v 26).kept k2
  have hr := VaO.new ((w.alloc (.cells #[.slice A n c, .bool T.keep, .int .i64 T.d.k, .int .i64 T.d.n, .string T.d.t, .int .i64 T.b.k, .int .i64 T.b.n, .string T.b.t, .bool T.tu] 31)).alloc (.cells #[.int .i64 v.k, .int .i64 v.n, .string v.t] 26)) .zero 26
  simp only [Va.zero] at hr
  rw [show (w.alloc (.cells #[.slice A n c, .bool T.keep, .int .i64 T.d.k, .int .i64 T.d.n, .string T.d.t, .int .i64 T.b.k, .int .i64 T.b.n, .string T.b.t, .bool T.tu] 31)).heap.size = w.heap.size + 1 by simp] at hv
  rw [show ((w.alloc (.cells #[.slice A n c, .bool T.keep, .int .i64 T.d.k, .int .i64 T.d.n, .string T.d.t, .int .i64 T.b.k, .int .i64 T.b.n, .string T.b.t, .bool T.tu] 31)).alloc (.cells #[.int .i64 v.k, .int .i64 v.n, .string v.t] 26)).heap.size = w.heap.size + 1 + 1 by simp] at hr
  have hh := h.kept hk
  obtain ⟨U, hU⟩ : ∃ U, ((w.alloc (.cells #[.slice A n c, .bool T.keep, .int .i64 T.d.k, .int .i64 T.d.n, .string T.d.t, .int .i64 T.b.k, .int .i64 T.b.n, .string T.b.t, .bool T.tu] 31)).alloc (.cells #[.int .i64 v.k, .int .i64 v.n, .string v.t] 26)).alloc (.cells #[.int .i64 0, .int .i64 0, .string ⟨#[]⟩] 26) = U := ⟨_, rfl⟩
  rw [hU] at hk ht hv hr hh
  have HK := Lib.hid hk; have HUU := Lib.hid hU; have HT := Lib.hid ht; have HV := Lib.hid hv; have HR := Lib.hid hr; have HH := Lib.hid hh
  have t0 := HT.out.c0; have t1 := HT.out.c1; have t2 := HT.out.c2; have t3 := HT.out.c3; have t4 := HT.out.c4; have t5 := HT.out.c5; have t6 := HT.out.c6; have t7 := HT.out.c7; have t8 := HT.out.c8
  have v0 := HV.out.c0; have v1 := HV.out.c1; have v2 := HV.out.c2
  clear h hk k1 k2 ht hv hr hh hU
  unfold applyT at hR
  rcases Bool.eq_false_or_eq_true T.tu with htu | htu
  · have AC := Lib.hid (fun w h => tback_any A n c T v R (by rw [htu] at hR; simpa using hR) w h)
    rw [htu] at t8 AC HUU ⊢
    clear hR
    go_enter Tryz.func152, Tryz.ntmps152
    go_wp2_with fail
    rw [HUU.out]
    go_wp2_with fail
    go_at_call 165
    refine (AC.out _ HH.out).mono ?_
    rintro e w1 ⟨rfl, hk1⟩
    replace HK := Lib.hid (HK.out.trans (hk1)); replace HT := Lib.hid (HT.out.kept (hk1)); replace HV := Lib.hid (HV.out.kept (hk1)); replace HR := Lib.hid (HR.out.kept (hk1))
    clear t0 t1 t2 t3 t4 t5 t6 t7 t8 v0 v1 v2 hk1
    have r0 := HR.out.c0; have r1 := HR.out.c1; have r2 := HR.out.c2; have rf := HR.out.f
    go_wp2_with fail
    refine bodyPost_ret (by simp [results, Tryz.results152, go_sem, *]) rfl ⟨rfl, ?_⟩
    exact ((HK.out.setCell (a := ⟨w.heap.size + 1 + 1, 0, none⟩) (by simp; omega) _).setCell (a := ⟨w.heap.size + 1 + 1, 1, none⟩) (by simp; omega) _).setCell (a := ⟨w.heap.size + 1 + 1, 2, none⟩) (by simp; omega) _
  · have AC := Lib.hid (fun w h => tforth_any A n c T v R (by rw [htu] at hR; simpa using hR) w h)
    rw [htu] at t8 AC HUU ⊢
    clear hR
    go_enter Tryz.func152, Tryz.ntmps152
    go_wp2_with fail
    rw [HUU.out]
    go_wp2_with fail
    go_at_call 166
    refine (AC.out _ HH.out).mono ?_
    rintro e w1 ⟨rfl, hk1⟩
    replace HK := Lib.hid (HK.out.trans (hk1)); replace HT := Lib.hid (HT.out.kept (hk1)); replace HV := Lib.hid (HV.out.kept (hk1)); replace HR := Lib.hid (HR.out.kept (hk1))
    clear t0 t1 t2 t3 t4 t5 t6 t7 t8 v0 v1 v2 hk1
    have r0 := HR.out.c0; have r1 := HR.out.c1; have r2 := HR.out.c2; have rf := HR.out.f
    go_wp2_with fail
    refine bodyPost_ret (by simp [results, Tryz.results152, go_sem, *]) rfl ⟨rfl, ?_⟩
    exact ((HK.out.setCell (a := ⟨w.heap.size + 1 + 1, 0, none⟩) (by simp; omega) _).setCell (a := ⟨w.heap.size + 1 + 1, 1, none⟩) (by simp; omega) _).setCell (a := ⟨w.heap.size + 1 + 1, 2, none⟩) (by simp; omega) _
set_option maxRecDepth 100000 in
set_option maxHeartbeats 8000000 in
theorem htway_any (A : Option Addr) (n c : Nat) (T : Tb) (v R : Va) (hR : wayT T v = R) (hv : v.t.size ≤ 1099511627776) (w : World) (h : Pal w A n c T.L) (hz : SzT T) :
    Calls Tryz.prog 153 #[.agg #[.slice A n c, .bool T.keep, .int .i64 T.d.k, .int .i64 T.d.n, .string T.d.t, .int .i64 T.b.k, .int .i64 T.b.n, .string T.b.t, .bool T.tu], .agg #[.int .i64 v.k, .int .i64 v.n, .string v.t]] w fun e w' => e = .returned (.agg #[.int .i64 R.k, .int .i64 R.n, .string R.t]) ∧ Kept w w' := by
  clear hz hv
  have hk := (((Kept.refl w).alloc #[.slice A n c, .bool T.keep, .int .i64 T.d.k, .int .i64 T.d.n, .string T.d.t, .int .i64 T.b.k, .int .i64 T.b.n, .string T.b.t, .bool T.tu] 31).alloc #[.int .i64 v.k, .int .i64 v.n, .string v.t] 26).alloc #[.int .i64 0, .int .i64 0, .string ⟨#[]⟩] 26
  have k1 := ((Kept.refl (w.alloc (.cells #[.slice A n c, .bool T.keep, .int .i64 T.d.k, .int .i64 T.d.n, .string T.d.t, .int .i64 T.b.k, .int .i64 T.b.n, .string T.b.t, .bool T.tu] 31))).alloc #[.int .i64 v.k, .int .i64 v.n, .string v.t] 26).alloc #[.int .i64 0, .int .i64 0, .string ⟨#[]⟩] 26
  have k2 := (Kept.refl ((w.alloc (.cells #[.slice A n c, .bool T.keep, .int .i64 T.d.k, .int .i64 T.d.n, .string T.d.t, .int .i64 T.b.k, .int .i64 T.b.n, .string T.b.t, .bool T.tu] 31)).alloc (.cells #[.int .i64 v.k, .int .i64 v.n, .string v.t] 26))).alloc #[.int .i64 0, .int .i64 0, .string ⟨#[]⟩] 26
  have ht := (TabB.new w A n c T 31).kept k1
  have hv := (VaO.new (w.alloc (.cells #[.slice A n c, .bool T.keep, .int .i64 T.d.k, .int .i64 T.d.n, .string T.d.t, .int .i64 T.b.k, .int .i64 T.b.n, .string T.b.t, .bool T.tu] 31)) v 26).kept k2
  have hr := VaO.new ((w.alloc (.cells #[.slice A n c, .bool T.keep, .int .i64 T.d.k, .int .i64 T.d.n, .string T.d.t, .int .i64 T.b.k, .int .i64 T.b.n, .string T.b.t, .bool T.tu] 31)).alloc (.cells #[.int .i64 v.k, .int .i64 v.n, .string v.t] 26)) .zero 26
  simp only [Va.zero] at hr
  rw [show (w.alloc (.cells #[.slice A n c, .bool T.keep, .int .i64 T.d.k, .int .i64 T.d.n, .string T.d.t, .int .i64 T.b.k, .int .i64 T.b.n, .string T.b.t, .bool T.tu] 31)).heap.size = w.heap.size + 1 by simp] at hv
  rw [show ((w.alloc (.cells #[.slice A n c, .bool T.keep, .int .i64 T.d.k, .int .i64 T.d.n, .string T.d.t, .int .i64 T.b.k, .int .i64 T.b.n, .string T.b.t, .bool T.tu] 31)).alloc (.cells #[.int .i64 v.k, .int .i64 v.n, .string v.t] 26)).heap.size = w.heap.size + 1 + 1 by simp] at hr
  have hh := h.kept hk
  obtain ⟨U, hU⟩ : ∃ U, ((w.alloc (.cells #[.slice A n c, .bool T.keep, .int .i64 T.d.k, .int .i64 T.d.n, .string T.d.t, .int .i64 T.b.k, .int .i64 T.b.n, .string T.b.t, .bool T.tu] 31)).alloc (.cells #[.int .i64 v.k, .int .i64 v.n, .string v.t] 26)).alloc (.cells #[.int .i64 0, .int .i64 0, .string ⟨#[]⟩] 26) = U := ⟨_, rfl⟩
  rw [hU] at hk ht hv hr hh
  have HK := Lib.hid hk; have HUU := Lib.hid hU; have HT := Lib.hid ht; have HV := Lib.hid hv; have HR := Lib.hid hr; have HH := Lib.hid hh
  have t0 := HT.out.c0; have t1 := HT.out.c1; have t2 := HT.out.c2; have t3 := HT.out.c3; have t4 := HT.out.c4; have t5 := HT.out.c5; have t6 := HT.out.c6; have t7 := HT.out.c7; have t8 := HT.out.c8
  have v0 := HV.out.c0; have v1 := HV.out.c1; have v2 := HV.out.c2
  clear h hk k1 k2 ht hv hr hh hU
  unfold wayT at hR
  rcases Bool.eq_false_or_eq_true T.tu with htu | htu
  · have AC := Lib.hid (fun w h => tforth_any A n c T v R (by rw [htu] at hR; simpa using hR) w h)
    rw [htu] at t8 AC HUU ⊢
    clear hR
    go_enter Tryz.func153, Tryz.ntmps153
    go_wp2_with fail
    rw [HUU.out]
    go_wp2_with fail
    go_at_call 166
    refine (AC.out _ HH.out).mono ?_
    rintro e w1 ⟨rfl, hk1⟩
    replace HK := Lib.hid (HK.out.trans (hk1)); replace HT := Lib.hid (HT.out.kept (hk1)); replace HV := Lib.hid (HV.out.kept (hk1)); replace HR := Lib.hid (HR.out.kept (hk1))
    clear t0 t1 t2 t3 t4 t5 t6 t7 t8 v0 v1 v2 hk1
    have r0 := HR.out.c0; have r1 := HR.out.c1; have r2 := HR.out.c2; have rf := HR.out.f
    go_wp2_with fail
    refine bodyPost_ret (by simp [results, Tryz.results153, go_sem, *]) rfl ⟨rfl, ?_⟩
    exact ((HK.out.setCell (a := ⟨w.heap.size + 1 + 1, 0, none⟩) (by simp; omega) _).setCell (a := ⟨w.heap.size + 1 + 1, 1, none⟩) (by simp; omega) _).setCell (a := ⟨w.heap.size + 1 + 1, 2, none⟩) (by simp; omega) _
  · have AC := Lib.hid (fun w h => tback_any A n c T v R (by rw [htu] at hR; simpa using hR) w h)
    rw [htu] at t8 AC HUU ⊢
    clear hR
    go_enter Tryz.func153, Tryz.ntmps153
    go_wp2_with fail
    rw [HUU.out]
    go_wp2_with fail
    go_at_call 165
    refine (AC.out _ HH.out).mono ?_
    rintro e w1 ⟨rfl, hk1⟩
    replace HK := Lib.hid (HK.out.trans (hk1)); replace HT := Lib.hid (HT.out.kept (hk1)); replace HV := Lib.hid (HV.out.kept (hk1)); replace HR := Lib.hid (HR.out.kept (hk1))
    clear t0 t1 t2 t3 t4 t5 t6 t7 t8 v0 v1 v2 hk1
    have r0 := HR.out.c0; have r1 := HR.out.c1; have r2 := HR.out.c2; have rf := HR.out.f
    go_wp2_with fail
    refine bodyPost_ret (by simp [results, Tryz.results153, go_sem, *]) rfl ⟨rfl, ?_⟩
    exact ((HK.out.setCell (a := ⟨w.heap.size + 1 + 1, 0, none⟩) (by simp; omega) _).setCell (a := ⟨w.heap.size + 1 + 1, 1, none⟩) (by simp; omega) _).setCell (a := ⟨w.heap.size + 1 + 1, 2, none⟩) (by simp; omega) _
end Go.Proofs.YtofnpifooaijcaaGreat
