/-
  What is proved: Put and Text of package entry and of the document's layer 7, called with any entry, return what P7.3 and P7.5 say; the world has new blocks at most.
-/
import Derived.Test.YtoanccojpppfoaaDoorERight
namespace Go.Proofs.YtoanccojpppfoaaDoor
open Go.RowKit

/-- The numbers of an entry are ints. -/
structure EnB (x : En) : Prop where
  d1 : -9223372036854775808 ≤ x.d.1
  d2 : x.d.1 ≤ 9223372036854775807
  d3 : -9223372036854775808 ≤ x.d.2
  d4 : x.d.2 ≤ 9223372036854775807
  v1 : -9223372036854775808 ≤ x.vn
  v2 : x.vn ≤ 9223372036854775807
  e1 : -9223372036854775808 ≤ x.e.1
  e2 : x.e.1 ≤ 9223372036854775807
  e3 : -9223372036854775808 ≤ x.e.2
  e4 : x.e.2 ≤ 9223372036854775807
theorem putD_size (b : ByteArray) (x : Int × Int) : (putD b x).size ≤ b.size + 20 := by
  have h1 := putS_size (zigI x.1).toNat
  have h2 := putS_size (zigI x.2).toNat
  unfold putD
  rw [ByteArray.size_append, ByteArray.size_append]
  omega
theorem Ent.ext {w : World} {b : Nat} {x : En} (h : Ent w b x) (g : KExt w) : Ent g.w b x := h.kept g.g

set_option maxRecDepth 100000 in
set_option maxHeartbeats 4000000 in
theorem eput_c (b : ByteArray) (x : En) (r : ByteArray) (hr : putE b x = r) (hx : EnB x) (w : World) (hb : b.size ≤ 50000) (hp : x.p.size ≤ 1000) (ht : x.vt.size ≤ 1000) :
    Calls Tryd.prog 13 #[.string b, .agg #[.int .i64 x.d.1, .int .i64 x.d.2, .string x.p, .int .i64 x.k, .int .i64 x.vk, .int .i64 x.vn, .string x.vt, .int .i64 x.e.1, .int .i64 x.e.2]] w fun e w' => e = .returned (.string r) ∧ Kept w w' := by
  subst hr
  have hand := i64_and3 x.k
  obtain ⟨m, hm, hm4⟩ : ∃ m : Nat, x.k % 4 = (m : Int) ∧ m < 4 := ⟨(x.k % 4).toNat, by omega, by omega⟩
  have hwr : IntKind.u64.wrap (m : Int) = (m : Int) := by rw [IntKind.wrap_u64]; omega
  obtain ⟨b1, hb1⟩ : ∃ b1, putD b x.d = b1 := ⟨_, rfl⟩
  obtain ⟨b2, hb2⟩ : ∃ b2, b1 ++ putS x.p.size ++ x.p = b2 := ⟨_, rfl⟩
  obtain ⟨b3, hb3⟩ : ∃ b3, b2 ++ putS m = b3 := ⟨_, rfl⟩
  obtain ⟨b4, hb4⟩ : ∃ b4, putV b3 x.vk x.vn x.vt = b4 := ⟨_, rfl⟩
  have z1 : b1.size ≤ 50020 := by have := putD_size b x.d; rw [hb1] at this; omega
  have z2 : b2.size ≤ 51030 := by have := putS_size x.p.size; rw [← hb2, ByteArray.size_append, ByteArray.size_append]; omega
  have z3 : b3.size ≤ 51040 := by have := putS_size m; rw [← hb3, ByteArray.size_append]; omega
  have z4 : b4.size ≤ 52060 := by have := putV_size b3 x.vk x.vn x.vt; rw [hb4] at this; omega
  have A1 := Lib.hid (fun w => dputD_any b x.d b1 hb1 w hx.d1 hx.d2 hx.d3 hx.d4 (by omega))
  have A2 := Lib.hid (fun w => text_any b1 x.p w (by omega) (by omega))
  have A3 := Lib.hid (fun w => put9 b2 m m rfl w (by omega) (by omega))
  have A4 := Lib.hid (fun w => vput_any b3 x.vk x.vn x.vt w hx.v1 hx.v2 (by omega) (by omega))
  have A5 := Lib.hid (fun w => dputD_any b4 x.e _ rfl w hx.e1 hx.e2 hx.e3 hx.e4 (by omega))
  have HR := Lib.hid (show putD b4 x.e = putE b x by unfold putE; rw [hb1, hb2, show (x.k % 4).toNat = m by omega, hb3, hb4])
  rw [hm] at hand
  rw [hb2] at A2
  rw [hb3] at A3
  rw [hb4] at A4
  clear z1 z2 z3 z4 hb1 hb2 hb3 hb4 hx hb hp ht hm
  have E0 := Lib.hid (Ent.new w x 27)
  have K0 := Lib.hid ((Kept.refl w).alloc #[.int .i64 x.d.1, .int .i64 x.d.2, .string x.p, .int .i64 x.k, .int .i64 x.vk, .int .i64 x.vn, .string x.vt, .int .i64 x.e.1, .int .i64 x.e.2] 27)
  go_enter Tryd.func13, Tryd.ntmps13
  go_wp2_with fail
  have c0 := KExt.cell E0.out.c0
  have c1 := KExt.cell E0.out.c1
  have c2 := KExt.cell E0.out.c2
  have c3 := KExt.cell E0.out.c3
  have c4 := KExt.cell E0.out.c4
  have c5 := KExt.cell E0.out.c5
  have c6 := KExt.cell E0.out.c6
  have c7 := KExt.cell E0.out.c7
  have c8 := KExt.cell E0.out.c8
  refine region_kept _ (by kernel_rfl) (by kernel_rfl) (Kept.refl _) ?_
  repeat (go_big_quiet_step ((first
    | (go_at_call 40; (with_reducible exact KExt.callsK (A1.out _)))
    | (go_at_call 39; (with_reducible exact KExt.calls (A2.out _)))
    | fail)))
  refine wpQuiet_nil ?_
  intro g
  have E1 := Lib.hid (E0.out.ext g)
  have K1 := Lib.hid (K0.out.trans g.g)
  clear c0 c1 c2 c3 c4 c5 c6 c7 c8
  revert E1 K1
  generalize g.w = w1
  intro E1 K1
  clear g E0 K0
  have c0 := E1.out.c0
  have c1 := E1.out.c1
  have c2 := E1.out.c2
  have c3 := E1.out.c3
  have c4 := E1.out.c4
  have c5 := E1.out.c5
  have c6 := E1.out.c6
  have c7 := E1.out.c7
  have c8 := E1.out.c8
  go_wp2_with fail
  go_at_call 41
  refine (A3.out _).mono ?_
  rintro e w2 ⟨rfl, hg⟩
  have E2 := E1.out.kept (kept_of hg)
  have K2 := Lib.hid (K1.out.trans (kept_of hg))
  clear hg c0 c1 c2 c3 c4 c5 c6 c7 c8
  go_wp2_with fail
  have c0 := KExt.cell E2.c0
  have c1 := KExt.cell E2.c1
  have c2 := KExt.cell E2.c2
  have c3 := KExt.cell E2.c3
  have c4 := KExt.cell E2.c4
  have c5 := KExt.cell E2.c5
  have c6 := KExt.cell E2.c6
  have c7 := KExt.cell E2.c7
  have c8 := KExt.cell E2.c8
  refine region_kept _ (by kernel_rfl) (by kernel_rfl) (Kept.refl _) ?_
  repeat (go_big_quiet_step ((first
    | (go_at_call 42; (with_reducible exact KExt.calls (A4.out _)))
    | (go_at_call 40; (with_reducible exact KExt.callsK (A5.out _)))
    | fail)))
  refine wpQuiet_nil ?_
  intro g
  go_wp2_with fail
  go_ret
  exact ⟨ret_str HR.out, K2.out.trans g.g⟩

set_option maxRecDepth 100000 in
set_option maxHeartbeats 4000000 in
theorem reput_c (b : ByteArray) (x : En) (r : ByteArray) (hr : putE b x = r) (hx : EnB x) (w : World) (hb : b.size ≤ 50000) (hp : x.p.size ≤ 1000) (ht : x.vt.size ≤ 1000) :
    Calls Tryd.prog 14 #[.string b, .agg #[.int .i64 x.d.1, .int .i64 x.d.2, .string x.p, .int .i64 x.k, .int .i64 x.vk, .int .i64 x.vn, .string x.vt, .int .i64 x.e.1, .int .i64 x.e.2]] w fun e w' => e = .returned (.string r) ∧ Kept w w' := by
  subst hr
  have hand := i64_and3 x.k
  obtain ⟨m, hm, hm4⟩ : ∃ m : Nat, x.k % 4 = (m : Int) ∧ m < 4 := ⟨(x.k % 4).toNat, by omega, by omega⟩
  have hwr : IntKind.u64.wrap (m : Int) = (m : Int) := by rw [IntKind.wrap_u64]; omega
  obtain ⟨b1, hb1⟩ : ∃ b1, putD b x.d = b1 := ⟨_, rfl⟩
  obtain ⟨b2, hb2⟩ : ∃ b2, b1 ++ putS x.p.size ++ x.p = b2 := ⟨_, rfl⟩
  obtain ⟨b3, hb3⟩ : ∃ b3, b2 ++ putS m = b3 := ⟨_, rfl⟩
  obtain ⟨b4, hb4⟩ : ∃ b4, putV b3 x.vk x.vn x.vt = b4 := ⟨_, rfl⟩
  have z1 : b1.size ≤ 50020 := by have := putD_size b x.d; rw [hb1] at this; omega
  have z2 : b2.size ≤ 51030 := by have := putS_size x.p.size; rw [← hb2, ByteArray.size_append, ByteArray.size_append]; omega
  have z3 : b3.size ≤ 51040 := by have := putS_size m; rw [← hb3, ByteArray.size_append]; omega
  have z4 : b4.size ≤ 52060 := by have := putV_size b3 x.vk x.vn x.vt; rw [hb4] at this; omega
  have A1 := Lib.hid (fun w => rputD_any b x.d b1 hb1 w hx.d1 hx.d2 hx.d3 hx.d4 (by omega))
  have A2 := Lib.hid (fun w => rtext_any b1 x.p w (by omega) (by omega))
  have A3 := Lib.hid (fun w => rput9m b2 m m rfl w (by omega) (by omega))
  have A4 := Lib.hid (fun w => rput_anyV b3 x.vk x.vn x.vt w hx.v1 hx.v2 (by omega) (by omega))
  have A5 := Lib.hid (fun w => rputD_any b4 x.e _ rfl w hx.e1 hx.e2 hx.e3 hx.e4 (by omega))
  have HR := Lib.hid (show putD b4 x.e = putE b x by unfold putE; rw [hb1, hb2, show (x.k % 4).toNat = m by omega, hb3, hb4])
  rw [hm] at hand
  rw [hb2] at A2
  rw [hb3] at A3
  rw [hb4] at A4
  clear z1 z2 z3 z4 hb1 hb2 hb3 hb4 hx hb hp ht hm
  have E0 := Lib.hid (Ent.new w x 27)
  have K0 := Lib.hid ((Kept.refl w).alloc #[.int .i64 x.d.1, .int .i64 x.d.2, .string x.p, .int .i64 x.k, .int .i64 x.vk, .int .i64 x.vn, .string x.vt, .int .i64 x.e.1, .int .i64 x.e.2] 27)
  go_enter Tryd.func14, Tryd.ntmps14
  go_wp2_with fail
  have c0 := KExt.cell E0.out.c0
  have c1 := KExt.cell E0.out.c1
  have c2 := KExt.cell E0.out.c2
  have c3 := KExt.cell E0.out.c3
  have c4 := KExt.cell E0.out.c4
  have c5 := KExt.cell E0.out.c5
  have c6 := KExt.cell E0.out.c6
  have c7 := KExt.cell E0.out.c7
  have c8 := KExt.cell E0.out.c8
  refine region_kept _ (by kernel_rfl) (by kernel_rfl) (Kept.refl _) ?_
  repeat (go_big_quiet_step ((first
    | (go_at_call 44; (with_reducible exact KExt.callsK (A1.out _)))
    | (go_at_call 43; (with_reducible exact KExt.calls (A2.out _)))
    | fail)))
  refine wpQuiet_nil ?_
  intro g
  have E1 := Lib.hid (E0.out.ext g)
  have K1 := Lib.hid (K0.out.trans g.g)
  clear c0 c1 c2 c3 c4 c5 c6 c7 c8
  revert E1 K1
  generalize g.w = w1
  intro E1 K1
  clear g E0 K0
  have c0 := E1.out.c0
  have c1 := E1.out.c1
  have c2 := E1.out.c2
  have c3 := E1.out.c3
  have c4 := E1.out.c4
  have c5 := E1.out.c5
  have c6 := E1.out.c6
  have c7 := E1.out.c7
  have c8 := E1.out.c8
  clear c0 c1 c2 c3 c4 c5 c6 c7 c8
  go_wp2_with fail
  have c0 := KExt.cell E1.out.c0
  have c1 := KExt.cell E1.out.c1
  have c2 := KExt.cell E1.out.c2
  have c3 := KExt.cell E1.out.c3
  have c4 := KExt.cell E1.out.c4
  have c5 := KExt.cell E1.out.c5
  have c6 := KExt.cell E1.out.c6
  have c7 := KExt.cell E1.out.c7
  have c8 := KExt.cell E1.out.c8
  refine region_kept _ (by kernel_rfl) (by kernel_rfl) (Kept.refl _) ?_
  repeat (go_big_quiet_step ((first
    | (go_at_call 46; (with_reducible exact KExt.calls (A3.out _)))
    | (go_at_call 45; (with_reducible exact KExt.calls (A4.out _)))
    | (go_at_call 44; (with_reducible exact KExt.callsK (A5.out _)))
    | fail)))
  refine wpQuiet_nil ?_
  intro g
  go_wp2_with fail
  go_ret
  exact ⟨ret_str HR.out, K1.out.trans g.g⟩
end Go.Proofs.YtoanccojpppfoaaDoor
