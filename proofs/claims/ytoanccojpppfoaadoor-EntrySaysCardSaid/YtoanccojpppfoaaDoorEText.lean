/-
  What is proved: Text of package entry and of the document's layer 7, called with any entry where the laid tables read as their initialisers lay them, return what P7.5 says; the world has new blocks at most.
-/
import Derived.Test.YtoanccojpppfoaaDoorEPut
import Derived.Test.YtoanccojpppfoaaDoorDText
namespace Go.Proofs.YtoanccojpppfoaaDoor
open Go.RowKit

/-- What the listed variables hold: those of layer 3, and the marks. -/
structure LaidE (w : World) : Prop where
  laid : LaidW w
  m0 : w.cell? ⟨0, 0, none⟩ = some (.string ⟨#[63]⟩)
  m1 : w.cell? ⟨0, 1, none⟩ = some (.string ⟨#[61]⟩)
  m2 : w.cell? ⟨0, 2, none⟩ = some (.string ⟨#[43]⟩)
  m3 : w.cell? ⟨0, 3, none⟩ = some (.string ⟨#[35]⟩)
theorem LaidE.kept {w w' : World} (h : LaidE w) (hg : Kept w w') : LaidE w' :=
  ⟨h.laid.kept hg, hg.cell h.m0, hg.cell h.m1, hg.cell h.m2, hg.cell h.m3⟩
theorem textD_size (x : Int × Int) (h1 : -9223372036854775808 ≤ x.1) (h2 : x.1 ≤ 9223372036854775807) (h3 : -9223372036854775808 ≤ x.2) (h4 : x.2 ≤ 9223372036854775807) : (textD x).size ≤ 43 := by
  have z1 := itoaS_size x.1 h1 h2
  have z2 := itoaS_size x.2 h3 h4
  have z3 : ((⟨#[46]⟩ : ByteArray)).size = 1 := rfl
  unfold textD
  rw [ByteArray.size_append, ByteArray.size_append]
  omega
theorem textV_size (k n : Int) (t : ByteArray) (h1 : -9223372036854775808 ≤ n) (h2 : n ≤ 9223372036854775807) : (textV k n t).size ≤ 21 + t.size := by
  have z1 := itoaS_size n h1 h2
  have z2 : ((⟨#[39]⟩ : ByteArray)).size = 1 := rfl
  have z3 : noS.size = 2 := rfl
  have z4 : yesS.size = 3 := rfl
  have z5 : ((⟨#[45]⟩ : ByteArray)).size = 1 := rfl
  unfold textV
  split
  · omega
  split
  · rw [ByteArray.size_append]; omega
  split
  · split <;> omega
  · omega

set_option maxRecDepth 100000 in
set_option maxHeartbeats 8000000 in
theorem etext_c (x : En) (r : ByteArray) (hr : textE x = r) (hx : EnB x) (w : World) (hp : x.p.size ≤ 1000000) (ht : x.vt.size ≤ 1000000) (hl : LaidE w) :
    Calls Tryd.prog 15 #[.agg #[.int .i64 x.d.1, .int .i64 x.d.2, .string x.p, .int .i64 x.k, .int .i64 x.vk, .int .i64 x.vn, .string x.vt, .int .i64 x.e.1, .int .i64 x.e.2]] w fun e w' => e = .returned (.string r) ∧ Kept w w' := by
  have hand := i64_and3 x.k
  have z1 := textD_size x.d hx.d1 hx.d2 hx.d3 hx.d4
  have z2 := textV_size x.vk x.vn x.vt hx.v1 hx.v2
  have z3 := textD_size x.e hx.e1 hx.e2 hx.e3 hx.e4
  obtain ⟨t1, ht1⟩ : ∃ t, textD x.d = t := ⟨_, rfl⟩
  obtain ⟨t2, ht2⟩ : ∃ t, textV x.vk x.vn x.vt = t := ⟨_, rfl⟩
  obtain ⟨t3, ht3⟩ : ∃ t, textD x.e = t := ⟨_, rfl⟩
  have A1 := Lib.hid (fun w hl => dtext_any x.d t1 ht1 w hx.d1 hx.d2 hx.d3 hx.d4 hl)
  have A2 := Lib.hid (fun w hl => show Calls Tryd.prog 48 #[.agg #[.int .i64 x.vk, .int .i64 x.vn, .string x.vt]] w fun e w' => e = .returned (.string t2) ∧ Kept w w' by rw [← ht2]; exact vtext_any x.vk x.vn x.vt w hx.v1 hx.v2 (by omega) hl)
  have A3 := Lib.hid (fun w hl => dtext_any x.e t3 ht3 w hx.e1 hx.e2 hx.e3 hx.e4 hl)
  rw [ht1] at z1
  rw [ht2] at z2
  rw [ht3] at z3
  have q1 : ((⟨#[32]⟩ : ByteArray)).size = 1 := rfl
  have q2 : ((⟨#[64]⟩ : ByteArray)).size = 1 := rfl
  have q3 : ((⟨#[63]⟩ : ByteArray)).size = 1 := rfl
  have q4 : ((⟨#[61]⟩ : ByteArray)).size = 1 := rfl
  have q5 : ((⟨#[43]⟩ : ByteArray)).size = 1 := rfl
  have q6 : ((⟨#[35]⟩ : ByteArray)).size = 1 := rfl
  have HR : ∀ m, markE x.k = m → t1 ++ ⟨#[32]⟩ ++ x.p ++ m ++ t2 ++ ⟨#[64]⟩ ++ t3 = r := fun m hm => by rw [← hr, ← ht1, ← ht2, ← ht3, ← hm]; rfl
  clear hr ht1 ht2 ht3 hx
  have HL := Lib.hid (hl.kept ((Kept.refl w).alloc #[.int .i64 x.d.1, .int .i64 x.d.2, .string x.p, .int .i64 x.k, .int .i64 x.vk, .int .i64 x.vn, .string x.vt, .int .i64 x.e.1, .int .i64 x.e.2] 27))
  clear hl
  have E0 := Ent.new w x 27
  have c0 := KExt.cell E0.c0
  have c1 := KExt.cell E0.c1
  have c2 := KExt.cell E0.c2
  have c3 := KExt.cell E0.c3
  have c4 := KExt.cell E0.c4
  have c5 := KExt.cell E0.c5
  have c6 := KExt.cell E0.c6
  have c7 := KExt.cell E0.c7
  have c8 := KExt.cell E0.c8
  clear E0
  have m0 := KExt.cell HL.out.m0
  have m1 := KExt.cell HL.out.m1
  have m2 := KExt.cell HL.out.m2
  have m3 := KExt.cell HL.out.m3
  obtain h | h | h | h : x.k % 4 = 0 ∨ x.k % 4 = 1 ∨ x.k % 4 = 2 ∨ x.k % 4 = 3 := by omega
  · have HF := Lib.hid (HR ⟨#[63]⟩ (by unfold markE; simp [h]))
    rw [h] at hand
    clear h HR
    go_enter Tryd.func15, Tryd.ntmps15
    go_wp2_with fail
    refine region_kept _ (by kernel_rfl) (by kernel_rfl) (Kept.refl _) ?_
    repeat (go_big_quiet_step ((first
      | (go_at_call 47; (with_reducible exact KExt.callsK (A1.out _ (HL.out.laid.kept (KExt.g _)))))
      | (go_at_call 48; (with_reducible exact KExt.callsK (A2.out _ (HL.out.laid.kept (KExt.g _)))))
      | (go_at_call 47; (with_reducible exact KExt.callsK (A3.out _ (HL.out.laid.kept (KExt.g _)))))
      | fail)))
    refine wpQuiet_nil ?_
    intro g
    go_wp2_with fail
    go_ret
    exact ⟨ret_str HF.out, ((Kept.refl w).alloc _ _).trans g.g⟩
  · have HF := Lib.hid (HR ⟨#[61]⟩ (by unfold markE; simp [h]))
    rw [h] at hand
    clear h HR
    go_enter Tryd.func15, Tryd.ntmps15
    go_wp2_with fail
    refine region_kept _ (by kernel_rfl) (by kernel_rfl) (Kept.refl _) ?_
    repeat (go_big_quiet_step ((first
      | (go_at_call 47; (with_reducible exact KExt.callsK (A1.out _ (HL.out.laid.kept (KExt.g _)))))
      | (go_at_call 48; (with_reducible exact KExt.callsK (A2.out _ (HL.out.laid.kept (KExt.g _)))))
      | (go_at_call 47; (with_reducible exact KExt.callsK (A3.out _ (HL.out.laid.kept (KExt.g _)))))
      | fail)))
    refine wpQuiet_nil ?_
    intro g
    go_wp2_with fail
    go_ret
    exact ⟨ret_str HF.out, ((Kept.refl w).alloc _ _).trans g.g⟩
  · have HF := Lib.hid (HR ⟨#[43]⟩ (by unfold markE; simp [h]))
    rw [h] at hand
    clear h HR
    go_enter Tryd.func15, Tryd.ntmps15
    go_wp2_with fail
    refine region_kept _ (by kernel_rfl) (by kernel_rfl) (Kept.refl _) ?_
    repeat (go_big_quiet_step ((first
      | (go_at_call 47; (with_reducible exact KExt.callsK (A1.out _ (HL.out.laid.kept (KExt.g _)))))
      | (go_at_call 48; (with_reducible exact KExt.callsK (A2.out _ (HL.out.laid.kept (KExt.g _)))))
      | (go_at_call 47; (with_reducible exact KExt.callsK (A3.out _ (HL.out.laid.kept (KExt.g _)))))
      | fail)))
    refine wpQuiet_nil ?_
    intro g
    go_wp2_with fail
    go_ret
    exact ⟨ret_str HF.out, ((Kept.refl w).alloc _ _).trans g.g⟩
  · have HF := Lib.hid (HR ⟨#[35]⟩ (by unfold markE; simp [h]))
    rw [h] at hand
    clear h HR
    go_enter Tryd.func15, Tryd.ntmps15
    go_wp2_with fail
    refine region_kept _ (by kernel_rfl) (by kernel_rfl) (Kept.refl _) ?_
    repeat (go_big_quiet_step ((first
      | (go_at_call 47; (with_reducible exact KExt.callsK (A1.out _ (HL.out.laid.kept (KExt.g _)))))
      | (go_at_call 48; (with_reducible exact KExt.callsK (A2.out _ (HL.out.laid.kept (KExt.g _)))))
      | (go_at_call 47; (with_reducible exact KExt.callsK (A3.out _ (HL.out.laid.kept (KExt.g _)))))
      | fail)))
    refine wpQuiet_nil ?_
    intro g
    go_wp2_with fail
    go_ret
    exact ⟨ret_str HF.out, ((Kept.refl w).alloc _ _).trans g.g⟩

set_option maxRecDepth 100000 in
set_option maxHeartbeats 8000000 in
theorem retext_c (x : En) (r : ByteArray) (hr : textE x = r) (hx : EnB x) (w : World) (hp : x.p.size ≤ 1000000) (ht : x.vt.size ≤ 1000000) :
    Calls Tryd.prog 16 #[.agg #[.int .i64 x.d.1, .int .i64 x.d.2, .string x.p, .int .i64 x.k, .int .i64 x.vk, .int .i64 x.vn, .string x.vt, .int .i64 x.e.1, .int .i64 x.e.2]] w fun e w' => e = .returned (.string r) ∧ Kept w w' := by
  have hand := i64_and3 x.k
  have z1 := textD_size x.d hx.d1 hx.d2 hx.d3 hx.d4
  have z2 := textV_size x.vk x.vn x.vt hx.v1 hx.v2
  have z3 := textD_size x.e hx.e1 hx.e2 hx.e3 hx.e4
  obtain ⟨t1, ht1⟩ : ∃ t, textD x.d = t := ⟨_, rfl⟩
  obtain ⟨t2, ht2⟩ : ∃ t, textV x.vk x.vn x.vt = t := ⟨_, rfl⟩
  obtain ⟨t3, ht3⟩ : ∃ t, textD x.e = t := ⟨_, rfl⟩
  have A1 := Lib.hid (fun w => rtextD_any x.d t1 ht1 w hx.d1 hx.d2 hx.d3 hx.d4)
  have A2 := Lib.hid (fun w => show Calls Tryd.prog 50 #[.agg #[.int .i64 x.vk, .int .i64 x.vn, .string x.vt]] w fun e w' => e = .returned (.string t2) ∧ Grown w w' by rw [← ht2]; exact rtextV_any x.vk x.vn x.vt w hx.v1 hx.v2 (by omega))
  have A3 := Lib.hid (fun w => rtextD_any x.e t3 ht3 w hx.e1 hx.e2 hx.e3 hx.e4)
  rw [ht1] at z1
  rw [ht2] at z2
  rw [ht3] at z3
  have q1 : ((⟨#[32]⟩ : ByteArray)).size = 1 := rfl
  have q2 : ((⟨#[64]⟩ : ByteArray)).size = 1 := rfl
  have q3 : ((⟨#[63]⟩ : ByteArray)).size = 1 := rfl
  have q4 : ((⟨#[61]⟩ : ByteArray)).size = 1 := rfl
  have q5 : ((⟨#[43]⟩ : ByteArray)).size = 1 := rfl
  have q6 : ((⟨#[35]⟩ : ByteArray)).size = 1 := rfl
  have HR : ∀ m, markE x.k = m → t1 ++ ⟨#[32]⟩ ++ x.p ++ m ++ t2 ++ ⟨#[64]⟩ ++ t3 = r := fun m hm => by rw [← hr, ← ht1, ← ht2, ← ht3, ← hm]; rfl
  clear hr ht1 ht2 ht3 hx
  have E0 := Ent.new w x 27
  have B0 : ∀ i v, (#[Value.string ⟨#[63]⟩, .string ⟨#[61]⟩, .string ⟨#[43]⟩, .string ⟨#[35]⟩] : Array Value)[i]? = some v → ((w.alloc (.cells #[.int .i64 x.d.1, .int .i64 x.d.2, .string x.p, .int .i64 x.k, .int .i64 x.vk, .int .i64 x.vn, .string x.vt, .int .i64 x.e.1, .int .i64 x.e.2] 27)).alloc (.cells #[.string ⟨#[63]⟩, .string ⟨#[61]⟩, .string ⟨#[43]⟩, .string ⟨#[35]⟩] 64)).cell? ⟨w.heap.size + 1, i, none⟩ = some v := fun i v hv => by
    have := (Kept.refl ((w.alloc (.cells #[.int .i64 x.d.1, .int .i64 x.d.2, .string x.p, .int .i64 x.k, .int .i64 x.vk, .int .i64 x.vn, .string x.vt, .int .i64 x.e.1, .int .i64 x.e.2] 27)).alloc (.cells #[.string ⟨#[63]⟩, .string ⟨#[61]⟩, .string ⟨#[43]⟩, .string ⟨#[35]⟩] 64))).box i v hv
    rwa [show (w.alloc (.cells #[.int .i64 x.d.1, .int .i64 x.d.2, .string x.p, .int .i64 x.k, .int .i64 x.vk, .int .i64 x.vn, .string x.vt, .int .i64 x.e.1, .int .i64 x.e.2] 27)).heap.size = w.heap.size + 1 by simp] at this
  replace E0 := E0.kept ((Kept.refl _).alloc #[.string ⟨#[63]⟩, .string ⟨#[61]⟩, .string ⟨#[43]⟩, .string ⟨#[35]⟩] 64)
  have c0 := KExt.cell E0.c0
  have c1 := KExt.cell E0.c1
  have c2 := KExt.cell E0.c2
  have c3 := KExt.cell E0.c3
  have c4 := KExt.cell E0.c4
  have c5 := KExt.cell E0.c5
  have c6 := KExt.cell E0.c6
  have c7 := KExt.cell E0.c7
  have c8 := KExt.cell E0.c8
  clear E0
  have m0 := KExt.cell (B0 0 _ rfl)
  have m1 := KExt.cell (B0 1 _ rfl)
  have m2 := KExt.cell (B0 2 _ rfl)
  have m3 := KExt.cell (B0 3 _ rfl)
  clear B0
  obtain h | h | h | h : x.k % 4 = 0 ∨ x.k % 4 = 1 ∨ x.k % 4 = 2 ∨ x.k % 4 = 3 := by omega
  · have HF := Lib.hid (HR ⟨#[63]⟩ (by unfold markE; simp [h]))
    rw [h] at hand
    clear h HR
    go_enter Tryd.func16, Tryd.ntmps16
    go_wp2_with fail
    refine region_kept _ (by kernel_rfl) (by kernel_rfl) (Kept.refl _) ?_
    repeat (go_big_quiet_step ((first
      | (go_at_call 49; (with_reducible exact KExt.callsK (A1.out _)))
      | (go_at_call 50; (with_reducible exact KExt.calls (A2.out _)))
      | (go_at_call 49; (with_reducible exact KExt.callsK (A3.out _)))
      | fail)))
    refine wpQuiet_nil ?_
    intro g
    go_wp2_with fail
    go_ret
    exact ⟨ret_str HF.out, (((Kept.refl w).alloc _ _).alloc _ _).trans g.g⟩
  · have HF := Lib.hid (HR ⟨#[61]⟩ (by unfold markE; simp [h]))
    rw [h] at hand
    clear h HR
    go_enter Tryd.func16, Tryd.ntmps16
    go_wp2_with fail
    refine region_kept _ (by kernel_rfl) (by kernel_rfl) (Kept.refl _) ?_
    repeat (go_big_quiet_step ((first
      | (go_at_call 49; (with_reducible exact KExt.callsK (A1.out _)))
      | (go_at_call 50; (with_reducible exact KExt.calls (A2.out _)))
      | (go_at_call 49; (with_reducible exact KExt.callsK (A3.out _)))
      | fail)))
    refine wpQuiet_nil ?_
    intro g
    go_wp2_with fail
    go_ret
    exact ⟨ret_str HF.out, (((Kept.refl w).alloc _ _).alloc _ _).trans g.g⟩
  · have HF := Lib.hid (HR ⟨#[43]⟩ (by unfold markE; simp [h]))
    rw [h] at hand
    clear h HR
    go_enter Tryd.func16, Tryd.ntmps16
    go_wp2_with fail
    refine region_kept _ (by kernel_rfl) (by kernel_rfl) (Kept.refl _) ?_
    repeat (go_big_quiet_step ((first
      | (go_at_call 49; (with_reducible exact KExt.callsK (A1.out _)))
      | (go_at_call 50; (with_reducible exact KExt.calls (A2.out _)))
      | (go_at_call 49; (with_reducible exact KExt.callsK (A3.out _)))
      | fail)))
    refine wpQuiet_nil ?_
    intro g
    go_wp2_with fail
    go_ret
    exact ⟨ret_str HF.out, (((Kept.refl w).alloc _ _).alloc _ _).trans g.g⟩
  · have HF := Lib.hid (HR ⟨#[35]⟩ (by unfold markE; simp [h]))
    rw [h] at hand
    clear h HR
    go_enter Tryd.func16, Tryd.ntmps16
    go_wp2_with fail
    refine region_kept _ (by kernel_rfl) (by kernel_rfl) (Kept.refl _) ?_
    repeat (go_big_quiet_step ((first
      | (go_at_call 49; (with_reducible exact KExt.callsK (A1.out _)))
      | (go_at_call 50; (with_reducible exact KExt.calls (A2.out _)))
      | (go_at_call 49; (with_reducible exact KExt.callsK (A3.out _)))
      | fail)))
    refine wpQuiet_nil ?_
    intro g
    go_wp2_with fail
    go_ret
    exact ⟨ret_str HF.out, (((Kept.refl w).alloc _ _).alloc _ _).trans g.g⟩
end Go.Proofs.YtoanccojpppfoaaDoor
