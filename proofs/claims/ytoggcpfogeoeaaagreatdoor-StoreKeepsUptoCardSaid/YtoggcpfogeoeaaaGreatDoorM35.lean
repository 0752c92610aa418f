/-
  What is proved: Text of package entry and of the document's layer 7, called with any entry where the laid tables read as their initialisers lay them, return what P7.5 says; the world has new blocks at most.
  Text of package store (P8.9), called with any state of bounded length, where the laid tables read as their initialisers lay them, returns its entries as they are told, each in a line; the world has new blocks at most.
-/
import Derived.Test.YtoggcpfogeoeaaaGreatDoorM26
import Derived.Test.YtoggcpfogeoeaaaGreatDoorM11
import Derived.Test.YtoggcpfogeoeaaaGreatDoorM27
namespace Go.Proofs.YtoggcpfogeoeaaaGreatDoor
open Go.RowKit

/-- What the listed variables hold: those of layer 3, and the marks. -/
structure LaidE (w : World) : Prop where
  laid : LaidW w
  m0 : w.cell? ⟨0, 0, none⟩ = some (.string ⟨#[63]⟩)
  m1 : w.cell? ⟨0, 1, none⟩ = some (.string ⟨#[61]⟩)
  m2 : w.cell? ⟨0, 2, none⟩ = some (.string ⟨#[43]⟩)
  m3 : w.cell? ⟨0, 3, none⟩ = some (.string ⟨#[35]⟩)
theorem LaidE.kept {w w' : World} (h : LaidE w) (hg : Kept w w') : LaidE w' :=
  ⟨h.laid.kept hg, hg.cell h.m0, hg.cell h.m1, hg.cell h.m2, hg.cell h.m3⟩
theorem textD_size (x : Int × Int) (h1 : -9223372036854775808 ≤ x.1) (h2 : x.1 ≤ 9223372036854775807) (h3 : -9223372036854775808 ≤ x.2) (h4 : x.2 ≤ 9223372036854775807) : (textD x).size ≤ 43 := by
  have z1 := itoaS_size x.1 h1 h2
  have z2 := itoaS_size x.2 h3 h4
  have z3 : ((⟨#[46]⟩ : ByteArray)).size = 1 := rfl
  unfold textD
  rw [ByteArray.size_append, ByteArray.size_append]
  omega
theorem textV_size (k n : Int) (t : ByteArray) (h1 : -9223372036854775808 ≤ n) (h2 : n ≤ 9223372036854775807) : (textV k n t).size ≤ 21 + t.size := by
  have z1 := itoaS_size n h1 h2
  have z2 : ((⟨#[39]⟩ : ByteArray)).size = 1 := rfl
  have z3 : noS.size = 2 := rfl
  have z4 : yesS.size = 3 := rfl
  have z5 : ((⟨#[45]⟩ : ByteArray)).size = 1 := rfl
  unfold textV
  split
  · omega
  split
  · rw [ByteArray.size_append]; omega
  split
  · split <;> omega
  · omega

set_option maxRecDepth 100000 in
set_option maxHeartbeats 8000000 in
theorem etext_c (x : En) (r : ByteArray) (hr : textE x = r) (hx : EnB x) (w : World) (hp : x.p.size ≤ 1000000) (ht : x.vt.size ≤ 1000000) (hl : LaidE w) :
    Calls Tryz.prog 45 #[.agg #[.int .i64 x.d.1, .int .i64 x.d.2, .string x.p, .int .i64 x.k, .int .i64 x.vk, .int .i64 x.vn, .string x.vt, .int .i64 x.e.1, .int .i64 x.e.2]] w fun e w' => e = .returned (.string r) ∧ Kept w w' := by
  have hand := i64_and3 x.k
  have z1 := textD_size x.d hx.d1 hx.d2 hx.d3 hx.d4
  have z2 := textV_size x.vk x.vn x.vt hx.v1 hx.v2
  have z3 := textD_size x.e hx.e1 hx.e2 hx.e3 hx.e4
  obtain ⟨t1, ht1⟩ : ∃ t, textD x.d = t := ⟨_, rfl⟩
  obtain ⟨t2, ht2⟩ : ∃ t, textV x.vk x.vn x.vt = t := ⟨_, rfl⟩
  obtain ⟨t3, ht3⟩ : ∃ t, textD x.e = t := ⟨_, rfl⟩
  have A1 := Lib.hid (fun w hl => dtext_any x.d t1 ht1 w hx.d1 hx.d2 hx.d3 hx.d4 hl)
  have A2 := Lib.hid (fun w hl => show Calls Tryz.prog 73 #[.agg #[.int .i64 x.vk, .int .i64 x.vn, .string x.vt]] w fun e w' => e = .returned (.string t2) ∧ Kept w w' by rw [← ht2]; exact vtext_any x.vk x.vn x.vt w hx.v1 hx.v2 (by omega) hl)
  have A3 := Lib.hid (fun w hl => dtext_any x.e t3 ht3 w hx.e1 hx.e2 hx.e3 hx.e4 hl)
  rw [ht1] at z1
  rw [ht2] at z2
  rw [ht3] at z3
  have q1 : ((⟨#[32]⟩ : ByteArray)).size = 1 := rfl
  have q2 : ((⟨#[64]⟩ : ByteArray)).size = 1 := rfl
  have q3 : ((⟨#[63]⟩ : ByteArray)).size = 1 := rfl
  have q4 : ((⟨#[61]⟩ : ByteArray)).size = 1 := rfl
  have q5 : ((⟨#[43]⟩ : ByteArray)).size = 1 := rfl
  have q6 : ((⟨#[35]⟩ : ByteArray)).size = 1 := rfl
  have HR : ∀ m, markE x.k = m → t1 ++ ⟨#[32]⟩ ++ x.p ++ m ++ t2 ++ ⟨#[64]⟩ ++ t3 = r := fun m hm => by rw [← hr, ← ht1, ← ht2, ← ht3, ← hm]; rfl
  clear hr ht1 ht2 ht3 hx
  have HL := Lib.hid (hl.kept ((Kept.refl w).alloc #[.int .i64 x.d.1, .int .i64 x.d.2, .string x.p, .int .i64 x.k, .int .i64 x.vk, .int .i64 x.vn, .string x.vt, .int .i64 x.e.1, .int .i64 x.e.2] 35))
  clear hl
  have E0 := Ent.new w x 35
  have c0 := KExt.cell E0.c0
  have c1 := KExt.cell E0.c1
  have c2 := KExt.cell E0.c2
  have c3 := KExt.cell E0.c3
  have c4 := KExt.cell E0.c4
  have c5 := KExt.cell E0.c5
  have c6 := KExt.cell E0.c6
  have c7 := KExt.cell E0.c7
  have c8 := KExt.cell E0.c8
  clear E0
  have m0 := KExt.cell HL.out.m0
  have m1 := KExt.cell HL.out.m1
  have m2 := KExt.cell HL.out.m2
  have m3 := KExt.cell HL.out.m3
  obtain h | h | h | h : x.k % 4 = 0 ∨ x.k % 4 = 1 ∨ x.k % 4 = 2 ∨ x.k % 4 = 3 := by omega
  · have HF := Lib.hid (HR ⟨#[63]⟩ (by unfold markE; simp [h]))
    rw [h] at hand
    clear h HR
    go_enter Tryz.func45, Tryz.ntmps45
    go_wp2_with fail
    refine region_kept _ (by kernel_rfl) (by kernel_rfl) (Kept.refl _) ?_
    repeat (go_big_quiet_step ((first
      | (go_at_call 72; (with_reducible exact KExt.callsK (A1.out _ (HL.out.laid.kept (KExt.g _)))))
      | (go_at_call 73; (with_reducible exact KExt.callsK (A2.out _ (HL.out.laid.kept (KExt.g _)))))
      | (go_at_call 72; (with_reducible exact KExt.callsK (A3.out _ (HL.out.laid.kept (KExt.g _)))))
      | fail)))
    refine wpQuiet_nil ?_
    intro g
    go_wp2_with fail
    go_ret
    exact ⟨ret_str HF.out, ((Kept.refl w).alloc _ _).trans g.g⟩
  · have HF := Lib.hid (HR ⟨#[61]⟩ (by unfold markE; simp [h]))
    rw [h] at hand
    clear h HR
    go_enter Tryz.func45, Tryz.ntmps45
    go_wp2_with fail
    refine region_kept _ (by kernel_rfl) (by kernel_rfl) (Kept.refl _) ?_
    repeat (go_big_quiet_step ((first
      | (go_at_call 72; (with_reducible exact KExt.callsK (A1.out _ (HL.out.laid.kept (KExt.g _)))))
      | (go_at_call 73; (with_reducible exact KExt.callsK (A2.out _ (HL.out.laid.kept (KExt.g _)))))
      | (go_at_call 72; (with_reducible exact KExt.callsK (A3.out _ (HL.out.laid.kept (KExt.g _)))))
      | fail)))
    refine wpQuiet_nil ?_
    intro g
    go_wp2_with fail
    go_ret
    exact ⟨ret_str HF.out, ((Kept.refl w).alloc _ _).trans g.g⟩
  · have HF := Lib.hid (HR ⟨#[43]⟩ (by unfold markE; simp [h]))
    rw [h] at hand
    clear h HR
    go_enter Tryz.func45, Tryz.ntmps45
    go_wp2_with fail
    refine region_kept _ (by kernel_rfl) (by kernel_rfl) (Kept.refl _) ?_
    repeat (go_big_quiet_step ((first
      | (go_at_call 72; (with_reducible exact KExt.callsK (A1.out _ (HL.out.laid.kept (KExt.g _)))))
      | (go_at_call 73; (with_reducible exact KExt.callsK (A2.out _ (HL.out.laid.kept (KExt.g _)))))
      | (go_at_call 72; (with_reducible exact KExt.callsK (A3.out _ (HL.out.laid.kept (KExt.g _)))))
      | fail)))
    refine wpQuiet_nil ?_
    intro g
    go_wp2_with fail
    go_ret
    exact ⟨ret_str HF.out, ((Kept.refl w).alloc _ _).trans g.g⟩
  · have HF := Lib.hid (HR ⟨#[35]⟩ (by unfold markE; simp [h]))
    rw [h] at hand
    clear h HR
    go_enter Tryz.func45, Tryz.ntmps45
    go_wp2_with fail
    refine region_kept _ (by kernel_rfl) (by kernel_rfl) (Kept.refl _) ?_
    repeat (go_big_quiet_step ((first
      | (go_at_call 72; (with_reducible exact KExt.callsK (A1.out _ (HL.out.laid.kept (KExt.g _)))))
      | (go_at_call 73; (with_reducible exact KExt.callsK (A2.out _ (HL.out.laid.kept (KExt.g _)))))
      | (go_at_call 72; (with_reducible exact KExt.callsK (A3.out _ (HL.out.laid.kept (KExt.g _)))))
      | fail)))
    refine wpQuiet_nil ?_
    intro g
    go_wp2_with fail
    go_ret
    exact ⟨ret_str HF.out, ((Kept.refl w).alloc _ _).trans g.g⟩

end Go.Proofs.YtoggcpfogeoeaaaGreatDoor

namespace Go.Proofs.YtoggcpfogeoeaaaGreatDoor
open Go.RowKit
set_option linter.unusedVariables false

def textEs : List En → ByteArray
  | [] => ⟨#[]⟩
  | x :: L => textE x ++ ⟨#[10]⟩ ++ textEs L
theorem textEs_app (L M : List En) : textEs (L ++ M) = textEs L ++ textEs M := by
  induction L with
  | nil => show textEs M = ⟨#[]⟩ ++ textEs M; rw [ba_nil]
  | cons x L ih => show textE x ++ ⟨#[10]⟩ ++ textEs (L ++ M) = textE x ++ ⟨#[10]⟩ ++ textEs L ++ textEs M; simp only [ih, ba_assoc]
theorem textEs_take {L : List En} {k : Nat} {x : En} (h : L[k]? = some x) : textEs (L.take (k + 1)) = textEs (L.take k) ++ textE x ++ ⟨#[10]⟩ := by
  rw [List.take_add_one, h, Option.toList_some, textEs_app]
  show textEs (L.take k) ++ (textE x ++ ⟨#[10]⟩ ++ ⟨#[]⟩) = _
  rw [show textE x ++ ⟨#[10]⟩ ++ ⟨#[]⟩ = textE x ++ ⟨#[10]⟩ from ByteArray.append_empty, ba_assoc]
theorem textEn_size {x : En} (h : EnB x) : (textE x).size ≤ 1000 + x.p.size + x.vt.size := by
  have z1 := textD_size x.d h.d1 h.d2 h.d3 h.d4
  have z2 := textV_size x.vk x.vn x.vt h.v1 h.v2
  have z3 := textD_size x.e h.e1 h.e2 h.e3 h.e4
  have z4 : (markE x.k).size = 1 := by unfold markE; repeat (first | rfl | split)
  have z5 : (⟨#[32]⟩ : ByteArray).size = 1 := rfl
  have z6 : (⟨#[64]⟩ : ByteArray).size = 1 := rfl
  unfold textE
  simp only [ByteArray.size_append]
  omega
theorem textEs_size : ∀ {L : List En}, EnsB L → (textEs L).size ≤ L.length * 3001
  | [], _ => Nat.le_refl _
  | x :: L, h => by
    have h2 := h x (List.mem_cons_self ..)
    have h1 := textEn_size h2.1
    have h3 := textEs_size (fun y hy => h y (List.mem_cons_of_mem _ hy))
    have h4 : (⟨#[10]⟩ : ByteArray).size = 1 := rfl
    show (textE x ++ ⟨#[10]⟩ ++ textEs L).size ≤ (L.length + 1) * 3001
    rw [ByteArray.size_append, ByteArray.size_append]
    omega

set_option maxRecDepth 100000 in
set_option maxHeartbeats 8000000 in
theorem stext_any (A : Option Addr) (n c : Nat) (L : List En) (u1 u2 : Value) (w : World)
    (h : El w A n c L) (hn : n ≤ 1000) (hen : EnsB L) (hl : LaidE w) (r : ByteArray) (hr : textEs L = r) :
    Calls Tryz.prog 18 #[.agg #[.slice A n c, u1, u2]] w fun e w' => e = .returned (.string r) ∧ Kept w w' := by
  have hk := (Kept.refl w).alloc #[.slice A n c, u1, u2] 29
  have hcap := h.cap.1; have hcap2 := h.cap.2
  have HNL := Lib.hid h.1
  have HEN := Lib.hid hen
  have HR := Lib.hid hr
  have HB := Lib.hid (Box3.new w (.slice A n c) u1 u2 29)
  have HH := Lib.hid (h.kept hk)
  have hB0 := Bld.start (w.alloc (.cells #[.slice A n c, u1, u2] 29))
  have hsz : (w.alloc (.cells #[.slice A n c, u1, u2] 29)).heap.size = w.heap.size + 1 := by simp
  rw [hsz] at hB0
  have HK := Lib.hid hk
  have HLA := Lib.hid (hl.kept hk)
  obtain ⟨U, hU⟩ : ∃ U, w.alloc (.cells #[.slice A n c, u1, u2] 29) = U := ⟨_, rfl⟩
  rw [hU] at HK HB HH hB0 hsz HLA
  have HB0 := Lib.hid hB0
  have HUU := Lib.hid hU
  have d0 := (HB.out.kept hB0.ke).c0
  clear h hen hr hk hU hB0 hl
  go_enter Tryz.func18, Tryz.ntmps18
  go_wp2_with fail
  rw [HUU.out]
  go_wp2_with fail
  clear d0
  go_loopw [9] (fun i wr => ∃ t : Nat, t ≤ n ∧ i = .int .i64 t ∧ Bld U (w.heap.size + 1) wr (textEs (L.take t)).data.toList) (fun i _ => n - (intOf i).toNat)
  case atStart => exact ⟨0, Nat.zero_le _, rfl, HB0.out⟩
  case round =>
    obtain ⟨t, ht, rfl, hbl⟩ := hrel
    have HBL := Lib.hid hbl
    clear hbl
    have hs := textEs_size (HEN.out.take t)
    rw [List.length_take] at hs
    by_cases hlt : t < n
    · obtain ⟨g, o, x, rfl, hx, EX⟩ := (HH.out.kept HBL.out.ke).get hlt
      have x0 := EX.c0; have x1 := EX.c1; have x2 := EX.c2; have x3 := EX.c3; have x4 := EX.c4; have x5 := EX.c5; have x6 := EX.c6; have x7 := EX.c7; have x8 := EX.c8
      obtain ⟨hx1, hx2, hx3⟩ := HEN.out x (List.mem_of_getElem? hx)
      have hps := textEn_size hx1
      obtain ⟨y, hy⟩ : ∃ y, textE x = y := ⟨_, rfl⟩
      rw [hy] at hps
      have HX5 := Lib.hid (fun w hl => etext_c x y hy hx1 w (by omega) (by omega) hl)
      obtain ⟨q, hq⟩ : ∃ q, textEs (L.take t) ++ y = q := ⟨_, rfl⟩
      have HS := Lib.hid (show (textEs (L.take t)).data.toList ++ y.data.toList = q.data.toList from ba_list _ _ _ hq)
      have HS2 := Lib.hid (show q.data.toList ++ (⟨#[10]⟩ : ByteArray).data.toList = (textEs (L.take (t + 1))).data.toList from ba_list _ _ _ (by rw [textEs_take hx, hy, hq]))
      have HLL := Lib.hid (show (textEs (L.take t)).data.toList.length + y.size ≤ 140737488355328 by rw [ba_len]; omega)
      have HLL2 := Lib.hid (show q.data.toList.length + (⟨#[10]⟩ : ByteArray).size ≤ 140737488355328 by rw [ba_len, ← hq, ByteArray.size_append]; have : (⟨#[10]⟩ : ByteArray).size = 1 := rfl; omega)
      have hxe := Ent.new wr x 35
      have HL5 := Lib.hid (HLA.out.kept (HBL.out.ke.trans ((Kept.refl wr).alloc #[.int .i64 x.d.1, .int .i64 x.d.2, .string x.p, .int .i64 x.k, .int .i64 x.vk, .int .i64 x.vn, .string x.vt, .int .i64 x.e.1, .int .i64 x.e.2] 35)))
      have d0 := hxe.c0; have d1 := hxe.c1; have d2 := hxe.c2; have d3 := hxe.c3; have d4 := hxe.c4; have d5 := hxe.c5; have d6 := hxe.c6; have d7 := hxe.c7; have d8 := hxe.c8
      clear hx hx1 hy EX hxe hq
      go_wp2_with fail
      go_at_call 45
      refine (HX5.out _ HL5.out).mono ?_
      rintro e w5 ⟨rfl, hk5⟩
      have HB6 := Lib.hid (HBL.out.kept (((Kept.refl wr).alloc #[.int .i64 x.d.1, .int .i64 x.d.2, .string x.p, .int .i64 x.k, .int .i64 x.vk, .int .i64 x.vn, .string x.vt, .int .i64 x.e.1, .int .i64 x.e.2] 35).trans hk5))
      clear hk5 x0 x1 x2 x3 x4 x5 x6 x7 x8
      clear d0 d1 d2 d3 d4 d5 d6 d7 d8
      go_wp2_with fail
      go_at_call 37
      refine (write_any HB6.out y HLL.out _ HS.out).mono ?_
      rintro e w6 ⟨rfl, hbl6⟩
      have HB7 := Lib.hid hbl6
      clear hbl6
      go_wp2_with fail
      go_at_call 37
      refine (write_any HB7.out ⟨#[10]⟩ HLL2.out _ HS2.out).mono ?_
      rintro e w7 ⟨rfl, hbl7⟩
      go_wp2_with fail
      go_roundw
      case rel => exact ⟨t + 1, hlt, by go_num, hbl7⟩
      case measure => simp [intOf]; omega
    · obtain rfl : t = n := by omega
      have HF := Lib.hid (show textEs (L.take t) = r by rw [List.take_of_length_le (by rw [← HNL.out]; exact Nat.le_refl _)]; exact HR.out)
      rw [HF.out] at HBL
      go_wp2_with fail
      go_at_call 41
      refine (string_any HBL.out).mono ?_
      rintro e w6 ⟨rfl, hk6⟩
      go_wp2_with fail
      go_ret
      exact ⟨rfl, HK.out.trans hk6⟩
end Go.Proofs.YtoggcpfogeoeaaaGreatDoor

