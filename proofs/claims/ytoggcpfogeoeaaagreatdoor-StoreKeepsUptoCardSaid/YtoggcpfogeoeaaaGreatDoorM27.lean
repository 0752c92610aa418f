/-
  What is proved: Put of package store (P8.5), called with any short text and any state of bounded length, returns the text and the state behind it, as bytes; the world has new blocks at most.
  entry.next, at each type that Take asks for, called with what is taken so far and a function that takes a part, takes that part behind what was taken, or nothing behind an error; the world has new blocks at most, and what is left to take has changed.
-/
import Derived.Test.YtoggcpfogeoeaaaGreatDoorM21
import Derived.Test.YtoggcpfogeoeaaaGreatDoorM26
import Derived.Test.YtoggcpfogeoeaaaGreatDoorPlan
namespace Go.Proofs.YtoggcpfogeoeaaaGreatDoor
open Go.RowKit
set_option linter.unusedVariables false

theorem putEn_size (x : En) : (putE ⟨#[]⟩ x).size ≤ 90 + x.p.size + x.vt.size := by
  have h1 := putD_size ⟨#[]⟩ x.d
  have h2 := putS_size x.p.size
  have h3 := putS_size (x.k % 4).toNat
  have h4 := putV_size (putD ⟨#[]⟩ x.d ++ putS x.p.size ++ x.p ++ putS (x.k % 4).toNat) x.vk x.vn x.vt
  have h5 := putD_size (putV (putD ⟨#[]⟩ x.d ++ putS x.p.size ++ x.p ++ putS (x.k % 4).toNat) x.vk x.vn x.vt) x.e
  have h0 : (⟨#[]⟩ : ByteArray).size = 0 := rfl
  simp only [ByteArray.size_append] at h4
  unfold putE
  omega
/-- Entries of bounded numbers and texts. -/
def EnsB (L : List En) : Prop := ∀ x ∈ L, EnB x ∧ x.p.size ≤ 1000 ∧ x.vt.size ≤ 1000
theorem encEs_size : ∀ {L : List En}, EnsB L → (encEs L).size ≤ L.length * 2090
  | [], _ => Nat.le_refl _
  | x :: L, h => by
    have h1 := putEn_size x
    have h2 := h x (List.mem_cons_self ..)
    have h3 := encEs_size (fun y hy => h y (List.mem_cons_of_mem _ hy))
    show (putE ⟨#[]⟩ x ++ encEs L).size ≤ (L.length + 1) * 2090
    rw [ByteArray.size_append]
    omega
theorem EnsB.take {L : List En} (h : EnsB L) (t : Nat) : EnsB (L.take t) := fun x hx => h x (List.mem_of_mem_take hx)
theorem putSt_size {L : List En} (h : EnsB L) (b : ByteArray) (V : List Int) (C : List (Int × Int)) : (putSt b L V C).size ≤ b.size + 30 + V.length * 10 + C.length * 20 + L.length * 2090 := by
  have h1 := putS_size L.length
  have h2 := putC_size b V C
  have h3 := encEs_size h
  unfold putSt
  rw [ByteArray.size_append, ByteArray.size_append]
  omega
theorem ba_lists (a b r : ByteArray) (h : a ++ b = r) : a.data.toList ++ b.data.toList = r.data.toList := ba_list a b r h

set_option maxRecDepth 100000 in
set_option maxHeartbeats 8000000 in
theorem sput_any (b : ByteArray) (A : Option Addr) (n c : Nat) (L : List En) (B : Option Addr) (m k : Nat) (V : List Int) (D : Option Addr) (p q : Nat) (C : List (Int × Int)) (w : World)
    (h : El w A n c L) (hi : Il w B m k V) (hd : Dl w D p q C) (hc : RightC V C) (hb : b.size ≤ 10000) (hn : n ≤ 100) (hp : p ≤ 1000) (hen : EnsB L) (r : ByteArray) (hr : putSt b L V C = r) :
    Calls Tryz.prog 14 #[.string b, .agg #[.slice A n c, .slice B m k, .slice D p q]] w fun e w' => e = .returned (.string r) ∧ Kept w w' := by
  have hk := (Kept.refl w).alloc #[.slice A n c, .slice B m k, .slice D p q] 29
  have hcap := h.cap.1; have hcap2 := h.cap.2
  have HNL := Lib.hid h.1
  have HEN := Lib.hid hen
  have HB := Lib.hid (Box3.new w (.slice A n c) (.slice B m k) (.slice D p q) 29)
  have HH := Lib.hid (h.kept hk)
  have hB0 := Bld.start (w.alloc (.cells #[.slice A n c, .slice B m k, .slice D p q] 29))
  have hsz : (w.alloc (.cells #[.slice A n c, .slice B m k, .slice D p q] 29)).heap.size = w.heap.size + 1 := by simp
  rw [hsz] at hB0
  have HK := Lib.hid hk
  have hm64 : m ≤ 64 := by have := hi.1; have := hc.vec.len; omega
  have hV := hi.1; have hCl := hd.1
  obtain ⟨b1, hb1⟩ : ∃ b1, putC b V C = b1 := ⟨_, rfl⟩
  have hbs1 : b1.size ≤ 40000 := by rw [← hb1]; have := putC_size b V C; omega
  obtain ⟨b2, hb2⟩ : ∃ b2, b1 ++ putS n = b2 := ⟨_, rfl⟩
  have hbs2 : b2.size ≤ 40010 := by rw [← hb2, ByteArray.size_append]; have := putS_size n; omega
  have HP1 := Lib.hid (fun w hi hd => show Calls Tryz.prog 39 #[.string b, .agg #[.slice B m k, .slice D p q]] w fun e w' => e = .returned (.string b1) ∧ Kept w w' by
    rw [← hb1]; exact gputC_any b B m k V D p q C w hi hd hb (by omega) hp (fun x hx => by have := hc.vec.bd x hx; omega) (fun d hx => by have := rightD_bd (hc.right d hx); omega))
  have HP2 := Lib.hid (fun w => gputN b1 n w (by omega) (by omega) b2 hb2)
  have HI := Lib.hid (hi.kept hk); have HD := Lib.hid (hd.kept hk)
  have HR := Lib.hid (show b2 ++ encEs L = r by rw [← hr, ← hb2, ← hb1, show n = L.length from h.1]; rfl)
  have hw1 : IntKind.u64.wrap (n : Int) = (n : Int) := by rw [IntKind.wrap_u64]; omega
  obtain ⟨U, hU⟩ : ∃ U, w.alloc (.cells #[.slice A n c, .slice B m k, .slice D p q] 29) = U := ⟨_, rfl⟩
  rw [hU] at HK HB HH hB0 hsz HI HD
  have HB0 := Lib.hid hB0
  have HUU := Lib.hid hU
  clear h hi hd hc hen hr hk hU hB0 hb1 hb2 hV hCl
  go_enter Tryz.func14, Tryz.ntmps14
  go_wp2_with fail
  have c0 := KExt.cell HB.out.c0
  have c1 := KExt.cell HB.out.c1
  have c2 := KExt.cell HB.out.c2
  rw [HUU.out]
  refine region_plan U 10 (.read [0, 1, 2, 4, 5, 6, 7] (.one 3 (.one 8 (.one 9 .stop)))) (by kernel_rfl) (by kernel_rfl) (by kernel_rfl) (by kernel_rfl) (by kernel_rfl) (fun _ d _ _ _ h => by cases d <;> exact h) ((Kept.refl U).alloc _ _) ?_
  intro wd hwd
  have HBD := Lib.hid (HB0.out.kept hwd)
  clear hwd
  rw [wpPlan_read]
  simp only [pickOps_cons, pickOps_nil, consO_some, List.getElem?_cons_zero, List.getElem?_cons_succ]
  repeat (go_big_quiet_step (fail))
  refine wpQuiet_nil ?_
  rw [wpPlan_one]
  simp only [pickOps_cons, pickOps_nil, consO_some, List.getElem?_cons_zero, List.getElem?_cons_succ]
  go_wp2_with (go_at_call 39; refine (HP1.out _ (HI.out.kept HBD.out.ke) (HD.out.kept HBD.out.ke)).mono ?_; rintro e w3 ⟨rfl, hk3⟩)
  have HB3 := Lib.hid (HBD.out.kept hk3)
  clear hk3
  refine soloP HB3.out.ke ?_
  rw [wpPlan_one]
  simp only [pickOps_cons, pickOps_nil, consO_some, List.getElem?_cons_zero, List.getElem?_cons_succ]
  go_wp2_with (go_at_call 38; refine (HP2.out _).mono ?_; rintro e w4 ⟨rfl, hk4⟩)
  have HB4 := Lib.hid (HB3.out.kept hk4)
  clear hk4
  refine soloP HB4.out.ke ?_
  rw [wpPlan_one]
  simp only [pickOps_cons, pickOps_nil, consO_some, List.getElem?_cons_zero, List.getElem?_cons_succ]
  go_wp2_with (go_at_call 37; refine (write_any HB4.out b2 (by simp; omega) b2.data.toList (by simp)).mono ?_; rintro e w5 ⟨rfl, hb5⟩)
  have HB5 := Lib.hid hb5
  have d0 := (HB.out.kept hb5.ke).c0
  clear hb5
  refine soloP HB5.out.ke ?_
  refine wpPlan_stop ?_
  clear c0 c1 c2
  go_wp2_with fail
  clear d0
  go_loopw [21] (fun i wr => ∃ t : Nat, t ≤ n ∧ i = .int .i64 t ∧ Bld U (w.heap.size + 1) wr (b2 ++ encEs (L.take t)).data.toList) (fun i _ => n - (intOf i).toNat)
  case atStart => exact ⟨0, Nat.zero_le _, rfl, by rw [List.take_zero, show b2 ++ encEs [] = b2 from ByteArray.append_empty]; exact HB5.out⟩
  case round =>
    obtain ⟨t, ht, rfl, hbl⟩ := hrel
    have HBL := Lib.hid hbl
    clear hbl
    have hs := encEs_size (HEN.out.take t)
    rw [List.length_take] at hs
    by_cases hlt : t < n
    · obtain ⟨g, o, x, rfl, hx, EX⟩ := (HH.out.kept HBL.out.ke).get hlt
      have x0 := EX.c0; have x1 := EX.c1; have x2 := EX.c2; have x3 := EX.c3; have x4 := EX.c4; have x5 := EX.c5; have x6 := EX.c6; have x7 := EX.c7; have x8 := EX.c8
      obtain ⟨hx1, hx2, hx3⟩ := HEN.out x (List.mem_of_getElem? hx)
      have hps := putEn_size x
      obtain ⟨y, hy⟩ : ∃ y, putE ⟨#[]⟩ x = y := ⟨_, rfl⟩
      rw [hy] at hps
      have HX5 := Lib.hid (fun w => eput_c ⟨#[]⟩ x y hy hx1 w (by decide) hx2 hx3)
      have HS := Lib.hid (show (b2 ++ encEs (L.take t)).data.toList ++ y.data.toList = (b2 ++ encEs (L.take (t + 1))).data.toList from ba_list _ _ _ (by rw [encEs_take hx, hy, ba_assoc]))
      have HLL := Lib.hid (show (b2 ++ encEs (L.take t)).data.toList.length + y.size ≤ 140737488355328 by rw [ba_len, ByteArray.size_append]; omega)
      have hxe := Ent.new wr x 35
      have d0 := hxe.c0; have d1 := hxe.c1; have d2 := hxe.c2; have d3 := hxe.c3; have d4 := hxe.c4; have d5 := hxe.c5; have d6 := hxe.c6; have d7 := hxe.c7; have d8 := hxe.c8
      clear hx hx1 hy EX hxe
      go_wp2_with fail
      go_at_call 40
      refine (HX5.out _).mono ?_
      rintro e w5 ⟨rfl, hk5⟩
      have HB6 := Lib.hid (HBL.out.kept (((Kept.refl wr).alloc #[.int .i64 x.d.1, .int .i64 x.d.2, .string x.p, .int .i64 x.k, .int .i64 x.vk, .int .i64 x.vn, .string x.vt, .int .i64 x.e.1, .int .i64 x.e.2] 35).trans hk5))
      clear hk5 x0 x1 x2 x3 x4 x5 x6 x7 x8
      clear d0 d1 d2 d3 d4 d5 d6 d7 d8
      go_wp2_with fail
      go_at_call 37
      refine (write_any HB6.out y HLL.out _ HS.out).mono ?_
      rintro e w6 ⟨rfl, hbl6⟩
      go_wp2_with fail
      go_roundw
      case rel => exact ⟨t + 1, hlt, by go_num, hbl6⟩
      case measure => simp [intOf]; omega
    · obtain rfl : t = n := by omega
      have HF := Lib.hid (show b2 ++ encEs (L.take t) = r by rw [List.take_of_length_le (by rw [← HNL.out]; exact Nat.le_refl _)]; exact HR.out)
      rw [HF.out] at HBL
      go_wp2_with fail
      go_at_call 41
      refine (string_any HBL.out).mono ?_
      rintro e w6 ⟨rfl, hk6⟩
      go_wp2_with fail
      go_ret
      exact ⟨rfl, HK.out.trans hk6⟩
end Go.Proofs.YtoggcpfogeoeaaaGreatDoor

namespace Go.Proofs.YtoggcpfogeoeaaaGreatDoor
open Go.RowKit

/-- What is taken so far, in eleven cells that may be written: the entry, what is left, the first error. -/
structure Tk (w : World) (b : Nat) (x : En) (r : ByteArray) (z : Int) : Prop where
  ent : Ent w b x
  c9 : w.cell? ⟨b, 9, none⟩ = some (.string r)
  c10 : w.cell? ⟨b, 10, none⟩ = some (.int .i64 z)
  f : ∀ i, w.frozen? ⟨b, i, none⟩ = false
theorem Tk.lt {w : World} {b : Nat} {x : En} {r : ByteArray} {z : Int} (h : Tk w b x r z) : b < w.heap.size := World.block_lt_of_cell? w _ h.c9
theorem Tk.kept {w w' : World} {b : Nat} {x : En} {r : ByteArray} {z : Int} (h : Tk w b x r z) (hg : Kept w w') : Tk w' b x r z :=
  ⟨h.ent.kept hg, hg.cell h.c9, hg.cell h.c10, fun i => (hg.2.1 ⟨b, i, none⟩ h.lt).trans (h.f i)⟩
theorem far_cell {w : World} {b c i o : Nat} {v u : Value} (h : w.cell? ⟨b, i, none⟩ = some u) (hne : b ≠ c) : (w.setCell ⟨c, o, none⟩ v).cell? ⟨b, i, none⟩ = some u := by
  rw [World.cell?_setCell_other _ _ _ _ (by intro e; injection e; omega)]; exact h
theorem off_cell {w : World} {b i o : Nat} {v u : Value} (h : w.cell? ⟨b, i, none⟩ = some u) (hne : i ≠ o) : (w.setCell ⟨b, o, none⟩ v).cell? ⟨b, i, none⟩ = some u := by
  rw [World.cell?_setCell_other _ _ _ _ (by intro e; injection e; omega)]; exact h
theorem on_cell {w : World} {b i : Nat} {v u : Value} (h : w.cell? ⟨b, i, none⟩ = some u) : (w.setCell ⟨b, i, none⟩ v).cell? ⟨b, i, none⟩ = some v :=
  World.cell?_setCell_same _ _ _ h
theorem Ent.far {w : World} {b c o : Nat} {x : En} {v : Value} (h : Ent w b x) (hne : b ≠ c) : Ent (w.setCell ⟨c, o, none⟩ v) b x :=
  ⟨far_cell h.c0 hne, far_cell h.c1 hne, far_cell h.c2 hne, far_cell h.c3 hne, far_cell h.c4 hne, far_cell h.c5 hne, far_cell h.c6 hne, far_cell h.c7 hne, far_cell h.c8 hne⟩
theorem Ent.off {w : World} {b o : Nat} {x : En} {v : Value} (h : Ent w b x) (hne : 9 ≤ o) : Ent (w.setCell ⟨b, o, none⟩ v) b x :=
  ⟨off_cell h.c0 (by omega), off_cell h.c1 (by omega), off_cell h.c2 (by omega), off_cell h.c3 (by omega), off_cell h.c4 (by omega), off_cell h.c5 (by omega), off_cell h.c6 (by omega), off_cell h.c7 (by omega), off_cell h.c8 (by omega)⟩
theorem Tk.far {w : World} {b c o : Nat} {x : En} {r : ByteArray} {z : Int} {v : Value} (h : Tk w b x r z) (hne : b ≠ c) : Tk (w.setCell ⟨c, o, none⟩ v) b x r z :=
  ⟨h.ent.far hne, far_cell h.c9 hne, far_cell h.c10 hne, fun i => by rw [World.frozen?_setCell]; exact h.f i⟩
theorem Tk.set9 {w : World} {b : Nat} {x : En} {r : ByteArray} {z : Int} (h : Tk w b x r z) (r' : ByteArray) : Tk (w.setCell ⟨b, 9, none⟩ (.string r')) b x r' z :=
  ⟨h.ent.off (by omega), on_cell h.c9, off_cell h.c10 (by omega), fun i => by rw [World.frozen?_setCell]; exact h.f i⟩
theorem Tk.set10 {w : World} {b : Nat} {x : En} {r : ByteArray} {z : Int} (h : Tk w b x r z) (z' : Int) : Tk (w.setCell ⟨b, 10, none⟩ (.int .i64 z')) b x r z' :=
  ⟨h.ent.off (by omega), off_cell h.c9 (by omega), on_cell h.c10, fun i => by rw [World.frozen?_setCell]; exact h.f i⟩

theorem takePath_c (s : ByteArray) (t r : ByteArray) (k : Int) (h1 : ttT s 102 = t) (h2 : ttR s 102 = r) (h3 : (ttE s 102 : Int) = k) (hs : s.size ≤ 100000) (w : World) :
    Calls Tryz.prog 86 #[.string s] w fun e w' => e = .returned (.tuple #[.string t, .string r, .int .i64 k]) ∧ Kept w w' := by
  have A1 := Lib.hid (fun w => takeText_c s 102 t r k h1 h2 h3 (by omega) (by decide) (by decide) w)
  clear h1 h2 h3 hs
  go_enter Tryz.func86, Tryz.ntmps86
  go_wp2_with fail
  go_at_call 106
  refine (A1.out _).mono ?_
  rintro e w1 ⟨rfl, hg⟩
  go_wp2_with fail
  go_ret3
  exact ⟨rfl, kept_of hg⟩

theorem keptE_two {w w1 : World} {b : Nat} {c1 c2 : Array Value} {t1 t2 : TypeId} (h : Kept ((w.alloc (.cells c1 t1)).alloc (.cells c2 t2)) w1) : KeptE b w w1 :=
  .of ((((Kept.refl w).alloc c1 t1).alloc c2 t2).trans h)
theorem Box.newK (w : World) (x0 x1 x2 : Value) (t : TypeId) : Box (w.alloc (.cells #[x0, x1, x2] t)) w.heap.size x0 x1 x2 := Box.new w x0 x1 x2 t
theorem Box.keptK {w w' : World} {b : Nat} {x0 x1 x2 : Value} (h : Box w b x0 x1 x2) (hg : Kept w w') : Box w' b x0 x1 x2 :=
  ⟨hg.cell h.c0, hg.cell h.c1, hg.cell h.c2, fun i => (hg.2.1 ⟨b, i, none⟩ (show b < w.heap.size from World.block_lt_of_cell? w _ h.c0)).trans (h.f i)⟩

set_option maxRecDepth 100000 in
set_option maxHeartbeats 4000000 in
theorem nextD_go (w : World) (b : Nat) (x : En) (r : ByteArray) (T : Tk w b x r 0) (v : Int × Int) (r' : ByteArray) (z' : Int) (h1 : tdX r = v) (h2 : tdR r = r') (h3 : (tdE r : Int) = z') (hs : r.size ≤ 100000) :
    Calls Tryz.prog 84 #[.pointer (some ⟨b, 0, none⟩), .func (.func 83) #[] #[]] w fun e w' => e = .returned (.agg #[.int .i64 v.1, .int .i64 v.2]) ∧ Tk w' b x r' z' ∧ KeptE b w w' := by
  have A1 := Lib.hid (fun w => dtake_c r v r' z' h1 h2 h3 hs w)
  clear h1 h2 h3 hs
  have hb := T.lt
  have n1 : ¬ b = w.heap.size := by omega
  have n2 : ¬ w.heap.size = b := by omega
  have n3 : ¬ b = w.heap.size + 1 := by omega
  have n4 : ¬ w.heap.size + 1 = b := by omega
  have K2 := ((Kept.refl w).alloc #[.int .i64 0, .int .i64 0] 31).alloc #[.int .i64 0, .int .i64 0] 31
  have T2 := T.kept K2
  have HT := Lib.hid T2
  have c9 := T2.c9
  have c10 := T2.c10
  clear T T2 K2 hb
  go_enter Tryz.func84, Tryz.ntmps84
  go_wp2_with fail
  go_at_call 83
  refine (A1.out _).mono ?_
  rintro e w1 ⟨rfl, hg⟩
  have T3 := HT.out.kept hg
  have KE := Lib.hid (keptE_two (b := b) hg)
  have B1 := (Box2.new w (.int .i64 0) (.int .i64 0) 31).kept (((Kept.refl _).alloc #[.int .i64 0, .int .i64 0] 31).trans hg)
  have B2 := (Box2.new (w.alloc (.cells #[.int .i64 0, .int .i64 0] 31)) (.int .i64 0) (.int .i64 0) 31).kept hg
  rw [show (w.alloc (.cells #[.int .i64 0, .int .i64 0] 31)).heap.size = w.heap.size + 1 by simp] at B2
  clear c9 c10 hg
  have HT := Lib.hid T3
  have c9 := T3.c9
  have c10 := T3.c10
  have f9 := T3.f 9
  have f10 := T3.f 10
  have p0 := B1.c0; have p1 := B1.c1; have pf0 := B1.f 0; have pf1 := B1.f 1
  have q0 := B2.c0; have q1 := B2.c1; have qf0 := B2.f 0; have qf1 := B2.f 1
  clear T3 B1 B2
  go_wp2_with fail
  refine bodyPost_ret (by simp [results, Tryz.results84, go_sem, *]) rfl ⟨rfl, ?_, ?_⟩
  · exact ((((((HT.out.far n3).far n3).set9 r').set10 z').far n1).far n1)
  · exact ((((((KE.out.set (.inr (Nat.le_succ _)) _).set (.inr (Nat.le_succ _)) _).set (.inl rfl) _).set (.inl rfl) _).set (.inr (Nat.le_refl _)) _).set (.inr (Nat.le_refl _)) _)

set_option maxRecDepth 100000 in
set_option maxHeartbeats 4000000 in
theorem nextD_not (w : World) (b : Nat) (x : En) (r : ByteArray) (z : Int) (T : Tk w b x r z) (hz : z ≠ 0) :
    Calls Tryz.prog 84 #[.pointer (some ⟨b, 0, none⟩), .func (.func 83) #[] #[]] w fun e w' => e = .returned (.agg #[.int .i64 0, .int .i64 0]) ∧ Tk w' b x r z ∧ KeptE b w w' := by
  have e0 : (z == 0) = false := by simpa using hz
  clear hz
  have hb := T.lt
  have n1 : ¬ b = w.heap.size := by omega
  have n2 : ¬ w.heap.size = b := by omega
  have n3 : ¬ b = w.heap.size + 1 := by omega
  have n4 : ¬ w.heap.size + 1 = b := by omega
  have K2 := ((Kept.refl w).alloc #[.int .i64 0, .int .i64 0] 31).alloc #[.int .i64 0, .int .i64 0] 31
  have T2 := T.kept K2
  have HT := Lib.hid T2
  have HK := Lib.hid (KeptE.of (G := b) K2)
  have c10 := T2.c10
  clear T T2 K2 hb
  go_enter Tryz.func84, Tryz.ntmps84
  go_wp2_with fail
  refine bodyPost_ret (by simp [results, Tryz.results84, go_sem, *]) rfl ⟨rfl, ?_, ?_⟩
  · exact HT.out
  · exact HK.out

set_option maxRecDepth 100000 in
set_option maxHeartbeats 4000000 in
theorem nextP_go (w : World) (b : Nat) (x : En) (r : ByteArray) (T : Tk w b x r 0) (v : ByteArray) (r' : ByteArray) (z' : Int) (h1 : ttT r 102 = v) (h2 : ttR r 102 = r') (h3 : (ttE r 102 : Int) = z') (hs : r.size ≤ 100000) :
    Calls Tryz.prog 85 #[.pointer (some ⟨b, 0, none⟩), .func (.func 86) #[] #[]] w fun e w' => e = .returned (.string v) ∧ Tk w' b x r' z' ∧ KeptE b w w' := by
  have A1 := Lib.hid (fun w => takePath_c r v r' z' h1 h2 h3 hs w)
  clear h1 h2 h3 hs
  have HT := Lib.hid T
  have c9 := T.c9
  have c10 := T.c10
  clear T
  go_enter Tryz.func85, Tryz.ntmps85
  go_wp2_with fail
  go_at_call 86
  refine (A1.out _).mono ?_
  rintro e w1 ⟨rfl, hg⟩
  have T3 := HT.out.kept hg
  have KE := Lib.hid (KeptE.of (G := b) hg)
  clear c9 c10 hg
  have HT := Lib.hid T3
  have c9 := T3.c9
  have c10 := T3.c10
  have f9 := T3.f 9
  have f10 := T3.f 10
  clear T3
  go_wp2_with fail
  go_ret
  exact ⟨rfl, (HT.out.set9 r').set10 z', (KE.out.set (.inl rfl) _).set (.inl rfl) _⟩

set_option maxRecDepth 100000 in
set_option maxHeartbeats 4000000 in
theorem nextP_not (w : World) (b : Nat) (x : En) (r : ByteArray) (z : Int) (T : Tk w b x r z) (hz : z ≠ 0) :
    Calls Tryz.prog 85 #[.pointer (some ⟨b, 0, none⟩), .func (.func 86) #[] #[]] w fun e w' => e = .returned (.string ⟨#[]⟩) ∧ Tk w' b x r z ∧ KeptE b w w' := by
  have e0 : (z == 0) = false := by simpa using hz
  clear hz
  have HT := Lib.hid T
  have c10 := T.c10
  clear T
  go_enter Tryz.func85, Tryz.ntmps85
  go_wp2_with fail
  go_ret
  exact ⟨rfl, HT.out, .refl _ _⟩

set_option maxRecDepth 100000 in
set_option maxHeartbeats 4000000 in
theorem nextK_go (w : World) (b : Nat) (x : En) (r : ByteArray) (T : Tk w b x r 0) (v : Int) (r' : ByteArray) (z' : Int) (h1 : (tkN r : Int) = v) (h2 : tkR r = r') (h3 : (tkE r : Int) = z') (hs : r.size ≤ 100000) :
    Calls Tryz.prog 87 #[.pointer (some ⟨b, 0, none⟩), .func (.func 63) #[] #[]] w fun e w' => e = .returned (.int .u64 v) ∧ Tk w' b x r' z' ∧ KeptE b w w' := by
  have A1 := Lib.hid (fun w => take_c r v r' z' h1 h2 h3 (by omega) w)
  clear h1 h2 h3 hs
  have HT := Lib.hid T
  have c9 := T.c9
  have c10 := T.c10
  clear T
  go_enter Tryz.func87, Tryz.ntmps87
  go_wp2_with fail
  go_at_call 63
  refine (A1.out _).mono ?_
  rintro e w1 ⟨rfl, hg⟩
  replace hg := (kept_of hg)
  have T3 := HT.out.kept hg
  have KE := Lib.hid (KeptE.of (G := b) hg)
  clear c9 c10 hg
  have HT := Lib.hid T3
  have c9 := T3.c9
  have c10 := T3.c10
  have f9 := T3.f 9
  have f10 := T3.f 10
  clear T3
  go_wp2_with fail
  go_ret
  exact ⟨rfl, (HT.out.set9 r').set10 z', (KE.out.set (.inl rfl) _).set (.inl rfl) _⟩

set_option maxRecDepth 100000 in
set_option maxHeartbeats 4000000 in
theorem nextK_not (w : World) (b : Nat) (x : En) (r : ByteArray) (z : Int) (T : Tk w b x r z) (hz : z ≠ 0) :
    Calls Tryz.prog 87 #[.pointer (some ⟨b, 0, none⟩), .func (.func 63) #[] #[]] w fun e w' => e = .returned (.int .u64 0) ∧ Tk w' b x r z ∧ KeptE b w w' := by
  have e0 : (z == 0) = false := by simpa using hz
  clear hz
  have HT := Lib.hid T
  have c10 := T.c10
  clear T
  go_enter Tryz.func87, Tryz.ntmps87
  go_wp2_with fail
  go_ret
  exact ⟨rfl, HT.out, .refl _ _⟩

set_option maxRecDepth 100000 in
set_option maxHeartbeats 4000000 in
theorem nextV_go (w : World) (b : Nat) (x : En) (r : ByteArray) (T : Tk w b x r 0) (k n : Int) (t : ByteArray) (r' : ByteArray) (z' : Int) (h1 : tvK r = k) (h2 : tvI r = n) (h3 : tvT r = t) (h4 : tvR r = r') (h5 : (tvE r : Int) = z') (hs : r.size ≤ 100000) :
    Calls Tryz.prog 88 #[.pointer (some ⟨b, 0, none⟩), .func (.func 89) #[] #[]] w fun e w' => e = .returned (.agg #[.int .i64 k, .int .i64 n, .string t]) ∧ Tk w' b x r' z' ∧ KeptE b w w' := by
  have A1 := Lib.hid (fun w => vtake_c r k n t r' z' h1 h2 h3 h4 h5 (by omega) w)
  clear h1 h2 h3 h4 h5 hs
  have hb := T.lt
  have n1 : ¬ b = w.heap.size := by omega
  have n2 : ¬ w.heap.size = b := by omega
  have n3 : ¬ b = w.heap.size + 1 := by omega
  have n4 : ¬ w.heap.size + 1 = b := by omega
  have K2 := ((Kept.refl w).alloc #[.int .i64 0, .int .i64 0, .string ⟨#[]⟩] 33).alloc #[.int .i64 0, .int .i64 0, .string ⟨#[]⟩] 33
  have T2 := T.kept K2
  have HT := Lib.hid T2
  have c9 := T2.c9
  have c10 := T2.c10
  clear T T2 K2 hb
  go_enter Tryz.func88, Tryz.ntmps88
  go_wp2_with fail
  go_at_call 89
  refine (A1.out _).mono ?_
  rintro e w1 ⟨rfl, hg⟩
  replace hg := (kept_of hg)
  have T3 := HT.out.kept hg
  have KE := Lib.hid (keptE_two (b := b) hg)
  have B1 := (Box.new w (.int .i64 0) (.int .i64 0) (.string ⟨#[]⟩) 33).keptK (((Kept.refl _).alloc #[.int .i64 0, .int .i64 0, .string ⟨#[]⟩] 33).trans hg)
  have B2 := (Box.new (w.alloc (.cells #[.int .i64 0, .int .i64 0, .string ⟨#[]⟩] 33)) (.int .i64 0) (.int .i64 0) (.string ⟨#[]⟩) 33).keptK hg
  rw [show (w.alloc (.cells #[.int .i64 0, .int .i64 0, .string ⟨#[]⟩] 33)).heap.size = w.heap.size + 1 by simp] at B2
  clear c9 c10 hg
  have HT := Lib.hid T3
  have c9 := T3.c9
  have c10 := T3.c10
  have f9 := T3.f 9
  have f10 := T3.f 10
  have p0 := B1.c0; have p1 := B1.c1; have p2 := B1.c2; have pf0 := B1.f 0; have pf1 := B1.f 1; have pf2 := B1.f 2
  have q0 := B2.c0; have q1 := B2.c1; have q2 := B2.c2; have qf0 := B2.f 0; have qf1 := B2.f 1; have qf2 := B2.f 2
  clear T3 B1 B2
  go_wp2_with fail
  refine bodyPost_ret (by simp [results, Tryz.results88, go_sem, *]) rfl ⟨rfl, ?_, ?_⟩
  · exact ((((((((HT.out.far n3).far n3).far n3).set9 r').set10 z').far n1).far n1).far n1)
  · exact ((((((((KE.out.set (.inr (Nat.le_succ _)) _).set (.inr (Nat.le_succ _)) _).set (.inr (Nat.le_succ _)) _).set (.inl rfl) _).set (.inl rfl) _).set (.inr (Nat.le_refl _)) _).set (.inr (Nat.le_refl _)) _).set (.inr (Nat.le_refl _)) _)

set_option maxRecDepth 100000 in
set_option maxHeartbeats 4000000 in
theorem nextV_not (w : World) (b : Nat) (x : En) (r : ByteArray) (z : Int) (T : Tk w b x r z) (hz : z ≠ 0) :
    Calls Tryz.prog 88 #[.pointer (some ⟨b, 0, none⟩), .func (.func 89) #[] #[]] w fun e w' => e = .returned (.agg #[.int .i64 0, .int .i64 0, .string ⟨#[]⟩]) ∧ Tk w' b x r z ∧ KeptE b w w' := by
  have e0 : (z == 0) = false := by simpa using hz
  clear hz
  have hb := T.lt
  have n1 : ¬ b = w.heap.size := by omega
  have n2 : ¬ w.heap.size = b := by omega
  have n3 : ¬ b = w.heap.size + 1 := by omega
  have n4 : ¬ w.heap.size + 1 = b := by omega
  have K2 := ((Kept.refl w).alloc #[.int .i64 0, .int .i64 0, .string ⟨#[]⟩] 33).alloc #[.int .i64 0, .int .i64 0, .string ⟨#[]⟩] 33
  have T2 := T.kept K2
  have HT := Lib.hid T2
  have HK := Lib.hid (KeptE.of (G := b) K2)
  have c10 := T2.c10
  clear T T2 K2 hb
  go_enter Tryz.func88, Tryz.ntmps88
  go_wp2_with fail
  refine bodyPost_ret (by simp [results, Tryz.results88, go_sem, *]) rfl ⟨rfl, ?_, ?_⟩
  · exact HT.out
  · exact HK.out
end Go.Proofs.YtoggcpfogeoeaaaGreatDoor

