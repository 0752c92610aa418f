/-
  What is proved: the Go function StoreKeeps of layer 8's law, called with any slices of entries and of dots that lie in memory, whose texts are no longer than a million bytes, where the laid tables read as their initialisers lay them, returns true; the world has new blocks at most.
-/
import Derived.Test.YtoggcpfogeoeaaaGreatDoorM36
namespace Go.Proofs.YtoggcpfogeoeaaaGreatDoor
open Go.RowKit
set_option linter.unusedVariables false

theorem Ent.keptE {G : Nat} {w w' : World} {b : Nat} {x : En} (h : Ent w b x) (k : KeptE G w w') (hb : b ≠ G) : Ent w' b x :=
  ⟨k.cell hb h.c0, k.cell hb h.c1, k.cell hb h.c2, k.cell hb h.c3, k.cell hb h.c4, k.cell hb h.c5, k.cell hb h.c6, k.cell hb h.c7, k.cell hb h.c8⟩
theorem Box3.set3 {w : World} {b : Nat} {u0 u1 u2 : Value} (h : Box3 w b u0 u1 u2) (v0 v1 v2 : Value) : Box3 (((w.setCell ⟨b, 0, none⟩ v0).setCell ⟨b, 1, none⟩ v1).setCell ⟨b, 2, none⟩ v2) b v0 v1 v2 := by
  refine ⟨?_, ?_, ?_, fun j => by rw [World.frozen?_setCell, World.frozen?_setCell, World.frozen?_setCell]; exact h.f j, by have := h.lt; simpa [World.setCell] using this⟩
  · rw [World.cell?_setCell_other _ _ _ _ (by simp), World.cell?_setCell_other _ _ _ _ (by simp)]
    exact World.cell?_setCell_same _ _ _ h.c0
  · rw [World.cell?_setCell_other _ _ _ _ (by simp)]
    refine World.cell?_setCell_same _ _ _ (u := u1) ?_
    rw [World.cell?_setCell_other _ _ _ _ (by simp)]
    exact h.c1
  · refine World.cell?_setCell_same _ _ _ (u := u2) ?_
    rw [World.cell?_setCell_other _ _ _ _ (by simp), World.cell?_setCell_other _ _ _ _ (by simp)]
    exact h.c2
/-- What is kept while entries are put in, one by one. -/
def Keeps (W : World) (b : Nat) (wr : World) (t : Nat) : Prop :=
  ∃ A n c B m k D p q L V C, Box3 wr b (.slice A n c) (.slice B m k) (.slice D p q) ∧ Stt wr A n c B m k D p q L V C ∧ StOk L V C ∧ BdEs L ∧ n ≤ t ∧ p ≤ t ∧ Kept W wr
theorem BdEs.with_ {L : List En} (h : BdEs L) {x : En} (hx : -9223372036854775808 ≤ x.vn ∧ x.vn ≤ 9223372036854775807) : BdEs (withE L x) := fun y hy => by
  rcases withE_mem.1 hy with rfl | ⟨h1, _⟩
  · exact hx
  · exact h y h1
theorem BdEs.out {L : List En} (h : BdEs L) (G : List (Int × Int)) : BdEs (outE L G) := fun y hy => h y (outE_mem.1 hy).1
theorem enB_of {x : En} (h : rightE x = true) (hx : -9223372036854775808 ≤ x.vn ∧ x.vn ≤ 9223372036854775807) : EnB x := by
  obtain ⟨a1, _, _, _, a5⟩ := rightE_of.1 h
  have hd := rightD_bd a1
  have hv : 0 ≤ x.e.1 ∧ x.e.1 < 64 ∧ 0 ≤ x.e.2 ∧ x.e.2 ≤ 1073741824 := by
    rcases verE_of a5 with h0 | h0
    · rw [h0]; decide
    · have := rightD_bd h0; omega
  exact ⟨by omega, by omega, by omega, by omega, hx.1, hx.2, by omega, by omega, by omega, by omega⟩
theorem ens_of {L : List En} {V : List Int} {C : List (Int × Int)} (h : StOk L V C) (hb : BdEs L) : EnsB L := fun x hx => by
  have := right_sizes (h.ent x hx)
  exact ⟨enB_of (h.ent x hx) (hb x hx), by omega, by omega⟩

theorem encEs_right : ∀ {L : List En}, (∀ x ∈ L, rightE x = true) → (encEs L).size ≤ L.length * 392
  | [], _ => Nat.le_refl _
  | x :: L, h => by
    have h1 := putEn_size x
    have h2 := right_sizes (h x (List.mem_cons_self ..))
    have h3 := encEs_right (fun y hy => h y (List.mem_cons_of_mem _ hy))
    show (putE ⟨#[]⟩ x ++ encEs L).size ≤ (L.length + 1) * 392
    rw [ByteArray.size_append]
    omega
theorem putSt_small {L : List En} {b : ByteArray} {V : List Int} {C : List (Int × Int)} (h : ∀ x ∈ L, rightE x = true) : (putSt b L V C).size ≤ b.size + 30 + 10 * V.length + 20 * C.length + L.length * 392 := by
  have h1 := putS_size L.length
  have h2 := putC_size b V C
  have h3 := encEs_right h
  unfold putSt
  rw [ByteArray.size_append, ByteArray.size_append]
  omega

set_option maxRecDepth 100000 in
set_option maxHeartbeats 4000000 in
theorem skeeps_big (A : Option Addr) (n c : Nat) (E : Option Addr) (gn gc : Nat) (w : World) (hn : n ≤ 9223372036854775807) (hg : gn ≤ 9223372036854775807) (h : 40 < n ∨ 40 < gn) (hl : LaidE w) :
    Calls Tryz.prog 3 #[.slice A n c, .slice E gn gc] w fun e w' => e = .returned (.bool true) ∧ Kept w w' := by
  have HL := Lib.hid hl
  clear hl
  by_cases h1 : 40 < n
  · have d1 : decide ((40 : Int) < (n : Int)) = true := decide_eq_true (by omega)
    have d2 : decide (40 < n) = true := decide_eq_true h1
    clear h
    go_enter Tryz.func3, Tryz.ntmps3
    go_wp2_with fail
    go_at_call 4
    refine (sawake_any _ HL.out).mono ?_
    rintro e w2 ⟨rfl, hg⟩
    go_wp2_with fail
    go_ret
    exact ⟨rfl, hg⟩
  · have h2 : 40 < gn := h.resolve_left h1
    have d1 : decide ((40 : Int) < (n : Int)) = false := decide_eq_false (by omega)
    have d2 : decide (40 < n) = false := decide_eq_false h1
    have d3 : decide ((40 : Int) < (gn : Int)) = true := decide_eq_true (by omega)
    have d4 : decide (40 < gn) = true := decide_eq_true h2
    clear h
    go_enter Tryz.func3, Tryz.ntmps3
    go_wp2_with fail
    go_at_call 4
    refine (sawake_any _ HL.out).mono ?_
    rintro e w2 ⟨rfl, hg⟩
    go_wp2_with fail
    go_ret
    exact ⟨rfl, hg⟩

set_option maxRecDepth 100000 in
set_option maxHeartbeats 32000000 in
theorem skeeps_small (A : Option Addr) (n c : Nat) (L : List En) (E : Option Addr) (gn gc : Nat) (G : List (Int × Int)) (w : World) (h : El w A n c L) (hg : Dl w E gn gc G) (hn : n ≤ 40) (hgn : gn ≤ 40)
    (hsz : ∀ x ∈ L, (x.p.size ≤ 1048576 ∧ x.vt.size ≤ 1048576) ∧ -9223372036854775808 ≤ x.vn ∧ x.vn ≤ 9223372036854775807) (hl : LaidE w) :
    Calls Tryz.prog 3 #[.slice A n c, .slice E gn gc] w fun e w' => e = .returned (.bool true) ∧ Kept w w' := by
  have hcap := h.cap.1; have hcap2 := h.cap.2; have hgap := hg.cap.1; have hgap2 := hg.cap.2
  have HNL := Lib.hid h.1
  have HGL := Lib.hid hg.1
  have HH := Lib.hid h; have HG := Lib.hid hg
  have HSZ := Lib.hid hsz
  have HL := Lib.hid hl
  have d1 : decide ((40 : Int) < (n : Int)) = false := decide_eq_false (by omega)
  have d2 : decide (40 < n) = false := decide_eq_false (by omega)
  have d3 : decide ((40 : Int) < (gn : Int)) = false := decide_eq_false (by omega)
  have d4 : decide (40 < gn) = false := decide_eq_false (by omega)
  have HS0 := Lib.hid (show Keeps w w.heap.size (w.alloc (.cells #[.slice none 0 0, .slice none 0 0, .slice none 0 0] 29)) 0 from
    ⟨none, 0, 0, none, 0, 0, none, 0, 0, [], [], [], Box3.new w _ _ _ _, ⟨El.nil _, Il.nil _, Dl.nil _⟩, StOk.nil, (fun x hx => by cases hx), Nat.le_refl _, Nat.le_refl _, (Kept.refl w).alloc _ _⟩)
  clear h hg hsz hl
  go_enter Tryz.func3, Tryz.ntmps3
  go_wp2_with fail
  clear d1 d2 d3 d4
  go_loopw [33] (fun i wr => ∃ t : Nat, t ≤ n ∧ i = .int .i64 t ∧ Keeps w w.heap.size wr t) (fun i _ => n - (intOf i).toNat)
  case atStart => exact ⟨0, Nat.zero_le _, rfl, HS0.out⟩
  case round =>
    obtain ⟨t, ht, rfl, A1, n1, c1, B1, m1, k1, D1, p1, q1, L1, V1, C1, hb, hs, hok, hbd, hn1, hp1, hk⟩ := hrel
    have HB := Lib.hid hb; have HS := Lib.hid hs; have HOK := Lib.hid hok; have HBD := Lib.hid hbd; have HK := Lib.hid hk
    have hwl := hb.lt
    clear hb hs hok hbd hk HS0
    by_cases hlt : t < n
    · obtain ⟨g, o, x, rfl, hx, EX⟩ := (HH.out.kept HK.out).get hlt
      have x0 := EX.c0; have x1 := EX.c1; have x2 := EX.c2; have x3 := EX.c3; have x4 := EX.c4; have x5 := EX.c5; have x6 := EX.c6; have x7 := EX.c7; have x8 := EX.c8
      have hxs := HSZ.out x (List.mem_of_getElem? hx)
      have HXS := Lib.hid hxs
      obtain ⟨r, hr⟩ : ∃ r, rightE x = r := ⟨_, rfl⟩
      have AR := Lib.hid (fun w => eright_c x r hr w (by have := hxs.1.1; omega) (by have := hxs.1.2; omega))
      have HR := Lib.hid hr
      have HX := Lib.hid (Ent.new wr x 35)
      have hka := (Kept.refl wr).alloc #[.int .i64 x.d.1, .int .i64 x.d.2, .string x.p, .int .i64 x.k, .int .i64 x.vk, .int .i64 x.vn, .string x.vt, .int .i64 x.e.1, .int .i64 x.e.2] 35
      have HKA := Lib.hid hka
      have HB1 := Lib.hid (HB.out.kept hka)
      have HS1 := Lib.hid (HS.out.kept hka)
      have e0 := HX.out.c6
      clear EX hx hxs hr hka HB HS e0
      go_wp2_with fail
      go_at_call 5
      refine (AR.out _).mono ?_
      rintro e w5 ⟨rfl, hk5⟩
      have HB5 := Lib.hid (HB1.out.kept hk5)
      have HS5 := Lib.hid (HS1.out.kept hk5)
      have HX5 := Lib.hid (HX.out.kept hk5)
      have HK5 := Lib.hid (HK.out.trans (HKA.out.trans hk5))
      have hxl : wr.heap.size < w5.heap.size := lt_box hk5
      clear hk5 HB1 HS1 HX HKA AR x0 x1 x2 x3 x4 x5 x6 x7 x8
      cases r with
      | false =>
        go_wp2_with fail
        go_at_call 4
        refine (sawake_any _ (HL.out.kept HK5.out)).mono ?_
        rintro e w6 ⟨rfl, hg⟩
        go_wp2_with fail
        go_ret
        exact ⟨rfl, HK5.out.trans hg⟩
      | true =>
        have hv := (right_sizes HR.out).2
        have d1 : decide ((300 : Int) < (x.vt.size : Int)) = false := decide_eq_false (by omega)
        have d2 : decide (300 < x.vt.size) = false := decide_eq_false (by omega)
        have y0 := HX5.out.c0; have y1 := HX5.out.c1; have y2 := HX5.out.c2; have y3 := HX5.out.c3; have y4 := HX5.out.c4; have y5 := HX5.out.c5; have y6 := HX5.out.c6; have y7 := HX5.out.c7; have y8 := HX5.out.c8
        have b0 := HB5.out.c0; have b1 := HB5.out.c1; have b2 := HB5.out.c2
        go_wp2_with fail
        go_at_call 6
        refine (with_any A1 n1 c1 L1 B1 m1 k1 V1 D1 p1 q1 C1 x _ HS5.out.el HS5.out.il HS5.out.dl HOK.out.rise HOK.out.ctx (by omega) (by omega)).mono ?_
        rintro e w6 ⟨A6, n6, c6, B6, m6, k6, D6, p6, q6, V6, C6, rfl, he6, hi6, hd6, hs6, hp6, hk6⟩
        have HOK6 := Lib.hid (HOK.out.put HR.out hs6)
        have HBD6 := Lib.hid (HBD.out.with_ HXS.out.2)
        have hn6 : n6 ≤ t + 1 := by have h1 := withE_len (L := L1) x; have h2 := he6.1; have h3 := HS5.out.el.1; omega
        have hp7 : p6 ≤ t + 1 := by omega
        have hbx := HB5.out.kept hk6
        have HB7 := Lib.hid (hbx.set3 (.slice A6 n6 c6) (.slice B6 m6 k6) (.slice D6 p6 q6))
        have HS7 := Lib.hid (show Stt (((w6.setCell ⟨w.heap.size, 0, none⟩ (.slice A6 n6 c6)).setCell ⟨w.heap.size, 1, none⟩ (.slice B6 m6 k6)).setCell ⟨w.heap.size, 2, none⟩ (.slice D6 p6 q6)) A6 n6 c6 B6 m6 k6 D6 p6 q6 (withE L1 x) V6 C6 from ⟨hbx.el _ _ _ he6, hbx.il _ _ _ hi6, hbx.dl _ _ _ hd6⟩)
        have HX7 := Lib.hid ((HX5.out.kept hk6).keptE (((KeptE.refl w.heap.size w6).set (a := ⟨w.heap.size, 0, none⟩) (.inl rfl) (.slice A6 n6 c6)).set (a := ⟨w.heap.size, 1, none⟩) (.inl rfl) (.slice B6 m6 k6) |>.set (a := ⟨w.heap.size, 2, none⟩) (.inl rfl) (.slice D6 p6 q6)) (by omega))
        have HK7 := Lib.hid ((((HK5.out.trans hk6).setCell (a := ⟨w.heap.size, 0, none⟩) (Nat.le_refl _) (.slice A6 n6 c6)).setCell (a := ⟨w.heap.size, 1, none⟩) (Nat.le_refl _) (.slice B6 m6 k6)).setCell (a := ⟨w.heap.size, 2, none⟩) (Nat.le_refl _) (.slice D6 p6 q6))
        have f0 := hbx.c0; have f1 := hbx.c1; have f2 := hbx.c2; have ef0 := hbx.f 0; have ef1 := hbx.f 1; have ef2 := hbx.f 2
        have zz0 := (HX5.out.kept hk6).c0; have zz1 := (HX5.out.kept hk6).c1
        have ne1 : ¬ wr.heap.size = w.heap.size := (by omega)
        have ne2 : ¬ w.heap.size = wr.heap.size := (by omega)
        clear he6 hi6 hd6 hs6 hp6 hk6 hbx b0 b1 b2 HB5 HS5 HX5 HK5 d1 d2 y0 y1 y2 y3 y4 y5 y6 y7 y8
        go_wp2_with fail
        go_at_call 7
        refine (get_any A6 n6 c6 (withE L1 x) _ _ x.d.1 x.d.2 _ HS7.out.el HOK6.out.rise (by omega) true hasE_with).mono ?_
        rintro e w8 ⟨y, rfl, hy1, -, hk8⟩
        obtain ⟨hym, hyd⟩ := hy1 rfl
        obtain rfl : x = y := (rise_one HOK6.out.rise hym (withE_mem.2 (.inl rfl)) hyd).symm
        have HY8 := Lib.hid (Ent.new w8 x 35)
        have hka := (Kept.refl w8).alloc #[.int .i64 x.d.1, .int .i64 x.d.2, .string x.p, .int .i64 x.k, .int .i64 x.vk, .int .i64 x.vn, .string x.vt, .int .i64 x.e.1, .int .i64 x.e.2] 35
        have HKA := Lib.hid hka
        have HB9 := Lib.hid ((HB7.out.kept hk8).kept hka)
        have HS9 := Lib.hid ((HS7.out.kept hk8).kept hka)
        have HX9 := Lib.hid ((HX7.out.kept hk8).kept hka)
        have HK9 := Lib.hid ((HK7.out.trans hk8).trans hka)
        have b0 := (HB7.out.kept hk8).c0; have b1 := (HB7.out.kept hk8).c1; have b2 := (HB7.out.kept hk8).c2
        have hbl : w.heap.size < w8.heap.size := (HB7.out.kept hk8).lt
        have hxl8 : wr.heap.size < w8.heap.size := World.block_lt_of_cell? w8 _ (HX7.out.kept hk8).c0
        clear hy1 hym hyd hk8 hka f0 f1 f2 ef0 ef1 ef2 zz0 zz1 HB7 HS7 HX7 HK7
        go_wp2_with fail
        go_at_call 8
        refine (sright_any A6 n6 c6 (withE L1 x) B6 m6 k6 V6 D6 p6 q6 C6 _ HS9.out.el HS9.out.il HS9.out.dl HOK6.out.ctx (by omega) (by omega) (fun y hy => by have := right_sizes (HOK6.out.ent y hy); omega) true ⟨fun _ => HOK6.out, fun _ => rfl⟩).mono ?_
        rintro e w9 ⟨rfl, hk9⟩
        have HY9 := HY8.out.kept hk9
        have HXX := HX9.out.kept hk9
        have y0 := HY9.c0; have y1 := HY9.c1; have y2 := HY9.c2; have y3 := HY9.c3; have y4 := HY9.c4; have y5 := HY9.c5; have y6 := HY9.c6; have y7 := HY9.c7; have y8 := HY9.c8
        have x0 := HXX.c0; have x1 := HXX.c1; have x2 := HXX.c2; have x3 := HXX.c3; have x4 := HXX.c4; have x5 := HXX.c5; have x6 := HXX.c6; have x7 := HXX.c7; have x8 := HXX.c8
        have HEND := Lib.hid (show Keeps w w.heap.size w9 (t + 1) from ⟨A6, n6, c6, B6, m6, k6, D6, p6, q6, withE L1 x, V6, C6, HB9.out.kept hk9, HS9.out.kept hk9, HOK6.out, HBD6.out, hn6, hp7, HK9.out.trans hk9⟩)
        clear HY9 HXX hk9 b0 b1 b2
        go_wp2_with fail
        go_roundw
        case rel => exact ⟨t + 1, hlt, by go_num, HEND.out⟩
        case measure => simp [intOf]; omega
    · obtain rfl : t = n := by omega
      have b0 := HB.out.c0; have b1 := HB.out.c1; have b2 := HB.out.c2
      have hn40 : n1 ≤ 40 := by omega
      have hp40 : p1 ≤ 40 := by omega
      go_wp2_with fail
      go_at_call 9
      refine (without_any A1 n1 c1 L1 B1 m1 k1 V1 D1 p1 q1 C1 E gn gc G _ HS.out.el HS.out.il HS.out.dl (HG.out.kept HK.out) HOK.out.ctx (by omega) (by omega) (by omega)).mono ?_
      rintro e w2 ⟨A2, n2, c2, B2, m2, k2, D2, p2, q2, V2, C2, rfl, he2, hi2, hd2, hs2, hp2, hk2⟩
      have HOK2 := Lib.hid (HOK.out.out hs2)
      have HBD2 := Lib.hid (HBD.out.out G)
      have HSET := Lib.hid hs2
      have hn2 : n2 ≤ 40 := by have h1 := outE_len L1 G; have h2 := he2.1; have h3 := HS.out.el.1; omega
      have hp3 : p2 ≤ 80 := by omega
      have HW2 := Lib.hid (show Stt w2 A2 n2 c2 B2 m2 k2 D2 p2 q2 (outE L1 G) V2 C2 from ⟨he2, hi2, hd2⟩)
      have HS2 := Lib.hid (HS.out.kept hk2)
      have HB2 := Lib.hid (HB.out.kept hk2)
      have HK2 := Lib.hid (HK.out.trans hk2)
      have HX2 := Lib.hid (Box3.new w2 (.slice A2 n2 c2) (.slice B2 m2 k2) (.slice D2 p2 q2) 29)
      have HG2 := Lib.hid (HG.out.kept HK2.out)
      have hcap1 : n1 ≤ c1 := HS.out.el.cap.1
      have hcap3 : c1 ≤ 9223372036854775807 := HS.out.el.cap.2
      have hbl2 : w.heap.size < w2.heap.size := HB2.out.lt
      clear he2 hi2 hd2 hs2 hp2 hk2 b0 b1 b2 HB HS HOK HBD HK hlt
      have HKA := Lib.hid ((Kept.refl w2).alloc #[.slice A2 n2 c2, .slice B2 m2 k2, .slice D2 p2 q2] 29)
      go_wp2_with fail
      go_loopw [76] (fun i wr => ∃ t : Nat, t ≤ gn ∧ i = .int .i64 t ∧ Kept (w2.alloc (.cells #[.slice A2 n2 c2, .slice B2 m2 k2, .slice D2 p2 q2] 29)) wr) (fun i _ => gn - (intOf i).toNat)
      case atStart => exact ⟨0, Nat.zero_le _, rfl, Kept.refl _⟩
      case round =>
        obtain ⟨t2, ht2, rfl, hk3⟩ := hrel
        have HK3 := Lib.hid (HKA.out.trans hk3)
        have HX3 := Lib.hid (HX2.out.kept hk3)
        have HK3A := Lib.hid hk3
        have hxl3 : w2.heap.size < _ := HX3.out.lt
        clear hk3
        by_cases hlt2 : t2 < gn
        · obtain ⟨g, o, ⟨y1, y2⟩, rfl, hy, g1, g2⟩ := (HG2.out.kept HK3.out).get hlt2
          simp only at g1 g2
          have HM := Lib.hid (List.mem_of_getElem? hy)
          have x0 := HX3.out.c0; have x1 := HX3.out.c1; have x2 := HX3.out.c2
          obtain ⟨r, hr⟩ : ∃ r, rightD (y1, y2) = r := ⟨_, rfl⟩
          have AR := Lib.hid (fun w => dright_c (y1, y2) r hr w)
          have HR := Lib.hid hr
          clear hy hr
          go_wp2_with fail
          go_at_call 7
          refine (get_any A2 n2 c2 (outE L1 G) _ _ y1 y2 _ ((HW2.out.kept HK3.out).el.kept ((Kept.refl _).alloc #[.int .i64 y1, .int .i64 y2] 31)) HOK2.out.rise (by omega) false (hasE_out HM.out)).mono ?_
          rintro e w5 ⟨y, rfl, -, -, hk5⟩
          have hk6 := ((Kept.refl _).alloc #[.int .i64 y1, .int .i64 y2] 31).trans hk5
          have HK6 := Lib.hid hk6
          have HKE := Lib.hid ((HK3.out.trans hk6).alloc #[.int .i64 y.d.1, .int .i64 y.d.2, .string y.p, .int .i64 y.k, .int .i64 y.vk, .int .i64 y.vn, .string y.vt, .int .i64 y.e.1, .int .i64 y.e.2] 35)
          have HKF := Lib.hid ((HK3A.out.trans hk6).alloc #[.int .i64 y.d.1, .int .i64 y.d.2, .string y.p, .int .i64 y.k, .int .i64 y.vk, .int .i64 y.vn, .string y.vt, .int .i64 y.e.1, .int .i64 y.e.2] 35)
          have z0 := hk5.box0; have z1 := hk5.box1
          have hzl := lt_box hk5
          clear x0 x1 x2 g1 g2
          have x1 := (HX3.out.kept hk6).c1; have x2 := (HX3.out.kept hk6).c2
          have hxl5 : w2.heap.size < w5.heap.size := (HX3.out.kept hk6).lt
          clear hk5 hk6
          cases r with
          | false =>
            go_wp2_with fail
            go_at_call 10
            refine (AR.out _).mono ?_
            rintro e w6 ⟨rfl, hk7⟩
            clear z0 z1 x1 x2
            go_wp2_with fail
            go_roundw
            case rel => exact ⟨t2 + 1, hlt2, by go_num, HKF.out.trans hk7⟩
            case measure => simp [intOf]; omega
          | true =>
            go_wp2_with fail
            go_at_call 10
            refine (AR.out _).mono ?_
            rintro e w6 ⟨rfl, hk7⟩
            have hk8 := ((Kept.refl w5).alloc #[.int .i64 y.d.1, .int .i64 y.d.2, .string y.p, .int .i64 y.k, .int .i64 y.vk, .int .i64 y.vn, .string y.vt, .int .i64 y.e.1, .int .i64 y.e.2] 35).trans hk7
            replace z0 := hk8.cell z0
            replace z1 := hk8.cell z1
            replace x1 := hk8.cell x1
            replace x2 := hk8.cell x2
            have HKG := Lib.hid (HKE.out.trans hk7)
            have HKH := Lib.hid (HKF.out.trans hk7)
            clear hk7 hk8
            go_wp2_with fail
            go_at_call 11
            refine (ghas_any B2 m2 k2 V2 D2 p2 q2 C2 y1 y2 _ (HW2.out.il.kept HKG.out) (HW2.out.dl.kept HKG.out) true (by rw [decide_eq_true_iff]; exact (HSET.out.has _).2 (.inr ⟨HR.out, HM.out⟩))).mono ?_
            rintro e w7 ⟨rfl, hk9⟩
            clear z0 z1 x1 x2
            go_wp2_with fail
            go_roundw
            case rel => exact ⟨t2 + 1, hlt2, by go_num, HKH.out.trans hk9⟩
            case measure => simp [intOf]; omega
        · have HB3 := Lib.hid (HB2.out.kept HK3.out)
          have b0 := HB3.out.c0
          have HXN := Lib.hid HX2.out
          clear HB2 HX2 HKA
          go_wp2_with fail
          clear b0
          go_loopw [102] (fun i wq => ∃ t : Nat, t ≤ n1 ∧ i = .int .i64 t ∧ Kept (w2.alloc (.cells #[.slice A2 n2 c2, .slice B2 m2 k2, .slice D2 p2 q2] 29)) wq) (fun i _ => n1 - (intOf i).toNat)
          case atStart => exact ⟨0, Nat.zero_le _, rfl, HK3A.out⟩
          case round =>
            obtain ⟨t3, ht3, rfl, hk3⟩ := hrel
            have HKQ := Lib.hid (((Kept.refl w2).alloc #[.slice A2 n2 c2, .slice B2 m2 k2, .slice D2 p2 q2] 29).trans hk3)
            have HXQ := Lib.hid (HXN.out.kept hk3)
            have HKQA := Lib.hid hk3
            have hxlq : w2.heap.size < _ := HXQ.out.lt
            clear hk3
            by_cases hlt3 : t3 < n1
            · obtain ⟨g, o, x, rfl, hx, EX⟩ := (HS2.out.el.kept HKQ.out).get hlt3
              have x0 := EX.c0; have x1 := EX.c1; have x2 := EX.c2; have x3 := EX.c3; have x4 := EX.c4; have x5 := EX.c5; have x6 := EX.c6; have x7 := EX.c7; have x8 := EX.c8
              have x9 := HXQ.out.c0; have x10 := HXQ.out.c1; have x11 := HXQ.out.c2
              obtain ⟨r, hr⟩ : ∃ r, decide (x.d ∈ G) = r := ⟨_, rfl⟩
              have hz : hasE (outE L1 G) x.d = !r := by rw [← hr]; exact hasE_stay (List.mem_of_getElem? hx)
              have HR := Lib.hid hr
              have HZ := Lib.hid hz
              have HKX := Lib.hid ((Kept.refl wr).alloc #[.int .i64 x.d.1, .int .i64 x.d.2, .string x.p, .int .i64 x.k, .int .i64 x.vk, .int .i64 x.vn, .string x.vt, .int .i64 x.e.1, .int .i64 x.e.2] 35)
              have HEX := Lib.hid (Ent.new wr x 35)
              clear EX hx hr hz
              go_wp2_with fail
              go_at_call 7
              refine (get_any A2 n2 c2 (outE L1 G) _ _ x.d.1 x.d.2 _ (((HW2.out.kept HKQ.out).el).kept HKX.out) HOK2.out.rise (by omega) (!r) HZ.out).mono ?_
              rintro e w5 ⟨y, rfl, -, -, hk5⟩
              have HE5 := Lib.hid (HEX.out.kept hk5)
              have HK6 := Lib.hid ((HKX.out.trans hk5).trans ((Kept.refl w5).alloc #[.int .i64 y.d.1, .int .i64 y.d.2, .string y.p, .int .i64 y.k, .int .i64 y.vk, .int .i64 y.vn, .string y.vt, .int .i64 y.e.1, .int .i64 y.e.2] 35))
              have hel := lt_box hk5
              clear hk5 x9 x10 x11 x0 x1 x2 x3 x4 x5 x6 x7 x8 HKX HEX
              have x0 := HE5.out.c0; have x1 := HE5.out.c1
              have AH := Lib.hid (dhas_c E gn gc G x.d r HR.out _ ((HG2.out.kept HKQ.out).kept HK6.out))
              go_wp2_with fail
              go_at_call 12
              refine AH.out.mono ?_
              rintro e w7 ⟨rfl, hk7⟩
              have HK8 := Lib.hid ((HKQA.out.trans HK6.out).trans hk7)
              clear hk7 x0 x1 AH
              cases r with
              | false =>
                go_wp2_with fail
                go_roundw
                case rel => exact ⟨t3 + 1, hlt3, by go_num, HK8.out⟩
                case measure => simp [intOf]; omega
              | true =>
                go_wp2_with fail
                go_roundw
                case rel => exact ⟨t3 + 1, hlt3, by go_num, HK8.out⟩
                case measure => simp [intOf]; omega
            · clear HS2 HB3 HK3 HX3 HK3A hxl3 hlt2 HXN
              have x0 := HXQ.out.c0; have x1 := HXQ.out.c1; have x2 := HXQ.out.c2
              have hens := ens_of HOK2.out HBD2.out
              obtain ⟨b, hb⟩ : ∃ b, putSt ⟨#[]⟩ (outE L1 G) V2 C2 = b := ⟨_, rfl⟩
              have hbs : b.size ≤ 30000 := by
                have h1 := putSt_small (b := ⟨#[]⟩) (V := V2) (C := C2) HOK2.out.ent
                have h2 := HW2.out.el.1; have h3 := HW2.out.dl.1; have h4 := HOK2.out.ctx.vec.len
                have h5 : (⟨#[]⟩ : ByteArray).size = 0 := rfl
                rw [hb] at h1
                omega
              have AP := Lib.hid (fun (w : World) (hs : Stt w A2 n2 c2 B2 m2 k2 D2 p2 q2 (outE L1 G) V2 C2) => sput_any ⟨#[]⟩ A2 n2 c2 (outE L1 G) B2 m2 k2 V2 D2 p2 q2 C2 w hs.el hs.il hs.dl HOK2.out.ctx (by decide) (by omega) (by omega) hens b hb)
              have HTS := Lib.hid (show tsL (b ++ ⟨#[120, 121]⟩) = (outE L1 G, V2, C2, ⟨#[120, 121]⟩, 0) by
                rw [← hb]; exact ts_fore HOK2.out HBD2.out (by have := HW2.out.el.1; omega) (by have := HW2.out.dl.1; omega) _)
              have hbs2 : (b ++ (⟨#[120, 121]⟩ : ByteArray)).size ≤ 50000 := by rw [ByteArray.size_append]; have : (⟨#[120, 121]⟩ : ByteArray).size = 2 := rfl; omega
              have AT := Lib.hid (fun w => stake_any (b ++ ⟨#[120, 121]⟩) w hbs2)
              clear hens hb hbs2
              go_wp2_with fail
              go_at_call 14
              refine (AP.out _ (HW2.out.kept HKQ.out)).mono ?_
              rintro e w5 ⟨rfl, hk5⟩
              have HK5 := Lib.hid (HKQ.out.trans hk5)
              have HX5 := Lib.hid (HXQ.out.kept hk5)
              clear hk5 x0 x1 x2 AP
              go_wp2_with fail
              go_at_call 13
              refine (AT.out _).mono ?_
              rintro e w6 ⟨A6, n6, c6, L6, B6, m6, k6, V6, D6, p6, q6, C6, r6, z6, rfl, he6, hi6, hd6, ht6, hk6⟩
              rw [HTS.out] at ht6
              simp only [Prod.mk.injEq] at ht6
              obtain ⟨rfl, rfl, rfl, rfl, rfl⟩ := ht6
              have HT6 := Lib.hid (show Stt w6 A6 n6 c6 B6 m6 k6 D6 p6 q6 (outE L1 G) V2 C2 from ⟨he6, hi6, hd6⟩)
              have HK6 := Lib.hid (HK5.out.trans hk6)
              have HX6 := Lib.hid (HX5.out.kept hk6)
              have hx6 : w2.heap.size < w6.heap.size := HX6.out.lt
              have HKB := Lib.hid ((Kept.refl w6).alloc #[.slice A6 n6 c6, .slice B6 m6 k6, .slice D6 p6 q6] 29)
              have HBT := Lib.hid (Box3.new w6 (.slice A6 n6 c6) (.slice B6 m6 k6) (.slice D6 p6 q6) 29)
              have x0 := HX6.out.c0; have x1 := HX6.out.c1; have x2 := HX6.out.c2
              clear he6 hi6 hd6 hk6 AT HTS HX5 HK5
              have HWK := Lib.hid ((HW2.out.kept HK6.out).kept HKB.out)
              go_wp2_with fail
              go_at_call 8
              refine (sright_any A2 n2 c2 (outE L1 G) B2 m2 k2 V2 D2 p2 q2 C2 _ HWK.out.el HWK.out.il HWK.out.dl HOK2.out.ctx (by omega) (by omega) (fun y hy => by have := right_sizes (HOK2.out.ent y hy); omega) true ⟨fun _ => HOK2.out, fun _ => rfl⟩).mono ?_
              rintro e w7 ⟨rfl, hk7⟩
              have HK7 := Lib.hid ((HK6.out.trans HKB.out).trans hk7)
              have HT7 := Lib.hid ((HT6.out.kept HKB.out).kept hk7)
              have HW7 := Lib.hid (HWK.out.kept hk7)
              have y0 := (HBT.out.kept hk7).c0; have y1 := (HBT.out.kept hk7).c1; have y2 := (HBT.out.kept hk7).c2
              clear x0 x1 x2
              have x0 := ((HX6.out.kept HKB.out).kept hk7).c0; have x1 := ((HX6.out.kept HKB.out).kept hk7).c1; have x2 := ((HX6.out.kept HKB.out).kept hk7).c2
              clear hk7 HT6 HWK HX6 HKB HBT HK6
              go_wp2_with fail
              go_at_call 15
              refine (ssame_any A6 n6 c6 (outE L1 G) B6 m6 k6 V2 D6 p6 q6 C2 A2 n2 c2 (outE L1 G) B2 m2 k2 V2 D2 p2 q2 C2 _ HT7.out.el HT7.out.il HT7.out.dl HW7.out.el HW7.out.il HW7.out.dl true ⟨fun _ => ⟨rfl, rfl, rfl⟩, fun _ => rfl⟩).mono ?_
              rintro e w8 ⟨rfl, hk8⟩
              clear x0 x1 x2 y0 y1 y2
              go_wp2_with fail
              go_at_call 4
              refine (sawake_any _ (HL.out.kept (HK2.out.trans (HK7.out.trans hk8)))).mono ?_
              rintro e w9 ⟨rfl, hk9⟩
              go_wp2_with fail
              go_ret
              exact ⟨rfl, HK2.out.trans ((HK7.out.trans hk8).trans hk9)⟩
end Go.Proofs.YtoggcpfogeoeaaaGreatDoor
