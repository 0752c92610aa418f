/-
  What is proved: package table's Take of layer 13 (P13.7), called with any text of up to 100000 bytes, returns what that says; the world has new blocks at most.
-/
import Derived.Test.YtofnpifooaijcaaGreatM21
namespace Go.Proofs.YtofnpifooaijcaaGreat
open Go.RowKit
set_option linter.unusedVariables false
theorem TabZ.flags {w : World} {b : Nat} {u : Value} {kp tu : Bool} (h : TabZ w b u kp tu) (kp' tu' : Bool) : TabZ ((w.setCell ⟨b, 1, none⟩ (.bool kp')).setCell ⟨b, 8, none⟩ (.bool tu')) b u kp' tu' :=
  ⟨cell_beside (by decide) (cell_beside (by decide) h.c0), cell_beside (by decide) (World.cell?_setCell_same _ _ _ h.c1), cell_beside (by decide) (cell_beside (by decide) h.c2), cell_beside (by decide) (cell_beside (by decide) h.c3), cell_beside (by decide) (cell_beside (by decide) h.c4), cell_beside (by decide) (cell_beside (by decide) h.c5), cell_beside (by decide) (cell_beside (by decide) h.c6), cell_beside (by decide) (cell_beside (by decide) h.c7), World.cell?_setCell_same _ _ _ (cell_beside (by decide) h.c8),
   fun j => by rw [World.frozen?_setCell, World.frozen?_setCell]; exact h.f j, by have := h.lt; simpa [World.setCell] using this⟩
theorem TakQ.flags {W0 : World} {B sb tb : Nat} {wr : World} {kp tu : Bool} {r : ByteArray} {z : Nat} (h : TakQ W0 B sb tb wr (.slice none 0 0) [] kp tu r z) (o : OrdQ W0 B sb tb) (kp' tu' : Bool) : TakQ W0 B sb tb ((wr.setCell ⟨tb, 1, none⟩ (.bool kp')).setCell ⟨tb, 8, none⟩ (.bool tu')) (.slice none 0 0) [] kp' tu' r z := by
  have hS := o.s; have hT := o.t
  refine ⟨World.ownsRow_nil _ _ _ _, h.box.flags kp' tu', (h.sou.far (by omega) _).far (by omega) _, (h.ke.setCell (a := ⟨tb, 1, none⟩) (by show W0.heap.size ≤ tb; omega) _).setCell (a := ⟨tb, 8, none⟩) (by show W0.heap.size ≤ tb; omega) _, ?_⟩
  have := h.le
  simpa [World.setCell] using this
theorem TabZ.tab {w : World} {b : Nat} {A : Option Addr} {n c : Nat} {kp tu : Bool} (h : TabZ w b (.slice A n c) kp tu) (L : List Pa) : TabB w b A n c ⟨L, kp, .zero, .zero, tu⟩ := ⟨h.c0, h.c1, h.c2, h.c3, h.c4, h.c5, h.c6, h.c7, h.c8, h.f, h.lt⟩
theorem TabB.keptE {G : Nat} {w w' : World} {b : Nat} {A : Option Addr} {n c : Nat} {T : Tb} (h : TabB w b A n c T) (k : KeptE G w w') (hb : b ≠ G) : TabB w' b A n c T :=
  ⟨k.cell hb h.c0, k.cell hb h.c1, k.cell hb h.c2, k.cell hb h.c3, k.cell hb h.c4, k.cell hb h.c5, k.cell hb h.c6, k.cell hb h.c7, k.cell hb h.c8, fun j => k.froz hb h.lt (h.f j), Nat.lt_of_lt_of_le h.lt k.size⟩
theorem Pal.keptE {G : Nat} {w w' : World} {A : Option Addr} {n c B : Nat} {L : List Pa} (h : Pal w A n c L) (hA : ∀ ad, A = some ad → B ≤ ad.block) (k : KeptE G w w') (hG : G < B) : Pal w' A n c L :=
  ⟨h.1, h.2.1, h.2.2.1, h.2.2.2.1, h.2.2.2.2.imp id fun ⟨g, o, hg, hc⟩ => ⟨g, o, hg, fun j x hj => by
    have h1 := hc j x hj
    have := hA _ hg
    have hne : g ≠ G := fun e => by simp only at this; omega
    exact ⟨k.cell hne h1.c0, k.cell hne h1.c1, k.cell hne h1.c2, k.cell hne h1.c3, k.cell hne h1.c4, k.cell hne h1.c5⟩⟩⟩
theorem TabB.setDT {w : World} {b : Nat} {A : Option Addr} {n c : Nat} {T : Tb} (h : TabB w b A n c T) (v : Va) : TabB (((w.setCell ⟨b, 2, none⟩ (.int .i64 v.k)).setCell ⟨b, 3, none⟩ (.int .i64 v.n)).setCell ⟨b, 4, none⟩ (.string v.t)) b A n c ⟨T.L, T.keep, v, T.b, T.tu⟩ :=
  ⟨cell_beside (by decide) (cell_beside (by decide) (cell_beside (by decide) (h.c0))), cell_beside (by decide) (cell_beside (by decide) (cell_beside (by decide) (h.c1))), cell_beside (by decide) (cell_beside (by decide) (World.cell?_setCell_same _ _ _ (h.c2))), cell_beside (by decide) (World.cell?_setCell_same _ _ _ (cell_beside (by decide) (h.c3))), World.cell?_setCell_same _ _ _ (cell_beside (by decide) (cell_beside (by decide) (h.c4))), cell_beside (by decide) (cell_beside (by decide) (cell_beside (by decide) (h.c5))), cell_beside (by decide) (cell_beside (by decide) (cell_beside (by decide) (h.c6))), cell_beside (by decide) (cell_beside (by decide) (cell_beside (by decide) (h.c7))), cell_beside (by decide) (cell_beside (by decide) (cell_beside (by decide) (h.c8))), fun j => by rw [World.frozen?_setCell, World.frozen?_setCell, World.frozen?_setCell]; exact h.f j, by have := h.lt; simpa [World.setCell] using this⟩
theorem TabB.setBT {w : World} {b : Nat} {A : Option Addr} {n c : Nat} {T : Tb} (h : TabB w b A n c T) (v : Va) : TabB (((w.setCell ⟨b, 5, none⟩ (.int .i64 v.k)).setCell ⟨b, 6, none⟩ (.int .i64 v.n)).setCell ⟨b, 7, none⟩ (.string v.t)) b A n c ⟨T.L, T.keep, T.d, v, T.tu⟩ :=
  ⟨cell_beside (by decide) (cell_beside (by decide) (cell_beside (by decide) (h.c0))), cell_beside (by decide) (cell_beside (by decide) (cell_beside (by decide) (h.c1))), cell_beside (by decide) (cell_beside (by decide) (cell_beside (by decide) (h.c2))), cell_beside (by decide) (cell_beside (by decide) (cell_beside (by decide) (h.c3))), cell_beside (by decide) (cell_beside (by decide) (cell_beside (by decide) (h.c4))), cell_beside (by decide) (cell_beside (by decide) (World.cell?_setCell_same _ _ _ (h.c5))), cell_beside (by decide) (World.cell?_setCell_same _ _ _ (cell_beside (by decide) (h.c6))), World.cell?_setCell_same _ _ _ (cell_beside (by decide) (cell_beside (by decide) (h.c7))), cell_beside (by decide) (cell_beside (by decide) (cell_beside (by decide) (h.c8))), fun j => by rw [World.frozen?_setCell, World.frozen?_setCell, World.frozen?_setCell]; exact h.f j, by have := h.lt; simpa [World.setCell] using this⟩
theorem TabZ.all {w : World} {b : Nat} {u : Value} {kp tu : Bool} (h : TabZ w b u kp tu) (A : Option Addr) (n c : Nat) (T : Tb) : TabB (World.setCell (World.setCell (World.setCell (World.setCell (World.setCell (World.setCell (World.setCell (World.setCell (World.setCell w ⟨b, 0, none⟩ (.slice A n c)) ⟨b, 1, none⟩ (.bool T.keep)) ⟨b, 2, none⟩ (.int .i64 T.d.k)) ⟨b, 3, none⟩ (.int .i64 T.d.n)) ⟨b, 4, none⟩ (.string T.d.t)) ⟨b, 5, none⟩ (.int .i64 T.b.k)) ⟨b, 6, none⟩ (.int .i64 T.b.n)) ⟨b, 7, none⟩ (.string T.b.t)) ⟨b, 8, none⟩ (.bool T.tu)) b A n c T :=
  ⟨cell_beside (by decide) (cell_beside (by decide) (cell_beside (by decide) (cell_beside (by decide) (cell_beside (by decide) (cell_beside (by decide) (cell_beside (by decide) (cell_beside (by decide) (World.cell?_setCell_same _ _ _ (h.c0))))))))), cell_beside (by decide) (cell_beside (by decide) (cell_beside (by decide) (cell_beside (by decide) (cell_beside (by decide) (cell_beside (by decide) (cell_beside (by decide) (World.cell?_setCell_same _ _ _ (cell_beside (by decide) (h.c1))))))))), cell_beside (by decide) (cell_beside (by decide) (cell_beside (by decide) (cell_beside (by decide) (cell_beside (by decide) (cell_beside (by decide) (World.cell?_setCell_same _ _ _ (cell_beside (by decide) (cell_beside (by decide) (h.c2))))))))), cell_beside (by decide) (cell_beside (by decide) (cell_beside (by decide) (cell_beside (by decide) (cell_beside (by decide) (World.cell?_setCell_same _ _ _ (cell_beside (by decide) (cell_beside (by decide) (cell_beside (by decide) (h.c3))))))))), cell_beside (by decide) (cell_beside (by decide) (cell_beside (by decide) (cell_beside (by decide) (World.cell?_setCell_same _ _ _ (cell_beside (by decide) (cell_beside (by decide) (cell_beside (by decide) (cell_beside (by decide) (h.c4))))))))), cell_beside (by decide) (cell_beside (by decide) (cell_beside (by decide) (World.cell?_setCell_same _ _ _ (cell_beside (by decide) (cell_beside (by decide) (cell_beside (by decide) (cell_beside (by decide) (cell_beside (by decide) (h.c5))))))))), cell_beside (by decide) (cell_beside (by decide) (World.cell?_setCell_same _ _ _ (cell_beside (by decide) (cell_beside (by decide) (cell_beside (by decide) (cell_beside (by decide) (cell_beside (by decide) (cell_beside (by decide) (h.c6))))))))), cell_beside (by decide) (World.cell?_setCell_same _ _ _ (cell_beside (by decide) (cell_beside (by decide) (cell_beside (by decide) (cell_beside (by decide) (cell_beside (by decide) (cell_beside (by decide) (cell_beside (by decide) (h.c7))))))))), World.cell?_setCell_same _ _ _ (cell_beside (by decide) (cell_beside (by decide) (cell_beside (by decide) (cell_beside (by decide) (cell_beside (by decide) (cell_beside (by decide) (cell_beside (by decide) (cell_beside (by decide) (h.c8))))))))), fun j => by rw [World.frozen?_setCell, World.frozen?_setCell, World.frozen?_setCell, World.frozen?_setCell, World.frozen?_setCell, World.frozen?_setCell, World.frozen?_setCell, World.frozen?_setCell, World.frozen?_setCell]; exact h.f j, by have := h.lt; simpa [World.setCell] using this⟩
set_option maxRecDepth 100000 in
set_option maxHeartbeats 8000000 in
theorem httakeB_any (s : ByteArray) (w : World) (hs : s.size ≤ 100000) :
    Calls Tryz.prog 45 #[.string s] w (TakHB s w) := by
  have hw0 : (w.alloc (.cells #[.slice none 0 0, .bool false, .int .i64 0, .int .i64 0, .string ⟨#[]⟩, .int .i64 0, .int .i64 0, .string ⟨#[]⟩, .bool false] 31)).heap.size = w.heap.size + 1 := by simp
  have hw1 : ((w.alloc (.cells #[.slice none 0 0, .bool false, .int .i64 0, .int .i64 0, .string ⟨#[]⟩, .int .i64 0, .int .i64 0, .string ⟨#[]⟩, .bool false] 31)).alloc (.cells #[.string s, .int .i64 0] 61)).heap.size = w.heap.size + 2 := by simp
  have hw2 : (((w.alloc (.cells #[.slice none 0 0, .bool false, .int .i64 0, .int .i64 0, .string ⟨#[]⟩, .int .i64 0, .int .i64 0, .string ⟨#[]⟩, .bool false] 31)).alloc (.cells #[.string s, .int .i64 0] 61)).alloc (.cells #[.slice none 0 0, .bool false, .int .i64 0, .int .i64 0, .string ⟨#[]⟩, .int .i64 0, .int .i64 0, .string ⟨#[]⟩, .bool false] 31)).heap.size = w.heap.size + 3 := by simp
  have hres := TabZ.new w false false 31
  have hbox := TabZ.new ((w.alloc (.cells #[.slice none 0 0, .bool false, .int .i64 0, .int .i64 0, .string ⟨#[]⟩, .int .i64 0, .int .i64 0, .string ⟨#[]⟩, .bool false] 31)).alloc (.cells #[.string s, .int .i64 0] 61)) false false 31
  have k1 := (Kept.refl (w.alloc (.cells #[.slice none 0 0, .bool false, .int .i64 0, .int .i64 0, .string ⟨#[]⟩, .int .i64 0, .int .i64 0, .string ⟨#[]⟩, .bool false] 31))).alloc #[.string s, .int .i64 0] 61
  have k2 := (Kept.refl ((w.alloc (.cells #[.slice none 0 0, .bool false, .int .i64 0, .int .i64 0, .string ⟨#[]⟩, .int .i64 0, .int .i64 0, .string ⟨#[]⟩, .bool false] 31)).alloc (.cells #[.string s, .int .i64 0] 61))).alloc #[.slice none 0 0, .bool false, .int .i64 0, .int .i64 0, .string ⟨#[]⟩, .int .i64 0, .int .i64 0, .string ⟨#[]⟩, .bool false] 31
  have hsou : Sou ((w.alloc (.cells #[.slice none 0 0, .bool false, .int .i64 0, .int .i64 0, .string ⟨#[]⟩, .int .i64 0, .int .i64 0, .string ⟨#[]⟩, .bool false] 31)).alloc (.cells #[.string s, .int .i64 0] 61)) (w.alloc (.cells #[.slice none 0 0, .bool false, .int .i64 0, .int .i64 0, .string ⟨#[]⟩, .int .i64 0, .int .i64 0, .string ⟨#[]⟩, .bool false] 31)).heap.size s 0 :=
    ⟨(Kept.refl _).box 0 _ rfl, (Kept.refl _).box 1 _ rfl, fun j => by rw [frozen?_alloc_cells]; simp [World.frozen?], by simp⟩
  rw [hw0] at hsou
  rw [hw1] at hbox
  have hk0 := (Kept.refl w).alloc #[.slice none 0 0, .bool false, .int .i64 0, .int .i64 0, .string ⟨#[]⟩, .int .i64 0, .int .i64 0, .string ⟨#[]⟩, .bool false] 31
  obtain ⟨W0, hW0⟩ : ∃ W0, w.alloc (.cells #[.slice none 0 0, .bool false, .int .i64 0, .int .i64 0, .string ⟨#[]⟩, .int .i64 0, .int .i64 0, .string ⟨#[]⟩, .bool false] 31) = W0 := ⟨_, rfl⟩
  rw [hW0] at hw0 hw1 hw2 hres hbox k1 k2 hsou hk0
  obtain ⟨U, hU⟩ : ∃ U, (W0.alloc (.cells #[.string s, .int .i64 0] 61)).alloc (.cells #[.slice none 0 0, .bool false, .int .i64 0, .int .i64 0, .string ⟨#[]⟩, .int .i64 0, .int .i64 0, .string ⟨#[]⟩, .bool false] 31) = U := ⟨_, rfl⟩
  rw [hU] at hw2 hbox k2
  have hq : TakQ W0 (w.heap.size + 3) (w.heap.size + 1) (w.heap.size + 2) U (.slice none 0 0) [] false false s 0 := ⟨World.ownsRow_nil _ _ _ _, hbox, hsou.kept k2, k1.trans k2, by omega⟩
  have HO := Lib.hid (show OrdQ W0 (w.heap.size + 3) (w.heap.size + 1) (w.heap.size + 2) from ⟨by omega, by omega, by omega⟩)
  have HQ := Lib.hid hq; have HRES0 := Lib.hid hres; have HW0 := Lib.hid hW0; have HUU := Lib.hid hU; have HK0 := Lib.hid hk0
  obtain ⟨a, r1, z1, h1⟩ := numR_ex 3 3 s 0
  obtain ⟨m, r2, z2, h2⟩ := numR_ex 8 4 r1 z1
  have hi := inv_head h1 h2
  have ha3 := h1.size.2; have hm8 := h2.size.2
  have hr1 : r1.size ≤ 100000 := Nat.le_trans h1.size.1 hs
  have hr2 : r2.size ≤ 100000 := Nat.le_trans h2.size.1 hr1
  have HN1 := Lib.hid h1; have HN2 := Lib.hid h2; have HIN := Lib.hid hi
  have HS := Lib.hid hs; have HSR1 := Lib.hid hr1; have HSR2 := Lib.hid hr2
  obtain ⟨k1', hk1⟩ : ∃ k, Go.bits BinOp.and IntKind.u64 (a : Int) 1 = k := ⟨_, rfl⟩
  obtain ⟨k2', hk2⟩ : ∃ k, Go.bits BinOp.and IntKind.u64 (a : Int) 2 = k := ⟨_, rfl⟩
  obtain ⟨kp, hkp⟩ : ∃ k, (k1' != 0) = k := ⟨_, rfl⟩
  obtain ⟨tu, htu⟩ : ∃ k, (k2' != 0) = k := ⟨_, rfl⟩
  have HKP := Lib.hid (show decide (a % 2 = 1) = kp by rw [← hkp, ← hk1]; exact (bits_keepT ha3).symm)
  have HTU := Lib.hid (show decide (2 ≤ a) = tu by rw [← htu, ← hk2]; exact (bits_tuT ha3).symm)
  clear hw0 hw1 hw2 hres hbox k1 k2 hsou hk0 hW0 hU hq h1 h2 hi hs hr1 hr2
  go_enter Tryz.func45, Tryz.ntmps45
  go_wp2_with fail
  rw [HW0.out, HUU.out]
  go_at_call 36
  refine (tnum_any U (w.heap.size + 1) 3 3 s 0 HQ.out.sou a r1 z1 HN1.out HS.out).mono ?_
  rintro e w1 ⟨rfl, hs1, hk1'⟩
  replace HQ := Lib.hid (HQ.out.val HO.out hs1 hk1')
  clear hs1 hk1'
  have b1 := HQ.out.box.c1; have b8 := HQ.out.box.c8; have bf := HQ.out.box.f
  go_wp2_with fail
  clear b1 b8 bf hk1 hk2 hkp htu
  replace HQ := Lib.hid (HQ.out.flags HO.out kp tu)
  obtain ⟨w2, hw2⟩ : ∃ u, (World.setCell (World.setCell w1 ⟨w.heap.size + 2, 1, none⟩ (.bool kp)) ⟨w.heap.size + 2, 8, none⟩ (.bool tu)) = u := ⟨_, rfl⟩
  rw [hw2] at HQ ⊢
  clear hw2
  go_at_call 36
  refine (tnum_any w2 (w.heap.size + 1) 8 4 r1 z1 HQ.out.sou m r2 z2 HN2.out HSR1.out).mono ?_
  rintro e w3 ⟨rfl, hs1, hk1'⟩
  replace HQ := Lib.hid (HQ.out.val HO.out hs1 hk1')
  clear hs1 hk1'
  go_wp2_with fail
  go_loopw [20] (fun i wr => ∃ (t : Nat) (L : List Pa) (u : Value) (r : ByteArray) (z : Nat), t ≤ m ∧ i = .int .u64 t ∧ r.size ≤ 100000 ∧ L.length = t ∧ InvT s a m t L r z ∧ TakQ W0 (w.heap.size + 3) (w.heap.size + 1) (w.heap.size + 2) wr u L kp tu r z) (fun i _ => m - (intOf i).toNat)
  case atStart => exact ⟨0, [], _, r2, z2, Nat.zero_le _, rfl, HSR2.out, rfl, HIN.out, HQ.out⟩
  case round =>
    clear HQ HIN HN1 HN2 HSR1 HSR2
    obtain ⟨t, L, u, r, z, ht, rfl, hr0, hll, hin, hq⟩ := hrel
    have HQ := Lib.hid hq; have HIN := Lib.hid hin; have HLL := Lib.hid hll
    obtain ⟨x, r1, z1, hx⟩ := valR_ex r z
    obtain ⟨y, r2, z2, hy⟩ := valR_ex r1 z1
    have HV1 := Lib.hid hx; have HV2 := Lib.hid hy
    have hr1 : r1.size ≤ 100000 := Nat.le_trans hx.size hr0
    have HS2 := Lib.hid (show r2.size ≤ 100000 from Nat.le_trans hy.size hr1)
    clear hin hq hx hy hll
    by_cases hlt : t < m
    · have hadd : IntKind.u64.wrap ((t : Int) + 1) = ((t + 1 : Nat) : Int) := by rw [IntKind.wrap_u64]; omega
      have HN := Lib.hid (inv_step HIN.out hlt HV1.out HV2.out)
      go_wp2_with fail
      refine region_plan W0 9 (.read [0] (.two 1 (.one 2 (.one 3 (.read [4] (.one 5 (.one 6 (.read [7] (.one 8 .stop))))))) 2 (.two 1 (.one 3 (.read [4] (.one 5 (.one 6 (.read [7] (.one 8 .stop)))))) 3 (.read [4] (.two 1 (.one 5 (.one 6 (.read [7] (.one 8 .stop)))) 5 (.one 1 (.one 6 (.read [7] (.one 8 .stop))))))))) (by kernel_rfl) (by kernel_rfl) (by kernel_rfl) (by kernel_rfl) (by kernel_rfl) (fun _ d _ _ _ h => by cases d <;> exact h) HQ.out.ke ?_
      intro wd hwd
      replace HQ := Lib.hid (HQ.out.kept hwd)
      clear hwd
      rw [wpPlan_read]
      simp only [pA, pB, pC, pD]
      repeat (go_big_quiet_step (fail))
      refine wpQuiet_nil ?_
      rw [wpPlan_two]
      simp only [pA, pB, pC, pD, pE]
      constructor
      · have b0 := HQ.out.box.c0
        go_wp2_with fail
        clear b0
        refine soloP HQ.out.ke ?_
        rw [wpPlan_one]
        simp only [pA, pB, pC, pD, pE]
        go_wp2_with (go_at_call 40; refine (tvalue_any _ (w.heap.size + 1) r z HQ.out.sou x r1 z1 HV1.out hr0).mono ?_; rintro e u1 ⟨rfl, hs, hk⟩)
        replace HQ := Lib.hid (HQ.out.val HO.out hs hk)
        clear hs hk
        refine soloP HQ.out.ke ?_
        rw [wpPlan_one]
        simp only [pA, pB, pC, pD, pE]
        go_wp2_with (go_at_call 40; refine (tvalue_any _ (w.heap.size + 1) r1 z1 HQ.out.sou y r2 z2 HV2.out hr1).mono ?_; rintro e u2 ⟨rfl, hs, hk⟩)
        replace HQ := Lib.hid (HQ.out.val HO.out hs hk)
        clear hs hk
        refine soloP HQ.out.ke ?_
        rw [wpPlan_read]
        simp only [pA, pB, pC, pD, pE]
        repeat (go_big_quiet_step (fail))
        refine wpQuiet_nil ?_
        rw [wpPlan_one]
        simp only [pA, pB, pC, pD, pE]
        go_wp2_with fail
        obtain ⟨u4, hu4⟩ : ∃ u, u2.alloc (.cells #[.int .i64 x.k, .int .i64 x.n, .string x.t, .int .i64 y.k, .int .i64 y.n, .string y.t] 99) = u := ⟨_, rfl⟩
        have HPB := Lib.hid (pa_one (PaB.new u2 ⟨x, y⟩ 99))
        replace HQ := Lib.hid (HQ.out.kept ((Kept.refl u2).alloc #[.int .i64 x.k, .int .i64 x.n, .string x.t, .int .i64 y.k, .int .i64 y.n, .string y.t] 99))
        simp only at HPB
        rw [hu4] at HPB HQ ⊢
        clear hu4
        refine soloP HQ.out.ke ?_
        rw [wpPlan_one]
        simp only [pA, pB, pC, pD, pE]
        obtain ⟨v8, w8, hr8, hc8, hf8, hk8, hm8⟩ := HQ.out.app HO.out _ _ _ _ HPB.out (by have := HLL.out; omega)
        obtain ⟨A8, c8, rfl, hfo8, _⟩ := hm8.form
        have hl8 : (L ++ [(⟨x, y⟩ : Pa)]).length = t + 1 := by rw [List.length_append, HLL.out]; rfl
        rw [hl8] at hr8 hm8 hfo8
        have h81 := hfo8.cap.1; have h82 := hfo8.cap.2
        have HL8 := Lib.hid hl8
        have HR8 := Lib.hid hr8; have HC8 := Lib.hid hc8; have HF8 := Lib.hid hf8; have HK8 := Lib.hid hk8; have HM8 := Lib.hid hm8
        clear hr8 hc8 hf8 hk8 hm8 hl8 hfo8
        go_wp2_with (at_builtin; refine Lib.wpList_append_run _ rfl (.tmp 23) (.tmp 27) _ _ rfl _ _ rfl rfl _ _ HR8.out ?_)
        refine soloP HK8.out ?_
        rw [wpPlan_read]
        simp only [pA, pB, pC, pD, pE]
        repeat (go_big_quiet_step (fail))
        refine wpQuiet_nil ?_
        rw [wpPlan_one]
        simp only [pA, pB, pC, pD, pE]
        have b0 := HC8.out
        have bf := HF8.out 0
        go_wp2_with fail
        clear b0 bf
        refine soloP HM8.out.ke ?_
        refine wpPlan_stop ?_
        go_wp2_with fail
        go_roundw
        case rel => exact ⟨t + 1, L ++ [⟨x, y⟩], _, r2, z2, hlt, by go_num, HS2.out, HL8.out, HN.out, HM8.out⟩
        case measure => simp [intOf]; omega
      · go_wp2_with (go_at_call 40; refine (tvalue_any _ (w.heap.size + 1) r z HQ.out.sou x r1 z1 HV1.out hr0).mono ?_; rintro e u1 ⟨rfl, hs, hk⟩)
        replace HQ := Lib.hid (HQ.out.val HO.out hs hk)
        clear hs hk
        refine soloP HQ.out.ke ?_
        rw [wpPlan_two]
        simp only [pA, pB, pC, pD, pE]
        constructor
        · have b0 := HQ.out.box.c0
          go_wp2_with fail
          clear b0
          refine soloP HQ.out.ke ?_
          rw [wpPlan_one]
          simp only [pA, pB, pC, pD, pE]
          go_wp2_with (go_at_call 40; refine (tvalue_any _ (w.heap.size + 1) r1 z1 HQ.out.sou y r2 z2 HV2.out hr1).mono ?_; rintro e u2 ⟨rfl, hs, hk⟩)
          replace HQ := Lib.hid (HQ.out.val HO.out hs hk)
          clear hs hk
          refine soloP HQ.out.ke ?_
          rw [wpPlan_read]
          simp only [pA, pB, pC, pD, pE]
          repeat (go_big_quiet_step (fail))
          refine wpQuiet_nil ?_
          rw [wpPlan_one]
          simp only [pA, pB, pC, pD, pE]
          go_wp2_with fail
          obtain ⟨u4, hu4⟩ : ∃ u, u2.alloc (.cells #[.int .i64 x.k, .int .i64 x.n, .string x.t, .int .i64 y.k, .int .i64 y.n, .string y.t] 99) = u := ⟨_, rfl⟩
          have HPB := Lib.hid (pa_one (PaB.new u2 ⟨x, y⟩ 99))
          replace HQ := Lib.hid (HQ.out.kept ((Kept.refl u2).alloc #[.int .i64 x.k, .int .i64 x.n, .string x.t, .int .i64 y.k, .int .i64 y.n, .string y.t] 99))
          simp only at HPB
          rw [hu4] at HPB HQ ⊢
          clear hu4
          refine soloP HQ.out.ke ?_
          rw [wpPlan_one]
          simp only [pA, pB, pC, pD, pE]
          obtain ⟨v8, w8, hr8, hc8, hf8, hk8, hm8⟩ := HQ.out.app HO.out _ _ _ _ HPB.out (by have := HLL.out; omega)
          obtain ⟨A8, c8, rfl, hfo8, _⟩ := hm8.form
          have hl8 : (L ++ [(⟨x, y⟩ : Pa)]).length = t + 1 := by rw [List.length_append, HLL.out]; rfl
          rw [hl8] at hr8 hm8 hfo8
          have h81 := hfo8.cap.1; have h82 := hfo8.cap.2
          have HL8 := Lib.hid hl8
          have HR8 := Lib.hid hr8; have HC8 := Lib.hid hc8; have HF8 := Lib.hid hf8; have HK8 := Lib.hid hk8; have HM8 := Lib.hid hm8
          clear hr8 hc8 hf8 hk8 hm8 hl8 hfo8
          go_wp2_with (at_builtin; refine Lib.wpList_append_run _ rfl (.tmp 23) (.tmp 27) _ _ rfl _ _ rfl rfl _ _ HR8.out ?_)
          refine soloP HK8.out ?_
          rw [wpPlan_read]
          simp only [pA, pB, pC, pD, pE]
          repeat (go_big_quiet_step (fail))
          refine wpQuiet_nil ?_
          rw [wpPlan_one]
          simp only [pA, pB, pC, pD, pE]
          have b0 := HC8.out
          have bf := HF8.out 0
          go_wp2_with fail
          clear b0 bf
          refine soloP HM8.out.ke ?_
          refine wpPlan_stop ?_
          go_wp2_with fail
          go_roundw
          case rel => exact ⟨t + 1, L ++ [⟨x, y⟩], _, r2, z2, hlt, by go_num, HS2.out, HL8.out, HN.out, HM8.out⟩
          case measure => simp [intOf]; omega
        · go_wp2_with (go_at_call 40; refine (tvalue_any _ (w.heap.size + 1) r1 z1 HQ.out.sou y r2 z2 HV2.out hr1).mono ?_; rintro e u2 ⟨rfl, hs, hk⟩)
          replace HQ := Lib.hid (HQ.out.val HO.out hs hk)
          clear hs hk
          refine soloP HQ.out.ke ?_
          rw [wpPlan_read]
          simp only [pA, pB, pC, pD, pE]
          repeat (go_big_quiet_step (fail))
          refine wpQuiet_nil ?_
          rw [wpPlan_two]
          simp only [pA, pB, pC, pD, pE]
          constructor
          · have b0 := HQ.out.box.c0
            go_wp2_with fail
            clear b0
            refine soloP HQ.out.ke ?_
            rw [wpPlan_one]
            simp only [pA, pB, pC, pD, pE]
            go_wp2_with fail
            obtain ⟨u4, hu4⟩ : ∃ u, u2.alloc (.cells #[.int .i64 x.k, .int .i64 x.n, .string x.t, .int .i64 y.k, .int .i64 y.n, .string y.t] 99) = u := ⟨_, rfl⟩
            have HPB := Lib.hid (pa_one (PaB.new u2 ⟨x, y⟩ 99))
            replace HQ := Lib.hid (HQ.out.kept ((Kept.refl u2).alloc #[.int .i64 x.k, .int .i64 x.n, .string x.t, .int .i64 y.k, .int .i64 y.n, .string y.t] 99))
            simp only at HPB
            rw [hu4] at HPB HQ ⊢
            clear hu4
            refine soloP HQ.out.ke ?_
            rw [wpPlan_one]
            simp only [pA, pB, pC, pD, pE]
            obtain ⟨v8, w8, hr8, hc8, hf8, hk8, hm8⟩ := HQ.out.app HO.out _ _ _ _ HPB.out (by have := HLL.out; omega)
            obtain ⟨A8, c8, rfl, hfo8, _⟩ := hm8.form
            have hl8 : (L ++ [(⟨x, y⟩ : Pa)]).length = t + 1 := by rw [List.length_append, HLL.out]; rfl
            rw [hl8] at hr8 hm8 hfo8
            have h81 := hfo8.cap.1; have h82 := hfo8.cap.2
            have HL8 := Lib.hid hl8
            have HR8 := Lib.hid hr8; have HC8 := Lib.hid hc8; have HF8 := Lib.hid hf8; have HK8 := Lib.hid hk8; have HM8 := Lib.hid hm8
            clear hr8 hc8 hf8 hk8 hm8 hl8 hfo8
            go_wp2_with (at_builtin; refine Lib.wpList_append_run _ rfl (.tmp 23) (.tmp 27) _ _ rfl _ _ rfl rfl _ _ HR8.out ?_)
            refine soloP HK8.out ?_
            rw [wpPlan_read]
            simp only [pA, pB, pC, pD, pE]
            repeat (go_big_quiet_step (fail))
            refine wpQuiet_nil ?_
            rw [wpPlan_one]
            simp only [pA, pB, pC, pD, pE]
            have b0 := HC8.out
            have bf := HF8.out 0
            go_wp2_with fail
            clear b0 bf
            refine soloP HM8.out.ke ?_
            refine wpPlan_stop ?_
            go_wp2_with fail
            go_roundw
            case rel => exact ⟨t + 1, L ++ [⟨x, y⟩], _, r2, z2, hlt, by go_num, HS2.out, HL8.out, HN.out, HM8.out⟩
            case measure => simp [intOf]; omega
          · go_wp2_with fail
            obtain ⟨u4, hu4⟩ : ∃ u, u2.alloc (.cells #[.int .i64 x.k, .int .i64 x.n, .string x.t, .int .i64 y.k, .int .i64 y.n, .string y.t] 99) = u := ⟨_, rfl⟩
            have HPB := Lib.hid (pa_one (PaB.new u2 ⟨x, y⟩ 99))
            replace HQ := Lib.hid (HQ.out.kept ((Kept.refl u2).alloc #[.int .i64 x.k, .int .i64 x.n, .string x.t, .int .i64 y.k, .int .i64 y.n, .string y.t] 99))
            simp only at HPB
            rw [hu4] at HPB HQ ⊢
            clear hu4
            refine soloP HQ.out.ke ?_
            rw [wpPlan_one]
            simp only [pA, pB, pC, pD, pE]
            have b0 := HQ.out.box.c0
            go_wp2_with fail
            clear b0
            refine soloP HQ.out.ke ?_
            rw [wpPlan_one]
            simp only [pA, pB, pC, pD, pE]
            obtain ⟨v8, w8, hr8, hc8, hf8, hk8, hm8⟩ := HQ.out.app HO.out _ _ _ _ HPB.out (by have := HLL.out; omega)
            obtain ⟨A8, c8, rfl, hfo8, _⟩ := hm8.form
            have hl8 : (L ++ [(⟨x, y⟩ : Pa)]).length = t + 1 := by rw [List.length_append, HLL.out]; rfl
            rw [hl8] at hr8 hm8 hfo8
            have h81 := hfo8.cap.1; have h82 := hfo8.cap.2
            have HL8 := Lib.hid hl8
            have HR8 := Lib.hid hr8; have HC8 := Lib.hid hc8; have HF8 := Lib.hid hf8; have HK8 := Lib.hid hk8; have HM8 := Lib.hid hm8
            clear hr8 hc8 hf8 hk8 hm8 hl8 hfo8
            go_wp2_with (at_builtin; refine Lib.wpList_append_run _ rfl (.tmp 23) (.tmp 27) _ _ rfl _ _ rfl rfl _ _ HR8.out ?_)
            refine soloP HK8.out ?_
            rw [wpPlan_read]
            simp only [pA, pB, pC, pD, pE]
            repeat (go_big_quiet_step (fail))
            refine wpQuiet_nil ?_
            rw [wpPlan_one]
            simp only [pA, pB, pC, pD, pE]
            have b0 := HC8.out
            have bf := HF8.out 0
            go_wp2_with fail
            clear b0 bf
            refine soloP HM8.out.ke ?_
            refine wpPlan_stop ?_
            go_wp2_with fail
            go_roundw
            case rel => exact ⟨t + 1, L ++ [⟨x, y⟩], _, r2, z2, hlt, by go_num, HS2.out, HL8.out, HN.out, HM8.out⟩
            case measure => simp [intOf]; omega
    · have htm : t = m := by omega
      have hend := inv_end HIN.out (show m - t = 0 by omega) HV1.out HV2.out
      rw [HKP.out, HTU.out] at hend
      have HEND := Lib.hid hend
      obtain ⟨A3, c3, rfl, hpl, hA⟩ := HQ.out.form
      rw [HLL.out, htm] at hpl
      have htb := HQ.out.box.tab L
      rw [HLL.out, htm] at htb HQ
      rw [htm] at HLL ⊢
      have hnt2 : decide ((m : Int) < (m : Int)) = false := decide_eq_false (by omega)
      have HA := Lib.hid hA; have HPL := Lib.hid hpl; have HTB := Lib.hid htb
      have HSO := Lib.hid HQ.out.sou; have HKE := Lib.hid HQ.out.ke
      clear hend hpl hA htb ht hlt htm HIN HQ
      go_wp2_with fail
      clear hnt2
      go_at_call 40
      refine (tvalue_any wr (w.heap.size + 1) r z HSO.out x r1 z1 HV1.out hr0).mono ?_
      rintro e w4 ⟨rfl, hs4, hk4⟩
      replace HSO := Lib.hid (hs4.far (show w.heap.size + 2 ≠ w.heap.size + 1 by omega) (.int .i64 x.k) (i := 2) |>.far (show w.heap.size + 2 ≠ w.heap.size + 1 by omega) (.int .i64 x.n) (i := 3) |>.far (show w.heap.size + 2 ≠ w.heap.size + 1 by omega) (.string x.t) (i := 4))
      have hb4 := HTB.out.keptE hk4 (by omega)
      have t2 := hb4.c2; have t3 := hb4.c3; have t4 := hb4.c4; have tf := hb4.f
      replace HTB := Lib.hid (hb4.setDT x)
      have hos := HO.out.s
      replace HPL := Lib.hid ((((HPL.out.keptE HA.out hk4 (by omega)).setLow HA.out (w.heap.size + 2) 2 (by omega) (.int .i64 x.k)).setLow HA.out (w.heap.size + 2) 3 (by omega) (.int .i64 x.n)).setLow HA.out (w.heap.size + 2) 4 (by omega) (.string x.t))
      replace HKE := Lib.hid ((((hk4.kept HKE.out hos).setCell (a := ⟨w.heap.size + 2, 2, none⟩) (by show W0.heap.size ≤ w.heap.size + 2; omega) (.int .i64 x.k)).setCell (a := ⟨w.heap.size + 2, 3, none⟩) (by show W0.heap.size ≤ w.heap.size + 2; omega) (.int .i64 x.n)).setCell (a := ⟨w.heap.size + 2, 4, none⟩) (by show W0.heap.size ≤ w.heap.size + 2; omega) (.string x.t))
      have HOS := Lib.hid hos
      clear hs4 hk4 hb4 hos
      go_wp2_with fail
      clear t2 t3 t4 tf
      obtain ⟨w5, hw5⟩ : ∃ u, World.setCell (World.setCell (World.setCell w4 ⟨w.heap.size + 2, 2, none⟩ (.int .i64 x.k)) ⟨w.heap.size + 2, 3, none⟩ (.int .i64 x.n)) ⟨w.heap.size + 2, 4, none⟩ (.string x.t) = u := ⟨_, rfl⟩
      rw [hw5] at HSO HTB HPL HKE ⊢
      clear hw5
      go_at_call 40
      refine (tvalue_any w5 (w.heap.size + 1) r1 z1 HSO.out y r2 z2 HV2.out hr1).mono ?_
      rintro e w4 ⟨rfl, hs4, hk4⟩
      replace HSO := Lib.hid (hs4.far (show w.heap.size + 2 ≠ w.heap.size + 1 by omega) (.int .i64 y.k) (i := 5) |>.far (show w.heap.size + 2 ≠ w.heap.size + 1 by omega) (.int .i64 y.n) (i := 6) |>.far (show w.heap.size + 2 ≠ w.heap.size + 1 by omega) (.string y.t) (i := 7))
      have hb4 := HTB.out.keptE hk4 (by omega)
      have t5 := hb4.c5; have t6 := hb4.c6; have t7 := hb4.c7; have tf := hb4.f
      replace HTB := Lib.hid (hb4.setBT y)
      have hos := HOS.out
      replace HPL := Lib.hid ((((HPL.out.keptE HA.out hk4 (by omega)).setLow HA.out (w.heap.size + 2) 5 (by omega) (.int .i64 y.k)).setLow HA.out (w.heap.size + 2) 6 (by omega) (.int .i64 y.n)).setLow HA.out (w.heap.size + 2) 7 (by omega) (.string y.t))
      replace HKE := Lib.hid ((((hk4.kept HKE.out hos).setCell (a := ⟨w.heap.size + 2, 5, none⟩) (by show W0.heap.size ≤ w.heap.size + 2; omega) (.int .i64 y.k)).setCell (a := ⟨w.heap.size + 2, 6, none⟩) (by show W0.heap.size ≤ w.heap.size + 2; omega) (.int .i64 y.n)).setCell (a := ⟨w.heap.size + 2, 7, none⟩) (by show W0.heap.size ≤ w.heap.size + 2; omega) (.string y.t))
      clear hs4 hk4 hb4 hos
      have z1x := HSO.out.c1
      obtain ⟨W6, hW6⟩ : ∃ u, World.setCell (World.setCell (World.setCell w4 ⟨w.heap.size + 2, 5, none⟩ (.int .i64 y.k)) ⟨w.heap.size + 2, 6, none⟩ (.int .i64 y.n)) ⟨w.heap.size + 2, 7, none⟩ (.string y.t) = u := ⟨_, rfl⟩
      rw [hW6] at HSO HTB HPL HKE
      have HW6 := Lib.hid hW6
      have HRES := Lib.hid (HRES0.out.kept HKE.out)
      have HKW := Lib.hid (HK0.out.trans HKE.out)
      have hns : w.heap.size + 1 ≠ w.heap.size := by omega
      have hnt : w.heap.size + 2 ≠ w.heap.size := by omega
      clear hW6
      rcases HEND.out with ⟨rfl, hte⟩ | ⟨hz2, hte⟩
      · have HTE := Lib.hid hte
        clear hte
        go_wp2_with fail
        rw [HW6.out]
        clear t5 t6 t7 tf z1x
        have T0 := KExtE.cell (b := w.heap.size) hnt HTB.out.c0; have T1 := KExtE.cell (b := w.heap.size) hnt HTB.out.c1; have T2 := KExtE.cell (b := w.heap.size) hnt HTB.out.c2; have T3 := KExtE.cell (b := w.heap.size) hnt HTB.out.c3; have T4 := KExtE.cell (b := w.heap.size) hnt HTB.out.c4; have T5 := KExtE.cell (b := w.heap.size) hnt HTB.out.c5; have T6 := KExtE.cell (b := w.heap.size) hnt HTB.out.c6; have T7 := KExtE.cell (b := w.heap.size) hnt HTB.out.c7; have T8 := KExtE.cell (b := w.heap.size) hnt HTB.out.c8
        have S0 := KExtE.cell (b := w.heap.size) hns HSO.out.c0
        have hr := HRES.out
        have rf := hr.f
        have r0 := hr.c0; have r1 := hr.c1; have r2 := hr.c2; have r3 := hr.c3; have r4 := hr.c4; have r5 := hr.c5; have r6 := hr.c6; have r7 := hr.c7; have r8 := hr.c8
        clear hr
        refine region_planE w.heap.size W6 6 (.read [0, 1, 2] (.one 3 (.read [4, 5] .stop))) (by kernel_rfl) (by kernel_rfl) (by kernel_rfl) (by kernel_rfl) (by kernel_rfl) (fun _ d _ _ _ h => by cases d <;> exact h) (Kept.refl _) ?_
        intro wd hwd
        have HV := Lib.hid hwd
        clear hwd
        rw [wpPlan_read]
        simp only [pA, pB, pC, pD, pE]
        repeat (go_big_quiet_step (fail))
        refine wpQuiet_nil ?_
        clear T0 T1 T2 T3 T4 T5 T6 T7 T8 S0 r0 r1 r2 r3 r4 r5 r6 r7 r8 rf
        replace HRES := Lib.hid (HRES.out.kept HV.out)
        have hr := HRES.out
        have rf := hr.f
        have r0 := hr.c0; have r1 := hr.c1; have r2 := hr.c2; have r3 := hr.c3; have r4 := hr.c4; have r5 := hr.c5; have r6 := hr.c6; have r7 := hr.c7; have r8 := hr.c8
        clear hr
        rw [wpPlan_one]
        simp only [pA, pB, pC, pD, pE]
        go_wp2_with fail
        clear r0 r1 r2 r3 r4 r5 r6 r7 r8 rf
        have HKZ := Lib.hid ((((((((((KeptE.of (G := w.heap.size) HV.out).set (a := ⟨w.heap.size, 0, none⟩) (.inl rfl) (.slice A3 m c3)).set (a := ⟨w.heap.size, 1, none⟩) (.inl rfl) (.bool kp)).set (a := ⟨w.heap.size, 2, none⟩) (.inl rfl) (.int .i64 x.k)).set (a := ⟨w.heap.size, 3, none⟩) (.inl rfl) (.int .i64 x.n)).set (a := ⟨w.heap.size, 4, none⟩) (.inl rfl) (.string x.t)).set (a := ⟨w.heap.size, 5, none⟩) (.inl rfl) (.int .i64 y.k)).set (a := ⟨w.heap.size, 6, none⟩) (.inl rfl) (.int .i64 y.n)).set (a := ⟨w.heap.size, 7, none⟩) (.inl rfl) (.string y.t)).set (a := ⟨w.heap.size, 8, none⟩) (.inl rfl) (.bool tu))
        have HRZ := Lib.hid (show TabB (World.setCell (World.setCell (World.setCell (World.setCell (World.setCell (World.setCell (World.setCell (World.setCell (World.setCell wd ⟨w.heap.size, 0, none⟩ (.slice A3 m c3)) ⟨w.heap.size, 1, none⟩ (.bool kp)) ⟨w.heap.size, 2, none⟩ (.int .i64 x.k)) ⟨w.heap.size, 3, none⟩ (.int .i64 x.n)) ⟨w.heap.size, 4, none⟩ (.string x.t)) ⟨w.heap.size, 5, none⟩ (.int .i64 y.k)) ⟨w.heap.size, 6, none⟩ (.int .i64 y.n)) ⟨w.heap.size, 7, none⟩ (.string y.t)) ⟨w.heap.size, 8, none⟩ (.bool tu)) w.heap.size A3 m c3 ⟨L, kp, x, y, tu⟩ from HRES.out.all A3 m c3 ⟨L, kp, x, y, tu⟩)
        have HF := Lib.hid (show TakHB s w (.returned (.tuple #[.agg #[.slice A3 m c3, .bool kp, .int .i64 x.k, .int .i64 x.n, .string x.t, .int .i64 y.k, .int .i64 y.n, .string y.t, .bool tu], .string r2, .int .i64 0])) (World.setCell (World.setCell (World.setCell (World.setCell (World.setCell (World.setCell (World.setCell (World.setCell (World.setCell wd ⟨w.heap.size, 0, none⟩ (.slice A3 m c3)) ⟨w.heap.size, 1, none⟩ (.bool kp)) ⟨w.heap.size, 2, none⟩ (.int .i64 x.k)) ⟨w.heap.size, 3, none⟩ (.int .i64 x.n)) ⟨w.heap.size, 4, none⟩ (.string x.t)) ⟨w.heap.size, 5, none⟩ (.int .i64 y.k)) ⟨w.heap.size, 6, none⟩ (.int .i64 y.n)) ⟨w.heap.size, 7, none⟩ (.string y.t)) ⟨w.heap.size, 8, none⟩ (.bool tu)) from by
          have h1 := takHB_ok HTE.out (A := A3) (c := c3) (w := w) (w' := (World.setCell (World.setCell (World.setCell (World.setCell (World.setCell (World.setCell (World.setCell (World.setCell (World.setCell wd ⟨w.heap.size, 0, none⟩ (.slice A3 m c3)) ⟨w.heap.size, 1, none⟩ (.bool kp)) ⟨w.heap.size, 2, none⟩ (.int .i64 x.k)) ⟨w.heap.size, 3, none⟩ (.int .i64 x.n)) ⟨w.heap.size, 4, none⟩ (.string x.t)) ⟨w.heap.size, 5, none⟩ (.int .i64 y.k)) ⟨w.heap.size, 6, none⟩ (.int .i64 y.n)) ⟨w.heap.size, 7, none⟩ (.string y.t)) ⟨w.heap.size, 8, none⟩ (.bool tu))) (by show Pal _ _ L.length _ L; rw [HLL.out]; exact (((((((((HPL.out.kept HV.out).setLow HA.out w.heap.size 0 (by omega) (.slice A3 m c3)).setLow HA.out w.heap.size 1 (by omega) (.bool kp)).setLow HA.out w.heap.size 2 (by omega) (.int .i64 x.k)).setLow HA.out w.heap.size 3 (by omega) (.int .i64 x.n)).setLow HA.out w.heap.size 4 (by omega) (.string x.t)).setLow HA.out w.heap.size 5 (by omega) (.int .i64 y.k)).setLow HA.out w.heap.size 6 (by omega) (.int .i64 y.n)).setLow HA.out w.heap.size 7 (by omega) (.string y.t)).setLow HA.out w.heap.size 8 (by omega) (.bool tu)) ((((((((((HKW.out.trans HV.out).setCell (a := ⟨w.heap.size, 0, none⟩) (Nat.le_refl _) (.slice A3 m c3)).setCell (a := ⟨w.heap.size, 1, none⟩) (Nat.le_refl _) (.bool kp)).setCell (a := ⟨w.heap.size, 2, none⟩) (Nat.le_refl _) (.int .i64 x.k)).setCell (a := ⟨w.heap.size, 3, none⟩) (Nat.le_refl _) (.int .i64 x.n)).setCell (a := ⟨w.heap.size, 4, none⟩) (Nat.le_refl _) (.string x.t)).setCell (a := ⟨w.heap.size, 5, none⟩) (Nat.le_refl _) (.int .i64 y.k)).setCell (a := ⟨w.heap.size, 6, none⟩) (Nat.le_refl _) (.int .i64 y.n)).setCell (a := ⟨w.heap.size, 7, none⟩) (Nat.le_refl _) (.string y.t)).setCell (a := ⟨w.heap.size, 8, none⟩) (Nat.le_refl _) (.bool tu)) (fun ad e => by have := HA.out ad e; omega)
          have h2 : (⟨L, kp, x, y, tu⟩ : Tb).L.length = m := HLL.out
          rw [h2] at h1
          exact h1)
        obtain ⟨w10, hw10⟩ : ∃ u, (World.setCell (World.setCell (World.setCell (World.setCell (World.setCell (World.setCell (World.setCell (World.setCell (World.setCell wd ⟨w.heap.size, 0, none⟩ (.slice A3 m c3)) ⟨w.heap.size, 1, none⟩ (.bool kp)) ⟨w.heap.size, 2, none⟩ (.int .i64 x.k)) ⟨w.heap.size, 3, none⟩ (.int .i64 x.n)) ⟨w.heap.size, 4, none⟩ (.string x.t)) ⟨w.heap.size, 5, none⟩ (.int .i64 y.k)) ⟨w.heap.size, 6, none⟩ (.int .i64 y.n)) ⟨w.heap.size, 7, none⟩ (.string y.t)) ⟨w.heap.size, 8, none⟩ (.bool tu)) = u := ⟨_, rfl⟩
        rw [hw10] at HKZ HF HRZ ⊢
        clear hw10
        refine soloE HKZ.out ?_
        rw [wpPlan_read]
        simp only [pA, pB, pC, pD, pE]
        repeat (go_big_quiet_step (fail))
        refine wpQuiet_nil ?_
        refine wpPlan_stop ?_
        have r0 := HRZ.out.c0; have r1 := HRZ.out.c1; have r2 := HRZ.out.c2; have r3 := HRZ.out.c3; have r4 := HRZ.out.c4; have r5 := HRZ.out.c5; have r6 := HRZ.out.c6; have r7 := HRZ.out.c7; have r8 := HRZ.out.c8
        dsimp only at r0 r1 r2 r3 r4 r5 r6 r7 r8
        go_wp2_with fail
        exact bodyPost_ret (by simp [results, Tryz.results45, go_sem, *]) rfl HF.out
      · have HTE := Lib.hid hte
        have f1' : ((z2 : Int) == 0) = false := by simp; omega
        have f2' : ((z2 : Int) != 0) = true := by simp; omega
        clear hte hz2
        go_wp2_with fail
        rw [HW6.out]
        clear t5 t6 t7 tf z1x f1' f2'
        have S1 := KExtE.cell (b := w.heap.size) hns HSO.out.c1
        have hr := HRES.out
        have rf := hr.f
        have r0 := hr.c0; have r1 := hr.c1; have r2 := hr.c2; have r3 := hr.c3; have r4 := hr.c4; have r5 := hr.c5; have r6 := hr.c6; have r7 := hr.c7; have r8 := hr.c8
        clear hr
        refine region_planE w.heap.size W6 6 (.read [0, 1, 2] (.one 3 (.read [4, 5] .stop))) (by kernel_rfl) (by kernel_rfl) (by kernel_rfl) (by kernel_rfl) (by kernel_rfl) (fun _ d _ _ _ h => by cases d <;> exact h) (Kept.refl _) ?_
        intro wd hwd
        have HV := Lib.hid hwd
        clear hwd
        rw [wpPlan_read]
        simp only [pA, pB, pC, pD, pE]
        repeat (go_big_quiet_step (fail))
        refine wpQuiet_nil ?_
        clear S1 r0 r1 r2 r3 r4 r5 r6 r7 r8 rf
        replace HRES := Lib.hid (HRES.out.kept HV.out)
        have hr := HRES.out
        have rf := hr.f
        have r0 := hr.c0; have r1 := hr.c1; have r2 := hr.c2; have r3 := hr.c3; have r4 := hr.c4; have r5 := hr.c5; have r6 := hr.c6; have r7 := hr.c7; have r8 := hr.c8
        clear hr
        rw [wpPlan_one]
        simp only [pA, pB, pC, pD, pE]
        go_wp2_with fail
        clear r0 r1 r2 r3 r4 r5 r6 r7 r8 rf
        have HKZ := Lib.hid ((((((((((KeptE.of (G := w.heap.size) HV.out).set (a := ⟨w.heap.size, 0, none⟩) (.inl rfl) (.slice none 0 0)).set (a := ⟨w.heap.size, 1, none⟩) (.inl rfl) (.bool false)).set (a := ⟨w.heap.size, 2, none⟩) (.inl rfl) (.int .i64 0)).set (a := ⟨w.heap.size, 3, none⟩) (.inl rfl) (.int .i64 0)).set (a := ⟨w.heap.size, 4, none⟩) (.inl rfl) (.string ⟨#[]⟩)).set (a := ⟨w.heap.size, 5, none⟩) (.inl rfl) (.int .i64 0)).set (a := ⟨w.heap.size, 6, none⟩) (.inl rfl) (.int .i64 0)).set (a := ⟨w.heap.size, 7, none⟩) (.inl rfl) (.string ⟨#[]⟩)).set (a := ⟨w.heap.size, 8, none⟩) (.inl rfl) (.bool false))
        have HRZ := Lib.hid (show TabB (World.setCell (World.setCell (World.setCell (World.setCell (World.setCell (World.setCell (World.setCell (World.setCell (World.setCell wd ⟨w.heap.size, 0, none⟩ (.slice none 0 0)) ⟨w.heap.size, 1, none⟩ (.bool false)) ⟨w.heap.size, 2, none⟩ (.int .i64 0)) ⟨w.heap.size, 3, none⟩ (.int .i64 0)) ⟨w.heap.size, 4, none⟩ (.string ⟨#[]⟩)) ⟨w.heap.size, 5, none⟩ (.int .i64 0)) ⟨w.heap.size, 6, none⟩ (.int .i64 0)) ⟨w.heap.size, 7, none⟩ (.string ⟨#[]⟩)) ⟨w.heap.size, 8, none⟩ (.bool false)) w.heap.size none 0 0 .none from HRES.out.all none 0 0 .none)
        have HF := Lib.hid (show TakHB s w (.returned (.tuple #[.agg #[.slice none 0 0, .bool false, .int .i64 0, .int .i64 0, .string ⟨#[]⟩, .int .i64 0, .int .i64 0, .string ⟨#[]⟩, .bool false], .string ⟨#[]⟩, .int .i64 (z2 : Int)])) (World.setCell (World.setCell (World.setCell (World.setCell (World.setCell (World.setCell (World.setCell (World.setCell (World.setCell wd ⟨w.heap.size, 0, none⟩ (.slice none 0 0)) ⟨w.heap.size, 1, none⟩ (.bool false)) ⟨w.heap.size, 2, none⟩ (.int .i64 0)) ⟨w.heap.size, 3, none⟩ (.int .i64 0)) ⟨w.heap.size, 4, none⟩ (.string ⟨#[]⟩)) ⟨w.heap.size, 5, none⟩ (.int .i64 0)) ⟨w.heap.size, 6, none⟩ (.int .i64 0)) ⟨w.heap.size, 7, none⟩ (.string ⟨#[]⟩)) ⟨w.heap.size, 8, none⟩ (.bool false)) from takHB_err HTE.out ((((((((((HKW.out.trans HV.out).setCell (a := ⟨w.heap.size, 0, none⟩) (Nat.le_refl _) (.slice none 0 0)).setCell (a := ⟨w.heap.size, 1, none⟩) (Nat.le_refl _) (.bool false)).setCell (a := ⟨w.heap.size, 2, none⟩) (Nat.le_refl _) (.int .i64 0)).setCell (a := ⟨w.heap.size, 3, none⟩) (Nat.le_refl _) (.int .i64 0)).setCell (a := ⟨w.heap.size, 4, none⟩) (Nat.le_refl _) (.string ⟨#[]⟩)).setCell (a := ⟨w.heap.size, 5, none⟩) (Nat.le_refl _) (.int .i64 0)).setCell (a := ⟨w.heap.size, 6, none⟩) (Nat.le_refl _) (.int .i64 0)).setCell (a := ⟨w.heap.size, 7, none⟩) (Nat.le_refl _) (.string ⟨#[]⟩)).setCell (a := ⟨w.heap.size, 8, none⟩) (Nat.le_refl _) (.bool false)))
        obtain ⟨w10, hw10⟩ : ∃ u, (World.setCell (World.setCell (World.setCell (World.setCell (World.setCell (World.setCell (World.setCell (World.setCell (World.setCell wd ⟨w.heap.size, 0, none⟩ (.slice none 0 0)) ⟨w.heap.size, 1, none⟩ (.bool false)) ⟨w.heap.size, 2, none⟩ (.int .i64 0)) ⟨w.heap.size, 3, none⟩ (.int .i64 0)) ⟨w.heap.size, 4, none⟩ (.string ⟨#[]⟩)) ⟨w.heap.size, 5, none⟩ (.int .i64 0)) ⟨w.heap.size, 6, none⟩ (.int .i64 0)) ⟨w.heap.size, 7, none⟩ (.string ⟨#[]⟩)) ⟨w.heap.size, 8, none⟩ (.bool false)) = u := ⟨_, rfl⟩
        rw [hw10] at HKZ HF HRZ ⊢
        clear hw10
        refine soloE HKZ.out ?_
        rw [wpPlan_read]
        simp only [pA, pB, pC, pD, pE]
        repeat (go_big_quiet_step (fail))
        refine wpQuiet_nil ?_
        refine wpPlan_stop ?_
        have r0 := HRZ.out.c0; have r1 := HRZ.out.c1; have r2 := HRZ.out.c2; have r3 := HRZ.out.c3; have r4 := HRZ.out.c4; have r5 := HRZ.out.c5; have r6 := HRZ.out.c6; have r7 := HRZ.out.c7; have r8 := HRZ.out.c8
        simp only [Tb.none, Va.zero] at r0 r1 r2 r3 r4 r5 r6 r7 r8
        go_wp2_with fail
        exact bodyPost_ret (by simp [results, Tryz.results45, go_sem, *]) rfl HF.out
end Go.Proofs.YtofnpifooaijcaaGreat
