/-
  What is proved: slices.Equal at entries, as the library's text has it, and Same of package store (P8.7), called with any slices of entries, or states, that lie in memory: whether they are the same; the world has new blocks at most.
  Join of package join (P9.1), called with any two states in order that lie in memory, returns what is known where both are; Covers (P9.3) tells whether that is the first one; the world has new blocks at most.
  what lies in memory where three slices are written into a block that holds three slices: ints, texts, entries and dots stay.
  words for memory that layer 9's contracts use: a slice of states that lies in memory ('Ss'), its head, its tail and its first; a slice built of states at hand.
  words for memory that layer 10's contracts use: a row of dots that a call makes ('OutG'), what an append to it keeps; two states stored into blocks of their own ('TwoB').
  Next, Leave, Take and Play of package mutate, called with any states, entries, dots that lie in memory, return what P10.1 to P10.4 say; the world has new blocks at most.
-/
import Derived.Test.YtkooihljddibfaaGreatM16
import Derived.Test.YtkooihljddibfaaGreatM19
import Derived.Test.YtkooihljddibfaaGreatM20
import Derived.Test.YtkooihljddibfaaGreatM21
import Derived.Test.YtkooihljddibfaaGreatM23
import Derived.Test.YtkooihljddibfaaGreatM17
import Derived.Test.YtkooihljddibfaaGreatM18
namespace Go.Proofs.YtkooihljddibfaaGreat
open Go.RowKit
set_option linter.unusedVariables false

theorem en_eq {x y : En} (h : x = y) : (x.d.1 == y.d.1) = true ∧ (x.d.2 == y.d.2) = true ∧ (x.p.toList == y.p.toList) = true ∧ (x.k == y.k) = true ∧ (x.vk == y.vk) = true ∧ (x.vn == y.vn) = true ∧ (x.vt.toList == y.vt.toList) = true ∧ (x.e.1 == y.e.1) = true ∧ (x.e.2 == y.e.2) = true := by subst h; simp
theorem tl_eq {a b : ByteArray} (h : (a.toList == b.toList) = true) : a = b := by
  rw [beq_iff_eq, Lib.toList_data, Lib.toList_data] at h
  exact ba_ext h
theorem en_of {x y : En} (h : (x.d.1 == y.d.1) = true ∧ (x.d.2 == y.d.2) = true ∧ (x.p.toList == y.p.toList) = true ∧ (x.k == y.k) = true ∧ (x.vk == y.vk) = true ∧ (x.vn == y.vn) = true ∧ (x.vt.toList == y.vt.toList) = true ∧ (x.e.1 == y.e.1) = true ∧ (x.e.2 == y.e.2) = true) : x = y := by
  obtain ⟨h0, h1, h2, h3, h4, h5, h6, h7, h8⟩ := h
  obtain ⟨⟨x0, x1⟩, x2, x3, x4, x5, x6, ⟨x7, x8⟩⟩ := x
  obtain ⟨⟨y0, y1⟩, y2, y3, y4, y5, y6, ⟨y7, y8⟩⟩ := y
  have e2 := tl_eq h2
  have e6 := tl_eq h6
  simp only [beq_iff_eq] at h0 h1 h3 h4 h5 h7 h8 e2 e6
  subst h0 h1 h3 h4 h5 h7 h8 e2 e6
  rfl
theorem en_ne {x y : En} (h : ¬ x = y) : ((x.d.1 == y.d.1) = false) ∨ ((x.d.1 == y.d.1) = true ∧ (x.d.2 == y.d.2) = false) ∨ ((x.d.1 == y.d.1) = true ∧ (x.d.2 == y.d.2) = true ∧ (x.p.toList == y.p.toList) = false) ∨ ((x.d.1 == y.d.1) = true ∧ (x.d.2 == y.d.2) = true ∧ (x.p.toList == y.p.toList) = true ∧ (x.k == y.k) = false) ∨ ((x.d.1 == y.d.1) = true ∧ (x.d.2 == y.d.2) = true ∧ (x.p.toList == y.p.toList) = true ∧ (x.k == y.k) = true ∧ (x.vk == y.vk) = false) ∨ ((x.d.1 == y.d.1) = true ∧ (x.d.2 == y.d.2) = true ∧ (x.p.toList == y.p.toList) = true ∧ (x.k == y.k) = true ∧ (x.vk == y.vk) = true ∧ (x.vn == y.vn) = false) ∨ ((x.d.1 == y.d.1) = true ∧ (x.d.2 == y.d.2) = true ∧ (x.p.toList == y.p.toList) = true ∧ (x.k == y.k) = true ∧ (x.vk == y.vk) = true ∧ (x.vn == y.vn) = true ∧ (x.vt.toList == y.vt.toList) = false) ∨ ((x.d.1 == y.d.1) = true ∧ (x.d.2 == y.d.2) = true ∧ (x.p.toList == y.p.toList) = true ∧ (x.k == y.k) = true ∧ (x.vk == y.vk) = true ∧ (x.vn == y.vn) = true ∧ (x.vt.toList == y.vt.toList) = true ∧ (x.e.1 == y.e.1) = false) ∨ ((x.d.1 == y.d.1) = true ∧ (x.d.2 == y.d.2) = true ∧ (x.p.toList == y.p.toList) = true ∧ (x.k == y.k) = true ∧ (x.vk == y.vk) = true ∧ (x.vn == y.vn) = true ∧ (x.vt.toList == y.vt.toList) = true ∧ (x.e.1 == y.e.1) = true ∧ (x.e.2 == y.e.2) = false) := by
  by_cases h0 : (x.d.1 == y.d.1) = true
  case neg => exact (.inl (by rw [← Bool.not_eq_true]; exact h0))
  by_cases h1 : (x.d.2 == y.d.2) = true
  case neg => exact .inr ((.inl ⟨h0, by rw [← Bool.not_eq_true]; exact h1⟩))
  by_cases h2 : (x.p.toList == y.p.toList) = true
  case neg => exact .inr (.inr ((.inl ⟨h0, h1, by rw [← Bool.not_eq_true]; exact h2⟩)))
  by_cases h3 : (x.k == y.k) = true
  case neg => exact .inr (.inr (.inr ((.inl ⟨h0, h1, h2, by rw [← Bool.not_eq_true]; exact h3⟩))))
  by_cases h4 : (x.vk == y.vk) = true
  case neg => exact .inr (.inr (.inr (.inr ((.inl ⟨h0, h1, h2, h3, by rw [← Bool.not_eq_true]; exact h4⟩)))))
  by_cases h5 : (x.vn == y.vn) = true
  case neg => exact .inr (.inr (.inr (.inr (.inr ((.inl ⟨h0, h1, h2, h3, h4, by rw [← Bool.not_eq_true]; exact h5⟩))))))
  by_cases h6 : (x.vt.toList == y.vt.toList) = true
  case neg => exact .inr (.inr (.inr (.inr (.inr (.inr ((.inl ⟨h0, h1, h2, h3, h4, h5, by rw [← Bool.not_eq_true]; exact h6⟩)))))))
  by_cases h7 : (x.e.1 == y.e.1) = true
  case neg => exact .inr (.inr (.inr (.inr (.inr (.inr (.inr ((.inl ⟨h0, h1, h2, h3, h4, h5, h6, by rw [← Bool.not_eq_true]; exact h7⟩))))))))
  exact .inr (.inr (.inr (.inr (.inr (.inr (.inr (.inr (⟨h0, h1, h2, h3, h4, h5, h6, h7, by rw [← Bool.not_eq_true]; exact fun h8 => h (en_of ⟨h0, h1, h2, h3, h4, h5, h6, h7, h8⟩)⟩))))))))

end Go.Proofs.YtkooihljddibfaaGreat

namespace Go.Proofs.YtkooihljddibfaaGreat
open Go.RowKit
set_option linter.unusedVariables false

/-- A state that a call hands back. -/
def StJ (S : Sta → Prop) (w : World) (e : Ending) (w' : World) : Prop :=
  ∃ A n c B m k D p q s, e = .returned (.agg #[.slice A n c, .slice B m k, .slice D p q]) ∧ Stt w' A n c B m k D p q (Sta.L s) (Sta.V s) (Sta.C s) ∧ S s ∧ Kept w w'
theorem StJ.mono {S T : Sta → Prop} {w w' : World} {e : Ending} (h : StJ S w e w') (k : ∀ s, S s → T s) : StJ T w e w' := by
  obtain ⟨A, n, c, B, m, k2, D, p, q, s, h1, h2, h3, h4⟩ := h
  exact ⟨A, n, c, B, m, k2, D, p, q, s, h1, h2, k s h3, h4⟩
/-- What Join makes, and how much of it there is. -/
def Joined (a b j : Sta) : Prop := JoinOf a b j ∧ j.L.length ≤ a.L.length + b.L.length ∧ j.C.length ≤ a.C.length + b.C.length
theorem Ord.wfL {s : Sta} (h : Ord s) : ∀ x ∈ s.L, WfD x.d := fun x hx => wf_right (h.ctx.has_right (h.known x hx))
theorem Ord.wfC {s : Sta} (h : Ord s) : ∀ d ∈ s.C, WfD d := fun d hd => wf_right (h.ctx.right d hd)
theorem join_of {a b : Sta} (ha : Ord a) (hb : Ord b) {V : List Int} {C : List (Int × Int)} (hs : SetC (fun d => a.has d ∨ b.has d) V C) :
    JoinOf a b ⟨mergeE (a.L.filter (stayE b.L b.V b.C)) (b.L.filter (newE a.V a.C)), V, C⟩ := by
  have fa : ∀ x, x ∈ a.L.filter (stayE b.L b.V b.C) ↔ x ∈ a.L ∧ (hasE b.L x.d = true ∨ ¬ b.has x.d) := fun x => by
    rw [List.mem_filter]
    unfold stayE
    rw [Bool.or_eq_true, Bool.not_eq_true', decide_eq_false_iff_not]
    rfl
  have fb : ∀ x, x ∈ b.L.filter (newE a.V a.C) ↔ x ∈ b.L ∧ ¬ a.has x.d := fun x => by
    rw [List.mem_filter]
    unfold newE
    rw [Bool.not_eq_true', decide_eq_false_iff_not]
    rfl
  refine ⟨mergeE_rise _ _ (List.Pairwise.filter _ ha.rise) (List.Pairwise.filter _ hb.rise) fun x hx y hy e => ?_, fun x => ?_, hs⟩
  · exact ((fb y).1 hy).2 (e ▸ ha.known x ((fa x).1 hx).1)
  · rw [mergeE_mem, fa, fb]
    refine or_congr Iff.rfl ⟨fun h => ⟨h.1, ?_, h.2⟩, fun h => ⟨h.1, h.2.2⟩⟩
    rw [← Bool.not_eq_true]
    exact fun k => h.2 (hasE_known ha k)

theorem stj_box {S : Sta → Prop} {W w5 : World} {b n c m k p q : Nat} {A B D : Option Addr} {s : Sta} (he : El w5 A n c s.L) (hi : Il w5 B m k s.V) (hd : Dl w5 D p q s.C)
    (ha : ∀ ad, A = some ad → b < ad.block) (hb : ∀ ad, B = some ad → b < ad.block) (hdd : ∀ ad, D = some ad → b < ad.block) (hW : W.heap.size ≤ b) (hk : Kept W w5) (hs : S s) :
    StJ S W (.returned (.agg #[.slice A n c, .slice B m k, .slice D p q])) (((w5.setCell ⟨b, 0, none⟩ (.slice A n c)).setCell ⟨b, 1, none⟩ (.slice B m k)).setCell ⟨b, 2, none⟩ (.slice D p q)) := by
  have hE : KeptE b w5 (((w5.setCell ⟨b, 0, none⟩ (.slice A n c)).setCell ⟨b, 1, none⟩ (.slice B m k)).setCell ⟨b, 2, none⟩ (.slice D p q)) := (((KeptE.refl b w5).set (.inl rfl) _).set (.inl rfl) _).set (.inl rfl) _
  exact ⟨A, n, c, B, m, k, D, p, q, s, rfl, ⟨he.keptE hE (fun ad e => by have := ha ad e; omega), hi.keptE hE (fun ad e => by have := hb ad e; omega), hd.keptE hE (fun ad e => by have := hdd ad e; omega)⟩, hs, ((hk.setCell hW _).setCell hW _).setCell hW _⟩

set_option maxRecDepth 100000 in
set_option maxHeartbeats 16000000 in
theorem join_any (A : Option Addr) (n c : Nat) (B : Option Addr) (m k : Nat) (D : Option Addr) (p q : Nat) (a : Sta) (A' : Option Addr) (n' c' : Nat) (B' : Option Addr) (m' k' : Nat) (D' : Option Addr) (p' q' : Nat) (b : Sta) (w : World)
    (h : Stt w A n c B m k D p q a.L a.V a.C) (h' : Stt w A' n' c' B' m' k' D' p' q' b.L b.V b.C) (ha : Ord a) (hb : Ord b) (hn : n ≤ 100000) (hp : p ≤ 100000) (hn' : n' ≤ 100000) (hp' : p' ≤ 100000) :
    Calls Tryz.prog 35 #[.agg #[.slice A n c, .slice B m k, .slice D p q], .agg #[.slice A' n' c', .slice B' m' k', .slice D' p' q']] w (StJ (Joined a b) w) := by
  have hk := ((Kept.refl w).alloc #[.slice A n c, .slice B m k, .slice D p q] 28).alloc #[.slice A' n' c', .slice B' m' k', .slice D' p' q'] 28
  have hk3 := hk.alloc #[.slice none 0 0, .slice none 0 0, .slice none 0 0] 28
  have b0 := ((Box3.new w (.slice A n c) (.slice B m k) (.slice D p q) 28).kept ((Kept.refl _).alloc #[.slice A' n' c', .slice B' m' k', .slice D' p' q'] 28)).kept ((Kept.refl _).alloc #[.slice none 0 0, .slice none 0 0, .slice none 0 0] 28)
  have b1 := (Box3.new (w.alloc (.cells #[.slice A n c, .slice B m k, .slice D p q] 28)) (.slice A' n' c') (.slice B' m' k') (.slice D' p' q') 28).kept ((Kept.refl _).alloc #[.slice none 0 0, .slice none 0 0, .slice none 0 0] 28)
  have b2 := Box3.new ((w.alloc (.cells #[.slice A n c, .slice B m k, .slice D p q] 28)).alloc (.cells #[.slice A' n' c', .slice B' m' k', .slice D' p' q'] 28)) (.slice none 0 0) (.slice none 0 0) (.slice none 0 0) 28
  rw [show (w.alloc (.cells #[.slice A n c, .slice B m k, .slice D p q] 28)).heap.size = w.heap.size + 1 by simp] at b1
  rw [show ((w.alloc (.cells #[.slice A n c, .slice B m k, .slice D p q] 28)).alloc (.cells #[.slice A' n' c', .slice B' m' k', .slice D' p' q'] 28)).heap.size = w.heap.size + 2 by simp] at b2
  have hsz : (((w.alloc (.cells #[.slice A n c, .slice B m k, .slice D p q] 28)).alloc (.cells #[.slice A' n' c', .slice B' m' k', .slice D' p' q'] 28)).alloc (.cells #[.slice none 0 0, .slice none 0 0, .slice none 0 0] 28)).heap.size = w.heap.size + 3 := by simp
  have HA := Lib.hid (h.kept hk3); have HB := Lib.hid (h'.kept hk3)
  have HOA := Lib.hid ha; have HOB := Lib.hid hb
  obtain ⟨U, hU⟩ : ∃ U, ((w.alloc (.cells #[.slice A n c, .slice B m k, .slice D p q] 28)).alloc (.cells #[.slice A' n' c', .slice B' m' k', .slice D' p' q'] 28)).alloc (.cells #[.slice none 0 0, .slice none 0 0, .slice none 0 0] 28) = U := ⟨_, rfl⟩
  rw [hU] at hk3 b0 b1 b2 hsz HA HB
  have HK := Lib.hid hk3; have HRES := Lib.hid b2; have HUU := Lib.hid hU
  have HNA := Lib.hid h.el.1; have HNB := Lib.hid h'.el.1; have HPA := Lib.hid h.dl.1; have HPB := Lib.hid h'.dl.1
  have a0 := KExtE.cell (b := w.heap.size + 2) (by omega) b0.c0; have a1 := KExtE.cell (b := w.heap.size + 2) (by omega) b0.c1; have a2 := KExtE.cell (b := w.heap.size + 2) (by omega) b0.c2
  have d0 := KExtE.cell (b := w.heap.size + 2) (by omega) b1.c0; have d1 := KExtE.cell (b := w.heap.size + 2) (by omega) b1.c1; have d2 := KExtE.cell (b := w.heap.size + 2) (by omega) b1.c2
  clear h h' ha hb hk hk3 b0 b1 b2 hU
  go_enter Tryz.func35, Tryz.ntmps35
  go_wp2_with fail
  rw [HUU.out]
  refine region_planE (w.heap.size + 2) U 17 (.read [0, 1, 2, 5, 6, 7, 10, 11, 12, 13] (.one 3 (.one 4 (.one 8 (.one 9 (.one 14 (.read [15] (.one 16 .stop)))))))) (by kernel_rfl) (by kernel_rfl) (by kernel_rfl) (by kernel_rfl) (by kernel_rfl) (fun _ d _ _ _ h => by cases d <;> exact h) (Kept.refl _) ?_
  intro wd hwd
  have HD := Lib.hid hwd
  clear hwd
  rw [wpPlan_read]
  simp only [pickOps_cons, pickOps_nil, consO_some, List.getElem?_cons_zero, List.getElem?_cons_succ]
  repeat (go_big_quiet_step (fail))
  refine wpQuiet_nil ?_
  clear a0 a1 a2 d0 d1 d2
  rw [wpPlan_one]
  simp only [pickOps_cons, pickOps_nil, consO_some, List.getElem?_cons_zero, List.getElem?_cons_succ]
  go_wp2_with (go_at_call 60; refine (staying_any A' n' c' b.L B' m' k' b.V D' p' q' b.C _ (HB.out.kept HD.out) HOB.out.wfC (by omega)).mono ?_; rintro e w3 ⟨sb, hb, rfl, hst, hk3⟩)
  have HK3 := Lib.hid (HD.out.trans hk3)
  have HST := Lib.hid hst
  clear hst hk3
  refine soloE (.of HK3.out) ?_
  rw [wpPlan_one]
  simp only [pickOps_cons, pickOps_nil, consO_some, List.getElem?_cons_zero, List.getElem?_cons_succ]
  go_wp2_with (go_at_call 59; refine (those_stay A n c a.L sb hb (stayE b.L b.V b.C) _ (HA.out.el.kept HK3.out) (by omega) (fun w' x hx hkx r hr => stay1_any sb hb b.L b.V b.C x w' (HST.out.kept hkx) HOB.out.rise (by have := HNB.out; omega) HOB.out.wfC (HOA.out.wfL x hx) r hr)).mono ?_; rintro e w4 ⟨A4, c4, rfl, he4, hk4⟩)
  have HK4 := Lib.hid (HK3.out.trans hk4)
  have HE4 := Lib.hid he4
  clear he4 hk4
  refine soloE (.of HK4.out) ?_
  rw [wpPlan_one]
  simp only [pickOps_cons, pickOps_nil, consO_some, List.getElem?_cons_zero, List.getElem?_cons_succ]
  go_wp2_with (go_at_call 61; refine (beyond_any A' n' c' b.L (.slice B' m' k') (.slice D' p' q') B m k a.V D p q a.C _ (HB.out.el.kept HK4.out) (HA.out.il.kept HK4.out) (HA.out.dl.kept HK4.out) (by omega) (by omega) HOA.out.wfC HOB.out.wfL).mono ?_; rintro e w5 ⟨A5, c5, rfl, he5, hk5⟩)
  have HK5 := Lib.hid (HK4.out.trans hk5)
  have HE5 := Lib.hid he5; have HE4b := Lib.hid (HE4.out.kept hk5)
  clear he5 hk5
  refine soloE (.of HK5.out) ?_
  rw [wpPlan_one]
  simp only [pickOps_cons, pickOps_nil, consO_some, List.getElem?_cons_zero, List.getElem?_cons_succ]
  go_wp2_with (go_at_call 58; refine (merge_any A4 _ c4 _ A5 _ c5 _ _ HE4b.out HE5.out (Nat.le_trans (List.length_filter_le ..) (by have := HNA.out; omega)) (Nat.le_trans (List.length_filter_le ..) (by have := HNB.out; omega))).mono ?_; rintro e w6 ⟨A6, c6, rfl, he6, hk6, hf6⟩)
  have HK6 := Lib.hid (HK5.out.trans hk6)
  have HE6 := Lib.hid he6
  have hsz5 : w.heap.size + 3 ≤ w5.heap.size := by have := HK5.out.2.2; rw [hsz] at this; exact this
  have HF6 := Lib.hid hf6
  clear he6 hk6 hf6
  refine soloE (.of HK6.out) ?_
  rw [wpPlan_one]
  simp only [pickOps_cons, pickOps_nil, consO_some, List.getElem?_cons_zero, List.getElem?_cons_succ]
  go_wp2_with (go_at_call 62; refine (gjoin_any B m k a.V D p q a.C B' m' k' b.V D' p' q' b.C _ (HA.out.il.kept HK6.out) HOA.out.ctx.vec (HA.out.dl.kept HK6.out) (HB.out.il.kept HK6.out) HOB.out.ctx.vec (HB.out.dl.kept HK6.out) (by omega)).mono ?_; rintro e w9 ⟨A9, n9, c9, B9, m9, k9, V9, C9, rfl, hi9, hd9, hs9, hmm, hk9, hfa, hfb⟩)
  have hsz6 : w.heap.size + 3 ≤ w6.heap.size := by have := HK6.out.2.2; rw [hsz] at this; exact this
  have hr := HRES.out.kept (HK6.out.trans hk9)
  have e0 := hr.c0; have e1 := hr.c1; have e2 := hr.c2; have ef0 := hr.f 0; have ef1 := hr.f 1; have ef2 := hr.f 2
  have HKK := Lib.hid (HK6.out.trans hk9)
  obtain ⟨L6, hL6⟩ : ∃ L6, mergeE (a.L.filter (stayE b.L b.V b.C)) (b.L.filter (newE a.V a.C)) = L6 := ⟨_, rfl⟩
  have hlen : L6.length ≤ a.L.length + b.L.length := by
    rw [← hL6, mergeE_len]
    exact Nat.add_le_add (List.length_filter_le ..) (List.length_filter_le ..)
  have hset : SetC (fun d => a.has d ∨ b.has d) V9 C9 := ⟨hs9.right, fun d => (hs9.has d).trans (join_has HOA.out.ctx HOB.out.ctx d)⟩
  have hjo := join_of HOA.out HOB.out hset
  have hml : m9 = C9.length := hd9.1
  rw [hL6] at hjo
  have he9 := HE6.out.kept hk9
  rw [hL6] at he9
  have HFIN := Lib.hid (stj_box (W := w) (b := w.heap.size + 2) (s := ⟨L6, V9, C9⟩) he9 hi9 hd9 (fun ad e => by have := HF6.out ad e; omega) (fun ad e => by have := hfa ad e; omega) (fun ad e => by have := hfb ad e; omega) (Nat.le_add_right _ 2) (HK.out.trans HKK.out) (show Joined a b ⟨L6, V9, C9⟩ from ⟨hjo, hlen, by show C9.length ≤ _; omega⟩))
  rw [hL6]
  clear hi9 hd9 hs9 hmm hk9 hfa hfb hr hL6 hlen hset hjo hml he9
  refine soloE (.of HKK.out) ?_
  rw [wpPlan_read]
  simp only [pickOps_cons, pickOps_nil, consO_some, List.getElem?_cons_zero, List.getElem?_cons_succ]
  repeat (go_big_quiet_step (fail))
  refine wpQuiet_nil ?_
  rw [wpPlan_one]
  simp only [pickOps_cons, pickOps_nil, consO_some, List.getElem?_cons_zero, List.getElem?_cons_succ]
  go_wp2_with fail
  refine soloE ((((KeptE.of (G := w.heap.size + 2) HKK.out).set (.inl rfl) _).set (.inl rfl) _).set (.inl rfl) _) ?_
  refine wpPlan_stop ?_
  go_wp2_with fail
  exact bodyPost_ret (by simp [results, Tryz.results35, go_sem, *]) rfl HFIN.out

end Go.Proofs.YtkooihljddibfaaGreat

namespace Go.Proofs.YtkooihljddibfaaGreat
open Go.RowKit
set_option linter.unusedVariables false

section
variable {w : World} {b : Nat} {a0 a1 a2 : Option Addr} {n0 n1 n2 c0 c1 c2 : Nat}
theorem Box3.keep (h : Box3 w b (.slice a0 n0 c0) (.slice a1 n1 c1) (.slice a2 n2 c2)) (v0 v1 v2 : Value) {x : Addr} {u : Value} (hu : w.cell? x = some u) (hn : ∀ a n c, u ≠ .slice a n c) :
    (((w.setCell ⟨b, 0, none⟩ v0).setCell ⟨b, 1, none⟩ v1).setCell ⟨b, 2, none⟩ v2).cell? x = some u := by
  have e0 : x ≠ ⟨b, 0, none⟩ := fun e => by subst e; rw [h.c0] at hu; exact hn _ _ _ (Option.some.inj hu).symm
  have e1 : x ≠ ⟨b, 1, none⟩ := fun e => by subst e; rw [h.c1] at hu; exact hn _ _ _ (Option.some.inj hu).symm
  have e2 : x ≠ ⟨b, 2, none⟩ := fun e => by subst e; rw [h.c2] at hu; exact hn _ _ _ (Option.some.inj hu).symm
  rw [World.cell?_setCell_other _ _ _ _ (by first | exact e2 | exact e2.symm), World.cell?_setCell_other _ _ _ _ (by first | exact e1 | exact e1.symm), World.cell?_setCell_other _ _ _ _ (by first | exact e0 | exact e0.symm)]
  exact hu
theorem Box3.il (h : Box3 w b (.slice a0 n0 c0) (.slice a1 n1 c1) (.slice a2 n2 c2)) (v0 v1 v2 : Value) {A : Option Addr} {n c : Nat} {V : List Int} (hi : Il w A n c V) :
    Il (((w.setCell ⟨b, 0, none⟩ v0).setCell ⟨b, 1, none⟩ v1).setCell ⟨b, 2, none⟩ v2) A n c V :=
  ⟨hi.1, hi.2.1, hi.2.2.1, hi.2.2.2.1, hi.2.2.2.2.imp id fun ⟨g, o, hA, hc⟩ => ⟨g, o, hA, fun j x hj => h.keep _ _ _ (hc j x hj) (fun _ _ _ e => by cases e)⟩⟩
theorem Box3.dl (h : Box3 w b (.slice a0 n0 c0) (.slice a1 n1 c1) (.slice a2 n2 c2)) (v0 v1 v2 : Value) {A : Option Addr} {n c : Nat} {L : List (Int × Int)} (hi : Dl w A n c L) :
    Dl (((w.setCell ⟨b, 0, none⟩ v0).setCell ⟨b, 1, none⟩ v1).setCell ⟨b, 2, none⟩ v2) A n c L :=
  ⟨hi.1, hi.2.1, hi.2.2.1, hi.2.2.2.1, hi.2.2.2.2.imp id fun ⟨g, o, hA, hc⟩ => ⟨g, o, hA, fun j x hj => ⟨h.keep _ _ _ (hc j x hj).1 (fun _ _ _ e => by cases e), h.keep _ _ _ (hc j x hj).2 (fun _ _ _ e => by cases e)⟩⟩⟩
theorem cellE_not {x : En} {i : Nat} {u : Value} (h : (cellE x)[i]? = some u) (a : Option Addr) (n c : Nat) : u ≠ .slice a n c := by
  have hm := List.mem_of_getElem? h
  simp only [cellE, List.mem_cons, List.not_mem_nil, or_false] at hm
  rcases hm with rfl | rfl | rfl | rfl | rfl | rfl | rfl | rfl | rfl <;> exact fun e => by cases e
theorem Box3.el (h : Box3 w b (.slice a0 n0 c0) (.slice a1 n1 c1) (.slice a2 n2 c2)) (v0 v1 v2 : Value) {A : Option Addr} {n c : Nat} {L : List En} (hi : El w A n c L) :
    El (((w.setCell ⟨b, 0, none⟩ v0).setCell ⟨b, 1, none⟩ v1).setCell ⟨b, 2, none⟩ v2) A n c L :=
  ⟨hi.1, hi.2.1, hi.2.2.1, hi.2.2.2.1, hi.2.2.2.2.imp id fun ⟨g, o, hA, hc⟩ => ⟨g, o, hA, fun j x hj => EntO.of_flat fun i u hu => h.keep _ _ _ ((hc j x hj).flat i u hu) (cellE_not hu)⟩⟩
end
theorem Box3.set3 {w : World} {b : Nat} {u0 u1 u2 : Value} (h : Box3 w b u0 u1 u2) (v0 v1 v2 : Value) : Box3 (((w.setCell ⟨b, 0, none⟩ v0).setCell ⟨b, 1, none⟩ v1).setCell ⟨b, 2, none⟩ v2) b v0 v1 v2 := by
  refine ⟨?_, ?_, ?_, fun j => by rw [World.frozen?_setCell, World.frozen?_setCell, World.frozen?_setCell]; exact h.f j, by have := h.lt; simpa [World.setCell] using this⟩
  · rw [World.cell?_setCell_other _ _ _ _ (by simp), World.cell?_setCell_other _ _ _ _ (by simp)]
    exact World.cell?_setCell_same _ _ _ h.c0
  · rw [World.cell?_setCell_other _ _ _ _ (by simp)]
    refine World.cell?_setCell_same _ _ _ (u := u1) ?_
    rw [World.cell?_setCell_other _ _ _ _ (by simp)]
    exact h.c1
  · refine World.cell?_setCell_same _ _ _ (u := u2) ?_
    rw [World.cell?_setCell_other _ _ _ _ (by simp), World.cell?_setCell_other _ _ _ _ (by simp)]
    exact h.c2
end Go.Proofs.YtkooihljddibfaaGreat

namespace Go.Proofs.YtkooihljddibfaaGreat
open Go.RowKit
set_option linter.unusedVariables false

/-- A state in the three cells from o on. -/
def StO (w : World) (b o : Nat) (s : Sta) : Prop :=
  ∃ A n c B m k D p q, w.cell? ⟨b, o, none⟩ = some (.slice A n c) ∧ w.cell? ⟨b, o + 1, none⟩ = some (.slice B m k) ∧ w.cell? ⟨b, o + 2, none⟩ = some (.slice D p q) ∧ Stt w A n c B m k D p q s.L s.V s.C
theorem StO.kept {w w' : World} {b o : Nat} {s : Sta} (h : StO w b o s) (hk : Kept w w') : StO w' b o s := by
  obtain ⟨A, n, c, B, m, k, D, p, q, h1, h2, h3, h4⟩ := h
  exact ⟨A, n, c, B, m, k, D, p, q, hk.cell h1, hk.cell h2, hk.cell h3, h4.kept hk⟩
def Ss (w : World) (A : Option Addr) (n c : Nat) (L : List Sta) : Prop :=
  n = L.length ∧ n ≤ c ∧ c ≤ maxLen ∧ (A = none → c = 0) ∧ (n = 0 ∨ ∃ b o, A = some ⟨b, o, none⟩ ∧ ∀ j s, L[j]? = some s → StO w b (o + j * 3) s)
theorem Ss.kept {w w' : World} {A : Option Addr} {n c : Nat} {L : List Sta} (h : Ss w A n c L) (hk : Kept w w') : Ss w' A n c L :=
  ⟨h.1, h.2.1, h.2.2.1, h.2.2.2.1, h.2.2.2.2.imp id fun ⟨b, o, hA, hc⟩ => ⟨b, o, hA, fun j x hj => (hc j x hj).kept hk⟩⟩
theorem Ss.cap {w : World} {A : Option Addr} {n c : Nat} {L : List Sta} (h : Ss w A n c L) : n ≤ c ∧ c ≤ 9223372036854775807 := ⟨h.2.1, h.2.2.1⟩
theorem Ss.get {w : World} {A : Option Addr} {n c : Nat} {L : List Sta} (h : Ss w A n c L) {k : Nat} (hk : k < n) : ∃ b o s, A = some ⟨b, o, none⟩ ∧ L[k]? = some s ∧ StO w b (o + k * 3) s := by
  have hl : k < L.length := by rw [← h.1]; exact hk
  rcases h.2.2.2.2 with h0 | ⟨b, o, hA, hc⟩
  · omega
  · exact ⟨b, o, L[k], hA, List.getElem?_eq_getElem hl, hc k L[k] (List.getElem?_eq_getElem hl)⟩
theorem ss_head {w : World} {A : Option Addr} {n c k : Nat} {L : List Sta} (h : Ss w A n c L) (hk : k ≤ n) : Ss w A k c (L.take k) := by
  obtain ⟨h1, h2, h3, h4, h5⟩ := h
  refine ⟨by rw [List.length_take]; omega, by omega, h3, h4, ?_⟩
  rcases h5 with h0 | ⟨b, o, hA, hc⟩
  · exact .inl (by omega)
  · refine .inr ⟨b, o, hA, fun j x hj => hc j x ?_⟩
    rw [List.getElem?_take] at hj
    split at hj
    · exact hj
    · cases hj
theorem stt_none (w : World) : Stt w none 0 0 none 0 0 none 0 0 Sta.none.L Sta.none.V Sta.none.C := ⟨El.nil w, Il.nil w, Dl.nil w⟩
/-- A state written into a block of its own. -/
theorem stj_put {S : Sta → Prop} {W w5 : World} {b n c m k p q : Nat} {A B D a0 a1 a2 : Option Addr} {n0 n1 n2 c0 c1 c2 : Nat} {s : Sta} (h : Stt w5 A n c B m k D p q s.L s.V s.C)
    (hb : Box3 w5 b (.slice a0 n0 c0) (.slice a1 n1 c1) (.slice a2 n2 c2)) (hW : W.heap.size ≤ b) (hk : Kept W w5) (hs : S s) :
    StJ S W (.returned (.agg #[.slice A n c, .slice B m k, .slice D p q])) (((w5.setCell ⟨b, 0, none⟩ (.slice A n c)).setCell ⟨b, 1, none⟩ (.slice B m k)).setCell ⟨b, 2, none⟩ (.slice D p q)) :=
  ⟨A, n, c, B, m, k, D, p, q, s, rfl, ⟨hb.el _ _ _ h.el, hb.il _ _ _ h.il, hb.dl _ _ _ h.dl⟩, hs, ((hk.setCell hW _).setCell hW _).setCell hW _⟩
end Go.Proofs.YtkooihljddibfaaGreat

namespace Go.Proofs.YtkooihljddibfaaGreat
open Go.RowKit
set_option linter.unusedVariables false

/-- A row of dots that a call makes; U: what is left alone. -/
structure OutG (U wr : World) (v : Value) (L : List (Int × Int)) : Prop where
  own : wr.ownsRow U.heap.size 30 2 v L.length (flatD L)
  ke : Kept U wr
theorem OutG.start (U : World) : OutG U U (.slice none 0 0) [] := ⟨World.ownsRow_nil _ _ _ _, Kept.refl _⟩
theorem OutG.kept {U wr w' : World} {v : Value} {L : List (Int × Int)} (h : OutG U wr v L) (hk : Kept wr w') : OutG U w' v L := ⟨own_kept h.own hk, h.ke.trans hk⟩
theorem OutG.made {U w : World} (hk : Kept U w) : OutG U (w.alloc (.cells #[] 30)) (.slice (some ⟨w.heap.size, 0, none⟩) 0 0) [] :=
  ⟨World.ownsRow_made (base := U.heap.size) (e := 30) (size := 2) w #[] 0 hk.2.2 (by simp [maxLen]) rfl, hk.alloc _ _⟩
theorem OutG.one {U w : World} (hk : Kept U w) (x1 x2 : Int) : OutG U (w.alloc (.cells #[.int .i64 x1, .int .i64 x2] 30)) (.slice (some ⟨w.heap.size, 0, none⟩) 1 1) [(x1, x2)] :=
  ⟨⟨rfl, .inr ⟨w.heap.size, 1, #[.int .i64 x1, .int .i64 x2], rfl, hk.2.2, heap_alloc_new w _, Nat.le_refl _, by simp [maxLen], rfl, rfl⟩⟩, hk.alloc _ _⟩
theorem OutG.form {U wr : World} {v : Value} {L : List (Int × Int)} (h : OutG U wr v L) : ∃ A c, v = .slice A L.length c ∧ Dl wr A L.length c L := Dl.of_own h.own
theorem OutG.lt {U wr : World} {v : Value} {L : List (Int × Int)} (h : OutG U wr v L) : v.ownBlock ≠ some wr.heap.size := fun e => by
  have := (h.own.lt _ e).2; omega
/-- What lies in another block than the row stays. -/
def Far (w w' : World) (v v' : Value) : Prop := ∀ b, b < w.heap.size → v.ownBlock ≠ some b → v'.ownBlock ≠ some b ∧ b < w'.heap.size ∧ (∀ n c X, El w (some ⟨b, 0, none⟩) n c X → El w' (some ⟨b, 0, none⟩) n c X) ∧ ∀ n c X, Dl w (some ⟨b, 0, none⟩) n c X → Dl w' (some ⟨b, 0, none⟩) n c X
theorem OutG.app {U wr : World} {v : Value} {L : List (Int × Int)} (h : OutG U wr v L) (A : Option Addr) (m c : Nat) (M : List (Int × Int)) (hs : Dl wr A m c M) (hb : L.length + m ≤ 1000000000) :
    ∃ v' w', (Builtin.append_ #[24, 24] 24 #[v, .slice A m c]).run Tryz.prog wr = .ok v' w' ∧ OutG U w' v' (L ++ M) ∧ Far wr w' v v' := by
  obtain ⟨v', w', hr, ho, hg, hat⟩ := app_dots_at wr U.heap.size v L.length (flatD L) h.own A m c M hs (by omega) h.ke.2.2
  refine ⟨v', w', hr, ⟨?_, kept_grown h.ke hg fun k hk => (h.own.lt k hk).1⟩, fun b hb2 hne => ?_⟩
  · rw [List.length_append, flatD_app, ← hs.1]
    exact ho
  · have hE : ∀ G, v.ownBlock = some G → KeptE G wr w' := fun G hG => (KeptE.refl G wr).grown hg fun g hg2 => .inl (by rw [hG] at hg2; exact (Option.some.inj hg2).symm)
    have hEE : ∃ G, G ≠ b ∧ KeptE G wr w' := by
      rcases hv : v.ownBlock with _ | G
      · exact ⟨b + 1, by omega, (KeptE.refl _ wr).grown hg fun g hg2 => by rw [hv] at hg2; cases hg2⟩
      · exact ⟨G, fun e => hne (by rw [hv, e]), hE G hv⟩
    obtain ⟨G, hGb, hk⟩ := hEE
    refine ⟨?_, Nat.lt_of_lt_of_le hb2 hg.size, fun n c X hX => hX.keptE hk fun ad e => ?_, fun n c X hX => hX.keptE hk fun ad e => ?_⟩
    · rcases hat with e | e
      · rw [e]; exact hne
      · rw [e]; exact fun e2 => by have := Option.some.inj e2; omega
    · obtain rfl := Option.some.inj e; exact fun e2 => hGb e2.symm
    · obtain rfl := Option.some.inj e; exact fun e2 => hGb e2.symm

/-- P10.2: what an event changes that leaves x, and takes away what the dots G left. -/
def LeaveS (x : En) (G : List (Int × Int)) (s : Sta) : Prop := s.L = [x] ∧ SetC (evS x.d G) s.V s.C ∧ s.C.length ≤ G.length + 1
/-- P10.3. -/
def TakeS (d : Int × Int) (G : List (Int × Int)) (s : Sta) : Prop := s.L = [] ∧ SetC (evS d G) s.V s.C ∧ s.C.length ≤ G.length + 1
theorem LeaveS.one {x : En} {G : List (Int × Int)} {s t : Sta} (h : LeaveS x G s) (k : LeaveS x G t) : s = t := by
  obtain ⟨h2, h3⟩ := h.2.1.same k.2.1 fun d => Iff.rfl
  exact Sta.ext' (h.1.trans k.1.symm) h2 h3
theorem TakeS.one {d : Int × Int} {G : List (Int × Int)} {s t : Sta} (h : TakeS d G s) (k : TakeS d G t) : s = t := by
  obtain ⟨h2, h3⟩ := h.2.1.same k.2.1 fun d => Iff.rfl
  exact Sta.ext' (h.1.trans k.1.symm) h2 h3
theorem ev_fore {d : Int × Int} {G : List (Int × Int)} (e : Int × Int) : CompS [] (d :: G) e ↔ evS d G e := by
  rw [of_has]; unfold evS; rw [List.mem_cons, or_comm]
theorem ev_aft {d : Int × Int} {G : List (Int × Int)} (e : Int × Int) : CompS [] (G ++ [d]) e ↔ evS d G e := by
  rw [of_has]; unfold evS; rw [List.mem_append, List.mem_singleton]
/-- Two states in blocks of their own. -/
def TwoB (W0 : World) (R : Sta → Sta → Prop) (v u : Value) (w : World) : Prop :=
  ∃ b b' A n c B m k D p q A' n' c' B' m' k' D' p' q' s t, v = .pointer (some ⟨b, 0, none⟩) ∧ u = .pointer (some ⟨b', 0, none⟩) ∧ Kept W0 w ∧ Box3 w b (.slice A n c) (.slice B m k) (.slice D p q) ∧ Box3 w b' (.slice A' n' c') (.slice B' m' k') (.slice D' p' q')
    ∧ Stt w A n c B m k D p q (Sta.L s) (Sta.V s) (Sta.C s) ∧ Stt w A' n' c' B' m' k' D' p' q' (Sta.L t) (Sta.V t) (Sta.C t) ∧ R s t
section
variable {w : World} {b : Nat} {a0 a1 a2 : Option Addr} {n0 n1 n2 c0 c1 c2 : Nat}
theorem Box3.stt (h : Box3 w b (.slice a0 n0 c0) (.slice a1 n1 c1) (.slice a2 n2 c2)) (v0 v1 v2 : Value) {A B D : Option Addr} {n c m k p q : Nat} {L : List En} {V : List Int} {C : List (Int × Int)} (hs : Stt w A n c B m k D p q L V C) :
    Stt (((w.setCell ⟨b, 0, none⟩ v0).setCell ⟨b, 1, none⟩ v1).setCell ⟨b, 2, none⟩ v2) A n c B m k D p q L V C := ⟨h.el _ _ _ hs.el, h.il _ _ _ hs.il, h.dl _ _ _ hs.dl⟩
end
theorem Box3.set_far {w : World} {b b' : Nat} {u0 u1 u2 : Value} (h : Box3 w b u0 u1 u2) (hb : b ≠ b') (v0 v1 v2 : Value) : Box3 (((w.setCell ⟨b', 0, none⟩ v0).setCell ⟨b', 1, none⟩ v1).setCell ⟨b', 2, none⟩ v2) b u0 u1 u2 := by
  have n0 : ∀ i j : Nat, (⟨b, i, none⟩ : Addr) ≠ ⟨b', j, none⟩ := fun i j e => hb (congrArg Addr.block e)
  refine ⟨?_, ?_, ?_, fun j => by rw [World.frozen?_setCell, World.frozen?_setCell, World.frozen?_setCell]; exact h.f j, by have := h.lt; simpa [World.setCell] using this⟩
  all_goals
    rw [World.cell?_setCell_other _ _ _ _ (by first | exact n0 _ _ | exact (n0 _ _).symm), World.cell?_setCell_other _ _ _ _ (by first | exact n0 _ _ | exact (n0 _ _).symm), World.cell?_setCell_other _ _ _ _ (by first | exact n0 _ _ | exact (n0 _ _).symm)]
  · exact h.c0
  · exact h.c1
  · exact h.c2
end Go.Proofs.YtkooihljddibfaaGreat

namespace Go.Proofs.YtkooihljddibfaaGreat
open Go.RowKit
set_option linter.unusedVariables false

/-- P10.1. -/
def NextS (V : List Int) (C : List (Int × Int)) (r : Int) (e : Ending) : Prop :=
  ((0 ≤ r ∧ r < 64 ∧ mostC V C r < 1073741824) ∧ e = .returned (.tuple #[.agg #[.int .i64 r, .int .i64 (mostC V C r + 1)], .int .i64 0])) ∨ (¬ (0 ≤ r ∧ r < 64 ∧ mostC V C r < 1073741824) ∧ e = .returned (.tuple #[.agg #[.int .i64 0, .int .i64 0], .int .i64 1]))
set_option maxRecDepth 100000 in
set_option maxHeartbeats 4000000 in
theorem unext_any (u0 : Value) (A : Option Addr) (n c : Nat) (V : List Int) (B : Option Addr) (m k : Nat) (C : List (Int × Int)) (r : Int) (w : World) (h : Il w A n c V) (hd : Dl w B m k C) (hr : RightC V C) :
    Calls Tryz.prog 8 #[.agg #[u0, .slice A n c, .slice B m k], .int .i64 r] w fun e w' => NextS V C r e ∧ Kept w w' := by
  have hk := ((Kept.refl w).alloc #[u0, .slice A n c, .slice B m k] 28).alloc #[.int .i64 0, .int .i64 0] 30
  have hb := (Box3.new w u0 (.slice A n c) (.slice B m k) 28).kept ((Kept.refl _).alloc #[.int .i64 0, .int .i64 0] 30)
  have hb2 := Box2.new (w.alloc (.cells #[u0, .slice A n c, .slice B m k] 28)) (.int .i64 0) (.int .i64 0) 30
  rw [show (w.alloc (.cells #[u0, .slice A n c, .slice B m k] 28)).heap.size = w.heap.size + 1 by simp] at hb2
  have AM := Lib.hid (gmost_any A n c V B m k C r _ (h.kept hk) (hd.kept hk))
  have HM := Lib.hid (most_bd hr r)
  have HK := Lib.hid hk; have HB := Lib.hid hb; have HB2 := Lib.hid hb2
  obtain ⟨z, hz⟩ : ∃ z, mostC V C r = z := ⟨_, rfl⟩
  rw [hz] at AM HM
  unfold NextS
  rw [hz]
  clear h hd hr hk hb hb2 hz
  have b1 := HB.out.c1; have b2 := HB.out.c2
  have r0 := HB2.out.c0; have r1 := HB2.out.c1; have rf := HB2.out.f
  by_cases h1 : r < 0
  · have t1 : decide (r < 0) = true := decide_eq_true h1
    have HN := Lib.hid (show ¬ (0 ≤ r ∧ r < 64 ∧ z < 1073741824) by omega)
    clear h1
    go_enter Tryz.func8, Tryz.ntmps8
    go_wp2_with fail
    refine bodyPost_ret (by simp [results, Tryz.results8, go_sem, *]) rfl ⟨.inr ⟨HN.out, rfl⟩, ?_⟩
    exact HK.out
  · have t1 : decide (r < 0) = false := decide_eq_false h1
    by_cases h2 : r ≥ 64
    · have t2 : decide (r ≥ 64) = true := decide_eq_true h2
      have t2' : decide (64 ≤ r) = true := decide_eq_true h2
      have HN := Lib.hid (show ¬ (0 ≤ r ∧ r < 64 ∧ z < 1073741824) by omega)
      clear h1 h2
      go_enter Tryz.func8, Tryz.ntmps8
      go_wp2_with fail
      refine bodyPost_ret (by simp [results, Tryz.results8, go_sem, *]) rfl ⟨.inr ⟨HN.out, rfl⟩, ?_⟩
      exact HK.out
    · have t2 : decide (r ≥ 64) = false := decide_eq_false h2
      have t2' : decide (64 ≤ r) = false := decide_eq_false h2
      by_cases h3 : z ≥ 1073741824
      · have t3 : decide (z ≥ 1073741824) = true := decide_eq_true h3
        have t3' : decide (1073741824 ≤ z) = true := decide_eq_true h3
        have HN := Lib.hid (show ¬ (0 ≤ r ∧ r < 64 ∧ z < 1073741824) by omega)
        clear h1 h2 h3
        go_enter Tryz.func8, Tryz.ntmps8
        go_wp2_with fail
        go_at_call 28
        refine AM.out.mono ?_
        rintro e w1 ⟨rfl, hk1⟩
        have hr1 := HB2.out.kept hk1
        clear b1 b2 r0 r1 rf
        have r0 := hr1.c0; have r1 := hr1.c1; have rf := hr1.f
        have HK1 := Lib.hid (HK.out.trans hk1)
        clear hr1 hk1
        go_wp2_with fail
        refine bodyPost_ret (by simp [results, Tryz.results8, go_sem, *]) rfl ⟨.inr ⟨HN.out, rfl⟩, ?_⟩
        exact (HK1.out.setCell (Nat.le_add_right _ 1) _).setCell (Nat.le_add_right _ 1) _
      · have t3 : decide (z ≥ 1073741824) = false := decide_eq_false h3
        have t3' : decide (1073741824 ≤ z) = false := decide_eq_false h3
        have HN := Lib.hid (show 0 ≤ r ∧ r < 64 ∧ z < 1073741824 by omega)
        have hwz : IntKind.i64.wrap (z + 1) = z + 1 := by have := HM.out; rw [IntWalk.i64_in _ (by omega)]
        clear h1 h2 h3
        go_enter Tryz.func8, Tryz.ntmps8
        go_wp2_with fail
        go_at_call 28
        refine AM.out.mono ?_
        rintro e w1 ⟨rfl, hk1⟩
        have hr1 := HB2.out.kept hk1
        clear b1 b2 r0 r1 rf
        have r0 := hr1.c0; have r1 := hr1.c1; have rf := hr1.f
        have HK1 := Lib.hid (HK.out.trans hk1)
        clear hr1 hk1
        go_wp2_with fail
        refine bodyPost_ret (by simp [results, Tryz.results8, go_sem, *]) rfl ⟨.inl ⟨HN.out, rfl⟩, ?_⟩
        exact (HK1.out.setCell (Nat.le_add_right _ 1) _).setCell (Nat.le_add_right _ 1) _
/-- P10.1, as a value. -/
noncomputable def nx (V : List Int) (C : List (Int × Int)) (r : Int) : (Int × Int) × Int := if 0 ≤ r ∧ r < 64 ∧ mostC V C r < 1073741824 then ((r, mostC V C r + 1), 0) else ((0, 0), 1)
theorem NextS.nx {V : List Int} {C : List (Int × Int)} {r : Int} {e : Ending} (h : NextS V C r e) {d1 d2 q : Int} (hp : nx V C r = ((d1, d2), q)) : e = .returned (.tuple #[.agg #[.int .i64 d1, .int .i64 d2], .int .i64 q]) := by
  unfold Go.Proofs.YtkooihljddibfaaGreat.nx at hp
  rcases h with ⟨h1, rfl⟩ | ⟨h1, rfl⟩
  · rw [if_pos h1] at hp
    simp only [Prod.mk.injEq] at hp
    obtain ⟨⟨rfl, rfl⟩, rfl⟩ := hp
    rfl
  · rw [if_neg h1] at hp
    simp only [Prod.mk.injEq] at hp
    obtain ⟨⟨rfl, rfl⟩, rfl⟩ := hp
    rfl
end Go.Proofs.YtkooihljddibfaaGreat

