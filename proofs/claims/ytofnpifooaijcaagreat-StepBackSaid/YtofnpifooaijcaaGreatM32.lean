/-
  What is proved: package step's become (a part of P14.3), called with any field and a step of the kind 10 of bounded lengths, returns the field turned and whether it fits; the world has new blocks at most.
  package step's become (a part of P14.3), called with any field at just the step's pattern and any step of bounded lengths, returns the field turned, if it fits, and whether it does; the world has new blocks at most.
  package step's leads (P14.3), called with any step of bounded lengths that moves fields, tells whether the step's own parts lead somewhere else; the world has new blocks at most.
  package step's place (P14.3), and slices.IndexFunc and slices.Index at fields, return the place of the first field that is asked for, or -1; the world has new blocks at most.
-/
import Derived.Test.YtofnpifooaijcaaGreatKSConv
import Derived.Test.YtofnpifooaijcaaGreatM24
import Derived.Test.YtofnpifooaijcaaGreatKSBec7
import Derived.Test.YtofnpifooaijcaaGreatKSBec8
import Derived.Test.YtofnpifooaijcaaGreatKSBec9
import Derived.Test.YtofnpifooaijcaaGreatM16
import Derived.Test.YtofnpifooaijcaaGreatM13
import Derived.Test.YtofnpifooaijcaaGreatM12
namespace Go.Proofs.YtofnpifooaijcaaGreat
open Go.RowKit
set_option linter.unusedVariables false
set_option maxRecDepth 100000 in
set_option maxHeartbeats 16000000 in
theorem sbec_10 (A : Option Addr) (n c : Nat) (x : St) (f : Fd) (w : World) (hp : f.p.size ≤ 2000) (hxp : x.p.size ≤ 2000) (hnm : x.nm.size ≤ 2000) (g : Fd) (z : Bool) (h : Pal w A n c x.T.L) (hT : SzT x.T) (hft : f.vt.size ≤ 1000000000) (q : x.k = 10) (hg : convX x f = g) (hz : z = true ↔ ConvP x f) :
    Calls Tryz.prog 89 #[.agg #[.string f.p, .int .i64 f.k, .int .i64 f.t, .int .i64 f.vk, .int .i64 f.vn, .string f.vt], .agg (cellS A n c x).toArray] w fun e w' => e = .returned (.tuple #[.agg #[.string g.p, .int .i64 g.k, .int .i64 g.t, .int .i64 g.vk, .int .i64 g.vn, .string g.vt], .bool z]) ∧ Kept w w' := by
  have hk := ((((Kept.refl w).alloc #[.string f.p, .int .i64 f.k, .int .i64 f.t, .int .i64 f.vk, .int .i64 f.vn, .string f.vt] 28).alloc (cellS A n c x).toArray 33).alloc #[.string ⟨#[]⟩, .int .i64 0, .int .i64 0, .int .i64 0, .int .i64 0, .string ⟨#[]⟩] 28).alloc #[.string f.p, .int .i64 f.k, .int .i64 f.t, .int .i64 f.vk, .int .i64 f.vn, .string f.vt] 28
  have hf := (((FdB.new w f 28).kept ((Kept.refl _).alloc (cellS A n c x).toArray 33)).kept ((Kept.refl _).alloc #[.string ⟨#[]⟩, .int .i64 0, .int .i64 0, .int .i64 0, .int .i64 0, .string ⟨#[]⟩] 28)).kept ((Kept.refl _).alloc #[.string f.p, .int .i64 f.k, .int .i64 f.t, .int .i64 f.vk, .int .i64 f.vn, .string f.vt] 28)
  have hs := ((StB.new (w.alloc (.cells #[.string f.p, .int .i64 f.k, .int .i64 f.t, .int .i64 f.vk, .int .i64 f.vn, .string f.vt] 28)) A n c x 33).kept ((Kept.refl _).alloc #[.string ⟨#[]⟩, .int .i64 0, .int .i64 0, .int .i64 0, .int .i64 0, .string ⟨#[]⟩] 28)).kept ((Kept.refl _).alloc #[.string f.p, .int .i64 f.k, .int .i64 f.t, .int .i64 f.vk, .int .i64 f.vn, .string f.vt] 28)
  have hr := (FdB.new ((w.alloc (.cells #[.string f.p, .int .i64 f.k, .int .i64 f.t, .int .i64 f.vk, .int .i64 f.vn, .string f.vt] 28)).alloc (.cells (cellS A n c x).toArray 33)) .none 28).kept ((Kept.refl _).alloc #[.string f.p, .int .i64 f.k, .int .i64 f.t, .int .i64 f.vk, .int .i64 f.vn, .string f.vt] 28)
  have ho := FdB.new (((w.alloc (.cells #[.string f.p, .int .i64 f.k, .int .i64 f.t, .int .i64 f.vk, .int .i64 f.vn, .string f.vt] 28)).alloc (.cells (cellS A n c x).toArray 33)).alloc (.cells #[.string ⟨#[]⟩, .int .i64 0, .int .i64 0, .int .i64 0, .int .i64 0, .string ⟨#[]⟩] 28)) f 28
  have hf0 := ((FdB.new w f 28).kept ((Kept.refl _).alloc (cellS A n c x).toArray 33)).kept ((Kept.refl _).alloc #[.string ⟨#[]⟩, .int .i64 0, .int .i64 0, .int .i64 0, .int .i64 0, .string ⟨#[]⟩] 28)
  simp only [Fd.none] at hr
  rw [show (w.alloc (.cells #[.string f.p, .int .i64 f.k, .int .i64 f.t, .int .i64 f.vk, .int .i64 f.vn, .string f.vt] 28)).heap.size = w.heap.size + 1 by simp] at hs
  rw [show ((w.alloc (.cells #[.string f.p, .int .i64 f.k, .int .i64 f.t, .int .i64 f.vk, .int .i64 f.vn, .string f.vt] 28)).alloc (.cells (cellS A n c x).toArray 33)).heap.size = w.heap.size + 2 by simp] at hr
  rw [show (((w.alloc (.cells #[.string f.p, .int .i64 f.k, .int .i64 f.t, .int .i64 f.vk, .int .i64 f.vn, .string f.vt] 28)).alloc (.cells (cellS A n c x).toArray 33)).alloc (.cells #[.string ⟨#[]⟩, .int .i64 0, .int .i64 0, .int .i64 0, .int .i64 0, .string ⟨#[]⟩] 28)).heap.size = w.heap.size + 3 by simp] at ho
  obtain ⟨U, hU⟩ : ∃ U, ((w.alloc (.cells #[.string f.p, .int .i64 f.k, .int .i64 f.t, .int .i64 f.vk, .int .i64 f.vn, .string f.vt] 28)).alloc (.cells (cellS A n c x).toArray 33)).alloc (.cells #[.string ⟨#[]⟩, .int .i64 0, .int .i64 0, .int .i64 0, .int .i64 0, .string ⟨#[]⟩] 28) = U := ⟨_, rfl⟩
  rw [hU] at hk hf hs hr ho hf0
  have hz3 : w.heap.size + 3 = U.heap.size := by rw [← hU]; simp
  have HZ3 := Lib.hid hz3
  clear hz3
  obtain ⟨V, hV⟩ : ∃ V, U.alloc (.cells #[.string f.p, .int .i64 f.k, .int .i64 f.t, .int .i64 f.vk, .int .i64 f.vn, .string f.vt] 28) = V := ⟨_, rfl⟩
  rw [hV] at hk hf hs hr ho
  have HK := Lib.hid hk; have HF := Lib.hid hf; have HS := Lib.hid hs; have HRB := Lib.hid hr; have HO := Lib.hid ho; have HUU := Lib.hid hU; have HVV := Lib.hid hV
  have HPZ := Lib.hid hp; have HXZ := Lib.hid hxp; have HNZ := Lib.hid hnm
  have HG0 := Lib.hid hf0
  have n1 : w.heap.size ≠ w.heap.size + 1 := by omega
  have n2 : w.heap.size ≠ w.heap.size + 2 := by omega
  have n3 : w.heap.size ≠ w.heap.size + 3 := by omega
  have n4 : w.heap.size + 2 ≠ w.heap.size + 3 := by omega
  have N1 := Lib.hid n1; have N2 := Lib.hid n2; have N3 := Lib.hid n3; have N4 := Lib.hid n4
  clear hk hf hs hr ho hU hV hp hxp hnm n1 n2 n3 n4 hf0
  have c0 := HS.out.c0
  have g0 := HG0.out.c0; have g1 := HG0.out.c1; have g2 := HG0.out.c2; have g3 := HG0.out.c3; have g4 := HG0.out.c4; have g5 := HG0.out.c5
  have A2 := Lib.hid (fun w h => sconv_any A n c x f w h hT hft g hg z hz)
  have HH := Lib.hid h
  have n61 : (x.k == 6) = false := by rw [q]; rfl
  have n62 : decide (x.k = 6) = false := by rw [q]; rfl
  have n71 : (x.k == 7) = false := by rw [q]; rfl
  have n72 : decide (x.k = 7) = false := by rw [q]; rfl
  have n81 : (x.k == 8) = false := by rw [q]; rfl
  have n82 : decide (x.k = 8) = false := by rw [q]; rfl
  have n91 : (x.k == 9) = false := by rw [q]; rfl
  have n92 : decide (x.k = 9) = false := by rw [q]; rfl
  have e101 : (x.k == 10) = true := by rw [q]; rfl
  have e102 : decide (x.k = 10) = true := decide_eq_true q
  clear q hg hz h hT hft
  have f0 := HF.out.c0; have f1 := HF.out.c1; have f2 := HF.out.c2; have f3 := HF.out.c3; have f4 := HF.out.c4; have f5 := HF.out.c5; have ff := HF.out.f
  go_enter Tryz.func89, Tryz.ntmps89
  go_wp2_with (first | rw [HUU.out] | rw [HVV.out] | (refine wpList_load_mid rfl 33 _ rfl (w.heap.size + 1) 0 rfl _ _ HS.out.r Tryz.underlying33 rfl (step_size A n c x) ?_))
  rw [← HZ3.out]
  clear f0 f1 f2 f3 f4 f5 ff
  clear g0 g1 g2 g3 g4 g5
  go_at_call 133
  refine (A2.out _ (HH.out.kept HK.out)).mono ?_
  rintro e u2 ⟨rfl, hk⟩
  replace HK := Lib.hid (HK.out.trans hk); replace HRB := Lib.hid (HRB.out.kept hk)
  clear hk c0
  have r0 := HRB.out.c0; have r1 := HRB.out.c1; have r2 := HRB.out.c2; have r3 := HRB.out.c3; have r4 := HRB.out.c4; have r5 := HRB.out.c5; have rf := HRB.out.f
  go_wp2_with fail
  refine bodyPost_ret (by simp [results, Tryz.results89, go_sem, *]) rfl ⟨rfl, ?_⟩
  exact (((((((HK.out).setCell (a := ⟨w.heap.size + 2, 0, none⟩) (Nat.le_add_right _ 2) _).setCell (a := ⟨w.heap.size + 2, 1, none⟩) (Nat.le_add_right _ 2) _).setCell (a := ⟨w.heap.size + 2, 2, none⟩) (Nat.le_add_right _ 2) _).setCell (a := ⟨w.heap.size + 2, 3, none⟩) (Nat.le_add_right _ 2) _).setCell (a := ⟨w.heap.size + 2, 4, none⟩) (Nat.le_add_right _ 2) _).setCell (a := ⟨w.heap.size + 2, 5, none⟩) (Nat.le_add_right _ 2) _)
def BecP (x : St) (f : Fd) : Prop := 6 ≤ x.k ∧ x.k ≤ 10 ∧ LeafP x f ∧ (x.k = 10 → RightT x.T x.a x.b)
def BecE (x : St) (f : Fd) (w : World) (e : Ending) (w' : World) : Prop :=
  ∃ (g : Fd) (z : Bool), e = .returned (.tuple #[.agg #[.string g.p, .int .i64 g.k, .int .i64 g.t, .int .i64 g.vk, .int .i64 g.vn, .string g.vt], .bool z]) ∧ Kept w w' ∧ (z = true ↔ BecP x f) ∧ (z = true → g = leafG x f) ∧ g.p.size ≤ 1099511627776 ∧ g.vt.size ≤ 1099511627776
theorem convX_size {x : St} {f : Fd} (hT : SzT x.T) (hp : f.p.size ≤ 2000) (hft : f.vt.size ≤ 1000000000) : (convX x f).p.size ≤ 1099511627776 ∧ (convX x f).vt.size ≤ 1099511627776 := by
  unfold convX
  have hz : (defV f).t.size ≤ 1099511627776 := by show f.vt.size ≤ _; omega
  split
  · split
    · exact ⟨by show f.p.size ≤ _; omega, apply_szT hT hz⟩
    · exact ⟨by show f.p.size ≤ _; omega, hz⟩
  · exact ⟨by decide, by decide⟩
theorem sbec_any (A : Option Addr) (n c : Nat) (x : St) (f : Fd) (w : World) (h : Pal w A n c x.T.L) (hS : StS x) (hT : SzT x.T) (hp : f.p.size ≤ 2000) (hft : f.vt.size ≤ 1000000000) (hpl : f.p = leafP x) :
    Calls Tryz.prog 89 #[.agg #[.string f.p, .int .i64 f.k, .int .i64 f.t, .int .i64 f.vk, .int .i64 f.vn, .string f.vt], .agg (cellS A n c x).toArray] w (BecE x f w) := by
  by_cases h6 : x.k = 6
  · obtain ⟨z, hz⟩ := bool_of (f.k = 1)
    have e : moveS x f.p = movedS x f.p := moveS_in (by unfold preS; rw [hpl]; unfold leafP; rw [if_neg (by omega)]; exact List.prefix_refl _)
    refine (sbec_6 A n c x f w hp hS.p hS.nm _ z h6 rfl hz).mono fun _ _ ⟨he, hk⟩ => ⟨_, z, he, hk, ?_, fun _ => ?_, ?_, ?_⟩
    · rw [hz]; unfold BecP LeafP; simp [h6]
    · rw [e]; unfold leafG; rw [if_pos h6]
    · have := move_big hS.p hS.nm hp; show (moveS x f.p).size ≤ _; omega
    · show f.vt.size ≤ _; omega
  by_cases h7 : x.k = 7
  · obtain ⟨z, hz⟩ := bool_of (f.k = 1)
    have e : moveS x f.p = movedS x f.p := moveS_in (by unfold preS; rw [hpl]; unfold leafP; rw [if_pos h7, sL_under]; exact List.prefix_append _ _)
    refine (sbec_7 A n c x f w hp hS.p hS.nm _ z h7 rfl hz).mono fun _ _ ⟨he, hk⟩ => ⟨_, z, he, hk, ?_, fun _ => ?_, ?_, ?_⟩
    · rw [hz]; unfold BecP LeafP; simp [h7]
    · rw [e]; unfold leafG; rw [if_neg h6, if_pos h7]
    · have := move_big hS.p hS.nm hp; show (moveS x f.p).size ≤ _; omega
    · show f.vt.size ≤ _; omega
  by_cases h8 : x.k = 8
  · obtain ⟨z, hz⟩ := bool_of (f.k = 1 ∧ defV f = x.d)
    refine (sbec_8 A n c x f w hp hS.p hS.nm _ z h8 rfl hz).mono fun _ _ ⟨he, hk⟩ => ⟨_, z, he, hk, ?_, fun _ => ?_, ?_, ?_⟩
    · rw [hz]; unfold BecP LeafP; simp [h8]
    · unfold leafG; rw [if_neg h6, if_neg h7, if_pos h8]
    · show f.p.size ≤ _; omega
    · show (⟨#[]⟩ : ByteArray).size ≤ _; decide
  by_cases h9 : x.k = 9
  · obtain ⟨z, hz⟩ := bool_of (f.k = 2)
    refine (sbec_9 A n c x f w hp hS.p hS.nm _ z h9 rfl hz).mono fun _ _ ⟨he, hk⟩ => ⟨_, z, he, hk, ?_, fun _ => ?_, ?_, ?_⟩
    · rw [hz]; unfold BecP LeafP; simp [h9]
    · unfold leafG; rw [if_neg h6, if_neg h7, if_neg h8, if_pos h9]
    · show f.p.size ≤ _; omega
    · have := hS.d; show x.d.t.size ≤ _; omega
  by_cases h10 : x.k = 10
  · obtain ⟨z, hz⟩ := bool_of (ConvP x f)
    have hsz := convX_size hT hp hft
    refine (sbec_10 A n c x f w hp hS.p hS.nm _ z h hT hft h10 rfl hz).mono fun _ _ ⟨he, hk⟩ => ⟨_, z, he, hk, ?_, fun hzt => ?_, hsz.1, hsz.2⟩
    · rw [hz]; unfold BecP LeafP ConvP; simp [h10]; exact ⟨fun k => ⟨⟨k.1, k.2.1, k.2.2.2⟩, k.2.2.1⟩, fun k => ⟨k.1.1, k.1.2.1, k.2, k.1.2.2⟩⟩
    · have k := hz.1 hzt
      unfold convX leafG
      rw [if_pos ⟨k.1, k.2.1, k.2.2.1⟩, if_neg h6, if_neg h7, if_neg h8, if_neg h9]
  refine (sbec_0 A n c x f w hp hS.p hS.nm .none false (by omega) rfl rfl).mono fun _ _ ⟨he, hk⟩ => ⟨.none, false, he, hk, ?_, (fun k => by cases k), by decide, by decide⟩
  unfold BecP
  constructor
  · intro k; cases k
  · rintro ⟨k1, k2, _⟩; omega
theorem ssegK (s : ByteArray) (b : Bool) (h : L4.segS s = b) (hs : s.size ≤ 1099511627776) (w : World) :
    Calls Tryz.prog 130 #[.string s] w fun e w' => e = .returned (.bool b) ∧ Kept w w' :=
  (L4.seg_c s b h (by omega) w).mono fun _ _ ⟨he, hk⟩ => ⟨he, kept_of_below hk⟩
def LeadR (x : St) : Prop :=
  (x.k = 1 ∧ L4.segS x.nm = true ∧ lastS (sL x.p) ≠ [42] ∧ lastS (sL x.p) ≠ x.nm.data.toList) ∨
  (x.k = 2 ∧ 2 ≤ (sL x.p).length ∧ midS (sL x.p) ≠ [42]) ∨
  (x.k = 3 ∧ L4.segS x.nm = true)
theorem lead1 {x : St} (q : x.k = 1) : LeadR x ↔ L4.segS x.nm = true ∧ lastS (sL x.p) ≠ [42] ∧ lastS (sL x.p) ≠ x.nm.data.toList := by
  unfold LeadR; simp [q]
theorem lead2 {x : St} (q : x.k = 2) : LeadR x ↔ 2 ≤ (sL x.p).length ∧ midS (sL x.p) ≠ [42] := by
  unfold LeadR; simp [q]
theorem lead3 {x : St} (q : x.k = 3) : LeadR x ↔ L4.segS x.nm = true := by
  unfold LeadR; simp [q]
set_option maxRecDepth 100000 in
set_option maxHeartbeats 16000000 in
theorem sleads_any (A : Option Addr) (n c : Nat) (x : St) (w : World) (hxp : x.p.size ≤ 2000) (hnm : x.nm.size ≤ 2000) (hm0 : Mv x) (r : Bool) (hr : r = true ↔ LeadR x) :
    Calls Tryz.prog 84 #[.agg (cellS A n c x).toArray] w fun e w' => e = .returned (.bool r) ∧ Kept w w' := by
  have hk := (Kept.refl w).alloc (cellS A n c x).toArray 33
  have HS := Lib.hid (StB.new w A n c x 33)
  obtain ⟨U, hU⟩ : ∃ U, w.alloc (.cells (cellS A n c x).toArray 33) = U := ⟨_, rfl⟩
  rw [hU] at hk HS
  have HK := Lib.hid hk; have HUU := Lib.hid hU; have HR := Lib.hid hr; have HMV := Lib.hid hm0
  obtain ⟨m, hm⟩ : ∃ m, (L4.splS x.p).length = m := ⟨_, rfl⟩
  have A1 := Lib.hid (fun w => spl_n x.p m hm (by omega) w)
  have hmm : m ≤ 2001 := by rw [← hm]; have := L4.splS_le x.p; omega
  have hm1 : 1 ≤ m := by rw [← hm]; exact L4.splS_pos x.p
  have HM := Lib.hid hm
  obtain ⟨q2, hq2⟩ : ∃ b, L4.segS x.nm = b := ⟨_, rfl⟩
  have AG := Lib.hid (fun w => ssegK x.nm q2 hq2 (by omega) w)
  have HQ2 := Lib.hid hq2
  clear hk hU hr hm hm0 hq2 hxp hnm
  have c1 := HS.out.c1
  go_enter Tryz.func84, Tryz.ntmps84
  go_wp2_with (rw [HUU.out])
  go_at_call 51
  refine (A1.out _).mono ?_
  rintro e u1 ⟨b1, c3, rfl, hs1, hk⟩
  have HSL := Lib.hid hs1
  have hc1 := hs1.2.1; have hc2 := hs1.2.2.1
  replace HK := Lib.hid (HK.out.trans hk); replace HS := Lib.hid (HS.out.kept hk)
  clear hs1 hk c1
  have c0 := HS.out.c0
  by_cases q : x.k = 2
  · have e21 : (x.k == 2) = true := by rw [q]; rfl
    have e22 : decide (x.k = 2) = true := decide_eq_true q
    have HR2 := Lib.hid (HR.out.trans (lead2 q))
    have hsl : (sL x.p).length = m := by rw [← splS_sL]; exact HM.out
    have HSLM := Lib.hid hsl
    clear hsl q AG
    by_cases q2 : 2 ≤ m
    · obtain ⟨g, hg⟩ : ∃ g, L4.sg x.p (m - 2) = g := ⟨_, rfl⟩
      have HG := Lib.hid (show midS (sL x.p) = g.data.toList by rw [mid_sg HM.out q2, hg])
      have hcel : u1.cell? ⟨b1, m - 2, none⟩ = some (.string g) := by have := HSL.out.get (k := m - 2) (by omega); rw [Nat.zero_add] at this; rw [this, ← hg]; rfl
      have w1 : IntKind.i64.wrap ((m : Int) - 2) = ((m - 2 : Nat) : Int) := by rw [IntWalk.i64_in _ (by omega)]; omega
      have hix : ((m : Int) - 2).toNat = m - 2 := by omega
      have hin : m - 2 < m := by omega
      have t1 : decide ((2 : Int) ≤ (m : Int)) = true := decide_eq_true (by omega)
      have t2 : decide (2 ≤ m) = true := decide_eq_true q2
      have HQ9 := Lib.hid q2
      clear hg q2
      by_cases q3 : g.data.toList = [42]
      · have HF := Lib.hid (show false = r by rw [eq_comm, ← Bool.not_eq_true, HR2.out]; exact fun k => k.2 (by rw [HG.out]; exact q3))
        have q5 := L4.star_yes q3
        subst q5
        clear q3
        go_wp2_with fail
        go_ret
        exact ⟨ret_bool HF.out, HK.out⟩
      · obtain ⟨d1, d2⟩ := L4.star_not q3
        have HF := Lib.hid (show true = r from (HR2.out.2 ⟨by rw [HSLM.out]; exact HQ9.out, fun e => q3 (by rw [← HG.out]; exact e)⟩).symm)
        clear q3
        go_wp2_with fail
        go_ret
        exact ⟨ret_bool HF.out, HK.out⟩
    · have t1 : decide ((2 : Int) ≤ (m : Int)) = false := decide_eq_false (by omega)
      have t2 : decide (2 ≤ m) = false := decide_eq_false q2
      have HF := Lib.hid (show false = r by rw [eq_comm, ← Bool.not_eq_true, HR2.out]; exact fun k => by have := k.1; rw [HSLM.out] at this; exact q2 this)
      clear q2
      go_wp2_with fail
      go_ret
      exact ⟨ret_bool HF.out, HK.out⟩
  · have n21 : (x.k == 2) = false := by simpa using q
    have n22 : decide (x.k = 2) = false := decide_eq_false q
    have n2 := q
    clear q
    by_cases q : x.k = 1
    · have e11 : (x.k == 1) = true := by rw [q]; rfl
      have e12 : decide (x.k = 1) = true := decide_eq_true q
      have HR2 := Lib.hid (HR.out.trans (lead1 q))
      clear q n2
      obtain ⟨g, hg⟩ : ∃ g, L4.sg x.p (m - 1) = g := ⟨_, rfl⟩
      have HG := Lib.hid (show lastS (sL x.p) = g.data.toList by rw [last_sg HM.out, hg])
      have HC := Lib.hid (show u1.cell? ⟨b1, m - 1, none⟩ = some (.string g) by have := HSL.out.get (k := m - 1) (by omega); rw [Nat.zero_add] at this; rw [this, ← hg]; rfl)
      have w1 : IntKind.i64.wrap ((m : Int) - 1) = ((m - 1 : Nat) : Int) := by rw [IntWalk.i64_in _ (by omega)]; omega
      have hix : ((m : Int) - 1).toNat = m - 1 := by omega
      have hin : m - 1 < m := by omega
      clear hg
      by_cases q3 : g.data.toList = [42]
      · have HF := Lib.hid (show false = r by rw [eq_comm, ← Bool.not_eq_true, HR2.out]; exact fun k => k.2.1 (by rw [HG.out]; exact q3))
        have q5 := L4.star_yes q3
        subst q5
        clear q3
        have c2 := KExt.cell HS.out.c2; have hcell := KExt.cell HC.out
        go_wp2_with fail
        refine region_kept _ (by kernel_rfl) (by kernel_rfl) (Kept.refl _) ?_
        repeat (go_big_quiet_step (fail))
        refine wpQuiet_nil ?_
        intro G
        clear c2 hcell
        go_wp2_with fail
        go_ret
        exact ⟨ret_bool HF.out, HK.out.trans G.g⟩
      · obtain ⟨d1, d2⟩ := L4.star_not q3
        have HQ3 := Lib.hid q3
        clear q3
        by_cases q4 : g = x.nm
        · have HF := Lib.hid (show false = r by rw [eq_comm, ← Bool.not_eq_true, HR2.out]; exact fun k => k.2.2 (by rw [HG.out, q4]))
          have d3 := txt_eqK q4
          have d4 : (g.toList != x.nm.toList) = false := by rw [q4]; simp
          clear q4
          have c2 := KExt.cell HS.out.c2; have hcell := KExt.cell HC.out
          go_wp2_with fail
          refine region_kept _ (by kernel_rfl) (by kernel_rfl) (Kept.refl _) ?_
          repeat (go_big_quiet_step (fail))
          refine wpQuiet_nil ?_
          intro G
          clear c2 hcell
          go_wp2_with fail
          go_ret
          exact ⟨ret_bool HF.out, HK.out.trans G.g⟩
        · have HF := Lib.hid (show q2 = r by
            rw [Bool.eq_iff_iff, HR2.out, HQ2.out]
            exact ⟨fun h => ⟨h, fun e => HQ3.out (by rw [← HG.out]; exact e), fun e => q4 (ba_ext (by rw [← HG.out]; exact e))⟩, fun h => h.1⟩)
          have d3 := txt_neK q4
          have d4 : (g.toList != x.nm.toList) = true := by simpa [bne] using d3
          clear q4
          have c2 := KExt.cell HS.out.c2; have hcell := KExt.cell HC.out
          go_wp2_with fail
          refine region_kept _ (by kernel_rfl) (by kernel_rfl) (Kept.refl _) ?_
          repeat (go_big_quiet_step (fail))
          refine wpQuiet_nil ?_
          intro G
          clear c2 hcell
          have c2 := (HS.out.kept G.g).c2
          go_wp2_with fail
          go_at_call 130
          refine (AG.out _).mono ?_
          rintro e u2 ⟨rfl, hk⟩
          replace HK := Lib.hid ((HK.out.trans G.g).trans hk)
          clear hk
          go_wp2_with fail
          go_ret
          exact ⟨ret_bool HF.out, HK.out⟩
    · have n11 : (x.k == 1) = false := by simpa using q
      have n12 : decide (x.k = 1) = false := decide_eq_false q
      have q3 : x.k = 3 := by rcases HMV.out with h | h | h <;> omega
      have e31 : (x.k == 3) = true := by rw [q3]; rfl
      have e32 : decide (x.k = 3) = true := decide_eq_true q3
      have HF := Lib.hid (show q2 = r by rw [Bool.eq_iff_iff, HR.out, lead3 q3, HQ2.out])
      clear q n2 q3
      have c2 := HS.out.c2
      go_wp2_with fail
      go_at_call 130
      refine (AG.out _).mono ?_
      rintro e u2 ⟨rfl, hk⟩
      replace HK := Lib.hid (HK.out.trans hk)
      clear hk
      go_wp2_with fail
      go_ret
      exact ⟨ret_bool HF.out, HK.out⟩
set_option maxRecDepth 100000 in
set_option maxHeartbeats 8000000 in
theorem plc1_any (f : Fd) (p : ByteArray) (b : Nat) (w : World) (h : Box1 w b (.string p)) (r : Bool) (hr : r = true ↔ f.p = p) :
    Calls Tryz.prog 132 #[.agg #[.string f.p, .int .i64 f.k, .int .i64 f.t, .int .i64 f.vk, .int .i64 f.vn, .string f.vt], .pointer (some ⟨b, 0, none⟩)] w fun e w' => e = .returned (.bool r) ∧ Kept w w' := by
  have hk := (Kept.refl w).alloc #[.string f.p, .int .i64 f.k, .int .i64 f.t, .int .i64 f.vk, .int .i64 f.vn, .string f.vt] 28
  have hv := h.kept hk
  have v0 := hv.c0
  have HB := Lib.hid (FdB.new w f 28)
  have e0 := HB.out.c0
  have HK := Lib.hid hk; have HR := Lib.hid hr
  clear h hk hv hr
  by_cases hq : f.p = p
  · have HF := Lib.hid (show true = r from (HR.out.2 hq).symm)
    have q0 := txt_eq hq
    clear hq
    go_enter Tryz.func132, Tryz.ntmps132
    go_wp2_with fail
    go_ret
    exact ⟨ret_bool HF.out, HK.out⟩
  · have HF := Lib.hid (show false = r by rw [eq_comm, ← Bool.not_eq_true, HR.out]; exact hq)
    have q0 := txt_ne hq
    clear hq
    go_enter Tryz.func132, Tryz.ntmps132
    go_wp2_with fail
    go_ret
    exact ⟨ret_bool HF.out, HK.out⟩
set_option maxRecDepth 100000 in
set_option maxHeartbeats 8000000 in
theorem sidxf_any (A : Option Addr) (n c : Nat) (L : List Fd) (p : ByteArray) (b : Nat) (w : World) (h : Fl w A n c L) (hv : Box1 w b (.string p)) (r : Int) (hr : OneR L p r) :
    Calls Tryz.prog 131 #[.slice A n c, .func (.func 132) #[] #[.pointer (some ⟨b, 0, none⟩)]] w fun e w' => e = .returned (.int .i64 r) ∧ Kept w w' := by
  have hcap := h.cap.1; have hcap2 := h.cap.2
  have HNL := Lib.hid h.1; have HH := Lib.hid h; have HV := Lib.hid hv; have HP := Lib.hid hr
  clear h hv hr
  go_enter Tryz.func131, Tryz.ntmps131
  go_wp2_with fail
  go_loopw [8] (fun i wr => ∃ t : Nat, t ≤ n ∧ i = .int .i64 t ∧ Kept w wr ∧ ∀ x ∈ L.take t, x.p ≠ p) (fun i _ => n - (intOf i).toNat)
  case atStart => exact ⟨0, Nat.zero_le _, rfl, Kept.refl _, fun x hx => by simp at hx⟩
  case round =>
    obtain ⟨t, ht, rfl, hkr, hall⟩ := hrel
    have HKR := Lib.hid hkr; have HA := Lib.hid hall
    clear hkr hall
    by_cases hlt : t < n
    · obtain ⟨g, o, x, rfl, hx, EX⟩ := (HH.out.kept HKR.out).get hlt
      have x0 := EX.c0; have x1 := EX.c1; have x2 := EX.c2; have x3 := EX.c3; have x4 := EX.c4; have x5 := EX.c5
      have HXX := Lib.hid hx
      obtain ⟨z, hz⟩ := bool_of (x.p = p)
      have AC := Lib.hid (plc1_any x p b wr (HV.out.kept HKR.out) z hz)
      have HZ := Lib.hid hz
      clear EX hx hz
      go_wp2_with fail
      clear x0 x1 x2 x3 x4 x5
      go_at_call 132
      refine AC.out.mono ?_
      rintro e w1 ⟨rfl, hk1⟩
      have HK1 := Lib.hid (HKR.out.trans hk1)
      clear hk1
      cases z with
      | true =>
        have HF := Lib.hid (show ((t : Nat) : Int) = r from oneR_one (.inl ⟨t, x, rfl, HXX.out, HZ.out.1 rfl, HA.out⟩) HP.out)
        go_wp2_with fail
        go_ret
        exact ⟨congrArg (fun z => Ending.returned (Value.int IntKind.i64 z)) HF.out, HK1.out⟩
      | false =>
        have HN := Lib.hid (show ∀ y ∈ L.take (t + 1), y.p ≠ p from fun y hy => by
          rw [List.take_add_one, HXX.out, Option.toList_some, List.mem_append, List.mem_singleton] at hy
          rcases hy with hy | rfl
          · exact HA.out y hy
          · exact fun e => by have := HZ.out.2 e; cases this)
        go_wp2_with fail
        go_roundw
        case rel => exact ⟨t + 1, hlt, by go_num, HK1.out, HN.out⟩
        case measure => simp [intOf]; omega
    · obtain rfl : t = n := by omega
      have HF := Lib.hid (show (-1 : Int) = r from oneR_one (.inr ⟨rfl, fun y hy => HA.out y (by rw [List.take_of_length_le (by rw [← HNL.out]; exact Nat.le_refl _)]; exact hy)⟩) HP.out)
      go_wp2_with fail
      go_ret
      exact ⟨congrArg (fun z => Ending.returned (Value.int IntKind.i64 z)) HF.out, HKR.out⟩
set_option maxRecDepth 100000 in
set_option maxHeartbeats 8000000 in
theorem splace_any (AL : Option Addr) (m cL : Nat) (L : List Fd) (A : Option Addr) (n c : Nat) (x : St) (w : World) (hl : Fl w AL m cL L) (hxp : x.p.size ≤ 2000) (r : Int) (hr : OneR L (leafP x) r) :
    Calls Tryz.prog 88 #[.slice AL m cL, .agg (cellS A n c x).toArray] w fun e w' => e = .returned (.int .i64 r) ∧ Kept w w' := by
  have hmf : ∀ (fn : Fn) (first cap : Array Value) (w : World), (Instr.makeFunc fn first cap).run Tryz.prog w = .ok (.func fn first cap) w := fun _ _ _ _ => rfl
  have hk := (Kept.refl w).alloc (cellS A n c x).toArray 33
  have HS := Lib.hid (StB.new w A n c x 33)
  have hlU := hl.kept hk
  obtain ⟨U, hU⟩ : ∃ U, w.alloc (.cells (cellS A n c x).toArray 33) = U := ⟨_, rfl⟩
  rw [hU] at hk HS hlU
  have hz : w.heap.size + 1 = U.heap.size := by rw [← hU]; simp
  have hka0 := (Kept.refl U).alloc #[.string ⟨#[]⟩] 9
  have hb0 := Box1.new U (.string ⟨#[]⟩) 9
  obtain ⟨V0, hV0⟩ : ∃ V, U.alloc (.cells #[.string ⟨#[]⟩] 9) = V := ⟨_, rfl⟩
  rw [hV0] at hka0 hb0
  rw [← hz] at hb0
  have hka := hka0.setCell (a := ⟨w.heap.size + 1, 0, none⟩) (by show U.heap.size ≤ w.heap.size + 1; omega) (.string x.p)
  have hb1 : Box1 (V0.setCell ⟨w.heap.size + 1, 0, none⟩ (.string x.p)) (w.heap.size + 1) (.string x.p) :=
    ⟨World.cell?_setCell_same _ _ _ hb0.c0, fun j => by rw [World.frozen?_setCell]; exact hb0.f j, by have := hb0.lt; simpa [World.setCell] using this⟩
  have hs2 := HS.out.kept hka
  have hl2 := hlU.kept hka
  have hkU := hk.trans hka
  have b0 := hb0.c0; have bf := hb0.f 0
  obtain ⟨V, hV⟩ : ∃ V, V0.setCell ⟨w.heap.size + 1, 0, none⟩ (.string x.p) = V := ⟨_, rfl⟩
  have HV0 := Lib.hid hV0
  rw [hV] at hb1 hs2 hl2 hkU
  have HLW := Lib.hid hl; have HUU := Lib.hid hU; have HVV := Lib.hid hV; have HK := Lib.hid hkU; have HB := Lib.hid hb1; have HS2 := Lib.hid hs2; have HL := Lib.hid hl2; have HR := Lib.hid hr; have HZ := Lib.hid hz
  have c1 := HS.out.c1
  clear hU hV hV0 hk hka hka0 hb0 hb1 hs2 hl2 hkU hl hlU hr hz
  by_cases q : x.k = 7
  · have e71 : (x.k == 7) = true := by rw [q]; rfl
    have e72 : decide (x.k = 7) = true := decide_eq_true q
    have HP := Lib.hid (show leafP x = underB x.p by unfold leafP; rw [if_pos q])
    clear q
    have AB := Lib.hid (fun w => sbelow_any x.p (by omega) w)
    clear hxp
    have s0 := HS2.out.c0; have d0 := HB.out.c0
    go_enter Tryz.func88, Tryz.ntmps88
    go_wp2_with (first | rw [HUU.out] | rw [HV0.out] | rw [← HZ.out] | rw [HVV.out])
    go_at_call 53
    refine (AB.out _).mono ?_
    rintro e u1 ⟨rfl, hk1⟩
    have hb2 := HB.out.kept hk1
    have hl3 := HLW.out.kept ((HK.out.trans hk1).setCell (a := ⟨w.heap.size + 1, 0, none⟩) (Nat.le_add_right _ 1) (.string (underB x.p)))
    have hb3 : Box1 (u1.setCell ⟨w.heap.size + 1, 0, none⟩ (.string (underB x.p))) (w.heap.size + 1) (.string (underB x.p)) :=
      ⟨World.cell?_setCell_same _ _ _ hb2.c0, fun j => by rw [World.frozen?_setCell]; exact hb2.f j, by have := hb2.lt; simpa [World.setCell] using this⟩
    have AC := Lib.hid (sidxf_any AL m cL L (underB x.p) (w.heap.size + 1) _ hl3 hb3 r (by rw [← HP.out]; exact HR.out))
    have HK3 := Lib.hid ((HK.out.trans hk1).setCell (a := ⟨w.heap.size + 1, 0, none⟩) (Nat.le_add_right _ 1) (.string (underB x.p)))
    have t0 := hb2.c0; have tf := hb2.f 0
    clear hk1 hb2 hl3 hb3 c1 s0 d0 b0 bf
    go_wp2_with fail
    go_at_call 131
    refine AC.out.mono ?_
    rintro e u2 ⟨rfl, hk2⟩
    have HK4 := Lib.hid (HK3.out.trans hk2)
    clear hk2 t0 tf
    go_wp2_with fail
    go_ret
    exact ⟨rfl, HK4.out⟩
  · have e71 : (x.k == 7) = false := by simpa using q
    have e72 : decide (x.k = 7) = false := decide_eq_false q
    have HP := Lib.hid (show leafP x = x.p by unfold leafP; rw [if_neg q])
    clear q hxp
    have s0 := HS2.out.c0; have d0 := HB.out.c0
    have AC := Lib.hid (sidxf_any AL m cL L x.p (w.heap.size + 1) _ HL.out HB.out r (by rw [← HP.out]; exact HR.out))
    go_enter Tryz.func88, Tryz.ntmps88
    go_wp2_with (first | rw [HUU.out] | rw [HV0.out] | rw [← HZ.out] | rw [HVV.out])
    go_at_call 131
    refine AC.out.mono ?_
    rintro e u2 ⟨rfl, hk2⟩
    have HK4 := Lib.hid (HK.out.trans hk2)
    clear hk2 s0 d0 c1 b0 bf
    go_wp2_with fail
    go_ret
    exact ⟨rfl, HK4.out⟩
def IdxR (L : List Fd) (f : Fd) (r : Int) : Prop :=
  (∃ t, r = ((t : Nat) : Int) ∧ L[t]? = some f ∧ ∀ y ∈ L.take t, y ≠ f) ∨ (r = -1 ∧ ∀ y ∈ L, y ≠ f)
set_option maxRecDepth 100000 in
set_option maxHeartbeats 8000000 in
theorem sidx_any (A : Option Addr) (n c : Nat) (L : List Fd) (f : Fd) (w : World) (h : Fl w A n c L) :
    Calls Tryz.prog 86 #[.slice A n c, .agg #[.string f.p, .int .i64 f.k, .int .i64 f.t, .int .i64 f.vk, .int .i64 f.vn, .string f.vt]] w fun e w' => ∃ r, e = .returned (.int .i64 r) ∧ IdxR L f r ∧ Kept w w' := by
  have hcap := h.cap.1; have hcap2 := h.cap.2
  have hk := (Kept.refl w).alloc #[.string f.p, .int .i64 f.k, .int .i64 f.t, .int .i64 f.vk, .int .i64 f.vn, .string f.vt] 28
  have HB := Lib.hid (FdB.new w f 28)
  have HNL := Lib.hid h.1; have HH := Lib.hid (h.kept hk); have HK := Lib.hid hk
  clear h hk
  obtain ⟨U, hU⟩ : ∃ U, w.alloc (.cells #[.string f.p, .int .i64 f.k, .int .i64 f.t, .int .i64 f.vk, .int .i64 f.vn, .string f.vt] 28) = U := ⟨_, rfl⟩
  rw [hU] at HB HH HK
  have HUU := Lib.hid hU
  clear hU
  go_enter Tryz.func86, Tryz.ntmps86
  go_wp2_with (rw [HUU.out])
  go_loopw [8] (fun i wr => ∃ t : Nat, t ≤ n ∧ i = .int .i64 t ∧ Kept U wr ∧ ∀ x ∈ L.take t, x ≠ f) (fun i _ => n - (intOf i).toNat)
  case atStart => exact ⟨0, Nat.zero_le _, rfl, Kept.refl _, fun x hx => by simp at hx⟩
  case round =>
    obtain ⟨t, ht, rfl, hkr, hall⟩ := hrel
    have HKR := Lib.hid hkr; have HA := Lib.hid hall
    clear hkr hall
    by_cases hlt : t < n
    · obtain ⟨g, o, x, rfl, hx, EX⟩ := (HH.out.kept HKR.out).get hlt
      have y0 := KExt.cell EX.c0; have y1 := KExt.cell EX.c1; have y2 := KExt.cell EX.c2; have y3 := KExt.cell EX.c3; have y4 := KExt.cell EX.c4; have y5 := KExt.cell EX.c5
      have HBR := Lib.hid (HB.out.kept HKR.out)
      have x0 := KExt.cell HBR.out.c0; have x1 := KExt.cell HBR.out.c1; have x2 := KExt.cell HBR.out.c2; have x3 := KExt.cell HBR.out.c3; have x4 := KExt.cell HBR.out.c4; have x5 := KExt.cell HBR.out.c5
      have HXX := Lib.hid hx
      clear EX hx
      by_cases hq : f = x
      · have HF := Lib.hid (show ∀ w', Kept w w' → ∃ r, Ending.returned (.int .i64 ((t : Nat) : Int)) = .returned (.int .i64 r) ∧ IdxR L f r ∧ Kept w w' from fun w' hk => ⟨_, rfl, .inl ⟨t, rfl, by rw [hq]; exact HXX.out, HA.out⟩, hk⟩)
        obtain ⟨d0, d1, d2, d3, d4, d5⟩ := fd_eq hq
        clear hq
        go_wp2_with fail
        refine region_kept _ (by kernel_rfl) (by kernel_rfl) (Kept.refl _) ?_
        repeat (go_big_quiet_step (fail))
        refine wpQuiet_nil ?_
        intro G
        clear x0 y0 x1 y1 x2 y2 x3 y3 x4 y4 x5 y5
        go_wp2_with fail
        go_ret
        exact HF.out _ ((HK.out.trans HKR.out).trans G.g)
      · have HN := Lib.hid (show ∀ y ∈ L.take (t + 1), y ≠ f from fun y hy => by
          rw [List.take_add_one, HXX.out, Option.toList_some, List.mem_append, List.mem_singleton] at hy
          rcases hy with hy | rfl
          · exact HA.out y hy
          · exact fun e => hq e.symm)
        rcases fd_ne hq with d0 | ⟨d0, d1⟩ | ⟨d0, d1, d2⟩ | ⟨d0, d1, d2, d3⟩ | ⟨d0, d1, d2, d3, d4⟩ | ⟨d0, d1, d2, d3, d4, d5⟩
        all_goals
          clear hq
          go_wp2_with fail
          refine region_kept _ (by kernel_rfl) (by kernel_rfl) (Kept.refl _) ?_
          repeat (go_big_quiet_step (fail))
          refine wpQuiet_nil ?_
          intro G
          clear x0 y0 x1 y1 x2 y2 x3 y3 x4 y4 x5 y5
          go_wp2_with fail
          go_roundw
          case rel => exact ⟨t + 1, hlt, by go_num, HKR.out.trans G.g, HN.out⟩
          case measure => simp [intOf]; omega
    · obtain rfl : t = n := by omega
      have HF := Lib.hid (show ∀ w', Kept w w' → ∃ r, Ending.returned (.int .i64 (-1)) = .returned (.int .i64 r) ∧ IdxR L f r ∧ Kept w w' from fun w' hk => ⟨_, rfl, .inr ⟨rfl, fun y hy => HA.out y (by rw [List.take_of_length_le (by rw [← HNL.out]; exact Nat.le_refl _)]; exact hy)⟩, hk⟩)
      go_wp2_with fail
      go_ret
      exact HF.out _ (HK.out.trans HKR.out)
end Go.Proofs.YtofnpifooaijcaaGreat
