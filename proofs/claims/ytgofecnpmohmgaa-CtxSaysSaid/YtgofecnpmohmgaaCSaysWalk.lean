/-
  What is proved: the Go function CtxSays of layer 6's laws, called with any sets, dots, text and number, returns true, if package ctx keeps the contracts and the laws' helper 'awake' returns true; the world has new blocks at most.
-/
import Derived.Test.YtgofecnpmohmgaaCtxC
import Derived.Test.YtgofecnpmohmgaaCLong
import Derived.Test.YtgofecnpmohmgaaCMost
import Derived.Test.YtgofecnpmohmgaaDSame
import Derived.Test.YtgofecnpmohmgaaPlanE
namespace Go.Proofs.Ytgofecnpmohmgaa
open Go.RowKit

theorem sets_as {S S' : Int × Int → Prop} {V V' : List Int} {C C' : List (Int × Int)} (h : SetC S V C) (h' : SetC S' V' C') (he : ∀ d, S d ↔ S' d) : decide (V = V' ∧ C = C') = true := decide_eq_true (h.same h' he)
structure Three (w : World) (b : Nat) (x0 x1 x2 : Value) : Prop where
  c0 : w.cell? ⟨b, 0, none⟩ = some x0
  c1 : w.cell? ⟨b, 1, none⟩ = some x1
  c2 : w.cell? ⟨b, 2, none⟩ = some x2
theorem Three.new (w : World) (x0 x1 x2 : Value) (t : TypeId) : Three (w.alloc (.cells #[x0, x1, x2] t)) w.heap.size x0 x1 x2 := ⟨(Kept.refl _).box 0 _ rfl, (Kept.refl _).box 1 _ rfl, (Kept.refl _).box 2 _ rfl⟩
theorem rof_as {A : Option Addr} {n c : Nat} {L : List (Int × Int)} {w : World} (h : Dl w A n c L) (hn : n ≤ 10000) :
    Calls Try.prog 12 #[.slice A n c] w (Sets (fun d => rightD d = true ∧ d ∈ L) n w) :=
  (rof_any A n c L w h (by omega)).mono fun _ _ ⟨A1, n1, c1, B1, m1, k1, V1, C1, h1, h2, h3, h4, h5, h6, _⟩ => ⟨A1, n1, c1, B1, m1, k1, V1, C1, h1, h2, h3, ⟨h4.right, fun d => (h4.has d).trans (of_has L d)⟩, by rw [h.1]; exact h5, h6⟩
open Classical in
set_option maxRecDepth 1000000 in
set_option maxHeartbeats 16000000 in
theorem csays_mid (K : CtxC) (HA : AwakeC) (A : Option Addr) (n c : Nat) (V : List Int) (B : Option Addr) (m k : Nat) (C : List (Int × Int)) (A' : Option Addr) (n' c' : Nat) (V' : List Int) (B' : Option Addr) (m' k' : Nat) (C' : List (Int × Int)) (X : Option Addr) (nx cx : Nat) (L : List (Int × Int)) (s : ByteArray) (N : Int) (w : World)
    (hia : Il w A n c V) (hda : Dl w B m k C) (hib : Il w A' n' c' V') (hdb : Dl w B' m' k' C') (hdx : Dl w X nx cx L) (hx : nx ≤ 60) (hs : s.size ≤ 600) (hn : n ≤ 100) (hm : m ≤ 100) :
    Calls Try.prog 3 #[.agg #[.slice A n c, .slice B m k], .agg #[.slice A' n' c', .slice B' m' k'], .agg #[.slice X nx cx, .string s, .int .i64 N]] w fun e w' => e = .returned (.bool true) ∧ Kept w w' := by
  have g0 : decide ((60 : Int) < nx) = false := decide_eq_false (by omega)
  have g0' : decide (60 < nx) = false := decide_eq_false (by omega)
  have g1 : decide ((600 : Int) < s.size) = false := decide_eq_false (by omega)
  have g1' : decide (600 < s.size) = false := decide_eq_false (by omega)
  have g2 : decide ((100 : Int) < n) = false := decide_eq_false (by omega)
  have g2' : decide (100 < n) = false := decide_eq_false (by omega)
  have g3 : decide ((100 : Int) < m) = false := decide_eq_false (by omega)
  have g3' : decide (100 < m) = false := decide_eq_false (by omega)
  have p1 := hia.cap.1; have p2 := hia.cap.2; have p3 := hda.cap.1; have p4 := hda.cap.2; have p5 := hib.cap.1; have p6 := hib.cap.2; have p7 := hdb.cap.1; have p8 := hdb.cap.2; have p9 := hdx.cap.1; have p10 := hdx.cap.2
  have hK : Kept w (((w.alloc (.cells #[.slice A n c, .slice B m k] 25)).alloc (.cells #[.slice A' n' c', .slice B' m' k'] 25)).alloc (.cells #[.slice X nx cx, .string s, .int .i64 N] 27)) := (((Kept.refl w).alloc #[.slice A n c, .slice B m k] 25).alloc #[.slice A' n' c', .slice B' m' k'] 25).alloc #[.slice X nx cx, .string s, .int .i64 N] 27
  have HIa := Lib.hid (hia.kept hK); have HDa := Lib.hid (hda.kept hK); have HIb := Lib.hid (hib.kept hK); have HDb := Lib.hid (hdb.kept hK); have HDx := Lib.hid (hdx.kept hK)
  have HKW := Lib.hid hK
  have ba := Box2.new w (.slice A n c) (.slice B m k) 25 |>.kept (((Kept.refl _).alloc #[.slice A' n' c', .slice B' m' k'] 25).alloc #[.slice X nx cx, .string s, .int .i64 N] 27)
  have bb := Box2.new (w.alloc (.cells #[.slice A n c, .slice B m k] 25)) (.slice A' n' c') (.slice B' m' k') 25 |>.kept ((Kept.refl _).alloc #[.slice X nx cx, .string s, .int .i64 N] 27)
  have bx := Three.new ((w.alloc (.cells #[.slice A n c, .slice B m k] 25)).alloc (.cells #[.slice A' n' c', .slice B' m' k'] 25)) (.slice X nx cx) (.string s) (.int .i64 N) 27
  rw [show (w.alloc (.cells #[.slice A n c, .slice B m k] 25)).heap.size = w.heap.size + 1 by simp] at bb
  rw [show ((w.alloc (.cells #[.slice A n c, .slice B m k] 25)).alloc (.cells #[.slice A' n' c', .slice B' m' k'] 25)).heap.size = w.heap.size + 2 by simp] at bx
  have HBA := Lib.hid ba; have HBB := Lib.hid bb; have HBX := Lib.hid bx
  have HK := Lib.hid K
  have HAW := Lib.hid HA
  obtain ⟨r, hr⟩ : ∃ r : Bool, r = true ↔ RightC V C := ⟨decide (RightC V C), by rw [decide_eq_true_iff]⟩
  have HRR := Lib.hid hr
  have hrr : (r != r) = false := by simp
  have HNa := Lib.hid hia.1; have HMa := Lib.hid hda.1; have HNb := Lib.hid hib.1; have HMb := Lib.hid hdb.1; have HNx := Lib.hid hdx.1
  clear hia hda hib hdb hdx hK ba bb bx K HA hr
  go_enter Try.func3, Try.ntmps3
  go_wp2_with fail
  have a0 := KExt.cell HBA.out.c0; have a1 := KExt.cell HBA.out.c1
  have x0 := KExt.cell HBX.out.c0; have x1 := KExt.cell HBX.out.c1
  refine region_plan (((w.alloc (.cells #[.slice A n c, .slice B m k] 25)).alloc (.cells #[.slice A' n' c', .slice B' m' k'] 25)).alloc (.cells #[.slice X nx cx, .string s, .int .i64 N] 27)) 15 (.read [0, 2] (.one 1 (.one 3 (.read [4, 5, 6, 7, 9, 10] (.one 8 (.one 11 (.one 12 (.read [13, 14] .stop)))))))) (by kernel_rfl) (by as_aux_lemma => kernel_rfl) (by kernel_rfl) (by kernel_rfl) (by as_aux_lemma => kernel_rfl) (fun _ d _ _ _ h => by cases d <;> exact h) (Kept.refl _) ?_
  intro wd hwd
  have HV := Lib.hid hwd
  clear hwd
  rw [wpPlan_read]
  simp only [pickOps_cons, pickOps_nil, consO_some, List.getElem?_cons_zero, List.getElem?_cons_succ]
  repeat (go_big_quiet_step (fail))
  refine wpQuiet_nil ?_
  rw [wpPlan_one]
  simp only [pickOps_cons, pickOps_nil, consO_some, List.getElem?_cons_zero, List.getElem?_cons_succ]
  go_wp2_with (go_at_call 8; refine (HK.out.right A n c V B m k C _ (HIa.out.kept HV.out) (HDa.out.kept HV.out) (by omega) (by omega) r HRR.out).mono ?_; rintro e u1 ⟨rfl, hk⟩)
  replace HV := Lib.hid (HV.out.trans hk)
  clear hk
  refine soloP HV.out ?_
  rw [wpPlan_one]
  simp only [pickOps_cons, pickOps_nil, consO_some, List.getElem?_cons_zero, List.getElem?_cons_succ]
  go_wp2_with (go_at_call 9; refine (rrightC_any A n c V B m k C _ (HIa.out.kept HV.out) (HDa.out.kept HV.out) r HRR.out).mono ?_; rintro e u2 ⟨rfl, hk⟩)
  replace HV := Lib.hid (HV.out.trans hk)
  clear hk
  refine soloP HV.out ?_
  rw [wpPlan_read]
  simp only [pickOps_cons, pickOps_nil, consO_some, List.getElem?_cons_zero, List.getElem?_cons_succ]
  repeat (go_big_quiet_step (fail))
  refine wpQuiet_nil ?_
  rw [wpPlan_one]
  simp only [pickOps_cons, pickOps_nil, consO_some, List.getElem?_cons_zero, List.getElem?_cons_succ]
  go_wp2_with (go_at_call 11; refine (HK.out.of_ X nx cx L _ (HDx.out.kept HV.out) (by omega)).mono ?_; rintro e u3 ⟨A1, n1, c1, B1, m1, k1, V1, C1, rfl, hi, hd, hs, hm, hk⟩)
  have HS1 := Lib.hid hs
  have HI1 := Lib.hid hi
  have HD1 := Lib.hid hd
  clear hi hd hs hm
  replace HV := Lib.hid (HV.out.trans hk)
  clear hk
  refine soloP HV.out ?_
  rw [wpPlan_one]
  simp only [pickOps_cons, pickOps_nil, consO_some, List.getElem?_cons_zero, List.getElem?_cons_succ]
  go_wp2_with (go_at_call 12; refine (rof_as (HDx.out.kept HV.out) (by omega)).mono ?_; rintro e u4 ⟨A2, n2, c2, B2, m2, k2, V2, C2, rfl, hi, hd, hs, hm, hk⟩)
  have HS2 := Lib.hid hs
  have HI2 := Lib.hid hi
  have HD2 := Lib.hid hd
  clear hi hd hs hm
  replace HI1 := Lib.hid (HI1.out.kept hk)
  replace HD1 := Lib.hid (HD1.out.kept hk)
  replace HV := Lib.hid (HV.out.trans hk)
  clear hk
  refine soloP HV.out ?_
  rw [wpPlan_one]
  simp only [pickOps_cons, pickOps_nil, consO_some, List.getElem?_cons_zero, List.getElem?_cons_succ]
  go_wp2_with (go_at_call 10; refine (rsameC_any A1 n1 c1 V1 B1 m1 k1 C1 A2 n2 c2 V2 B2 m2 k2 C2 _ HI1.out HD1.out HI2.out HD2.out true (sets_as HS1.out HS2.out fun d => Iff.rfl)).mono ?_; rintro e u5 ⟨rfl, hk⟩)
  clear HI1 HD1 HI2 HD2
  replace HV := Lib.hid (HV.out.trans hk)
  clear hk
  refine soloP HV.out ?_
  rw [wpPlan_read]
  simp only [pickOps_cons, pickOps_nil, consO_some, List.getElem?_cons_zero, List.getElem?_cons_succ]
  repeat (go_big_quiet_step (fail))
  refine wpQuiet_nil ?_
  refine wpPlan_stop ?_
  clear a0 a1 x0 x1 hrr
  have x1 := (HBX.out.c1 |> HV.out.cell)
  have HT1 := Lib.hid (fun w => HK.out.take s w (by omega))
  have HT2 := Lib.hid (fun w => rtakeC_any s w (by omega))
  go_wp2_with fail
  go_at_call 13
  refine (HT1.out _).mono ?_
  rintro e w3 ⟨A3, n3, c3, B3, m3, k3, V3, C3, r3, z3, rfl, hi, hd, ht3, hk⟩
  have hkb := (Kept.refl w3).alloc #[.slice A3 n3 c3, .slice B3 m3 k3] 25
  have HI3 := Lib.hid (hi.kept hkb)
  have HD3 := Lib.hid (hd.kept hkb)
  have HB3 := Lib.hid (Box2.new w3 (.slice A3 n3 c3) (.slice B3 m3 k3) 25)
  have HTC := Lib.hid ht3
  replace HV := Lib.hid (HV.out.trans (hk.trans hkb))
  clear hi hd hk hkb ht3 x1
  have x1 := (HBX.out.c1 |> HV.out.cell)
  go_wp2_with fail
  go_at_call 14
  refine (HT2.out _).mono ?_
  rintro e w4 ⟨A4, n4, c4, B4, m4, k4, V4, C4, r4, z4, rfl, hi, hd, ht4, hk⟩
  rw [HTC.out] at ht4
  simp only [Prod.mk.injEq] at ht4
  obtain ⟨rfl, rfl, rfl, rfl⟩ := ht4
  have hkb := (Kept.refl w4).alloc #[.slice A4 n4 c4, .slice B4 m4 k4] 25
  have HI4 := Lib.hid (hi.kept hkb)
  have HD4 := Lib.hid (hd.kept hkb)
  replace HI3 := Lib.hid (HI3.out.kept (hk.trans hkb)); replace HD3 := Lib.hid (HD3.out.kept (hk.trans hkb)); replace HB3 := Lib.hid (HB3.out.kept (hk.trans hkb))
  have hb4 := Box2.new w4 (.slice A4 n4 c4) (.slice B4 m4 k4) 25
  replace HV := Lib.hid (HV.out.trans (hk.trans hkb))
  have e0 := HB3.out.c0; have e1 := HB3.out.c1; have f0 := hb4.c0; have f1 := hb4.c1
  have hrs : (r3.toList == r3.toList) = true := by simp
  have hrs2 : (r3.toList != r3.toList) = false := by simp
  have hzs : ((z3 : Int) != (z3 : Int)) = false := by simp
  clear hi hd hk hkb x1 hb4
  go_wp2_with fail
  go_at_call 10
  refine (rsameC_any A3 n3 c3 V3 B3 m3 k3 C3 A4 n4 c4 V3 B4 m4 k4 C3 _ HI3.out HD3.out HI4.out HD4.out true (by simp)).mono ?_
  rintro e w5 ⟨rfl, hk⟩
  replace HV := Lib.hid (HV.out.trans hk)
  clear hk e0 e1 f0 f1 HI3 HD3 HB3 HI4 HD4
  obtain ⟨la, hla⟩ : ∃ la : Bool, la = true ↔ ¬ Short V C n m := ⟨decide (¬ Short V C n m), by rw [decide_eq_true_iff]⟩
  obtain ⟨lb, hlb⟩ : ∃ lb : Bool, lb = true ↔ ¬ Short V' C' n' m' := ⟨decide (¬ Short V' C' n' m'), by rw [decide_eq_true_iff]⟩
  have HLA := Lib.hid (fun (W : World) (h : Kept (((w.alloc (.cells #[.slice A n c, .slice B m k] 25)).alloc (.cells #[.slice A' n' c', .slice B' m' k'] 25)).alloc (.cells #[.slice X nx cx, .string s, .int .i64 N] 27)) W) => long_any A n c V B m k C W (HIa.out.kept h) (HDa.out.kept h) la hla)
  have HLB := Lib.hid (fun (W : World) (h : Kept (((w.alloc (.cells #[.slice A n c, .slice B m k] 25)).alloc (.cells #[.slice A' n' c', .slice B' m' k'] 25)).alloc (.cells #[.slice X nx cx, .string s, .int .i64 N] 27)) W) => long_any A' n' c' V' B' m' k' C' W (HIb.out.kept h) (HDb.out.kept h) lb hlb)
  have a0 := HV.out.cell HBA.out.c0; have a1 := HV.out.cell HBA.out.c1
  cases la
  case' false => have HSa := Lib.hid (show Short V C n m from Classical.byContradiction fun h => absurd (hla.2 h) (by decide))
  all_goals clear hla
  case true =>
    clear hlb
    go_wp2_with fail
    go_at_call 15
    refine (HLA.out _ HV.out).mono ?_
    rintro e w6 ⟨rfl, hk6⟩
    clear a0 a1 hrs hrs2 hzs
    go_wp2_with fail
    go_at_call 7
    refine (HAW.out _).mono ?_
    rintro e w7 ⟨rfl, hk7⟩
    go_wp2_with fail
    go_ret
    exact ⟨rfl, HKW.out.trans (HV.out.trans (hk6.trans hk7))⟩
  go_wp2_with fail
  go_at_call 15
  refine (HLA.out _ HV.out).mono ?_
  rintro e w6 ⟨rfl, hk⟩
  replace HV := Lib.hid (HV.out.trans hk)
  clear hk a0 a1 hrs hrs2 hzs
  have b0 := HV.out.cell HBB.out.c0; have b1 := HV.out.cell HBB.out.c1
  cases lb
  case' false => have HSb := Lib.hid (show Short V' C' n' m' from Classical.byContradiction fun h => absurd (hlb.2 h) (by decide))
  all_goals clear hlb
  case true =>
    go_wp2_with fail
    go_at_call 15
    refine (HLB.out _ HV.out).mono ?_
    rintro e w6 ⟨rfl, hk6⟩
    clear b0 b1
    go_wp2_with fail
    go_at_call 7
    refine (HAW.out _).mono ?_
    rintro e w7 ⟨rfl, hk7⟩
    go_wp2_with fail
    go_ret
    exact ⟨rfl, HKW.out.trans (HV.out.trans (hk6.trans hk7))⟩
  go_wp2_with fail
  go_at_call 15
  refine (HLB.out _ HV.out).mono ?_
  rintro e w7 ⟨rfl, hk⟩
  replace HV := Lib.hid (HV.out.trans hk)
  clear hk b0 b1
  have x0 := (HBX.out.c0 |> HV.out.cell)
  have sn1 : n ≤ 64 := HSa.out.1
  have sm1 : m ≤ 60 := HSa.out.2.1
  have sn2 : n' ≤ 64 := HSb.out.1
  have sm2 : m' ≤ 60 := HSb.out.2.1
  have HRa := Lib.hid HSa.out.2.2
  have HRb := Lib.hid HSb.out.2.2
  clear HLA HLB
  go_wp2_with fail
  clear x0
  go_loopw [92] (fun i wr => ∃ t : Nat, t ≤ nx ∧ i = .int .i64 t ∧ Kept (((w.alloc (.cells #[.slice A n c, .slice B m k] 25)).alloc (.cells #[.slice A' n' c', .slice B' m' k'] 25)).alloc (.cells #[.slice X nx cx, .string s, .int .i64 N] 27)) wr) (fun i _ => nx - (intOf i).toNat)
  case atStart => exact ⟨0, Nat.zero_le _, rfl, HV.out⟩
  case round =>
    clear HV
    obtain ⟨t, ht, rfl, hkr⟩ := hrel
    have HV := Lib.hid hkr
    clear hkr
    by_cases hlt : t < nx
    · obtain ⟨g, o, ⟨y1, y2⟩, rfl, hy, g1, g2⟩ := (HDx.out.kept HV.out).get hlt
      simp only at g1 g2
      obtain ⟨hb, hhb⟩ : ∃ b, decide (hasC V C (y1, y2)) = b := ⟨_, rfl⟩
      have hbb : (hb != hb) = false := by simp
      obtain ⟨mo, hmo⟩ : ∃ mo, mostC V C y1 = mo := ⟨_, rfl⟩
      have hmm : (mo != mo) = false := by simp
      have HQ := Lib.hid (HV.out.trans ((Kept.refl _).alloc #[.int .i64 y1, .int .i64 y2] 36))
      have HM1 := Lib.hid (fun W h => HK.out.most A n c V B m k C y1 W (HIa.out.kept (HQ.out.trans h)) (HDa.out.kept (HQ.out.trans h)) HRa.out)
      have HM2 := Lib.hid (fun W h => rmost_any A n c V B m k C y1 W (HIa.out.kept (HQ.out.trans h)) (HDa.out.kept (HQ.out.trans h)))
      rw [hmo] at HM1 HM2
      have HHB := Lib.hid hhb
      have hbe := Box2.new wr (.int .i64 y1) (.int .i64 y2) 36
      have a0 := KExt.cell (HBA.out.kept HQ.out).c0; have a1 := KExt.cell (HBA.out.kept HQ.out).c1
      have be0 := KExt.cell hbe.c0; have be1 := KExt.cell hbe.c1
      clear hy hbe hhb hmo
      go_wp2_with fail
      refine region_plan (wr.alloc (.cells #[.int .i64 y1, .int .i64 y2] 36)) 28 (.read [0, 1, 3, 4] (.one 2 (.one 5 (.read [6, 7, 8, 9, 11, 12] (.one 10 (.one 13 (.one 14 (.read [15, 16, 17, 18, 19, 20, 22, 23, 24] (.one 21 (.one 25 (.read [26, 27] .stop))))))))))) (by kernel_rfl) (by as_aux_lemma => kernel_rfl) (by kernel_rfl) (by kernel_rfl) (by as_aux_lemma => kernel_rfl) (fun _ d _ _ _ h => by cases d <;> exact h) (Kept.refl _) ?_
      intro wd hwd
      clear HV
      have HV := Lib.hid hwd
      clear hwd
      rw [wpPlan_read]
      simp only [pickOps_cons, pickOps_nil, consO_some, List.getElem?_cons_zero, List.getElem?_cons_succ]
      repeat (go_big_quiet_step (fail))
      refine wpQuiet_nil ?_
      rw [wpPlan_one]
      simp only [pickOps_cons, pickOps_nil, consO_some, List.getElem?_cons_zero, List.getElem?_cons_succ]
      go_wp2_with (go_at_call 16; refine (HK.out.has A n c V B m k C y1 y2 _ (HIa.out.kept (HQ.out.trans HV.out)) (HDa.out.kept (HQ.out.trans HV.out)) HRa.out hb HHB.out).mono ?_; rintro e u6 ⟨rfl, hk⟩)
      replace HV := Lib.hid (HV.out.trans hk)
      clear hk
      refine soloP HV.out ?_
      rw [wpPlan_one]
      simp only [pickOps_cons, pickOps_nil, consO_some, List.getElem?_cons_zero, List.getElem?_cons_succ]
      go_wp2_with (go_at_call 17; refine (rhasC_any A n c V B m k C y1 y2 _ (HIa.out.kept (HQ.out.trans HV.out)) (HDa.out.kept (HQ.out.trans HV.out)) hb HHB.out).mono ?_; rintro e u7 ⟨rfl, hk⟩)
      replace HV := Lib.hid (HV.out.trans hk)
      clear hk
      refine soloP HV.out ?_
      rw [wpPlan_read]
      simp only [pickOps_cons, pickOps_nil, consO_some, List.getElem?_cons_zero, List.getElem?_cons_succ]
      repeat (go_big_quiet_step (fail))
      refine wpQuiet_nil ?_
      rw [wpPlan_one]
      simp only [pickOps_cons, pickOps_nil, consO_some, List.getElem?_cons_zero, List.getElem?_cons_succ]
      go_wp2_with (go_at_call 18; refine (HK.out.add A n c V B m k C y1 y2 _ (HIa.out.kept (HQ.out.trans HV.out)) (HDa.out.kept (HQ.out.trans HV.out)) HRa.out (by omega)).mono ?_; rintro e u8 ⟨A5, n5, c5, B5, m5, k5, V5, C5, rfl, hi, hd, hs, hm, hk⟩)
      have HS5 := Lib.hid hs
      have HI5 := Lib.hid hi
      have HD5 := Lib.hid hd
      clear hi hd hs hm
      replace HV := Lib.hid (HV.out.trans hk)
      clear hk
      refine soloP HV.out ?_
      rw [wpPlan_one]
      simp only [pickOps_cons, pickOps_nil, consO_some, List.getElem?_cons_zero, List.getElem?_cons_succ]
      go_wp2_with (go_at_call 19; refine (radd_any A n c V B m k C y1 y2 _ (HIa.out.kept (HQ.out.trans HV.out)) HRa.out.vec (HDa.out.kept (HQ.out.trans HV.out)) (by omega)).mono ?_; rintro e u9 ⟨A6, n6, c6, B6, m6, k6, V6, C6, rfl, hi, hd, hs, hm, hk, _, _⟩)
      have HS6 := Lib.hid hs
      have HI6 := Lib.hid hi
      have HD6 := Lib.hid hd
      clear hi hd hs hm
      replace HI5 := Lib.hid (HI5.out.kept hk)
      replace HD5 := Lib.hid (HD5.out.kept hk)
      replace HV := Lib.hid (HV.out.trans hk)
      clear hk
      refine soloP HV.out ?_
      rw [wpPlan_one]
      simp only [pickOps_cons, pickOps_nil, consO_some, List.getElem?_cons_zero, List.getElem?_cons_succ]
      go_wp2_with (go_at_call 10; refine (rsameC_any A5 n5 c5 V5 B5 m5 k5 C5 A6 n6 c6 V6 B6 m6 k6 C6 _ HI5.out HD5.out HI6.out HD6.out true (sets_as HS5.out HS6.out fun d => (add_has HRa.out (y1, y2) d).symm)).mono ?_; rintro e u10 ⟨rfl, hk⟩)
      clear HI5 HD5 HI6 HD6
      replace HV := Lib.hid (HV.out.trans hk)
      clear hk
      refine soloP HV.out ?_
      rw [wpPlan_read]
      simp only [pickOps_cons, pickOps_nil, consO_some, List.getElem?_cons_zero, List.getElem?_cons_succ]
      repeat (go_big_quiet_step (fail))
      refine wpQuiet_nil ?_
      rw [wpPlan_one]
      simp only [pickOps_cons, pickOps_nil, consO_some, List.getElem?_cons_zero, List.getElem?_cons_succ]
      go_wp2_with (go_at_call 20; refine (HM1.out _ HV.out).mono ?_; rintro e u11 ⟨rfl, hk⟩)
      replace HV := Lib.hid (HV.out.trans hk)
      clear hk
      refine soloP HV.out ?_
      rw [wpPlan_one]
      simp only [pickOps_cons, pickOps_nil, consO_some, List.getElem?_cons_zero, List.getElem?_cons_succ]
      go_wp2_with (go_at_call 21; refine (HM2.out _ HV.out).mono ?_; rintro e u12 ⟨rfl, hk⟩)
      replace HV := Lib.hid (HV.out.trans hk)
      clear hk
      refine soloP HV.out ?_
      rw [wpPlan_read]
      simp only [pickOps_cons, pickOps_nil, consO_some, List.getElem?_cons_zero, List.getElem?_cons_succ]
      repeat (go_big_quiet_step (fail))
      refine wpQuiet_nil ?_
      refine wpPlan_stop ?_
      clear a0 a1 be0 be1 g1 g2 hbb hmm
      go_wp2_with fail
      go_roundw
      case rel => exact ⟨t + 1, hlt, by go_num, HQ.out.trans HV.out⟩
      case measure => simp [intOf]; omega
    · have a0 := HV.out.cell HBA.out.c0
      have x0 := (HBX.out.c0 |> HV.out.cell)
      go_wp2_with fail
      have hQ := HV.out.trans ((Kept.refl wr).alloc #[.slice A n c, .slice X nx cx] 25)
      have HQ := Lib.hid hQ
      have hbl := Box2.new wr (.slice A n c) (.slice X nx cx) 25
      clear a0 x0 HV
      have l0 := KExt.cell hbl.c0; have l1 := KExt.cell hbl.c1
      have a0 := KExt.cell (HBA.out.kept hQ).c0; have a1 := KExt.cell (HBA.out.kept hQ).c1
      have b0 := KExt.cell (HBB.out.kept hQ).c0; have b1 := KExt.cell (HBB.out.kept hQ).c1
      have x0 := KExt.cell (hQ.cell HBX.out.c0); have x1 := KExt.cell (hQ.cell HBX.out.c1); have x2 := KExt.cell (hQ.cell HBX.out.c2)
      obtain ⟨wi, hwi⟩ : ∃ wi : Bool, wi = true ↔ ∀ d, hasC V C d → hasC V' C' d := ⟨decide (∀ d, hasC V C d → hasC V' C' d), by rw [decide_eq_true_iff]⟩
      have HWI := Lib.hid hwi
      obtain ⟨sm, hsm⟩ : ∃ sm : Bool, decide (V = V' ∧ C = C') = sm := ⟨_, rfl⟩
      have HSM := Lib.hid hsm
      have hww : (wi == wi) = true := by simp
      have hss : (sm == sm) = true := by simp
      obtain ⟨N2, hN2⟩ : ∃ N2, min N 500 = N2 := ⟨_, rfl⟩
      have hN3 : N2 ≤ 500 := by omega
      obtain ⟨D, hD⟩ : ∃ D, (dotsC V C).take N2.toNat = D := ⟨_, rfl⟩
      obtain ⟨md, hmd⟩ : ∃ md, D.length = md := ⟨_, rfl⟩
      have HD1 := Lib.hid (fun W h => HK.out.dots A n c V B m k C N2 W (HIa.out.kept (HQ.out.trans h)) (HDa.out.kept (HQ.out.trans h)) HRa.out (by omega))
      have HD2 := Lib.hid (fun W h => rdots_any A n c V B m k C N2 W (HIa.out.kept (HQ.out.trans h)) HRa.out.vec (HDa.out.kept (HQ.out.trans h)) (by omega))
      rw [hD, hmd] at HD1 HD2
      obtain ⟨P, hP⟩ : ∃ P, putC s V C = P := ⟨_, rfl⟩
      have HP1 := Lib.hid (fun W h => HK.out.put s A n c V B m k C W (HIa.out.kept (HQ.out.trans h)) (HDa.out.kept (HQ.out.trans h)) HRa.out (by omega) (by omega))
      have HP2 := Lib.hid (fun W h => rputC_any s A n c V B m k C W (HIa.out.kept (HQ.out.trans h)) (HDa.out.kept (HQ.out.trans h)) (by omega) (by omega) (by omega) (fun x hx => by have := HRa.out.vec.bd x hx; omega) (fun d hx => by have := rightD_bd (HRa.out.right d hx); omega))
      rw [hP] at HP1 HP2
      have hpp : (P.toList == P.toList) = true := by simp
      clear hQ hbl hwi hsm hD hmd hP
      refine region_plan (wr.alloc (.cells #[.slice A n c, .slice X nx cx] 25)) 60 (.read [0, 2] (.one 1 (.one 3 (.one 4 (.read [5, 6, 7, 9, 10] (.one 8 (.one 11 (.one 12 (.read [13, 14, 15, 16, 18, 19] (.one 17 (.one 20 (.read [21, 22, 23, 24, 25, 27, 28] (.one 26 (.one 29 (.read [30, 31, 32, 33, 34, 35, 38, 39, 40] (.two 36 (.two 37 (.one 41 (.one 42 (.one 43 (.read [44, 45, 46, 47, 48, 50, 51, 52] (.one 49 (.one 53 (.read [54, 55, 56] (.one 57 (.read [58, 59] .stop))))))))) 41 (.one 37 (.one 42 (.one 43 (.read [44, 45, 46, 47, 48, 50, 51, 52] (.one 49 (.one 53 (.read [54, 55, 56] (.one 57 (.read [58, 59] .stop)))))))))) 41 (.one 36 (.one 37 (.one 42 (.one 43 (.read [44, 45, 46, 47, 48, 50, 51, 52] (.one 49 (.one 53 (.read [54, 55, 56] (.one 57 (.read [58, 59] .stop)))))))))))))))))))))))))) (by kernel_rfl) (by as_aux_lemma => kernel_rfl) (by as_aux_lemma => kernel_rfl) (by kernel_rfl) (by as_aux_lemma => kernel_rfl) (fun _ d _ _ _ h => by cases d <;> exact h) (Kept.refl _) ?_
      intro wd hwd
      have HV := Lib.hid hwd
      clear hwd
      rw [wpPlan_read]
      simp only [pickOps_cons, pickOps_nil, consO_some, List.getElem?_cons_zero, List.getElem?_cons_succ]
      repeat (go_big_quiet_step (fail))
      refine wpQuiet_nil ?_
      rw [wpPlan_one]
      simp only [pickOps_cons, pickOps_nil, consO_some, List.getElem?_cons_zero, List.getElem?_cons_succ]
      go_wp2_with (go_at_call 22; refine (HK.out.compact A n c V X nx cx L _ (HIa.out.kept (HQ.out.trans HV.out)) (HDx.out.kept (HQ.out.trans HV.out)) ⟨HRa.out.vec, HRa.out.last, List.Pairwise.nil, (fun d hd => by cases hd), (fun d hd => by cases hd)⟩ (by omega)).mono ?_; rintro e u13 ⟨A7, n7, c7, B7, m7, k7, V7, C7, rfl, hi, hd, hs, hm, hk⟩)
      have HS7 := Lib.hid hs
      have HI7 := Lib.hid hi
      have HD7 := Lib.hid hd
      clear hi hd hs hm
      replace HV := Lib.hid (HV.out.trans hk)
      clear hk
      refine soloP HV.out ?_
      rw [wpPlan_one]
      simp only [pickOps_cons, pickOps_nil, consO_some, List.getElem?_cons_zero, List.getElem?_cons_succ]
      go_wp2_with (go_at_call 23; refine (rcompact_any A n c V X nx cx L _ (HIa.out.kept (HQ.out.trans HV.out)) HRa.out.vec (HDx.out.kept (HQ.out.trans HV.out)) (by omega)).mono ?_; rintro e u14 ⟨A8, n8, c8, B8, m8, k8, V8, C8, rfl, hi, hd, hs, hm, hk, _, _⟩)
      have HS8 := Lib.hid hs
      have HI8 := Lib.hid hi
      have HD8 := Lib.hid hd
      clear hi hd hs hm
      replace HI7 := Lib.hid (HI7.out.kept hk)
      replace HD7 := Lib.hid (HD7.out.kept hk)
      replace HV := Lib.hid (HV.out.trans hk)
      clear hk
      refine soloP HV.out ?_
      rw [wpPlan_one]
      simp only [pickOps_cons, pickOps_nil, consO_some, List.getElem?_cons_zero, List.getElem?_cons_succ]
      go_wp2_with (go_at_call 10; refine (rsameC_any A7 n7 c7 V7 B7 m7 k7 C7 A8 n8 c8 V8 B8 m8 k8 C8 _ HI7.out HD7.out HI8.out HD8.out true (sets_as HS7.out HS8.out fun d => Iff.rfl)).mono ?_; rintro e u15 ⟨rfl, hk⟩)
      clear HI7 HD7 HI8 HD8
      replace HV := Lib.hid (HV.out.trans hk)
      clear hk
      refine soloP HV.out ?_
      rw [wpPlan_read]
      simp only [pickOps_cons, pickOps_nil, consO_some, List.getElem?_cons_zero, List.getElem?_cons_succ]
      repeat (go_big_quiet_step (fail))
      refine wpQuiet_nil ?_
      rw [wpPlan_one]
      simp only [pickOps_cons, pickOps_nil, consO_some, List.getElem?_cons_zero, List.getElem?_cons_succ]
      go_wp2_with (go_at_call 24; refine (HK.out.join A n c V B m k C A' n' c' V' B' m' k' C' _ (HIa.out.kept (HQ.out.trans HV.out)) (HDa.out.kept (HQ.out.trans HV.out)) HRa.out (HIb.out.kept (HQ.out.trans HV.out)) (HDb.out.kept (HQ.out.trans HV.out)) HRb.out (by omega)).mono ?_; rintro e u16 ⟨A9, n9, c9, B9, m9, k9, V9, C9, rfl, hi, hd, hs, hm, hk⟩)
      have HS9 := Lib.hid hs
      have HI9 := Lib.hid hi
      have HD9 := Lib.hid hd
      clear hi hd hs hm
      replace HV := Lib.hid (HV.out.trans hk)
      clear hk
      refine soloP HV.out ?_
      rw [wpPlan_one]
      simp only [pickOps_cons, pickOps_nil, consO_some, List.getElem?_cons_zero, List.getElem?_cons_succ]
      go_wp2_with (go_at_call 25; refine (rjoin_any A n c V B m k C A' n' c' V' B' m' k' C' _ (HIa.out.kept (HQ.out.trans HV.out)) HRa.out.vec (HDa.out.kept (HQ.out.trans HV.out)) (HIb.out.kept (HQ.out.trans HV.out)) HRb.out.vec (HDb.out.kept (HQ.out.trans HV.out)) (by omega)).mono ?_; rintro e u17 ⟨A10, n10, c10, B10, m10, k10, V10, C10, rfl, hi, hd, hs, hm, hk, _, _⟩)
      have HS10 := Lib.hid hs
      have HI10 := Lib.hid hi
      have HD10 := Lib.hid hd
      clear hi hd hs hm
      replace HI9 := Lib.hid (HI9.out.kept hk)
      replace HD9 := Lib.hid (HD9.out.kept hk)
      replace HV := Lib.hid (HV.out.trans hk)
      clear hk
      refine soloP HV.out ?_
      rw [wpPlan_one]
      simp only [pickOps_cons, pickOps_nil, consO_some, List.getElem?_cons_zero, List.getElem?_cons_succ]
      go_wp2_with (go_at_call 10; refine (rsameC_any A9 n9 c9 V9 B9 m9 k9 C9 A10 n10 c10 V10 B10 m10 k10 C10 _ HI9.out HD9.out HI10.out HD10.out true (sets_as HS9.out HS10.out fun d => (join_has HRa.out HRb.out d).symm)).mono ?_; rintro e u18 ⟨rfl, hk⟩)
      clear HI9 HD9 HI10 HD10
      replace HV := Lib.hid (HV.out.trans hk)
      clear hk
      refine soloP HV.out ?_
      rw [wpPlan_read]
      simp only [pickOps_cons, pickOps_nil, consO_some, List.getElem?_cons_zero, List.getElem?_cons_succ]
      repeat (go_big_quiet_step (fail))
      refine wpQuiet_nil ?_
      rw [wpPlan_one]
      simp only [pickOps_cons, pickOps_nil, consO_some, List.getElem?_cons_zero, List.getElem?_cons_succ]
      go_wp2_with (go_at_call 26; refine (HK.out.within A n c V B m k C A' n' c' V' B' m' k' C' _ (HIa.out.kept (HQ.out.trans HV.out)) (HDa.out.kept (HQ.out.trans HV.out)) HRa.out (HIb.out.kept (HQ.out.trans HV.out)) (HDb.out.kept (HQ.out.trans HV.out)) HRb.out (by omega) wi HWI.out).mono ?_; rintro e u19 ⟨rfl, hk⟩)
      replace HV := Lib.hid (HV.out.trans hk)
      clear hk
      refine soloP HV.out ?_
      rw [wpPlan_one]
      simp only [pickOps_cons, pickOps_nil, consO_some, List.getElem?_cons_zero, List.getElem?_cons_succ]
      go_wp2_with (go_at_call 27; refine (rwithin_any A n c V B m k C A' n' c' V' B' m' k' C' _ (HIa.out.kept (HQ.out.trans HV.out)) (HDa.out.kept (HQ.out.trans HV.out)) (HIb.out.kept (HQ.out.trans HV.out)) (HDb.out.kept (HQ.out.trans HV.out)) HRa.out HRb.out (by omega) wi HWI.out).mono ?_; rintro e u20 ⟨rfl, hk⟩)
      replace HV := Lib.hid (HV.out.trans hk)
      clear hk
      refine soloP HV.out ?_
      rw [wpPlan_read]
      simp only [pickOps_cons, pickOps_nil, consO_some, List.getElem?_cons_zero, List.getElem?_cons_succ]
      repeat (go_big_quiet_step (fail))
      refine wpQuiet_nil ?_
      rw [wpPlan_one]
      simp only [pickOps_cons, pickOps_nil, consO_some, List.getElem?_cons_zero, List.getElem?_cons_succ]
      go_wp2_with (go_at_call 28; refine (HK.out.same A n c V B m k C A' n' c' V' B' m' k' C' _ (HIa.out.kept (HQ.out.trans HV.out)) (HDa.out.kept (HQ.out.trans HV.out)) (HIb.out.kept (HQ.out.trans HV.out)) (HDb.out.kept (HQ.out.trans HV.out)) sm HSM.out).mono ?_; rintro e u21 ⟨rfl, hk⟩)
      replace HV := Lib.hid (HV.out.trans hk)
      clear hk
      refine soloP HV.out ?_
      rw [wpPlan_one]
      simp only [pickOps_cons, pickOps_nil, consO_some, List.getElem?_cons_zero, List.getElem?_cons_succ]
      go_wp2_with (go_at_call 10; refine (rsameC_any A n c V B m k C A' n' c' V' B' m' k' C' _ (HIa.out.kept (HQ.out.trans HV.out)) (HDa.out.kept (HQ.out.trans HV.out)) (HIb.out.kept (HQ.out.trans HV.out)) (HDb.out.kept (HQ.out.trans HV.out)) sm HSM.out).mono ?_; rintro e u22 ⟨rfl, hk⟩)
      replace HV := Lib.hid (HV.out.trans hk)
      clear hk
      refine soloP HV.out ?_
      rw [wpPlan_read]
      simp only [pickOps_cons, pickOps_nil, consO_some, List.getElem?_cons_zero, List.getElem?_cons_succ]
      repeat (go_big_quiet_step (fail))
      refine wpQuiet_nil ?_
      rw [wpPlan_two]
      simp only [pickOps_cons, pickOps_nil, consO_some, List.getElem?_cons_zero, List.getElem?_cons_succ]
      constructor
      · go_wp2_with fail
        refine soloP HV.out ?_
        rw [wpPlan_two]
        simp only [pickOps_cons, pickOps_nil, consO_some, List.getElem?_cons_zero, List.getElem?_cons_succ]
        constructor
        · go_wp2_with (go_at_call 30; refine (HD1.out _ HV.out).mono ?_; rintro e v1 ⟨A11, c11, rfl, hd11, hk⟩)
          have HD11 := Lib.hid hd11
          clear hd11
          replace HV := Lib.hid (HV.out.trans hk)
          clear hk
          refine soloP HV.out ?_
          rw [wpPlan_one]
          simp only [pickOps_cons, pickOps_nil, consO_some, List.getElem?_cons_zero, List.getElem?_cons_succ]
          go_wp2_with fail
          refine soloP HV.out ?_
          rw [wpPlan_one]
          simp only [pickOps_cons, pickOps_nil, consO_some, List.getElem?_cons_zero, List.getElem?_cons_succ]
          go_wp2_with (go_at_call 31; refine (HD2.out _ HV.out).mono ?_; rintro e v2 ⟨A12, c12, rfl, hd12, hk⟩)
          have HD12 := Lib.hid hd12
          replace HD11 := Lib.hid (HD11.out.kept hk)
          clear hd12
          replace HV := Lib.hid (HV.out.trans hk)
          clear hk
          refine soloP HV.out ?_
          rw [wpPlan_one]
          simp only [pickOps_cons, pickOps_nil, consO_some, List.getElem?_cons_zero, List.getElem?_cons_succ]
          go_wp2_with (go_at_call 29; refine (same_yes A11 A12 c11 c12 md D _ HD11.out HD12.out).mono ?_; rintro e u23 ⟨rfl, hk⟩)
          clear HD11 HD12
          replace HV := Lib.hid (HV.out.trans hk)
          clear hk
          refine soloP HV.out ?_
          rw [wpPlan_read]
          simp only [pickOps_cons, pickOps_nil, consO_some, List.getElem?_cons_zero, List.getElem?_cons_succ]
          repeat (go_big_quiet_step (fail))
          refine wpQuiet_nil ?_
          rw [wpPlan_one]
          simp only [pickOps_cons, pickOps_nil, consO_some, List.getElem?_cons_zero, List.getElem?_cons_succ]
          go_wp2_with (go_at_call 32; refine (HP1.out _ HV.out).mono ?_; rintro e u24 ⟨rfl, hk⟩)
          replace HV := Lib.hid (HV.out.trans hk)
          clear hk
          refine soloP HV.out ?_
          rw [wpPlan_one]
          simp only [pickOps_cons, pickOps_nil, consO_some, List.getElem?_cons_zero, List.getElem?_cons_succ]
          go_wp2_with (go_at_call 33; refine (HP2.out _ HV.out).mono ?_; rintro e u25 ⟨rfl, hk⟩)
          replace HV := Lib.hid (HV.out.trans hk)
          clear hk
          refine soloP HV.out ?_
          rw [wpPlan_read]
          simp only [pickOps_cons, pickOps_nil, consO_some, List.getElem?_cons_zero, List.getElem?_cons_succ]
          repeat (go_big_quiet_step (fail))
          refine wpQuiet_nil ?_
          rw [wpPlan_one]
          simp only [pickOps_cons, pickOps_nil, consO_some, List.getElem?_cons_zero, List.getElem?_cons_succ]
          go_wp2_with (go_at_call 7; refine (HAW.out _).mono ?_; rintro e u26 ⟨rfl, hk⟩)
          replace HV := Lib.hid (HV.out.trans hk)
          clear hk
          refine soloP HV.out ?_
          rw [wpPlan_read]
          simp only [pickOps_cons, pickOps_nil, consO_some, List.getElem?_cons_zero, List.getElem?_cons_succ]
          repeat (go_big_quiet_step (fail))
          refine wpQuiet_nil ?_
          refine wpPlan_stop ?_
          clear a0 a1 b0 b1 x0 x1 x2 l0 l1 hww hss hpp hN2
          go_wp2_with fail
          go_ret
          exact ⟨rfl, HKW.out.trans (HQ.out.trans HV.out)⟩
        · go_wp2_with fail
          refine soloP HV.out ?_
          rw [wpPlan_one]
          simp only [pickOps_cons, pickOps_nil, consO_some, List.getElem?_cons_zero, List.getElem?_cons_succ]
          go_wp2_with (go_at_call 30; refine (HD1.out _ HV.out).mono ?_; rintro e v1 ⟨A11, c11, rfl, hd11, hk⟩)
          have HD11 := Lib.hid hd11
          clear hd11
          replace HV := Lib.hid (HV.out.trans hk)
          clear hk
          refine soloP HV.out ?_
          rw [wpPlan_one]
          simp only [pickOps_cons, pickOps_nil, consO_some, List.getElem?_cons_zero, List.getElem?_cons_succ]
          go_wp2_with (go_at_call 31; refine (HD2.out _ HV.out).mono ?_; rintro e v2 ⟨A12, c12, rfl, hd12, hk⟩)
          have HD12 := Lib.hid hd12
          replace HD11 := Lib.hid (HD11.out.kept hk)
          clear hd12
          replace HV := Lib.hid (HV.out.trans hk)
          clear hk
          refine soloP HV.out ?_
          rw [wpPlan_one]
          simp only [pickOps_cons, pickOps_nil, consO_some, List.getElem?_cons_zero, List.getElem?_cons_succ]
          go_wp2_with (go_at_call 29; refine (same_yes A11 A12 c11 c12 md D _ HD11.out HD12.out).mono ?_; rintro e u23 ⟨rfl, hk⟩)
          clear HD11 HD12
          replace HV := Lib.hid (HV.out.trans hk)
          clear hk
          refine soloP HV.out ?_
          rw [wpPlan_read]
          simp only [pickOps_cons, pickOps_nil, consO_some, List.getElem?_cons_zero, List.getElem?_cons_succ]
          repeat (go_big_quiet_step (fail))
          refine wpQuiet_nil ?_
          rw [wpPlan_one]
          simp only [pickOps_cons, pickOps_nil, consO_some, List.getElem?_cons_zero, List.getElem?_cons_succ]
          go_wp2_with (go_at_call 32; refine (HP1.out _ HV.out).mono ?_; rintro e u24 ⟨rfl, hk⟩)
          replace HV := Lib.hid (HV.out.trans hk)
          clear hk
          refine soloP HV.out ?_
          rw [wpPlan_one]
          simp only [pickOps_cons, pickOps_nil, consO_some, List.getElem?_cons_zero, List.getElem?_cons_succ]
          go_wp2_with (go_at_call 33; refine (HP2.out _ HV.out).mono ?_; rintro e u25 ⟨rfl, hk⟩)
          replace HV := Lib.hid (HV.out.trans hk)
          clear hk
          refine soloP HV.out ?_
          rw [wpPlan_read]
          simp only [pickOps_cons, pickOps_nil, consO_some, List.getElem?_cons_zero, List.getElem?_cons_succ]
          repeat (go_big_quiet_step (fail))
          refine wpQuiet_nil ?_
          rw [wpPlan_one]
          simp only [pickOps_cons, pickOps_nil, consO_some, List.getElem?_cons_zero, List.getElem?_cons_succ]
          go_wp2_with (go_at_call 7; refine (HAW.out _).mono ?_; rintro e u26 ⟨rfl, hk⟩)
          replace HV := Lib.hid (HV.out.trans hk)
          clear hk
          refine soloP HV.out ?_
          rw [wpPlan_read]
          simp only [pickOps_cons, pickOps_nil, consO_some, List.getElem?_cons_zero, List.getElem?_cons_succ]
          repeat (go_big_quiet_step (fail))
          refine wpQuiet_nil ?_
          refine wpPlan_stop ?_
          clear a0 a1 b0 b1 x0 x1 x2 l0 l1 hww hss hpp hN2
          go_wp2_with fail
          go_ret
          exact ⟨rfl, HKW.out.trans (HQ.out.trans HV.out)⟩
      · go_wp2_with fail
        refine soloP HV.out ?_
        rw [wpPlan_one]
        simp only [pickOps_cons, pickOps_nil, consO_some, List.getElem?_cons_zero, List.getElem?_cons_succ]
        go_wp2_with fail
        refine soloP HV.out ?_
        rw [wpPlan_one]
        simp only [pickOps_cons, pickOps_nil, consO_some, List.getElem?_cons_zero, List.getElem?_cons_succ]
        go_wp2_with (go_at_call 30; refine (HD1.out _ HV.out).mono ?_; rintro e v1 ⟨A11, c11, rfl, hd11, hk⟩)
        have HD11 := Lib.hid hd11
        clear hd11
        replace HV := Lib.hid (HV.out.trans hk)
        clear hk
        refine soloP HV.out ?_
        rw [wpPlan_one]
        simp only [pickOps_cons, pickOps_nil, consO_some, List.getElem?_cons_zero, List.getElem?_cons_succ]
        go_wp2_with (go_at_call 31; refine (HD2.out _ HV.out).mono ?_; rintro e v2 ⟨A12, c12, rfl, hd12, hk⟩)
        have HD12 := Lib.hid hd12
        replace HD11 := Lib.hid (HD11.out.kept hk)
        clear hd12
        replace HV := Lib.hid (HV.out.trans hk)
        clear hk
        refine soloP HV.out ?_
        rw [wpPlan_one]
        simp only [pickOps_cons, pickOps_nil, consO_some, List.getElem?_cons_zero, List.getElem?_cons_succ]
        go_wp2_with (go_at_call 29; refine (same_yes A11 A12 c11 c12 md D _ HD11.out HD12.out).mono ?_; rintro e u23 ⟨rfl, hk⟩)
        clear HD11 HD12
        replace HV := Lib.hid (HV.out.trans hk)
        clear hk
        refine soloP HV.out ?_
        rw [wpPlan_read]
        simp only [pickOps_cons, pickOps_nil, consO_some, List.getElem?_cons_zero, List.getElem?_cons_succ]
        repeat (go_big_quiet_step (fail))
        refine wpQuiet_nil ?_
        rw [wpPlan_one]
        simp only [pickOps_cons, pickOps_nil, consO_some, List.getElem?_cons_zero, List.getElem?_cons_succ]
        go_wp2_with (go_at_call 32; refine (HP1.out _ HV.out).mono ?_; rintro e u24 ⟨rfl, hk⟩)
        replace HV := Lib.hid (HV.out.trans hk)
        clear hk
        refine soloP HV.out ?_
        rw [wpPlan_one]
        simp only [pickOps_cons, pickOps_nil, consO_some, List.getElem?_cons_zero, List.getElem?_cons_succ]
        go_wp2_with (go_at_call 33; refine (HP2.out _ HV.out).mono ?_; rintro e u25 ⟨rfl, hk⟩)
        replace HV := Lib.hid (HV.out.trans hk)
        clear hk
        refine soloP HV.out ?_
        rw [wpPlan_read]
        simp only [pickOps_cons, pickOps_nil, consO_some, List.getElem?_cons_zero, List.getElem?_cons_succ]
        repeat (go_big_quiet_step (fail))
        refine wpQuiet_nil ?_
        rw [wpPlan_one]
        simp only [pickOps_cons, pickOps_nil, consO_some, List.getElem?_cons_zero, List.getElem?_cons_succ]
        go_wp2_with (go_at_call 7; refine (HAW.out _).mono ?_; rintro e u26 ⟨rfl, hk⟩)
        replace HV := Lib.hid (HV.out.trans hk)
        clear hk
        refine soloP HV.out ?_
        rw [wpPlan_read]
        simp only [pickOps_cons, pickOps_nil, consO_some, List.getElem?_cons_zero, List.getElem?_cons_succ]
        repeat (go_big_quiet_step (fail))
        refine wpQuiet_nil ?_
        refine wpPlan_stop ?_
        clear a0 a1 b0 b1 x0 x1 x2 l0 l1 hww hss hpp hN2
        go_wp2_with fail
        go_ret
        exact ⟨rfl, HKW.out.trans (HQ.out.trans HV.out)⟩

set_option maxRecDepth 1000000 in
set_option maxHeartbeats 2000000 in
theorem csays_big (HA : AwakeC) (A : Option Addr) (n c : Nat) (B : Option Addr) (m k : Nat) (A' : Option Addr) (n' c' : Nat) (B' : Option Addr) (m' k' : Nat) (X : Option Addr) (nx cx : Nat) (s : ByteArray) (N : Int) (w : World) (h1 : n ≤ 9223372036854775807) (h2 : m ≤ 9223372036854775807) (h3 : nx ≤ 9223372036854775807) (h4 : s.size ≤ 9223372036854775807)
    (hb : 60 < nx ∨ 600 < s.size ∨ 100 < n ∨ 100 < m) :
    Calls Try.prog 3 #[.agg #[.slice A n c, .slice B m k], .agg #[.slice A' n' c', .slice B' m' k'], .agg #[.slice X nx cx, .string s, .int .i64 N]] w fun e w' => e = .returned (.bool true) ∧ Kept w w' := by
  have hK := (((Kept.refl w).alloc #[.slice A n c, .slice B m k] 25).alloc #[.slice A' n' c', .slice B' m' k'] 25).alloc #[.slice X nx cx, .string s, .int .i64 N] 27
  have HK := Lib.hid hK
  have HAW := Lib.hid HA
  clear hK HA
  by_cases f0 : 60 < nx
  · have g0 : decide ((60 : Int) < nx) = true := decide_eq_true (by omega)
    have g0' : decide (60 < nx) = true := decide_eq_true (by omega)
    clear hb f0
    go_enter Try.func3, Try.ntmps3
    go_wp2_with fail
    go_at_call 7
    refine (HAW.out _).mono ?_
    rintro e w7 ⟨rfl, hk7⟩
    go_wp2_with fail
    go_ret
    exact ⟨rfl, HK.out.trans hk7⟩
  · by_cases f1 : 600 < s.size
    · have g0 : decide ((60 : Int) < nx) = false := decide_eq_false (by omega)
      have g0' : decide (60 < nx) = false := decide_eq_false (by omega)
      have g1 : decide ((600 : Int) < s.size) = true := decide_eq_true (by omega)
      have g1' : decide (600 < s.size) = true := decide_eq_true (by omega)
      clear hb f0 f1
      go_enter Try.func3, Try.ntmps3
      go_wp2_with fail
      go_at_call 7
      refine (HAW.out _).mono ?_
      rintro e w7 ⟨rfl, hk7⟩
      go_wp2_with fail
      go_ret
      exact ⟨rfl, HK.out.trans hk7⟩
    · by_cases f2 : 100 < n
      · have g0 : decide ((60 : Int) < nx) = false := decide_eq_false (by omega)
        have g0' : decide (60 < nx) = false := decide_eq_false (by omega)
        have g1 : decide ((600 : Int) < s.size) = false := decide_eq_false (by omega)
        have g1' : decide (600 < s.size) = false := decide_eq_false (by omega)
        have g2 : decide ((100 : Int) < n) = true := decide_eq_true (by omega)
        have g2' : decide (100 < n) = true := decide_eq_true (by omega)
        clear hb f0 f1 f2
        go_enter Try.func3, Try.ntmps3
        go_wp2_with fail
        go_at_call 7
        refine (HAW.out _).mono ?_
        rintro e w7 ⟨rfl, hk7⟩
        go_wp2_with fail
        go_ret
        exact ⟨rfl, HK.out.trans hk7⟩
      · have g0 : decide ((60 : Int) < nx) = false := decide_eq_false (by omega)
        have g0' : decide (60 < nx) = false := decide_eq_false (by omega)
        have g1 : decide ((600 : Int) < s.size) = false := decide_eq_false (by omega)
        have g1' : decide (600 < s.size) = false := decide_eq_false (by omega)
        have g2 : decide ((100 : Int) < n) = false := decide_eq_false (by omega)
        have g2' : decide (100 < n) = false := decide_eq_false (by omega)
        have g3 : decide ((100 : Int) < m) = true := decide_eq_true (by omega)
        have g3' : decide (100 < m) = true := decide_eq_true (by omega)
        clear hb f0 f1 f2
        go_enter Try.func3, Try.ntmps3
        go_wp2_with fail
        go_at_call 7
        refine (HAW.out _).mono ?_
        rintro e w7 ⟨rfl, hk7⟩
        go_wp2_with fail
        go_ret
        exact ⟨rfl, HK.out.trans hk7⟩
end Go.Proofs.Ytgofecnpmohmgaa
