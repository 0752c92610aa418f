/-
  What is proved: package schema's Text of layer 11 (P11.9), called with any schema of bounded lengths where its tables read as their initialisers lay them, returns what that says; the world has new blocks at most.
  the document's Same of layer 11 (P11.8), called with any two schemas that lie in memory, tells whether they are the same; the world has new blocks at most.
  slices.Equal at fields, and package schema's Same of layer 11 (P11.8), called with any two schemas that lie in memory, tell whether they are the same; the world has new blocks at most.
  nothing of its own: package schema's functions, all of them, for what calls them.
  plain facts on the two schemas of the example that layer 11's laws answer: one is right and is found in, put, taken, told and made again as it should; the other is not right, and is taken with its error.
-/
import Derived.Test.YtjieofiaoepccaaGreatDoorM24
import Derived.Test.YtjieofiaoepccaaGreatDoorM23
import Derived.Test.YtjieofiaoepccaaGreatDoorM9
import Derived.Test.YtjieofiaoepccaaGreatDoorM7
import Derived.Test.YtjieofiaoepccaaGreatDoorM19
import Derived.Test.YtjieofiaoepccaaGreatDoorM20
import Derived.Test.YtjieofiaoepccaaGreatDoorM21
import Derived.Test.YtjieofiaoepccaaGreatDoorM22
namespace Go.Proofs.YtjieofiaoepccaaGreatDoor
open Go.RowKit
set_option linter.unusedVariables false
/-- What the walks read of the variables. -/
structure LaidF (w : World) : Prop where
  laid : LaidW w
  k0 : w.cell? ⟨0, 0, none⟩ = some (.string ⟨#[63]⟩)
  k1 : w.cell? ⟨0, 1, none⟩ = some (.string ⟨#[114, 101, 103]⟩)
  k2 : w.cell? ⟨0, 2, none⟩ = some (.string ⟨#[115, 101, 116]⟩)
  k3 : w.cell? ⟨0, 3, none⟩ = some (.string ⟨#[99, 116, 114]⟩)
  t0 : w.cell? ⟨1, 0, none⟩ = some (.string ⟨#[63]⟩)
  t1 : w.cell? ⟨1, 1, none⟩ = some (.string ⟨#[105, 110, 116]⟩)
  t2 : w.cell? ⟨1, 2, none⟩ = some (.string ⟨#[116, 101, 120, 116]⟩)
  t3 : w.cell? ⟨1, 3, none⟩ = some (.string ⟨#[98, 111, 111, 108]⟩)
theorem LaidF.kept {w w' : World} (h : LaidF w) (hg : Kept w w') : LaidF w' :=
  ⟨h.laid.kept hg, hg.cell h.k0, hg.cell h.k1, hg.cell h.k2, hg.cell h.k3, hg.cell h.t0, hg.cell h.t1, hg.cell h.t2, hg.cell h.t3⟩
theorem LaidF.kind {w : World} (h : LaidF w) {k : Int} {m : Nat} (hm : k % 4 = (m : Int)) : w.cell? ⟨0, m, none⟩ = some (.string (kindT k)) := by
  unfold kindT
  have : m < 4 := by omega
  match m, hm, this with
  | 0, hm, _ => rw [if_neg (by omega), if_neg (by omega), if_neg (by omega)]; exact h.k0
  | 1, hm, _ => rw [if_pos (by omega)]; exact h.k1
  | 2, hm, _ => rw [if_neg (by omega), if_pos (by omega)]; exact h.k2
  | 3, hm, _ => rw [if_neg (by omega), if_neg (by omega), if_pos (by omega)]; exact h.k3
theorem LaidF.type {w : World} (h : LaidF w) {k : Int} {m : Nat} (hm : k % 4 = (m : Int)) : w.cell? ⟨1, m, none⟩ = some (.string (typeT k)) := by
  unfold typeT
  have : m < 4 := by omega
  match m, hm, this with
  | 0, hm, _ => rw [if_neg (by omega), if_neg (by omega), if_neg (by omega)]; exact h.t0
  | 1, hm, _ => rw [if_pos (by omega)]; exact h.t1
  | 2, hm, _ => rw [if_neg (by omega), if_pos (by omega)]; exact h.t2
  | 3, hm, _ => rw [if_neg (by omega), if_neg (by omega), if_pos (by omega)]; exact h.t3
theorem kindT_size (k : Int) : (kindT k).size ≤ 4 := by
  unfold kindT
  repeat' split
  all_goals decide
theorem typeT_size (k : Int) : (typeT k).size ≤ 4 := by
  unfold typeT
  repeat' split
  all_goals decide
/-- How a field is told. -/
def wordsL (x : Fd) : List ByteArray := [x.p, kindT x.k, typeT x.t] ++ (if x.k = 1 then [textV x.vk x.vn x.vt] else [])
def joinW (x : Fd) : ByteArray := ⟨(Lib.join ((wordsL x).map (·.data.toList)) (⟨#[32]⟩ : ByteArray).data.toList).toArray⟩
theorem joinW_line (x : Fd) : joinW x ++ ⟨#[10]⟩ = lineF x := by
  refine ba_ext ?_
  unfold joinW wordsL lineF
  by_cases h : x.k = 1
  · rw [if_pos h, if_pos h]
    simp [Lib.join, List.intercalate, ByteArray.data_append]
  · rw [if_neg h, if_neg h]
    simp [Lib.join, List.intercalate, ByteArray.data_append]
def WordsS (x : Fd) (w : World) (e : Ending) (w' : World) : Prop := ∃ g c, e = .returned (.slice (some ⟨g, 0, none⟩) (wordsL x).length c) ∧ L4.Sl w' ⟨g, 0, none⟩ (wordsL x).length c (wordsL x) ∧ Kept w w'
theorem own_three (w : World) (a b c : ByteArray) (base : Nat) (h : base ≤ w.heap.size) : (w.alloc (.cells #[.string a, .string b, .string c] 9)).ownsRow base 9 1 (.slice (some ⟨w.heap.size, 0, none⟩) 3 3) 3 ([a, b, c].map L4.strV) :=
  ⟨rfl, .inr ⟨w.heap.size, 3, _, rfl, h, heap_alloc_new w _, Nat.le_refl _, by simp [maxLen], rfl, rfl⟩⟩
set_option maxRecDepth 100000 in
set_option maxHeartbeats 8000000 in
theorem words_any (x : Fd) (w : World) (h : FdS x) (hl : LaidF w) : Calls Tryz.prog 50 #[.agg #[.string x.p, .int .i64 x.k, .int .i64 x.t, .int .i64 x.vk, .int .i64 x.vn, .string x.vt]] w (WordsS x w) := by
  have hand1 := i64_and3 x.k; have hand2 := i64_and3 x.t
  obtain ⟨m1, hm1, hm14⟩ : ∃ m : Nat, x.k % 4 = (m : Int) ∧ m < 4 := ⟨(x.k % 4).toNat, by omega, by omega⟩
  obtain ⟨m2, hm2, hm24⟩ : ∃ m : Nat, x.t % 4 = (m : Int) ∧ m < 4 := ⟨(x.t % 4).toNat, by omega, by omega⟩
  have hka := (Kept.refl w).alloc #[.string x.p, .int .i64 x.k, .int .i64 x.t, .int .i64 x.vk, .int .i64 x.vn, .string x.vt] 30
  have HE := Lib.hid (FdB.new w x 30)
  obtain ⟨kx, hkx⟩ : ∃ kx, kindT x.k = kx := ⟨_, rfl⟩
  obtain ⟨tx, htx⟩ : ∃ tx, typeT x.t = tx := ⟨_, rfl⟩
  obtain ⟨vx, hvx⟩ : ∃ vx, textV x.vk x.vn x.vt = vx := ⟨_, rfl⟩
  have hl1 := hl.kept hka
  have hck := hl1.kind hm1; have hct := hl1.type hm2
  have HL := Lib.hid hl1
  obtain ⟨W1, hW1⟩ : ∃ W1, w.alloc (.cells #[.string x.p, .int .i64 x.k, .int .i64 x.t, .int .i64 x.vk, .int .i64 x.vn, .string x.vt] 30) = W1 := ⟨_, rfl⟩
  rw [hW1] at HE hka hck hct HL
  have HW1 := Lib.hid hW1; have HKA := Lib.hid hka
  rw [hm1] at hand1
  rw [hm2] at hand2
  rw [hkx] at hck
  rw [htx] at hct
  have q2 := h.vt
  have AT := Lib.hid (fun w hl => vtext_any x.vk x.vn x.vt w h.lo h.hi (by omega) hl)
  rw [hvx] at AT
  have HWL := Lib.hid (show wordsL x = [x.p, kx, tx] ++ (if x.k = 1 then [vx] else []) by unfold wordsL; rw [hkx, htx, hvx])
  have ck := KExt.cell hck; have ct := KExt.cell hct
  clear h hl hl1 hck hct hW1 hka hm1 hm2 hkx htx hvx q2
  go_enter Tryz.func50, Tryz.ntmps50
  go_wp2_with fail
  rw [HW1.out]
  have c0 := KExt.cell HE.out.c0; have c1 := KExt.cell HE.out.c1; have c2 := KExt.cell HE.out.c2
  refine region_plan W1 14 (.read [0, 1, 2, 3, 4, 5, 6, 7, 8, 9, 10, 11] (.one 12 (.read [13] .stop))) (by kernel_rfl) (by kernel_rfl) (by kernel_rfl) (by kernel_rfl) (by kernel_rfl) (fun _ d _ _ _ h => by cases d <;> exact h) (Kept.refl _) ?_
  intro wd hwd
  have HV := Lib.hid hwd
  clear hwd
  rw [wpPlan_read]
  simp only [pickOps_cons, pickOps_nil, consO_some, List.getElem?_cons_zero, List.getElem?_cons_succ]
  repeat (go_big_quiet_step (fail))
  refine wpQuiet_nil ?_
  rw [wpPlan_one]
  simp only [pickOps_cons, pickOps_nil, consO_some, List.getElem?_cons_zero, List.getElem?_cons_succ]
  go_wp2_with fail
  have HV2 := Lib.hid (HV.out.alloc #[.string x.p, .string kx, .string tx] 9)
  refine soloP HV2.out ?_
  rw [wpPlan_read]
  simp only [pickOps_cons, pickOps_nil, consO_some, List.getElem?_cons_zero, List.getElem?_cons_succ]
  repeat (go_big_quiet_step (fail))
  refine wpQuiet_nil ?_
  refine wpPlan_stop ?_
  clear c0 c1 c2 ck ct
  have HOW := Lib.hid (own_three wd x.p kx tx w.heap.size (Nat.le_trans HKA.out.2.2 HV.out.2.2))
  obtain ⟨W2, hW2⟩ : ∃ W2, wd.alloc (.cells #[.string x.p, .string kx, .string tx] 9) = W2 := ⟨_, rfl⟩
  obtain ⟨g0, hg0⟩ : ∃ g0, wd.heap.size = g0 := ⟨_, rfl⟩
  rw [hW2] at HOW HV2 ⊢
  rw [hg0] at HOW ⊢
  have hE := HE.out.kept HV2.out
  have y1 := hE.c1; have y3 := hE.c3; have y4 := hE.c4; have y5 := hE.c5
  have HLL := Lib.hid (HL.out.kept HV2.out)
  clear hE hW2 hg0
  by_cases h1 : x.k = 1
  · have e1 : (x.k == 1) = true := beq_iff_eq.2 h1
    have HWW := Lib.hid (show wordsL x = [x.p, kx, tx] ++ [vx] by rw [HWL.out, if_pos h1])
    clear h1
    go_wp2_with fail
    go_at_call 75
    refine (AT.out _ HLL.out.laid).mono ?_
    rintro e w4 ⟨rfl, hk4⟩
    have HK4 := Lib.hid hk4
    have hk5 := (Kept.refl w4).alloc #[.string vx] 9
    obtain ⟨v6, w6, hr6, ho6, hg6, _⟩ := L4.app_src (w4.alloc (.cells #[.string vx] 9)) w.heap.size _ 3 _ (own_kept (own_kept HOW.out hk4) hk5) (some ⟨w4.heap.size, 0, none⟩) 1 1 [vx] (.inr ⟨_, rfl, rfl, Nat.le_refl _, by simp [maxLen], by simp, fun j y hj => by
      match j, hj with
      | 0, hj =>
        obtain rfl : vx = y := by simpa using hj
        rw [Addr.add_lit]
        exact (Kept.refl _).box 0 _ rfl
      | j + 1, hj => simp at hj⟩) (by omega) (by have := (HKA.out.trans (HV2.out.trans (hk4.trans hk5))).2.2; exact this)
    have HR6 := Lib.hid hr6
    have HK6 := Lib.hid (kept_grown (HKA.out.trans (HV2.out.trans (hk4.trans hk5))) hg6 (fun k hk => (HOW.out.lt k hk).1))
    have HO6 := Lib.hid (show w6.ownsRow w.heap.size 9 1 v6 4 ((wordsL x).map L4.strV) by rw [HWW.out, List.map_append]; exact ho6)
    clear hk4 hk5 hr6 ho6 hg6 y1 y3 y4 y5
    go_wp2_with (at_builtin; refine Lib.wpList_append_run _ rfl _ _ _ _ rfl _ _ rfl rfl _ _ HR6.out ?_)
    go_ret
    obtain ⟨g, c, rfl, _, hs⟩ := L4.Sl.of_own HO6.out (by omega)
    have hz : (wordsL x).length = 4 := by rw [HWW.out]; rfl
    exact ⟨g, c, by rw [hz]; rfl, by rw [hz]; exact hs, HK6.out⟩
  · have e1 : (x.k == 1) = false := by simpa using h1
    have HWW := Lib.hid (show wordsL x = [x.p, kx, tx] by rw [HWL.out, if_neg h1]; rfl)
    clear h1
    go_wp2_with fail
    go_ret
    obtain ⟨g, c, hv, _, hs⟩ := L4.Sl.of_own HOW.out (by omega)
    have hz : (wordsL x).length = 3 := by rw [HWW.out]; rfl
    exact ⟨g, c, by rw [hz, ← hv]; rfl, by rw [hz, HWW.out]; exact hs, HKA.out.trans HV2.out⟩
theorem joi_any (x : Fd) (h : FdS x) (g c : Nat) (w : World) (hs : L4.Sl w ⟨g, 0, none⟩ (wordsL x).length c (wordsL x)) (r : ByteArray) (hr : joinW x = r) :
    Calls Tryz.prog 49 #[.slice (some ⟨g, 0, none⟩) (wordsL x).length c, .string ⟨#[32]⟩] w fun e w' => e = .returned (.string r) ∧ Kept w w' := by
  subst hr
  have hz := congrArg ByteArray.size (joinW_line x)
  rw [ByteArray.size_append] at hz
  have h1 := h.p; have h2 := h.vt
  have zt := textVf_size x.vk x.vn x.vt h.lo h.hi
  have z1 := kindT_size x.k; have z2 := typeT_size x.t
  have hb : (lineF x).size ≤ 560 := by
    unfold lineF
    have p1 : ((⟨#[32]⟩ : ByteArray)).size = 1 := rfl
    have p2 : ((⟨#[10]⟩ : ByteArray)).size = 1 := rfl
    have p3 : ((⟨#[]⟩ : ByteArray)).size = 0 := rfl
    split <;> simp only [ByteArray.size_append] <;> omega
  have hlen : (Lib.join ((wordsL x).map (·.data.toList)) (⟨#[32]⟩ : ByteArray).data.toList).length ≤ 140737488355328 := by
    have e : (Lib.join ((wordsL x).map (·.data.toList)) (⟨#[32]⟩ : ByteArray).data.toList).length = (joinW x).size := by unfold joinW; rw [ba_size]
    omega
  have hwl : (wordsL x).length ≤ 4 := by unfold wordsL; split <;> simp
  exact (Tryz.strings_Join g 0 c (wordsL x) ⟨#[32]⟩ w (fun j y hj => by have := hs.2.2.2.2 j y hj; rwa [Addr.add_lit] at this) hs.2.2.2.1 (by omega) hs.2.1 hlen).mono fun _ _ ⟨he, hk⟩ => ⟨he, kept_of_below hk⟩
theorem joinW_size {x : Fd} (h : FdS x) : (joinW x).size ≤ 560 := by
  have hz := congrArg ByteArray.size (joinW_line x)
  rw [ByteArray.size_append] at hz
  have h1 := h.p; have h2 := h.vt
  have zt := textVf_size x.vk x.vn x.vt h.lo h.hi
  have z1 := kindT_size x.k; have z2 := typeT_size x.t
  have hb : (lineF x).size ≤ 560 := by
    unfold lineF
    have p1 : ((⟨#[32]⟩ : ByteArray)).size = 1 := rfl
    have p2 : ((⟨#[10]⟩ : ByteArray)).size = 1 := rfl
    have p3 : ((⟨#[]⟩ : ByteArray)).size = 0 := rfl
    split <;> simp only [ByteArray.size_append] <;> omega
  omega
set_option maxRecDepth 100000 in
set_option maxHeartbeats 8000000 in
theorem stext_any (A : Option Addr) (n c : Nat) (L : List Fd) (w : World) (h : Fl w A n c L) (hn : n ≤ 40) (hw : ∀ x ∈ L, FdS x) (hl : LaidF w) :
    Calls Tryz.prog 19 #[.agg #[.slice A n c]] w fun e w' => e = .returned (.string (textSc L)) ∧ Kept w w' := by
  have hk := (Kept.refl w).alloc #[.slice A n c] 24
  have hcap := h.cap.1; have hcap2 := h.cap.2
  have HNL := Lib.hid h.1; have HSZ := Lib.hid hw
  have HB := Lib.hid (Box1.new w (.slice A n c) 24)
  have HH := Lib.hid (h.kept hk)
  have hB0 := Bld.start (w.alloc (.cells #[.slice A n c] 24))
  have hsz : (w.alloc (.cells #[.slice A n c] 24)).heap.size = w.heap.size + 1 := by simp
  rw [hsz] at hB0
  have hk2 := (Kept.refl (w.alloc (.cells #[.slice A n c] 24))).alloc #[.pointer none, .slice none 0 0] 60
  have d0 := (HB.out.kept hk2).c0
  have HL := Lib.hid (hl.kept hk)
  obtain ⟨U, hU⟩ : ∃ U, w.alloc (.cells #[.slice A n c] 24) = U := ⟨_, rfl⟩
  rw [hU] at hk HB HH hB0 HL d0
  have HK := Lib.hid hk; have HUU := Lib.hid hU; have HB0 := Lib.hid hB0
  obtain ⟨U2, hU2⟩ : ∃ U2, U.alloc (.cells #[.pointer none, .slice none 0 0] 60) = U2 := ⟨_, rfl⟩
  rw [hU2] at HB0 d0
  have HU2 := Lib.hid hU2
  clear h hw hl hk hk2 hU hB0 hsz hU2
  go_enter Tryz.func19, Tryz.ntmps19
  go_wp2_with fail
  rw [HUU.out, HU2.out]
  go_wp2_with fail
  clear d0
  go_loopw [9] (fun i wr => ∃ (t : Nat), t ≤ n ∧ i = .int .i64 t ∧ (textScL L t).size ≤ t * 570 ∧ Bld U (w.heap.size + 1) wr (textScL L t).data.toList) (fun i _ => n - (intOf i).toNat)
  case atStart => exact ⟨0, Nat.zero_le _, rfl, by show 0 ≤ _; omega, HB0.out⟩
  case round =>
    obtain ⟨t, ht, rfl, hsz, hbl⟩ := hrel
    have HBL := Lib.hid hbl
    clear hbl
    by_cases hlt : t < n
    · obtain ⟨g, o, x, rfl, hx, EX⟩ := (HH.out.kept HBL.out.ke).get hlt
      have hst := textScL_step hx
      have hfs := HSZ.out x (List.mem_of_getElem? hx)
      obtain ⟨y, hy⟩ : ∃ y, joinW x = y := ⟨_, rfl⟩
      have hys : y.size ≤ 560 := by rw [← hy]; exact joinW_size hfs
      have hka := (Kept.refl wr).alloc #[.string x.p, .int .i64 x.k, .int .i64 x.t, .int .i64 x.vk, .int .i64 x.vn, .string x.vt] 30
      have HKA := Lib.hid hka
      have AW := Lib.hid (words_any x (wr.alloc (.cells #[.string x.p, .int .i64 x.k, .int .i64 x.t, .int .i64 x.vk, .int .i64 x.vn, .string x.vt] 30)) hfs (HL.out.kept (HBL.out.ke.trans hka)))
      have AJ := Lib.hid (fun g c w hs => joi_any x hfs g c w hs y hy)
      rw [← joinW_line, hy] at hst
      obtain ⟨s1, hs1⟩ : ∃ s1, textScL L t ++ y = s1 := ⟨_, rfl⟩
      have hn1 : (textScL L (t + 1)).size ≤ (t + 1) * 570 := by
        have p2 : ((⟨#[10]⟩ : ByteArray)).size = 1 := rfl
        rw [hst, ByteArray.size_append, ByteArray.size_append]; omega
      have hz1 : s1.size ≤ t * 570 + 560 := by rw [← hs1, ByteArray.size_append]; omega
      have HS := Lib.hid (show (textScL L t).data.toList ++ y.data.toList = s1.data.toList from listF_app _ _ _ hs1)
      have HS2 := Lib.hid (show s1.data.toList ++ (⟨#[10]⟩ : ByteArray).data.toList = (textScL L (t + 1)).data.toList from listF_app _ _ _ (by rw [hst, ← hs1, ba_assoc]))
      have HLL := Lib.hid (show (textScL L t).data.toList.length + y.size ≤ 140737488355328 by rw [listF_len]; omega)
      have HLL2 := Lib.hid (show s1.data.toList.length + (⟨#[10]⟩ : ByteArray).size ≤ 140737488355328 by rw [listF_len]; show _ + 1 ≤ _; omega)
      have HN1 := Lib.hid hn1
      have x0 := EX.c0; have x1 := EX.c1; have x2 := EX.c2; have x3 := EX.c3; have x4 := EX.c4; have x5 := EX.c5
      clear EX hx hst hfs hy hys hn1 hka hs1 hz1
      go_wp2_with fail
      go_at_call 50
      refine AW.out.mono ?_
      rintro e w5 ⟨g5, c5, rfl, hs5, hk5⟩
      have HK5 := Lib.hid (HKA.out.trans hk5)
      have AJ5 := Lib.hid (AJ.out g5 c5 w5 hs5)
      clear hk5 hs5 x0 x1 x2 x3 x4 x5
      go_wp2_with fail
      go_at_call 49
      refine AJ5.out.mono ?_
      rintro e w6 ⟨rfl, hk6⟩
      go_wp2_with fail
      go_at_call 42
      refine (write_any (HBL.out.kept (HK5.out.trans hk6)) y HLL.out _ HS.out).mono ?_
      rintro e w7 ⟨rfl, hbl7⟩
      have HBL7 := Lib.hid hbl7
      clear hbl7 hk6
      go_wp2_with fail
      go_at_call 42
      refine (write_any HBL7.out ⟨#[10]⟩ HLL2.out _ HS2.out).mono ?_
      rintro e w8 ⟨rfl, hbl8⟩
      go_wp2_with fail
      go_roundw
      case rel => exact ⟨t + 1, hlt, by go_num, HN1.out, hbl8⟩
      case measure => simp [intOf]; omega
    · have htn : t = n := by omega
      have HF := Lib.hid (show (⟨(textScL L t).data.toList.toArray⟩ : ByteArray) = textSc L by
        rw [htn, HNL.out, textScL_all])
      clear htn
      go_wp2_with fail
      go_at_call 45
      refine (string_any HBL.out).mono ?_
      rintro e w9 ⟨rfl, hk9⟩
      go_wp2_with fail
      go_ret
      exact ⟨by rw [← HF.out]; rfl, HK.out.trans hk9⟩
end Go.Proofs.YtjieofiaoepccaaGreatDoor

namespace Go.Proofs.YtjieofiaoepccaaGreatDoor
open Go.RowKit
set_option linter.unusedVariables false

theorem fd_eq {x y : Fd} (h : x = y) : (x.p.toList == y.p.toList) = true ∧ (x.k == y.k) = true ∧ (x.t == y.t) = true ∧ (x.vk == y.vk) = true ∧ (x.vn == y.vn) = true ∧ (x.vt.toList == y.vt.toList) = true := by subst h; simp
theorem tls_eq {a b : ByteArray} (h : (a.toList == b.toList) = true) : a = b := by
  rw [beq_iff_eq, Lib.toList_data, Lib.toList_data] at h
  exact ba_ext h
theorem fd_of {x y : Fd} (h : (x.p.toList == y.p.toList) = true ∧ (x.k == y.k) = true ∧ (x.t == y.t) = true ∧ (x.vk == y.vk) = true ∧ (x.vn == y.vn) = true ∧ (x.vt.toList == y.vt.toList) = true) : x = y := by
  obtain ⟨h0, h1, h2, h3, h4, h5⟩ := h
  obtain ⟨x0, x1, x2, x3, x4, x5⟩ := x
  obtain ⟨y0, y1, y2, y3, y4, y5⟩ := y
  have e0 := tls_eq h0
  have e5 := tls_eq h5
  simp only [beq_iff_eq] at h1 h2 h3 h4 e0 e5
  subst h1 h2 h3 h4 e0 e5
  rfl
theorem fd_ne {x y : Fd} (h : ¬ x = y) : ((x.p.toList == y.p.toList) = false) ∨ ((x.p.toList == y.p.toList) = true ∧ (x.k == y.k) = false) ∨ ((x.p.toList == y.p.toList) = true ∧ (x.k == y.k) = true ∧ (x.t == y.t) = false) ∨ ((x.p.toList == y.p.toList) = true ∧ (x.k == y.k) = true ∧ (x.t == y.t) = true ∧ (x.vk == y.vk) = false) ∨ ((x.p.toList == y.p.toList) = true ∧ (x.k == y.k) = true ∧ (x.t == y.t) = true ∧ (x.vk == y.vk) = true ∧ (x.vn == y.vn) = false) ∨ ((x.p.toList == y.p.toList) = true ∧ (x.k == y.k) = true ∧ (x.t == y.t) = true ∧ (x.vk == y.vk) = true ∧ (x.vn == y.vn) = true ∧ (x.vt.toList == y.vt.toList) = false) := by
  by_cases h0 : (x.p.toList == y.p.toList) = true
  case neg => exact .inl (by rw [← Bool.not_eq_true]; exact h0)
  by_cases h1 : (x.k == y.k) = true
  case neg => exact .inr (.inl (⟨h0, by rw [← Bool.not_eq_true]; exact h1⟩))
  by_cases h2 : (x.t == y.t) = true
  case neg => exact .inr (.inr (.inl (⟨h0, h1, by rw [← Bool.not_eq_true]; exact h2⟩)))
  by_cases h3 : (x.vk == y.vk) = true
  case neg => exact .inr (.inr (.inr (.inl (⟨h0, h1, h2, by rw [← Bool.not_eq_true]; exact h3⟩))))
  by_cases h4 : (x.vn == y.vn) = true
  case neg => exact .inr (.inr (.inr (.inr (.inl (⟨h0, h1, h2, h3, by rw [← Bool.not_eq_true]; exact h4⟩)))))
  exact .inr (.inr (.inr (.inr (.inr (⟨h0, h1, h2, h3, h4, by rw [← Bool.not_eq_true]; exact fun h5 => h (fd_of ⟨h0, h1, h2, h3, h4, h5⟩)⟩)))))
set_option maxRecDepth 100000 in
set_option maxHeartbeats 8000000 in
theorem rfsame_any (A : Option Addr) (n c : Nat) (L : List Fd) (A' : Option Addr) (n' c' : Nat) (L' : List Fd) (w : World) (h : Fl w A n c L) (h' : Fl w A' n' c' L') (r : Bool) (hr : r = true ↔ L = L') :
    Calls Tryz.prog 12 #[.agg #[.slice A n c], .agg #[.slice A' n' c']] w fun e w' => e = .returned (.bool r) ∧ Kept w w' := by
  have hk := ((Kept.refl w).alloc #[.slice A n c] 24).alloc #[.slice A' n' c'] 24
  have hcap := h.cap.1; have hcap2 := h.cap.2; have hcap' := h'.cap.1; have hcap2' := h'.cap.2
  have HN := Lib.hid h.1; have HN' := Lib.hid h'.1; have HR := Lib.hid hr
  have hb := (Box1.new w (.slice A n c) 24).kept ((Kept.refl _).alloc #[.slice A' n' c'] 24)
  have hb' := Box1.new (w.alloc (.cells #[.slice A n c] 24)) (.slice A' n' c') 24
  rw [show (w.alloc (.cells #[.slice A n c] 24)).heap.size = w.heap.size + 1 by simp] at hb'
  have HI := Lib.hid (h.kept hk); have HI' := Lib.hid (h'.kept hk)
  have d0 := hb.c0; have d1 := hb'.c0
  have HB := Lib.hid hb; have HB' := Lib.hid hb'; have HK := Lib.hid hk
  clear h h' hr hk hb hb'
  by_cases hn : n = n'
  · subst hn
    obtain ⟨U, hU⟩ : ∃ U, (w.alloc (.cells #[.slice A n c] 24)).alloc (.cells #[.slice A' n c'] 24) = U := ⟨_, rfl⟩
    rw [hU] at HI HI' HB HB' HK
    have HUU := Lib.hid hU
    clear hU
    go_enter Tryz.func12, Tryz.ntmps12
    go_wp2_with fail
    rw [HUU.out]
    clear d0 d1
    go_loopw [16] (fun i wr => ∃ j : Nat, j ≤ n ∧ i = .int .i64 j ∧ Kept U wr ∧ ∀ i, i < j → L[i]? = L'[i]?) (fun i _ => n - (intOf i).toNat)
    case atStart => exact ⟨0, Nat.zero_le _, rfl, Kept.refl _, fun i hi => absurd hi (by omega)⟩
    case round =>
      obtain ⟨j, hj, rfl, hkr, hall⟩ := hrel
      have HR2 := Lib.hid hkr
      have HA := Lib.hid hall
      clear hkr hall
      by_cases hlt : j < n
      · obtain ⟨g, o, x, rfl, hx, EX⟩ := (HI.out.kept HR2.out).get hlt
        obtain ⟨g', o', y, rfl, hy, EY⟩ := (HI'.out.kept HR2.out).get hlt
        have x0 := KExt.cell EX.c0; have x1 := KExt.cell EX.c1; have x2 := KExt.cell EX.c2; have x3 := KExt.cell EX.c3; have x4 := KExt.cell EX.c4; have x5 := KExt.cell EX.c5
        have y0 := KExt.cell EY.c0; have y1 := KExt.cell EY.c1; have y2 := KExt.cell EY.c2; have y3 := KExt.cell EY.c3; have y4 := KExt.cell EY.c4; have y5 := KExt.cell EY.c5
        have u0 := KExt.cell (HB.out.kept HR2.out).c0; have v0 := KExt.cell (HB'.out.kept HR2.out).c0
        have HY := Lib.hid hy
        have HX := Lib.hid hx
        clear hy hx EY EX
        by_cases hyy : x = y
        · have HN2 := Lib.hid (show ∀ i, i < j + 1 → L[i]? = L'[i]? from fun i hi => by
            rcases Nat.lt_or_ge i j with h | h
            · exact HA.out i h
            · obtain rfl : i = j := by omega
              rw [HY.out, HX.out, hyy])
          obtain ⟨d0, d1, d2, d3, d4, d5⟩ := fd_eq hyy
          clear hyy
          go_wp2_with fail
          refine region_kept _ (by kernel_rfl) (by kernel_rfl) (Kept.refl _) ?_
          repeat (go_big_quiet_step (fail))
          refine wpQuiet_nil ?_
          intro G
          clear x0 y0 x1 y1 x2 y2 x3 y3 x4 y4 x5 y5 u0 v0
          go_wp2_with fail
          go_roundw
          case rel => exact ⟨j + 1, hlt, by go_num, HR2.out.trans G.g, HN2.out⟩
          case measure => simp [intOf]; omega
        · have HF := Lib.hid (show false = r by
            rw [eq_comm, ← Bool.not_eq_true, HR.out]
            rintro rfl
            exact hyy (Option.some.inj (HX.out.symm.trans HY.out)))
          rcases fd_ne hyy with d0 | ⟨d0, d1⟩ | ⟨d0, d1, d2⟩ | ⟨d0, d1, d2, d3⟩ | ⟨d0, d1, d2, d3, d4⟩ | ⟨d0, d1, d2, d3, d4, d5⟩
          all_goals
            clear hyy
            go_wp2_with fail
            refine region_kept _ (by kernel_rfl) (by kernel_rfl) (Kept.refl _) ?_
            repeat (go_big_quiet_step (fail))
            refine wpQuiet_nil ?_
            intro G
            clear x0 y0 x1 y1 x2 y2 x3 y3 x4 y4 x5 y5 u0 v0
            go_wp2_with fail
            go_ret
            exact ⟨ret_bool HF.out, HK.out.trans (HR2.out.trans G.g)⟩
      · obtain rfl : j = n := by omega
        have HF := Lib.hid (show true = r by
          rw [eq_comm, HR.out]
          refine List.ext_getElem? fun i => ?_
          rcases Nat.lt_or_ge i j with h | h
          · exact HA.out i h
          · rw [List.getElem?_eq_none (by have := HN.out; omega), List.getElem?_eq_none (by have := HN'.out; omega)])
        go_wp2_with fail
        go_ret
        exact ⟨ret_bool HF.out, HK.out.trans HR2.out⟩
  · have f1 : ((n : Int) == (n' : Int)) = false := by simp; omega
    have f2 : (n == n') = false := by simpa using hn
    have HF := Lib.hid (show false = r by
      rw [eq_comm, ← Bool.not_eq_true, HR.out]
      rintro rfl
      exact hn (HN.out.trans HN'.out.symm))
    clear hn
    go_enter Tryz.func12, Tryz.ntmps12
    go_wp2_with fail
    go_ret
    exact ⟨ret_bool HF.out, HK.out⟩
end Go.Proofs.YtjieofiaoepccaaGreatDoor

namespace Go.Proofs.YtjieofiaoepccaaGreatDoor
open Go.RowKit
set_option linter.unusedVariables false
set_option maxRecDepth 100000 in
set_option maxHeartbeats 8000000 in
theorem feq_any (A : Option Addr) (n c : Nat) (L : List Fd) (A' : Option Addr) (n' c' : Nat) (L' : List Fd) (w : World) (h : Fl w A n c L) (h' : Fl w A' n' c' L') (r : Bool) (hr : r = true ↔ L = L') :
    Calls Tryz.prog 52 #[.slice A n c, .slice A' n' c'] w fun e w' => e = .returned (.bool r) ∧ Kept w w' := by
  have hcap := h.cap.1; have hcap2 := h.cap.2; have hcap' := h'.cap.1; have hcap2' := h'.cap.2
  have HN := Lib.hid h.1; have HN' := Lib.hid h'.1; have HR := Lib.hid hr
  have HI := Lib.hid h; have HI' := Lib.hid h'
  clear h h' hr
  by_cases hn : n = n'
  · subst hn
    go_enter Tryz.func52, Tryz.ntmps52
    go_wp2_with fail
    go_loopw [13] (fun i wr => ∃ j : Nat, j ≤ n ∧ i = .int .i64 j ∧ Kept w wr ∧ ∀ i, i < j → L[i]? = L'[i]?) (fun i _ => n - (intOf i).toNat)
    case atStart => exact ⟨0, Nat.zero_le _, rfl, Kept.refl _, fun i hi => absurd hi (by omega)⟩
    case round =>
      obtain ⟨j, hj, rfl, hkr, hall⟩ := hrel
      have HR2 := Lib.hid hkr
      have HA := Lib.hid hall
      clear hkr hall
      by_cases hlt : j < n
      · obtain ⟨g, o, x, rfl, hx, EX⟩ := (HI.out.kept HR2.out).get hlt
        obtain ⟨g', o', y, rfl, hy, EY⟩ := (HI'.out.kept HR2.out).get hlt
        have x0 := KExt.cell EX.c0; have x1 := KExt.cell EX.c1; have x2 := KExt.cell EX.c2; have x3 := KExt.cell EX.c3; have x4 := KExt.cell EX.c4; have x5 := KExt.cell EX.c5
        have y0 := KExt.cell EY.c0; have y1 := KExt.cell EY.c1; have y2 := KExt.cell EY.c2; have y3 := KExt.cell EY.c3; have y4 := KExt.cell EY.c4; have y5 := KExt.cell EY.c5
        have HY := Lib.hid hy
        have HX := Lib.hid hx
        clear hy hx EY EX
        by_cases hyy : x = y
        · have HN2 := Lib.hid (show ∀ i, i < j + 1 → L[i]? = L'[i]? from fun i hi => by
            rcases Nat.lt_or_ge i j with h | h
            · exact HA.out i h
            · obtain rfl : i = j := by omega
              rw [HY.out, HX.out, hyy])
          obtain ⟨d0, d1, d2, d3, d4, d5⟩ := fd_eq hyy
          clear hyy
          go_wp2_with fail
          refine region_kept _ (by kernel_rfl) (by kernel_rfl) (Kept.refl _) ?_
          repeat (go_big_quiet_step (fail))
          refine wpQuiet_nil ?_
          intro G
          clear x0 y0 x1 y1 x2 y2 x3 y3 x4 y4 x5 y5
          go_wp2_with fail
          go_roundw
          case rel => exact ⟨j + 1, hlt, by go_num, HR2.out.trans G.g, HN2.out⟩
          case measure => simp [intOf]; omega
        · have HF := Lib.hid (show false = r by
            rw [eq_comm, ← Bool.not_eq_true, HR.out]
            rintro rfl
            exact hyy (Option.some.inj (HX.out.symm.trans HY.out)))
          rcases fd_ne hyy with d0 | ⟨d0, d1⟩ | ⟨d0, d1, d2⟩ | ⟨d0, d1, d2, d3⟩ | ⟨d0, d1, d2, d3, d4⟩ | ⟨d0, d1, d2, d3, d4, d5⟩
          all_goals
            clear hyy
            go_wp2_with fail
            refine region_kept _ (by kernel_rfl) (by kernel_rfl) (Kept.refl _) ?_
            repeat (go_big_quiet_step (fail))
            refine wpQuiet_nil ?_
            intro G
            clear x0 y0 x1 y1 x2 y2 x3 y3 x4 y4 x5 y5
            go_wp2_with fail
            go_ret
            exact ⟨ret_bool HF.out, HR2.out.trans G.g⟩
      · obtain rfl : j = n := by omega
        have HF := Lib.hid (show true = r by
          rw [eq_comm, HR.out]
          refine List.ext_getElem? fun i => ?_
          rcases Nat.lt_or_ge i j with h | h
          · exact HA.out i h
          · rw [List.getElem?_eq_none (by have := HN.out; omega), List.getElem?_eq_none (by have := HN'.out; omega)])
        go_wp2_with fail
        go_ret
        exact ⟨ret_bool HF.out, HR2.out⟩
  · have f1 : ((n : Int) == (n' : Int)) = false := by simp; omega
    have f2 : (n == n') = false := by simpa using hn
    have HF := Lib.hid (show false = r by
      rw [eq_comm, ← Bool.not_eq_true, HR.out]
      rintro rfl
      exact hn (HN.out.trans HN'.out.symm))
    clear hn
    go_enter Tryz.func52, Tryz.ntmps52
    go_wp2_with fail
    go_ret
    exact ⟨ret_bool HF.out, Kept.refl _⟩
set_option maxRecDepth 100000 in
set_option maxHeartbeats 4000000 in
theorem ssame_any (A : Option Addr) (n c : Nat) (L : List Fd) (A' : Option Addr) (n' c' : Nat) (L' : List Fd) (w : World) (h : Fl w A n c L) (h' : Fl w A' n' c' L') (r : Bool) (hr : r = true ↔ L = L') :
    Calls Tryz.prog 21 #[.agg #[.slice A n c], .agg #[.slice A' n' c']] w fun e w' => e = .returned (.bool r) ∧ Kept w w' := by
  have HK := Lib.hid (((Kept.refl w).alloc #[.slice A n c] 24).alloc #[.slice A' n' c'] 24)
  have HB0 := Lib.hid (Box1.new w (.slice A n c) 24)
  have HB1 := Lib.hid (Box1.new (w.alloc (.cells #[.slice A n c] 24)) (.slice A' n' c') 24)
  have AC := Lib.hid (feq_any A n c L A' n' c' L' ((w.alloc (.cells #[.slice A n c] 24)).alloc (.cells #[.slice A' n' c'] 24)) (h.kept HK.out) (h'.kept HK.out) r hr)
  have d0 := (HB0.out.kept ((Kept.refl _).alloc #[.slice A' n' c'] 24)).c0
  have d1 := (HB1.out.kept (Kept.refl _)).c0
  clear h h' hr
  go_enter Tryz.func21, Tryz.ntmps21
  go_wp2_with fail
  go_at_call 52
  refine AC.out.mono ?_
  rintro e w1 ⟨rfl, hk⟩
  go_wp2_with fail
  go_ret
  exact ⟨rfl, HK.out.trans hk⟩
end Go.Proofs.YtjieofiaoepccaaGreatDoor

namespace Go.Proofs.YtjieofiaoepccaaGreatDoor
end Go.Proofs.YtjieofiaoepccaaGreatDoor

namespace Go.Proofs.YtjieofiaoepccaaGreatDoor
open Go.RowKit
set_option linter.unusedVariables false

def x1 : Fd := ⟨⟨#[97, 47, 120]⟩, 1, 1, 1, 0, ⟨#[]⟩⟩
def x2 : Fd := ⟨⟨#[97, 47, 121]⟩, 2, 2, 0, 0, ⟨#[]⟩⟩
def x3 : Fd := ⟨⟨#[99]⟩, 3, 1, 0, 0, ⟨#[]⟩⟩
def x4 : Fd := ⟨⟨#[109, 47, 42, 47, 116]⟩, 1, 2, 2, 0, ⟨#[]⟩⟩
def y1 : Fd := ⟨⟨#[97, 47, 42]⟩, 1, 1, 1, 0, ⟨#[]⟩⟩
def y2 : Fd := ⟨⟨#[97, 47, 98]⟩, 1, 1, 1, 0, ⟨#[]⟩⟩
/-- The example's schema, and a wrong one. -/
def smL : List Fd := [x1, x2, x3, x4]
def bdL : List Fd := [y1, y2]
theorem rightX1 : rightF x1 = true := by kernel_rfl
theorem rightX2 : rightF x2 = true := by kernel_rfl
theorem rightX3 : rightF x3 = true := by kernel_rfl
theorem rightX4 : rightF x4 = true := by kernel_rfl
theorem rightY1 : rightF y1 = true := by kernel_rfl
theorem rightY2 : rightF y2 = true := by kernel_rfl
theorem rightA : rightF ⟨⟨#[97]⟩, 0, 0, 0, 0, ⟨#[]⟩⟩ = false := by kernel_rfl
theorem smL_ok : ScOk smL := by
  refine ⟨by decide, ?_, ?_, ?_⟩
  · intro x hx
    unfold smL at hx
    simp only [List.mem_cons, List.not_mem_nil, or_false] at hx
    rcases hx with rfl | rfl | rfl | rfl
    · exact rightX1
    · exact rightX2
    · exact rightX3
    · exact rightX4
  · unfold smL
    simp only [List.pairwise_cons, List.mem_cons, List.not_mem_nil, or_false, forall_eq_or_imp, forall_eq, List.Pairwise.nil, and_true, false_implies, implies_true]
    exact ⟨⟨by decide, by decide, by decide⟩, ⟨by decide, by decide⟩, by decide⟩
  · unfold smL
    simp only [List.pairwise_cons, List.mem_cons, List.not_mem_nil, or_false, forall_eq_or_imp, forall_eq, List.Pairwise.nil, and_true, false_implies, implies_true]
    exact ⟨⟨by kernel_rfl, by kernel_rfl, by kernel_rfl⟩, ⟨by kernel_rfl, by kernel_rfl⟩, by kernel_rfl⟩
theorem bdL_no : ¬ ScOk bdL := fun h => by
  have := h.apart
  unfold bdL at this
  simp only [List.pairwise_cons, List.mem_cons, List.not_mem_nil, or_false, forall_eq] at this
  have h2 : L4.apS y2.p y1.p = false := by kernel_rfl
  rw [this.1] at h2
  cases h2
theorem bdL_right : ∀ x ∈ bdL, rightF x = true := by
  intro x hx
  unfold bdL at hx
  simp only [List.mem_cons, List.not_mem_nil, or_false] at hx
  rcases hx with rfl | rfl
  · exact rightY1
  · exact rightY2
theorem smL_bd : BdFs smL := by
  intro x hx
  unfold smL at hx
  simp only [List.mem_cons, List.not_mem_nil, or_false] at hx
  rcases hx with rfl | rfl | rfl | rfl <;> exact ⟨by decide, by decide⟩
theorem bdL_bd : BdFs bdL := by
  intro x hx
  unfold bdL at hx
  simp only [List.mem_cons, List.not_mem_nil, or_false] at hx
  rcases hx with rfl | rfl <;> exact ⟨by decide, by decide⟩
/-- Right fields that are no right schema are taken with ErrForm. -/
theorem tsc_bad {L : List Fd} (hf : L.length ≤ 24) (hr : ∀ x ∈ L, rightF x = true) (hn : ¬ ScOk L) (hb : BdFs L) (s : ByteArray) : tscL (putSc ⟨#[]⟩ L ++ s) = ([], ⟨#[]⟩, 3) := by
  have e : putSc ⟨#[]⟩ L ++ s = putS L.length ++ (encFs L ++ s) := by
    unfold putSc
    simp only [ba_assoc, ba_nil]
  obtain ⟨k1, k2, k3⟩ := tk_fore L.length (encFs L ++ s) (by omega)
  unfold tscL
  rw [e, k1, k2, k3, if_neg (by simp), if_neg (by omega), takeFs_fore L [] s hr hb, List.nil_append, if_neg (by simp), if_neg hn]
/-- More fields than a schema may have are taken with ErrLong. -/
theorem tsc_long {s : ByteArray} (h0 : tkE s = 0) (h1 : 24 < tkN s) : tscL s = ([], ⟨#[]⟩, 4) := by
  unfold tscL
  rw [if_neg (by simp [h0]), if_pos h1]
theorem aw_take : tscL (putSc ⟨#[]⟩ smL ++ ⟨#[122]⟩) = (smL, ⟨#[122]⟩, 0) := tsc_fore smL_ok smL_bd _
theorem aw_bad : tscL (putSc ⟨#[]⟩ bdL) = ([], ⟨#[]⟩, 3) := by
  have := tsc_bad (by decide) bdL_right bdL_no bdL_bd ⟨#[]⟩
  rwa [ba_nil_r] at this
theorem tkN25 : tkN ⟨#[25]⟩ = 25 := by kernel_rfl
theorem aw_long : tscL ⟨#[25]⟩ = ([], ⟨#[]⟩, 4) := tsc_long (by kernel_rfl) (by rw [tkN25]; omega)
theorem aw_find : findR smL ⟨#[109, 47, 107, 49, 47, 116]⟩ = (x4, true) := by kernel_rfl
theorem aw_none : findR smL ⟨#[109, 47, 107, 49]⟩ = (.none, false) := by kernel_rfl
theorem aw_und1 : underF smL ⟨#[109, 47, 107, 49]⟩ = true := by kernel_rfl
theorem aw_und2 : underF smL ⟨#[97]⟩ = true := by kernel_rfl
theorem aw_und3 : underF smL ⟨#[97, 47, 122]⟩ = false := by kernel_rfl
theorem aw_text : textSc smL = ⟨#[97, 47, 120, 32, 114, 101, 103, 32, 105, 110, 116, 32, 48, 10, 97, 47, 121, 32, 115, 101, 116, 32, 116, 101, 120, 116, 10, 99, 32, 99, 116, 114, 32, 105, 110, 116, 10, 109, 47, 42, 47, 116, 32, 114, 101, 103, 32, 116, 101, 120, 116, 32, 39, 10]⟩ := by kernel_rfl
theorem aw_of : ofF [x3, x1, x4, x2] = smL := by kernel_rfl
theorem aw_of2 : ofF [y1, y2] = bdL := by kernel_rfl
end Go.Proofs.YtjieofiaoepccaaGreatDoor

