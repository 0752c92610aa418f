/-
  What is proved: Play of layer 9's laws, called with any events that are few and whose paths are right, returns what three replicas know behind them: all of it is in order and right, and gives unlike things to no dot; the world has new blocks at most.
-/
import Derived.Test.YtcldbmhjfmbcfaaGreatM26
import Derived.Test.YtcldbmhjfmbcfaaGreatM28
import Derived.Test.YtcldbmhjfmbcfaaGreatM32
import Derived.Test.YtcldbmhjfmbcfaaGreatJRWith
import Derived.Test.YtcldbmhjfmbcfaaGreatM19
import Derived.Test.YtcldbmhjfmbcfaaGreatM25
import Derived.Deep.DeepCutAuto
namespace Go.Proofs.YtcldbmhjfmbcfaaGreat
open Go.RowKit
set_option linter.unusedVariables false

/-- What Play hands back. -/
def Plays (n : Nat) (w : World) (e : Ending) (w' : World) : Prop :=
  ∃ p A0 n0 c0 B0 m0 k0 D0 p0 q0 A1 n1 c1 B1 m1 k1 D1 p1 q1 A2 n2 c2 B2 m2 k2 D2 p2 q2, e = .returned (.agg #[.slice A0 n0 c0, .slice B0 m0 k0, .slice D0 p0 q0, .slice A1 n1 c1, .slice B1 m1 k1, .slice D1 p1 q1, .slice A2 n2 c2, .slice B2 m2 k2, .slice D2 p2 q2]) ∧
    Stt w' A0 n0 c0 B0 m0 k0 D0 p0 q0 (p 0).L (p 0).V (p 0).C ∧ Stt w' A1 n1 c1 B1 m1 k1 D1 p1 q1 (p 1).L (p 1).V (p 1).C ∧ Stt w' A2 n2 c2 B2 m2 k2 D2 p2 q2 (p 2).L (p 2).V (p 2).C ∧ Inv p n ∧ Kept w w'
/-- An event's number of a replica. -/
theorem third (x : Int) : ∃ a : Nat, a < 3 ∧ wrap64 (Int.tmod (IntKind.u64.wrap x) 3) = (a : Int) := by
  have h1 := IntKind.wrap_u64 x
  have h0 : 0 ≤ IntKind.u64.wrap x := by rw [h1]; omega
  refine ⟨(IntKind.u64.wrap x % 3).toNat, by omega, ?_⟩
  rw [Int.tmod_eq_emod_of_nonneg h0]
  unfold wrap64
  omega
/-- The dots that go. -/
def goneOf (cl : Bool) (L : List En) : List (Int × Int) := if cl then L.map (·.d) else []
theorem goneOf_put {L : List En} {u : Nat} {x : En} (h : L[u]? = some x) : goneOf true (L.take (u + 1)) = goneOf true (L.take u) ++ [(x.d.1, x.d.2)] := by
  unfold goneOf
  rw [if_pos rfl, if_pos rfl, List.take_add_one, h, Option.toList_some, List.map_append]
  rfl
theorem goneOf_known {s : Sta} (hs : Ord s) (cl : Bool) (path : ByteArray) : ∀ d ∈ goneOf cl (atE s.L path), s.has d := fun d hd => by
  unfold goneOf at hd
  split at hd
  · obtain ⟨x, hx, rfl⟩ := List.mem_map.1 hd
    exact hs.known x (List.mem_filter.1 hx).1
  · cases hd
theorem goneOf_len (cl : Bool) (L : List En) : (goneOf cl L).length ≤ L.length := by
  unfold goneOf
  split
  · rw [List.length_map]; exact Nat.le_refl _
  · exact Nat.zero_le _
/-- A state in block b, which is written anew. -/
def HasT (b : Nat) (W : World) (S : Sta → Prop) (v : Value) (wx : World) : Prop :=
  v = .pointer (some ⟨b, 0, none⟩) ∧ KeptE b W wx ∧ ∃ A n c B m k D p q s, Box3 wx b (.slice A n c) (.slice B m k) (.slice D p q) ∧ Stt wx A n c B m k D p q (Sta.L s) (Sta.V s) (Sta.C s) ∧ S s
theorem hasT_set {W w5 : World} {S : Sta → Prop} {b n c m k p q : Nat} {A B D a0 a1 a2 : Option Addr} {n0 n1 n2 c0 c1 c2 : Nat} {s : Sta} (h : Stt w5 A n c B m k D p q s.L s.V s.C)
    (hb : Box3 w5 b (.slice a0 n0 c0) (.slice a1 n1 c1) (.slice a2 n2 c2)) (hk : KeptE b W w5) (hs : S s) :
    HasT b W S (.pointer (some ⟨b, 0, none⟩)) (((w5.setCell ⟨b, 0, none⟩ (.slice A n c)).setCell ⟨b, 1, none⟩ (.slice B m k)).setCell ⟨b, 2, none⟩ (.slice D p q)) :=
  ⟨rfl, ((hk.set (.inl rfl) _).set (.inl rfl) _).set (.inl rfl) _, A, n, c, B, m, k, D, p, q, s, hb.set3 _ _ _, ⟨hb.el _ _ _ h.el, hb.il _ _ _ h.il, hb.dl _ _ _ h.dl⟩, hs⟩
/-- What an event makes of what it knows. -/
structure Made (s : Sta) (d : Int × Int) (path : ByteArray) (i : Int) (n : Sta) : Prop where
  ord : Ord n
  has : ∀ e, n.has e ↔ s.has e ∨ e = d
  mem : ∀ y ∈ n.L, y ∈ s.L ∨ y = leftE d path i
  lenL : n.L.length ≤ s.L.length + 1
  lenC : n.C.length ≤ 1000
theorem right_next {s : Sta} {a : Nat} {mo : Int} {t : Nat} (e : nextD s a = ((a : Int), mo + 1)) (h1 : 1 ≤ (nextD s a).2) (h2 : (nextD s a).2 ≤ t + 1) (ha : a < 3) (ht : t ≤ 1000) : rightD ((a : Int), mo + 1) = true := by
  rw [e] at h1 h2
  unfold rightD
  rw [decide_eq_true_iff]
  have h1' : 1 ≤ mo + 1 := h1
  have h2' : mo + 1 ≤ (t : Int) + 1 := h2
  exact ⟨by show (0 : Int) ≤ (a : Int); omega, by show (a : Int) < 64; omega, h1', by show mo + 1 ≤ 1073741824; omega⟩
theorem made_out {s : Sta} (hs : Ord s) {Gd : List (Int × Int)} (hG : ∀ d ∈ Gd, s.has d) {d : Int × Int} (hd : rightD d = true) {path : ByteArray} {i : Int} {V : List Int} {C : List (Int × Int)} (h : SetC (fun e => hasC s.V s.C e ∨ (rightD e = true ∧ e ∈ Gd ++ [d])) V C) (hc : C.length ≤ 990) :
    Made s d path i ⟨outE s.L (Gd ++ [d]), V, C⟩ ∧ (∀ y ∈ outE s.L (Gd ++ [d]), y ∈ s.L) ∧ C.length ≤ 990 ∧ (outE s.L (Gd ++ [d])).length ≤ s.L.length :=
  ⟨⟨step_out (n := ⟨outE s.L (Gd ++ [d]), V, C⟩) hs hG hd rfl h, step_has (n := ⟨outE s.L (Gd ++ [d]), V, C⟩) hs hG hd h, fun y hy => .inl (outE_mem.1 hy).1, Nat.le_succ_of_le (outE_len _ _), Nat.le_trans hc (by omega)⟩, fun y hy => (outE_mem.1 hy).1, hc, outE_len _ _⟩
theorem made_with {s m : Sta} {d : Int × Int} {path : ByteArray} {i : Int} (hm : Made s d path i m) (hml : ∀ y ∈ m.L, y ∈ s.L) (hmc : m.C.length ≤ 990) (hL : m.L.length ≤ s.L.length) (hd : rightD d = true) {V : List Int} {C : List (Int × Int)} (h : SetC (fun e => hasC m.V m.C e ∨ (rightD e = true ∧ e = d)) V C) (hc : C.length ≤ m.C.length + 1) :
    Made s d path i ⟨withE m.L (leftE d path i), V, C⟩ := by
  refine ⟨step_with (n := ⟨withE m.L (leftE d path i), V, C⟩) (x := leftE d path i) hm.ord hd rfl h, fun e => ?_, fun y hy => ?_, ?_, ?_⟩
  · refine (h.has e).trans ⟨?_, ?_⟩
    · rintro (h1 | ⟨_, h1⟩)
      · exact (hm.has e).1 h1
      · exact .inr h1
    · exact fun h1 => .inl ((hm.has e).2 h1)
  · rcases withE_mem.1 hy with h1 | ⟨h1, _⟩
    · exact .inr h1
    · exact .inl (hml y h1)
  · exact Nat.le_trans (withE_len _) (by omega)
  · show C.length ≤ 1000
    omega
theorem three_put {w : World} {b : Nat} {z : Nat → Sta} (h : Arr w b z) {A0 B0 D0 A1 B1 D1 A2 B2 D2 : Option Addr} {n0 c0 m0 k0 p0 q0 n1 c1 m1 k1 p1 q1 n2 c2 m2 k2 p2 q2 : Nat} {s0 s1 s2 : Sta}
    (h0 : Stt w A0 n0 c0 B0 m0 k0 D0 p0 q0 s0.L s0.V s0.C) (h1 : Stt w A1 n1 c1 B1 m1 k1 D1 p1 q1 s1.L s1.V s1.C) (h2 : Stt w A2 n2 c2 B2 m2 k2 D2 p2 q2 s2.L s2.V s2.C) :
    ∃ w', (((((((((w.setCell ⟨b, 0, none⟩ (.slice A0 n0 c0)).setCell ⟨b, 1, none⟩ (.slice B0 m0 k0)).setCell ⟨b, 2, none⟩ (.slice D0 p0 q0)).setCell ⟨b, 3, none⟩ (.slice A1 n1 c1)).setCell ⟨b, 4, none⟩ (.slice B1 m1 k1)).setCell ⟨b, 5, none⟩ (.slice D1 p1 q1)).setCell ⟨b, 6, none⟩ (.slice A2 n2 c2)).setCell ⟨b, 7, none⟩ (.slice B2 m2 k2)).setCell ⟨b, 8, none⟩ (.slice D2 p2 q2)) = w' ∧
      Stt w' A0 n0 c0 B0 m0 k0 D0 p0 q0 s0.L s0.V s0.C ∧ Stt w' A1 n1 c1 B1 m1 k1 D1 p1 q1 s1.L s1.V s1.C ∧ Stt w' A2 n2 c2 B2 m2 k2 D2 p2 q2 s2.L s2.V s2.C := by
  refine ⟨_, rfl, ?_⟩
  have a1 := h.set (a := 0) (by omega) h0
  obtain ⟨_, _, _, _, _, _, _, _, _, x0, x1, x2, _⟩ := h.st 0 (by omega)
  have g0 := h0.over (u0 := .slice A0 n0 c0) (u1 := .slice B0 m0 k0) (u2 := .slice D0 p0 q0) x0 x1 x2
  have g1 := h1.over (u0 := .slice A0 n0 c0) (u1 := .slice B0 m0 k0) (u2 := .slice D0 p0 q0) x0 x1 x2
  have g2 := h2.over (u0 := .slice A0 n0 c0) (u1 := .slice B0 m0 k0) (u2 := .slice D0 p0 q0) x0 x1 x2
  have a2 := a1.set (a := 1) (by omega) g1
  obtain ⟨_, _, _, _, _, _, _, _, _, y0, y1, y2, _⟩ := a1.st 1 (by omega)
  have f0 := g0.over (u0 := .slice A1 n1 c1) (u1 := .slice B1 m1 k1) (u2 := .slice D1 p1 q1) y0 y1 y2
  have f1 := g1.over (u0 := .slice A1 n1 c1) (u1 := .slice B1 m1 k1) (u2 := .slice D1 p1 q1) y0 y1 y2
  have f2 := g2.over (u0 := .slice A1 n1 c1) (u1 := .slice B1 m1 k1) (u2 := .slice D1 p1 q1) y0 y1 y2
  obtain ⟨_, _, _, _, _, _, _, _, _, z0, z1, z2, _⟩ := a2.st 2 (by omega)
  exact ⟨f0.over z0 z1 z2, f1.over z0 z1 z2, f2.over z0 z1 z2⟩
set_option maxRecDepth 100000 in
set_option maxHeartbeats 32000000 in
theorem play_any (A : Option Addr) (n c : Nat) (L : List Ev) (w : World) (h : Evl w A n c L) (hn : n ≤ 40) (hp : ∀ x ∈ L, L4.rightS x.path = true) :
    Calls Tryz.prog 8 #[.slice A n c] w (Plays n w) := by
  have hk := ((Kept.refl w).alloc #[.slice none 0 0, .slice none 0 0, .slice none 0 0, .slice none 0 0, .slice none 0 0, .slice none 0 0, .slice none 0 0, .slice none 0 0, .slice none 0 0] 32).alloc #[.slice none 0 0, .slice none 0 0, .slice none 0 0, .slice none 0 0, .slice none 0 0, .slice none 0 0, .slice none 0 0, .slice none 0 0, .slice none 0 0] 32
  have a1 := Arr.new (w.alloc (.cells #[.slice none 0 0, .slice none 0 0, .slice none 0 0, .slice none 0 0, .slice none 0 0, .slice none 0 0, .slice none 0 0, .slice none 0 0, .slice none 0 0] 32)) 32
  have a0 := (Arr.new w 32).kept ((Kept.refl _).alloc #[.slice none 0 0, .slice none 0 0, .slice none 0 0, .slice none 0 0, .slice none 0 0, .slice none 0 0, .slice none 0 0, .slice none 0 0, .slice none 0 0] 32)
  rw [show (w.alloc (.cells #[.slice none 0 0, .slice none 0 0, .slice none 0 0, .slice none 0 0, .slice none 0 0, .slice none 0 0, .slice none 0 0, .slice none 0 0, .slice none 0 0] 32)).heap.size = w.heap.size + 1 by simp] at a1
  have hsz : ((w.alloc (.cells #[.slice none 0 0, .slice none 0 0, .slice none 0 0, .slice none 0 0, .slice none 0 0, .slice none 0 0, .slice none 0 0, .slice none 0 0, .slice none 0 0] 32)).alloc (.cells #[.slice none 0 0, .slice none 0 0, .slice none 0 0, .slice none 0 0, .slice none 0 0, .slice none 0 0, .slice none 0 0, .slice none 0 0, .slice none 0 0] 32)).heap.size = w.heap.size + 2 := by simp
  obtain ⟨U, hU⟩ : ∃ U, (w.alloc (.cells #[.slice none 0 0, .slice none 0 0, .slice none 0 0, .slice none 0 0, .slice none 0 0, .slice none 0 0, .slice none 0 0, .slice none 0 0, .slice none 0 0] 32)).alloc (.cells #[.slice none 0 0, .slice none 0 0, .slice none 0 0, .slice none 0 0, .slice none 0 0, .slice none 0 0, .slice none 0 0, .slice none 0 0, .slice none 0 0] 32) = U := ⟨_, rfl⟩
  rw [hU] at hk a0 a1 hsz
  have HUU := Lib.hid hU; have HK := Lib.hid hk; have HA0 := Lib.hid a0; have HA1 := Lib.hid a1; have HSZ := Lib.hid hsz
  have hcap := h.cap.1; have hcap2 := h.cap.2
  have HL := Lib.hid h; have HNL := Lib.hid h.1; have HP := Lib.hid hp
  clear h hp hk a0 a1 hsz hU
  go_enter Tryz.func8, Tryz.ntmps8
  go_wp2_with fail
  rw [HUU.out]
  go_loopw [15] (fun vi wr => ∃ (t : Nat) (p : Nat → Sta), t ≤ n ∧ vi = .int .i64 t ∧ KeptE (w.heap.size + 1) U wr ∧ Arr wr (w.heap.size + 1) p ∧ Inv p t) (fun vi _ => n - (intOf vi).toNat)
  case atStart => exact ⟨0, fun _ => .none, Nat.zero_le _, rfl, KeptE.refl _ _, HA1.out, Inv.start⟩
  case round =>
    obtain ⟨t, p, ht, rfl, hke, har, hinv⟩ := hrel
    have HE := Lib.hid hke; have HAR := Lib.hid har; have HINV := Lib.hid hinv
    have HKW := Lib.hid (hke.kept HK.out (by omega))
    clear hke har hinv
    by_cases hlt : t < n
    · obtain ⟨g, o, x, rfl, hx, EX⟩ := (HL.out.kept HKW.out).get hlt
      have x0 := EX.c0; have x1 := EX.c1; have x2 := EX.c2; have x3 := EX.c3; have x4 := EX.c4
      have HPX := Lib.hid (HP.out x (List.mem_of_getElem? hx))
      have HEV := Lib.hid (EvO.new wr x 51)
      have hka := (Kept.refl wr).alloc #[.int .i64 x.ea, .int .i64 x.ef, .string x.path, .bool x.clear_, .bool x.leave] 51
      have HKA := Lib.hid hka
      clear hx EX hka
      go_wp2_with fail
      clear x0 x1 x2 x3 x4
      have z0 := KExt.cell HEV.out.c0; have z1 := KExt.cell HEV.out.c1; have z2 := KExt.cell HEV.out.c2; have z3 := KExt.cell HEV.out.c3; have z4 := KExt.cell HEV.out.c4
      refine region_kept (wr.alloc (.cells #[.int .i64 x.ea, .int .i64 x.ef, .string x.path, .bool x.clear_, .bool x.leave] 51)) (by kernel_rfl) (by kernel_rfl) (Kept.refl _) ?_
      repeat (go_big_quiet_step (fail))
      refine wpQuiet_nil ?_
      intro G
      clear z0 z1 z2 z3 z4
      obtain ⟨a, ha, hae⟩ := third x.ea
      obtain ⟨b, hb, hbe⟩ := third x.ef
      rw [hae, hbe]
      clear hae hbe
      obtain ⟨W5, hW5⟩ : ∃ W5, G.w = W5 := ⟨_, rfl⟩
      have hk5 := HKA.out.trans G.g
      have hev5 := HEV.out.kept G.g
      rw [hW5] at hk5 hev5 ⊢
      have HK5 := Lib.hid hk5
      have HE5 := Lib.hid hev5
      have har5 := HAR.out.kept hk5
      have HAR5 := Lib.hid har5
      obtain ⟨Aa, na, ca, Ba, ma, ka, Da, pa, qa, s0, s1, s2, hsa⟩ := har5.st a ha
      obtain ⟨Ab, nb, cb, Bb, mb, kb, Db, pb, qb, r0, r1, r2, hsb⟩ := har5.st b hb
      have HSA := Lib.hid hsa; have HSB := Lib.hid hsb
      have hfa := HINV.out.few ha; have hfb := HINV.out.few hb
      have HOA := Lib.hid (HINV.out.ord a ha); have HOB := Lib.hid (HINV.out.ord b hb)
      have hna : na ≤ 100000 := by have := hsa.el.1; omega
      have hnb : nb ≤ 100000 := by have := hsb.el.1; omega
      have hpa : pa ≤ 100000 := by have := hsa.dl.1; omega
      have hpb : pb ≤ 100000 := by have := hsb.dl.1; omega
      have HFA := Lib.hid hfa; have HFB := Lib.hid hfb
      clear hk5 hev5 har5 hsa hsb hfa hfb hW5 G
      have S0 := KExt.cell s0; have S1 := KExt.cell s1; have S2 := KExt.cell s2; have R0 := KExt.cell r0; have R1 := KExt.cell r1; have R2 := KExt.cell r2
      clear s0 s1 s2 r0 r1 r2
      go_wp2_with fail
      go_cut [8] (fun s8 wx => HasS W5 (Joined (p a) (p b)) s8 wx)
      case first =>
        refine region_plan W5 9 (.read [0, 1, 2, 3, 4, 5] (.two 6 (.one 7 (.one 8 .stop)) 7 (.one 6 (.one 8 .stop)))) (by kernel_rfl) (by kernel_rfl) (by kernel_rfl) (by kernel_rfl) (by kernel_rfl) (fun _ d _ _ _ h => by cases d <;> exact h) (Kept.refl _) ?_
        intro wd hwd
        have HV := Lib.hid hwd
        clear hwd
        rw [wpPlan_read]
        simp only [pickOps_cons, pickOps_nil, consO_some, List.getElem?_cons_zero, List.getElem?_cons_succ]
        repeat (go_big_quiet_step (fail))
        refine wpQuiet_nil ?_
        clear S0 S1 S2 R0 R1 R2
        rw [wpPlan_two]
        simp only [pickOps_cons, pickOps_nil, consO_some, List.getElem?_cons_zero, List.getElem?_cons_succ]
        constructor
        · go_wp2_with (go_at_call 23; refine (rjoin_st Aa na ca Ba ma ka Da pa qa (p a) Ab nb cb Bb mb kb Db pb qb (p b) _ (HSA.out.kept HV.out) (HSB.out.kept HV.out) HOA.out HOB.out hna hpa hnb hpb).mono ?_; rintro e w6 ⟨A6, n6, c6, B6, m6, k6, D6, p6, q6, s, rfl, hs6, hj6, hk6⟩)
          have HV6 := Lib.hid (HV.out.trans hk6)
          have HS6 := Lib.hid hs6; have HJ6 := Lib.hid hj6
          clear hs6 hj6 hk6
          refine soloP HV6.out ?_
          rw [wpPlan_one]
          simp only [pickOps_cons, pickOps_nil, consO_some, List.getElem?_cons_zero, List.getElem?_cons_succ]
          go_wp2_with fail
          have hk7 := (Kept.refl w6).alloc #[.slice A6 n6 c6, .slice B6 m6 k6, .slice D6 p6 q6] 31
          have hb7 := Box3.new w6 (.slice A6 n6 c6) (.slice B6 m6 k6) (.slice D6 p6 q6) 31
          have HF := Lib.hid (show HasS W5 (Joined (p a) (p b)) (.pointer (some ⟨w6.heap.size, 0, none⟩)) (w6.alloc (.cells #[.slice A6 n6 c6, .slice B6 m6 k6, .slice D6 p6 q6] 31)) from ⟨w6.heap.size, A6, n6, c6, B6, m6, k6, D6, p6, q6, s, rfl, HV6.out.2.2, HV6.out.trans hk7, hb7, HS6.out.kept hk7, HJ6.out⟩)
          clear hk7 hb7
          refine soloP (HV6.out.alloc _ _) ?_
          rw [wpPlan_one]
          simp only [pickOps_cons, pickOps_nil, consO_some, List.getElem?_cons_zero, List.getElem?_cons_succ]
          go_wp2_with fail
          refine soloP (HV6.out.alloc _ _) ?_
          refine wpPlan_stop ?_
          go_wp2_with fail
          go_meet
          exact HF.out
        · go_wp2_with fail
          have hk7 := (Kept.refl wd).alloc #[.slice none 0 0, .slice none 0 0, .slice none 0 0] 31
          have HB7 := Lib.hid (Box3.new wd (.slice none 0 0) (.slice none 0 0) (.slice none 0 0) 31)
          obtain ⟨w7, hw7⟩ : ∃ w7, wd.alloc (.cells #[.slice none 0 0, .slice none 0 0, .slice none 0 0] 31) = w7 := ⟨_, rfl⟩
          have hv7 := HV.out.trans hk7
          obtain ⟨b7, hb7⟩ : ∃ b7, wd.heap.size = b7 := ⟨_, rfl⟩
          have HL7 := Lib.hid (show W5.heap.size ≤ b7 by rw [← hb7]; exact HV.out.2.2)
          rw [hw7] at hv7 HB7 ⊢
          rw [hb7] at HB7 ⊢
          have HV7 := Lib.hid hv7
          clear hk7 hv7 hw7 hb7
          refine soloP HV7.out ?_
          rw [wpPlan_one]
          simp only [pickOps_cons, pickOps_nil, consO_some, List.getElem?_cons_zero, List.getElem?_cons_succ]
          go_wp2_with (go_at_call 23; refine (rjoin_st Aa na ca Ba ma ka Da pa qa (p a) Ab nb cb Bb mb kb Db pb qb (p b) _ (HSA.out.kept HV7.out) (HSB.out.kept HV7.out) HOA.out HOB.out hna hpa hnb hpb).mono ?_; rintro e w6 ⟨A6, n6, c6, B6, m6, k6, D6, p6, q6, s, rfl, hs6, hj6, hk6⟩)
          have HV6 := Lib.hid (HV7.out.trans hk6)
          have hb := HB7.out.kept hk6
          have e0 := hb.c0; have e1 := hb.c1; have e2 := hb.c2; have ef0 := hb.f 0; have ef1 := hb.f 1; have ef2 := hb.f 2
          have HF := Lib.hid (hasS_set (W := W5) (S := Joined (p a) (p b)) hs6 hb HL7.out HV6.out hj6)
          have hl7 := HL7.out
          clear hs6 hj6 hk6 hb
          refine soloP HV6.out ?_
          rw [wpPlan_one]
          simp only [pickOps_cons, pickOps_nil, consO_some, List.getElem?_cons_zero, List.getElem?_cons_succ]
          go_wp2_with fail
          refine soloP (((HV6.out.setCell hl7 _).setCell hl7 _).setCell hl7 _) ?_
          refine wpPlan_stop ?_
          clear e0 e1 e2 ef0 ef1 ef2
          go_wp2_with fail
          go_meet
          exact HF.out
      case rest =>
        clear S0 S1 S2 R0 R1 R2
        obtain ⟨b8, A8, n8, c8, B8, m8, k8, D8, p8, q8, s, rfl, hb8, hk8, hbx, hst, hjs⟩ := hcut
        have HJ := Lib.hid hjs.1
        have HOS := Lib.hid (hjs.1.ord HOA.out HOB.out)
        have hsl : s.L.length ≤ 240 := by have := hjs.2.1; have := HFA.out; have := HFB.out; omega
        have hsc : s.C.length ≤ 240 := by have := hjs.2.2; have := HFA.out; have := HFB.out; omega
        have hn8 : n8 ≤ 240 := by have := hst.el.1; omega
        have hp8 : p8 ≤ 240 := by have := hst.dl.1; omega
        have HB8 := Lib.hid hbx; have HST := Lib.hid hst; have HK8 := Lib.hid (HK5.out.trans hk8)
        have HE8 := Lib.hid (HE5.out.kept hk8); have HAR8 := Lib.hid (HAR5.out.kept hk8)
        have HLB := Lib.hid (show wr.heap.size ≤ b8 from Nat.le_trans HK5.out.2.2 hb8)
        have HLE := Lib.hid (show wr.heap.size < b8 from Nat.lt_of_lt_of_le (World.block_lt_of_cell? _ _ HE5.out.c0) hb8)
        have x0 := hbx.c0; have x1 := hbx.c1; have x2 := hbx.c2
        obtain ⟨mo, hmo⟩ : ∃ mo, mostC s.V s.C a = mo := ⟨_, rfl⟩
        have hmb := most_bd HOS.out.ctx (a : Int)
        rw [hmo] at hmb
        have AM := Lib.hid (rmost_any B8 m8 k8 s.V D8 p8 q8 s.C a _ hst.il hst.dl)
        rw [hmo] at AM
        have hwrap : IntKind.i64.wrap (mo + 1) = mo + 1 := by rw [IntWalk.i64_in _ (by omega)]
        have hnd : nextD s a = ((a : Int), mo + 1) := by unfold nextD; rw [hmo]
        have HND := Lib.hid hnd
        have HL5 := Lib.hid hb8; have HK58 := Lib.hid hk8; have HFEW := Lib.hid hsl
        clear hb8 hk8 hbx hst hjs hmo hnd
        go_wp2_with fail
        go_at_call 24
        refine AM.out.mono ?_
        rintro e w9 ⟨rfl, hk9⟩
        have HK9 := Lib.hid (HK8.out.trans hk9)
        have HD9 := Lib.hid (show b8 < w9.heap.size from Nat.lt_of_lt_of_le HB8.out.lt hk9.2.2)
        have hb9 := HB8.out.kept hk9
        have hka := (Kept.refl w9).alloc #[.int .i64 (a : Int), .int .i64 (mo + 1)] 43
        have HKA9 := Lib.hid (hk9.trans hka)
        have hbA := hb9.kept hka
        have y0 := hbA.c0; have y1 := hbA.c1; have y2 := hbA.c2
        have hevA := HE8.out.kept (hk9.trans hka)
        have y3 := hevA.c2
        have HDT := Lib.hid (Box2.new w9 (.int .i64 (a : Int)) (.int .i64 (mo + 1)) 43)
        have hszx : ∀ y ∈ s.L, y.p.size ≤ 1099511627776 := fun y hy => by
          have hr : rightE y = true := by
            rcases HJ.out.from_ hy with h1 | h1
            · exact (HINV.out.ent a ha y h1).1
            · exact (HINV.out.ent b hb y h1).1
          have := rightS_size (rightE_of.1 hr).2.1
          omega
        have hpx := rightS_size HPX.out
        have AA := Lib.hid (rat_any A8 n8 c8 s.L (.slice B8 m8 k8) (.slice D8 p8 q8) x.path _ (HST.out.el.kept HKA9.out) (by omega) hszx (by omega))
        obtain ⟨at_, hat⟩ : ∃ at_, atE s.L x.path = at_ := ⟨_, rfl⟩
        rw [hat] at AA
        have HAT := Lib.hid hat
        have hatl : at_.length ≤ 240 := by rw [← hat]; exact Nat.le_trans (List.length_filter_le ..) hsl
        clear hk9 hb9 hka hbA hevA hszx hpx hat hmb hwrap x0 x1 x2
        have hwrap : IntKind.i64.wrap (mo + 1) = mo + 1 := by have := most_bd HOS.out.ctx (a : Int); have e := HND.out; unfold nextD at e; simp only [Prod.mk.injEq] at e; rw [IntWalk.i64_in _ (by omega)]
        go_wp2_with fail
        go_at_call 25
        refine AA.out.mono ?_
        rintro e w10 ⟨A10, c10, rfl, he10, hk10⟩
        clear y0 y1 y2 y3 hwrap
        have HK10 := Lib.hid (HKA9.out.trans hk10)
        have HE10 := Lib.hid (HE8.out.kept HK10.out)
        have HB10 := Lib.hid (HB8.out.kept HK10.out)
        have HDT10 := Lib.hid (HDT.out.kept hk10)
        have HEL := Lib.hid he10
        have HDL := Lib.hid (show w9.heap.size < w10.heap.size by have := hk10.2.2; simp at this; omega)
        have hcp := he10.cap.1; have hcp2 := he10.cap.2
        clear he10 hk10
        obtain ⟨cl, hcl⟩ : ∃ cl, x.clear_ = cl := ⟨_, rfl⟩
        have HCL := Lib.hid hcl
        clear hcl
        go_wp2_with fail
        go_loopw [10, 49] (fun v vi wi => ∃ u : Nat, u ≤ at_.length ∧ vi = .int .i64 u ∧ OutD w10 wi v (goneOf cl (at_.take u))) (fun _ vi _ => at_.length - (intOf vi).toNat)
        case atStart => exact ⟨0, Nat.zero_le _, rfl, by rw [List.take_zero]; cases cl <;> exact OutD.start w10⟩
        case round =>
          obtain ⟨u, hu, rfl, hm⟩ := hrel
          obtain ⟨A3, c3, rfl, hc3, hcm3, hel3⟩ := hm.form
          have HO := Lib.hid hm
          have HD3 := Lib.hid hel3
          clear hm hel3
          by_cases hul : u < at_.length
          · obtain ⟨g2, o2, y, hgy, hy, EY⟩ := (HEL.out.kept HO.out.ke).get hul
            subst hgy
            have y0 := EY.c0; have y1 := EY.c1; have y2 := EY.c2; have y3 := EY.c3; have y4 := EY.c4; have y5 := EY.c5; have y6 := EY.c6; have y7 := EY.c7; have y8 := EY.c8
            have HY := Lib.hid hy
            have hkb := (Kept.refl wr).alloc #[.int .i64 y.d.1, .int .i64 y.d.2, .string y.p, .int .i64 y.k, .int .i64 y.vk, .int .i64 y.vn, .string y.vt, .int .i64 y.e.1, .int .i64 y.e.2] 47
            have HKB := Lib.hid hkb
            have ev := HE10.out.kept (HO.out.ke.trans hkb)
            have z3 := ev.c3
            rw [HCL.out] at z3
            clear EY hy hkb ev
            cases cl with
            | false =>
              go_wp2_with fail
              go_roundw
              case rel => exact ⟨u + 1, hul, by go_num, HO.out.kept HKB.out⟩
              case measure => simp [intOf]; omega
            | true =>
              have HN := Lib.hid (goneOf_put HY.out)
              have hle : (goneOf true (at_.take u)).length ≤ 1000000 := Nat.le_trans (goneOf_len _ _) (by rw [List.length_take]; omega)
              obtain ⟨v5, w5, hr5, ho5⟩ := (HO.out.kept HKB.out).put hle y.d.1 y.d.2
              rw [show (wr.alloc (.cells #[.int .i64 y.d.1, .int .i64 y.d.2, .string y.p, .int .i64 y.k, .int .i64 y.vk, .int .i64 y.vn, .string y.vt, .int .i64 y.e.1, .int .i64 y.e.2] 47)).heap.size = wr.heap.size + 1 by simp] at hr5
              have HR5 := Lib.hid hr5
              have HO5 := Lib.hid ho5
              have ey := Ent.new wr y 47
              have q0 := ey.c0; have q1 := ey.c1
              clear hr5 ho5 hle ey
              go_wp2_with (at_builtin; refine Lib.wpList_append_run _ rfl (.tmp 55) (.tmp 58) _ _ rfl _ _ rfl rfl _ _ HR5.out ?_)
              go_roundw
              case rel => exact ⟨u + 1, hul, by go_num, by rw [HN.out]; exact HO5.out⟩
              case measure => simp [intOf]; omega
          · obtain rfl : u = at_.length := by omega
            have hG : goneOf cl (at_.take at_.length) = goneOf cl at_ := by rw [List.take_length]
            rw [hG] at HO HD3 hc3 ⊢
            clear hG
            obtain ⟨Gd, hGd⟩ : ∃ Gd, goneOf cl at_ = Gd := ⟨_, rfl⟩
            rw [hGd] at HO HD3 hc3 ⊢
            have HGK := Lib.hid (show ∀ d ∈ Gd, s.has d by rw [← hGd, ← HAT.out]; exact goneOf_known HOS.out cl x.path)
            have hGl : Gd.length ≤ 240 := by rw [← hGd]; exact Nat.le_trans (goneOf_len _ _) hatl
            have HKI := Lib.hid HO.out.ke
            have HBI := Lib.hid (HB10.out.kept HKI.out); have HEI := Lib.hid (HE10.out.kept HKI.out); have HDI := Lib.hid (HDT10.out.kept HKI.out)
            have HKX := Lib.hid (HK10.out.trans HKI.out)
            clear hGd
            go_wp2_with fail
            have HST10 := Lib.hid (HST.out.kept HK10.out)
            have hx2 := HINV.out.next ha hb HJ.out
            have hrd := right_next HND.out hx2.1 hx2.2.1 ha (by omega)
            have HRD := Lib.hid hrd
            have hb9 : b8 ≠ w9.heap.size := by have := HD9.out; omega
            have D0 := KExtE.cell (b := b8) (Ne.symm hb9) HDT10.out.c0
            have D1 := KExtE.cell (b := b8) (Ne.symm hb9) HDT10.out.c1
            clear hx2 hrd
            go_cut [8] (fun s8 wx => HasT b8 w10 (fun q => Made s ((a : Int), mo + 1) x.path t q ∧ (∀ y ∈ q.L, y ∈ s.L) ∧ q.C.length ≤ 990 ∧ q.L.length ≤ s.L.length) s8 wx)
            case first =>
              refine region_planE b8 w10 7 (.read [1, 2] (.two 0 (.one 3 (.one 4 (.one 5 (.one 6 .stop)))) 3 (.two 0 (.one 4 (.one 5 (.one 6 .stop))) 4 (.one 0 (.one 5 (.one 6 .stop)))))) (by kernel_rfl) (by kernel_rfl) (by kernel_rfl) (by kernel_rfl) (by kernel_rfl) (fun _ d _ _ _ h => by cases d <;> exact h) HO.out.ke ?_
              intro wd hwd
              have HOD := Lib.hid (HO.out.kept hwd)
              have HBD := Lib.hid (HB10.out.kept HOD.out.ke)
              clear hwd
              rw [wpPlan_read]
              simp only [pickOps_cons, pickOps_nil, consO_some, List.getElem?_cons_zero, List.getElem?_cons_succ]
              repeat (go_big_quiet_step (fail))
              refine wpQuiet_nil ?_
              clear D0 D1
              obtain ⟨v5, w5, hr5, ho5⟩ := HOD.out.put (by omega) (a : Int) (mo + 1)
              obtain ⟨A5, c5, rfl, hc5, hcm5, hd5⟩ := ho5.form
              obtain ⟨N5, hN5⟩ : ∃ N5, (Gd ++ [((a : Int), mo + 1)]).length = N5 := ⟨_, rfl⟩
              have hl5 : N5 ≤ 241 := by rw [← hN5, List.length_append]; simp only [List.length_cons, List.length_nil]; omega
              rw [hN5] at hr5 hd5 hc5
              have HO5 := Lib.hid ho5
              have HR5 := Lib.hid hr5
              have HD5 := Lib.hid hd5
              clear hN5
              have hka := (Kept.refl wd).alloc #[.int .i64 (a : Int), .int .i64 (mo + 1)] 43
              have HKA := Lib.hid hka
              have HBA := Lib.hid (HBD.out.kept hka)
              have HB5 := Lib.hid (HB10.out.kept ho5.ke)
              have HST5 := Lib.hid (HST10.out.kept ho5.ke)
              clear hr5 ho5 hd5 hka
              rw [wpPlan_two]
              simp only [pickOps_cons, pickOps_nil, consO_some, List.getElem?_cons_zero, List.getElem?_cons_succ]
              constructor
              · have p0 := HBD.out.c0; have p1 := HBD.out.c1; have p2 := HBD.out.c2
                go_wp2_with fail
                refine soloE (.of HOD.out.ke) ?_
                clear p0 p1 p2
                rw [wpPlan_one]
                simp only [pickOps_cons, pickOps_nil, consO_some, List.getElem?_cons_zero, List.getElem?_cons_succ]
                go_wp2_with fail
                refine soloE (.of (HOD.out.ke.trans HKA.out)) ?_
                rw [wpPlan_one]
                simp only [pickOps_cons, pickOps_nil, consO_some, List.getElem?_cons_zero, List.getElem?_cons_succ]
                go_wp2_with (at_builtin; refine Lib.wpList_append_run _ rfl (.tmp 62) (.tmp 64) _ _ rfl _ _ rfl rfl _ _ HR5.out ?_)
                refine soloE (.of HO5.out.ke) ?_
                rw [wpPlan_one]
                simp only [pickOps_cons, pickOps_nil, consO_some, List.getElem?_cons_zero, List.getElem?_cons_succ]
                go_wp2_with (go_at_call 26; refine (rwithout_any A8 n8 c8 s.L B8 m8 k8 s.V D8 p8 q8 s.C A5 N5 c5 (Gd ++ [((a : Int), mo + 1)]) _ (HST5.out.el) (HST5.out.il) (HST5.out.dl) HD5.out HOS.out.ctx (by omega) (by omega) (by omega)).mono ?_; rintro e w6 ⟨A6, n6, c6, B6, m6, k6, D6, p6, q6, V6, C6, rfl, he6, hi6, hd6, hs6, hm6, hk6⟩)
                have hb6 := HB5.out.kept hk6
                have e0 := hb6.c0; have e1 := hb6.c1; have e2 := hb6.c2; have ef0 := hb6.f 0; have ef1 := hb6.f 1; have ef2 := hb6.f 2
                have HK6 := Lib.hid (HO5.out.ke.trans hk6)
                have hc6 : C6.length ≤ 990 := by have := hd6.1; omega
                have HF := Lib.hid (hasT_set (W := w10) (S := fun q => Made s ((a : Int), mo + 1) x.path t q ∧ (∀ y ∈ q.L, y ∈ s.L) ∧ q.C.length ≤ 990 ∧ q.L.length ≤ s.L.length) (s := ⟨outE s.L (Gd ++ [((a : Int), mo + 1)]), V6, C6⟩) ⟨he6, hi6, hd6⟩ hb6 (.of HK6.out) (made_out HOS.out HGK.out HRD.out hs6 hc6))
                have HK6E := Lib.hid ((((KeptE.of (G := b8) HK6.out).set (a := ⟨b8, 0, none⟩) (.inl rfl) (.slice A6 n6 c6)).set (a := ⟨b8, 1, none⟩) (.inl rfl) (.slice B6 m6 k6)).set (a := ⟨b8, 2, none⟩) (.inl rfl) (.slice D6 p6 q6))
                clear he6 hi6 hd6 hs6 hm6 hk6 hb6 hc6
                refine soloE (.of HK6.out) ?_
                rw [wpPlan_one]
                simp only [pickOps_cons, pickOps_nil, consO_some, List.getElem?_cons_zero, List.getElem?_cons_succ]
                go_wp2_with fail
                refine soloE HK6E.out ?_
                refine wpPlan_stop ?_
                clear e0 e1 e2 ef0 ef1 ef2
                go_wp2_with fail
                go_meet
                exact HF.out
              · go_wp2_with fail
                refine soloE (.of (HOD.out.ke.trans HKA.out)) ?_
                rw [wpPlan_two]
                simp only [pickOps_cons, pickOps_nil, consO_some, List.getElem?_cons_zero, List.getElem?_cons_succ]
                constructor
                · have p0 := HBA.out.c0; have p1 := HBA.out.c1; have p2 := HBA.out.c2
                  go_wp2_with fail
                  refine soloE (.of (HOD.out.ke.trans HKA.out)) ?_
                  clear p0 p1 p2
                  rw [wpPlan_one]
                  simp only [pickOps_cons, pickOps_nil, consO_some, List.getElem?_cons_zero, List.getElem?_cons_succ]
                  go_wp2_with (at_builtin; refine Lib.wpList_append_run _ rfl (.tmp 62) (.tmp 64) _ _ rfl _ _ rfl rfl _ _ HR5.out ?_)
                  refine soloE (.of HO5.out.ke) ?_
                  rw [wpPlan_one]
                  simp only [pickOps_cons, pickOps_nil, consO_some, List.getElem?_cons_zero, List.getElem?_cons_succ]
                  go_wp2_with (go_at_call 26; refine (rwithout_any A8 n8 c8 s.L B8 m8 k8 s.V D8 p8 q8 s.C A5 N5 c5 (Gd ++ [((a : Int), mo + 1)]) _ (HST5.out.el) (HST5.out.il) (HST5.out.dl) HD5.out HOS.out.ctx (by omega) (by omega) (by omega)).mono ?_; rintro e w6 ⟨A6, n6, c6, B6, m6, k6, D6, p6, q6, V6, C6, rfl, he6, hi6, hd6, hs6, hm6, hk6⟩)
                  have hb6 := HB5.out.kept hk6
                  have e0 := hb6.c0; have e1 := hb6.c1; have e2 := hb6.c2; have ef0 := hb6.f 0; have ef1 := hb6.f 1; have ef2 := hb6.f 2
                  have HK6 := Lib.hid (HO5.out.ke.trans hk6)
                  have hc6 : C6.length ≤ 990 := by have := hd6.1; omega
                  have HF := Lib.hid (hasT_set (W := w10) (S := fun q => Made s ((a : Int), mo + 1) x.path t q ∧ (∀ y ∈ q.L, y ∈ s.L) ∧ q.C.length ≤ 990 ∧ q.L.length ≤ s.L.length) (s := ⟨outE s.L (Gd ++ [((a : Int), mo + 1)]), V6, C6⟩) ⟨he6, hi6, hd6⟩ hb6 (.of HK6.out) (made_out HOS.out HGK.out HRD.out hs6 hc6))
                  have HK6E := Lib.hid ((((KeptE.of (G := b8) HK6.out).set (a := ⟨b8, 0, none⟩) (.inl rfl) (.slice A6 n6 c6)).set (a := ⟨b8, 1, none⟩) (.inl rfl) (.slice B6 m6 k6)).set (a := ⟨b8, 2, none⟩) (.inl rfl) (.slice D6 p6 q6))
                  clear he6 hi6 hd6 hs6 hm6 hk6 hb6 hc6
                  refine soloE (.of HK6.out) ?_
                  rw [wpPlan_one]
                  simp only [pickOps_cons, pickOps_nil, consO_some, List.getElem?_cons_zero, List.getElem?_cons_succ]
                  go_wp2_with fail
                  refine soloE HK6E.out ?_
                  refine wpPlan_stop ?_
                  clear e0 e1 e2 ef0 ef1 ef2
                  go_wp2_with fail
                  go_meet
                  exact HF.out
                · go_wp2_with (at_builtin; refine Lib.wpList_append_run _ rfl (.tmp 62) (.tmp 64) _ _ rfl _ _ rfl rfl _ _ HR5.out ?_)
                  refine soloE (.of HO5.out.ke) ?_
                  rw [wpPlan_one]
                  simp only [pickOps_cons, pickOps_nil, consO_some, List.getElem?_cons_zero]
                  have p0 := HB5.out.c0; have p1 := HB5.out.c1; have p2 := HB5.out.c2
                  go_wp2_with fail
                  refine soloE (.of HO5.out.ke) ?_
                  clear p0 p1 p2
                  rw [wpPlan_one]
                  simp only [pickOps_cons, pickOps_nil, consO_some, List.getElem?_cons_zero, List.getElem?_cons_succ]
                  go_wp2_with (go_at_call 26; refine (rwithout_any A8 n8 c8 s.L B8 m8 k8 s.V D8 p8 q8 s.C A5 N5 c5 (Gd ++ [((a : Int), mo + 1)]) _ (HST5.out.el) (HST5.out.il) (HST5.out.dl) HD5.out HOS.out.ctx (by omega) (by omega) (by omega)).mono ?_; rintro e w6 ⟨A6, n6, c6, B6, m6, k6, D6, p6, q6, V6, C6, rfl, he6, hi6, hd6, hs6, hm6, hk6⟩)
                  have hb6 := HB5.out.kept hk6
                  have e0 := hb6.c0; have e1 := hb6.c1; have e2 := hb6.c2; have ef0 := hb6.f 0; have ef1 := hb6.f 1; have ef2 := hb6.f 2
                  have HK6 := Lib.hid (HO5.out.ke.trans hk6)
                  have hc6 : C6.length ≤ 990 := by have := hd6.1; omega
                  have HF := Lib.hid (hasT_set (W := w10) (S := fun q => Made s ((a : Int), mo + 1) x.path t q ∧ (∀ y ∈ q.L, y ∈ s.L) ∧ q.C.length ≤ 990 ∧ q.L.length ≤ s.L.length) (s := ⟨outE s.L (Gd ++ [((a : Int), mo + 1)]), V6, C6⟩) ⟨he6, hi6, hd6⟩ hb6 (.of HK6.out) (made_out HOS.out HGK.out HRD.out hs6 hc6))
                  have HK6E := Lib.hid ((((KeptE.of (G := b8) HK6.out).set (a := ⟨b8, 0, none⟩) (.inl rfl) (.slice A6 n6 c6)).set (a := ⟨b8, 1, none⟩) (.inl rfl) (.slice B6 m6 k6)).set (a := ⟨b8, 2, none⟩) (.inl rfl) (.slice D6 p6 q6))
                  clear he6 hi6 hd6 hs6 hm6 hk6 hb6 hc6
                  refine soloE (.of HK6.out) ?_
                  rw [wpPlan_one]
                  simp only [pickOps_cons, pickOps_nil, consO_some, List.getElem?_cons_zero, List.getElem?_cons_succ]
                  go_wp2_with fail
                  refine soloE HK6E.out ?_
                  refine wpPlan_stop ?_
                  clear e0 e1 e2 ef0 ef1 ef2
                  go_wp2_with fail
                  go_meet
                  exact HF.out
            case rest =>
              clear D0 D1
              obtain ⟨rfl, hke, A7, n7, c7, B7, m7, k7, D7, p7, q7, m, hb7, hst7, hmade, hml, hmc, hmL2⟩ := hcut
              have hkw := hke.kept (HK58.out.trans HK10.out) HL5.out
              have HKW5 := Lib.hid hkw
              have ev := HE5.out.kept hkw
              have z2 := ev.c2; have z4 := ev.c4
              have d0 := hke.cell (Ne.symm hb9) HDT10.out.c0; have d1 := hke.cell (Ne.symm hb9) HDT10.out.c1
              obtain ⟨lv, hlv⟩ : ∃ lv, x.leave = lv := ⟨_, rfl⟩
              rw [hlv] at z4
              have HB7 := Lib.hid hb7; have HST7 := Lib.hid hst7; have HMADE := Lib.hid hmade
              clear hlv ev hkw hke hb7 hst7 hmade
              cases lv with
              | false =>
                clear hml hmc hmL2 d0 d1 z2
                have hbb := HB7.out
                have har := HAR.out.kept (HK5.out.trans HKW5.out)
                have e0 := hbb.c0; have e1 := hbb.c1; have e2 := hbb.c2
                obtain ⟨Aw, nw, cw, Bw, mw, kw, Dw, pw, qw, g0, g1, g2, -⟩ := har.st a ha
                have f0 := har.f (a * 3); have f1 := har.f (a * 3 + 1); have f2 := har.f (a * 3 + 2)
                have HARS := Lib.hid (har.set ha (s := m) HST7.out)
                have HEU := Lib.hid (((((HE.out.trans (HK5.out.trans HKW5.out)).set (a := ⟨w.heap.size + 1, a * 3, none⟩) (.inl rfl) (.slice A7 n7 c7)).set (a := ⟨w.heap.size + 1, a * 3 + 1, none⟩) (.inl rfl) (.slice B7 m7 k7)).set (a := ⟨w.heap.size + 1, a * 3 + 2, none⟩) (.inl rfl) (.slice D7 p7 q7)))
                have HSTEP := Lib.hid (HINV.out.step (by omega) ha hb HJ.out x.path (t : Int) HPX.out (by omega) (n := m) HMADE.out.ord (fun e => by rw [HND.out]; exact HMADE.out.has e) (fun y hy => by rw [HND.out]; exact HMADE.out.mem y hy))
                clear hbb har
                go_wp2_with fail
                go_roundw
                case rel => exact ⟨t + 1, upd p a m, hlt, by go_num, HEU.out, HARS.out, HSTEP.out⟩
                case measure => simp [intOf]; omega

              | true =>
                have hmL : m.L.length ≤ 245 := by have := HMADE.out.lenL; have := HFEW.out; omega
                have hn7 : n7 ≤ 10000 := by have := HST7.out.el.1; omega
                have hp7 : p7 ≤ 10000 := by have := HST7.out.dl.1; omega
                have AW := Lib.hid (rwith_any A7 n7 c7 m.L B7 m7 k7 m.V D7 p7 q7 m.C (leftE ((a : Int), mo + 1) x.path (t : Int)) _ HST7.out.el HST7.out.il HST7.out.dl HMADE.out.ord.rise HMADE.out.ord.ctx hn7 hp7)
                have e0 := HB7.out.c0; have e1 := HB7.out.c1; have e2 := HB7.out.c2
                go_wp2_with fail
                go_at_call 27
                refine AW.out.mono ?_
                rintro e w17 ⟨A6, n6, c6, B6, m6, k6, D6, p6, q6, V6, C6, rfl, he6, hi6, hd6, hs6, hm6, hk6⟩
                clear e0 e1 e2 d0 d1 z2 z4
                have hb6 := HB7.out.kept hk6
                have e0 := hb6.c0; have e1 := hb6.c1; have e2 := hb6.c2; have ef0 := hb6.f 0; have ef1 := hb6.f 1; have ef2 := hb6.f 2
                have HMD := Lib.hid (made_with (V := V6) (C := C6) HMADE.out hml hmc hmL2 HRD.out hs6 (by have := hd6.1; have := HST7.out.dl.1; omega))
                have HB18 := Lib.hid (hb6.set3 (.slice A6 n6 c6) (.slice B6 m6 k6) (.slice D6 p6 q6))
                have HST18 := Lib.hid (show Stt (((w17.setCell ⟨b8, 0, none⟩ (.slice A6 n6 c6)).setCell ⟨b8, 1, none⟩ (.slice B6 m6 k6)).setCell ⟨b8, 2, none⟩ (.slice D6 p6 q6)) A6 n6 c6 B6 m6 k6 D6 p6 q6 (withE m.L (leftE ((a : Int), mo + 1) x.path (t : Int))) V6 C6 from ⟨hb6.el _ _ _ he6, hb6.il _ _ _ hi6, hb6.dl _ _ _ hd6⟩)
                have hl5 := HL5.out
                have HK18 := Lib.hid ((((HKW5.out.trans hk6).setCell (a := ⟨b8, 0, none⟩) hl5 (.slice A6 n6 c6)).setCell (a := ⟨b8, 1, none⟩) hl5 (.slice B6 m6 k6)).setCell (a := ⟨b8, 2, none⟩) hl5 (.slice D6 p6 q6))
                clear he6 hi6 hd6 hs6 hm6 hk6 hb6 hml hmc hmL2
                have hbb := HB18.out
                have har := HAR.out.kept (HK5.out.trans HK18.out)
                have e3 := hbb.c0; have e4 := hbb.c1; have e5 := hbb.c2
                obtain ⟨Aw, nw, cw, Bw, mw, kw, Dw, pw, qw, g0, g1, g2, -⟩ := har.st a ha
                have f0 := har.f (a * 3); have f1 := har.f (a * 3 + 1); have f2 := har.f (a * 3 + 2)
                have HARS := Lib.hid (har.set ha (s := ⟨withE m.L (leftE ((a : Int), mo + 1) x.path (t : Int)), V6, C6⟩) HST18.out)
                have HEU := Lib.hid (((((HE.out.trans (HK5.out.trans HK18.out)).set (a := ⟨w.heap.size + 1, a * 3, none⟩) (.inl rfl) (.slice A6 n6 c6)).set (a := ⟨w.heap.size + 1, a * 3 + 1, none⟩) (.inl rfl) (.slice B6 m6 k6)).set (a := ⟨w.heap.size + 1, a * 3 + 2, none⟩) (.inl rfl) (.slice D6 p6 q6)))
                have HSTEP := Lib.hid (HINV.out.step (by omega) ha hb HJ.out x.path (t : Int) HPX.out (by omega) (n := ⟨withE m.L (leftE ((a : Int), mo + 1) x.path (t : Int)), V6, C6⟩) HMD.out.ord (fun e => by rw [HND.out]; exact HMD.out.has e) (fun y hy => by rw [HND.out]; exact HMD.out.mem y hy))
                clear hbb har
                go_wp2_with fail
                go_roundw
                case rel => exact ⟨t + 1, upd p a ⟨withE m.L (leftE ((a : Int), mo + 1) x.path (t : Int)), V6, C6⟩, hlt, by go_num, HEU.out, HARS.out, HSTEP.out⟩
                case measure => simp [intOf]; omega
    · obtain rfl : t = n := by omega
      have har := HAR.out
      obtain ⟨A0, n0, c0, B0, m0, k0, D0, p0, q0, a0, a1, a2, h0⟩ := har.st 0 (by omega)
      obtain ⟨A1, n1, c1, B1, m1, k1, D1, p1, q1, a3, a4, a5, h1⟩ := har.st 1 (by omega)
      obtain ⟨A2, n2, c2, B2, m2, k2, D2, p2, q2, a6, a7, a8, h2⟩ := har.st 2 (by omega)
      simp only [Nat.zero_mul, Nat.zero_add, Nat.one_mul, Nat.reduceMul, Nat.reduceAdd] at a0 a1 a2 a3 a4 a5 a6 a7 a8
      have hz : Arr wr w.heap.size (fun _ => .none) := by
        refine ⟨fun k hk => ?_, fun j => ?_, ?_⟩
        · obtain ⟨A', n', c', B', m', k', D', p', q', g0, g1, g2, gs⟩ := HA0.out.st k hk
          exact ⟨A', n', c', B', m', k', D', p', q', HE.out.cell (by omega) g0, HE.out.cell (by omega) g1, HE.out.cell (by omega) g2, ⟨⟨gs.el.1, gs.el.2.1, gs.el.2.2.1, gs.el.2.2.2.1, .inl gs.el.1⟩, ⟨gs.il.1, gs.il.2.1, gs.il.2.2.1, gs.il.2.2.2.1, .inl gs.il.1⟩, gs.dl.1, gs.dl.2.1, gs.dl.2.2.1, gs.dl.2.2.2.1, .inl gs.dl.1⟩⟩
        · exact HE.out.froz (by omega) HA0.out.lt (HA0.out.f j)
        · exact Nat.lt_of_lt_of_le HA0.out.lt HE.out.size
      obtain ⟨w', hw', g0, g1, g2⟩ := three_put hz h0 h1 h2
      obtain ⟨_, _, _, _, _, _, _, _, _, r0, r1, r2, -⟩ := hz.st 0 (by omega)
      obtain ⟨_, _, _, _, _, _, _, _, _, r3, r4, r5, -⟩ := hz.st 1 (by omega)
      obtain ⟨_, _, _, _, _, _, _, _, _, r6, r7, r8, -⟩ := hz.st 2 (by omega)
      simp only [Nat.zero_mul, Nat.zero_add, Nat.one_mul, Nat.reduceMul, Nat.reduceAdd] at r0 r1 r2 r3 r4 r5 r6 r7 r8
      have f0 := hz.f 0; have f1 := hz.f 1; have f2 := hz.f 2; have f3 := hz.f 3; have f4 := hz.f 4; have f5 := hz.f 5; have f6 := hz.f 6; have f7 := hz.f 7; have f8 := hz.f 8
      have hkw : Kept w w' := by
        rw [← hw']
        exact (((((((((HKW.out.setCell (Nat.le_refl _) _).setCell (Nat.le_refl _) _).setCell (Nat.le_refl _) _).setCell (Nat.le_refl _) _).setCell (Nat.le_refl _) _).setCell (Nat.le_refl _) _).setCell (Nat.le_refl _) _).setCell (Nat.le_refl _) _).setCell (Nat.le_refl _) _)
      have HFIN := Lib.hid (show Plays t w (.returned (.agg #[.slice A0 n0 c0, .slice B0 m0 k0, .slice D0 p0 q0, .slice A1 n1 c1, .slice B1 m1 k1, .slice D1 p1 q1, .slice A2 n2 c2, .slice B2 m2 k2, .slice D2 p2 q2])) w' from ⟨p, A0, n0, c0, B0, m0, k0, D0, p0, q0, A1, n1, c1, B1, m1, k1, D1, p1, q1, A2, n2, c2, B2, m2, k2, D2, p2, q2, rfl, g0, g1, g2, HINV.out, hkw⟩)
      rw [← hw'] at HFIN
      clear hw' g0 g1 g2 hkw h0 h1 h2 hz har
      go_wp2_with fail
      exact bodyPost_ret (by simp [results, Tryz.results8, go_sem, *]) rfl HFIN.out
end Go.Proofs.YtcldbmhjfmbcfaaGreat
