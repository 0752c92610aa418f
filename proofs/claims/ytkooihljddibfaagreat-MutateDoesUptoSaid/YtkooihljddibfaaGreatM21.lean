/-
  What is proved: plain facts on two lists of entries put together as they rise; join.merge, called with any two rows of entries that lie in memory, returns them put together so, in a row of its own; the world has new blocks at most.
  trim of package ctx, called with any slice of ints that lies in memory, returns it without the noughts at its end; the world is left alone.
-/
import Derived.Test.YtkooihljddibfaaGreatM20
import Derived.BigQuiet
import Derived.Laws.MakeOwn
import Derived.IntWalk
import Derived.Test.YtkooihljddibfaaGreatM8
import Derived.WalkMore
import Derived.ScopeJumps
namespace Go.Proofs.YtkooihljddibfaaGreat
open Go.RowKit
set_option linter.unusedVariables false

/-- Two lists put together: the lesser head first. -/
def mergeE : List En → List En → List En
  | [], Y => Y
  | x :: X, [] => x :: X
  | x :: X, y :: Y => if decide (cmpD x.d y.d < 0) then x :: mergeE X (y :: Y) else y :: mergeE (x :: X) Y
termination_by X Y => X.length + Y.length
theorem mergeE_nil (Y : List En) : mergeE [] Y = Y := by unfold mergeE; rfl
theorem mergeE_nil2 (X : List En) : mergeE X [] = X := by
  cases X with
  | nil => exact mergeE_nil []
  | cons x X => unfold mergeE; rfl
theorem mergeE_lt {x y : En} {X Y : List En} (h : cmpD x.d y.d < 0) : mergeE (x :: X) (y :: Y) = x :: mergeE X (y :: Y) := by
  rw [mergeE, if_pos (by simpa using h)]
theorem mergeE_ge {x y : En} {X Y : List En} (h : ¬ cmpD x.d y.d < 0) : mergeE (x :: X) (y :: Y) = y :: mergeE (x :: X) Y := by
  rw [mergeE, if_neg (by simpa using h)]
theorem mergeE_mem : ∀ (X Y : List En) (z : En), z ∈ mergeE X Y ↔ z ∈ X ∨ z ∈ Y
  | [], Y, z => by rw [mergeE_nil]; simp
  | x :: X, [], z => by rw [mergeE_nil2]; simp
  | x :: X, y :: Y, z => by
    by_cases h : cmpD x.d y.d < 0
    · rw [mergeE_lt h, List.mem_cons, mergeE_mem X (y :: Y) z, List.mem_cons, List.mem_cons, or_assoc]
    · rw [mergeE_ge h, List.mem_cons, mergeE_mem (x :: X) Y z, List.mem_cons, List.mem_cons]
      constructor
      · rintro (h | h | h)
        · exact .inr (.inl h)
        · exact .inl h
        · exact .inr (.inr h)
      · rintro (h | h | h)
        · exact .inr (.inl h)
        · exact .inl h
        · exact .inr (.inr h)
termination_by X Y => X.length + Y.length
theorem mergeE_rise : ∀ (X Y : List En), RiseE X → RiseE Y → (∀ x ∈ X, ∀ y ∈ Y, x.d ≠ y.d) → RiseE (mergeE X Y)
  | [], Y, _, h, _ => by rw [mergeE_nil]; exact h
  | x :: X, [], h, _, _ => by rw [mergeE_nil2]; exact h
  | x :: X, y :: Y, hX, hY, hn => by
    obtain ⟨x1, x2⟩ := List.pairwise_cons.1 hX
    obtain ⟨y1, y2⟩ := List.pairwise_cons.1 hY
    by_cases h : cmpD x.d y.d < 0
    · rw [mergeE_lt h]
      refine List.pairwise_cons.2 ⟨fun z hz => ?_, mergeE_rise X (y :: Y) x2 hY fun a ha b hb => hn a (List.mem_cons_of_mem _ ha) b hb⟩
      rcases (mergeE_mem _ _ _).1 hz with hz | hz
      · exact x1 z hz
      · rcases List.mem_cons.1 hz with e | hz
        · rw [e]; exact (cmpD_lt _ _).1 h
        · exact LtD.trans ((cmpD_lt _ _).1 h) (y1 z hz)
    · rw [mergeE_ge h]
      have hyx : LtD y.d x.d := by
        rcases LtD.tri y.d x.d with h1 | h1 | h1
        · exact h1
        · exact absurd h1.symm (hn x (List.mem_cons_self ..) y (List.mem_cons_self ..))
        · exact absurd ((cmpD_lt _ _).2 h1) h
      refine List.pairwise_cons.2 ⟨fun z hz => ?_, mergeE_rise (x :: X) Y hX y2 fun a ha b hb => hn a ha b (List.mem_cons_of_mem _ hb)⟩
      rcases (mergeE_mem _ _ _).1 hz with hz | hz
      · rcases List.mem_cons.1 hz with e | hz
        · rw [e]; exact hyx
        · exact LtD.trans hyx (x1 z hz)
      · exact y1 z hz
termination_by X Y => X.length + Y.length
theorem mergeE_len : ∀ (X Y : List En), (mergeE X Y).length = X.length + Y.length
  | [], Y => by rw [mergeE_nil]; simp
  | x :: X, [] => by rw [mergeE_nil2]; simp
  | x :: X, y :: Y => by
    by_cases h : cmpD x.d y.d < 0
    · rw [mergeE_lt h, List.length_cons, mergeE_len X (y :: Y)]; simp only [List.length_cons]; omega
    · rw [mergeE_ge h, List.length_cons, mergeE_len (x :: X) Y]; simp only [List.length_cons]; omega
termination_by X Y => X.length + Y.length
def slen : Value → Nat
  | .slice _ n _ => n
  | _ => 0
theorem head_drop {X : List En} {x : En} (h : X[0]? = some x) : X = x :: X.drop 1 := by
  cases X with
  | nil => simp at h
  | cons y X => obtain rfl : y = x := by simpa using h
                rfl
theorem make_ens (n : Nat) (hn : n ≤ 1000000) : ∃ cs : Array Value, cs.size = n * 9 ∧
    ∀ W : World, (Instr.makeSlice 22 (.int .i64 0) (.int .i64 (n : Int))).run Tryz.prog W = .ok (.slice (some ⟨W.heap.size, 0, none⟩) 0 n) (W.alloc (.cells cs 34)) := by
  obtain ⟨i0, hi0, hz0, hz1, hz2⟩ := info_parts infoEn
  refine ⟨madeCells (Value.agg #[.int .i64 0, .int .i64 0, .string ⟨#[]⟩, .int .i64 0, .int .i64 0, .int .i64 0, .string ⟨#[]⟩, .int .i64 0, .int .i64 0]).cells (n * 9), size_madeCells _ _, fun W => ?_⟩
  have h := run_make (P := Tryz.prog) W 22 34 i0 (.agg #[.int .i64 0, .int .i64 0, .string ⟨#[]⟩, .int .i64 0, .int .i64 0, .int .i64 0, .string ⟨#[]⟩, .int .i64 0, .int .i64 0]) Tryz.underlying22 hi0 hz0 .i64 .i64 0 (n : Int) (by omega) (by omega) (by rw [hz2]; omega) (by omega)
  rw [hz1, show ((n : Int)).toNat = n by omega] at h
  exact h
theorem made_ens (W : World) (cs : Array Value) (n : Nat) (hn : n ≤ 1000000) (hc : cs.size = n * 9) : OutE W (W.alloc (.cells cs 34)) (.slice (some ⟨W.heap.size, 0, none⟩) 0 n) [] :=
  ⟨World.ownsRow_made W cs n (Nat.le_refl _) (by simp only [maxLen]; omega) hc, (Kept.refl W).alloc _ _⟩
/-- Entries that a call hands back, in a row of its own. -/
def EntsF (L : List En) (w : World) (e : Ending) (w' : World) : Prop := ∃ A c, e = .returned (.slice A L.length c) ∧ El w' A L.length c L ∧ Kept w w' ∧ ∀ ad, A = some ad → w.heap.size ≤ ad.block
theorem el_at {w : World} {b o n c : Nat} {L : List En} {x : En} (h : El w (some ⟨b, o, none⟩) n c L) (hx : L[0]? = some x) : EntO w b o x := by
  have hn : 0 < n := by rw [h.1]; exact (List.getElem?_eq_some_iff.1 hx).1
  obtain ⟨b2, o2, y, e, hy, he⟩ := h.get hn
  obtain ⟨rfl, rfl⟩ : b = b2 ∧ o = o2 := by simpa using e
  obtain rfl := Option.some.inj (hx.symm.trans hy)
  rw [Nat.zero_mul, Nat.add_zero] at he
  exact he

set_option maxRecDepth 100000 in
set_option maxHeartbeats 16000000 in
theorem merge_any (A : Option Addr) (n c : Nat) (L : List En) (B : Option Addr) (m k : Nat) (M : List En) (w : World) (h : El w A n c L) (h' : El w B m k M) (hn : n ≤ 400000) (hm : m ≤ 400000) :
    Calls Tryz.prog 58 #[.slice A n c, .slice B m k] w (EntsF (mergeE L M) w) := by
  obtain ⟨N, hN⟩ : ∃ N, n + m = N := ⟨_, rfl⟩
  obtain ⟨cs, hcs, hmk⟩ := make_ens N (by omega)
  have hsum : IntKind.i64.wrap ((n : Int) + m) = (N : Int) := by rw [IntWalk.i64_in _ (by omega)]; omega
  have HO0 := Lib.hid (made_ens w cs N (by omega) hcs)
  have HNN := Lib.hid hN
  have HL := Lib.hid h; have HM := Lib.hid h'
  have HLN := Lib.hid h.1; have HMN := Lib.hid h'.1
  have hcap := h.cap.1; have hcap2 := h.cap.2; have hcap3 := h'.cap.1; have hcap4 := h'.cap.2
  clear h h' hcs hN
  go_enter Tryz.func58, Tryz.ntmps58
  go_wp2_with fail
  clear hmk hsum
  go_loopw [0, 1, 5] (fun va vb v wr => ∃ A1 n1 c1 X B1 m1 k1 Y Z, va = .slice A1 n1 c1 ∧ vb = .slice B1 m1 k1 ∧ El w A1 n1 c1 X ∧ El w B1 m1 k1 Y ∧ OutE w wr v Z ∧ Z ++ mergeE X Y = mergeE L M ∧ Z.length + n1 + m1 = N) (fun va vb _ _ => slen va + slen vb)
  case atStart => exact ⟨A, n, c, L, B, m, k, M, [], rfl, rfl, HL.out, HM.out, HO0.out, rfl, by simp [HNN.out]⟩
  case round =>
    obtain ⟨A1, n1, c1, X, B1, m1, k1, Y, Z, rfl, rfl, hX, hY, hZ, hZM, hlen⟩ := hrel
    obtain ⟨A3, c3, rfl, hel3, hfr3, hc3, hcm3⟩ := hZ.form
    have HX := Lib.hid hX; have HY := Lib.hid hY; have HZ := Lib.hid hZ; have HZM := Lib.hid hZM; have HLEN := Lib.hid hlen
    have hxc := hX.cap.1; have hxc2 := hX.cap.2; have hyc := hY.cap.1; have hyc2 := hY.cap.2
    have hnn := HNN.out
    have hle1 : n1 ≤ 1000000 := by omega
    have hle2 : m1 ≤ 1000000 := by omega
    have hle3 : Z.length ≤ 1000000 := by omega
    have HXL := Lib.hid hX.1; have HYL := Lib.hid hY.1
    clear hX hY hZ hZM hel3 hfr3 hlen hnn
    by_cases hx : 0 < n1
    · by_cases hy : 0 < m1
      · obtain ⟨b, o, x, rfl, hx0, -⟩ := HX.out.get hx
        obtain ⟨b2, o2, y, rfl, hy0, -⟩ := HY.out.get hy
        have EX := el_at (HX.out.kept HZ.out.ke) hx0
        have EY := el_at (HY.out.kept HZ.out.ke) hy0
        have HXD := Lib.hid (head_drop hx0)
        have HYD := Lib.hid (head_drop hy0)
        have HX0 := Lib.hid hx0; have HY0 := Lib.hid hy0
        have x0 := KExt.cell EX.c0; have x1 := KExt.cell EX.c1; have x2 := KExt.cell EX.c2; have x3 := KExt.cell EX.c3; have x4 := KExt.cell EX.c4; have x5 := KExt.cell EX.c5; have x6 := KExt.cell EX.c6; have x7 := KExt.cell EX.c7; have x8 := KExt.cell EX.c8
        have y0 := KExt.cell EY.c0; have y1 := KExt.cell EY.c1; have y2 := KExt.cell EY.c2; have y3 := KExt.cell EY.c3; have y4 := KExt.cell EY.c4; have y5 := KExt.cell EY.c5; have y6 := KExt.cell EY.c6; have y7 := KExt.cell EY.c7; have y8 := KExt.cell EY.c8
        obtain ⟨z, hz⟩ : ∃ z, cmpD x.d y.d = z := ⟨_, rfl⟩
        have AC := Lib.hid (fun w => ecmp_c x y z hz w)
        have HZZ := Lib.hid hz
        clear EX EY hx0 hy0 hz
        by_cases hz0 : z < 0
        · have hzb : decide (z < 0) = true := by simpa using hz0
          have HC := Lib.hid (show mergeE X Y = x :: mergeE (X.drop 1) Y by rw [HXD.out, HYD.out, mergeE_lt (by rw [HZZ.out]; exact hz0)]; rfl)
          clear hz0
          go_wp2_with fail
          refine region_kept wr (by kernel_rfl) (by kernel_rfl) (Kept.refl _) ?_
          repeat (go_big_quiet_step ((first | (go_at_call 43; (with_reducible exact KExt.callsK (AC.out _))) | fail)))
          refine wpQuiet_nil ?_
          intro G
          clear x0 x1 x2 x3 x4 x5 x6 x7 x8 y0 y1 y2 y3 y4 y5 y6 y7 y8
          have HZ2 := Lib.hid (HZ.out.kept G.g)
          have EX := el_at HX.out HX0.out
          have x0 := KExt.cell EX.c0; have x1 := KExt.cell EX.c1; have x2 := KExt.cell EX.c2; have x3 := KExt.cell EX.c3; have x4 := KExt.cell EX.c4; have x5 := KExt.cell EX.c5; have x6 := KExt.cell EX.c6; have x7 := KExt.cell EX.c7; have x8 := KExt.cell EX.c8
          obtain ⟨A2, ht, hr2, hr3⟩ := el_tail HX.out (show 1 ≤ n1 from hx)
          have hr4 : ∀ W : World, (Instr.slice 22 (.slice (some ⟨b, o, none⟩) n1 c1) (some (.int .i64 1)) none none).run Tryz.prog W = .ok (.slice A2 (n1 - 1) (c1 - 1)) W := hr2
          have hr5 : ∀ W : World, (Instr.sliceAt 22 (.slice (some ⟨b, o, none⟩) n1 c1) (some (.int .i64 1)) none none).run Tryz.prog W = .ok (.slice A2 (n1 - 1) (c1 - 1)) W := hr3
          have HT := Lib.hid ht
          clear EX hr2 hr3 ht
          go_wp2_with fail
          refine region_plan w 10 (.read [0, 1, 2, 3, 6, 7] (.one 4 (.one 5 (.read [8, 9] .stop)))) (by kernel_rfl) (by kernel_rfl) (by kernel_rfl) (by kernel_rfl) (by kernel_rfl) (fun _ d _ _ _ h => by cases d <;> exact h) HZ2.out.ke ?_
          intro wd hwd
          have HZ3 := Lib.hid (HZ2.out.kept hwd)
          clear hwd
          rw [wpPlan_read]
          simp only [pickOps_cons, pickOps_nil, consO_some, List.getElem?_cons_zero, List.getElem?_cons_succ]
          repeat (go_big_quiet_step (fail))
          refine wpQuiet_nil ?_
          rw [wpPlan_one]
          simp only [pickOps_cons, pickOps_nil, consO_some, List.getElem?_cons_zero, List.getElem?_cons_succ]
          go_wp2_with fail
          have hka := (Kept.refl wd).alloc #[.int .i64 x.d.1, .int .i64 x.d.2, .string x.p, .int .i64 x.k, .int .i64 x.vk, .int .i64 x.vn, .string x.vt, .int .i64 x.e.1, .int .i64 x.e.2] 34
          refine soloP (HZ3.out.ke.trans hka) ?_
          obtain ⟨v8, w8, hr8, ho8⟩ := (HZ3.out.kept hka).app _ _ _ _ (el_one (Ent.new wd x 34)) (by omega)
          have HR8 := Lib.hid hr8
          have HO9 := Lib.hid ho8
          clear hr8 ho8 hka
          rw [wpPlan_one]
          simp only [pickOps_cons, pickOps_nil, consO_some, List.getElem?_cons_zero, List.getElem?_cons_succ]
          go_wp2_with (at_builtin; refine Lib.wpList_append_run _ rfl (.tmp 28) (.tmp 32) _ _ rfl _ _ rfl rfl _ _ HR8.out ?_)
          refine soloP HO9.out.ke ?_
          rw [wpPlan_read]
          simp only [pickOps_cons, pickOps_nil, consO_some, List.getElem?_cons_zero, List.getElem?_cons_succ]
          repeat (go_big_quiet_step (fail))
          refine wpQuiet_nil ?_
          refine wpPlan_stop ?_
          clear x0 x1 x2 x3 x4 x5 x6 x7 x8 hr4 hr5
          go_wp2_with fail
          go_roundw
          case rel => exact ⟨A2, n1 - 1, c1 - 1, X.drop 1, _, m1, k1, Y, Z ++ [x], rfl, rfl, HT.out, HY.out, HO9.out, by rw [List.append_assoc, ← HZM.out, HC.out]; rfl, by have := HLEN.out; rw [List.length_append]; simp only [List.length_cons, List.length_nil]; omega⟩
          case measure => simp [slen]; omega
        · have hzb : decide (z < 0) = false := by simpa using hz0
          have HC := Lib.hid (show mergeE X Y = y :: mergeE X (Y.drop 1) by rw [HXD.out, HYD.out, mergeE_ge (by rw [HZZ.out]; exact hz0)]; rfl)
          clear hz0
          go_wp2_with fail
          refine region_kept wr (by kernel_rfl) (by kernel_rfl) (Kept.refl _) ?_
          repeat (go_big_quiet_step ((first | (go_at_call 43; (with_reducible exact KExt.callsK (AC.out _))) | fail)))
          refine wpQuiet_nil ?_
          intro G
          clear x0 x1 x2 x3 x4 x5 x6 x7 x8 y0 y1 y2 y3 y4 y5 y6 y7 y8
          have HZ2 := Lib.hid (HZ.out.kept G.g)
          have EY := el_at HY.out HY0.out
          have y0 := KExt.cell EY.c0; have y1 := KExt.cell EY.c1; have y2 := KExt.cell EY.c2; have y3 := KExt.cell EY.c3; have y4 := KExt.cell EY.c4; have y5 := KExt.cell EY.c5; have y6 := KExt.cell EY.c6; have y7 := KExt.cell EY.c7; have y8 := KExt.cell EY.c8
          obtain ⟨A2, ht, hr2, hr3⟩ := el_tail HY.out (show 1 ≤ m1 from hy)
          have hr4 : ∀ W : World, (Instr.slice 22 (.slice (some ⟨b2, o2, none⟩) m1 k1) (some (.int .i64 1)) none none).run Tryz.prog W = .ok (.slice A2 (m1 - 1) (k1 - 1)) W := hr2
          have hr5 : ∀ W : World, (Instr.sliceAt 22 (.slice (some ⟨b2, o2, none⟩) m1 k1) (some (.int .i64 1)) none none).run Tryz.prog W = .ok (.slice A2 (m1 - 1) (k1 - 1)) W := hr3
          have HT := Lib.hid ht
          clear EY hr2 hr3 ht
          go_wp2_with fail
          refine region_plan w 10 (.read [0, 1, 2, 3, 6, 7] (.one 4 (.one 5 (.read [8, 9] .stop)))) (by kernel_rfl) (by kernel_rfl) (by kernel_rfl) (by kernel_rfl) (by kernel_rfl) (fun _ d _ _ _ h => by cases d <;> exact h) HZ2.out.ke ?_
          intro wd hwd
          have HZ3 := Lib.hid (HZ2.out.kept hwd)
          clear hwd
          rw [wpPlan_read]
          simp only [pickOps_cons, pickOps_nil, consO_some, List.getElem?_cons_zero, List.getElem?_cons_succ]
          repeat (go_big_quiet_step (fail))
          refine wpQuiet_nil ?_
          rw [wpPlan_one]
          simp only [pickOps_cons, pickOps_nil, consO_some, List.getElem?_cons_zero, List.getElem?_cons_succ]
          go_wp2_with fail
          have hka := (Kept.refl wd).alloc #[.int .i64 y.d.1, .int .i64 y.d.2, .string y.p, .int .i64 y.k, .int .i64 y.vk, .int .i64 y.vn, .string y.vt, .int .i64 y.e.1, .int .i64 y.e.2] 34
          refine soloP (HZ3.out.ke.trans hka) ?_
          obtain ⟨v8, w8, hr8, ho8⟩ := (HZ3.out.kept hka).app _ _ _ _ (el_one (Ent.new wd y 34)) (by omega)
          have HR8 := Lib.hid hr8
          have HO9 := Lib.hid ho8
          clear hr8 ho8 hka
          rw [wpPlan_one]
          simp only [pickOps_cons, pickOps_nil, consO_some, List.getElem?_cons_zero, List.getElem?_cons_succ]
          go_wp2_with (at_builtin; refine Lib.wpList_append_run _ rfl (.tmp 36) (.tmp 40) _ _ rfl _ _ rfl rfl _ _ HR8.out ?_)
          refine soloP HO9.out.ke ?_
          rw [wpPlan_read]
          simp only [pickOps_cons, pickOps_nil, consO_some, List.getElem?_cons_zero, List.getElem?_cons_succ]
          repeat (go_big_quiet_step (fail))
          refine wpQuiet_nil ?_
          refine wpPlan_stop ?_
          clear y0 y1 y2 y3 y4 y5 y6 y7 y8 hr4 hr5
          go_wp2_with fail
          go_roundw
          case rel => exact ⟨_, n1, c1, X, A2, m1 - 1, k1 - 1, Y.drop 1, Z ++ [y], rfl, rfl, HX.out, HT.out, HO9.out, by rw [List.append_assoc, ← HZM.out, HC.out]; rfl, by have := HLEN.out; rw [List.length_append]; simp only [List.length_cons, List.length_nil]; omega⟩
          case measure => simp [slen]; omega
      · have HY0 := Lib.hid (show Y = [] from List.eq_nil_of_length_eq_zero (by have := HYL.out; omega))
        have HEND := Lib.hid (show Z ++ X ++ Y = mergeE L M by rw [← HZM.out, HY0.out, mergeE_nil2, List.append_nil])
        obtain ⟨v8, w8, hr8, ho8⟩ := HZ.out.app _ _ _ _ (HX.out.kept HZ.out.ke) (by omega)
        obtain ⟨v9, w9, hr9, ho9⟩ := ho8.app _ _ _ _ (HY.out.kept ho8.ke) (by rw [List.length_append, HX.out.len]; omega)
        rw [HEND.out] at ho9
        have HR8 := Lib.hid hr8; have HR9 := Lib.hid hr9; have HO9 := Lib.hid ho9
        clear hr8 hr9 ho8 ho9
        go_wp2_with (first
          | (at_builtin; refine Lib.wpList_append_run _ rfl (.tmp 44) (.tmp 45) _ _ rfl _ _ rfl rfl _ _ HR8.out ?_)
          | (at_builtin; refine Lib.wpList_append_run _ rfl (.tmp 46) (.tmp 47) _ _ rfl _ _ rfl rfl _ _ HR9.out ?_))
        obtain ⟨A9, c9, rfl, he9, hf9, -, -⟩ := HO9.out.form
        go_ret
        exact ⟨A9, c9, rfl, he9, HO9.out.ke, hf9⟩
    · have HX0 := Lib.hid (show X = [] from List.eq_nil_of_length_eq_zero (by have := HXL.out; omega))
      have HEND := Lib.hid (show Z ++ X ++ Y = mergeE L M by rw [← HZM.out, HX0.out, mergeE_nil, List.append_nil])
      obtain ⟨v8, w8, hr8, ho8⟩ := HZ.out.app _ _ _ _ (HX.out.kept HZ.out.ke) (by omega)
      obtain ⟨v9, w9, hr9, ho9⟩ := ho8.app _ _ _ _ (HY.out.kept ho8.ke) (by rw [List.length_append, HX.out.len]; omega)
      rw [HEND.out] at ho9
      have HR8 := Lib.hid hr8; have HR9 := Lib.hid hr9; have HO9 := Lib.hid ho9
      clear hr8 hr9 ho8 ho9
      go_wp2_with (first
        | (at_builtin; refine Lib.wpList_append_run _ rfl (.tmp 44) (.tmp 45) _ _ rfl _ _ rfl rfl _ _ HR8.out ?_)
        | (at_builtin; refine Lib.wpList_append_run _ rfl (.tmp 46) (.tmp 47) _ _ rfl _ _ rfl rfl _ _ HR9.out ?_))
      obtain ⟨A9, c9, rfl, he9, hf9, -, -⟩ := HO9.out.form
      go_ret
      exact ⟨A9, c9, rfl, he9, HO9.out.ke, hf9⟩
end Go.Proofs.YtkooihljddibfaaGreat

namespace Go.Proofs.YtkooihljddibfaaGreat
open Go.RowKit

/-- What trim leaves: the first q numbers, the last of which is not 0; all behind are. -/
def Trims (A : Option Addr) (n c : Nat) (V : List Int) (w : World) (e : Ending) (w' : World) : Prop :=
  ∃ q, q ≤ n ∧ e = .returned (.slice A q c) ∧ (∀ j, q ≤ j → V.getD j 0 = 0) ∧ (∀ k, q = k + 1 → V.getD k 0 ≠ 0) ∧ w = w'
def ZeroFrom (V : List Int) (q : Nat) : Prop := ∀ j, q ≤ j → V.getD j 0 = 0
theorem ZeroFrom.all {V : List Int} {n : Nat} (h : n = V.length) : ZeroFrom V n := fun j hj => by rw [List.getD_eq_getElem?_getD, List.getElem?_eq_none (by omega)]; rfl
theorem ZeroFrom.next {V : List Int} {p : Nat} (h : ZeroFrom V (p + 1)) (hp : V.getD p 0 = 0) : ZeroFrom V p := fun j hj => by
  rcases Nat.lt_or_ge p j with h1 | h1
  · exact h j h1
  · obtain rfl : j = p := by omega
    exact hp
theorem Trims.mk {A : Option Addr} {n c q : Nat} {V : List Int} {w : World} (hq : q ≤ n) (hz : ZeroFrom V q) (hl : ∀ k, q = k + 1 → V.getD k 0 ≠ 0) : Trims A n c V w (.returned (.slice A q c)) w := ⟨q, hq, rfl, hz, hl, rfl⟩

/-- What holds at the label. -/
def AtLabel (A : Option Addr) (n c : Nat) (V : List Int) (w : World) (a' : Act) (w' : World) : Prop :=
  w' = w ∧ ∃ (q : Nat) (u1 u4 u5 u6 u7 u8 u9 u10 u11 u12 u13 u14 u15 u16 u17 : Value), a' = { tmps := #[.slice A n c, u1, .slice none 0 0, .int .i64 q, u4, u5, u6, u7, u8, u9, u10, u11, u12, u13, u14, u15, u16, u17, undef, undef, undef], defers := [] } ∧ q ≤ n ∧ ZeroFrom V q
def lastOf : Act → Nat := fun a => (intOf (a.tmps.getD 3 undef)).toNat
theorem label_to {A : Option Addr} {n c : Nat} {V : List Int} {w : World} {q : Nat} {x : Int} {u1 u4 u5 u6 u7 u8 u9 u10 u11 u12 u13 u14 u15 u16 u17 : Value} (hx : x = (q : Int)) (hq : q ≤ n) (hz : ZeroFrom V q) :
    AtLabel A n c V w { tmps := #[.slice A n c, u1, .slice none 0 0, .int .i64 x, u4, u5, u6, u7, u8, u9, u10, u11, u12, u13, u14, u15, u16, u17, undef, undef, undef], defers := [] } w := by
  subst hx
  exact ⟨rfl, q, _, _, _, _, _, _, _, _, _, _, _, _, _, _, _, rfl, hq, hz⟩

set_option maxRecDepth 1000000 in
set_option maxHeartbeats 1000000 in
theorem trim_any (A : Option Addr) (n c : Nat) (V : List Int) (w : World) (h : Il w A n c V) :
    Calls Tryz.prog 87 #[.slice A n c] w (Trims A n c V w) := by
  have hcap := h.cap.1
  have hcap2 := h.cap.2
  have HI := Lib.hid h
  have HN := Lib.hid h.1
  clear h
  go_enter Tryz.func87, Tryz.ntmps87
  go_wp2
  refine wp_scope_jumps 0 (AtLabel A n c V w) (fun a' _ => lastOf a') rfl ?_ ?_
  · rcases Nat.eq_zero_or_pos n with h0 | h0
    · have d1 : decide ((0 : Int) < n) = false := by rw [decide_eq_false_iff_not]; omega
      have d2 : decide (0 < n) = false := by rw [decide_eq_false_iff_not]; omega
      have hr4 := run_ihead A n c n (by omega)
      have HT := Lib.hid (Trims.mk (A := A) (n := n) (c := c) (q := n) (w := w) (Nat.le_refl _) (ZeroFrom.all HN.out) fun k hk => by omega)
      clear h0
      go_wp2
      go_step3
      go_wp2
      simp only [Exit.jump]
      go_ret
      exact HT.out
    · obtain ⟨p, hp⟩ : ∃ p, n = p + 1 := ⟨n - 1, by omega⟩
      have d1 : decide ((0 : Int) < n) = true := by rw [decide_eq_true_iff]; omega
      have d2 : decide (0 < n) = true := by rw [decide_eq_true_iff]; omega
      have hsub : IntKind.i64.wrap ((n : Int) - 1) = (p : Int) := by rw [IntWalk.i64_in _ (by omega)]; omega
      have hpl : p < n := by omega
      obtain ⟨b, o, x, rfl, hx, g⟩ := HI.out.get hpl
      have HPP := Lib.hid hp
      have HXX := Lib.hid (show V.getD p 0 = x by rw [List.getD_eq_getElem?_getD, hx]; rfl)
      clear hp hx
      by_cases hx0 : x = 0
      · have d3 : (x == 0) = true := by simpa using hx0
        have HZ2 := Lib.hid (ZeroFrom.next (p := p) (V := V) (by rw [← HPP.out]; exact ZeroFrom.all HN.out) (by rw [HXX.out]; exact hx0))
        clear hx0
        go_wp2
        go_step3
        go_wp2
        go_step3
        exact ⟨rfl, label_to rfl (by omega) HZ2.out⟩
      · have d3 : (x == 0) = false := by simpa using hx0
        have hr4 := run_ihead (some ⟨b, o, none⟩) n c n (by omega)
        have HT := Lib.hid (Trims.mk (A := some ⟨b, o, none⟩) (n := n) (c := c) (q := n) (w := w) (Nat.le_refl _) (ZeroFrom.all HN.out) fun k hk => by
          obtain rfl : k = p := by have := HPP.out; omega
          rw [HXX.out]; exact hx0)
        clear hx0
        go_wp2
        go_step3
        go_wp2
        simp only [Exit.jump]
        go_ret
        exact HT.out
  · rintro a' w' ⟨rfl, q, u1, u4, u5, u6, u7, u8, u9, u10, u11, u12, u13, u14, u15, u16, u17, rfl, hq, hz⟩
    have HZ := Lib.hid hz
    clear hz
    rcases Nat.eq_zero_or_pos q with h0 | h0
    · have d1 : decide ((0 : Int) < q) = false := by rw [decide_eq_false_iff_not]; omega
      have d2 : decide (0 < q) = false := by rw [decide_eq_false_iff_not]; omega
      have hr4 := run_ihead A n c q (by omega)
      have HT := Lib.hid (Trims.mk (A := A) (n := n) (c := c) (q := q) (w := w') hq HZ.out fun k hk => by omega)
      clear h0
      go_wp2
      simp only [Exit.jump]
      go_ret
      exact HT.out
    · obtain ⟨p, hp⟩ : ∃ p, q = p + 1 := ⟨q - 1, by omega⟩
      have d1 : decide ((0 : Int) < q) = true := by rw [decide_eq_true_iff]; omega
      have d2 : decide (0 < q) = true := by rw [decide_eq_true_iff]; omega
      have hsub : IntKind.i64.wrap ((q : Int) - 1) = (p : Int) := by rw [IntWalk.i64_in _ (by omega)]; omega
      have hpl : p < n := by omega
      obtain ⟨b, o, x, rfl, hx, g⟩ := HI.out.get hpl
      have HPP := Lib.hid hp
      have HXX := Lib.hid (show V.getD p 0 = x by rw [List.getD_eq_getElem?_getD, hx]; rfl)
      clear hp hx
      by_cases hx0 : x = 0
      · have d3 : (x == 0) = true := by simpa using hx0
        have HZ2 := Lib.hid (ZeroFrom.next (p := p) (V := V) (by rw [← HPP.out]; exact HZ.out) (by rw [HXX.out]; exact hx0))
        clear hx0
        go_wp2
        go_step3
        exact ⟨rfl, label_to rfl (by omega) HZ2.out, by have := HPP.out; simp [lastOf, intOf]; omega⟩
      · have d3 : (x == 0) = false := by simpa using hx0
        have hr4 := run_ihead (some ⟨b, o, none⟩) n c q (by omega)
        have HT := Lib.hid (Trims.mk (A := some ⟨b, o, none⟩) (n := n) (c := c) (q := q) (w := w') hq HZ.out fun k hk => by
          obtain rfl : k = p := by have := HPP.out; omega
          rw [HXX.out]; exact hx0)
        clear hx0
        go_wp2
        simp only [Exit.jump]
        go_ret
        exact HT.out
end Go.Proofs.YtkooihljddibfaaGreat

