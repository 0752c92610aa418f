/-
  What is proved: slices.Delete of one field of a row of the call's own takes just that away.
  the document's fields of layer 14, at a step that gives another name.
  the document's fields of layer 14, at a step that lifts.
  the document's fields of layer 14, at a step that sinks.
  the document's fields of layer 14, at a step that adds a field.
  the document's fields of layer 14, at a step that takes a field away.
  the document's fields of layer 14, at a step that turns a field, but for its path.
  the document's fields of layer 14, at a step that takes a head off.
  the document's fields of layer 14 (a part of P14.3), called with any schema of at most 24 fields and any step whose own parts are right, tells whether the step fits, and the row that comes.
  the document's Of of layer 11 (P11.3), called with any slice of fields, returns them in their places; the world has new blocks at most.
  the document's Check of layer 14 (P14.3), called with any schema of at most 24 fields and any step of bounded lengths, returns the schema behind the step, or that the step does not fit; the world has new blocks at most.
  plain facts on what a step makes of the fields of a right schema (P14.3): when it fits, as package step asks it, is when it fits by the chapter; no walk is made here.
  plain facts on the library's stable sort of fields: what exchanges of two parts, the turning of two parts side by side, and the search for where two rows in order part, leave; no program is spoken of here.
-/
import Derived.Test.YtofnpifooaijcaaGreatM13
import Derived.Test.YtofnpifooaijcaaGreatM12
import Derived.Test.YtofnpifooaijcaaGreatM6
import Derived.Test.YtofnpifooaijcaaGreatM32
import Derived.Test.YtofnpifooaijcaaGreatM7
namespace Go.Proofs.YtofnpifooaijcaaGreat
open Go.RowKit
set_option linter.unusedVariables false
theorem run_clear_f (w : World) (g o c : Nat) (ty : TypeId) (hc : ∀ j, j < 6 → (w.cell? ⟨g, o + j, none⟩).isSome = true) (hf : ∀ j, j < 6 → w.frozen? ⟨g, o + j, none⟩ = false) :
    (Builtin.clear_ #[22] ty #[.slice (some ⟨g, o, none⟩) 1 c]).run Tryz.prog w = .ok (.tuple #[]) (w.setCells g o [.string ⟨#[]⟩, .int .i64 0, .int .i64 0, .int .i64 0, .int .i64 0, .string ⟨#[]⟩]) := by
  have e : (Builtin.zeroCells #[.string ⟨#[]⟩, .int .i64 0, .int .i64 0, .int .i64 0, .int .i64 0, .string ⟨#[]⟩] 1).toList = [.string ⟨#[]⟩, .int .i64 0, .int .i64 0, .int .i64 0, .int .i64 0, .string ⟨#[]⟩] := by kernel_rfl
  have hst := run_storeCells_cells (P := Tryz.prog) g o [.string ⟨#[]⟩, .int .i64 0, .int .i64 0, .int .i64 0, .int .i64 0, .string ⟨#[]⟩] 0 w (by simpa using hc) (by simpa using hf) (by
    intro v hv
    simp only [List.mem_cons, List.not_mem_nil, or_false] at hv
    rcases hv with rfl | rfl | rfl | rfl | rfl | rfl <;> rfl)
  simp only [Nat.add_zero] at hst
  have hz : ∀ w, (zeroValue 28).run Tryz.prog w = .ok (.agg #[.string ⟨#[]⟩, .int .i64 0, .int .i64 0, .int .i64 0, .int .i64 0, .string ⟨#[]⟩]) w := Tryz.zeroValue28
  rw [← e] at hst ⊢
  simp [Builtin.clear_, run_underlying Tryz.underlying22, hz, Value.cells, hst]
theorem OutF.fits {U wr : World} {g n c : Nat} {L M : List Fd} {A : Option Addr} {m cM : Nat} (h : OutF U wr (.slice (some ⟨g, 0, none⟩) n c) L) (hn : L.length = n) (hs : Fl wr A m cM M) (hA : A ≠ none) (hroom : n + m ≤ c) :
    ∃ w', (Builtin.append_ #[22, 22] 22 #[.slice (some ⟨g, 0, none⟩) n c, .slice A m cM]).run Tryz.prog wr = .ok (.slice (some ⟨g, 0, none⟩) (n + m) c) w' ∧ OutF U w' (.slice (some ⟨g, 0, none⟩) (n + m) c) (L ++ M) := by
  subst hn
  obtain ⟨i0, hi0, hz0, hz1, hz2⟩ := info_parts info_fl
  obtain ⟨ad, rfl⟩ : ∃ ad, A = some ad := Option.ne_none_iff_exists'.1 hA
  obtain ⟨w', hr, ho, hg⟩ := run_append_fits (P := Tryz.prog) wr U.heap.size 22 22 28 i0 6 Tryz.underlying22 hi0 hz1 g L.length c (flatF L) h.own ad m cM (flatF M)
      (by rw [flatF_len, hs.1]) (fun j u hj => by
        obtain ⟨k, x, r, hk, rfl, hr9, hu⟩ := flatF_at M j u hj
        have hkl := (List.getElem?_eq_some_iff.1 hk).1
        obtain ⟨b, o, y, hA, hy, hc⟩ := hs.get (k := k) (by rw [hs.1]; exact hkl)
        obtain rfl : y = x := Option.some.inj (hy.symm.trans hk)
        obtain rfl := Option.some.inj hA
        rw [Addr.add_lit, ← Nat.add_assoc]
        exact hc.flat r u hu) (flatF_one _) hroom
  refine ⟨w', hr, ?_, kept_grown h.ke hg fun k hk => by cases hk; exact (h.own.lt g rfl).1⟩
  rw [List.length_append, flatF_app, ← hs.1]
  exact ho
theorem OutF.past {U wr : World} {g n c j : Nat} {L : List Fd} (h : OutF U wr (.slice (some ⟨g, 0, none⟩) n c) L) (hn : L.length = n) (hj : n * 6 ≤ j) (v : Value) : OutF U (wr.setCell ⟨g, j, none⟩ v) (.slice (some ⟨g, 0, none⟩) n c) L := by
  subst hn
  refine ⟨?_, h.ke.setCell (a := ⟨g, j, none⟩) (h.own.lt g rfl).1 _⟩
  have := (h.own.stored j v).1
  rwa [List.set_eq_of_length_le (by rw [flatF_len]; exact hj)] at this
theorem OutF.room {U wr : World} {g n c : Nat} {L : List Fd} (h : OutF U wr (.slice (some ⟨g, 0, none⟩) n c) L) (j : Nat) (hj : j < c * 6) : (wr.cell? ⟨g, j, none⟩).isSome = true ∧ wr.frozen? ⟨g, j, none⟩ = false := by
  rcases h.own.2 with ⟨h', _⟩ | ⟨g', cap', cur, h', hb, hg, hnc, hcm, hcs, ht⟩
  · simp at h'
  · simp only [Value.slice.injEq, Option.some.injEq, Addr.mk.injEq, and_true] at h'
    obtain ⟨rfl, _, rfl⟩ := h'
    exact ⟨by rw [cell_of_row wr g j cur _ (0, 0) hg, Array.getElem?_eq_getElem (by omega)]; rfl, frozen_of_row wr g j cur _ hg⟩
set_option maxRecDepth 100000 in
set_option maxHeartbeats 8000000 in
theorem sdel_any (U w : World) (g n c k : Nat) (L : List Fd) (h : OutF U w (.slice (some ⟨g, 0, none⟩) n c) L) (hn : L.length = n) (hk : k < n) (hnc : n ≤ c) (hcm : c ≤ 9223372036854775807) :
    Calls Tryz.prog 87 #[.slice (some ⟨g, 0, none⟩) n c, .int .i64 k, .int .i64 ((k + 1 : Nat) : Int)] w fun e w' => e = .returned (.slice (some ⟨g, 0, none⟩) (n - 1) c) ∧ OutF U w' (.slice (some ⟨g, 0, none⟩) (n - 1) c) (L.take k ++ L.drop (k + 1)) := by
  obtain ⟨A7, c7, he7, hf7, _, _, _⟩ := h.form
  rw [hn] at he7 hf7
  simp only [Value.slice.injEq, true_and] at he7
  obtain ⟨rfl, rfl⟩ := he7
  rcases Decidable.em (c = k + 1) with rfl | hck
  · have HH := Lib.hid h; have HF7 := Lib.hid hf7; have HN := Lib.hid hn
    clear h hf7 hn
    have e1 : (((k : Nat) : Int) == ((k + 1 : Nat) : Int)) = false := by simp; omega
    have e2 : (k == k + 1) = false := by simp
    have hrh := run_fhead (some ⟨g, 0, none⟩) n (k + 1) k (by omega)
    have hrh2 := run_fhead2 (some ⟨g, 0, none⟩) n (k + 1) k (by omega)
    go_enter Tryz.func87, Tryz.ntmps87
    go_wp2_with fail
    refine region_plan U 8 (.read [0, 1, 2, 3, 4, 5] (.one 6 (.read [7] .stop))) (by kernel_rfl) (by kernel_rfl) (by kernel_rfl) (by kernel_rfl) (by kernel_rfl) (fun _ d _ _ _ h => by cases d <;> exact h) HH.out.ke ?_
    intro wd hwd
    have HV := Lib.hid hwd
    clear hwd
    rw [wpPlan_read]
    simp only [pA, pB, pC, pD, pE]
    repeat (go_big_quiet_step (fail))
    refine wpQuiet_nil ?_
    rw [wpPlan_one]
    simp only [pA, pB, pC, pD, pE]
    have hft := fl_tailX (HF7.out.kept HV.out) (k := k + 1) (by omega)
    obtain ⟨w9, hr9, ho9⟩ := ((HH.out.cut (k := k) (by rw [HN.out]; omega)).kept HV.out).fits (by rw [List.length_take, HN.out]; omega) hft (by split <;> simp) (by omega)
    rw [show k + (n - (k + 1)) = n - 1 by omega] at hr9 ho9
    rw [if_pos rfl, Nat.sub_self, show n - (k + 1) = 0 by omega] at hr9
    have hln : (L.take k ++ L.drop (k + 1)).length = n - 1 := by rw [List.length_append, List.length_take, List.length_drop, HN.out]; omega
    have hrm := fun j (hj : j < 6) => ho9.room ((n - 1) * 6 + j) (by have : n * 6 ≤ (k + 1) * 6 := Nat.mul_le_mul_right 6 hnc; omega)
    have hcl : ∀ ty, (Builtin.clear_ #[22] ty #[.slice (some ⟨g, (n - 1) * 6, none⟩) (n - (n - 1)) ((k + 1) - (n - 1))]).run Tryz.prog w9 = .ok (.tuple #[]) (w9.setCells g ((n - 1) * 6) [.string ⟨#[]⟩, .int .i64 0, .int .i64 0, .int .i64 0, .int .i64 0, .string ⟨#[]⟩]) := fun ty => by
      rw [show n - (n - 1) = 1 by omega]
      exact run_clear_f w9 g ((n - 1) * 6) ((k + 1) - (n - 1)) ty (fun j hj => (hrm j hj).1) (fun j hj => (hrm j hj).2)
    have HE := Lib.hid (((((((ho9.past hln (j := (n - 1) * 6) (by omega) (.string ⟨#[]⟩)).past hln (j := (n - 1) * 6 + 1) (by omega) (.int .i64 0)).past hln (j := (n - 1) * 6 + 1 + 1) (by omega) (.int .i64 0)).past hln (j := (n - 1) * 6 + 1 + 1 + 1) (by omega) (.int .i64 0)).past hln (j := (n - 1) * 6 + 1 + 1 + 1 + 1) (by omega) (.int .i64 0)).past hln (j := (n - 1) * 6 + 1 + 1 + 1 + 1 + 1) (by omega) (.string ⟨#[]⟩)))
    have HK9 := Lib.hid ho9.ke; have HR9 := Lib.hid hr9; have HCL := Lib.hid hcl
    have HBN := Lib.hid (show U.heap.size ≤ g from (HH.out.own.lt g rfl).1)
    have HGW := Lib.hid (show g < w.heap.size from (HH.out.own.lt g rfl).2)
    clear hft hr9 ho9 hln hrm hcl hrh hrh2
    go_wp2_with (at_builtin; refine Lib.wpList_append_run _ rfl (.tmp 22) (.tmp 25) _ _ rfl _ _ rfl rfl _ _ HR9.out ?_)
    all_goals
      refine soloP HK9.out ?_
      rw [wpPlan_read]
      simp only [pA, pB, pC, pD, pE]
      repeat (go_big_quiet_step (fail))
      refine wpQuiet_nil ?_
      refine wpPlan_stop ?_
      have hcl := HCL.out
      go_wp2_with fail
      go_ret
      refine ⟨?_, ?_⟩
      · rfl
      · exact HE.out
  · have HH := Lib.hid h; have HF7 := Lib.hid hf7; have HN := Lib.hid hn
    clear h hf7 hn
    have e1 : (((k : Nat) : Int) == ((k + 1 : Nat) : Int)) = false := by simp; omega
    have e2 : (k == k + 1) = false := by simp
    have hrh := run_fhead (some ⟨g, 0, none⟩) n c k (by omega)
    have hrh2 := run_fhead2 (some ⟨g, 0, none⟩) n c k (by omega)
    go_enter Tryz.func87, Tryz.ntmps87
    go_wp2_with fail
    refine region_plan U 8 (.read [0, 1, 2, 3, 4, 5] (.one 6 (.read [7] .stop))) (by kernel_rfl) (by kernel_rfl) (by kernel_rfl) (by kernel_rfl) (by kernel_rfl) (fun _ d _ _ _ h => by cases d <;> exact h) HH.out.ke ?_
    intro wd hwd
    have HV := Lib.hid hwd
    clear hwd
    rw [wpPlan_read]
    simp only [pA, pB, pC, pD, pE]
    repeat (go_big_quiet_step (fail))
    refine wpQuiet_nil ?_
    rw [wpPlan_one]
    simp only [pA, pB, pC, pD, pE]
    have hft := fl_tailX (HF7.out.kept HV.out) (k := k + 1) (by omega)
    obtain ⟨w9, hr9, ho9⟩ := ((HH.out.cut (k := k) (by rw [HN.out]; omega)).kept HV.out).fits (by rw [List.length_take, HN.out]; omega) hft (by split <;> simp) (by omega)
    rw [show k + (n - (k + 1)) = n - 1 by omega] at hr9 ho9
    rw [if_neg hck] at hr9
    have hln : (L.take k ++ L.drop (k + 1)).length = n - 1 := by rw [List.length_append, List.length_take, List.length_drop, HN.out]; omega
    have hrm := fun j (hj : j < 6) => ho9.room ((n - 1) * 6 + j) (by have : n * 6 ≤ c * 6 := Nat.mul_le_mul_right 6 hnc; omega)
    have hcl : ∀ ty, (Builtin.clear_ #[22] ty #[.slice (some ⟨g, (n - 1) * 6, none⟩) (n - (n - 1)) (c - (n - 1))]).run Tryz.prog w9 = .ok (.tuple #[]) (w9.setCells g ((n - 1) * 6) [.string ⟨#[]⟩, .int .i64 0, .int .i64 0, .int .i64 0, .int .i64 0, .string ⟨#[]⟩]) := fun ty => by
      rw [show n - (n - 1) = 1 by omega]
      exact run_clear_f w9 g ((n - 1) * 6) (c - (n - 1)) ty (fun j hj => (hrm j hj).1) (fun j hj => (hrm j hj).2)
    have HE := Lib.hid (((((((ho9.past hln (j := (n - 1) * 6) (by omega) (.string ⟨#[]⟩)).past hln (j := (n - 1) * 6 + 1) (by omega) (.int .i64 0)).past hln (j := (n - 1) * 6 + 1 + 1) (by omega) (.int .i64 0)).past hln (j := (n - 1) * 6 + 1 + 1 + 1) (by omega) (.int .i64 0)).past hln (j := (n - 1) * 6 + 1 + 1 + 1 + 1) (by omega) (.int .i64 0)).past hln (j := (n - 1) * 6 + 1 + 1 + 1 + 1 + 1) (by omega) (.string ⟨#[]⟩)))
    have HK9 := Lib.hid ho9.ke; have HR9 := Lib.hid hr9; have HCL := Lib.hid hcl
    have HBN := Lib.hid (show U.heap.size ≤ g from (HH.out.own.lt g rfl).1)
    have HGW := Lib.hid (show g < w.heap.size from (HH.out.own.lt g rfl).2)
    clear hft hr9 ho9 hln hrm hcl hrh hrh2
    go_wp2_with (at_builtin; refine Lib.wpList_append_run _ rfl (.tmp 22) (.tmp 25) _ _ rfl _ _ rfl rfl _ _ HR9.out ?_)
    all_goals
      refine soloP HK9.out ?_
      rw [wpPlan_read]
      simp only [pA, pB, pC, pD, pE]
      repeat (go_big_quiet_step (fail))
      refine wpQuiet_nil ?_
      refine wpPlan_stop ?_
      have hcl := HCL.out
      go_wp2_with fail
      go_ret
      refine ⟨?_, ?_⟩
      · rfl
      · exact HE.out
def CheckE (L : List Fd) (x : St) (w : World) (e : Ending) (w' : World) : Prop :=
  ∃ (B : Option Addr) (k c : Nat) (er : Int), e = .returned (.tuple #[.agg #[.slice B k c], .int .i64 er]) ∧ Kept w w' ∧ ((er = 0 ∧ ∃ M, CheckR L x M ∧ Fl w' B k c M) ∨ (er = 10 ∧ B = none ∧ k = 0 ∧ c = 0 ∧ ∀ M, ¬ CheckR L x M))
def BehR (L : List Fd) (x : St) (N : List Fd) : Prop := FieldsR L x N ∧ (x.k ≠ 4 → ShapeR x)
def BehE (L : List Fd) (x : St) (w : World) (e : Ending) (w' : World) : Prop :=
  ∃ (A : Option Addr) (n c : Nat) (N : List Fd) (z : Bool), e = .returned (.tuple #[.slice A n c, .bool z]) ∧ Fl w' A n c N ∧ n ≤ 40 ∧ (∀ f ∈ N, f.p.size ≤ 1099511627776 ∧ f.vt.size ≤ 1099511627776) ∧ Kept w w' ∧ (z = true → BehR L x N) ∧ (z = false → ∀ M, ¬ BehR L x M)
theorem beh_check {L M : List Fd} {x : St} (hok : ScOk L) : CheckR L x M ↔ (∃ N, BehR L x N ∧ M = ofF N) ∧ ScOk M := by
  constructor
  · rintro ⟨h1, _, ⟨N, h2, h3⟩, h4⟩
    exact ⟨⟨N, ⟨h2, fun _ => h1⟩, h3⟩, h4⟩
  · rintro ⟨⟨N, ⟨h2, h1⟩, h3⟩, h4⟩
    refine ⟨?_, hok, ⟨N, h2, h3⟩, h4⟩
    by_cases q : x.k = 4
    · have hN : N = L ++ [x.f] := by
        rcases h2 with ⟨h, _⟩ | ⟨_, h⟩ | ⟨h, _⟩ | ⟨h, _⟩
        · rcases h with h | h | h <;> omega
        · exact h
        · omega
        · omega
      rw [shape_at q]
      simp only [show ¬ (4 : Int) = 1 by decide, show ¬ (4 : Int) = 2 by decide, show ¬ (4 : Int) = 3 by decide, if_false]
      refine h4.ent x.f ?_
      rw [h3]
      exact ((ofF_mem_perm N).mem_iff).2 (by rw [hN]; simp)
    · exact h1 q
theorem ent_pat {L : List Fd} (hok : ScOk L) {f : Fd} (hf : f ∈ L) : L4.patL (sL f.p) = true := (rightF_of.1 (hok.ent f hf)).1
theorem pat_of_pre {L : List Fd} (hok : ScOk L) {x : St} {f : Fd} (hf : f ∈ L) (h : sL x.p <+: sL f.p) : L4.patS x.p = true := pat_pre (ent_pat hok hf) h
theorem beh_mv {L : List Fd} {x : St} (hok : ScOk L) (hm : Mv x) : (LeadR x ∧ AloneR L x → BehR L x (L.map fun f => f.withP (moveS x f.p))) ∧ (∀ M, BehR L x M → LeadR x ∧ AloneR L x) := by
  constructor
  · rintro ⟨h1, ⟨f0, hf0, hp0⟩, h3⟩
    have hpat := pat_of_pre hok hf0 hp0
    have hsh : ShapeR x := by
      rcases h1 with ⟨q, a, b, c⟩ | ⟨q, a, b⟩ | ⟨q, a⟩
      · exact .inl ⟨q, hpat, a, b, c⟩
      · exact .inr (.inl ⟨q, hpat, a, b⟩)
      · exact .inr (.inr (.inl ⟨q, hpat, a⟩))
    refine ⟨.inl ⟨hm, ⟨f0, hf0, hp0⟩, fun f hf hn ht => h3 f hf hn ((preS_top hm hsh f.p).2 ht), ?_⟩, fun _ => hsh⟩
    exact List.map_congr_left fun f _ => moveS_F hm (fun q => shape_two hsh q) f
  · rintro M ⟨h1, h2⟩
    have hsh := h2 (by rcases hm with h | h | h <;> omega)
    obtain ⟨k1, k2, _⟩ := frM hm h1
    refine ⟨?_, k1, fun f hf hn ht => k2 f hf hn ((preS_top hm hsh f.p).1 ht)⟩
    rcases hsh with ⟨q, _, a, b, c⟩ | ⟨q, _, a, b⟩ | ⟨q, _, a⟩ | ⟨q, _⟩ | ⟨q, _⟩ | ⟨q, _⟩
    · exact .inl ⟨q, a, b, c⟩
    · exact .inr (.inl ⟨q, a, b⟩)
    · exact .inr (.inr ⟨q, a⟩)
    all_goals rcases hm with h | h | h <;> omega
theorem map_big {L : List Fd} {x : St} (hxp : x.p.size ≤ 2000) (hnm : x.nm.size ≤ 2000) (hL : ∀ f ∈ L, f.p.size ≤ 2000 ∧ f.vt.size ≤ 1000000000) : ∀ f ∈ L.map (fun f => f.withP (moveS x f.p)), f.p.size ≤ 1099511627776 ∧ f.vt.size ≤ 1099511627776 := fun g hg => by
  obtain ⟨f, hf, rfl⟩ := List.mem_map.1 hg
  have := move_big hxp hnm (hL f hf).1
  have := (hL f hf).2
  exact ⟨by show (moveS x f.p).size ≤ _; omega, by show f.vt.size ≤ _; omega⟩
theorem beh_4 {L : List Fd} {x : St} (q : x.k = 4) : BehR L x (L ++ [x.f]) := ⟨.inr (.inl ⟨q, rfl⟩), fun h => absurd q h⟩
theorem ok_paths {L : List Fd} (hok : ScOk L) {t : Nat} {f : Fd} (h : L[t]? = some f) : ∀ y ∈ L.take t, y.p ≠ f.p := fun y hy e => by
  obtain ⟨i, hi⟩ := List.mem_iff_getElem?.1 hy
  rw [List.getElem?_take] at hi
  split at hi
  · rename_i hlt
    obtain ⟨h1, h1'⟩ := List.getElem?_eq_some_iff.1 hi
    obtain ⟨h2, h2'⟩ := List.getElem?_eq_some_iff.1 h
    have := (List.pairwise_iff_getElem.1 hok.rise) i t h1 h2 hlt
    rw [h1', h2', e] at this
    exact LtP.irrefl _ this
  · cases hi
theorem beh_5 {L : List Fd} {x : St} (hok : ScOk L) (q : x.k = 5) {t : Nat} (h : L[t]? = some x.f) : BehR L x (L.take t ++ L.drop (t + 1)) := by
  refine ⟨fr5_yes q h (ok_paths hok h), fun _ => ?_⟩
  rw [shape_at q]
  simp only [show ¬ (5 : Int) = 1 by decide, show ¬ (5 : Int) = 2 by decide, show ¬ (5 : Int) = 3 by decide, if_false]
  exact hok.ent _ (List.mem_of_getElem? h)
theorem beh_5no {L : List Fd} {x : St} (q : x.k = 5) (h : ∀ y ∈ L, y ≠ x.f) (M : List Fd) : ¬ BehR L x M := fun k => by
  obtain ⟨A, B, rfl, _, _⟩ := fr5 q k.1
  exact h x.f (by simp) rfl
theorem beh_6 {L : List Fd} {x : St} (hok : ScOk L) (n4 : ¬ x.k = 4) (n5 : ¬ x.k = 5) {t : Nat} {y : Fd} (ht : L[t]? = some y) (hp : y.p = leafP x) (hall : ∀ z ∈ L.take t, z.p ≠ leafP x) :
    (BecP x y → BehR L x (L.set t (leafG x y))) ∧ (¬ BecP x y → ¬ Mv x → ∀ M, ¬ BehR L x M) := by
  have hmem := List.mem_of_getElem? ht
  have hpat : L4.patS x.p = true := by
    refine pat_of_pre hok hmem ?_
    rw [hp]
    unfold leafP
    split
    · rw [sL_under]; exact List.prefix_append _ _
    · exact List.prefix_refl _
  constructor
  · rintro ⟨h6, h10, hl, hr⟩
    refine ⟨fr6_yes h6 h10 ht hp hall hl, fun _ => ?_⟩
    by_cases q : x.k = 10
    · exact .inr (.inr (.inr (.inr (.inr ⟨q, hpat, hr q⟩))))
    · exact .inr (.inr (.inr (.inr (.inl ⟨by omega, hpat⟩))))
  · intro hn hm M ⟨h1, h2⟩
    have h6 : 6 ≤ x.k := by
      rcases h1 with ⟨h, _⟩ | ⟨h, _⟩ | ⟨h, _⟩ | ⟨h, _⟩
      · exact absurd h hm
      · omega
      · omega
      · exact h
    obtain ⟨A, f, B, g, _, _, _, hlr, _⟩ := fr6 h6 h1
    have h10 : x.k ≤ 10 := by rcases hlr with ⟨h, _⟩ | ⟨h, _⟩ | ⟨h, _⟩ | ⟨h, _⟩ | ⟨h, _⟩ <;> omega
    refine fr6_ne h6 h10 ht hp hall (fun hl => hn ⟨h6, h10, hl, fun q => ?_⟩) M h1
    have := h2 (by omega)
    rw [shape_at q] at this
    simpa using this.2
theorem beh_6no {L : List Fd} {x : St} (hm : ¬ Mv x) (n4 : ¬ x.k = 4) (n5 : ¬ x.k = 5) (h : ∀ y ∈ L, y.p ≠ leafP x) (M : List Fd) : ¬ BehR L x M := fun ⟨h1, h2⟩ => by
  have h6 : 6 ≤ x.k := by
    rcases h1 with ⟨h, _⟩ | ⟨h, _⟩ | ⟨h, _⟩ | ⟨h, _⟩
    · exact absurd h hm
    · omega
    · omega
    · exact h
  exact fr6_none h6 h M h1
section
variable {Pr : Program} {ops : Array Oper} {Q : Exit → Act → World → Prop} {rest : List Oper} {op : Oper} {a : Act} {w : World}
theorem wpList_load_on (hw : Region.wanted op (yielded ops a.tmps) = true) (ty : TypeId) (x : Operand) (ho : op.op = .load ty x) (b o : Nat) (hx : a.eval x = .pointer (some ⟨b, o, none⟩)) (cs : List Value) (d : TypeDesc) (hc : w.rangeAt b o cs)
    (hu : Pr.underlying ty = some d) (hd : d.isRow = true) (hi : (Pr.info? ty).map (·.size) = some cs.length) (h : wpList Pr ops Q rest (a.put op.dst (.agg cs.toArray)) w) : wpList Pr ops Q (op :: rest) a w := by
  rw [wpList, if_pos hw]
  exact .inl (wp_load_mid ty x ho b o hx cs d hc hu hd hi h)
end
noncomputable def rowW (L : List Fd) (x : St) (t : Nat) : List Fd := (L.take t).map (fun f => f.withP (moveS x f.p)) ++ L.drop t
theorem rowW_len (L : List Fd) (x : St) (t : Nat) : (rowW L x t).length = L.length := by unfold rowW; rw [List.length_append, List.length_map, List.length_take, List.length_drop]; omega
theorem rowW_at {L : List Fd} {x : St} {t : Nat} {f : Fd} (h : L[t]? = some f) : (rowW L x t)[t]? = some f := by
  have hl := (List.getElem?_eq_some_iff.1 h).1
  unfold rowW
  rw [List.getElem?_append_right (by rw [List.length_map, List.length_take]; omega), List.getElem?_drop, List.length_map, List.length_take, show t + (t - min t L.length) = t by omega]
  exact h
theorem rowW_set {L : List Fd} {x : St} {t : Nat} {f : Fd} (h : L[t]? = some f) : (rowW L x t).set t (f.withP (moveS x f.p)) = rowW L x (t + 1) := by
  have hl := (List.getElem?_eq_some_iff.1 h)
  have hlt := hl.1
  unfold rowW
  rw [List.set_append_right _ _ (by rw [List.length_map, List.length_take]; omega), List.length_map, List.length_take, show t - min t L.length = 0 by omega, ← List.getElem_cons_drop hlt, List.set_cons_zero, List.take_add_one, h, Option.toList_some, List.map_append, List.map_singleton, List.append_assoc, List.singleton_append]
theorem rowW_zero (L : List Fd) (x : St) : rowW L x 0 = L := by simp [rowW]
theorem rowW_end (L : List Fd) (x : St) : rowW L x L.length = L.map (fun f => f.withP (moveS x f.p)) := by simp [rowW]
end Go.Proofs.YtofnpifooaijcaaGreat
namespace Go.Proofs.YtofnpifooaijcaaGreat
open Go.RowKit Go.Sort
theorem flat_idx {X : List Fd} (h : Flat X) {i j : Nat} {x y : Fd} (hx : X[i]? = some x) (hy : X[j]? = some y) (hij : i ≤ j) : ¬ LtP y.p x.p := by
  obtain ⟨a, rfl⟩ := List.getElem?_eq_some_iff.1 hx
  obtain ⟨b, rfl⟩ := List.getElem?_eq_some_iff.1 hy
  rcases Nat.eq_or_lt_of_le hij with e | e
  · subst e; exact LtP.irrefl _
  · exact List.pairwise_iff_getElem.1 h i j a b e
theorem nlt_trans {a b c : ByteArray} (h : ¬ LtP b a) (k : ¬ LtP c b) : ¬ LtP c a := fun e => by
  rcases LtP.not.1 h with g | g
  · exact k (by rw [g] at e; exact e)
  · exact k (e.trans g)
theorem lt_of_nlt {a b c : ByteArray} (h : ¬ LtP b a) (k : LtP b c) : LtP a c := by
  rcases LtP.not.1 h with g | g
  · rw [g]; exact k
  · exact g.trans k
theorem lt_of_lt_n {a b c : ByteArray} (h : LtP a b) (k : ¬ LtP c b) : LtP a c := by
  rcases LtP.not.1 k with g | g
  · rw [← g]; exact h
  · exact h.trans g
theorem mem_take_idx {X : List Fd} {s : Nat} {x : Fd} (h : x ∈ X.take s) : ∃ i, i < s ∧ X[i]? = some x := by
  obtain ⟨i, hi⟩ := List.mem_iff_getElem?.1 h
  rw [List.getElem?_take] at hi
  split at hi
  · exact ⟨i, by assumption, hi⟩
  · cases hi
theorem mem_drop_idx {X : List Fd} {s : Nat} {x : Fd} (h : x ∈ X.drop s) : ∃ i, s ≤ i ∧ X[i]? = some x := by
  obtain ⟨i, hi⟩ := List.mem_iff_getElem?.1 h
  rw [List.getElem?_drop] at hi
  exact ⟨s + i, Nat.le_add_right _ _, hi⟩
theorem part_le {X Y : List Fd} (hX : Flat X) (hY : Flat Y) {s t : Nat} (h : s = 0 ∨ t = Y.length ∨ ∃ x y, X[s - 1]? = some x ∧ Y[t]? = some y ∧ ¬ LtP y.p x.p) : ∀ x ∈ X.take s, ∀ y ∈ Y.drop t, ¬ LtP y.p x.p := by
  intro x hx y hy
  obtain ⟨i, hi, hx⟩ := mem_take_idx hx
  obtain ⟨j, hj, hyj⟩ := mem_drop_idx hy
  rcases h with rfl | rfl | ⟨u, v, hu, hv, huv⟩
  · omega
  · have := (List.getElem?_eq_some_iff.1 hyj).1; omega
  · exact nlt_trans (nlt_trans (flat_idx hX hx hu (by omega)) huv) (flat_idx hY hv hyj hj)
theorem part_lt {X Y : List Fd} (hX : Flat X) (hY : Flat Y) {s t : Nat} (h : s = X.length ∨ t = 0 ∨ ∃ x y, X[s]? = some x ∧ Y[t - 1]? = some y ∧ LtP y.p x.p) : ∀ x ∈ X.drop s, ∀ y ∈ Y.take t, LtP y.p x.p := by
  intro x hx y hy
  obtain ⟨i, hi, hxi⟩ := mem_drop_idx hx
  obtain ⟨j, hj, hy⟩ := mem_take_idx hy
  rcases h with rfl | rfl | ⟨u, v, hu, hv, huv⟩
  · have := (List.getElem?_eq_some_iff.1 hxi).1; omega
  · omega
  · exact lt_of_nlt (flat_idx hY hy hv (by omega)) (lt_of_lt_n huv (flat_idx hX hu hxi hi))
theorem flat_take {X : List Fd} (h : Flat X) (s : Nat) : Flat (X.take s) := List.Pairwise.sublist (List.take_sublist s X) h
theorem flat_drop {X : List Fd} (h : Flat X) (s : Nat) : Flat (X.drop s) := List.Pairwise.sublist (List.drop_sublist s X) h
theorem stab_split {X Y Z1 Z2 : List Fd} (hX : Flat X) (hY : Flat Y) {s t : Nat} (h1 : s = 0 ∨ t = Y.length ∨ ∃ x y, X[s - 1]? = some x ∧ Y[t]? = some y ∧ ¬ LtP y.p x.p) (h2 : s = X.length ∨ t = 0 ∨ ∃ x y, X[s]? = some x ∧ Y[t - 1]? = some y ∧ LtP y.p x.p)
    (z1 : Stab Z1 (X.take s ++ Y.take t)) (z2 : Stab Z2 (X.drop s ++ Y.drop t)) (f1 : Flat Z1) (f2 : Flat Z2) : Flat (Z1 ++ Z2) ∧ Stab (Z1 ++ Z2) (X ++ Y) := by
  have := stab_parts (X1 := X.take s) (X2 := X.drop s) (Y1 := Y.take t) (Y2 := Y.drop t) (by rw [List.take_append_drop]; exact hX) (by rw [List.take_append_drop]; exact hY) (part_le hX hY h1) (part_lt hX hY h2) z1 z2 f1 f2
  rw [List.take_append_drop, List.take_append_drop] at this
  exact this
theorem put_one {Y : List Fd} {x : Fd} (hY : Flat Y) {t : Nat} (h1 : t = 0 ∨ ∃ y, Y[t - 1]? = some y ∧ LtP y.p x.p) (h2 : t = Y.length ∨ ∃ y, Y[t]? = some y ∧ ¬ LtP y.p x.p) : Flat (Y.take t ++ x :: Y.drop t) ∧ Stab (Y.take t ++ x :: Y.drop t) ([x] ++ Y) := by
  refine stab_split (X := [x]) (s := 0) (t := t) (List.pairwise_singleton _ _) hY (.inl rfl) (.inr (h1.imp id fun ⟨y, a, b⟩ => ⟨x, y, rfl, a, b⟩)) (Stab.refl _) (Stab.refl _) (flat_take hY t) ?_
  refine List.pairwise_cons.2 ⟨fun y hy => ?_, flat_drop hY t⟩
  obtain ⟨j, hj, hyj⟩ := mem_drop_idx hy
  rcases h2 with rfl | ⟨v, hv, hvx⟩
  · have := (List.getElem?_eq_some_iff.1 hyj).1; omega
  · exact nlt_trans hvx (flat_idx hY hv hyj hj)
theorem put_last {X : List Fd} {y : Fd} (hX : Flat X) {s : Nat} (h1 : s = 0 ∨ ∃ x, X[s - 1]? = some x ∧ ¬ LtP y.p x.p) (h2 : s = X.length ∨ ∃ x, X[s]? = some x ∧ LtP y.p x.p) : Flat (X.take s ++ y :: X.drop s) ∧ Stab (X.take s ++ y :: X.drop s) (X ++ [y]) := by
  have e : X.take s ++ y :: X.drop s = (X.take s ++ [y]) ++ X.drop s := by simp
  rw [e]
  refine stab_split (Y := [y]) (s := s) (t := 1) hX (List.pairwise_singleton _ _) (.inr (.inl rfl)) (h2.imp id fun h => .inr (h.imp fun x ⟨a, b⟩ => ⟨y, a, rfl, b⟩)) (Stab.refl _) (by simpa using Stab.refl _) ?_ (flat_drop hX s)
  unfold Flat
  rw [List.pairwise_append]
  refine ⟨flat_take hX s, List.pairwise_singleton _ _, fun x hx z hz => ?_⟩
  obtain rfl := List.mem_singleton.1 hz
  obtain ⟨i, hi, hx⟩ := mem_take_idx hx
  rcases h1 with rfl | ⟨v, hv, hvx⟩
  · omega
  · exact nlt_trans (flat_idx hX hx hv (by omega)) hvx
def xch (P A M B S : List Fd) (i : Nat) : List Fd := P ++ (B.take i ++ (A.drop i ++ (M ++ (A.take i ++ (B.drop i ++ S)))))
theorem xch_zero (P A M B S : List Fd) : xch P A M B S 0 = P ++ (A ++ (M ++ (B ++ S))) := by simp [xch]
theorem xch_all (P A M B S : List Fd) {n : Nat} (h1 : A.length = n) (h2 : B.length = n) : xch P A M B S n = P ++ (B ++ (M ++ (A ++ S))) := by
  unfold xch
  rw [List.take_of_length_le (by omega), List.take_of_length_le (by omega), List.drop_of_length_le (by omega), List.drop_of_length_le (by omega)]
  simp
theorem xch_step (P A M B S : List Fd) {n i a b : Nat} (h1 : A.length = n) (h2 : B.length = n) (hi : i < n) (ha : a = P.length) (hb : b = P.length + n + M.length) : swp (xch P A M B S i).toArray (a + i) (b + i) = (xch P A M B S (i + 1)).toArray := by
  have eA : A.drop i = A[i] :: A.drop (i + 1) := List.drop_eq_getElem_cons (by omega)
  have eB : B.drop i = B[i] :: B.drop (i + 1) := List.drop_eq_getElem_cons (by omega)
  have tA : A.take (i + 1) = A.take i ++ [A[i]] := by rw [List.take_add_one, List.getElem?_eq_getElem (by omega)]; rfl
  have tB : B.take (i + 1) = B.take i ++ [B[i]] := by rw [List.take_add_one, List.getElem?_eq_getElem (by omega)]; rfl
  have f1 : xch P A M B S i = (P ++ B.take i) ++ A[i] :: ((A.drop (i + 1) ++ (M ++ A.take i)) ++ B[i] :: (B.drop (i + 1) ++ S)) := by
    unfold xch; rw [eA, eB]; simp only [List.append_assoc, List.cons_append]
  have f2 : xch P A M B S (i + 1) = (P ++ B.take i) ++ B[i] :: ((A.drop (i + 1) ++ (M ++ A.take i)) ++ A[i] :: (B.drop (i + 1) ++ S)) := by
    unfold xch; rw [tA, tB]; simp only [List.append_assoc, List.cons_append, List.nil_append]
  rw [f1, f2]
  exact swp_at _ _ _ _ _ (by rw [ha]; simp; omega) (by rw [hb]; simp; omega)
theorem xch_len (P A M B S : List Fd) (i : Nat) : (xch P A M B S i).length = P.length + A.length + M.length + B.length + S.length := by
  unfold xch
  simp only [List.length_append, List.length_take, List.length_drop]
  omega
def goes (P Y S : List Fd) (x : Fd) (t : Nat) : List Fd := P ++ (Y.take t ++ x :: (Y.drop t ++ S))
theorem goes_len (P Y S : List Fd) (x : Fd) (t : Nat) : (goes P Y S x t).length = P.length + Y.length + 1 + S.length := by
  unfold goes
  simp only [List.length_append, List.length_take, List.length_drop, List.length_cons]
  omega
theorem goes_step (P Y S : List Fd) (x : Fd) {t k : Nat} (ht : t < Y.length) (hk : k = P.length + t) : swp (goes P Y S x t).toArray k (k + 1) = (goes P Y S x (t + 1)).toArray := by
  have eY : Y.drop t = Y[t] :: Y.drop (t + 1) := List.drop_eq_getElem_cons ht
  have tY : Y.take (t + 1) = Y.take t ++ [Y[t]] := by rw [List.take_add_one, List.getElem?_eq_getElem ht]; rfl
  have f1 : goes P Y S x t = (P ++ Y.take t) ++ x :: ([] ++ Y[t] :: (Y.drop (t + 1) ++ S)) := by
    unfold goes; rw [eY]; simp only [List.append_assoc, List.cons_append, List.nil_append]
  have f2 : goes P Y S x (t + 1) = (P ++ Y.take t) ++ Y[t] :: ([] ++ x :: (Y.drop (t + 1) ++ S)) := by
    unfold goes; rw [tY]; simp only [List.append_assoc, List.cons_append, List.nil_append]
  rw [f1, f2]
  exact swp_at _ _ _ _ _ (by rw [hk]; simp; omega) (by rw [hk]; simp; omega)
theorem goes_back (P Y S : List Fd) (x : Fd) {t k : Nat} (ht : t < Y.length) (hk : k = P.length + t) : swp (goes P Y S x (t + 1)).toArray (k + 1) k = (goes P Y S x t).toArray := by
  have eY : Y.drop t = Y[t] :: Y.drop (t + 1) := List.drop_eq_getElem_cons ht
  have tY : Y.take (t + 1) = Y.take t ++ [Y[t]] := by rw [List.take_add_one, List.getElem?_eq_getElem ht]; rfl
  have f1 : goes P Y S x t = (P ++ Y.take t) ++ x :: ([] ++ Y[t] :: (Y.drop (t + 1) ++ S)) := by
    unfold goes; rw [eY]; simp only [List.append_assoc, List.cons_append, List.nil_append]
  have f2 : goes P Y S x (t + 1) = (P ++ Y.take t) ++ Y[t] :: ([] ++ x :: (Y.drop (t + 1) ++ S)) := by
    unfold goes; rw [tY]; simp only [List.append_assoc, List.cons_append, List.nil_append]
  rw [f1, f2, swp_sym]
  exact swp_at _ _ _ _ _ (by rw [hk]; simp; omega) (by rw [hk]; simp; omega)
theorem four_x {P X Y S : List Fd} {c : Nat} (h1 : P.length ≤ c) (h2 : c < P.length + X.length) : ∃ x, X[c - P.length]? = some x ∧ (P ++ (X ++ (Y ++ S))).toArray[c]! = x := by
  have hx : X[c - P.length]? = some X[c - P.length] := List.getElem?_eq_getElem (by omega)
  exact ⟨_, hx, arr_at (by rw [List.getElem?_append_right h1, List.getElem?_append_left (by omega), hx])⟩
theorem four_y {P X Y S : List Fd} {c : Nat} (h1 : P.length + X.length ≤ c) (h2 : c < P.length + X.length + Y.length) : ∃ y, Y[c - (P.length + X.length)]? = some y ∧ (P ++ (X ++ (Y ++ S))).toArray[c]! = y := by
  have hy : Y[c - (P.length + X.length)]? = some Y[c - (P.length + X.length)] := List.getElem?_eq_getElem (by omega)
  exact ⟨_, hy, arr_at (by rw [List.getElem?_append_right (by omega), List.getElem?_append_right (by omega), List.getElem?_append_left (by omega), ← hy]; congr 1; omega)⟩
end Go.Proofs.YtofnpifooaijcaaGreat
