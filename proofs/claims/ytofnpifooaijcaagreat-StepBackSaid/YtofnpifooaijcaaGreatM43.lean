/-
  What is proved: slices.Equal at fields, and package schema's Same of layer 11 (P11.8), called with any two schemas that lie in memory, tell whether they are the same; the world has new blocks at most.
  package step's functions at the values of the example that layer 14's laws answer, and the laws' own Rename.
  plain facts on lengths: of a step turned, of the fields of a schema that is right; no program is walked here, but Check is told where its answer is known.
-/
import Derived.Test.YtofnpifooaijcaaGreatM12
import Derived.Test.YtofnpifooaijcaaGreatM18
import Derived.Test.YtofnpifooaijcaaGreatM23
import Derived.Test.YtofnpifooaijcaaGreatM39
import Derived.Test.YtofnpifooaijcaaGreatM42
import Derived.Test.YtofnpifooaijcaaGreatM13
namespace Go.Proofs.YtofnpifooaijcaaGreat
open Go.RowKit
set_option linter.unusedVariables false
set_option maxRecDepth 100000 in
set_option maxHeartbeats 8000000 in
theorem feq_any (A : Option Addr) (n c : Nat) (L : List Fd) (A' : Option Addr) (n' c' : Nat) (L' : List Fd) (w : World) (h : Fl w A n c L) (h' : Fl w A' n' c' L') (r : Bool) (hr : r = true ↔ L = L') :
    Calls Tryz.prog 79 #[.slice A n c, .slice A' n' c'] w fun e w' => e = .returned (.bool r) ∧ Kept w w' := by
  have hcap := h.cap.1; have hcap2 := h.cap.2; have hcap' := h'.cap.1; have hcap2' := h'.cap.2
  have HN := Lib.hid h.1; have HN' := Lib.hid h'.1; have HR := Lib.hid hr
  have HI := Lib.hid h; have HI' := Lib.hid h'
  clear h h' hr
  by_cases hn : n = n'
  · subst hn
    go_enter Tryz.func79, Tryz.ntmps79
    go_wp2_with fail
    go_loopw [13] (fun i wr => ∃ j : Nat, j ≤ n ∧ i = .int .i64 j ∧ Kept w wr ∧ ∀ i, i < j → L[i]? = L'[i]?) (fun i _ => n - (intOf i).toNat)
    case atStart => exact ⟨0, Nat.zero_le _, rfl, Kept.refl _, fun i hi => absurd hi (by omega)⟩
    case round =>
      obtain ⟨j, hj, rfl, hkr, hall⟩ := hrel
      have HR2 := Lib.hid hkr
      have HA := Lib.hid hall
      clear hkr hall
      by_cases hlt : j < n
      · obtain ⟨g, o, x, rfl, hx, EX⟩ := (HI.out.kept HR2.out).get hlt
        obtain ⟨g', o', y, rfl, hy, EY⟩ := (HI'.out.kept HR2.out).get hlt
        have x0 := KExt.cell EX.c0; have x1 := KExt.cell EX.c1; have x2 := KExt.cell EX.c2; have x3 := KExt.cell EX.c3; have x4 := KExt.cell EX.c4; have x5 := KExt.cell EX.c5
        have y0 := KExt.cell EY.c0; have y1 := KExt.cell EY.c1; have y2 := KExt.cell EY.c2; have y3 := KExt.cell EY.c3; have y4 := KExt.cell EY.c4; have y5 := KExt.cell EY.c5
        have HY := Lib.hid hy
        have HX := Lib.hid hx
        clear hy hx EY EX
        by_cases hyy : x = y
        · have HN2 := Lib.hid (show ∀ i, i < j + 1 → L[i]? = L'[i]? from fun i hi => by
            rcases Nat.lt_or_ge i j with h | h
            · exact HA.out i h
            · obtain rfl : i = j := by omega
              rw [HY.out, HX.out, hyy])
          obtain ⟨d0, d1, d2, d3, d4, d5⟩ := fd_eq hyy
          clear hyy
          go_wp2_with fail
          refine region_kept _ (by kernel_rfl) (by kernel_rfl) (Kept.refl _) ?_
          repeat (go_big_quiet_step (fail))
          refine wpQuiet_nil ?_
          intro G
          clear x0 y0 x1 y1 x2 y2 x3 y3 x4 y4 x5 y5
          go_wp2_with fail
          go_roundw
          case rel => exact ⟨j + 1, hlt, by go_num, HR2.out.trans G.g, HN2.out⟩
          case measure => simp [intOf]; omega
        · have HF := Lib.hid (show false = r by
            rw [eq_comm, ← Bool.not_eq_true, HR.out]
            rintro rfl
            exact hyy (Option.some.inj (HX.out.symm.trans HY.out)))
          rcases fd_ne hyy with d0 | ⟨d0, d1⟩ | ⟨d0, d1, d2⟩ | ⟨d0, d1, d2, d3⟩ | ⟨d0, d1, d2, d3, d4⟩ | ⟨d0, d1, d2, d3, d4, d5⟩
          all_goals
            clear hyy
            go_wp2_with fail
            refine region_kept _ (by kernel_rfl) (by kernel_rfl) (Kept.refl _) ?_
            repeat (go_big_quiet_step (fail))
            refine wpQuiet_nil ?_
            intro G
            clear x0 y0 x1 y1 x2 y2 x3 y3 x4 y4 x5 y5
            go_wp2_with fail
            go_ret
            exact ⟨ret_bool HF.out, HR2.out.trans G.g⟩
      · obtain rfl : j = n := by omega
        have HF := Lib.hid (show true = r by
          rw [eq_comm, HR.out]
          refine List.ext_getElem? fun i => ?_
          rcases Nat.lt_or_ge i j with h | h
          · exact HA.out i h
          · rw [List.getElem?_eq_none (by have := HN.out; omega), List.getElem?_eq_none (by have := HN'.out; omega)])
        go_wp2_with fail
        go_ret
        exact ⟨ret_bool HF.out, HR2.out⟩
  · have f1 : ((n : Int) == (n' : Int)) = false := by simp; omega
    have f2 : (n == n') = false := by simpa using hn
    have HF := Lib.hid (show false = r by
      rw [eq_comm, ← Bool.not_eq_true, HR.out]
      rintro rfl
      exact hn (HN.out.trans HN'.out.symm))
    clear hn
    go_enter Tryz.func79, Tryz.ntmps79
    go_wp2_with fail
    go_ret
    exact ⟨ret_bool HF.out, Kept.refl _⟩
set_option maxRecDepth 100000 in
set_option maxHeartbeats 4000000 in
theorem ssame_any (A : Option Addr) (n c : Nat) (L : List Fd) (A' : Option Addr) (n' c' : Nat) (L' : List Fd) (w : World) (h : Fl w A n c L) (h' : Fl w A' n' c' L') (r : Bool) (hr : r = true ↔ L = L') :
    Calls Tryz.prog 24 #[.agg #[.slice A n c], .agg #[.slice A' n' c']] w fun e w' => e = .returned (.bool r) ∧ Kept w w' := by
  have HK := Lib.hid (((Kept.refl w).alloc #[.slice A n c] 24).alloc #[.slice A' n' c'] 24)
  have HB0 := Lib.hid (Box1.new w (.slice A n c) 24)
  have HB1 := Lib.hid (Box1.new (w.alloc (.cells #[.slice A n c] 24)) (.slice A' n' c') 24)
  have AC := Lib.hid (feq_any A n c L A' n' c' L' ((w.alloc (.cells #[.slice A n c] 24)).alloc (.cells #[.slice A' n' c'] 24)) (h.kept HK.out) (h'.kept HK.out) r hr)
  have d0 := (HB0.out.kept ((Kept.refl _).alloc #[.slice A' n' c'] 24)).c0
  have d1 := (HB1.out.kept (Kept.refl _)).c0
  clear h h' hr
  go_enter Tryz.func24, Tryz.ntmps24
  go_wp2_with fail
  go_at_call 79
  refine AC.out.mono ?_
  rintro e w1 ⟨rfl, hk⟩
  go_wp2_with fail
  go_ret
  exact ⟨rfl, HK.out.trans hk⟩
theorem turn_qT : turnSt qT = sRen ⟨#[97, 47, 99]⟩ ⟨#[98]⟩ := by kernel_rfl
theorem turn_qU : turnSt (sRen ⟨#[97, 47, 99]⟩ ⟨#[98]⟩) = qT := by kernel_rfl
theorem Pal.emp {w : World} {A : Option Addr} {n c : Nat} (h : Pal w A n c []) : n = 0 := h.1
theorem sz_none : SzT .none := ⟨(fun p hp => by cases hp), by decide, by decide, by decide⟩
set_option maxRecDepth 100000 in
set_option maxHeartbeats 8000000 in
theorem frename_any (p nm : ByteArray) (w : World) :
    Calls Tryz.prog 27 #[.string p, .string nm] w fun e w' => e = .returned (.agg #[.int .i64 1, .string p, .string nm, .string ⟨#[]⟩, .int .i64 0, .int .i64 0, .int .i64 0, .int .i64 0, .string ⟨#[]⟩, .int .i64 0, .int .i64 0, .string ⟨#[]⟩, .int .i64 0, .int .i64 0, .slice none 0 0, .bool false, .int .i64 0, .int .i64 0, .string ⟨#[]⟩, .int .i64 0, .int .i64 0, .string ⟨#[]⟩, .bool false]) ∧ Kept w w' := by
  have hr := StB.zero w 33
  have hk := (Kept.refl w).alloc #[.int .i64 0, .string ⟨#[]⟩, .string ⟨#[]⟩, .string ⟨#[]⟩, .int .i64 0, .int .i64 0, .int .i64 0, .int .i64 0, .string ⟨#[]⟩, .int .i64 0, .int .i64 0, .string ⟨#[]⟩, .int .i64 0, .int .i64 0, .slice none 0 0, .bool false, .int .i64 0, .int .i64 0, .string ⟨#[]⟩, .int .i64 0, .int .i64 0, .string ⟨#[]⟩, .bool false] 33
  obtain ⟨U, hU⟩ : ∃ U, w.alloc (.cells #[.int .i64 0, .string ⟨#[]⟩, .string ⟨#[]⟩, .string ⟨#[]⟩, .int .i64 0, .int .i64 0, .int .i64 0, .int .i64 0, .string ⟨#[]⟩, .int .i64 0, .int .i64 0, .string ⟨#[]⟩, .int .i64 0, .int .i64 0, .slice none 0 0, .bool false, .int .i64 0, .int .i64 0, .string ⟨#[]⟩, .int .i64 0, .int .i64 0, .string ⟨#[]⟩, .bool false] 33) = U := ⟨_, rfl⟩
  rw [hU] at hr hk
  have hrx := hr.over none 0 0 (sRen p nm)
  have HTH := Lib.hid (hr.there none 0 0 (sRen p nm))
  have hkx := Kept.setCells (b := w.heap.size) (Nat.le_refl _) (cellS none 0 0 (sRen p nm)).toArray.toList 0 _ hk
  obtain ⟨w9, hw9⟩ : ∃ u, World.setCells U w.heap.size 0 (cellS none 0 0 (sRen p nm)).toArray.toList = u := ⟨_, rfl⟩
  rw [hw9] at hrx hkx
  have HRX := Lib.hid hrx; have HKX := Lib.hid hkx; have HW9 := Lib.hid hw9; have HUU := Lib.hid hU
  clear hr hk hU hrx hkx hw9
  go_enter Tryz.func27, Tryz.ntmps27
  go_wp2_with (first | rw [HUU.out] | (refine wpList_store_mid rfl 33 _ _ rfl w.heap.size 0 (cellS none 0 0 (sRen p nm)).toArray rfl rfl HTH.out (step_sizeA none 0 0 (sRen p nm)) (cellS_one none 0 0 (sRen p nm)) ?_; rw [HW9.out]))
  try simp only [Exit.inBlock, Exit.then]
  exact bodyPost_ret (results_step rfl _ rfl HRX.out) rfl ⟨rfl, HKX.out⟩
set_option maxRecDepth 100000
theorem StS_of (k : Int) (p nm : ByteArray) (f : Fd) (d : Va) (hp : p.size ≤ 2000) (hn : nm.size ≤ 2000) (h1 : f.p.size ≤ 2000) (h2 : f.vt.size ≤ 100000) (h3 : d.t.size ≤ 100000) : StS ⟨k, p, nm, f, d, 0, 0, .none⟩ :=
  ⟨hp, hn, h1, h2, h3, (fun p hp => by cases hp), Nat.zero_le _, Nat.zero_le _⟩
theorem check_yes {A : Option Addr} {n c : Nat} {L M : List Fd} {x : St} {w : World} (h : Fl w A n c L) (hc : CheckR L x M) (hS : StS x) (hT : x.T = .none) (hL : ∀ f ∈ L, f.p.size ≤ 2000 ∧ f.vt.size ≤ 1000000000) (hn : n ≤ 40) (k : Nat) (hk : M.length = k) :
    Calls Tryz.prog 8 #[.agg #[.slice A n c], .agg (cellS none 0 0 x).toArray] w fun e w' => ∃ B d, e = .returned (.tuple #[.agg #[.slice B k d], .int .i64 0]) ∧ Fl w' B k d M ∧ Kept w w' := by
  refine (scheck_any A n c L none 0 0 x w h (by rw [hT]; exact Pal.nil _) hS (by rw [hT]; exact sz_none) hL hn).mono fun e w' hh => ?_
  obtain ⟨B, m, d, er, rfl, hkk, hor⟩ := hh
  rcases hor with ⟨rfl, M', hM, hf⟩ | ⟨_, _, _, _, hno⟩
  · obtain rfl := hc.one hM
    obtain rfl : m = k := by rw [← hk]; exact hf.1
    exact ⟨B, d, rfl, hf, hkk⟩
  · exact absurd hc (hno _)
theorem check_no {A : Option Addr} {n c : Nat} {L : List Fd} {x : St} {w : World} (h : Fl w A n c L) (hc : ∀ M, ¬ CheckR L x M) (hS : StS x) (hT : x.T = .none) (hL : ∀ f ∈ L, f.p.size ≤ 2000 ∧ f.vt.size ≤ 1000000000) (hn : n ≤ 40) :
    Calls Tryz.prog 8 #[.agg #[.slice A n c], .agg (cellS none 0 0 x).toArray] w fun e w' => e = .returned (.tuple #[.agg #[.slice none 0 0], .int .i64 10]) ∧ Kept w w' := by
  refine (scheck_any A n c L none 0 0 x w h (by rw [hT]; exact Pal.nil _) hS (by rw [hT]; exact sz_none) hL hn).mono fun e w' hh => ?_
  obtain ⟨B, m, d, er, rfl, hkk, hor⟩ := hh
  rcases hor with ⟨_, M', hM, _⟩ | ⟨rfl, rfl, rfl, rfl, _⟩
  · exact absurd hM (hc M')
  · exact ⟨rfl, hkk⟩
theorem smL_sz : ∀ f ∈ smL, f.p.size ≤ 2000 ∧ f.vt.size ≤ 1000000000 := of_decide_eq_true (by kernel_rfl)
theorem M4_sz : ∀ f ∈ M4, f.p.size ≤ 2000 ∧ f.vt.size ≤ 1000000000 := of_decide_eq_true (by kernel_rfl)
theorem c_ck1 {A : Option Addr} {c : Nat} {w : World} (h : Fl w A 4 c smL) : Calls Tryz.prog 8 #[.agg #[.slice A 4 c], .agg #[.int .i64 1, .string ⟨#[109]⟩, .string ⟨#[110]⟩, .string ⟨#[]⟩, .int .i64 0, .int .i64 0, .int .i64 0, .int .i64 0, .string ⟨#[]⟩, .int .i64 0, .int .i64 0, .string ⟨#[]⟩, .int .i64 0, .int .i64 0, .slice none 0 0, .bool false, .int .i64 0, .int .i64 0, .string ⟨#[]⟩, .int .i64 0, .int .i64 0, .string ⟨#[]⟩, .bool false]] w fun e w' => ∃ B d, e = .returned (.tuple #[.agg #[.slice B 4 d], .int .i64 0]) ∧ Fl w' B 4 d M1 ∧ Kept w w' :=
  check_yes (x := q1) h ck1 (StS_of _ _ _ _ _ (by decide) (by decide) (by decide) (by decide) (by decide)) rfl smL_sz (by decide) 4 rfl
theorem c_ck2 {A : Option Addr} {c : Nat} {w : World} (h : Fl w A 4 c smL) : Calls Tryz.prog 8 #[.agg #[.slice A 4 c], .agg #[.int .i64 2, .string ⟨#[97, 47, 120]⟩, .string ⟨#[]⟩, .string ⟨#[]⟩, .int .i64 0, .int .i64 0, .int .i64 0, .int .i64 0, .string ⟨#[]⟩, .int .i64 0, .int .i64 0, .string ⟨#[]⟩, .int .i64 0, .int .i64 0, .slice none 0 0, .bool false, .int .i64 0, .int .i64 0, .string ⟨#[]⟩, .int .i64 0, .int .i64 0, .string ⟨#[]⟩, .bool false]] w fun e w' => ∃ B d, e = .returned (.tuple #[.agg #[.slice B 4 d], .int .i64 0]) ∧ Fl w' B 4 d M2 ∧ Kept w w' :=
  check_yes (x := q2) h ck2 (StS_of _ _ _ _ _ (by decide) (by decide) (by decide) (by decide) (by decide)) rfl smL_sz (by decide) 4 rfl
theorem c_ck3 {A : Option Addr} {c : Nat} {w : World} (h : Fl w A 4 c smL) : Calls Tryz.prog 8 #[.agg #[.slice A 4 c], .agg #[.int .i64 3, .string ⟨#[99]⟩, .string ⟨#[100]⟩, .string ⟨#[]⟩, .int .i64 0, .int .i64 0, .int .i64 0, .int .i64 0, .string ⟨#[]⟩, .int .i64 0, .int .i64 0, .string ⟨#[]⟩, .int .i64 0, .int .i64 0, .slice none 0 0, .bool false, .int .i64 0, .int .i64 0, .string ⟨#[]⟩, .int .i64 0, .int .i64 0, .string ⟨#[]⟩, .bool false]] w fun e w' => ∃ B d, e = .returned (.tuple #[.agg #[.slice B 4 d], .int .i64 0]) ∧ Fl w' B 4 d M3 ∧ Kept w w' :=
  check_yes (x := q3) h ck3 (StS_of _ _ _ _ _ (by decide) (by decide) (by decide) (by decide) (by decide)) rfl smL_sz (by decide) 4 rfl
theorem c_ck4 {A : Option Addr} {c : Nat} {w : World} (h : Fl w A 4 c smL) : Calls Tryz.prog 8 #[.agg #[.slice A 4 c], .agg #[.int .i64 6, .string ⟨#[97, 47, 120]⟩, .string ⟨#[]⟩, .string ⟨#[]⟩, .int .i64 0, .int .i64 0, .int .i64 0, .int .i64 0, .string ⟨#[]⟩, .int .i64 0, .int .i64 0, .string ⟨#[]⟩, .int .i64 0, .int .i64 0, .slice none 0 0, .bool false, .int .i64 0, .int .i64 0, .string ⟨#[]⟩, .int .i64 0, .int .i64 0, .string ⟨#[]⟩, .bool false]] w fun e w' => ∃ B d, e = .returned (.tuple #[.agg #[.slice B 4 d], .int .i64 0]) ∧ Fl w' B 4 d M4 ∧ Kept w w' :=
  check_yes (x := q4) h ck4 (StS_of _ _ _ _ _ (by decide) (by decide) (by decide) (by decide) (by decide)) rfl smL_sz (by decide) 4 rfl
theorem c_ck5 {A : Option Addr} {c : Nat} {w : World} (h : Fl w A 4 c M4) : Calls Tryz.prog 8 #[.agg #[.slice A 4 c], .agg #[.int .i64 7, .string ⟨#[97, 47, 120]⟩, .string ⟨#[]⟩, .string ⟨#[]⟩, .int .i64 0, .int .i64 0, .int .i64 0, .int .i64 0, .string ⟨#[]⟩, .int .i64 0, .int .i64 0, .string ⟨#[]⟩, .int .i64 0, .int .i64 0, .slice none 0 0, .bool false, .int .i64 0, .int .i64 0, .string ⟨#[]⟩, .int .i64 0, .int .i64 0, .string ⟨#[]⟩, .bool false]] w fun e w' => ∃ B d, e = .returned (.tuple #[.agg #[.slice B 4 d], .int .i64 0]) ∧ Fl w' B 4 d smL ∧ Kept w w' :=
  check_yes (x := q5) h ck5 (StS_of _ _ _ _ _ (by decide) (by decide) (by decide) (by decide) (by decide)) rfl M4_sz (by decide) 4 rfl
theorem c_ck9 {A : Option Addr} {c : Nat} {w : World} (h : Fl w A 4 c smL) : Calls Tryz.prog 8 #[.agg #[.slice A 4 c], .agg #[.int .i64 8, .string ⟨#[109, 47, 42, 47, 116]⟩, .string ⟨#[]⟩, .string ⟨#[]⟩, .int .i64 0, .int .i64 0, .int .i64 0, .int .i64 0, .string ⟨#[]⟩, .int .i64 2, .int .i64 0, .string ⟨#[]⟩, .int .i64 0, .int .i64 0, .slice none 0 0, .bool false, .int .i64 0, .int .i64 0, .string ⟨#[]⟩, .int .i64 0, .int .i64 0, .string ⟨#[]⟩, .bool false]] w fun e w' => ∃ B d, e = .returned (.tuple #[.agg #[.slice B 4 d], .int .i64 0]) ∧ Fl w' B 4 d M9 ∧ Kept w w' :=
  check_yes (x := q9) h ck9 (StS_of _ _ _ _ _ (by decide) (by decide) (by decide) (by decide) (by decide)) rfl smL_sz (by decide) 4 rfl
theorem c_ck6 {A : Option Addr} {c : Nat} {w : World} (h : Fl w A 4 c smL) : Calls Tryz.prog 8 #[.agg #[.slice A 4 c], .agg #[.int .i64 6, .string ⟨#[99]⟩, .string ⟨#[]⟩, .string ⟨#[]⟩, .int .i64 0, .int .i64 0, .int .i64 0, .int .i64 0, .string ⟨#[]⟩, .int .i64 0, .int .i64 0, .string ⟨#[]⟩, .int .i64 0, .int .i64 0, .slice none 0 0, .bool false, .int .i64 0, .int .i64 0, .string ⟨#[]⟩, .int .i64 0, .int .i64 0, .string ⟨#[]⟩, .bool false]] w fun e w' => e = .returned (.tuple #[.agg #[.slice none 0 0], .int .i64 10]) ∧ Kept w w' :=
  check_no (x := q6) h ck6 (StS_of _ _ _ _ _ (by decide) (by decide) (by decide) (by decide) (by decide)) rfl smL_sz (by decide)
theorem c_ck7 {A : Option Addr} {c : Nat} {w : World} (h : Fl w A 4 c smL) : Calls Tryz.prog 8 #[.agg #[.slice A 4 c], .agg #[.int .i64 1, .string ⟨#[97, 47, 120]⟩, .string ⟨#[121]⟩, .string ⟨#[]⟩, .int .i64 0, .int .i64 0, .int .i64 0, .int .i64 0, .string ⟨#[]⟩, .int .i64 0, .int .i64 0, .string ⟨#[]⟩, .int .i64 0, .int .i64 0, .slice none 0 0, .bool false, .int .i64 0, .int .i64 0, .string ⟨#[]⟩, .int .i64 0, .int .i64 0, .string ⟨#[]⟩, .bool false]] w fun e w' => e = .returned (.tuple #[.agg #[.slice none 0 0], .int .i64 10]) ∧ Kept w w' :=
  check_no (x := q7) h ck7 (StS_of _ _ _ _ _ (by decide) (by decide) (by decide) (by decide) (by decide)) rfl smL_sz (by decide)
theorem c_ck8 {A : Option Addr} {c : Nat} {w : World} (h : Fl w A 4 c smL) : Calls Tryz.prog 8 #[.agg #[.slice A 4 c], .agg #[.int .i64 4, .string ⟨#[]⟩, .string ⟨#[]⟩, .string ⟨#[109, 47, 107]⟩, .int .i64 3, .int .i64 1, .int .i64 0, .int .i64 0, .string ⟨#[]⟩, .int .i64 0, .int .i64 0, .string ⟨#[]⟩, .int .i64 0, .int .i64 0, .slice none 0 0, .bool false, .int .i64 0, .int .i64 0, .string ⟨#[]⟩, .int .i64 0, .int .i64 0, .string ⟨#[]⟩, .bool false]] w fun e w' => e = .returned (.tuple #[.agg #[.slice none 0 0], .int .i64 10]) ∧ Kept w w' :=
  check_no (x := q8) h ck8 (StS_of _ _ _ _ _ (by decide) (by decide) (by decide) (by decide) (by decide)) rfl smL_sz (by decide)
theorem q9_P : StP q9 := ⟨by decide, by decide, ⟨by decide, by decide, by decide, by decide⟩, ⟨by decide, by decide, by decide⟩, by decide, by decide, by decide, by decide, ⟨⟨by decide, by decide, by decide⟩, ⟨by decide, by decide, by decide⟩, (fun p hp => by cases hp), by decide⟩⟩
theorem c_putQ (w : World) : Calls Tryz.prog 20 #[.string ⟨#[]⟩, .agg #[.int .i64 8, .string ⟨#[109, 47, 42, 47, 116]⟩, .string ⟨#[]⟩, .string ⟨#[]⟩, .int .i64 0, .int .i64 0, .int .i64 0, .int .i64 0, .string ⟨#[]⟩, .int .i64 2, .int .i64 0, .string ⟨#[]⟩, .int .i64 0, .int .i64 0, .slice none 0 0, .bool false, .int .i64 0, .int .i64 0, .string ⟨#[]⟩, .int .i64 0, .int .i64 0, .string ⟨#[]⟩, .bool false]] w fun e w' => e = .returned (.string bQ) ∧ Kept w w' :=
  sput_step none 0 0 q9 w (Pal.nil _) q9_P bQ rfl
theorem c_takeQ (w : World) : Calls Tryz.prog 10 #[.string (bQ ++ ⟨#[122]⟩)] w fun e w' => ∃ A c, e = .returned (.tuple #[.agg #[.int .i64 8, .string ⟨#[109, 47, 42, 47, 116]⟩, .string ⟨#[]⟩, .string ⟨#[]⟩, .int .i64 0, .int .i64 0, .int .i64 0, .int .i64 0, .string ⟨#[]⟩, .int .i64 2, .int .i64 0, .string ⟨#[]⟩, .int .i64 0, .int .i64 0, .slice A 0 c, .bool false, .int .i64 0, .int .i64 0, .string ⟨#[]⟩, .int .i64 0, .int .i64 0, .string ⟨#[]⟩, .bool false], .string ⟨#[122]⟩, .int .i64 0]) ∧ Pal w' A 0 c [] ∧ Kept w w' := by
  refine (sttake_any bZ w bZ_size).mono fun e w' h => ?_
  unfold TakeE at h
  rw [aw_take14] at h
  obtain ⟨A, n, c, rfl, hp, hk⟩ := h
  obtain rfl : n = 0 := Pal.emp hp
  exact ⟨A, c, rfl, hp, hk⟩
theorem c_sameQ (A : Option Addr) (c : Nat) (w : World) (h : Pal w A 0 c []) : Calls Tryz.prog 22 #[.agg #[.int .i64 8, .string ⟨#[109, 47, 42, 47, 116]⟩, .string ⟨#[]⟩, .string ⟨#[]⟩, .int .i64 0, .int .i64 0, .int .i64 0, .int .i64 0, .string ⟨#[]⟩, .int .i64 2, .int .i64 0, .string ⟨#[]⟩, .int .i64 0, .int .i64 0, .slice none 0 0, .bool false, .int .i64 0, .int .i64 0, .string ⟨#[]⟩, .int .i64 0, .int .i64 0, .string ⟨#[]⟩, .bool false], .agg #[.int .i64 8, .string ⟨#[109, 47, 42, 47, 116]⟩, .string ⟨#[]⟩, .string ⟨#[]⟩, .int .i64 0, .int .i64 0, .int .i64 0, .int .i64 0, .string ⟨#[]⟩, .int .i64 2, .int .i64 0, .string ⟨#[]⟩, .int .i64 0, .int .i64 0, .slice A 0 c, .bool false, .int .i64 0, .int .i64 0, .string ⟨#[]⟩, .int .i64 0, .int .i64 0, .string ⟨#[]⟩, .bool false]] w fun e w' => e = .returned (.bool true) ∧ Kept w w' :=
  ssameS_any none 0 0 q9 A 0 c q9 w (Pal.nil _) h true (by simp)
theorem c_turnT (w : World) : Calls Tryz.prog 18 #[.agg #[.int .i64 1, .string ⟨#[97, 47, 98]⟩, .string ⟨#[99]⟩, .string ⟨#[]⟩, .int .i64 0, .int .i64 0, .int .i64 0, .int .i64 0, .string ⟨#[]⟩, .int .i64 0, .int .i64 0, .string ⟨#[]⟩, .int .i64 0, .int .i64 0, .slice none 0 0, .bool false, .int .i64 0, .int .i64 0, .string ⟨#[]⟩, .int .i64 0, .int .i64 0, .string ⟨#[]⟩, .bool false]] w fun e w' => ∃ A c, e = .returned (.agg #[.int .i64 1, .string ⟨#[97, 47, 99]⟩, .string ⟨#[98]⟩, .string ⟨#[]⟩, .int .i64 0, .int .i64 0, .int .i64 0, .int .i64 0, .string ⟨#[]⟩, .int .i64 0, .int .i64 0, .string ⟨#[]⟩, .int .i64 0, .int .i64 0, .slice A 0 c, .bool false, .int .i64 0, .int .i64 0, .string ⟨#[]⟩, .int .i64 0, .int .i64 0, .string ⟨#[]⟩, .bool false]) ∧ Pal w' A 0 c [] ∧ Kept w w' := by
  refine (sturn_any none 0 0 qT w (Pal.nil _) (by decide) (by decide) sz_none).mono fun e w' h => ?_
  unfold TurnE at h
  rw [turn_qT] at h
  obtain ⟨A, n, c, rfl, hp, hk⟩ := h
  obtain rfl : n = 0 := Pal.emp hp
  exact ⟨A, c, rfl, hp, hk⟩
theorem c_turnU (A : Option Addr) (c : Nat) (w : World) (h : Pal w A 0 c []) : Calls Tryz.prog 18 #[.agg #[.int .i64 1, .string ⟨#[97, 47, 99]⟩, .string ⟨#[98]⟩, .string ⟨#[]⟩, .int .i64 0, .int .i64 0, .int .i64 0, .int .i64 0, .string ⟨#[]⟩, .int .i64 0, .int .i64 0, .string ⟨#[]⟩, .int .i64 0, .int .i64 0, .slice A 0 c, .bool false, .int .i64 0, .int .i64 0, .string ⟨#[]⟩, .int .i64 0, .int .i64 0, .string ⟨#[]⟩, .bool false]] w fun e w' => ∃ A c, e = .returned (.agg #[.int .i64 1, .string ⟨#[97, 47, 98]⟩, .string ⟨#[99]⟩, .string ⟨#[]⟩, .int .i64 0, .int .i64 0, .int .i64 0, .int .i64 0, .string ⟨#[]⟩, .int .i64 0, .int .i64 0, .string ⟨#[]⟩, .int .i64 0, .int .i64 0, .slice A 0 c, .bool false, .int .i64 0, .int .i64 0, .string ⟨#[]⟩, .int .i64 0, .int .i64 0, .string ⟨#[]⟩, .bool false]) ∧ Pal w' A 0 c [] ∧ Kept w w' := by
  refine (sturn_any A 0 c (sRen ⟨#[97, 47, 99]⟩ ⟨#[98]⟩) w h (by decide) (by decide) sz_none).mono fun e w' h => ?_
  unfold TurnE at h
  rw [turn_qU] at h
  obtain ⟨A, n, c, rfl, hp, hk⟩ := h
  obtain rfl : n = 0 := Pal.emp hp
  exact ⟨A, c, rfl, hp, hk⟩
theorem c_sameT (A : Option Addr) (c : Nat) (w : World) (h : Pal w A 0 c []) : Calls Tryz.prog 22 #[.agg #[.int .i64 1, .string ⟨#[97, 47, 98]⟩, .string ⟨#[99]⟩, .string ⟨#[]⟩, .int .i64 0, .int .i64 0, .int .i64 0, .int .i64 0, .string ⟨#[]⟩, .int .i64 0, .int .i64 0, .string ⟨#[]⟩, .int .i64 0, .int .i64 0, .slice A 0 c, .bool false, .int .i64 0, .int .i64 0, .string ⟨#[]⟩, .int .i64 0, .int .i64 0, .string ⟨#[]⟩, .bool false], .agg #[.int .i64 1, .string ⟨#[97, 47, 98]⟩, .string ⟨#[99]⟩, .string ⟨#[]⟩, .int .i64 0, .int .i64 0, .int .i64 0, .int .i64 0, .string ⟨#[]⟩, .int .i64 0, .int .i64 0, .string ⟨#[]⟩, .int .i64 0, .int .i64 0, .slice none 0 0, .bool false, .int .i64 0, .int .i64 0, .string ⟨#[]⟩, .int .i64 0, .int .i64 0, .string ⟨#[]⟩, .bool false]] w fun e w' => e = .returned (.bool true) ∧ Kept w w' :=
  ssameS_any A 0 c qT none 0 0 qT w h (Pal.nil _) true (by simp)
theorem c_moveQ (w : World) : Calls Tryz.prog 12 #[.agg #[.int .i64 1, .string ⟨#[109]⟩, .string ⟨#[110]⟩, .string ⟨#[]⟩, .int .i64 0, .int .i64 0, .int .i64 0, .int .i64 0, .string ⟨#[]⟩, .int .i64 0, .int .i64 0, .string ⟨#[]⟩, .int .i64 0, .int .i64 0, .slice none 0 0, .bool false, .int .i64 0, .int .i64 0, .string ⟨#[]⟩, .int .i64 0, .int .i64 0, .string ⟨#[]⟩, .bool false], .string ⟨#[109, 47, 42, 47, 116]⟩] w fun e w' => e = .returned (.string ⟨#[110, 47, 42, 47, 116]⟩) ∧ Kept w w' :=
  smove_any _ none 0 0 q1 w (by decide) (by decide) (by decide) _ aw_move14
theorem pre_yes : preS ⟨#[109, 47, 42, 47, 116]⟩ ⟨#[109, 47, 42]⟩ := by unfold preS; exact of_decide_eq_true (by kernel_rfl)
theorem pre_no : ¬ preS ⟨#[109, 47, 42, 47, 116]⟩ ⟨#[109, 47, 107]⟩ := by unfold preS; exact of_decide_eq_true (by kernel_rfl)
theorem c_pre1 (w : World) : Calls Tryz.prog 14 #[.string ⟨#[109, 47, 42, 47, 116]⟩, .string ⟨#[109, 47, 42]⟩] w fun e w' => e = .returned (.bool true) ∧ w = w' :=
  spre_any _ _ (by decide) (by decide) true ⟨fun _ => pre_yes, fun _ => rfl⟩ w
theorem c_pre2 (w : World) : Calls Tryz.prog 14 #[.string ⟨#[109, 47, 42, 47, 116]⟩, .string ⟨#[109, 47, 107]⟩] w fun e w' => e = .returned (.bool false) ∧ w = w' :=
  spre_any _ _ (by decide) (by decide) false ⟨(fun h => by cases h), fun h => absurd h pre_no⟩ w
theorem sg_le {Q : List Sg} (h : ∀ s ∈ Q, s.length ≤ 16) (i : Nat) : (L4.ofL (Q.getD i [])).size ≤ 16 := by
  have e : (L4.ofL (Q.getD i [])).size = (Q.getD i []).length := by unfold L4.ofL; simp [ByteArray.size]
  rw [e, List.getD_eq_getElem?_getD]
  cases hq : Q[i]? with
  | none => simp
  | some s => exact h s (List.mem_of_getElem? hq)
theorem turn_sizes {x : St} (h : ShapeR x) (hS : StS x) (hT : SzT x.T) : StS (turnSt x) ∧ SzT (turnSt x).T := by
  have hmv : Mv x → (paB (toS x)).size ≤ 2000 ∧ ∀ s ∈ sL x.p, s.length ≤ 16 := fun hm => by
    obtain ⟨a, b⟩ := toS_segs hm h
    exact ⟨Nat.le_trans (paB_size a b) (by decide), (pat_segs (mv_parts hm h).1).2⟩
  unfold turnSt
  by_cases k1 : x.k = 1
  · rw [if_pos k1]
    obtain ⟨a, b⟩ := hmv (.inl k1)
    exact ⟨⟨a, Nat.le_trans (sg_le b _) (by decide), hS.fp, hS.ft, hS.d, hS.L, hS.td, hS.tb⟩, hT⟩
  rw [if_neg k1]
  by_cases k2 : x.k = 2
  · rw [if_pos k2]
    obtain ⟨a, b⟩ := hmv (.inr (.inl k2))
    by_cases hl : 2 ≤ (sL x.p).length
    · rw [if_pos hl]
      exact ⟨⟨a, Nat.le_trans (sg_le b _) (by decide), hS.fp, hS.ft, hS.d, hS.L, hS.td, hS.tb⟩, hT⟩
    · rw [if_neg hl]; exact ⟨hS, hT⟩
  rw [if_neg k2]
  by_cases k3 : x.k = 3
  · rw [if_pos k3]
    obtain ⟨a, b⟩ := hmv (.inr (.inr k3))
    exact ⟨⟨a, Nat.zero_le _, hS.fp, hS.ft, hS.d, hS.L, hS.td, hS.tb⟩, hT⟩
  rw [if_neg k3]
  have hk : ∀ k : Int, StS { x with k := k } ∧ SzT ({ x with k := k } : St).T := fun k => ⟨⟨hS.p, hS.nm, hS.fp, hS.ft, hS.d, hS.L, hS.td, hS.tb⟩, hT⟩
  split
  · exact hk 5
  split
  · exact hk 4
  split
  · exact hk 7
  split
  · exact hk 6
  split
  · exact hk 9
  split
  · exact hk 8
  split
  · exact ⟨⟨hS.p, hS.nm, hS.fp, hS.ft, hS.d, hT.turn.L, hT.turn.d, hT.turn.b⟩, hT.turn⟩
  · exact ⟨hS, hT⟩
theorem ScOk.sz {M : List Fd} (h : ScOk M) : ∀ f ∈ M, f.p.size ≤ 102 ∧ f.vt.size ≤ 200 := fun f hf => by
  obtain ⟨h1, h2⟩ := rightF_of.1 (h.ent f hf)
  refine ⟨patS_size h1, ?_⟩
  rcases h2 with ⟨_, hb, _⟩ | ⟨_, _, _, ht⟩
  · unfold rightB at hb
    have := of_decide_eq_true hb
    omega
  · rw [ht]; exact Nat.zero_le _
theorem check_to {AL : Option Addr} {m cL : Nat} {L M : List Fd} {A : Option Addr} {n c : Nat} {x : St} {w : World} (h : Fl w AL m cL L) (hp : Pal w A n c x.T.L) (hc : CheckR L x M) (hS : StS x) (hT : SzT x.T) (k : Nat) (hk : M.length = k) :
    Calls Tryz.prog 8 #[.agg #[.slice AL m cL], .agg (cellS A n c x).toArray] w fun e w' => ∃ B d, e = .returned (.tuple #[.agg #[.slice B k d], .int .i64 0]) ∧ Fl w' B k d M ∧ Kept w w' := by
  have hm : m ≤ 40 := by have := hc.2.1.few; have := h.1; omega
  refine (scheck_any AL m cL L A n c x w h hp hS hT (fun f hf => by have := hc.2.1.sz f hf; omega) hm).mono fun e w' hh => ?_
  obtain ⟨B, j, d, er, rfl, hkk, hor⟩ := hh
  rcases hor with ⟨rfl, M', hM, hf⟩ | ⟨_, _, _, _, hno⟩
  · obtain rfl := hc.one hM
    obtain rfl : j = k := by rw [← hk]; exact hf.1
    exact ⟨B, d, rfl, hf, hkk⟩
  · exact absurd hc (hno _)
end Go.Proofs.YtofnpifooaijcaaGreat
