/-
  What is proved: takeEntries of package store, called with any text of bounded length, returns what P8.6 says of the entries; the world has new blocks at most.
  dots of package store, called with any slice of entries that lies in memory, returns their dots, in new memory; the world has new blocks at most.
  Within of package ctx, called with any right sets that lie in memory, tells whether all of the one is in the other (P6.7); the world has new blocks at most.
-/
import Derived.Test.YtoggcpfogeoeaaaGreatDoorM21
import Derived.Test.YtoggcpfogeoeaaaGreatDoorM29
import Derived.Test.YtoggcpfogeoeaaaGreatDoorM31
import Derived.Laws.MakeOwn
import Derived.Test.YtoggcpfogeoeaaaGreatDoorM30
import Derived.Test.YtoggcpfogeoeaaaGreatDoorM15
import Derived.Test.YtoggcpfogeoeaaaGreatDoorM16
namespace Go.Proofs.YtoggcpfogeoeaaaGreatDoor
open Go.RowKit
set_option linter.unusedVariables false

theorem right_sizes {x : En} (h : rightE x = true) : x.p.size ≤ 102 ∧ x.vt.size ≤ 200 := by
  obtain ⟨_, a2, _, a4, _⟩ := rightE_of.1 h
  refine ⟨rightS_size a2, ?_⟩
  unfold rightB at a4
  simp only [decide_eq_true_eq] at a4
  omega
theorem teR_size {s : ByteArray} (h : teE s = 0) : (teR s).size ≤ s.size := by
  have h1 := congrArg ByteArray.size (te_aft h).2
  rw [ByteArray.size_append] at h1
  omega
def SmallEs (L : List En) : Prop := ∀ x ∈ L, x.p.size ≤ 102 ∧ x.vt.size ≤ 200
theorem SmallEs.put {L : List En} (h : SmallEs L) {x : En} (hx : x.p.size ≤ 102 ∧ x.vt.size ≤ 200) : SmallEs (L ++ [x]) := fun y hy => by
  rcases List.mem_append.1 hy with hy | hy
  · exact h y hy
  · obtain rfl : y = x := by simpa using hy
    exact hx
/-- What takeEntries leaves. -/
def TakeEs (s : ByteArray) (w : World) (e : Ending) (w' : World) : Prop :=
  ∃ v L r z, e = .returned (.tuple #[v, .string r, .int .i64 ((z : Nat) : Int)]) ∧ OutE w w' v L ∧ tesL s = (L, r, z) ∧ r.size ≤ s.size ∧ SmallEs L ∧ L.length ≤ s.size
theorem TakeEs.err {s : ByteArray} {w w' : World} {z : Nat} (h : tesL s = ([], ⟨#[]⟩, z)) (hk : Kept w w') : TakeEs s w (.returned (.tuple #[.slice none 0 0, .string ⟨#[]⟩, .int .i64 (z : Int)])) w' :=
  ⟨_, [], _, z, rfl, ⟨World.ownsRow_nil _ _ _ _, hk⟩, h, Nat.zero_le _, (fun x hx => by cases hx), Nat.zero_le _⟩

set_option maxRecDepth 100000 in
set_option maxHeartbeats 8000000 in
theorem takeEs_any (s : ByteArray) (w : World) (hs : s.size ≤ 50000) :
    Calls Tryz.prog 36 #[.string s] w (TakeEs s w) := by
  have hbd := tkN_bd s
  have hrs := tkR_size s
  obtain ⟨n, hn⟩ : ∃ n, tkN s = n := ⟨_, rfl⟩
  obtain ⟨r, hr⟩ : ∃ r, tkR s = r := ⟨_, rfl⟩
  obtain ⟨z, hz⟩ : ∃ z, tkE s = z := ⟨_, rfl⟩
  have AT := Lib.hid (fun w => gtakeK s n r z (by rw [hn]) hr (by rw [hz]) (by omega) w)
  have HTC := Lib.hid (show tesL s = if z ≠ 0 then ([], ⟨#[]⟩, z) else if r.size < n then ([], ⟨#[]⟩, 2) else takeEs n [] r by unfold tesL; rw [hn, hr, hz])
  rw [hn] at hbd
  rw [hr] at hrs
  clear hn hr hz
  go_enter Tryz.func36, Tryz.ntmps36
  by_cases hz : z = 0
  · have d1 : ((z : Int) != 0) = false := by simp [hz]
    have hwr : IntKind.u64.wrap (r.size : Int) = (r.size : Int) := by rw [IntKind.wrap_u64]; omega
    by_cases h64 : r.size < n
    · have d2 : decide ((r.size : Int) < n) = true := decide_eq_true (by omega)
      have d3 : decide (r.size < n) = true := decide_eq_true h64
      have HF := Lib.hid (show tesL s = ([], ⟨#[]⟩, 2) by rw [HTC.out, if_neg (by simp [hz]), if_pos h64])
      clear hz h64
      go_wp2_with fail
      go_at_call 63
      refine (AT.out _).mono ?_
      rintro e w1 ⟨rfl, hk1⟩
      go_wp2_with fail
      go_ret3
      exact TakeEs.err HF.out hk1
    · have d2 : decide ((r.size : Int) < n) = false := decide_eq_false (by omega)
      have d3 : decide (r.size < n) = false := decide_eq_false h64
      have HT2 := Lib.hid (show tesL s = takeEs n [] r by rw [HTC.out, if_neg (by simp [hz]), if_neg h64])
      clear hz
      go_wp2_with fail
      go_at_call 63
      refine (AT.out _).mono ?_
      rintro e w1 ⟨rfl, hk1⟩
      have HK1 := Lib.hid hk1
      clear hk1
      go_wp2_with fail
      go_loopw [6, 8, 27] (fun x v i wr => ∃ (t : Nat) (s1 : ByteArray) (V1 : List En), t ≤ n ∧ i = .int .u64 t ∧ x = .string s1 ∧ s1.size ≤ s.size ∧ V1.length = t ∧ takeEs (n - t) V1 s1 = takeEs n [] r ∧ OutE w wr v V1 ∧ SmallEs V1) (fun _ _ i _ => n - (intOf i).toNat)
      case atStart => exact ⟨0, r, [], Nat.zero_le _, rfl, rfl, hrs, rfl, rfl, (OutE.start w).kept HK1.out, fun x hx => by cases hx⟩
      case round =>
        obtain ⟨t, s1, V1, ht, rfl, rfl, hs1, hvl, htv, hm, hsm⟩ := hrel
        have HMT := Lib.hid hm
        have HSM := Lib.hid hsm
        obtain ⟨A3, c3, rfl, _, _, h31, h32⟩ := hm.form
        rw [hvl] at HMT h31 ⊢
        have HVL := Lib.hid hvl
        have HTV := Lib.hid htv
        clear htv hm hvl hsm
        by_cases hlt : t < n
        · have hadd : IntKind.u64.wrap ((t : Int) + 1) = ((t + 1 : Nat) : Int) := by rw [IntKind.wrap_u64]; omega
          obtain ⟨y, hy⟩ : ∃ y, teR s1 = y := ⟨_, rfl⟩
          obtain ⟨q, hq⟩ : ∃ q, teE s1 = q := ⟨_, rfl⟩
          obtain ⟨x, hx⟩ : ∃ x, teX s1 = x := ⟨_, rfl⟩
          have AI := Lib.hid (fun w => etake_c s1 x y q hx hy (by rw [hq]) (by omega) w)
          by_cases hq0 : q = 0
          · have g1 : ((q : Int) != 0) = false := by simp [hq0]
            have HN := Lib.hid (show takeEs (n - (t + 1)) (V1 ++ [x]) y = takeEs n [] r by
              rw [← HTV.out, show n - t = (n - (t + 1)) + 1 by omega, takeEs_ok (by rw [hq]; exact hq0), hx, hy])
            have hys : y.size ≤ s1.size := by rw [← hy]; exact teR_size (by rw [hq]; exact hq0)
            have HS2 := Lib.hid (HSM.out.put (show x.p.size ≤ 102 ∧ x.vt.size ≤ 200 by rw [← hx]; exact right_sizes (te_aft (by rw [hq]; exact hq0)).1))
            clear hx hy hq hq0
            go_wp2_with fail
            go_at_call 64
            refine (AI.out _).mono ?_
            rintro e w5 ⟨rfl, hk5⟩
            have HE5 := (Ent.new w5 x 35)
            have hk6 := (hk5.trans ((Kept.refl w5).alloc #[.int .i64 x.d.1, .int .i64 x.d.2, .string x.p, .int .i64 x.k, .int .i64 x.vk, .int .i64 x.vn, .string x.vt, .int .i64 x.e.1, .int .i64 x.e.2] 35)).trans ((Kept.refl _).alloc #[.int .i64 x.d.1, .int .i64 x.d.2, .string x.p, .int .i64 x.k, .int .i64 x.vk, .int .i64 x.vn, .string x.vt, .int .i64 x.e.1, .int .i64 x.e.2] 35)
            obtain ⟨v7, w7, hr7, ho7⟩ := (HMT.out.kept hk6).app _ _ _ _ (el_one (Ent.new (w5.alloc (.cells #[.int .i64 x.d.1, .int .i64 x.d.2, .string x.p, .int .i64 x.k, .int .i64 x.vk, .int .i64 x.vn, .string x.vt, .int .i64 x.e.1, .int .i64 x.e.2] 35)) x 35)) (by have := HVL.out; omega)
            rw [show (w5.alloc (.cells #[.int .i64 x.d.1, .int .i64 x.d.2, .string x.p, .int .i64 x.k, .int .i64 x.vk, .int .i64 x.vn, .string x.vt, .int .i64 x.e.1, .int .i64 x.e.2] 35)).heap.size = w5.heap.size + 1 by simp] at hr7
            have HR7 := Lib.hid hr7
            have HO7 := Lib.hid ho7
            have hvl7 : (V1 ++ [x]).length = t + 1 := by rw [List.length_append, HVL.out]; rfl
            have HV7 := Lib.hid hvl7
            have x0 := HE5.c0; have x1 := HE5.c1; have x2 := HE5.c2; have x3 := HE5.c3; have x4 := HE5.c4; have x5 := HE5.c5; have x6 := HE5.c6; have x7 := HE5.c7; have x8 := HE5.c8
            clear hr7 ho7 hk5 hk6 hvl7 HE5
            go_wp2_with (at_builtin; refine Lib.wpList_append_run _ rfl (.tmp 38) (.tmp 40) _ _ rfl _ _ rfl rfl _ _ HR7.out ?_)
            go_roundw
            case rel => exact ⟨t + 1, y, V1 ++ [x], by omega, by first | rfl | go_num, rfl, by omega, HV7.out, HN.out, HO7.out, HS2.out⟩
            case measure => simp [intOf]; omega
          · have g1 : ((q : Int) != 0) = true := by simp [hq0]
            have HF := Lib.hid (show tesL s = ([], ⟨#[]⟩, q) by
              rw [HT2.out, ← HTV.out, show n - t = (n - (t + 1)) + 1 by omega, takeEs_err (by rw [hq]; exact hq0), hq])
            clear hx hy hq hq0 hadd
            go_wp2_with fail
            go_at_call 64
            refine (AI.out _).mono ?_
            rintro e w5 ⟨rfl, hk5⟩
            go_wp2_with fail
            go_ret3
            exact TakeEs.err HF.out (HMT.out.ke.trans (hk5.trans ((Kept.refl w5).alloc #[.int .i64 x.d.1, .int .i64 x.d.2, .string x.p, .int .i64 x.k, .int .i64 x.vk, .int .i64 x.vn, .string x.vt, .int .i64 x.e.1, .int .i64 x.e.2] 35)))
        · have HF := Lib.hid (show tesL s = (V1, s1, 0) by
            rw [HT2.out, ← HTV.out, show n - t = 0 by omega]; rfl)
          go_wp2_with fail
          go_ret3
          exact ⟨_, V1, s1, 0, rfl, HMT.out, HF.out, hs1, HSM.out, by have := HVL.out; omega⟩
  · have d1 : ((z : Int) != 0) = true := by simp [hz]
    have HF := Lib.hid (show tesL s = ([], ⟨#[]⟩, z) by rw [HTC.out, if_pos hz])
    clear hz
    go_wp2_with fail
    go_at_call 63
    refine (AT.out _).mono ?_
    rintro e w1 ⟨rfl, hk1⟩
    go_wp2_with fail
    go_ret3
    exact TakeEs.err HF.out hk1
end Go.Proofs.YtoggcpfogeoeaaaGreatDoor

namespace Go.Proofs.YtoggcpfogeoeaaaGreatDoor
open Go.RowKit
set_option linter.unusedVariables false

/-- A row of n dots that a call makes, filled up to t. -/
structure RowM (U : World) (G : Nat) (n : Nat) (L : List En) (t : Nat) (wr : World) : Prop where
  cell : ∀ j, j < n * 2 → ∃ u, wr.cell? ⟨G, j, none⟩ = some u
  fro : ∀ j, wr.frozen? ⟨G, j, none⟩ = false
  done : ∀ j x, j < t → L[j]? = some x → wr.cell? ⟨G, j * 2, none⟩ = some (.int .i64 x.d.1) ∧ wr.cell? ⟨G, j * 2 + 1, none⟩ = some (.int .i64 x.d.2)
  ke : Kept U wr
  lo : U.heap.size ≤ G
  lt : G < wr.heap.size
theorem RowM.kept {U : World} {G n : Nat} {L : List En} {t : Nat} {wr w' : World} (h : RowM U G n L t wr) (hk : Kept wr w') : RowM U G n L t w' :=
  ⟨fun j hj => (h.cell j hj).imp fun _ hu => hk.cell hu, fun j => (hk.2.1 ⟨G, j, none⟩ h.lt).trans (h.fro j), fun j x hj hx => ⟨hk.cell (h.done j x hj hx).1, hk.cell (h.done j x hj hx).2⟩, h.ke.trans hk, h.lo, Nat.lt_of_lt_of_le h.lt hk.2.2⟩
theorem RowM.set {U : World} {G n : Nat} {L : List En} {t : Nat} {wr : World} (h : RowM U G n L t wr) (ht : t < n) {x : En} (hx : L[t]? = some x) :
    RowM U G n L (t + 1) ((wr.setCell ⟨G, t * 2, none⟩ (.int .i64 x.d.1)).setCell ⟨G, t * 2 + 1, none⟩ (.int .i64 x.d.2)) := by
  obtain ⟨u0, hu0⟩ := h.cell (t * 2) (by omega)
  obtain ⟨u1, hu1⟩ := h.cell (t * 2 + 1) (by omega)
  have s0 : ((wr.setCell ⟨G, t * 2, none⟩ (.int .i64 x.d.1)).setCell ⟨G, t * 2 + 1, none⟩ (.int .i64 x.d.2)).cell? ⟨G, t * 2, none⟩ = some (.int .i64 x.d.1) := by
    rw [World.cell?_setCell_other _ _ _ _ (by intro e'; injection e'; omega)]
    exact World.cell?_setCell_same _ _ _ hu0
  have s1 : ((wr.setCell ⟨G, t * 2, none⟩ (.int .i64 x.d.1)).setCell ⟨G, t * 2 + 1, none⟩ (.int .i64 x.d.2)).cell? ⟨G, t * 2 + 1, none⟩ = some (.int .i64 x.d.2) := by
    refine World.cell?_setCell_same _ _ _ (u := u1) ?_
    rw [World.cell?_setCell_other _ _ _ _ (by intro e'; injection e'; omega)]
    exact hu1
  have so : ∀ j, j ≠ t * 2 → j ≠ t * 2 + 1 → ((wr.setCell ⟨G, t * 2, none⟩ (.int .i64 x.d.1)).setCell ⟨G, t * 2 + 1, none⟩ (.int .i64 x.d.2)).cell? ⟨G, j, none⟩ = wr.cell? ⟨G, j, none⟩ := fun j h1 h2 => by
    rw [World.cell?_setCell_other _ _ _ _ (by intro e'; injection e'; omega), World.cell?_setCell_other _ _ _ _ (by intro e'; injection e'; omega)]
  refine ⟨fun j hj => ?_, fun j => by rw [World.frozen?_setCell, World.frozen?_setCell]; exact h.fro j, fun j y hj hy => ?_, (h.ke.setCell h.lo _).setCell h.lo _, h.lo, by have := h.lt; simpa [World.setCell] using this⟩
  · by_cases e0 : j = t * 2
    · subst e0; exact ⟨_, s0⟩
    by_cases e1 : j = t * 2 + 1
    · subst e1; exact ⟨_, s1⟩
    rw [so j e0 e1]; exact h.cell j hj
  · by_cases e : j = t
    · subst e
      obtain rfl := Option.some.inj (hx.symm.trans hy)
      exact ⟨s0, s1⟩
    · rw [so _ (by omega) (by omega), so _ (by omega) (by omega)]
      exact h.done j y (by omega) hy
theorem RowM.dl {U : World} {G n : Nat} {L : List En} {wr : World} (h : RowM U G n L n wr) (hn : n = L.length) (hm : n ≤ 1000000) : Dl wr (some ⟨G, 0, none⟩) n n (L.map (·.d)) := by
  refine ⟨by rw [List.length_map]; exact hn, Nat.le_refl _, by simp only [maxLen]; omega, (fun e => by cases e), .inr ⟨G, 0, rfl, fun j d hj => ?_⟩⟩
  rw [List.getElem?_map] at hj
  obtain ⟨x, hx, rfl⟩ := Option.map_eq_some_iff.1 hj
  have := h.done j x (by have := (List.getElem?_eq_some_iff.1 hx).1; omega) hx
  rw [Nat.zero_add]
  exact this
theorem make_dots (n : Nat) (hn : n ≤ 1000000) : ∃ cs : Array Value, cs.size = n * 2 ∧
    ∀ W : World, (Instr.makeSlice 23 (.int .i64 (n : Int)) (.int .i64 (n : Int))).run Tryz.prog W = .ok (.slice (some ⟨W.heap.size, 0, none⟩) n n) (W.alloc (.cells cs 31)) := by
  obtain ⟨i0, hi0, hz0, hz1, hz2⟩ := info_parts infoDot
  refine ⟨madeCells (Value.agg #[.int .i64 0, .int .i64 0]).cells (n * 2), size_madeCells _ _, fun W => ?_⟩
  have h := run_make (P := Tryz.prog) W 23 31 i0 (.agg #[.int .i64 0, .int .i64 0]) Tryz.underlying23 hi0 hz0 .i64 .i64 (n : Int) (n : Int) (by omega) (by omega) (by rw [hz2]; omega) (by omega)
  rw [hz1, show ((n : Int)).toNat = n by omega] at h
  exact h

set_option maxRecDepth 100000 in
set_option maxHeartbeats 4000000 in
theorem dots_any (A : Option Addr) (n c : Nat) (L : List En) (w : World) (h : El w A n c L) (hn : n ≤ 1000000) :
    Calls Tryz.prog 29 #[.slice A n c] w fun e w' => ∃ G, e = .returned (.slice (some ⟨G, 0, none⟩) n n) ∧ Dl w' (some ⟨G, 0, none⟩) n n (L.map (·.d)) ∧ Kept w w' := by
  have hcap := h.cap.1; have hcap2 := h.cap.2
  have HN := Lib.hid h.1
  have HE := Lib.hid h
  obtain ⟨cs, hcs, hmk⟩ := make_dots n hn
  have HS := Lib.hid (show RowM w w.heap.size n L 0 (w.alloc (.cells cs 31)) from
    ⟨fun j hj => ⟨cs[j]'(by omega), by rw [World.cell?_alloc_new]; exact Array.getElem?_eq_getElem (by omega)⟩, fun j => by rw [frozen?_alloc_cells]; simp [World.frozen?], fun j x hj => absurd hj (by omega), (Kept.refl w).alloc _ _, Nat.le_refl _, by simp⟩)
  clear h hcs
  go_enter Tryz.func29, Tryz.ntmps29
  go_wp2
  clear hmk
  go_loopw [11] (fun i wr => ∃ t : Nat, t ≤ n ∧ i = .int .i64 t ∧ RowM w w.heap.size n L t wr) (fun i _ => n - (intOf i).toNat)
  case atStart => exact ⟨0, Nat.zero_le _, rfl, HS.out⟩
  case round =>
    obtain ⟨t, ht, rfl, hm⟩ := hrel
    have HM := Lib.hid hm
    clear hm
    by_cases hlt : t < n
    · obtain ⟨g, o, x, rfl, hx, EX⟩ := (HE.out.kept HM.out.ke).get hlt
      have x0 := EX.c0; have x1 := EX.c1; have x2 := EX.c2; have x3 := EX.c3; have x4 := EX.c4; have x5 := EX.c5; have x6 := EX.c6; have x7 := EX.c7; have x8 := EX.c8
      have hM2 := HM.out.kept ((Kept.refl wr).alloc #[.int .i64 x.d.1, .int .i64 x.d.2, .string x.p, .int .i64 x.k, .int .i64 x.vk, .int .i64 x.vn, .string x.vt, .int .i64 x.e.1, .int .i64 x.e.2] 35)
      obtain ⟨u0, g0⟩ := hM2.cell (t * 2) (by omega)
      obtain ⟨u1, g1⟩ := hM2.cell (t * 2 + 1) (by omega)
      have f0 := hM2.fro (t * 2)
      have f1 := hM2.fro (t * 2 + 1)
      have HM3 := Lib.hid (hM2.set hlt hx)
      clear EX hx hM2
      go_wp2
      go_roundw
      case rel => exact ⟨t + 1, hlt, by go_num, HM3.out⟩
      case measure => simp [intOf]; omega
    · obtain rfl : t = n := by omega
      go_wp2
      go_ret
      exact ⟨w.heap.size, rfl, HM.out.dl HN.out hn, HM.out.ke⟩
end Go.Proofs.YtoggcpfogeoeaaaGreatDoor

namespace Go.Proofs.YtoggcpfogeoeaaaGreatDoor
open Go.RowKit

theorem within_iff {V V' : List Int} {C C' : List (Int × Int)} (h' : RightC V' C') : (∀ d, hasC V C d → hasC V' C' d) ↔ (∀ (k : Nat) (x : Int), V[k]? = some x → x ≤ atV V' k) ∧ ∀ d ∈ C, hasC V' C' d := by
  constructor
  · intro h
    refine ⟨fun k x hx => ?_, fun d hd => h d (.inr hd)⟩
    have := right_le h'.vec h'.apart h (k : Int)
    rwa [atV_in hx] at this
  · rintro ⟨h1, h2⟩ d (⟨a, b⟩ | hd)
    · refine .inl ⟨a, ?_⟩
      by_cases hr : 0 ≤ d.1 ∧ d.1 < V.length
      · obtain ⟨k, hk⟩ : ∃ k : Nat, d.1 = k := ⟨d.1.toNat, by omega⟩
        have hkl : k < V.length := by omega
        have := h1 k _ (List.getElem?_eq_getElem hkl)
        rw [hk] at b ⊢
        rw [atV_in (List.getElem?_eq_getElem hkl)] at b
        omega
      · rcases Int.lt_or_le d.1 0 with h0 | h0
        · rw [atV_neg V h0] at b; omega
        · rw [atV_out V (by omega)] at b; omega
    · exact h2 d hd

set_option maxRecDepth 100000 in
set_option maxHeartbeats 4000000 in
theorem gwithin_any (A : Option Addr) (n c : Nat) (V : List Int) (B : Option Addr) (m k : Nat) (C : List (Int × Int)) (A' : Option Addr) (n' c' : Nat) (V' : List Int) (B' : Option Addr) (m' k' : Nat) (C' : List (Int × Int)) (w : World)
    (h : Il w A n c V) (hd : Dl w B m k C) (h' : Il w A' n' c' V') (hd' : Dl w B' m' k' C') (hv' : RightC V' C') (hm : m' ≤ 999980) (r : Bool) (hr : r = true ↔ ∀ d, hasC V C d → hasC V' C' d) :
    Calls Tryz.prog 27 #[.agg #[.slice A n c, .slice B m k], .agg #[.slice A' n' c', .slice B' m' k']] w fun e w' => e = .returned (.bool r) ∧ Kept w w' := by
  have hcap := h.cap.1; have hcap2 := h.cap.2; have hdap := hd.cap.1; have hdap2 := hd.cap.2
  have HN := Lib.hid h.1; have HM := Lib.hid hd.1
  have hK : Kept w ((w.alloc (.cells #[.slice A n c, .slice B m k] 27)).alloc (.cells #[.slice A' n' c', .slice B' m' k'] 27)) := ((Kept.refl w).alloc #[.slice A n c, .slice B m k] 27).alloc #[.slice A' n' c', .slice B' m' k'] 27
  have HI := Lib.hid (h.kept hK); have HD := Lib.hid (hd.kept hK); have HI' := Lib.hid (h'.kept hK); have HD' := Lib.hid (hd'.kept hK)
  have HV' := Lib.hid hv'
  rw [within_iff hv'] at hr
  have HR := Lib.hid hr
  have b0 := Box2.new w (.slice A n c) (.slice B m k) 27 |>.kept ((Kept.refl _).alloc #[.slice A' n' c', .slice B' m' k'] 27)
  have b1 := Box2.new (w.alloc (.cells #[.slice A n c, .slice B m k] 27)) (.slice A' n' c') (.slice B' m' k') 27
  rw [show (w.alloc (.cells #[.slice A n c, .slice B m k] 27)).heap.size = w.heap.size + 1 by simp] at b1
  obtain ⟨U, hU⟩ : ∃ U, (w.alloc (.cells #[.slice A n c, .slice B m k] 27)).alloc (.cells #[.slice A' n' c', .slice B' m' k'] 27) = U := ⟨_, rfl⟩
  rw [hU] at hK HI HD HI' HD' b0 b1
  have HK := Lib.hid hK
  have HX := Lib.hid b0
  have HX' := Lib.hid b1
  have HU := Lib.hid hU
  clear h hd h' hd' hv' hK b0 b1 hr hU
  go_enter Tryz.func27, Tryz.ntmps27
  go_wp2_with fail
  go_loopw [14] (fun i wr => ∃ t : Nat, t ≤ n ∧ i = .int .i64 t ∧ Kept U wr ∧ ∀ (j : Nat) (x : Int), j < t → V[j]? = some x → x ≤ atV V' j) (fun i _ => n - (intOf i).toNat)
  case atStart => exact ⟨0, Nat.zero_le _, rfl, by rw [HU.out]; exact Kept.refl _, fun j x hj => absurd hj (by omega)⟩
  case round =>
    obtain ⟨t, ht, rfl, hkr, hall⟩ := hrel
    have HKR := Lib.hid hkr
    have HA := Lib.hid hall
    clear hkr hall
    by_cases hlt : t < n
    · obtain ⟨g, o, x, rfl, hx, g1⟩ := (HI.out.kept HKR.out).get hlt
      have HXV := Lib.hid hx
      obtain ⟨a, ha⟩ : ∃ a, atV V' (t : Int) = a := ⟨_, rfl⟩
      have AA := Lib.hid (num_c A' n' c' V' B' m' k' t a ha wr (HI'.out.kept HKR.out))
      have HAV := Lib.hid ha
      have e0 := (HX'.out.kept HKR.out).c0
      have e1 := (HX'.out.kept HKR.out).c1
      clear hx ha
      by_cases hxa : a < x
      · have d1 : decide (a < x) = true := by simpa using hxa
        have HF := Lib.hid (no_r HR.out fun hh => by have := hh.1 t x HXV.out; rw [HAV.out] at this; omega)
        clear hxa
        go_wp2_with fail
        go_at_call 53
        refine AA.out.mono ?_
        rintro e w5 ⟨rfl, hk5⟩
        go_wp2_with fail
        go_ret
        exact ⟨ret_bool HF.out, HK.out.trans (HKR.out.trans hk5)⟩
      · have d1 : decide (a < x) = false := by simpa using hxa
        have HN2 := Lib.hid (show ∀ (j : Nat) (y : Int), j < t + 1 → V[j]? = some y → y ≤ atV V' j from fun j y hj hy => by
          rcases Nat.lt_or_ge j t with h | h
          · exact HA.out j y h hy
          · obtain rfl : j = t := by omega
            obtain rfl := Option.some.inj (hy.symm.trans HXV.out)
            rw [HAV.out]; omega)
        clear hxa
        go_wp2_with fail
        go_at_call 53
        refine AA.out.mono ?_
        rintro e w5 ⟨rfl, hk5⟩
        clear g1 e0 e1
        go_wp2_with fail
        go_roundw
        case rel => exact ⟨t + 1, hlt, by go_num, HKR.out.trans hk5, HN2.out⟩
        case measure => simp [intOf]; omega
    · have HVV := Lib.hid (show ∀ (j : Nat) (x : Int), V[j]? = some x → x ≤ atV V' j from fun j x hx => HA.out j x (by have := (List.getElem?_eq_some_iff.1 hx).1; have := HN.out; omega) hx)
      have e0 := (HX.out.kept HKR.out).c0
      have e1 := (HX.out.kept HKR.out).c1
      go_wp2_with fail
      clear e0 e1
      go_loopw [28] (fun i wr => ∃ t : Nat, t ≤ m ∧ i = .int .i64 t ∧ Kept U wr ∧ ∀ (j : Nat) (d : Int × Int), j < t → C[j]? = some d → hasC V' C' d) (fun i _ => m - (intOf i).toNat)
      case atStart => exact ⟨0, Nat.zero_le _, rfl, HKR.out, fun j x hj => absurd hj (by omega)⟩
      case round =>
        clear hlt ht
        obtain ⟨t, ht, rfl, hkr, hall⟩ := hrel
        have HK2 := Lib.hid hkr
        have HA2 := Lib.hid hall
        clear hkr hall
        by_cases hlt : t < m
        · obtain ⟨g, o, ⟨y1, y2⟩, rfl, hy, g1, g2⟩ := (HD.out.kept HK2.out).get hlt
          simp only at g1 g2
          have HY := Lib.hid hy
          obtain ⟨q, hq⟩ : ∃ q, decide (((y1, y2) : Int × Int) ∈ C') = q := ⟨_, rfl⟩
          obtain ⟨u, hu⟩ : ∃ u, upB V' (y1, y2) = u := ⟨_, rfl⟩
          have hkb := HK2.out.alloc #[.int .i64 y1, .int .i64 y2] 31
          have AS := Lib.hid (search_any B' m' k' C' y1 y2 (wr.alloc (.cells #[.int .i64 y1, .int .i64 y2] 31)) (HD'.out.kept hkb) HV'.out.rise (by omega))
          have AU := Lib.hid (fun w h => up_any A' n' c' V' B' m' k' y1 y2 w h u hu)
          have HKB := Lib.hid hkb
          have hin : decide (hasC V' C' (y1, y2)) = (u || q) := by rw [hasC_up, hu, hq]
          have HIN := Lib.hid hin
          have hb := Box2.new wr (.int .i64 y1) (.int .i64 y2) 31
          rw [hq] at AS
          have HB := Lib.hid hb
          have e0 := (HX'.out.kept hkb).c0
          have e1 := (HX'.out.kept hkb).c1
          clear hy hq hu hkb hin hb
          cases q with
          | true =>
            have HN2 := Lib.hid (show ∀ (j : Nat) (d : Int × Int), j < t + 1 → C[j]? = some d → hasC V' C' d from fun j d hj hd => by
              rcases Nat.lt_or_ge j t with h | h
              · exact HA2.out j d h hd
              · obtain rfl : j = t := by omega
                obtain rfl := Option.some.inj (hd.symm.trans HY.out)
                have := HIN.out
                rw [Bool.or_true] at this
                exact of_decide_eq_true this)
            go_wp2_with fail
            go_at_call 31
            refine AS.out.mono ?_
            rintro e w5 ⟨p, rfl, _, _, _, hk5⟩
            clear g1 g2 e0 e1
            go_wp2_with fail
            go_roundw
            case rel => exact ⟨t + 1, hlt, by go_num, HKB.out.trans hk5, HN2.out⟩
            case measure => simp [intOf]; omega
          | false =>
            go_wp2_with fail
            go_at_call 31
            refine AS.out.mono ?_
            rintro e w5 ⟨p, rfl, _, _, _, hk5⟩
            have f0 := hk5.cell e0
            have f1 := hk5.cell e1
            have hb5 := HB.out.kept hk5
            have f2 := hb5.c0
            have f3 := hb5.c1
            have AU2 := Lib.hid (AU.out w5 (HI'.out.kept (HKB.out.trans hk5)))
            clear g1 g2 e0 e1 hb5
            cases u with
            | true =>
              have HN2 := Lib.hid (show ∀ (j : Nat) (d : Int × Int), j < t + 1 → C[j]? = some d → hasC V' C' d from fun j d hj hd => by
                rcases Nat.lt_or_ge j t with h | h
                · exact HA2.out j d h hd
                · obtain rfl : j = t := by omega
                  obtain rfl := Option.some.inj (hd.symm.trans HY.out)
                  exact of_decide_eq_true HIN.out)
              go_wp2_with fail
              go_at_call 34
              refine AU2.out.mono ?_
              rintro e w6 ⟨rfl, hk6⟩
              clear f0 f1 f2 f3
              go_wp2_with fail
              go_roundw
              case rel => exact ⟨t + 1, hlt, by go_num, HKB.out.trans (hk5.trans hk6), HN2.out⟩
              case measure => simp [intOf]; omega
            | false =>
              have HF := Lib.hid (no_r HR.out fun hh => of_decide_eq_false HIN.out (hh.2 _ (List.mem_of_getElem? HY.out)))
              go_wp2_with fail
              go_at_call 34
              refine AU2.out.mono ?_
              rintro e w6 ⟨rfl, hk6⟩
              clear f0 f1 f2 f3
              go_wp2_with fail
              go_ret
              exact ⟨ret_bool HF.out, HK.out.trans (HKB.out.trans (hk5.trans hk6))⟩
        · have HCC := Lib.hid (show ∀ d ∈ C, hasC V' C' d from fun d hd => by
            obtain ⟨j, hj⟩ := List.getElem?_of_mem hd
            exact HA2.out j d (by have := (List.getElem?_eq_some_iff.1 hj).1; have := HM.out; omega) hj)
          have HF := Lib.hid (yes_r (b := true) HR.out ⟨fun _ => ⟨HVV.out, HCC.out⟩, fun _ => rfl⟩)
          go_wp2_with fail
          go_ret
          exact ⟨ret_bool HF.out, HK.out.trans HK2.out⟩
end Go.Proofs.YtoggcpfogeoeaaaGreatDoor

