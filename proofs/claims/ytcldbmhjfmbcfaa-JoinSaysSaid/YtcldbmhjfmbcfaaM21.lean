/-
  What is proved: join.having, called with any set that lies in memory and whose dots by themselves are right, hands back a function that tells of any dot whether it is in the set: so does that function, called in whatever world keeps what was laid; the world has new blocks at most.
  Get of package store (P8.2), called with any state whose entries rise and any dot, returns what the dot left, and whether there is such; the world has new blocks at most.
  the functions that package join hands on: staying(s) tells of an entry whether s has its dot among its entries, or has not heard of it (P9.1); Beyond's own tells whether a set has not its dot (P9.4); each called in whatever world keeps what was laid; the world has new blocks at most.
-/
import Derived.Test.YtcldbmhjfmbcfaaM20
import Derived.Test.YtcldbmhjfmbcfaaM17
namespace Go.Proofs.Ytcldbmhjfmbcfaa
open Go.RowKit
set_option linter.unusedVariables false

theorem run_makeMapN (n : Nat) (w : World) : (Instr.makeMap 74 (some (.int .i64 (n : Int)))).run Try.prog w = .ok (.map (some w.heap.size)) (w.alloc (.map #[] 0)) := by
  unfold Instr.makeMap
  simp [run_underlying mapD, asInt, asIntOf, Result.andThen]
/-- What lies in memory where 'having' was called: in block m the map's, in block b the set itself. -/
structure Hav (w : World) (m b : Nat) (V : List Int) (C : List (Int × Int)) : Prop where
  set : ∃ g, w.cell? ⟨m, 0, none⟩ = some (.map (some g)) ∧ SetM w g C
  ctx : ∃ A n c u, w.cell? ⟨b, 0, none⟩ = some (.slice A n c) ∧ w.cell? ⟨b, 1, none⟩ = some u ∧ Il w A n c V
theorem Hav.kept {w w' : World} {m b : Nat} {V : List Int} {C : List (Int × Int)} (h : Hav w m b V C) (hk : Kept w w') : Hav w' m b V C := by
  obtain ⟨⟨g, h1, h2⟩, A, n, c, u, h3, h4, h5⟩ := h
  exact ⟨⟨g, hk.cell h1, h2.kept hk⟩, A, n, c, u, hk.cell h3, hk.cell h4, h5.kept hk⟩
theorem has_parts (V : List Int) (C : List (Int × Int)) (d : Int × Int) : decide (hasC V C d) = (decide (d ∈ C) || decide (hasC V [] d)) := by
  rw [Bool.eq_iff_iff, Bool.or_eq_true, decide_eq_true_iff, decide_eq_true_iff, decide_eq_true_iff]
  unfold hasC
  simp only [List.not_mem_nil, or_false]
  exact or_comm

set_option maxRecDepth 100000 in
set_option maxHeartbeats 4000000 in
theorem hav1_any (m b : Nat) (V : List Int) (C : List (Int × Int)) (d1 d2 : Int) (w : World) (h : Hav w m b V C) (hC : ∀ x ∈ C, WfD x) (hd : WfD (d1, d2)) (r : Bool) (hr : decide (hasC V C (d1, d2)) = r) :
    Calls Try.prog 58 #[.agg #[.int .i64 d1, .int .i64 d2], .pointer (some ⟨m, 0, none⟩), .pointer (some ⟨b, 0, none⟩)] w fun e w' => e = .returned (.bool r) ∧ Kept w w' := by
  have hk := (Kept.refl w).alloc #[.int .i64 d1, .int .i64 d2] 42
  obtain ⟨⟨g, h1, h2⟩, A, n, c, u, h3, h4, h5⟩ := h.kept hk
  have HKEY := Lib.hid (keyD (d1, d2) hd)
  have b0 := Box2.new w (.int .i64 d1) (.int .i64 d2) 42
  have y0 := b0.c0; have y1 := b0.c1
  have hk2 := hk.alloc #[] 75
  have hk3 := (Kept.refl (w.alloc (.cells #[.int .i64 d1, .int .i64 d2] 42))).alloc #[] 75
  have HIL := Lib.hid (h5.kept hk3)
  have h6 := hk3.cell h3
  have HS := Lib.hid h2
  have HK2 := Lib.hid hk2
  obtain ⟨z, hz⟩ : ∃ z, decide ((d1, d2) ∈ C) = z := ⟨_, rfl⟩
  have hm := setL_has C hC (d1, d2) hd
  rw [hz] at hm
  have hp := has_parts V C (d1, d2)
  rw [hr, hz] at hp
  have HM := Lib.hid hm
  have HZZ := Lib.hid hz
  clear h hk h2 h5 hk2 hk3 hC hd hm hr b0 hz
  cases z with
  | true =>
    have HR := Lib.hid (show true = r by rw [hp]; rfl)
    clear hp
    go_enter Try.func58, Try.ntmps58
    go_wp2_with (at_lookup; refine wpList_lookup_own_unit _ rfl _ _ 74 rfl 42 75 keyedD mapD (zeroU _) g _ _ rfl HS.out _ _ rfl HKEY.out ?_; rw [HM.out])
    go_ret
    exact ⟨ret_bool HR.out, HK2.out⟩
  | false =>
    obtain ⟨q, hq⟩ : ∃ q, decide (hasC V [] (d1, d2)) = q := ⟨_, rfl⟩
    have HR := Lib.hid (show q = r by rw [hp, hq]; rfl)
    have HQ := Lib.hid hq
    have AH := Lib.hid (ghas_any A n c V none 0 0 [] d1 d2 _ HIL.out (Dl.nil _) q HQ.out)
    clear hp hq
    go_enter Try.func58, Try.ntmps58
    go_wp2_with (at_lookup; refine wpList_lookup_own_unit _ rfl _ _ 74 rfl 42 75 keyedD mapD (zeroU _) g _ _ rfl HS.out _ _ rfl HKEY.out ?_; rw [HM.out])
    go_at_call 59
    refine AH.out.mono ?_
    rintro e w1 ⟨rfl, hk1⟩
    go_wp2_with fail
    go_ret
    exact ⟨ret_bool HR.out, HK2.out.trans hk1⟩
theorem Kept.map {W w : World} (h : Kept W w) : Kept W (w.alloc (.map #[] 0)) := kept_grown h (World.grownBy_alloc w _ none) (fun k hk => by cases hk)
theorem SetM.put {w : World} {b : Nat} {L : List (Int × Int)} {d : Int × Int} (h : w.ownsMap Try.prog 42 unitElem b (L.length + 1) ((setL L).put (litD d) (.agg []))) : SetM w b (L ++ [d]) := by
  unfold SetM
  rw [List.length_append, ← setL_put]
  exact h
theorem take_snoc {L : List (Int × Int)} {t : Nat} {x : Int × Int} (h : L[t]? = some x) : L.take (t + 1) = L.take t ++ [x] := by
  rw [List.take_add_one, h]; rfl
set_option maxRecDepth 100000 in
set_option maxHeartbeats 4000000 in
theorem having_any (A : Option Addr) (n c : Nat) (V : List Int) (B : Option Addr) (m k : Nat) (C : List (Int × Int)) (w : World) (h : Il w A n c V) (hd : Dl w B m k C) (hC : ∀ x ∈ C, WfD x) (hm : m ≤ 1000000) :
    Calls Try.prog 36 #[.agg #[.slice A n c, .slice B m k]] w fun e w' => ∃ mm bb, e = .returned (.func (.func 58) #[] #[.pointer (some ⟨mm, 0, none⟩), .pointer (some ⟨bb, 0, none⟩)]) ∧ Hav w' mm bb V C ∧ Kept w w' := by
  have hmf : ∀ (fn : Fn) (first cap : Array Value) (w : World), (Instr.makeFunc fn first cap).run Try.prog w = .ok (.func fn first cap) w := fun _ _ _ _ => rfl
  have hmm := run_makeMapN m
  have hk1 := (Kept.refl w).alloc #[.slice A n c, .slice B m k] 26
  have hk2 := hk1.map
  have hk3 := hk2.alloc #[.map (some (w.heap.size + 1))] 74
  have hr2 := (Kept.refl (w.alloc (.cells #[.slice A n c, .slice B m k] 26))).map
  have hr3 := (Kept.refl ((w.alloc (.cells #[.slice A n c, .slice B m k] 26)).alloc (.map #[] 0))).alloc #[.map (some (w.heap.size + 1))] 74
  have b0 := Box2.new w (.slice A n c) (.slice B m k) 26
  have s0 := SetM.made (w.alloc (.cells #[.slice A n c, .slice B m k] 26))
  rw [show (w.alloc (.cells #[.slice A n c, .slice B m k] 26)).heap.size = w.heap.size + 1 by simp] at s0
  have q0 : (((w.alloc (.cells #[.slice A n c, .slice B m k] 26)).alloc (.map #[] 0)).alloc (.cells #[.map (some (w.heap.size + 1))] 74)).cell? ⟨w.heap.size + 1 + 1, 0, none⟩ = some (.map (some (w.heap.size + 1))) := by
    have := World.cell?_alloc_new ((w.alloc (.cells #[.slice A n c, .slice B m k] 26)).alloc (.map #[] 0)) #[.map (some (w.heap.size + 1))] 74 0
    rw [show ((w.alloc (.cells #[.slice A n c, .slice B m k] 26)).alloc (.map #[] 0)).heap.size = w.heap.size + 1 + 1 by simp] at this
    rw [this]; rfl
  have HB := Lib.hid ((b0.kept hr2).kept hr3)
  have HS := Lib.hid (s0.kept hr3)
  obtain ⟨U, hU⟩ : ∃ U, ((w.alloc (.cells #[.slice A n c, .slice B m k] 26)).alloc (.map #[] 0)).alloc (.cells #[.map (some (w.heap.size + 1))] 74) = U := ⟨_, rfl⟩
  rw [hU] at hk3 q0 HB HS
  have HQ := Lib.hid q0
  have HK := Lib.hid hk3
  have HUU := Lib.hid hU
  have HD := Lib.hid hd
  have HI := Lib.hid h
  have HC := Lib.hid hC
  have y0 := b0.c0; have y1 := b0.c1
  have hcap := hd.cap.1; have hcap2 := hd.cap.2
  have HML := Lib.hid hd.1
  clear h hd hC hk1 hk2 hk3 hr2 hr3 b0 s0 q0 hU
  go_enter Try.func36, Try.ntmps36
  go_wp2_with fail
  rw [HUU.out]
  clear y0 y1
  go_loopw [13] (fun i wr => ∃ t : Nat, t ≤ m ∧ i = .int .i64 t ∧ KeptE (w.heap.size + 1) U wr ∧ SetM wr (w.heap.size + 1) (C.take t)) (fun i _ => m - (intOf i).toNat)
  case atStart => exact ⟨0, Nat.zero_le _, rfl, KeptE.refl _ _, by rw [List.take_zero]; exact HS.out⟩
  case round =>
    obtain ⟨t, ht, rfl, hke, hsm⟩ := hrel
    have HE := Lib.hid hke
    have HSM := Lib.hid hsm
    have q1 := hke.cell (b := w.heap.size + 1 + 1) (by omega) HQ.out
    clear hke hsm
    by_cases hlt : t < m
    · obtain ⟨g, o, x, rfl, hx, x0, x1⟩ := (HD.out.kept (HE.out.kept HK.out (by omega))).get hlt
      have HKEY := Lib.hid (keyD x (HC.out x (List.mem_of_getElem? hx)))
      have HTK := Lib.hid (take_snoc hx)
      have hka := (Kept.refl wr).alloc #[.int .i64 x.1, .int .i64 x.2] 42
      have HSA := Lib.hid (HSM.out.kept hka)
      have HEA := Lib.hid (HE.out.trans hka)
      have HLT := Lib.hid (show (C.take t).length < maxLen by rw [List.length_take]; simp only [maxLen]; omega)
      have bx := Box2.new wr (.int .i64 x.1) (.int .i64 x.2) 42
      have z0 := bx.c0; have z1 := bx.c1
      have q2 := hka.cell q1
      clear hx hka bx
      go_wp2_with (at_mapUpdate; refine wpList_mapUpdate_in _ rfl _ _ _ 74 rfl 42 75 keyedD mapD unitElem (w.heap.size + 1) _ _ rfl HSA.out HLT.out _ _ _ rfl rfl HKEY.out _ [] unitElem_mk ?_; intro w1 hown1 hturn1; have HT1 := Lib.hid hturn1; have HO1 := Lib.hid hown1; clear hown1 hturn1)
      have HE1 := Lib.hid (HEA.out.turned HT1.out)
      have HS1 := Lib.hid (SetM.put HO1.out)
      go_roundw
      case rel => exact ⟨t + 1, hlt, by go_num, HE1.out, by rw [HTK.out]; exact HS1.out⟩
      case measure => simp [intOf]; omega
    · obtain rfl : t = m := by omega
      have HT := Lib.hid (show C.take t = C from List.take_of_length_le (by rw [← HML.out]; exact Nat.le_refl _))
      go_wp2_with fail
      go_ret
      have hkw := HE.out.kept HK.out (by omega)
      refine ⟨_, _, rfl, ⟨⟨w.heap.size + 1, q1, by rw [← HT.out]; exact HSM.out⟩, A, n, c, _, HE.out.cell (by omega) HB.out.c0, HE.out.cell (by omega) HB.out.c1, HI.out.kept hkw⟩, hkw⟩
end Go.Proofs.Ytcldbmhjfmbcfaa

namespace Go.Proofs.Ytcldbmhjfmbcfaa
open Go.RowKit
set_option linter.unusedVariables false

/-- P8.2. -/
def Gets (L : List En) (d : Int × Int) (z : Bool) (w : World) (e : Ending) (w' : World) : Prop :=
  ∃ y : En, e = .returned (.tuple #[.agg #[.int .i64 y.d.1, .int .i64 y.d.2, .string y.p, .int .i64 y.k, .int .i64 y.vk, .int .i64 y.vn, .string y.vt, .int .i64 y.e.1, .int .i64 y.e.2], .bool z]) ∧ (z = true → y ∈ L ∧ y.d = d) ∧ (z = false → y = .none) ∧ Kept w w'
set_option maxRecDepth 100000 in
set_option maxHeartbeats 4000000 in
theorem get_any (A : Option Addr) (n c : Nat) (L : List En) (u1 u2 : Value) (d1 d2 : Int) (w : World) (h : El w A n c L) (hr : RiseE L) (hn : n ≤ 1000000) (z : Bool) (hz : hasE L (d1, d2) = z) :
    Calls Try.prog 54 #[.agg #[.slice A n c, u1, u2], .agg #[.int .i64 d1, .int .i64 d2]] w (Gets L (d1, d2) z w) := by
  have hk := (((Kept.refl w).alloc #[.slice A n c, u1, u2] 28).alloc #[.int .i64 d1, .int .i64 d2] 42).alloc #[.int .i64 0, .int .i64 0, .string ⟨#[]⟩, .int .i64 0, .int .i64 0, .int .i64 0, .string ⟨#[]⟩, .int .i64 0, .int .i64 0] 46
  have HS := Lib.hid (find_any A n c L u1 u2 d1 d2 _ (h.kept hk) hr hn z hz)
  have HK := Lib.hid hk
  have HD := Lib.hid (h.kept hk)
  have hc1 := h.cap.1
  have hc2 := h.cap.2
  have HB := Lib.hid ((Box3.new w (.slice A n c) u1 u2 28).kept (((Kept.refl _).alloc #[.int .i64 d1, .int .i64 d2] 42).alloc #[.int .i64 0, .int .i64 0, .string ⟨#[]⟩, .int .i64 0, .int .i64 0, .int .i64 0, .string ⟨#[]⟩, .int .i64 0, .int .i64 0] 46))
  have hen0 := EntF.new ((w.alloc (.cells #[.slice A n c, u1, u2] 28)).alloc (.cells #[.int .i64 d1, .int .i64 d2] 42)) .none 46
  simp only [En.none] at hen0
  rw [show ((w.alloc (.cells #[.slice A n c, u1, u2] 28)).alloc (.cells #[.int .i64 d1, .int .i64 d2] 42)).heap.size = w.heap.size + 2 by simp] at hen0
  have HEN := Lib.hid hen0
  have HN := Lib.hid h.1
  have HZ := Lib.hid hz
  clear h hr hk hz hen0
  go_enter Try.func54, Try.ntmps54
  go_wp2_with fail
  go_at_call 44
  refine HS.out.mono ?_
  rintro e w1 ⟨k, rfl, hp, hk1⟩
  have hb := HB.out.kept hk1
  have b0 := hb.c0
  have HK1 := Lib.hid (HK.out.trans hk1)
  have HD1 := Lib.hid (HD.out.kept hk1)
  have hen := HEN.out.kept hk1
  have xf := hen.f
  have x0 := hen.ent.c0; have x1 := hen.ent.c1; have x2 := hen.ent.c2; have x3 := hen.ent.c3; have x4 := hen.ent.c4; have x5 := hen.ent.c5; have x6 := hen.ent.c6; have x7 := hen.ent.c7; have x8 := hen.ent.c8
  have HP := Lib.hid hp
  clear hb hk1 hp hen
  cases z with
  | false =>
    go_wp2_with fail
    refine bodyPost_ret (by simp [results, Try.results54, go_sem, En.none, *]) rfl ⟨.none, rfl, (fun h => by cases h), (fun _ => rfl), ?_⟩
    exact ((((((((((HK1.out.setCell (Nat.le_add_right _ 2) _).setCell (Nat.le_add_right _ 2) _).setCell (Nat.le_add_right _ 2) _).setCell (Nat.le_add_right _ 2) _).setCell (Nat.le_add_right _ 2) _).setCell (Nat.le_add_right _ 2) _).setCell (Nat.le_add_right _ 2) _).setCell (Nat.le_add_right _ 2) _).setCell (Nat.le_add_right _ 2) _))
  | true =>
    obtain ⟨y, hy, hyd⟩ := HP.out.yes HZ.out
    have hkn : k < n := by have := (List.getElem?_eq_some_iff.1 hy).1; have := HN.out; omega
    obtain ⟨g, o, y', rfl, hy', EY⟩ := HD1.out.get hkn
    obtain rfl := Option.some.inj (hy.symm.trans hy')
    have HY := Lib.hid (List.mem_of_getElem? hy)
    have HYD := Lib.hid hyd
    have y0 := EY.c0; have y1 := EY.c1; have y2 := EY.c2; have y3 := EY.c3; have y4 := EY.c4; have y5 := EY.c5; have y6 := EY.c6; have y7 := EY.c7; have y8 := EY.c8
    clear EY hy hy' hyd
    go_wp2_with fail
    refine bodyPost_ret (by simp [results, Try.results54, go_sem, *]) rfl ⟨y, rfl, (fun _ => ⟨HY.out, HYD.out⟩), (fun h => by cases h), ?_⟩
    exact ((((((((((HK1.out.setCell (Nat.le_add_right _ 2) _).setCell (Nat.le_add_right _ 2) _).setCell (Nat.le_add_right _ 2) _).setCell (Nat.le_add_right _ 2) _).setCell (Nat.le_add_right _ 2) _).setCell (Nat.le_add_right _ 2) _).setCell (Nat.le_add_right _ 2) _).setCell (Nat.le_add_right _ 2) _).setCell (Nat.le_add_right _ 2) _))
end Go.Proofs.Ytcldbmhjfmbcfaa

namespace Go.Proofs.Ytcldbmhjfmbcfaa
open Go.RowKit
set_option linter.unusedVariables false

theorem set_new (w : World) (f v : Value) (t : TypeId) : (w.alloc (.cells #[v] t)).setCell ⟨w.heap.size, 0, none⟩ f = w.alloc (.cells #[f] t) := by
  have e : (w.heap.push (.cells #[v] t)).modify w.heap.size (fun | .cells c elem frozen => .cells (c.setIfInBounds 0 f) elem frozen | o => o) = w.heap.push (.cells #[f] t) := by
    apply Array.ext
    · simp
    · intro i h1 h2
      rw [Array.getElem_modify]
      by_cases hi : w.heap.size = i
      · subst hi; simp
      · simp only [if_neg hi]
        simp at h2
        rw [Array.getElem_push_lt (by omega), Array.getElem_push_lt (by omega)]
  exact congrArg (fun h => { w with heap := h }) e
theorem store_fn (w : World) (fn : Fn) (a b : Array Value) (t : TypeId) : (store ⟨w.heap.size, 0, none⟩ (.func fn a b)).run Try.prog (w.alloc (.cells #[.nilFunc] t)) = .ok () (w.alloc (.cells #[.func fn a b] t)) := by
  rw [run_store _ _ _ _ _ rfl]
  have e1 : (w.alloc (.cells #[.nilFunc] t)).cell? ⟨w.heap.size, 0, none⟩ = some .nilFunc := by rw [World.cell?_alloc_new]; rfl
  have e2 : (w.alloc (.cells #[.nilFunc] t)).frozen? ⟨w.heap.size, 0, none⟩ = false := by rw [frozen?_alloc_cells]; simp [World.frozen?]
  simp only [e1, e2, Bool.false_eq_true, if_false]
  rw [set_new]
/-- What lies in memory where 'staying' was called: in block sb the state, in block hb what tells of dots. -/
structure Sty (w : World) (sb hb : Nat) (L : List En) (V : List Int) (C : List (Int × Int)) : Prop where
  st : ∃ A n c u1 u2, Box3 w sb (.slice A n c) u1 u2 ∧ El w A n c L
  hv : ∃ m b, w.cell? ⟨hb, 0, none⟩ = some (.func (.func 58) #[] #[.pointer (some ⟨m, 0, none⟩), .pointer (some ⟨b, 0, none⟩)]) ∧ Hav w m b V C
theorem Sty.kept {w w' : World} {sb hb : Nat} {L : List En} {V : List Int} {C : List (Int × Int)} (h : Sty w sb hb L V C) (hk : Kept w w') : Sty w' sb hb L V C := by
  obtain ⟨⟨A, n, c, u1, u2, h1, h2⟩, m, b, h3, h4⟩ := h
  exact ⟨⟨A, n, c, u1, u2, h1.kept hk, h2.kept hk⟩, m, b, hk.cell h3, h4.kept hk⟩
/-- Whether an entry stays. -/
def stayE (L : List En) (V : List Int) (C : List (Int × Int)) (x : En) : Bool := hasE L x.d || !decide (hasC V C x.d)
def newE (V : List Int) (C : List (Int × Int)) (x : En) : Bool := !decide (hasC V C x.d)

set_option maxRecDepth 100000 in
set_option maxHeartbeats 4000000 in
theorem stay1_any (sb hb : Nat) (L : List En) (V : List Int) (C : List (Int × Int)) (x : En) (w : World) (h : Sty w sb hb L V C) (hr : RiseE L) (hl : L.length ≤ 1000000) (hC : ∀ x ∈ C, WfD x) (hd : WfD x.d) (r : Bool) (hrr : stayE L V C x = r) :
    Calls Try.prog 53 #[.agg #[.int .i64 x.d.1, .int .i64 x.d.2, .string x.p, .int .i64 x.k, .int .i64 x.vk, .int .i64 x.vn, .string x.vt, .int .i64 x.e.1, .int .i64 x.e.2], .pointer (some ⟨sb, 0, none⟩), .pointer (some ⟨hb, 0, none⟩)] w fun e w' => e = .returned (.bool r) ∧ Kept w w' := by
  have hk := (Kept.refl w).alloc #[.int .i64 x.d.1, .int .i64 x.d.2, .string x.p, .int .i64 x.k, .int .i64 x.vk, .int .i64 x.vn, .string x.vt, .int .i64 x.e.1, .int .i64 x.e.2] 46
  obtain ⟨⟨A, n, c, u1, u2, hb3, hel⟩, m, b, hf, hh⟩ := h.kept hk
  obtain ⟨z, hz⟩ : ∃ z, hasE L x.d = z := ⟨_, rfl⟩
  have e0 := Ent.new w x 46
  have AG := Lib.hid (get_any A n c L u1 u2 x.d.1 x.d.2 _ hel hr (by rw [hel.1]; exact hl) z hz)
  have HEN := Lib.hid e0
  have HK := Lib.hid hk
  have HH := Lib.hid (show Sty _ sb hb L V C from h.kept hk)
  have HF := Lib.hid hf
  have HHV := Lib.hid hh
  have HCC := Lib.hid hC
  have HD := Lib.hid hd
  obtain ⟨z1, hz1⟩ : ∃ z1, decide (hasC V C x.d) = z1 := ⟨_, rfl⟩
  have hrz : r = (z || !z1) := by rw [← hrr]; unfold stayE; rw [hz, hz1]
  have HZ1 := Lib.hid hz1
  have y0 := hb3.c0; have y1 := hb3.c1; have y2 := hb3.c2
  have x0 := e0.c0; have x1 := e0.c1
  clear h hk hel hf hh hr hl hC hd hrr hz hz1 hb3 e0
  cases z with
  | true =>
    have HR := Lib.hid (show true = r by rw [hrz]; rfl)
    clear hrz
    go_enter Try.func53, Try.ntmps53
    go_wp2_with fail
    go_at_call 54
    refine AG.out.mono ?_
    rintro e w1 ⟨y, rfl, -, -, hk1⟩
    have HK2 := Lib.hid ((HK.out.trans hk1).alloc #[.int .i64 y.d.1, .int .i64 y.d.2, .string y.p, .int .i64 y.k, .int .i64 y.vk, .int .i64 y.vn, .string y.vt, .int .i64 y.e.1, .int .i64 y.e.2] 46)
    clear hk1
    go_wp2_with fail
    go_ret
    exact ⟨ret_bool HR.out, HK2.out⟩
  | false =>
    have HR := Lib.hid (show (!z1) = r by rw [hrz]; rfl)
    clear hrz
    go_enter Try.func53, Try.ntmps53
    go_wp2_with fail
    go_at_call 54
    refine AG.out.mono ?_
    rintro e w1 ⟨y, rfl, -, -, hk1⟩
    have hka := hk1.alloc #[.int .i64 y.d.1, .int .i64 y.d.2, .string y.p, .int .i64 y.k, .int .i64 y.vk, .int .i64 y.vn, .string y.vt, .int .i64 y.e.1, .int .i64 y.e.2] 46
    have HK2 := Lib.hid (HK.out.trans hka)
    have f0 := hka.cell HF.out
    have en := HEN.out.kept hka
    have x2 := en.c0; have x3 := en.c1
    have AH := Lib.hid (hav1_any m b V C x.d.1 x.d.2 _ (HHV.out.kept hka) HCC.out HD.out z1 HZ1.out)
    clear hk1 hka en y0 y1 y2 x0 x1
    go_wp2_with fail
    go_at_call 58
    refine AH.out.mono ?_
    rintro e w2 ⟨rfl, hk2⟩
    have HK3 := Lib.hid (HK2.out.trans hk2)
    clear hk2 f0 x2 x3
    go_wp2_with fail
    go_ret
    exact ⟨ret_bool HR.out, HK3.out⟩

set_option maxRecDepth 100000 in
set_option maxHeartbeats 4000000 in
theorem bey1_any (hb m b : Nat) (V : List Int) (C : List (Int × Int)) (x : En) (w : World) (hf : w.cell? ⟨hb, 0, none⟩ = some (.func (.func 58) #[] #[.pointer (some ⟨m, 0, none⟩), .pointer (some ⟨b, 0, none⟩)])) (hh : Hav w m b V C) (hC : ∀ x ∈ C, WfD x) (hd : WfD x.d) (r : Bool) (hrr : newE V C x = r) :
    Calls Try.prog 37 #[.agg #[.int .i64 x.d.1, .int .i64 x.d.2, .string x.p, .int .i64 x.k, .int .i64 x.vk, .int .i64 x.vn, .string x.vt, .int .i64 x.e.1, .int .i64 x.e.2], .pointer (some ⟨hb, 0, none⟩)] w fun e w' => e = .returned (.bool r) ∧ Kept w w' := by
  have hk := (Kept.refl w).alloc #[.int .i64 x.d.1, .int .i64 x.d.2, .string x.p, .int .i64 x.k, .int .i64 x.vk, .int .i64 x.vn, .string x.vt, .int .i64 x.e.1, .int .i64 x.e.2] 46
  have f0 := hk.cell hf
  have e0 := Ent.new w x 46
  have x0 := e0.c0; have x1 := e0.c1
  obtain ⟨z1, hz1⟩ : ∃ z1, decide (hasC V C x.d) = z1 := ⟨_, rfl⟩
  have HR := Lib.hid (show (!z1) = r by rw [← hrr]; unfold newE; rw [hz1])
  have AH := Lib.hid (hav1_any m b V C x.d.1 x.d.2 _ (hh.kept hk) hC hd z1 hz1)
  have HK := Lib.hid hk
  clear hk hf hh hC hd hrr e0 hz1
  go_enter Try.func37, Try.ntmps37
  go_wp2_with fail
  go_at_call 58
  refine AH.out.mono ?_
  rintro e w2 ⟨rfl, hk2⟩
  go_wp2_with fail
  go_ret
  exact ⟨ret_bool HR.out, HK.out.trans hk2⟩

set_option maxRecDepth 100000 in
set_option maxHeartbeats 4000000 in
theorem staying_any (A : Option Addr) (n c : Nat) (L : List En) (B : Option Addr) (m k : Nat) (V : List Int) (D : Option Addr) (p q : Nat) (C : List (Int × Int)) (w : World) (h : Stt w A n c B m k D p q L V C) (hC : ∀ x ∈ C, WfD x) (hp : p ≤ 1000000) :
    Calls Try.prog 31 #[.agg #[.slice A n c, .slice B m k, .slice D p q]] w fun e w' => ∃ sb hb, e = .returned (.func (.func 53) #[] #[.pointer (some ⟨sb, 0, none⟩), .pointer (some ⟨hb, 0, none⟩)]) ∧ Sty w' sb hb L V C ∧ Kept w w' := by
  have hmf : ∀ (fn : Fn) (first cap : Array Value) (w : World), (Instr.makeFunc fn first cap).run Try.prog w = .ok (.func fn first cap) w := fun _ _ _ _ => rfl
  have hk := (Kept.refl w).alloc #[.slice A n c, .slice B m k, .slice D p q] 28
  have hs := h.kept hk
  have b0 := Box3.new w (.slice A n c) (.slice B m k) (.slice D p q) 28
  have AH := Lib.hid (having_any B m k V D p q C _ hs.il hs.dl hC hp)
  have HK := Lib.hid hk
  have HS := Lib.hid hs
  have HB := Lib.hid b0
  have y0 := b0.c0; have y1 := b0.c1; have y2 := b0.c2
  clear h hC hp hk hs b0
  go_enter Try.func31, Try.ntmps31
  go_wp2_with fail
  go_at_call 36
  refine AH.out.mono ?_
  rintro e w1 ⟨mm, bb, rfl, hh, hk1⟩
  have hka := hk1.alloc #[.func (.func 58) #[] #[.pointer (some ⟨mm, 0, none⟩), .pointer (some ⟨bb, 0, none⟩)]] 59
  have hk2 := (Kept.refl w1).alloc #[.func (.func 58) #[] #[.pointer (some ⟨mm, 0, none⟩), .pointer (some ⟨bb, 0, none⟩)]] 59
  have c0 := World.cell?_alloc_new w1 #[.func (.func 58) #[] #[.pointer (some ⟨mm, 0, none⟩), .pointer (some ⟨bb, 0, none⟩)]] 59 0
  have HKA := Lib.hid hka
  have HC0 := Lib.hid c0
  have HHV := Lib.hid (hh.kept hk2)
  clear hh hk1 hka hk2 c0 y0 y1 y2
  have hst := store_fn w1 (.func 58) #[] #[.pointer (some ⟨mm, 0, none⟩), .pointer (some ⟨bb, 0, none⟩)] 59
  go_wp2_with fail
  go_ret
  exact ⟨_, _, rfl, ⟨⟨_, _, _, _, _, HB.out.kept HKA.out, HS.out.el.kept HKA.out⟩, mm, bb, HC0.out, HHV.out⟩, HK.out.trans HKA.out⟩
end Go.Proofs.Ytcldbmhjfmbcfaa

