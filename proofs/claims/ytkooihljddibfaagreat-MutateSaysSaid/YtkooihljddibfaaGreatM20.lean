/-
  What is proved: the functions that package join hands on: staying(s) tells of an entry whether s has its dot among its entries, or has not heard of it (P9.1); Beyond's own tells whether a set has not its dot (P9.4); each called in whatever world keeps what was laid; the world has new blocks at most.
  join.those, called with any entries that lie in memory and a function that tells of each whether it stays, returns those that stay, in their order; Beyond of package join (P9.4), called with any state and any set whose dots by themselves are right, returns the state's entries whose dots the set has not; the world has new blocks at most.
  as region_plan (XPlan), where one block of the beginning's world may be written by the region itself.
-/
import Derived.Test.YtkooihljddibfaaGreatM19
import Derived.Test.YtkooihljddibfaaGreatPlan
import Derived.Test.YtkooihljddibfaaGreatRow
namespace Go.Proofs.YtkooihljddibfaaGreat
open Go.RowKit
set_option linter.unusedVariables false

theorem set_new (w : World) (f v : Value) (t : TypeId) : (w.alloc (.cells #[v] t)).setCell ⟨w.heap.size, 0, none⟩ f = w.alloc (.cells #[f] t) := by
  have e : (w.heap.push (.cells #[v] t)).modify w.heap.size (fun | .cells c elem frozen => .cells (c.setIfInBounds 0 f) elem frozen | o => o) = w.heap.push (.cells #[f] t) := by
    apply Array.ext
    · simp
    · intro i h1 h2
      rw [Array.getElem_modify]
      by_cases hi : w.heap.size = i
      · subst hi; simp
      · simp only [if_neg hi]
        simp at h2
        rw [Array.getElem_push_lt (by omega), Array.getElem_push_lt (by omega)]
  exact congrArg (fun h => { w with heap := h }) e
theorem store_fn (w : World) (fn : Fn) (a b : Array Value) (t : TypeId) : (store ⟨w.heap.size, 0, none⟩ (.func fn a b)).run Tryz.prog (w.alloc (.cells #[.nilFunc] t)) = .ok () (w.alloc (.cells #[.func fn a b] t)) := by
  rw [run_store _ _ _ _ _ rfl]
  have e1 : (w.alloc (.cells #[.nilFunc] t)).cell? ⟨w.heap.size, 0, none⟩ = some .nilFunc := by rw [World.cell?_alloc_new]; rfl
  have e2 : (w.alloc (.cells #[.nilFunc] t)).frozen? ⟨w.heap.size, 0, none⟩ = false := by rw [frozen?_alloc_cells]; simp [World.frozen?]
  simp only [e1, e2, Bool.false_eq_true, if_false]
  rw [set_new]
/-- What lies in memory where 'staying' was called: in block sb the state, in block hb what tells of dots. -/
structure Sty (w : World) (sb hb : Nat) (L : List En) (V : List Int) (C : List (Int × Int)) : Prop where
  st : ∃ A n c u1 u2, Box3 w sb (.slice A n c) u1 u2 ∧ El w A n c L
  hv : ∃ m b, w.cell? ⟨hb, 0, none⟩ = some (.func (.func 92) #[] #[.pointer (some ⟨m, 0, none⟩), .pointer (some ⟨b, 0, none⟩)]) ∧ Hav w m b V C
theorem Sty.kept {w w' : World} {sb hb : Nat} {L : List En} {V : List Int} {C : List (Int × Int)} (h : Sty w sb hb L V C) (hk : Kept w w') : Sty w' sb hb L V C := by
  obtain ⟨⟨A, n, c, u1, u2, h1, h2⟩, m, b, h3, h4⟩ := h
  exact ⟨⟨A, n, c, u1, u2, h1.kept hk, h2.kept hk⟩, m, b, hk.cell h3, h4.kept hk⟩
/-- Whether an entry stays. -/
def stayE (L : List En) (V : List Int) (C : List (Int × Int)) (x : En) : Bool := hasE L x.d || !decide (hasC V C x.d)
def newE (V : List Int) (C : List (Int × Int)) (x : En) : Bool := !decide (hasC V C x.d)

set_option maxRecDepth 100000 in
set_option maxHeartbeats 4000000 in
theorem stay1_any (sb hb : Nat) (L : List En) (V : List Int) (C : List (Int × Int)) (x : En) (w : World) (h : Sty w sb hb L V C) (hr : RiseE L) (hl : L.length ≤ 1000000) (hC : ∀ x ∈ C, WfD x) (hd : WfD x.d) (r : Bool) (hrr : stayE L V C x = r) :
    Calls Tryz.prog 78 #[.agg #[.int .i64 x.d.1, .int .i64 x.d.2, .string x.p, .int .i64 x.k, .int .i64 x.vk, .int .i64 x.vn, .string x.vt, .int .i64 x.e.1, .int .i64 x.e.2], .pointer (some ⟨sb, 0, none⟩), .pointer (some ⟨hb, 0, none⟩)] w fun e w' => e = .returned (.bool r) ∧ Kept w w' := by
  have hk := (Kept.refl w).alloc #[.int .i64 x.d.1, .int .i64 x.d.2, .string x.p, .int .i64 x.k, .int .i64 x.vk, .int .i64 x.vn, .string x.vt, .int .i64 x.e.1, .int .i64 x.e.2] 34
  obtain ⟨⟨A, n, c, u1, u2, hb3, hel⟩, m, b, hf, hh⟩ := h.kept hk
  obtain ⟨z, hz⟩ : ∃ z, hasE L x.d = z := ⟨_, rfl⟩
  have e0 := Ent.new w x 34
  have AG := Lib.hid (get_any A n c L u1 u2 x.d.1 x.d.2 _ hel hr (by rw [hel.1]; exact hl) z hz)
  have HEN := Lib.hid e0
  have HK := Lib.hid hk
  have HH := Lib.hid (show Sty _ sb hb L V C from h.kept hk)
  have HF := Lib.hid hf
  have HHV := Lib.hid hh
  have HCC := Lib.hid hC
  have HD := Lib.hid hd
  obtain ⟨z1, hz1⟩ : ∃ z1, decide (hasC V C x.d) = z1 := ⟨_, rfl⟩
  have hrz : r = (z || !z1) := by rw [← hrr]; unfold stayE; rw [hz, hz1]
  have HZ1 := Lib.hid hz1
  have y0 := hb3.c0; have y1 := hb3.c1; have y2 := hb3.c2
  have x0 := e0.c0; have x1 := e0.c1
  clear h hk hel hf hh hr hl hC hd hrr hz hz1 hb3 e0
  cases z with
  | true =>
    have HR := Lib.hid (show true = r by rw [hrz]; rfl)
    clear hrz
    go_enter Tryz.func78, Tryz.ntmps78
    go_wp2_with fail
    go_at_call 20
    refine AG.out.mono ?_
    rintro e w1 ⟨y, rfl, -, -, hk1⟩
    have HK2 := Lib.hid ((HK.out.trans hk1).alloc #[.int .i64 y.d.1, .int .i64 y.d.2, .string y.p, .int .i64 y.k, .int .i64 y.vk, .int .i64 y.vn, .string y.vt, .int .i64 y.e.1, .int .i64 y.e.2] 34)
    clear hk1
    go_wp2_with fail
    go_ret
    exact ⟨ret_bool HR.out, HK2.out⟩
  | false =>
    have HR := Lib.hid (show (!z1) = r by rw [hrz]; rfl)
    clear hrz
    go_enter Tryz.func78, Tryz.ntmps78
    go_wp2_with fail
    go_at_call 20
    refine AG.out.mono ?_
    rintro e w1 ⟨y, rfl, -, -, hk1⟩
    have hka := hk1.alloc #[.int .i64 y.d.1, .int .i64 y.d.2, .string y.p, .int .i64 y.k, .int .i64 y.vk, .int .i64 y.vn, .string y.vt, .int .i64 y.e.1, .int .i64 y.e.2] 34
    have HK2 := Lib.hid (HK.out.trans hka)
    have f0 := hka.cell HF.out
    have en := HEN.out.kept hka
    have x2 := en.c0; have x3 := en.c1
    have AH := Lib.hid (hav1_any m b V C x.d.1 x.d.2 _ (HHV.out.kept hka) HCC.out HD.out z1 HZ1.out)
    clear hk1 hka en y0 y1 y2 x0 x1
    go_wp2_with fail
    go_at_call 92
    refine AH.out.mono ?_
    rintro e w2 ⟨rfl, hk2⟩
    have HK3 := Lib.hid (HK2.out.trans hk2)
    clear hk2 f0 x2 x3
    go_wp2_with fail
    go_ret
    exact ⟨ret_bool HR.out, HK3.out⟩

set_option maxRecDepth 100000 in
set_option maxHeartbeats 4000000 in
theorem bey1_any (hb m b : Nat) (V : List Int) (C : List (Int × Int)) (x : En) (w : World) (hf : w.cell? ⟨hb, 0, none⟩ = some (.func (.func 92) #[] #[.pointer (some ⟨m, 0, none⟩), .pointer (some ⟨b, 0, none⟩)])) (hh : Hav w m b V C) (hC : ∀ x ∈ C, WfD x) (hd : WfD x.d) (r : Bool) (hrr : newE V C x = r) :
    Calls Tryz.prog 79 #[.agg #[.int .i64 x.d.1, .int .i64 x.d.2, .string x.p, .int .i64 x.k, .int .i64 x.vk, .int .i64 x.vn, .string x.vt, .int .i64 x.e.1, .int .i64 x.e.2], .pointer (some ⟨hb, 0, none⟩)] w fun e w' => e = .returned (.bool r) ∧ Kept w w' := by
  have hk := (Kept.refl w).alloc #[.int .i64 x.d.1, .int .i64 x.d.2, .string x.p, .int .i64 x.k, .int .i64 x.vk, .int .i64 x.vn, .string x.vt, .int .i64 x.e.1, .int .i64 x.e.2] 34
  have f0 := hk.cell hf
  have e0 := Ent.new w x 34
  have x0 := e0.c0; have x1 := e0.c1
  obtain ⟨z1, hz1⟩ : ∃ z1, decide (hasC V C x.d) = z1 := ⟨_, rfl⟩
  have HR := Lib.hid (show (!z1) = r by rw [← hrr]; unfold newE; rw [hz1])
  have AH := Lib.hid (hav1_any m b V C x.d.1 x.d.2 _ (hh.kept hk) hC hd z1 hz1)
  have HK := Lib.hid hk
  clear hk hf hh hC hd hrr e0 hz1
  go_enter Tryz.func79, Tryz.ntmps79
  go_wp2_with fail
  go_at_call 92
  refine AH.out.mono ?_
  rintro e w2 ⟨rfl, hk2⟩
  go_wp2_with fail
  go_ret
  exact ⟨ret_bool HR.out, HK.out.trans hk2⟩

set_option maxRecDepth 100000 in
set_option maxHeartbeats 4000000 in
theorem staying_any (A : Option Addr) (n c : Nat) (L : List En) (B : Option Addr) (m k : Nat) (V : List Int) (D : Option Addr) (p q : Nat) (C : List (Int × Int)) (w : World) (h : Stt w A n c B m k D p q L V C) (hC : ∀ x ∈ C, WfD x) (hp : p ≤ 1000000) :
    Calls Tryz.prog 60 #[.agg #[.slice A n c, .slice B m k, .slice D p q]] w fun e w' => ∃ sb hb, e = .returned (.func (.func 78) #[] #[.pointer (some ⟨sb, 0, none⟩), .pointer (some ⟨hb, 0, none⟩)]) ∧ Sty w' sb hb L V C ∧ Kept w w' := by
  have hmf : ∀ (fn : Fn) (first cap : Array Value) (w : World), (Instr.makeFunc fn first cap).run Tryz.prog w = .ok (.func fn first cap) w := fun _ _ _ _ => rfl
  have hk := (Kept.refl w).alloc #[.slice A n c, .slice B m k, .slice D p q] 28
  have hs := h.kept hk
  have b0 := Box3.new w (.slice A n c) (.slice B m k) (.slice D p q) 28
  have AH := Lib.hid (having_any B m k V D p q C _ hs.il hs.dl hC hp)
  have HK := Lib.hid hk
  have HS := Lib.hid hs
  have HB := Lib.hid b0
  have y0 := b0.c0; have y1 := b0.c1; have y2 := b0.c2
  clear h hC hp hk hs b0
  go_enter Tryz.func60, Tryz.ntmps60
  go_wp2_with fail
  go_at_call 77
  refine AH.out.mono ?_
  rintro e w1 ⟨mm, bb, rfl, hh, hk1⟩
  have hka := hk1.alloc #[.func (.func 92) #[] #[.pointer (some ⟨mm, 0, none⟩), .pointer (some ⟨bb, 0, none⟩)]] 64
  have hk2 := (Kept.refl w1).alloc #[.func (.func 92) #[] #[.pointer (some ⟨mm, 0, none⟩), .pointer (some ⟨bb, 0, none⟩)]] 64
  have c0 := World.cell?_alloc_new w1 #[.func (.func 92) #[] #[.pointer (some ⟨mm, 0, none⟩), .pointer (some ⟨bb, 0, none⟩)]] 64 0
  have HKA := Lib.hid hka
  have HC0 := Lib.hid c0
  have HHV := Lib.hid (hh.kept hk2)
  clear hh hk1 hka hk2 c0 y0 y1 y2
  have hst := store_fn w1 (.func 92) #[] #[.pointer (some ⟨mm, 0, none⟩), .pointer (some ⟨bb, 0, none⟩)] 64
  go_wp2_with fail
  go_ret
  exact ⟨_, _, rfl, ⟨⟨_, _, _, _, _, HB.out.kept HKA.out, HS.out.el.kept HKA.out⟩, mm, bb, HC0.out, HHV.out⟩, HK.out.trans HKA.out⟩
end Go.Proofs.YtkooihljddibfaaGreat

namespace Go.Proofs.YtkooihljddibfaaGreat
open Go.RowKit
set_option linter.unusedVariables false

theorem filt_skip {L : List En} {f : En → Bool} {t : Nat} {x : En} (h : L[t]? = some x) (hx : f x = false) : (L.take (t + 1)).filter f = (L.take t).filter f := by
  rw [List.take_add_one, h, Option.toList_some, List.filter_append, List.filter_cons, if_neg (by rw [hx]; decide), List.filter_nil, List.append_nil]
theorem filt_put {L : List En} {f : En → Bool} {t : Nat} {x : En} (h : L[t]? = some x) (hx : f x = true) : (L.take (t + 1)).filter f = (L.take t).filter f ++ [x] := by
  rw [List.take_add_one, h, Option.toList_some, List.filter_append, List.filter_cons, if_pos hx, List.filter_nil]
/-- Entries that a call hands back. -/
def EntsR (L : List En) (w : World) (e : Ending) (w' : World) : Prop := ∃ A c, e = .returned (.slice A L.length c) ∧ El w' A L.length c L ∧ Kept w w'

set_option maxRecDepth 100000 in
set_option maxHeartbeats 8000000 in
theorem those_stay (A : Option Addr) (n c : Nat) (L : List En) (sb hb : Nat) (f : En → Bool) (w : World) (h : El w A n c L) (hn : n ≤ 1000000)
    (hc : ∀ (w' : World) (x : En), x ∈ L → Kept w w' → ∀ r : Bool, f x = r → Calls Tryz.prog 78 #[.agg #[.int .i64 x.d.1, .int .i64 x.d.2, .string x.p, .int .i64 x.k, .int .i64 x.vk, .int .i64 x.vn, .string x.vt, .int .i64 x.e.1, .int .i64 x.e.2], .pointer (some ⟨sb, 0, none⟩), .pointer (some ⟨hb, 0, none⟩)] w' fun e w2 => e = .returned (.bool r) ∧ Kept w' w2) :
    Calls Tryz.prog 59 #[.slice A n c, .func (.func 78) #[] #[.pointer (some ⟨sb, 0, none⟩), .pointer (some ⟨hb, 0, none⟩)]] w (EntsR (L.filter f) w) := by
  have hcap := h.cap.1; have hcap2 := h.cap.2
  have HNL := Lib.hid h.1
  have HH := Lib.hid h
  have HC := Lib.hid hc
  clear h hc
  go_enter Tryz.func59, Tryz.ntmps59
  go_wp2_with fail
  go_loopw [5, 10] (fun v i wr => ∃ t : Nat, t ≤ n ∧ i = .int .i64 t ∧ OutE w wr v ((L.take t).filter f)) (fun _ i _ => n - (intOf i).toNat)
  case atStart => exact ⟨0, Nat.zero_le _, rfl, by rw [List.take_zero]; exact OutE.start w⟩
  case round =>
    obtain ⟨t, ht, rfl, hm⟩ := hrel
    obtain ⟨A3, c3, rfl, hel3, hfr3, hc3, hcm3⟩ := hm.form
    have HO := Lib.hid hm
    have HE3 := Lib.hid hel3
    clear hm hel3 hfr3
    by_cases hlt : t < n
    · obtain ⟨g, o, x, rfl, hx, EX⟩ := (HH.out.kept HO.out.ke).get hlt
      have x0 := EX.c0; have x1 := EX.c1; have x2 := EX.c2; have x3 := EX.c3; have x4 := EX.c4; have x5 := EX.c5; have x6 := EX.c6; have x7 := EX.c7; have x8 := EX.c8
      have HXX := Lib.hid hx
      obtain ⟨z, hz⟩ : ∃ z, f x = z := ⟨_, rfl⟩
      have hka := (Kept.refl wr).alloc #[.int .i64 x.d.1, .int .i64 x.d.2, .string x.p, .int .i64 x.k, .int .i64 x.vk, .int .i64 x.vn, .string x.vt, .int .i64 x.e.1, .int .i64 x.e.2] 34
      have AP := Lib.hid (HC.out (wr.alloc (.cells #[.int .i64 x.d.1, .int .i64 x.d.2, .string x.p, .int .i64 x.k, .int .i64 x.vk, .int .i64 x.vn, .string x.vt, .int .i64 x.e.1, .int .i64 x.e.2] 34)) x (List.mem_of_getElem? hx) (HO.out.ke.trans hka) z hz)
      have HZ := Lib.hid hz
      have HE := Lib.hid (Ent.new wr x 34)
      clear EX hx hz hka
      have e5 := HE.out
      have z0 := e5.c0; have z1 := e5.c1; have z2 := e5.c2; have z3 := e5.c3; have z4 := e5.c4; have z5 := e5.c5; have z6 := e5.c6; have z7 := e5.c7; have z8 := e5.c8
      clear e5
      go_wp2_with fail
      go_at_call 78
      refine AP.out.mono ?_
      rintro e w5 ⟨rfl, hk5⟩
      have hk6 := ((Kept.refl wr).alloc #[.int .i64 x.d.1, .int .i64 x.d.2, .string x.p, .int .i64 x.k, .int .i64 x.vk, .int .i64 x.vn, .string x.vt, .int .i64 x.e.1, .int .i64 x.e.2] 34).trans hk5
      have HE5 := Lib.hid (HE.out.kept hk5)
      clear x0 x1 x2 x3 x4 x5 x6 x7 x8
      clear z0 z1 z2 z3 z4 z5 z6 z7 z8
      cases z with
      | false =>
        have HN := Lib.hid (filt_skip HXX.out HZ.out)
        have HO6 := Lib.hid (HO.out.kept hk6)
        clear hk5 hk6
        go_wp2_with fail
        go_roundw
        case rel => exact ⟨t + 1, hlt, by go_num, by rw [HN.out]; exact HO6.out⟩
        case measure => simp [intOf]; omega
      | true =>
        have HN := Lib.hid (filt_put HXX.out HZ.out)
        have hle : ((L.take t).filter f).length ≤ 1000000 := Nat.le_trans (List.length_filter_le ..) (by rw [List.length_take]; omega)
        have hk7 := hk6.trans ((Kept.refl w5).alloc #[.int .i64 x.d.1, .int .i64 x.d.2, .string x.p, .int .i64 x.k, .int .i64 x.vk, .int .i64 x.vn, .string x.vt, .int .i64 x.e.1, .int .i64 x.e.2] 34)
        obtain ⟨v8, w8, hr8, ho8⟩ := (HO.out.kept hk7).app _ _ _ _ (el_one (Ent.new w5 x 34)) (by omega)
        have HR8 := Lib.hid hr8
        have HO8 := Lib.hid ho8
        have e5 := HE5.out
        have y0 := e5.c0; have y1 := e5.c1; have y2 := e5.c2; have y3 := e5.c3; have y4 := e5.c4; have y5 := e5.c5; have y6 := e5.c6; have y7 := e5.c7; have y8 := e5.c8
        clear hr8 ho8 hk5 hk6 hk7 e5 hle
        go_wp2_with (at_builtin; refine Lib.wpList_append_run _ rfl (.tmp 17) (.tmp 19) _ _ rfl _ _ rfl rfl _ _ HR8.out ?_)
        go_roundw
        case rel => exact ⟨t + 1, hlt, by go_num, by rw [HN.out]; exact HO8.out⟩
        case measure => simp [intOf]; omega
    · obtain rfl : t = n := by omega
      have HT := Lib.hid (show L.take t = L from List.take_of_length_le (by rw [← HNL.out]; exact Nat.le_refl _))
      go_wp2_with fail
      go_ret
      rw [HT.out] at HE3 ⊢
      exact ⟨A3, c3, rfl, HE3.out, HO.out.ke⟩

set_option maxRecDepth 100000 in
set_option maxHeartbeats 8000000 in
theorem those_bey (A : Option Addr) (n c : Nat) (L : List En) (hb : Nat) (f : En → Bool) (w : World) (h : El w A n c L) (hn : n ≤ 1000000)
    (hc : ∀ (w' : World) (x : En), x ∈ L → Kept w w' → ∀ r : Bool, f x = r → Calls Tryz.prog 79 #[.agg #[.int .i64 x.d.1, .int .i64 x.d.2, .string x.p, .int .i64 x.k, .int .i64 x.vk, .int .i64 x.vn, .string x.vt, .int .i64 x.e.1, .int .i64 x.e.2], .pointer (some ⟨hb, 0, none⟩)] w' fun e w2 => e = .returned (.bool r) ∧ Kept w' w2) :
    Calls Tryz.prog 59 #[.slice A n c, .func (.func 79) #[] #[.pointer (some ⟨hb, 0, none⟩)]] w (EntsR (L.filter f) w) := by
  have hcap := h.cap.1; have hcap2 := h.cap.2
  have HNL := Lib.hid h.1
  have HH := Lib.hid h
  have HC := Lib.hid hc
  clear h hc
  go_enter Tryz.func59, Tryz.ntmps59
  go_wp2_with fail
  go_loopw [5, 10] (fun v i wr => ∃ t : Nat, t ≤ n ∧ i = .int .i64 t ∧ OutE w wr v ((L.take t).filter f)) (fun _ i _ => n - (intOf i).toNat)
  case atStart => exact ⟨0, Nat.zero_le _, rfl, by rw [List.take_zero]; exact OutE.start w⟩
  case round =>
    obtain ⟨t, ht, rfl, hm⟩ := hrel
    obtain ⟨A3, c3, rfl, hel3, hfr3, hc3, hcm3⟩ := hm.form
    have HO := Lib.hid hm
    have HE3 := Lib.hid hel3
    clear hm hel3 hfr3
    by_cases hlt : t < n
    · obtain ⟨g, o, x, rfl, hx, EX⟩ := (HH.out.kept HO.out.ke).get hlt
      have x0 := EX.c0; have x1 := EX.c1; have x2 := EX.c2; have x3 := EX.c3; have x4 := EX.c4; have x5 := EX.c5; have x6 := EX.c6; have x7 := EX.c7; have x8 := EX.c8
      have HXX := Lib.hid hx
      obtain ⟨z, hz⟩ : ∃ z, f x = z := ⟨_, rfl⟩
      have hka := (Kept.refl wr).alloc #[.int .i64 x.d.1, .int .i64 x.d.2, .string x.p, .int .i64 x.k, .int .i64 x.vk, .int .i64 x.vn, .string x.vt, .int .i64 x.e.1, .int .i64 x.e.2] 34
      have AP := Lib.hid (HC.out (wr.alloc (.cells #[.int .i64 x.d.1, .int .i64 x.d.2, .string x.p, .int .i64 x.k, .int .i64 x.vk, .int .i64 x.vn, .string x.vt, .int .i64 x.e.1, .int .i64 x.e.2] 34)) x (List.mem_of_getElem? hx) (HO.out.ke.trans hka) z hz)
      have HZ := Lib.hid hz
      have HE := Lib.hid (Ent.new wr x 34)
      clear EX hx hz hka
      have e5 := HE.out
      have z0 := e5.c0; have z1 := e5.c1; have z2 := e5.c2; have z3 := e5.c3; have z4 := e5.c4; have z5 := e5.c5; have z6 := e5.c6; have z7 := e5.c7; have z8 := e5.c8
      clear e5
      go_wp2_with fail
      go_at_call 79
      refine AP.out.mono ?_
      rintro e w5 ⟨rfl, hk5⟩
      have hk6 := ((Kept.refl wr).alloc #[.int .i64 x.d.1, .int .i64 x.d.2, .string x.p, .int .i64 x.k, .int .i64 x.vk, .int .i64 x.vn, .string x.vt, .int .i64 x.e.1, .int .i64 x.e.2] 34).trans hk5
      have HE5 := Lib.hid (HE.out.kept hk5)
      clear x0 x1 x2 x3 x4 x5 x6 x7 x8
      clear z0 z1 z2 z3 z4 z5 z6 z7 z8
      cases z with
      | false =>
        have HN := Lib.hid (filt_skip HXX.out HZ.out)
        have HO6 := Lib.hid (HO.out.kept hk6)
        clear hk5 hk6
        go_wp2_with fail
        go_roundw
        case rel => exact ⟨t + 1, hlt, by go_num, by rw [HN.out]; exact HO6.out⟩
        case measure => simp [intOf]; omega
      | true =>
        have HN := Lib.hid (filt_put HXX.out HZ.out)
        have hle : ((L.take t).filter f).length ≤ 1000000 := Nat.le_trans (List.length_filter_le ..) (by rw [List.length_take]; omega)
        have hk7 := hk6.trans ((Kept.refl w5).alloc #[.int .i64 x.d.1, .int .i64 x.d.2, .string x.p, .int .i64 x.k, .int .i64 x.vk, .int .i64 x.vn, .string x.vt, .int .i64 x.e.1, .int .i64 x.e.2] 34)
        obtain ⟨v8, w8, hr8, ho8⟩ := (HO.out.kept hk7).app _ _ _ _ (el_one (Ent.new w5 x 34)) (by omega)
        have HR8 := Lib.hid hr8
        have HO8 := Lib.hid ho8
        have e5 := HE5.out
        have y0 := e5.c0; have y1 := e5.c1; have y2 := e5.c2; have y3 := e5.c3; have y4 := e5.c4; have y5 := e5.c5; have y6 := e5.c6; have y7 := e5.c7; have y8 := e5.c8
        clear hr8 ho8 hk5 hk6 hk7 e5 hle
        go_wp2_with (at_builtin; refine Lib.wpList_append_run _ rfl (.tmp 17) (.tmp 19) _ _ rfl _ _ rfl rfl _ _ HR8.out ?_)
        go_roundw
        case rel => exact ⟨t + 1, hlt, by go_num, by rw [HN.out]; exact HO8.out⟩
        case measure => simp [intOf]; omega
    · obtain rfl : t = n := by omega
      have HT := Lib.hid (show L.take t = L from List.take_of_length_le (by rw [← HNL.out]; exact Nat.le_refl _))
      go_wp2_with fail
      go_ret
      rw [HT.out] at HE3 ⊢
      exact ⟨A3, c3, rfl, HE3.out, HO.out.ke⟩

set_option maxRecDepth 100000 in
set_option maxHeartbeats 8000000 in
theorem beyond_any (A : Option Addr) (n c : Nat) (L : List En) (u1 u2 : Value) (B : Option Addr) (m k : Nat) (V : List Int) (D : Option Addr) (p q : Nat) (C : List (Int × Int)) (w : World) (h : El w A n c L) (hi : Il w B m k V) (hd : Dl w D p q C) (hn : n ≤ 1000000) (hp : p ≤ 1000000) (hC : ∀ x ∈ C, WfD x) (hL : ∀ x ∈ L, WfD x.d) :
    Calls Tryz.prog 61 #[.agg #[.slice A n c, u1, u2], .agg #[.slice B m k, .slice D p q]] w (EntsR (L.filter (newE V C)) w) := by
  have hmf : ∀ (fn : Fn) (first cap : Array Value) (w : World), (Instr.makeFunc fn first cap).run Tryz.prog w = .ok (.func fn first cap) w := fun _ _ _ _ => rfl
  have hk := ((Kept.refl w).alloc #[.slice A n c, u1, u2] 28).alloc #[.slice B m k, .slice D p q] 26
  have b0 := (Box3.new w (.slice A n c) u1 u2 28).kept ((Kept.refl _).alloc #[.slice B m k, .slice D p q] 26)
  have b1 := Box2.new (w.alloc (.cells #[.slice A n c, u1, u2] 28)) (.slice B m k) (.slice D p q) 26
  rw [show (w.alloc (.cells #[.slice A n c, u1, u2] 28)).heap.size = w.heap.size + 1 by simp] at b1
  have AH := Lib.hid (having_any B m k V D p q C _ (hi.kept hk) (hd.kept hk) hC hp)
  have HK := Lib.hid hk
  have HH := Lib.hid (h.kept hk)
  have HB := Lib.hid b0
  have HCC := Lib.hid hC
  have HL := Lib.hid hL
  have y0 := b0.c0
  have z0 := b1.c0; have z1 := b1.c1
  clear h hi hd hk b0 b1 hC hL
  go_enter Tryz.func61, Tryz.ntmps61
  go_wp2_with fail
  go_at_call 77
  refine AH.out.mono ?_
  rintro e w1 ⟨mm, bb, rfl, hh, hk1⟩
  have hk2 := (Kept.refl w1).alloc #[.func (.func 92) #[] #[.pointer (some ⟨mm, 0, none⟩), .pointer (some ⟨bb, 0, none⟩)]] 64
  have c0 : (w1.alloc (.cells #[.func (.func 92) #[] #[.pointer (some ⟨mm, 0, none⟩), .pointer (some ⟨bb, 0, none⟩)]] 64)).cell? ⟨w1.heap.size, 0, none⟩ = some (.func (.func 92) #[] #[.pointer (some ⟨mm, 0, none⟩), .pointer (some ⟨bb, 0, none⟩)]) := World.cell?_alloc_new w1 _ _ 0
  have hst := store_fn w1 (.func 92) #[] #[.pointer (some ⟨mm, 0, none⟩), .pointer (some ⟨bb, 0, none⟩)] 64
  have HHV := Lib.hid (hh.kept hk2)
  have AT := Lib.hid (those_bey A n c L w1.heap.size (newE V C) _ (HH.out.kept (hk1.trans hk2)) hn fun w' x hx hkx r hr => bey1_any w1.heap.size mm bb V C x w' (hkx.cell c0) (HHV.out.kept hkx) HCC.out (HL.out x hx) r hr)
  have HKK := Lib.hid (HK.out.trans (hk1.trans hk2))
  have c1 := (HB.out.kept (hk1.trans hk2)).c0
  clear hh hk1 hk2 y0 z0 z1
  go_wp2_with fail
  go_at_call 59
  refine AT.out.mono ?_
  rintro e w2 ⟨A2, c2, rfl, he2, hk3⟩
  have HE2 := Lib.hid he2
  have HK3 := Lib.hid hk3
  clear he2 hk3 c0 c1
  go_wp2_with fail
  go_ret
  exact ⟨A2, c2, rfl, HE2.out, HKK.out.trans HK3.out⟩
end Go.Proofs.YtkooihljddibfaaGreat

namespace Go.Proofs.YtkooihljddibfaaGreat
open Go.RowKit

/-- A world that has all that W has, but for block b. -/
structure KExtE (b : Nat) (W : World) where
  w : World
  g : KeptE b W w
instance (b : Nat) (W : World) : Nonempty (KExtE b W) := ⟨⟨W, .refl b W⟩⟩
theorem KExtE.cell {b : Nat} {W : World} {b' o : Nat} {v : Value} (hb : b' ≠ b) (hc : W.cell? ⟨b', o, none⟩ = some v) (g : KExtE b W) : g.w.cell? ⟨b', o, none⟩ = some v := g.g.cell hb hc
theorem soloE {b : Nat} {W : World} {P : Program} {ops : Array Oper} {Q : Exit → Act → World → Prop} {p : Plan} {a : Act} {w : World} (hk : KeptE b W w) (h : wpPlan P ops (fun w' => ∃ g : KExtE b W, w' = g.w) Q p a w) :
    soloQ (fun a' w' => (∃ g : KExtE b W, w' = g.w) ∧ wpPlan P ops (fun w' => ∃ g : KExtE b W, w' = g.w) Q p a' w') .normal a w := ⟨⟨⟨w, hk⟩, rfl⟩, h⟩
theorem region_planE {P : Program} (b : Nat) (W : World) {id : Nat} {Q : Exit → Act → World → Prop} {a : Act} {w : World} {l : List Oper} (n : Nat) (p : Plan) (hm : P.follows .mixedOrders = true) (hs : Region.noSelect l.toArray = true) (hl : l.length = n) (hn : planN p = n)
    (hB : planF l.toArray n p 0 = true) (hQ : ∀ c d v a w, Q (.panic c) (Act.put a d v) w → Q (.panic c) a w) (h0 : Kept W w)
    (h : ∀ wd : World, Kept w wd → wpPlan P l.toArray (fun w' => ∃ g : KExtE b W, w' = g.w) Q p a wd) : (Code.region id l.toArray true).wp P Q a w := by
  subst hl
  refine wp_region_held (S := fun w' => ∃ g : KExtE b W, w' = g.w) hm ?_
  have hk : Kept w { w with drawn := w.drawn + 1 } := (Kept.refl w).drew
  have hB2 := planF_B l.toArray p 0 (by rw [List.size_toArray]; exact hB)
  rw [List.size_toArray, ← bits_none] at hB2
  have := plan_any (Q := Q) (C := fun w' => ∃ g : KExtE b W, w' = g.w) hs hQ p (Array.replicate l.length false) a { w with drawn := w.drawn + 1 } hB2 ⟨⟨_, .of (h0.trans hk)⟩, rfl⟩ (h _ hk)
  rw [hn] at this
  rw [List.size_toArray]
  exact this
end Go.Proofs.YtkooihljddibfaaGreat

