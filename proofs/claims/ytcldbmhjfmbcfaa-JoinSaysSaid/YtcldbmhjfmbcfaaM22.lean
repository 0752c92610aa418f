/-
  What is proved: join.those, called with any entries that lie in memory and a function that tells of each whether it stays, returns those that stay, in their order; Beyond of package join (P9.4), called with any state and any set whose dots by themselves are right, returns the state's entries whose dots the set has not; the world has new blocks at most.
  as region_plan (XPlan), where one block of the beginning's world may be written by the region itself.
  plain facts on two lists of entries put together as they rise; join.merge, called with any two rows of entries that lie in memory, returns them put together so, in a row of its own; the world has new blocks at most.
-/
import Derived.Test.YtcldbmhjfmbcfaaM21
import Derived.Test.YtcldbmhjfmbcfaaM6
import Derived.Test.YtcldbmhjfmbcfaaM13
import Derived.BigQuiet
import Derived.Laws.MakeOwn
import Derived.IntWalk
namespace Go.Proofs.Ytcldbmhjfmbcfaa
open Go.RowKit
set_option linter.unusedVariables false

theorem filt_skip {L : List En} {f : En → Bool} {t : Nat} {x : En} (h : L[t]? = some x) (hx : f x = false) : (L.take (t + 1)).filter f = (L.take t).filter f := by
  rw [List.take_add_one, h, Option.toList_some, List.filter_append, List.filter_cons, if_neg (by rw [hx]; decide), List.filter_nil, List.append_nil]
theorem filt_put {L : List En} {f : En → Bool} {t : Nat} {x : En} (h : L[t]? = some x) (hx : f x = true) : (L.take (t + 1)).filter f = (L.take t).filter f ++ [x] := by
  rw [List.take_add_one, h, Option.toList_some, List.filter_append, List.filter_cons, if_pos hx, List.filter_nil]
/-- Entries that a call hands back. -/
def EntsR (L : List En) (w : World) (e : Ending) (w' : World) : Prop := ∃ A c, e = .returned (.slice A L.length c) ∧ El w' A L.length c L ∧ Kept w w'

set_option maxRecDepth 100000 in
set_option maxHeartbeats 8000000 in
theorem those_stay (A : Option Addr) (n c : Nat) (L : List En) (sb hb : Nat) (f : En → Bool) (w : World) (h : El w A n c L) (hn : n ≤ 1000000)
    (hc : ∀ (w' : World) (x : En), x ∈ L → Kept w w' → ∀ r : Bool, f x = r → Calls Try.prog 53 #[.agg #[.int .i64 x.d.1, .int .i64 x.d.2, .string x.p, .int .i64 x.k, .int .i64 x.vk, .int .i64 x.vn, .string x.vt, .int .i64 x.e.1, .int .i64 x.e.2], .pointer (some ⟨sb, 0, none⟩), .pointer (some ⟨hb, 0, none⟩)] w' fun e w2 => e = .returned (.bool r) ∧ Kept w' w2) :
    Calls Try.prog 30 #[.slice A n c, .func (.func 53) #[] #[.pointer (some ⟨sb, 0, none⟩), .pointer (some ⟨hb, 0, none⟩)]] w (EntsR (L.filter f) w) := by
  have hcap := h.cap.1; have hcap2 := h.cap.2
  have HNL := Lib.hid h.1
  have HH := Lib.hid h
  have HC := Lib.hid hc
  clear h hc
  go_enter Try.func30, Try.ntmps30
  go_wp2_with fail
  go_loopw [5, 10] (fun v i wr => ∃ t : Nat, t ≤ n ∧ i = .int .i64 t ∧ OutE w wr v ((L.take t).filter f)) (fun _ i _ => n - (intOf i).toNat)
  case atStart => exact ⟨0, Nat.zero_le _, rfl, by rw [List.take_zero]; exact OutE.start w⟩
  case round =>
    obtain ⟨t, ht, rfl, hm⟩ := hrel
    obtain ⟨A3, c3, rfl, hel3, hfr3, hc3, hcm3⟩ := hm.form
    have HO := Lib.hid hm
    have HE3 := Lib.hid hel3
    clear hm hel3 hfr3
    by_cases hlt : t < n
    · obtain ⟨g, o, x, rfl, hx, EX⟩ := (HH.out.kept HO.out.ke).get hlt
      have x0 := EX.c0; have x1 := EX.c1; have x2 := EX.c2; have x3 := EX.c3; have x4 := EX.c4; have x5 := EX.c5; have x6 := EX.c6; have x7 := EX.c7; have x8 := EX.c8
      have HXX := Lib.hid hx
      obtain ⟨z, hz⟩ : ∃ z, f x = z := ⟨_, rfl⟩
      have hka := (Kept.refl wr).alloc #[.int .i64 x.d.1, .int .i64 x.d.2, .string x.p, .int .i64 x.k, .int .i64 x.vk, .int .i64 x.vn, .string x.vt, .int .i64 x.e.1, .int .i64 x.e.2] 46
      have AP := Lib.hid (HC.out (wr.alloc (.cells #[.int .i64 x.d.1, .int .i64 x.d.2, .string x.p, .int .i64 x.k, .int .i64 x.vk, .int .i64 x.vn, .string x.vt, .int .i64 x.e.1, .int .i64 x.e.2] 46)) x (List.mem_of_getElem? hx) (HO.out.ke.trans hka) z hz)
      have HZ := Lib.hid hz
      have HE := Lib.hid (Ent.new wr x 46)
      clear EX hx hz hka
      have e5 := HE.out
      have z0 := e5.c0; have z1 := e5.c1; have z2 := e5.c2; have z3 := e5.c3; have z4 := e5.c4; have z5 := e5.c5; have z6 := e5.c6; have z7 := e5.c7; have z8 := e5.c8
      clear e5
      go_wp2_with fail
      go_at_call 53
      refine AP.out.mono ?_
      rintro e w5 ⟨rfl, hk5⟩
      have hk6 := ((Kept.refl wr).alloc #[.int .i64 x.d.1, .int .i64 x.d.2, .string x.p, .int .i64 x.k, .int .i64 x.vk, .int .i64 x.vn, .string x.vt, .int .i64 x.e.1, .int .i64 x.e.2] 46).trans hk5
      have HE5 := Lib.hid (HE.out.kept hk5)
      clear x0 x1 x2 x3 x4 x5 x6 x7 x8
      clear z0 z1 z2 z3 z4 z5 z6 z7 z8
      cases z with
      | false =>
        have HN := Lib.hid (filt_skip HXX.out HZ.out)
        have HO6 := Lib.hid (HO.out.kept hk6)
        clear hk5 hk6
        go_wp2_with fail
        go_roundw
        case rel => exact ⟨t + 1, hlt, by go_num, by rw [HN.out]; exact HO6.out⟩
        case measure => simp [intOf]; omega
      | true =>
        have HN := Lib.hid (filt_put HXX.out HZ.out)
        have hle : ((L.take t).filter f).length ≤ 1000000 := Nat.le_trans (List.length_filter_le ..) (by rw [List.length_take]; omega)
        have hk7 := hk6.trans ((Kept.refl w5).alloc #[.int .i64 x.d.1, .int .i64 x.d.2, .string x.p, .int .i64 x.k, .int .i64 x.vk, .int .i64 x.vn, .string x.vt, .int .i64 x.e.1, .int .i64 x.e.2] 46)
        obtain ⟨v8, w8, hr8, ho8⟩ := (HO.out.kept hk7).app _ _ _ _ (el_one (Ent.new w5 x 46)) (by omega)
        have HR8 := Lib.hid hr8
        have HO8 := Lib.hid ho8
        have e5 := HE5.out
        have y0 := e5.c0; have y1 := e5.c1; have y2 := e5.c2; have y3 := e5.c3; have y4 := e5.c4; have y5 := e5.c5; have y6 := e5.c6; have y7 := e5.c7; have y8 := e5.c8
        clear hr8 ho8 hk5 hk6 hk7 e5 hle
        go_wp2_with (at_builtin; refine Lib.wpList_append_run _ rfl (.tmp 17) (.tmp 19) _ _ rfl _ _ rfl rfl _ _ HR8.out ?_)
        go_roundw
        case rel => exact ⟨t + 1, hlt, by go_num, by rw [HN.out]; exact HO8.out⟩
        case measure => simp [intOf]; omega
    · obtain rfl : t = n := by omega
      have HT := Lib.hid (show L.take t = L from List.take_of_length_le (by rw [← HNL.out]; exact Nat.le_refl _))
      go_wp2_with fail
      go_ret
      rw [HT.out] at HE3 ⊢
      exact ⟨A3, c3, rfl, HE3.out, HO.out.ke⟩

set_option maxRecDepth 100000 in
set_option maxHeartbeats 8000000 in
theorem those_bey (A : Option Addr) (n c : Nat) (L : List En) (hb : Nat) (f : En → Bool) (w : World) (h : El w A n c L) (hn : n ≤ 1000000)
    (hc : ∀ (w' : World) (x : En), x ∈ L → Kept w w' → ∀ r : Bool, f x = r → Calls Try.prog 37 #[.agg #[.int .i64 x.d.1, .int .i64 x.d.2, .string x.p, .int .i64 x.k, .int .i64 x.vk, .int .i64 x.vn, .string x.vt, .int .i64 x.e.1, .int .i64 x.e.2], .pointer (some ⟨hb, 0, none⟩)] w' fun e w2 => e = .returned (.bool r) ∧ Kept w' w2) :
    Calls Try.prog 30 #[.slice A n c, .func (.func 37) #[] #[.pointer (some ⟨hb, 0, none⟩)]] w (EntsR (L.filter f) w) := by
  have hcap := h.cap.1; have hcap2 := h.cap.2
  have HNL := Lib.hid h.1
  have HH := Lib.hid h
  have HC := Lib.hid hc
  clear h hc
  go_enter Try.func30, Try.ntmps30
  go_wp2_with fail
  go_loopw [5, 10] (fun v i wr => ∃ t : Nat, t ≤ n ∧ i = .int .i64 t ∧ OutE w wr v ((L.take t).filter f)) (fun _ i _ => n - (intOf i).toNat)
  case atStart => exact ⟨0, Nat.zero_le _, rfl, by rw [List.take_zero]; exact OutE.start w⟩
  case round =>
    obtain ⟨t, ht, rfl, hm⟩ := hrel
    obtain ⟨A3, c3, rfl, hel3, hfr3, hc3, hcm3⟩ := hm.form
    have HO := Lib.hid hm
    have HE3 := Lib.hid hel3
    clear hm hel3 hfr3
    by_cases hlt : t < n
    · obtain ⟨g, o, x, rfl, hx, EX⟩ := (HH.out.kept HO.out.ke).get hlt
      have x0 := EX.c0; have x1 := EX.c1; have x2 := EX.c2; have x3 := EX.c3; have x4 := EX.c4; have x5 := EX.c5; have x6 := EX.c6; have x7 := EX.c7; have x8 := EX.c8
      have HXX := Lib.hid hx
      obtain ⟨z, hz⟩ : ∃ z, f x = z := ⟨_, rfl⟩
      have hka := (Kept.refl wr).alloc #[.int .i64 x.d.1, .int .i64 x.d.2, .string x.p, .int .i64 x.k, .int .i64 x.vk, .int .i64 x.vn, .string x.vt, .int .i64 x.e.1, .int .i64 x.e.2] 46
      have AP := Lib.hid (HC.out (wr.alloc (.cells #[.int .i64 x.d.1, .int .i64 x.d.2, .string x.p, .int .i64 x.k, .int .i64 x.vk, .int .i64 x.vn, .string x.vt, .int .i64 x.e.1, .int .i64 x.e.2] 46)) x (List.mem_of_getElem? hx) (HO.out.ke.trans hka) z hz)
      have HZ := Lib.hid hz
      have HE := Lib.hid (Ent.new wr x 46)
      clear EX hx hz hka
      have e5 := HE.out
      have z0 := e5.c0; have z1 := e5.c1; have z2 := e5.c2; have z3 := e5.c3; have z4 := e5.c4; have z5 := e5.c5; have z6 := e5.c6; have z7 := e5.c7; have z8 := e5.c8
      clear e5
      go_wp2_with fail
      go_at_call 37
      refine AP.out.mono ?_
      rintro e w5 ⟨rfl, hk5⟩
      have hk6 := ((Kept.refl wr).alloc #[.int .i64 x.d.1, .int .i64 x.d.2, .string x.p, .int .i64 x.k, .int .i64 x.vk, .int .i64 x.vn, .string x.vt, .int .i64 x.e.1, .int .i64 x.e.2] 46).trans hk5
      have HE5 := Lib.hid (HE.out.kept hk5)
      clear x0 x1 x2 x3 x4 x5 x6 x7 x8
      clear z0 z1 z2 z3 z4 z5 z6 z7 z8
      cases z with
      | false =>
        have HN := Lib.hid (filt_skip HXX.out HZ.out)
        have HO6 := Lib.hid (HO.out.kept hk6)
        clear hk5 hk6
        go_wp2_with fail
        go_roundw
        case rel => exact ⟨t + 1, hlt, by go_num, by rw [HN.out]; exact HO6.out⟩
        case measure => simp [intOf]; omega
      | true =>
        have HN := Lib.hid (filt_put HXX.out HZ.out)
        have hle : ((L.take t).filter f).length ≤ 1000000 := Nat.le_trans (List.length_filter_le ..) (by rw [List.length_take]; omega)
        have hk7 := hk6.trans ((Kept.refl w5).alloc #[.int .i64 x.d.1, .int .i64 x.d.2, .string x.p, .int .i64 x.k, .int .i64 x.vk, .int .i64 x.vn, .string x.vt, .int .i64 x.e.1, .int .i64 x.e.2] 46)
        obtain ⟨v8, w8, hr8, ho8⟩ := (HO.out.kept hk7).app _ _ _ _ (el_one (Ent.new w5 x 46)) (by omega)
        have HR8 := Lib.hid hr8
        have HO8 := Lib.hid ho8
        have e5 := HE5.out
        have y0 := e5.c0; have y1 := e5.c1; have y2 := e5.c2; have y3 := e5.c3; have y4 := e5.c4; have y5 := e5.c5; have y6 := e5.c6; have y7 := e5.c7; have y8 := e5.c8
        clear hr8 ho8 hk5 hk6 hk7 e5 hle
        go_wp2_with (at_builtin; refine Lib.wpList_append_run _ rfl (.tmp 17) (.tmp 19) _ _ rfl _ _ rfl rfl _ _ HR8.out ?_)
        go_roundw
        case rel => exact ⟨t + 1, hlt, by go_num, by rw [HN.out]; exact HO8.out⟩
        case measure => simp [intOf]; omega
    · obtain rfl : t = n := by omega
      have HT := Lib.hid (show L.take t = L from List.take_of_length_le (by rw [← HNL.out]; exact Nat.le_refl _))
      go_wp2_with fail
      go_ret
      rw [HT.out] at HE3 ⊢
      exact ⟨A3, c3, rfl, HE3.out, HO.out.ke⟩

set_option maxRecDepth 100000 in
set_option maxHeartbeats 8000000 in
theorem beyond_any (A : Option Addr) (n c : Nat) (L : List En) (u1 u2 : Value) (B : Option Addr) (m k : Nat) (V : List Int) (D : Option Addr) (p q : Nat) (C : List (Int × Int)) (w : World) (h : El w A n c L) (hi : Il w B m k V) (hd : Dl w D p q C) (hn : n ≤ 1000000) (hp : p ≤ 1000000) (hC : ∀ x ∈ C, WfD x) (hL : ∀ x ∈ L, WfD x.d) :
    Calls Try.prog 15 #[.agg #[.slice A n c, u1, u2], .agg #[.slice B m k, .slice D p q]] w (EntsR (L.filter (newE V C)) w) := by
  have hmf : ∀ (fn : Fn) (first cap : Array Value) (w : World), (Instr.makeFunc fn first cap).run Try.prog w = .ok (.func fn first cap) w := fun _ _ _ _ => rfl
  have hk := ((Kept.refl w).alloc #[.slice A n c, u1, u2] 28).alloc #[.slice B m k, .slice D p q] 26
  have b0 := (Box3.new w (.slice A n c) u1 u2 28).kept ((Kept.refl _).alloc #[.slice B m k, .slice D p q] 26)
  have b1 := Box2.new (w.alloc (.cells #[.slice A n c, u1, u2] 28)) (.slice B m k) (.slice D p q) 26
  rw [show (w.alloc (.cells #[.slice A n c, u1, u2] 28)).heap.size = w.heap.size + 1 by simp] at b1
  have AH := Lib.hid (having_any B m k V D p q C _ (hi.kept hk) (hd.kept hk) hC hp)
  have HK := Lib.hid hk
  have HH := Lib.hid (h.kept hk)
  have HB := Lib.hid b0
  have HCC := Lib.hid hC
  have HL := Lib.hid hL
  have y0 := b0.c0
  have z0 := b1.c0; have z1 := b1.c1
  clear h hi hd hk b0 b1 hC hL
  go_enter Try.func15, Try.ntmps15
  go_wp2_with fail
  go_at_call 36
  refine AH.out.mono ?_
  rintro e w1 ⟨mm, bb, rfl, hh, hk1⟩
  have hk2 := (Kept.refl w1).alloc #[.func (.func 58) #[] #[.pointer (some ⟨mm, 0, none⟩), .pointer (some ⟨bb, 0, none⟩)]] 59
  have c0 : (w1.alloc (.cells #[.func (.func 58) #[] #[.pointer (some ⟨mm, 0, none⟩), .pointer (some ⟨bb, 0, none⟩)]] 59)).cell? ⟨w1.heap.size, 0, none⟩ = some (.func (.func 58) #[] #[.pointer (some ⟨mm, 0, none⟩), .pointer (some ⟨bb, 0, none⟩)]) := World.cell?_alloc_new w1 _ _ 0
  have hst := store_fn w1 (.func 58) #[] #[.pointer (some ⟨mm, 0, none⟩), .pointer (some ⟨bb, 0, none⟩)] 59
  have HHV := Lib.hid (hh.kept hk2)
  have AT := Lib.hid (those_bey A n c L w1.heap.size (newE V C) _ (HH.out.kept (hk1.trans hk2)) hn fun w' x hx hkx r hr => bey1_any w1.heap.size mm bb V C x w' (hkx.cell c0) (HHV.out.kept hkx) HCC.out (HL.out x hx) r hr)
  have HKK := Lib.hid (HK.out.trans (hk1.trans hk2))
  have c1 := (HB.out.kept (hk1.trans hk2)).c0
  clear hh hk1 hk2 y0 z0 z1
  go_wp2_with fail
  go_at_call 30
  refine AT.out.mono ?_
  rintro e w2 ⟨A2, c2, rfl, he2, hk3⟩
  have HE2 := Lib.hid he2
  have HK3 := Lib.hid hk3
  clear he2 hk3 c0 c1
  go_wp2_with fail
  go_ret
  exact ⟨A2, c2, rfl, HE2.out, HKK.out.trans HK3.out⟩
end Go.Proofs.Ytcldbmhjfmbcfaa

namespace Go.Proofs.Ytcldbmhjfmbcfaa
open Go.RowKit

/-- A world that has all that W has, but for block b. -/
structure KExtE (b : Nat) (W : World) where
  w : World
  g : KeptE b W w
instance (b : Nat) (W : World) : Nonempty (KExtE b W) := ⟨⟨W, .refl b W⟩⟩
theorem KExtE.cell {b : Nat} {W : World} {b' o : Nat} {v : Value} (hb : b' ≠ b) (hc : W.cell? ⟨b', o, none⟩ = some v) (g : KExtE b W) : g.w.cell? ⟨b', o, none⟩ = some v := g.g.cell hb hc
theorem soloE {b : Nat} {W : World} {P : Program} {ops : Array Oper} {Q : Exit → Act → World → Prop} {p : Plan} {a : Act} {w : World} (hk : KeptE b W w) (h : wpPlan P ops (fun w' => ∃ g : KExtE b W, w' = g.w) Q p a w) :
    soloQ (fun a' w' => (∃ g : KExtE b W, w' = g.w) ∧ wpPlan P ops (fun w' => ∃ g : KExtE b W, w' = g.w) Q p a' w') .normal a w := ⟨⟨⟨w, hk⟩, rfl⟩, h⟩
theorem region_planE {P : Program} (b : Nat) (W : World) {id : Nat} {Q : Exit → Act → World → Prop} {a : Act} {w : World} {l : List Oper} (n : Nat) (p : Plan) (hm : P.follows .mixedOrders = true) (hs : Region.noSelect l.toArray = true) (hl : l.length = n) (hn : planN p = n)
    (hB : planF l.toArray n p 0 = true) (hQ : ∀ c d v a w, Q (.panic c) (Act.put a d v) w → Q (.panic c) a w) (h0 : Kept W w)
    (h : ∀ wd : World, Kept w wd → wpPlan P l.toArray (fun w' => ∃ g : KExtE b W, w' = g.w) Q p a wd) : (Code.region id l.toArray true).wp P Q a w := by
  subst hl
  refine wp_region_held (S := fun w' => ∃ g : KExtE b W, w' = g.w) hm ?_
  have hk : Kept w { w with drawn := w.drawn + 1 } := (Kept.refl w).drew
  have hB2 := planF_B l.toArray p 0 (by rw [List.size_toArray]; exact hB)
  rw [List.size_toArray, ← bits_none] at hB2
  have := plan_any (Q := Q) (C := fun w' => ∃ g : KExtE b W, w' = g.w) hs hQ p (Array.replicate l.length false) a { w with drawn := w.drawn + 1 } hB2 ⟨⟨_, .of (h0.trans hk)⟩, rfl⟩ (h _ hk)
  rw [hn] at this
  rw [List.size_toArray]
  exact this
end Go.Proofs.Ytcldbmhjfmbcfaa

namespace Go.Proofs.Ytcldbmhjfmbcfaa
open Go.RowKit
set_option linter.unusedVariables false

/-- Two lists put together: the lesser head first. -/
def mergeE : List En → List En → List En
  | [], Y => Y
  | x :: X, [] => x :: X
  | x :: X, y :: Y => if decide (cmpD x.d y.d < 0) then x :: mergeE X (y :: Y) else y :: mergeE (x :: X) Y
termination_by X Y => X.length + Y.length
theorem mergeE_nil (Y : List En) : mergeE [] Y = Y := by unfold mergeE; rfl
theorem mergeE_nil2 (X : List En) : mergeE X [] = X := by
  cases X with
  | nil => exact mergeE_nil []
  | cons x X => unfold mergeE; rfl
theorem mergeE_lt {x y : En} {X Y : List En} (h : cmpD x.d y.d < 0) : mergeE (x :: X) (y :: Y) = x :: mergeE X (y :: Y) := by
  rw [mergeE, if_pos (by simpa using h)]
theorem mergeE_ge {x y : En} {X Y : List En} (h : ¬ cmpD x.d y.d < 0) : mergeE (x :: X) (y :: Y) = y :: mergeE (x :: X) Y := by
  rw [mergeE, if_neg (by simpa using h)]
theorem mergeE_mem : ∀ (X Y : List En) (z : En), z ∈ mergeE X Y ↔ z ∈ X ∨ z ∈ Y
  | [], Y, z => by rw [mergeE_nil]; simp
  | x :: X, [], z => by rw [mergeE_nil2]; simp
  | x :: X, y :: Y, z => by
    by_cases h : cmpD x.d y.d < 0
    · rw [mergeE_lt h, List.mem_cons, mergeE_mem X (y :: Y) z, List.mem_cons, List.mem_cons, or_assoc]
    · rw [mergeE_ge h, List.mem_cons, mergeE_mem (x :: X) Y z, List.mem_cons, List.mem_cons]
      constructor
      · rintro (h | h | h)
        · exact .inr (.inl h)
        · exact .inl h
        · exact .inr (.inr h)
      · rintro (h | h | h)
        · exact .inr (.inl h)
        · exact .inl h
        · exact .inr (.inr h)
termination_by X Y => X.length + Y.length
theorem mergeE_rise : ∀ (X Y : List En), RiseE X → RiseE Y → (∀ x ∈ X, ∀ y ∈ Y, x.d ≠ y.d) → RiseE (mergeE X Y)
  | [], Y, _, h, _ => by rw [mergeE_nil]; exact h
  | x :: X, [], h, _, _ => by rw [mergeE_nil2]; exact h
  | x :: X, y :: Y, hX, hY, hn => by
    obtain ⟨x1, x2⟩ := List.pairwise_cons.1 hX
    obtain ⟨y1, y2⟩ := List.pairwise_cons.1 hY
    by_cases h : cmpD x.d y.d < 0
    · rw [mergeE_lt h]
      refine List.pairwise_cons.2 ⟨fun z hz => ?_, mergeE_rise X (y :: Y) x2 hY fun a ha b hb => hn a (List.mem_cons_of_mem _ ha) b hb⟩
      rcases (mergeE_mem _ _ _).1 hz with hz | hz
      · exact x1 z hz
      · rcases List.mem_cons.1 hz with e | hz
        · rw [e]; exact (cmpD_lt _ _).1 h
        · exact LtD.trans ((cmpD_lt _ _).1 h) (y1 z hz)
    · rw [mergeE_ge h]
      have hyx : LtD y.d x.d := by
        rcases LtD.tri y.d x.d with h1 | h1 | h1
        · exact h1
        · exact absurd h1.symm (hn x (List.mem_cons_self ..) y (List.mem_cons_self ..))
        · exact absurd ((cmpD_lt _ _).2 h1) h
      refine List.pairwise_cons.2 ⟨fun z hz => ?_, mergeE_rise (x :: X) Y hX y2 fun a ha b hb => hn a ha b (List.mem_cons_of_mem _ hb)⟩
      rcases (mergeE_mem _ _ _).1 hz with hz | hz
      · rcases List.mem_cons.1 hz with e | hz
        · rw [e]; exact hyx
        · exact LtD.trans hyx (x1 z hz)
      · exact y1 z hz
termination_by X Y => X.length + Y.length
theorem mergeE_len : ∀ (X Y : List En), (mergeE X Y).length = X.length + Y.length
  | [], Y => by rw [mergeE_nil]; simp
  | x :: X, [] => by rw [mergeE_nil2]; simp
  | x :: X, y :: Y => by
    by_cases h : cmpD x.d y.d < 0
    · rw [mergeE_lt h, List.length_cons, mergeE_len X (y :: Y)]; simp only [List.length_cons]; omega
    · rw [mergeE_ge h, List.length_cons, mergeE_len (x :: X) Y]; simp only [List.length_cons]; omega
termination_by X Y => X.length + Y.length
def slen : Value → Nat
  | .slice _ n _ => n
  | _ => 0
theorem head_drop {X : List En} {x : En} (h : X[0]? = some x) : X = x :: X.drop 1 := by
  cases X with
  | nil => simp at h
  | cons y X => obtain rfl : y = x := by simpa using h
                rfl
theorem make_ens (n : Nat) (hn : n ≤ 1000000) : ∃ cs : Array Value, cs.size = n * 9 ∧
    ∀ W : World, (Instr.makeSlice 22 (.int .i64 0) (.int .i64 (n : Int))).run Try.prog W = .ok (.slice (some ⟨W.heap.size, 0, none⟩) 0 n) (W.alloc (.cells cs 46)) := by
  obtain ⟨i0, hi0, hz0, hz1, hz2⟩ := info_parts infoEn
  refine ⟨madeCells (Value.agg #[.int .i64 0, .int .i64 0, .string ⟨#[]⟩, .int .i64 0, .int .i64 0, .int .i64 0, .string ⟨#[]⟩, .int .i64 0, .int .i64 0]).cells (n * 9), size_madeCells _ _, fun W => ?_⟩
  have h := run_make (P := Try.prog) W 22 46 i0 (.agg #[.int .i64 0, .int .i64 0, .string ⟨#[]⟩, .int .i64 0, .int .i64 0, .int .i64 0, .string ⟨#[]⟩, .int .i64 0, .int .i64 0]) Try.underlying22 hi0 hz0 .i64 .i64 0 (n : Int) (by omega) (by omega) (by rw [hz2]; omega) (by omega)
  rw [hz1, show ((n : Int)).toNat = n by omega] at h
  exact h
theorem made_ens (W : World) (cs : Array Value) (n : Nat) (hn : n ≤ 1000000) (hc : cs.size = n * 9) : OutE W (W.alloc (.cells cs 46)) (.slice (some ⟨W.heap.size, 0, none⟩) 0 n) [] :=
  ⟨World.ownsRow_made W cs n (Nat.le_refl _) (by simp only [maxLen]; omega) hc, (Kept.refl W).alloc _ _⟩
/-- Entries that a call hands back, in a row of its own. -/
def EntsF (L : List En) (w : World) (e : Ending) (w' : World) : Prop := ∃ A c, e = .returned (.slice A L.length c) ∧ El w' A L.length c L ∧ Kept w w' ∧ ∀ ad, A = some ad → w.heap.size ≤ ad.block
theorem el_at {w : World} {b o n c : Nat} {L : List En} {x : En} (h : El w (some ⟨b, o, none⟩) n c L) (hx : L[0]? = some x) : EntO w b o x := by
  have hn : 0 < n := by rw [h.1]; exact (List.getElem?_eq_some_iff.1 hx).1
  obtain ⟨b2, o2, y, e, hy, he⟩ := h.get hn
  obtain ⟨rfl, rfl⟩ : b = b2 ∧ o = o2 := by simpa using e
  obtain rfl := Option.some.inj (hx.symm.trans hy)
  rw [Nat.zero_mul, Nat.add_zero] at he
  exact he

set_option maxRecDepth 100000 in
set_option maxHeartbeats 16000000 in
theorem merge_any (A : Option Addr) (n c : Nat) (L : List En) (B : Option Addr) (m k : Nat) (M : List En) (w : World) (h : El w A n c L) (h' : El w B m k M) (hn : n ≤ 400000) (hm : m ≤ 400000) :
    Calls Try.prog 29 #[.slice A n c, .slice B m k] w (EntsF (mergeE L M) w) := by
  obtain ⟨N, hN⟩ : ∃ N, n + m = N := ⟨_, rfl⟩
  obtain ⟨cs, hcs, hmk⟩ := make_ens N (by omega)
  have hsum : IntKind.i64.wrap ((n : Int) + m) = (N : Int) := by rw [IntWalk.i64_in _ (by omega)]; omega
  have HO0 := Lib.hid (made_ens w cs N (by omega) hcs)
  have HNN := Lib.hid hN
  have HL := Lib.hid h; have HM := Lib.hid h'
  have HLN := Lib.hid h.1; have HMN := Lib.hid h'.1
  have hcap := h.cap.1; have hcap2 := h.cap.2; have hcap3 := h'.cap.1; have hcap4 := h'.cap.2
  clear h h' hcs hN
  go_enter Try.func29, Try.ntmps29
  go_wp2_with fail
  clear hmk hsum
  go_loopw [0, 1, 5] (fun va vb v wr => ∃ A1 n1 c1 X B1 m1 k1 Y Z, va = .slice A1 n1 c1 ∧ vb = .slice B1 m1 k1 ∧ El w A1 n1 c1 X ∧ El w B1 m1 k1 Y ∧ OutE w wr v Z ∧ Z ++ mergeE X Y = mergeE L M ∧ Z.length + n1 + m1 = N) (fun va vb _ _ => slen va + slen vb)
  case atStart => exact ⟨A, n, c, L, B, m, k, M, [], rfl, rfl, HL.out, HM.out, HO0.out, rfl, by simp [HNN.out]⟩
  case round =>
    obtain ⟨A1, n1, c1, X, B1, m1, k1, Y, Z, rfl, rfl, hX, hY, hZ, hZM, hlen⟩ := hrel
    obtain ⟨A3, c3, rfl, hel3, hfr3, hc3, hcm3⟩ := hZ.form
    have HX := Lib.hid hX; have HY := Lib.hid hY; have HZ := Lib.hid hZ; have HZM := Lib.hid hZM; have HLEN := Lib.hid hlen
    have hxc := hX.cap.1; have hxc2 := hX.cap.2; have hyc := hY.cap.1; have hyc2 := hY.cap.2
    have hnn := HNN.out
    have hle1 : n1 ≤ 1000000 := by omega
    have hle2 : m1 ≤ 1000000 := by omega
    have hle3 : Z.length ≤ 1000000 := by omega
    have HXL := Lib.hid hX.1; have HYL := Lib.hid hY.1
    clear hX hY hZ hZM hel3 hfr3 hlen hnn
    by_cases hx : 0 < n1
    · by_cases hy : 0 < m1
      · obtain ⟨b, o, x, rfl, hx0, -⟩ := HX.out.get hx
        obtain ⟨b2, o2, y, rfl, hy0, -⟩ := HY.out.get hy
        have EX := el_at (HX.out.kept HZ.out.ke) hx0
        have EY := el_at (HY.out.kept HZ.out.ke) hy0
        have HXD := Lib.hid (head_drop hx0)
        have HYD := Lib.hid (head_drop hy0)
        have HX0 := Lib.hid hx0; have HY0 := Lib.hid hy0
        have x0 := KExt.cell EX.c0; have x1 := KExt.cell EX.c1; have x2 := KExt.cell EX.c2; have x3 := KExt.cell EX.c3; have x4 := KExt.cell EX.c4; have x5 := KExt.cell EX.c5; have x6 := KExt.cell EX.c6; have x7 := KExt.cell EX.c7; have x8 := KExt.cell EX.c8
        have y0 := KExt.cell EY.c0; have y1 := KExt.cell EY.c1; have y2 := KExt.cell EY.c2; have y3 := KExt.cell EY.c3; have y4 := KExt.cell EY.c4; have y5 := KExt.cell EY.c5; have y6 := KExt.cell EY.c6; have y7 := KExt.cell EY.c7; have y8 := KExt.cell EY.c8
        obtain ⟨z, hz⟩ : ∃ z, cmpD x.d y.d = z := ⟨_, rfl⟩
        have AC := Lib.hid (fun w => ecmp_c x y z hz w)
        have HZZ := Lib.hid hz
        clear EX EY hx0 hy0 hz
        by_cases hz0 : z < 0
        · have hzb : decide (z < 0) = true := by simpa using hz0
          have HC := Lib.hid (show mergeE X Y = x :: mergeE (X.drop 1) Y by rw [HXD.out, HYD.out, mergeE_lt (by rw [HZZ.out]; exact hz0)]; rfl)
          clear hz0
          go_wp2_with fail
          refine region_kept wr (by kernel_rfl) (by kernel_rfl) (Kept.refl _) ?_
          repeat (go_big_quiet_step ((first | (go_at_call 52; (with_reducible exact KExt.callsK (AC.out _))) | fail)))
          refine wpQuiet_nil ?_
          intro G
          clear x0 x1 x2 x3 x4 x5 x6 x7 x8 y0 y1 y2 y3 y4 y5 y6 y7 y8
          have HZ2 := Lib.hid (HZ.out.kept G.g)
          have EX := el_at HX.out HX0.out
          have x0 := KExt.cell EX.c0; have x1 := KExt.cell EX.c1; have x2 := KExt.cell EX.c2; have x3 := KExt.cell EX.c3; have x4 := KExt.cell EX.c4; have x5 := KExt.cell EX.c5; have x6 := KExt.cell EX.c6; have x7 := KExt.cell EX.c7; have x8 := KExt.cell EX.c8
          obtain ⟨A2, ht, hr2, hr3⟩ := el_tail HX.out (show 1 ≤ n1 from hx)
          have hr4 : ∀ W : World, (Instr.slice 22 (.slice (some ⟨b, o, none⟩) n1 c1) (some (.int .i64 1)) none none).run Try.prog W = .ok (.slice A2 (n1 - 1) (c1 - 1)) W := hr2
          have hr5 : ∀ W : World, (Instr.sliceAt 22 (.slice (some ⟨b, o, none⟩) n1 c1) (some (.int .i64 1)) none none).run Try.prog W = .ok (.slice A2 (n1 - 1) (c1 - 1)) W := hr3
          have HT := Lib.hid ht
          clear EX hr2 hr3 ht
          go_wp2_with fail
          refine region_plan w 10 (.read [0, 1, 2, 3, 6, 7] (.one 4 (.one 5 (.read [8, 9] .stop)))) (by kernel_rfl) (by kernel_rfl) (by kernel_rfl) (by kernel_rfl) (by kernel_rfl) (fun _ d _ _ _ h => by cases d <;> exact h) HZ2.out.ke ?_
          intro wd hwd
          have HZ3 := Lib.hid (HZ2.out.kept hwd)
          clear hwd
          rw [wpPlan_read]
          simp only [pickOps_cons, pickOps_nil, consO_some, List.getElem?_cons_zero, List.getElem?_cons_succ]
          repeat (go_big_quiet_step (fail))
          refine wpQuiet_nil ?_
          rw [wpPlan_one]
          simp only [pickOps_cons, pickOps_nil, consO_some, List.getElem?_cons_zero, List.getElem?_cons_succ]
          go_wp2_with fail
          have hka := (Kept.refl wd).alloc #[.int .i64 x.d.1, .int .i64 x.d.2, .string x.p, .int .i64 x.k, .int .i64 x.vk, .int .i64 x.vn, .string x.vt, .int .i64 x.e.1, .int .i64 x.e.2] 46
          refine soloP (HZ3.out.ke.trans hka) ?_
          obtain ⟨v8, w8, hr8, ho8⟩ := (HZ3.out.kept hka).app _ _ _ _ (el_one (Ent.new wd x 46)) (by omega)
          have HR8 := Lib.hid hr8
          have HO9 := Lib.hid ho8
          clear hr8 ho8 hka
          rw [wpPlan_one]
          simp only [pickOps_cons, pickOps_nil, consO_some, List.getElem?_cons_zero, List.getElem?_cons_succ]
          go_wp2_with (at_builtin; refine Lib.wpList_append_run _ rfl (.tmp 28) (.tmp 32) _ _ rfl _ _ rfl rfl _ _ HR8.out ?_)
          refine soloP HO9.out.ke ?_
          rw [wpPlan_read]
          simp only [pickOps_cons, pickOps_nil, consO_some, List.getElem?_cons_zero, List.getElem?_cons_succ]
          repeat (go_big_quiet_step (fail))
          refine wpQuiet_nil ?_
          refine wpPlan_stop ?_
          clear x0 x1 x2 x3 x4 x5 x6 x7 x8 hr4 hr5
          go_wp2_with fail
          go_roundw
          case rel => exact ⟨A2, n1 - 1, c1 - 1, X.drop 1, _, m1, k1, Y, Z ++ [x], rfl, rfl, HT.out, HY.out, HO9.out, by rw [List.append_assoc, ← HZM.out, HC.out]; rfl, by have := HLEN.out; rw [List.length_append]; simp only [List.length_cons, List.length_nil]; omega⟩
          case measure => simp [slen]; omega
        · have hzb : decide (z < 0) = false := by simpa using hz0
          have HC := Lib.hid (show mergeE X Y = y :: mergeE X (Y.drop 1) by rw [HXD.out, HYD.out, mergeE_ge (by rw [HZZ.out]; exact hz0)]; rfl)
          clear hz0
          go_wp2_with fail
          refine region_kept wr (by kernel_rfl) (by kernel_rfl) (Kept.refl _) ?_
          repeat (go_big_quiet_step ((first | (go_at_call 52; (with_reducible exact KExt.callsK (AC.out _))) | fail)))
          refine wpQuiet_nil ?_
          intro G
          clear x0 x1 x2 x3 x4 x5 x6 x7 x8 y0 y1 y2 y3 y4 y5 y6 y7 y8
          have HZ2 := Lib.hid (HZ.out.kept G.g)
          have EY := el_at HY.out HY0.out
          have y0 := KExt.cell EY.c0; have y1 := KExt.cell EY.c1; have y2 := KExt.cell EY.c2; have y3 := KExt.cell EY.c3; have y4 := KExt.cell EY.c4; have y5 := KExt.cell EY.c5; have y6 := KExt.cell EY.c6; have y7 := KExt.cell EY.c7; have y8 := KExt.cell EY.c8
          obtain ⟨A2, ht, hr2, hr3⟩ := el_tail HY.out (show 1 ≤ m1 from hy)
          have hr4 : ∀ W : World, (Instr.slice 22 (.slice (some ⟨b2, o2, none⟩) m1 k1) (some (.int .i64 1)) none none).run Try.prog W = .ok (.slice A2 (m1 - 1) (k1 - 1)) W := hr2
          have hr5 : ∀ W : World, (Instr.sliceAt 22 (.slice (some ⟨b2, o2, none⟩) m1 k1) (some (.int .i64 1)) none none).run Try.prog W = .ok (.slice A2 (m1 - 1) (k1 - 1)) W := hr3
          have HT := Lib.hid ht
          clear EY hr2 hr3 ht
          go_wp2_with fail
          refine region_plan w 10 (.read [0, 1, 2, 3, 6, 7] (.one 4 (.one 5 (.read [8, 9] .stop)))) (by kernel_rfl) (by kernel_rfl) (by kernel_rfl) (by kernel_rfl) (by kernel_rfl) (fun _ d _ _ _ h => by cases d <;> exact h) HZ2.out.ke ?_
          intro wd hwd
          have HZ3 := Lib.hid (HZ2.out.kept hwd)
          clear hwd
          rw [wpPlan_read]
          simp only [pickOps_cons, pickOps_nil, consO_some, List.getElem?_cons_zero, List.getElem?_cons_succ]
          repeat (go_big_quiet_step (fail))
          refine wpQuiet_nil ?_
          rw [wpPlan_one]
          simp only [pickOps_cons, pickOps_nil, consO_some, List.getElem?_cons_zero, List.getElem?_cons_succ]
          go_wp2_with fail
          have hka := (Kept.refl wd).alloc #[.int .i64 y.d.1, .int .i64 y.d.2, .string y.p, .int .i64 y.k, .int .i64 y.vk, .int .i64 y.vn, .string y.vt, .int .i64 y.e.1, .int .i64 y.e.2] 46
          refine soloP (HZ3.out.ke.trans hka) ?_
          obtain ⟨v8, w8, hr8, ho8⟩ := (HZ3.out.kept hka).app _ _ _ _ (el_one (Ent.new wd y 46)) (by omega)
          have HR8 := Lib.hid hr8
          have HO9 := Lib.hid ho8
          clear hr8 ho8 hka
          rw [wpPlan_one]
          simp only [pickOps_cons, pickOps_nil, consO_some, List.getElem?_cons_zero, List.getElem?_cons_succ]
          go_wp2_with (at_builtin; refine Lib.wpList_append_run _ rfl (.tmp 36) (.tmp 40) _ _ rfl _ _ rfl rfl _ _ HR8.out ?_)
          refine soloP HO9.out.ke ?_
          rw [wpPlan_read]
          simp only [pickOps_cons, pickOps_nil, consO_some, List.getElem?_cons_zero, List.getElem?_cons_succ]
          repeat (go_big_quiet_step (fail))
          refine wpQuiet_nil ?_
          refine wpPlan_stop ?_
          clear y0 y1 y2 y3 y4 y5 y6 y7 y8 hr4 hr5
          go_wp2_with fail
          go_roundw
          case rel => exact ⟨_, n1, c1, X, A2, m1 - 1, k1 - 1, Y.drop 1, Z ++ [y], rfl, rfl, HX.out, HT.out, HO9.out, by rw [List.append_assoc, ← HZM.out, HC.out]; rfl, by have := HLEN.out; rw [List.length_append]; simp only [List.length_cons, List.length_nil]; omega⟩
          case measure => simp [slen]; omega
      · have HY0 := Lib.hid (show Y = [] from List.eq_nil_of_length_eq_zero (by have := HYL.out; omega))
        have HEND := Lib.hid (show Z ++ X ++ Y = mergeE L M by rw [← HZM.out, HY0.out, mergeE_nil2, List.append_nil])
        obtain ⟨v8, w8, hr8, ho8⟩ := HZ.out.app _ _ _ _ (HX.out.kept HZ.out.ke) (by omega)
        obtain ⟨v9, w9, hr9, ho9⟩ := ho8.app _ _ _ _ (HY.out.kept ho8.ke) (by rw [List.length_append, HX.out.len]; omega)
        rw [HEND.out] at ho9
        have HR8 := Lib.hid hr8; have HR9 := Lib.hid hr9; have HO9 := Lib.hid ho9
        clear hr8 hr9 ho8 ho9
        go_wp2_with (first
          | (at_builtin; refine Lib.wpList_append_run _ rfl (.tmp 44) (.tmp 45) _ _ rfl _ _ rfl rfl _ _ HR8.out ?_)
          | (at_builtin; refine Lib.wpList_append_run _ rfl (.tmp 46) (.tmp 47) _ _ rfl _ _ rfl rfl _ _ HR9.out ?_))
        obtain ⟨A9, c9, rfl, he9, hf9, -, -⟩ := HO9.out.form
        go_ret
        exact ⟨A9, c9, rfl, he9, HO9.out.ke, hf9⟩
    · have HX0 := Lib.hid (show X = [] from List.eq_nil_of_length_eq_zero (by have := HXL.out; omega))
      have HEND := Lib.hid (show Z ++ X ++ Y = mergeE L M by rw [← HZM.out, HX0.out, mergeE_nil, List.append_nil])
      obtain ⟨v8, w8, hr8, ho8⟩ := HZ.out.app _ _ _ _ (HX.out.kept HZ.out.ke) (by omega)
      obtain ⟨v9, w9, hr9, ho9⟩ := ho8.app _ _ _ _ (HY.out.kept ho8.ke) (by rw [List.length_append, HX.out.len]; omega)
      rw [HEND.out] at ho9
      have HR8 := Lib.hid hr8; have HR9 := Lib.hid hr9; have HO9 := Lib.hid ho9
      clear hr8 hr9 ho8 ho9
      go_wp2_with (first
        | (at_builtin; refine Lib.wpList_append_run _ rfl (.tmp 44) (.tmp 45) _ _ rfl _ _ rfl rfl _ _ HR8.out ?_)
        | (at_builtin; refine Lib.wpList_append_run _ rfl (.tmp 46) (.tmp 47) _ _ rfl _ _ rfl rfl _ _ HR9.out ?_))
      obtain ⟨A9, c9, rfl, he9, hf9, -, -⟩ := HO9.out.form
      go_ret
      exact ⟨A9, c9, rfl, he9, HO9.out.ke, hf9⟩
end Go.Proofs.Ytcldbmhjfmbcfaa

