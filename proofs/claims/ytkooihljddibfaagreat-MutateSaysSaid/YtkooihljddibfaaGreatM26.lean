/-
  What is proved: Leave, Take and Play of package mutate, called with any states, entries and dots that lie in memory, return what P10.2 to P10.4 say; the world has new blocks at most.
  dots of package store, called with any slice of entries that lies in memory, returns their dots, in new memory; the world has new blocks at most.
-/
import Derived.Test.YtkooihljddibfaaGreatM24
import Derived.Test.YtkooihljddibfaaGreatM17
import Derived.Laws.MakeOwn
namespace Go.Proofs.YtkooihljddibfaaGreat
open Go.RowKit
set_option linter.unusedVariables false

/-- An event, in ten cells. -/
structure EvB (w : World) (b : Nat) (x : En) (g : Value) : Prop where
  ent : Ent w b x
  c9 : w.cell? ⟨b, 9, none⟩ = some g
theorem EvB.kept {w w' : World} {b : Nat} {x : En} {g : Value} (h : EvB w b x g) (hk : Kept w w') : EvB w' b x g := ⟨h.ent.kept hk, hk.cell h.c9⟩
theorem EvB.new (w : World) (x : En) (g : Value) (t : TypeId) : EvB (w.alloc (.cells #[.int .i64 x.d.1, .int .i64 x.d.2, .string x.p, .int .i64 x.k, .int .i64 x.vk, .int .i64 x.vn, .string x.vt, .int .i64 x.e.1, .int .i64 x.e.2, g] t)) w.heap.size x g :=
  ⟨⟨(Kept.refl _).box 0 _ rfl, (Kept.refl _).box 1 _ rfl, (Kept.refl _).box 2 _ rfl, (Kept.refl _).box 3 _ rfl, (Kept.refl _).box 4 _ rfl, (Kept.refl _).box 5 _ rfl, (Kept.refl _).box 6 _ rfl, (Kept.refl _).box 7 _ rfl, (Kept.refl _).box 8 _ rfl⟩, (Kept.refl _).box 9 _ rfl⟩
set_option maxRecDepth 100000 in
set_option maxHeartbeats 8000000 in
theorem leaving_any (x : En) (B : Option Addr) (m k : Nat) (w : World) :
    Calls Tryz.prog 31 #[.agg #[.int .i64 x.d.1, .int .i64 x.d.2, .string x.p, .int .i64 x.k, .int .i64 x.vk, .int .i64 x.vn, .string x.vt, .int .i64 x.e.1, .int .i64 x.e.2, .slice B m k]] w fun e w' => ∃ b, e = .returned (.slice (some ⟨b, 0, none⟩) 1 1) ∧ El w' (some ⟨b, 0, none⟩) 1 1 [x] ∧ Kept w w' := by
  have hk := ((Kept.refl w).alloc #[.int .i64 x.d.1, .int .i64 x.d.2, .string x.p, .int .i64 x.k, .int .i64 x.vk, .int .i64 x.vn, .string x.vt, .int .i64 x.e.1, .int .i64 x.e.2, .slice B m k] 59).alloc #[.int .i64 x.d.1, .int .i64 x.d.2, .string x.p, .int .i64 x.k, .int .i64 x.vk, .int .i64 x.vn, .string x.vt, .int .i64 x.e.1, .int .i64 x.e.2] 34
  have he := el_one (Ent.new (w.alloc (.cells #[.int .i64 x.d.1, .int .i64 x.d.2, .string x.p, .int .i64 x.k, .int .i64 x.vk, .int .i64 x.vn, .string x.vt, .int .i64 x.e.1, .int .i64 x.e.2, .slice B m k] 59)) x 34)
  rw [show (w.alloc (.cells #[.int .i64 x.d.1, .int .i64 x.d.2, .string x.p, .int .i64 x.k, .int .i64 x.vk, .int .i64 x.vn, .string x.vt, .int .i64 x.e.1, .int .i64 x.e.2, .slice B m k] 59)).heap.size = w.heap.size + 1 by simp] at he
  have HE := Lib.hid he; have HK := Lib.hid hk
  have hb := EvB.new w x (.slice B m k) 59
  have x0 := hb.ent.c0; have x1 := hb.ent.c1; have x2 := hb.ent.c2; have x3 := hb.ent.c3; have x4 := hb.ent.c4; have x5 := hb.ent.c5; have x6 := hb.ent.c6; have x7 := hb.ent.c7; have x8 := hb.ent.c8
  clear hk he hb
  go_enter Tryz.func31, Tryz.ntmps31
  go_wp2_with fail
  go_ret
  exact ⟨_, rfl, HE.out, HK.out⟩
set_option maxRecDepth 100000 in
set_option maxHeartbeats 8000000 in
theorem taking_any (x : En) (B : Option Addr) (m k : Nat) (w : World) :
    Calls Tryz.prog 33 #[.agg #[.int .i64 x.d.1, .int .i64 x.d.2, .string x.p, .int .i64 x.k, .int .i64 x.vk, .int .i64 x.vn, .string x.vt, .int .i64 x.e.1, .int .i64 x.e.2, .slice B m k]] w fun e w' => e = .returned (.slice none 0 0) ∧ Kept w w' := by
  have HK := Lib.hid ((Kept.refl w).alloc #[.int .i64 x.d.1, .int .i64 x.d.2, .string x.p, .int .i64 x.k, .int .i64 x.vk, .int .i64 x.vn, .string x.vt, .int .i64 x.e.1, .int .i64 x.e.2, .slice B m k] 59)
  go_enter Tryz.func33, Tryz.ntmps33
  go_wp2_with fail
  go_ret
  exact ⟨rfl, HK.out⟩
set_option maxRecDepth 100000 in
set_option maxHeartbeats 8000000 in
theorem joined_leave (x : En) (B : Option Addr) (m k : Nat) (G : List (Int × Int)) (w : World) (hd : Dl w B m k G) (hm : m ≤ 900000) :
    Calls Tryz.prog 30 #[.agg #[.int .i64 x.d.1, .int .i64 x.d.2, .string x.p, .int .i64 x.k, .int .i64 x.vk, .int .i64 x.vn, .string x.vt, .int .i64 x.e.1, .int .i64 x.e.2, .slice B m k], .func (.func 31) #[] #[]] w (StJ (LeaveS x G) w) := by
  have hk := ((Kept.refl w).alloc #[.int .i64 x.d.1, .int .i64 x.d.2, .string x.p, .int .i64 x.k, .int .i64 x.vk, .int .i64 x.vn, .string x.vt, .int .i64 x.e.1, .int .i64 x.e.2, .slice B m k] 59).alloc #[.slice none 0 0, .slice none 0 0, .slice none 0 0] 28
  have hb := (EvB.new w x (.slice B m k) 59).kept ((Kept.refl _).alloc #[.slice none 0 0, .slice none 0 0, .slice none 0 0] 28)
  have hr := Box3.new (w.alloc (.cells #[.int .i64 x.d.1, .int .i64 x.d.2, .string x.p, .int .i64 x.k, .int .i64 x.vk, .int .i64 x.vn, .string x.vt, .int .i64 x.e.1, .int .i64 x.e.2, .slice B m k] 59)) (.slice none 0 0) (.slice none 0 0) (.slice none 0 0) 28
  rw [show (w.alloc (.cells #[.int .i64 x.d.1, .int .i64 x.d.2, .string x.p, .int .i64 x.k, .int .i64 x.vk, .int .i64 x.vn, .string x.vt, .int .i64 x.e.1, .int .i64 x.e.2, .slice B m k] 59)).heap.size = w.heap.size + 1 by simp] at hr
  have hsz : ((w.alloc (.cells #[.int .i64 x.d.1, .int .i64 x.d.2, .string x.p, .int .i64 x.k, .int .i64 x.vk, .int .i64 x.vn, .string x.vt, .int .i64 x.e.1, .int .i64 x.e.2, .slice B m k] 59)).alloc (.cells #[.slice none 0 0, .slice none 0 0, .slice none 0 0] 28)).heap.size = w.heap.size + 2 := by simp
  obtain ⟨U, hU⟩ : ∃ U, (w.alloc (.cells #[.int .i64 x.d.1, .int .i64 x.d.2, .string x.p, .int .i64 x.k, .int .i64 x.vk, .int .i64 x.vn, .string x.vt, .int .i64 x.e.1, .int .i64 x.e.2, .slice B m k] 59)).alloc (.cells #[.slice none 0 0, .slice none 0 0, .slice none 0 0] 28) = U := ⟨_, rfl⟩
  rw [hU] at hk hb hr hsz
  have hk1 := (Kept.refl U).alloc #[.int .i64 x.d.1, .int .i64 x.d.2] 30
  obtain ⟨v5, w5, hr5, ho5, _⟩ := (OutG.one (Kept.refl U) x.d.1 x.d.2).app B m k G ((hd.kept hk).kept hk1) (by simp; omega)
  rw [show U.heap.size = w.heap.size + 1 + 1 from hsz] at hr5
  have hL : ([x.d] ++ G).length = m + 1 := by have := hd.1; simp; omega
  obtain ⟨A5, c5, rfl, hd5⟩ := ho5.form
  have HD5 := Lib.hid (show Dl w5 A5 (m + 1) c5 (x.d :: G) by rw [← hL]; exact hd5)
  have hl5 : ([(x.d.1, x.d.2)] ++ G).length = m + 1 := hL
  rw [hl5, ← hU] at hr5
  have hk5 := ho5.ke
  have HR5 := Lib.hid hr5
  have HB5 := Lib.hid (hb.kept hk5); have HRES := Lib.hid (hr.kept hk5); have HK5 := Lib.hid (hk.trans hk5)
  have HGL := Lib.hid hd.1
  have y9 := hk1.cell hb.c9
  rw [← hU] at y9
  clear hd hk hb hr hU hk1 hr5 ho5 hL hl5 hd5 hk5
  have hb := HB5.out
  have x0 := hb.ent.c0; have x1 := hb.ent.c1; have x2 := hb.ent.c2; have x3 := hb.ent.c3; have x4 := hb.ent.c4; have x5 := hb.ent.c5; have x6 := hb.ent.c6; have x7 := hb.ent.c7; have x8 := hb.ent.c8; have x9 := hb.c9
  clear hb
  go_enter Tryz.func30, Tryz.ntmps30
  go_wp2_with (at_builtin; refine Lib.wpList_append_run _ rfl (.tmp 9) (.tmp 11) _ _ rfl _ _ rfl rfl _ _ HR5.out ?_)
  clear y9
  go_at_call 31
  refine (leaving_any x B m k _).mono ?_
  rintro e w6 ⟨b6, rfl, he6, hk6⟩
  have HK6 := Lib.hid (HK5.out.trans hk6)
  have HD6 := Lib.hid (HD5.out.kept hk6)
  have HE6 := Lib.hid he6
  replace HRES := Lib.hid (HRES.out.kept hk6)
  clear hk6 he6
  clear x0 x1 x2 x3 x4 x5 x6 x7 x8 x9
  go_wp2_with fail
  go_at_call 46
  refine (gof_any A5 (m + 1) c5 (x.d :: G) _ HD6.out (by omega)).mono ?_
  rintro e w7 ⟨A7, n7, c7, B7, m7, k7, V7, C7, rfl, hi7, hd7, hs7, hm7, hk7, _, _⟩
  have hres := HRES.out.kept hk7
  have e0 := hres.c0; have e1 := hres.c1; have e2 := hres.c2; have ef := hres.f
  have HF := Lib.hid (stj_put (S := LeaveS x G) (W := w) (s := ⟨[x], V7, C7⟩) (show Stt w7 (some ⟨b6, 0, none⟩) 1 1 A7 n7 c7 B7 m7 k7 [x] V7 C7 from ⟨HE6.out.kept hk7, hi7, hd7⟩) hres (Nat.le_add_right _ 1) (HK6.out.trans hk7) ⟨rfl, ⟨hs7.right, fun d => (hs7.has d).trans (ev_fore d)⟩, by have := hd7.1; have := HGL.out; simp only [List.length_cons] at hm7; show C7.length ≤ G.length + 1; omega⟩)
  clear hi7 hd7 hs7 hm7 hk7 hres
  go_wp2_with fail
  exact bodyPost_ret (by simp [results, Tryz.results30, go_sem, *]) rfl HF.out
set_option maxRecDepth 100000 in
set_option maxHeartbeats 8000000 in
theorem joined_take (x : En) (B : Option Addr) (m k : Nat) (G : List (Int × Int)) (w : World) (hd : Dl w B m k G) (hm : m ≤ 900000) :
    Calls Tryz.prog 30 #[.agg #[.int .i64 x.d.1, .int .i64 x.d.2, .string x.p, .int .i64 x.k, .int .i64 x.vk, .int .i64 x.vn, .string x.vt, .int .i64 x.e.1, .int .i64 x.e.2, .slice B m k], .func (.func 33) #[] #[]] w (StJ (TakeS x.d G) w) := by
  have hk := ((Kept.refl w).alloc #[.int .i64 x.d.1, .int .i64 x.d.2, .string x.p, .int .i64 x.k, .int .i64 x.vk, .int .i64 x.vn, .string x.vt, .int .i64 x.e.1, .int .i64 x.e.2, .slice B m k] 59).alloc #[.slice none 0 0, .slice none 0 0, .slice none 0 0] 28
  have hb := (EvB.new w x (.slice B m k) 59).kept ((Kept.refl _).alloc #[.slice none 0 0, .slice none 0 0, .slice none 0 0] 28)
  have hr := Box3.new (w.alloc (.cells #[.int .i64 x.d.1, .int .i64 x.d.2, .string x.p, .int .i64 x.k, .int .i64 x.vk, .int .i64 x.vn, .string x.vt, .int .i64 x.e.1, .int .i64 x.e.2, .slice B m k] 59)) (.slice none 0 0) (.slice none 0 0) (.slice none 0 0) 28
  rw [show (w.alloc (.cells #[.int .i64 x.d.1, .int .i64 x.d.2, .string x.p, .int .i64 x.k, .int .i64 x.vk, .int .i64 x.vn, .string x.vt, .int .i64 x.e.1, .int .i64 x.e.2, .slice B m k] 59)).heap.size = w.heap.size + 1 by simp] at hr
  have hsz : ((w.alloc (.cells #[.int .i64 x.d.1, .int .i64 x.d.2, .string x.p, .int .i64 x.k, .int .i64 x.vk, .int .i64 x.vn, .string x.vt, .int .i64 x.e.1, .int .i64 x.e.2, .slice B m k] 59)).alloc (.cells #[.slice none 0 0, .slice none 0 0, .slice none 0 0] 28)).heap.size = w.heap.size + 2 := by simp
  obtain ⟨U, hU⟩ : ∃ U, (w.alloc (.cells #[.int .i64 x.d.1, .int .i64 x.d.2, .string x.p, .int .i64 x.k, .int .i64 x.vk, .int .i64 x.vn, .string x.vt, .int .i64 x.e.1, .int .i64 x.e.2, .slice B m k] 59)).alloc (.cells #[.slice none 0 0, .slice none 0 0, .slice none 0 0] 28) = U := ⟨_, rfl⟩
  rw [hU] at hk hb hr hsz
  have hk1 := (Kept.refl U).alloc #[.int .i64 x.d.1, .int .i64 x.d.2] 30
  obtain ⟨v5, w5, hr5, ho5, _⟩ := (OutG.one (Kept.refl U) x.d.1 x.d.2).app B m k G ((hd.kept hk).kept hk1) (by simp; omega)
  rw [show U.heap.size = w.heap.size + 1 + 1 from hsz] at hr5
  have hL : ([x.d] ++ G).length = m + 1 := by have := hd.1; simp; omega
  obtain ⟨A5, c5, rfl, hd5⟩ := ho5.form
  have HD5 := Lib.hid (show Dl w5 A5 (m + 1) c5 (x.d :: G) by rw [← hL]; exact hd5)
  have hl5 : ([(x.d.1, x.d.2)] ++ G).length = m + 1 := hL
  rw [hl5, ← hU] at hr5
  have hk5 := ho5.ke
  have HR5 := Lib.hid hr5
  have HB5 := Lib.hid (hb.kept hk5); have HRES := Lib.hid (hr.kept hk5); have HK5 := Lib.hid (hk.trans hk5)
  have HGL := Lib.hid hd.1
  have y9 := hk1.cell hb.c9
  rw [← hU] at y9
  clear hd hk hb hr hU hk1 hr5 ho5 hL hl5 hd5 hk5
  have hb := HB5.out
  have x0 := hb.ent.c0; have x1 := hb.ent.c1; have x2 := hb.ent.c2; have x3 := hb.ent.c3; have x4 := hb.ent.c4; have x5 := hb.ent.c5; have x6 := hb.ent.c6; have x7 := hb.ent.c7; have x8 := hb.ent.c8; have x9 := hb.c9
  clear hb
  go_enter Tryz.func30, Tryz.ntmps30
  go_wp2_with (at_builtin; refine Lib.wpList_append_run _ rfl (.tmp 9) (.tmp 11) _ _ rfl _ _ rfl rfl _ _ HR5.out ?_)
  clear y9
  go_at_call 33
  refine (taking_any x B m k _).mono ?_
  rintro e w6 ⟨rfl, hk6⟩
  have HK6 := Lib.hid (HK5.out.trans hk6)
  have HD6 := Lib.hid (HD5.out.kept hk6)
  have HE6 := Lib.hid (El.nil w6)
  replace HRES := Lib.hid (HRES.out.kept hk6)
  clear hk6
  clear x0 x1 x2 x3 x4 x5 x6 x7 x8 x9
  go_wp2_with fail
  go_at_call 46
  refine (gof_any A5 (m + 1) c5 (x.d :: G) _ HD6.out (by omega)).mono ?_
  rintro e w7 ⟨A7, n7, c7, B7, m7, k7, V7, C7, rfl, hi7, hd7, hs7, hm7, hk7, _, _⟩
  have hres := HRES.out.kept hk7
  have e0 := hres.c0; have e1 := hres.c1; have e2 := hres.c2; have ef := hres.f
  have HF := Lib.hid (stj_put (S := TakeS x.d G) (W := w) (s := ⟨[], V7, C7⟩) (show Stt w7 none 0 0 A7 n7 c7 B7 m7 k7 [] V7 C7 from ⟨HE6.out.kept hk7, hi7, hd7⟩) hres (Nat.le_add_right _ 1) (HK6.out.trans hk7) ⟨rfl, ⟨hs7.right, fun d => (hs7.has d).trans (ev_fore d)⟩, by have := hd7.1; have := HGL.out; simp only [List.length_cons] at hm7; show C7.length ≤ G.length + 1; omega⟩)
  clear hi7 hd7 hs7 hm7 hk7 hres
  go_wp2_with fail
  exact bodyPost_ret (by simp [results, Tryz.results30, go_sem, *]) rfl HF.out
set_option maxRecDepth 100000 in
set_option maxHeartbeats 8000000 in
theorem uleave_any (x : En) (B : Option Addr) (m k : Nat) (G : List (Int × Int)) (w : World) (hd : Dl w B m k G) (hm : m ≤ 900000) :
    Calls Tryz.prog 10 #[.agg #[.int .i64 x.d.1, .int .i64 x.d.2, .string x.p, .int .i64 x.k, .int .i64 x.vk, .int .i64 x.vn, .string x.vt, .int .i64 x.e.1, .int .i64 x.e.2], .slice B m k] w (StJ (LeaveS x G) w) := by
  have hk := ((Kept.refl w).alloc #[.int .i64 x.d.1, .int .i64 x.d.2, .string x.p, .int .i64 x.k, .int .i64 x.vk, .int .i64 x.vn, .string x.vt, .int .i64 x.e.1, .int .i64 x.e.2] 34).alloc #[.slice none 0 0, .slice none 0 0, .slice none 0 0] 28
  have hb := (Ent.new w x 34).kept ((Kept.refl _).alloc #[.slice none 0 0, .slice none 0 0, .slice none 0 0] 28)
  have hr := Box3.new (w.alloc (.cells #[.int .i64 x.d.1, .int .i64 x.d.2, .string x.p, .int .i64 x.k, .int .i64 x.vk, .int .i64 x.vn, .string x.vt, .int .i64 x.e.1, .int .i64 x.e.2] 34)) (.slice none 0 0) (.slice none 0 0) (.slice none 0 0) 28
  rw [show (w.alloc (.cells #[.int .i64 x.d.1, .int .i64 x.d.2, .string x.p, .int .i64 x.k, .int .i64 x.vk, .int .i64 x.vn, .string x.vt, .int .i64 x.e.1, .int .i64 x.e.2] 34)).heap.size = w.heap.size + 1 by simp] at hr
  have HD := Lib.hid (hd.kept hk); have HRES := Lib.hid hr; have HK := Lib.hid hk
  have x0 := hb.c0; have x1 := hb.c1; have x2 := hb.c2; have x3 := hb.c3; have x4 := hb.c4; have x5 := hb.c5; have x6 := hb.c6; have x7 := hb.c7; have x8 := hb.c8
  clear hd hk hb hr
  go_enter Tryz.func10, Tryz.ntmps10
  go_wp2_with fail
  go_at_call 30
  refine (joined_leave x B m k G _ HD.out hm).mono ?_
  rintro e w7 ⟨A7, n7, c7, B7, m7, k7, D7, p7, q7, s7, rfl, hs7, hS7, hk7⟩
  have hres := HRES.out.kept hk7
  have e0 := hres.c0; have e1 := hres.c1; have e2 := hres.c2; have ef := hres.f
  have HF := Lib.hid (stj_put (S := LeaveS x G) (W := w) hs7 hres (Nat.le_add_right _ 1) (HK.out.trans hk7) hS7)
  clear hs7 hS7 hk7 hres
  go_wp2_with fail
  exact bodyPost_ret (by simp [results, Tryz.results10, go_sem, *]) rfl HF.out

set_option maxRecDepth 100000 in
set_option maxHeartbeats 8000000 in
theorem utake_any (d : Int × Int) (B : Option Addr) (m k : Nat) (G : List (Int × Int)) (w : World) (hd : Dl w B m k G) (hm : m ≤ 900000) :
    Calls Tryz.prog 12 #[.agg #[.int .i64 d.1, .int .i64 d.2], .slice B m k] w (StJ (TakeS d G) w) := by
  have hk := ((Kept.refl w).alloc #[.int .i64 d.1, .int .i64 d.2] 30).alloc #[.slice none 0 0, .slice none 0 0, .slice none 0 0] 28
  have hb := (Box2.new w (.int .i64 d.1) (.int .i64 d.2) 30).kept ((Kept.refl _).alloc #[.slice none 0 0, .slice none 0 0, .slice none 0 0] 28)
  have hr := Box3.new (w.alloc (.cells #[.int .i64 d.1, .int .i64 d.2] 30)) (.slice none 0 0) (.slice none 0 0) (.slice none 0 0) 28
  rw [show (w.alloc (.cells #[.int .i64 d.1, .int .i64 d.2] 30)).heap.size = w.heap.size + 1 by simp] at hr
  have HD := Lib.hid (hd.kept hk); have HRES := Lib.hid hr; have HK := Lib.hid hk
  have x0 := hb.c0; have x1 := hb.c1
  clear hd hk hb hr
  go_enter Tryz.func12, Tryz.ntmps12
  go_wp2_with fail
  go_at_call 30
  refine (joined_take ⟨d, ⟨#[]⟩, 0, 0, 0, ⟨#[]⟩, (0, 0)⟩ B m k G _ HD.out hm).mono ?_
  rintro e w7 ⟨A7, n7, c7, B7, m7, k7, D7, p7, q7, s7, rfl, hs7, hS7, hk7⟩
  have hres := HRES.out.kept hk7
  have e0 := hres.c0; have e1 := hres.c1; have e2 := hres.c2; have ef := hres.f
  have HF := Lib.hid (stj_put (S := TakeS d G) (W := w) hs7 hres (Nat.le_add_right _ 1) (HK.out.trans hk7) hS7)
  clear hs7 hS7 hk7 hres
  go_wp2_with fail
  exact bodyPost_ret (by simp [results, Tryz.results12, go_sem, *]) rfl HF.out

set_option maxRecDepth 100000 in
set_option maxHeartbeats 8000000 in
theorem uplay_any (A : Option Addr) (n c : Nat) (B : Option Addr) (m k : Nat) (D : Option Addr) (p q : Nat) (a : Sta) (A' : Option Addr) (n' c' : Nat) (B' : Option Addr) (m' k' : Nat) (D' : Option Addr) (p' q' : Nat) (b : Sta) (w : World)
    (h : Stt w A n c B m k D p q a.L a.V a.C) (h' : Stt w A' n' c' B' m' k' D' p' q' b.L b.V b.C) (ha : Ord a) (hb : Ord b) (hn : n ≤ 100000) (hp : p ≤ 100000) (hn' : n' ≤ 100000) (hp' : p' ≤ 100000) :
    Calls Tryz.prog 15 #[.agg #[.slice A n c, .slice B m k, .slice D p q], .agg #[.slice A' n' c', .slice B' m' k', .slice D' p' q']] w (StJ (Joined a b) w) := by
  have hk := ((Kept.refl w).alloc #[.slice A n c, .slice B m k, .slice D p q] 28).alloc #[.slice A' n' c', .slice B' m' k', .slice D' p' q'] 28
  have hk3 := hk.alloc #[.slice none 0 0, .slice none 0 0, .slice none 0 0] 28
  have b0 := ((Box3.new w (.slice A n c) (.slice B m k) (.slice D p q) 28).kept ((Kept.refl _).alloc #[.slice A' n' c', .slice B' m' k', .slice D' p' q'] 28)).kept ((Kept.refl _).alloc #[.slice none 0 0, .slice none 0 0, .slice none 0 0] 28)
  have b1 := (Box3.new (w.alloc (.cells #[.slice A n c, .slice B m k, .slice D p q] 28)) (.slice A' n' c') (.slice B' m' k') (.slice D' p' q') 28).kept ((Kept.refl _).alloc #[.slice none 0 0, .slice none 0 0, .slice none 0 0] 28)
  have b2 := Box3.new ((w.alloc (.cells #[.slice A n c, .slice B m k, .slice D p q] 28)).alloc (.cells #[.slice A' n' c', .slice B' m' k', .slice D' p' q'] 28)) (.slice none 0 0) (.slice none 0 0) (.slice none 0 0) 28
  rw [show (w.alloc (.cells #[.slice A n c, .slice B m k, .slice D p q] 28)).heap.size = w.heap.size + 1 by simp] at b1
  rw [show ((w.alloc (.cells #[.slice A n c, .slice B m k, .slice D p q] 28)).alloc (.cells #[.slice A' n' c', .slice B' m' k', .slice D' p' q'] 28)).heap.size = w.heap.size + 2 by simp] at b2
  have HC := Lib.hid (join_any A n c B m k D p q a A' n' c' B' m' k' D' p' q' b _ (h.kept hk3) (h'.kept hk3) ha hb hn hp hn' hp')
  have HRES := Lib.hid b2; have HK := Lib.hid hk3
  have x0 := b0.c0; have x1 := b0.c1; have x2 := b0.c2; have y0 := b1.c0; have y1 := b1.c1; have y2 := b1.c2
  clear h h' hk hk3 b0 b1 b2 hn hp hn' hp'
  go_enter Tryz.func15, Tryz.ntmps15
  go_wp2_with fail
  go_at_call 35
  refine HC.out.mono ?_
  rintro e w7 ⟨A7, n7, c7, B7, m7, k7, D7, p7, q7, s7, rfl, hs7, hS7, hk7⟩
  have hres := HRES.out.kept hk7
  have e0 := hres.c0; have e1 := hres.c1; have e2 := hres.c2; have ef := hres.f
  have HF := Lib.hid (stj_put (S := Joined a b) (W := w) hs7 hres (Nat.le_add_right _ 2) (HK.out.trans hk7) hS7)
  clear hs7 hS7 hk7 hres x0 x1 x2 y0 y1 y2
  go_wp2_with fail
  exact bodyPost_ret (by simp [results, Tryz.results15, go_sem, *]) rfl HF.out
end Go.Proofs.YtkooihljddibfaaGreat

namespace Go.Proofs.YtkooihljddibfaaGreat
open Go.RowKit
set_option linter.unusedVariables false

/-- A row of n dots that a call makes, filled up to t. -/
structure RowM (U : World) (G : Nat) (n : Nat) (L : List En) (t : Nat) (wr : World) : Prop where
  cell : ∀ j, j < n * 2 → ∃ u, wr.cell? ⟨G, j, none⟩ = some u
  fro : ∀ j, wr.frozen? ⟨G, j, none⟩ = false
  done : ∀ j x, j < t → L[j]? = some x → wr.cell? ⟨G, j * 2, none⟩ = some (.int .i64 x.d.1) ∧ wr.cell? ⟨G, j * 2 + 1, none⟩ = some (.int .i64 x.d.2)
  ke : Kept U wr
  lo : U.heap.size ≤ G
  lt : G < wr.heap.size
theorem RowM.kept {U : World} {G n : Nat} {L : List En} {t : Nat} {wr w' : World} (h : RowM U G n L t wr) (hk : Kept wr w') : RowM U G n L t w' :=
  ⟨fun j hj => (h.cell j hj).imp fun _ hu => hk.cell hu, fun j => (hk.2.1 ⟨G, j, none⟩ h.lt).trans (h.fro j), fun j x hj hx => ⟨hk.cell (h.done j x hj hx).1, hk.cell (h.done j x hj hx).2⟩, h.ke.trans hk, h.lo, Nat.lt_of_lt_of_le h.lt hk.2.2⟩
theorem RowM.set {U : World} {G n : Nat} {L : List En} {t : Nat} {wr : World} (h : RowM U G n L t wr) (ht : t < n) {x : En} (hx : L[t]? = some x) :
    RowM U G n L (t + 1) ((wr.setCell ⟨G, t * 2, none⟩ (.int .i64 x.d.1)).setCell ⟨G, t * 2 + 1, none⟩ (.int .i64 x.d.2)) := by
  obtain ⟨u0, hu0⟩ := h.cell (t * 2) (by omega)
  obtain ⟨u1, hu1⟩ := h.cell (t * 2 + 1) (by omega)
  have s0 : ((wr.setCell ⟨G, t * 2, none⟩ (.int .i64 x.d.1)).setCell ⟨G, t * 2 + 1, none⟩ (.int .i64 x.d.2)).cell? ⟨G, t * 2, none⟩ = some (.int .i64 x.d.1) := by
    rw [World.cell?_setCell_other _ _ _ _ (by intro e'; injection e'; omega)]
    exact World.cell?_setCell_same _ _ _ hu0
  have s1 : ((wr.setCell ⟨G, t * 2, none⟩ (.int .i64 x.d.1)).setCell ⟨G, t * 2 + 1, none⟩ (.int .i64 x.d.2)).cell? ⟨G, t * 2 + 1, none⟩ = some (.int .i64 x.d.2) := by
    refine World.cell?_setCell_same _ _ _ (u := u1) ?_
    rw [World.cell?_setCell_other _ _ _ _ (by intro e'; injection e'; omega)]
    exact hu1
  have so : ∀ j, j ≠ t * 2 → j ≠ t * 2 + 1 → ((wr.setCell ⟨G, t * 2, none⟩ (.int .i64 x.d.1)).setCell ⟨G, t * 2 + 1, none⟩ (.int .i64 x.d.2)).cell? ⟨G, j, none⟩ = wr.cell? ⟨G, j, none⟩ := fun j h1 h2 => by
    rw [World.cell?_setCell_other _ _ _ _ (by intro e'; injection e'; omega), World.cell?_setCell_other _ _ _ _ (by intro e'; injection e'; omega)]
  refine ⟨fun j hj => ?_, fun j => by rw [World.frozen?_setCell, World.frozen?_setCell]; exact h.fro j, fun j y hj hy => ?_, (h.ke.setCell h.lo _).setCell h.lo _, h.lo, by have := h.lt; simpa [World.setCell] using this⟩
  · by_cases e0 : j = t * 2
    · subst e0; exact ⟨_, s0⟩
    by_cases e1 : j = t * 2 + 1
    · subst e1; exact ⟨_, s1⟩
    rw [so j e0 e1]; exact h.cell j hj
  · by_cases e : j = t
    · subst e
      obtain rfl := Option.some.inj (hx.symm.trans hy)
      exact ⟨s0, s1⟩
    · rw [so _ (by omega) (by omega), so _ (by omega) (by omega)]
      exact h.done j y (by omega) hy
theorem RowM.dl {U : World} {G n : Nat} {L : List En} {wr : World} (h : RowM U G n L n wr) (hn : n = L.length) (hm : n ≤ 1000000) : Dl wr (some ⟨G, 0, none⟩) n n (L.map (·.d)) := by
  refine ⟨by rw [List.length_map]; exact hn, Nat.le_refl _, by simp only [maxLen]; omega, (fun e => by cases e), .inr ⟨G, 0, rfl, fun j d hj => ?_⟩⟩
  rw [List.getElem?_map] at hj
  obtain ⟨x, hx, rfl⟩ := Option.map_eq_some_iff.1 hj
  have := h.done j x (by have := (List.getElem?_eq_some_iff.1 hx).1; omega) hx
  rw [Nat.zero_add]
  exact this
theorem make_dots (n : Nat) (hn : n ≤ 1000000) : ∃ cs : Array Value, cs.size = n * 2 ∧
    ∀ W : World, (Instr.makeSlice 24 (.int .i64 (n : Int)) (.int .i64 (n : Int))).run Tryz.prog W = .ok (.slice (some ⟨W.heap.size, 0, none⟩) n n) (W.alloc (.cells cs 30)) := by
  obtain ⟨i0, hi0, hz0, hz1, hz2⟩ := info_parts infoDot
  refine ⟨madeCells (Value.agg #[.int .i64 0, .int .i64 0]).cells (n * 2), size_madeCells _ _, fun W => ?_⟩
  have h := run_make (P := Tryz.prog) W 24 30 i0 (.agg #[.int .i64 0, .int .i64 0]) Tryz.underlying24 hi0 hz0 .i64 .i64 (n : Int) (n : Int) (by omega) (by omega) (by rw [hz2]; omega) (by omega)
  rw [hz1, show ((n : Int)).toNat = n by omega] at h
  exact h

set_option maxRecDepth 100000 in
set_option maxHeartbeats 4000000 in
theorem dots_any (A : Option Addr) (n c : Nat) (L : List En) (w : World) (h : El w A n c L) (hn : n ≤ 1000000) :
    Calls Tryz.prog 47 #[.slice A n c] w fun e w' => ∃ G, e = .returned (.slice (some ⟨G, 0, none⟩) n n) ∧ Dl w' (some ⟨G, 0, none⟩) n n (L.map (·.d)) ∧ Kept w w' := by
  have hcap := h.cap.1; have hcap2 := h.cap.2
  have HN := Lib.hid h.1
  have HE := Lib.hid h
  obtain ⟨cs, hcs, hmk⟩ := make_dots n hn
  have HS := Lib.hid (show RowM w w.heap.size n L 0 (w.alloc (.cells cs 30)) from
    ⟨fun j hj => ⟨cs[j]'(by omega), by rw [World.cell?_alloc_new]; exact Array.getElem?_eq_getElem (by omega)⟩, fun j => by rw [frozen?_alloc_cells]; simp [World.frozen?], fun j x hj => absurd hj (by omega), (Kept.refl w).alloc _ _, Nat.le_refl _, by simp⟩)
  clear h hcs
  go_enter Tryz.func47, Tryz.ntmps47
  go_wp2
  clear hmk
  go_loopw [11] (fun i wr => ∃ t : Nat, t ≤ n ∧ i = .int .i64 t ∧ RowM w w.heap.size n L t wr) (fun i _ => n - (intOf i).toNat)
  case atStart => exact ⟨0, Nat.zero_le _, rfl, HS.out⟩
  case round =>
    obtain ⟨t, ht, rfl, hm⟩ := hrel
    have HM := Lib.hid hm
    clear hm
    by_cases hlt : t < n
    · obtain ⟨g, o, x, rfl, hx, EX⟩ := (HE.out.kept HM.out.ke).get hlt
      have x0 := EX.c0; have x1 := EX.c1; have x2 := EX.c2; have x3 := EX.c3; have x4 := EX.c4; have x5 := EX.c5; have x6 := EX.c6; have x7 := EX.c7; have x8 := EX.c8
      have hM2 := HM.out.kept ((Kept.refl wr).alloc #[.int .i64 x.d.1, .int .i64 x.d.2, .string x.p, .int .i64 x.k, .int .i64 x.vk, .int .i64 x.vn, .string x.vt, .int .i64 x.e.1, .int .i64 x.e.2] 34)
      obtain ⟨u0, g0⟩ := hM2.cell (t * 2) (by omega)
      obtain ⟨u1, g1⟩ := hM2.cell (t * 2 + 1) (by omega)
      have f0 := hM2.fro (t * 2)
      have f1 := hM2.fro (t * 2 + 1)
      have HM3 := Lib.hid (hM2.set hlt hx)
      clear EX hx hM2
      go_wp2
      go_roundw
      case rel => exact ⟨t + 1, hlt, by go_num, HM3.out⟩
      case measure => simp [intOf]; omega
    · obtain rfl : t = n := by omega
      go_wp2
      go_ret
      exact ⟨w.heap.size, rfl, HM.out.dl HN.out hn, HM.out.ke⟩
end Go.Proofs.YtkooihljddibfaaGreat

