/-
  What is proved: plain facts on the steps of the example that layer 14's laws answer: which of them fit the example's schema, and what schema comes; what is found there; what one step is put as, and taken again; no program is walked here.
  words for a step that is taken (P14.6): what both Takes hand back; a field and a value stored into a step; a whole step stored beside other memory.
  package step's alone and Put (P14.5), called with no bytes ahead and a step of bounded lengths, return the bytes that the chapter asks; the world has new blocks at most.
  package schema's next, at the types that it is asked for, and its taking of one field (P11.7), called with any text of up to 100000 bytes, return what that says; the world has new blocks at most.
-/
import Derived.Test.YtofnpifooaijcaaGreatM12
import Derived.Test.YtofnpifooaijcaaGreatM13
import Derived.Test.YtofnpifooaijcaaGreatM17
import Derived.Test.YtofnpifooaijcaaGreatM14
import Derived.Test.YtofnpifooaijcaaGreatM10
import Derived.Test.YtofnpifooaijcaaGreatM3
namespace Go.Proofs.YtofnpifooaijcaaGreat
open Go.RowKit
set_option linter.unusedVariables false
theorem CheckR.one {L M M' : List Fd} {x : St} (h : CheckR L x M) (h' : CheckR L x M') : M' = M := by
  obtain ⟨_, _, ⟨N, hN, rfl⟩, _⟩ := h
  obtain ⟨_, _, ⟨N', hN', rfl⟩, _⟩ := h'
  rw [fields_one hN hN']
def sRen (p nm : ByteArray) : St := ⟨1, p, nm, .none, .zero, 0, 0, .none⟩
def sOf (k : Int) (p nm : ByteArray) : St := ⟨k, p, nm, .none, .zero, 0, 0, .none⟩
def q1 : St := sRen ⟨#[109]⟩ ⟨#[110]⟩
def q2 : St := sOf 2 ⟨#[97, 47, 120]⟩ ⟨#[]⟩
def q3 : St := sOf 3 ⟨#[99]⟩ ⟨#[100]⟩
def q4 : St := sOf 6 ⟨#[97, 47, 120]⟩ ⟨#[]⟩
def q5 : St := sOf 7 ⟨#[97, 47, 120]⟩ ⟨#[]⟩
def q6 : St := sOf 6 ⟨#[99]⟩ ⟨#[]⟩
def q7 : St := sRen ⟨#[97, 47, 120]⟩ ⟨#[121]⟩
def ctrF : Fd := ⟨⟨#[109, 47, 107]⟩, 3, 1, 0, 0, ⟨#[]⟩⟩
def q8 : St := ⟨4, ⟨#[]⟩, ⟨#[]⟩, ctrF, .zero, 0, 0, .none⟩
def q9 : St := ⟨8, ⟨#[109, 47, 42, 47, 116]⟩, ⟨#[]⟩, .none, ⟨2, 0, ⟨#[]⟩⟩, 0, 0, .none⟩
def n4 : Fd := ⟨⟨#[110, 47, 42, 47, 116]⟩, 1, 2, 2, 0, ⟨#[]⟩⟩
def h1 : Fd := ⟨⟨#[120]⟩, 1, 1, 1, 0, ⟨#[]⟩⟩
def d3 : Fd := ⟨⟨#[100, 47, 99]⟩, 3, 1, 0, 0, ⟨#[]⟩⟩
def w1 : Fd := ⟨⟨#[97, 47, 120, 47, 42]⟩, 1, 1, 1, 0, ⟨#[]⟩⟩
def t4 : Fd := ⟨⟨#[109, 47, 42, 47, 116]⟩, 2, 2, 0, 0, ⟨#[]⟩⟩
def M1 : List Fd := [x1, x2, x3, n4]
def M2 : List Fd := [x2, x3, x4, h1]
def M3 : List Fd := [x1, x2, d3, x4]
def M4 : List Fd := [w1, x2, x3, x4]
def M8 : List Fd := [x1, x2, x3, x4, ctrF]
def M9 : List Fd := [x1, x2, x3, t4]
theorem M1_ok : ScOk M1 := ⟨by decide, of_decide_eq_true (by kernel_rfl), of_decide_eq_true (by kernel_rfl), of_decide_eq_true (by kernel_rfl)⟩
theorem M2_ok : ScOk M2 := ⟨by decide, of_decide_eq_true (by kernel_rfl), of_decide_eq_true (by kernel_rfl), of_decide_eq_true (by kernel_rfl)⟩
theorem M3_ok : ScOk M3 := ⟨by decide, of_decide_eq_true (by kernel_rfl), of_decide_eq_true (by kernel_rfl), of_decide_eq_true (by kernel_rfl)⟩
theorem M4_ok : ScOk M4 := ⟨by decide, of_decide_eq_true (by kernel_rfl), of_decide_eq_true (by kernel_rfl), of_decide_eq_true (by kernel_rfl)⟩
theorem M9_ok : ScOk M9 := ⟨by decide, of_decide_eq_true (by kernel_rfl), of_decide_eq_true (by kernel_rfl), of_decide_eq_true (by kernel_rfl)⟩
theorem ck1 : CheckR smL q1 M1 := by
  refine ⟨.inl ⟨rfl, by kernel_rfl, by kernel_rfl, of_decide_eq_true (by kernel_rfl), of_decide_eq_true (by kernel_rfl)⟩, smL_ok, ⟨smL.map (moveF q1), .inl ⟨.inl rfl, ⟨x4, by simp [smL], of_decide_eq_true (by kernel_rfl)⟩, of_decide_eq_true (by kernel_rfl), rfl⟩, by kernel_rfl⟩, M1_ok⟩
theorem ck2 : CheckR smL q2 M2 := by
  refine ⟨.inr (.inl ⟨rfl, by kernel_rfl, of_decide_eq_true (by kernel_rfl), of_decide_eq_true (by kernel_rfl)⟩), smL_ok, ⟨smL.map (moveF q2), .inl ⟨.inr (.inl rfl), ⟨x1, by simp [smL], of_decide_eq_true (by kernel_rfl)⟩, of_decide_eq_true (by kernel_rfl), rfl⟩, by kernel_rfl⟩, M2_ok⟩
theorem ck3 : CheckR smL q3 M3 := by
  refine ⟨.inr (.inr (.inl ⟨rfl, by kernel_rfl, by kernel_rfl⟩)), smL_ok, ⟨smL.map (moveF q3), .inl ⟨.inr (.inr rfl), ⟨x3, by simp [smL], of_decide_eq_true (by kernel_rfl)⟩, of_decide_eq_true (by kernel_rfl), rfl⟩, by kernel_rfl⟩, M3_ok⟩
theorem ck4 : CheckR smL q4 M4 := by
  refine ⟨.inr (.inr (.inr (.inr (.inl ⟨.inl rfl, by kernel_rfl⟩)))), smL_ok, ⟨w1 :: [x2, x3, x4], .inr (.inr (.inr ⟨by decide, [], x1, [x2, x3, x4], w1, rfl, (fun h hh => by cases hh), by kernel_rfl, .inl ⟨rfl, rfl, by kernel_rfl⟩, rfl⟩)), by kernel_rfl⟩, M4_ok⟩
theorem ck5 : CheckR M4 q5 smL := by
  refine ⟨.inr (.inr (.inr (.inr (.inl ⟨.inr (.inl rfl), by kernel_rfl⟩)))), M4_ok, ⟨x1 :: [x2, x3, x4], .inr (.inr (.inr ⟨by decide, [], w1, [x2, x3, x4], x1, rfl, (fun h hh => by cases hh), by kernel_rfl, .inr (.inl ⟨rfl, rfl, by kernel_rfl⟩), rfl⟩)), by kernel_rfl⟩, smL_ok⟩
theorem ck6 (M : List Fd) : ¬ CheckR smL q6 M := fun ⟨_, _, ⟨N, hN, _⟩, _⟩ =>
  fr6_ne (t := 2) (y := x3) (by decide) (by decide) rfl (by kernel_rfl) (fun z hz => by
    simp only [smL, List.take_succ_cons, List.take_zero, List.mem_cons, List.not_mem_nil, or_false] at hz
    rcases hz with rfl | rfl <;> exact of_decide_eq_true (by kernel_rfl)) (fun h => by unfold LeafP at h; revert h; decide) N hN
theorem ck7 (M : List Fd) : ¬ CheckR smL q7 M := fun ⟨_, _, ⟨N, hN, _⟩, _⟩ => by
  rcases hN with ⟨_, _, h, _⟩ | ⟨h, _⟩ | ⟨h, _⟩ | ⟨h, _⟩
  · exact h x2 (by simp [smL]) (of_decide_eq_true (by kernel_rfl)) (of_decide_eq_true (by kernel_rfl))
  · revert h; decide
  · revert h; decide
  · revert h; decide
theorem of8 : ofF (smL ++ [ctrF]) = M8 := by kernel_rfl
theorem ck8 (M : List Fd) : ¬ CheckR smL q8 M := fun ⟨_, _, ⟨N, hN, hM⟩, hok⟩ => by
  rcases hN with ⟨h, _⟩ | ⟨_, rfl⟩ | ⟨h, _⟩ | ⟨h, _⟩
  · rcases h with h | h | h <;> (revert h; decide)
  · rw [hM, show smL ++ [q8.f] = smL ++ [ctrF] from rfl, of8] at hok
    exact scOk_apart (k := 3) (t := 4) (y := x4) (x := ctrF) rfl rfl (by decide) (by kernel_rfl) hok
  · revert h; decide
  · revert h; decide
theorem ck9 : CheckR smL q9 M9 := by
  refine ⟨.inr (.inr (.inr (.inr (.inl ⟨.inr (.inr (.inl rfl)), by kernel_rfl⟩)))), smL_ok, ⟨[x1, x2, x3] ++ t4 :: [], .inr (.inr (.inr ⟨by decide, [x1, x2, x3], x4, [], t4, rfl, ?_, by kernel_rfl, .inr (.inr (.inl ⟨rfl, rfl, rfl, by kernel_rfl⟩)), rfl⟩)), by kernel_rfl⟩, M9_ok⟩
  intro h hh
  simp only [List.mem_cons, List.not_mem_nil, or_false] at hh
  rcases hh with rfl | rfl | rfl <;> exact of_decide_eq_true (by kernel_rfl)
theorem aw_n1 : findR M1 ⟨#[110, 47, 107, 47, 116]⟩ = (n4, true) := by kernel_rfl
theorem aw_n2 : findR M2 ⟨#[120]⟩ = (h1, true) := by kernel_rfl
theorem aw_n3 : findR M3 ⟨#[100, 47, 99]⟩ = (d3, true) := by kernel_rfl
theorem aw_n9 : findR M9 ⟨#[109, 47, 49, 47, 116]⟩ = (t4, true) := by kernel_rfl
def bQ : ByteArray := putSt q9
def bZ : ByteArray := bQ ++ ⟨#[122]⟩
theorem bZ_size : bZ.size ≤ 100000 := Nat.le_of_ble_eq_true (by kernel_rfl)
theorem bZ1 : gP bZ = (q9.p, (gP bZ).2.1, 0) := by kernel_rfl
theorem bZ2 : gN bZ = (⟨#[]⟩, (gN bZ).2.1, 0) := by kernel_rfl
theorem bZ3 : gF bZ = (.none, (gN bZ).2.1.extract noF.size (gN bZ).2.1.size, 0) := fdL_pre (of_decide_eq_true (by kernel_rfl))
def bR : ByteArray := (gN bZ).2.1.extract noF.size (gN bZ).2.1.size
theorem bZ4 : gD bZ = (q9.d, (tvF bR).2.1, 0) := by unfold gD; rw [bZ3]; show tvF bR = _; kernel_rfl
def bR2 : ByteArray := (tvF bR).2.1
theorem bZ5 : gA bZ = (0, (tkI bR2).2.1, 0) := by unfold gA; rw [bZ4]; show tkI bR2 = _; kernel_rfl
def bR3 : ByteArray := (tkI bR2).2.1
theorem bZ6 : gB bZ = (0, (tkI bR3).2.1, 0) := by unfold gB; rw [bZ5]; show tkI bR3 = _; kernel_rfl
def bR4 : ByteArray := (tkI bR3).2.1
theorem bZ7 : gT bZ = (.none, ⟨#[122]⟩, 0) := by unfold gT; rw [bZ6]; show ttbL bR4 = _; kernel_rfl
theorem aw_take14 : stL bZ = (q9, ⟨#[122]⟩, 0) := by
  have k1 : tkE bZ = 0 := by kernel_rfl
  have k2 : tkN bZ = 8 := by kernel_rfl
  have hE : gE bZ = 0 := by
    unfold gE
    rw [k1, k2, bZ1, bZ2, bZ3, bZ4, bZ5, bZ6, bZ7]
    rfl
  unfold stL
  rw [hE, if_neg (by simp), k2, bZ1, bZ2, bZ3, bZ4, bZ5, bZ6, bZ7]
  rfl
def qT : St := sRen ⟨#[97, 47, 98]⟩ ⟨#[99]⟩
theorem aw_move14 : moveS q1 ⟨#[109, 47, 42, 47, 116]⟩ = ⟨#[110, 47, 42, 47, 116]⟩ := by kernel_rfl
def TakeE (s : ByteArray) (w : World) (e : Ending) (w' : World) : Prop :=
  ∃ (A : Option Addr) (n c : Nat), e = .returned (.tuple #[.agg (cellS A n c (stL s).1).toArray, .string (stL s).2.1, .int .i64 ((stL s).2.2 : Int)]) ∧ Pal w' A n c (stL s).1.T.L ∧ Kept w w'
theorem takeE_err {s : ByteArray} {z : Nat} (h : stL s = (St.zero, ⟨#[]⟩, z)) {w w' : World} (hk : Kept w w') : TakeE s w (.returned (.tuple #[.agg (cellS none 0 0 St.zero).toArray, .string ⟨#[]⟩, .int .i64 (z : Int)])) w' := by
  unfold TakeE
  rw [h]
  exact ⟨none, 0, 0, rfl, Pal.nil _, hk⟩
theorem takeE_ok {s r : ByteArray} {x : St} (h : stL s = (x, r, 0)) {w w' : World} {A : Option Addr} {n c : Nat} (hp : Pal w' A n c x.T.L) (hk : Kept w w') : TakeE s w (.returned (.tuple #[.agg (cellS A n c x).toArray, .string r, .int .i64 0])) w' := by
  unfold TakeE
  rw [h]
  exact ⟨A, n, c, rfl, hp, hk⟩
theorem KeptE.setCells {G : Nat} {W : World} : ∀ (vs : List Value) (o : Nat) (w : World), KeptE G W w → KeptE G W (w.setCells G o vs)
  | [], _, _, h => h
  | v :: r, o, w, h => by rw [World.setCells]; exact KeptE.setCells r (o + 1) _ (h.set (a := ⟨G, o, none⟩) (.inl rfl) v)
theorem NumO.le {most above : Nat} {r : ByteArray} {z v : Nat} {r' : ByteArray} {z' : Nat} (h : NumO most above r z v r' z') : v ≤ most := by
  rcases h with ⟨_, _, rfl, _, _⟩ | ⟨_, h, rfl, _, _⟩ | ⟨_, rfl, _, _⟩
  · exact Nat.zero_le _
  · exact h
  · exact Nat.zero_le _
theorem NumO.sz {most above : Nat} {r : ByteArray} {z v : Nat} {r' : ByteArray} {z' : Nat} (h : NumO most above r z v r' z') : r'.size ≤ r.size := by
  rcases h with ⟨_, _, _, rfl, _⟩ | ⟨_, _, _, rfl, _⟩ | ⟨_, _, rfl, _⟩
  · exact Nat.zero_le _
  · exact tkR_size r
  · exact Nat.le_refl _
theorem StB.setFd {w : World} {bl : Nat} {A : Option Addr} {n c : Nat} {x : St} (h : StB w bl A n c x) (f : Fd) :
    StB (World.setCell (World.setCell (World.setCell (World.setCell (World.setCell (World.setCell w ⟨bl, 3, none⟩ (.string f.p)) ⟨bl, 4, none⟩ (.int .i64 f.k)) ⟨bl, 5, none⟩ (.int .i64 f.t)) ⟨bl, 6, none⟩ (.int .i64 f.vk)) ⟨bl, 7, none⟩ (.int .i64 f.vn)) ⟨bl, 8, none⟩ (.string f.vt)) bl A n c { x with f := f } :=
  (((((h.setAt (i := 3) (y := { x with f := ⟨f.p, x.f.k, x.f.t, x.f.vk, x.f.vn, x.f.vt⟩ }) (A' := A) (n' := n) (c' := c) (by decide) rfl).setAt (i := 4) (y := { x with f := ⟨f.p, f.k, x.f.t, x.f.vk, x.f.vn, x.f.vt⟩ }) (A' := A) (n' := n) (c' := c) (by decide) rfl).setAt (i := 5) (y := { x with f := ⟨f.p, f.k, f.t, x.f.vk, x.f.vn, x.f.vt⟩ }) (A' := A) (n' := n) (c' := c) (by decide) rfl).setAt (i := 6) (y := { x with f := ⟨f.p, f.k, f.t, f.vk, x.f.vn, x.f.vt⟩ }) (A' := A) (n' := n) (c' := c) (by decide) rfl).setAt (i := 7) (y := { x with f := ⟨f.p, f.k, f.t, f.vk, f.vn, x.f.vt⟩ }) (A' := A) (n' := n) (c' := c) (by decide) rfl).setAt (i := 8) (y := { x with f := f }) (A' := A) (n' := n) (c' := c) (by decide) rfl
theorem StB.setDf {w : World} {bl : Nat} {A : Option Addr} {n c : Nat} {x : St} (h : StB w bl A n c x) (d : Va) :
    StB (World.setCell (World.setCell (World.setCell w ⟨bl, 9, none⟩ (.int .i64 d.k)) ⟨bl, 10, none⟩ (.int .i64 d.n)) ⟨bl, 11, none⟩ (.string d.t)) bl A n c { x with d := d } :=
  ((h.setAt (i := 9) (y := { x with d := ⟨d.k, x.d.n, x.d.t⟩ }) (A' := A) (n' := n) (c' := c) (by decide) rfl).setAt (i := 10) (y := { x with d := ⟨d.k, d.n, x.d.t⟩ }) (A' := A) (n' := n) (c' := c) (by decide) rfl).setAt (i := 11) (y := { x with d := d }) (A' := A) (n' := n) (c' := c) (by decide) rfl
set_option maxRecDepth 100000 in
set_option maxHeartbeats 16000000 in
theorem salone_put (x : Fd) (w : World) (hf : FdS x) (r : ByteArray) (hr : putSc ⟨#[]⟩ [x] = r) :
    Calls Tryz.prog 66 #[.agg #[.string x.p, .int .i64 x.k, .int .i64 x.t, .int .i64 x.vk, .int .i64 x.vn, .string x.vt]] w fun e w' => e = .returned (.string r) ∧ Kept w w' := by
  have hk := (Kept.refl w).alloc #[.string x.p, .int .i64 x.k, .int .i64 x.t, .int .i64 x.vk, .int .i64 x.vn, .string x.vt] 28
  have HB := Lib.hid (FdB.new w x 28)
  obtain ⟨U, hU⟩ : ∃ U, w.alloc (.cells #[.string x.p, .int .i64 x.k, .int .i64 x.t, .int .i64 x.vk, .int .i64 x.vn, .string x.vt] 28) = U := ⟨_, rfl⟩
  rw [hU] at hk HB
  have hk2 := (Kept.refl U).alloc #[.string x.p, .int .i64 x.k, .int .i64 x.t, .int .i64 x.vk, .int .i64 x.vn, .string x.vt] 28
  have A1 := Lib.hid (sput_any ⟨#[]⟩ (some ⟨U.heap.size, 0, none⟩) 1 1 [x] (U.alloc (.cells #[.string x.p, .int .i64 x.k, .int .i64 x.t, .int .i64 x.vk, .int .i64 x.vn, .string x.vt] 28)) (fl_one (FdB.new U x 28)) (by decide) (fun y hy => by rw [List.mem_singleton] at hy; subst hy; exact hf) (by decide))
  have HR := Lib.hid hr; have HK := Lib.hid (hk.trans hk2); have HUU := Lib.hid hU
  clear hk hk2 hU hf hr
  have c0 := HB.out.c0; have c1 := HB.out.c1; have c2 := HB.out.c2; have c3 := HB.out.c3; have c4 := HB.out.c4; have c5 := HB.out.c5
  go_enter Tryz.func66, Tryz.ntmps66
  go_wp2_with (rw [HUU.out])
  go_at_call 119
  refine A1.out.mono ?_
  rintro e w1 ⟨rfl, hk1⟩
  have HK1 := Lib.hid (HK.out.trans hk1)
  clear hk1
  go_wp2_with fail
  go_ret
  exact ⟨congrArg (fun z => Ending.returned (Value.string z)) HR.out, HK1.out⟩
set_option maxRecDepth 100000 in
set_option maxHeartbeats 16000000 in
theorem sput_step (A : Option Addr) (n c : Nat) (x : St) (w : World) (h : Pal w A n c x.T.L) (hx : StP x) (r : ByteArray) (hr : putSt x = r) :
    Calls Tryz.prog 20 #[.string ⟨#[]⟩, .agg (cellS A n c x).toArray] w fun e w' => e = .returned (.string r) ∧ Kept w w' := by
  obtain ⟨z1, z2, z3, z4, z5, z6, z7⟩ := pS_sizes hx
  obtain ⟨m, hm, hm16⟩ : ∃ m : Nat, x.k % 16 = (m : Int) ∧ m < 16 := ⟨(x.k % 16).toNat, by omega, by omega⟩
  have hand := i64_and15 x.k
  have hw : IntKind.u64.wrap (m : Int) = (m : Int) := by rw [IntKind.wrap_u64]; omega
  obtain ⟨b1, hb1⟩ : ∃ b, pS1 x = b := ⟨_, rfl⟩
  obtain ⟨b2, hb2⟩ : ∃ b, pS2 x = b := ⟨_, rfl⟩
  obtain ⟨b3, hb3⟩ : ∃ b, pS3 x = b := ⟨_, rfl⟩
  obtain ⟨b4, hb4⟩ : ∃ b, pS4 x = b := ⟨_, rfl⟩
  obtain ⟨b5, hb5⟩ : ∃ b, pS5 x = b := ⟨_, rfl⟩
  obtain ⟨b6, hb6⟩ : ∃ b, pS6 x = b := ⟨_, rfl⟩
  obtain ⟨b7, hb7⟩ : ∃ b, pS7 x = b := ⟨_, rfl⟩
  have e1 : (⟨#[]⟩ : ByteArray) ++ putS m = b1 := by rw [← hb1]; unfold pS1; rw [show (x.k % 16).toNat = m by omega]
  have e2 : b1 ++ putS x.p.size ++ x.p = b2 := by rw [← hb1, ← hb2]; rfl
  have e3 : b2 ++ putS x.nm.size ++ x.nm = b3 := by rw [← hb2, ← hb3]; rfl
  have e4 : putSc b3 [x.f] = b4 := by rw [← hb3, ← hb4]; rfl
  have e5 : putV b4 x.d.k x.d.n x.d.t = b5 := by rw [← hb4, ← hb5]; rfl
  have e6 : b5 ++ putS (zigI x.a).toNat = b6 := by rw [← hb5, ← hb6]; rfl
  have e7 : b6 ++ putS (zigI x.b).toNat = b7 := by rw [← hb6, ← hb7]; rfl
  have e8 : putTb b7 x.T = r := by rw [← hb7]; exact hr
  rw [hb1] at z1; rw [hb2] at z2; rw [hb3] at z3; rw [hb4] at z4; rw [hb5] at z5; rw [hb6] at z6; rw [hb7] at z7
  obtain ⟨f1, hf1⟩ : ∃ b, putSc ⟨#[]⟩ [x.f] = b := ⟨_, rfl⟩
  have e34 : b3 ++ f1 = b4 := by rw [← hf1, putSc_one, e4]
  have f1z : f1.size ≤ 1070 := by rw [← hf1]; exact one_size hx.f ⟨#[]⟩
  have A1 := Lib.hid (fun w => calls_str (put9 ⟨#[]⟩ m m rfl w (by omega) (by decide)) e1)
  have A2 := Lib.hid (fun w => calls_str (text_any b1 x.p w (by omega) (by have := hx.p; omega)) e2)
  have A3 := Lib.hid (fun w => calls_str (text_any b2 x.nm w (by omega) (by have := hx.nm; omega)) e3)
  have A4 := Lib.hid (fun w => salone_put x.f w hx.f f1 hf1)
  have E34 := Lib.hid e34
  have HX4 := Lib.hid (show ¬ 9223372036854775807 < b3.size + f1.size by omega)
  have ER := Lib.hid (show (⟨#[]⟩ : ByteArray) ++ r = r by rw [ba_nil])
  have hrz : r.size ≤ 1000000 := by rw [← e8]; exact tb_size hx.T b7 (by omega)
  clear e34 hf1
  have A5 := Lib.hid (fun w => calls_str (vput_any b4 x.d.k x.d.n x.d.t w hx.d.lo hx.d.hi (by omega) (by have := hx.d.t; omega)) e5)
  have A6 := Lib.hid (fun w => calls_str (int_any b5 x.a w hx.alo hx.ahi (by omega)) e6)
  have A7 := Lib.hid (fun w => calls_str (int_any b6 x.b w hx.blo hx.bhi (by omega)) e7)
  have A8 := Lib.hid (fun w h => htput_any b7 A n c x.T w h hx.T (by omega) r e8)
  have hk := (Kept.refl w).alloc (cellS A n c x).toArray 33
  have HS := Lib.hid (StB.new w A n c x 33)
  obtain ⟨U, hU⟩ : ∃ U, w.alloc (.cells (cellS A n c x).toArray 33) = U := ⟨_, rfl⟩
  rw [hU] at hk HS
  have HK := Lib.hid hk; have HUU := Lib.hid hU; have HP := Lib.hid (h.kept hk)
  clear hk hU h hx hr z1 z2 z3 z4 z5 z6 z7 hb1 hb2 hb3 hb4 hb5 hb6 hb7 e1 e2 e3 e4 e5 e6 e7 e8
  rw [hm] at hand
  clear hm
  have c0 := HS.out.c0
  go_enter Tryz.func20, Tryz.ntmps20
  go_wp2_with (rw [HUU.out])
  go_at_call 64
  refine (A1.out _).mono ?_
  rintro e u1 ⟨rfl, hk⟩
  replace HK := Lib.hid (HK.out.trans hk); replace HS := Lib.hid (HS.out.kept hk); replace HP := Lib.hid (HP.out.kept hk)
  clear hk c0
  have c1 := HS.out.c1
  go_wp2_with fail
  go_at_call 65
  refine (A2.out _).mono ?_
  rintro e u2 ⟨rfl, hk⟩
  replace HK := Lib.hid (HK.out.trans hk); replace HS := Lib.hid (HS.out.kept hk); replace HP := Lib.hid (HP.out.kept hk)
  clear hk c1
  have c2 := HS.out.c2
  go_wp2_with fail
  go_at_call 65
  refine (A3.out _).mono ?_
  rintro e u3 ⟨rfl, hk⟩
  replace HK := Lib.hid (HK.out.trans hk); replace HS := Lib.hid (HS.out.kept hk); replace HP := Lib.hid (HP.out.kept hk)
  clear hk c2
  have c3 := HS.out.c3; have c4 := HS.out.c4; have c5 := HS.out.c5; have c6 := HS.out.c6; have c7 := HS.out.c7; have c8 := HS.out.c8
  go_wp2_with fail
  go_at_call 66
  refine (A4.out _).mono ?_
  rintro e u4 ⟨rfl, hk⟩
  replace HK := Lib.hid (HK.out.trans hk); replace HS := Lib.hid (HS.out.kept hk); replace HP := Lib.hid (HP.out.kept hk)
  clear hk c3 c4 c5 c6 c7 c8
  have hx4 := HX4.out
  have c9 := HS.out.c9; have c10 := HS.out.c10; have c11 := HS.out.c11
  have e34 := E34.out
  go_wp2_with fail
  clear hx4 e34
  go_at_call 67
  refine (A5.out _).mono ?_
  rintro e u5 ⟨rfl, hk⟩
  replace HK := Lib.hid (HK.out.trans hk); replace HS := Lib.hid (HS.out.kept hk); replace HP := Lib.hid (HP.out.kept hk)
  clear hk c9 c10 c11
  have c12 := HS.out.c12
  go_wp2_with fail
  go_at_call 68
  refine (A6.out _).mono ?_
  rintro e u6 ⟨rfl, hk⟩
  replace HK := Lib.hid (HK.out.trans hk); replace HS := Lib.hid (HS.out.kept hk); replace HP := Lib.hid (HP.out.kept hk)
  clear hk c12
  have c13 := HS.out.c13
  go_wp2_with fail
  go_at_call 68
  refine (A7.out _).mono ?_
  rintro e u7 ⟨rfl, hk⟩
  replace HK := Lib.hid (HK.out.trans hk); replace HS := Lib.hid (HS.out.kept hk); replace HP := Lib.hid (HP.out.kept hk)
  clear hk c13
  have c14 := HS.out.c14; have c15 := HS.out.c15; have c16 := HS.out.c16; have c17 := HS.out.c17; have c18 := HS.out.c18; have c19 := HS.out.c19; have c20 := HS.out.c20; have c21 := HS.out.c21; have c22 := HS.out.c22
  go_wp2_with fail
  go_at_call 69
  refine (A8.out _ HP.out).mono ?_
  rintro e u8 ⟨rfl, hk⟩
  replace HK := Lib.hid (HK.out.trans hk); replace HS := Lib.hid (HS.out.kept hk); replace HP := Lib.hid (HP.out.kept hk)
  clear hk c14 c15 c16 c17 c18 c19 c20 c21 c22
  go_wp2_with fail
  go_ret
  exact ⟨congrArg (fun z => Ending.returned (Value.string z)) ER.out, HK.out⟩
end Go.Proofs.YtofnpifooaijcaaGreat
