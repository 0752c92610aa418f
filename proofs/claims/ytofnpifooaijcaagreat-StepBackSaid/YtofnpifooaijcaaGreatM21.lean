/-
  What is proved: package source's Next, at fields, with package step's takeField, called with what is taken so far, takes the next part, or nothing behind an error; the world has new blocks at most, and what is left to take has changed.
  plain facts and words on the taking of tables (P13.7), part by part with the first error kept; no program is spoken of here.
  package source's Number, and Next at values, as package table's Take calls them, take the next part, or nothing behind an error; the world has new blocks at most, and what is left to take has changed.
-/
import Derived.Test.YtofnpifooaijcaaGreatM20
import Derived.Test.YtofnpifooaijcaaGreatM13
import Derived.Test.YtofnpifooaijcaaGreatM10
import Derived.Test.YtofnpifooaijcaaGreatM17
namespace Go.Proofs.YtofnpifooaijcaaGreat
open Go.RowKit
set_option linter.unusedVariables false
theorem FdB.zero (w : World) (ty : TypeId) : FdB (w.alloc (.cells #[.string ⟨#[]⟩, .int .i64 0, .int .i64 0, .int .i64 0, .int .i64 0, .string ⟨#[]⟩] ty)) w.heap.size .none := FdB.new w .none ty
set_option maxRecDepth 100000 in
set_option maxHeartbeats 16000000 in
theorem nextF_any (w : World) (b o : Nat) (r : ByteArray) (z : Nat) (T : SouO w b o r z) (v : Fd) (r' : ByteArray) (z' : Nat) (h : NxR Fd.none fdL r z v r' z') (hs : r.size ≤ 100000) :
    Calls Tryz.prog 38 #[.pointer (some ⟨b, o, none⟩), .func (.func 39) #[] #[]] w fun e w' => e = .returned (.agg #[.string v.p, .int .i64 v.k, .int .i64 v.t, .int .i64 v.vk, .int .i64 v.vn, .string v.vt]) ∧ SouP w w' b o r' z' := by
  have hb := T.lt
  have K1 := (Kept.refl w).alloc #[.string ⟨#[]⟩, .int .i64 0, .int .i64 0, .int .i64 0, .int .i64 0, .string ⟨#[]⟩] 28
  have K2 := K1.alloc #[.string ⟨#[]⟩, .int .i64 0, .int .i64 0, .int .i64 0, .int .i64 0, .string ⟨#[]⟩] 28
  have T2 := T.kept K2
  have HB := Lib.hid hb
  have n1 : w.heap.size ≠ b := by omega
  have n3 : w.heap.size + 1 ≠ b := by omega
  have n4 : ¬ b = w.heap.size := by omega
  have n5 : ¬ b = w.heap.size + 1 := by omega
  have hz1 : (w.alloc (.cells #[.string ⟨#[]⟩, .int .i64 0, .int .i64 0, .int .i64 0, .int .i64 0, .string ⟨#[]⟩] 28)).heap.size = w.heap.size + 1 := by simp
  have b1 := (FdB.zero w 28).kept ((Kept.refl _).alloc #[.string ⟨#[]⟩, .int .i64 0, .int .i64 0, .int .i64 0, .int .i64 0, .string ⟨#[]⟩] 28)
  have b2 := FdB.zero (w.alloc (.cells #[.string ⟨#[]⟩, .int .i64 0, .int .i64 0, .int .i64 0, .int .i64 0, .string ⟨#[]⟩] 28)) 28
  rw [hz1] at b2
  obtain ⟨U, hU⟩ : ∃ U, (w.alloc (.cells #[.string ⟨#[]⟩, .int .i64 0, .int .i64 0, .int .i64 0, .int .i64 0, .string ⟨#[]⟩] 28)).alloc (.cells #[.string ⟨#[]⟩, .int .i64 0, .int .i64 0, .int .i64 0, .int .i64 0, .string ⟨#[]⟩] 28) = U := ⟨_, rfl⟩
  rw [hU] at K2 T2 b1 b2
  have HT := Lib.hid T2; have HK2 := Lib.hid K2; have HUU := Lib.hid hU; have HB1 := Lib.hid b1; have HB2 := Lib.hid b2
  have c1 := T2.c1
  clear T T2 K1 K2 hb hz1 hU b1 b2
  rcases h with ⟨rfl, h1⟩ | ⟨hz, rfl, rfl, rfl⟩
  · have A1 := Lib.hid (fun w => sfield_any r w (by omega) v r' z' h1)
    clear h1 hs
    have c0 := HT.out.c0
    go_enter Tryz.func38, Tryz.ntmps38
    go_wp2_with (rw [HUU.out])
    go_at_call 39
    refine (A1.out _).mono ?_
    rintro e w1 ⟨rfl, hg⟩
    have hp := (SouP.of HT.out hg).first HK2.out HB.out
    have HP := Lib.hid hp
    replace HB1 := Lib.hid (HB1.out.kept hg); replace HB2 := Lib.hid (HB2.out.kept hg)
    clear hp hg c0 c1
    have d0 := HP.out.s.c0; have d1 := HP.out.s.c1; have df := HP.out.s.f
    have q0 := HB2.out.c0; have q1 := HB2.out.c1; have q2 := HB2.out.c2; have q3 := HB2.out.c3; have q4 := HB2.out.c4; have q5 := HB2.out.c5; have qf := HB2.out.f
    have p0 := HB1.out.c0; have p1 := HB1.out.c1; have p2 := HB1.out.c2; have p3 := HB1.out.c3; have p4 := HB1.out.c4; have p5 := HB1.out.c5; have pf := HB1.out.f
    go_wp2_with fail
    refine bodyPost_ret (by simp [results, Tryz.results38, go_sem, *]) rfl ⟨rfl, ((((((((((((((HP.out.far (g := w.heap.size + 1) (Nat.le_succ _) _).far (g := w.heap.size + 1) (Nat.le_succ _) _).far (g := w.heap.size + 1) (Nat.le_succ _) _).far (g := w.heap.size + 1) (Nat.le_succ _) _).far (g := w.heap.size + 1) (Nat.le_succ _) _).far (g := w.heap.size + 1) (Nat.le_succ _) _).set0 r').set1 z').far (g := w.heap.size) (Nat.le_refl _) _).far (g := w.heap.size) (Nat.le_refl _) _).far (g := w.heap.size) (Nat.le_refl _) _).far (g := w.heap.size) (Nat.le_refl _) _).far (g := w.heap.size) (Nat.le_refl _) _).far (g := w.heap.size) (Nat.le_refl _) _)⟩
  · have e0 : (((z' : Nat) : Int) == 0) = false := by simp; omega
    clear hz hs
    have q0 := HB2.out.c0; have q1 := HB2.out.c1; have q2 := HB2.out.c2; have q3 := HB2.out.c3; have q4 := HB2.out.c4; have q5 := HB2.out.c5; have qf := HB2.out.f
    have p0 := HB1.out.c0; have p1 := HB1.out.c1; have p2 := HB1.out.c2; have p3 := HB1.out.c3; have p4 := HB1.out.c4; have p5 := HB1.out.c5; have pf := HB1.out.f
    go_enter Tryz.func38, Tryz.ntmps38
    go_wp2_with (rw [HUU.out])
    refine bodyPost_ret (by simp [results, Tryz.results38, go_sem, Fd.none, *]) rfl ⟨rfl, ((((((((SouP.of HT.out (Kept.refl _)).first HK2.out HB.out).far (g := w.heap.size) (Nat.le_refl _) _).far (g := w.heap.size) (Nat.le_refl _) _).far (g := w.heap.size) (Nat.le_refl _) _).far (g := w.heap.size) (Nat.le_refl _) _).far (g := w.heap.size) (Nat.le_refl _) _).far (g := w.heap.size) (Nat.le_refl _) _)⟩
structure Sou (w : World) (b : Nat) (r : ByteArray) (z : Nat) : Prop where
  c0 : w.cell? ⟨b, 0, none⟩ = some (.string r)
  c1 : w.cell? ⟨b, 1, none⟩ = some (.int .i64 (z : Int))
  f : ∀ i, w.frozen? ⟨b, i, none⟩ = false
  lt : b < w.heap.size
theorem Sou.kept {w w' : World} {b : Nat} {r : ByteArray} {z : Nat} (h : Sou w b r z) (hg : Kept w w') : Sou w' b r z :=
  ⟨hg.cell h.c0, hg.cell h.c1, fun i => (hg.2.1 ⟨b, i, none⟩ h.lt).trans (h.f i), Nat.lt_of_lt_of_le h.lt hg.2.2⟩
theorem Sou.keptE {G : Nat} {w w' : World} {b : Nat} {r : ByteArray} {z : Nat} (h : Sou w b r z) (k : KeptE G w w') (hb : b ≠ G) : Sou w' b r z :=
  ⟨k.cell hb h.c0, k.cell hb h.c1, fun i => k.froz hb h.lt (h.f i), Nat.lt_of_lt_of_le h.lt k.size⟩
theorem cell_offT {w : World} {b b' i j : Nat} {v u : Value} (hb : b ≠ b') (h : w.cell? ⟨b', j, none⟩ = some u) : (w.setCell ⟨b, i, none⟩ v).cell? ⟨b', j, none⟩ = some u := by
  rw [World.cell?_setCell_other _ _ _ _ (fun e => hb (by cases e; rfl))]; exact h
theorem Sou.far {w : World} {b g i : Nat} {r : ByteArray} {z : Nat} (h : Sou w b r z) (hne : g ≠ b) (v : Value) : Sou (w.setCell ⟨g, i, none⟩ v) b r z :=
  ⟨cell_offT hne h.c0, cell_offT hne h.c1, fun i => by rw [World.frozen?_setCell]; exact h.f i, by have := h.lt; simpa [World.setCell] using this⟩
def NumR (most : Nat) (above : Nat) (r : ByteArray) (z : Nat) (v : Nat) (r' : ByteArray) (z' : Nat) : Prop :=
  (z = 0 ∧ most < tkN r ∧ v = 0 ∧ r' = ⟨#[]⟩ ∧ z' = above) ∨ (z = 0 ∧ tkN r ≤ most ∧ v = tkN r ∧ r' = tkR r ∧ z' = tkE r) ∨ (z ≠ 0 ∧ v = 0 ∧ r' = r ∧ z' = z)
theorem numR_ex (most above : Nat) (r : ByteArray) (z : Nat) : ∃ v r' z', NumR most above r z v r' z' := by
  by_cases hz : z = 0
  · by_cases h : most < tkN r
    · exact ⟨_, _, _, .inl ⟨hz, h, rfl, rfl, rfl⟩⟩
    · exact ⟨_, _, _, .inr (.inl ⟨hz, by omega, rfl, rfl, rfl⟩)⟩
  · exact ⟨_, _, _, .inr (.inr ⟨hz, rfl, rfl, rfl⟩)⟩
theorem NumR.size {most above : Nat} {r : ByteArray} {z v : Nat} {r' : ByteArray} {z' : Nat} (h : NumR most above r z v r' z') : r'.size ≤ r.size ∧ v ≤ most := by
  have := tkR_size r
  rcases h with ⟨_, _, rfl, rfl, _⟩ | ⟨_, h, rfl, rfl, _⟩ | ⟨_, rfl, rfl, _⟩
  · exact ⟨Nat.zero_le _, Nat.zero_le _⟩
  · exact ⟨this, h⟩
  · exact ⟨Nat.le_refl _, Nat.zero_le _⟩
def ValR (r : ByteArray) (z : Nat) (v : Va) (r' : ByteArray) (z' : Nat) : Prop :=
  (z = 0 ∧ v = tVa r ∧ r' = tvR r ∧ z' = tvE r) ∨ (z ≠ 0 ∧ v = .zero ∧ r' = r ∧ z' = z)
theorem valR_ex (r : ByteArray) (z : Nat) : ∃ v r' z', ValR r z v r' z' := by
  by_cases hz : z = 0
  · exact ⟨_, _, _, .inl ⟨hz, rfl, rfl, rfl⟩⟩
  · exact ⟨_, _, _, .inr ⟨hz, rfl, rfl, rfl⟩⟩
theorem ValR.size {r : ByteArray} {z : Nat} {v : Va} {r' : ByteArray} {z' : Nat} (h : ValR r z v r' z') : r'.size ≤ r.size := by
  rcases h with ⟨_, _, rfl, _⟩ | ⟨_, _, rfl, _⟩
  · exact tvR_szH r
  · exact Nat.le_refl _
def InvT (s : ByteArray) (a m t : Nat) (L : List Pa) (r : ByteArray) (z : Nat) : Prop :=
  (z = 0 ∧ ttbL s = restTb a (takePs (m - t) L r)) ∨ (z ≠ 0 ∧ ttbL s = (.none, ⟨#[]⟩, z))
theorem inv_head {s : ByteArray} {a : Nat} {r1 : ByteArray} {z1 m : Nat} {r2 : ByteArray} {z2 : Nat} (h1 : NumR 3 3 s 0 a r1 z1) (h2 : NumR 8 4 r1 z1 m r2 z2) : InvT s a m 0 [] r2 z2 := by
  rcases h1 with ⟨_, h3, rfl, rfl, rfl⟩ | ⟨_, h3, rfl, rfl, rfl⟩ | ⟨h, _⟩
  · have he : tkE s = 0 := Classical.byContradiction fun e => by have := (tk_bad s e).1; omega
    rcases h2 with ⟨h, _⟩ | ⟨h, _⟩ | ⟨_, rfl, rfl, rfl⟩
    · cases h
    · cases h
    · exact .inr ⟨by decide, by unfold ttbL; rw [if_neg (by simp [he]), if_pos h3]⟩
  · by_cases he : tkE s = 0
    · rcases h2 with ⟨_, h8, rfl, rfl, rfl⟩ | ⟨_, h8, rfl, rfl, rfl⟩ | ⟨h, _⟩
      · have he2 : tkE (tkR s) = 0 := Classical.byContradiction fun e => by have := (tk_bad _ e).1; omega
        exact .inr ⟨by decide, by unfold ttbL; rw [if_neg (by simp [he]), if_neg (by omega), if_neg (by simp [he2]), if_pos h8]⟩
      · by_cases he2 : tkE (tkR s) = 0
        · exact .inl ⟨he2, by unfold ttbL; rw [if_neg (by simp [he]), if_neg (by omega), if_neg (by simp [he2]), if_neg (by omega), Nat.sub_zero]⟩
        · exact .inr ⟨he2, by unfold ttbL; rw [if_neg (by simp [he]), if_neg (by omega), if_pos he2]⟩
      · exact absurd he h
    · rcases h2 with ⟨h, _⟩ | ⟨h, _⟩ | ⟨_, rfl, rfl, rfl⟩
      · exact absurd h he
      · exact absurd h he
      · exact .inr ⟨he, by unfold ttbL; rw [if_pos he]⟩
  · exact absurd rfl h
theorem inv_step {s : ByteArray} {a m t : Nat} {L : List Pa} {r : ByteArray} {z : Nat} {x y : Va} {r1 : ByteArray} {z1 : Nat} {r2 : ByteArray} {z2 : Nat} (h : InvT s a m t L r z) (ht : t < m) (h1 : ValR r z x r1 z1) (h2 : ValR r1 z1 y r2 z2) : InvT s a m (t + 1) (L ++ [⟨x, y⟩]) r2 z2 := by
  rcases h with ⟨rfl, h⟩ | ⟨hz, h⟩
  · rcases h1 with ⟨_, rfl, rfl, rfl⟩ | ⟨h, _⟩
    · rw [show m - t = (m - (t + 1)) + 1 by omega] at h
      by_cases he : tvE r = 0
      · rcases h2 with ⟨_, rfl, rfl, rfl⟩ | ⟨h', _⟩
        · by_cases he2 : tvE (tvR r) = 0
          · refine .inl ⟨he2, ?_⟩
            rw [h, takePs_ok (by unfold twoE; rw [two_ok he he2])]
            unfold twoX twoR
            rw [two_ok he he2]
          · refine .inr ⟨he2, ?_⟩
            have e : twoE r = tvE (tvR r) := by unfold twoE; rw [two_e2 he he2]
            rw [h, takePs_err (by rw [e]; exact he2), e]
            unfold restTb
            rw [if_pos he2]
        · exact absurd he h'
      · rcases h2 with ⟨h', _⟩ | ⟨_, rfl, rfl, rfl⟩
        · exact absurd h' he
        · refine .inr ⟨he, ?_⟩
          have e : twoE r = tvE r := by unfold twoE; rw [two_e1 he]
          rw [h, takePs_err (by rw [e]; exact he), e]
          unfold restTb
          rw [if_pos he]
    · exact absurd rfl h
  · rcases h1 with ⟨h', _⟩ | ⟨_, rfl, rfl, rfl⟩
    · exact absurd h' hz
    · rcases h2 with ⟨h', _⟩ | ⟨_, rfl, rfl, rfl⟩
      · exact absurd h' hz
      · exact .inr ⟨hz, h⟩
theorem inv_end {s : ByteArray} {a m t : Nat} {L : List Pa} {r : ByteArray} {z : Nat} {x y : Va} {r1 : ByteArray} {z1 : Nat} {r2 : ByteArray} {z2 : Nat} (h : InvT s a m t L r z) (ht : m - t = 0) (h1 : ValR r z x r1 z1) (h2 : ValR r1 z1 y r2 z2) :
    (z2 = 0 ∧ ttbL s = (⟨L, decide (a % 2 = 1), x, y, decide (2 ≤ a)⟩, r2, 0)) ∨ (z2 ≠ 0 ∧ ttbL s = (.none, ⟨#[]⟩, z2)) := by
  rcases h with ⟨rfl, h⟩ | ⟨hz, h⟩
  · rcases h1 with ⟨_, rfl, rfl, rfl⟩ | ⟨h, _⟩
    · rw [ht] at h
      have h0 : ttbL s = restTb a (L, r, 0) := h
      unfold restTb at h0
      rw [if_neg (by simp)] at h0
      by_cases he : tvE r = 0
      · rcases h2 with ⟨_, rfl, rfl, rfl⟩ | ⟨h', _⟩
        · by_cases he2 : tvE (tvR r) = 0
          · refine .inl ⟨he2, ?_⟩
            unfold twoE twoX twoR at h0
            rw [two_ok he he2] at h0
            rw [h0]
            simp
          · refine .inr ⟨he2, ?_⟩
            unfold twoE at h0
            rw [two_e2 he he2] at h0
            rw [h0]
            simp [he2]
        · exact absurd he h'
      · rcases h2 with ⟨h', _⟩ | ⟨_, rfl, rfl, rfl⟩
        · exact absurd h' he
        · refine .inr ⟨he, ?_⟩
          unfold twoE at h0
          rw [two_e1 he] at h0
          rw [h0]
          simp [he]
    · exact absurd rfl h
  · rcases h1 with ⟨h', _⟩ | ⟨_, rfl, rfl, rfl⟩
    · exact absurd h' hz
    · rcases h2 with ⟨h', _⟩ | ⟨_, rfl, rfl, rfl⟩
      · exact absurd h' hz
      · exact .inr ⟨hz, h⟩
theorem bits_keepT {m : Nat} (h : m ≤ 3) : (Go.bits BinOp.and IntKind.u64 (m : Int) 1 != 0) = decide (m % 2 = 1) := by
  obtain rfl | rfl | rfl | rfl : m = 0 ∨ m = 1 ∨ m = 2 ∨ m = 3 := by omega
  all_goals kernel_rfl
theorem bits_tuT {m : Nat} (h : m ≤ 3) : (Go.bits BinOp.and IntKind.u64 (m : Int) 2 != 0) = decide (2 ≤ m) := by
  obtain rfl | rfl | rfl | rfl : m = 0 ∨ m = 1 ∨ m = 2 ∨ m = 3 := by omega
  all_goals kernel_rfl
structure TakQ (W0 : World) (B sb tb : Nat) (wr : World) (v : Value) (L : List Pa) (kp tu : Bool) (r : ByteArray) (z : Nat) : Prop where
  own : wr.ownsRow B 99 6 v L.length (flatPa L)
  box : TabZ wr tb v kp tu
  sou : Sou wr sb r z
  ke : Kept W0 wr
  le : B ≤ wr.heap.size
theorem TakQ.kept {W0 : World} {B sb tb : Nat} {wr w' : World} {v : Value} {L : List Pa} {kp tu : Bool} {r : ByteArray} {z : Nat} (h : TakQ W0 B sb tb wr v L kp tu r z) (k : Kept wr w') : TakQ W0 B sb tb w' v L kp tu r z :=
  ⟨own_kept h.own k, h.box.kept k, h.sou.kept k, h.ke.trans k, Nat.le_trans h.le k.2.2⟩
structure OrdQ (W0 : World) (B sb tb : Nat) : Prop where
  s : W0.heap.size ≤ sb
  t : sb < tb
  b : tb < B
theorem TakQ.val {W0 : World} {B sb tb : Nat} {wr w' : World} {v : Value} {L : List Pa} {kp tu : Bool} {r r' : ByteArray} {z z' : Nat} (h : TakQ W0 B sb tb wr v L kp tu r z) (o : OrdQ W0 B sb tb) (hs : Sou w' sb r' z') (k : KeptE sb wr w') : TakQ W0 B sb tb w' v L kp tu r' z' :=
  ⟨own_blk h.own fun g hg => by
    have := (h.own.lt g hg)
    exact k.blk g this.2 (fun e => by have := o.t; have := o.b; omega), h.box.keptE k (fun e => by have := o.t; omega), hs, k.kept h.ke o.s, Nat.le_trans h.le k.size⟩
theorem TakQ.form {W0 : World} {B sb tb : Nat} {wr : World} {v : Value} {L : List Pa} {kp tu : Bool} {r : ByteArray} {z : Nat} (h : TakQ W0 B sb tb wr v L kp tu r z) : ∃ A c, v = .slice A L.length c ∧ Pal wr A L.length c L ∧ ∀ ad, A = some ad → B ≤ ad.block := Pal.of_own' h.own
theorem TakQ.app {W0 : World} {B sb tb : Nat} {wr : World} {v : Value} {L : List Pa} {kp tu : Bool} {r : ByteArray} {z : Nat} (h : TakQ W0 B sb tb wr v L kp tu r z) (o : OrdQ W0 B sb tb) (A : Option Addr) (m c : Nat) (M : List Pa) (hs : Pal wr A m c M) (hl : L.length + m ≤ 1000000) :
    ∃ v' w', (Builtin.append_ #[29, 29] 29 #[v, .slice A m c]).run Tryz.prog wr = .ok v' w' ∧ w'.cell? ⟨tb, 0, none⟩ = some v ∧ (∀ j, w'.frozen? ⟨tb, j, none⟩ = false) ∧ Kept W0 w' ∧ TakQ W0 B sb tb (w'.setCell ⟨tb, 0, none⟩ v') v' (L ++ M) kp tu r z := by
  obtain ⟨v', w', hr, ho, hg, hat⟩ := app_pas wr B v L.length (flatPa L) h.own A m c M hs (by omega) h.le
  have hS := o.s; have hT := o.t; have hB := o.b
  have hk : ∃ G, B ≤ G ∧ KeptE G wr w' := by
    rcases hv : v.ownBlock with _ | G
    · exact ⟨B, Nat.le_refl _, (KeptE.refl _ wr).grown hg fun g hg2 => by rw [hv] at hg2; cases hg2⟩
    · exact ⟨G, (h.own.lt G hv).1, (KeptE.refl G wr).grown hg fun g hg2 => .inl (by rw [hv] at hg2; exact (Option.some.inj hg2).symm)⟩
  obtain ⟨G, hG, hkG⟩ := hk
  have hbox := h.box.keptE hkG (by omega)
  have hsou := h.sou.keptE hkG (by omega)
  have hkk : Kept W0 w' := hkG.kept h.ke (by omega)
  have hne' : ∀ g, v'.ownBlock = some g → g ≠ tb := fun g hg2 e => by have := (ho.lt g hg2).1; omega
  refine ⟨v', w', hr, hbox.c0, hbox.f, hkk, ⟨?_, hbox.set0 v', hsou.far (by omega) _, hkk.setCell (a := ⟨tb, 0, none⟩) (by show W0.heap.size ≤ tb; omega) _, ?_⟩⟩
  · rw [List.length_append, flatPa_app, ← hs.1]
    exact own_blk ho fun g hg2 => Deep.blk_setCell_other w' _ _ g (fun e => hne' g hg2 e)
  · have := Nat.le_trans h.le hkG.size
    simpa [World.setCell] using this
theorem Sou.o {w : World} {b : Nat} {r : ByteArray} {z : Nat} (h : Sou w b r z) : SouO w b 0 r z := ⟨h.c0, h.c1, h.f, h.lt⟩
theorem SouO.s {w : World} {b : Nat} {r : ByteArray} {z : Nat} (h : SouO w b 0 r z) : Sou w b r z := ⟨h.c0, h.c1, h.f, h.lt⟩
theorem tnum_any (w : World) (b : Nat) (most above : Nat) (r : ByteArray) (z : Nat) (T : Sou w b r z) (v : Nat) (r' : ByteArray) (z' : Nat) (h : NumR most above r z v r' z') (hs : r.size ≤ 100000) :
    Calls Tryz.prog 36 #[.pointer (some ⟨b, 0, none⟩), .int .u64 (most : Int), .int .i64 (above : Int)] w fun e w' => e = .returned (.int .u64 (v : Int)) ∧ Sou w' b r' z' ∧ KeptE b w w' :=
  (number_any w b 0 most above r z T.o v r' z' h hs).mono fun _ _ ⟨he, hp⟩ => ⟨he, hp.s.s, hp.k⟩
theorem tvalue_any (w : World) (b : Nat) (r : ByteArray) (z : Nat) (T : Sou w b r z) (v : Va) (r' : ByteArray) (z' : Nat) (h : ValR r z v r' z') (hs : r.size ≤ 100000) :
    Calls Tryz.prog 40 #[.pointer (some ⟨b, 0, none⟩), .func (.func 41) #[] #[]] w fun e w' => e = .returned (.agg #[.int .i64 v.k, .int .i64 v.n, .string v.t]) ∧ Sou w' b r' z' ∧ KeptE b w w' :=
  (nextV_any w b 0 r z T.o v r' z' (h.imp (fun ⟨a, b, c, d⟩ => ⟨a, by unfold tvF; rw [b, c, d]⟩) id) hs).mono fun _ _ ⟨he, hp⟩ => ⟨he, hp.s.s, hp.k⟩
end Go.Proofs.YtofnpifooaijcaaGreat
