/-
  What is proved: the five parts of an entry, taken one by one, nothing behind an error, are what P7.4 says (plain facts); entry.next at each of its types, at named results; what is taken so far, with one part set.
-/
import Derived.Test.YtoanccojpppfoaaDoorENext
namespace Go.Proofs.YtoanccojpppfoaaDoor
open Go.RowKit

def StD (r : ByteArray) (z : Int) (v : Int × Int) (r' : ByteArray) (z' : Int) : Prop := (z = 0 ∧ tdX r = v ∧ tdR r = r' ∧ (tdE r : Int) = z') ∨ (z ≠ 0 ∧ v = (0, 0) ∧ r' = r ∧ z' = z)
def StP (r : ByteArray) (z : Int) (v : ByteArray) (r' : ByteArray) (z' : Int) : Prop := (z = 0 ∧ ttT r 102 = v ∧ ttR r 102 = r' ∧ (ttE r 102 : Int) = z') ∨ (z ≠ 0 ∧ v = ⟨#[]⟩ ∧ r' = r ∧ z' = z)
def StK (r : ByteArray) (z : Int) (v : Int) (r' : ByteArray) (z' : Int) : Prop := (z = 0 ∧ (tkN r : Int) = v ∧ tkR r = r' ∧ (tkE r : Int) = z') ∨ (z ≠ 0 ∧ v = 0 ∧ r' = r ∧ z' = z)
def StV (r : ByteArray) (z : Int) (k n : Int) (t : ByteArray) (r' : ByteArray) (z' : Int) : Prop := (z = 0 ∧ tvK r = k ∧ tvI r = n ∧ tvT r = t ∧ tvR r = r' ∧ (tvE r : Int) = z') ∨ (z ≠ 0 ∧ k = 0 ∧ n = 0 ∧ t = ⟨#[]⟩ ∧ r' = r ∧ z' = z)

theorem ttR_size (s : ByteArray) (m : Int) : (ttR s m).size ≤ s.size := by
  by_cases h : ttE s m = 0
  · have := congrArg ByteArray.size (tt_aft s m h).1
    rw [ByteArray.size_append, ByteArray.size_append] at this
    omega
  · have : ttR s m = ⟨#[]⟩ := by
      unfold ttE ttL at h
      unfold ttR ttL
      by_cases h1 : tkE s ≠ 0
      · rw [if_pos h1]
      rw [if_neg h1] at h ⊢
      by_cases h2 : m < 0 ∨ m < (tkN s : Int)
      · rw [if_pos h2]
      rw [if_neg h2] at h ⊢
      by_cases h3 : (tkR s).size < tkN s
      · rw [if_pos h3]
      · rw [if_neg h3] at h; simp at h
    rw [this]
    exact Nat.zero_le _
theorem tdR_size (s : ByteArray) : (tdR s).size ≤ s.size := by
  have h1 := tkR_size s
  have h2 := tkR_size (tkR s)
  unfold tdR tdL
  by_cases e1 : tkE s ≠ 0
  · rw [if_pos e1]; exact Nat.zero_le _
  rw [if_neg e1]
  by_cases e2 : tkE (tkR s) ≠ 0
  · rw [if_pos e2]; exact Nat.zero_le _
  rw [if_neg e2]
  by_cases e3 : rightD (tiN s, tiN (tkR s)) = true ∨ (tiN s = 0 ∧ tiN (tkR s) = 0)
  · rw [if_pos e3]; exact Nat.le_trans h2 h1
  · rw [if_neg e3]; exact Nat.zero_le _
theorem tvR_size (s : ByteArray) : (tvR s).size ≤ s.size := by
  have h1 := tkR_size s
  have h2 := tkR_size (tkR s)
  have h3 := ttR_size (tkR s) 200
  unfold tvR tvL
  by_cases e1 : tkE s ≠ 0
  · rw [if_pos e1]; exact Nat.zero_le _
  rw [if_neg e1]
  by_cases e2 : 3 < tkN s
  · rw [if_pos e2]; exact Nat.zero_le _
  rw [if_neg e2]
  by_cases e3 : tkN s = 0
  · rw [if_pos e3]; exact h1
  rw [if_neg e3]
  by_cases e4 : tkN s = 2
  · rw [if_pos e4]
    by_cases e5 : ttE (tkR s) 200 ≠ 0
    · rw [if_pos e5]; exact Nat.zero_le _
    · rw [if_neg e5]; exact Nat.le_trans h3 h1
  rw [if_neg e4]
  by_cases e5 : tkE (tkR s) ≠ 0
  · rw [if_pos e5]; exact Nat.zero_le _
  rw [if_neg e5]
  by_cases e6 : rightB (tkN s) (tiN (tkR s)) ⟨#[]⟩ = true
  · rw [if_pos e6]; exact Nat.le_trans h2 h1
  · rw [if_neg e6]; exact Nat.zero_le _
theorem stD_ex (r : ByteArray) (z : Int) : ∃ v r' z', StD r z v r' z' ∧ r'.size ≤ r.size := by
  by_cases h : z = 0
  · exact ⟨_, _, _, .inl ⟨h, rfl, rfl, rfl⟩, tdR_size r⟩
  · exact ⟨_, _, _, .inr ⟨h, rfl, rfl, rfl⟩, Nat.le_refl _⟩
theorem stP_ex (r : ByteArray) (z : Int) : ∃ v r' z', StP r z v r' z' ∧ r'.size ≤ r.size := by
  by_cases h : z = 0
  · exact ⟨_, _, _, .inl ⟨h, rfl, rfl, rfl⟩, ttR_size r 102⟩
  · exact ⟨_, _, _, .inr ⟨h, rfl, rfl, rfl⟩, Nat.le_refl _⟩
theorem stK_ex (r : ByteArray) (z : Int) : ∃ v r' z', StK r z v r' z' ∧ r'.size ≤ r.size := by
  by_cases h : z = 0
  · exact ⟨_, _, _, .inl ⟨h, rfl, rfl, rfl⟩, tkR_size r⟩
  · exact ⟨_, _, _, .inr ⟨h, rfl, rfl, rfl⟩, Nat.le_refl _⟩
theorem stV_ex (r : ByteArray) (z : Int) : ∃ k n t r' z', StV r z k n t r' z' ∧ r'.size ≤ r.size := by
  by_cases h : z = 0
  · exact ⟨_, _, _, _, _, .inl ⟨h, rfl, rfl, rfl, rfl, rfl⟩, tvR_size r⟩
  · exact ⟨_, _, _, _, _, .inr ⟨h, rfl, rfl, rfl, rfl, rfl⟩, Nat.le_refl _⟩

/-- The five parts, one by one. -/
structure Steps (s : ByteArray) (v1 : Int × Int) (a1 : ByteArray) (z1 : Int) (v2 a2 : ByteArray) (z2 : Int) (v3 : Int) (a3 : ByteArray) (z3 : Int) (k n : Int) (t a4 : ByteArray) (z4 : Int) (v5 : Int × Int) (a5 : ByteArray) (z5 : Int) : Prop where
  s1 : StD s 0 v1 a1 z1
  s2 : StP a1 z1 v2 a2 z2
  s3 : StK a2 z2 v3 a3 z3
  s4 : StV a3 z3 k n t a4 z4
  s5 : StD a4 z4 v5 a5 z5
  l1 : a1.size ≤ s.size
  l2 : a2.size ≤ s.size
  l3 : a3.size ≤ s.size
  l4 : a4.size ≤ s.size
theorem steps_ex (s : ByteArray) : ∃ v1 a1 z1 v2 a2 z2 v3 a3 z3 k n t a4 z4 v5 a5 z5, Steps s v1 a1 z1 v2 a2 z2 v3 a3 z3 k n t a4 z4 v5 a5 z5 := by
  obtain ⟨v1, a1, z1, s1, l1⟩ := stD_ex s 0
  obtain ⟨v2, a2, z2, s2, l2⟩ := stP_ex a1 z1
  obtain ⟨v3, a3, z3, s3, l3⟩ := stK_ex a2 z2
  obtain ⟨k, n, t, a4, z4, s4, l4⟩ := stV_ex a3 z3
  obtain ⟨v5, a5, z5, s5, l5⟩ := stD_ex a4 z4
  exact ⟨v1, a1, z1, v2, a2, z2, v3, a3, z3, k, n, t, a4, z4, v5, a5, z5, s1, s2, s3, s4, s5, by omega, by omega, by omega, by omega⟩
section
variable {s : ByteArray} {v1 : Int × Int} {a1 : ByteArray} {z1 : Int} {v2 a2 : ByteArray} {z2 : Int} {v3 : Int} {a3 : ByteArray} {z3 : Int} {k n : Int} {t a4 : ByteArray} {z4 : Int} {v5 : Int × Int} {a5 : ByteArray} {z5 : Int}
/-- What comes of them. -/
theorem Steps.all (S : Steps s v1 a1 z1 v2 a2 z2 v3 a3 z3 k n t a4 z4 v5 a5 z5) :
    z5 = (errE s : Int) ∧ (z5 = 0 → v1 = tdX s ∧ v2 = ttT (r1 s) 102 ∧ v3 = (tkN (r2 s) : Int) ∧ k = tvK (r3 s) ∧ n = tvI (r3 s) ∧ t = tvT (r3 s) ∧ v5 = tdX (r4 s) ∧ a5 = r5 s) := by
  obtain ⟨s1, s2, s3, s4, s5, _, _, _, _⟩ := S
  obtain ⟨rfl, rfl, rfl⟩ : tdX s = v1 ∧ tdR s = a1 ∧ (tdE s : Int) = z1 := by
    rcases s1 with ⟨_, h⟩ | ⟨h, _⟩
    · exact h
    · exact absurd rfl h
  rcases s2 with ⟨h1, rfl, rfl, rfl⟩ | ⟨h1, _, _, rfl⟩
  · have h1 : tdE s = 0 := by omega
    rcases s3 with ⟨h2, rfl, rfl, rfl⟩ | ⟨h2, _, _, rfl⟩
    · have h2 : ttE (r1 s) 102 = 0 := by unfold r1; omega
      rcases s4 with ⟨h3, rfl, rfl, rfl, rfl, rfl⟩ | ⟨h3, _, _, _, _, rfl⟩
      · have h3 : tkE (r2 s) = 0 := by unfold r2 r1; omega
        rcases s5 with ⟨h4, rfl, rfl, rfl⟩ | ⟨h4, _, _, rfl⟩
        · have h4 : tvE (r3 s) = 0 := by unfold r3 r2 r1; omega
          refine ⟨?_, fun _ => ⟨rfl, rfl, rfl, rfl, rfl, rfl, rfl, rfl⟩⟩
          unfold errE
          rw [if_neg (by omega), if_neg (by omega), if_neg (by omega), if_neg (by omega)]
          rfl
        · have h4 : tvE (r3 s) ≠ 0 := by unfold r3 r2 r1; omega
          refine ⟨?_, fun e => absurd e (by unfold r3 r2 r1 at h4; omega)⟩
          unfold errE
          rw [if_neg (by omega), if_neg (by omega), if_neg (by omega), if_pos h4]
          rfl
      · have h3 : tkE (r2 s) ≠ 0 := by unfold r2 r1; omega
        rcases s5 with ⟨h4, _, _, _⟩ | ⟨h4, _, _, rfl⟩
        · exact absurd h4 (by unfold r2 r1 at h3; omega)
        · refine ⟨?_, fun e => absurd e h4⟩
          unfold errE
          rw [if_neg (by omega), if_neg (by omega), if_pos h3]
          rfl
    · have h2 : ttE (r1 s) 102 ≠ 0 := by unfold r1; omega
      rcases s4 with ⟨h3, _⟩ | ⟨h3, _, _, _, _, rfl⟩
      · exact absurd h3 (by unfold r1 at h2; omega)
      rcases s5 with ⟨h4, _⟩ | ⟨h4, _, _, rfl⟩
      · exact absurd h4 h3
      refine ⟨?_, fun e => absurd e h4⟩
      unfold errE
      rw [if_neg (by omega), if_pos h2]
      rfl
  · have h0 : tdE s ≠ 0 := by omega
    rcases s3 with ⟨h2, _⟩ | ⟨h2, _, _, rfl⟩
    · exact absurd h2 (by omega)
    rcases s4 with ⟨h3, _⟩ | ⟨h3, _, _, _, _, rfl⟩
    · exact absurd h3 (by omega)
    rcases s5 with ⟨h4, _⟩ | ⟨h4, _, _, rfl⟩
    · exact absurd h4 (by omega)
    refine ⟨?_, fun e => absurd e (by omega)⟩
    unfold errE
    rw [if_pos h0]
end

theorem nextD_any (w : World) (b : Nat) (x : En) (r : ByteArray) (z : Int) (T : Tk w b x r z) (v : Int × Int) (r' : ByteArray) (z' : Int) (h : StD r z v r' z') (hs : r.size ≤ 100000) :
    Calls Tryd.prog 17 #[.pointer (some ⟨b, 0, none⟩), .func (.func 18) #[] #[]] w fun e w' => e = .returned (.agg #[.int .i64 v.1, .int .i64 v.2]) ∧ Tk w' b x r' z' ∧ KeptE b w w' := by
  rcases h with ⟨rfl, h1, h2, h3⟩ | ⟨hz, rfl, rfl, rfl⟩
  · exact nextD_go w b x r T v r' z' h1 h2 h3 hs
  · exact nextD_not w b x r' z' T hz
theorem nextP_any (w : World) (b : Nat) (x : En) (r : ByteArray) (z : Int) (T : Tk w b x r z) (v : ByteArray) (r' : ByteArray) (z' : Int) (h : StP r z v r' z') (hs : r.size ≤ 100000) :
    Calls Tryd.prog 19 #[.pointer (some ⟨b, 0, none⟩), .func (.func 20) #[] #[]] w fun e w' => e = .returned (.string v) ∧ Tk w' b x r' z' ∧ KeptE b w w' := by
  rcases h with ⟨rfl, h1, h2, h3⟩ | ⟨hz, rfl, rfl, rfl⟩
  · exact nextP_go w b x r T v r' z' h1 h2 h3 hs
  · exact nextP_not w b x r' z' T hz
theorem nextK_any (w : World) (b : Nat) (x : En) (r : ByteArray) (z : Int) (T : Tk w b x r z) (v : Int) (r' : ByteArray) (z' : Int) (h : StK r z v r' z') (hs : r.size ≤ 100000) :
    Calls Tryd.prog 21 #[.pointer (some ⟨b, 0, none⟩), .func (.func 22) #[] #[]] w fun e w' => e = .returned (.int .u64 v) ∧ Tk w' b x r' z' ∧ KeptE b w w' := by
  rcases h with ⟨rfl, h1, h2, h3⟩ | ⟨hz, rfl, rfl, rfl⟩
  · exact nextK_go w b x r T v r' z' h1 h2 h3 hs
  · exact nextK_not w b x r' z' T hz
theorem nextV_any (w : World) (b : Nat) (x : En) (r : ByteArray) (z : Int) (T : Tk w b x r z) (k n : Int) (t : ByteArray) (r' : ByteArray) (z' : Int) (h : StV r z k n t r' z') (hs : r.size ≤ 100000) :
    Calls Tryd.prog 23 #[.pointer (some ⟨b, 0, none⟩), .func (.func 24) #[] #[]] w fun e w' => e = .returned (.agg #[.int .i64 k, .int .i64 n, .string t]) ∧ Tk w' b x r' z' ∧ KeptE b w w' := by
  rcases h with ⟨rfl, h1, h2, h3, h4, h5⟩ | ⟨hz, rfl, rfl, rfl, rfl, rfl⟩
  · exact nextV_go w b x r T k n t r' z' h1 h2 h3 h4 h5 hs
  · exact nextV_not w b x r' z' T hz

theorem KeptE.comp {G : Nat} {W w u : World} (h : KeptE G W w) (k : KeptE G w u) : KeptE G W u :=
  ⟨k.os.trans h.os, k.output.trans h.output, Nat.le_trans h.size k.size, fun i hi hg => (k.blk i (Nat.lt_of_lt_of_le hi h.size) hg).trans (h.blk i hi hg)⟩
theorem Tk.setD {w : World} {b : Nat} {x : En} {r : ByteArray} {z : Int} (h : Tk w b x r z) (v : Int × Int) : Tk ((w.setCell ⟨b, 0, none⟩ (.int .i64 v.1)).setCell ⟨b, 1, none⟩ (.int .i64 v.2)) b { x with d := v } r z :=
  ⟨⟨(off_cell (on_cell h.ent.c0) (by omega)), (on_cell (off_cell h.ent.c1 (by omega))), (off_cell (off_cell h.ent.c2 (by omega)) (by omega)), (off_cell (off_cell h.ent.c3 (by omega)) (by omega)), (off_cell (off_cell h.ent.c4 (by omega)) (by omega)), (off_cell (off_cell h.ent.c5 (by omega)) (by omega)), (off_cell (off_cell h.ent.c6 (by omega)) (by omega)), (off_cell (off_cell h.ent.c7 (by omega)) (by omega)), (off_cell (off_cell h.ent.c8 (by omega)) (by omega))⟩, (off_cell (off_cell h.c9 (by omega)) (by omega)), (off_cell (off_cell h.c10 (by omega)) (by omega)), fun i => by rw [World.frozen?_setCell, World.frozen?_setCell]; exact h.f i⟩
theorem Tk.setP {w : World} {b : Nat} {x : En} {r : ByteArray} {z : Int} (h : Tk w b x r z) (v : ByteArray) : Tk (w.setCell ⟨b, 2, none⟩ (.string v)) b { x with p := v } r z :=
  ⟨⟨(off_cell h.ent.c0 (by omega)), (off_cell h.ent.c1 (by omega)), (on_cell h.ent.c2), (off_cell h.ent.c3 (by omega)), (off_cell h.ent.c4 (by omega)), (off_cell h.ent.c5 (by omega)), (off_cell h.ent.c6 (by omega)), (off_cell h.ent.c7 (by omega)), (off_cell h.ent.c8 (by omega))⟩, (off_cell h.c9 (by omega)), (off_cell h.c10 (by omega)), fun i => by rw [World.frozen?_setCell]; exact h.f i⟩
theorem Tk.setK {w : World} {b : Nat} {x : En} {r : ByteArray} {z : Int} (h : Tk w b x r z) (v : Int) : Tk (w.setCell ⟨b, 3, none⟩ (.int .i64 v)) b { x with k := v } r z :=
  ⟨⟨(off_cell h.ent.c0 (by omega)), (off_cell h.ent.c1 (by omega)), (off_cell h.ent.c2 (by omega)), (on_cell h.ent.c3), (off_cell h.ent.c4 (by omega)), (off_cell h.ent.c5 (by omega)), (off_cell h.ent.c6 (by omega)), (off_cell h.ent.c7 (by omega)), (off_cell h.ent.c8 (by omega))⟩, (off_cell h.c9 (by omega)), (off_cell h.c10 (by omega)), fun i => by rw [World.frozen?_setCell]; exact h.f i⟩
theorem Tk.setV {w : World} {b : Nat} {x : En} {r : ByteArray} {z : Int} (h : Tk w b x r z) (k n : Int) (t : ByteArray) : Tk (((w.setCell ⟨b, 4, none⟩ (.int .i64 k)).setCell ⟨b, 5, none⟩ (.int .i64 n)).setCell ⟨b, 6, none⟩ (.string t)) b { x with vk := k, vn := n, vt := t } r z :=
  ⟨⟨(off_cell (off_cell (off_cell h.ent.c0 (by omega)) (by omega)) (by omega)), (off_cell (off_cell (off_cell h.ent.c1 (by omega)) (by omega)) (by omega)), (off_cell (off_cell (off_cell h.ent.c2 (by omega)) (by omega)) (by omega)), (off_cell (off_cell (off_cell h.ent.c3 (by omega)) (by omega)) (by omega)), (off_cell (off_cell (on_cell h.ent.c4) (by omega)) (by omega)), (off_cell (on_cell (off_cell h.ent.c5 (by omega))) (by omega)), (on_cell (off_cell (off_cell h.ent.c6 (by omega)) (by omega))), (off_cell (off_cell (off_cell h.ent.c7 (by omega)) (by omega)) (by omega)), (off_cell (off_cell (off_cell h.ent.c8 (by omega)) (by omega)) (by omega))⟩, (off_cell (off_cell (off_cell h.c9 (by omega)) (by omega)) (by omega)), (off_cell (off_cell (off_cell h.c10 (by omega)) (by omega)) (by omega)), fun i => by rw [World.frozen?_setCell, World.frozen?_setCell, World.frozen?_setCell]; exact h.f i⟩
theorem Tk.setE {w : World} {b : Nat} {x : En} {r : ByteArray} {z : Int} (h : Tk w b x r z) (v : Int × Int) : Tk ((w.setCell ⟨b, 7, none⟩ (.int .i64 v.1)).setCell ⟨b, 8, none⟩ (.int .i64 v.2)) b { x with e := v } r z :=
  ⟨⟨(off_cell (off_cell h.ent.c0 (by omega)) (by omega)), (off_cell (off_cell h.ent.c1 (by omega)) (by omega)), (off_cell (off_cell h.ent.c2 (by omega)) (by omega)), (off_cell (off_cell h.ent.c3 (by omega)) (by omega)), (off_cell (off_cell h.ent.c4 (by omega)) (by omega)), (off_cell (off_cell h.ent.c5 (by omega)) (by omega)), (off_cell (off_cell h.ent.c6 (by omega)) (by omega)), (off_cell (on_cell h.ent.c7) (by omega)), (on_cell (off_cell h.ent.c8 (by omega)))⟩, (off_cell (off_cell h.c9 (by omega)) (by omega)), (off_cell (off_cell h.c10 (by omega)) (by omega)), fun i => by rw [World.frozen?_setCell, World.frozen?_setCell]; exact h.f i⟩
end Go.Proofs.YtoanccojpppfoaaDoor
