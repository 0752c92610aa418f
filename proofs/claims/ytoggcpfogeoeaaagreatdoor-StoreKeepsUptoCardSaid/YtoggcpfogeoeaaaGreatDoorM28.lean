/-
  What is proved: the five parts of an entry, taken one by one, nothing behind an error, are what P7.4 says (plain facts); entry.next at each of its types, at named results; what is taken so far, with one part set.
  the sizes of what is taken; the block of a result; an ending at named results.
  entry.Take, called with a text, where a part is not taken, returns what P7.4 says; the world has new blocks at most.
-/
import Derived.Test.YtoggcpfogeoeaaaGreatDoorM27
namespace Go.Proofs.YtoggcpfogeoeaaaGreatDoor
open Go.RowKit

def StD (r : ByteArray) (z : Int) (v : Int × Int) (r' : ByteArray) (z' : Int) : Prop := (z = 0 ∧ tdX r = v ∧ tdR r = r' ∧ (tdE r : Int) = z') ∨ (z ≠ 0 ∧ v = (0, 0) ∧ r' = r ∧ z' = z)
def StP (r : ByteArray) (z : Int) (v : ByteArray) (r' : ByteArray) (z' : Int) : Prop := (z = 0 ∧ ttT r 102 = v ∧ ttR r 102 = r' ∧ (ttE r 102 : Int) = z') ∨ (z ≠ 0 ∧ v = ⟨#[]⟩ ∧ r' = r ∧ z' = z)
def StK (r : ByteArray) (z : Int) (v : Int) (r' : ByteArray) (z' : Int) : Prop := (z = 0 ∧ (tkN r : Int) = v ∧ tkR r = r' ∧ (tkE r : Int) = z') ∨ (z ≠ 0 ∧ v = 0 ∧ r' = r ∧ z' = z)
def StV (r : ByteArray) (z : Int) (k n : Int) (t : ByteArray) (r' : ByteArray) (z' : Int) : Prop := (z = 0 ∧ tvK r = k ∧ tvI r = n ∧ tvT r = t ∧ tvR r = r' ∧ (tvE r : Int) = z') ∨ (z ≠ 0 ∧ k = 0 ∧ n = 0 ∧ t = ⟨#[]⟩ ∧ r' = r ∧ z' = z)

theorem ttR_size (s : ByteArray) (m : Int) : (ttR s m).size ≤ s.size := by
  by_cases h : ttE s m = 0
  · have := congrArg ByteArray.size (tt_aft s m h).1
    rw [ByteArray.size_append, ByteArray.size_append] at this
    omega
  · have : ttR s m = ⟨#[]⟩ := by
      unfold ttE ttL at h
      unfold ttR ttL
      by_cases h1 : tkE s ≠ 0
      · rw [if_pos h1]
      rw [if_neg h1] at h ⊢
      by_cases h2 : m < 0 ∨ m < (tkN s : Int)
      · rw [if_pos h2]
      rw [if_neg h2] at h ⊢
      by_cases h3 : (tkR s).size < tkN s
      · rw [if_pos h3]
      · rw [if_neg h3] at h; simp at h
    rw [this]
    exact Nat.zero_le _
theorem tdR_sizeE (s : ByteArray) : (tdR s).size ≤ s.size := by
  have h1 := tkR_size s
  have h2 := tkR_size (tkR s)
  unfold tdR tdL
  by_cases e1 : tkE s ≠ 0
  · rw [if_pos e1]; exact Nat.zero_le _
  rw [if_neg e1]
  by_cases e2 : tkE (tkR s) ≠ 0
  · rw [if_pos e2]; exact Nat.zero_le _
  rw [if_neg e2]
  by_cases e3 : rightD (tiN s, tiN (tkR s)) = true ∨ (tiN s = 0 ∧ tiN (tkR s) = 0)
  · rw [if_pos e3]; exact Nat.le_trans h2 h1
  · rw [if_neg e3]; exact Nat.zero_le _
theorem tvR_size (s : ByteArray) : (tvR s).size ≤ s.size := by
  have h1 := tkR_size s
  have h2 := tkR_size (tkR s)
  have h3 := ttR_size (tkR s) 200
  unfold tvR tvL
  by_cases e1 : tkE s ≠ 0
  · rw [if_pos e1]; exact Nat.zero_le _
  rw [if_neg e1]
  by_cases e2 : 3 < tkN s
  · rw [if_pos e2]; exact Nat.zero_le _
  rw [if_neg e2]
  by_cases e3 : tkN s = 0
  · rw [if_pos e3]; exact h1
  rw [if_neg e3]
  by_cases e4 : tkN s = 2
  · rw [if_pos e4]
    by_cases e5 : ttE (tkR s) 200 ≠ 0
    · rw [if_pos e5]; exact Nat.zero_le _
    · rw [if_neg e5]; exact Nat.le_trans h3 h1
  rw [if_neg e4]
  by_cases e5 : tkE (tkR s) ≠ 0
  · rw [if_pos e5]; exact Nat.zero_le _
  rw [if_neg e5]
  by_cases e6 : rightB (tkN s) (tiN (tkR s)) ⟨#[]⟩ = true
  · rw [if_pos e6]; exact Nat.le_trans h2 h1
  · rw [if_neg e6]; exact Nat.zero_le _
theorem stD_ex (r : ByteArray) (z : Int) : ∃ v r' z', StD r z v r' z' ∧ r'.size ≤ r.size := by
  by_cases h : z = 0
  · exact ⟨_, _, _, .inl ⟨h, rfl, rfl, rfl⟩, tdR_sizeE r⟩
  · exact ⟨_, _, _, .inr ⟨h, rfl, rfl, rfl⟩, Nat.le_refl _⟩
theorem stP_ex (r : ByteArray) (z : Int) : ∃ v r' z', StP r z v r' z' ∧ r'.size ≤ r.size := by
  by_cases h : z = 0
  · exact ⟨_, _, _, .inl ⟨h, rfl, rfl, rfl⟩, ttR_size r 102⟩
  · exact ⟨_, _, _, .inr ⟨h, rfl, rfl, rfl⟩, Nat.le_refl _⟩
theorem stK_ex (r : ByteArray) (z : Int) : ∃ v r' z', StK r z v r' z' ∧ r'.size ≤ r.size := by
  by_cases h : z = 0
  · exact ⟨_, _, _, .inl ⟨h, rfl, rfl, rfl⟩, tkR_size r⟩
  · exact ⟨_, _, _, .inr ⟨h, rfl, rfl, rfl⟩, Nat.le_refl _⟩
theorem stV_ex (r : ByteArray) (z : Int) : ∃ k n t r' z', StV r z k n t r' z' ∧ r'.size ≤ r.size := by
  by_cases h : z = 0
  · exact ⟨_, _, _, _, _, .inl ⟨h, rfl, rfl, rfl, rfl, rfl⟩, tvR_size r⟩
  · exact ⟨_, _, _, _, _, .inr ⟨h, rfl, rfl, rfl, rfl, rfl⟩, Nat.le_refl _⟩

/-- The five parts, one by one. -/
structure Steps (s : ByteArray) (v1 : Int × Int) (a1 : ByteArray) (z1 : Int) (v2 a2 : ByteArray) (z2 : Int) (v3 : Int) (a3 : ByteArray) (z3 : Int) (k n : Int) (t a4 : ByteArray) (z4 : Int) (v5 : Int × Int) (a5 : ByteArray) (z5 : Int) : Prop where
  s1 : StD s 0 v1 a1 z1
  s2 : StP a1 z1 v2 a2 z2
  s3 : StK a2 z2 v3 a3 z3
  s4 : StV a3 z3 k n t a4 z4
  s5 : StD a4 z4 v5 a5 z5
  l1 : a1.size ≤ s.size
  l2 : a2.size ≤ s.size
  l3 : a3.size ≤ s.size
  l4 : a4.size ≤ s.size
theorem steps_ex (s : ByteArray) : ∃ v1 a1 z1 v2 a2 z2 v3 a3 z3 k n t a4 z4 v5 a5 z5, Steps s v1 a1 z1 v2 a2 z2 v3 a3 z3 k n t a4 z4 v5 a5 z5 := by
  obtain ⟨v1, a1, z1, s1, l1⟩ := stD_ex s 0
  obtain ⟨v2, a2, z2, s2, l2⟩ := stP_ex a1 z1
  obtain ⟨v3, a3, z3, s3, l3⟩ := stK_ex a2 z2
  obtain ⟨k, n, t, a4, z4, s4, l4⟩ := stV_ex a3 z3
  obtain ⟨v5, a5, z5, s5, l5⟩ := stD_ex a4 z4
  exact ⟨v1, a1, z1, v2, a2, z2, v3, a3, z3, k, n, t, a4, z4, v5, a5, z5, s1, s2, s3, s4, s5, by omega, by omega, by omega, by omega⟩
section
variable {s : ByteArray} {v1 : Int × Int} {a1 : ByteArray} {z1 : Int} {v2 a2 : ByteArray} {z2 : Int} {v3 : Int} {a3 : ByteArray} {z3 : Int} {k n : Int} {t a4 : ByteArray} {z4 : Int} {v5 : Int × Int} {a5 : ByteArray} {z5 : Int}
/-- What comes of them. -/
theorem Steps.all (S : Steps s v1 a1 z1 v2 a2 z2 v3 a3 z3 k n t a4 z4 v5 a5 z5) :
    z5 = (errE s : Int) ∧ (z5 = 0 → v1 = tdX s ∧ v2 = ttT (r1 s) 102 ∧ v3 = (tkN (r2 s) : Int) ∧ k = tvK (r3 s) ∧ n = tvI (r3 s) ∧ t = tvT (r3 s) ∧ v5 = tdX (r4 s) ∧ a5 = r5 s) := by
  obtain ⟨s1, s2, s3, s4, s5, _, _, _, _⟩ := S
  obtain ⟨rfl, rfl, rfl⟩ : tdX s = v1 ∧ tdR s = a1 ∧ (tdE s : Int) = z1 := by
    rcases s1 with ⟨_, h⟩ | ⟨h, _⟩
    · exact h
    · exact absurd rfl h
  rcases s2 with ⟨h1, rfl, rfl, rfl⟩ | ⟨h1, _, _, rfl⟩
  · have h1 : tdE s = 0 := by omega
    rcases s3 with ⟨h2, rfl, rfl, rfl⟩ | ⟨h2, _, _, rfl⟩
    · have h2 : ttE (r1 s) 102 = 0 := by unfold r1; omega
      rcases s4 with ⟨h3, rfl, rfl, rfl, rfl, rfl⟩ | ⟨h3, _, _, _, _, rfl⟩
      · have h3 : tkE (r2 s) = 0 := by unfold r2 r1; omega
        rcases s5 with ⟨h4, rfl, rfl, rfl⟩ | ⟨h4, _, _, rfl⟩
        · have h4 : tvE (r3 s) = 0 := by unfold r3 r2 r1; omega
          refine ⟨?_, fun _ => ⟨rfl, rfl, rfl, rfl, rfl, rfl, rfl, rfl⟩⟩
          unfold errE
          rw [if_neg (by omega), if_neg (by omega), if_neg (by omega), if_neg (by omega)]
          rfl
        · have h4 : tvE (r3 s) ≠ 0 := by unfold r3 r2 r1; omega
          refine ⟨?_, fun e => absurd e (by unfold r3 r2 r1 at h4; omega)⟩
          unfold errE
          rw [if_neg (by omega), if_neg (by omega), if_neg (by omega), if_pos h4]
          rfl
      · have h3 : tkE (r2 s) ≠ 0 := by unfold r2 r1; omega
        rcases s5 with ⟨h4, _, _, _⟩ | ⟨h4, _, _, rfl⟩
        · exact absurd h4 (by unfold r2 r1 at h3; omega)
        · refine ⟨?_, fun e => absurd e h4⟩
          unfold errE
          rw [if_neg (by omega), if_neg (by omega), if_pos h3]
          rfl
    · have h2 : ttE (r1 s) 102 ≠ 0 := by unfold r1; omega
      rcases s4 with ⟨h3, _⟩ | ⟨h3, _, _, _, _, rfl⟩
      · exact absurd h3 (by unfold r1 at h2; omega)
      rcases s5 with ⟨h4, _⟩ | ⟨h4, _, _, rfl⟩
      · exact absurd h4 h3
      refine ⟨?_, fun e => absurd e h4⟩
      unfold errE
      rw [if_neg (by omega), if_pos h2]
      rfl
  · have h0 : tdE s ≠ 0 := by omega
    rcases s3 with ⟨h2, _⟩ | ⟨h2, _, _, rfl⟩
    · exact absurd h2 (by omega)
    rcases s4 with ⟨h3, _⟩ | ⟨h3, _, _, _, _, rfl⟩
    · exact absurd h3 (by omega)
    rcases s5 with ⟨h4, _⟩ | ⟨h4, _, _, rfl⟩
    · exact absurd h4 (by omega)
    refine ⟨?_, fun e => absurd e (by omega)⟩
    unfold errE
    rw [if_pos h0]
end

theorem nextD_any (w : World) (b : Nat) (x : En) (r : ByteArray) (z : Int) (T : Tk w b x r z) (v : Int × Int) (r' : ByteArray) (z' : Int) (h : StD r z v r' z') (hs : r.size ≤ 100000) :
    Calls Tryz.prog 84 #[.pointer (some ⟨b, 0, none⟩), .func (.func 83) #[] #[]] w fun e w' => e = .returned (.agg #[.int .i64 v.1, .int .i64 v.2]) ∧ Tk w' b x r' z' ∧ KeptE b w w' := by
  rcases h with ⟨rfl, h1, h2, h3⟩ | ⟨hz, rfl, rfl, rfl⟩
  · exact nextD_go w b x r T v r' z' h1 h2 h3 hs
  · exact nextD_not w b x r' z' T hz
theorem nextP_any (w : World) (b : Nat) (x : En) (r : ByteArray) (z : Int) (T : Tk w b x r z) (v : ByteArray) (r' : ByteArray) (z' : Int) (h : StP r z v r' z') (hs : r.size ≤ 100000) :
    Calls Tryz.prog 85 #[.pointer (some ⟨b, 0, none⟩), .func (.func 86) #[] #[]] w fun e w' => e = .returned (.string v) ∧ Tk w' b x r' z' ∧ KeptE b w w' := by
  rcases h with ⟨rfl, h1, h2, h3⟩ | ⟨hz, rfl, rfl, rfl⟩
  · exact nextP_go w b x r T v r' z' h1 h2 h3 hs
  · exact nextP_not w b x r' z' T hz
theorem nextK_any (w : World) (b : Nat) (x : En) (r : ByteArray) (z : Int) (T : Tk w b x r z) (v : Int) (r' : ByteArray) (z' : Int) (h : StK r z v r' z') (hs : r.size ≤ 100000) :
    Calls Tryz.prog 87 #[.pointer (some ⟨b, 0, none⟩), .func (.func 63) #[] #[]] w fun e w' => e = .returned (.int .u64 v) ∧ Tk w' b x r' z' ∧ KeptE b w w' := by
  rcases h with ⟨rfl, h1, h2, h3⟩ | ⟨hz, rfl, rfl, rfl⟩
  · exact nextK_go w b x r T v r' z' h1 h2 h3 hs
  · exact nextK_not w b x r' z' T hz
theorem nextV_any (w : World) (b : Nat) (x : En) (r : ByteArray) (z : Int) (T : Tk w b x r z) (k n : Int) (t : ByteArray) (r' : ByteArray) (z' : Int) (h : StV r z k n t r' z') (hs : r.size ≤ 100000) :
    Calls Tryz.prog 88 #[.pointer (some ⟨b, 0, none⟩), .func (.func 89) #[] #[]] w fun e w' => e = .returned (.agg #[.int .i64 k, .int .i64 n, .string t]) ∧ Tk w' b x r' z' ∧ KeptE b w w' := by
  rcases h with ⟨rfl, h1, h2, h3, h4, h5⟩ | ⟨hz, rfl, rfl, rfl, rfl, rfl⟩
  · exact nextV_go w b x r T k n t r' z' h1 h2 h3 h4 h5 hs
  · exact nextV_not w b x r' z' T hz

theorem KeptE.comp {G : Nat} {W w u : World} (h : KeptE G W w) (k : KeptE G w u) : KeptE G W u :=
  ⟨k.os.trans h.os, k.output.trans h.output, Nat.le_trans h.size k.size, fun i hi hg => (k.blk i (Nat.lt_of_lt_of_le hi h.size) hg).trans (h.blk i hi hg)⟩
theorem Tk.setD {w : World} {b : Nat} {x : En} {r : ByteArray} {z : Int} (h : Tk w b x r z) (v : Int × Int) : Tk ((w.setCell ⟨b, 0, none⟩ (.int .i64 v.1)).setCell ⟨b, 1, none⟩ (.int .i64 v.2)) b { x with d := v } r z :=
  ⟨⟨(off_cell (on_cell h.ent.c0) (by omega)), (on_cell (off_cell h.ent.c1 (by omega))), (off_cell (off_cell h.ent.c2 (by omega)) (by omega)), (off_cell (off_cell h.ent.c3 (by omega)) (by omega)), (off_cell (off_cell h.ent.c4 (by omega)) (by omega)), (off_cell (off_cell h.ent.c5 (by omega)) (by omega)), (off_cell (off_cell h.ent.c6 (by omega)) (by omega)), (off_cell (off_cell h.ent.c7 (by omega)) (by omega)), (off_cell (off_cell h.ent.c8 (by omega)) (by omega))⟩, (off_cell (off_cell h.c9 (by omega)) (by omega)), (off_cell (off_cell h.c10 (by omega)) (by omega)), fun i => by rw [World.frozen?_setCell, World.frozen?_setCell]; exact h.f i⟩
theorem Tk.setP {w : World} {b : Nat} {x : En} {r : ByteArray} {z : Int} (h : Tk w b x r z) (v : ByteArray) : Tk (w.setCell ⟨b, 2, none⟩ (.string v)) b { x with p := v } r z :=
  ⟨⟨(off_cell h.ent.c0 (by omega)), (off_cell h.ent.c1 (by omega)), (on_cell h.ent.c2), (off_cell h.ent.c3 (by omega)), (off_cell h.ent.c4 (by omega)), (off_cell h.ent.c5 (by omega)), (off_cell h.ent.c6 (by omega)), (off_cell h.ent.c7 (by omega)), (off_cell h.ent.c8 (by omega))⟩, (off_cell h.c9 (by omega)), (off_cell h.c10 (by omega)), fun i => by rw [World.frozen?_setCell]; exact h.f i⟩
theorem Tk.setK {w : World} {b : Nat} {x : En} {r : ByteArray} {z : Int} (h : Tk w b x r z) (v : Int) : Tk (w.setCell ⟨b, 3, none⟩ (.int .i64 v)) b { x with k := v } r z :=
  ⟨⟨(off_cell h.ent.c0 (by omega)), (off_cell h.ent.c1 (by omega)), (off_cell h.ent.c2 (by omega)), (on_cell h.ent.c3), (off_cell h.ent.c4 (by omega)), (off_cell h.ent.c5 (by omega)), (off_cell h.ent.c6 (by omega)), (off_cell h.ent.c7 (by omega)), (off_cell h.ent.c8 (by omega))⟩, (off_cell h.c9 (by omega)), (off_cell h.c10 (by omega)), fun i => by rw [World.frozen?_setCell]; exact h.f i⟩
theorem Tk.setV {w : World} {b : Nat} {x : En} {r : ByteArray} {z : Int} (h : Tk w b x r z) (k n : Int) (t : ByteArray) : Tk (((w.setCell ⟨b, 4, none⟩ (.int .i64 k)).setCell ⟨b, 5, none⟩ (.int .i64 n)).setCell ⟨b, 6, none⟩ (.string t)) b { x with vk := k, vn := n, vt := t } r z :=
  ⟨⟨(off_cell (off_cell (off_cell h.ent.c0 (by omega)) (by omega)) (by omega)), (off_cell (off_cell (off_cell h.ent.c1 (by omega)) (by omega)) (by omega)), (off_cell (off_cell (off_cell h.ent.c2 (by omega)) (by omega)) (by omega)), (off_cell (off_cell (off_cell h.ent.c3 (by omega)) (by omega)) (by omega)), (off_cell (off_cell (on_cell h.ent.c4) (by omega)) (by omega)), (off_cell (on_cell (off_cell h.ent.c5 (by omega))) (by omega)), (on_cell (off_cell (off_cell h.ent.c6 (by omega)) (by omega))), (off_cell (off_cell (off_cell h.ent.c7 (by omega)) (by omega)) (by omega)), (off_cell (off_cell (off_cell h.ent.c8 (by omega)) (by omega)) (by omega))⟩, (off_cell (off_cell (off_cell h.c9 (by omega)) (by omega)) (by omega)), (off_cell (off_cell (off_cell h.c10 (by omega)) (by omega)) (by omega)), fun i => by rw [World.frozen?_setCell, World.frozen?_setCell, World.frozen?_setCell]; exact h.f i⟩
theorem Tk.setE {w : World} {b : Nat} {x : En} {r : ByteArray} {z : Int} (h : Tk w b x r z) (v : Int × Int) : Tk ((w.setCell ⟨b, 7, none⟩ (.int .i64 v.1)).setCell ⟨b, 8, none⟩ (.int .i64 v.2)) b { x with e := v } r z :=
  ⟨⟨(off_cell (off_cell h.ent.c0 (by omega)) (by omega)), (off_cell (off_cell h.ent.c1 (by omega)) (by omega)), (off_cell (off_cell h.ent.c2 (by omega)) (by omega)), (off_cell (off_cell h.ent.c3 (by omega)) (by omega)), (off_cell (off_cell h.ent.c4 (by omega)) (by omega)), (off_cell (off_cell h.ent.c5 (by omega)) (by omega)), (off_cell (off_cell h.ent.c6 (by omega)) (by omega)), (off_cell (on_cell h.ent.c7) (by omega)), (on_cell (off_cell h.ent.c8 (by omega)))⟩, (off_cell (off_cell h.c9 (by omega)) (by omega)), (off_cell (off_cell h.c10 (by omega)) (by omega)), fun i => by rw [World.frozen?_setCell, World.frozen?_setCell]; exact h.f i⟩
end Go.Proofs.YtoggcpfogeoeaaaGreatDoor

namespace Go.Proofs.YtoggcpfogeoeaaaGreatDoor
open Go.RowKit
set_option linter.unusedVariables false

theorem te_ret {s : ByteArray} {x : En} {r : ByteArray} {e : Nat} {z : Int} (h : teL s = (x, r, e)) (hz : (e : Int) = z) :
    Ending.returned (.tuple #[.agg #[.int .i64 x.d.1, .int .i64 x.d.2, .string x.p, .int .i64 x.k, .int .i64 x.vk, .int .i64 x.vn, .string x.vt, .int .i64 x.e.1, .int .i64 x.e.2], .string r, .int .i64 z]) = .returned (.tuple #[.agg #[.int .i64 (teX s).d.1, .int .i64 (teX s).d.2, .string (teX s).p, .int .i64 (teX s).k, .int .i64 (teX s).vk, .int .i64 (teX s).vn, .string (teX s).vt, .int .i64 (teX s).e.1, .int .i64 (teX s).e.2], .string (teR s), .int .i64 (teE s)]) := by
  obtain ⟨h1, h2, h3⟩ := te_of h
  rw [h1, h2, h3, hz]

theorem keptE_E {G : Nat} {W w : World} (h : KeptE G W w) (v : Int × Int) : KeptE G W ((w.setCell ⟨G, 7, none⟩ (.int .i64 v.1)).setCell ⟨G, 8, none⟩ (.int .i64 v.2)) := (h.set (.inl rfl) _).set (.inl rfl) _
theorem tvT_size (s : ByteArray) : (tvT s).size ≤ 200 := by
  unfold tvT tvL
  by_cases e1 : tkE s ≠ 0
  · rw [if_pos e1]; exact Nat.zero_le _
  rw [if_neg e1]
  by_cases e2 : 3 < tkN s
  · rw [if_pos e2]; exact Nat.zero_le _
  rw [if_neg e2]
  by_cases e3 : tkN s = 0
  · rw [if_pos e3]; exact Nat.zero_le _
  rw [if_neg e3]
  by_cases e4 : tkN s = 2
  · rw [if_pos e4]
    by_cases e5 : ttE (tkR s) 200 ≠ 0
    · rw [if_pos e5]; exact Nat.zero_le _
    · rw [if_neg e5]; exact tt_size (tkR s)
  rw [if_neg e4]
  by_cases e5 : tkE (tkR s) ≠ 0
  · rw [if_pos e5]; exact Nat.zero_le _
  rw [if_neg e5]
  by_cases e6 : rightB (tkN s) (tiN (tkR s)) ⟨#[]⟩ = true
  · rw [if_pos e6]; exact Nat.zero_le _
  · rw [if_neg e6]; exact Nat.zero_le _
theorem ttT_size (s : ByteArray) : (ttT s 102).size ≤ 102 := by
  by_cases h : ttE s 102 = 0
  · have := (tt_aft s 102 h).2.1; omega
  · have : ttT s 102 = ⟨#[]⟩ := by
      unfold ttE ttL at h
      unfold ttT ttL
      by_cases h1 : tkE s ≠ 0
      · rw [if_pos h1]
      rw [if_neg h1] at h ⊢
      by_cases h2 : (102 : Int) < 0 ∨ (102 : Int) < (tkN s : Int)
      · rw [if_pos h2]
      rw [if_neg h2] at h ⊢
      by_cases h3 : (tkR s).size < tkN s
      · rw [if_pos h3]
      · rw [if_neg h3] at h; simp at h
    rw [this]
    exact Nat.zero_le _

theorem te_err (s : ByteArray) (h : errE s ≠ 0) : teL s = (.none, ⟨#[]⟩, errE s) := by
  unfold teL
  rw [if_pos h]
theorem te_form (s : ByteArray) (h : errE s = 0) (h2 : ¬ (tkN (r2 s) ≤ 3 ∧ rightE (enK s (tkN (r2 s))) = true)) : teL s = (.none, ⟨#[]⟩, 3) := by
  unfold teL
  rw [if_neg (by omega), if_neg h2]
/-- The block of the result: nine cells that may be written. -/
structure Re (w : World) (b : Nat) : Prop where
  ent : Ent w b .none
  f : ∀ i, w.frozen? ⟨b, i, none⟩ = false
theorem Re.keptE {G : Nat} {w w' : World} {b : Nat} (h : Re w b) (k : KeptE G w w') (hb : b ≠ G) : Re w' b :=
  ⟨⟨k.cell hb h.ent.c0, k.cell hb h.ent.c1, k.cell hb h.ent.c2, k.cell hb h.ent.c3, k.cell hb h.ent.c4, k.cell hb h.ent.c5, k.cell hb h.ent.c6, k.cell hb h.ent.c7, k.cell hb h.ent.c8⟩,
   fun i => k.froz hb (World.block_lt_of_cell? w _ h.ent.c0) (h.f i)⟩
theorem froz_new (w : World) (c : Array Value) (t : TypeId) (i : Nat) : (w.alloc (.cells c t)).frozen? ⟨w.heap.size, i, none⟩ = false := by
  rw [frozen?_alloc_cells]; simp [World.frozen?]
end Go.Proofs.YtoggcpfogeoeaaaGreatDoor

namespace Go.Proofs.YtoggcpfogeoeaaaGreatDoor
open Go.RowKit
set_option linter.unusedVariables false

set_option maxRecDepth 100000 in
set_option maxHeartbeats 16000000 in
theorem etake_err (s : ByteArray) (w : World) (hs : s.size ≤ 100000) {v1 : Int × Int} {a1 : ByteArray} {z1 : Int} {v2 a2 : ByteArray} {z2 : Int} {v3 : Int} {a3 : ByteArray} {z3 : Int} {k n : Int} {t a4 : ByteArray} {z4 : Int} {v5 : Int × Int} {a5 : ByteArray} {z5 : Int} (S : Steps s v1 a1 z1 v2 a2 z2 v3 a3 z3 k n t a4 z4 v5 a5 z5) (hz : z5 ≠ 0) :
    Calls Tryz.prog 64 #[.string s] w fun e w' => e = .returned (.tuple #[.agg #[.int .i64 (teX s).d.1, .int .i64 (teX s).d.2, .string (teX s).p, .int .i64 (teX s).k, .int .i64 (teX s).vk, .int .i64 (teX s).vn, .string (teX s).vt, .int .i64 (teX s).e.1, .int .i64 (teX s).e.2], .string (teR s), .int .i64 (teE s)]) ∧ Kept w w' := by
  have HALL := S.all
  have HR := Lib.hid (te_ret (s := s) (x := ⟨(0, 0), ⟨#[]⟩, 0, 0, 0, ⟨#[]⟩, (0, 0)⟩) (r := ⟨#[]⟩) (e := errE s) (z := z5) (te_err s (by omega)) HALL.1.symm)
  obtain ⟨kk, hkk⟩ : ∃ kk, IntKind.i64.wrap v3 = kk := ⟨_, rfl⟩
  have HCV := Lib.hid hkk
  have e0 : (z5 == 0) = false := by simpa using hz
  have e1 : (z5 != 0) = true := by simpa using hz
  clear hkk hz
  have A1 := Lib.hid (fun w b x T => nextD_any w b x s 0 T v1 a1 z1 S.s1 (by have := S.l1; omega))
  have A2 := Lib.hid (fun w b x T => nextP_any w b x a1 z1 T v2 a2 z2 S.s2 (by have := S.l1; omega))
  have A3 := Lib.hid (fun w b x T => nextK_any w b x a2 z2 T v3 a3 z3 S.s3 (by have := S.l2; omega))
  have A4 := Lib.hid (fun w b x T => nextV_any w b x a3 z3 T k n t a4 z4 S.s4 (by have := S.l3; omega))
  have A5 := Lib.hid (fun w b x T => nextD_any w b x a4 z4 T v5 a5 z5 S.s5 (by have := S.l4; omega))
  clear S HALL hs
  have hsz : (w.alloc (.cells #[.int .i64 0, .int .i64 0, .string ⟨#[]⟩, .int .i64 0, .int .i64 0, .int .i64 0, .string ⟨#[]⟩, .int .i64 0, .int .i64 0] 35)).heap.size = w.heap.size + 1 := by simp
  have ne1 : ¬ w.heap.size = w.heap.size + 1 := (by omega)
  have ne2 : ¬ w.heap.size + 1 = w.heap.size := (by omega)
  have T0 := Lib.hid (show Tk ((w.alloc (.cells #[.int .i64 0, .int .i64 0, .string ⟨#[]⟩, .int .i64 0, .int .i64 0, .int .i64 0, .string ⟨#[]⟩, .int .i64 0, .int .i64 0] 35)).alloc (.cells #[.int .i64 0, .int .i64 0, .string ⟨#[]⟩, .int .i64 0, .int .i64 0, .int .i64 0, .string ⟨#[]⟩, .int .i64 0, .int .i64 0, .string s, .int .i64 0] 134)) (w.heap.size + 1) .none s 0 by
    have b := fun i v hv => (Kept.refl ((w.alloc (.cells #[.int .i64 0, .int .i64 0, .string ⟨#[]⟩, .int .i64 0, .int .i64 0, .int .i64 0, .string ⟨#[]⟩, .int .i64 0, .int .i64 0] 35)).alloc (.cells #[.int .i64 0, .int .i64 0, .string ⟨#[]⟩, .int .i64 0, .int .i64 0, .int .i64 0, .string ⟨#[]⟩, .int .i64 0, .int .i64 0, .string s, .int .i64 0] 134))).box i v hv
    rw [hsz] at b
    exact ⟨⟨b 0 _ rfl, b 1 _ rfl, b 2 _ rfl, b 3 _ rfl, b 4 _ rfl, b 5 _ rfl, b 6 _ rfl, b 7 _ rfl, b 8 _ rfl⟩, b 9 _ rfl, b 10 _ rfl, fun i => by have := froz_new (w.alloc (.cells #[.int .i64 0, .int .i64 0, .string ⟨#[]⟩, .int .i64 0, .int .i64 0, .int .i64 0, .string ⟨#[]⟩, .int .i64 0, .int .i64 0] 35)) #[.int .i64 0, .int .i64 0, .string ⟨#[]⟩, .int .i64 0, .int .i64 0, .int .i64 0, .string ⟨#[]⟩, .int .i64 0, .int .i64 0, .string s, .int .i64 0] 134 i; rwa [hsz] at this⟩)
  have R0 := Lib.hid (show Re ((w.alloc (.cells #[.int .i64 0, .int .i64 0, .string ⟨#[]⟩, .int .i64 0, .int .i64 0, .int .i64 0, .string ⟨#[]⟩, .int .i64 0, .int .i64 0] 35)).alloc (.cells #[.int .i64 0, .int .i64 0, .string ⟨#[]⟩, .int .i64 0, .int .i64 0, .int .i64 0, .string ⟨#[]⟩, .int .i64 0, .int .i64 0, .string s, .int .i64 0] 134)) w.heap.size from
    ⟨(Ent.new w .none 35).kept ((Kept.refl _).alloc _ _), fun i => (((Kept.refl (w.alloc (.cells #[.int .i64 0, .int .i64 0, .string ⟨#[]⟩, .int .i64 0, .int .i64 0, .int .i64 0, .string ⟨#[]⟩, .int .i64 0, .int .i64 0] 35))).alloc #[.int .i64 0, .int .i64 0, .string ⟨#[]⟩, .int .i64 0, .int .i64 0, .int .i64 0, .string ⟨#[]⟩, .int .i64 0, .int .i64 0, .string s, .int .i64 0] 134).2.1 ⟨w.heap.size, i, none⟩ (by rw [hsz]; exact Nat.lt_succ_self _)).trans (froz_new w _ _ i)⟩)
  have K0 := Lib.hid (((Kept.refl w).alloc #[.int .i64 0, .int .i64 0, .string ⟨#[]⟩, .int .i64 0, .int .i64 0, .int .i64 0, .string ⟨#[]⟩, .int .i64 0, .int .i64 0] 35).alloc #[.int .i64 0, .int .i64 0, .string ⟨#[]⟩, .int .i64 0, .int .i64 0, .int .i64 0, .string ⟨#[]⟩, .int .i64 0, .int .i64 0, .string s, .int .i64 0] 134)
  clear hsz
  go_enter Tryz.func64, Tryz.ntmps64
  go_wp2_with fail
  go_at_call 84
  refine (A1.out _ (w.heap.size + 1) _ (T0.out)).mono ?_
  rintro e w1 ⟨rfl, hT, hK⟩
  have E1 := Lib.hid hK
  have T1 := Lib.hid hT
  have y0 := hT.ent.c0; have g0 := hT.f 0; have y1 := hT.ent.c1; have g1 := hT.f 1
  clear hT hK
  go_wp2_with fail
  go_at_call 85
  refine (A2.out _ (w.heap.size + 1) _ (T1.out.setD v1)).mono ?_
  rintro e w2 ⟨rfl, hT, hK⟩
  have E2 := Lib.hid (((E1.out.set (.inl rfl) _).set (.inl rfl) _).comp hK)
  clear y0 g0 y1 g1
  have T2 := Lib.hid hT
  have y2 := hT.ent.c2; have g2 := hT.f 2
  clear hT hK
  go_wp2_with fail
  go_at_call 87
  refine (A3.out _ (w.heap.size + 1) _ (T2.out.setP v2)).mono ?_
  rintro e w3 ⟨rfl, hT, hK⟩
  have E3 := Lib.hid ((E2.out.set (.inl rfl) _).comp hK)
  clear y2 g2
  have T3 := Lib.hid hT
  have y3 := hT.ent.c3; have g3 := hT.f 3
  clear hT hK
  have hcv := HCV.out
  go_wp2_with fail
  go_at_call 88
  refine (A4.out _ (w.heap.size + 1) _ (T3.out.setK kk)).mono ?_
  rintro e w4 ⟨rfl, hT, hK⟩
  have E4 := Lib.hid ((E3.out.set (.inl rfl) _).comp hK)
  clear y3 g3
  have T4 := Lib.hid hT
  have y4 := hT.ent.c4; have g4 := hT.f 4; have y5 := hT.ent.c5; have g5 := hT.f 5; have y6 := hT.ent.c6; have g6 := hT.f 6
  clear hT hK
  go_wp2_with fail
  go_at_call 84
  refine (A5.out _ (w.heap.size + 1) _ (T4.out.setV k n t)).mono ?_
  rintro e w5 ⟨rfl, hT, hK⟩
  have E5 := Lib.hid ((((E4.out.set (.inl rfl) _).set (.inl rfl) _).set (.inl rfl) _).comp hK)
  clear y4 g4 y5 g5 y6 g6
  have T5 := Lib.hid hT
  have y7 := hT.ent.c7; have g7 := hT.f 7; have y8 := hT.ent.c8; have g8 := hT.f 8
  clear hT hK
  have c10 := T5.out.c10
  have RR := R0.out.keptE E5.out ne1
  have x0 := RR.ent.c0; have x1 := RR.ent.c1; have x2 := RR.ent.c2; have x3 := RR.ent.c3; have x4 := RR.ent.c4; have x5 := RR.ent.c5; have x6 := RR.ent.c6; have x7 := RR.ent.c7; have x8 := RR.ent.c8
  have xf := RR.f
  clear RR
  go_wp2_with fail
  go_region
  all_goals go_wp2_with fail
  all_goals (refine bodyPost_ret (by simp [results, Tryz.results64, go_sem, *]) rfl ⟨HR.out, ?_⟩)
  all_goals refine Kept.drew ?_
  all_goals (exact ((((((((((KeptE.kept (keptE_E E5.out v5) K0.out (Nat.le_succ _)).setCell (Nat.le_refl _) _).setCell (Nat.le_refl _) _).setCell (Nat.le_refl _) _).setCell (Nat.le_refl _) _).setCell (Nat.le_refl _) _).setCell (Nat.le_refl _) _).setCell (Nat.le_refl _) _).setCell (Nat.le_refl _) _).setCell (Nat.le_refl _) _))
end Go.Proofs.YtoggcpfogeoeaaaGreatDoor

