/-
  What is proved: the document's own number and Text of layer 3, called with any value, return what P3.5 says; the world has new blocks at most.
  Text of package dot and of the document's layer 5, called with any dot, returns what P5.8 says; the world has new blocks at most.
  plain facts on what events left (P7.1 to P7.6): what is right, as bytes, as it is told; what is right is put and taken, whatever follows; what is taken is right, and put as these bytes; no program is spoken of here.
-/
import Derived.Test.YtoggcpfogeoeaaaGreatDoorM10
import Derived.Test.YtoggcpfogeoeaaaGreatDoorM9
import Derived.Test.YtoggcpfogeoeaaaGreatDoorM6
import Derived.Test.YtoggcpfogeoeaaaGreatDoorM7
namespace Go.Proofs.YtoggcpfogeoeaaaGreatDoor
open Go.RowKit

def digS (u : Nat) : ByteArray := ⟨(Lib.decDigits u).toArray⟩
/-- What holds at each round's head: u is left, o are the digits behind it. -/
def NumInv (N u : Nat) (o : ByteArray) : Prop := digS u ++ o = digS N ∧ u ≤ N ∧ o.size + (Lib.decDigits u).length = (Lib.decDigits N).length
theorem numInv_step {N u : Nat} {o : ByteArray} (h : NumInv N u o) (hu : 10 ≤ u) : NumInv N (u / 10) (byteS (48 + (u : Int) % 10) ++ o) := by
  obtain ⟨h1, h2, h3⟩ := h
  have e : Lib.decDigits u = Lib.decDigits (u / 10) ++ [UInt8.ofNat (48 + u % 10)] := by rw [Lib.decDigits, dif_neg (by omega)]
  refine ⟨?_, by omega, ?_⟩
  · rw [← h1]
    apply ba_ext
    rw [ba_app, ba_app, ba_app]
    show Lib.decDigits (u / 10) ++ ([UInt8.ofNat (48 + (u : Int) % 10).toNat] ++ o.data.toList) = Lib.decDigits u ++ o.data.toList
    rw [e, show (48 + (u : Int) % 10).toNat = 48 + u % 10 by omega]
    simp
  · rw [ByteArray.size_append, byteS_size]
    rw [e] at h3
    simp at h3
    omega
theorem numInv_end {N u : Nat} {o : ByteArray} (h : NumInv N u o) (hu : u < 10) : byteS (48 + (u : Int)) ++ o = digS N := by
  rw [← h.1]
  congr 1
  unfold byteS digS
  rw [Lib.decDigits_one hu, show (48 + (u : Int)).toNat = 48 + u by omega]

theorem itoa_pos (n : Int) (h : 0 ≤ n) : digS n.natAbs = itoaS n := by
  unfold digS itoaS Lib.itoa
  rw [if_neg (by omega), show n.natAbs = n.toNat by omega]
theorem itoa_min (n : Int) (h : n < 0) : (⟨#[45]⟩ : ByteArray) ++ digS n.natAbs = itoaS n := by
  unfold digS itoaS Lib.itoa
  rw [if_pos h]
  apply ba_ext
  rw [ba_app]
  rfl

theorem digs_len (u : Nat) (h : u ≤ 9223372036854775808) : (Lib.decDigits u).length ≤ 21 := by
  by_cases e : u = 9223372036854775808
  · subst e
    have := Lib.itoa_length_le (-9223372036854775808) (by decide) (by decide)
    unfold Lib.itoa at this
    rw [if_pos (by decide)] at this
    simp only [List.length_cons] at this
    have e2 : (-9223372036854775808 : Int).natAbs = 9223372036854775808 := by decide
    rw [e2] at this
    omega
  · have := Lib.itoa_length_le (u : Int) (by omega) (by omega)
    unfold Lib.itoa at this
    rw [if_neg (by omega)] at this
    simpa using this

theorem idx_no (wx : World) : (Instr.index 146 (.agg #[.string ⟨#[110, 111]⟩, .string ⟨#[121, 101, 115]⟩]) (.int .i64 0)).run Tryz.prog wx = .ok (.string ⟨#[110, 111]⟩) wx := by kernel_rfl
theorem idx_yes (wx : World) : (Instr.index 146 (.agg #[.string ⟨#[110, 111]⟩, .string ⟨#[121, 101, 115]⟩]) (.int .i64 1)).run Tryz.prog wx = .ok (.string ⟨#[121, 101, 115]⟩) wx := by kernel_rfl

end Go.Proofs.YtoggcpfogeoeaaaGreatDoor

namespace Go.Proofs.YtoggcpfogeoeaaaGreatDoor
open Go.RowKit

/-- P5.8. -/
def textD (x : Int × Int) : ByteArray := itoaS x.1 ++ ⟨#[46]⟩ ++ itoaS x.2

theorem itoaS_size (n : Int) (h0 : -9223372036854775808 ≤ n) (h1 : n ≤ 9223372036854775807) : (itoaS n).size ≤ 21 := by
  have := Lib.itoa_length_le n h0 h1
  show (Lib.itoa n).toArray.size ≤ 21
  rw [List.size_toArray]
  omega
theorem dnum_any (n : Int) (w : World) (h0 : -9223372036854775808 ≤ n) (h1 : n ≤ 9223372036854775807) (hl : LaidW w) :
    Calls Tryz.prog 92 #[.int .i64 n] w fun e w' => e = .returned (.string (itoaS n)) ∧ Kept w w' := by
  have HT := Lib.hid (vtext_any 1 n ⟨#[]⟩ w h0 h1 (by decide) hl)
  clear hl
  go_enter Tryz.func92, Tryz.ntmps92
  go_wp2_with fail
  go_at_call 73
  refine HT.out.mono ?_
  rintro e w1 ⟨rfl, hg⟩
  go_wp2_with fail
  go_ret
  exact ⟨ret_str rfl, hg⟩
set_option maxRecDepth 100000 in
set_option maxHeartbeats 1000000 in
theorem dtext_any (x : Int × Int) (r : ByteArray) (hr : textD x = r) (w : World) (h1 : -9223372036854775808 ≤ x.1) (h2 : x.1 ≤ 9223372036854775807) (h3 : -9223372036854775808 ≤ x.2) (h4 : x.2 ≤ 9223372036854775807) (hl : LaidW w) :
    Calls Tryz.prog 72 #[.agg #[.int .i64 x.1, .int .i64 x.2]] w fun e w' => e = .returned (.string r) ∧ Kept w w' := by
  subst hr
  obtain ⟨x1, x2⟩ := x
  simp only at h1 h2 h3 h4
  have z1 := itoaS_size x1 h1 h2
  have z2 := itoaS_size x2 h3 h4
  have HA := Lib.hid (fun w hl => dnum_any x1 w h1 h2 hl)
  have HB := Lib.hid (fun w hl => dnum_any x2 w h3 h4 hl)
  have HL := Lib.hid (hl.kept ((Kept.refl w).alloc #[.int .i64 x1, .int .i64 x2] 31))
  have HR := Lib.hid (show itoaS x1 ++ ⟨#[46]⟩ ++ itoaS x2 = textD (x1, x2) from rfl)
  have c0 := KExt.cell (Kept.box0 (Kept.refl (w.alloc (.cells #[.int .i64 x1, .int .i64 x2] 31))))
  have c1 := KExt.cell (Kept.box1 (Kept.refl (w.alloc (.cells #[.int .i64 x1, .int .i64 x2] 31))))
  have p1 : ((⟨#[46]⟩ : ByteArray)).size = 1 := rfl
  clear hl
  go_enter Tryz.func72, Tryz.ntmps72
  go_wp2_with fail
  refine region_kept _ (by kernel_rfl) (by kernel_rfl) (Kept.refl _) ?_
  repeat (go_big_quiet_step ((first
    | (go_at_call 92; (with_reducible exact KExt.callsK (HA.out _ (HL.out.kept (KExt.g _)))))
    | (go_at_call 92; (with_reducible exact KExt.callsK (HB.out _ (HL.out.kept (KExt.g _)))))
    | fail)))
  refine wpQuiet_nil ?_
  intro g
  go_wp2_with fail
  go_ret
  exact ⟨ret_str HR.out, ((Kept.refl w).alloc _ _).trans g.g⟩
end Go.Proofs.YtoggcpfogeoeaaaGreatDoor

namespace Go.Proofs.YtoggcpfogeoeaaaGreatDoor
open Go.RowKit

/-- What an event left. -/
structure En where
  d : Int × Int
  p : ByteArray
  k : Int
  vk : Int
  vn : Int
  vt : ByteArray
  e : Int × Int
def En.none : En := ⟨(0, 0), ⟨#[]⟩, 0, 0, 0, ⟨#[]⟩, (0, 0)⟩

/-- P7.1. -/
def kindE (k vk : Int) : Bool := decide (k = 1 ∨ k = 2 ∨ k = 3 ∧ vk = 1)
def verE (d : Int × Int) : Bool := decide (d.1 = 0 ∧ d.2 = 0) || rightD d
def rightE (x : En) : Bool := rightD x.d && L4.rightS x.p && kindE x.k x.vk && rightB x.vk x.vn x.vt && verE x.e
/-- P7.3. -/
def putE (b : ByteArray) (x : En) : ByteArray := putD (putV (putD b x.d ++ putS x.p.size ++ x.p ++ putS (x.k % 4).toNat) x.vk x.vn x.vt) x.e
/-- P7.5. -/
def markE (k : Int) : ByteArray := if k % 4 = 1 then ⟨#[61]⟩ else if k % 4 = 2 then ⟨#[43]⟩ else if k % 4 = 3 then ⟨#[35]⟩ else ⟨#[63]⟩
def textE (x : En) : ByteArray := textD x.d ++ ⟨#[32]⟩ ++ x.p ++ markE x.k ++ textV x.vk x.vn x.vt ++ ⟨#[64]⟩ ++ textD x.e

/-- P7.4: what is left to take, part by part. -/
def r1 (s : ByteArray) : ByteArray := tdR s
def r2 (s : ByteArray) : ByteArray := ttR (r1 s) 102
def r3 (s : ByteArray) : ByteArray := tkR (r2 s)
def r4 (s : ByteArray) : ByteArray := tvR (r3 s)
def r5 (s : ByteArray) : ByteArray := tdR (r4 s)
def enK (s : ByteArray) (k : Int) : En := ⟨tdX s, ttT (r1 s) 102, k, tvK (r3 s), tvI (r3 s), tvT (r3 s), tdX (r4 s)⟩
/-- P7.4: the first error. -/
def errE (s : ByteArray) : Nat :=
  if tdE s ≠ 0 then tdE s else if ttE (r1 s) 102 ≠ 0 then ttE (r1 s) 102 else if tkE (r2 s) ≠ 0 then tkE (r2 s) else if tvE (r3 s) ≠ 0 then tvE (r3 s) else tdE (r4 s)
def teL (s : ByteArray) : En × ByteArray × Nat :=
  if errE s ≠ 0 then (.none, ⟨#[]⟩, errE s)
  else if tkN (r2 s) ≤ 3 ∧ rightE (enK s (tkN (r2 s))) = true then (enK s (tkN (r2 s)), r5 s, 0)
  else (.none, ⟨#[]⟩, 3)
def teX (s : ByteArray) : En := (teL s).1
def teR (s : ByteArray) : ByteArray := (teL s).2.1
def teE (s : ByteArray) : Nat := (teL s).2.2
theorem te_of {s : ByteArray} {x : En} {r : ByteArray} {e : Nat} (h : teL s = (x, r, e)) : teX s = x ∧ teR s = r ∧ teE s = e := by
  unfold teX teR teE; rw [h]; exact ⟨rfl, rfl, rfl⟩

theorem rightS_size {p : ByteArray} (h : L4.rightS p = true) : p.size ≤ 102 := by
  unfold L4.rightS L4.rightL at h
  simp only [Bool.and_eq_true, List.all_eq_true, decide_eq_true_eq] at h
  have h2 := L4.joi_len (L4.spl p.data.toList) 16 fun s hs => (L4.segL_len s (h.1 s hs)).1
  rw [L4.joi_spl, ← ba_size] at h2
  have := Nat.mul_le_mul_right 17 h.2
  omega
theorem rightE_of {x : En} : rightE x = true ↔ rightD x.d = true ∧ L4.rightS x.p = true ∧ kindE x.k x.vk = true ∧ rightB x.vk x.vn x.vt = true ∧ verE x.e = true := by
  unfold rightE
  simp only [Bool.and_eq_true, and_assoc]
theorem verE_of {d : Int × Int} (h : verE d = true) : d = (0, 0) ∨ rightD d = true := by
  unfold verE at h
  simp only [Bool.or_eq_true, decide_eq_true_eq] at h
  exact h.imp (fun h => Prod.ext h.1 h.2) id

theorem putV_enc (b : ByteArray) (k n : Int) (t : ByteArray) : putV b k n t = b ++ putV ⟨#[]⟩ k n t := by
  unfold putV
  repeat (first | rfl | split)
  all_goals (simp only [ba_nil, ba_assoc])
theorem putE_enc (b : ByteArray) (x : En) : putE b x = b ++ (encDo x.d ++ (putS x.p.size ++ (x.p ++ (putS (x.k % 4).toNat ++ (putV ⟨#[]⟩ x.vk x.vn x.vt ++ encDo x.e))))) := by
  unfold putE
  rw [putD_enc, putV_enc, putD_enc]
  simp only [ba_assoc]
theorem putE_nil (x : En) : putE ⟨#[]⟩ x = encDo x.d ++ (putS x.p.size ++ (x.p ++ (putS (x.k % 4).toNat ++ (putV ⟨#[]⟩ x.vk x.vn x.vt ++ encDo x.e)))) := by
  rw [putE_enc, ba_nil]

theorem tv_fore {k n : Int} {t : ByteArray} (h1 : -9223372036854775808 ≤ n) (h2 : n ≤ 9223372036854775807) (hr : rightB k n t = true) (x : ByteArray) :
    tvK (putV ⟨#[]⟩ k n t ++ x) = k ∧ tvI (putV ⟨#[]⟩ k n t ++ x) = n ∧ tvT (putV ⟨#[]⟩ k n t ++ x) = t ∧ tvR (putV ⟨#[]⟩ k n t ++ x) = x ∧ tvE (putV ⟨#[]⟩ k n t ++ x) = 0 := by
  have := tv_put k n t x h1 h2 hr
  unfold tvK tvI tvT tvR tvE
  rw [this]
  exact ⟨rfl, rfl, rfl, rfl, rfl⟩
theorem tv_aft (s : ByteArray) (h : tvE s = 0) (hr : rightB (tvK s) (tvI s) (tvT s) = true) : putV ⟨#[]⟩ (tvK s) (tvI s) (tvT s) ++ tvR s = s := by
  have hz : (zigI 0).toNat = 0 := rfl
  unfold tvE tvL at h
  unfold tvK tvI tvT tvL at hr
  unfold tvK tvI tvT tvR tvL
  by_cases h1 : tkE s ≠ 0
  · rw [if_pos h1] at h; exact absurd h h1
  rw [if_neg h1] at h hr ⊢
  by_cases h2 : 3 < tkN s
  · rw [if_pos h2] at h; simp at h
  rw [if_neg h2] at h hr ⊢
  by_cases h3 : tkN s = 0
  · rw [if_pos h3] at hr; simp [rightB] at hr
  rw [if_neg h3] at h hr ⊢
  have hs := tk_aft s (by omega)
  by_cases h4 : tkN s = 2
  · rw [if_pos h4] at h hr ⊢
    by_cases h5 : ttE (tkR s) 200 ≠ 0
    · rw [if_pos h5] at h; exact absurd h h5
    rw [if_neg h5]
    have ht := (tt_aft (tkR s) 200 (by omega)).1
    show (⟨#[]⟩ ++ putS 2 ++ putS (ttT (tkR s) 200).size ++ ttT (tkR s) 200) ++ ttR (tkR s) 200 = s
    rw [ba_nil]
    simp only [ba_assoc]
    rw [ht, ← h4]
    exact hs
  rw [if_neg h4] at h hr ⊢
  by_cases h5 : tkE (tkR s) ≠ 0
  · rw [if_pos h5] at h; exact absurd h h5
  rw [if_neg h5] at h hr ⊢
  by_cases h6 : rightB (tkN s) (tiN (tkR s)) ⟨#[]⟩ = true
  · rw [if_pos h6]
    have ht := ti_aft (tkR s) (by omega)
    have h7 : tkN s = 1 ∨ tkN s = 3 := by omega
    show putV ⟨#[]⟩ (tkN s) (tiN (tkR s)) ⟨#[]⟩ ++ tkR (tkR s) = s
    unfold putV
    rw [if_neg (by omega), if_neg (by omega), show ((tkN s : Int) % 4).toNat = tkN s by omega, ba_nil]
    simp only [ba_assoc]
    rw [ht]
    exact hs
  · rw [if_neg h6] at h; simp at h

/-- P7.6. -/
theorem te_fore {x : En} (h : rightE x = true) (h1 : -9223372036854775808 ≤ x.vn) (h2 : x.vn ≤ 9223372036854775807) (s : ByteArray) : teL (putE ⟨#[]⟩ x ++ s) = (x, s, 0) := by
  obtain ⟨a1, a2, a3, a4, a5⟩ := rightE_of.1 h
  have hk : x.k = 1 ∨ x.k = 2 ∨ x.k = 3 := by
    unfold kindE at a3
    simp only [decide_eq_true_eq] at a3
    omega
  have hkn : (x.k % 4).toNat < 18446744073709551616 := by omega
  have hk4 : (((x.k % 4).toNat : Nat) : Int) = x.k := by omega
  have e : putE ⟨#[]⟩ x ++ s = encDo x.d ++ (putS x.p.size ++ (x.p ++ (putS (x.k % 4).toNat ++ (putV ⟨#[]⟩ x.vk x.vn x.vt ++ (encDo x.e ++ s))))) := by
    rw [putE_nil]
    simp only [ba_assoc]
  obtain ⟨d1, d2, d3⟩ := td_fore x.d (putS x.p.size ++ (x.p ++ (putS (x.k % 4).toNat ++ (putV ⟨#[]⟩ x.vk x.vn x.vt ++ (encDo x.e ++ s))))) a1
  have hp := tt_fore x.p (putS (x.k % 4).toNat ++ (putV ⟨#[]⟩ x.vk x.vn x.vt ++ (encDo x.e ++ s))) 102 (by have := rightS_size a2; omega) (by decide)
  obtain ⟨k1, k2, k3⟩ := tk_fore (x.k % 4).toNat (putV ⟨#[]⟩ x.vk x.vn x.vt ++ (encDo x.e ++ s)) hkn
  obtain ⟨v1, v2, v3, v4, v5⟩ := tv_fore h1 h2 a4 (encDo x.e ++ s)
  obtain ⟨w1, w2, w3⟩ : tdX (encDo x.e ++ s) = x.e ∧ tdR (encDo x.e ++ s) = s ∧ tdE (encDo x.e ++ s) = 0 := by
    rcases verE_of a5 with h0 | h0
    · rw [h0]; exact td_none s
    · exact td_fore x.e s h0
  rw [e]
  have g1 : r1 (encDo x.d ++ (putS x.p.size ++ (x.p ++ (putS (x.k % 4).toNat ++ (putV ⟨#[]⟩ x.vk x.vn x.vt ++ (encDo x.e ++ s)))))) = putS x.p.size ++ (x.p ++ (putS (x.k % 4).toNat ++ (putV ⟨#[]⟩ x.vk x.vn x.vt ++ (encDo x.e ++ s)))) := d2
  generalize encDo x.d ++ (putS x.p.size ++ (x.p ++ (putS (x.k % 4).toNat ++ (putV ⟨#[]⟩ x.vk x.vn x.vt ++ (encDo x.e ++ s))))) = S at *
  have g2 : r2 S = putS (x.k % 4).toNat ++ (putV ⟨#[]⟩ x.vk x.vn x.vt ++ (encDo x.e ++ s)) := by unfold r2 ttR; rw [g1, hp]
  have g3 : r3 S = putV ⟨#[]⟩ x.vk x.vn x.vt ++ (encDo x.e ++ s) := by unfold r3; rw [g2, k2]
  have g4 : r4 S = encDo x.e ++ s := by unfold r4; rw [g3, v4]
  have g5 : r5 S = s := by unfold r5; rw [g4, w2]
  have gt : ttT (r1 S) 102 = x.p := by unfold ttT; rw [g1, hp]
  have gE : ttE (r1 S) 102 = 0 := by unfold ttE; rw [g1, hp]
  have he : errE S = 0 := by
    unfold errE
    rw [d3, gE, g2, k3, g3, v5, g4, w3]
    rfl
  have hx : enK S (tkN (r2 S)) = x := by
    unfold enK
    rw [d1, gt, g2, k1, hk4, g3, v1, v2, v3, g4, w1]
  unfold teL
  rw [he, if_neg (by simp), hx, g5, if_pos ⟨by rw [g2, k1]; omega, h⟩]
theorem err_none {s : ByteArray} (h : errE s = 0) : tdE s = 0 ∧ ttE (r1 s) 102 = 0 ∧ tkE (r2 s) = 0 ∧ tvE (r3 s) = 0 ∧ tdE (r4 s) = 0 := by
  unfold errE at h
  by_cases q1 : tdE s = 0
  · rw [if_neg (by omega)] at h
    by_cases q2 : ttE (r1 s) 102 = 0
    · rw [if_neg (by omega)] at h
      by_cases q3 : tkE (r2 s) = 0
      · rw [if_neg (by omega)] at h
        by_cases q4 : tvE (r3 s) = 0
        · rw [if_neg (by omega)] at h
          exact ⟨q1, q2, q3, q4, h⟩
        · rw [if_pos q4] at h; exact absurd h q4
      · rw [if_pos q3] at h; exact absurd h q3
    · rw [if_pos q2] at h; exact absurd h q2
  · rw [if_pos q1] at h; exact absurd h q1
/-- What is taken is put as these bytes. -/
theorem en_aft {s : ByteArray} (h : errE s = 0) (hk : tkN (r2 s) ≤ 3) (hr : rightB (tvK (r3 s)) (tvI (r3 s)) (tvT (r3 s)) = true) :
    encDo (tdX s) ++ (putS (ttT (r1 s) 102).size ++ (ttT (r1 s) 102 ++ (putS (((tkN (r2 s) : Nat) : Int) % 4).toNat ++ (putV ⟨#[]⟩ (tvK (r3 s)) (tvI (r3 s)) (tvT (r3 s)) ++ (encDo (tdX (r4 s)) ++ r5 s))))) = s := by
  obtain ⟨e1, e2, e3, e4, e5⟩ := err_none h
  have x5 : encDo (tdX (r4 s)) ++ r5 s = r4 s := td_aft (r4 s) e5
  have x4 : putV ⟨#[]⟩ (tvK (r3 s)) (tvI (r3 s)) (tvT (r3 s)) ++ r4 s = r3 s := tv_aft (r3 s) e4 hr
  have x3 : putS (tkN (r2 s)) ++ r3 s = r2 s := tk_aft (r2 s) e3
  have x2 : putS (ttT (r1 s) 102).size ++ (ttT (r1 s) 102 ++ r2 s) = r1 s := (tt_aft (r1 s) 102 e2).1
  have x1 : encDo (tdX s) ++ r1 s = s := td_aft s e1
  rw [x5, x4, show (((tkN (r2 s) : Nat) : Int) % 4).toNat = tkN (r2 s) by omega, x3, x2, x1]
/-- P7.6, the way back. -/
theorem te_aft {s : ByteArray} (h : teE s = 0) : rightE (teX s) = true ∧ putE ⟨#[]⟩ (teX s) ++ teR s = s := by
  by_cases h1 : errE s = 0
  · by_cases h2 : tkN (r2 s) ≤ 3 ∧ rightE (enK s (tkN (r2 s))) = true
    · have hL : teL s = (enK s (tkN (r2 s)), r5 s, 0) := by
        unfold teL
        rw [if_neg (by omega), if_pos h2]
      obtain ⟨t1, t2, _⟩ := te_of hL
      rw [t1, t2]
      refine ⟨h2.2, ?_⟩
      obtain ⟨_, _, _, a4, _⟩ := rightE_of.1 h2.2
      have key := en_aft h1 h2.1 a4
      rw [putE_nil]
      unfold enK
      simp only [ba_assoc]
      exact key
    · have hL : teL s = (.none, ⟨#[]⟩, 3) := by
        unfold teL
        rw [if_neg (by omega), if_neg h2]
      have := (te_of hL).2.2
      omega
  · have hL : teL s = (.none, ⟨#[]⟩, errE s) := by
      unfold teL
      rw [if_pos h1]
    have := (te_of hL).2.2
    omega
end Go.Proofs.YtoggcpfogeoeaaaGreatDoor

