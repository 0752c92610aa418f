/-
  What is proved: Zero and Put of package val and of the document's layer 3, called with any values, return what P3.3 and P3.6 say; the world has new blocks at most.
  val.Take, called with any text, returns what P3.4 says; the world has new blocks at most.
  over texts: what is right is put and taken, whatever follows (P3.7); when a struct differs from another one.
  nothing; a name for what other seats lay here.
  Text of package val and of the document's layer 3, called with any value where the laid tables read as their initialisers lay them, return what P3.5 says; the world has new blocks at most.
  the document's own number and Text of layer 3, called with any value, return what P3.5 says; the world has new blocks at most.
  plain facts on the document's paths (P4.1 to P4.11), on lists of bytes alone; no program is spoken of here.
  words for memory that layer 4's contracts use: a world that has all that another one has, block by block ('Ke'); a slice of texts that lies in memory ('Sl'); what a rune of a text is where its byte is small, and where it is not; P4.1 and P4.2 over texts.
-/
import Derived.Test.YtapcaflmfkcfkaaM2
import Derived.Test.YtapcaflmfkcfkaaM1
import Derived.Test.YtapcaflmfkcfkaaProg
import Derived.Lib.ItoaLen
import Derived.Lib.Join
import Derived.Below
import Derived.WalkSmall
import Derived.OwnWalk
import Derived.Lib.OthersKept
import Derived.Lib.DecodeN
import Derived.Lib.Strings
import Derived.Lib.Hide
namespace Go.Proofs.Ytapcaflmfkcfkaa
open Go.RowKit

/-- P3.6. -/
def zeroK (k : Int) : Int := if 1 ≤ k ∧ k ≤ 3 then k else 0

theorem vzero_any (k : Int) (w : World) :
    Calls Try.prog 18 #[.int .i64 k] w fun e w' => e = .returned (.agg #[.int .i64 (zeroK k), .int .i64 0, .string ⟨#[]⟩]) ∧ Grown w w' := by
  by_cases hk : 1 ≤ k ∧ k ≤ 3
  · have HZ := Lib.hid (show k = zeroK k by unfold zeroK; rw [if_pos hk])
    rw [← HZ.out]
    obtain rfl | rfl | rfl : k = 1 ∨ k = 2 ∨ k = 3 := by omega
    all_goals
      clear hk HZ
      go_enter Try.func18, Try.ntmps18
      go_wp2
      refine bodyPost_ret (by simp [results, Try.results18, go_sem]) rfl ⟨rfl, ?_⟩
      exact (Grown.refl _).alloc _ _
  · have HZ := Lib.hid (show 0 = zeroK k by unfold zeroK; rw [if_neg hk])
    rw [← HZ.out]
    have d1 : (k == 1) = false := by simp; omega
    have d2 : (k == 2) = false := by simp; omega
    have d3 : (k == 3) = false := by simp; omega
    clear hk HZ
    go_enter Try.func18, Try.ntmps18
    go_wp2
    refine bodyPost_ret (by simp [results, Try.results18, go_sem]) rfl ⟨rfl, ?_⟩
    exact (Grown.refl _).alloc _ _

theorem rzero_any (k : Int) (w : World) :
    Calls Try.prog 27 #[.int .i64 k] w fun e w' => e = .returned (.agg #[.int .i64 (zeroK k), .int .i64 0, .string ⟨#[]⟩]) ∧ Grown w w' := by
  by_cases hk : 1 ≤ k
  · have d1 : decide (k < 1) = false := by simp; omega
    by_cases hk3 : k ≤ 3
    · have d2 : decide (3 < k) = false := by simp; omega
      have HZ := Lib.hid (show k = zeroK k by unfold zeroK; rw [if_pos ⟨hk, hk3⟩])
      rw [← HZ.out]
      clear HZ
      go_enter Try.func27, Try.ntmps27
      go_wp2
      refine bodyPost_ret (by simp [results, Try.results27, go_sem]) rfl ⟨rfl, ?_⟩
      exact (Grown.refl _).alloc _ _
    · have d2 : decide (3 < k) = true := by simp; omega
      have HZ := Lib.hid (show 0 = zeroK k by unfold zeroK; rw [if_neg (by omega)])
      rw [← HZ.out]
      clear HZ
      go_enter Try.func27, Try.ntmps27
      go_wp2
      refine bodyPost_ret (by simp [results, Try.results27, go_sem]) rfl ⟨rfl, ?_⟩
      exact (Grown.refl _).alloc _ _
  · have d1 : decide (k < 1) = true := by simp; omega
    have HZ := Lib.hid (show 0 = zeroK k by unfold zeroK; rw [if_neg (by omega)])
    rw [← HZ.out]
    clear HZ
    go_enter Try.func27, Try.ntmps27
    go_wp2
    refine bodyPost_ret (by simp [results, Try.results27, go_sem]) rfl ⟨rfl, ?_⟩
    exact (Grown.refl _).alloc _ _

/-- P3.3. -/
def putV (b : ByteArray) (k n : Int) (t : ByteArray) : ByteArray :=
  if k % 4 = 0 then b ++ putS 0 else if k % 4 = 2 then b ++ putS 2 ++ putS t.size ++ t else b ++ putS (k % 4).toNat ++ putS (zigI n).toNat

theorem i64_and3 (n : Int) : bits .and .i64 n 3 = n % 4 := by
  have h3 : (BitVec.ofInt 64 3).toNat = 2 ^ 2 - 1 := by decide
  have key : (BitVec.ofInt 64 n &&& BitVec.ofInt 64 3).toNat = (n % ((2 ^ 64 : Nat) : Int)).toNat % 2 ^ 2 := by
    rw [BitVec.toNat_and, BitVec.toNat_ofInt, h3, Nat.and_two_pow_sub_one_eq_mod]
  show IntKind.i64.wrap ((BitVec.ofInt 64 n &&& BitVec.ofInt 64 3).toNat : Nat) = n % 4
  rw [key, IntKind.wrap_i64]
  omega
theorem i64_and1 (n : Int) : bits .and .i64 n 1 = n % 2 := by
  have h3 : (BitVec.ofInt 64 1).toNat = 2 ^ 1 - 1 := by decide
  have key : (BitVec.ofInt 64 n &&& BitVec.ofInt 64 1).toNat = (n % ((2 ^ 64 : Nat) : Int)).toNat % 2 ^ 1 := by
    rw [BitVec.toNat_and, BitVec.toNat_ofInt, h3, Nat.and_two_pow_sub_one_eq_mod]
  show IntKind.i64.wrap ((BitVec.ofInt 64 n &&& BitVec.ofInt 64 1).toNat : Nat) = n % 2
  rw [key, IntKind.wrap_i64]
  omega
end Go.Proofs.Ytapcaflmfkcfkaa

namespace Go.Proofs.Ytapcaflmfkcfkaa
open Go.RowKit

/-- P3.4. -/
def tvL (s : ByteArray) : Int × Int × ByteArray × ByteArray × Nat :=
  if tkE s ≠ 0 then (0, 0, ⟨#[]⟩, ⟨#[]⟩, tkE s)
  else if 3 < tkN s then (0, 0, ⟨#[]⟩, ⟨#[]⟩, 3)
  else if tkN s = 0 then (0, 0, ⟨#[]⟩, tkR s, 0)
  else if tkN s = 2 then (if ttE (tkR s) 200 ≠ 0 then (0, 0, ⟨#[]⟩, ⟨#[]⟩, ttE (tkR s) 200) else (2, 0, ttT (tkR s) 200, ttR (tkR s) 200, 0))
  else if tkE (tkR s) ≠ 0 then (0, 0, ⟨#[]⟩, ⟨#[]⟩, tkE (tkR s))
  else if rightB (tkN s) (tiN (tkR s)) ⟨#[]⟩ = true then (tkN s, tiN (tkR s), ⟨#[]⟩, tkR (tkR s), 0)
  else (0, 0, ⟨#[]⟩, ⟨#[]⟩, 3)
def tvK (s : ByteArray) : Int := (tvL s).1
def tvI (s : ByteArray) : Int := (tvL s).2.1
def tvT (s : ByteArray) : ByteArray := (tvL s).2.2.1
def tvR (s : ByteArray) : ByteArray := (tvL s).2.2.2.1
def tvE (s : ByteArray) : Nat := (tvL s).2.2.2.2
theorem tv_of {s : ByteArray} {k n : Int} {t r : ByteArray} {e : Nat} {z : Int} (h : tvL s = (k, n, t, r, e)) (hz : (e : Int) = z) :
    Ending.returned (.tuple #[.agg #[.int .i64 k, .int .i64 n, .string t], .string r, .int .i64 z]) = .returned (.tuple #[.agg #[.int .i64 (tvK s), .int .i64 (tvI s), .string (tvT s)], .string (tvR s), .int .i64 (tvE s)]) := by
  unfold tvK tvI tvT tvR tvE; rw [h, hz]

/-- A block of three cells that may be written. -/
structure Box (w : World) (b : Nat) (x0 x1 x2 : Value) : Prop where
  c0 : w.cell? ⟨b, 0, none⟩ = some x0
  c1 : w.cell? ⟨b, 1, none⟩ = some x1
  c2 : w.cell? ⟨b, 2, none⟩ = some x2
  f : ∀ i, w.frozen? ⟨b, i, none⟩ = false
theorem Box.grown {w w' : World} {b : Nat} {x0 x1 x2 : Value} (h : Box w b x0 x1 x2) (hg : Grown w w') : Box w' b x0 x1 x2 :=
  ⟨grown_cell hg h.c0, grown_cell hg h.c1, grown_cell hg h.c2, fun i => (hg.2.1 _).trans (h.f i)⟩
theorem Box.new (w : World) (x0 x1 x2 : Value) (t : TypeId) : Box (w.alloc (.cells #[x0, x1, x2] t)) w.heap.size x0 x1 x2 :=
  ⟨grown_box (Grown.refl _) 0 x0 rfl, grown_box (Grown.refl _) 1 x1 rfl, grown_box (Grown.refl _) 2 x2 rfl, fun i => by rw [frozen?_alloc_cells]; simp [World.frozen?]⟩
theorem Box.set1 {w : World} {b : Nat} {x0 x1 x2 : Value} (h : Box w b x0 x1 x2) (v : Value) : Box (w.setCell ⟨b, 1, none⟩ v) b x0 v x2 :=
  ⟨by rw [World.cell?_setCell_other _ _ _ _ (by simp)]; exact h.c0, World.cell?_setCell_same _ _ _ h.c1, by rw [World.cell?_setCell_other _ _ _ _ (by simp)]; exact h.c2, fun i => by rw [World.frozen?_setCell]; exact h.f i⟩
theorem Box.set2 {w : World} {b : Nat} {x0 x1 x2 : Value} (h : Box w b x0 x1 x2) (v : Value) : Box (w.setCell ⟨b, 2, none⟩ v) b x0 x1 v :=
  ⟨by rw [World.cell?_setCell_other _ _ _ _ (by simp)]; exact h.c0, by rw [World.cell?_setCell_other _ _ _ _ (by simp)]; exact h.c1, World.cell?_setCell_same _ _ _ h.c2, fun i => by rw [World.frozen?_setCell]; exact h.f i⟩
theorem Box.far {w : World} {b c o : Nat} {x0 x1 x2 : Value} (h : Box w b x0 x1 x2) (hne : b ≠ c) (v : Value) : Box (w.setCell ⟨c, o, none⟩ v) b x0 x1 x2 := by
  have e : ∀ i, (w.setCell ⟨c, o, none⟩ v).cell? ⟨b, i, none⟩ = w.cell? ⟨b, i, none⟩ := fun i => World.cell?_setCell_other _ _ _ _ (by intro e; injection e; omega)
  exact ⟨by rw [e]; exact h.c0, by rw [e]; exact h.c1, by rw [e]; exact h.c2, fun i => by rw [World.frozen?_setCell]; exact h.f i⟩
theorem grown_set3 {W w : World} (h : Grown W w) (x0 x1 x2 : Value) {b : Nat} (hb : W.heap.size ≤ b) : Grown W (((w.setCell ⟨b, 0, none⟩ x0).setCell ⟨b, 1, none⟩ x1).setCell ⟨b, 2, none⟩ x2) :=
  ((h.setCell hb x0).setCell hb x1).setCell hb x2
theorem lt_of_grown {w w1 : World} {c : Array Value} {t : TypeId} (hg : Grown (w.alloc (.cells c t)) w1) : w.heap.size < w1.heap.size := by
  have := hg.2.2; simp at this; omega

theorem vright_c (k n : Int) (t : ByteArray) (b : Bool) (h : rightB k n t = b) (w : World) (hs : t.size ≤ 9223372036854775807) :
    Calls Try.prog 32 #[.agg #[.int .i64 k, .int .i64 n, .string t]] w fun e w' => e = .returned (.bool b) ∧ Grown w w' := by
  subst h; exact vright_any k n t w hs
theorem rright_c (k n : Int) (t : ByteArray) (b : Bool) (h : rightB k n t = b) (w : World) (hs : t.size ≤ 9223372036854775807) :
    Calls Try.prog 40 #[.agg #[.int .i64 k, .int .i64 n, .string t]] w fun e w' => e = .returned (.bool b) ∧ Grown w w' := by
  subst h; exact rright_any k n t w hs

theorem tt_size (s : ByteArray) : (ttT s 200).size ≤ 200 := by
  unfold ttT ttL
  by_cases h1 : tkE s ≠ 0
  · rw [if_pos h1]; exact Nat.zero_le _
  rw [if_neg h1]
  by_cases h2 : (200 : Int) < 0 ∨ (200 : Int) < (tkN s : Int)
  · rw [if_pos h2]; exact Nat.zero_le _
  rw [if_neg h2]
  by_cases h3 : (tkR s).size < tkN s
  · rw [if_pos h3]; exact Nat.zero_le _
  rw [if_neg h3]
  rw [ByteArray.size_extract]
  omega

end Go.Proofs.Ytapcaflmfkcfkaa

namespace Go.Proofs.Ytapcaflmfkcfkaa
open Go.RowKit

theorem tt_put (t x : ByteArray) (ht : t.size ≤ 200) : ttL (⟨#[]⟩ ++ putS t.size ++ (t ++ x)) 200 = (t, x, 0) := by
  obtain ⟨h1, h2, h3⟩ := tk_put t.size (t ++ x) (by omega)
  unfold ttL
  rw [h1, h2, h3, if_neg (by omega), if_neg (by omega), if_neg (by rw [ByteArray.size_append]; omega)]
  have x1 : (t ++ x).extract 0 t.size = t := by
    apply ba_ext
    rw [Lib.extract_data, ba_app, List.drop_zero, Nat.sub_zero, ba_size, List.take_left]
  have x2 : (t ++ x).extract t.size (t ++ x).size = x := by
    apply ba_ext
    rw [Lib.extract_data, ba_app, ByteArray.size_append, ba_size, List.drop_left, List.take_of_length_le (by rw [ba_size x]; omega)]
  rw [x1, x2]

theorem tv_put (k n : Int) (t x : ByteArray) (h1 : -9223372036854775808 ≤ n) (h2 : n ≤ 9223372036854775807) (hr : rightB k n t = true) : tvL (putV ⟨#[]⟩ k n t ++ x) = (k, n, t, x, 0) := by
  have hr' := hr
  unfold rightB at hr'
  simp only [decide_eq_true_eq] at hr'
  have hz := zig_bd n h1 h2
  have hzt : (((zigI n).toNat : Nat) : Int) = zigI n := by omega
  rcases hr' with ⟨rfl, ht⟩ | ⟨rfl, ht, rfl⟩ | ⟨rfl, ht, hn⟩
  · obtain rfl := empty_of ht
    have e : putV ⟨#[]⟩ 1 n ⟨#[]⟩ ++ x = ⟨#[]⟩ ++ putS 1 ++ (⟨#[]⟩ ++ putS (zigI n).toNat ++ x) := by
      show ⟨#[]⟩ ++ putS 1 ++ putS (zigI n).toNat ++ x = _
      rw [ba_nil (putS (zigI n).toNat)]; simp only [ba_assoc]
    obtain ⟨a1, a2, a3⟩ := tk_put 1 (⟨#[]⟩ ++ putS (zigI n).toNat ++ x) (by omega)
    obtain ⟨b1, b2, b3⟩ := tk_put (zigI n).toNat x (by omega)
    have b4 : tiN (⟨#[]⟩ ++ putS (zigI n).toNat ++ x) = n := by unfold tiN; rw [if_pos b3, b1, hzt, zag_zig]
    unfold tvL
    rw [e, a1, a2, a3, b2, b3, b4, if_neg (by omega), if_neg (by omega), if_neg (by omega), if_neg (by omega), if_neg (by omega)]
    exact if_pos hr
  · have e : putV ⟨#[]⟩ 2 0 t ++ x = ⟨#[]⟩ ++ putS 2 ++ (⟨#[]⟩ ++ putS t.size ++ (t ++ x)) := by
      show ⟨#[]⟩ ++ putS 2 ++ putS t.size ++ t ++ x = _
      rw [ba_nil (putS t.size)]; simp only [ba_assoc]
    obtain ⟨a1, a2, a3⟩ := tk_put 2 (⟨#[]⟩ ++ putS t.size ++ (t ++ x)) (by omega)
    have b := tt_put t x ht
    unfold tvL ttE ttT ttR
    rw [e, a1, a2, a3, b, if_neg (by omega), if_neg (by omega), if_neg (by omega), if_pos rfl]; rfl
  · obtain rfl := empty_of ht
    have e : putV ⟨#[]⟩ 3 n ⟨#[]⟩ ++ x = ⟨#[]⟩ ++ putS 3 ++ (⟨#[]⟩ ++ putS (zigI n).toNat ++ x) := by
      show ⟨#[]⟩ ++ putS 3 ++ putS (zigI n).toNat ++ x = _
      rw [ba_nil (putS (zigI n).toNat)]; simp only [ba_assoc]
    obtain ⟨a1, a2, a3⟩ := tk_put 3 (⟨#[]⟩ ++ putS (zigI n).toNat ++ x) (by omega)
    obtain ⟨b1, b2, b3⟩ := tk_put (zigI n).toNat x (by omega)
    have b4 : tiN (⟨#[]⟩ ++ putS (zigI n).toNat ++ x) = n := by unfold tiN; rw [if_pos b3, b1, hzt, zag_zig]
    unfold tvL
    rw [e, a1, a2, a3, b2, b3, b4, if_neg (by omega), if_neg (by omega), if_neg (by omega), if_neg (by omega), if_neg (by omega)]
    exact if_pos hr

theorem putV_size (b : ByteArray) (k n : Int) (t : ByteArray) : (putV b k n t).size ≤ b.size + 20 + t.size := by
  unfold putV
  have := putS_size 0
  have := putS_size 2
  have := putS_size t.size
  have := putS_size (k % 4).toNat
  have := putS_size (zigI n).toNat
  split
  · rw [ByteArray.size_append]; omega
  split
  · simp only [ByteArray.size_append]; omega
  · simp only [ByteArray.size_append]; omega

/-- How two values differ. -/
theorem differ (k1 n1 : Int) (t1 : ByteArray) (k2 n2 : Int) (t2 : ByteArray) :
    (k1 = k2 ∧ n1 = n2 ∧ t1 = t2) ∨ (k1 == k2) = false ∨ (k1 = k2 ∧ (n1 == n2) = false) ∨ (k1 = k2 ∧ n1 = n2 ∧ (t1.toList == t2.toList) = false) := by
  by_cases h1 : k1 = k2
  · by_cases h2 : n1 = n2
    · by_cases h3 : t1 = t2
      · exact .inl ⟨h1, h2, h3⟩
      · refine .inr (.inr (.inr ⟨h1, h2, ?_⟩))
        rw [beq_of]
        have : t1.data.toList ≠ t2.data.toList := fun e => h3 (ba_ext e)
        simpa using this
    · exact .inr (.inr (.inl ⟨h1, by simpa using h2⟩))
  · exact .inr (.inl (by simpa using h1))
end Go.Proofs.Ytapcaflmfkcfkaa

namespace Go.Proofs.Ytapcaflmfkcfkaa
end Go.Proofs.Ytapcaflmfkcfkaa

namespace Go.Proofs.Ytapcaflmfkcfkaa
open Go.RowKit

def noS : ByteArray := ⟨#[110, 111]⟩
def yesS : ByteArray := ⟨#[121, 101, 115]⟩
/-- P3.5. -/
def itoaS (n : Int) : ByteArray := ⟨(Lib.itoa n).toArray⟩
def textV (k n : Int) (t : ByteArray) : ByteArray :=
  if k = 1 then itoaS n else if k = 2 then ⟨#[39]⟩ ++ t else if k = 3 then (if n % 2 = 0 then noS else yesS) else ⟨#[45]⟩

end Go.Proofs.Ytapcaflmfkcfkaa

namespace Go.Proofs.Ytapcaflmfkcfkaa
open Go.RowKit

def digS (u : Nat) : ByteArray := ⟨(Lib.decDigits u).toArray⟩
/-- What holds at each round's head: u is left, o are the digits behind it. -/
def NumInv (N u : Nat) (o : ByteArray) : Prop := digS u ++ o = digS N ∧ u ≤ N ∧ o.size + (Lib.decDigits u).length = (Lib.decDigits N).length
theorem numInv_step {N u : Nat} {o : ByteArray} (h : NumInv N u o) (hu : 10 ≤ u) : NumInv N (u / 10) (byteS (48 + (u : Int) % 10) ++ o) := by
  obtain ⟨h1, h2, h3⟩ := h
  have e : Lib.decDigits u = Lib.decDigits (u / 10) ++ [UInt8.ofNat (48 + u % 10)] := by rw [Lib.decDigits, dif_neg (by omega)]
  refine ⟨?_, by omega, ?_⟩
  · rw [← h1]
    apply ba_ext
    rw [ba_app, ba_app, ba_app]
    show Lib.decDigits (u / 10) ++ ([UInt8.ofNat (48 + (u : Int) % 10).toNat] ++ o.data.toList) = Lib.decDigits u ++ o.data.toList
    rw [e, show (48 + (u : Int) % 10).toNat = 48 + u % 10 by omega]
    simp
  · rw [ByteArray.size_append, byteS_size]
    rw [e] at h3
    simp at h3
    omega
theorem numInv_end {N u : Nat} {o : ByteArray} (h : NumInv N u o) (hu : u < 10) : byteS (48 + (u : Int)) ++ o = digS N := by
  rw [← h.1]
  congr 1
  unfold byteS digS
  rw [Lib.decDigits_one hu, show (48 + (u : Int)).toNat = 48 + u by omega]

theorem itoa_pos (n : Int) (h : 0 ≤ n) : digS n.natAbs = itoaS n := by
  unfold digS itoaS Lib.itoa
  rw [if_neg (by omega), show n.natAbs = n.toNat by omega]
theorem itoa_min (n : Int) (h : n < 0) : (⟨#[45]⟩ : ByteArray) ++ digS n.natAbs = itoaS n := by
  unfold digS itoaS Lib.itoa
  rw [if_pos h]
  apply ba_ext
  rw [ba_app]
  rfl

theorem digs_len (u : Nat) (h : u ≤ 9223372036854775808) : (Lib.decDigits u).length ≤ 21 := by
  by_cases e : u = 9223372036854775808
  · subst e
    have := Lib.itoa_length_le (-9223372036854775808) (by decide) (by decide)
    unfold Lib.itoa at this
    rw [if_pos (by decide)] at this
    simp only [List.length_cons] at this
    have e2 : (-9223372036854775808 : Int).natAbs = 9223372036854775808 := by decide
    rw [e2] at this
    omega
  · have := Lib.itoa_length_le (u : Int) (by omega) (by omega)
    unfold Lib.itoa at this
    rw [if_neg (by omega)] at this
    simpa using this

end Go.Proofs.Ytapcaflmfkcfkaa

namespace Go.Proofs.Ytapcaflmfkcfkaa.L4

/-- P4.2: what stands between the strokes. -/
def spl : List UInt8 → List (List UInt8)
  | [] => [[]]
  | c :: r => if c = 47 then [] :: spl r else match spl r with
    | [] => [[c]]
    | s :: t => (c :: s) :: t
theorem spl_ne (l : List UInt8) : spl l ≠ [] := by
  cases l with
  | nil => simp [spl]
  | cons c r =>
    unfold spl
    split
    · simp
    · split <;> simp
theorem spl_stroke (r : List UInt8) : spl (47 :: r) = [] :: spl r := by simp [spl]
theorem spl_plain (c : UInt8) (r : List UInt8) (h : c ≠ 47) : ∃ s t, spl r = s :: t ∧ spl (c :: r) = (c :: s) :: t := by
  cases e : spl r with
  | nil => exact absurd e (spl_ne r)
  | cons s t => exact ⟨s, t, rfl, by simp only [spl, if_neg h, e]⟩
theorem spl_none : ∀ (l : List UInt8), (∀ c ∈ l, c ≠ 47) → spl l = [l]
  | [], _ => rfl
  | c :: r, h => by
    obtain ⟨s, t, e1, e2⟩ := spl_plain c r (h c (by simp))
    rw [spl_none r (fun x hx => h x (by simp [hx]))] at e1
    injection e1 with a b
    rw [e2, ← a, ← b]
theorem spl_cut : ∀ (a r : List UInt8), (∀ c ∈ a, c ≠ 47) → spl (a ++ 47 :: r) = a :: spl r
  | [], r, _ => spl_stroke r
  | c :: a, r, h => by
    obtain ⟨s, t, e1, e2⟩ := spl_plain c (a ++ 47 :: r) (h c (by simp))
    rw [spl_cut a r (fun x hx => h x (by simp [hx]))] at e1
    injection e1 with x y
    rw [List.cons_append, e2, ← x, ← y]
theorem spl_len : ∀ l : List UInt8, (spl l).length = l.count 47 + 1
  | [] => rfl
  | c :: r => by
    have ih := spl_len r
    by_cases h : c = 47
    · subst h; rw [spl_stroke]; simp [ih]
    · obtain ⟨s, t, e1, e2⟩ := spl_plain c r h
      rw [e1] at ih
      rw [e2, List.count_cons_of_ne h, ← ih]
      rfl
theorem spl_no : ∀ (l : List UInt8) s, s ∈ spl l → ∀ c ∈ s, c ≠ 47
  | [], s, hs => by
    have : s = [] := by simpa [spl] using hs
    subst this; simp
  | c :: r, s, hs => by
    by_cases h : c = 47
    · subst h
      rw [spl_stroke] at hs
      rcases List.mem_cons.1 hs with rfl | hs
      · simp
      · exact spl_no r s hs
    · obtain ⟨s', t, e1, e2⟩ := spl_plain c r h
      rw [e2] at hs
      rcases List.mem_cons.1 hs with rfl | hs
      · intro x hx
        rcases List.mem_cons.1 hx with rfl | hx
        · exact h
        · exact spl_no r s' (by rw [e1]; simp) x hx
      · exact spl_no r s (by rw [e1]; simp [hs])
theorem spl_size : ∀ l : List UInt8, ∀ s ∈ spl l, s.length ≤ l.length
  | [], s, hs => by
    have : s = [] := by simpa [spl] using hs
    subst this; simp
  | c :: r, s, hs => by
    by_cases h : c = 47
    · subst h
      rw [spl_stroke] at hs
      rcases List.mem_cons.1 hs with rfl | hs
      · simp
      · have := spl_size r s hs; simp; omega
    · obtain ⟨s', t, e1, e2⟩ := spl_plain c r h
      rw [e2] at hs
      rcases List.mem_cons.1 hs with rfl | hs
      · have := spl_size r s' (by rw [e1]; simp); simp; omega
      · have := spl_size r s (by rw [e1]; simp [hs]); simp; omega

/-- P4.3. -/
def joi (L : List (List UInt8)) : List UInt8 := Lib.join L [47]
theorem joi_cons2 (a b : List UInt8) (r : List (List UInt8)) : joi (a :: b :: r) = a ++ 47 :: joi (b :: r) := by
  unfold joi
  rw [Lib.join_cons, Lib.join_cons]
  simp [Lib.joinTail]
theorem joi_one (a : List UInt8) : joi [a] = a := Lib.join_one a _
theorem joi_nil : joi [] = [] := rfl
theorem joi_spl : ∀ l : List UInt8, joi (spl l) = l
  | [] => joi_one []
  | c :: r => by
    have ih := joi_spl r
    by_cases h : c = 47
    · subst h
      rw [spl_stroke]
      cases e : spl r with
      | nil => exact absurd e (spl_ne r)
      | cons b t => rw [joi_cons2, ← e, ih]; rfl
    · obtain ⟨s, t, e1, e2⟩ := spl_plain c r h
      rw [e1] at ih
      rw [e2]
      cases t with
      | nil => rw [joi_one] at ih ⊢; rw [ih]
      | cons b t => rw [joi_cons2] at ih ⊢; rw [List.cons_append, ih]
theorem spl_joi : ∀ L : List (List UInt8), L ≠ [] → (∀ s ∈ L, ∀ c ∈ s, c ≠ 47) → spl (joi L) = L
  | [], h, _ => absurd rfl h
  | [a], _, h => by rw [joi_one]; exact spl_none a (h a (by simp))
  | a :: b :: r, _, h => by
    rw [joi_cons2, spl_cut a _ (h a (by simp)), spl_joi (b :: r) (by simp) (fun s hs => h s (by simp [hs]))]
theorem joi_len : ∀ (L : List (List UInt8)) (m : Nat), (∀ s ∈ L, s.length ≤ m) → (joi L).length ≤ L.length * (m + 1)
  | [], _, _ => by simp [joi_nil]
  | [a], m, h => by
    have := h a (by simp)
    rw [joi_one]; simp; omega
  | a :: b :: r, m, h => by
    have h1 := h a (by simp)
    have h2 := joi_len (b :: r) m (fun s hs => h s (by simp [hs]))
    rw [joi_cons2]
    simp only [List.length_append, List.length_cons, Nat.add_mul, Nat.one_mul] at h2 ⊢
    omega

/-- P4.1: a byte that may stand in a segment. -/
def okC (c : Nat) : Bool := decide (97 ≤ c ∧ c ≤ 122 ∨ 48 ≤ c ∧ c ≤ 57 ∨ c = 95)
theorem okC_small (c : Nat) (h : okC c = true) : c < 128 ∧ c ≠ 47 ∧ c ≠ 42 := by
  unfold okC at h; simp only [decide_eq_true_eq] at h; omega
def segL (l : List UInt8) : Bool := l.all (fun c => okC c.toNat) && (!l.isEmpty && decide (l.length ≤ 16))
theorem segL_len (l : List UInt8) (h : segL l = true) : l.length ≤ 16 ∧ l ≠ [] := by
  unfold segL at h
  simp only [Bool.and_eq_true, Bool.not_eq_true', List.isEmpty_eq_false_iff, decide_eq_true_eq] at h
  exact ⟨h.2.2, h.2.1⟩
theorem segL_no (l : List UInt8) (h : segL l = true) : ∀ c ∈ l, c ≠ 47 := by
  unfold segL at h
  simp only [Bool.and_eq_true, List.all_eq_true] at h
  rintro c hc rfl
  exact (okC_small _ (h.1 _ hc)).2.1 rfl
theorem segL_star : segL [42] = false := by decide

/-- P4.4 and P4.5, of the segments. -/
def rightL (L : List (List UInt8)) : Bool := L.all segL && decide (L.length ≤ 6)
def patAt (k : Nat) (s : List UInt8) : Bool := segL s || (k != 0 && s == [42])
def patAll : Nat → List (List UInt8) → Bool
  | _, [] => true
  | k, s :: r => patAt k s && patAll (k + 1) r
def patL (L : List (List UInt8)) : Bool := patAll 0 L && decide (L.length ≤ 6)

/-- P4.6. -/
def begL : List (List UInt8) → List (List UInt8) → Bool
  | _, [] => true
  | [], _ :: _ => false
  | x :: l, y :: m => (y == [42] || y == x) && begL l m
theorem begL_short : ∀ (l m : List (List UInt8)), l.length < m.length → begL l m = false
  | _, [], h => by simp at h
  | [], _ :: _, _ => rfl
  | x :: l, y :: m, h => by simp [begL, begL_short l m (by simpa using h)]
/-- P4.7. -/
def matL (l m : List (List UInt8)) : Bool := l.length == m.length && begL l m
/-- P4.8. -/
def apL : List (List UInt8) → List (List UInt8) → Bool
  | x :: l, y :: m => if x = y then apL l m else (x != [42] && y != [42])
  | _, _ => false
theorem apL_comm : ∀ l m, apL l m = apL m l
  | [], [] => rfl
  | [], _ :: _ => rfl
  | _ :: _, [] => rfl
  | x :: l, y :: m => by
    unfold apL
    by_cases h : x = y
    · rw [if_pos h, if_pos h.symm, apL_comm l m]
    · rw [if_neg h, if_neg (fun e => h e.symm), Bool.and_comm]
/-- P4.10: nothing without a * begins with both. -/
theorem apart_not : ∀ (p a b : List (List UInt8)), apL a b = true → begL p a = true → begL p b = true → False
  | _, [], _, h, _, _ => by simp [apL] at h
  | _, _ :: _, [], h, _, _ => by simp [apL] at h
  | [], _ :: _, _ :: _, _, h, _ => by simp [begL] at h
  | p :: ps, a :: al, b :: bs, h, h1, h2 => by
    simp only [begL, Bool.and_eq_true, Bool.or_eq_true, beq_iff_eq] at h1 h2
    unfold apL at h
    by_cases e : a = b
    · rw [if_pos e] at h
      exact apart_not ps al bs h h1.2 h2.2
    · rw [if_neg e] at h
      simp only [Bool.and_eq_true, bne_iff_ne] at h
      rcases h1.1 with x | x
      · exact h.1 x
      · rcases h2.1 with y | y
        · exact h.2 y
        · exact e (x.trans y.symm)
theorem begL_self : ∀ l, begL l l = true
  | [] => rfl
  | x :: l => by simp [begL, begL_self l]
theorem matL_self (l : List (List UInt8)) : matL l l = true := by simp [matL, begL_self]
/-- P4.8 of two without a *, of as many segments. -/
theorem apL_right : ∀ (l m : List (List UInt8)), l.length = m.length → l.all segL = true → m.all segL = true → apL l m = (l != m)
  | [], [], _, _, _ => rfl
  | [], _ :: _, h, _, _ => by simp at h
  | _ :: _, [], h, _, _ => by simp at h
  | x :: l, y :: m, h, h1, h2 => by
    simp only [List.all_cons, Bool.and_eq_true] at h1 h2
    unfold apL
    by_cases e : x = y
    · subst e
      rw [if_pos rfl, apL_right l m (by simpa using h) h1.2 h2.2]
      cases hb : (l != m) with
      | true => have : l ≠ m := by simpa using hb
                symm; simpa using this
      | false => have : l = m := by simpa using hb
                 simp [this]
    · rw [if_neg e]
      have n1 : x ≠ [42] := fun hh => by rw [hh, segL_star] at h1; simp at h1
      have n2 : y ≠ [42] := fun hh => by rw [hh, segL_star] at h2; simp at h2
      have n3 : ¬ (x :: l = y :: m) := fun hh => e (List.cons.inj hh).1
      rw [bne_iff_ne.2 n1, bne_iff_ne.2 n2, bne_iff_ne.2 n3]
      rfl

/-- P4.9, of the segments. -/
def swapL (L M : List (List UInt8)) (k : Nat) : List (List UInt8) := L.take k ++ M ++ L.drop (k + 1)
end Go.Proofs.Ytapcaflmfkcfkaa.L4

namespace Go.Proofs.Ytapcaflmfkcfkaa.L4
open Go.RowKit

def Ke (w w' : World) : Prop := Below w.heap.size w w'
theorem Ke.refl (w : World) : Ke w w := Below.refl _ _
theorem Ke.size {w w' : World} (h : Ke w w') : w.heap.size ≤ w'.heap.size := Below.size h
theorem Ke.trans {a b c : World} (h : Ke a b) (k : Ke b c) : Ke a c := Below.trans h (Below.mono k h.size)
theorem Ke.cell {w w' : World} (h : Ke w w') {p : Addr} (hp : p.block < w.heap.size) : w'.cell? p = w.cell? p := Below.cell h hp
theorem Ke.at_ {w w' : World} (h : Ke w w') {p : Addr} {v : Value} (hc : w.cell? p = some v) : w'.cell? p = some v := (h.cell (World.block_lt_of_cell? w _ hc)).trans hc
theorem Ke.alloc {a w : World} (h : Ke a w) (o : Obj) : Ke a (w.alloc o) := Below.alloc h h.size o
theorem Ke.drew {a w : World} (h : Ke a w) : Ke a w.drew := Below.drew h
theorem Ke.drewN {a w : World} (h : Ke a w) (n : Nat) : Ke a (w.drewN n) := below_drewN h n
theorem Ke.heap {a w : World} (h : Ke a w) {k : Nat} {o : Obj} (hk : a.heap[k]? = some o) : w.heap[k]? = some o :=
  (Below.block h k (Array.getElem?_eq_some_iff.1 hk).1).trans hk

def strV (x : ByteArray) : Value := .string x
theorem strV_one (L : List ByteArray) : ∀ u ∈ L.map strV, u.oneCell' = true := by
  intro u hu
  obtain ⟨_, _, rfl⟩ := List.mem_map.1 hu
  rfl

/-- n texts L lie at address ad, c have room. -/
def Sl (w : World) (ad : Addr) (n c : Nat) (L : List ByteArray) : Prop :=
  n = L.length ∧ n ≤ c ∧ c ≤ maxLen ∧ ad.block < w.heap.size ∧ ∀ j x, L[j]? = some x → w.cell? (ad.add j) = some (.string x)
theorem Sl.ke {w w' : World} {ad : Addr} {n c : Nat} {L : List ByteArray} (h : Sl w ad n c L) (hk : Ke w w') : Sl w' ad n c L :=
  ⟨h.1, h.2.1, h.2.2.1, Nat.lt_of_lt_of_le h.2.2.2.1 hk.size, fun j x hj => hk.at_ (h.2.2.2.2 j x hj)⟩
theorem Sl.drew {w : World} {ad : Addr} {n c : Nat} {L : List ByteArray} (h : Sl w ad n c L) : Sl w.drew ad n c L := h
theorem Sl.get {w : World} {b o n c : Nat} {L : List ByteArray} (h : Sl w ⟨b, o, none⟩ n c L) {k : Nat} (hk : k < n) : w.cell? ⟨b, o + k, none⟩ = some (.string (L.getD k ⟨#[]⟩)) := by
  have hl : k < L.length := by rw [← h.1]; exact hk
  have := h.2.2.2.2 k L[k] (List.getElem?_eq_getElem hl)
  rw [Addr.add_lit] at this
  rw [this, List.getD_eq_getElem?_getD, List.getElem?_eq_getElem hl]
  rfl
theorem Sl.of_own {w : World} {base n : Nat} {e : TypeId} {v : Value} {L : List ByteArray} (h : w.ownsRow base e 1 v n (L.map strV)) (hn : 0 < n) :
    ∃ g c, v = .slice (some ⟨g, 0, none⟩) n c ∧ base ≤ g ∧ Sl w ⟨g, 0, none⟩ n c L := by
  have hl : L.length = n := by simpa using h.1
  have hc := fun g (hg : v.ownBlock = some g) => h.cells (g := g) hg
  rcases h.2 with ⟨_, h0⟩ | ⟨g, cap, cur, rfl, hb, hg, h1, h2, _⟩
  · omega
  · refine ⟨g, cap, rfl, hb, hl.symm, h1, h2, (Array.getElem?_eq_some_iff.1 hg).1, fun j x hj => ?_⟩
    exact hc g rfl j _ (by rw [List.getElem?_map, hj]; rfl)

theorem ba_ext {a b : ByteArray} (h : a.data.toList = b.data.toList) : a = b := ByteArray.ext (Array.ext' h)
theorem ba_app (a b : ByteArray) : (a ++ b).data.toList = a.data.toList ++ b.data.toList := by rw [ByteArray.data_append, Array.toList_append]
theorem ba_size (a : ByteArray) : a.size = a.data.toList.length := rfl
def ofL (l : List UInt8) : ByteArray := ⟨l.toArray⟩
theorem ofL_list (l : List UInt8) : (ofL l).data.toList = l := rfl
theorem ofL_back (a : ByteArray) : ofL a.data.toList = a := rfl
def toLs (L : List ByteArray) : List (List UInt8) := L.map (·.data.toList)
def ofLs (L : List (List UInt8)) : List ByteArray := L.map ofL
theorem toLs_ofLs (L : List (List UInt8)) : toLs (ofLs L) = L := by
  unfold toLs ofLs
  rw [List.map_map]
  exact List.map_id' L
theorem ofLs_toLs (L : List ByteArray) : ofLs (toLs L) = L := by
  unfold toLs ofLs
  rw [List.map_map]
  exact List.map_id' L
theorem toLs_len (L : List ByteArray) : (toLs L).length = L.length := List.length_map _
theorem toLs_app (L M : List ByteArray) : toLs (L ++ M) = toLs L ++ toLs M := List.map_append
theorem toLs_get (L : List ByteArray) (k : Nat) : (toLs L)[k]? = (L[k]?).map (·.data.toList) := List.getElem?_map

/-- P4.2, over texts. -/
def splS (p : ByteArray) : List ByteArray := ofLs (spl p.data.toList)
theorem splS_list (p : ByteArray) : toLs (splS p) = spl p.data.toList := toLs_ofLs _
theorem splS_len (p : ByteArray) : (splS p).length = p.data.toList.count 47 + 1 := by
  rw [← toLs_len, splS_list, spl_len]
theorem splS_pos (p : ByteArray) : 0 < (splS p).length := by rw [splS_len]; omega
theorem splS_le (p : ByteArray) : (splS p).length ≤ p.size + 1 := by
  rw [splS_len]
  have := List.count_le_length (a := (47 : UInt8)) (l := p.data.toList)
  rw [← ba_size] at this
  omega
theorem splS_size (p : ByteArray) : ∀ x ∈ splS p, x.size ≤ p.size := by
  intro x hx
  obtain ⟨l, hl, rfl⟩ := List.mem_map.1 hx
  exact spl_size _ l hl

/-- What is done behind b0 bytes of p, and that there is no stroke from there up to pos. -/
structure SInv (p : ByteArray) (acc : List ByteArray) (b0 pos : Nat) : Prop where
  le : b0 ≤ pos
  lt : pos ≤ p.size
  no : ∀ i (h : i < p.size), b0 ≤ i → i < pos → p[i] ≠ 47
  eq : toLs acc ++ spl (p.data.toList.drop b0) = spl p.data.toList
  len : acc.length ≤ b0
theorem SInv.start (p : ByteArray) : SInv p [] 0 0 := ⟨Nat.le_refl _, Nat.zero_le _, fun _ _ _ h => absurd h (by omega), rfl, Nat.le_refl _⟩
theorem SInv.move {p : ByteArray} {acc : List ByteArray} {b0 pos : Nat} (h : SInv p acc b0 pos) (n : Nat) (hn : pos + n ≤ p.size) (hb : ∀ i (hi : i < p.size), pos ≤ i → i < pos + n → p[i] ≠ 47) : SInv p acc b0 (pos + n) :=
  ⟨by have := h.le; omega, hn, fun i hi h1 h2 => by
    rcases Nat.lt_or_ge i pos with h3 | h3
    · exact h.no i hi h1 h3
    · exact hb i hi h3 h2, h.eq, h.len⟩
theorem byte_at (p : ByteArray) (i : Nat) (h : i < p.size) : p.data.toList[i]? = some p[i] := by
  rw [List.getElem?_eq_getElem (by simpa using h)]
  rfl
theorem SInv.part {p : ByteArray} {acc : List ByteArray} {b0 pos : Nat} (h : SInv p acc b0 pos) : ∀ c ∈ (p.extract b0 pos).data.toList, c ≠ 47 := by
  intro c hc
  rw [Lib.extract_data] at hc
  obtain ⟨i, hi, he⟩ := List.getElem_of_mem hc
  simp only [List.length_take, List.length_drop] at hi
  have h2 := h.lt
  have hi2 : b0 + i < p.size := by rw [ba_size]; omega
  have e2 : c = p[b0 + i] := by
    rw [← he, List.getElem_take, List.getElem_drop]
    have := byte_at p (b0 + i) hi2
    rw [List.getElem?_eq_getElem (by simpa using hi2)] at this
    exact Option.some.inj this
  rw [e2]
  exact h.no (b0 + i) hi2 (by omega) (by omega)
theorem drop_cut (l : List UInt8) (b0 pos : Nat) (h : b0 ≤ pos) : l.drop b0 = (l.drop b0).take (pos - b0) ++ l.drop pos := by
  conv => lhs; rw [← List.take_append_drop (pos - b0) (l.drop b0)]
  rw [List.drop_drop, show b0 + (pos - b0) = pos by omega]
theorem SInv.cut {p : ByteArray} {acc : List ByteArray} {b0 pos : Nat} (h : SInv p acc b0 pos) (hp : pos < p.size) (hc : p[pos] = 47) : SInv p (acc ++ [p.extract b0 pos]) (pos + 1) (pos + 1) := by
  refine ⟨Nat.le_refl _, hp, fun _ _ h1 h2 => absurd h2 (by omega), ?_, by have := h.len; have := h.le; simp; omega⟩
  have hp' := h.part
  rw [Lib.extract_data] at hp'
  rw [← h.eq, toLs_app, List.append_assoc]
  congr 1
  rw [drop_cut p.data.toList b0 pos h.le, List.drop_eq_getElem_cons (i := pos) (by simpa using hp)]
  have e : p.data.toList[pos]'(by simpa using hp) = 47 := by rw [← hc]; rfl
  rw [e, spl_cut _ _ hp']
  simp [toLs]
theorem SInv.done {p : ByteArray} {acc : List ByteArray} {b0 : Nat} (h : SInv p acc b0 p.size) : acc ++ [p.extract b0 p.size] = splS p := by
  have hp' := h.part
  rw [Lib.extract_data] at hp'
  have e : toLs (acc ++ [p.extract b0 p.size]) = spl p.data.toList := by
    rw [← h.eq, toLs_app]
    congr 1
    have e2 : (p.data.toList.drop b0).take (p.size - b0) = p.data.toList.drop b0 := List.take_of_length_le (by rw [List.length_drop, ← ba_size]; omega)
    rw [e2] at hp'
    rw [spl_none _ hp']
    simp [toLs, e2]
  rw [← ofLs_toLs (acc ++ [p.extract b0 p.size]), e]
  rfl

/-- A rune of a text. -/
theorem get_byte (s : ByteArray) (i : Nat) (h : i < s.size) : s.get! i = s[i] := by
  simp [ByteArray.get!, getElem!_pos, h]
  rfl
theorem rune_wide (s : ByteArray) (pos : Nat) (h : pos < s.size) (hb : 128 ≤ s[pos].toNat) :
    128 ≤ (Utf8.decode s pos).1 ∧ 1 ≤ (Utf8.decode s pos).2 ∧ pos + (Utf8.decode s pos).2 ≤ s.size ∧ ∀ i (hi : i < s.size), pos ≤ i → i < pos + (Utf8.decode s pos).2 → 128 ≤ s[i].toNat := by
  obtain ⟨h1, h2⟩ := decode_high s pos h hb
  refine ⟨h1, h2, ?_⟩
  have g : ∀ k (hk : pos + k < s.size), s.get! (pos + k) = s[pos + k] := fun k hk => get_byte s _ hk
  rw [Lib.decode_at]
  have g0 := get_byte s pos h
  rw [← g0] at hb
  have key : ∀ i (hi : i < s.size), pos ≤ i → i < pos + 1 → 128 ≤ s[i].toNat := fun i hi ha hc => by
    obtain rfl : i = pos := by omega
    rw [← g0]; exact hb
  have step : ∀ n, pos + n < s.size → (s.get! (pos + n)).toNat / 64 = 2 → (∀ i (hi : i < s.size), pos ≤ i → i < pos + n → 128 ≤ s[i].toNat) → ∀ i (hi : i < s.size), pos ≤ i → i < pos + (n + 1) → 128 ≤ s[i].toNat := by
    intro n hn hd ih i hi ha hc
    by_cases e : i = pos + n
    · subst e
      rw [← g n hn]; omega
    · exact ih i hi ha (by omega)
  unfold Lib.decodeN
  split
  · omega
  · split
    · rename_i _ hh
      split
      · exact ⟨by simp only; omega, step 1 (by omega) hh.2.2 key⟩
      · exact ⟨by simp only; omega, key⟩
    · split
      · rename_i _ _ hh
        split
        · exact ⟨by simp only; omega, step 2 (by omega) hh.2.2.2 (step 1 (by omega) hh.2.1.2 key)⟩
        · exact ⟨by simp only; omega, key⟩
      · split
        · rename_i _ _ _ hh
          split
          · exact ⟨by simp only; omega, step 3 (by omega) hh.2.2.2.2 (step 2 (by omega) hh.2.2.1.2 (step 1 (by omega) hh.2.1.2 key))⟩
          · exact ⟨by simp only; omega, key⟩
        · exact ⟨by simp only; omega, key⟩
/-- P4.1, of a rune. -/
theorem rune_okC (s : ByteArray) (pos : Nat) (h : pos < s.size) : okC (Utf8.decode s pos).1 = okC s[pos].toNat := by
  by_cases hb : s[pos].toNat < 128
  · rw [decode_ascii s pos h hb]
  · have h1 := (decode_high s pos h (by omega)).1
    cases e1 : okC (Utf8.decode s pos).1 with
    | true => have := okC_small _ e1; omega
    | false =>
      cases e2 : okC s[pos].toNat with
      | true => have := okC_small _ e2; omega
      | false => rfl
theorem rune_one (s : ByteArray) (pos : Nat) (h : pos < s.size) (hok : okC (Utf8.decode s pos).1 = true) : (Utf8.decode s pos).2 = 1 := by
  by_cases hb : s[pos].toNat < 128
  · rw [decode_ascii s pos h hb]
  · have h1 := (decode_high s pos h (by omega)).1
    have := okC_small _ hok; omega
def segS (s : ByteArray) : Bool := segL s.data.toList
theorem segS_no (s : ByteArray) (i : Nat) (h : i < s.size) (hb : okC s[i].toNat = false) : segS s = false := by
  have : s.data.toList.all (fun c => okC c.toNat) = false := by
    rw [List.all_eq_false]
    exact ⟨s[i], List.mem_of_getElem? (byte_at s i h), by simp [hb]⟩
  unfold segS segL
  rw [this, Bool.false_and]
theorem segS_all (s : ByteArray) (h : ∀ i (hi : i < s.size), okC s[i].toNat = true) : segS s = (!s.data.toList.isEmpty && decide (s.size ≤ 16)) := by
  have : s.data.toList.all (fun c => okC c.toNat) = true := by
    rw [List.all_eq_true]
    intro c hc
    obtain ⟨i, hi, he⟩ := List.getElem_of_mem hc
    have hi2 : i < s.size := hi
    rw [← he]
    exact h i hi2
  unfold segS segL
  rw [this, Bool.true_and]
  rfl
end Go.Proofs.Ytapcaflmfkcfkaa.L4

