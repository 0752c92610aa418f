/-
  What is proved: plain facts on dots (P5.2, P5.5, P5.6, P5.10): their order, lists that rise, and that such a list is told by what is in it; no program is spoken of here.
  cmp.Compare at ints and at texts, called with any two, return the order of the two; cmp.Or of three ints the first that is not 0; the world is left alone.
  val.Cmp, called with any two values, returns their order (P3.2); the world has new blocks at most.
  the document's own Zig, Zag, Put, Int and Text of layer 1 (package lorgnetteref01) return the same as the program's; the world has new blocks at most.
  the document's own Take, TakeInt and TakeText of layer 1 (package lorgnetteref01) return the same as the program's; the world has new blocks at most.
  Right, Zero and Put of package val and of the document's layer 3, called with any values, return what P3.1, P3.3 and P3.6 say; the world has new blocks at most.
  Zero and Put of package val and of the document's layer 3, called with any values, return what P3.3 and P3.6 say; the world has new blocks at most.
-/
import Derived.Test.YtjieofiaoepccaaDoorM2
import Derived.Laws.Cover1
import Derived.Laws.StructEq
import Derived.Sort.Walk0
import Derived.StillTailTactics
import Derived.Laws.Bits128
namespace Go.Proofs.YtjieofiaoepccaaDoor

/-- P5.2. -/
def cmpD (a b : Int × Int) : Int := if cmpI a.1 b.1 ≠ 0 then cmpI a.1 b.1 else cmpI a.2 b.2
def LtD (a b : Int × Int) : Prop := a.1 < b.1 ∨ (a.1 = b.1 ∧ a.2 < b.2)
theorem cmpD_lt (a b : Int × Int) : cmpD a b < 0 ↔ LtD a b := by
  unfold cmpD LtD cmpI
  (repeat split) <;> constructor <;> intro h <;> omega
theorem cmpD_gt (a b : Int × Int) : 0 < cmpD a b ↔ LtD b a := by
  unfold cmpD LtD cmpI
  (repeat split) <;> constructor <;> intro h <;> omega
theorem cmpD_eq (a b : Int × Int) : cmpD a b = 0 ↔ a = b := by
  obtain ⟨a1, a2⟩ := a
  obtain ⟨b1, b2⟩ := b
  unfold cmpD cmpI
  simp only [Prod.mk.injEq]
  (repeat split) <;> constructor <;> intro h <;> omega
theorem cmpD_anti (a b : Int × Int) : cmpD b a = - cmpD a b := by
  unfold cmpD cmpI
  (repeat split) <;> omega
theorem cmpD_bd (a b : Int × Int) : cmpD a b = -1 ∨ cmpD a b = 0 ∨ cmpD a b = 1 := by
  unfold cmpD; repeat (first | exact cmpI_bd _ _ | split)
theorem LtD.trans {a b c : Int × Int} (h : LtD a b) (k : LtD b c) : LtD a c := by unfold LtD at *; omega
theorem LtD.irrefl (a : Int × Int) : ¬ LtD a a := by unfold LtD; omega
theorem LtD.asymm {a b : Int × Int} (h : LtD a b) : ¬ LtD b a := fun k => LtD.irrefl _ (h.trans k)
theorem LtD.tri (a b : Int × Int) : LtD a b ∨ a = b ∨ LtD b a := by
  obtain ⟨a1, a2⟩ := a
  obtain ⟨b1, b2⟩ := b
  unfold LtD
  simp only [Prod.mk.injEq]
  omega

/-- Lists that rise. -/
def Rise (L : List (Int × Int)) : Prop := L.Pairwise LtD
theorem rise_unique : ∀ (X Y : List (Int × Int)), Rise X → Rise Y → (∀ x, x ∈ X ↔ x ∈ Y) → X = Y
  | [], [], _, _, _ => rfl
  | [], y :: ys, _, _, h => absurd ((h y).2 (List.mem_cons_self ..)) (by simp)
  | x :: xs, [], _, _, h => absurd ((h x).1 (List.mem_cons_self ..)) (by simp)
  | x :: xs, y :: ys, hX, hY, h => by
    obtain ⟨x1, x2⟩ := List.pairwise_cons.1 hX
    obtain ⟨y1, y2⟩ := List.pairwise_cons.1 hY
    have e : x = y := by
      rcases List.mem_cons.1 ((h x).1 (List.mem_cons_self ..)) with e | e
      · exact e
      · rcases List.mem_cons.1 ((h y).2 (List.mem_cons_self ..)) with e2 | e2
        · exact e2.symm
        · exact absurd (y1 _ e) (LtD.asymm (x1 _ e2))
    subst e
    refine congrArg _ (rise_unique xs ys x2 y2 fun z => ⟨fun hz => ?_, fun hz => ?_⟩)
    · rcases List.mem_cons.1 ((h z).1 (List.mem_cons_of_mem _ hz)) with e | e
      · subst e; exact absurd (x1 _ hz) (LtD.irrefl _)
      · exact e
    · rcases List.mem_cons.1 ((h z).2 (List.mem_cons_of_mem _ hz)) with e | e
      · subst e; exact absurd (y1 _ hz) (LtD.irrefl _)
      · exact e
/-- Rising, with just what is in L and d. -/
structure WithD (L : List (Int × Int)) (d : Int × Int) (X : List (Int × Int)) : Prop where
  rise : Rise X
  mem : ∀ x, x ∈ X ↔ x ∈ L ∨ x = d
/-- P5.6: rising, with just what is in L. -/
structure SortD (L X : List (Int × Int)) : Prop where
  rise : Rise X
  mem : ∀ x, x ∈ X ↔ x ∈ L
theorem SortD.same {L X Y : List (Int × Int)} (h : SortD L X) (k : SortD L Y) : X = Y := rise_unique X Y h.rise k.rise fun x => (h.mem x).trans (k.mem x).symm
theorem WithD.same {L X Y : List (Int × Int)} {d : Int × Int} (h : WithD L d X) (k : WithD L d Y) : X = Y := rise_unique X Y h.rise k.rise fun x => (h.mem x).trans (k.mem x).symm
theorem WithD.self {L : List (Int × Int)} {d : Int × Int} (h : Rise L) (hd : d ∈ L) : WithD L d L := ⟨h, fun _ => ⟨.inl, fun h => h.elim id fun e => e ▸ hd⟩⟩
/-- d put in at place k. -/
theorem WithD.put {L : List (Int × Int)} {d : Int × Int} (h : Rise L) (k : Nat) (h1 : ∀ x ∈ L.take k, LtD x d) (h2 : ∀ x ∈ L.drop k, LtD d x) : WithD L d (L.take k ++ d :: L.drop k) := by
  have e : L.take k ++ L.drop k = L := List.take_append_drop k L
  have hp := h
  unfold Rise at hp
  rw [← e, List.pairwise_append] at hp
  obtain ⟨p1, p2, p3⟩ := hp
  refine ⟨?_, fun x => ?_⟩
  · unfold Rise
    rw [List.pairwise_append]
    refine ⟨p1, List.pairwise_cons.2 ⟨h2, p2⟩, fun x hx y hy => ?_⟩
    rcases List.mem_cons.1 hy with rfl | hy
    · exact h1 x hx
    · exact p3 x hx y hy
  · conv => rhs; rw [← e]
    simp only [List.mem_append, List.mem_cons]
    constructor
    · rintro (h | h | h)
      · exact .inl (.inl h)
      · exact .inr h
      · exact .inl (.inr h)
    · rintro ((h | h) | h)
      · exact .inl h
      · exact .inr (.inr h)
      · exact .inr (.inl h)
theorem WithD.len {L X : List (Int × Int)} {d : Int × Int} (hL : Rise L) (h : WithD L d X) : (X.length = L.length) ↔ d ∈ L := by
  by_cases hd : d ∈ L
  · rw [(h.same (WithD.self hL hd))]
    simp [hd]
  · have hk : ∃ k, (∀ x ∈ L.take k, LtD x d) ∧ (∀ x ∈ L.drop k, LtD d x) := by
      clear h
      induction L with
      | nil => exact ⟨0, by simp, by simp⟩
      | cons a r ih =>
        obtain ⟨a1, a2⟩ := List.pairwise_cons.1 hL
        rcases LtD.tri a d with h | h | h
        · obtain ⟨k, k1, k2⟩ := ih a2 (fun hm => hd (List.mem_cons_of_mem _ hm))
          refine ⟨k + 1, fun x hx => ?_, fun x hx => k2 x (by simpa using hx)⟩
          rw [List.take_succ_cons] at hx
          rcases List.mem_cons.1 hx with rfl | hx
          · exact h
          · exact k1 x hx
        · exact absurd (h ▸ List.mem_cons_self ..) hd
        · refine ⟨0, by simp, fun x hx => ?_⟩
          rw [List.drop_zero] at hx
          rcases List.mem_cons.1 hx with rfl | hx
          · exact h
          · exact h.trans (a1 x hx)
    obtain ⟨k, k1, k2⟩ := hk
    rw [h.same (WithD.put hL k k1 k2)]
    have e : (L.take k ++ L.drop k).length = L.length := by rw [List.take_append_drop]
    simp only [List.length_append, List.length_cons] at e ⊢
    constructor
    · intro h; omega
    · intro h; exact absurd h hd
theorem rise_nil : Rise [] := List.Pairwise.nil
/-- The document's Sort: one put in behind the other. -/
theorem SortD.step {L X Y : List (Int × Int)} {d : Int × Int} (h : SortD L X) (k : WithD X d Y) : SortD (L ++ [d]) Y :=
  ⟨k.rise, fun x => by rw [k.mem, h.mem]; simp⟩
end Go.Proofs.YtjieofiaoepccaaDoor

namespace Go.Proofs.YtjieofiaoepccaaDoor
open Go.RowKit

theorem less_of (a b : ByteArray) : Op.bytesLess a.toList b.toList = decide (a.data.toList < b.data.toList) := by
  rw [bytesLess_eq, Lib.toList_data, Lib.toList_data]
theorem beq_of (a b : ByteArray) : (a.toList == b.toList) = decide (a.data.toList = b.data.toList) := by
  rw [Lib.toList_data, Lib.toList_data]; exact Bool.eq_iff_iff.2 (by simp)

theorem cmpStr_any (a b : ByteArray) (w : World) :
    Calls Tryd.prog 58 #[.string a, .string b] w fun e w' => e = .returned (.int .i64 (cmpL a.data.toList b.data.toList)) ∧ w = w' := by
  have e1 := less_of a b
  have e2 := beq_of a b
  rcases list_tri a.data.toList b.data.toList with h | h | h
  · have H := Lib.hid (show (-1 : Int) = cmpL a.data.toList b.data.toList by unfold cmpL; rw [if_pos h])
    replace e1 : Op.bytesLess a.toList b.toList = true := by rw [e1]; simpa using h
    clear e2 h
    go_enter Tryd.func58, Tryd.ntmps58
    go_wp2
    go_ret
    exact ⟨ret_int H.out, rfl⟩
  · have H := Lib.hid (show (0 : Int) = cmpL a.data.toList b.data.toList by exact ((cmpL_zero _ _).2 h).symm)
    replace e1 : Op.bytesLess a.toList b.toList = false := by rw [e1, h]; simp
    replace e2 : (a.toList == b.toList) = true := by rw [e2]; simpa using h
    clear h
    go_enter Tryd.func58, Tryd.ntmps58
    go_wp2
    go_ret
    exact ⟨ret_int H.out, rfl⟩
  · have H := Lib.hid (show (1 : Int) = cmpL a.data.toList b.data.toList by unfold cmpL; rw [if_neg (List.lt_asymm h), if_pos h])
    replace e1 : Op.bytesLess a.toList b.toList = false := by rw [e1]; simpa using List.lt_asymm h
    replace e2 : (a.toList == b.toList) = false := by
      rw [e2]
      have : a.data.toList ≠ b.data.toList := fun e => List.lt_irrefl _ (e ▸ h)
      simpa using this
    clear h
    go_enter Tryd.func58, Tryd.ntmps58
    go_wp2
    go_ret
    exact ⟨ret_int H.out, rfl⟩

def orI (x y z : Int) : Int := if x ≠ 0 then x else if y ≠ 0 then y else z
theorem cmpV_or (k1 n1 : Int) (t1 : List UInt8) (k2 n2 : Int) (t2 : List UInt8) : orI (cmpI k1 k2) (cmpI n1 n2) (cmpL t1 t2) = cmpV k1 n1 t1 k2 n2 t2 := rfl

end Go.Proofs.YtjieofiaoepccaaDoor

namespace Go.Proofs.YtjieofiaoepccaaDoor
open Go.RowKit

theorem cmpStr_st (a b : ByteArray) (w : World) : Calls Tryd.prog 58 #[.string a, .string b] w fun e w' => e = .returned (.int .i64 (cmpL a.data.toList b.data.toList)) ∧ w' = w :=
  (cmpStr_any a b w).mono fun _ _ ⟨he, hw⟩ => ⟨he, hw.symm⟩

/-- A region whose first n operations only read, in whatever order, and whose others have one order: the world behind the draw under a name of its own. -/
theorem region_tail {P : Program} {id : Nat} {Q : Exit → Act → World → Prop} {a : Act} {w : World} {l : List Oper} (n : Nat) (hm : P.follows .mixedOrders = true) (hB : Region.lexTailB .any l.toArray n = true)
    (h : ∀ wd : World, wd = w.drew → wpStill P l.toArray wd (fun a' => wpList P l.toArray Q (l.drop n) a' wd) (l.take n) a) : (Code.region id l.toArray true).wp P Q a w :=
  wp_region_still_tail n hm hB (h _ rfl)

end Go.Proofs.YtjieofiaoepccaaDoor

namespace Go.Proofs.YtjieofiaoepccaaDoor
open Go.RowKit

/-- At most f bytes ahead of the last one, as a text. -/
def putFS (f n : Nat) : ByteArray := ⟨(putF f n).toArray⟩

def byteS (z : Int) : ByteArray := ⟨#[UInt8.ofNat z.toNat]⟩
theorem byteS_size (z : Int) : (byteS z).size = 1 := rfl
theorem one_text (z : Int) (w : World) :
    (convert 55 9 (.slice (some ⟨w.heap.size, 0, none⟩) 1 1)).run Tryd.prog (w.alloc (.cells #[.int .u8 z] 5)) = .ok (.string (byteS z)) (w.alloc (.cells #[.int .u8 z] 5)) := by
  have hs : strOfNums [z] = byteS z := rfl
  rw [← hs]
  refine run_convert_bytes_arg _ 55 5 Tryd.underlying55 Tryd.underlying5 w.heap.size 0 1 1 [z] rfl ?_ 9 Tryd.underlying9
  intro i hi
  obtain rfl : i = 0 := by omega
  rw [World.cell?_alloc_new]
  rfl

theorem put_end (f : Nat) (b : ByteArray) (n : Int) (h : n < 128) : b ++ byteS n = b ++ putFS f n.toNat := by
  have : putF f n.toNat = [UInt8.ofNat n.toNat] := by
    cases f with
    | zero => rfl
    | succ f => simp only [putF]; rw [if_pos (by omega)]
  unfold putFS byteS
  rw [this]
theorem put_more (f : Nat) (b : ByteArray) (n : Int) (_h0 : 0 ≤ n) (h : ¬ n < 128) : b ++ byteS (128 + n % 128) ++ putFS f (n / 128).toNat = b ++ putFS (f + 1) n.toNat := by
  apply ba_ext
  rw [ba_app, ba_app, ba_app, List.append_assoc]
  congr 1
  show [UInt8.ofNat (128 + n % 128).toNat] ++ putF f (n / 128).toNat = putF (f + 1) n.toNat
  simp only [putF]
  rw [if_neg (by omega), show (128 + n % 128).toNat = 128 + n.toNat % 128 by omega, show (n / 128).toNat = n.toNat / 128 by omega]
  rfl

end Go.Proofs.YtjieofiaoepccaaDoor

namespace Go.Proofs.YtjieofiaoepccaaDoor
open Go.RowKit

/-- The number of the first j bytes. -/
def accOf (s : ByteArray) : Nat → Nat
  | 0 => 0
  | j + 1 => accOf s j + (s.data.toList.getD j 0).toNat % 128 * 128 ^ j
/-- What holds at the first loop's head: k bytes are gone through, all of them 128 or above. -/
def RInv (s : ByteArray) (k : Nat) : Prop := TkInv s k (accOf s k) ∧ ∀ i, i < k → 128 ≤ (s.data.toList.getD i 0).toNat

theorem getD_at (s : ByteArray) (k : Nat) (h : k < s.size) : s.data.toList.getD k 0 = s[k] := by
  have hl : k < s.data.toList.length := h
  unfold List.getD
  rw [List.getElem?_eq_getElem hl]
  rfl
theorem rInv_next {s : ByteArray} {k : Nat} (h : RInv s k) (hlt : k < s.size) (h9 : k < 9) (hc : 128 ≤ s[k].toNat) : RInv s (k + 1) := by
  refine ⟨?_, ?_⟩
  · have := tkInv_next h.1 hlt (by omega) (by omega)
    unfold accOf
    rw [getD_at s k hlt]
    exact this
  · intro i hi
    by_cases e : i = k
    · subst e; rw [getD_at s i hlt]; exact hc
    · exact h.2 i (by omega)

/-- The index of a text, in the walk's own words. -/
theorem idx (s : ByteArray) (k : Nat) (hlt : k < s.size) : ∃ c : Nat, RowKit.Hid (c = s[k].toNat) ∧ c < 256 ∧ ∀ wx, (Instr.index 9 (.string s) (.int .i64 k)).run Tryd.prog wx = .ok (.int .u8 c) wx :=
  ⟨_, rfl, UInt8.toNat_lt _, fun wx => by rw [run_index_string _ _ _ _ _ Tryd.underlying9]; simp [hlt]⟩

/-- What holds at the second loop's head: m is the number from place j on. -/
def LInv (s : ByteArray) (T j m : Nat) : Prop := m * 128 ^ j + accOf s j = T ∧ T < 18446744073709551616
theorem lInv_step {s : ByteArray} {T p m c : Nat} (h : LInv s T (p + 1) m) (hlt : p < s.size) (hc : c = s[p].toNat) (h128 : 128 ≤ c) :
    LInv s T p (128 * m + (c - 128)) ∧ 128 * m + (c - 128) < 18446744073709551616 := by
  have hb : c < 256 := by rw [hc]; exact UInt8.toNat_lt _
  obtain ⟨h1, h2⟩ := h
  have hp : 0 < 128 ^ p := Nat.pow_pos (by omega)
  have e : (128 * m + (c - 128)) * 128 ^ p + accOf s p = T := by
    rw [← h1, show accOf s (p + 1) = accOf s p + (s.data.toList.getD p 0).toNat % 128 * 128 ^ p from rfl]
    rw [getD_at s p hlt, ← hc, Nat.add_mul, Nat.pow_succ, show c % 128 = c - 128 by omega]
    have : 128 * m * 128 ^ p = m * (128 ^ p * 128) := by
      rw [Nat.mul_comm 128 m, Nat.mul_assoc, Nat.mul_comm 128 (128 ^ p)]
    omega
  refine ⟨⟨e, h2⟩, ?_⟩
  have : (128 * m + (c - 128)) * 1 ≤ (128 * m + (c - 128)) * 128 ^ p := Nat.mul_le_mul_left _ hp
  omega
theorem lInv_last {s : ByteArray} {T m : Nat} (h : LInv s T 0 m) : m = T := by
  obtain ⟨h1, _⟩ := h
  simpa [accOf] using h1

end Go.Proofs.YtjieofiaoepccaaDoor

namespace Go.Proofs.YtjieofiaoepccaaDoor
open Go.RowKit
/-- P3.1. -/
def rightB (k n : Int) (t : ByteArray) : Bool := decide ((k = 1 ∧ t.size = 0) ∨ (k = 2 ∧ t.size ≤ 200 ∧ n = 0) ∨ (k = 3 ∧ t.size = 0 ∧ (n = 0 ∨ n = 1)))
theorem ret_bool {a b : Bool} (h : a = b) : Ending.returned (.bool a) = .returned (.bool b) := by rw [h]
theorem ret_str {a b : ByteArray} (h : a = b) : Ending.returned (.string a) = .returned (.string b) := by rw [h]
theorem empty_of {t : ByteArray} (h : t.size = 0) : t = ⟨#[]⟩ := by
  apply ba_ext; exact List.eq_nil_of_length_eq_zero h
theorem full_of {t : ByteArray} (h : ¬ t.size = 0) : t.toList ≠ [] ∧ t.toList.isEmpty = false ∧ (t.toList == []) = false := by
  have : t.toList ≠ [] := by rw [Lib.toList_data]; intro e; exact h (by rw [ba_size, e]; rfl)
  exact ⟨this, by simpa using this, by simpa using this⟩
theorem vright_any (k n : Int) (t : ByteArray) (w : World) (hs : t.size ≤ 9223372036854775807) :
    Calls Tryd.prog 63 #[.agg #[.int .i64 k, .int .i64 n, .string t]] w fun e w' => e = .returned (.bool (rightB k n t)) ∧ Grown w w' := by
  by_cases h1 : k = 1
  · subst h1
    by_cases ht : t.size = 0
    · have HR := Lib.hid (show true = rightB 1 n t by unfold rightB; simp [ht])
      obtain rfl := empty_of ht
      clear hs ht
      go_enter Tryd.func63, Tryd.ntmps63
      go_wp2
      go_ret
      exact ⟨ret_bool (by first | rfl | exact HR.out), (Grown.refl _).alloc _ _⟩
    · have HR := Lib.hid (show false = rightB 1 n t by unfold rightB; simp [ht])
      obtain ⟨q1, q2, q3⟩ := full_of ht
      go_enter Tryd.func63, Tryd.ntmps63
      go_wp2
      go_ret
      exact ⟨ret_bool (by first | rfl | exact HR.out), (Grown.refl _).alloc _ _⟩
  by_cases h2 : k = 2
  · subst h2
    by_cases ht : t.size ≤ 200
    · have d1 : decide ((t.size : Int) ≤ 200) = true := by simp; omega
      by_cases hn : n = 0
      · subst hn
        have HR := Lib.hid (show true = rightB 2 0 t by unfold rightB; simp [ht])
        go_enter Tryd.func63, Tryd.ntmps63
        go_wp2
        go_ret
        exact ⟨ret_bool (by first | rfl | exact HR.out), (Grown.refl _).alloc _ _⟩
      · have HR := Lib.hid (show false = rightB 2 n t by unfold rightB; simp [hn])
        have d2 : (n == 0) = false := by simpa using hn
        go_enter Tryd.func63, Tryd.ntmps63
        go_wp2
        go_ret
        exact ⟨ret_bool (by first | rfl | exact HR.out), (Grown.refl _).alloc _ _⟩
    · have HR := Lib.hid (show false = rightB 2 n t by unfold rightB; simp; omega)
      have d1 : decide ((t.size : Int) ≤ 200) = false := by simp; omega
      by_cases hn : n = 0
      · subst hn
        go_enter Tryd.func63, Tryd.ntmps63
        go_wp2
        go_ret
        exact ⟨ret_bool (by first | rfl | exact HR.out), (Grown.refl _).alloc _ _⟩
      · have d2 : (n == 0) = false := by simpa using hn
        go_enter Tryd.func63, Tryd.ntmps63
        go_wp2
        go_ret
        exact ⟨ret_bool (by first | rfl | exact HR.out), (Grown.refl _).alloc _ _⟩
  by_cases h3 : k = 3
  · subst h3
    by_cases ht : t.size = 0
    · obtain rfl := empty_of ht
      clear ht hs
      by_cases hn : n = 0
      · subst hn
        have HR := Lib.hid (show true = rightB 3 0 ⟨#[]⟩ by decide)
        go_enter Tryd.func63, Tryd.ntmps63
        go_wp2
        go_ret
        exact ⟨ret_bool (by first | rfl | exact HR.out), (Grown.refl _).alloc _ _⟩
      · have d2 : (n == 0) = false := by simpa using hn
        by_cases hm : n = 1
        · subst hm
          have HR := Lib.hid (show true = rightB 3 1 ⟨#[]⟩ by decide)
          go_enter Tryd.func63, Tryd.ntmps63
          go_wp2
          go_ret
          exact ⟨ret_bool (by first | rfl | exact HR.out), (Grown.refl _).alloc _ _⟩
        · have d3 : (n == 1) = false := by simpa using hm
          have HR := Lib.hid (show false = rightB 3 n ⟨#[]⟩ by unfold rightB; simp [hn, hm])
          go_enter Tryd.func63, Tryd.ntmps63
          go_wp2
          go_ret
          exact ⟨ret_bool (by first | rfl | exact HR.out), (Grown.refl _).alloc _ _⟩
    · have HR := Lib.hid (show false = rightB 3 n t by unfold rightB; simp [ht])
      obtain ⟨q1, q2, q3⟩ := full_of ht
      go_enter Tryd.func63, Tryd.ntmps63
      go_wp2
      go_ret
      exact ⟨ret_bool (by first | rfl | exact HR.out), (Grown.refl _).alloc _ _⟩
  · have HR := Lib.hid (show false = rightB k n t by unfold rightB; simp [h1, h2, h3])
    have d1 : (k == 1) = false := by simpa using h1
    have d2 : (k == 2) = false := by simpa using h2
    have d3 : (k == 3) = false := by simpa using h3
    go_enter Tryd.func63, Tryd.ntmps63
    go_wp2
    go_ret
    exact ⟨ret_bool (by first | rfl | exact HR.out), (Grown.refl _).alloc _ _⟩
theorem rright_any (k n : Int) (t : ByteArray) (w : World) (hs : t.size ≤ 9223372036854775807) :
    Calls Tryd.prog 37 #[.agg #[.int .i64 k, .int .i64 n, .string t]] w fun e w' => e = .returned (.bool (rightB k n t)) ∧ Grown w w' := by
  by_cases h1 : k = 1
  · subst h1
    by_cases ht : t.size = 0
    · have HR := Lib.hid (show true = rightB 1 n t by unfold rightB; simp [ht])
      obtain rfl := empty_of ht
      clear hs ht
      go_enter Tryd.func37, Tryd.ntmps37
      go_wp2
      go_ret
      exact ⟨ret_bool (by first | rfl | exact HR.out), (Grown.refl _).alloc _ _⟩
    · have HR := Lib.hid (show false = rightB 1 n t by unfold rightB; simp [ht])
      obtain ⟨q1, q2, q3⟩ := full_of ht
      go_enter Tryd.func37, Tryd.ntmps37
      go_wp2
      go_ret
      exact ⟨ret_bool (by first | rfl | exact HR.out), (Grown.refl _).alloc _ _⟩
  by_cases h2 : k = 2
  · subst h2
    by_cases ht : t.size ≤ 200
    · have d1 : decide ((t.size : Int) ≤ 200) = true := by simp; omega
      by_cases hn : n = 0
      · subst hn
        have HR := Lib.hid (show true = rightB 2 0 t by unfold rightB; simp [ht])
        go_enter Tryd.func37, Tryd.ntmps37
        go_wp2
        go_ret
        exact ⟨ret_bool (by first | rfl | exact HR.out), (Grown.refl _).alloc _ _⟩
      · have HR := Lib.hid (show false = rightB 2 n t by unfold rightB; simp [hn])
        have d2 : (n == 0) = false := by simpa using hn
        go_enter Tryd.func37, Tryd.ntmps37
        go_wp2
        go_ret
        exact ⟨ret_bool (by first | rfl | exact HR.out), (Grown.refl _).alloc _ _⟩
    · have HR := Lib.hid (show false = rightB 2 n t by unfold rightB; simp; omega)
      have d1 : decide ((t.size : Int) ≤ 200) = false := by simp; omega
      by_cases hn : n = 0
      · subst hn
        go_enter Tryd.func37, Tryd.ntmps37
        go_wp2
        go_ret
        exact ⟨ret_bool (by first | rfl | exact HR.out), (Grown.refl _).alloc _ _⟩
      · have d2 : (n == 0) = false := by simpa using hn
        go_enter Tryd.func37, Tryd.ntmps37
        go_wp2
        go_ret
        exact ⟨ret_bool (by first | rfl | exact HR.out), (Grown.refl _).alloc _ _⟩
  by_cases h3 : k = 3
  · subst h3
    by_cases ht : t.size = 0
    · obtain rfl := empty_of ht
      clear ht hs
      by_cases hn : n = 0
      · subst hn
        have HR := Lib.hid (show true = rightB 3 0 ⟨#[]⟩ by decide)
        go_enter Tryd.func37, Tryd.ntmps37
        go_wp2
        go_ret
        exact ⟨ret_bool (by first | rfl | exact HR.out), (Grown.refl _).alloc _ _⟩
      · have d2 : (n == 0) = false := by simpa using hn
        by_cases hm : n = 1
        · subst hm
          have HR := Lib.hid (show true = rightB 3 1 ⟨#[]⟩ by decide)
          go_enter Tryd.func37, Tryd.ntmps37
          go_wp2
          go_ret
          exact ⟨ret_bool (by first | rfl | exact HR.out), (Grown.refl _).alloc _ _⟩
        · have d3 : (n == 1) = false := by simpa using hm
          have HR := Lib.hid (show false = rightB 3 n ⟨#[]⟩ by unfold rightB; simp [hn, hm])
          go_enter Tryd.func37, Tryd.ntmps37
          go_wp2
          go_ret
          exact ⟨ret_bool (by first | rfl | exact HR.out), (Grown.refl _).alloc _ _⟩
    · have HR := Lib.hid (show false = rightB 3 n t by unfold rightB; simp [ht])
      obtain ⟨q1, q2, q3⟩ := full_of ht
      go_enter Tryd.func37, Tryd.ntmps37
      go_wp2
      go_ret
      exact ⟨ret_bool (by first | rfl | exact HR.out), (Grown.refl _).alloc _ _⟩
  · have HR := Lib.hid (show false = rightB k n t by unfold rightB; simp [h1, h2, h3])
    have d1 : (k == 1) = false := by simpa using h1
    have d2 : (k == 2) = false := by simpa using h2
    have d3 : (k == 3) = false := by simpa using h3
    go_enter Tryd.func37, Tryd.ntmps37
    go_wp2
    go_ret
    exact ⟨ret_bool (by first | rfl | exact HR.out), (Grown.refl _).alloc _ _⟩
end Go.Proofs.YtjieofiaoepccaaDoor

namespace Go.Proofs.YtjieofiaoepccaaDoor
open Go.RowKit

/-- P3.6. -/
def zeroK (k : Int) : Int := if 1 ≤ k ∧ k ≤ 3 then k else 0

/-- P3.3. -/
def putV (b : ByteArray) (k n : Int) (t : ByteArray) : ByteArray :=
  if k % 4 = 0 then b ++ putS 0 else if k % 4 = 2 then b ++ putS 2 ++ putS t.size ++ t else b ++ putS (k % 4).toNat ++ putS (zigI n).toNat

theorem i64_and3 (n : Int) : bits .and .i64 n 3 = n % 4 := by
  have h3 : (BitVec.ofInt 64 3).toNat = 2 ^ 2 - 1 := by decide
  have key : (BitVec.ofInt 64 n &&& BitVec.ofInt 64 3).toNat = (n % ((2 ^ 64 : Nat) : Int)).toNat % 2 ^ 2 := by
    rw [BitVec.toNat_and, BitVec.toNat_ofInt, h3, Nat.and_two_pow_sub_one_eq_mod]
  show IntKind.i64.wrap ((BitVec.ofInt 64 n &&& BitVec.ofInt 64 3).toNat : Nat) = n % 4
  rw [key, IntKind.wrap_i64]
  omega
theorem i64_and1 (n : Int) : bits .and .i64 n 1 = n % 2 := by
  have h3 : (BitVec.ofInt 64 1).toNat = 2 ^ 1 - 1 := by decide
  have key : (BitVec.ofInt 64 n &&& BitVec.ofInt 64 1).toNat = (n % ((2 ^ 64 : Nat) : Int)).toNat % 2 ^ 1 := by
    rw [BitVec.toNat_and, BitVec.toNat_ofInt, h3, Nat.and_two_pow_sub_one_eq_mod]
  show IntKind.i64.wrap ((BitVec.ofInt 64 n &&& BitVec.ofInt 64 1).toNat : Nat) = n % 2
  rw [key, IntKind.wrap_i64]
  omega
theorem put9 (b : ByteArray) (n : Int) (m : Nat) (hm : n = (m : Int)) (w : World) (h : m < 18446744073709551616) (hb : b.size ≤ 4611686018427387904) :
    Calls Tryd.prog 29 #[.string b, .int .u64 n] w fun e w' => e = .returned (.string (b ++ putS m)) ∧ Grown w w' := by
  subst hm; exact put_any b m w h hb
set_option maxRecDepth 100000 in
set_option maxHeartbeats 1000000 in
theorem vput_any (b : ByteArray) (k n : Int) (t : ByteArray) (w : World) (h1 : -9223372036854775808 ≤ n) (h2 : n ≤ 9223372036854775807) (hb : b.size ≤ 1000000000000) (ht : t.size ≤ 1000000000000) :
    Calls Tryd.prog 54 #[.string b, .agg #[.int .i64 k, .int .i64 n, .string t]] w fun e w' => e = .returned (.string (putV b k n t)) ∧ Grown w w' := by
  have hand := i64_and3 k
  have hpz : ∀ m, (b ++ putS m).size ≤ 1000000000010 := fun m => by rw [ByteArray.size_append]; have := putS_size m; omega
  obtain h | h | h | h : k % 4 = 0 ∨ k % 4 = 1 ∨ k % 4 = 2 ∨ k % 4 = 3 := by omega
  · have HR := Lib.hid (show b ++ putS 0 = putV b k n t by unfold putV; rw [if_pos h])
    rw [h] at hand
    have HB := Lib.hid hb
    clear h hpz hb ht h1 h2
    go_enter Tryd.func54, Tryd.ntmps54
    go_wp2_with (go_at_call 29; ((with_reducible refine (put9 b 0 0 rfl _ (by decide) (Nat.le_trans HB.out (by decide))).mono ?_); rintro e w1 ⟨rfl, hg⟩))
    go_ret
    exact ⟨ret_str HR.out, grown_trans ((Grown.refl _).alloc _ _) (by assumption)⟩
  · have HR := Lib.hid (show b ++ putS 1 ++ putS (zigI n).toNat = putV b k n t by unfold putV; rw [if_neg (by omega), if_neg (by omega), h]; rfl)
    rw [h] at hand
    have HB := Lib.hid hb
    have HP := Lib.hid (hpz 1)
    clear h hpz hb ht
    go_enter Tryd.func54, Tryd.ntmps54
    go_wp2_with (first
      | (go_at_call 29; ((with_reducible refine (put9 b 1 1 rfl _ (by decide) (Nat.le_trans HB.out (by decide))).mono ?_); rintro e w1 ⟨rfl, hg⟩; have hc := grown_box hg 1 (.int .i64 n) rfl))
      | (go_at_call 69; ((with_reducible refine (int_any _ n _ h1 h2 (Nat.le_trans HP.out (by decide))).mono ?_); rintro e w2 ⟨rfl, hg2⟩)))
    go_ret
    exact ⟨ret_str HR.out, grown_trans ((Grown.refl _).alloc _ _) (grown_trans hg hg2)⟩
  · have HR := Lib.hid (show b ++ putS 2 ++ putS t.size ++ t = putV b k n t by unfold putV; rw [if_neg (by omega), if_pos h])
    rw [h] at hand
    have HB := Lib.hid hb
    have HT := Lib.hid ht
    have HP := Lib.hid (hpz 2)
    clear h hpz hb ht h1 h2
    go_enter Tryd.func54, Tryd.ntmps54
    go_wp2_with (first
      | (go_at_call 29; ((with_reducible refine (put9 b 2 2 rfl _ (by decide) (Nat.le_trans HB.out (by decide))).mono ?_); rintro e w1 ⟨rfl, hg⟩; have hc := grown_box hg 2 (.string t) rfl))
      | (go_at_call 53; ((with_reducible refine (text_any _ t _ (Nat.le_trans HP.out (by decide)) (Nat.le_trans HT.out (by decide))).mono ?_); rintro e w2 ⟨rfl, hg2⟩)))
    go_ret
    exact ⟨ret_str HR.out, grown_trans ((Grown.refl _).alloc _ _) (grown_trans hg hg2)⟩
  · have HR := Lib.hid (show b ++ putS 3 ++ putS (zigI n).toNat = putV b k n t by unfold putV; rw [if_neg (by omega), if_neg (by omega), h]; rfl)
    rw [h] at hand
    have HB := Lib.hid hb
    have HP := Lib.hid (hpz 3)
    clear h hpz hb ht
    go_enter Tryd.func54, Tryd.ntmps54
    go_wp2_with (first
      | (go_at_call 29; ((with_reducible refine (put9 b 3 3 rfl _ (by decide) (Nat.le_trans HB.out (by decide))).mono ?_); rintro e w1 ⟨rfl, hg⟩; have hc := grown_box hg 1 (.int .i64 n) rfl))
      | (go_at_call 69; ((with_reducible refine (int_any _ n _ h1 h2 (Nat.le_trans HP.out (by decide))).mono ?_); rintro e w2 ⟨rfl, hg2⟩)))
    go_ret
    exact ⟨ret_str HR.out, grown_trans ((Grown.refl _).alloc _ _) (grown_trans hg hg2)⟩
end Go.Proofs.YtjieofiaoepccaaDoor

