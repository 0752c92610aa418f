/-
  What is proved: plain facts on values (P3.1 to P3.7): what is right, the order, on integers and lists of bytes alone; no program is spoken of here.
  plain facts on dots (P5.2, P5.5, P5.6, P5.10): their order, lists that rise, and that such a list is told by what is in it; no program is spoken of here.
  cmp.Compare at ints and at texts, called with any two, return the order of the two; cmp.Or of three ints the first that is not 0; the world is left alone.
  val.Cmp, called with any two values, returns their order (P3.2); the world has new blocks at most.
  the document's own Zig, Zag, Put, Int and Text of layer 1 (package lorgnetteref01) return the same as the program's; the world has new blocks at most.
  the document's own Take, TakeInt and TakeText of layer 1 (package lorgnetteref01) return the same as the program's; the world has new blocks at most.
-/
import Derived.Test.YtjieofiaoepccaaGreatDoorM1
import Derived.Test.YtjieofiaoepccaaGreatDoorM2
import Derived.Laws.Cover1
import Derived.Laws.StructEq
import Derived.Sort.Walk0
import Derived.StillTailTactics
namespace Go.Proofs.YtjieofiaoepccaaGreatDoor

/-- P3.2. -/
def cmpI (a b : Int) : Int := if a < b then -1 else if b < a then 1 else 0
def cmpL (a b : List UInt8) : Int := if a < b then -1 else if b < a then 1 else 0
def cmpV (k1 n1 : Int) (t1 : List UInt8) (k2 n2 : Int) (t2 : List UInt8) : Int :=
  if cmpI k1 k2 ≠ 0 then cmpI k1 k2 else if cmpI n1 n2 ≠ 0 then cmpI n1 n2 else cmpL t1 t2

theorem list_tri (a b : List UInt8) : a < b ∨ a = b ∨ b < a := by
  by_cases h1 : a < b
  · exact .inl h1
  by_cases h2 : b < a
  · exact .inr (.inr h2)
  exact .inr (.inl (List.le_antisymm (List.not_lt.1 h2) (List.not_lt.1 h1)))
theorem cmpI_bd (a b : Int) : cmpI a b = -1 ∨ cmpI a b = 0 ∨ cmpI a b = 1 := by unfold cmpI; repeat (first | exact .inl rfl | exact .inr (.inl rfl) | exact .inr (.inr rfl) | split)
theorem cmpL_bd (a b : List UInt8) : cmpL a b = -1 ∨ cmpL a b = 0 ∨ cmpL a b = 1 := by unfold cmpL; repeat (first | exact .inl rfl | exact .inr (.inl rfl) | exact .inr (.inr rfl) | split)
theorem cmpV_bd (k1 n1 : Int) (t1 : List UInt8) (k2 n2 : Int) (t2 : List UInt8) : cmpV k1 n1 t1 k2 n2 t2 = -1 ∨ cmpV k1 n1 t1 k2 n2 t2 = 0 ∨ cmpV k1 n1 t1 k2 n2 t2 = 1 := by
  unfold cmpV; repeat (first | exact cmpI_bd _ _ | exact cmpL_bd _ _ | split)
theorem cmpI_zero (a b : Int) : cmpI a b = 0 ↔ a = b := by unfold cmpI; (repeat split) <;> constructor <;> intro h <;> omega
theorem cmpI_anti (a b : Int) : cmpI b a = - cmpI a b := by
  unfold cmpI
  by_cases h1 : a < b
  · rw [if_pos h1, if_neg (by omega), if_pos h1]; rfl
  · by_cases h2 : b < a
    · rw [if_pos h2, if_neg h1, if_pos h2]
    · rw [if_neg h2, if_neg h1, if_neg h1, if_neg h2]; rfl
theorem cmpL_zero (a b : List UInt8) : cmpL a b = 0 ↔ a = b := by
  unfold cmpL
  rcases list_tri a b with h | h | h
  · rw [if_pos h]; constructor
    · intro x; omega
    · intro x; subst x; exact absurd h (List.lt_irrefl _)
  · subst h; rw [if_neg (List.lt_irrefl _), if_neg (List.lt_irrefl _)]; simp
  · rw [if_neg (List.lt_asymm h), if_pos h]; constructor
    · intro x; omega
    · intro x; subst x; exact absurd h (List.lt_irrefl _)
theorem cmpL_anti (a b : List UInt8) : cmpL b a = - cmpL a b := by
  unfold cmpL
  rcases list_tri a b with h | h | h
  · rw [if_pos h, if_neg (List.lt_asymm h), if_pos h]; rfl
  · subst h; rw [if_neg (List.lt_irrefl _), if_neg (List.lt_irrefl _)]; rfl
  · rw [if_pos h, if_neg (List.lt_asymm h), if_pos h]
theorem cmpV_anti (k1 n1 : Int) (t1 : List UInt8) (k2 n2 : Int) (t2 : List UInt8) : cmpV k2 n2 t2 k1 n1 t1 = - cmpV k1 n1 t1 k2 n2 t2 := by
  unfold cmpV
  rw [cmpI_anti k1 k2, cmpI_anti n1 n2, cmpL_anti t1 t2]
  by_cases h1 : cmpI k1 k2 = 0
  · by_cases h2 : cmpI n1 n2 = 0
    · simp [h1, h2]
    · simp [h1, h2]
  · simp [h1]
theorem cmpV_zero (k1 n1 : Int) (t1 : List UInt8) (k2 n2 : Int) (t2 : List UInt8) : cmpV k1 n1 t1 k2 n2 t2 = 0 ↔ k1 = k2 ∧ n1 = n2 ∧ t1 = t2 := by
  unfold cmpV
  rw [← cmpI_zero k1, ← cmpI_zero n1, ← cmpL_zero t1]
  by_cases h1 : cmpI k1 k2 = 0
  · by_cases h2 : cmpI n1 n2 = 0
    · simp [h1, h2]
    · simp [h1, h2]
  · simp [h1]
theorem cmpI_le (a b : Int) : cmpI a b ≤ 0 ↔ a ≤ b := by unfold cmpI; (repeat split) <;> constructor <;> intro h <;> omega
theorem cmpL_le (a b : List UInt8) : cmpL a b ≤ 0 ↔ a ≤ b := by
  unfold cmpL
  rcases list_tri a b with h | h | h
  · rw [if_pos h]; constructor
    · intro _; exact List.le_of_lt h
    · intro _; omega
  · subst h; rw [if_neg (List.lt_irrefl _), if_neg (List.lt_irrefl _)]; constructor
    · intro _; exact List.le_refl _
    · intro _; omega
  · rw [if_neg (List.lt_asymm h), if_pos h]; constructor
    · intro x; omega
    · intro x; exact absurd h (List.not_lt.2 x)
theorem cmpV_le (k1 n1 : Int) (t1 : List UInt8) (k2 n2 : Int) (t2 : List UInt8) : cmpV k1 n1 t1 k2 n2 t2 ≤ 0 ↔ k1 < k2 ∨ k1 = k2 ∧ (n1 < n2 ∨ n1 = n2 ∧ t1 ≤ t2) := by
  unfold cmpV
  have a1 := cmpI_zero k1 k2
  have a2 := cmpI_le k1 k2
  have b1 := cmpI_zero n1 n2
  have b2 := cmpI_le n1 n2
  have c2 := cmpL_le t1 t2
  by_cases h1 : cmpI k1 k2 = 0
  · by_cases h2 : cmpI n1 n2 = 0
    · rw [if_neg (by simp [h1]), if_neg (by simp [h2]), c2]
      have := a1.1 h1; have := b1.1 h2
      constructor
      · intro h; exact .inr ⟨by omega, .inr ⟨by omega, h⟩⟩
      · rintro (h | ⟨_, h | ⟨_, h⟩⟩)
        · omega
        · omega
        · exact h
    · rw [if_neg (by simp [h1]), if_pos h2, b2]
      have := a1.1 h1
      have hb : n1 ≠ n2 := fun e => h2 (b1.2 e)
      constructor
      · intro h; exact .inr ⟨by omega, .inl (by omega)⟩
      · rintro (h | ⟨_, h | ⟨h, _⟩⟩) <;> omega
  · rw [if_pos h1, a2]
    have hb : k1 ≠ k2 := fun e => h1 (a1.2 e)
    constructor
    · intro h; exact .inl (by omega)
    · rintro (h | ⟨h, _⟩) <;> omega
theorem cmpV_trans (k1 n1 : Int) (t1 : List UInt8) (k2 n2 : Int) (t2 : List UInt8) (k3 n3 : Int) (t3 : List UInt8) (h1 : cmpV k1 n1 t1 k2 n2 t2 ≤ 0) (h2 : cmpV k2 n2 t2 k3 n3 t3 ≤ 0) : cmpV k1 n1 t1 k3 n3 t3 ≤ 0 := by
  rw [cmpV_le] at h1 h2 ⊢
  rcases h1 with h1 | ⟨rfl, h1 | ⟨rfl, h1⟩⟩
  · left
    rcases h2 with h2 | ⟨rfl, _⟩ <;> omega
  · rcases h2 with h2 | ⟨rfl, h2 | ⟨rfl, _⟩⟩
    · left; omega
    · right; exact ⟨rfl, .inl (by omega)⟩
    · right; exact ⟨rfl, .inl (by omega)⟩
  · rcases h2 with h2 | ⟨rfl, h2 | ⟨rfl, h2⟩⟩
    · left; omega
    · right; exact ⟨rfl, .inl (by omega)⟩
    · right; exact ⟨rfl, .inr ⟨rfl, List.le_trans h1 h2⟩⟩
end Go.Proofs.YtjieofiaoepccaaGreatDoor

namespace Go.Proofs.YtjieofiaoepccaaGreatDoor

/-- P5.2. -/
def cmpD (a b : Int × Int) : Int := if cmpI a.1 b.1 ≠ 0 then cmpI a.1 b.1 else cmpI a.2 b.2
def LtD (a b : Int × Int) : Prop := a.1 < b.1 ∨ (a.1 = b.1 ∧ a.2 < b.2)
theorem cmpD_lt (a b : Int × Int) : cmpD a b < 0 ↔ LtD a b := by
  unfold cmpD LtD cmpI
  (repeat split) <;> constructor <;> intro h <;> omega
theorem cmpD_gt (a b : Int × Int) : 0 < cmpD a b ↔ LtD b a := by
  unfold cmpD LtD cmpI
  (repeat split) <;> constructor <;> intro h <;> omega
theorem cmpD_eq (a b : Int × Int) : cmpD a b = 0 ↔ a = b := by
  obtain ⟨a1, a2⟩ := a
  obtain ⟨b1, b2⟩ := b
  unfold cmpD cmpI
  simp only [Prod.mk.injEq]
  (repeat split) <;> constructor <;> intro h <;> omega
theorem cmpD_anti (a b : Int × Int) : cmpD b a = - cmpD a b := by
  unfold cmpD cmpI
  (repeat split) <;> omega
theorem cmpD_bd (a b : Int × Int) : cmpD a b = -1 ∨ cmpD a b = 0 ∨ cmpD a b = 1 := by
  unfold cmpD; repeat (first | exact cmpI_bd _ _ | split)
theorem LtD.trans {a b c : Int × Int} (h : LtD a b) (k : LtD b c) : LtD a c := by unfold LtD at *; omega
theorem LtD.irrefl (a : Int × Int) : ¬ LtD a a := by unfold LtD; omega
theorem LtD.asymm {a b : Int × Int} (h : LtD a b) : ¬ LtD b a := fun k => LtD.irrefl _ (h.trans k)
theorem LtD.tri (a b : Int × Int) : LtD a b ∨ a = b ∨ LtD b a := by
  obtain ⟨a1, a2⟩ := a
  obtain ⟨b1, b2⟩ := b
  unfold LtD
  simp only [Prod.mk.injEq]
  omega

/-- Lists that rise. -/
def Rise (L : List (Int × Int)) : Prop := L.Pairwise LtD
theorem rise_unique : ∀ (X Y : List (Int × Int)), Rise X → Rise Y → (∀ x, x ∈ X ↔ x ∈ Y) → X = Y
  | [], [], _, _, _ => rfl
  | [], y :: ys, _, _, h => absurd ((h y).2 (List.mem_cons_self ..)) (by simp)
  | x :: xs, [], _, _, h => absurd ((h x).1 (List.mem_cons_self ..)) (by simp)
  | x :: xs, y :: ys, hX, hY, h => by
    obtain ⟨x1, x2⟩ := List.pairwise_cons.1 hX
    obtain ⟨y1, y2⟩ := List.pairwise_cons.1 hY
    have e : x = y := by
      rcases List.mem_cons.1 ((h x).1 (List.mem_cons_self ..)) with e | e
      · exact e
      · rcases List.mem_cons.1 ((h y).2 (List.mem_cons_self ..)) with e2 | e2
        · exact e2.symm
        · exact absurd (y1 _ e) (LtD.asymm (x1 _ e2))
    subst e
    refine congrArg _ (rise_unique xs ys x2 y2 fun z => ⟨fun hz => ?_, fun hz => ?_⟩)
    · rcases List.mem_cons.1 ((h z).1 (List.mem_cons_of_mem _ hz)) with e | e
      · subst e; exact absurd (x1 _ hz) (LtD.irrefl _)
      · exact e
    · rcases List.mem_cons.1 ((h z).2 (List.mem_cons_of_mem _ hz)) with e | e
      · subst e; exact absurd (y1 _ hz) (LtD.irrefl _)
      · exact e
/-- Rising, with just what is in L and d. -/
structure WithD (L : List (Int × Int)) (d : Int × Int) (X : List (Int × Int)) : Prop where
  rise : Rise X
  mem : ∀ x, x ∈ X ↔ x ∈ L ∨ x = d
/-- P5.6: rising, with just what is in L. -/
structure SortD (L X : List (Int × Int)) : Prop where
  rise : Rise X
  mem : ∀ x, x ∈ X ↔ x ∈ L
theorem SortD.same {L X Y : List (Int × Int)} (h : SortD L X) (k : SortD L Y) : X = Y := rise_unique X Y h.rise k.rise fun x => (h.mem x).trans (k.mem x).symm
theorem WithD.same {L X Y : List (Int × Int)} {d : Int × Int} (h : WithD L d X) (k : WithD L d Y) : X = Y := rise_unique X Y h.rise k.rise fun x => (h.mem x).trans (k.mem x).symm
theorem WithD.self {L : List (Int × Int)} {d : Int × Int} (h : Rise L) (hd : d ∈ L) : WithD L d L := ⟨h, fun _ => ⟨.inl, fun h => h.elim id fun e => e ▸ hd⟩⟩
/-- d put in at place k. -/
theorem WithD.put {L : List (Int × Int)} {d : Int × Int} (h : Rise L) (k : Nat) (h1 : ∀ x ∈ L.take k, LtD x d) (h2 : ∀ x ∈ L.drop k, LtD d x) : WithD L d (L.take k ++ d :: L.drop k) := by
  have e : L.take k ++ L.drop k = L := List.take_append_drop k L
  have hp := h
  unfold Rise at hp
  rw [← e, List.pairwise_append] at hp
  obtain ⟨p1, p2, p3⟩ := hp
  refine ⟨?_, fun x => ?_⟩
  · unfold Rise
    rw [List.pairwise_append]
    refine ⟨p1, List.pairwise_cons.2 ⟨h2, p2⟩, fun x hx y hy => ?_⟩
    rcases List.mem_cons.1 hy with rfl | hy
    · exact h1 x hx
    · exact p3 x hx y hy
  · conv => rhs; rw [← e]
    simp only [List.mem_append, List.mem_cons]
    constructor
    · rintro (h | h | h)
      · exact .inl (.inl h)
      · exact .inr h
      · exact .inl (.inr h)
    · rintro ((h | h) | h)
      · exact .inl h
      · exact .inr (.inr h)
      · exact .inr (.inl h)
theorem WithD.len {L X : List (Int × Int)} {d : Int × Int} (hL : Rise L) (h : WithD L d X) : (X.length = L.length) ↔ d ∈ L := by
  by_cases hd : d ∈ L
  · rw [(h.same (WithD.self hL hd))]
    simp [hd]
  · have hk : ∃ k, (∀ x ∈ L.take k, LtD x d) ∧ (∀ x ∈ L.drop k, LtD d x) := by
      clear h
      induction L with
      | nil => exact ⟨0, by simp, by simp⟩
      | cons a r ih =>
        obtain ⟨a1, a2⟩ := List.pairwise_cons.1 hL
        rcases LtD.tri a d with h | h | h
        · obtain ⟨k, k1, k2⟩ := ih a2 (fun hm => hd (List.mem_cons_of_mem _ hm))
          refine ⟨k + 1, fun x hx => ?_, fun x hx => k2 x (by simpa using hx)⟩
          rw [List.take_succ_cons] at hx
          rcases List.mem_cons.1 hx with rfl | hx
          · exact h
          · exact k1 x hx
        · exact absurd (h ▸ List.mem_cons_self ..) hd
        · refine ⟨0, by simp, fun x hx => ?_⟩
          rw [List.drop_zero] at hx
          rcases List.mem_cons.1 hx with rfl | hx
          · exact h
          · exact h.trans (a1 x hx)
    obtain ⟨k, k1, k2⟩ := hk
    rw [h.same (WithD.put hL k k1 k2)]
    have e : (L.take k ++ L.drop k).length = L.length := by rw [List.take_append_drop]
    simp only [List.length_append, List.length_cons] at e ⊢
    constructor
    · intro h; omega
    · intro h; exact absurd h hd
theorem rise_nil : Rise [] := List.Pairwise.nil
/-- The document's Sort: one put in behind the other. -/
theorem SortD.step {L X Y : List (Int × Int)} {d : Int × Int} (h : SortD L X) (k : WithD X d Y) : SortD (L ++ [d]) Y :=
  ⟨k.rise, fun x => by rw [k.mem, h.mem]; simp⟩
end Go.Proofs.YtjieofiaoepccaaGreatDoor

namespace Go.Proofs.YtjieofiaoepccaaGreatDoor
open Go.RowKit

theorem less_of (a b : ByteArray) : Op.bytesLess a.toList b.toList = decide (a.data.toList < b.data.toList) := by
  rw [bytesLess_eq, Lib.toList_data, Lib.toList_data]
theorem beq_of (a b : ByteArray) : (a.toList == b.toList) = decide (a.data.toList = b.data.toList) := by
  rw [Lib.toList_data, Lib.toList_data]; exact Bool.eq_iff_iff.2 (by simp)

theorem cmpStr_any (a b : ByteArray) (w : World) :
    Calls Tryz.prog 80 #[.string a, .string b] w fun e w' => e = .returned (.int .i64 (cmpL a.data.toList b.data.toList)) ∧ w = w' := by
  have e1 := less_of a b
  have e2 := beq_of a b
  rcases list_tri a.data.toList b.data.toList with h | h | h
  · have H := Lib.hid (show (-1 : Int) = cmpL a.data.toList b.data.toList by unfold cmpL; rw [if_pos h])
    replace e1 : Op.bytesLess a.toList b.toList = true := by rw [e1]; simpa using h
    clear e2 h
    go_enter Tryz.func80, Tryz.ntmps80
    go_wp2
    go_ret
    exact ⟨ret_int H.out, rfl⟩
  · have H := Lib.hid (show (0 : Int) = cmpL a.data.toList b.data.toList by exact ((cmpL_zero _ _).2 h).symm)
    replace e1 : Op.bytesLess a.toList b.toList = false := by rw [e1, h]; simp
    replace e2 : (a.toList == b.toList) = true := by rw [e2]; simpa using h
    clear h
    go_enter Tryz.func80, Tryz.ntmps80
    go_wp2
    go_ret
    exact ⟨ret_int H.out, rfl⟩
  · have H := Lib.hid (show (1 : Int) = cmpL a.data.toList b.data.toList by unfold cmpL; rw [if_neg (List.lt_asymm h), if_pos h])
    replace e1 : Op.bytesLess a.toList b.toList = false := by rw [e1]; simpa using List.lt_asymm h
    replace e2 : (a.toList == b.toList) = false := by
      rw [e2]
      have : a.data.toList ≠ b.data.toList := fun e => List.lt_irrefl _ (e ▸ h)
      simpa using this
    clear h
    go_enter Tryz.func80, Tryz.ntmps80
    go_wp2
    go_ret
    exact ⟨ret_int H.out, rfl⟩

def orI (x y z : Int) : Int := if x ≠ 0 then x else if y ≠ 0 then y else z
theorem cmpV_or (k1 n1 : Int) (t1 : List UInt8) (k2 n2 : Int) (t2 : List UInt8) : orI (cmpI k1 k2) (cmpI n1 n2) (cmpL t1 t2) = cmpV k1 n1 t1 k2 n2 t2 := rfl

end Go.Proofs.YtjieofiaoepccaaGreatDoor

namespace Go.Proofs.YtjieofiaoepccaaGreatDoor
open Go.RowKit

theorem cmpStr_st (a b : ByteArray) (w : World) : Calls Tryz.prog 80 #[.string a, .string b] w fun e w' => e = .returned (.int .i64 (cmpL a.data.toList b.data.toList)) ∧ w' = w :=
  (cmpStr_any a b w).mono fun _ _ ⟨he, hw⟩ => ⟨he, hw.symm⟩

/-- A region whose first n operations only read, in whatever order, and whose others have one order: the world behind the draw under a name of its own. -/
theorem region_tail {P : Program} {id : Nat} {Q : Exit → Act → World → Prop} {a : Act} {w : World} {l : List Oper} (n : Nat) (hm : P.follows .mixedOrders = true) (hB : Region.lexTailB .any l.toArray n = true)
    (h : ∀ wd : World, wd = w.drew → wpStill P l.toArray wd (fun a' => wpList P l.toArray Q (l.drop n) a' wd) (l.take n) a) : (Code.region id l.toArray true).wp P Q a w :=
  wp_region_still_tail n hm hB (h _ rfl)

end Go.Proofs.YtjieofiaoepccaaGreatDoor

namespace Go.Proofs.YtjieofiaoepccaaGreatDoor
open Go.RowKit

theorem rzig_any (n : Int) (w : World) (h1 : -9223372036854775808 ≤ n) (h2 : n ≤ 9223372036854775807) :
    Calls Tryz.prog 87 #[.int .i64 n] w fun e w' => e = .returned (.int .u64 (zigI n)) ∧ w = w' := by
  by_cases hneg : n < 0
  · go_enter Tryz.func87, Tryz.ntmps87
    go_wp2
    go_ret
    refine ⟨ret_int ?_, rfl⟩
    unfold zigI
    rw [if_pos (by omega)]
    omega
  · go_enter Tryz.func87, Tryz.ntmps87
    go_wp2
    go_ret
    refine ⟨ret_int ?_, rfl⟩
    unfold zigI
    rw [if_neg (by omega)]

theorem rzag_any (n : Int) (w : World) (h1 : 0 ≤ n) (h2 : n < 18446744073709551616) :
    Calls Tryz.prog 93 #[.int .u64 n] w fun e w' => e = .returned (.int .i64 (zagI n)) ∧ w = w' := by
  by_cases hodd : n % 2 = 1
  · have ht : (n % 2 == 1) = true := by simpa using hodd
    have H := Lib.hid hodd
    clear hodd
    go_enter Tryz.func93, Tryz.ntmps93
    go_wp2
    go_ret
    refine ⟨ret_int ?_, rfl⟩
    unfold zagI
    rw [if_pos H.out]
  · have ht : (n % 2 == 1) = false := by simpa using hodd
    go_enter Tryz.func93, Tryz.ntmps93
    go_wp2
    go_ret
    refine ⟨ret_int ?_, rfl⟩
    unfold zagI
    rw [if_neg (by omega)]

/-- At most f bytes ahead of the last one, as a text. -/
def putFS (f n : Nat) : ByteArray := ⟨(putF f n).toArray⟩

def byteS (z : Int) : ByteArray := ⟨#[UInt8.ofNat z.toNat]⟩
theorem byteS_size (z : Int) : (byteS z).size = 1 := rfl
theorem one_text (z : Int) (w : World) :
    (convert 58 9 (.slice (some ⟨w.heap.size, 0, none⟩) 1 1)).run Tryz.prog (w.alloc (.cells #[.int .u8 z] 5)) = .ok (.string (byteS z)) (w.alloc (.cells #[.int .u8 z] 5)) := by
  have hs : strOfNums [z] = byteS z := rfl
  rw [← hs]
  refine run_convert_bytes_arg _ 58 5 Tryz.underlying58 Tryz.underlying5 w.heap.size 0 1 1 [z] rfl ?_ 9 Tryz.underlying9
  intro i hi
  obtain rfl : i = 0 := by omega
  rw [World.cell?_alloc_new]
  rfl

theorem put_end (f : Nat) (b : ByteArray) (n : Int) (h : n < 128) : b ++ byteS n = b ++ putFS f n.toNat := by
  have : putF f n.toNat = [UInt8.ofNat n.toNat] := by
    cases f with
    | zero => rfl
    | succ f => simp only [putF]; rw [if_pos (by omega)]
  unfold putFS byteS
  rw [this]
theorem put_more (f : Nat) (b : ByteArray) (n : Int) (_h0 : 0 ≤ n) (h : ¬ n < 128) : b ++ byteS (128 + n % 128) ++ putFS f (n / 128).toNat = b ++ putFS (f + 1) n.toNat := by
  apply ba_ext
  rw [ba_app, ba_app, ba_app, List.append_assoc]
  congr 1
  show [UInt8.ofNat (128 + n % 128).toNat] ++ putF f (n / 128).toNat = putF (f + 1) n.toNat
  simp only [putF]
  rw [if_neg (by omega), show (128 + n % 128).toNat = 128 + n.toNat % 128 by omega, show (n / 128).toNat = n.toNat / 128 by omega]
  rfl

theorem rput_any (f : Nat) : ∀ (b : ByteArray) (n : Int) (w : World), f ≤ 9 → 0 ≤ n → n < 128 ^ (f + 1) → n < 18446744073709551616 → b.size ≤ 100000 + (9 - f) →
    Calls Tryz.prog 46 #[.string b, .int .u64 n] w fun e w' => e = .returned (.string (b ++ putFS f n.toNat)) ∧ Grown w w' := by
  induction f with
  | zero =>
    intro b n w hf h0 hn hn2 hb
    have hn' : n < 128 := by simpa using hn
    have h1 := one_text n w
    have h1s := byteS_size n
    have HE := Lib.hid (put_end 0 b n hn')
    clear hn
    go_enter Tryz.func46, Tryz.ntmps46
    go_wp2_with fail
    go_ret
    exact ⟨by rw [← HE.out]; rfl, (Grown.refl _).alloc _ _⟩
  | succ f ih =>
    intro b n w hf h0 hn hn2 hb
    by_cases hn' : n < 128
    · have h1 := one_text n w
      have h1s := byteS_size n
      have HE := Lib.hid (put_end (f + 1) b n hn')
      clear hn ih
      go_enter Tryz.func46, Tryz.ntmps46
      go_wp2_with fail
      go_ret
      exact ⟨by rw [← HE.out]; rfl, (Grown.refl _).alloc _ _⟩
    · have h1 := one_text (128 + n % 128) w
      have h1s := byteS_size (128 + n % 128)
      have HE := Lib.hid (put_more f b n h0 hn')
      have HN := Lib.hid hn
      have hsz : (b ++ byteS (128 + n % 128)).size ≤ 100000 + (9 - f) := by rw [ByteArray.size_append, h1s]; omega
      have hdv : n / 128 < 128 ^ (f + 1) := by
        have e : (128 : Int) ^ (f + 1 + 1) = 128 ^ (f + 1) * 128 := Int.pow_succ _ _
        rw [e] at hn
        exact Int.ediv_lt_of_lt_mul (by omega) hn
      have HI := Lib.hid (ih (b ++ byteS (128 + n % 128)) (n / 128) (w.alloc (.cells #[.int .u8 (128 + n % 128)] 5)) (by omega) (by omega) hdv (by omega) hsz)
      clear hn ih hdv
      go_enter Tryz.func46, Tryz.ntmps46
      go_wp2_with (go_at_call 46; ((with_reducible refine HI.out.mono ?_); rintro e w1 ⟨rfl, hg⟩))
      go_ret
      exact ⟨by rw [← HE.out]; rfl, grown_trans ((Grown.refl _).alloc _ _) (by assumption)⟩

theorem rput9 (b : ByteArray) (n : Int) (w : World) (h0 : 0 ≤ n) (h : n < 18446744073709551616) (hb : b.size ≤ 100000) :
    Calls Tryz.prog 46 #[.string b, .int .u64 n] w fun e w' => e = .returned (.string (b ++ putS n.toNat)) ∧ Grown w w' :=
  rput_any 9 b n w (by omega) h0 (Int.lt_trans h (by decide)) h (by omega)

theorem rint_any (b : ByteArray) (n : Int) (w : World) (h1 : -9223372036854775808 ≤ n) (h2 : n ≤ 9223372036854775807) (hb : b.size ≤ 100000) :
    Calls Tryz.prog 73 #[.string b, .int .i64 n] w fun e w' => e = .returned (.string (b ++ putS (zigI n).toNat)) ∧ Grown w w' := by
  have hz := zig_bd n h1 h2
  go_enter Tryz.func73, Tryz.ntmps73
  go_wp2_with (first | (go_at_call 87; refine (rzig_any _ _ h1 h2).mono ?_; rintro e w' ⟨rfl, rfl⟩) | (go_at_call 46; refine (rput9 _ _ _ hz.1 hz.2 hb).mono ?_; rintro e w1 ⟨rfl, hg⟩))
  go_ret
  exact ⟨rfl, by assumption⟩

theorem rtext_any (b s : ByteArray) (w : World) (hb : b.size ≤ 90000) (hs : s.size ≤ 90000) :
    Calls Tryz.prog 47 #[.string b, .string s] w fun e w' => e = .returned (.string (b ++ putS s.size ++ s)) ∧ Grown w w' := by
  have hp := putS_size s.size
  have hbp : (b ++ putS s.size).size ≤ 90010 := by rw [ByteArray.size_append]; omega
  go_enter Tryz.func47, Tryz.ntmps47
  go_wp2_with (go_at_call 46; ((with_reducible refine (rput9 _ _ _ (by omega) (by omega) (by omega)).mono ?_); rintro e w1 ⟨rfl, hg⟩; rw [Int.toNat_natCast]))
  go_ret
  exact ⟨rfl, by assumption⟩
end Go.Proofs.YtjieofiaoepccaaGreatDoor

namespace Go.Proofs.YtjieofiaoepccaaGreatDoor
open Go.RowKit

/-- The number of the first j bytes. -/
def accOf (s : ByteArray) : Nat → Nat
  | 0 => 0
  | j + 1 => accOf s j + (s.data.toList.getD j 0).toNat % 128 * 128 ^ j
/-- What holds at the first loop's head: k bytes are gone through, all of them 128 or above. -/
def RInv (s : ByteArray) (k : Nat) : Prop := TkInv s k (accOf s k) ∧ ∀ i, i < k → 128 ≤ (s.data.toList.getD i 0).toNat

theorem getD_at (s : ByteArray) (k : Nat) (h : k < s.size) : s.data.toList.getD k 0 = s[k] := by
  have hl : k < s.data.toList.length := h
  unfold List.getD
  rw [List.getElem?_eq_getElem hl]
  rfl
theorem rInv_next {s : ByteArray} {k : Nat} (h : RInv s k) (hlt : k < s.size) (h9 : k < 9) (hc : 128 ≤ s[k].toNat) : RInv s (k + 1) := by
  refine ⟨?_, ?_⟩
  · have := tkInv_next h.1 hlt (by omega) (by omega)
    unfold accOf
    rw [getD_at s k hlt]
    exact this
  · intro i hi
    by_cases e : i = k
    · subst e; rw [getD_at s i hlt]; exact hc
    · exact h.2 i (by omega)

/-- The index of a text, in the walk's own words. -/
theorem idx (s : ByteArray) (k : Nat) (hlt : k < s.size) : ∃ c : Nat, RowKit.Hid (c = s[k].toNat) ∧ c < 256 ∧ ∀ wx, (Instr.index 9 (.string s) (.int .i64 k)).run Tryz.prog wx = .ok (.int .u8 c) wx :=
  ⟨_, rfl, UInt8.toNat_lt _, fun wx => by rw [run_index_string _ _ _ _ _ Tryz.underlying9]; simp [hlt]⟩

/-- What holds at the second loop's head: m is the number from place j on. -/
def LInv (s : ByteArray) (T j m : Nat) : Prop := m * 128 ^ j + accOf s j = T ∧ T < 18446744073709551616
theorem lInv_step {s : ByteArray} {T p m c : Nat} (h : LInv s T (p + 1) m) (hlt : p < s.size) (hc : c = s[p].toNat) (h128 : 128 ≤ c) :
    LInv s T p (128 * m + (c - 128)) ∧ 128 * m + (c - 128) < 18446744073709551616 := by
  have hb : c < 256 := by rw [hc]; exact UInt8.toNat_lt _
  obtain ⟨h1, h2⟩ := h
  have hp : 0 < 128 ^ p := Nat.pow_pos (by omega)
  have e : (128 * m + (c - 128)) * 128 ^ p + accOf s p = T := by
    rw [← h1, show accOf s (p + 1) = accOf s p + (s.data.toList.getD p 0).toNat % 128 * 128 ^ p from rfl]
    rw [getD_at s p hlt, ← hc, Nat.add_mul, Nat.pow_succ, show c % 128 = c - 128 by omega]
    have : 128 * m * 128 ^ p = m * (128 ^ p * 128) := by
      rw [Nat.mul_comm 128 m, Nat.mul_assoc, Nat.mul_comm 128 (128 ^ p)]
    omega
  refine ⟨⟨e, h2⟩, ?_⟩
  have : (128 * m + (c - 128)) * 1 ≤ (128 * m + (c - 128)) * 128 ^ p := Nat.mul_le_mul_left _ hp
  omega
theorem lInv_last {s : ByteArray} {T m : Nat} (h : LInv s T 0 m) : m = T := by
  obtain ⟨h1, _⟩ := h
  simpa [accOf] using h1

set_option maxRecDepth 100000 in
set_option maxHeartbeats 2000000 in
theorem rtake_any (s : ByteArray) (w : World) (hs : s.size ≤ 100000) :
    Calls Tryz.prog 32 #[.string s] w fun e w' => e = .returned (.tuple #[.int .u64 (tkN s), .string (tkR s), .int .i64 (tkE s)]) ∧ Grown w w' := by
  go_enter Tryz.func32, Tryz.ntmps32
  go_wp2
  go_loop [5] (fun i => ∃ k : Nat, RInv s k ∧ i = .int .i64 k) (fun i => s.size - (intOf i).toNat)
  case atStart => exact ⟨0, ⟨⟨by omega, by omega, by simp [accOf], by simp [takeL, accOf]⟩, fun i hi => by omega⟩, rfl⟩
  case round =>
    obtain ⟨k, hinv, rfl⟩ := hrel
    obtain ⟨hk9, hks, _⟩ := tkInv_bd hinv.1
    by_cases hlt : k < s.size
    · obtain ⟨c, HC, hc256, hix⟩ := idx s k hlt
      have hl1 : decide (k < s.size) = true := by simpa using hlt
      have hl2 : (k == s.size) = false := by simp; omega
      have hl3 : ((k : Int) == (s.size : Int)) = false := by simp; omega
      by_cases h9 : k < 9
      · have h91 : decide ((k : Int) < 9) = true := by simp; omega
        have h92 : ((k : Int) == 9) = false := by simp; omega
        by_cases h128 : 128 ≤ c
        · have h1281 : decide (128 ≤ (c : Int)) = true := by simp; omega
          have HN := Lib.hid (rInv_next hinv hlt h9 (by rw [← HC.out]; exact h128))
          go_wp2
          exact ⟨⟨k + 1, HN.out, by go_num⟩, by simp [intOf]; omega⟩
        · have h1281 : decide (128 ≤ (c : Int)) = false := by simp; omega
          by_cases hf : 0 < k ∧ c = 0
          · have ec1 : ((c : Int) == 0) = true := by simp [hf.2]
            have hk0 : 0 < k := hf.1
            have HR := Lib.hid (res_err (tkInv_form hinv.1 hlt hf.1 (by rw [← HC.out]; exact hf.2)))
            clear hf
            go_wp2
            go_ret3
            exact ⟨ret3 (by rw [HR.out.1]; rfl) HR.out.2.1.symm (by rw [HR.out.2.2]; rfl), Grown.refl _⟩
          · have HR := Lib.hid (res_ok (tkInv_ok hinv.1 hlt (by omega) (by rw [← HC.out]; omega) (by rw [← HC.out]; omega)))
            by_cases hk0 : 0 < k
            · have ec1 : ((c : Int) == 0) = false := by simp; omega
              clear hf
              have HT : RowKit.Hid (LInv s (tkN s) k c) := ⟨by rw [HR.out.1, ← HC.out]; omega, tkN_bd s⟩
              have HV := Lib.hid hinv.2
              have H9 := Lib.hid hk9
              go_wp2
              go_loop [6, 7] (fun n i => ∃ (m : Nat) (z : Int), -1 ≤ z ∧ z < k ∧ LInv s (tkN s) (z + 1).toNat m ∧ n = .int .u64 m ∧ i = .int .i64 z) (fun _ i => (intOf i + 1).toNat)
              case atStart => exact ⟨c, (k : Int) - 1, by omega, by omega, by rw [show ((k : Int) - 1 + 1).toNat = k by omega]; exact HT.out, rfl, rfl⟩
              case round =>
                obtain ⟨m, z, hz1, hz2, hli, rfl, rfl⟩ := hrel
                by_cases hz0 : 0 ≤ z
                · obtain ⟨p, rfl⟩ : ∃ p : Nat, z = (p : Int) := ⟨z.toNat, by omega⟩
                  obtain ⟨d, HD, hd256, hixp⟩ := idx s p (by omega)
                  have hd128 : 128 ≤ d := by have := HV.out p (by omega); rw [getD_at s p (by omega), ← HD.out] at this; exact this
                  have hst := lInv_step (m := m) (by rw [show ((p : Int) + 1).toNat = p + 1 by omega] at hli; exact hli) (by omega) HD.out hd128
                  have HL := Lib.hid hst.1
                  have hm1 : (128 * (m : Int) + ((d : Int) - 128)) < 18446744073709551616 := by have := hst.2; omega
                  clear hst hli
                  go_wp2
                  exact ⟨⟨128 * m + (d - 128), (p : Int) - 1, by omega, by omega, by rw [show ((p : Int) - 1 + 1).toNat = p by omega]; exact HL.out, by go_num, rfl⟩, by simp [intOf]⟩
                · have hm : m = tkN s := by
                    obtain rfl : z = -1 := by omega
                    exact lInv_last hli
                  have HM := Lib.hid hm
                  clear hm hli
                  go_wp2
                  go_quiet (fail)
                  go_wp2
                  go_ret3
                  exact ⟨ret3 (by rw [HM.out]) HR.out.2.1.symm (by rw [HR.out.2.2]; rfl), grown_drewN _ _⟩
            · have hk0' : decide (0 < k) = false := by simpa using hk0
              clear hf
              have HT : RowKit.Hid (LInv s (tkN s) k c) := ⟨by rw [HR.out.1, ← HC.out]; omega, tkN_bd s⟩
              have HV := Lib.hid hinv.2
              have H9 := Lib.hid hk9
              go_wp2
              go_loop [6, 7] (fun n i => ∃ (m : Nat) (z : Int), -1 ≤ z ∧ z < k ∧ LInv s (tkN s) (z + 1).toNat m ∧ n = .int .u64 m ∧ i = .int .i64 z) (fun _ i => (intOf i + 1).toNat)
              case atStart => exact ⟨c, (k : Int) - 1, by omega, by omega, by rw [show ((k : Int) - 1 + 1).toNat = k by omega]; exact HT.out, rfl, rfl⟩
              case round =>
                obtain ⟨m, z, hz1, hz2, hli, rfl, rfl⟩ := hrel
                by_cases hz0 : 0 ≤ z
                · obtain ⟨p, rfl⟩ : ∃ p : Nat, z = (p : Int) := ⟨z.toNat, by omega⟩
                  obtain ⟨d, HD, hd256, hixp⟩ := idx s p (by omega)
                  have hd128 : 128 ≤ d := by have := HV.out p (by omega); rw [getD_at s p (by omega), ← HD.out] at this; exact this
                  have hst := lInv_step (m := m) (by rw [show ((p : Int) + 1).toNat = p + 1 by omega] at hli; exact hli) (by omega) HD.out hd128
                  have HL := Lib.hid hst.1
                  have hm1 : (128 * (m : Int) + ((d : Int) - 128)) < 18446744073709551616 := by have := hst.2; omega
                  clear hst hli
                  go_wp2
                  exact ⟨⟨128 * m + (d - 128), (p : Int) - 1, by omega, by omega, by rw [show ((p : Int) - 1 + 1).toNat = p by omega]; exact HL.out, by go_num, rfl⟩, by simp [intOf]⟩
                · have hm : m = tkN s := by
                    obtain rfl : z = -1 := by omega
                    exact lInv_last hli
                  have HM := Lib.hid hm
                  clear hm hli
                  go_wp2
                  go_quiet (fail)
                  go_wp2
                  go_ret3
                  exact ⟨ret3 (by rw [HM.out]) HR.out.2.1.symm (by rw [HR.out.2.2]; rfl), grown_drewN _ _⟩
      · have h91 : decide ((k : Int) < 9) = false := by simp; omega
        have h92 : ((k : Int) == 9) = true := by simp; omega
        have hix9 : ∀ wx, (Instr.index 9 (.string s) (.int .i64 9)).run Tryz.prog wx = .ok (.int .u8 c) wx := by
          have : (k : Int) = 9 := by omega
          rw [← this]; exact hix
        by_cases hl : 1 < c
        · have el1 : decide ((1 : Int) < (c : Int)) = true := by simp; omega
          have HR := Lib.hid (res_err (tkInv_long hinv.1 hlt (by omega) (by rw [← HC.out]; exact hl)))
          go_wp2
          go_ret3
          exact ⟨ret3 (by rw [HR.out.1]; rfl) HR.out.2.1.symm (by rw [HR.out.2.2]; rfl), Grown.refl _⟩
        have el1 : decide ((1 : Int) < (c : Int)) = false := by simp; omega
        have hk0 : 0 < k := by omega
        by_cases hz : c = 0
        · have ec1 : ((c : Int) == 0) = true := by simp [hz]
          have HR := Lib.hid (res_err (tkInv_form hinv.1 hlt hk0 (by rw [← HC.out]; exact hz)))
          clear hz
          go_wp2
          go_ret3
          exact ⟨ret3 (by rw [HR.out.1]; rfl) HR.out.2.1.symm (by rw [HR.out.2.2]; rfl), Grown.refl _⟩
        · have ec1 : ((c : Int) == 0) = false := by simp; omega
          have HR := Lib.hid (res_ok (tkInv_ok hinv.1 hlt (by rw [← HC.out]; omega) (by rw [← HC.out]; omega) (by rw [← HC.out]; omega)))
          have HT : RowKit.Hid (LInv s (tkN s) k c) := ⟨by rw [HR.out.1, ← HC.out]; omega, tkN_bd s⟩
          have HV := Lib.hid hinv.2
          have H9 := Lib.hid hk9
          go_wp2
          go_loop [6, 7] (fun n i => ∃ (m : Nat) (z : Int), -1 ≤ z ∧ z < k ∧ LInv s (tkN s) (z + 1).toNat m ∧ n = .int .u64 m ∧ i = .int .i64 z) (fun _ i => (intOf i + 1).toNat)
          case atStart => exact ⟨c, (k : Int) - 1, by omega, by omega, by rw [show ((k : Int) - 1 + 1).toNat = k by omega]; exact HT.out, rfl, rfl⟩
          case round =>
            obtain ⟨m, z, hz1, hz2, hli, rfl, rfl⟩ := hrel
            by_cases hz0 : 0 ≤ z
            · obtain ⟨p, rfl⟩ : ∃ p : Nat, z = (p : Int) := ⟨z.toNat, by omega⟩
              obtain ⟨d, HD, hd256, hixp⟩ := idx s p (by omega)
              have hd128 : 128 ≤ d := by have := HV.out p (by omega); rw [getD_at s p (by omega), ← HD.out] at this; exact this
              have hst := lInv_step (m := m) (by rw [show ((p : Int) + 1).toNat = p + 1 by omega] at hli; exact hli) (by omega) HD.out hd128
              have HL := Lib.hid hst.1
              have hm1 : (128 * (m : Int) + ((d : Int) - 128)) < 18446744073709551616 := by have := hst.2; omega
              clear hst hli
              go_wp2
              exact ⟨⟨128 * m + (d - 128), (p : Int) - 1, by omega, by omega, by rw [show ((p : Int) - 1 + 1).toNat = p by omega]; exact HL.out, by go_num, rfl⟩, by simp [intOf]⟩
            · have hm : m = tkN s := by
                obtain rfl : z = -1 := by omega
                exact lInv_last hli
              have HM := Lib.hid hm
              clear hm hli
              go_wp2
              go_quiet (fail)
              go_wp2
              go_ret3
              exact ⟨ret3 (by rw [HM.out]) HR.out.2.1.symm (by rw [HR.out.2.2]; rfl), grown_drewN _ _⟩
    · have hl1 : decide (k < s.size) = false := by simpa using hlt
      have hl2 : (k == s.size) = true := by simp; omega
      have hl3 : ((k : Int) == (s.size : Int)) = true := by simp; omega
      have HR := Lib.hid (res_err (tkInv_end hinv.1 hlt))
      go_wp2
      go_ret3
      exact ⟨ret3 (by rw [HR.out.1]; rfl) HR.out.2.1.symm (by rw [HR.out.2.2]; rfl), Grown.refl _⟩

theorem rtakeInt_any (s : ByteArray) (w : World) (hs : s.size ≤ 100000) :
    Calls Tryz.prog 83 #[.string s] w fun e w' => e = .returned (.tuple #[.int .i64 (tiN s), .string (tkR s), .int .i64 (tkE s)]) ∧ Grown w w' := by
  have hn := tkN_bd s
  by_cases h : tkE s = 0
  · have he : ((tkE s : Int) != 0) = false := by simp [h]
    have H := Lib.hid h
    clear h
    go_enter Tryz.func83, Tryz.ntmps83
    go_wp2_with (first | (go_at_call 32; refine (rtake_any _ _ hs).mono ?_; rintro e w1 ⟨rfl, hg⟩) | (go_at_call 93; refine (rzag_any _ _ (by omega) (by omega)).mono ?_; rintro e w2 ⟨rfl, rfl⟩))
    go_ret3
    exact ⟨ret3i (by unfold tiN; rw [if_pos H.out]) rfl (by rw [H.out]; rfl), by assumption⟩
  · have he : ((tkE s : Int) != 0) = true := by simp [h]
    have H := Lib.hid h
    clear h
    go_enter Tryz.func83, Tryz.ntmps83
    go_wp2_with (first | (go_at_call 32; refine (rtake_any _ _ hs).mono ?_; rintro e w1 ⟨rfl, hg⟩) | (go_at_call 93; refine (rzag_any _ _ (by omega) (by omega)).mono ?_; rintro e w2 ⟨rfl, rfl⟩))
    go_ret3
    exact ⟨ret3i (by unfold tiN; rw [if_neg H.out]) (tk_bad s H.out).2.symm rfl, by assumption⟩

set_option maxRecDepth 100000 in
theorem rtakeText_any (s : ByteArray) (most : Int) (w : World) (hs : s.size ≤ 100000) (h1 : -9223372036854775808 ≤ most) (h2 : most ≤ 9223372036854775807) :
    Calls Tryz.prog 64 #[.string s, .int .i64 most] w fun e w' => e = .returned (.tuple #[.string (ttT s most), .string (ttR s most), .int .i64 (ttE s most)]) ∧ Grown w w' := by
  have hn := tkN_bd s
  have hr := tkR_size s
  by_cases h : tkE s = 0
  · have he : ((tkE s : Int) != 0) = false := by simp [h]
    by_cases hm : most < 0
    · have HR := Lib.hid (tt_of (s := s) (most := most) (by unfold ttL; rw [if_neg (by omega), if_pos (by omega)]))
      have hmb : decide (most < 0) = true := by simpa using hm
      have H := Lib.hid h
      clear h
      go_enter Tryz.func64, Tryz.ntmps64
      go_wp2_with (go_at_call 32; refine (rtake_any _ _ hs).mono ?_; rintro e w1 ⟨rfl, hg⟩)
      go_ret3
      exact ⟨ret3s HR.out.1 HR.out.2.1 (by rw [← HR.out.2.2]; rfl), by assumption⟩
    by_cases hl : most < (tkN s : Int)
    · have HR := Lib.hid (tt_of (s := s) (most := most) (by unfold ttL; rw [if_neg (by omega), if_pos (by omega)]))
      have hmb : decide (most < 0) = false := by simpa using hm
      have hlb : decide (most < (tkN s : Int)) = true := by simpa using hl
      have H := Lib.hid h
      clear h
      go_enter Tryz.func64, Tryz.ntmps64
      go_wp2_with (go_at_call 32; refine (rtake_any _ _ hs).mono ?_; rintro e w1 ⟨rfl, hg⟩)
      go_ret3
      exact ⟨ret3s HR.out.1 HR.out.2.1 (by rw [← HR.out.2.2]; rfl), by assumption⟩
    by_cases hz : (tkR s).size < tkN s
    · have HR := Lib.hid (tt_of (s := s) (most := most) (by unfold ttL; rw [if_neg (by omega), if_neg (by omega), if_pos hz]))
      have hmb : decide (most < 0) = false := by simpa using hm
      have hlb : decide (most < (tkN s : Int)) = false := by simpa using hl
      have hzb : decide ((tkR s).size < tkN s) = true := by simpa using hz
      have H := Lib.hid h
      clear h
      go_enter Tryz.func64, Tryz.ntmps64
      go_wp2_with (go_at_call 32; refine (rtake_any _ _ hs).mono ?_; rintro e w1 ⟨rfl, hg⟩)
      go_ret3
      exact ⟨ret3s HR.out.1 HR.out.2.1 (by rw [← HR.out.2.2]; rfl), by assumption⟩
    · have HR := Lib.hid (tt_of (s := s) (most := most) (by unfold ttL; rw [if_neg (by omega), if_neg (by omega), if_neg hz]))
      have hmb : decide (most < 0) = false := by simpa using hm
      have hlb : decide (most < (tkN s : Int)) = false := by simpa using hl
      have hzb : decide ((tkR s).size < tkN s) = false := by simpa using hz
      have H := Lib.hid h
      clear h
      go_enter Tryz.func64, Tryz.ntmps64
      go_wp2_with (go_at_call 32; refine (rtake_any _ _ hs).mono ?_; rintro e w1 ⟨rfl, hg⟩)
      go_quiet (fail)
      go_wp2
      go_ret3
      exact ⟨ret3s HR.out.1 HR.out.2.1 (by rw [← HR.out.2.2]; rfl), grown_trans hg (grown_drewN _ _)⟩
  · have he : ((tkE s : Int) != 0) = true := by simp [h]
    have HR := Lib.hid (tt_of (s := s) (most := most) (by unfold ttL; rw [if_pos h]))
    clear h
    go_enter Tryz.func64, Tryz.ntmps64
    go_wp2_with (go_at_call 32; refine (rtake_any _ _ hs).mono ?_; rintro e w1 ⟨rfl, hg⟩)
    go_ret3
    exact ⟨ret3s HR.out.1 HR.out.2.1 (by rw [← HR.out.2.2]), by assumption⟩
end Go.Proofs.YtjieofiaoepccaaGreatDoor

