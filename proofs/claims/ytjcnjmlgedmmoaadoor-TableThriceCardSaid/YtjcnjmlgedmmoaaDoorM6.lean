/-
  What is proved: plain facts on what loses nothing (P13.5, P13.9, P13.10): its two ways are each other's opposite, turned it loses nothing; what is right and is not told to lose nothing loses one of a few values; no program is spoken of here.
  plain facts on tables as bytes (P13.6, P13.7); no program is spoken of here.
  the check on a region's order that region_mix asks (mixB), reckoned by one number's bits in the place of an array: what it finds holds of mixB.
  as region_mix (XMix), where at some places either of two operations may come first: both are walked.
-/
import Derived.Test.YtjcnjmlgedmmoaaDoorM5
namespace Go.Proofs.YtjcnjmlgedmmoaaDoor
open Go.RowKit

section
variable {α : Type} [DecidableEq α]
theorem nodup_len : ∀ (B A : List α), B.Nodup → (∀ x ∈ B, x ∈ A) → B.length ≤ A.length
  | [], _, _, _ => Nat.zero_le _
  | x :: B, A, hB, hs => by
    obtain ⟨h1, h2⟩ := List.nodup_cons.1 hB
    have hx : x ∈ A := hs x (by simp)
    have := nodup_len B (A.erase x) h2 fun y hy => (List.mem_erase_of_ne fun e => h1 (by rw [← e]; exact hy)).2 (hs y (List.mem_cons_of_mem _ hy))
    rw [List.length_erase_of_mem hx] at this
    have := List.length_pos_of_mem hx
    rw [List.length_cons]
    omega
theorem sub_same : ∀ (B A : List α), B.Nodup → (∀ x ∈ B, x ∈ A) → A.length ≤ B.length → ∀ x ∈ A, x ∈ B
  | [], A, _, _, hl, x, hx => by rw [List.eq_nil_of_length_eq_zero (Nat.le_zero.1 hl)] at hx; cases hx
  | y :: B, A, hB, hs, hl, x, hx => by
    obtain ⟨h1, h2⟩ := List.nodup_cons.1 hB
    have hy : y ∈ A := hs y (by simp)
    by_cases e : x = y
    · rw [e]; simp
    · refine List.mem_cons_of_mem _ (sub_same B (A.erase y) h2 (fun z hz => (List.mem_erase_of_ne fun e => h1 (by rw [← e]; exact hz)).2 (hs z (List.mem_cons_of_mem _ hz))) ?_ x ((List.mem_erase_of_ne e).2 hx))
      rw [List.length_erase_of_mem hy]
      rw [List.length_cons] at hl
      omega
/-- Of more than so many there are two that are not among them. -/
theorem two_out {C A : List α} (hC : C.Nodup) (hl : A.length + 2 ≤ C.length) : ∃ x y, x ∈ C ∧ y ∈ C ∧ x ≠ y ∧ x ∉ A ∧ y ∉ A := by
  have hs : (C.filter fun x => decide (x ∈ A)).length ≤ A.length := nodup_len _ _ (hC.filter _) fun x hx => by simpa using (List.mem_filter.1 hx).2
  have hp : C.length = (C.filter fun x => decide (x ∈ A)).length + (C.filter fun x => !decide (x ∈ A)).length := by
    clear hC hl hs
    induction C with
    | nil => rfl
    | cons x C ih => by_cases h : x ∈ A <;> simp [h] <;> omega
  have hn : (C.filter fun x => !decide (x ∈ A)).Nodup := hC.filter _
  obtain ⟨F, hF⟩ : ∃ F, (C.filter fun x => !decide (x ∈ A)) = F := ⟨_, rfl⟩
  rw [hF] at hp hn
  match F, hF, hp, hn with
  | [], _, hp, _ => simp at hp; omega
  | [_], _, hp, _ => simp at hp; omega
  | x :: y :: F, hF, _, hn =>
    have hx : x ∈ C.filter fun x => !decide (x ∈ A) := by rw [hF]; simp
    have hy : y ∈ C.filter fun x => !decide (x ∈ A) := by rw [hF]; simp
    refine ⟨x, y, (List.mem_filter.1 hx).1, (List.mem_filter.1 hy).1, fun e => ?_, by simpa using (List.mem_filter.1 hx).2, by simpa using (List.mem_filter.1 hy).2⟩
    rw [e] at hn
    simp at hn
end

theorem lefts_once {L : List Pa} (h : L.Pairwise fun p q => p.f ≠ q.f) : (L.map (·.f)).Nodup := List.pairwise_map.2 h
theorem rights_once {L : List Pa} (h : L.Pairwise fun p q => p.t ≠ q.t) : (L.map (·.t)).Nodup := List.pairwise_map.2 h
/-- With Keep: both ways are each other's opposite. -/
theorem RightU.whole {T : Tb} {a b : Int} (h : RightU T a b) (hk : T.keep = true) (h1 : ∀ p ∈ T.L, ∃ q ∈ T.L, q.f = p.t) (h2 : T.L.Pairwise fun p q => p.t ≠ q.t) (v : Va) : backT T (forthT T v) = v ∧ forthT T (backT T v) = v := by
  have hsub : ∀ x ∈ T.L.map (·.f), x ∈ T.L.map (·.t) := sub_same _ _ (rights_once h2) (fun x hx => by
    obtain ⟨p, hp, rfl⟩ := List.mem_map.1 hx
    obtain ⟨q, hq, e⟩ := h1 p hp
    exact List.mem_map.2 ⟨q, hq, e⟩) (by rw [List.length_map, List.length_map]; exact Nat.le_refl _)
  constructor
  · by_cases hl : ∃ p ∈ T.L, p.f = v
    · obtain ⟨p, hp, rfl⟩ := hl
      rw [forth_left h.once hp]
      unfold backT
      rw [fstT_mem h2 hp]
    · have e : forthT T v = v := by rw [forth_not fun p hp e => hl ⟨p, hp, e⟩, hk]; rfl
      rw [e, back_not fun p hp e => ?_, hk]
      · rfl
      · obtain ⟨q, hq, e2⟩ := h1 p hp
        exact hl ⟨q, hq, e2.trans e⟩
  · by_cases hr : ∃ p ∈ T.L, p.t = v
    · obtain ⟨q, hq, e1, e2⟩ := back_at hr
      rw [e2, forth_left h.once hq, e1]
    · have e : backT T v = v := by rw [back_not fun p hp e => hr ⟨p, hp, e⟩, hk]; rfl
      rw [e, forth_not fun p hp e => ?_, hk]
      · rfl
      · obtain ⟨q, hq, e2⟩ := List.mem_map.1 (hsub v (List.mem_map.2 ⟨p, hp, e⟩))
        exact hr ⟨q, hq, e2⟩
theorem bool_two {v : Va} (h : rightVa v = true) (hk : v.k = 3) : v = noV ∨ v = yesV := by
  obtain ⟨k, n, t⟩ := v
  have hk' : k = 3 := hk
  subst hk'
  unfold rightVa rightB at h
  rw [decide_eq_true_iff] at h
  have ht : t = ⟨#[]⟩ := empty_of (by rcases h with h | h | h <;> first | omega | exact h.2.1)
  subst ht
  have hn : n = 0 ∨ n = 1 := by
    rcases h with h | h | h
    · exact absurd h.1 (show ¬ (3 : Int) = 1 by decide)
    · exact absurd h.1 (show ¬ (3 : Int) = 2 by decide)
    · exact h.2.2
  rcases hn with rfl | rfl
  · exact .inl rfl
  · exact .inr rfl
theorem no_yes : noV ≠ yesV := by unfold noV yesV; decide
theorem no_right : rightVa noV = true ∧ rightVa yesV = true := ⟨by decide, by decide⟩
/-- P13.9: what loses nothing. -/
theorem LossT.whole {T : Tb} {a b : Int} (h : LossT T a b) : (∀ v, rightVa v = true → v.k = a → wayT T (applyT T v) = v) ∧ ∀ v, rightVa v = true → v.k = b → applyT T (wayT T v) = v := by
  obtain ⟨h0, hk1, hk2⟩ := h
  cases hk : T.keep with
  | true =>
    obtain ⟨c1, c2⟩ := hk1 hk
    unfold RightT at h0
    cases hu : T.tu with
    | true =>
      rw [hu, if_pos rfl] at h0
      exact ⟨fun v _ _ => by unfold wayT applyT; rw [hu]; simpa using (h0.whole hk c1 c2 v).2, fun v _ _ => by unfold wayT applyT; rw [hu]; simpa using (h0.whole hk c1 c2 v).1⟩
    | false =>
      rw [hu, if_neg (by simp)] at h0
      exact ⟨fun v _ _ => by unfold wayT applyT; rw [hu]; simpa using (h0.whole hk c1 c2 v).1, fun v _ _ => by unfold wayT applyT; rw [hu]; simpa using (h0.whole hk c1 c2 v).2⟩
  | false =>
    obtain ⟨rfl, rfl, n1, n2, n3⟩ := hk2 hk
    have hf : ∀ v, rightVa v = true → v.k = 3 → wayT T (applyT T v) = v := fun v hv hk => by
      rcases bool_two hv hk with rfl | rfl
      · exact n2
      · exact n3
    refine ⟨hf, fun w hw hk => ?_⟩
    have a1 := h0.apply no_right.1 rfl
    have a2 := h0.apply no_right.2 rfl
    have key : w = applyT T noV ∨ w = applyT T yesV := by
      rcases bool_two hw hk with rfl | rfl <;> rcases bool_two a1.1 a1.2 with e1 | e1 <;> rcases bool_two a2.1 a2.2 with e2 | e2 <;> rw [e1, e2] at n1 ⊢ <;> simp_all
    rcases key with e | e
    · rw [e, n2]
    · rw [e, n3]
theorem LossT.turn {T : Tb} {a b : Int} (h : LossT T a b) : LossT (turnT T) b a := by
  obtain ⟨w1, w2⟩ := h.whole
  obtain ⟨h0, hk1, hk2⟩ := h
  refine ⟨h0.turn, hk1, fun hk => ?_⟩
  obtain ⟨rfl, rfl, n1, n2, n3⟩ := hk2 hk
  have b1 := w2 noV no_right.1 rfl
  have b2 := w2 yesV no_right.2 rfl
  refine ⟨rfl, rfl, ?_, ?_, ?_⟩
  · rw [(apply_turn T _).1, (apply_turn T _).1]
    intro e
    rw [e, b2] at b1
    exact no_yes b1.symm
  · rw [(apply_turn T _).1, (apply_turn T _).2, b1]
  · rw [(apply_turn T _).1, (apply_turn T _).2, b2]
/-- The values of which one is lost. -/
def tensI : List Va := (List.range 10).map fun (i : Nat) => ⟨1, (i : Int), ⟨#[]⟩⟩
def tensT : List Va := (List.range 10).map fun (i : Nat) => ⟨2, 0, ⟨#[UInt8.ofNat (48 + i)]⟩⟩
theorem tensI_ok : tensI.Nodup ∧ tensI.length = 10 ∧ ∀ v ∈ tensI, v.k = 1 := ⟨by decide, by decide, by decide⟩
theorem tensT_ok : tensT.Nodup ∧ tensT.length = 10 ∧ ∀ v ∈ tensT, v.k = 2 := ⟨by decide, by decide, by decide⟩
def AmongT (T : Tb) (v : Va) : Prop := (∃ p ∈ T.L, v = p.f ∨ v = p.t) ∨ v = noV ∨ v = yesV ∨ v ∈ tensI ∨ v ∈ tensT
theorem RightU.sharp {T : Tb} {a b : Int} (hu : T.tu = false) (h : RightU T a b) (hall : ∀ v, AmongT T v → (v.k = a → backT T (forthT T v) = v) ∧ (v.k = b → forthT T (backT T v) = v)) : LossT T a b := by
  have hR : RightT T a b := by unfold RightT; rw [hu, if_neg (by simp)]; exact h
  refine ⟨hR, fun hk => ?_, fun hk => ?_⟩
  · have hab := (h.kp hk).1
    constructor
    · intro p hp
      refine Classical.byContradiction fun hn => ?_
      have hno : ∀ q ∈ T.L, q.f ≠ p.t := fun q hq e => hn ⟨q, hq, e⟩
      have e1 : forthT T p.t = p.t := by rw [forth_not hno, hk]; rfl
      obtain ⟨q, hq, _, e2⟩ := back_at ⟨p, hp, rfl⟩
      have := (hall p.t (.inl ⟨p, hp, .inr rfl⟩)).1 (((h.ok p hp).2.2.2).trans hab.symm)
      rw [e1, e2] at this
      exact hno q hq this
    · refine h.once.imp_of_mem fun {p q} hp hq hne e => hne ?_
      have e1 := (hall p.f (.inl ⟨p, hp, .inl rfl⟩)).1 (h.ok p hp).2.2.1
      have e2 := (hall q.f (.inl ⟨q, hq, .inl rfl⟩)).1 (h.ok q hq).2.2.1
      rw [forth_left h.once hp] at e1
      rw [forth_left h.once hq] at e2
      rw [← e1, ← e2, e]
  · have few := h.few
    have left2 : ∀ C : List Va, C.Nodup → C.length = 10 → (∀ v ∈ C, v.k = a ∧ AmongT T v) → False := fun C hC hl hm => by
      obtain ⟨x, y, hx, hy, hne, nx, ny⟩ := two_out (A := T.L.map (·.f)) hC (by rw [List.length_map, hl]; omega)
      have e1 : forthT T x = T.d := by rw [forth_not fun p hp e => nx (List.mem_map.2 ⟨p, hp, e⟩), hk]; rfl
      have e2 : forthT T y = T.d := by rw [forth_not fun p hp e => ny (List.mem_map.2 ⟨p, hp, e⟩), hk]; rfl
      have b1 := (hall x (hm x hx).2).1 (hm x hx).1
      have b2 := (hall y (hm y hy).2).1 (hm y hy).1
      rw [e1] at b1
      rw [e2, b1] at b2
      exact hne b2
    have right2 : ∀ C : List Va, C.Nodup → C.length = 10 → (∀ v ∈ C, v.k = b ∧ AmongT T v) → False := fun C hC hl hm => by
      obtain ⟨x, y, hx, hy, hne, nx, ny⟩ := two_out (A := T.L.map (·.t)) hC (by rw [List.length_map, hl]; omega)
      have e1 : backT T x = T.b := by rw [back_not fun p hp e => nx (List.mem_map.2 ⟨p, hp, e⟩), hk]; rfl
      have e2 : backT T y = T.b := by rw [back_not fun p hp e => ny (List.mem_map.2 ⟨p, hp, e⟩), hk]; rfl
      have b1 := (hall x (hm x hx).2).2 (hm x hx).1
      have b2 := (hall y (hm y hy).2).2 (hm y hy).1
      rw [e1] at b1
      rw [e2, b1] at b2
      exact hne b2
    have ha : a = 3 := by
      refine Classical.byContradiction fun hn => ?_
      have := h.ka
      rcases (show a = 1 ∨ a = 2 by omega) with rfl | rfl
      · exact left2 tensI tensI_ok.1 tensI_ok.2.1 fun v hv => ⟨tensI_ok.2.2 v hv, .inr (.inr (.inr (.inl hv)))⟩
      · exact left2 tensT tensT_ok.1 tensT_ok.2.1 fun v hv => ⟨tensT_ok.2.2 v hv, .inr (.inr (.inr (.inr hv)))⟩
    have hb : b = 3 := by
      refine Classical.byContradiction fun hn => ?_
      have := h.kb
      rcases (show b = 1 ∨ b = 2 by omega) with rfl | rfl
      · exact right2 tensI tensI_ok.1 tensI_ok.2.1 fun v hv => ⟨tensI_ok.2.2 v hv, .inr (.inr (.inr (.inl hv)))⟩
      · exact right2 tensT tensT_ok.1 tensT_ok.2.1 fun v hv => ⟨tensT_ok.2.2 v hv, .inr (.inr (.inr (.inr hv)))⟩
    subst ha hb
    have c1 := (hall noV (.inr (.inl rfl))).1 rfl
    have c2 := (hall yesV (.inr (.inr (.inl rfl)))).1 rfl
    unfold applyT wayT
    rw [hu]
    refine ⟨rfl, rfl, ?_, c1, c2⟩
    intro e
    simp only [Bool.false_eq_true, if_false] at e
    rw [e, c2] at c1
    exact no_yes c1.symm
/-- P13.10. -/
theorem RightT.sharp {T : Tb} {a b : Int} (h : RightT T a b) (hall : ∀ v, AmongT T v → (v.k = a → wayT T (applyT T v) = v) ∧ (v.k = b → applyT T (wayT T v) = v)) : LossT T a b := by
  cases hu : T.tu with
  | false =>
    unfold RightT at h
    rw [hu, if_neg (by simp)] at h
    refine h.sharp hu fun v hv => ?_
    have := hall v hv
    unfold applyT wayT at this
    rw [hu] at this
    simpa using this
  | true =>
    have h' : RightU (turnT T) b a := by
      have := h.turn
      unfold RightT at this
      rwa [show (turnT T).tu = false by simp [turnT, hu], if_neg (by simp)] at this
    have := h'.sharp (by simp [turnT, hu]) fun v hv => by
      have := hall v hv
      unfold applyT wayT at this
      rw [hu] at this
      exact ⟨fun hk => (by have := this.2 hk; simpa using this : backT T (forthT T v) = v), fun hk => (by have := this.1 hk; simpa using this : forthT T (backT T v) = v)⟩
    have := this.turn
    rwa [turn_turn] at this
end Go.Proofs.YtjcnjmlgedmmoaaDoor

namespace Go.Proofs.YtjcnjmlgedmmoaaDoor
open Go.RowKit

def putVa (b : ByteArray) (x : Va) : ByteArray := putV b x.k x.n x.t
def putPa (b : ByteArray) (p : Pa) : ByteArray := putVa (putVa b p.f) p.t
def marksT (T : Tb) : Nat := (if T.keep then 1 else 0) + (if T.tu then 2 else 0)
/-- P13.6. -/
def putTbL (b : ByteArray) (T : Tb) (t : Nat) : ByteArray := (T.L.take t).foldl putPa (b ++ putS (marksT T) ++ putS T.L.length)
def putTb (b : ByteArray) (T : Tb) : ByteArray := putPa (putTbL b T T.L.length) ⟨T.d, T.b⟩
theorem putTb_zero (b : ByteArray) (T : Tb) : putTbL b T 0 = b ++ putS (marksT T) ++ putS T.L.length := rfl
theorem putTb_step {b : ByteArray} {T : Tb} {t : Nat} {p : Pa} (h : T.L[t]? = some p) : putTbL b T (t + 1) = putPa (putTbL b T t) p := by
  unfold putTbL
  rw [List.take_add_one, h, Option.toList_some, List.foldl_append]
  rfl
def Pa.none : Pa := ⟨.zero, .zero⟩
def Tb.none : Tb := ⟨[], false, .zero, .zero, false⟩
def tVa (s : ByteArray) : Va := ⟨tvK s, tvI s, tvT s⟩
/-- Two values. -/
def twoL (s : ByteArray) : Pa × ByteArray × Nat :=
  if tvE s ≠ 0 then (.none, ⟨#[]⟩, tvE s) else if tvE (tvR s) ≠ 0 then (.none, ⟨#[]⟩, tvE (tvR s)) else (⟨tVa s, tVa (tvR s)⟩, tvR (tvR s), 0)
def twoX (s : ByteArray) : Pa := (twoL s).1
def twoR (s : ByteArray) : ByteArray := (twoL s).2.1
def twoE (s : ByteArray) : Nat := (twoL s).2.2
def takePs : Nat → List Pa → ByteArray → List Pa × ByteArray × Nat
  | 0, L, s => (L, s, 0)
  | n + 1, L, s => if twoE s ≠ 0 then ([], ⟨#[]⟩, twoE s) else takePs n (L ++ [twoX s]) (twoR s)
theorem takePs_err {k : Nat} {L : List Pa} {s : ByteArray} (h : twoE s ≠ 0) : takePs (k + 1) L s = ([], ⟨#[]⟩, twoE s) := by rw [takePs, if_pos h]
theorem takePs_ok {k : Nat} {L : List Pa} {s : ByteArray} (h : twoE s = 0) : takePs (k + 1) L s = takePs k (L ++ [twoX s]) (twoR s) := by rw [takePs, if_neg (by rw [h]; simp)]
/-- P13.7: what is told behind the two numbers. -/
def restTb (m : Nat) (P : List Pa × ByteArray × Nat) : Tb × ByteArray × Nat :=
  if P.2.2 ≠ 0 then (.none, ⟨#[]⟩, P.2.2) else if twoE P.2.1 ≠ 0 then (.none, ⟨#[]⟩, twoE P.2.1)
  else (⟨P.1, decide (m % 2 = 1), (twoX P.2.1).f, (twoX P.2.1).t, decide (2 ≤ m)⟩, twoR P.2.1, 0)
def ttbL (s : ByteArray) : Tb × ByteArray × Nat :=
  if tkE s ≠ 0 then (.none, ⟨#[]⟩, tkE s) else if 3 < tkN s then (.none, ⟨#[]⟩, 3)
  else if tkE (tkR s) ≠ 0 then (.none, ⟨#[]⟩, tkE (tkR s)) else if 8 < tkN (tkR s) then (.none, ⟨#[]⟩, 4)
  else restTb (tkN s) (takePs (tkN (tkR s)) [] (tkR (tkR s)))
end Go.Proofs.YtjcnjmlgedmmoaaDoor

namespace Go.Proofs.YtjcnjmlgedmmoaaDoor
open Go.RowKit

def bits (n m : Nat) : Array Bool := ((List.range n).map (Nat.testBit m)).toArray
theorem bits_size (n m : Nat) : (bits n m).size = n := by simp [bits]
theorem bits_getD (n m j : Nat) (d : Bool) : (bits n m).getD j d = if j < n then m.testBit j else d := by
  rw [Array.getD_eq_getD_getElem?]
  unfold bits
  rw [List.getElem?_toArray, List.getElem?_map]
  by_cases h : j < n
  · rw [if_pos h, List.getElem?_range h]; rfl
  · rw [if_neg h, List.getElem?_eq_none (by rw [List.length_range]; omega)]; rfl
theorem bits_set (n m i : Nat) : (bits n m).setIfInBounds i true = bits n (m ||| 2 ^ i) := by
  apply Array.ext
  · simp [bits]
  · intro j h1 h2
    have hj : j < n := by simpa [bits] using h2
    rw [Array.getElem_setIfInBounds (by simpa [bits] using hj)]
    simp only [bits, List.getElem_toArray, List.getElem_map, List.getElem_range, Nat.testBit_or, Nat.testBit_two_pow]
    by_cases e : i = j
    · simp [e]
    · simp [e]
theorem bits_none (n : Nat) : Array.replicate n false = bits n 0 := by
  apply Array.ext
  · simp [bits]
  · intro j h1 h2
    simp [bits]

def isReady (ops : Array Oper) (n m i : Nat) : Bool :=
  !m.testBit i && match ops[i]? with
    | some o => o.after.all fun e => !Region.binds .any e || (Nat.blt e.on n && m.testBit e.on)
    | none => false
def isFree (ops : Array Oper) (n m i : Nat) : Bool :=
  match ops[i]? with
  | none => false
  | some oi => (List.range n).all fun j => j == i || m.testBit j || match ops[j]? with
      | some oj => oj.after.any (fun e => Region.binds .any e && e.on == i) || oi.apart ops oj
      | none => true
def isPlain (ops : Array Oper) (i : Nat) : Bool := match ops[i]? with | some o => plainOp o.op | none => false
def quietF (ops : Array Oper) (n : Nat) : List Nat → Nat → Option Nat
  | [], m => some m
  | i :: r, m => if (Nat.blt i n && isReady ops n m i && isFree ops n m i && isPlain ops i) = true then quietF ops n r (m ||| 2 ^ i) else none
def mixF (ops : Array Oper) (n : Nat) : List (List Nat × Option Nat) → Nat → Bool
  | [], m => (List.range n).all fun j => !isReady ops n m j
  | (l, x) :: r, m => match quietF ops n l m with
    | none => false
    | some y => match x with
      | none => mixF ops n r y
      | some i => Nat.blt i n && (List.range n).all (fun j => isReady ops n y j == (j == i)) && (ops[i]?).isSome && mixF ops n r (y ||| 2 ^ i)

theorem ready_bits (ops : Array Oper) (m : Nat) : Region.ready .any ops (bits ops.size m) = (List.range ops.size).filter fun i => isReady ops ops.size m i := by
  unfold Region.ready
  apply List.filter_congr
  intro i hi
  have hi' : i < ops.size := List.mem_range.1 hi
  unfold isReady
  rw [bits_getD, if_pos hi']
  congr 1
  rw [Array.getElem?_eq_getElem hi']
  simp only [Option.map_some, Option.getD_some]
  congr 1
  funext e
  rw [bits_getD]
  by_cases h : e.on < ops.size
  · rw [if_pos h, show Nat.blt e.on ops.size = true by rw [Nat.blt_eq]; exact h, Bool.true_and]
  · rw [if_neg h, show Nat.blt e.on ops.size = false by rw [Bool.eq_false_iff, Ne, Nat.blt_eq]; exact h, Bool.false_and]
theorem free_bits (ops : Array Oper) (m i : Nat) : Region.free .any ops (bits ops.size m) i = isFree ops ops.size m i := by
  unfold Region.free isFree
  cases ops[i]? with
  | none => rfl
  | some oi =>
    simp only
    rw [Bool.eq_iff_iff, List.all_eq_true, List.all_eq_true]
    have hb : ∀ j, j ∈ List.range ops.size → (bits ops.size m).getD j true = m.testBit j := fun j hj => by
      rw [bits_getD, if_pos (List.mem_range.1 hj)]
    constructor
    · intro h j hj
      have := h j hj
      rwa [hb j hj] at this
    · intro h j hj
      rw [hb j hj]
      exact h j hj
theorem filter_one {n i : Nat} {p : Nat → Bool} (hi : i < n) (h : ∀ j, j < n → p j = (j == i)) : (List.range n).filter p = [i] := by
  rw [List.filter_congr (q := fun j => j == i) (fun j hj => h j (List.mem_range.1 hj))]
  induction n with
  | zero => omega
  | succ n ih =>
    rw [List.range_succ, List.filter_append]
    by_cases e : i = n
    · subst e
      rw [List.filter_eq_nil_iff.2 (fun j hj => by have := List.mem_range.1 hj; simp; omega)]
      simp
    · rw [ih (by omega) (fun j hj => h j (by omega))]
      simp [Ne.symm e]
theorem quietF_B (ops : Array Oper) : ∀ (l : List Nat) (m y : Nat), quietF ops ops.size l m = some y → quietB ops l (bits ops.size m) = some (bits ops.size y)
  | [], m, y, h => by
    simp only [quietF, Option.some.injEq] at h
    subst h; rfl
  | i :: r, m, y, h => by
    simp only [quietF] at h
    split at h
    · rename_i hc
      rw [Bool.and_eq_true, Bool.and_eq_true, Bool.and_eq_true, Nat.blt_eq] at hc
      obtain ⟨⟨⟨hi, hr⟩, hf⟩, hp⟩ := hc
      have hok : okAt ops (bits ops.size m) i = true := by
        unfold okAt
        rw [Bool.and_eq_true, Bool.and_eq_true]
        refine ⟨?_, by rw [free_bits]; exact hf, hp⟩
        rw [ready_bits, List.contains_iff_mem, List.mem_filter]
        exact ⟨List.mem_range.2 hi, hr⟩
      simp only [quietB]
      rw [if_pos hok, bits_set]
      exact quietF_B ops r _ y h
    · cases h
theorem mixF_B (ops : Array Oper) : ∀ (S : List (List Nat × Option Nat)) (m : Nat), mixF ops ops.size S m = true → mixB ops S (bits ops.size m) = true
  | [], m, h => by
    simp only [mixF, List.all_eq_true, Bool.not_eq_true'] at h
    simp only [mixB, List.isEmpty_iff]
    rw [ready_bits, List.filter_eq_nil_iff]
    intro j hj
    rw [h j hj]
    simp
  | (l, x) :: r, m, h => by
    simp only [mixF] at h
    cases hq : quietF ops ops.size l m with
    | none => rw [hq] at h; simp at h
    | some y =>
      rw [hq] at h
      simp only [mixB, quietF_B ops l m y hq]
      cases x with
      | none => exact mixF_B ops r y h
      | some i =>
        simp only [Bool.and_eq_true, Nat.blt_eq, List.all_eq_true, beq_iff_eq] at h
        obtain ⟨⟨⟨hi, ha⟩, hs⟩, hm⟩ := h
        simp only [Bool.and_eq_true, beq_iff_eq]
        refine ⟨⟨?_, hs⟩, by rw [bits_set]; exact mixF_B ops r _ hm⟩
        rw [ready_bits]
        exact filter_one hi fun j hj => ha j (List.mem_range.2 hj)
theorem mix_fast {l : List Oper} {S : List (List Nat × Option Nat)} (n : Nat) (hn : l.length = n) (h : mixF l.toArray n S 0 = true) : mixB l.toArray S (Array.replicate l.length false) = true := by
  subst hn
  have := mixF_B l.toArray S 0 (by rw [List.size_toArray]; exact h)
  rwa [List.size_toArray, ← bits_none] at this
end Go.Proofs.YtjcnjmlgedmmoaaDoor

namespace Go.Proofs.YtjcnjmlgedmmoaaDoor
open Go.RowKit

inductive Plan where
  | stop : Plan
  | read : List Nat → Plan → Plan
  | one : Nat → Plan → Plan
  | two : Nat → Plan → Nat → Plan → Plan
  | three : Nat → Plan → Nat → Plan → Nat → Plan → Plan
def planN : Plan → Nat
  | .stop => 0
  | .read l p => planN p + l.length
  | .one _ p => planN p + 1
  | .two _ p _ _ => planN p + 1
  | .three _ p _ _ _ _ => planN p + 1
def planB (ops : Array Oper) : Plan → Array Bool → Bool
  | .stop, listed => (Region.ready .any ops listed).isEmpty
  | .read l p, listed => match quietB ops l listed with
    | none => false
    | some y => planB ops p y
  | .one i p, listed => Region.ready .any ops listed == [i] && (ops[i]?).isSome && planB ops p (listed.setIfInBounds i true)
  | .two i p j q, listed => Region.ready .any ops listed == [i, j] && (ops[i]?).isSome && (ops[j]?).isSome && planN p == planN q && planB ops p (listed.setIfInBounds i true) && planB ops q (listed.setIfInBounds j true)
  | .three i p j q k r, listed => Region.ready .any ops listed == [i, j, k] && (ops[i]?).isSome && (ops[j]?).isSome && (ops[k]?).isSome && planN p == planN q && planN p == planN r && planB ops p (listed.setIfInBounds i true) && planB ops q (listed.setIfInBounds j true) && planB ops r (listed.setIfInBounds k true)
def wpPlan (P : Program) (ops : Array Oper) (C : World → Prop) (Q : Exit → Act → World → Prop) : Plan → Act → World → Prop
  | .stop, a, w => Q .normal a w
  | .read l p, a, w => wpQuiet P ops C (fun a' => wpPlan P ops C Q p a' w) (pickOps ops.toList l) a
  | .one i p, a, w => wpList P ops (soloQ fun a' w' => C w' ∧ wpPlan P ops C Q p a' w') (pickOps ops.toList [i]) a w
  | .two i p j q, a, w => wpList P ops (soloQ fun a' w' => C w' ∧ wpPlan P ops C Q p a' w') (pickOps ops.toList [i]) a w ∧ wpList P ops (soloQ fun a' w' => C w' ∧ wpPlan P ops C Q q a' w') (pickOps ops.toList [j]) a w
  | .three i p j q k r, a, w => wpList P ops (soloQ fun a' w' => C w' ∧ wpPlan P ops C Q p a' w') (pickOps ops.toList [i]) a w ∧ wpList P ops (soloQ fun a' w' => C w' ∧ wpPlan P ops C Q q a' w') (pickOps ops.toList [j]) a w ∧ wpList P ops (soloQ fun a' w' => C w' ∧ wpPlan P ops C Q r a' w') (pickOps ops.toList [k]) a w

section
variable {P : Program} {ops : Array Oper} {Q : Exit → Act → World → Prop} {C : World → Prop}
theorem op_of_list {i : Nat} {o : Oper} {a : Act} {w : World} {K : Act → World → Prop} (ho : ops[i]? = some o) (h : wpList P ops (soloQ K) (pickOps ops.toList [i]) a w) : wpOp P ops Q i K a w := by
  have e : pickOps ops.toList [i] = [o] := by
    rw [pickOps_cons, show ops.toList[i]? = some o by rw [Array.getElem?_toList]; exact ho, consO_some, pickOps_nil]
  rw [e] at h
  unfold wpOp
  simp only [ho]
  simp only [wpList] at h
  by_cases hw : Region.wanted o (yielded ops a.tmps) = true
  · rw [if_pos hw] at h ⊢
    rcases h with h | ⟨_, _, _, hf⟩
    · exact .inl (wp_of_solo h)
    · exact (hf : False).elim
  · rw [if_neg hw] at h ⊢
    exact h
theorem wpOp_mono {i : Nat} {a : Act} {w : World} {K K' : Act → World → Prop} (hK : ∀ a w, K a w → K' a w) (h : wpOp P ops Q i K a w) : wpOp P ops Q i K' a w := by
  unfold wpOp at *
  split
  · rename_i ho; simp only [ho] at h; exact hK _ _ h
  · rename_i o ho
    simp only [ho] at h
    split
    · rename_i hw
      rw [if_pos hw] at h
      exact h.imp (Oper.wp_mono hK) id
    · rename_i hw
      rw [if_neg hw] at h
      exact hK _ _ h
theorem plan_any (hs : Region.noSelect ops = true) (hQ : ∀ c d v a w, Q (.panic c) (Act.put a d v) w → Q (.panic c) a w) : ∀ (p : Plan) (listed : Array Bool) (a : Act) (w : World),
    planB ops p listed = true → C w → wpPlan P ops C Q p a w → wpAnyH P .any ops Q C (planN p) listed a w
  | .stop, listed, a, w, hB, hC, h => by
    simp only [planB, List.isEmpty_iff] at hB
    exact wpAnyH_done hB h _
  | .read l p, listed, a, w, hB, hC, h => by
    simp only [planB] at hB
    cases hq : quietB ops l listed with
    | none => rw [hq] at hB; simp at hB
    | some y =>
      rw [hq] at hB
      exact quiet_any hs hQ l listed y (planN p) a w _ hq hC h fun a' h' => plan_any hs hQ p y a' w hB hC h'
  | .one i p, listed, a, w, hB, hC, h => by
    simp only [planB, Bool.and_eq_true, beq_iff_eq] at hB
    obtain ⟨⟨hr, hi⟩, hB⟩ := hB
    obtain ⟨o, ho⟩ := Option.isSome_iff_exists.1 hi
    refine wpAnyH_all hr (by simp) fun j hj => ?_
    obtain rfl : j = i := by simpa using hj
    exact wpOp_mono (fun a2 w2 h2 => ⟨h2.1, plan_any hs hQ p _ a2 w2 hB h2.1 h2.2⟩) (op_of_list ho h)
  | .two i p j q, listed, a, w, hB, hC, h => by
    simp only [planB, Bool.and_eq_true, beq_iff_eq] at hB
    obtain ⟨⟨⟨⟨⟨hr, hi⟩, hj⟩, hn⟩, hB1⟩, hB2⟩ := hB
    obtain ⟨o1, ho1⟩ := Option.isSome_iff_exists.1 hi
    obtain ⟨o2, ho2⟩ := Option.isSome_iff_exists.1 hj
    refine wpAnyH_all hr (by simp) fun t ht => ?_
    simp only [List.mem_cons, List.not_mem_nil, or_false] at ht
    rcases ht with rfl | rfl
    · exact wpOp_mono (fun a2 w2 h2 => ⟨h2.1, plan_any hs hQ p _ a2 w2 hB1 h2.1 h2.2⟩) (op_of_list ho1 h.1)
    · exact wpOp_mono (fun a2 w2 h2 => ⟨h2.1, by rw [hn]; exact plan_any hs hQ q _ a2 w2 hB2 h2.1 h2.2⟩) (op_of_list ho2 h.2)
  | .three i p j q k r, listed, a, w, hB, hC, h => by
    simp only [planB, Bool.and_eq_true, beq_iff_eq] at hB
    obtain ⟨⟨⟨⟨⟨⟨⟨⟨hr, hi⟩, hj⟩, hk⟩, hn⟩, hn2⟩, hB1⟩, hB2⟩, hB3⟩ := hB
    obtain ⟨o1, ho1⟩ := Option.isSome_iff_exists.1 hi
    obtain ⟨o2, ho2⟩ := Option.isSome_iff_exists.1 hj
    obtain ⟨o3, ho3⟩ := Option.isSome_iff_exists.1 hk
    refine wpAnyH_all hr (by simp) fun t ht => ?_
    simp only [List.mem_cons, List.not_mem_nil, or_false] at ht
    rcases ht with rfl | rfl | rfl
    · exact wpOp_mono (fun a2 w2 h2 => ⟨h2.1, plan_any hs hQ p _ a2 w2 hB1 h2.1 h2.2⟩) (op_of_list ho1 h.1)
    · exact wpOp_mono (fun a2 w2 h2 => ⟨h2.1, by rw [hn]; exact plan_any hs hQ q _ a2 w2 hB2 h2.1 h2.2⟩) (op_of_list ho2 h.2.1)
    · exact wpOp_mono (fun a2 w2 h2 => ⟨h2.1, by rw [hn2]; exact plan_any hs hQ r _ a2 w2 hB3 h2.1 h2.2⟩) (op_of_list ho3 h.2.2)
end

def planF (ops : Array Oper) (n : Nat) : Plan → Nat → Bool
  | .stop, m => (List.range n).all fun j => !isReady ops n m j
  | .read l p, m => match quietF ops n l m with
    | none => false
    | some y => planF ops n p y
  | .one i p, m => Nat.blt i n && (List.range n).all (fun t => isReady ops n m t == (t == i)) && (ops[i]?).isSome && planF ops n p (m ||| 2 ^ i)
  | .two i p j q, m => Nat.blt i j && Nat.blt j n && (List.range n).all (fun t => isReady ops n m t == (t == i || t == j)) && (ops[i]?).isSome && (ops[j]?).isSome && planN p == planN q && planF ops n p (m ||| 2 ^ i) && planF ops n q (m ||| 2 ^ j)
  | .three i p j q k r, m => Nat.blt i j && Nat.blt j k && Nat.blt k n && (List.range n).all (fun t => isReady ops n m t == (t == i || t == j || t == k)) && (ops[i]?).isSome && (ops[j]?).isSome && (ops[k]?).isSome && planN p == planN q && planN p == planN r && planF ops n p (m ||| 2 ^ i) && planF ops n q (m ||| 2 ^ j) && planF ops n r (m ||| 2 ^ k)
theorem filter_two {n i j : Nat} {p : Nat → Bool} (hij : i < j) (hj : j < n) (h : ∀ t, t < n → p t = (t == i || t == j)) : (List.range n).filter p = [i, j] := by
  rw [List.filter_congr (q := fun t => t == i || t == j) (fun t ht => h t (List.mem_range.1 ht))]
  clear h
  induction n with
  | zero => omega
  | succ n ih =>
    rw [List.range_succ, List.filter_append]
    by_cases e : j = n
    · subst e
      have : (List.range j).filter (fun t => t == i || t == j) = [i] := by
        rw [List.filter_congr (q := fun t => t == i) (fun t ht => by have := List.mem_range.1 ht; rw [show (t == j) = false by simp; omega, Bool.or_false])]
        exact filter_one hij fun t _ => rfl
      rw [this]
      simp
    · rw [ih (by omega)]
      have h1 : (n == i || n == j) = false := by simp; omega
      simp [h1]
theorem filter_three {n i j k : Nat} {p : Nat → Bool} (hij : i < j) (hjk : j < k) (hk : k < n) (h : ∀ t, t < n → p t = (t == i || t == j || t == k)) : (List.range n).filter p = [i, j, k] := by
  rw [List.filter_congr (q := fun t => t == i || t == j || t == k) (fun t ht => h t (List.mem_range.1 ht))]
  clear h
  induction n with
  | zero => omega
  | succ n ih =>
    rw [List.range_succ, List.filter_append]
    by_cases e : k = n
    · subst e
      have : (List.range k).filter (fun t => t == i || t == j || t == k) = [i, j] := by
        rw [List.filter_congr (q := fun t => t == i || t == j) (fun t ht => by have := List.mem_range.1 ht; rw [show (t == k) = false by simp; omega, Bool.or_false])]
        exact filter_two hij hjk fun t _ => rfl
      rw [this]
      simp
    · rw [ih (by omega)]
      have h1 : (n == i || n == j || n == k) = false := by simp; omega
      simp [h1]
theorem planF_B (ops : Array Oper) : ∀ (p : Plan) (m : Nat), planF ops ops.size p m = true → planB ops p (bits ops.size m) = true
  | .stop, m, h => by
    simp only [planF, List.all_eq_true, Bool.not_eq_true'] at h
    simp only [planB, List.isEmpty_iff]
    rw [ready_bits, List.filter_eq_nil_iff]
    intro j hj
    rw [h j hj]
    simp
  | .read l p, m, h => by
    simp only [planF] at h
    cases hq : quietF ops ops.size l m with
    | none => rw [hq] at h; simp at h
    | some y =>
      rw [hq] at h
      simp only [planB, quietF_B ops l m y hq]
      exact planF_B ops p y h
  | .one i p, m, h => by
    simp only [planF, Bool.and_eq_true, Nat.blt_eq, List.all_eq_true, beq_iff_eq] at h
    obtain ⟨⟨⟨hi, ha⟩, hs⟩, hm⟩ := h
    simp only [planB, Bool.and_eq_true, beq_iff_eq]
    refine ⟨⟨?_, hs⟩, by rw [bits_set]; exact planF_B ops p _ hm⟩
    rw [ready_bits]
    exact filter_one hi fun t ht => ha t (List.mem_range.2 ht)
  | .two i p j q, m, h => by
    simp only [planF, Bool.and_eq_true, Nat.blt_eq, List.all_eq_true, beq_iff_eq] at h
    obtain ⟨⟨⟨⟨⟨⟨⟨hij, hj⟩, ha⟩, h1⟩, h2⟩, hn⟩, hp⟩, hq⟩ := h
    simp only [planB, Bool.and_eq_true, beq_iff_eq]
    refine ⟨⟨⟨⟨⟨?_, h1⟩, h2⟩, hn⟩, by rw [bits_set]; exact planF_B ops p _ hp⟩, by rw [bits_set]; exact planF_B ops q _ hq⟩
    rw [ready_bits]
    exact filter_two hij hj fun t ht => ha t (List.mem_range.2 ht)
  | .three i p j q k r, m, h => by
    simp only [planF, Bool.and_eq_true, Nat.blt_eq, List.all_eq_true, beq_iff_eq] at h
    obtain ⟨⟨⟨⟨⟨⟨⟨⟨⟨⟨⟨hij, hjk⟩, hk⟩, ha⟩, h1⟩, h2⟩, h3⟩, hn⟩, hn2⟩, hp⟩, hq⟩, hr⟩ := h
    simp only [planB, Bool.and_eq_true, beq_iff_eq]
    refine ⟨⟨⟨⟨⟨⟨⟨⟨?_, h1⟩, h2⟩, h3⟩, hn⟩, hn2⟩, by rw [bits_set]; exact planF_B ops p _ hp⟩, by rw [bits_set]; exact planF_B ops q _ hq⟩, by rw [bits_set]; exact planF_B ops r _ hr⟩
    rw [ready_bits]
    exact filter_three hij hjk hk fun t ht => ha t (List.mem_range.2 ht)
theorem wpPlan_read {P : Program} {ops : Array Oper} {C : World → Prop} {Q : Exit → Act → World → Prop} {l : List Nat} {p : Plan} {a : Act} {w : World} :
    wpPlan P ops C Q (.read l p) a w = wpQuiet P ops C (fun a' => wpPlan P ops C Q p a' w) (pickOps ops.toList l) a := rfl
theorem wpPlan_one {P : Program} {ops : Array Oper} {C : World → Prop} {Q : Exit → Act → World → Prop} {i : Nat} {p : Plan} {a : Act} {w : World} :
    wpPlan P ops C Q (.one i p) a w = wpList P ops (soloQ fun a' w' => C w' ∧ wpPlan P ops C Q p a' w') (pickOps ops.toList [i]) a w := rfl
theorem wpPlan_two {P : Program} {ops : Array Oper} {C : World → Prop} {Q : Exit → Act → World → Prop} {i j : Nat} {p q : Plan} {a : Act} {w : World} :
    wpPlan P ops C Q (.two i p j q) a w = (wpList P ops (soloQ fun a' w' => C w' ∧ wpPlan P ops C Q p a' w') (pickOps ops.toList [i]) a w ∧ wpList P ops (soloQ fun a' w' => C w' ∧ wpPlan P ops C Q q a' w') (pickOps ops.toList [j]) a w) := rfl
theorem wpPlan_three {P : Program} {ops : Array Oper} {C : World → Prop} {Q : Exit → Act → World → Prop} {i j k : Nat} {p q r : Plan} {a : Act} {w : World} :
    wpPlan P ops C Q (.three i p j q k r) a w = (wpList P ops (soloQ fun a' w' => C w' ∧ wpPlan P ops C Q p a' w') (pickOps ops.toList [i]) a w ∧ wpList P ops (soloQ fun a' w' => C w' ∧ wpPlan P ops C Q q a' w') (pickOps ops.toList [j]) a w ∧ wpList P ops (soloQ fun a' w' => C w' ∧ wpPlan P ops C Q r a' w') (pickOps ops.toList [k]) a w) := rfl
theorem wpPlan_stop {P : Program} {ops : Array Oper} {C : World → Prop} {Q : Exit → Act → World → Prop} {a : Act} {w : World} (h : Q .normal a w) : wpPlan P ops C Q .stop a w := h
theorem soloP {W : World} {P : Program} {ops : Array Oper} {Q : Exit → Act → World → Prop} {p : Plan} {a : Act} {w : World} (hk : Kept W w) (h : wpPlan P ops (fun w' => ∃ g : KExt W, w' = g.w) Q p a w) :
    soloQ (fun a' w' => (∃ g : KExt W, w' = g.w) ∧ wpPlan P ops (fun w' => ∃ g : KExt W, w' = g.w) Q p a' w') .normal a w := ⟨⟨⟨w, hk⟩, rfl⟩, h⟩
/-- The region, walked by the plan. -/
theorem region_plan {P : Program} (W : World) {id : Nat} {Q : Exit → Act → World → Prop} {a : Act} {w : World} {l : List Oper} (n : Nat) (p : Plan) (hm : P.follows .mixedOrders = true) (hs : Region.noSelect l.toArray = true) (hl : l.length = n) (hn : planN p = n)
    (hB : planF l.toArray n p 0 = true) (hQ : ∀ c d v a w, Q (.panic c) (Act.put a d v) w → Q (.panic c) a w) (h0 : Kept W w)
    (h : ∀ wd : World, Kept w wd → wpPlan P l.toArray (fun w' => ∃ g : KExt W, w' = g.w) Q p a wd) : (Code.region id l.toArray true).wp P Q a w := by
  subst hl
  refine wp_region_held (S := fun w' => ∃ g : KExt W, w' = g.w) hm ?_
  have hk : Kept w { w with drawn := w.drawn + 1 } := (Kept.refl w).drew
  have hB2 := planF_B l.toArray p 0 (by rw [List.size_toArray]; exact hB)
  rw [List.size_toArray, ← bits_none] at hB2
  have := plan_any (Q := Q) (C := fun w' => ∃ g : KExt W, w' = g.w) hs hQ p (Array.replicate l.length false) a { w with drawn := w.drawn + 1 } hB2 ⟨⟨_, h0.trans hk⟩, rfl⟩ (h _ hk)
  rw [hn] at this
  rw [List.size_toArray]
  exact this
end Go.Proofs.YtjcnjmlgedmmoaaDoor

