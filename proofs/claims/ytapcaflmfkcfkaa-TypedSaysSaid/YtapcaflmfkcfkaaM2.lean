/-
  What is proved: a region that draws its order, in which the calls wait for one another and all else only reads what no call changes, is walked in one order: its reading operations hold in every world of a class, its calls are carried out in the world at hand, one by one, and may hand back values that hang on the world.
  plain facts on values (P3.1 to P3.7): what is right, the order, on integers and lists of bytes alone; no program is spoken of here.
  plain facts on dots (P5.2, P5.5, P5.6, P5.10): their order, lists that rise, and that such a list is told by what is in it; no program is spoken of here.
  cmp.Compare at ints and at texts, called with any two, return the order of the two; cmp.Or of three ints the first that is not 0; the world is left alone.
  val.Cmp, called with any two values, returns their order (P3.2); the world has new blocks at most.
  the document's own Zig, Zag, Put, Int and Text of layer 1 (package lorgnetteref01) return the same as the program's; the world has new blocks at most.
  the document's own Take, TakeInt and TakeText of layer 1 (package lorgnetteref01) return the same as the program's; the world has new blocks at most.
  Right, Zero and Put of package val and of the document's layer 3, called with any values, return what P3.1, P3.3 and P3.6 say; the world has new blocks at most.
-/
import Derived.Test.YtapcaflmfkcfkaaM1
import Derived.OrdersHeld
import Derived.Deep.Quiet
import Derived.Laws.Cover1
import Derived.Laws.StructEq
import Derived.Sort.Walk0
import Derived.StillTailTactics
import Derived.Laws.Bits128
namespace Go.Proofs.Ytapcaflmfkcfkaa
open Go.RowKit

def soloQ (K : Act → World → Prop) : Exit → Act → World → Prop
  | .normal, a, w => K a w
  | _, _, _ => False
theorem soloQ_mk {K : Act → World → Prop} {a : Act} {w : World} (h : K a w) : soloQ K .normal a w := h
theorem wp_of_solo {P : Program} {o : Oper} {a : Act} {w : World} {K K' : Act → World → Prop} {Q : Exit → Act → World → Prop} (h : o.wp P a w K (soloQ K')) : o.wp P a w K Q := by
  unfold Oper.wp at *
  generalize (execOp a.eval o).run P w = r at *
  cases r with
  | ok n w' =>
    cases n <;> simp only [Oper.upon] at h ⊢ <;>
      first
        | exact h
        | exact Calls.mono h (fun e w'' he => by
            cases e with
            | returned v => exact he
            | panicked c => exact (he : False).elim
            | outgrown => obtain ⟨_, _, hf⟩ := he; exact (hf : False).elim)
  | halt x w' =>
    cases x <;> simp only [Oper.upon] at h ⊢
    case panic v => exact (h : False).elim

/-- Operations that yield a value, and enter no function. -/
def plainOp : Op → Bool
  | .move _ | .assign _ | .pick _ _ _ | .build _ _ | .load _ _ | .binOp _ _ _ _ _ | .unOp _ _ _ | .extract _ _ | .fieldAddr _ _ _ | .indexAddr _ _ _ | .slice _ _ _ _ _ | .convert _ _ _ | .index _ _ _ | .field _ _ _ => true
  | .call { callee := .builtin .len, .. } => true
  | _ => false

theorem run_bind_value {P : Program} {s : Sem Value} {w w' : World} {n : Next} (h : (do pure (Next.value (← s)) : Sem Next).run P w = .ok n w') : ∃ u, n = .value u := by
  rw [Sem.run_bind] at h
  cases hs : s.run P w with
  | ok v w1 =>
    rw [hs] at h
    simp only [Result.andThen, Sem.run_pure] at h
    cases h; exact ⟨_, rfl⟩
  | halt x w1 => rw [hs] at h; simp only [Result.andThen] at h; cases h
theorem plain_value {P : Program} {o : Oper} {ev : Operand → Value} {w w' : World} {n : Next} (hp : plainOp o.op = true) (h : (execOp ev o).run P w = .ok n w') : ∃ u, n = .value u := by
  unfold execOp at h
  cases ho : o.op with
  | move x => rw [ho] at h; cases h; exact ⟨_, rfl⟩
  | assign x => rw [ho] at h; cases h; exact ⟨_, rfl⟩
  | pick c a b =>
    rw [ho] at h
    simp only [Sem.run_bind] at h
    cases hs : (asBool (ev c)).run P w with
    | ok v w1 => rw [hs] at h; simp only [Result.andThen, Sem.run_pure] at h; cases h; exact ⟨_, rfl⟩
    | halt x w1 => rw [hs] at h; simp only [Result.andThen] at h; cases h
  | build t p => rw [ho] at h; exact run_bind_value h
  | load t x => rw [ho] at h; exact run_bind_value h
  | binOp a b c d e => rw [ho] at h; exact run_bind_value h
  | unOp a b c => rw [ho] at h; exact run_bind_value h
  | extract a b => rw [ho] at h; exact run_bind_value h
  | fieldAddr a b c => rw [ho] at h; exact run_bind_value h
  | indexAddr a b c => rw [ho] at h; exact run_bind_value h
  | slice a b c d e => rw [ho] at h; exact run_bind_value h
  | convert a b c => rw [ho] at h; exact run_bind_value h
  | index a b c => rw [ho] at h; exact run_bind_value h
  | field a b c => rw [ho] at h; exact run_bind_value h
  | call c =>
    rw [ho] at h hp
    obtain ⟨callee, args, argTypes⟩ := c
    cases callee with
    | builtin b =>
      cases b <;> simp only [plainOp, Bool.false_eq_true] at hp
      simp only [resolve, invoke, builtin, Sem.run_bind, Sem.run_pure, Result.andThen] at h
      cases hs : (Builtin.len_ argTypes o.type (args.map ev)).run P w with
      | ok v w1 => rw [hs] at h; cases h; exact ⟨_, rfl⟩
      | halt x w1 => rw [hs] at h; cases h
    | _ => simp [plainOp] at hp
  | _ => rw [ho] at hp; simp [plainOp] at hp

section
variable {P : Program} {ops : Array Oper} {Q : Exit → Act → World → Prop} {C : World → Prop}

def consO : Option Oper → List Oper → List Oper
  | some o, r => o :: r
  | none, r => r
theorem consO_some (o : Oper) (r : List Oper) : consO (some o) r = o :: r := rfl
def pickOps (L : List Oper) : List Nat → List Oper
  | [] => []
  | i :: r => consO L[i]? (pickOps L r)
theorem pickOps_nil (L : List Oper) : pickOps L [] = [] := rfl
theorem pickOps_cons (L : List Oper) (i : Nat) (r : List Nat) : pickOps L (i :: r) = consO L[i]? (pickOps L r) := rfl
def okAt (ops : Array Oper) (listed : Array Bool) (i : Nat) : Bool := (Region.ready .any ops listed).contains i && (Region.free .any ops listed i && match ops[i]? with | some o => plainOp o.op | none => false)
def quietB (ops : Array Oper) : List Nat → Array Bool → Option (Array Bool)
  | [], listed => some listed
  | i :: r, listed => if okAt ops listed i = true then quietB ops r (listed.setIfInBounds i true) else none
def mixB (ops : Array Oper) : List (List Nat × Option Nat) → Array Bool → Bool
  | [], listed => (Region.ready .any ops listed).isEmpty
  | (l, x) :: r, listed => match quietB ops l listed with
    | none => false
    | some y => match x with
      | none => mixB ops r y
      | some i => Region.ready .any ops y == [i] && (ops[i]?).isSome && mixB ops r (y.setIfInBounds i true)
def mixN : List (List Nat × Option Nat) → Nat
  | [] => 0
  | (l, none) :: r => mixN r + l.length
  | (l, some _) :: r => mixN r + 1 + l.length

/-- The walk: a part that only reads, then a call. -/
def wpMix (P : Program) (ops : Array Oper) (C : World → Prop) (Q : Exit → Act → World → Prop) : List (List Nat × Option Nat) → Act → World → Prop
  | [], a, w => Q .normal a w
  | (l, none) :: r, a, w => wpQuiet P ops C (fun a' => wpMix P ops C Q r a' w) (pickOps ops.toList l) a
  | (l, some i) :: r, a, w => wpQuiet P ops C (fun a' => wpList P ops (soloQ fun a'' w'' => C w'' ∧ wpMix P ops C Q r a'' w'') (pickOps ops.toList [i]) a' w) (pickOps ops.toList l) a

theorem quiet_any (hs : Region.noSelect ops = true) (hQ : ∀ c d v a w, Q (.panic c) (Act.put a d v) w → Q (.panic c) a w) : ∀ (l : List Nat) (listed y : Array Bool) (fuel : Nat) (a : Act) (w : World) (K : Act → Prop),
    quietB ops l listed = some y → C w → wpQuiet P ops C K (pickOps ops.toList l) a → (∀ a', K a' → wpAnyH P .any ops Q C fuel y a' w) → wpAnyH P .any ops Q C (fuel + l.length) listed a w
  | [], listed, y, fuel, a, w, K, hB, hC, h, hK => by
    simp only [quietB, Option.some.injEq] at hB
    subst hB
    exact hK _ h
  | i :: r, listed, y, fuel, a, w, K, hB, hC, h, hK => by
    simp only [quietB] at hB
    split at hB
    · rename_i hc
      unfold okAt at hc
      rw [Bool.and_eq_true, Bool.and_eq_true] at hc
      obtain ⟨hr, hf, hp⟩ := hc
      cases ho : ops[i]? with
      | none => rw [ho] at hp; simp at hp
      | some o =>
        rw [ho] at hp
        have e : pickOps ops.toList (i :: r) = o :: pickOps ops.toList r := by
          rw [pickOps_cons, show ops.toList[i]? = some o by rw [Array.getElem?_toList]; exact ho, consO_some]
        rw [e] at h
        simp only [wpQuiet] at h
        have go : ∀ v, YieldsIf P ops C o v a → wpQuiet P ops C K (pickOps ops.toList r) (a.put o.dst v) → wpAnyH P .any ops Q C (fuel + (i :: r).length) listed a w := fun v hy hn =>
          wpAnyH_take (fuel := fuel + r.length) ho hs hf hr (fun c a w h => hQ c _ _ _ w h) hy hC (quiet_any hs hQ r _ y fuel _ w K hB hC hn hK)
        by_cases hw : Region.wanted o (yielded ops a.tmps) = true
        · rw [if_pos hw] at h
          obtain ⟨v, hv, hn⟩ := h
          refine go v (.inl ⟨hw, fun w' hC' => ?_⟩) hn
          have h3 := hv w' hC'
          unfold Oper.quietAt at h3
          cases hx : (execOp a.eval o).run P w' with
          | halt x w1 => rw [hx] at h3; exact (h3 : False).elim
          | ok n w1 =>
            obtain ⟨u, rfl⟩ := plain_value hp hx
            rw [hx] at h3
            obtain ⟨rfl, rfl⟩ := h3
            rfl
        · rw [if_neg hw] at h
          exact go undef (.inr ⟨by simpa using hw, rfl⟩) h
    · cases hB

theorem mix_any (hs : Region.noSelect ops = true) (hQ : ∀ c d v a w, Q (.panic c) (Act.put a d v) w → Q (.panic c) a w) : ∀ (S : List (List Nat × Option Nat)) (listed : Array Bool) (a : Act) (w : World),
    mixB ops S listed = true → C w → wpMix P ops C Q S a w → wpAnyH P .any ops Q C (mixN S) listed a w
  | [], listed, a, w, hB, hC, h => by
    simp only [mixB, List.isEmpty_iff] at hB
    exact wpAnyH_done hB h _
  | (l, x) :: r, listed, a, w, hB, hC, h => by
    simp only [mixB] at hB
    cases hq : quietB ops l listed with
    | none => rw [hq] at hB; simp at hB
    | some y =>
      rw [hq] at hB
      cases x with
      | none => exact quiet_any hs hQ l listed y (mixN r) a w _ hq hC h fun a' h' => mix_any hs hQ r y a' w hB hC h'
      | some i =>
        simp only [Bool.and_eq_true, beq_iff_eq] at hB
        obtain ⟨⟨hr, hi⟩, hB⟩ := hB
        obtain ⟨o, ho⟩ := Option.isSome_iff_exists.1 hi
        refine quiet_any hs hQ l listed y (mixN r + 1) a w _ hq hC h fun a' h' => ?_
        have e : pickOps ops.toList [i] = [o] := by
          rw [pickOps_cons, show ops.toList[i]? = some o by rw [Array.getElem?_toList]; exact ho, consO_some, pickOps_nil]
        rw [e] at h'
        refine wpAnyH_all hr (by simp) fun j hj => ?_
        obtain rfl : j = i := by simpa using hj
        unfold wpOp
        simp only [ho]
        simp only [wpList] at h'
        by_cases hw : Region.wanted o (yielded ops a'.tmps) = true
        · rw [if_pos hw] at h' ⊢
          rcases h' with h' | ⟨_, _, _, hf⟩
          · exact .inl (Oper.wp_mono (fun a2 w2 h2 => ⟨h2.1, mix_any hs hQ r _ a2 w2 hB h2.1 h2.2⟩) (wp_of_solo h'))
          · exact (hf : False).elim
        · rw [if_neg hw] at h' ⊢
          exact ⟨hC, mix_any hs hQ r _ _ w hB hC h'.2⟩
end

theorem wpMix_call {P : Program} {ops : Array Oper} {C : World → Prop} {Q : Exit → Act → World → Prop} {l : List Nat} {i : Nat} {r : List (List Nat × Option Nat)} {a : Act} {w : World} :
    wpMix P ops C Q ((l, some i) :: r) a w = wpQuiet P ops C (fun a' => wpList P ops (soloQ fun a'' w'' => C w'' ∧ wpMix P ops C Q r a'' w'') (pickOps ops.toList [i]) a' w) (pickOps ops.toList l) a := rfl
theorem wpMix_read {P : Program} {ops : Array Oper} {C : World → Prop} {Q : Exit → Act → World → Prop} {l : List Nat} {r : List (List Nat × Option Nat)} {a : Act} {w : World} :
    wpMix P ops C Q ((l, none) :: r) a w = wpQuiet P ops C (fun a' => wpMix P ops C Q r a' w) (pickOps ops.toList l) a := rfl
theorem wpMix_nil {P : Program} {ops : Array Oper} {C : World → Prop} {Q : Exit → Act → World → Prop} {a : Act} {w : World} (h : Q .normal a w) : wpMix P ops C Q [] a w := h
theorem soloQ_both {W : World} {P : Program} {ops : Array Oper} {Q : Exit → Act → World → Prop} {r : List (List Nat × Option Nat)} {a : Act} {w : World} (hk : Kept W w) (h : wpMix P ops (fun w' => ∃ g : KExt W, w' = g.w) Q r a w) :
    soloQ (fun a'' w'' => (∃ g : KExt W, w'' = g.w) ∧ wpMix P ops (fun w' => ∃ g : KExt W, w' = g.w) Q r a'' w'') .normal a w := ⟨⟨⟨w, hk⟩, rfl⟩, h⟩

/-- The region, walked in the order S. -/
theorem region_mix {P : Program} (W : World) {id : Nat} {Q : Exit → Act → World → Prop} {a : Act} {w : World} {l : List Oper} (S : List (List Nat × Option Nat)) (hm : P.follows .mixedOrders = true) (hs : Region.noSelect l.toArray = true) (hn : mixN S = l.length)
    (hB : mixB l.toArray S (Array.replicate l.length false) = true) (hQ : ∀ c d v a w, Q (.panic c) (Act.put a d v) w → Q (.panic c) a w) (h0 : Kept W w)
    (h : ∀ wd : World, Kept w wd → wpMix P l.toArray (fun w' => ∃ g : KExt W, w' = g.w) Q S a wd) : (Code.region id l.toArray true).wp P Q a w := by
  refine wp_region_held (S := fun w' => ∃ g : KExt W, w' = g.w) hm ?_
  have hk : Kept w { w with drawn := w.drawn + 1 } := (Kept.refl w).drew
  have := mix_any (Q := Q) (C := fun w' => ∃ g : KExt W, w' = g.w) hs hQ S (Array.replicate l.length false) a { w with drawn := w.drawn + 1 } hB ⟨⟨_, h0.trans hk⟩, rfl⟩ (h _ hk)
  rw [hn] at this
  rw [List.size_toArray]
  exact this
end Go.Proofs.Ytapcaflmfkcfkaa

namespace Go.Proofs.Ytapcaflmfkcfkaa

/-- P3.2. -/
def cmpI (a b : Int) : Int := if a < b then -1 else if b < a then 1 else 0
def cmpL (a b : List UInt8) : Int := if a < b then -1 else if b < a then 1 else 0
def cmpV (k1 n1 : Int) (t1 : List UInt8) (k2 n2 : Int) (t2 : List UInt8) : Int :=
  if cmpI k1 k2 ≠ 0 then cmpI k1 k2 else if cmpI n1 n2 ≠ 0 then cmpI n1 n2 else cmpL t1 t2

theorem list_tri (a b : List UInt8) : a < b ∨ a = b ∨ b < a := by
  by_cases h1 : a < b
  · exact .inl h1
  by_cases h2 : b < a
  · exact .inr (.inr h2)
  exact .inr (.inl (List.le_antisymm (List.not_lt.1 h2) (List.not_lt.1 h1)))
theorem cmpI_bd (a b : Int) : cmpI a b = -1 ∨ cmpI a b = 0 ∨ cmpI a b = 1 := by unfold cmpI; repeat (first | exact .inl rfl | exact .inr (.inl rfl) | exact .inr (.inr rfl) | split)
theorem cmpL_bd (a b : List UInt8) : cmpL a b = -1 ∨ cmpL a b = 0 ∨ cmpL a b = 1 := by unfold cmpL; repeat (first | exact .inl rfl | exact .inr (.inl rfl) | exact .inr (.inr rfl) | split)
theorem cmpV_bd (k1 n1 : Int) (t1 : List UInt8) (k2 n2 : Int) (t2 : List UInt8) : cmpV k1 n1 t1 k2 n2 t2 = -1 ∨ cmpV k1 n1 t1 k2 n2 t2 = 0 ∨ cmpV k1 n1 t1 k2 n2 t2 = 1 := by
  unfold cmpV; repeat (first | exact cmpI_bd _ _ | exact cmpL_bd _ _ | split)
theorem cmpI_zero (a b : Int) : cmpI a b = 0 ↔ a = b := by unfold cmpI; (repeat split) <;> constructor <;> intro h <;> omega
theorem cmpI_anti (a b : Int) : cmpI b a = - cmpI a b := by
  unfold cmpI
  by_cases h1 : a < b
  · rw [if_pos h1, if_neg (by omega), if_pos h1]; rfl
  · by_cases h2 : b < a
    · rw [if_pos h2, if_neg h1, if_pos h2]
    · rw [if_neg h2, if_neg h1, if_neg h1, if_neg h2]; rfl
theorem cmpL_zero (a b : List UInt8) : cmpL a b = 0 ↔ a = b := by
  unfold cmpL
  rcases list_tri a b with h | h | h
  · rw [if_pos h]; constructor
    · intro x; omega
    · intro x; subst x; exact absurd h (List.lt_irrefl _)
  · subst h; rw [if_neg (List.lt_irrefl _), if_neg (List.lt_irrefl _)]; simp
  · rw [if_neg (List.lt_asymm h), if_pos h]; constructor
    · intro x; omega
    · intro x; subst x; exact absurd h (List.lt_irrefl _)
theorem cmpL_anti (a b : List UInt8) : cmpL b a = - cmpL a b := by
  unfold cmpL
  rcases list_tri a b with h | h | h
  · rw [if_pos h, if_neg (List.lt_asymm h), if_pos h]; rfl
  · subst h; rw [if_neg (List.lt_irrefl _), if_neg (List.lt_irrefl _)]; rfl
  · rw [if_pos h, if_neg (List.lt_asymm h), if_pos h]
theorem cmpV_anti (k1 n1 : Int) (t1 : List UInt8) (k2 n2 : Int) (t2 : List UInt8) : cmpV k2 n2 t2 k1 n1 t1 = - cmpV k1 n1 t1 k2 n2 t2 := by
  unfold cmpV
  rw [cmpI_anti k1 k2, cmpI_anti n1 n2, cmpL_anti t1 t2]
  by_cases h1 : cmpI k1 k2 = 0
  · by_cases h2 : cmpI n1 n2 = 0
    · simp [h1, h2]
    · simp [h1, h2]
  · simp [h1]
theorem cmpV_zero (k1 n1 : Int) (t1 : List UInt8) (k2 n2 : Int) (t2 : List UInt8) : cmpV k1 n1 t1 k2 n2 t2 = 0 ↔ k1 = k2 ∧ n1 = n2 ∧ t1 = t2 := by
  unfold cmpV
  rw [← cmpI_zero k1, ← cmpI_zero n1, ← cmpL_zero t1]
  by_cases h1 : cmpI k1 k2 = 0
  · by_cases h2 : cmpI n1 n2 = 0
    · simp [h1, h2]
    · simp [h1, h2]
  · simp [h1]
theorem cmpI_le (a b : Int) : cmpI a b ≤ 0 ↔ a ≤ b := by unfold cmpI; (repeat split) <;> constructor <;> intro h <;> omega
theorem cmpL_le (a b : List UInt8) : cmpL a b ≤ 0 ↔ a ≤ b := by
  unfold cmpL
  rcases list_tri a b with h | h | h
  · rw [if_pos h]; constructor
    · intro _; exact List.le_of_lt h
    · intro _; omega
  · subst h; rw [if_neg (List.lt_irrefl _), if_neg (List.lt_irrefl _)]; constructor
    · intro _; exact List.le_refl _
    · intro _; omega
  · rw [if_neg (List.lt_asymm h), if_pos h]; constructor
    · intro x; omega
    · intro x; exact absurd h (List.not_lt.2 x)
theorem cmpV_le (k1 n1 : Int) (t1 : List UInt8) (k2 n2 : Int) (t2 : List UInt8) : cmpV k1 n1 t1 k2 n2 t2 ≤ 0 ↔ k1 < k2 ∨ k1 = k2 ∧ (n1 < n2 ∨ n1 = n2 ∧ t1 ≤ t2) := by
  unfold cmpV
  have a1 := cmpI_zero k1 k2
  have a2 := cmpI_le k1 k2
  have b1 := cmpI_zero n1 n2
  have b2 := cmpI_le n1 n2
  have c2 := cmpL_le t1 t2
  by_cases h1 : cmpI k1 k2 = 0
  · by_cases h2 : cmpI n1 n2 = 0
    · rw [if_neg (by simp [h1]), if_neg (by simp [h2]), c2]
      have := a1.1 h1; have := b1.1 h2
      constructor
      · intro h; exact .inr ⟨by omega, .inr ⟨by omega, h⟩⟩
      · rintro (h | ⟨_, h | ⟨_, h⟩⟩)
        · omega
        · omega
        · exact h
    · rw [if_neg (by simp [h1]), if_pos h2, b2]
      have := a1.1 h1
      have hb : n1 ≠ n2 := fun e => h2 (b1.2 e)
      constructor
      · intro h; exact .inr ⟨by omega, .inl (by omega)⟩
      · rintro (h | ⟨_, h | ⟨h, _⟩⟩) <;> omega
  · rw [if_pos h1, a2]
    have hb : k1 ≠ k2 := fun e => h1 (a1.2 e)
    constructor
    · intro h; exact .inl (by omega)
    · rintro (h | ⟨h, _⟩) <;> omega
theorem cmpV_trans (k1 n1 : Int) (t1 : List UInt8) (k2 n2 : Int) (t2 : List UInt8) (k3 n3 : Int) (t3 : List UInt8) (h1 : cmpV k1 n1 t1 k2 n2 t2 ≤ 0) (h2 : cmpV k2 n2 t2 k3 n3 t3 ≤ 0) : cmpV k1 n1 t1 k3 n3 t3 ≤ 0 := by
  rw [cmpV_le] at h1 h2 ⊢
  rcases h1 with h1 | ⟨rfl, h1 | ⟨rfl, h1⟩⟩
  · left
    rcases h2 with h2 | ⟨rfl, _⟩ <;> omega
  · rcases h2 with h2 | ⟨rfl, h2 | ⟨rfl, _⟩⟩
    · left; omega
    · right; exact ⟨rfl, .inl (by omega)⟩
    · right; exact ⟨rfl, .inl (by omega)⟩
  · rcases h2 with h2 | ⟨rfl, h2 | ⟨rfl, h2⟩⟩
    · left; omega
    · right; exact ⟨rfl, .inl (by omega)⟩
    · right; exact ⟨rfl, .inr ⟨rfl, List.le_trans h1 h2⟩⟩
end Go.Proofs.Ytapcaflmfkcfkaa

namespace Go.Proofs.Ytapcaflmfkcfkaa

/-- P5.2. -/
def cmpD (a b : Int × Int) : Int := if cmpI a.1 b.1 ≠ 0 then cmpI a.1 b.1 else cmpI a.2 b.2
def LtD (a b : Int × Int) : Prop := a.1 < b.1 ∨ (a.1 = b.1 ∧ a.2 < b.2)
theorem cmpD_lt (a b : Int × Int) : cmpD a b < 0 ↔ LtD a b := by
  unfold cmpD LtD cmpI
  (repeat split) <;> constructor <;> intro h <;> omega
theorem cmpD_gt (a b : Int × Int) : 0 < cmpD a b ↔ LtD b a := by
  unfold cmpD LtD cmpI
  (repeat split) <;> constructor <;> intro h <;> omega
theorem cmpD_eq (a b : Int × Int) : cmpD a b = 0 ↔ a = b := by
  obtain ⟨a1, a2⟩ := a
  obtain ⟨b1, b2⟩ := b
  unfold cmpD cmpI
  simp only [Prod.mk.injEq]
  (repeat split) <;> constructor <;> intro h <;> omega
theorem cmpD_anti (a b : Int × Int) : cmpD b a = - cmpD a b := by
  unfold cmpD cmpI
  (repeat split) <;> omega
theorem cmpD_bd (a b : Int × Int) : cmpD a b = -1 ∨ cmpD a b = 0 ∨ cmpD a b = 1 := by
  unfold cmpD; repeat (first | exact cmpI_bd _ _ | split)
theorem LtD.trans {a b c : Int × Int} (h : LtD a b) (k : LtD b c) : LtD a c := by unfold LtD at *; omega
theorem LtD.irrefl (a : Int × Int) : ¬ LtD a a := by unfold LtD; omega
theorem LtD.asymm {a b : Int × Int} (h : LtD a b) : ¬ LtD b a := fun k => LtD.irrefl _ (h.trans k)
theorem LtD.tri (a b : Int × Int) : LtD a b ∨ a = b ∨ LtD b a := by
  obtain ⟨a1, a2⟩ := a
  obtain ⟨b1, b2⟩ := b
  unfold LtD
  simp only [Prod.mk.injEq]
  omega

/-- Lists that rise. -/
def Rise (L : List (Int × Int)) : Prop := L.Pairwise LtD
theorem rise_unique : ∀ (X Y : List (Int × Int)), Rise X → Rise Y → (∀ x, x ∈ X ↔ x ∈ Y) → X = Y
  | [], [], _, _, _ => rfl
  | [], y :: ys, _, _, h => absurd ((h y).2 (List.mem_cons_self ..)) (by simp)
  | x :: xs, [], _, _, h => absurd ((h x).1 (List.mem_cons_self ..)) (by simp)
  | x :: xs, y :: ys, hX, hY, h => by
    obtain ⟨x1, x2⟩ := List.pairwise_cons.1 hX
    obtain ⟨y1, y2⟩ := List.pairwise_cons.1 hY
    have e : x = y := by
      rcases List.mem_cons.1 ((h x).1 (List.mem_cons_self ..)) with e | e
      · exact e
      · rcases List.mem_cons.1 ((h y).2 (List.mem_cons_self ..)) with e2 | e2
        · exact e2.symm
        · exact absurd (y1 _ e) (LtD.asymm (x1 _ e2))
    subst e
    refine congrArg _ (rise_unique xs ys x2 y2 fun z => ⟨fun hz => ?_, fun hz => ?_⟩)
    · rcases List.mem_cons.1 ((h z).1 (List.mem_cons_of_mem _ hz)) with e | e
      · subst e; exact absurd (x1 _ hz) (LtD.irrefl _)
      · exact e
    · rcases List.mem_cons.1 ((h z).2 (List.mem_cons_of_mem _ hz)) with e | e
      · subst e; exact absurd (y1 _ hz) (LtD.irrefl _)
      · exact e
/-- Rising, with just what is in L and d. -/
structure WithD (L : List (Int × Int)) (d : Int × Int) (X : List (Int × Int)) : Prop where
  rise : Rise X
  mem : ∀ x, x ∈ X ↔ x ∈ L ∨ x = d
/-- P5.6: rising, with just what is in L. -/
structure SortD (L X : List (Int × Int)) : Prop where
  rise : Rise X
  mem : ∀ x, x ∈ X ↔ x ∈ L
theorem SortD.same {L X Y : List (Int × Int)} (h : SortD L X) (k : SortD L Y) : X = Y := rise_unique X Y h.rise k.rise fun x => (h.mem x).trans (k.mem x).symm
theorem WithD.same {L X Y : List (Int × Int)} {d : Int × Int} (h : WithD L d X) (k : WithD L d Y) : X = Y := rise_unique X Y h.rise k.rise fun x => (h.mem x).trans (k.mem x).symm
theorem WithD.self {L : List (Int × Int)} {d : Int × Int} (h : Rise L) (hd : d ∈ L) : WithD L d L := ⟨h, fun _ => ⟨.inl, fun h => h.elim id fun e => e ▸ hd⟩⟩
/-- d put in at place k. -/
theorem WithD.put {L : List (Int × Int)} {d : Int × Int} (h : Rise L) (k : Nat) (h1 : ∀ x ∈ L.take k, LtD x d) (h2 : ∀ x ∈ L.drop k, LtD d x) : WithD L d (L.take k ++ d :: L.drop k) := by
  have e : L.take k ++ L.drop k = L := List.take_append_drop k L
  have hp := h
  unfold Rise at hp
  rw [← e, List.pairwise_append] at hp
  obtain ⟨p1, p2, p3⟩ := hp
  refine ⟨?_, fun x => ?_⟩
  · unfold Rise
    rw [List.pairwise_append]
    refine ⟨p1, List.pairwise_cons.2 ⟨h2, p2⟩, fun x hx y hy => ?_⟩
    rcases List.mem_cons.1 hy with rfl | hy
    · exact h1 x hx
    · exact p3 x hx y hy
  · conv => rhs; rw [← e]
    simp only [List.mem_append, List.mem_cons]
    constructor
    · rintro (h | h | h)
      · exact .inl (.inl h)
      · exact .inr h
      · exact .inl (.inr h)
    · rintro ((h | h) | h)
      · exact .inl h
      · exact .inr (.inr h)
      · exact .inr (.inl h)
theorem WithD.len {L X : List (Int × Int)} {d : Int × Int} (hL : Rise L) (h : WithD L d X) : (X.length = L.length) ↔ d ∈ L := by
  by_cases hd : d ∈ L
  · rw [(h.same (WithD.self hL hd))]
    simp [hd]
  · have hk : ∃ k, (∀ x ∈ L.take k, LtD x d) ∧ (∀ x ∈ L.drop k, LtD d x) := by
      clear h
      induction L with
      | nil => exact ⟨0, by simp, by simp⟩
      | cons a r ih =>
        obtain ⟨a1, a2⟩ := List.pairwise_cons.1 hL
        rcases LtD.tri a d with h | h | h
        · obtain ⟨k, k1, k2⟩ := ih a2 (fun hm => hd (List.mem_cons_of_mem _ hm))
          refine ⟨k + 1, fun x hx => ?_, fun x hx => k2 x (by simpa using hx)⟩
          rw [List.take_succ_cons] at hx
          rcases List.mem_cons.1 hx with rfl | hx
          · exact h
          · exact k1 x hx
        · exact absurd (h ▸ List.mem_cons_self ..) hd
        · refine ⟨0, by simp, fun x hx => ?_⟩
          rw [List.drop_zero] at hx
          rcases List.mem_cons.1 hx with rfl | hx
          · exact h
          · exact h.trans (a1 x hx)
    obtain ⟨k, k1, k2⟩ := hk
    rw [h.same (WithD.put hL k k1 k2)]
    have e : (L.take k ++ L.drop k).length = L.length := by rw [List.take_append_drop]
    simp only [List.length_append, List.length_cons] at e ⊢
    constructor
    · intro h; omega
    · intro h; exact absurd h hd
theorem rise_nil : Rise [] := List.Pairwise.nil
/-- The document's Sort: one put in behind the other. -/
theorem SortD.step {L X Y : List (Int × Int)} {d : Int × Int} (h : SortD L X) (k : WithD X d Y) : SortD (L ++ [d]) Y :=
  ⟨k.rise, fun x => by rw [k.mem, h.mem]; simp⟩
end Go.Proofs.Ytapcaflmfkcfkaa

namespace Go.Proofs.Ytapcaflmfkcfkaa
open Go.RowKit

theorem less_of (a b : ByteArray) : Op.bytesLess a.toList b.toList = decide (a.data.toList < b.data.toList) := by
  rw [bytesLess_eq, Lib.toList_data, Lib.toList_data]
theorem beq_of (a b : ByteArray) : (a.toList == b.toList) = decide (a.data.toList = b.data.toList) := by
  rw [Lib.toList_data, Lib.toList_data]; exact Bool.eq_iff_iff.2 (by simp)

def orI (x y z : Int) : Int := if x ≠ 0 then x else if y ≠ 0 then y else z
theorem cmpV_or (k1 n1 : Int) (t1 : List UInt8) (k2 n2 : Int) (t2 : List UInt8) : orI (cmpI k1 k2) (cmpI n1 n2) (cmpL t1 t2) = cmpV k1 n1 t1 k2 n2 t2 := rfl

end Go.Proofs.Ytapcaflmfkcfkaa

namespace Go.Proofs.Ytapcaflmfkcfkaa
open Go.RowKit

/-- A region whose first n operations only read, in whatever order, and whose others have one order: the world behind the draw under a name of its own. -/
theorem region_tail {P : Program} {id : Nat} {Q : Exit → Act → World → Prop} {a : Act} {w : World} {l : List Oper} (n : Nat) (hm : P.follows .mixedOrders = true) (hB : Region.lexTailB .any l.toArray n = true)
    (h : ∀ wd : World, wd = w.drew → wpStill P l.toArray wd (fun a' => wpList P l.toArray Q (l.drop n) a' wd) (l.take n) a) : (Code.region id l.toArray true).wp P Q a w :=
  wp_region_still_tail n hm hB (h _ rfl)

end Go.Proofs.Ytapcaflmfkcfkaa

namespace Go.Proofs.Ytapcaflmfkcfkaa
open Go.RowKit

/-- At most f bytes ahead of the last one, as a text. -/
def putFS (f n : Nat) : ByteArray := ⟨(putF f n).toArray⟩

def byteS (z : Int) : ByteArray := ⟨#[UInt8.ofNat z.toNat]⟩
theorem byteS_size (z : Int) : (byteS z).size = 1 := rfl
theorem put_end (f : Nat) (b : ByteArray) (n : Int) (h : n < 128) : b ++ byteS n = b ++ putFS f n.toNat := by
  have : putF f n.toNat = [UInt8.ofNat n.toNat] := by
    cases f with
    | zero => rfl
    | succ f => simp only [putF]; rw [if_pos (by omega)]
  unfold putFS byteS
  rw [this]
theorem put_more (f : Nat) (b : ByteArray) (n : Int) (_h0 : 0 ≤ n) (h : ¬ n < 128) : b ++ byteS (128 + n % 128) ++ putFS f (n / 128).toNat = b ++ putFS (f + 1) n.toNat := by
  apply ba_ext
  rw [ba_app, ba_app, ba_app, List.append_assoc]
  congr 1
  show [UInt8.ofNat (128 + n % 128).toNat] ++ putF f (n / 128).toNat = putF (f + 1) n.toNat
  simp only [putF]
  rw [if_neg (by omega), show (128 + n % 128).toNat = 128 + n.toNat % 128 by omega, show (n / 128).toNat = n.toNat / 128 by omega]
  rfl

end Go.Proofs.Ytapcaflmfkcfkaa

namespace Go.Proofs.Ytapcaflmfkcfkaa
open Go.RowKit

/-- The number of the first j bytes. -/
def accOf (s : ByteArray) : Nat → Nat
  | 0 => 0
  | j + 1 => accOf s j + (s.data.toList.getD j 0).toNat % 128 * 128 ^ j
/-- What holds at the first loop's head: k bytes are gone through, all of them 128 or above. -/
def RInv (s : ByteArray) (k : Nat) : Prop := TkInv s k (accOf s k) ∧ ∀ i, i < k → 128 ≤ (s.data.toList.getD i 0).toNat

theorem getD_at (s : ByteArray) (k : Nat) (h : k < s.size) : s.data.toList.getD k 0 = s[k] := by
  have hl : k < s.data.toList.length := h
  unfold List.getD
  rw [List.getElem?_eq_getElem hl]
  rfl
theorem rInv_next {s : ByteArray} {k : Nat} (h : RInv s k) (hlt : k < s.size) (h9 : k < 9) (hc : 128 ≤ s[k].toNat) : RInv s (k + 1) := by
  refine ⟨?_, ?_⟩
  · have := tkInv_next h.1 hlt (by omega) (by omega)
    unfold accOf
    rw [getD_at s k hlt]
    exact this
  · intro i hi
    by_cases e : i = k
    · subst e; rw [getD_at s i hlt]; exact hc
    · exact h.2 i (by omega)

/-- The index of a text, in the walk's own words. -/
theorem idx (s : ByteArray) (k : Nat) (hlt : k < s.size) : ∃ c : Nat, RowKit.Hid (c = s[k].toNat) ∧ c < 256 ∧ ∀ wx, (Instr.index 9 (.string s) (.int .i64 k)).run Try.prog wx = .ok (.int .u8 c) wx :=
  ⟨_, rfl, UInt8.toNat_lt _, fun wx => by rw [run_index_string _ _ _ _ _ Try.underlying9]; simp [hlt]⟩

/-- What holds at the second loop's head: m is the number from place j on. -/
def LInv (s : ByteArray) (T j m : Nat) : Prop := m * 128 ^ j + accOf s j = T ∧ T < 18446744073709551616
theorem lInv_step {s : ByteArray} {T p m c : Nat} (h : LInv s T (p + 1) m) (hlt : p < s.size) (hc : c = s[p].toNat) (h128 : 128 ≤ c) :
    LInv s T p (128 * m + (c - 128)) ∧ 128 * m + (c - 128) < 18446744073709551616 := by
  have hb : c < 256 := by rw [hc]; exact UInt8.toNat_lt _
  obtain ⟨h1, h2⟩ := h
  have hp : 0 < 128 ^ p := Nat.pow_pos (by omega)
  have e : (128 * m + (c - 128)) * 128 ^ p + accOf s p = T := by
    rw [← h1, show accOf s (p + 1) = accOf s p + (s.data.toList.getD p 0).toNat % 128 * 128 ^ p from rfl]
    rw [getD_at s p hlt, ← hc, Nat.add_mul, Nat.pow_succ, show c % 128 = c - 128 by omega]
    have : 128 * m * 128 ^ p = m * (128 ^ p * 128) := by
      rw [Nat.mul_comm 128 m, Nat.mul_assoc, Nat.mul_comm 128 (128 ^ p)]
    omega
  refine ⟨⟨e, h2⟩, ?_⟩
  have : (128 * m + (c - 128)) * 1 ≤ (128 * m + (c - 128)) * 128 ^ p := Nat.mul_le_mul_left _ hp
  omega
theorem lInv_last {s : ByteArray} {T m : Nat} (h : LInv s T 0 m) : m = T := by
  obtain ⟨h1, _⟩ := h
  simpa [accOf] using h1

end Go.Proofs.Ytapcaflmfkcfkaa

namespace Go.Proofs.Ytapcaflmfkcfkaa
open Go.RowKit
/-- P3.1. -/
def rightB (k n : Int) (t : ByteArray) : Bool := decide ((k = 1 ∧ t.size = 0) ∨ (k = 2 ∧ t.size ≤ 200 ∧ n = 0) ∨ (k = 3 ∧ t.size = 0 ∧ (n = 0 ∨ n = 1)))
theorem ret_bool {a b : Bool} (h : a = b) : Ending.returned (.bool a) = .returned (.bool b) := by rw [h]
theorem ret_str {a b : ByteArray} (h : a = b) : Ending.returned (.string a) = .returned (.string b) := by rw [h]
theorem empty_of {t : ByteArray} (h : t.size = 0) : t = ⟨#[]⟩ := by
  apply ba_ext; exact List.eq_nil_of_length_eq_zero h
theorem full_of {t : ByteArray} (h : ¬ t.size = 0) : t.toList ≠ [] ∧ t.toList.isEmpty = false ∧ (t.toList == []) = false := by
  have : t.toList ≠ [] := by rw [Lib.toList_data]; intro e; exact h (by rw [ba_size, e]; rfl)
  exact ⟨this, by simpa using this, by simpa using this⟩
theorem vright_any (k n : Int) (t : ByteArray) (w : World) (hs : t.size ≤ 9223372036854775807) :
    Calls Try.prog 32 #[.agg #[.int .i64 k, .int .i64 n, .string t]] w fun e w' => e = .returned (.bool (rightB k n t)) ∧ Grown w w' := by
  by_cases h1 : k = 1
  · subst h1
    by_cases ht : t.size = 0
    · have HR := Lib.hid (show true = rightB 1 n t by unfold rightB; simp [ht])
      obtain rfl := empty_of ht
      clear hs ht
      go_enter Try.func32, Try.ntmps32
      go_wp2
      go_ret
      exact ⟨ret_bool (by first | rfl | exact HR.out), (Grown.refl _).alloc _ _⟩
    · have HR := Lib.hid (show false = rightB 1 n t by unfold rightB; simp [ht])
      obtain ⟨q1, q2, q3⟩ := full_of ht
      go_enter Try.func32, Try.ntmps32
      go_wp2
      go_ret
      exact ⟨ret_bool (by first | rfl | exact HR.out), (Grown.refl _).alloc _ _⟩
  by_cases h2 : k = 2
  · subst h2
    by_cases ht : t.size ≤ 200
    · have d1 : decide ((t.size : Int) ≤ 200) = true := by simp; omega
      by_cases hn : n = 0
      · subst hn
        have HR := Lib.hid (show true = rightB 2 0 t by unfold rightB; simp [ht])
        go_enter Try.func32, Try.ntmps32
        go_wp2
        go_ret
        exact ⟨ret_bool (by first | rfl | exact HR.out), (Grown.refl _).alloc _ _⟩
      · have HR := Lib.hid (show false = rightB 2 n t by unfold rightB; simp [hn])
        have d2 : (n == 0) = false := by simpa using hn
        go_enter Try.func32, Try.ntmps32
        go_wp2
        go_ret
        exact ⟨ret_bool (by first | rfl | exact HR.out), (Grown.refl _).alloc _ _⟩
    · have HR := Lib.hid (show false = rightB 2 n t by unfold rightB; simp; omega)
      have d1 : decide ((t.size : Int) ≤ 200) = false := by simp; omega
      by_cases hn : n = 0
      · subst hn
        go_enter Try.func32, Try.ntmps32
        go_wp2
        go_ret
        exact ⟨ret_bool (by first | rfl | exact HR.out), (Grown.refl _).alloc _ _⟩
      · have d2 : (n == 0) = false := by simpa using hn
        go_enter Try.func32, Try.ntmps32
        go_wp2
        go_ret
        exact ⟨ret_bool (by first | rfl | exact HR.out), (Grown.refl _).alloc _ _⟩
  by_cases h3 : k = 3
  · subst h3
    by_cases ht : t.size = 0
    · obtain rfl := empty_of ht
      clear ht hs
      by_cases hn : n = 0
      · subst hn
        have HR := Lib.hid (show true = rightB 3 0 ⟨#[]⟩ by decide)
        go_enter Try.func32, Try.ntmps32
        go_wp2
        go_ret
        exact ⟨ret_bool (by first | rfl | exact HR.out), (Grown.refl _).alloc _ _⟩
      · have d2 : (n == 0) = false := by simpa using hn
        by_cases hm : n = 1
        · subst hm
          have HR := Lib.hid (show true = rightB 3 1 ⟨#[]⟩ by decide)
          go_enter Try.func32, Try.ntmps32
          go_wp2
          go_ret
          exact ⟨ret_bool (by first | rfl | exact HR.out), (Grown.refl _).alloc _ _⟩
        · have d3 : (n == 1) = false := by simpa using hm
          have HR := Lib.hid (show false = rightB 3 n ⟨#[]⟩ by unfold rightB; simp [hn, hm])
          go_enter Try.func32, Try.ntmps32
          go_wp2
          go_ret
          exact ⟨ret_bool (by first | rfl | exact HR.out), (Grown.refl _).alloc _ _⟩
    · have HR := Lib.hid (show false = rightB 3 n t by unfold rightB; simp [ht])
      obtain ⟨q1, q2, q3⟩ := full_of ht
      go_enter Try.func32, Try.ntmps32
      go_wp2
      go_ret
      exact ⟨ret_bool (by first | rfl | exact HR.out), (Grown.refl _).alloc _ _⟩
  · have HR := Lib.hid (show false = rightB k n t by unfold rightB; simp [h1, h2, h3])
    have d1 : (k == 1) = false := by simpa using h1
    have d2 : (k == 2) = false := by simpa using h2
    have d3 : (k == 3) = false := by simpa using h3
    go_enter Try.func32, Try.ntmps32
    go_wp2
    go_ret
    exact ⟨ret_bool (by first | rfl | exact HR.out), (Grown.refl _).alloc _ _⟩
theorem rright_any (k n : Int) (t : ByteArray) (w : World) (hs : t.size ≤ 9223372036854775807) :
    Calls Try.prog 40 #[.agg #[.int .i64 k, .int .i64 n, .string t]] w fun e w' => e = .returned (.bool (rightB k n t)) ∧ Grown w w' := by
  by_cases h1 : k = 1
  · subst h1
    by_cases ht : t.size = 0
    · have HR := Lib.hid (show true = rightB 1 n t by unfold rightB; simp [ht])
      obtain rfl := empty_of ht
      clear hs ht
      go_enter Try.func40, Try.ntmps40
      go_wp2
      go_ret
      exact ⟨ret_bool (by first | rfl | exact HR.out), (Grown.refl _).alloc _ _⟩
    · have HR := Lib.hid (show false = rightB 1 n t by unfold rightB; simp [ht])
      obtain ⟨q1, q2, q3⟩ := full_of ht
      go_enter Try.func40, Try.ntmps40
      go_wp2
      go_ret
      exact ⟨ret_bool (by first | rfl | exact HR.out), (Grown.refl _).alloc _ _⟩
  by_cases h2 : k = 2
  · subst h2
    by_cases ht : t.size ≤ 200
    · have d1 : decide ((t.size : Int) ≤ 200) = true := by simp; omega
      by_cases hn : n = 0
      · subst hn
        have HR := Lib.hid (show true = rightB 2 0 t by unfold rightB; simp [ht])
        go_enter Try.func40, Try.ntmps40
        go_wp2
        go_ret
        exact ⟨ret_bool (by first | rfl | exact HR.out), (Grown.refl _).alloc _ _⟩
      · have HR := Lib.hid (show false = rightB 2 n t by unfold rightB; simp [hn])
        have d2 : (n == 0) = false := by simpa using hn
        go_enter Try.func40, Try.ntmps40
        go_wp2
        go_ret
        exact ⟨ret_bool (by first | rfl | exact HR.out), (Grown.refl _).alloc _ _⟩
    · have HR := Lib.hid (show false = rightB 2 n t by unfold rightB; simp; omega)
      have d1 : decide ((t.size : Int) ≤ 200) = false := by simp; omega
      by_cases hn : n = 0
      · subst hn
        go_enter Try.func40, Try.ntmps40
        go_wp2
        go_ret
        exact ⟨ret_bool (by first | rfl | exact HR.out), (Grown.refl _).alloc _ _⟩
      · have d2 : (n == 0) = false := by simpa using hn
        go_enter Try.func40, Try.ntmps40
        go_wp2
        go_ret
        exact ⟨ret_bool (by first | rfl | exact HR.out), (Grown.refl _).alloc _ _⟩
  by_cases h3 : k = 3
  · subst h3
    by_cases ht : t.size = 0
    · obtain rfl := empty_of ht
      clear ht hs
      by_cases hn : n = 0
      · subst hn
        have HR := Lib.hid (show true = rightB 3 0 ⟨#[]⟩ by decide)
        go_enter Try.func40, Try.ntmps40
        go_wp2
        go_ret
        exact ⟨ret_bool (by first | rfl | exact HR.out), (Grown.refl _).alloc _ _⟩
      · have d2 : (n == 0) = false := by simpa using hn
        by_cases hm : n = 1
        · subst hm
          have HR := Lib.hid (show true = rightB 3 1 ⟨#[]⟩ by decide)
          go_enter Try.func40, Try.ntmps40
          go_wp2
          go_ret
          exact ⟨ret_bool (by first | rfl | exact HR.out), (Grown.refl _).alloc _ _⟩
        · have d3 : (n == 1) = false := by simpa using hm
          have HR := Lib.hid (show false = rightB 3 n ⟨#[]⟩ by unfold rightB; simp [hn, hm])
          go_enter Try.func40, Try.ntmps40
          go_wp2
          go_ret
          exact ⟨ret_bool (by first | rfl | exact HR.out), (Grown.refl _).alloc _ _⟩
    · have HR := Lib.hid (show false = rightB 3 n t by unfold rightB; simp [ht])
      obtain ⟨q1, q2, q3⟩ := full_of ht
      go_enter Try.func40, Try.ntmps40
      go_wp2
      go_ret
      exact ⟨ret_bool (by first | rfl | exact HR.out), (Grown.refl _).alloc _ _⟩
  · have HR := Lib.hid (show false = rightB k n t by unfold rightB; simp [h1, h2, h3])
    have d1 : (k == 1) = false := by simpa using h1
    have d2 : (k == 2) = false := by simpa using h2
    have d3 : (k == 3) = false := by simpa using h3
    go_enter Try.func40, Try.ntmps40
    go_wp2
    go_ret
    exact ⟨ret_bool (by first | rfl | exact HR.out), (Grown.refl _).alloc _ _⟩
end Go.Proofs.Ytapcaflmfkcfkaa

