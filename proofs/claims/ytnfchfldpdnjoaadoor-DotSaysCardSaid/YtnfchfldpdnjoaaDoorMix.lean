/-
  What is proved: a region that draws its order, in which the calls wait for one another and all else only reads what no call changes, is walked in one order: its reading operations hold in every world of a class, its calls are carried out in the world at hand, one by one, and may hand back values that hang on the world.
-/
import Derived.Test.YtnfchfldpdnjoaaDoorKept
import Derived.OrdersHeld
import Derived.Deep.Quiet
namespace Go.Proofs.YtnfchfldpdnjoaaDoor
open Go.RowKit

def soloQ (K : Act → World → Prop) : Exit → Act → World → Prop
  | .normal, a, w => K a w
  | _, _, _ => False
theorem soloQ_mk {K : Act → World → Prop} {a : Act} {w : World} (h : K a w) : soloQ K .normal a w := h
theorem wp_of_solo {P : Program} {o : Oper} {a : Act} {w : World} {K K' : Act → World → Prop} {Q : Exit → Act → World → Prop} (h : o.wp P a w K (soloQ K')) : o.wp P a w K Q := by
  unfold Oper.wp at *
  generalize (execOp a.eval o).run P w = r at *
  cases r with
  | ok n w' =>
    cases n <;> simp only [Oper.upon] at h ⊢ <;>
      first
        | exact h
        | exact Calls.mono h (fun e w'' he => by
            cases e with
            | returned v => exact he
            | panicked c => exact (he : False).elim
            | outgrown => obtain ⟨_, _, hf⟩ := he; exact (hf : False).elim)
  | halt x w' =>
    cases x <;> simp only [Oper.upon] at h ⊢
    case panic v => exact (h : False).elim

/-- Operations that yield a value, and enter no function. -/
def plainOp : Op → Bool
  | .move _ | .assign _ | .pick _ _ _ | .build _ _ | .load _ _ | .binOp _ _ _ _ _ | .unOp _ _ _ | .extract _ _ | .fieldAddr _ _ _ | .indexAddr _ _ _ | .slice _ _ _ _ _ | .convert _ _ _ | .index _ _ _ | .field _ _ _ => true
  | .call { callee := .builtin .len, .. } => true
  | _ => false

theorem run_bind_value {P : Program} {s : Sem Value} {w w' : World} {n : Next} (h : (do pure (Next.value (← s)) : Sem Next).run P w = .ok n w') : ∃ u, n = .value u := by
  rw [Sem.run_bind] at h
  cases hs : s.run P w with
  | ok v w1 =>
    rw [hs] at h
    simp only [Result.andThen, Sem.run_pure] at h
    cases h; exact ⟨_, rfl⟩
  | halt x w1 => rw [hs] at h; simp only [Result.andThen] at h; cases h
theorem plain_value {P : Program} {o : Oper} {ev : Operand → Value} {w w' : World} {n : Next} (hp : plainOp o.op = true) (h : (execOp ev o).run P w = .ok n w') : ∃ u, n = .value u := by
  unfold execOp at h
  cases ho : o.op with
  | move x => rw [ho] at h; cases h; exact ⟨_, rfl⟩
  | assign x => rw [ho] at h; cases h; exact ⟨_, rfl⟩
  | pick c a b =>
    rw [ho] at h
    simp only [Sem.run_bind] at h
    cases hs : (asBool (ev c)).run P w with
    | ok v w1 => rw [hs] at h; simp only [Result.andThen, Sem.run_pure] at h; cases h; exact ⟨_, rfl⟩
    | halt x w1 => rw [hs] at h; simp only [Result.andThen] at h; cases h
  | build t p => rw [ho] at h; exact run_bind_value h
  | load t x => rw [ho] at h; exact run_bind_value h
  | binOp a b c d e => rw [ho] at h; exact run_bind_value h
  | unOp a b c => rw [ho] at h; exact run_bind_value h
  | extract a b => rw [ho] at h; exact run_bind_value h
  | fieldAddr a b c => rw [ho] at h; exact run_bind_value h
  | indexAddr a b c => rw [ho] at h; exact run_bind_value h
  | slice a b c d e => rw [ho] at h; exact run_bind_value h
  | convert a b c => rw [ho] at h; exact run_bind_value h
  | index a b c => rw [ho] at h; exact run_bind_value h
  | field a b c => rw [ho] at h; exact run_bind_value h
  | call c =>
    rw [ho] at h hp
    obtain ⟨callee, args, argTypes⟩ := c
    cases callee with
    | builtin b =>
      cases b <;> simp only [plainOp, Bool.false_eq_true] at hp
      simp only [resolve, invoke, builtin, Sem.run_bind, Sem.run_pure, Result.andThen] at h
      cases hs : (Builtin.len_ argTypes o.type (args.map ev)).run P w with
      | ok v w1 => rw [hs] at h; cases h; exact ⟨_, rfl⟩
      | halt x w1 => rw [hs] at h; cases h
    | _ => simp [plainOp] at hp
  | _ => rw [ho] at hp; simp [plainOp] at hp

section
variable {P : Program} {ops : Array Oper} {Q : Exit → Act → World → Prop} {C : World → Prop}

def consO : Option Oper → List Oper → List Oper
  | some o, r => o :: r
  | none, r => r
theorem consO_some (o : Oper) (r : List Oper) : consO (some o) r = o :: r := rfl
def pickOps (L : List Oper) : List Nat → List Oper
  | [] => []
  | i :: r => consO L[i]? (pickOps L r)
theorem pickOps_nil (L : List Oper) : pickOps L [] = [] := rfl
theorem pickOps_cons (L : List Oper) (i : Nat) (r : List Nat) : pickOps L (i :: r) = consO L[i]? (pickOps L r) := rfl
def okAt (ops : Array Oper) (listed : Array Bool) (i : Nat) : Bool := (Region.ready .any ops listed).contains i && (Region.free .any ops listed i && match ops[i]? with | some o => plainOp o.op | none => false)
def quietB (ops : Array Oper) : List Nat → Array Bool → Option (Array Bool)
  | [], listed => some listed
  | i :: r, listed => if okAt ops listed i = true then quietB ops r (listed.setIfInBounds i true) else none
def mixB (ops : Array Oper) : List (List Nat × Option Nat) → Array Bool → Bool
  | [], listed => (Region.ready .any ops listed).isEmpty
  | (l, x) :: r, listed => match quietB ops l listed with
    | none => false
    | some y => match x with
      | none => mixB ops r y
      | some i => Region.ready .any ops y == [i] && (ops[i]?).isSome && mixB ops r (y.setIfInBounds i true)
def mixN : List (List Nat × Option Nat) → Nat
  | [] => 0
  | (l, none) :: r => mixN r + l.length
  | (l, some _) :: r => mixN r + 1 + l.length

/-- The walk: a part that only reads, then a call. -/
def wpMix (P : Program) (ops : Array Oper) (C : World → Prop) (Q : Exit → Act → World → Prop) : List (List Nat × Option Nat) → Act → World → Prop
  | [], a, w => Q .normal a w
  | (l, none) :: r, a, w => wpQuiet P ops C (fun a' => wpMix P ops C Q r a' w) (pickOps ops.toList l) a
  | (l, some i) :: r, a, w => wpQuiet P ops C (fun a' => wpList P ops (soloQ fun a'' w'' => C w'' ∧ wpMix P ops C Q r a'' w'') (pickOps ops.toList [i]) a' w) (pickOps ops.toList l) a

theorem quiet_any (hs : Region.noSelect ops = true) (hQ : ∀ c d v a w, Q (.panic c) (Act.put a d v) w → Q (.panic c) a w) : ∀ (l : List Nat) (listed y : Array Bool) (fuel : Nat) (a : Act) (w : World) (K : Act → Prop),
    quietB ops l listed = some y → C w → wpQuiet P ops C K (pickOps ops.toList l) a → (∀ a', K a' → wpAnyH P .any ops Q C fuel y a' w) → wpAnyH P .any ops Q C (fuel + l.length) listed a w
  | [], listed, y, fuel, a, w, K, hB, hC, h, hK => by
    simp only [quietB, Option.some.injEq] at hB
    subst hB
    exact hK _ h
  | i :: r, listed, y, fuel, a, w, K, hB, hC, h, hK => by
    simp only [quietB] at hB
    split at hB
    · rename_i hc
      unfold okAt at hc
      rw [Bool.and_eq_true, Bool.and_eq_true] at hc
      obtain ⟨hr, hf, hp⟩ := hc
      cases ho : ops[i]? with
      | none => rw [ho] at hp; simp at hp
      | some o =>
        rw [ho] at hp
        have e : pickOps ops.toList (i :: r) = o :: pickOps ops.toList r := by
          rw [pickOps_cons, show ops.toList[i]? = some o by rw [Array.getElem?_toList]; exact ho, consO_some]
        rw [e] at h
        simp only [wpQuiet] at h
        have go : ∀ v, YieldsIf P ops C o v a → wpQuiet P ops C K (pickOps ops.toList r) (a.put o.dst v) → wpAnyH P .any ops Q C (fuel + (i :: r).length) listed a w := fun v hy hn =>
          wpAnyH_take (fuel := fuel + r.length) ho hs hf hr (fun c a w h => hQ c _ _ _ w h) hy hC (quiet_any hs hQ r _ y fuel _ w K hB hC hn hK)
        by_cases hw : Region.wanted o (yielded ops a.tmps) = true
        · rw [if_pos hw] at h
          obtain ⟨v, hv, hn⟩ := h
          refine go v (.inl ⟨hw, fun w' hC' => ?_⟩) hn
          have h3 := hv w' hC'
          unfold Oper.quietAt at h3
          cases hx : (execOp a.eval o).run P w' with
          | halt x w1 => rw [hx] at h3; exact (h3 : False).elim
          | ok n w1 =>
            obtain ⟨u, rfl⟩ := plain_value hp hx
            rw [hx] at h3
            obtain ⟨rfl, rfl⟩ := h3
            rfl
        · rw [if_neg hw] at h
          exact go undef (.inr ⟨by simpa using hw, rfl⟩) h
    · cases hB

theorem mix_any (hs : Region.noSelect ops = true) (hQ : ∀ c d v a w, Q (.panic c) (Act.put a d v) w → Q (.panic c) a w) : ∀ (S : List (List Nat × Option Nat)) (listed : Array Bool) (a : Act) (w : World),
    mixB ops S listed = true → C w → wpMix P ops C Q S a w → wpAnyH P .any ops Q C (mixN S) listed a w
  | [], listed, a, w, hB, hC, h => by
    simp only [mixB, List.isEmpty_iff] at hB
    exact wpAnyH_done hB h _
  | (l, x) :: r, listed, a, w, hB, hC, h => by
    simp only [mixB] at hB
    cases hq : quietB ops l listed with
    | none => rw [hq] at hB; simp at hB
    | some y =>
      rw [hq] at hB
      cases x with
      | none => exact quiet_any hs hQ l listed y (mixN r) a w _ hq hC h fun a' h' => mix_any hs hQ r y a' w hB hC h'
      | some i =>
        simp only [Bool.and_eq_true, beq_iff_eq] at hB
        obtain ⟨⟨hr, hi⟩, hB⟩ := hB
        obtain ⟨o, ho⟩ := Option.isSome_iff_exists.1 hi
        refine quiet_any hs hQ l listed y (mixN r + 1) a w _ hq hC h fun a' h' => ?_
        have e : pickOps ops.toList [i] = [o] := by
          rw [pickOps_cons, show ops.toList[i]? = some o by rw [Array.getElem?_toList]; exact ho, consO_some, pickOps_nil]
        rw [e] at h'
        refine wpAnyH_all hr (by simp) fun j hj => ?_
        obtain rfl : j = i := by simpa using hj
        unfold wpOp
        simp only [ho]
        simp only [wpList] at h'
        by_cases hw : Region.wanted o (yielded ops a'.tmps) = true
        · rw [if_pos hw] at h' ⊢
          rcases h' with h' | ⟨_, _, _, hf⟩
          · exact .inl (Oper.wp_mono (fun a2 w2 h2 => ⟨h2.1, mix_any hs hQ r _ a2 w2 hB h2.1 h2.2⟩) (wp_of_solo h'))
          · exact (hf : False).elim
        · rw [if_neg hw] at h' ⊢
          exact ⟨hC, mix_any hs hQ r _ _ w hB hC h'.2⟩
end

theorem wpMix_call {P : Program} {ops : Array Oper} {C : World → Prop} {Q : Exit → Act → World → Prop} {l : List Nat} {i : Nat} {r : List (List Nat × Option Nat)} {a : Act} {w : World} :
    wpMix P ops C Q ((l, some i) :: r) a w = wpQuiet P ops C (fun a' => wpList P ops (soloQ fun a'' w'' => C w'' ∧ wpMix P ops C Q r a'' w'') (pickOps ops.toList [i]) a' w) (pickOps ops.toList l) a := rfl
theorem wpMix_read {P : Program} {ops : Array Oper} {C : World → Prop} {Q : Exit → Act → World → Prop} {l : List Nat} {r : List (List Nat × Option Nat)} {a : Act} {w : World} :
    wpMix P ops C Q ((l, none) :: r) a w = wpQuiet P ops C (fun a' => wpMix P ops C Q r a' w) (pickOps ops.toList l) a := rfl
theorem wpMix_nil {P : Program} {ops : Array Oper} {C : World → Prop} {Q : Exit → Act → World → Prop} {a : Act} {w : World} (h : Q .normal a w) : wpMix P ops C Q [] a w := h
theorem soloQ_both {W : World} {P : Program} {ops : Array Oper} {Q : Exit → Act → World → Prop} {r : List (List Nat × Option Nat)} {a : Act} {w : World} (hk : Kept W w) (h : wpMix P ops (fun w' => ∃ g : KExt W, w' = g.w) Q r a w) :
    soloQ (fun a'' w'' => (∃ g : KExt W, w'' = g.w) ∧ wpMix P ops (fun w' => ∃ g : KExt W, w' = g.w) Q r a'' w'') .normal a w := ⟨⟨⟨w, hk⟩, rfl⟩, h⟩

/-- The region, walked in the order S. -/
theorem region_mix {P : Program} (W : World) {id : Nat} {Q : Exit → Act → World → Prop} {a : Act} {w : World} {l : List Oper} (S : List (List Nat × Option Nat)) (hm : P.follows .mixedOrders = true) (hs : Region.noSelect l.toArray = true) (hn : mixN S = l.length)
    (hB : mixB l.toArray S (Array.replicate l.length false) = true) (hQ : ∀ c d v a w, Q (.panic c) (Act.put a d v) w → Q (.panic c) a w) (h0 : Kept W w)
    (h : ∀ wd : World, Kept w wd → wpMix P l.toArray (fun w' => ∃ g : KExt W, w' = g.w) Q S a wd) : (Code.region id l.toArray true).wp P Q a w := by
  refine wp_region_held (S := fun w' => ∃ g : KExt W, w' = g.w) hm ?_
  have hk : Kept w { w with drawn := w.drawn + 1 } := (Kept.refl w).drew
  have := mix_any (Q := Q) (C := fun w' => ∃ g : KExt W, w' = g.w) hs hQ S (Array.replicate l.length false) a { w with drawn := w.drawn + 1 } hB ⟨⟨_, h0.trans hk⟩, rfl⟩ (h _ hk)
  rw [hn] at this
  rw [List.size_toArray]
  exact this
end Go.Proofs.YtnfchfldpdnjoaaDoor
