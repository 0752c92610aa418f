/-
  What is proved: a region that draws its order, in which the calls wait for one another and all else only reads what no call changes, is walked in one order: its reading operations hold in every world of a class, its calls are carried out in the world at hand, one by one, and may hand back values that hang on the world.
  plain facts on dots (P5.2, P5.5, P5.6, P5.10): their order, lists that rise, and that such a list is told by what is in it; no program is spoken of here.
  plain facts on what loses nothing (P13.5, P13.9, P13.10): its two ways are each other's opposite, turned it loses nothing; what is right and is not told to lose nothing loses one of a few values; no program is spoken of here.
  plain facts on tables as bytes (P13.6, P13.7); no program is spoken of here.
  the check on a region's order that region_mix asks (mixB), reckoned by one number's bits in the place of an array: what it finds holds of mixB.
  as region_mix (XMix), where at some places either of two operations may come first: both are walked.
  nothing; a place for the shelf.
  Text of package val and of the document's layer 3, called with any value where the laid tables read as their initialisers lay them, return what P3.5 says; the world has new blocks at most.
  the document's own number and Text of layer 3, called with any value, return what P3.5 says; the world has new blocks at most.
-/
import Derived.Test.YtofnpifooaijcaaGreatM3
import Derived.OrdersHeld
import Derived.Deep.Quiet
import Derived.Test.YtofnpifooaijcaaGreatM2
import Derived.Test.YtofnpifooaijcaaGreatProg
import Derived.Lib.ItoaLen
namespace Go.Proofs.YtofnpifooaijcaaGreat
open Go.RowKit
def soloQ (K : Act → World → Prop) : Exit → Act → World → Prop
  | .normal, a, w => K a w
  | _, _, _ => False
theorem wp_of_solo {P : Program} {o : Oper} {a : Act} {w : World} {K K' : Act → World → Prop} {Q : Exit → Act → World → Prop} (h : o.wp P a w K (soloQ K')) : o.wp P a w K Q := by
  unfold Oper.wp at *
  generalize (execOp a.eval o).run P w = r at *
  cases r with
  | ok n w' =>
    cases n <;> simp only [Oper.upon] at h ⊢ <;>
      first
        | exact h
        | exact Calls.mono h (fun e w'' he => by
            cases e with
            | returned v => exact he
            | panicked c => exact (he : False).elim
            | outgrown => obtain ⟨_, _, hf⟩ := he; exact (hf : False).elim)
  | halt x w' =>
    cases x <;> simp only [Oper.upon] at h ⊢
    case panic v => exact (h : False).elim
def plainOp : Op → Bool
  | .move _ | .assign _ | .pick _ _ _ | .build _ _ | .load _ _ | .binOp _ _ _ _ _ | .unOp _ _ _ | .extract _ _ | .fieldAddr _ _ _ | .indexAddr _ _ _ | .slice _ _ _ _ _ | .convert _ _ _ | .index _ _ _ | .field _ _ _ => true
  | .call { callee := .builtin .len, .. } => true
  | _ => false
theorem run_bind_value {P : Program} {s : Sem Value} {w w' : World} {n : Next} (h : (do pure (Next.value (← s)) : Sem Next).run P w = .ok n w') : ∃ u, n = .value u := by
  rw [Sem.run_bind] at h
  cases hs : s.run P w with
  | ok v w1 =>
    rw [hs] at h
    simp only [Result.andThen, Sem.run_pure] at h
    cases h; exact ⟨_, rfl⟩
  | halt x w1 => rw [hs] at h; simp only [Result.andThen] at h; cases h
theorem plain_value {P : Program} {o : Oper} {ev : Operand → Value} {w w' : World} {n : Next} (hp : plainOp o.op = true) (h : (execOp ev o).run P w = .ok n w') : ∃ u, n = .value u := by
  unfold execOp at h
  cases ho : o.op with
  | move x => rw [ho] at h; cases h; exact ⟨_, rfl⟩
  | assign x => rw [ho] at h; cases h; exact ⟨_, rfl⟩
  | pick c a b =>
    rw [ho] at h
    simp only [Sem.run_bind] at h
    cases hs : (asBool (ev c)).run P w with
    | ok v w1 => rw [hs] at h; simp only [Result.andThen, Sem.run_pure] at h; cases h; exact ⟨_, rfl⟩
    | halt x w1 => rw [hs] at h; simp only [Result.andThen] at h; cases h
  | build t p => rw [ho] at h; exact run_bind_value h
  | load t x => rw [ho] at h; exact run_bind_value h
  | binOp a b c d e => rw [ho] at h; exact run_bind_value h
  | unOp a b c => rw [ho] at h; exact run_bind_value h
  | extract a b => rw [ho] at h; exact run_bind_value h
  | fieldAddr a b c => rw [ho] at h; exact run_bind_value h
  | indexAddr a b c => rw [ho] at h; exact run_bind_value h
  | slice a b c d e => rw [ho] at h; exact run_bind_value h
  | convert a b c => rw [ho] at h; exact run_bind_value h
  | index a b c => rw [ho] at h; exact run_bind_value h
  | field a b c => rw [ho] at h; exact run_bind_value h
  | call c =>
    rw [ho] at h hp
    obtain ⟨callee, args, argTypes⟩ := c
    cases callee with
    | builtin b =>
      cases b <;> simp only [plainOp, Bool.false_eq_true] at hp
      simp only [resolve, invoke, builtin, Sem.run_bind, Sem.run_pure, Result.andThen] at h
      cases hs : (Builtin.len_ argTypes o.type (args.map ev)).run P w with
      | ok v w1 => rw [hs] at h; cases h; exact ⟨_, rfl⟩
      | halt x w1 => rw [hs] at h; cases h
    | _ => simp [plainOp] at hp
  | _ => rw [ho] at hp; simp [plainOp] at hp
section
variable {P : Program} {ops : Array Oper} {Q : Exit → Act → World → Prop} {C : World → Prop}
def consO : Option Oper → List Oper → List Oper
  | some o, r => o :: r
  | none, r => r
theorem consO_some (o : Oper) (r : List Oper) : consO (some o) r = o :: r := rfl
def pickOps (L : List Oper) : List Nat → List Oper
  | [] => []
  | i :: r => consO L[i]? (pickOps L r)
theorem pickOps_nil (L : List Oper) : pickOps L [] = [] := rfl
theorem pickOps_cons (L : List Oper) (i : Nat) (r : List Nat) : pickOps L (i :: r) = consO L[i]? (pickOps L r) := rfl
theorem pA (L : List Oper) (i : Nat) (r : List Nat) : pickOps L (i :: r) = consO L[i]? (pickOps L r) := rfl
theorem pB (L : List Oper) : pickOps L [] = [] := rfl
theorem pC (o : Oper) (r : List Oper) : consO (some o) r = o :: r := rfl
theorem pD (o : Oper) (r : List Oper) : (o :: r)[0]? = some o := rfl
theorem pE (o : Oper) (r : List Oper) (i : Nat) : (o :: r)[i + 1]? = r[i]? := rfl
def okAt (ops : Array Oper) (listed : Array Bool) (i : Nat) : Bool := (Region.ready .any ops listed).contains i && (Region.free .any ops listed i && match ops[i]? with | some o => plainOp o.op | none => false)
def quietB (ops : Array Oper) : List Nat → Array Bool → Option (Array Bool)
  | [], listed => some listed
  | i :: r, listed => if okAt ops listed i = true then quietB ops r (listed.setIfInBounds i true) else none
def mixB (ops : Array Oper) : List (List Nat × Option Nat) → Array Bool → Bool
  | [], listed => (Region.ready .any ops listed).isEmpty
  | (l, x) :: r, listed => match quietB ops l listed with
    | none => false
    | some y => match x with
      | none => mixB ops r y
      | some i => Region.ready .any ops y == [i] && (ops[i]?).isSome && mixB ops r (y.setIfInBounds i true)
def mixN : List (List Nat × Option Nat) → Nat
  | [] => 0
  | (l, none) :: r => mixN r + l.length
  | (l, some _) :: r => mixN r + 1 + l.length
def wpMix (P : Program) (ops : Array Oper) (C : World → Prop) (Q : Exit → Act → World → Prop) : List (List Nat × Option Nat) → Act → World → Prop
  | [], a, w => Q .normal a w
  | (l, none) :: r, a, w => wpQuiet P ops C (fun a' => wpMix P ops C Q r a' w) (pickOps ops.toList l) a
  | (l, some i) :: r, a, w => wpQuiet P ops C (fun a' => wpList P ops (soloQ fun a'' w'' => C w'' ∧ wpMix P ops C Q r a'' w'') (pickOps ops.toList [i]) a' w) (pickOps ops.toList l) a
theorem quiet_any (hs : Region.noSelect ops = true) (hQ : ∀ c d v a w, Q (.panic c) (Act.put a d v) w → Q (.panic c) a w) : ∀ (l : List Nat) (listed y : Array Bool) (fuel : Nat) (a : Act) (w : World) (K : Act → Prop),
    quietB ops l listed = some y → C w → wpQuiet P ops C K (pickOps ops.toList l) a → (∀ a', K a' → wpAnyH P .any ops Q C fuel y a' w) → wpAnyH P .any ops Q C (fuel + l.length) listed a w
  | [], listed, y, fuel, a, w, K, hB, hC, h, hK => by
    simp only [quietB, Option.some.injEq] at hB
    subst hB
    exact hK _ h
  | i :: r, listed, y, fuel, a, w, K, hB, hC, h, hK => by
    simp only [quietB] at hB
    split at hB
    · rename_i hc
      unfold okAt at hc
      rw [Bool.and_eq_true, Bool.and_eq_true] at hc
      obtain ⟨hr, hf, hp⟩ := hc
      cases ho : ops[i]? with
      | none => rw [ho] at hp; simp at hp
      | some o =>
        rw [ho] at hp
        have e : pickOps ops.toList (i :: r) = o :: pickOps ops.toList r := by
          rw [pickOps_cons, show ops.toList[i]? = some o by rw [Array.getElem?_toList]; exact ho, consO_some]
        rw [e] at h
        simp only [wpQuiet] at h
        have go : ∀ v, YieldsIf P ops C o v a → wpQuiet P ops C K (pickOps ops.toList r) (a.put o.dst v) → wpAnyH P .any ops Q C (fuel + (i :: r).length) listed a w := fun v hy hn =>
          wpAnyH_take (fuel := fuel + r.length) ho hs hf hr (fun c a w h => hQ c _ _ _ w h) hy hC (quiet_any hs hQ r _ y fuel _ w K hB hC hn hK)
        by_cases hw : Region.wanted o (yielded ops a.tmps) = true
        · rw [if_pos hw] at h
          obtain ⟨v, hv, hn⟩ := h
          refine go v (.inl ⟨hw, fun w' hC' => ?_⟩) hn
          have h3 := hv w' hC'
          unfold Oper.quietAt at h3
          cases hx : (execOp a.eval o).run P w' with
          | halt x w1 => rw [hx] at h3; exact (h3 : False).elim
          | ok n w1 =>
            obtain ⟨u, rfl⟩ := plain_value hp hx
            rw [hx] at h3
            obtain ⟨rfl, rfl⟩ := h3
            rfl
        · rw [if_neg hw] at h
          exact go undef (.inr ⟨by simpa using hw, rfl⟩) h
    · cases hB
theorem mix_any (hs : Region.noSelect ops = true) (hQ : ∀ c d v a w, Q (.panic c) (Act.put a d v) w → Q (.panic c) a w) : ∀ (S : List (List Nat × Option Nat)) (listed : Array Bool) (a : Act) (w : World),
    mixB ops S listed = true → C w → wpMix P ops C Q S a w → wpAnyH P .any ops Q C (mixN S) listed a w
  | [], listed, a, w, hB, hC, h => by
    simp only [mixB, List.isEmpty_iff] at hB
    exact wpAnyH_done hB h _
  | (l, x) :: r, listed, a, w, hB, hC, h => by
    simp only [mixB] at hB
    cases hq : quietB ops l listed with
    | none => rw [hq] at hB; simp at hB
    | some y =>
      rw [hq] at hB
      cases x with
      | none => exact quiet_any hs hQ l listed y (mixN r) a w _ hq hC h fun a' h' => mix_any hs hQ r y a' w hB hC h'
      | some i =>
        simp only [Bool.and_eq_true, beq_iff_eq] at hB
        obtain ⟨⟨hr, hi⟩, hB⟩ := hB
        obtain ⟨o, ho⟩ := Option.isSome_iff_exists.1 hi
        refine quiet_any hs hQ l listed y (mixN r + 1) a w _ hq hC h fun a' h' => ?_
        have e : pickOps ops.toList [i] = [o] := by
          rw [pickOps_cons, show ops.toList[i]? = some o by rw [Array.getElem?_toList]; exact ho, consO_some, pickOps_nil]
        rw [e] at h'
        refine wpAnyH_all hr (by simp) fun j hj => ?_
        obtain rfl : j = i := by simpa using hj
        unfold wpOp
        simp only [ho]
        simp only [wpList] at h'
        by_cases hw : Region.wanted o (yielded ops a'.tmps) = true
        · rw [if_pos hw] at h' ⊢
          rcases h' with h' | ⟨_, _, _, hf⟩
          · exact .inl (Oper.wp_mono (fun a2 w2 h2 => ⟨h2.1, mix_any hs hQ r _ a2 w2 hB h2.1 h2.2⟩) (wp_of_solo h'))
          · exact (hf : False).elim
        · rw [if_neg hw] at h' ⊢
          exact ⟨hC, mix_any hs hQ r _ _ w hB hC h'.2⟩
end
theorem region_mix {P : Program} (W : World) {id : Nat} {Q : Exit → Act → World → Prop} {a : Act} {w : World} {l : List Oper} (S : List (List Nat × Option Nat)) (hm : P.follows .mixedOrders = true) (hs : Region.noSelect l.toArray = true) (hn : mixN S = l.length)
    (hB : mixB l.toArray S (Array.replicate l.length false) = true) (hQ : ∀ c d v a w, Q (.panic c) (Act.put a d v) w → Q (.panic c) a w) (h0 : Kept W w)
    (h : ∀ wd : World, Kept w wd → wpMix P l.toArray (fun w' => ∃ g : KExt W, w' = g.w) Q S a wd) : (Code.region id l.toArray true).wp P Q a w := by
  refine wp_region_held (S := fun w' => ∃ g : KExt W, w' = g.w) hm ?_
  have hk : Kept w { w with drawn := w.drawn + 1 } := (Kept.refl w).drew
  have := mix_any (Q := Q) (C := fun w' => ∃ g : KExt W, w' = g.w) hs hQ S (Array.replicate l.length false) a { w with drawn := w.drawn + 1 } hB ⟨⟨_, h0.trans hk⟩, rfl⟩ (h _ hk)
  rw [hn] at this
  rw [List.size_toArray]
  exact this
end Go.Proofs.YtofnpifooaijcaaGreat
namespace Go.Proofs.YtofnpifooaijcaaGreat
end Go.Proofs.YtofnpifooaijcaaGreat
namespace Go.Proofs.YtofnpifooaijcaaGreat
open Go.RowKit
section
variable {α : Type} [DecidableEq α]
end
def putVa (b : ByteArray) (x : Va) : ByteArray := putV b x.k x.n x.t
def putPa (b : ByteArray) (p : Pa) : ByteArray := putVa (putVa b p.f) p.t
def marksT (T : Tb) : Nat := (if T.keep then 1 else 0) + (if T.tu then 2 else 0)
def putTbL (b : ByteArray) (T : Tb) (t : Nat) : ByteArray := (T.L.take t).foldl putPa (b ++ putS (marksT T) ++ putS T.L.length)
def putTb (b : ByteArray) (T : Tb) : ByteArray := putPa (putTbL b T T.L.length) ⟨T.d, T.b⟩
theorem putTb_zero (b : ByteArray) (T : Tb) : putTbL b T 0 = b ++ putS (marksT T) ++ putS T.L.length := rfl
theorem putTb_step {b : ByteArray} {T : Tb} {t : Nat} {p : Pa} (h : T.L[t]? = some p) : putTbL b T (t + 1) = putPa (putTbL b T t) p := by
  unfold putTbL
  rw [List.take_add_one, h, Option.toList_some, List.foldl_append]
  rfl
def Pa.none : Pa := ⟨.zero, .zero⟩
def Tb.none : Tb := ⟨[], false, .zero, .zero, false⟩
def tVa (s : ByteArray) : Va := ⟨tvK s, tvI s, tvT s⟩
def twoL (s : ByteArray) : Pa × ByteArray × Nat :=
  if tvE s ≠ 0 then (.none, ⟨#[]⟩, tvE s) else if tvE (tvR s) ≠ 0 then (.none, ⟨#[]⟩, tvE (tvR s)) else (⟨tVa s, tVa (tvR s)⟩, tvR (tvR s), 0)
def twoX (s : ByteArray) : Pa := (twoL s).1
def twoR (s : ByteArray) : ByteArray := (twoL s).2.1
def twoE (s : ByteArray) : Nat := (twoL s).2.2
def takePs : Nat → List Pa → ByteArray → List Pa × ByteArray × Nat
  | 0, L, s => (L, s, 0)
  | n + 1, L, s => if twoE s ≠ 0 then ([], ⟨#[]⟩, twoE s) else takePs n (L ++ [twoX s]) (twoR s)
theorem takePs_err {k : Nat} {L : List Pa} {s : ByteArray} (h : twoE s ≠ 0) : takePs (k + 1) L s = ([], ⟨#[]⟩, twoE s) := by rw [takePs, if_pos h]
theorem takePs_ok {k : Nat} {L : List Pa} {s : ByteArray} (h : twoE s = 0) : takePs (k + 1) L s = takePs k (L ++ [twoX s]) (twoR s) := by rw [takePs, if_neg (by rw [h]; simp)]
def restTb (m : Nat) (P : List Pa × ByteArray × Nat) : Tb × ByteArray × Nat :=
  if P.2.2 ≠ 0 then (.none, ⟨#[]⟩, P.2.2) else if twoE P.2.1 ≠ 0 then (.none, ⟨#[]⟩, twoE P.2.1)
  else (⟨P.1, decide (m % 2 = 1), (twoX P.2.1).f, (twoX P.2.1).t, decide (2 ≤ m)⟩, twoR P.2.1, 0)
def ttbL (s : ByteArray) : Tb × ByteArray × Nat :=
  if tkE s ≠ 0 then (.none, ⟨#[]⟩, tkE s) else if 3 < tkN s then (.none, ⟨#[]⟩, 3)
  else if tkE (tkR s) ≠ 0 then (.none, ⟨#[]⟩, tkE (tkR s)) else if 8 < tkN (tkR s) then (.none, ⟨#[]⟩, 4)
  else restTb (tkN s) (takePs (tkN (tkR s)) [] (tkR (tkR s)))
def bits (n m : Nat) : Array Bool := ((List.range n).map (Nat.testBit m)).toArray
theorem bits_getD (n m j : Nat) (d : Bool) : (bits n m).getD j d = if j < n then m.testBit j else d := by
  rw [Array.getD_eq_getD_getElem?]
  unfold bits
  rw [List.getElem?_toArray, List.getElem?_map]
  by_cases h : j < n
  · rw [if_pos h, List.getElem?_range h]; rfl
  · rw [if_neg h, List.getElem?_eq_none (by rw [List.length_range]; omega)]; rfl
theorem bits_set (n m i : Nat) : (bits n m).setIfInBounds i true = bits n (m ||| 2 ^ i) := by
  apply Array.ext
  · simp [bits]
  · intro j h1 h2
    have hj : j < n := by simpa [bits] using h2
    rw [Array.getElem_setIfInBounds (by simpa [bits] using hj)]
    simp only [bits, List.getElem_toArray, List.getElem_map, List.getElem_range, Nat.testBit_or, Nat.testBit_two_pow]
    by_cases e : i = j
    · simp [e]
    · simp [e]
theorem bits_none (n : Nat) : Array.replicate n false = bits n 0 := by
  apply Array.ext
  · simp [bits]
  · intro j h1 h2
    simp [bits]
def isReady (ops : Array Oper) (n m i : Nat) : Bool :=
  !m.testBit i && match ops[i]? with
    | some o => o.after.all fun e => !Region.binds .any e || (Nat.blt e.on n && m.testBit e.on)
    | none => false
def isFree (ops : Array Oper) (n m i : Nat) : Bool :=
  match ops[i]? with
  | none => false
  | some oi => (List.range n).all fun j => j == i || m.testBit j || match ops[j]? with
      | some oj => oj.after.any (fun e => Region.binds .any e && e.on == i) || oi.apart ops oj
      | none => true
def isPlain (ops : Array Oper) (i : Nat) : Bool := match ops[i]? with | some o => plainOp o.op | none => false
def quietF (ops : Array Oper) (n : Nat) : List Nat → Nat → Option Nat
  | [], m => some m
  | i :: r, m => if (Nat.blt i n && isReady ops n m i && isFree ops n m i && isPlain ops i) = true then quietF ops n r (m ||| 2 ^ i) else none
theorem ready_bits (ops : Array Oper) (m : Nat) : Region.ready .any ops (bits ops.size m) = (List.range ops.size).filter fun i => isReady ops ops.size m i := by
  unfold Region.ready
  apply List.filter_congr
  intro i hi
  have hi' : i < ops.size := List.mem_range.1 hi
  unfold isReady
  rw [bits_getD, if_pos hi']
  congr 1
  rw [Array.getElem?_eq_getElem hi']
  simp only [Option.map_some, Option.getD_some]
  congr 1
  funext e
  rw [bits_getD]
  by_cases h : e.on < ops.size
  · rw [if_pos h, show Nat.blt e.on ops.size = true by rw [Nat.blt_eq]; exact h, Bool.true_and]
  · rw [if_neg h, show Nat.blt e.on ops.size = false by rw [Bool.eq_false_iff, Ne, Nat.blt_eq]; exact h, Bool.false_and]
theorem free_bits (ops : Array Oper) (m i : Nat) : Region.free .any ops (bits ops.size m) i = isFree ops ops.size m i := by
  unfold Region.free isFree
  cases ops[i]? with
  | none => rfl
  | some oi =>
    simp only
    rw [Bool.eq_iff_iff, List.all_eq_true, List.all_eq_true]
    have hb : ∀ j, j ∈ List.range ops.size → (bits ops.size m).getD j true = m.testBit j := fun j hj => by
      rw [bits_getD, if_pos (List.mem_range.1 hj)]
    constructor
    · intro h j hj
      have := h j hj
      rwa [hb j hj] at this
    · intro h j hj
      rw [hb j hj]
      exact h j hj
theorem filter_one {n i : Nat} {p : Nat → Bool} (hi : i < n) (h : ∀ j, j < n → p j = (j == i)) : (List.range n).filter p = [i] := by
  rw [List.filter_congr (q := fun j => j == i) (fun j hj => h j (List.mem_range.1 hj))]
  induction n with
  | zero => omega
  | succ n ih =>
    rw [List.range_succ, List.filter_append]
    by_cases e : i = n
    · subst e
      rw [List.filter_eq_nil_iff.2 (fun j hj => by have := List.mem_range.1 hj; simp; omega)]
      simp
    · rw [ih (by omega) (fun j hj => h j (by omega))]
      simp [Ne.symm e]
theorem quietF_B (ops : Array Oper) : ∀ (l : List Nat) (m y : Nat), quietF ops ops.size l m = some y → quietB ops l (bits ops.size m) = some (bits ops.size y)
  | [], m, y, h => by
    simp only [quietF, Option.some.injEq] at h
    subst h; rfl
  | i :: r, m, y, h => by
    simp only [quietF] at h
    split at h
    · rename_i hc
      rw [Bool.and_eq_true, Bool.and_eq_true, Bool.and_eq_true, Nat.blt_eq] at hc
      obtain ⟨⟨⟨hi, hr⟩, hf⟩, hp⟩ := hc
      have hok : okAt ops (bits ops.size m) i = true := by
        unfold okAt
        rw [Bool.and_eq_true, Bool.and_eq_true]
        refine ⟨?_, by rw [free_bits]; exact hf, hp⟩
        rw [ready_bits, List.contains_iff_mem, List.mem_filter]
        exact ⟨List.mem_range.2 hi, hr⟩
      simp only [quietB]
      rw [if_pos hok, bits_set]
      exact quietF_B ops r _ y h
    · cases h
inductive Plan where
  | stop : Plan
  | read : List Nat → Plan → Plan
  | one : Nat → Plan → Plan
  | two : Nat → Plan → Nat → Plan → Plan
  | three : Nat → Plan → Nat → Plan → Nat → Plan → Plan
def planN : Plan → Nat
  | .stop => 0
  | .read l p => planN p + l.length
  | .one _ p => planN p + 1
  | .two _ p _ _ => planN p + 1
  | .three _ p _ _ _ _ => planN p + 1
def planB (ops : Array Oper) : Plan → Array Bool → Bool
  | .stop, listed => (Region.ready .any ops listed).isEmpty
  | .read l p, listed => match quietB ops l listed with
    | none => false
    | some y => planB ops p y
  | .one i p, listed => Region.ready .any ops listed == [i] && (ops[i]?).isSome && planB ops p (listed.setIfInBounds i true)
  | .two i p j q, listed => Region.ready .any ops listed == [i, j] && (ops[i]?).isSome && (ops[j]?).isSome && planN p == planN q && planB ops p (listed.setIfInBounds i true) && planB ops q (listed.setIfInBounds j true)
  | .three i p j q k r, listed => Region.ready .any ops listed == [i, j, k] && (ops[i]?).isSome && (ops[j]?).isSome && (ops[k]?).isSome && planN p == planN q && planN p == planN r && planB ops p (listed.setIfInBounds i true) && planB ops q (listed.setIfInBounds j true) && planB ops r (listed.setIfInBounds k true)
def wpPlan (P : Program) (ops : Array Oper) (C : World → Prop) (Q : Exit → Act → World → Prop) : Plan → Act → World → Prop
  | .stop, a, w => Q .normal a w
  | .read l p, a, w => wpQuiet P ops C (fun a' => wpPlan P ops C Q p a' w) (pickOps ops.toList l) a
  | .one i p, a, w => wpList P ops (soloQ fun a' w' => C w' ∧ wpPlan P ops C Q p a' w') (pickOps ops.toList [i]) a w
  | .two i p j q, a, w => wpList P ops (soloQ fun a' w' => C w' ∧ wpPlan P ops C Q p a' w') (pickOps ops.toList [i]) a w ∧ wpList P ops (soloQ fun a' w' => C w' ∧ wpPlan P ops C Q q a' w') (pickOps ops.toList [j]) a w
  | .three i p j q k r, a, w => wpList P ops (soloQ fun a' w' => C w' ∧ wpPlan P ops C Q p a' w') (pickOps ops.toList [i]) a w ∧ wpList P ops (soloQ fun a' w' => C w' ∧ wpPlan P ops C Q q a' w') (pickOps ops.toList [j]) a w ∧ wpList P ops (soloQ fun a' w' => C w' ∧ wpPlan P ops C Q r a' w') (pickOps ops.toList [k]) a w
section
variable {P : Program} {ops : Array Oper} {Q : Exit → Act → World → Prop} {C : World → Prop}
theorem op_of_list {i : Nat} {o : Oper} {a : Act} {w : World} {K : Act → World → Prop} (ho : ops[i]? = some o) (h : wpList P ops (soloQ K) (pickOps ops.toList [i]) a w) : wpOp P ops Q i K a w := by
  have e : pickOps ops.toList [i] = [o] := by
    rw [pickOps_cons, show ops.toList[i]? = some o by rw [Array.getElem?_toList]; exact ho, consO_some, pickOps_nil]
  rw [e] at h
  unfold wpOp
  simp only [ho]
  simp only [wpList] at h
  by_cases hw : Region.wanted o (yielded ops a.tmps) = true
  · rw [if_pos hw] at h ⊢
    rcases h with h | ⟨_, _, _, hf⟩
    · exact .inl (wp_of_solo h)
    · exact (hf : False).elim
  · rw [if_neg hw] at h ⊢
    exact h
theorem wpOp_mono {i : Nat} {a : Act} {w : World} {K K' : Act → World → Prop} (hK : ∀ a w, K a w → K' a w) (h : wpOp P ops Q i K a w) : wpOp P ops Q i K' a w := by
  unfold wpOp at *
  split
  · rename_i ho; simp only [ho] at h; exact hK _ _ h
  · rename_i o ho
    simp only [ho] at h
    split
    · rename_i hw
      rw [if_pos hw] at h
      exact h.imp (Oper.wp_mono hK) id
    · rename_i hw
      rw [if_neg hw] at h
      exact hK _ _ h
theorem plan_any (hs : Region.noSelect ops = true) (hQ : ∀ c d v a w, Q (.panic c) (Act.put a d v) w → Q (.panic c) a w) : ∀ (p : Plan) (listed : Array Bool) (a : Act) (w : World),
    planB ops p listed = true → C w → wpPlan P ops C Q p a w → wpAnyH P .any ops Q C (planN p) listed a w
  | .stop, listed, a, w, hB, hC, h => by
    simp only [planB, List.isEmpty_iff] at hB
    exact wpAnyH_done hB h _
  | .read l p, listed, a, w, hB, hC, h => by
    simp only [planB] at hB
    cases hq : quietB ops l listed with
    | none => rw [hq] at hB; simp at hB
    | some y =>
      rw [hq] at hB
      exact quiet_any hs hQ l listed y (planN p) a w _ hq hC h fun a' h' => plan_any hs hQ p y a' w hB hC h'
  | .one i p, listed, a, w, hB, hC, h => by
    simp only [planB, Bool.and_eq_true, beq_iff_eq] at hB
    obtain ⟨⟨hr, hi⟩, hB⟩ := hB
    obtain ⟨o, ho⟩ := Option.isSome_iff_exists.1 hi
    refine wpAnyH_all hr (by simp) fun j hj => ?_
    obtain rfl : j = i := by simpa using hj
    exact wpOp_mono (fun a2 w2 h2 => ⟨h2.1, plan_any hs hQ p _ a2 w2 hB h2.1 h2.2⟩) (op_of_list ho h)
  | .two i p j q, listed, a, w, hB, hC, h => by
    simp only [planB, Bool.and_eq_true, beq_iff_eq] at hB
    obtain ⟨⟨⟨⟨⟨hr, hi⟩, hj⟩, hn⟩, hB1⟩, hB2⟩ := hB
    obtain ⟨o1, ho1⟩ := Option.isSome_iff_exists.1 hi
    obtain ⟨o2, ho2⟩ := Option.isSome_iff_exists.1 hj
    refine wpAnyH_all hr (by simp) fun t ht => ?_
    simp only [List.mem_cons, List.not_mem_nil, or_false] at ht
    rcases ht with rfl | rfl
    · exact wpOp_mono (fun a2 w2 h2 => ⟨h2.1, plan_any hs hQ p _ a2 w2 hB1 h2.1 h2.2⟩) (op_of_list ho1 h.1)
    · exact wpOp_mono (fun a2 w2 h2 => ⟨h2.1, by rw [hn]; exact plan_any hs hQ q _ a2 w2 hB2 h2.1 h2.2⟩) (op_of_list ho2 h.2)
  | .three i p j q k r, listed, a, w, hB, hC, h => by
    simp only [planB, Bool.and_eq_true, beq_iff_eq] at hB
    obtain ⟨⟨⟨⟨⟨⟨⟨⟨hr, hi⟩, hj⟩, hk⟩, hn⟩, hn2⟩, hB1⟩, hB2⟩, hB3⟩ := hB
    obtain ⟨o1, ho1⟩ := Option.isSome_iff_exists.1 hi
    obtain ⟨o2, ho2⟩ := Option.isSome_iff_exists.1 hj
    obtain ⟨o3, ho3⟩ := Option.isSome_iff_exists.1 hk
    refine wpAnyH_all hr (by simp) fun t ht => ?_
    simp only [List.mem_cons, List.not_mem_nil, or_false] at ht
    rcases ht with rfl | rfl | rfl
    · exact wpOp_mono (fun a2 w2 h2 => ⟨h2.1, plan_any hs hQ p _ a2 w2 hB1 h2.1 h2.2⟩) (op_of_list ho1 h.1)
    · exact wpOp_mono (fun a2 w2 h2 => ⟨h2.1, by rw [hn]; exact plan_any hs hQ q _ a2 w2 hB2 h2.1 h2.2⟩) (op_of_list ho2 h.2.1)
    · exact wpOp_mono (fun a2 w2 h2 => ⟨h2.1, by rw [hn2]; exact plan_any hs hQ r _ a2 w2 hB3 h2.1 h2.2⟩) (op_of_list ho3 h.2.2)
end
def planF (ops : Array Oper) (n : Nat) : Plan → Nat → Bool
  | .stop, m => (List.range n).all fun j => !isReady ops n m j
  | .read l p, m => match quietF ops n l m with
    | none => false
    | some y => planF ops n p y
  | .one i p, m => Nat.blt i n && (List.range n).all (fun t => isReady ops n m t == (t == i)) && (ops[i]?).isSome && planF ops n p (m ||| 2 ^ i)
  | .two i p j q, m => Nat.blt i j && Nat.blt j n && (List.range n).all (fun t => isReady ops n m t == (t == i || t == j)) && (ops[i]?).isSome && (ops[j]?).isSome && planN p == planN q && planF ops n p (m ||| 2 ^ i) && planF ops n q (m ||| 2 ^ j)
  | .three i p j q k r, m => Nat.blt i j && Nat.blt j k && Nat.blt k n && (List.range n).all (fun t => isReady ops n m t == (t == i || t == j || t == k)) && (ops[i]?).isSome && (ops[j]?).isSome && (ops[k]?).isSome && planN p == planN q && planN p == planN r && planF ops n p (m ||| 2 ^ i) && planF ops n q (m ||| 2 ^ j) && planF ops n r (m ||| 2 ^ k)
theorem filter_two {n i j : Nat} {p : Nat → Bool} (hij : i < j) (hj : j < n) (h : ∀ t, t < n → p t = (t == i || t == j)) : (List.range n).filter p = [i, j] := by
  rw [List.filter_congr (q := fun t => t == i || t == j) (fun t ht => h t (List.mem_range.1 ht))]
  clear h
  induction n with
  | zero => omega
  | succ n ih =>
    rw [List.range_succ, List.filter_append]
    by_cases e : j = n
    · subst e
      have : (List.range j).filter (fun t => t == i || t == j) = [i] := by
        rw [List.filter_congr (q := fun t => t == i) (fun t ht => by have := List.mem_range.1 ht; rw [show (t == j) = false by simp; omega, Bool.or_false])]
        exact filter_one hij fun t _ => rfl
      rw [this]
      simp
    · rw [ih (by omega)]
      have h1 : (n == i || n == j) = false := by simp; omega
      simp [h1]
theorem filter_three {n i j k : Nat} {p : Nat → Bool} (hij : i < j) (hjk : j < k) (hk : k < n) (h : ∀ t, t < n → p t = (t == i || t == j || t == k)) : (List.range n).filter p = [i, j, k] := by
  rw [List.filter_congr (q := fun t => t == i || t == j || t == k) (fun t ht => h t (List.mem_range.1 ht))]
  clear h
  induction n with
  | zero => omega
  | succ n ih =>
    rw [List.range_succ, List.filter_append]
    by_cases e : k = n
    · subst e
      have : (List.range k).filter (fun t => t == i || t == j || t == k) = [i, j] := by
        rw [List.filter_congr (q := fun t => t == i || t == j) (fun t ht => by have := List.mem_range.1 ht; rw [show (t == k) = false by simp; omega, Bool.or_false])]
        exact filter_two hij hjk fun t _ => rfl
      rw [this]
      simp
    · rw [ih (by omega)]
      have h1 : (n == i || n == j || n == k) = false := by simp; omega
      simp [h1]
theorem planF_B (ops : Array Oper) : ∀ (p : Plan) (m : Nat), planF ops ops.size p m = true → planB ops p (bits ops.size m) = true
  | .stop, m, h => by
    simp only [planF, List.all_eq_true, Bool.not_eq_true'] at h
    simp only [planB, List.isEmpty_iff]
    rw [ready_bits, List.filter_eq_nil_iff]
    intro j hj
    rw [h j hj]
    simp
  | .read l p, m, h => by
    simp only [planF] at h
    cases hq : quietF ops ops.size l m with
    | none => rw [hq] at h; simp at h
    | some y =>
      rw [hq] at h
      simp only [planB, quietF_B ops l m y hq]
      exact planF_B ops p y h
  | .one i p, m, h => by
    simp only [planF, Bool.and_eq_true, Nat.blt_eq, List.all_eq_true, beq_iff_eq] at h
    obtain ⟨⟨⟨hi, ha⟩, hs⟩, hm⟩ := h
    simp only [planB, Bool.and_eq_true, beq_iff_eq]
    refine ⟨⟨?_, hs⟩, by rw [bits_set]; exact planF_B ops p _ hm⟩
    rw [ready_bits]
    exact filter_one hi fun t ht => ha t (List.mem_range.2 ht)
  | .two i p j q, m, h => by
    simp only [planF, Bool.and_eq_true, Nat.blt_eq, List.all_eq_true, beq_iff_eq] at h
    obtain ⟨⟨⟨⟨⟨⟨⟨hij, hj⟩, ha⟩, h1⟩, h2⟩, hn⟩, hp⟩, hq⟩ := h
    simp only [planB, Bool.and_eq_true, beq_iff_eq]
    refine ⟨⟨⟨⟨⟨?_, h1⟩, h2⟩, hn⟩, by rw [bits_set]; exact planF_B ops p _ hp⟩, by rw [bits_set]; exact planF_B ops q _ hq⟩
    rw [ready_bits]
    exact filter_two hij hj fun t ht => ha t (List.mem_range.2 ht)
  | .three i p j q k r, m, h => by
    simp only [planF, Bool.and_eq_true, Nat.blt_eq, List.all_eq_true, beq_iff_eq] at h
    obtain ⟨⟨⟨⟨⟨⟨⟨⟨⟨⟨⟨hij, hjk⟩, hk⟩, ha⟩, h1⟩, h2⟩, h3⟩, hn⟩, hn2⟩, hp⟩, hq⟩, hr⟩ := h
    simp only [planB, Bool.and_eq_true, beq_iff_eq]
    refine ⟨⟨⟨⟨⟨⟨⟨⟨?_, h1⟩, h2⟩, h3⟩, hn⟩, hn2⟩, by rw [bits_set]; exact planF_B ops p _ hp⟩, by rw [bits_set]; exact planF_B ops q _ hq⟩, by rw [bits_set]; exact planF_B ops r _ hr⟩
    rw [ready_bits]
    exact filter_three hij hjk hk fun t ht => ha t (List.mem_range.2 ht)
theorem wpPlan_read {P : Program} {ops : Array Oper} {C : World → Prop} {Q : Exit → Act → World → Prop} {l : List Nat} {p : Plan} {a : Act} {w : World} :
    wpPlan P ops C Q (.read l p) a w = wpQuiet P ops C (fun a' => wpPlan P ops C Q p a' w) (pickOps ops.toList l) a := rfl
theorem wpPlan_one {P : Program} {ops : Array Oper} {C : World → Prop} {Q : Exit → Act → World → Prop} {i : Nat} {p : Plan} {a : Act} {w : World} :
    wpPlan P ops C Q (.one i p) a w = wpList P ops (soloQ fun a' w' => C w' ∧ wpPlan P ops C Q p a' w') (pickOps ops.toList [i]) a w := rfl
theorem wpPlan_two {P : Program} {ops : Array Oper} {C : World → Prop} {Q : Exit → Act → World → Prop} {i j : Nat} {p q : Plan} {a : Act} {w : World} :
    wpPlan P ops C Q (.two i p j q) a w = (wpList P ops (soloQ fun a' w' => C w' ∧ wpPlan P ops C Q p a' w') (pickOps ops.toList [i]) a w ∧ wpList P ops (soloQ fun a' w' => C w' ∧ wpPlan P ops C Q q a' w') (pickOps ops.toList [j]) a w) := rfl
theorem wpPlan_three {P : Program} {ops : Array Oper} {C : World → Prop} {Q : Exit → Act → World → Prop} {i j k : Nat} {p q r : Plan} {a : Act} {w : World} :
    wpPlan P ops C Q (.three i p j q k r) a w = (wpList P ops (soloQ fun a' w' => C w' ∧ wpPlan P ops C Q p a' w') (pickOps ops.toList [i]) a w ∧ wpList P ops (soloQ fun a' w' => C w' ∧ wpPlan P ops C Q q a' w') (pickOps ops.toList [j]) a w ∧ wpList P ops (soloQ fun a' w' => C w' ∧ wpPlan P ops C Q r a' w') (pickOps ops.toList [k]) a w) := rfl
theorem wpPlan_stop {P : Program} {ops : Array Oper} {C : World → Prop} {Q : Exit → Act → World → Prop} {a : Act} {w : World} (h : Q .normal a w) : wpPlan P ops C Q .stop a w := h
theorem soloP {W : World} {P : Program} {ops : Array Oper} {Q : Exit → Act → World → Prop} {p : Plan} {a : Act} {w : World} (hk : Kept W w) (h : wpPlan P ops (fun w' => ∃ g : KExt W, w' = g.w) Q p a w) :
    soloQ (fun a' w' => (∃ g : KExt W, w' = g.w) ∧ wpPlan P ops (fun w' => ∃ g : KExt W, w' = g.w) Q p a' w') .normal a w := ⟨⟨⟨w, hk⟩, rfl⟩, h⟩
theorem region_plan {P : Program} (W : World) {id : Nat} {Q : Exit → Act → World → Prop} {a : Act} {w : World} {l : List Oper} (n : Nat) (p : Plan) (hm : P.follows .mixedOrders = true) (hs : Region.noSelect l.toArray = true) (hl : l.length = n) (hn : planN p = n)
    (hB : planF l.toArray n p 0 = true) (hQ : ∀ c d v a w, Q (.panic c) (Act.put a d v) w → Q (.panic c) a w) (h0 : Kept W w)
    (h : ∀ wd : World, Kept w wd → wpPlan P l.toArray (fun w' => ∃ g : KExt W, w' = g.w) Q p a wd) : (Code.region id l.toArray true).wp P Q a w := by
  subst hl
  refine wp_region_held (S := fun w' => ∃ g : KExt W, w' = g.w) hm ?_
  have hk : Kept w { w with drawn := w.drawn + 1 } := (Kept.refl w).drew
  have hB2 := planF_B l.toArray p 0 (by rw [List.size_toArray]; exact hB)
  rw [List.size_toArray, ← bits_none] at hB2
  have := plan_any (Q := Q) (C := fun w' => ∃ g : KExt W, w' = g.w) hs hQ p (Array.replicate l.length false) a { w with drawn := w.drawn + 1 } hB2 ⟨⟨_, h0.trans hk⟩, rfl⟩ (h _ hk)
  rw [hn] at this
  rw [List.size_toArray]
  exact this
end Go.Proofs.YtofnpifooaijcaaGreat
namespace Go.Proofs.YtofnpifooaijcaaGreat
end Go.Proofs.YtofnpifooaijcaaGreat
namespace Go.Proofs.YtofnpifooaijcaaGreat
open Go.RowKit
end Go.Proofs.YtofnpifooaijcaaGreat
