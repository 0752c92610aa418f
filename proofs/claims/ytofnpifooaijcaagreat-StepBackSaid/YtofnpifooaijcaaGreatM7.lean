/-
  What is proved: Long and Int of layer 13's laws, called with any table that a machine can hold, and any number, return what those say; the world has new blocks at most.
  Take of package dot and of the document's layer 5, called with any text, return what P5.4 says; the world has new blocks at most.
  plain facts on dots as bytes (P5.3, P5.4): what is put is taken, whatever follows; what is taken is put as these bytes; no program is spoken of here.
  Text of package dot and of the document's layer 5, called with any dot, returns what P5.8 says; the world has new blocks at most.
  plain facts on what events left (P7.1 to P7.6): what is right, as bytes, as it is told; what is right is put and taken, whatever follows; what is taken is right, and put as these bytes; no program is spoken of here.
  plain facts on schemas (P11.1 to P11.10): what is right, as bytes, as it is told; fields put into their places; no path is two fields' of one that is right; what is right is put and taken, whatever follows; fields in the other order make it again; no program is spoken of here.
  plain facts on fields that are sorted by their paths and stay as they came where these are the same (P11.3): which row that is, that there is just one, and what exchanges, and rows put together, leave of it; no program is spoken of here.
  plain facts on steps (P14.1 to P14.4, P14.8): how patterns are as lists of segments, how a step's fields are moved; a row that has a right schema's fields, in any order, is sorted to it; no program is spoken of here.
-/
import Derived.Test.YtofnpifooaijcaaGreatM6
import Derived.Test.YtofnpifooaijcaaGreatM3
import Derived.Test.YtofnpifooaijcaaGreatM4
import Derived.Test.YtofnpifooaijcaaGreatM5
import Derived.Sort.LotA
namespace Go.Proofs.YtofnpifooaijcaaGreat
open Go.RowKit
set_option linter.unusedVariables false
structure HoldT (T : Tb) : Prop where
  L : ∀ p ∈ T.L, p.f.t.size ≤ 140737488355328 ∧ p.t.t.size ≤ 140737488355328
  d : T.d.t.size ≤ 140737488355328
  b : T.b.t.size ≤ 140737488355328
structure ShortT (T : Tb) : Prop where
  L : ∀ p ∈ T.L, p.f.t.size + p.t.t.size ≤ 600
  few : T.L.length ≤ 20
  db : T.d.t.size + T.b.t.size ≤ 600
set_option maxRecDepth 100000 in
set_option maxHeartbeats 8000000 in
theorem hlong_any (A : Option Addr) (n c : Nat) (T : Tb) (w : World) (h : Pal w A n c T.L) (hz : HoldT T) (r : Bool) (hr : r = true ↔ ¬ ShortT T) :
    Calls Tryz.prog 25 #[.agg #[.slice A n c, .bool T.keep, .int .i64 T.d.k, .int .i64 T.d.n, .string T.d.t, .int .i64 T.b.k, .int .i64 T.b.n, .string T.b.t, .bool T.tu]] w fun e w' => e = .returned (.bool r) ∧ Kept w w' := by
  have hk := (Kept.refl w).alloc #[.slice A n c, .bool T.keep, .int .i64 T.d.k, .int .i64 T.d.n, .string T.d.t, .int .i64 T.b.k, .int .i64 T.b.n, .string T.b.t, .bool T.tu] 31
  have hcap := h.cap.1; have hcap2 := h.cap.2
  have HNL := Lib.hid h.1; have HSZ := Lib.hid hz; have HR := Lib.hid hr
  have HT := Lib.hid (TabB.new w A n c T 31)
  have HH := Lib.hid (h.kept hk)
  obtain ⟨U, hU⟩ : ∃ U, w.alloc (.cells #[.slice A n c, .bool T.keep, .int .i64 T.d.k, .int .i64 T.d.n, .string T.d.t, .int .i64 T.b.k, .int .i64 T.b.n, .string T.b.t, .bool T.tu] 31) = U := ⟨_, rfl⟩
  rw [hU] at hk HT HH
  have HK := Lib.hid hk; have HUU := Lib.hid hU
  have t0 := HT.out.c0
  clear h hz hr hk hU
  go_enter Tryz.func25, Tryz.ntmps25
  go_wp2_with fail
  rw [HUU.out]
  go_wp2_with fail
  clear t0
  go_loopw [8] (fun i wr => ∃ t : Nat, t ≤ n ∧ i = .int .i64 t ∧ Kept U wr ∧ ∀ p ∈ T.L.take t, p.f.t.size + p.t.t.size ≤ 600) (fun i _ => n - (intOf i).toNat)
  case atStart => exact ⟨0, Nat.zero_le _, rfl, Kept.refl _, fun p hp => by simp at hp⟩
  case round =>
    obtain ⟨t, ht, rfl, hkr, hall⟩ := hrel
    have HKR := Lib.hid hkr; have HA := Lib.hid hall
    clear hkr hall
    by_cases hlt : t < n
    · obtain ⟨g, o, x, rfl, hx, EX⟩ := (HH.out.kept HKR.out).get hlt
      have x0 := EX.c0; have x1 := EX.c1; have x2 := EX.c2; have x3 := EX.c3; have x4 := EX.c4; have x5 := EX.c5
      have HXX := Lib.hid hx
      have hka := (Kept.refl wr).alloc #[.int .i64 x.f.k, .int .i64 x.f.n, .string x.f.t, .int .i64 x.t.k, .int .i64 x.t.n, .string x.t.t] 99
      have hsx := HSZ.out.L x (List.mem_of_getElem? hx)
      have hs1 := hsx.1; have hs2 := hsx.2
      have HKA := Lib.hid (HKR.out.trans hka)
      obtain ⟨m, hm⟩ : ∃ m, x.f.t.size + x.t.t.size = m := ⟨_, rfl⟩
      have hwr : IntKind.i64.wrap ((x.f.t.size : Int) + (x.t.t.size : Int)) = (m : Int) := by rw [IntWalk.i64_in _ (by omega)]; omega
      have HM := Lib.hid hm
      clear EX hx hka hsx hm hs1 hs2
      by_cases h1 : 600 < m
      · have f1 : decide ((600 : Int) < (m : Int)) = true := decide_eq_true (by omega)
        have f2 : decide (600 < m) = true := decide_eq_true h1
        have HF := Lib.hid (show true = r from (HR.out.2 fun hs => by have := hs.L x (List.mem_of_getElem? HXX.out); have := HM.out; omega).symm)
        clear h1
        go_wp2_with fail
        go_ret
        exact ⟨ret_bool HF.out, HK.out.trans HKA.out⟩
      · have f1 : decide ((600 : Int) < (m : Int)) = false := decide_eq_false (by omega)
        have f2 : decide (600 < m) = false := decide_eq_false h1
        have HN := Lib.hid (show ∀ p ∈ T.L.take (t + 1), p.f.t.size + p.t.t.size ≤ 600 from fun p hp => by
          rw [List.take_add_one, HXX.out, Option.toList_some, List.mem_append, List.mem_singleton] at hp
          rcases hp with hp | rfl
          · exact HA.out p hp
          · have := HM.out; omega)
        clear h1
        go_wp2_with fail
        go_roundw
        case rel => exact ⟨t + 1, hlt, by go_num, HKA.out, HN.out⟩
        case measure => simp [intOf]; omega
    · obtain rfl : t = n := by omega
      have HALL := Lib.hid (show ∀ p ∈ T.L, p.f.t.size + p.t.t.size ≤ 600 from fun p hp => HA.out p (by rw [List.take_of_length_le (by rw [← HNL.out]; exact Nat.le_refl _)]; exact hp))
      have hT2 := HT.out.kept HKR.out
      have t0 := hT2.c0; have t4 := hT2.c4; have t7 := hT2.c7
      have hd := HSZ.out.d; have hb := HSZ.out.b
      obtain ⟨m, hm⟩ : ∃ m, T.d.t.size + T.b.t.size = m := ⟨_, rfl⟩
      have hwr : IntKind.i64.wrap ((T.d.t.size : Int) + (T.b.t.size : Int)) = (m : Int) := by rw [IntWalk.i64_in _ (by omega)]; omega
      have HM := Lib.hid hm
      clear hT2 hm hd hb
      by_cases h1 : 20 < t
      · have f1 : decide ((20 : Int) < (t : Int)) = true := decide_eq_true (by omega)
        have f2 : decide (20 < t) = true := decide_eq_true h1
        have HF := Lib.hid (show true = r from (HR.out.2 fun hs => by have := hs.few; have := HNL.out; omega).symm)
        clear h1
        go_wp2_with fail
        go_ret
        exact ⟨ret_bool HF.out, HK.out.trans HKR.out⟩
      · have f1 : decide ((20 : Int) < (t : Int)) = false := decide_eq_false (by omega)
        have f2 : decide (20 < t) = false := decide_eq_false h1
        by_cases h2 : 600 < m
        · have f3 : decide ((600 : Int) < (m : Int)) = true := decide_eq_true (by omega)
          have f4 : decide (600 < m) = true := decide_eq_true h2
          have HF := Lib.hid (show true = r from (HR.out.2 fun hs => by have := hs.db; have := HM.out; omega).symm)
          clear h1 h2
          go_wp2_with fail
          go_ret
          exact ⟨ret_bool HF.out, HK.out.trans HKR.out⟩
        · have f3 : decide ((600 : Int) < (m : Int)) = false := decide_eq_false (by omega)
          have f4 : decide (600 < m) = false := decide_eq_false h2
          have HF := Lib.hid (show false = r by
            rw [eq_comm, ← Bool.not_eq_true, HR.out, Classical.not_not]
            exact ⟨HALL.out, by have := HNL.out; omega, by have := HM.out; omega⟩)
          clear h1 h2
          go_wp2_with fail
          go_ret
          exact ⟨ret_bool HF.out, HK.out.trans HKR.out⟩
def tdL (s : ByteArray) : (Int × Int) × ByteArray × Nat :=
  if tkE s ≠ 0 then ((0, 0), ⟨#[]⟩, tkE s)
  else if tkE (tkR s) ≠ 0 then ((0, 0), ⟨#[]⟩, tkE (tkR s))
  else if rightD (tiN s, tiN (tkR s)) = true ∨ (tiN s = 0 ∧ tiN (tkR s) = 0) then ((tiN s, tiN (tkR s)), tkR (tkR s), 0)
  else ((0, 0), ⟨#[]⟩, 3)
def tdR (s : ByteArray) : ByteArray := (tdL s).2.1
def r1 (s : ByteArray) : ByteArray := tdR s
def r2 (s : ByteArray) : ByteArray := ttR (r1 s) 102
def r3 (s : ByteArray) : ByteArray := tkR (r2 s)
def r4 (s : ByteArray) : ByteArray := tvR (r3 s)
def r5 (s : ByteArray) : ByteArray := tdR (r4 s)
theorem putV_enc (b : ByteArray) (k n : Int) (t : ByteArray) : putV b k n t = b ++ putV ⟨#[]⟩ k n t := by
  unfold putV
  repeat (first | rfl | split)
  all_goals (simp only [ba_nil, ba_assoc])
structure Fd where
  p : ByteArray
  k : Int
  t : Int
  vk : Int
  vn : Int
  vt : ByteArray
def Fd.none : Fd := ⟨⟨#[]⟩, 0, 0, 0, 0, ⟨#[]⟩⟩
def zeroF (x : Fd) : Bool := decide (x.vk = 0 ∧ x.vn = 0 ∧ x.vt.size = 0)
def kindF (x : Fd) : Bool := (decide (x.k = 1) && (rightB x.vk x.vn x.vt && decide (x.vk = x.t))) || ((decide (x.k = 2 ∧ 1 ≤ x.t ∧ x.t ≤ 3) || decide (x.k = 3 ∧ x.t = 1)) && zeroF x)
def rightF (x : Fd) : Bool := L4.patS x.p && kindF x
theorem rightF_of {x : Fd} : rightF x = true ↔ L4.patS x.p = true ∧ ((x.k = 1 ∧ rightB x.vk x.vn x.vt = true ∧ x.vk = x.t) ∨ ((x.k = 2 ∧ 1 ≤ x.t ∧ x.t ≤ 3 ∨ x.k = 3 ∧ x.t = 1) ∧ x.vk = 0 ∧ x.vn = 0 ∧ x.vt = ⟨#[]⟩)) := by
  have hz : zeroF x = true ↔ x.vk = 0 ∧ x.vn = 0 ∧ x.vt = ⟨#[]⟩ := by
    unfold zeroF
    rw [decide_eq_true_iff]
    exact and_congr Iff.rfl (and_congr Iff.rfl ⟨empty_of, fun h => by rw [h]; rfl⟩)
  unfold rightF kindF
  rw [Bool.and_eq_true, Bool.or_eq_true, Bool.and_eq_true, Bool.and_eq_true, Bool.and_eq_true, Bool.or_eq_true, hz]
  simp only [decide_eq_true_iff]
theorem patAll_len : ∀ (L : List (List UInt8)) (k : Nat), L4.patAll k L = true → ∀ s ∈ L, s.length ≤ 16
  | [], _, _, s, hs => by cases hs
  | x :: L, k, h, s, hs => by
    unfold L4.patAll at h
    rw [Bool.and_eq_true] at h
    rcases List.mem_cons.1 hs with e | e
    · subst e
      have h1 := h.1
      unfold L4.patAt at h1
      rw [Bool.or_eq_true] at h1
      rcases h1 with h1 | h1
      · exact (L4.segL_len _ h1).1
      · simp only [Bool.and_eq_true, beq_iff_eq] at h1
        rw [h1.2]; decide
    · exact patAll_len L (k + 1) h.2 s e
theorem patS_size {p : ByteArray} (h : L4.patS p = true) : p.size ≤ 102 := by
  unfold L4.patS L4.patL at h
  rw [Bool.and_eq_true, decide_eq_true_iff] at h
  have h2 := L4.joi_len (L4.spl p.data.toList) 16 (patAll_len _ 0 h.1)
  rw [L4.joi_spl, ← ba_size] at h2
  have := Nat.mul_le_mul_right 17 h.2
  omega
def LtP (a b : ByteArray) : Prop := a.data.toList < b.data.toList
instance (a b : ByteArray) : Decidable (LtP a b) := inferInstanceAs (Decidable (a.data.toList < b.data.toList))
theorem LtP.irrefl (a : ByteArray) : ¬ LtP a a := List.lt_irrefl _
theorem LtP.trans {a b c : ByteArray} (h : LtP a b) (k : LtP b c) : LtP a c := List.lt_trans h k
theorem LtP.asymm {a b : ByteArray} (h : LtP a b) : ¬ LtP b a := fun k => LtP.irrefl _ (h.trans k)
theorem LtP.tri (a b : ByteArray) : LtP a b ∨ a = b ∨ LtP b a := by
  by_cases h : LtP a b
  · exact .inl h
  · by_cases k : LtP b a
    · exact .inr (.inr k)
    · exact .inr (.inl (ba_ext (List.le_antisymm (List.not_lt.1 k) (List.not_lt.1 h))))
theorem LtP.not {a b : ByteArray} : ¬ LtP a b ↔ b = a ∨ LtP b a := by
  constructor
  · intro h
    rcases LtP.tri a b with k | k | k
    · exact absurd k h
    · exact .inl k.symm
    · exact .inr k
  · rintro (h | h)
    · rw [h]; exact LtP.irrefl _
    · exact h.asymm
structure ScOk (L : List Fd) : Prop where
  few : L.length ≤ 24
  ent : ∀ x ∈ L, rightF x = true
  rise : L.Pairwise fun x y => LtP x.p y.p
  apart : L.Pairwise fun x y => L4.apS y.p x.p = true
def findF (L : List Fd) (p : ByteArray) : Option Fd := L.find? fun x => L4.matS p x.p
def insF (L : List Fd) (x : Fd) : List Fd := L.filter (fun y => !decide (LtP x.p y.p)) ++ x :: L.filter (fun y => decide (LtP x.p y.p))
def ofF (L : List Fd) : List Fd := L.foldl insF []
def Flat (L : List Fd) : Prop := L.Pairwise fun x y => ¬ LtP y.p x.p
theorem insF_mem {L : List Fd} {x y : Fd} : y ∈ insF L x ↔ y = x ∨ y ∈ L := by
  unfold insF
  rw [List.mem_append, List.mem_cons, List.mem_filter, List.mem_filter]
  by_cases h : LtP x.p y.p <;> simp [h, or_comm]
theorem insF_flat {L : List Fd} (h : Flat L) (x : Fd) : Flat (insF L x) := by
  unfold insF Flat
  rw [List.pairwise_append, List.pairwise_cons]
  refine ⟨h.filter _, ⟨fun y hy => ?_, h.filter _⟩, fun y hy z hz => ?_⟩
  · exact LtP.asymm (by simpa using (List.mem_filter.1 hy).2)
  · have h1 : ¬ LtP x.p y.p := by simpa using (List.mem_filter.1 hy).2
    rcases List.mem_cons.1 hz with e | e
    · rw [e]; exact h1
    · have h2 : LtP x.p z.p := by simpa using (List.mem_filter.1 e).2
      intro h3
      exact h1 (h2.trans h3)
theorem insF_len (L : List Fd) (x : Fd) : (insF L x).length = L.length + 1 := by
  unfold insF
  have e : (L.filter fun y => !decide (LtP x.p y.p)).length + (L.filter fun y => decide (LtP x.p y.p)).length = L.length := by
    induction L with
    | nil => rfl
    | cons a L ih =>
      rw [List.filter_cons, List.filter_cons]
      by_cases h : LtP x.p a.p
      · rw [if_neg (by simp [h]), if_pos (by simp [h])]; simp only [List.length_cons]; omega
      · rw [if_pos (by simp [h]), if_neg (by simp [h])]; simp only [List.length_cons]; omega
  rw [List.length_append, List.length_cons]
  omega
theorem foldl_flat : ∀ (L M : List Fd), Flat M → Flat (L.foldl insF M) ∧ (L.foldl insF M).length = L.length + M.length ∧ ∀ y, y ∈ L.foldl insF M ↔ y ∈ L ∨ y ∈ M
  | [], M, h => ⟨h, by simp, fun y => by simp⟩
  | x :: L, M, h => by
    obtain ⟨h1, h2, h3⟩ := foldl_flat L (insF M x) (insF_flat h x)
    refine ⟨h1, ?_, fun y => ?_⟩
    · rw [List.foldl_cons, h2, insF_len]; simp only [List.length_cons]; omega
    · rw [List.foldl_cons, h3, insF_mem, List.mem_cons]
      constructor
      · rintro (a | a | a)
        · exact .inl (.inr a)
        · exact .inl (.inl a)
        · exact .inr a
      · rintro ((a | a) | a)
        · exact .inr (.inl a)
        · exact .inl a
        · exact .inr (.inr a)
theorem ofF_flat (L : List Fd) : Flat (ofF L) := (foldl_flat L [] .nil).1
theorem ofF_len (L : List Fd) : (ofF L).length = L.length := (foldl_flat L [] .nil).2.1
def putFd (b : ByteArray) (x : Fd) : ByteArray := putV (b ++ putS x.p.size ++ x.p ++ putS (x.k % 4).toNat ++ putS (x.t % 4).toNat) x.vk x.vn x.vt
def encFs (L : List Fd) : ByteArray := L.foldr (fun x b => putFd ⟨#[]⟩ x ++ b) ⟨#[]⟩
def putSc (b : ByteArray) (L : List Fd) : ByteArray := b ++ putS L.length ++ encFs L
theorem putF_enc (b : ByteArray) (x : Fd) : putFd b x = b ++ putFd ⟨#[]⟩ x := by
  unfold putFd
  rw [putV_enc (_ ++ _), putV_enc (⟨#[]⟩ ++ _ ++ _ ++ _ ++ _)]
  simp only [ba_assoc, ba_nil]
theorem putFs_enc (L : List Fd) (b : ByteArray) : L.foldl putFd b = b ++ encFs L := by
  induction L generalizing b with
  | nil => show b = b ++ ⟨#[]⟩; rw [ba_nil_r]
  | cons x L ih =>
    rw [List.foldl_cons, ih, putF_enc]
    show b ++ putFd ⟨#[]⟩ x ++ encFs L = b ++ (putFd ⟨#[]⟩ x ++ encFs L)
    rw [ba_assoc]
def f1 (s : ByteArray) : ByteArray := ttR s 102
def f2 (s : ByteArray) : ByteArray := tkR (f1 s)
def f3 (s : ByteArray) : ByteArray := tkR (f2 s)
def errF (s : ByteArray) : Nat := if ttE s 102 ≠ 0 then ttE s 102 else if tkE (f1 s) ≠ 0 then tkE (f1 s) else if tkE (f2 s) ≠ 0 then tkE (f2 s) else tvE (f3 s)
def fdK (s : ByteArray) : Fd := ⟨ttT s 102, tkN (f1 s), tkN (f2 s), tvK (f3 s), tvI (f3 s), tvT (f3 s)⟩
def tfL (s : ByteArray) : Fd × ByteArray × Nat :=
  if errF s ≠ 0 then (.none, ⟨#[]⟩, errF s) else if 3 < tkN (f1 s) ∨ 3 < tkN (f2 s) then (.none, ⟨#[]⟩, 3) else (fdK s, tvR (f3 s), 0)
def tfX (s : ByteArray) : Fd := (tfL s).1
def tfR (s : ByteArray) : ByteArray := (tfL s).2.1
def tfE (s : ByteArray) : Nat := (tfL s).2.2
theorem tf_of {s : ByteArray} {x : Fd} {r : ByteArray} {e : Nat} (h : tfL s = (x, r, e)) : tfX s = x ∧ tfR s = r ∧ tfE s = e := by
  unfold tfX tfR tfE; rw [h]; exact ⟨rfl, rfl, rfl⟩
def takeFs : Nat → List Fd → ByteArray → List Fd × ByteArray × Nat
  | 0, L, s => (L, s, 0)
  | n + 1, L, s => if tfE s ≠ 0 then ([], ⟨#[]⟩, tfE s) else takeFs n (L ++ [tfX s]) (tfR s)
theorem takeFs_err {k : Nat} {L : List Fd} {s : ByteArray} (h : tfE s ≠ 0) : takeFs (k + 1) L s = ([], ⟨#[]⟩, tfE s) := by rw [takeFs, if_pos h]
theorem takeFs_ok {k : Nat} {L : List Fd} {s : ByteArray} (h : tfE s = 0) : takeFs (k + 1) L s = takeFs k (L ++ [tfX s]) (tfR s) := by rw [takeFs, if_neg (by simp [h])]
open Classical in
noncomputable def tscL (s : ByteArray) : List Fd × ByteArray × Nat :=
  if tkE s ≠ 0 then ([], ⟨#[]⟩, tkE s) else if 24 < tkN s then ([], ⟨#[]⟩, 4)
  else if (takeFs (tkN s) [] (tkR s)).2.2 ≠ 0 then ([], ⟨#[]⟩, (takeFs (tkN s) [] (tkR s)).2.2)
  else if ScOk (takeFs (tkN s) [] (tkR s)).1 then ((takeFs (tkN s) [] (tkR s)).1, (takeFs (tkN s) [] (tkR s)).2.1, 0) else ([], ⟨#[]⟩, 3)
end Go.Proofs.YtofnpifooaijcaaGreat
namespace Go.Proofs.YtofnpifooaijcaaGreat
open Go.RowKit Go.Sort
instance : Inhabited Fd := ⟨Fd.none⟩
def ofP (p : ByteArray) (L : List Fd) : List Fd := L.filter fun x => decide (x.p = p)
def Stab (L M : List Fd) : Prop := ∀ p : ByteArray, ofP p L = ofP p M
theorem ofP_app (p : ByteArray) (L M : List Fd) : ofP p (L ++ M) = ofP p L ++ ofP p M := List.filter_append ..
theorem Stab.refl (L : List Fd) : Stab L L := fun _ => rfl
theorem Stab.symm {L M : List Fd} (h : Stab L M) : Stab M L := fun p => (h p).symm
theorem Stab.trans {L M N : List Fd} (h : Stab L M) (k : Stab M N) : Stab L N := fun p => (h p).trans (k p)
theorem Stab.app {A B C D : List Fd} (h : Stab A B) (k : Stab C D) : Stab (A ++ C) (B ++ D) := fun p => by rw [ofP_app, ofP_app, h p, k p]
theorem Stab.mid {P X Y S : List Fd} (h : Stab (P ++ X ++ S) (P ++ Y ++ S)) : Stab X Y := fun p => by
  have := h p
  rw [ofP_app, ofP_app, ofP_app, ofP_app] at this
  exact List.append_cancel_left (List.append_cancel_right this)
theorem mem_ofP {p : ByteArray} {L : List Fd} {x : Fd} : x ∈ ofP p L ↔ x ∈ L ∧ x.p = p := by
  unfold ofP
  rw [List.mem_filter, decide_eq_true_iff]
theorem Stab.mem {L M : List Fd} (h : Stab L M) (x : Fd) : x ∈ L ↔ x ∈ M := by
  have e := h x.p
  constructor
  · intro hx
    exact (mem_ofP.1 (e ▸ mem_ofP.2 ⟨hx, rfl⟩)).1
  · intro hx
    exact (mem_ofP.1 (e ▸ mem_ofP.2 ⟨hx, rfl⟩ : x ∈ ofP x.p L)).1
theorem ofP_none {p : ByteArray} {L : List Fd} (h : ∀ x ∈ L, x.p ≠ p) : ofP p L = [] := by
  unfold ofP
  rw [List.filter_eq_nil_iff]
  exact fun x hx => by rw [decide_eq_true_iff]; exact h x hx
theorem Stab.turn {X Y : List Fd} (h : ∀ x ∈ X, ∀ y ∈ Y, x.p ≠ y.p) : Stab (X ++ Y) (Y ++ X) := fun p => by
  rw [ofP_app, ofP_app]
  by_cases hx : ∃ x ∈ X, x.p = p
  · obtain ⟨x, hx, rfl⟩ := hx
    rw [ofP_none (p := x.p) (L := Y) fun y hy e => h x hx y hy e.symm]
    simp
  · rw [ofP_none (p := p) (L := X) fun x hx2 e => hx ⟨x, hx2, e⟩]
    simp
theorem flat_one : ∀ (L M : List Fd), Flat L → Flat M → Stab L M → L = M
  | [], [], _, _, _ => rfl
  | [], y :: M, _, _, h => absurd ((h.mem y).2 (by simp)) (by simp)
  | x :: L, [], _, _, h => absurd ((h.mem x).1 (by simp)) (by simp)
  | x :: L, y :: M, hL, hM, h => by
    obtain ⟨l1, l2⟩ := List.pairwise_cons.1 hL
    obtain ⟨m1, m2⟩ := List.pairwise_cons.1 hM
    have e : x.p = y.p := by
      have a : ¬ LtP y.p x.p := by
        rcases List.mem_cons.1 ((h.mem y).2 (by simp)) with e | e
        · rw [e]; exact LtP.irrefl _
        · exact l1 y e
      have b : ¬ LtP x.p y.p := by
        rcases List.mem_cons.1 ((h.mem x).1 (by simp)) with e | e
        · rw [e]; exact LtP.irrefl _
        · exact m1 x e
      rcases LtP.tri x.p y.p with c | c | c
      · exact absurd c b
      · exact c
      · exact absurd c a
    have hx := h x.p
    unfold ofP at hx
    rw [List.filter_cons_of_pos (by simp), List.filter_cons_of_pos (by simpa using e.symm)] at hx
    obtain ⟨rfl, hx2⟩ := List.cons.inj hx
    have ht : Stab L M := fun p => by
      by_cases hp : x.p = p
      · rw [← hp]; exact hx2
      · have := h p
        unfold ofP at this
        rw [List.filter_cons_of_neg (by simpa using hp), List.filter_cons_of_neg (by simpa using hp)] at this
        exact this
    rw [flat_one L M l2 m2 ht]
theorem insF_stab (L : List Fd) (x : Fd) : Stab (insF L x) (L ++ [x]) := fun p => by
  unfold insF
  rw [show x :: L.filter (fun y => decide (LtP x.p y.p)) = [x] ++ L.filter (fun y => decide (LtP x.p y.p)) from rfl, ofP_app, ofP_app, ofP_app]
  by_cases hp : x.p = p
  · have e1 : ofP p (L.filter fun y => decide (LtP x.p y.p)) = [] := ofP_none fun y hy e => by
      have := (List.mem_filter.1 hy).2
      rw [decide_eq_true_iff, e, hp] at this
      exact LtP.irrefl _ this
    have e2 : ofP p (L.filter fun y => !decide (LtP x.p y.p)) = ofP p L := by
      unfold ofP
      rw [List.filter_filter]
      refine List.filter_congr fun y _ => ?_
      by_cases hy : y.p = p
      · rw [hy, hp]; simp [LtP.irrefl]
      · simp [hy]
    rw [e1, e2, List.append_nil]
  · have e0 : ofP p [x] = [] := ofP_none fun y hy => by rw [List.mem_singleton.1 hy]; exact hp
    rw [e0, List.nil_append, List.append_nil]
    by_cases hq : LtP x.p p
    · have e1 : ofP p (L.filter fun y => decide (LtP x.p y.p)) = ofP p L := by
        unfold ofP
        rw [List.filter_filter]
        refine List.filter_congr fun y _ => ?_
        by_cases hy : y.p = p
        · rw [hy]; simp [hq]
        · simp [hy]
      have e2 : ofP p (L.filter fun y => !decide (LtP x.p y.p)) = [] := ofP_none fun y hy e => by
        have := (List.mem_filter.1 hy).2
        rw [e] at this
        simp [hq] at this
      rw [e1, e2, List.nil_append]
    · have e1 : ofP p (L.filter fun y => decide (LtP x.p y.p)) = [] := ofP_none fun y hy e => by
        have := (List.mem_filter.1 hy).2
        rw [decide_eq_true_iff, e] at this
        exact hq this
      have e2 : ofP p (L.filter fun y => !decide (LtP x.p y.p)) = ofP p L := by
        unfold ofP
        rw [List.filter_filter]
        refine List.filter_congr fun y _ => ?_
        by_cases hy : y.p = p
        · rw [hy]; simp [hq]
        · simp [hy]
      rw [e1, e2, List.append_nil]
theorem foldl_stab : ∀ (L M : List Fd), Stab (L.foldl insF M) (M ++ L)
  | [], M => by rw [List.append_nil]; exact Stab.refl _
  | x :: L, M => by
    rw [List.foldl_cons]
    refine (foldl_stab L (insF M x)).trans ?_
    rw [show M ++ x :: L = M ++ [x] ++ L by simp]
    exact (insF_stab M x).app (Stab.refl L)
theorem ofF_stab (L : List Fd) : Stab (ofF L) L := by
  have := foldl_stab L []
  rw [List.nil_append] at this
  exact this
theorem ofF_is {Z L : List Fd} (h : Flat Z) (k : Stab Z L) : Z = ofF L := flat_one _ _ h (ofF_flat L) (k.trans (ofF_stab L).symm)
theorem stab_parts {X1 X2 Y1 Y2 Z1 Z2 : List Fd} (hX : Flat (X1 ++ X2)) (hY : Flat (Y1 ++ Y2)) (h1 : ∀ x ∈ X1, ∀ y ∈ Y2, ¬ LtP y.p x.p) (h2 : ∀ x ∈ X2, ∀ y ∈ Y1, LtP y.p x.p)
    (z1 : Stab Z1 (X1 ++ Y1)) (z2 : Stab Z2 (X2 ++ Y2)) (f1 : Flat Z1) (f2 : Flat Z2) : Flat (Z1 ++ Z2) ∧ Stab (Z1 ++ Z2) (X1 ++ X2 ++ (Y1 ++ Y2)) := by
  constructor
  · unfold Flat
    rw [List.pairwise_append]
    refine ⟨f1, f2, fun a ha b hb => ?_⟩
    have ha2 := List.mem_append.1 ((z1.mem a).1 ha)
    have hb2 := List.mem_append.1 ((z2.mem b).1 hb)
    rcases ha2 with ha2 | ha2 <;> rcases hb2 with hb2 | hb2
    · exact (List.pairwise_append.1 hX).2.2 a ha2 b hb2
    · exact h1 a ha2 b hb2
    · exact (h2 b hb2 a ha2).asymm
    · exact (List.pairwise_append.1 hY).2.2 a ha2 b hb2
  · refine (z1.app z2).trans ?_
    have := Stab.turn (X := Y1) (Y := X2) fun y hy x hx e => by
      have := h2 x hx y hy
      rw [e] at this
      exact LtP.irrefl _ this
    have := (Stab.refl X1).app (this.app (Stab.refl Y2))
    simpa [List.append_assoc] using this
theorem arr_get (A : List Fd) (x : Fd) (B : List Fd) {i : Nat} (h : i = A.length) : (A ++ x :: B).toArray[i]! = x := by
  subst h
  rw [getElem!_pos _ _ (by simp)]
  simp
theorem arr_at {L : List Fd} {i : Nat} {x : Fd} (h : L[i]? = some x) : L.toArray[i]! = x := by
  have hl := (List.getElem?_eq_some_iff.1 h).1
  rw [getElem!_pos _ i (by simpa using hl)]
  simpa using (List.getElem?_eq_some_iff.1 h).2
theorem swp_at (A : List Fd) (x : Fd) (M : List Fd) (y : Fd) (B : List Fd) {i j : Nat} (hi : i = A.length) (hj : j = A.length + 1 + M.length) : swp (A ++ x :: (M ++ y :: B)).toArray i j = (A ++ y :: (M ++ x :: B)).toArray := by
  have e1 := arr_get A x (M ++ y :: B) hi
  have e2 : (A ++ x :: (M ++ y :: B)).toArray[j]! = y := by
    rw [show A ++ x :: (M ++ y :: B) = (A ++ x :: M) ++ y :: B by simp]
    exact arr_get (A ++ x :: M) y B (by rw [hj]; simp; omega)
  unfold swp
  rw [e1, e2]
  subst hi hj
  rw [List.setIfInBounds_toArray, List.setIfInBounds_toArray]
  congr 1
  rw [List.set_append_right _ _ (Nat.le_refl _), Nat.sub_self, List.set_cons_zero, List.set_append_right _ _ (by omega), show A.length + 1 + M.length - A.length = M.length + 1 by omega, List.set_cons_succ, List.set_append_right _ _ (Nat.le_refl _), Nat.sub_self, List.set_cons_zero]
theorem swp_sym (d : Array Fd) (i j : Nat) : swp d i j = swp d j i := by
  unfold swp
  by_cases h : i = j
  · subst h; rfl
  · rw [Array.setIfInBounds_comm _ _ h]
theorem swp_next (A : List Fd) (x y : Fd) (B : List Fd) {i : Nat} (hi : i = A.length) : swp (A ++ x :: y :: B).toArray (i + 1) i = (A ++ y :: x :: B).toArray := by
  rw [swp_sym]
  exact swp_at A x [] y B hi (by rw [hi]; simp)
theorem split_two {d : Array Fd} {i : Nat} (h : i + 1 < d.size) : ∃ A x y B, d = (A ++ x :: y :: B).toArray ∧ A.length = i ∧ d[i]! = x ∧ d[i + 1]! = y := by
  refine ⟨d.toList.take i, d[i]!, d[i + 1]!, d.toList.drop (i + 2), ?_, by simp; omega, rfl, rfl⟩
  apply Array.ext'
  show d.toList = _
  have e1 : d.toList.drop i = d[i]! :: d[i + 1]! :: d.toList.drop (i + 2) := by
    rw [List.drop_eq_getElem_cons (by simp; omega), List.drop_eq_getElem_cons (by simp; omega)]
    rw [getElem!_pos d i (by omega), getElem!_pos d (i + 1) (by omega)]
    simp
  rw [← e1, List.take_append_drop]
def ltF (x y : Fd) : Bool := decide (LtP x.p y.p)
theorem ltF_swo : SWO ltF where
  irrefl x := decide_eq_false (LtP.irrefl _)
  trans x y z h1 h2 := decide_eq_true ((of_decide_eq_true h1).trans (of_decide_eq_true h2))
  ntrans x y z h1 h2 := by
    refine decide_eq_false fun h => ?_
    rcases LtP.not.1 (of_decide_eq_false h1) with e | e
    · exact of_decide_eq_false h2 (by rw [e]; exact h)
    · exact of_decide_eq_false h2 (e.trans h)
theorem swp_stab {d : Array Fd} {j : Nat} (h : j + 1 < d.size) (hl : ltF d[j + 1]! d[j]! = true) : Stab (swp d (j + 1) j).toList d.toList := by
  obtain ⟨A, x, y, B, rfl, h1, h2, h3⟩ := split_two h
  rw [h2, h3] at hl
  rw [swp_next A x y B h1.symm]
  show Stab (A ++ y :: x :: B) (A ++ x :: y :: B)
  have := (Stab.refl A).app ((Stab.turn (X := [y]) (Y := [x]) fun a ha b hb e => by
    obtain rfl := List.mem_singleton.1 ha
    obtain rfl := List.mem_singleton.1 hb
    have := of_decide_eq_true hl
    rw [e] at this
    exact LtP.irrefl _ this).app (Stab.refl B))
  simpa using this
theorem insInner_stab (a : Nat) : ∀ (j : Nat) (d : Array Fd), j < d.size → Stab (insInner ltF a j d).toList d.toList
  | 0, d, _ => Stab.refl _
  | j + 1, d, h => by
    unfold insInner
    split
    · rename_i hc
      rw [Bool.and_eq_true] at hc
      refine (insInner_stab a j _ ?_).trans (swp_stab h hc.2)
      unfold swp
      simp; omega
    · exact Stab.refl _
theorem insInner_size (a : Nat) : ∀ (j : Nat) (d : Array Fd), (insInner ltF a j d).size = d.size
  | 0, d => rfl
  | j + 1, d => by
    unfold insInner
    split
    · rw [insInner_size a j]; unfold swp; simp
    · rfl
theorem insOuter_stab (a b : Nat) : ∀ (m i : Nat) (d : Array Fd), b - i = m → b ≤ d.size → Stab (insOuter ltF a b i d).toList d.toList
  | 0, i, d, h, _ => by
    unfold insOuter
    rw [if_neg (by omega)]
    exact Stab.refl _
  | m + 1, i, d, h, hb => by
    unfold insOuter
    rw [if_pos (by omega)]
    exact (insOuter_stab a b m (i + 1) _ (by omega) (by rw [insInner_size]; exact hb)).trans (insInner_stab a i d (by omega))
theorem ins_part (P X S : List Fd) {a b : Nat} (ha : a = P.length) (hb : b = P.length + X.length) : ∃ Z, insertionSort ltF (P ++ X ++ S).toArray a b = (P ++ Z ++ S).toArray ∧ Z.length = X.length ∧ Flat Z ∧ Stab Z X := by
  have hsz : b ≤ (P ++ X ++ S).toArray.size := by simp; omega
  obtain ⟨⟨p1, p2, _⟩, ps⟩ := insertionSort_holds ltF_swo (P ++ X ++ S).toArray a b (by omega) hsz
  have st : Stab (insertionSort ltF (P ++ X ++ S).toArray a b).toList (P ++ X ++ S) := insOuter_stab a b _ (a + 1) _ rfl hsz
  generalize insertionSort ltF (P ++ X ++ S).toArray a b = d at p1 p2 ps st
  have hl : d.toList.length = P.length + X.length + S.length := by
    have := p1; simp at this; simp; omega
  have hg : ∀ i, i < d.toList.length → d[i]! = d.toList[i]! := fun i hi => by
    rw [getElem!_pos d i (by simpa using hi), getElem!_pos d.toList i hi]; simp
  have e1 : d.toList.take a = P := by
    refine List.ext_getElem (by rw [List.length_take]; omega) fun i h1 h2 => ?_
    have h3 := p2 i (.inl (by omega))
    have h4 : (P ++ X ++ S).toArray[i]! = P[i] := arr_at (by rw [List.append_assoc, List.getElem?_append_left h2]; exact List.getElem?_eq_getElem h2)
    rw [List.length_take] at h1
    rw [h4, getElem!_pos d i (by simp at hl; omega)] at h3
    rw [List.getElem_take, ← h3]; simp
  have e2 : d.toList.drop b = S := by
    refine List.ext_getElem (by rw [List.length_drop]; omega) fun i h1 h2 => ?_
    have h3 := p2 (b + i) (.inr (by omega))
    have h4 : (P ++ X ++ S).toArray[b + i]! = S[i] := arr_at (by
      rw [List.getElem?_append_right (by simp; omega), show b + i - (P ++ X).length = i by simp; omega]; exact List.getElem?_eq_getElem h2)
    rw [List.length_drop] at h1
    rw [h4, getElem!_pos d (b + i) (by simp at hl; omega)] at h3
    rw [List.getElem_drop, ← h3]; simp
  refine ⟨(d.toList.drop a).take X.length, ?_, by rw [List.length_take, List.length_drop]; omega, ?_, ?_⟩
  · apply Array.ext'
    show d.toList = _
    have e3 : (d.toList.drop a).drop X.length = S := by rw [List.drop_drop, show a + X.length = b by omega]; exact e2
    conv => lhs; rw [← List.take_append_drop a d.toList, e1, ← List.take_append_drop X.length (d.toList.drop a), e3]
    simp
  · unfold Flat
    rw [List.pairwise_iff_getElem]
    intro i j hi hj hij
    rw [List.length_take, List.length_drop] at hi hj
    have := ps (a + i) (a + j) (by omega) (by omega) (by omega)
    rw [getElem!_pos d (a + i) (by simp at hl; omega), getElem!_pos d (a + j) (by simp at hl; omega)] at this
    have h5 := of_decide_eq_false this
    simpa using h5
  · refine Stab.mid (P := P) (S := S) ?_
    have e3 : P ++ (d.toList.drop a).take X.length ++ S = d.toList := by
      have e4 : (d.toList.drop a).drop X.length = S := by rw [List.drop_drop, show a + X.length = b by omega]; exact e2
      conv => rhs; rw [← List.take_append_drop a d.toList, e1, ← List.take_append_drop X.length (d.toList.drop a), e4]
      simp
    rw [e3]; exact st
end Go.Proofs.YtofnpifooaijcaaGreat
namespace Go.Proofs.YtofnpifooaijcaaGreat
open Go.RowKit
set_option linter.unusedVariables false
structure St where
  k : Int
  p : ByteArray
  nm : ByteArray
  f : Fd
  d : Va
  a : Int
  b : Int
  T : Tb
abbrev Sg := List UInt8
def sL (p : ByteArray) : List Sg := L4.spl p.data.toList
def paB (l : List Sg) : ByteArray := L4.ofL (L4.joi l)
theorem paB_sL (p : ByteArray) : paB (sL p) = p := by unfold paB sL; rw [L4.joi_spl]; rfl
theorem sL_ne (p : ByteArray) : sL p ≠ [] := L4.spl_ne _
theorem sL_no (p : ByteArray) : ∀ s ∈ sL p, ∀ c ∈ s, c ≠ 47 := L4.spl_no _
theorem sL_paB {l : List Sg} (h : l ≠ []) (hs : ∀ s ∈ l, ∀ c ∈ s, c ≠ 47) : sL (paB l) = l := L4.spl_joi l h hs
theorem pat_of {l : List Sg} : L4.patL l = true ↔ (∀ i s, l[i]? = some s → L4.segL s = true ∨ (i ≠ 0 ∧ s = [42])) ∧ l.length ≤ 6 := by
  unfold L4.patL
  rw [Bool.and_eq_true, decide_eq_true_iff]
  refine and_congr_left fun _ => ⟨fun h i s hs => ?_, fun h => ?_⟩
  · by_cases hp : L4.patAt i s = true
    · unfold L4.patAt at hp
      rw [Bool.or_eq_true, Bool.and_eq_true] at hp
      rcases hp with hp | ⟨h1, h2⟩
      · exact .inl hp
      · exact .inr ⟨by simpa using h1, by simpa using h2⟩
    · have := L4.patAll_no l 0 i s hs (by rw [Nat.zero_add]; simpa using hp)
      rw [h] at this; cases this
  · refine L4.patAll_yes l 0 fun i s hs => ?_
    rw [Nat.zero_add]
    unfold L4.patAt
    rw [Bool.or_eq_true, Bool.and_eq_true]
    rcases h i s hs with h | ⟨h1, rfl⟩
    · exact .inl h
    · exact .inr ⟨by simpa using h1, by simp⟩
theorem patS_of {p : ByteArray} : L4.patS p = L4.patL (sL p) := rfl
def preS (p q : ByteArray) : Prop := sL q <+: sL p
def mvL (Q Q' l : List Sg) : List Sg := if Q <+: l then Q' ++ l.drop Q.length else l
theorem mvL_in {Q Q' r : List Sg} : mvL Q Q' (Q ++ r) = Q' ++ r := by unfold mvL; rw [if_pos (List.prefix_append _ _), List.drop_left]
theorem mvL_out {Q Q' l : List Sg} (h : ¬ Q <+: l) : mvL Q Q' l = l := by unfold mvL; rw [if_neg h]
theorem mvL_pre {Q Q' l : List Sg} (h : ¬ Q <+: l → ¬ Q' <+: l) : Q' <+: mvL Q Q' l ↔ Q <+: l := by
  by_cases hq : Q <+: l
  · obtain ⟨r, rfl⟩ := hq
    rw [mvL_in]
    exact ⟨fun _ => List.prefix_append _ _, fun _ => List.prefix_append _ _⟩
  · rw [mvL_out hq]
    exact ⟨fun k => absurd k (h hq), fun k => absurd k hq⟩
theorem mvL_back {Q Q' l : List Sg} (h : ¬ Q <+: l → ¬ Q' <+: l) : mvL Q' Q (mvL Q Q' l) = l := by
  by_cases hq : Q <+: l
  · obtain ⟨r, rfl⟩ := hq
    rw [mvL_in, mvL_in]
  · rw [mvL_out hq, mvL_out (h hq)]
theorem mvL_ne {Q Q' l : List Sg} (h' : Q' ≠ []) (hl : l ≠ []) : mvL Q Q' l ≠ [] := by
  unfold mvL
  split
  · simp [h']
  · exact hl
theorem mvL_mem {Q Q' l : List Sg} {P : Sg → Prop} (h' : ∀ s ∈ Q', P s) (hl : ∀ s ∈ l, P s) : ∀ s ∈ mvL Q Q' l, P s := by
  unfold mvL
  split
  · intro s hs
    rcases List.mem_append.1 hs with hs | hs
    · exact h' s hs
    · exact hl s (List.drop_subset _ _ hs)
  · exact hl
theorem ofF_perm {s M : List Fd} (h : s.Pairwise fun x y => LtP x.p y.p) (k : M.Perm s) : ofF M = s := by
  refine (ofF_is (h.imp fun hxy => hxy.asymm) fun p => ?_).symm
  have hp : (ofP p M).Perm (ofP p s) := k.filter _
  have hw : (ofP p s).Pairwise fun x y => LtP x.p y.p := h.filter _
  have hall : ∀ x ∈ ofP p s, x.p = p := fun x hx => (mem_ofP.1 hx).2
  match hs : ofP p s, hw, hall with
  | [], _, _ => rw [hs] at hp; rw [List.Perm.eq_nil hp]
  | [x], _, _ => rw [hs] at hp; rw [List.perm_singleton.1 hp]
  | x :: y :: r, hw, hall =>
    have h1 := (List.pairwise_cons.1 hw).1 y (by simp)
    rw [hall x (by simp), hall y (by simp)] at h1
    exact absurd h1 (LtP.irrefl p)
theorem ofF_mem_perm (M : List Fd) : (ofF M).Perm M := by
  unfold ofF
  have key : ∀ (L A : List Fd), (L.foldl insF A).Perm (A ++ L) := by
    intro L
    induction L with
    | nil => intro A; simp
    | cons x L ih =>
      intro A
      rw [List.foldl_cons]
      refine (ih _).trans ?_
      have h1 : (insF A x).Perm (A ++ [x]) := by
        unfold insF
        refine (List.perm_middle (a := x)).trans ?_
        refine List.Perm.trans ?_ (List.perm_append_comm (l₁ := [x]) (l₂ := A))
        refine List.Perm.cons x ?_
        refine (List.perm_append_comm).trans ?_
        have := List.filter_append_perm (fun y => decide (LtP x.p y.p)) A
        exact this
      refine (h1.append_right L).trans ?_
      rw [List.append_assoc]
      exact List.Perm.refl _
  simpa using key M []
end Go.Proofs.YtofnpifooaijcaaGreat
