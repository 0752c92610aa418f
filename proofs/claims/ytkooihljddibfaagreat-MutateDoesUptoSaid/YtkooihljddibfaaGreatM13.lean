/-
  What is proved: the document's Take of layer 6, called with any text of bounded length, returns what P6.12 says; the world has new blocks at most.
  the document's Put of layer 6, called with any text and any set that lies in memory, whatever its numbers, returns what P6.11 says; the world has new blocks at most.
  plain facts on sets as bytes (P6.11, P6.12, P6.13): what is put is taken, whatever follows; what is taken is put as these bytes; no program is spoken of here.
  plain facts on what is known (P8.1 to P8.6, P8.10): entries that rise by their dots, one put in at its place, some taken out, what is right stays so; a state as bytes, and what is put is taken; no program is spoken of here.
  strings.Count at a text of one byte returns what its documentation says: the library's contract, laid at this program's numbers.
-/
import Derived.Test.YtkooihljddibfaaGreatM10
import Derived.Test.YtkooihljddibfaaGreatRow
import Derived.Test.YtkooihljddibfaaGreatM6
import Derived.Test.YtkooihljddibfaaGreatCComp
import Derived.Test.YtkooihljddibfaaGreatM8
import Derived.IntWalk
import Derived.Test.YtkooihljddibfaaGreatM1
import Derived.Shelf.Strings.Count
import Derived.Test.YtkooihljddibfaaGreatProg
namespace Go.Proofs.YtkooihljddibfaaGreat
open Go.RowKit

def takeVs : Nat → List Int → ByteArray → List Int × ByteArray × Nat
  | 0, V, s => (V, s, 0)
  | k + 1, V, s => if tkE s ≠ 0 then ([], ⟨#[]⟩, tkE s) else takeVs k (V ++ [tiN s]) (tkR s)
def takeDs : Nat → List (Int × Int) → ByteArray → List (Int × Int) × ByteArray × Nat
  | 0, C, s => (C, s, 0)
  | k + 1, C, s => if tdE s ≠ 0 then ([], ⟨#[]⟩, tdE s) else takeDs k (C ++ [tdX s]) (tdR s)
open Classical in
noncomputable def formC (V : List Int) (C : List (Int × Int)) (r : ByteArray) : List Int × List (Int × Int) × ByteArray × Nat :=
  if RightC V C then (V, C, r, 0) else ([], [], ⟨#[]⟩, 3)
noncomputable def cloudC (V : List Int) (s : ByteArray) : List Int × List (Int × Int) × ByteArray × Nat :=
  if tkE s ≠ 0 then ([], [], ⟨#[]⟩, tkE s) else if (tkR s).size < tkN s then ([], [], ⟨#[]⟩, 2)
  else if (takeDs (tkN s) [] (tkR s)).2.2 ≠ 0 then ([], [], ⟨#[]⟩, (takeDs (tkN s) [] (tkR s)).2.2)
  else formC V (takeDs (tkN s) [] (tkR s)).1 (takeDs (tkN s) [] (tkR s)).2.1
/-- P6.12. -/
noncomputable def tcL (s : ByteArray) : List Int × List (Int × Int) × ByteArray × Nat :=
  if tkE s ≠ 0 then ([], [], ⟨#[]⟩, tkE s) else if 64 < tkN s then ([], [], ⟨#[]⟩, 4)
  else if (takeVs (tkN s) [] (tkR s)).2.2 ≠ 0 then ([], [], ⟨#[]⟩, (takeVs (tkN s) [] (tkR s)).2.2)
  else cloudC (takeVs (tkN s) [] (tkR s)).1 (takeVs (tkN s) [] (tkR s)).2.1
theorem takeVs_err {k : Nat} {V : List Int} {s : ByteArray} (h : tkE s ≠ 0) : takeVs (k + 1) V s = ([], ⟨#[]⟩, tkE s) := by rw [takeVs, if_pos h]
theorem takeVs_ok {k : Nat} {V : List Int} {s : ByteArray} (h : tkE s = 0) : takeVs (k + 1) V s = takeVs k (V ++ [tiN s]) (tkR s) := by rw [takeVs, if_neg (by simp [h])]
theorem takeDs_err {k : Nat} {C : List (Int × Int)} {s : ByteArray} (h : tdE s ≠ 0) : takeDs (k + 1) C s = ([], ⟨#[]⟩, tdE s) := by rw [takeDs, if_pos h]
theorem takeDs_ok {k : Nat} {C : List (Int × Int)} {s : ByteArray} (h : tdE s = 0) : takeDs (k + 1) C s = takeDs k (C ++ [tdX s]) (tdR s) := by rw [takeDs, if_neg (by simp [h])]
theorem tdR_size (s : ByteArray) : (tdR s).size ≤ s.size := by
  have h1 := tkR_size s
  have h2 := tkR_size (tkR s)
  unfold tdR tdL
  split
  · exact Nat.zero_le _
  · split
    · exact Nat.zero_le _
    · split
      · show (tkR (tkR s)).size ≤ s.size; omega
      · exact Nat.zero_le _
/-- What Take leaves. -/
def TakeC (s : ByteArray) (w : World) (e : Ending) (w' : World) : Prop :=
  ∃ A n c B m k V C r z, e = .returned (.tuple #[.agg #[.slice A n c, .slice B m k], .string r, .int .i64 ((z : Nat) : Int)]) ∧ Il w' A n c V ∧ Dl w' B m k C ∧ tcL s = (V, C, r, z) ∧ Kept w w'
theorem TakeC.err {s : ByteArray} {w w5 : World} {b z : Nat} (hs : tcL s = ([], [], ⟨#[]⟩, z)) (hk : Kept w w5) (hb : w.heap.size ≤ b) :
    TakeC s w (.returned (.tuple #[.agg #[.slice none 0 0, .slice none 0 0], .string ⟨#[]⟩, .int .i64 (z : Int)])) ((w5.setCell ⟨b, 0, none⟩ (.slice none 0 0)).setCell ⟨b, 1, none⟩ (.slice none 0 0)) :=
  ⟨none, 0, 0, none, 0, 0, [], [], ⟨#[]⟩, z, rfl, Il.nil _, Dl.nil _, hs, kept_set2 hk _ _ hb⟩

theorem TakeC.ok {s : ByteArray} {w w5 U : World} {b : Nat} {v u : Value} {V : List Int} {C : List (Int × Int)} {r : ByteArray} (hs : tcL s = (V, C, r, 0)) (hk : Kept w w5) (hb : w.heap.size ≤ b) (hbU : b < U.heap.size)
    (hv : w5.ownsRow U.heap.size 3 1 v V.length (intsV V)) (hu : w5.ownsRow U.heap.size 30 2 u C.length (flatD C)) :
    TakeC s w (.returned (.tuple #[.agg #[v, u], .string r, .int .i64 0])) ((w5.setCell ⟨b, 0, none⟩ v).setCell ⟨b, 1, none⟩ u) := by
  have hne : ∀ {x : Value} {n : Nat} {xs : List Value} {e : TypeId} {sz : Nat} {wx : World}, wx.ownsRow U.heap.size e sz x n xs → x.ownBlock ≠ some b := fun hh e => by have := (hh.lt b e).1; omega
  have hv2 := ownsRow_setCell_other (ownsRow_setCell_other hv (a := ⟨b, 0, none⟩) (hne hv) v) (a := ⟨b, 1, none⟩) (hne hv) u
  have hu2 := ownsRow_setCell_other (ownsRow_setCell_other hu (a := ⟨b, 0, none⟩) (hne hu) v) (a := ⟨b, 1, none⟩) (hne hu) u
  obtain ⟨A, c, rfl, hi⟩ := Il.of_own hv2
  obtain ⟨B, k, rfl, hd⟩ := Dl.of_own hu2
  exact ⟨A, _, c, B, _, k, V, C, r, 0, rfl, hi, hd, hs, kept_set2 hk _ _ hb⟩

/-- The set that is made, in its box. -/
structure MemT (U : World) (b : Nat) (wr : World) (v : Value) (V : List Int) (u : Value) (C : List (Int × Int)) : Prop where
  iv : wr.ownsRow U.heap.size 3 1 v V.length (intsV V)
  dv : wr.ownsRow U.heap.size 30 2 u C.length (flatD C)
  box : wr.heap[b]? = some (Obj.cells #[v, u] 26 (0, 0))
  ke : KeptE b U wr
  lo : b < U.heap.size
section
variable {U wr : World} {b : Nat} {v u : Value} {V : List Int} {C : List (Int × Int)}
theorem MemT.kept {w' : World} (h : MemT U b wr v V u C) (hk : Kept wr w') : MemT U b w' v V u C :=
  ⟨own_kept h.iv hk, own_kept h.dv hk, blk_kept h.box hk, h.ke.trans hk, h.lo⟩
theorem MemT.forms (h : MemT U b wr v V u C) : ∃ A c B k, v = .slice A V.length c ∧ u = .slice B C.length k ∧ V.length ≤ c ∧ c ≤ 9223372036854775807 ∧ C.length ≤ k ∧ k ≤ 9223372036854775807 := by
  obtain ⟨A, c, rfl, hi⟩ := Il.of_own h.iv
  obtain ⟨B, k, rfl, hd⟩ := Dl.of_own h.dv
  exact ⟨A, c, B, k, rfl, rfl, hi.cap.1, hi.cap.2, hd.cap.1, hd.cap.2⟩
theorem MemT.c0 (h : MemT U b wr v V u C) : wr.cell? ⟨b, 0, none⟩ = some v := (blk_cells h.box).1
theorem MemT.c1 (h : MemT U b wr v V u C) : wr.cell? ⟨b, 1, none⟩ = some u := (blk_cells h.box).2
theorem MemT.f (h : MemT U b wr v V u C) (i : Nat) : wr.frozen? ⟨b, i, none⟩ = false := by simp [World.frozen?, h.box]
theorem set_blk {w : World} {b i : Nat} {c : Array Value} {t : TypeId} (h : w.heap[b]? = some (Obj.cells c t (0, 0))) (x : Value) : (w.setCell ⟨b, i, none⟩ x).heap[b]? = some (Obj.cells (c.setIfInBounds i x) t (0, 0)) := by
  show (w.heap.modify b _)[b]? = _
  rw [Array.getElem?_modify, if_pos rfl, h]
  rfl
theorem MemT.putV (h : MemT U b wr v V u C) (hl : V.length ≤ 1000) (x : Int) :
    ∃ A c w5, (Builtin.append_ #[23, 23] 23 #[v, .slice (some ⟨wr.heap.size, 0, none⟩) 1 1]).run Tryz.prog (wr.alloc (.cells #[.int .i64 x] 3)) = .ok (.slice A (V.length + 1) c) w5 ∧
      w5.cell? ⟨b, 0, none⟩ = some v ∧ w5.frozen? ⟨b, 0, none⟩ = false ∧ MemT U b (w5.setCell ⟨b, 0, none⟩ (.slice A (V.length + 1) c)) (.slice A (V.length + 1) c) (V ++ [x]) u C := by
  have h2 := h.kept ((Kept.refl wr).alloc #[.int .i64 x] 3)
  obtain ⟨v', w5, hr, ho, hg, _⟩ := app_ints _ _ v V.length _ h2.iv (some ⟨wr.heap.size, 0, none⟩) 1 1 [x] (il_one wr x _) (by omega) (Nat.le_trans h.ke.size (by simp))
  rw [← intsV_app] at ho
  have hbn : ∀ g, v.ownBlock = some g → g ≠ b := fun g hgb => by have := (h2.iv.lt g hgb).1; have := h.lo; omega
  have hbx : w5.heap[b]? = some (Obj.cells #[v, u] 26 (0, 0)) := by
    rw [hg.block b (lt_of_some h2.box) (fun e => hbn b e.symm rfl)]; exact h2.box
  have hd5 : w5.ownsRow U.heap.size 30 2 u C.length (flatD C) := own_blk h2.dv fun g hgb => by
    rcases own_apart h2.dv h2.iv (by decide) with e | e
    · rw [e] at hgb; cases hgb
    · exact hg.block g (h2.dv.lt g hgb).2 (fun e2 => e (hgb.trans e2))
  obtain ⟨A, c, rfl, _⟩ := Il.of_own ho
  have hne : ∀ {x : Value} {n : Nat} {xs : List Value} {e : TypeId} {sz : Nat}, w5.ownsRow U.heap.size e sz x n xs → x.ownBlock ≠ some b := fun hh e => by have := (hh.lt b e).1; have := h.lo; omega
  refine ⟨A, c, w5, hr, (blk_cells hbx).1, by simp [World.frozen?, hbx], ⟨by rw [List.length_append]; exact ownsRow_setCell_other ho (hne ho) _, ownsRow_setCell_other hd5 (hne hd5) _, by rw [set_blk hbx]; rfl, (h2.ke.grown hg fun g hgb => .inr (h2.iv.lt g hgb).1).set (.inl rfl) _, h.lo⟩⟩
theorem MemT.putD (h : MemT U b wr v V u C) (hl : C.length ≤ 1000000) (x1 x2 : Int) :
    ∃ B k w5, (Builtin.append_ #[24, 24] 24 #[u, .slice (some ⟨wr.heap.size, 0, none⟩) 1 1]).run Tryz.prog (wr.alloc (.cells #[.int .i64 x1, .int .i64 x2] 30)) = .ok (.slice B (C.length + 1) k) w5 ∧
      w5.cell? ⟨b, 1, none⟩ = some u ∧ w5.frozen? ⟨b, 1, none⟩ = false ∧ MemT U b (w5.setCell ⟨b, 1, none⟩ (.slice B (C.length + 1) k)) v V (.slice B (C.length + 1) k) (C ++ [(x1, x2)]) := by
  have h2 := h.kept ((Kept.refl wr).alloc #[.int .i64 x1, .int .i64 x2] 30)
  obtain ⟨u', w5, hr, ho, hg, _⟩ := app_dots_at _ _ u C.length _ h2.dv (some ⟨wr.heap.size, 0, none⟩) 1 1 [(x1, x2)] (dl_one wr x1 x2 _) (by omega) (Nat.le_trans h.ke.size (by simp))
  rw [← flatD_app] at ho
  have hbn : ∀ g, u.ownBlock = some g → g ≠ b := fun g hgb => by have := (h2.dv.lt g hgb).1; have := h.lo; omega
  have hbx : w5.heap[b]? = some (Obj.cells #[v, u] 26 (0, 0)) := by
    rw [hg.block b (lt_of_some h2.box) (fun e => hbn b e.symm rfl)]; exact h2.box
  have hd5 : w5.ownsRow U.heap.size 3 1 v V.length (intsV V) := own_blk h2.iv fun g hgb => by
    rcases own_apart h2.iv h2.dv (by decide) with e | e
    · rw [e] at hgb; cases hgb
    · exact hg.block g (h2.iv.lt g hgb).2 (fun e2 => e (hgb.trans e2))
  obtain ⟨B, k, rfl, _⟩ := Dl.of_own ho
  have hne : ∀ {x : Value} {n : Nat} {xs : List Value} {e : TypeId} {sz : Nat}, w5.ownsRow U.heap.size e sz x n xs → x.ownBlock ≠ some b := fun hh e => by have := (hh.lt b e).1; have := h.lo; omega
  refine ⟨B, k, w5, hr, (blk_cells hbx).2, by simp [World.frozen?, hbx], ⟨ownsRow_setCell_other hd5 (hne hd5) _, by rw [List.length_append]; exact ownsRow_setCell_other ho (hne ho) _, by rw [set_blk hbx]; rfl, (h2.ke.grown hg fun g hgb => .inr (h2.dv.lt g hgb).1).set (.inl rfl) _, h.lo⟩⟩
theorem MemT.start (w : World) : MemT (w.alloc (.cells #[.slice none 0 0, .slice none 0 0] 26)) w.heap.size (w.alloc (.cells #[.slice none 0 0, .slice none 0 0] 26)) (.slice none 0 0) [] (.slice none 0 0) [] :=
  ⟨World.ownsRow_nil _ _ _ _, World.ownsRow_nil _ _ _ _, heap_alloc_new w _, .refl _ _, by simp⟩
end

end Go.Proofs.YtkooihljddibfaaGreat

namespace Go.Proofs.YtkooihljddibfaaGreat
open Go.RowKit

def putVs (V : List Int) (b : ByteArray) : ByteArray := V.foldl (fun b n => b ++ putS (zigI n).toNat) b
def putDs (C : List (Int × Int)) (b : ByteArray) : ByteArray := C.foldl putD b
/-- P6.11. -/
def putC (b : ByteArray) (V : List Int) (C : List (Int × Int)) : ByteArray := putDs C (putVs V (b ++ putS V.length) ++ putS C.length)
theorem putVs_succ {V : List Int} {k : Nat} {x : Int} (h : V[k]? = some x) (b : ByteArray) : putVs (V.take (k + 1)) b = putVs (V.take k) b ++ putS (zigI x).toNat := by
  unfold putVs
  rw [List.take_add_one, h, Option.toList_some, List.foldl_append]
  rfl
theorem putDs_succ {C : List (Int × Int)} {k : Nat} {x : Int × Int} (h : C[k]? = some x) (b : ByteArray) : putDs (C.take (k + 1)) b = putD (putDs (C.take k) b) x := by
  unfold putDs
  rw [List.take_add_one, h, Option.toList_some, List.foldl_append]
  rfl
theorem putVs_size (V : List Int) (b : ByteArray) : (putVs V b).size ≤ b.size + 10 * V.length := by
  induction V generalizing b with
  | nil => exact Nat.le_add_right _ _
  | cons x V ih =>
    have h1 := ih (b ++ putS (zigI x).toNat)
    have h2 := putS_size (zigI x).toNat
    rw [ByteArray.size_append] at h1
    show (putVs V (b ++ putS (zigI x).toNat)).size ≤ _
    rw [List.length_cons]
    omega
theorem putD_size (b : ByteArray) (x : Int × Int) : (putD b x).size ≤ b.size + 20 := by
  have h1 := putS_size (zigI x.1).toNat
  have h2 := putS_size (zigI x.2).toNat
  unfold putD
  rw [ByteArray.size_append, ByteArray.size_append]
  omega
theorem putDs_size (C : List (Int × Int)) (b : ByteArray) : (putDs C b).size ≤ b.size + 20 * C.length := by
  induction C generalizing b with
  | nil => exact Nat.le_add_right _ _
  | cons x C ih =>
    have h1 := ih (putD b x)
    have h2 := putD_size b x
    show (putDs C (putD b x)).size ≤ _
    rw [List.length_cons]
    omega
theorem putC_size (b : ByteArray) (V : List Int) (C : List (Int × Int)) : (putC b V C).size ≤ b.size + 20 + 10 * V.length + 20 * C.length := by
  have h1 := putDs_size C (putVs V (b ++ putS V.length) ++ putS C.length)
  have h2 := putVs_size V (b ++ putS V.length)
  have h3 := putS_size V.length
  have h4 := putS_size C.length
  rw [ByteArray.size_append] at h1 h2
  unfold putC
  omega
end Go.Proofs.YtkooihljddibfaaGreat

namespace Go.Proofs.YtkooihljddibfaaGreat
open Go.RowKit

def encVe : List Int → ByteArray
  | [] => ⟨#[]⟩
  | x :: V => putS (zigI x).toNat ++ encVe V
def encCl : List (Int × Int) → ByteArray
  | [] => ⟨#[]⟩
  | x :: C => encDo x ++ encCl C
theorem putVs_enc (V : List Int) (b : ByteArray) : putVs V b = b ++ encVe V := by
  induction V generalizing b with
  | nil => exact (ba_nil_r b).symm
  | cons x V ih =>
    show putVs V (b ++ putS (zigI x).toNat) = _
    rw [ih, encVe, ba_assoc]
theorem putDs_enc (C : List (Int × Int)) (b : ByteArray) : putDs C b = b ++ encCl C := by
  induction C generalizing b with
  | nil => exact (ba_nil_r b).symm
  | cons x C ih =>
    show putDs C (putD b x) = _
    rw [ih, encCl]
    unfold putD encDo
    simp only [ba_assoc]
theorem putC_enc (V : List Int) (C : List (Int × Int)) : putC ⟨#[]⟩ V C = putS V.length ++ (encVe V ++ (putS C.length ++ encCl C)) := by
  unfold putC
  rw [putDs_enc, putVs_enc, ba_nil]
  simp only [ba_assoc]
theorem takeVs_fore (V V0 : List Int) (s : ByteArray) (h : ∀ x ∈ V, -9223372036854775808 ≤ x ∧ x ≤ 9223372036854775807) : takeVs V.length V0 (encVe V ++ s) = (V0 ++ V, s, 0) := by
  induction V generalizing V0 with
  | nil => rw [List.append_nil]; show (V0, (⟨#[]⟩ : ByteArray) ++ s, 0) = _; rw [ba_nil]
  | cons x V ih =>
    obtain ⟨p1, p2, p3⟩ := ti_fore x (encVe V ++ s) (h x (List.mem_cons_self ..)).1 (h x (List.mem_cons_self ..)).2
    rw [List.length_cons, encVe, ba_assoc, takeVs_ok p3, p1, p2, ih _ fun y hy => h y (List.mem_cons_of_mem _ hy), List.append_assoc]
    rfl
theorem takeDs_fore (C C0 : List (Int × Int)) (s : ByteArray) (h : ∀ x ∈ C, rightD x = true) : takeDs C.length C0 (encCl C ++ s) = (C0 ++ C, s, 0) := by
  induction C generalizing C0 with
  | nil => rw [List.append_nil]; show (C0, (⟨#[]⟩ : ByteArray) ++ s, 0) = _; rw [ba_nil]
  | cons x C ih =>
    obtain ⟨p1, p2, p3⟩ := td_fore x (encCl C ++ s) (h x (List.mem_cons_self ..))
    rw [List.length_cons, encCl, ba_assoc, takeDs_ok p3, p1, p2, ih _ fun y hy => h y (List.mem_cons_of_mem _ hy), List.append_assoc]
    rfl
theorem takeVs_aft : ∀ (k : Nat) (V0 : List Int) (s : ByteArray), (takeVs k V0 s).2.2 = 0 → ∃ V, (takeVs k V0 s).1 = V0 ++ V ∧ V.length = k ∧ s = encVe V ++ (takeVs k V0 s).2.1
  | 0, V0, s, _ => ⟨[], (List.append_nil _).symm, rfl, (ba_nil s).symm⟩
  | k + 1, V0, s, h => by
    by_cases he : tkE s = 0
    · rw [takeVs_ok he] at h ⊢
      obtain ⟨V, e1, e2, e3⟩ := takeVs_aft k _ _ h
      refine ⟨tiN s :: V, by rw [e1, List.append_assoc]; rfl, by rw [List.length_cons, e2], ?_⟩
      rw [encVe, ba_assoc, ← e3]
      exact (ti_aft s he).symm
    · rw [takeVs_err he] at h
      exact absurd h he
theorem takeDs_aft : ∀ (k : Nat) (C0 : List (Int × Int)) (s : ByteArray), (takeDs k C0 s).2.2 = 0 → ∃ C, (takeDs k C0 s).1 = C0 ++ C ∧ C.length = k ∧ s = encCl C ++ (takeDs k C0 s).2.1
  | 0, C0, s, _ => ⟨[], (List.append_nil _).symm, rfl, (ba_nil s).symm⟩
  | k + 1, C0, s, h => by
    by_cases he : tdE s = 0
    · rw [takeDs_ok he] at h ⊢
      obtain ⟨C, e1, e2, e3⟩ := takeDs_aft k _ _ h
      refine ⟨tdX s :: C, by rw [e1, List.append_assoc]; rfl, by rw [List.length_cons, e2], ?_⟩
      rw [encCl, ba_assoc, ← e3]
      exact (td_aft s he).symm
    · rw [takeDs_err he] at h
      exact absurd h he
theorem encCl_long (C : List (Int × Int)) : C.length ≤ (encCl C).size := by
  induction C with
  | nil => exact Nat.zero_le _
  | cons x C ih =>
    have h1 := putS_pos (zigI x.1).toNat
    rw [List.length_cons, encCl, ByteArray.size_append]
    unfold encDo
    rw [ByteArray.size_append]
    omega
/-- P6.13: what is put is taken, whatever follows. -/
theorem tc_fore {V : List Int} {C : List (Int × Int)} (h : RightC V C) (hm : C.length ≤ 1000000) (s : ByteArray) : tcL (putC ⟨#[]⟩ V C ++ s) = (V, C, s, 0) := by
  have hl := h.vec.len
  have e : putC ⟨#[]⟩ V C ++ s = putS V.length ++ (encVe V ++ (putS C.length ++ (encCl C ++ s))) := by rw [putC_enc]; simp only [ba_assoc]
  obtain ⟨p1, p2, p3⟩ := tk_fore V.length (encVe V ++ (putS C.length ++ (encCl C ++ s))) (by omega)
  obtain ⟨q1, q2, q3⟩ := tk_fore C.length (encCl C ++ s) (by omega)
  have hv := takeVs_fore V [] (putS C.length ++ (encCl C ++ s)) (fun x hx => by have := h.vec.bd x hx; omega)
  have hd := takeDs_fore C [] s h.right
  rw [List.nil_append] at hv hd
  have hlong := encCl_long C
  unfold tcL
  rw [e, p3, p1, p2, hv, if_neg (by simp), if_neg (by omega), if_neg (by simp)]
  unfold cloudC
  simp only
  rw [q3, q1, q2, hd, if_neg (by simp), if_neg (by rw [ByteArray.size_append]; omega), if_neg (by simp)]
  unfold formC
  rw [if_pos h]
/-- P6.13: what is taken is put as these bytes. -/
theorem tc_aft {s r : ByteArray} {V : List Int} {C : List (Int × Int)} (h : tcL s = (V, C, r, 0)) : putC ⟨#[]⟩ V C ++ r = s ∧ RightC V C := by
  unfold tcL at h
  split at h
  · rename_i he; simp only [Prod.mk.injEq] at h; exact absurd h.2.2.2 he
  rename_i he
  split at h
  · simp at h
  split at h
  · rename_i hv; simp only [Prod.mk.injEq] at h; exact absurd h.2.2.2 hv
  rename_i hv
  obtain ⟨V1, a1, a2, a3⟩ := takeVs_aft (tkN s) [] (tkR s) (by simpa using hv)
  unfold cloudC at h
  split at h
  · rename_i h2; simp only [Prod.mk.injEq] at h; exact absurd h.2.2.2 h2
  rename_i h2
  split at h
  · simp at h
  split at h
  · rename_i hd; simp only [Prod.mk.injEq] at h; exact absurd h.2.2.2 hd
  rename_i hd
  obtain ⟨C1, b1, b2, b3⟩ := takeDs_aft _ [] _ (by simpa using hd)
  unfold formC at h
  split at h
  · rename_i hr
    simp only [Prod.mk.injEq] at h
    obtain ⟨c1, c2, c3, _⟩ := h
    rw [c1, c2] at hr
    refine ⟨?_, hr⟩
    have eV : V = V1 := by rw [← c1, a1]; rfl
    have eC : C = C1 := by rw [← c2, b1]; rfl
    subst eV eC
    rw [putC_enc, a2, b2, ← c3]
    simp only [ba_assoc]
    rw [← b3, tk_aft _ (by simpa using h2), ← a3]
    exact tk_aft s (by simpa using he)
  · simp at h
end Go.Proofs.YtkooihljddibfaaGreat

namespace Go.Proofs.YtkooihljddibfaaGreat
open Go.RowKit

instance (a b : Int × Int) : Decidable (LtD a b) := inferInstanceAs (Decidable (a.1 < b.1 ∨ (a.1 = b.1 ∧ a.2 < b.2)))
/-- Entries rise by their dots, each once. -/
def RiseE (L : List En) : Prop := L.Pairwise fun x y => LtD x.d y.d
theorem riseE_map {L : List En} : RiseE L ↔ Rise (L.map (·.d)) := by
  unfold RiseE Rise
  rw [List.pairwise_map]
theorem riseE_nil : RiseE [] := List.Pairwise.nil
theorem rise_one : ∀ {L : List En}, RiseE L → ∀ {y z : En}, y ∈ L → z ∈ L → y.d = z.d → y = z
  | [], _, y, z, h, _, _ => by cases h
  | x :: L, hr, y, z, hy, hz, e => by
    obtain ⟨h1, h2⟩ := List.pairwise_cons.1 hr
    rcases List.mem_cons.1 hy with hy2 | hy2
    · rcases List.mem_cons.1 hz with hz2 | hz2
      · rw [hy2, hz2]
      · rw [hy2] at e
        exact absurd (h1 z hz2) (by rw [e]; exact LtD.irrefl _)
    · rcases List.mem_cons.1 hz with hz2 | hz2
      · rw [hz2] at e
        exact absurd (h1 y hy2) (by rw [e]; exact LtD.irrefl _)
      · exact rise_one h2 hy2 hz2 e
/-- P8.3: x at its place, in the place of one with its dot. -/
def withE (L : List En) (x : En) : List En := L.filter (fun y => decide (LtD y.d x.d)) ++ x :: L.filter (fun y => decide (LtD x.d y.d))
theorem withE_mem {L : List En} {x y : En} : y ∈ withE L x ↔ y = x ∨ (y ∈ L ∧ y.d ≠ x.d) := by
  unfold withE
  rw [List.mem_append, List.mem_cons, List.mem_filter, List.mem_filter, decide_eq_true_iff, decide_eq_true_iff]
  constructor
  · rintro (⟨h1, h2⟩ | h | ⟨h1, h2⟩)
    · exact .inr ⟨h1, fun e => LtD.irrefl _ (e ▸ h2)⟩
    · exact .inl h
    · exact .inr ⟨h1, fun e => LtD.irrefl _ (e ▸ h2)⟩
  · rintro (h | ⟨h1, h2⟩)
    · exact .inr (.inl h)
    · rcases LtD.tri y.d x.d with h3 | h3 | h3
      · exact .inl ⟨h1, h3⟩
      · exact absurd h3 h2
      · exact .inr (.inr ⟨h1, h3⟩)
theorem withE_rise {L : List En} (h : RiseE L) (x : En) : RiseE (withE L x) := by
  unfold RiseE withE at *
  rw [List.pairwise_append, List.pairwise_cons]
  refine ⟨h.filter _, ⟨fun y hy => ?_, h.filter _⟩, fun y hy z hz => ?_⟩
  · simpa using (List.mem_filter.1 hy).2
  · have hy2 : LtD y.d x.d := by simpa using (List.mem_filter.1 hy).2
    rcases List.mem_cons.1 hz with rfl | hz
    · exact hy2
    · have hz2 : LtD x.d z.d := by simpa using (List.mem_filter.1 hz).2
      exact hy2.trans hz2
theorem withE_len {L : List En} (x : En) : (withE L x).length ≤ L.length + 1 := by
  have key : ∀ M : List En, (M.filter (fun y => decide (LtD y.d x.d))).length + (M.filter (fun y => decide (LtD x.d y.d))).length ≤ M.length := by
    intro M
    induction M with
    | nil => simp
    | cons a M ih =>
      rw [List.filter_cons, List.filter_cons]
      by_cases h1 : LtD a.d x.d
      · rw [if_pos (by simpa using h1), if_neg (by simpa using h1.asymm)]
        simp only [List.length_cons]; omega
      · rw [if_neg (by simpa using h1)]
        split <;> simp only [List.length_cons] <;> omega
  have := key L
  unfold withE
  rw [List.length_append, List.length_cons]
  omega
/-- One put in at place k, nothing taken away. -/
theorem withE_put {L : List En} {x : En} (k : Nat) (h1 : ∀ y ∈ L.take k, LtD y.d x.d) (h2 : ∀ y ∈ L.drop k, LtD x.d y.d) : withE L x = L.take k ++ x :: L.drop k := by
  unfold withE
  have e : L = L.take k ++ L.drop k := (List.take_append_drop k L).symm
  have f1 : L.filter (fun y => decide (LtD y.d x.d)) = L.take k := by
    conv => lhs; rw [e]
    rw [List.filter_append, List.filter_eq_self.2 (fun y hy => by simpa using h1 y hy), List.filter_eq_nil_iff.2 (fun y hy => by simpa using (h2 y hy).asymm), List.append_nil]
  have f2 : L.filter (fun y => decide (LtD x.d y.d)) = L.drop k := by
    conv => lhs; rw [e]
    rw [List.filter_append, List.filter_eq_nil_iff.2 (fun y hy => by simpa using (h1 y hy).asymm), List.filter_eq_self.2 (fun y hy => by simpa using h2 y hy), List.nil_append]
  rw [f1, f2]
/-- One put in the place of the one with its dot. -/
theorem withE_set {L : List En} {x y : En} (hr : RiseE L) (k : Nat) (hk : L[k]? = some y) (hd : y.d = x.d) : withE L x = L.take k ++ x :: L.drop (k + 1) := by
  obtain ⟨hlt, he⟩ := List.getElem?_eq_some_iff.1 hk
  have e : L = L.take k ++ y :: L.drop (k + 1) := by
    conv => lhs; rw [← List.take_append_drop k L]
    rw [List.drop_eq_getElem_cons hlt, he]
  have hp := hr
  unfold RiseE at hp
  rw [e, List.pairwise_append, List.pairwise_cons] at hp
  obtain ⟨_, ⟨p2, _⟩, p3⟩ := hp
  have h1 : ∀ z ∈ L.take k, LtD z.d x.d := fun z hz => hd ▸ p3 z hz y (List.mem_cons_self ..)
  have h2 : ∀ z ∈ L.drop (k + 1), LtD x.d z.d := fun z hz => hd ▸ p2 z hz
  unfold withE
  have f1 : L.filter (fun y => decide (LtD y.d x.d)) = L.take k := by
    conv => lhs; rw [e]
    rw [List.filter_append, List.filter_eq_self.2 (fun z hz => by simpa using h1 z hz), List.filter_cons, if_neg (by rw [hd]; simpa using LtD.irrefl _), List.filter_eq_nil_iff.2 (fun z hz => by simpa using (h2 z hz).asymm), List.append_nil]
  have f2 : L.filter (fun y => decide (LtD x.d y.d)) = L.drop (k + 1) := by
    conv => lhs; rw [e]
    rw [List.filter_append, List.filter_eq_nil_iff.2 (fun z hz => by simpa using (h1 z hz).asymm), List.filter_cons, if_neg (by rw [hd]; simpa using LtD.irrefl _), List.filter_eq_self.2 (fun z hz => by simpa using h2 z hz), List.nil_append]
  rw [f1, f2]
/-- P8.4: without what these dots left. -/
def outE (L : List En) (G : List (Int × Int)) : List En := L.filter fun y => !decide (y.d ∈ G)
theorem outE_mem {L : List En} {G : List (Int × Int)} {y : En} : y ∈ outE L G ↔ y ∈ L ∧ y.d ∉ G := by
  unfold outE; rw [List.mem_filter]; simp
theorem outE_rise {L : List En} (h : RiseE L) (G : List (Int × Int)) : RiseE (outE L G) := List.Pairwise.filter _ h
theorem outE_len (L : List En) (G : List (Int × Int)) : (outE L G).length ≤ L.length := List.length_filter_le ..
/-- Whether what d left is there. -/
def hasE (L : List En) (d : Int × Int) : Bool := decide (d ∈ L.map (·.d))
theorem hasE_iff {L : List En} {d : Int × Int} : hasE L d = true ↔ ∃ y ∈ L, y.d = d := by
  unfold hasE; rw [decide_eq_true_iff, List.mem_map]
theorem hasE_out {L : List En} {G : List (Int × Int)} {d : Int × Int} (h : d ∈ G) : hasE (outE L G) d = false := by
  rw [← Bool.not_eq_true, hasE_iff]
  rintro ⟨y, hy, rfl⟩
  exact (outE_mem.1 hy).2 h
theorem hasE_stay {L : List En} {G : List (Int × Int)} {y : En} (h : y ∈ L) : hasE (outE L G) y.d = !decide (y.d ∈ G) := by
  by_cases hg : y.d ∈ G
  · rw [hasE_out hg]; simp [hg]
  · rw [hasE_iff.2 ⟨y, outE_mem.2 ⟨h, hg⟩, rfl⟩]; simp [hg]
theorem hasE_with {L : List En} {x : En} : hasE (withE L x) x.d = true := hasE_iff.2 ⟨x, withE_mem.2 (.inl rfl), rfl⟩

/-- P8.1. -/
structure StOk (L : List En) (V : List Int) (C : List (Int × Int)) : Prop where
  rise : RiseE L
  ent : ∀ x ∈ L, rightE x = true
  ctx : RightC V C
  known : ∀ x ∈ L, hasC V C x.d
theorem StOk.nil : StOk [] [] [] := ⟨riseE_nil, fun x hx => (by cases hx), ⟨vecOk_nil, fun k hk => by simp at hk, rise_nil, fun d hd => (by cases hd), fun d hd => (by cases hd)⟩, fun x hx => (by cases hx)⟩
theorem rightE_dot {x : En} (h : rightE x = true) : rightD x.d = true := (rightE_of.1 h).1
theorem StOk.put {L : List En} {V V' : List Int} {C C' : List (Int × Int)} (h : StOk L V C) {x : En} (hx : rightE x = true) (hs : SetC (fun d => hasC V C d ∨ (rightD d = true ∧ d = x.d)) V' C') : StOk (withE L x) V' C' := by
  refine ⟨withE_rise h.rise x, fun y hy => ?_, hs.right, fun y hy => (hs.has _).2 ?_⟩
  · rcases withE_mem.1 hy with rfl | ⟨h1, _⟩
    · exact hx
    · exact h.ent y h1
  · rcases withE_mem.1 hy with rfl | ⟨h1, _⟩
    · exact .inr ⟨rightE_dot hx, rfl⟩
    · exact .inl (h.known y h1)
theorem StOk.out {L : List En} {V V' : List Int} {C C' : List (Int × Int)} (h : StOk L V C) {G : List (Int × Int)} (hs : SetC (fun d => hasC V C d ∨ (rightD d = true ∧ d ∈ G)) V' C') : StOk (outE L G) V' C' :=
  ⟨outE_rise h.rise G, fun y hy => h.ent y (outE_mem.1 hy).1, hs.right, fun y hy => (hs.has _).2 (.inl (h.known y (outE_mem.1 hy).1))⟩

/-- P8.5. -/
def encEs : List En → ByteArray
  | [] => ⟨#[]⟩
  | x :: L => putE ⟨#[]⟩ x ++ encEs L
theorem encEs_app (L M : List En) : encEs (L ++ M) = encEs L ++ encEs M := by
  induction L with
  | nil => show encEs M = ⟨#[]⟩ ++ encEs M; rw [ba_nil]
  | cons x L ih => show putE ⟨#[]⟩ x ++ encEs (L ++ M) = putE ⟨#[]⟩ x ++ encEs L ++ encEs M; rw [ih, ba_assoc]
theorem encEs_take {L : List En} {k : Nat} {x : En} (h : L[k]? = some x) : encEs (L.take (k + 1)) = encEs (L.take k) ++ putE ⟨#[]⟩ x := by
  rw [List.take_add_one, h, Option.toList_some, encEs_app]
  show encEs (L.take k) ++ (putE ⟨#[]⟩ x ++ ⟨#[]⟩) = _
  exact congrArg (encEs (L.take k) ++ ·) ByteArray.append_empty
def putSt (b : ByteArray) (L : List En) (V : List Int) (C : List (Int × Int)) : ByteArray := putC b V C ++ putS L.length ++ encEs L
theorem putE_long (x : En) : 1 ≤ (putE ⟨#[]⟩ x).size := by
  have := putS_pos (zigI x.d.1).toNat
  rw [putE_nil, ByteArray.size_append]
  unfold encDo
  rw [ByteArray.size_append]
  omega
theorem encEs_long (L : List En) : L.length ≤ (encEs L).size := by
  induction L with
  | nil => exact Nat.zero_le _
  | cons x L ih =>
    have := putE_long x
    show L.length + 1 ≤ (putE ⟨#[]⟩ x ++ encEs L).size
    rw [ByteArray.size_append]; omega

/-- P8.6: n entries, one by one. -/
def takeEs : Nat → List En → ByteArray → List En × ByteArray × Nat
  | 0, L, s => (L, s, 0)
  | n + 1, L, s => if teE s ≠ 0 then ([], ⟨#[]⟩, teE s) else takeEs n (L ++ [teX s]) (teR s)
theorem takeEs_err {k : Nat} {L : List En} {s : ByteArray} (h : teE s ≠ 0) : takeEs (k + 1) L s = ([], ⟨#[]⟩, teE s) := by rw [takeEs, if_pos h]
theorem takeEs_ok {k : Nat} {L : List En} {s : ByteArray} (h : teE s = 0) : takeEs (k + 1) L s = takeEs k (L ++ [teX s]) (teR s) := by rw [takeEs, if_neg (by simp [h])]
def tesL (s : ByteArray) : List En × ByteArray × Nat :=
  if tkE s ≠ 0 then ([], ⟨#[]⟩, tkE s) else if (tkR s).size < tkN s then ([], ⟨#[]⟩, 2) else takeEs (tkN s) [] (tkR s)
open Classical in
noncomputable def formS (L : List En) (V : List Int) (C : List (Int × Int)) (r : ByteArray) : List En × List Int × List (Int × Int) × ByteArray × Nat :=
  if StOk L V C then (L, V, C, r, 0) else ([], [], [], ⟨#[]⟩, 3)
theorem formS_ok {L : List En} {V : List Int} {C : List (Int × Int)} (r : ByteArray) (h : StOk L V C) : formS L V C r = (L, V, C, r, 0) := by
  unfold formS; rw [if_pos h]
theorem formS_no {L : List En} {V : List Int} {C : List (Int × Int)} (r : ByteArray) (h : ¬ StOk L V C) : formS L V C r = ([], [], [], ⟨#[]⟩, 3) := by
  unfold formS; rw [if_neg h]
noncomputable def tsL (s : ByteArray) : List En × List Int × List (Int × Int) × ByteArray × Nat :=
  if (tcL s).2.2.2 ≠ 0 then ([], [], [], ⟨#[]⟩, (tcL s).2.2.2)
  else if (tesL (tcL s).2.2.1).2.2 ≠ 0 then ([], [], [], ⟨#[]⟩, (tesL (tcL s).2.2.1).2.2)
  else formS (tesL (tcL s).2.2.1).1 (tcL s).1 (tcL s).2.1 (tesL (tcL s).2.2.1).2.1
/-- The bounds of what entries hold. -/
def BdEs (L : List En) : Prop := ∀ x ∈ L, -9223372036854775808 ≤ x.vn ∧ x.vn ≤ 9223372036854775807
theorem takeEs_fore : ∀ (L L0 : List En) (s : ByteArray), (∀ x ∈ L, rightE x = true) → BdEs L → takeEs L.length L0 (encEs L ++ s) = (L0 ++ L, s, 0)
  | [], L0, s, _, _ => by
    show takeEs 0 L0 (⟨#[]⟩ ++ s) = _
    rw [ba_nil, takeEs, List.append_nil]
  | x :: L, L0, s, h, hb => by
    have h1 := hb x (List.mem_cons_self ..)
    have ht := te_of (te_fore (h x (List.mem_cons_self ..)) h1.1 h1.2 (encEs L ++ s))
    have e : encEs (x :: L) ++ s = putE ⟨#[]⟩ x ++ (encEs L ++ s) := by
      show putE ⟨#[]⟩ x ++ encEs L ++ s = _
      rw [ba_assoc]
    rw [e, List.length_cons, takeEs_ok ht.2.2, ht.1, ht.2.1, takeEs_fore L (L0 ++ [x]) s (fun y hy => h y (List.mem_cons_of_mem _ hy)) (fun y hy => hb y (List.mem_cons_of_mem _ hy)), List.append_assoc]
    rfl
theorem tes_fore {L : List En} (h : ∀ x ∈ L, rightE x = true) (hb : BdEs L) (hn : L.length ≤ 1000000) (s : ByteArray) : tesL (putS L.length ++ (encEs L ++ s)) = (L, s, 0) := by
  obtain ⟨k1, k2, k3⟩ := tk_fore L.length (encEs L ++ s) (by omega)
  have hl := encEs_long L
  unfold tesL
  rw [k1, k2, k3, if_neg (by simp), if_neg (by rw [ByteArray.size_append]; omega), takeEs_fore L [] s h hb, List.nil_append]
/-- P8.10: what is put is taken. -/
theorem ts_fore {L : List En} {V : List Int} {C : List (Int × Int)} (h : StOk L V C) (hb : BdEs L) (hn : L.length ≤ 1000000) (hm : C.length ≤ 1000000) (s : ByteArray) : tsL (putSt ⟨#[]⟩ L V C ++ s) = (L, V, C, s, 0) := by
  have e : putSt ⟨#[]⟩ L V C ++ s = putC ⟨#[]⟩ V C ++ (putS L.length ++ (encEs L ++ s)) := by
    unfold putSt
    simp only [ba_assoc]
  have h1 := tc_fore h.ctx hm (putS L.length ++ (encEs L ++ s))
  unfold tsL
  rw [e, h1]
  simp only
  rw [tes_fore h.ent hb hn s, if_neg (by simp), if_neg (by simp), formS_ok _ h]
end Go.Proofs.YtkooihljddibfaaGreat

namespace Go.Proofs
open Go.Shelf
def Tryz.lays138_ren : Go.Shelf.Ren := ⟨fun | 138 => 95 | 195 => 99 | 218 => 100 | 143 => 101 | 219 => 104 | 217 => 115 | 225 => 116 | 224 => 117 | 267 => 118 | 266 => 124 | 314 => 125 | n => n, fun | 9 => 9 | 3 => 3 | 4 => 4 | 5 => 5 | 0 => 0 | 46 => 46 | 146 => 125 | 51 => 115 | n => n, fun | 1 => 0 | n => n⟩
theorem Tryz.lays138 : Go.Proofs.Lays.n138 Tryz.prog Tryz.lays138_ren := {
  mixed := by kernel_rfl
  f138 := Tryz.func95.trans (congrArg some (by kernel_rfl))
  f143 := Tryz.func101.trans (congrArg some (by kernel_rfl))
  f195 := Tryz.func99.trans (congrArg some (by kernel_rfl))
  f217 := Tryz.func115.trans (congrArg some (by kernel_rfl))
  f218 := Tryz.func100.trans (congrArg some (by kernel_rfl))
  f219 := Tryz.func104.trans (congrArg some (by kernel_rfl))
  f224 := Tryz.func117.trans (congrArg some (by kernel_rfl))
  f225 := Tryz.func116.trans (congrArg some (by kernel_rfl))
  f266 := Tryz.func124.trans (congrArg some (by kernel_rfl))
  f267 := Tryz.func118.trans (congrArg some (by kernel_rfl))
  f314 := Tryz.func125.trans (congrArg some (by kernel_rfl))
  t0 := Tryz.underlying0
  a0 := Tryz.isAgg0
  z0 := Tryz.sizeOf0
  v0 := Tryz.zeroValue0
  t3 := Tryz.underlying3
  a3 := Tryz.isAgg3
  z3 := Tryz.sizeOf3
  v3 := Tryz.zeroValue3
  t4 := Tryz.underlying4
  a4 := Tryz.isAgg4
  z4 := Tryz.sizeOf4
  v4 := Tryz.zeroValue4
  t5 := Tryz.underlying5
  a5 := Tryz.isAgg5
  z5 := Tryz.sizeOf5
  v5 := Tryz.zeroValue5
  t9 := Tryz.underlying9
  a9 := Tryz.isAgg9
  z9 := Tryz.sizeOf9
  v9 := Tryz.zeroValue9
  t46 := Tryz.underlying46
  a46 := Tryz.isAgg46
  z46 := Tryz.sizeOf46
  v46 := Tryz.zeroValue46
  t51 := Tryz.underlying115
  a51 := Tryz.isAgg115
  z51 := Tryz.sizeOf115
  v51 := Tryz.zeroValue115
  t146 := Tryz.underlying125
  a146 := Tryz.isAgg125
  z146 := Tryz.sizeOf125
  v146 := Tryz.zeroValue125
  g1 := by kernel_rfl }
open Go.RowKit Go.Lib in
theorem Tryz.strings_Count_one (s : ByteArray) (c : UInt8) (w : World) :
    Calls Tryz.prog 95 #[.string s, .string ⟨#[c]⟩] w fun e w' => e = .returned (.int .i64 (Lib.countByte s.data.toList c)) ∧ w' = w := Any.strings_Count_one Tryz.lays138 s c w
end Go.Proofs

