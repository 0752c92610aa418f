/-
  What is proved: the document's Take of layer 6, called with any text of bounded length, returns what P6.12 says; the world has new blocks at most.
-/
import Derived.Test.YtgofecnpmohmgaaCRight
import Derived.Test.YtgofecnpmohmgaaRow
import Derived.Test.YtgofecnpmohmgaaDTake
import Derived.Test.YtgofecnpmohmgaaCComp
namespace Go.Proofs.Ytgofecnpmohmgaa
open Go.RowKit

def takeVs : Nat → List Int → ByteArray → List Int × ByteArray × Nat
  | 0, V, s => (V, s, 0)
  | k + 1, V, s => if tkE s ≠ 0 then ([], ⟨#[]⟩, tkE s) else takeVs k (V ++ [tiN s]) (tkR s)
def takeDs : Nat → List (Int × Int) → ByteArray → List (Int × Int) × ByteArray × Nat
  | 0, C, s => (C, s, 0)
  | k + 1, C, s => if tdE s ≠ 0 then ([], ⟨#[]⟩, tdE s) else takeDs k (C ++ [tdX s]) (tdR s)
open Classical in
noncomputable def formC (V : List Int) (C : List (Int × Int)) (r : ByteArray) : List Int × List (Int × Int) × ByteArray × Nat :=
  if RightC V C then (V, C, r, 0) else ([], [], ⟨#[]⟩, 3)
noncomputable def cloudC (V : List Int) (s : ByteArray) : List Int × List (Int × Int) × ByteArray × Nat :=
  if tkE s ≠ 0 then ([], [], ⟨#[]⟩, tkE s) else if (tkR s).size < tkN s then ([], [], ⟨#[]⟩, 2)
  else if (takeDs (tkN s) [] (tkR s)).2.2 ≠ 0 then ([], [], ⟨#[]⟩, (takeDs (tkN s) [] (tkR s)).2.2)
  else formC V (takeDs (tkN s) [] (tkR s)).1 (takeDs (tkN s) [] (tkR s)).2.1
/-- P6.12. -/
noncomputable def tcL (s : ByteArray) : List Int × List (Int × Int) × ByteArray × Nat :=
  if tkE s ≠ 0 then ([], [], ⟨#[]⟩, tkE s) else if 64 < tkN s then ([], [], ⟨#[]⟩, 4)
  else if (takeVs (tkN s) [] (tkR s)).2.2 ≠ 0 then ([], [], ⟨#[]⟩, (takeVs (tkN s) [] (tkR s)).2.2)
  else cloudC (takeVs (tkN s) [] (tkR s)).1 (takeVs (tkN s) [] (tkR s)).2.1
theorem takeVs_err {k : Nat} {V : List Int} {s : ByteArray} (h : tkE s ≠ 0) : takeVs (k + 1) V s = ([], ⟨#[]⟩, tkE s) := by rw [takeVs, if_pos h]
theorem takeVs_ok {k : Nat} {V : List Int} {s : ByteArray} (h : tkE s = 0) : takeVs (k + 1) V s = takeVs k (V ++ [tiN s]) (tkR s) := by rw [takeVs, if_neg (by simp [h])]
theorem takeDs_err {k : Nat} {C : List (Int × Int)} {s : ByteArray} (h : tdE s ≠ 0) : takeDs (k + 1) C s = ([], ⟨#[]⟩, tdE s) := by rw [takeDs, if_pos h]
theorem takeDs_ok {k : Nat} {C : List (Int × Int)} {s : ByteArray} (h : tdE s = 0) : takeDs (k + 1) C s = takeDs k (C ++ [tdX s]) (tdR s) := by rw [takeDs, if_neg (by simp [h])]
theorem tdR_size (s : ByteArray) : (tdR s).size ≤ s.size := by
  have h1 := tkR_size s
  have h2 := tkR_size (tkR s)
  unfold tdR tdL
  split
  · exact Nat.zero_le _
  · split
    · exact Nat.zero_le _
    · split
      · show (tkR (tkR s)).size ≤ s.size; omega
      · exact Nat.zero_le _
/-- What Take leaves. -/
def TakeC (s : ByteArray) (w : World) (e : Ending) (w' : World) : Prop :=
  ∃ A n c B m k V C r z, e = .returned (.tuple #[.agg #[.slice A n c, .slice B m k], .string r, .int .i64 ((z : Nat) : Int)]) ∧ Il w' A n c V ∧ Dl w' B m k C ∧ tcL s = (V, C, r, z) ∧ Kept w w'
theorem TakeC.err {s : ByteArray} {w w5 : World} {b z : Nat} (hs : tcL s = ([], [], ⟨#[]⟩, z)) (hk : Kept w w5) (hb : w.heap.size ≤ b) :
    TakeC s w (.returned (.tuple #[.agg #[.slice none 0 0, .slice none 0 0], .string ⟨#[]⟩, .int .i64 (z : Int)])) ((w5.setCell ⟨b, 0, none⟩ (.slice none 0 0)).setCell ⟨b, 1, none⟩ (.slice none 0 0)) :=
  ⟨none, 0, 0, none, 0, 0, [], [], ⟨#[]⟩, z, rfl, Il.nil _, Dl.nil _, hs, kept_set2 hk _ _ hb⟩

theorem TakeC.ok {s : ByteArray} {w w5 U : World} {b : Nat} {v u : Value} {V : List Int} {C : List (Int × Int)} {r : ByteArray} (hs : tcL s = (V, C, r, 0)) (hk : Kept w w5) (hb : w.heap.size ≤ b) (hbU : b < U.heap.size)
    (hv : w5.ownsRow U.heap.size 3 1 v V.length (intsV V)) (hu : w5.ownsRow U.heap.size 36 2 u C.length (flatD C)) :
    TakeC s w (.returned (.tuple #[.agg #[v, u], .string r, .int .i64 0])) ((w5.setCell ⟨b, 0, none⟩ v).setCell ⟨b, 1, none⟩ u) := by
  have hne : ∀ {x : Value} {n : Nat} {xs : List Value} {e : TypeId} {sz : Nat} {wx : World}, wx.ownsRow U.heap.size e sz x n xs → x.ownBlock ≠ some b := fun hh e => by have := (hh.lt b e).1; omega
  have hv2 := ownsRow_setCell_other (ownsRow_setCell_other hv (a := ⟨b, 0, none⟩) (hne hv) v) (a := ⟨b, 1, none⟩) (hne hv) u
  have hu2 := ownsRow_setCell_other (ownsRow_setCell_other hu (a := ⟨b, 0, none⟩) (hne hu) v) (a := ⟨b, 1, none⟩) (hne hu) u
  obtain ⟨A, c, rfl, hi⟩ := Il.of_own hv2
  obtain ⟨B, k, rfl, hd⟩ := Dl.of_own hu2
  exact ⟨A, _, c, B, _, k, V, C, r, 0, rfl, hi, hd, hs, kept_set2 hk _ _ hb⟩

/-- The set that is made, in its box. -/
structure MemT (U : World) (b : Nat) (wr : World) (v : Value) (V : List Int) (u : Value) (C : List (Int × Int)) : Prop where
  iv : wr.ownsRow U.heap.size 3 1 v V.length (intsV V)
  dv : wr.ownsRow U.heap.size 36 2 u C.length (flatD C)
  box : wr.heap[b]? = some (Obj.cells #[v, u] 25 (0, 0))
  ke : KeptE b U wr
  lo : b < U.heap.size
section
variable {U wr : World} {b : Nat} {v u : Value} {V : List Int} {C : List (Int × Int)}
theorem MemT.kept {w' : World} (h : MemT U b wr v V u C) (hk : Kept wr w') : MemT U b w' v V u C :=
  ⟨own_kept h.iv hk, own_kept h.dv hk, blk_kept h.box hk, h.ke.trans hk, h.lo⟩
theorem MemT.forms (h : MemT U b wr v V u C) : ∃ A c B k, v = .slice A V.length c ∧ u = .slice B C.length k ∧ V.length ≤ c ∧ c ≤ 9223372036854775807 ∧ C.length ≤ k ∧ k ≤ 9223372036854775807 := by
  obtain ⟨A, c, rfl, hi⟩ := Il.of_own h.iv
  obtain ⟨B, k, rfl, hd⟩ := Dl.of_own h.dv
  exact ⟨A, c, B, k, rfl, rfl, hi.cap.1, hi.cap.2, hd.cap.1, hd.cap.2⟩
theorem MemT.c0 (h : MemT U b wr v V u C) : wr.cell? ⟨b, 0, none⟩ = some v := (blk_cells h.box).1
theorem MemT.c1 (h : MemT U b wr v V u C) : wr.cell? ⟨b, 1, none⟩ = some u := (blk_cells h.box).2
theorem MemT.f (h : MemT U b wr v V u C) (i : Nat) : wr.frozen? ⟨b, i, none⟩ = false := by simp [World.frozen?, h.box]
theorem set_blk {w : World} {b i : Nat} {c : Array Value} {t : TypeId} (h : w.heap[b]? = some (Obj.cells c t (0, 0))) (x : Value) : (w.setCell ⟨b, i, none⟩ x).heap[b]? = some (Obj.cells (c.setIfInBounds i x) t (0, 0)) := by
  show (w.heap.modify b _)[b]? = _
  rw [Array.getElem?_modify, if_pos rfl, h]
  rfl
theorem MemT.putV (h : MemT U b wr v V u C) (hl : V.length ≤ 1000) (x : Int) :
    ∃ A c w5, (Builtin.append_ #[22, 22] 22 #[v, .slice (some ⟨wr.heap.size, 0, none⟩) 1 1]).run Try.prog (wr.alloc (.cells #[.int .i64 x] 3)) = .ok (.slice A (V.length + 1) c) w5 ∧
      w5.cell? ⟨b, 0, none⟩ = some v ∧ w5.frozen? ⟨b, 0, none⟩ = false ∧ MemT U b (w5.setCell ⟨b, 0, none⟩ (.slice A (V.length + 1) c)) (.slice A (V.length + 1) c) (V ++ [x]) u C := by
  have h2 := h.kept ((Kept.refl wr).alloc #[.int .i64 x] 3)
  obtain ⟨v', w5, hr, ho, hg, _⟩ := app_ints _ _ v V.length _ h2.iv (some ⟨wr.heap.size, 0, none⟩) 1 1 [x] (il_one wr x _) (by omega) (Nat.le_trans h.ke.size (by simp))
  rw [← intsV_app] at ho
  have hbn : ∀ g, v.ownBlock = some g → g ≠ b := fun g hgb => by have := (h2.iv.lt g hgb).1; have := h.lo; omega
  have hbx : w5.heap[b]? = some (Obj.cells #[v, u] 25 (0, 0)) := by
    rw [hg.block b (lt_of_some h2.box) (fun e => hbn b e.symm rfl)]; exact h2.box
  have hd5 : w5.ownsRow U.heap.size 36 2 u C.length (flatD C) := own_blk h2.dv fun g hgb => by
    rcases own_apart h2.dv h2.iv (by decide) with e | e
    · rw [e] at hgb; cases hgb
    · exact hg.block g (h2.dv.lt g hgb).2 (fun e2 => e (hgb.trans e2))
  obtain ⟨A, c, rfl, _⟩ := Il.of_own ho
  have hne : ∀ {x : Value} {n : Nat} {xs : List Value} {e : TypeId} {sz : Nat}, w5.ownsRow U.heap.size e sz x n xs → x.ownBlock ≠ some b := fun hh e => by have := (hh.lt b e).1; have := h.lo; omega
  refine ⟨A, c, w5, hr, (blk_cells hbx).1, by simp [World.frozen?, hbx], ⟨by rw [List.length_append]; exact ownsRow_setCell_other ho (hne ho) _, ownsRow_setCell_other hd5 (hne hd5) _, by rw [set_blk hbx]; rfl, (h2.ke.grown hg fun g hgb => .inr (h2.iv.lt g hgb).1).set (.inl rfl) _, h.lo⟩⟩
theorem MemT.putD (h : MemT U b wr v V u C) (hl : C.length ≤ 1000000) (x1 x2 : Int) :
    ∃ B k w5, (Builtin.append_ #[23, 23] 23 #[u, .slice (some ⟨wr.heap.size, 0, none⟩) 1 1]).run Try.prog (wr.alloc (.cells #[.int .i64 x1, .int .i64 x2] 36)) = .ok (.slice B (C.length + 1) k) w5 ∧
      w5.cell? ⟨b, 1, none⟩ = some u ∧ w5.frozen? ⟨b, 1, none⟩ = false ∧ MemT U b (w5.setCell ⟨b, 1, none⟩ (.slice B (C.length + 1) k)) v V (.slice B (C.length + 1) k) (C ++ [(x1, x2)]) := by
  have h2 := h.kept ((Kept.refl wr).alloc #[.int .i64 x1, .int .i64 x2] 36)
  obtain ⟨u', w5, hr, ho, hg, _⟩ := app_dots_at _ _ u C.length _ h2.dv (some ⟨wr.heap.size, 0, none⟩) 1 1 [(x1, x2)] (dl_one wr x1 x2 _) (by omega) (Nat.le_trans h.ke.size (by simp))
  rw [← flatD_app] at ho
  have hbn : ∀ g, u.ownBlock = some g → g ≠ b := fun g hgb => by have := (h2.dv.lt g hgb).1; have := h.lo; omega
  have hbx : w5.heap[b]? = some (Obj.cells #[v, u] 25 (0, 0)) := by
    rw [hg.block b (lt_of_some h2.box) (fun e => hbn b e.symm rfl)]; exact h2.box
  have hd5 : w5.ownsRow U.heap.size 3 1 v V.length (intsV V) := own_blk h2.iv fun g hgb => by
    rcases own_apart h2.iv h2.dv (by decide) with e | e
    · rw [e] at hgb; cases hgb
    · exact hg.block g (h2.iv.lt g hgb).2 (fun e2 => e (hgb.trans e2))
  obtain ⟨B, k, rfl, _⟩ := Dl.of_own ho
  have hne : ∀ {x : Value} {n : Nat} {xs : List Value} {e : TypeId} {sz : Nat}, w5.ownsRow U.heap.size e sz x n xs → x.ownBlock ≠ some b := fun hh e => by have := (hh.lt b e).1; have := h.lo; omega
  refine ⟨B, k, w5, hr, (blk_cells hbx).2, by simp [World.frozen?, hbx], ⟨ownsRow_setCell_other hd5 (hne hd5) _, by rw [List.length_append]; exact ownsRow_setCell_other ho (hne ho) _, by rw [set_blk hbx]; rfl, (h2.ke.grown hg fun g hgb => .inr (h2.dv.lt g hgb).1).set (.inl rfl) _, h.lo⟩⟩
theorem MemT.start (w : World) : MemT (w.alloc (.cells #[.slice none 0 0, .slice none 0 0] 25)) w.heap.size (w.alloc (.cells #[.slice none 0 0, .slice none 0 0] 25)) (.slice none 0 0) [] (.slice none 0 0) [] :=
  ⟨World.ownsRow_nil _ _ _ _, World.ownsRow_nil _ _ _ _, heap_alloc_new w _, .refl _ _, by simp⟩
theorem rtakeK (s : ByteArray) (n : Int) (r : ByteArray) (z : Int) (h1 : (tkN s : Int) = n) (h2 : tkR s = r) (h3 : (tkE s : Int) = z) (hs : s.size ≤ 100000) (w : World) :
    Calls Try.prog 45 #[.string s] w fun e w' => e = .returned (.tuple #[.int .u64 n, .string r, .int .i64 z]) ∧ Kept w w' := by
  subst h1 h2 h3; exact (rtake_any s w hs).mono fun _ _ ⟨he, hg⟩ => ⟨he, kept_of hg⟩
end

set_option maxRecDepth 100000 in
set_option maxHeartbeats 8000000 in
theorem rtakeC_any (s : ByteArray) (w : World) (hs : s.size ≤ 90000) :
    Calls Try.prog 14 #[.string s] w (TakeC s w) := by
  have hbd := tkN_bd s
  have hrs := tkR_size s
  obtain ⟨n, hn⟩ : ∃ n, tkN s = n := ⟨_, rfl⟩
  obtain ⟨r, hr⟩ : ∃ r, tkR s = r := ⟨_, rfl⟩
  obtain ⟨z, hz⟩ : ∃ z, tkE s = z := ⟨_, rfl⟩
  have AT := Lib.hid (fun w => rtakeK s n r z (by rw [hn]) hr (by rw [hz]) (by omega) w)
  have HX := Lib.hid (Box2.new w (.slice none 0 0) (.slice none 0 0) 25)
  have HTC := Lib.hid (show tcL s = if z ≠ 0 then ([], [], ⟨#[]⟩, z) else if 64 < n then ([], [], ⟨#[]⟩, 4) else if (takeVs n [] r).2.2 ≠ 0 then ([], [], ⟨#[]⟩, (takeVs n [] r).2.2) else cloudC (takeVs n [] r).1 (takeVs n [] r).2.1 by unfold tcL; rw [hn, hr, hz])
  rw [hn] at hbd
  rw [hr] at hrs
  have hszr : r.size ≤ 90000 := by omega
  clear hn hr hz hrs
  go_enter Try.func14, Try.ntmps14
  by_cases hz : z = 0
  · have d1 : ((z : Int) != 0) = false := by simp [hz]
    by_cases h64 : 64 < n
    · have d2 : decide ((64 : Int) < n) = true := decide_eq_true (by omega)
      have d3 : decide (64 < n) = true := decide_eq_true h64
      have HF := Lib.hid (show tcL s = ([], [], ⟨#[]⟩, 4) by rw [HTC.out, if_neg (by simp [hz]), if_pos h64])
      clear hz h64
      go_wp2_with fail
      go_at_call 45
      refine (AT.out _).mono ?_
      rintro e w1 ⟨rfl, hk1⟩
      have hx := HX.out.kept hk1
      have e0 := hx.c0; have e1 := hx.c1; have ef0 := hx.f 0; have ef1 := hx.f 1
      go_wp2_with fail
      exact bodyPost_ret (by simp [results, Try.results14, go_sem, *]) rfl (TakeC.err HF.out (((Kept.refl w).alloc _ _).trans hk1) (Nat.le_refl _))
    · have d2 : decide ((64 : Int) < n) = false := decide_eq_false (by omega)
      have d3 : decide (64 < n) = false := decide_eq_false h64
      have hwn : IntKind.i64.wrap (n : Int) = (n : Int) := by rw [IntWalk.i64_in _ (by omega)]
      have HT2 := Lib.hid (show tcL s = if (takeVs n [] r).2.2 ≠ 0 then ([], [], ⟨#[]⟩, (takeVs n [] r).2.2) else cloudC (takeVs n [] r).1 (takeVs n [] r).2.1 by rw [HTC.out, if_neg (by simp [hz]), if_neg h64])
      clear hz
      go_wp2_with fail
      go_at_call 45
      refine (AT.out _).mono ?_
      rintro e w1 ⟨rfl, hk1⟩
      have HK1 := Lib.hid (((Kept.refl w).alloc #[.slice none 0 0, .slice none 0 0] 25).trans hk1)
      have hsz1 := HK1.out.2.2
      have hlt1 : w.heap.size < w1.heap.size := by have := hk1.2.2; simp at this; omega
      have HX1 := Lib.hid (HX.out.kept (hk1.trans ((Kept.refl w1).alloc #[.slice none 0 0, .slice none 0 0] 25)))
      have HM0 := Lib.hid (MemT.start w1)
      have HKU := Lib.hid (HK1.out.trans ((Kept.refl w1).alloc #[.slice none 0 0, .slice none 0 0] 25))
      obtain ⟨U, hU⟩ : ∃ U, w1.alloc (.cells #[.slice none 0 0, .slice none 0 0] 25) = U := ⟨_, rfl⟩
      have HU := Lib.hid hU
      rw [hU] at HX1 HM0 HKU
      clear hk1 hU
      go_wp2_with fail
      go_loopw [0, 29] (fun x i wr => ∃ (t : Nat) (s1 : ByteArray) (V1 : List Int) (v : Value), t ≤ n ∧ i = .int .i64 t ∧ x = .string s1 ∧ s1.size ≤ 90000 ∧ V1.length = t ∧ takeVs (n - t) V1 s1 = takeVs n [] r ∧ MemT U w1.heap.size wr v V1 (.slice none 0 0) []) (fun _ i _ => n - (intOf i).toNat)
      case atStart => exact ⟨0, r, [], _, Nat.zero_le _, rfl, rfl, hszr, rfl, rfl, by rw [HU.out]; exact HM0.out⟩
      case round =>
        obtain ⟨t, s1, V1, v, ht, rfl, rfl, hs1, hvl, htv, hm⟩ := hrel
        have HMT := Lib.hid hm
        obtain ⟨A3, c3, B3, k3, rfl, hb3, h31, h32, _, _⟩ := hm.forms
        have hxx := hm.ke
        have e0 := hxx.cell (by omega) HX1.out.c0
        have e1 := hxx.cell (by omega) HX1.out.c1
        have ef0 := hxx.froz (by omega) (by have := HKU.out.2.2; have := hm.lo; omega) (HX1.out.f 0)
        have ef1 := hxx.froz (by omega) (by have := HKU.out.2.2; have := hm.lo; omega) (HX1.out.f 1)
        have HKW := Lib.hid (hxx.kept HKU.out (by omega))
        have HTV := Lib.hid htv
        have hrs1 := tkR_size s1
        clear hxx htv hm hb3
        by_cases hlt : t < n
        · obtain ⟨y, hy⟩ : ∃ y, tkR s1 = y := ⟨_, rfl⟩
          obtain ⟨q, hq⟩ : ∃ q, tkE s1 = q := ⟨_, rfl⟩
          obtain ⟨x, hx⟩ : ∃ x, tiN s1 = x := ⟨_, rfl⟩
          have AI := Lib.hid (fun w => rtakeIntK s1 x y q hx hy (by rw [hq]) (by omega) w)
          by_cases hq0 : q = 0
          · have p1 : ((q : Int) != 0) = false := by simp [hq0]
            have HT3 := Lib.hid (show takeVs (n - (t + 1)) (V1 ++ [x]) y = takeVs n [] r by
              rw [← HTV.out, show n - t = (n - (t + 1)) + 1 by omega, takeVs_ok (by rw [hq]; exact hq0), hx, hy])
            have hy9 : y.size ≤ 90000 := by rw [← hy]; omega
            clear hx hy hq hq0 hrs1
            go_wp2_with fail
            go_at_call 46
            refine (AI.out _).mono ?_
            rintro e w5 ⟨rfl, hk5⟩
            obtain ⟨A6, c6, w6, hr6, hc6, hf6, hm6⟩ := (HMT.out.kept hk5).putV (by omega) x
            have b0 := (HMT.out.kept hk5).c0
            have HR6 := Lib.hid hr6
            have HM6 := Lib.hid hm6
            rw [hvl] at HR6 HM6 h31 hc6 b0
            clear hr6 hm6 hk5 e0 e1 ef0 ef1
            have HVL := Lib.hid hvl
            clear hvl
            go_wp2_with (at_builtin; refine Lib.wpList_append_run _ rfl (.tmp 42) (.tmp 44) _ _ rfl _ _ rfl rfl _ _ HR6.out ?_)
            clear b0 hc6 hf6
            go_roundw
            case rel => exact ⟨t + 1, y, V1 ++ [x], _, hlt, by go_num, rfl, hy9, by rw [List.length_append, HVL.out]; rfl, HT3.out, HM6.out⟩
            case measure => simp [intOf]; omega
          · have p1 : ((q : Int) != 0) = true := by simp [hq0]
            have HF := Lib.hid (show tcL s = ([], [], ⟨#[]⟩, q) by
              have e : takeVs n [] r = ([], ⟨#[]⟩, q) := by rw [← HTV.out, show n - t = (n - (t + 1)) + 1 by omega, takeVs_err (by rw [hq]; exact hq0), hq]
              rw [HT2.out, e, if_pos hq0])
            clear hx hy hq hq0 hrs1
            go_wp2_with fail
            go_at_call 46
            refine (AI.out _).mono ?_
            rintro e w5 ⟨rfl, hk5⟩
            have f0 := hk5.cell e0
            have f1 := hk5.cell e1
            have ff0 := (hk5.2.1 ⟨w.heap.size, 0, none⟩ (World.block_lt_of_cell? _ _ e0)).trans ef0
            have ff1 := (hk5.2.1 ⟨w.heap.size, 1, none⟩ (World.block_lt_of_cell? _ _ e1)).trans ef1
            clear e0 e1 ef0 ef1
            go_wp2_with fail
            exact bodyPost_ret (by simp [results, Try.results14, go_sem, *]) rfl (TakeC.err HF.out (HKW.out.trans hk5) (Nat.le_refl _))
        · have htn : t = n := by omega
          have HTE := Lib.hid (show tcL s = cloudC V1 s1 by
            have e : takeVs n [] r = (V1, s1, 0) := by rw [← HTV.out, show n - t = 0 by omega]; rfl
            rw [HT2.out, e, if_neg (by simp)])
          obtain ⟨n2, hn2⟩ : ∃ n2, tkN s1 = n2 := ⟨_, rfl⟩
          obtain ⟨r2, hr2⟩ : ∃ r2, tkR s1 = r2 := ⟨_, rfl⟩
          obtain ⟨z2, hz2⟩ : ∃ z2, tkE s1 = z2 := ⟨_, rfl⟩
          have AT2 := Lib.hid (fun w => rtakeK s1 n2 r2 z2 (by rw [hn2]) hr2 (by rw [hz2]) (by omega) w)
          have HTF := Lib.hid (show tcL s = if z2 ≠ 0 then ([], [], ⟨#[]⟩, z2) else if r2.size < n2 then ([], [], ⟨#[]⟩, 2) else if (takeDs n2 [] r2).2.2 ≠ 0 then ([], [], ⟨#[]⟩, (takeDs n2 [] r2).2.2) else formC V1 (takeDs n2 [] r2).1 (takeDs n2 [] r2).2.1 by rw [HTE.out]; unfold cloudC; rw [hn2, hr2, hz2])
          rw [hr2] at hrs1
          have hszr2 : r2.size ≤ 90000 := by omega
          clear hn2 hr2 hz2 htn hrs1
          by_cases hz2 : z2 = 0
          · have p1 : ((z2 : Int) != 0) = false := by simp [hz2]
            have hwu : IntKind.u64.wrap (r2.size : Int) = (r2.size : Int) := by rw [IntKind.wrap_u64]; omega
            by_cases hsh : r2.size < n2
            · have p2 : decide ((r2.size : Int) < (n2 : Int)) = true := decide_eq_true (by omega)
              have p3 : decide (r2.size < n2) = true := decide_eq_true hsh
              have HF := Lib.hid (show tcL s = ([], [], ⟨#[]⟩, 2) by rw [HTF.out, if_neg (by simp [hz2]), if_pos hsh])
              clear hz2 hsh
              go_wp2_with fail
              go_at_call 45
              refine (AT2.out _).mono ?_
              rintro e w5 ⟨rfl, hk5⟩
              have f0 := hk5.cell e0
              have f1 := hk5.cell e1
              have ff0 := (hk5.2.1 ⟨w.heap.size, 0, none⟩ (World.block_lt_of_cell? _ _ e0)).trans ef0
              have ff1 := (hk5.2.1 ⟨w.heap.size, 1, none⟩ (World.block_lt_of_cell? _ _ e1)).trans ef1
              clear e0 e1 ef0 ef1
              go_wp2_with fail
              exact bodyPost_ret (by simp [results, Try.results14, go_sem, *]) rfl (TakeC.err HF.out (HKW.out.trans hk5) (Nat.le_refl _))
            · have p2 : decide ((r2.size : Int) < (n2 : Int)) = false := decide_eq_false (by omega)
              have p3 : decide (r2.size < n2) = false := decide_eq_false hsh
              have hwn2 : IntKind.i64.wrap (n2 : Int) = (n2 : Int) := by rw [IntWalk.i64_in _ (by omega)]
              have HTG := Lib.hid (show tcL s = if (takeDs n2 [] r2).2.2 ≠ 0 then ([], [], ⟨#[]⟩, (takeDs n2 [] r2).2.2) else formC V1 (takeDs n2 [] r2).1 (takeDs n2 [] r2).2.1 by rw [HTF.out, if_neg (by simp [hz2]), if_neg hsh])
              have hn2b : n2 ≤ 90000 := by omega
              clear hz2 hsh
              go_wp2_with fail
              go_at_call 45
              refine (AT2.out _).mono ?_
              rintro e w5 ⟨rfl, hk5⟩
              have HM5 := Lib.hid (HMT.out.kept hk5)
              clear hk5 e0 e1 ef0 ef1
              go_wp2_with fail
              go_loopw [0, 67] (fun x i wr => ∃ (t2 : Nat) (s2 : ByteArray) (C1 : List (Int × Int)) (u : Value), t2 ≤ n2 ∧ i = .int .i64 t2 ∧ x = .string s2 ∧ s2.size ≤ 90000 ∧ C1.length = t2 ∧ takeDs (n2 - t2) C1 s2 = takeDs n2 [] r2 ∧ MemT U w1.heap.size wr (.slice A3 V1.length c3) V1 u C1) (fun _ i _ => n2 - (intOf i).toNat)
              case atStart => exact ⟨0, r2, [], _, Nat.zero_le _, rfl, rfl, hszr2, rfl, rfl, HM5.out⟩
              case round =>
                obtain ⟨t2, s2, C1, u, ht2, rfl, rfl, hs2, hcl, htd, hm⟩ := hrel
                have HMD := Lib.hid hm
                obtain ⟨_, _, B4, k4, _, rfl, _, _, h43, h44⟩ := hm.forms
                have hxx := hm.ke
                have e0 := hxx.cell (by omega) HX1.out.c0
                have e1 := hxx.cell (by omega) HX1.out.c1
                have ef0 := hxx.froz (by omega) (by have := HKU.out.2.2; have := hm.lo; omega) (HX1.out.f 0)
                have ef1 := hxx.froz (by omega) (by have := HKU.out.2.2; have := hm.lo; omega) (HX1.out.f 1)
                replace HKW := Lib.hid (hxx.kept HKU.out (by omega))
                have HTD := Lib.hid htd
                have hrs2 := tdR_size s2
                clear hxx htd hm
                by_cases hlt2 : t2 < n2
                · obtain ⟨y, hy⟩ : ∃ y, tdR s2 = y := ⟨_, rfl⟩
                  obtain ⟨q, hq⟩ : ∃ q, tdE s2 = q := ⟨_, rfl⟩
                  obtain ⟨x1, x2, hx⟩ : ∃ x1 x2, tdX s2 = (x1, x2) := ⟨_, _, rfl⟩
                  have AI := Lib.hid (fun w => rtakeD_c s2 (x1, x2) y q hx hy (by rw [hq]) (by omega) w)
                  by_cases hq0 : q = 0
                  · have p4 : ((q : Int) != 0) = false := by simp [hq0]
                    have HT3 := Lib.hid (show takeDs (n2 - (t2 + 1)) (C1 ++ [(x1, x2)]) y = takeDs n2 [] r2 by
                      rw [← HTD.out, show n2 - t2 = (n2 - (t2 + 1)) + 1 by omega, takeDs_ok (by rw [hq]; exact hq0), hx, hy])
                    have hy9 : y.size ≤ 90000 := by rw [← hy]; omega
                    clear hx hy hq hq0 hrs2
                    go_wp2_with fail
                    go_at_call 47
                    refine (AI.out _).mono ?_
                    rintro e w7 ⟨rfl, hk7⟩
                    have hm7 := HMD.out.kept (hk7.trans ((Kept.refl w7).alloc #[.int .i64 x1, .int .i64 x2] 36))
                    obtain ⟨B8, k8, w8, hr8, hc8, hf8, hm8⟩ := hm7.putD (by omega) x1 x2
                    rw [show (w7.alloc (.cells #[.int .i64 x1, .int .i64 x2] 36)).heap.size = w7.heap.size + 1 by simp] at hr8
                    have b0 := hm7.c1
                    have HR8 := Lib.hid hr8
                    have HM8 := Lib.hid hm8
                    have HCL := Lib.hid hcl
                    rw [hcl] at HR8 HM8 h43 hc8 b0
                    clear hr8 hm8 hk7 e0 e1 ef0 ef1 hm7
                    clear hcl
                    go_wp2_with (at_builtin; refine Lib.wpList_append_run _ rfl (.tmp 80) (.tmp 82) _ _ rfl _ _ rfl rfl _ _ HR8.out ?_)
                    clear b0 hc8 hf8
                    go_roundw
                    case rel => exact ⟨t2 + 1, y, C1 ++ [(x1, x2)], _, hlt2, by go_num, rfl, hy9, by rw [List.length_append, HCL.out]; rfl, HT3.out, HM8.out⟩
                    case measure => simp [intOf]; omega
                  · have p4 : ((q : Int) != 0) = true := by simp [hq0]
                    have HF := Lib.hid (show tcL s = ([], [], ⟨#[]⟩, q) by
                      have e : takeDs n2 [] r2 = ([], ⟨#[]⟩, q) := by rw [← HTD.out, show n2 - t2 = (n2 - (t2 + 1)) + 1 by omega, takeDs_err (by rw [hq]; exact hq0), hq]
                      rw [HTG.out, e, if_pos hq0])
                    clear hx hy hq hq0 hrs2
                    go_wp2_with fail
                    go_at_call 47
                    refine (AI.out _).mono ?_
                    rintro e w5 ⟨rfl, hk5a⟩
                    have hk5 := hk5a.trans ((Kept.refl w5).alloc #[.int .i64 x1, .int .i64 x2] 36)
                    have f0 := hk5.cell e0
                    have f1 := hk5.cell e1
                    have ff0 := (hk5.2.1 ⟨w.heap.size, 0, none⟩ (World.block_lt_of_cell? _ _ e0)).trans ef0
                    have ff1 := (hk5.2.1 ⟨w.heap.size, 1, none⟩ (World.block_lt_of_cell? _ _ e1)).trans ef1
                    clear e0 e1 ef0 ef1
                    go_wp2_with fail
                    exact bodyPost_ret (by simp [results, Try.results14, go_sem, *]) rfl (TakeC.err HF.out (HKW.out.trans hk5) (Nat.le_refl _))
                · have htn2 : t2 = n2 := by omega
                  have HTH := Lib.hid (show tcL s = formC V1 C1 s2 by
                    have e : takeDs n2 [] r2 = (C1, s2, 0) := by rw [← HTD.out, show n2 - t2 = 0 by omega]; rfl
                    rw [HTG.out, e, if_neg (by simp)])
                  have b0 := HMD.out.c0
                  have b1 := HMD.out.c1
                  obtain ⟨A5, c5, e5, hi5⟩ := Il.of_own HMD.out.iv
                  obtain ⟨B5, k5, e6, hd5⟩ := Dl.of_own HMD.out.dv
                  simp only [Value.slice.injEq] at e5 e6
                  rw [← e5.1, ← e5.2.2] at hi5
                  rw [← e6.1, ← e6.2.2] at hd5
                  clear htn2 e5 e6
                  by_cases hrc : RightC V1 C1
                  · have AR := Lib.hid (rrightC_any A3 V1.length c3 V1 B4 C1.length k4 C1 _ hi5 hd5 true ⟨fun _ => hrc, fun _ => rfl⟩)
                    rw [hvl, hcl] at AR
                    have HF := Lib.hid (show tcL s = (V1, C1, s2, 0) by rw [HTH.out]; unfold formC; rw [if_pos hrc])
                    clear hrc hi5 hd5
                    go_wp2_with fail
                    go_at_call 9
                    refine AR.out.mono ?_
                    rintro e w5 ⟨rfl, hk5⟩
                    have HM9 := Lib.hid (HMD.out.kept hk5)
                    rw [hvl, hcl] at HM9
                    have b2 := HM9.out.c0
                    have b3 := HM9.out.c1
                    clear b0 b1
                    have f0 := hk5.cell e0
                    have f1 := hk5.cell e1
                    have ff0 := (hk5.2.1 ⟨w.heap.size, 0, none⟩ (World.block_lt_of_cell? _ _ e0)).trans ef0
                    have ff1 := (hk5.2.1 ⟨w.heap.size, 1, none⟩ (World.block_lt_of_cell? _ _ e1)).trans ef1
                    clear e0 e1 ef0 ef1
                    go_wp2_with fail
                    exact bodyPost_ret (by simp [results, Try.results14, go_sem, *]) rfl (TakeC.ok (U := U) HF.out (HKW.out.trans hk5) (Nat.le_refl _) (by have := HKU.out.2.2; have := HM9.out.lo; omega) HM9.out.iv HM9.out.dv)
                  · have AR := Lib.hid (rrightC_any A3 V1.length c3 V1 B4 C1.length k4 C1 _ hi5 hd5 false ⟨(fun h => by cases h), fun h => absurd h hrc⟩)
                    rw [hvl, hcl] at AR
                    have HF := Lib.hid (show tcL s = ([], [], ⟨#[]⟩, 3) by rw [HTH.out]; unfold formC; rw [if_neg hrc])
                    clear hrc hi5 hd5
                    go_wp2_with fail
                    go_at_call 9
                    refine AR.out.mono ?_
                    rintro e w5 ⟨rfl, hk5⟩
                    clear b0 b1
                    have f0 := hk5.cell e0
                    have f1 := hk5.cell e1
                    have ff0 := (hk5.2.1 ⟨w.heap.size, 0, none⟩ (World.block_lt_of_cell? _ _ e0)).trans ef0
                    have ff1 := (hk5.2.1 ⟨w.heap.size, 1, none⟩ (World.block_lt_of_cell? _ _ e1)).trans ef1
                    clear e0 e1 ef0 ef1
                    go_wp2_with fail
                    exact bodyPost_ret (by simp [results, Try.results14, go_sem, *]) rfl (TakeC.err HF.out (HKW.out.trans hk5) (Nat.le_refl _))
          · have p1 : ((z2 : Int) != 0) = true := by simp [hz2]
            have HF := Lib.hid (show tcL s = ([], [], ⟨#[]⟩, z2) by rw [HTF.out, if_pos hz2])
            clear hz2
            go_wp2_with fail
            go_at_call 45
            refine (AT2.out _).mono ?_
            rintro e w5 ⟨rfl, hk5⟩
            have f0 := hk5.cell e0
            have f1 := hk5.cell e1
            have ff0 := (hk5.2.1 ⟨w.heap.size, 0, none⟩ (World.block_lt_of_cell? _ _ e0)).trans ef0
            have ff1 := (hk5.2.1 ⟨w.heap.size, 1, none⟩ (World.block_lt_of_cell? _ _ e1)).trans ef1
            clear e0 e1 ef0 ef1
            go_wp2_with fail
            exact bodyPost_ret (by simp [results, Try.results14, go_sem, *]) rfl (TakeC.err HF.out (HKW.out.trans hk5) (Nat.le_refl _))
  · have d1 : ((z : Int) != 0) = true := by simp [hz]
    have HF := Lib.hid (show tcL s = ([], [], ⟨#[]⟩, z) by rw [HTC.out, if_pos hz])
    clear hz
    go_wp2_with fail
    go_at_call 45
    refine (AT.out _).mono ?_
    rintro e w1 ⟨rfl, hk1⟩
    have hx := HX.out.kept hk1
    have e0 := hx.c0; have e1 := hx.c1; have ef0 := hx.f 0; have ef1 := hx.f 1
    go_wp2_with fail
    exact bodyPost_ret (by simp [results, Try.results14, go_sem, *]) rfl (TakeC.err HF.out (((Kept.refl w).alloc _ _).trans hk1) (Nat.le_refl _))
end Go.Proofs.Ytgofecnpmohmgaa
