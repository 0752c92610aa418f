/-
  What is proved: varint.Int, Text, TakeInt and TakeText, called with any arguments (texts of up to 2^62 bytes), return what P1.4 to P1.6 say; the world has new blocks at most.
  plain facts on texts as lists of bytes, P1.7 over texts, and the contracts of varint's takes at named results.
  plain facts on numbers and texts as bytes (P1.1 to P1.7), over texts: what is put is taken, whatever follows; what is taken is put as these bytes; no program is spoken of here.
  of worlds that have all that another one has, unchanged, and new blocks of whatever kind ('Kept'): cells and variables read on; a region that draws its order, whose callees leave such worlds and hand back values that hang on no world, is walked once, in the text's order; the row's last step for a call whose arguments lie in no memory.
  a region that draws its order, in which the calls wait for one another and all else only reads what no call changes, is walked in one order: its reading operations hold in every world of a class, its calls are carried out in the world at hand, one by one, and may hand back values that hang on the world.
-/
import Derived.Test.YtjieofiaoepccaaGreatDoorM1
import Derived.Lib.Strings
import Derived.Sort.Grow
import Derived.ChangeSame
import Derived.OrdersHeld
import Derived.Deep.Quiet
namespace Go.Proofs.YtjieofiaoepccaaGreatDoor
open Go.RowKit

theorem int_any (b : ByteArray) (n : Int) (w : World) (h1 : -9223372036854775808 ≤ n) (h2 : n ≤ 9223372036854775807) (hb : b.size ≤ 4611686018427387904) :
    Calls Tryz.prog 86 #[.string b, .int .i64 n] w fun e w' => e = .returned (.string (b ++ putS (zigI n).toNat)) ∧ Grown w w' := by
  have hz := zig_bd n h1 h2
  obtain ⟨z, hzz⟩ : ∃ z : Nat, zigI n = (z : Int) := ⟨(zigI n).toNat, by omega⟩
  have hz1 : (zigI n).toNat = z := by omega
  rw [hz1]
  have HZ := Lib.hid hzz
  have hzl : z < 18446744073709551616 := by omega
  clear hz hzz hz1
  go_enter Tryz.func86, Tryz.ntmps86
  go_wp2_with (first | (go_at_call 97; refine (zig_any _ _ h1 h2).mono ?_; rintro e w' ⟨rfl, rfl⟩; rw [HZ.out]) | (go_at_call 43; refine (put_any _ _ _ hzl hb).mono ?_; rintro e w1 ⟨rfl, hg⟩))
  go_ret
  exact ⟨rfl, by assumption⟩

theorem text_any (b s : ByteArray) (w : World) (hb : b.size ≤ 2305843009213693952) (hs : s.size ≤ 2305843009213693952) :
    Calls Tryz.prog 71 #[.string b, .string s] w fun e w' => e = .returned (.string (b ++ putS s.size ++ s)) ∧ Grown w w' := by
  have hp := putS_size s.size
  have hbp : (b ++ putS s.size).size ≤ 2305843009213693962 := by rw [ByteArray.size_append]; omega
  go_enter Tryz.func71, Tryz.ntmps71
  go_wp2_with (go_at_call 43; refine (put_any _ _ _ (by omega) (by omega)).mono ?_; rintro e w1 ⟨rfl, hg⟩)
  go_ret
  exact ⟨rfl, by assumption⟩

theorem tkE_bd (s : ByteArray) : tkE s = 0 ∨ tkE s = 2 ∨ tkE s = 3 ∨ tkE s = 4 := (takeL_err _).1
theorem tkN_bd (s : ByteArray) : tkN s < 18446744073709551616 := takeL_bd _
theorem tk_bad (s : ByteArray) (h : tkE s ≠ 0) : tkN s = 0 ∧ tkR s = ⟨#[]⟩ := by
  have := (takeL_err s.data.toList).2 h
  exact ⟨this.1, by unfold tkR; rw [this.2]⟩
theorem tkR_size (s : ByteArray) : (tkR s).size ≤ s.size := tk_len s.data.toList 0 0

/-- P1.4. -/
def tiN (s : ByteArray) : Int := if tkE s = 0 then zagI (tkN s) else 0
theorem ret3i {a a' : Int} {r r' : ByteArray} {e e' : Int} (h1 : a = a') (h2 : r = r') (h3 : e = e') :
    Ending.returned (.tuple #[.int .i64 a, .string r, .int .i64 e]) = .returned (.tuple #[.int .i64 a', .string r', .int .i64 e']) := by rw [h1, h2, h3]
theorem ret3s {a a' : ByteArray} {r r' : ByteArray} {e e' : Int} (h1 : a = a') (h2 : r = r') (h3 : e = e') :
    Ending.returned (.tuple #[.string a, .string r, .int .i64 e]) = .returned (.tuple #[.string a', .string r', .int .i64 e']) := by rw [h1, h2, h3]

theorem takeInt_any (s : ByteArray) (w : World) (hs : s.size ≤ 9223372036854775807) :
    Calls Tryz.prog 82 #[.string s] w fun e w' => e = .returned (.tuple #[.int .i64 (tiN s), .string (tkR s), .int .i64 (tkE s)]) ∧ Grown w w' := by
  have hn := tkN_bd s
  by_cases h : tkE s = 0
  · have he : ((tkE s : Int) != 0) = false := by simp [h]
    have H := Lib.hid h
    clear h
    go_enter Tryz.func82, Tryz.ntmps82
    go_wp2_with (first | (go_at_call 30; refine (take_any _ _ hs).mono ?_; rintro e w1 ⟨rfl, hg⟩) | (go_at_call 92; refine (zag_any _ _ (by omega) (by omega)).mono ?_; rintro e w2 ⟨rfl, rfl⟩))
    go_ret3
    exact ⟨ret3i (by unfold tiN; rw [if_pos H.out]) rfl (by rw [H.out]; rfl), by assumption⟩
  · have he : ((tkE s : Int) != 0) = true := by simp [h]
    have H := Lib.hid h
    clear h
    go_enter Tryz.func82, Tryz.ntmps82
    go_wp2_with (first | (go_at_call 30; refine (take_any _ _ hs).mono ?_; rintro e w1 ⟨rfl, hg⟩) | (go_at_call 92; refine (zag_any _ _ (by omega) (by omega)).mono ?_; rintro e w2 ⟨rfl, rfl⟩))
    go_ret3
    exact ⟨ret3i (by unfold tiN; rw [if_neg H.out]) (tk_bad s H.out).2.symm rfl, by assumption⟩

/-- P1.6. -/
def ttL (s : ByteArray) (most : Int) : ByteArray × ByteArray × Nat :=
  if tkE s ≠ 0 then (⟨#[]⟩, ⟨#[]⟩, tkE s)
  else if most < 0 ∨ most < (tkN s : Int) then (⟨#[]⟩, ⟨#[]⟩, 4)
  else if (tkR s).size < tkN s then (⟨#[]⟩, ⟨#[]⟩, 2)
  else ((tkR s).extract 0 (tkN s), (tkR s).extract (tkN s) (tkR s).size, 0)
def ttT (s : ByteArray) (most : Int) : ByteArray := (ttL s most).1
def ttR (s : ByteArray) (most : Int) : ByteArray := (ttL s most).2.1
def ttE (s : ByteArray) (most : Int) : Nat := (ttL s most).2.2
theorem tt_of {s : ByteArray} {most : Int} {a b : ByteArray} {e : Nat} (h : ttL s most = (a, b, e)) : a = ttT s most ∧ b = ttR s most ∧ e = ttE s most := by
  unfold ttT ttR ttE; rw [h]; exact ⟨rfl, rfl, rfl⟩

set_option maxRecDepth 100000 in
theorem takeText_any (s : ByteArray) (most : Int) (w : World) (hs : s.size ≤ 9223372036854775807) (h1 : -9223372036854775808 ≤ most) (h2 : most ≤ 9223372036854775807) :
    Calls Tryz.prog 60 #[.string s, .int .i64 most] w fun e w' => e = .returned (.tuple #[.string (ttT s most), .string (ttR s most), .int .i64 (ttE s most)]) ∧ Grown w w' := by
  have hn := tkN_bd s
  have hr := tkR_size s
  by_cases h : tkE s = 0
  · have he : ((tkE s : Int) != 0) = false := by simp [h]
    by_cases hm : most < 0
    · have HR := Lib.hid (tt_of (s := s) (most := most) (by unfold ttL; rw [if_neg (by omega), if_pos (by omega)]))
      have hmb : decide (most < 0) = true := by simpa using hm
      have H := Lib.hid h
      clear h
      go_enter Tryz.func60, Tryz.ntmps60
      go_wp2_with (go_at_call 30; refine (take_any _ _ hs).mono ?_; rintro e w1 ⟨rfl, hg⟩)
      go_ret3
      exact ⟨ret3s HR.out.1 HR.out.2.1 (by rw [← HR.out.2.2]; rfl), by assumption⟩
    by_cases hl : most < (tkN s : Int)
    · have HR := Lib.hid (tt_of (s := s) (most := most) (by unfold ttL; rw [if_neg (by omega), if_pos (by omega)]))
      have hmb : decide (most < 0) = false := by simpa using hm
      have hlb : decide (most < (tkN s : Int)) = true := by simpa using hl
      have H := Lib.hid h
      clear h
      go_enter Tryz.func60, Tryz.ntmps60
      go_wp2_with (go_at_call 30; refine (take_any _ _ hs).mono ?_; rintro e w1 ⟨rfl, hg⟩)
      go_ret3
      exact ⟨ret3s HR.out.1 HR.out.2.1 (by rw [← HR.out.2.2]; rfl), by assumption⟩
    by_cases hz : (tkR s).size < tkN s
    · have HR := Lib.hid (tt_of (s := s) (most := most) (by unfold ttL; rw [if_neg (by omega), if_neg (by omega), if_pos hz]))
      have hmb : decide (most < 0) = false := by simpa using hm
      have hlb : decide (most < (tkN s : Int)) = false := by simpa using hl
      have hzb : decide ((tkR s).size < tkN s) = true := by simpa using hz
      have H := Lib.hid h
      clear h
      go_enter Tryz.func60, Tryz.ntmps60
      go_wp2_with (go_at_call 30; refine (take_any _ _ hs).mono ?_; rintro e w1 ⟨rfl, hg⟩)
      go_ret3
      exact ⟨ret3s HR.out.1 HR.out.2.1 (by rw [← HR.out.2.2]; rfl), by assumption⟩
    · have HR := Lib.hid (tt_of (s := s) (most := most) (by unfold ttL; rw [if_neg (by omega), if_neg (by omega), if_neg hz]))
      have hmb : decide (most < 0) = false := by simpa using hm
      have hlb : decide (most < (tkN s : Int)) = false := by simpa using hl
      have hzb : decide ((tkR s).size < tkN s) = false := by simpa using hz
      have H := Lib.hid h
      clear h
      go_enter Tryz.func60, Tryz.ntmps60
      go_wp2_with (go_at_call 30; refine (take_any _ _ hs).mono ?_; rintro e w1 ⟨rfl, hg⟩)
      go_quiet (fail)
      go_wp2
      go_ret3
      exact ⟨ret3s HR.out.1 HR.out.2.1 (by rw [← HR.out.2.2]; rfl), grown_trans hg (grown_drewN _ _)⟩
  · have he : ((tkE s : Int) != 0) = true := by simp [h]
    have HR := Lib.hid (tt_of (s := s) (most := most) (by unfold ttL; rw [if_pos h]))
    clear h
    go_enter Tryz.func60, Tryz.ntmps60
    go_wp2_with (go_at_call 30; refine (take_any _ _ hs).mono ?_; rintro e w1 ⟨rfl, hg⟩)
    go_ret3
    exact ⟨ret3s HR.out.1 HR.out.2.1 (by rw [← HR.out.2.2]), by assumption⟩
end Go.Proofs.YtjieofiaoepccaaGreatDoor

namespace Go.Proofs.YtjieofiaoepccaaGreatDoor
open Go.RowKit

theorem ba_ext {a b : ByteArray} (h : a.data.toList = b.data.toList) : a = b := ByteArray.ext (Array.ext' h)
theorem ba_app (a b : ByteArray) : (a ++ b).data.toList = a.data.toList ++ b.data.toList := by rw [ByteArray.data_append, Array.toList_append]
theorem ba_size (a : ByteArray) : a.size = a.data.toList.length := rfl
theorem put_app (n : Nat) (s : ByteArray) : ((⟨#[]⟩ : ByteArray) ++ putS n ++ s).data.toList = putL n ++ s.data.toList := by
  rw [ba_app, ba_app]; rfl
theorem put_app_size (n : Nat) (s : ByteArray) : ((⟨#[]⟩ : ByteArray) ++ putS n ++ s).size ≤ 10 + s.size := by
  rw [ba_size, put_app, List.length_append, ← ba_size]; have := putL_le n; omega

/-- P1.7 over texts. -/
theorem tk_put (n : Nat) (s : ByteArray) (h : n < 18446744073709551616) :
    tkN (⟨#[]⟩ ++ putS n ++ s) = n ∧ tkR (⟨#[]⟩ ++ putS n ++ s) = s ∧ tkE (⟨#[]⟩ ++ putS n ++ s) = 0 := by
  unfold tkN tkR tkE
  rw [put_app, take_putL n _ h]
  exact ⟨rfl, rfl, rfl⟩
theorem tk_back (s : ByteArray) (h : tkE s = 0) : (⟨#[]⟩ : ByteArray) ++ putS (tkN s) ++ tkR s = s := by
  apply ba_ext
  rw [put_app]
  exact (put_takeL s.data.toList _ (tkN s) (by rw [← h]; rfl)).1

theorem take_c (s : ByteArray) (n : Int) (r : ByteArray) (k : Int) (hn : (tkN s : Int) = n) (hr : tkR s = r) (hk : (tkE s : Int) = k) (hs : s.size ≤ 9223372036854775807) (w : World) :
    Calls Tryz.prog 30 #[.string s] w fun e w' => e = .returned (.tuple #[.int .u64 n, .string r, .int .i64 k]) ∧ Grown w w' := by
  subst hn hr hk; exact take_any s w hs
theorem takeInt_c (s : ByteArray) (n : Int) (r : ByteArray) (k : Int) (hn : tiN s = n) (hr : tkR s = r) (hk : (tkE s : Int) = k) (hs : s.size ≤ 9223372036854775807) (w : World) :
    Calls Tryz.prog 82 #[.string s] w fun e w' => e = .returned (.tuple #[.int .i64 n, .string r, .int .i64 k]) ∧ Grown w w' := by
  subst hn hr hk; exact takeInt_any s w hs
theorem takeText_c (s : ByteArray) (m : Int) (t : ByteArray) (r : ByteArray) (k : Int) (hn : ttT s m = t) (hr : ttR s m = r) (hk : (ttE s m : Int) = k) (hs : s.size ≤ 9223372036854775807) (h0 : -9223372036854775808 ≤ m) (h1 : m ≤ 9223372036854775807) (w : World) :
    Calls Tryz.prog 60 #[.string s, .int .i64 m] w fun e w' => e = .returned (.tuple #[.string t, .string r, .int .i64 k]) ∧ Grown w w' := by
  subst hn hr hk; exact takeText_any s m w hs h0 h1
end Go.Proofs.YtjieofiaoepccaaGreatDoor

namespace Go.Proofs.YtjieofiaoepccaaGreatDoor
open Go.RowKit

theorem ba_assoc (a b c : ByteArray) : a ++ b ++ c = a ++ (b ++ c) := by
  apply ba_ext
  simp only [ba_app, List.append_assoc]
theorem ba_nil (a : ByteArray) : (⟨#[]⟩ : ByteArray) ++ a = a := by
  apply ba_ext
  rw [ba_app]; rfl
theorem ba_nil_r (a : ByteArray) : a ++ (⟨#[]⟩ : ByteArray) = a := by
  apply ba_ext
  rw [ba_app]
  show _ ++ [] = _
  rw [List.append_nil]
theorem tk_fore (n : Nat) (s : ByteArray) (h : n < 18446744073709551616) : tkN (putS n ++ s) = n ∧ tkR (putS n ++ s) = s ∧ tkE (putS n ++ s) = 0 := by
  have := tk_put n s h
  rwa [ba_nil] at this
theorem ti_fore (x : Int) (s : ByteArray) (h1 : -9223372036854775808 ≤ x) (h2 : x ≤ 9223372036854775807) : tiN (putS (zigI x).toNat ++ s) = x ∧ tkR (putS (zigI x).toNat ++ s) = s ∧ tkE (putS (zigI x).toNat ++ s) = 0 := by
  have hb := zig_bd x h1 h2
  obtain ⟨p1, p2, p3⟩ := tk_fore (zigI x).toNat s (by omega)
  refine ⟨?_, p2, p3⟩
  unfold tiN
  rw [if_pos p3, p1, show (((zigI x).toNat : Nat) : Int) = zigI x by omega, zag_zig]
theorem tk_aft (s : ByteArray) (h : tkE s = 0) : putS (tkN s) ++ tkR s = s := by
  have := tk_back s h
  rwa [ba_nil] at this
theorem ti_aft (s : ByteArray) (h : tkE s = 0) : putS (zigI (tiN s)).toNat ++ tkR s = s := by
  have e : (zigI (tiN s)).toNat = tkN s := by
    unfold tiN
    rw [if_pos h, zig_zag _ (by omega)]
    exact Int.toNat_natCast _
  rw [e]
  exact tk_aft s h
theorem putS_pos (n : Nat) : 1 ≤ (putS n).size := by
  show 1 ≤ (putL n).toArray.size
  rw [List.size_toArray]
  unfold putL
  rw [putF]
  split <;> simp
theorem ext_fore (t x : ByteArray) : (t ++ x).extract 0 t.size = t ∧ (t ++ x).extract t.size (t ++ x).size = x := by
  constructor
  · apply ba_ext
    rw [Lib.extract_data, ba_app, List.drop_zero, Nat.sub_zero, ba_size, List.take_left]
  · apply ba_ext
    rw [Lib.extract_data, ba_app, ByteArray.size_append, ba_size, List.drop_left, List.take_of_length_le (by rw [ba_size x]; omega)]
theorem ext_aft (s : ByteArray) (n : Nat) : s.extract 0 n ++ s.extract n s.size = s := by
  have e : (s.data.toList.drop n).take (s.size - n) = s.data.toList.drop n := List.take_of_length_le (by rw [List.length_drop, ← ba_size]; omega)
  apply ba_ext
  rw [ba_app, Lib.extract_data, Lib.extract_data, List.drop_zero, Nat.sub_zero, e, List.take_append_drop]
theorem tt_fore (t x : ByteArray) (m : Int) (ht : (t.size : Int) ≤ m) (hm : m ≤ 9223372036854775807) : ttL (putS t.size ++ (t ++ x)) m = (t, x, 0) := by
  obtain ⟨h1, h2, h3⟩ := tk_fore t.size (t ++ x) (by omega)
  unfold ttL
  rw [h1, h2, h3, if_neg (by omega), if_neg (by omega), if_neg (by rw [ByteArray.size_append]; omega), (ext_fore t x).1, (ext_fore t x).2]
theorem tt_aft (s : ByteArray) (m : Int) (h : ttE s m = 0) : putS (ttT s m).size ++ (ttT s m ++ ttR s m) = s ∧ ((ttT s m).size : Int) ≤ m ∧ (ttT s m).size ≤ s.size := by
  unfold ttE ttL at h
  unfold ttT ttR ttL
  by_cases h1 : tkE s ≠ 0
  · rw [if_pos h1] at h; exact absurd h h1
  rw [if_neg h1] at h ⊢
  by_cases h2 : m < 0 ∨ m < (tkN s : Int)
  · rw [if_pos h2] at h; simp at h
  rw [if_neg h2] at h ⊢
  by_cases h3 : (tkR s).size < tkN s
  · rw [if_pos h3] at h; simp at h
  rw [if_neg h3]
  have hn : ((tkR s).extract 0 (tkN s)).size = tkN s := by rw [ByteArray.size_extract]; omega
  have hr := tkR_size s
  refine ⟨?_, by rw [hn]; omega, by rw [hn]; omega⟩
  show putS ((tkR s).extract 0 (tkN s)).size ++ ((tkR s).extract 0 (tkN s) ++ (tkR s).extract (tkN s) (tkR s).size) = s
  rw [hn, ext_aft]
  exact tk_aft s (by omega)
end Go.Proofs.YtjieofiaoepccaaGreatDoor

namespace Go.Proofs.YtjieofiaoepccaaGreatDoor
open Go.RowKit Go.WideShapes Go.ChangeShapes

def Kept (W w : World) : Prop := W.keptBut w (fun _ => False) ∧ (∀ a : Addr, a.block < W.heap.size → w.frozen? a = W.frozen? a) ∧ W.heap.size ≤ w.heap.size
theorem Kept.refl (W : World) : Kept W W := ⟨World.keptBut_refl _ _, fun _ _ => rfl, Nat.le_refl _⟩
theorem Kept.trans {a b c : World} (h1 : Kept a b) (h2 : Kept b c) : Kept a c :=
  ⟨World.keptBut_trans h1.1 h2.1, fun x hx => (h2.2.1 x (Nat.lt_of_lt_of_le hx h1.2.2)).trans (h1.2.1 x hx), Nat.le_trans h1.2.2 h2.2.2⟩
theorem kept_of {a b : World} (h : Grown a b) : Kept a b := ⟨h.1, fun x _ => h.2.1 x, h.2.2⟩
theorem Kept.alloc {W w : World} (h : Kept W w) (c : Array Value) (t : TypeId) : Kept W (w.alloc (.cells c t)) := h.trans (kept_of ((Grown.refl _).alloc _ _))
theorem Kept.drew {W w : World} (h : Kept W w) : Kept W w.drew := h
theorem Kept.frame {W w : World} (h : Kept W w) (may : MemPlace → Prop) : W.keptBut w may := World.keptBut_mono (fun _ f => f.elim) h.1
theorem Kept.cell {w w1 : World} (hg : Kept w w1) {b o : Nat} {v : Value} (hc : w.cell? ⟨b, o, none⟩ = some v) : w1.cell? ⟨b, o, none⟩ = some v := by
  rw [hg.1.cell (World.block_lt_of_cell? w _ hc) (by simp)]
  exact hc
theorem Kept.box {w w1 : World} {c : Array Value} {t : TypeId} (hg : Kept (w.alloc (.cells c t)) w1) (i : Nat) (v : Value) (hv : c[i]? = some v) : w1.cell? ⟨w.heap.size, i, none⟩ = some v := by
  rw [hg.1.cell (by simp) (by simp), World.cell?_alloc_new]
  exact hv
theorem kept_grow (w : World) (k : Nat) (os : Array Obj) : Kept w (Sort.grow (w.drewN k) os) := by
  refine ⟨⟨rfl, rfl, fun i hi => ?_⟩, fun a ha => Sort.frozen?_grow (w.drewN k) os a ha, by rw [Sort.size_grow]; exact Nat.le_add_right _ _⟩
  have e : (Sort.grow (w.drewN k) os).heap[i]? = w.heap[i]? := Sort.heap_grow_old (w.drewN k) os hi
  have := (World.keptBut_refl w (fun _ => False)).2.2 i hi
  rw [e]
  exact this

theorem Kept.var {P : Program} {w w' : World} {n : String} {cs : Array Value} (h : w.var? P n = some cs) (hg : Kept w w') : w'.var? P n = some cs := by
  unfold World.var? at h ⊢
  cases hn : P.globalNamed n with
  | none => rw [hn] at h; cases h
  | some g =>
    rw [hn] at h
    simp only [Option.bind_some] at h ⊢
    have hlt : g < w.heap.size := by
      rcases Nat.lt_or_ge g w.heap.size with h' | h'
      · exact h'
      · rw [Array.getElem?_eq_none h'] at h; cases h
    have hk := hg.1.2.2 g hlt
    cases h1 : w.heap[g]? with
    | none => rw [h1] at h; cases h
    | some o =>
      rw [h1] at h hk
      cases o with
      | cells c t fr =>
        simp only [Option.some.injEq] at h
        subst h
        cases h2 : w'.heap[g]? with
        | none => rw [h2] at hk; simp at hk
        | some o' =>
          rw [h2] at hk
          cases o' with
          | cells c' t' fr' =>
            obtain ⟨_, _, hs, hc⟩ := hk
            simp only [Option.some.injEq]
            apply Array.ext hs
            intro i h3 h4
            have := hc i (fun f => f)
            rw [Array.getElem?_eq_getElem h3, Array.getElem?_eq_getElem h4] at this
            exact Option.some.inj this
          | _ => simp at hk
      | _ => simp at h

/-- A world that has all that W has, unchanged. -/
structure KExt (W : World) where
  w : World
  g : Kept W w
instance (W : World) : Nonempty (KExt W) := ⟨⟨W, Kept.refl W⟩⟩
theorem KExt.cell {W : World} {b o : Nat} {v : Value} (hc : W.cell? ⟨b, o, none⟩ = some v) (g : KExt W) : g.w.cell? ⟨b, o, none⟩ = some v := g.g.cell hc

theorem region_kept {P : Program} (W : World) {id : Nat} {Q : Exit → Act → World → Prop} {a : Act} {w : World} {l : List Oper} (hm : P.follows .mixedOrders = true) (hB : Region.lexB .any l.toArray = true) (h0 : Kept W w)
    (h : wpQuiet P l.toArray (fun w' => ∃ g : KExt W, w' = g.w) (fun a' => ∀ g : KExt W, Q .normal a' g.w) l a) : (Code.region id l.toArray true).wp P Q a w := by
  refine wp_region_quiet (C := fun w' => ∃ g : KExt W, w' = g.w) hm hB ⟨⟨w.drew, h0⟩, rfl⟩ ?_
  have e : (fun a' => ∀ w', (∃ g : KExt W, w' = g.w) → Q .normal a' w') = (fun a' => ∀ g : KExt W, Q .normal a' g.w) := by
    funext a'
    exact propext ⟨fun h g => h _ ⟨g, rfl⟩, fun h w' ⟨g, hg⟩ => hg ▸ h g⟩
  rw [e, List.toList_toArray]
  exact h
theorem KExt.calls {P : Program} {f : FuncId} {args : Array Value} {W : World} {g : KExt W} {v : Value} (h : Calls P f args g.w fun e w' => e = .returned v ∧ Grown g.w w') :
    Calls P f args g.w fun e w' => e = .returned v ∧ ∃ g' : KExt W, w' = g'.w :=
  h.mono fun _ _ ⟨he, hg⟩ => ⟨he, ⟨_, g.g.trans (kept_of hg)⟩, rfl⟩
theorem KExt.callsK {P : Program} {f : FuncId} {args : Array Value} {W : World} {g : KExt W} {v : Value} (h : Calls P f args g.w fun e w' => e = .returned v ∧ Kept g.w w') :
    Calls P f args g.w fun e w' => e = .returned v ∧ ∃ g' : KExt W, w' = g'.w :=
  h.mono fun _ _ ⟨he, hg⟩ => ⟨he, ⟨_, g.g.trans hg⟩, rfl⟩
theorem KExt.same {P : Program} {f : FuncId} {args : Array Value} {W : World} {g : KExt W} {v : Value} (h : Calls P f args g.w fun e w' => e = .returned v ∧ g.w = w') :
    Calls P f args g.w fun e w' => e = .returned v ∧ ∃ g' : KExt W, w' = g'.w :=
  h.mono fun _ _ ⟨he, hw⟩ => ⟨he, g, hw.symm⟩

/-- The row's last step: the arguments lie in no memory, no variable is told of. -/
theorem post_kept {H : Type} {enc : TypeId × Value → H} {P : Program} {f : Func} {s : ChangeSpec} {apart fresh handsOn again : Bool} {W W' : World} {args : Array Value} {v : Value} {ds gs : List (DataW H)}
    (hW : DataW.Whole enc P f.params.toList s.vars apart W args.toList ds gs [])
    (hres : ∀ (b : Nat) (sp : Nat → Bool) (hd : Bool), DataW.TrodAll enc P W' b sp hd f.resultTypes.toList (v.resultList f.resultTypes.size) (s.fn H (ds ++ gs)).results [])
    (hargs : ∀ sp : Nat → Bool, DataW.TrodAll enc P W' 0 sp true f.params.toList args.toList (s.fn H (ds ++ gs)).args [])
    (hvars : ∀ sp : Nat → Bool, DataW.TrodVars enc P W' sp s.vars (s.fn H (ds ++ gs)).vars [])
    (hk : Kept W W')
    (hok : ∀ (j : Nat) (t : TypeId) (r : Value), f.resultTypes[j]? = some t → (v.resultList f.resultTypes.size)[j]? = some r → Value.okWide P W' .any 0 t r) :
    s.post enc P f apart fresh handsOn again W args v W' := by
  refine ⟨ds, gs, [], [], [], [], hW, hres _ _ _, hargs _, hvars _, hk.frame _, fun _ => ?_⟩
  exact ⟨hok, _, _, [] ++ [] ++ [], ⟨[] ++ [], [], trodAll_append (hargs _) (hres _ _ _), hvars _, rfl, fun b off hp => by simp at hp, fun _ => by simp⟩, fun p hp _ => by simp at hp⟩
end Go.Proofs.YtjieofiaoepccaaGreatDoor

namespace Go.Proofs.YtjieofiaoepccaaGreatDoor
open Go.RowKit

def soloQ (K : Act → World → Prop) : Exit → Act → World → Prop
  | .normal, a, w => K a w
  | _, _, _ => False
theorem soloQ_mk {K : Act → World → Prop} {a : Act} {w : World} (h : K a w) : soloQ K .normal a w := h
theorem wp_of_solo {P : Program} {o : Oper} {a : Act} {w : World} {K K' : Act → World → Prop} {Q : Exit → Act → World → Prop} (h : o.wp P a w K (soloQ K')) : o.wp P a w K Q := by
  unfold Oper.wp at *
  generalize (execOp a.eval o).run P w = r at *
  cases r with
  | ok n w' =>
    cases n <;> simp only [Oper.upon] at h ⊢ <;>
      first
        | exact h
        | exact Calls.mono h (fun e w'' he => by
            cases e with
            | returned v => exact he
            | panicked c => exact (he : False).elim
            | outgrown => obtain ⟨_, _, hf⟩ := he; exact (hf : False).elim)
  | halt x w' =>
    cases x <;> simp only [Oper.upon] at h ⊢
    case panic v => exact (h : False).elim

/-- Operations that yield a value, and enter no function. -/
def plainOp : Op → Bool
  | .move _ | .assign _ | .pick _ _ _ | .build _ _ | .load _ _ | .binOp _ _ _ _ _ | .unOp _ _ _ | .extract _ _ | .fieldAddr _ _ _ | .indexAddr _ _ _ | .slice _ _ _ _ _ | .convert _ _ _ | .index _ _ _ | .field _ _ _ => true
  | .call { callee := .builtin .len, .. } => true
  | _ => false

theorem run_bind_value {P : Program} {s : Sem Value} {w w' : World} {n : Next} (h : (do pure (Next.value (← s)) : Sem Next).run P w = .ok n w') : ∃ u, n = .value u := by
  rw [Sem.run_bind] at h
  cases hs : s.run P w with
  | ok v w1 =>
    rw [hs] at h
    simp only [Result.andThen, Sem.run_pure] at h
    cases h; exact ⟨_, rfl⟩
  | halt x w1 => rw [hs] at h; simp only [Result.andThen] at h; cases h
theorem plain_value {P : Program} {o : Oper} {ev : Operand → Value} {w w' : World} {n : Next} (hp : plainOp o.op = true) (h : (execOp ev o).run P w = .ok n w') : ∃ u, n = .value u := by
  unfold execOp at h
  cases ho : o.op with
  | move x => rw [ho] at h; cases h; exact ⟨_, rfl⟩
  | assign x => rw [ho] at h; cases h; exact ⟨_, rfl⟩
  | pick c a b =>
    rw [ho] at h
    simp only [Sem.run_bind] at h
    cases hs : (asBool (ev c)).run P w with
    | ok v w1 => rw [hs] at h; simp only [Result.andThen, Sem.run_pure] at h; cases h; exact ⟨_, rfl⟩
    | halt x w1 => rw [hs] at h; simp only [Result.andThen] at h; cases h
  | build t p => rw [ho] at h; exact run_bind_value h
  | load t x => rw [ho] at h; exact run_bind_value h
  | binOp a b c d e => rw [ho] at h; exact run_bind_value h
  | unOp a b c => rw [ho] at h; exact run_bind_value h
  | extract a b => rw [ho] at h; exact run_bind_value h
  | fieldAddr a b c => rw [ho] at h; exact run_bind_value h
  | indexAddr a b c => rw [ho] at h; exact run_bind_value h
  | slice a b c d e => rw [ho] at h; exact run_bind_value h
  | convert a b c => rw [ho] at h; exact run_bind_value h
  | index a b c => rw [ho] at h; exact run_bind_value h
  | field a b c => rw [ho] at h; exact run_bind_value h
  | call c =>
    rw [ho] at h hp
    obtain ⟨callee, args, argTypes⟩ := c
    cases callee with
    | builtin b =>
      cases b <;> simp only [plainOp, Bool.false_eq_true] at hp
      simp only [resolve, invoke, builtin, Sem.run_bind, Sem.run_pure, Result.andThen] at h
      cases hs : (Builtin.len_ argTypes o.type (args.map ev)).run P w with
      | ok v w1 => rw [hs] at h; cases h; exact ⟨_, rfl⟩
      | halt x w1 => rw [hs] at h; cases h
    | _ => simp [plainOp] at hp
  | _ => rw [ho] at hp; simp [plainOp] at hp

section
variable {P : Program} {ops : Array Oper} {Q : Exit → Act → World → Prop} {C : World → Prop}

def consO : Option Oper → List Oper → List Oper
  | some o, r => o :: r
  | none, r => r
theorem consO_some (o : Oper) (r : List Oper) : consO (some o) r = o :: r := rfl
def pickOps (L : List Oper) : List Nat → List Oper
  | [] => []
  | i :: r => consO L[i]? (pickOps L r)
theorem pickOps_nil (L : List Oper) : pickOps L [] = [] := rfl
theorem pickOps_cons (L : List Oper) (i : Nat) (r : List Nat) : pickOps L (i :: r) = consO L[i]? (pickOps L r) := rfl
def okAt (ops : Array Oper) (listed : Array Bool) (i : Nat) : Bool := (Region.ready .any ops listed).contains i && (Region.free .any ops listed i && match ops[i]? with | some o => plainOp o.op | none => false)
def quietB (ops : Array Oper) : List Nat → Array Bool → Option (Array Bool)
  | [], listed => some listed
  | i :: r, listed => if okAt ops listed i = true then quietB ops r (listed.setIfInBounds i true) else none
def mixB (ops : Array Oper) : List (List Nat × Option Nat) → Array Bool → Bool
  | [], listed => (Region.ready .any ops listed).isEmpty
  | (l, x) :: r, listed => match quietB ops l listed with
    | none => false
    | some y => match x with
      | none => mixB ops r y
      | some i => Region.ready .any ops y == [i] && (ops[i]?).isSome && mixB ops r (y.setIfInBounds i true)
def mixN : List (List Nat × Option Nat) → Nat
  | [] => 0
  | (l, none) :: r => mixN r + l.length
  | (l, some _) :: r => mixN r + 1 + l.length

/-- The walk: a part that only reads, then a call. -/
def wpMix (P : Program) (ops : Array Oper) (C : World → Prop) (Q : Exit → Act → World → Prop) : List (List Nat × Option Nat) → Act → World → Prop
  | [], a, w => Q .normal a w
  | (l, none) :: r, a, w => wpQuiet P ops C (fun a' => wpMix P ops C Q r a' w) (pickOps ops.toList l) a
  | (l, some i) :: r, a, w => wpQuiet P ops C (fun a' => wpList P ops (soloQ fun a'' w'' => C w'' ∧ wpMix P ops C Q r a'' w'') (pickOps ops.toList [i]) a' w) (pickOps ops.toList l) a

theorem quiet_any (hs : Region.noSelect ops = true) (hQ : ∀ c d v a w, Q (.panic c) (Act.put a d v) w → Q (.panic c) a w) : ∀ (l : List Nat) (listed y : Array Bool) (fuel : Nat) (a : Act) (w : World) (K : Act → Prop),
    quietB ops l listed = some y → C w → wpQuiet P ops C K (pickOps ops.toList l) a → (∀ a', K a' → wpAnyH P .any ops Q C fuel y a' w) → wpAnyH P .any ops Q C (fuel + l.length) listed a w
  | [], listed, y, fuel, a, w, K, hB, hC, h, hK => by
    simp only [quietB, Option.some.injEq] at hB
    subst hB
    exact hK _ h
  | i :: r, listed, y, fuel, a, w, K, hB, hC, h, hK => by
    simp only [quietB] at hB
    split at hB
    · rename_i hc
      unfold okAt at hc
      rw [Bool.and_eq_true, Bool.and_eq_true] at hc
      obtain ⟨hr, hf, hp⟩ := hc
      cases ho : ops[i]? with
      | none => rw [ho] at hp; simp at hp
      | some o =>
        rw [ho] at hp
        have e : pickOps ops.toList (i :: r) = o :: pickOps ops.toList r := by
          rw [pickOps_cons, show ops.toList[i]? = some o by rw [Array.getElem?_toList]; exact ho, consO_some]
        rw [e] at h
        simp only [wpQuiet] at h
        have go : ∀ v, YieldsIf P ops C o v a → wpQuiet P ops C K (pickOps ops.toList r) (a.put o.dst v) → wpAnyH P .any ops Q C (fuel + (i :: r).length) listed a w := fun v hy hn =>
          wpAnyH_take (fuel := fuel + r.length) ho hs hf hr (fun c a w h => hQ c _ _ _ w h) hy hC (quiet_any hs hQ r _ y fuel _ w K hB hC hn hK)
        by_cases hw : Region.wanted o (yielded ops a.tmps) = true
        · rw [if_pos hw] at h
          obtain ⟨v, hv, hn⟩ := h
          refine go v (.inl ⟨hw, fun w' hC' => ?_⟩) hn
          have h3 := hv w' hC'
          unfold Oper.quietAt at h3
          cases hx : (execOp a.eval o).run P w' with
          | halt x w1 => rw [hx] at h3; exact (h3 : False).elim
          | ok n w1 =>
            obtain ⟨u, rfl⟩ := plain_value hp hx
            rw [hx] at h3
            obtain ⟨rfl, rfl⟩ := h3
            rfl
        · rw [if_neg hw] at h
          exact go undef (.inr ⟨by simpa using hw, rfl⟩) h
    · cases hB

theorem mix_any (hs : Region.noSelect ops = true) (hQ : ∀ c d v a w, Q (.panic c) (Act.put a d v) w → Q (.panic c) a w) : ∀ (S : List (List Nat × Option Nat)) (listed : Array Bool) (a : Act) (w : World),
    mixB ops S listed = true → C w → wpMix P ops C Q S a w → wpAnyH P .any ops Q C (mixN S) listed a w
  | [], listed, a, w, hB, hC, h => by
    simp only [mixB, List.isEmpty_iff] at hB
    exact wpAnyH_done hB h _
  | (l, x) :: r, listed, a, w, hB, hC, h => by
    simp only [mixB] at hB
    cases hq : quietB ops l listed with
    | none => rw [hq] at hB; simp at hB
    | some y =>
      rw [hq] at hB
      cases x with
      | none => exact quiet_any hs hQ l listed y (mixN r) a w _ hq hC h fun a' h' => mix_any hs hQ r y a' w hB hC h'
      | some i =>
        simp only [Bool.and_eq_true, beq_iff_eq] at hB
        obtain ⟨⟨hr, hi⟩, hB⟩ := hB
        obtain ⟨o, ho⟩ := Option.isSome_iff_exists.1 hi
        refine quiet_any hs hQ l listed y (mixN r + 1) a w _ hq hC h fun a' h' => ?_
        have e : pickOps ops.toList [i] = [o] := by
          rw [pickOps_cons, show ops.toList[i]? = some o by rw [Array.getElem?_toList]; exact ho, consO_some, pickOps_nil]
        rw [e] at h'
        refine wpAnyH_all hr (by simp) fun j hj => ?_
        obtain rfl : j = i := by simpa using hj
        unfold wpOp
        simp only [ho]
        simp only [wpList] at h'
        by_cases hw : Region.wanted o (yielded ops a'.tmps) = true
        · rw [if_pos hw] at h' ⊢
          rcases h' with h' | ⟨_, _, _, hf⟩
          · exact .inl (Oper.wp_mono (fun a2 w2 h2 => ⟨h2.1, mix_any hs hQ r _ a2 w2 hB h2.1 h2.2⟩) (wp_of_solo h'))
          · exact (hf : False).elim
        · rw [if_neg hw] at h' ⊢
          exact ⟨hC, mix_any hs hQ r _ _ w hB hC h'.2⟩
end

theorem wpMix_call {P : Program} {ops : Array Oper} {C : World → Prop} {Q : Exit → Act → World → Prop} {l : List Nat} {i : Nat} {r : List (List Nat × Option Nat)} {a : Act} {w : World} :
    wpMix P ops C Q ((l, some i) :: r) a w = wpQuiet P ops C (fun a' => wpList P ops (soloQ fun a'' w'' => C w'' ∧ wpMix P ops C Q r a'' w'') (pickOps ops.toList [i]) a' w) (pickOps ops.toList l) a := rfl
theorem wpMix_read {P : Program} {ops : Array Oper} {C : World → Prop} {Q : Exit → Act → World → Prop} {l : List Nat} {r : List (List Nat × Option Nat)} {a : Act} {w : World} :
    wpMix P ops C Q ((l, none) :: r) a w = wpQuiet P ops C (fun a' => wpMix P ops C Q r a' w) (pickOps ops.toList l) a := rfl
theorem wpMix_nil {P : Program} {ops : Array Oper} {C : World → Prop} {Q : Exit → Act → World → Prop} {a : Act} {w : World} (h : Q .normal a w) : wpMix P ops C Q [] a w := h
theorem soloQ_both {W : World} {P : Program} {ops : Array Oper} {Q : Exit → Act → World → Prop} {r : List (List Nat × Option Nat)} {a : Act} {w : World} (hk : Kept W w) (h : wpMix P ops (fun w' => ∃ g : KExt W, w' = g.w) Q r a w) :
    soloQ (fun a'' w'' => (∃ g : KExt W, w'' = g.w) ∧ wpMix P ops (fun w' => ∃ g : KExt W, w' = g.w) Q r a'' w'') .normal a w := ⟨⟨⟨w, hk⟩, rfl⟩, h⟩

/-- The region, walked in the order S. -/
theorem region_mix {P : Program} (W : World) {id : Nat} {Q : Exit → Act → World → Prop} {a : Act} {w : World} {l : List Oper} (S : List (List Nat × Option Nat)) (hm : P.follows .mixedOrders = true) (hs : Region.noSelect l.toArray = true) (hn : mixN S = l.length)
    (hB : mixB l.toArray S (Array.replicate l.length false) = true) (hQ : ∀ c d v a w, Q (.panic c) (Act.put a d v) w → Q (.panic c) a w) (h0 : Kept W w)
    (h : ∀ wd : World, Kept w wd → wpMix P l.toArray (fun w' => ∃ g : KExt W, w' = g.w) Q S a wd) : (Code.region id l.toArray true).wp P Q a w := by
  refine wp_region_held (S := fun w' => ∃ g : KExt W, w' = g.w) hm ?_
  have hk : Kept w { w with drawn := w.drawn + 1 } := (Kept.refl w).drew
  have := mix_any (Q := Q) (C := fun w' => ∃ g : KExt W, w' = g.w) hs hQ S (Array.replicate l.length false) a { w with drawn := w.drawn + 1 } hB ⟨⟨_, h0.trans hk⟩, rfl⟩ (h _ hk)
  rw [hn] at this
  rw [List.size_toArray]
  exact this
end Go.Proofs.YtjieofiaoepccaaGreatDoor

