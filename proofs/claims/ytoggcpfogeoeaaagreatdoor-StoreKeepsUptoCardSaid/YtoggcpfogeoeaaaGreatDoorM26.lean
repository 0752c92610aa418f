/-
  What is proved: Get of package store (P8.2), called with any state whose entries rise and any dot, returns what the dot left, and whether there is such; the world has new blocks at most.
  strings.Builder's WriteString and String, of a builder that the call itself has made, do what their documentation says: the library's contracts, laid at this program's numbers.
  Put of package ctx, called with any text and any set that lies in memory, of bounded length, whatever its numbers, returns what P6.11 says; the world has new blocks at most.
  Put and Text of package entry and of the document's layer 7, called with any entry, return what P7.3 and P7.5 say; the world has new blocks at most.
-/
import Derived.Test.YtoggcpfogeoeaaaGreatDoorM20
import Derived.Shelf.Strings.Builder1
import Derived.Test.YtoggcpfogeoeaaaGreatDoorM21
import Derived.Test.YtoggcpfogeoeaaaGreatDoorM17
import Derived.Test.YtoggcpfogeoeaaaGreatDoorERight
namespace Go.Proofs.YtoggcpfogeoeaaaGreatDoor
open Go.RowKit
set_option linter.unusedVariables false

/-- P8.2. -/
def Gets (L : List En) (d : Int × Int) (z : Bool) (w : World) (e : Ending) (w' : World) : Prop :=
  ∃ y : En, e = .returned (.tuple #[.agg #[.int .i64 y.d.1, .int .i64 y.d.2, .string y.p, .int .i64 y.k, .int .i64 y.vk, .int .i64 y.vn, .string y.vt, .int .i64 y.e.1, .int .i64 y.e.2], .bool z]) ∧ (z = true → y ∈ L ∧ y.d = d) ∧ (z = false → y = .none) ∧ Kept w w'
set_option maxRecDepth 100000 in
set_option maxHeartbeats 4000000 in
theorem get_any (A : Option Addr) (n c : Nat) (L : List En) (u1 u2 : Value) (d1 d2 : Int) (w : World) (h : El w A n c L) (hr : RiseE L) (hn : n ≤ 1000000) (z : Bool) (hz : hasE L (d1, d2) = z) :
    Calls Tryz.prog 7 #[.agg #[.slice A n c, u1, u2], .agg #[.int .i64 d1, .int .i64 d2]] w (Gets L (d1, d2) z w) := by
  have hk := (((Kept.refl w).alloc #[.slice A n c, u1, u2] 29).alloc #[.int .i64 d1, .int .i64 d2] 31).alloc #[.int .i64 0, .int .i64 0, .string ⟨#[]⟩, .int .i64 0, .int .i64 0, .int .i64 0, .string ⟨#[]⟩, .int .i64 0, .int .i64 0] 35
  have HS := Lib.hid (find_any A n c L u1 u2 d1 d2 _ (h.kept hk) hr hn z hz)
  have HK := Lib.hid hk
  have HD := Lib.hid (h.kept hk)
  have hc1 := h.cap.1
  have hc2 := h.cap.2
  have HB := Lib.hid ((Box3.new w (.slice A n c) u1 u2 29).kept (((Kept.refl _).alloc #[.int .i64 d1, .int .i64 d2] 31).alloc #[.int .i64 0, .int .i64 0, .string ⟨#[]⟩, .int .i64 0, .int .i64 0, .int .i64 0, .string ⟨#[]⟩, .int .i64 0, .int .i64 0] 35))
  have hen0 := EntF.new ((w.alloc (.cells #[.slice A n c, u1, u2] 29)).alloc (.cells #[.int .i64 d1, .int .i64 d2] 31)) .none 35
  simp only [En.none] at hen0
  rw [show ((w.alloc (.cells #[.slice A n c, u1, u2] 29)).alloc (.cells #[.int .i64 d1, .int .i64 d2] 31)).heap.size = w.heap.size + 2 by simp] at hen0
  have HEN := Lib.hid hen0
  have HN := Lib.hid h.1
  have HZ := Lib.hid hz
  clear h hr hk hz hen0
  go_enter Tryz.func7, Tryz.ntmps7
  go_wp2_with fail
  go_at_call 23
  refine HS.out.mono ?_
  rintro e w1 ⟨k, rfl, hp, hk1⟩
  have hb := HB.out.kept hk1
  have b0 := hb.c0
  have HK1 := Lib.hid (HK.out.trans hk1)
  have HD1 := Lib.hid (HD.out.kept hk1)
  have hen := HEN.out.kept hk1
  have xf := hen.f
  have x0 := hen.ent.c0; have x1 := hen.ent.c1; have x2 := hen.ent.c2; have x3 := hen.ent.c3; have x4 := hen.ent.c4; have x5 := hen.ent.c5; have x6 := hen.ent.c6; have x7 := hen.ent.c7; have x8 := hen.ent.c8
  have HP := Lib.hid hp
  clear hb hk1 hp hen
  cases z with
  | false =>
    go_wp2_with fail
    refine bodyPost_ret (by simp [results, Tryz.results7, go_sem, En.none, *]) rfl ⟨.none, rfl, (fun h => by cases h), (fun _ => rfl), ?_⟩
    exact ((((((((((HK1.out.setCell (Nat.le_add_right _ 2) _).setCell (Nat.le_add_right _ 2) _).setCell (Nat.le_add_right _ 2) _).setCell (Nat.le_add_right _ 2) _).setCell (Nat.le_add_right _ 2) _).setCell (Nat.le_add_right _ 2) _).setCell (Nat.le_add_right _ 2) _).setCell (Nat.le_add_right _ 2) _).setCell (Nat.le_add_right _ 2) _))
  | true =>
    obtain ⟨y, hy, hyd⟩ := HP.out.yes HZ.out
    have hkn : k < n := by have := (List.getElem?_eq_some_iff.1 hy).1; have := HN.out; omega
    obtain ⟨g, o, y', rfl, hy', EY⟩ := HD1.out.get hkn
    obtain rfl := Option.some.inj (hy.symm.trans hy')
    have HY := Lib.hid (List.mem_of_getElem? hy)
    have HYD := Lib.hid hyd
    have y0 := EY.c0; have y1 := EY.c1; have y2 := EY.c2; have y3 := EY.c3; have y4 := EY.c4; have y5 := EY.c5; have y6 := EY.c6; have y7 := EY.c7; have y8 := EY.c8
    clear EY hy hy' hyd
    go_wp2_with fail
    refine bodyPost_ret (by simp [results, Tryz.results7, go_sem, *]) rfl ⟨y, rfl, (fun _ => ⟨HY.out, HYD.out⟩), (fun h => by cases h), ?_⟩
    exact ((((((((((HK1.out.setCell (Nat.le_add_right _ 2) _).setCell (Nat.le_add_right _ 2) _).setCell (Nat.le_add_right _ 2) _).setCell (Nat.le_add_right _ 2) _).setCell (Nat.le_add_right _ 2) _).setCell (Nat.le_add_right _ 2) _).setCell (Nat.le_add_right _ 2) _).setCell (Nat.le_add_right _ 2) _).setCell (Nat.le_add_right _ 2) _))
end Go.Proofs.YtoggcpfogeoeaaaGreatDoor

namespace Go.Proofs.YtoggcpfogeoeaaaGreatDoor
open Go.RowKit

def builderRen : Go.Shelf.Ren := ⟨fun | 166 => 37 | 169 => 41 | 240 => 65 | 276 => 90 | n => n, fun | 0 => 0 | 3 => 3 | 4 => 4 | 5 => 5 | 9 => 9 | 20 => 20 | 37 => 73 | 70 => 72 | 72 => 75 | 75 => 77 | 80 => 84 | 127 => 114 | 164 => 142 | n => n, fun | n => n⟩
theorem lays166 : Go.Proofs.Lays.n166 Tryz.prog builderRen := {
  mixed := by kernel_rfl
  f166 := Tryz.func37.trans (congrArg some (by kernel_rfl))
  f240 := Tryz.func65.trans (congrArg some (by kernel_rfl))
  f276 := Tryz.func90.trans (congrArg some (by kernel_rfl))
  t0 := Tryz.underlying0
  a0 := Tryz.isAgg0
  z0 := Tryz.sizeOf0
  v0 := Tryz.zeroValue0
  t3 := Tryz.underlying3
  a3 := Tryz.isAgg3
  z3 := Tryz.sizeOf3
  v3 := Tryz.zeroValue3
  t4 := Tryz.underlying4
  a4 := Tryz.isAgg4
  z4 := Tryz.sizeOf4
  v4 := Tryz.zeroValue4
  t9 := Tryz.underlying9
  a9 := Tryz.isAgg9
  z9 := Tryz.sizeOf9
  v9 := Tryz.zeroValue9
  t20 := Tryz.underlying20
  a20 := Tryz.isAgg20
  z20 := Tryz.sizeOf20
  v20 := Tryz.zeroValue20
  t37 := Tryz.underlying73
  a37 := Tryz.isAgg73
  z37 := Tryz.sizeOf73
  v37 := Tryz.zeroValue73
  t70 := Tryz.underlying72
  a70 := Tryz.isAgg72
  z70 := Tryz.sizeOf72
  v70 := Tryz.zeroValue72
  t72 := Tryz.underlying75
  a72 := Tryz.isAgg75
  z72 := Tryz.sizeOf75
  v72 := Tryz.zeroValue75
  t75 := Tryz.underlying77
  a75 := Tryz.isAgg77
  z75 := Tryz.sizeOf77
  v75 := Tryz.zeroValue77
  t164 := Tryz.underlying142
  a164 := Tryz.isAgg142
  z164 := Tryz.sizeOf142
  v164 := Tryz.zeroValue142
}
theorem lays169 : Go.Proofs.Lays.n169 Tryz.prog builderRen := {
  mixed := by kernel_rfl
  f169 := Tryz.func41.trans (congrArg some (by kernel_rfl))
  t0 := Tryz.underlying0
  a0 := Tryz.isAgg0
  z0 := Tryz.sizeOf0
  v0 := Tryz.zeroValue0
  t3 := Tryz.underlying3
  a3 := Tryz.isAgg3
  z3 := Tryz.sizeOf3
  v3 := Tryz.zeroValue3
  t9 := Tryz.underlying9
  a9 := Tryz.isAgg9
  z9 := Tryz.sizeOf9
  v9 := Tryz.zeroValue9
  t37 := Tryz.underlying73
  a37 := Tryz.isAgg73
  z37 := Tryz.sizeOf73
  v37 := Tryz.zeroValue73
  t70 := Tryz.underlying72
  a70 := Tryz.isAgg72
  z70 := Tryz.sizeOf72
  v70 := Tryz.zeroValue72
  t72 := Tryz.underlying75
  a72 := Tryz.isAgg75
  z72 := Tryz.sizeOf75
  v72 := Tryz.zeroValue75
  t127 := Tryz.underlying114
  a127 := Tryz.isAgg114
  z127 := Tryz.sizeOf114
  v127 := Tryz.zeroValue114
}
theorem extraB : Go.Proofs.Builder.Extra Tryz.prog builderRen where
  sizeBuilder := by kernel_rfl
  liesBuilder := by kernel_rfl
  t5 := Tryz.underlying5
  a5 := Tryz.isAgg5
  z5 := Tryz.sizeOf5
  v5 := Tryz.zeroValue5
  infoByte := by kernel_rfl
  cellsByte := by kernel_rfl
  sizeByte := by kernel_rfl
  neB5 := by decide

/-- A builder in block b that holds l; U: what is left alone. -/
structure Bld (U : World) (b : Nat) (w : World) (l : List UInt8) : Prop where
  is : Lib.IsBuilder 75 5 b b (Lib.byteCells l) w
  ke : Kept U w
  lo : U.heap.size ≤ b
theorem kept_below {U w w' : World} {B : Nat} (h : Kept U w) (hb : Below B w w') (hU : U.heap.size ≤ B) : Kept U w' := by
  obtain ⟨⟨h1, h2, h3⟩, hf, hs⟩ := h
  refine ⟨⟨hb.os.trans h1, hb.output.trans h2, fun i hi => ?_⟩, fun a ha => (hb.frozen (Nat.lt_of_lt_of_le ha hU)).trans (hf a ha), Nat.le_trans hs hb.size⟩
  rw [hb.block i (Nat.lt_of_lt_of_le hi hU)]
  exact h3 i hi
theorem bat_kept {w w' : World} {T e : TypeId} {B b : Nat} {p : Value} {bs : List Value} (h : Lib.BuilderAt T e B b p bs w) (hk : Kept w w') : Lib.BuilderAt T e B b p bs w' := by
  obtain ⟨hB, v, hb, hown, hne⟩ := h
  refine ⟨hB, v, ?_, own_kept hown hk, hne⟩
  rw [hk.blk (by
    rcases Nat.lt_or_ge b w.heap.size with h' | h'
    · exact h'
    · rw [Array.getElem?_eq_none h'] at hb; cases hb)]
  exact hb
theorem Bld.kept {U w w' : World} {b : Nat} {l : List UInt8} (h : Bld U b w l) (hk : Kept w w') : Bld U b w' l :=
  ⟨h.is.imp (bat_kept · hk) (bat_kept · hk), h.ke.trans hk, h.lo⟩
theorem Bld.start (U : World) : Bld U U.heap.size (U.alloc (.cells #[.pointer none, .slice none 0 0] 75)) [] :=
  ⟨Lib.fresh_isBuilder _ _ U, (Kept.refl U).alloc _ _, Nat.le_refl _⟩
theorem bld_lt {U w : World} {b : Nat} {l : List UInt8} (h : Bld U b w l) : b < w.heap.size := by
  rcases h.is with h | h
  · exact h.lt
  · exact h.lt
theorem write_any {U w : World} {b : Nat} {l : List UInt8} (h : Bld U b w l) (s : ByteArray) (hl : l.length + s.size ≤ 140737488355328) (r : List UInt8) (hr : l ++ s.data.toList = r) :
    Calls Tryz.prog 37 #[.pointer (some ⟨b, 0, none⟩), .string s] w fun e w' => e = .returned (.tuple #[.int .i64 s.size, .nilIface]) ∧ Bld U b w' r := by
  have hc := Go.Proofs.Any.Builder_WriteString lays166 extraB b b (Lib.byteCells l) s w h.is (by rw [Lib.byteCells_length]; exact hl) (Nat.le_of_lt (bld_lt h))
  refine hc.mono fun e w' ⟨he, hb, hbe⟩ => ⟨he, ⟨.inr ?_, kept_below h.ke hbe h.lo, h.lo⟩⟩
  rw [Lib.strCells_eq, ← Lib.byteCells_append, hr] at hb
  exact hb
theorem string_any {U w : World} {b : Nat} {l : List UInt8} (h : Bld U b w l) :
    Calls Tryz.prog 41 #[.pointer (some ⟨b, 0, none⟩)] w fun e w' => e = .returned (.string ⟨l.toArray⟩) ∧ Kept U w' := by
  have hc := Go.Proofs.Any.Builder_String_any lays169 extraB b b l w h.is (Nat.le_of_lt (bld_lt h))
  exact hc.mono fun e w' ⟨he, hbe⟩ => ⟨he, kept_below h.ke hbe h.lo⟩
end Go.Proofs.YtoggcpfogeoeaaaGreatDoor

namespace Go.Proofs.YtoggcpfogeoeaaaGreatDoor
open Go.RowKit

theorem gputN (b : ByteArray) (n : Nat) (w : World) (hn : n ≤ 1000000) (hb : b.size ≤ 90000) (r : ByteArray) (hr : b ++ putS n = r) :
    Calls Tryz.prog 38 #[.string b, .int .u64 (n : Int)] w fun e w' => e = .returned (.string r) ∧ Kept w w' := by
  subst hr
  exact (put_any b n w (by omega) (by omega)).mono fun _ _ ⟨he, hg⟩ => ⟨he, kept_of hg⟩
theorem gintN (x : Int) (w : World) (h1 : -9223372036854775808 ≤ x) (h2 : x ≤ 9223372036854775807) (r : ByteArray) (hr : putS (zigI x).toNat = r) :
    Calls Tryz.prog 66 #[.string ⟨#[]⟩, .int .i64 x] w fun e w' => e = .returned (.string r) ∧ Kept w w' := by
  subst hr
  exact (int_any ⟨#[]⟩ x w h1 h2 (by decide)).mono fun _ _ ⟨he, hg⟩ => ⟨by rw [he, ba_nil], kept_of hg⟩
theorem putD_cut (b : ByteArray) (x : Int × Int) : putD b x = b ++ putD ⟨#[]⟩ x := by
  unfold putD
  rw [ba_nil, ba_assoc]
theorem ba_list (a b r : ByteArray) (h : a ++ b = r) : a.data.toList ++ b.data.toList = r.data.toList := by
  subst h
  simp [ByteArray.data_append]
theorem ba_len (a : ByteArray) : a.data.toList.length = a.size := by simp

set_option maxRecDepth 100000 in
set_option maxHeartbeats 4000000 in
theorem gputC_any (b : ByteArray) (A : Option Addr) (n c : Nat) (V : List Int) (B : Option Addr) (m k : Nat) (C : List (Int × Int)) (w : World) (h : Il w A n c V) (hd : Dl w B m k C) (hb : b.size ≤ 10000) (hn : n ≤ 1000) (hm : m ≤ 1000)
    (hv : ∀ x ∈ V, -9223372036854775808 ≤ x ∧ x ≤ 9223372036854775807) (hc : ∀ d ∈ C, -9223372036854775808 ≤ d.1 ∧ d.1 ≤ 9223372036854775807 ∧ -9223372036854775808 ≤ d.2 ∧ d.2 ≤ 9223372036854775807) :
    Calls Tryz.prog 39 #[.string b, .agg #[.slice A n c, .slice B m k]] w fun e w' => e = .returned (.string (putC b V C)) ∧ Kept w w' := by
  have hcap := h.cap.1; have hcap2 := h.cap.2; have hdap := hd.cap.1; have hdap2 := hd.cap.2
  have HN := Lib.hid h.1; have HM := Lib.hid hd.1
  have hK := (Kept.refl w).alloc #[.slice A n c, .slice B m k] 27
  have HK := Lib.hid hK
  have HI := Lib.hid (h.kept hK)
  have HD := Lib.hid (hd.kept hK)
  have HV := Lib.hid hv
  have HC := Lib.hid hc
  have HX := Lib.hid (Box2.new w (.slice A n c) (.slice B m k) 27)
  have hB0 := Bld.start (w.alloc (.cells #[.slice A n c, .slice B m k] 27))
  have hsz : (w.alloc (.cells #[.slice A n c, .slice B m k] 27)).heap.size = w.heap.size + 1 := by simp
  rw [hsz] at hB0
  have HB0 := Lib.hid hB0
  have hps := putS_size n
  have hps2 := putS_size m
  obtain ⟨b1, hb1⟩ : ∃ b1, b ++ putS n = b1 := ⟨_, rfl⟩
  have hsz1 : b1.size ≤ 10010 := by rw [← hb1, ByteArray.size_append]; omega
  have HP1 := Lib.hid (fun w => gputN b n w (by omega) (by omega) b1 hb1)
  have HB1 := Lib.hid hb1
  have hw1 : IntKind.u64.wrap (n : Int) = (n : Int) := by rw [IntKind.wrap_u64]; omega
  have hw2 : IntKind.u64.wrap (m : Int) = (m : Int) := by rw [IntKind.wrap_u64]; omega
  obtain ⟨U, hU⟩ : ∃ U, w.alloc (.cells #[.slice A n c, .slice B m k] 27) = U := ⟨_, rfl⟩
  have HXB := Lib.hid (((Kept.refl U).alloc #[.pointer none, .slice none 0 0] 75))
  rw [hU] at HK HI HD HX HB0 hsz
  have HU := Lib.hid hU
  clear h hd hK hv hc hb1 hB0 hU
  go_enter Tryz.func39, Tryz.ntmps39
  go_wp2_with fail
  go_at_call 38
  refine (HP1.out _).mono ?_
  rintro e w1 ⟨rfl, hk1⟩
  have HBL1 := Lib.hid (HB0.out.kept (by rw [← HU.out]; exact hk1))
  clear hk1
  go_wp2_with fail
  go_at_call 37
  refine (write_any HBL1.out b1 (by simp; omega) b1.data.toList (by simp)).mono ?_
  rintro e w2 ⟨rfl, hbl2⟩
  have HBL2 := Lib.hid hbl2
  have e0 := (HX.out.kept hbl2.ke).c0
  have e1 := (HX.out.kept hbl2.ke).c1
  clear hbl2
  go_wp2_with fail
  clear e0 e1
  go_loopw [20] (fun i wr => ∃ t : Nat, t ≤ n ∧ i = .int .i64 t ∧ Bld U (w.heap.size + 1) wr (putVs (V.take t) b1).data.toList) (fun i _ => n - (intOf i).toNat)
  case atStart => exact ⟨0, Nat.zero_le _, rfl, HBL2.out⟩
  case round =>
    obtain ⟨t, ht, rfl, hbl⟩ := hrel
    have HBL := Lib.hid hbl
    have hs := putVs_size (V.take t) b1
    rw [List.length_take] at hs
    clear hbl
    by_cases hlt : t < n
    · obtain ⟨g, o, x, rfl, hx, g1⟩ := (HI.out.kept HBL.out.ke).get hlt
      have hbd := HV.out x (List.mem_of_getElem? hx)
      obtain ⟨y, hy⟩ : ∃ y, putS (zigI x).toNat = y := ⟨_, rfl⟩
      have hys : y.size ≤ 10 := by rw [← hy]; exact putS_size _
      have HX5 := Lib.hid (fun w => gintN x w hbd.1 hbd.2 y hy)
      have HS := Lib.hid (show (putVs (V.take t) b1).data.toList ++ y.data.toList = (putVs (V.take (t + 1)) b1).data.toList from ba_list _ _ _ (by rw [putVs_succ hx, hy]))
      have hll : (putVs (V.take t) b1).data.toList.length + y.size ≤ 140737488355328 := by rw [ba_len]; omega
      have HLL := Lib.hid hll
      clear hx hbd hy hll
      go_wp2_with fail
      go_at_call 66
      refine (HX5.out _).mono ?_
      rintro e w5 ⟨rfl, hk5⟩
      go_wp2_with fail
      go_at_call 37
      refine (write_any (HBL.out.kept hk5) y HLL.out _ HS.out).mono ?_
      rintro e w6 ⟨rfl, hbl6⟩
      clear g1
      go_wp2_with fail
      go_roundw
      case rel => exact ⟨t + 1, hlt, by go_num, hbl6⟩
      case measure => simp [intOf]; omega
    · have htn : t = n := by omega
      have HVT := Lib.hid (show V.take t = V by rw [List.take_of_length_le (by have := HN.out; omega)])
      rw [HVT.out] at hs HBL
      obtain ⟨b2, hb2⟩ : ∃ b2, putVs V b1 = b2 := ⟨_, rfl⟩
      obtain ⟨y, hy⟩ : ∃ y, putS m = y := ⟨_, rfl⟩
      obtain ⟨b3, hb3⟩ : ∃ b3, b2 ++ y = b3 := ⟨_, rfl⟩
      have hys : y.size ≤ 10 := by rw [← hy]; exact putS_size _
      have hsz2 : b2.size ≤ 20010 := by rw [← hb2]; omega
      have hsz3 : b3.size ≤ 20020 := by rw [← hb3, ByteArray.size_append]; omega
      rw [hb2] at hs HBL
      have HP2 := Lib.hid (fun w => gputN ⟨#[]⟩ m w (by omega) (by decide) y (by rw [ba_nil, hy]))
      have HL3 := Lib.hid (show b2.data.toList ++ y.data.toList = b3.data.toList from ba_list _ _ _ hb3)
      have HB2 := Lib.hid hb2
      have HB3 := Lib.hid (show b2 ++ putS m = b3 by rw [hy]; exact hb3)
      have e0 := (HX.out.kept HBL.out.ke).c0
      have e1 := (HX.out.kept HBL.out.ke).c1
      have hll : b2.data.toList.length + y.size ≤ 140737488355328 := by rw [ba_len]; omega
      have HLL := Lib.hid hll
      clear htn hb2 hb3 hy hll
      go_wp2_with fail
      go_at_call 38
      refine (HP2.out _).mono ?_
      rintro e w6 ⟨rfl, hk6⟩
      go_wp2_with fail
      go_at_call 37
      refine (write_any (HBL.out.kept hk6) y HLL.out _ HL3.out).mono ?_
      rintro e w7 ⟨rfl, hbl7⟩
      have HBL7 := Lib.hid hbl7
      clear e0 e1
      have e0 := (HX.out.kept hbl7.ke).c0
      have e1 := (HX.out.kept hbl7.ke).c1
      clear hbl7 hk6
      go_wp2_with fail
      clear e0 e1
      go_loopw [37] (fun i wr => ∃ t : Nat, t ≤ m ∧ i = .int .i64 t ∧ Bld U (w.heap.size + 1) wr (putDs (C.take t) b3).data.toList) (fun i _ => m - (intOf i).toNat)
      case atStart => exact ⟨0, Nat.zero_le _, rfl, HBL7.out⟩
      case round =>
        clear hs hlt
        obtain ⟨t, ht, rfl, hbl⟩ := hrel
        have HBL8 := Lib.hid hbl
        have hs := putDs_size (C.take t) b3
        rw [List.length_take] at hs
        clear hbl
        by_cases hlt : t < m
        · obtain ⟨g, o, ⟨y1, y2⟩, rfl, hy, g1, g2⟩ := (HD.out.kept HBL8.out.ke).get hlt
          simp only at g1 g2
          have hbd := HC.out _ (List.mem_of_getElem? hy)
          simp only at hbd
          obtain ⟨q, hq⟩ : ∃ q, putD ⟨#[]⟩ (y1, y2) = q := ⟨_, rfl⟩
          have hqs : q.size ≤ 20 := by rw [← hq]; have := putD_size ⟨#[]⟩ (y1, y2); have : (⟨#[]⟩ : ByteArray).size = 0 := rfl; omega
          have HX5 := Lib.hid (fun w => dputD_any ⟨#[]⟩ (y1, y2) q hq w hbd.1 hbd.2.1 hbd.2.2.1 hbd.2.2.2 (by decide))
          have HS := Lib.hid (show (putDs (C.take t) b3).data.toList ++ q.data.toList = (putDs (C.take (t + 1)) b3).data.toList from ba_list _ _ _ (by rw [putDs_succ hy, putD_cut, hq]))
          have hll : (putDs (C.take t) b3).data.toList.length + q.size ≤ 140737488355328 := by rw [ba_len]; omega
          have HLL := Lib.hid hll
          clear hy hbd hq hll
          go_wp2_with fail
          go_at_call 67
          refine (HX5.out _).mono ?_
          rintro e w8 ⟨rfl, hk8⟩
          go_wp2_with fail
          go_at_call 37
          refine (write_any (HBL8.out.kept (((Kept.refl _).alloc #[.int .i64 y1, .int .i64 y2] 31).trans hk8)) q HLL.out _ HS.out).mono ?_
          rintro e w9 ⟨rfl, hbl9⟩
          clear g1 g2
          go_wp2_with fail
          go_roundw
          case rel => exact ⟨t + 1, hlt, by go_num, hbl9⟩
          case measure => simp [intOf]; omega
        · have HF := Lib.hid (show (⟨(putDs (C.take t) b3).data.toList.toArray⟩ : ByteArray) = putC b V C by
            rw [List.take_of_length_le (show C.length ≤ t by have := HM.out; omega)]
            unfold putC
            rw [← HN.out, HB1.out, HB2.out, ← HM.out, HB3.out])
          go_wp2_with fail
          go_at_call 41
          refine (string_any HBL8.out).mono ?_
          rintro e w9 ⟨rfl, hk9⟩
          go_wp2_with fail
          go_ret
          exact ⟨by rw [← HF.out]; rfl, HK.out.trans hk9⟩
end Go.Proofs.YtoggcpfogeoeaaaGreatDoor

namespace Go.Proofs.YtoggcpfogeoeaaaGreatDoor
open Go.RowKit

/-- The numbers of an entry are ints. -/
structure EnB (x : En) : Prop where
  d1 : -9223372036854775808 ≤ x.d.1
  d2 : x.d.1 ≤ 9223372036854775807
  d3 : -9223372036854775808 ≤ x.d.2
  d4 : x.d.2 ≤ 9223372036854775807
  v1 : -9223372036854775808 ≤ x.vn
  v2 : x.vn ≤ 9223372036854775807
  e1 : -9223372036854775808 ≤ x.e.1
  e2 : x.e.1 ≤ 9223372036854775807
  e3 : -9223372036854775808 ≤ x.e.2
  e4 : x.e.2 ≤ 9223372036854775807
theorem putD_sizeE (b : ByteArray) (x : Int × Int) : (putD b x).size ≤ b.size + 20 := by
  have h1 := putS_size (zigI x.1).toNat
  have h2 := putS_size (zigI x.2).toNat
  unfold putD
  rw [ByteArray.size_append, ByteArray.size_append]
  omega
theorem Ent.ext {w : World} {b : Nat} {x : En} (h : Ent w b x) (g : KExt w) : Ent g.w b x := h.kept g.g

set_option maxRecDepth 100000 in
set_option maxHeartbeats 4000000 in
theorem eput_c (b : ByteArray) (x : En) (r : ByteArray) (hr : putE b x = r) (hx : EnB x) (w : World) (hb : b.size ≤ 50000) (hp : x.p.size ≤ 1000) (ht : x.vt.size ≤ 1000) :
    Calls Tryz.prog 40 #[.string b, .agg #[.int .i64 x.d.1, .int .i64 x.d.2, .string x.p, .int .i64 x.k, .int .i64 x.vk, .int .i64 x.vn, .string x.vt, .int .i64 x.e.1, .int .i64 x.e.2]] w fun e w' => e = .returned (.string r) ∧ Kept w w' := by
  subst hr
  have hand := i64_and3 x.k
  obtain ⟨m, hm, hm4⟩ : ∃ m : Nat, x.k % 4 = (m : Int) ∧ m < 4 := ⟨(x.k % 4).toNat, by omega, by omega⟩
  have hwr : IntKind.u64.wrap (m : Int) = (m : Int) := by rw [IntKind.wrap_u64]; omega
  obtain ⟨b1, hb1⟩ : ∃ b1, putD b x.d = b1 := ⟨_, rfl⟩
  obtain ⟨b2, hb2⟩ : ∃ b2, b1 ++ putS x.p.size ++ x.p = b2 := ⟨_, rfl⟩
  obtain ⟨b3, hb3⟩ : ∃ b3, b2 ++ putS m = b3 := ⟨_, rfl⟩
  obtain ⟨b4, hb4⟩ : ∃ b4, putV b3 x.vk x.vn x.vt = b4 := ⟨_, rfl⟩
  have z1 : b1.size ≤ 50020 := by have := putD_sizeE b x.d; rw [hb1] at this; omega
  have z2 : b2.size ≤ 51030 := by have := putS_size x.p.size; rw [← hb2, ByteArray.size_append, ByteArray.size_append]; omega
  have z3 : b3.size ≤ 51040 := by have := putS_size m; rw [← hb3, ByteArray.size_append]; omega
  have z4 : b4.size ≤ 52060 := by have := putV_size b3 x.vk x.vn x.vt; rw [hb4] at this; omega
  have A1 := Lib.hid (fun w => dputD_any b x.d b1 hb1 w hx.d1 hx.d2 hx.d3 hx.d4 (by omega))
  have A2 := Lib.hid (fun w => text_any b1 x.p w (by omega) (by omega))
  have A3 := Lib.hid (fun w => put9 b2 m m rfl w (by omega) (by omega))
  have A4 := Lib.hid (fun w => vput_any b3 x.vk x.vn x.vt w hx.v1 hx.v2 (by omega) (by omega))
  have A5 := Lib.hid (fun w => dputD_any b4 x.e _ rfl w hx.e1 hx.e2 hx.e3 hx.e4 (by omega))
  have HR := Lib.hid (show putD b4 x.e = putE b x by unfold putE; rw [hb1, hb2, show (x.k % 4).toNat = m by omega, hb3, hb4])
  rw [hm] at hand
  rw [hb2] at A2
  rw [hb3] at A3
  rw [hb4] at A4
  clear z1 z2 z3 z4 hb1 hb2 hb3 hb4 hx hb hp ht hm
  have E0 := Lib.hid (Ent.new w x 35)
  have K0 := Lib.hid ((Kept.refl w).alloc #[.int .i64 x.d.1, .int .i64 x.d.2, .string x.p, .int .i64 x.k, .int .i64 x.vk, .int .i64 x.vn, .string x.vt, .int .i64 x.e.1, .int .i64 x.e.2] 35)
  go_enter Tryz.func40, Tryz.ntmps40
  go_wp2_with fail
  have c0 := KExt.cell E0.out.c0
  have c1 := KExt.cell E0.out.c1
  have c2 := KExt.cell E0.out.c2
  have c3 := KExt.cell E0.out.c3
  have c4 := KExt.cell E0.out.c4
  have c5 := KExt.cell E0.out.c5
  have c6 := KExt.cell E0.out.c6
  have c7 := KExt.cell E0.out.c7
  have c8 := KExt.cell E0.out.c8
  refine region_kept _ (by kernel_rfl) (by kernel_rfl) (Kept.refl _) ?_
  repeat (go_big_quiet_step ((first
    | (go_at_call 67; (with_reducible exact KExt.callsK (A1.out _)))
    | (go_at_call 68; (with_reducible exact KExt.calls (A2.out _)))
    | fail)))
  refine wpQuiet_nil ?_
  intro g
  have E1 := Lib.hid (E0.out.ext g)
  have K1 := Lib.hid (K0.out.trans g.g)
  clear c0 c1 c2 c3 c4 c5 c6 c7 c8
  revert E1 K1
  generalize g.w = w1
  intro E1 K1
  clear g E0 K0
  have c0 := E1.out.c0
  have c1 := E1.out.c1
  have c2 := E1.out.c2
  have c3 := E1.out.c3
  have c4 := E1.out.c4
  have c5 := E1.out.c5
  have c6 := E1.out.c6
  have c7 := E1.out.c7
  have c8 := E1.out.c8
  go_wp2_with fail
  go_at_call 38
  refine (A3.out _).mono ?_
  rintro e w2 ⟨rfl, hg⟩
  have E2 := E1.out.kept (kept_of hg)
  have K2 := Lib.hid (K1.out.trans (kept_of hg))
  clear hg c0 c1 c2 c3 c4 c5 c6 c7 c8
  go_wp2_with fail
  have c0 := KExt.cell E2.c0
  have c1 := KExt.cell E2.c1
  have c2 := KExt.cell E2.c2
  have c3 := KExt.cell E2.c3
  have c4 := KExt.cell E2.c4
  have c5 := KExt.cell E2.c5
  have c6 := KExt.cell E2.c6
  have c7 := KExt.cell E2.c7
  have c8 := KExt.cell E2.c8
  refine region_kept _ (by kernel_rfl) (by kernel_rfl) (Kept.refl _) ?_
  repeat (go_big_quiet_step ((first
    | (go_at_call 69; (with_reducible exact KExt.calls (A4.out _)))
    | (go_at_call 67; (with_reducible exact KExt.callsK (A5.out _)))
    | fail)))
  refine wpQuiet_nil ?_
  intro g
  go_wp2_with fail
  go_ret
  exact ⟨ret_str HR.out, K2.out.trans g.g⟩

end Go.Proofs.YtoggcpfogeoeaaaGreatDoor

