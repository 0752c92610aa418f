/-
  What is proved: strings.Builder's WriteString and String, of a builder that the call itself has made, do what their documentation says: the library's contracts, laid at this program's numbers.
  package table's ways and Put of layer 13 (P13.6), called with any text and any table, of bounded lengths, returns what that says; the world has new blocks at most.
  plain facts and words on the taking of tables (P13.7), part by part with the first error kept; no program is spoken of here.
-/
import Derived.Shelf.Strings.Builder1
import Derived.Test.YtjcnjmlgedmmoaaDoorM9
import Derived.Test.YtjcnjmlgedmmoaaDoorM12
import Derived.Test.YtjcnjmlgedmmoaaDoorM19
namespace Go.Proofs.YtjcnjmlgedmmoaaDoor
open Go.RowKit

def builderRen : Go.Shelf.Ren := ⟨fun | 166 => 45 | 169 => 49 | 240 => 61 | 276 => 73 | n => n, fun | 0 => 0 | 3 => 3 | 4 => 4 | 5 => 5 | 9 => 9 | 20 => 20 | 37 => 46 | 70 => 61 | 72 => 63 | 75 => 65 | 80 => 71 | 127 => 85 | 164 => 92 | n => n, fun | n => n⟩
theorem lays166 : Go.Proofs.Lays.n166 Tryd.prog builderRen := {
  mixed := by kernel_rfl
  f166 := Tryd.func45.trans (congrArg some (by kernel_rfl))
  f240 := Tryd.func61.trans (congrArg some (by kernel_rfl))
  f276 := Tryd.func73.trans (congrArg some (by kernel_rfl))
  t0 := Tryd.underlying0
  a0 := Tryd.isAgg0
  z0 := Tryd.sizeOf0
  v0 := Tryd.zeroValue0
  t3 := Tryd.underlying3
  a3 := Tryd.isAgg3
  z3 := Tryd.sizeOf3
  v3 := Tryd.zeroValue3
  t4 := Tryd.underlying4
  a4 := Tryd.isAgg4
  z4 := Tryd.sizeOf4
  v4 := Tryd.zeroValue4
  t9 := Tryd.underlying9
  a9 := Tryd.isAgg9
  z9 := Tryd.sizeOf9
  v9 := Tryd.zeroValue9
  t20 := Tryd.underlying20
  a20 := Tryd.isAgg20
  z20 := Tryd.sizeOf20
  v20 := Tryd.zeroValue20
  t37 := Tryd.underlying46
  a37 := Tryd.isAgg46
  z37 := Tryd.sizeOf46
  v37 := Tryd.zeroValue46
  t70 := Tryd.underlying61
  a70 := Tryd.isAgg61
  z70 := Tryd.sizeOf61
  v70 := Tryd.zeroValue61
  t72 := Tryd.underlying63
  a72 := Tryd.isAgg63
  z72 := Tryd.sizeOf63
  v72 := Tryd.zeroValue63
  t75 := Tryd.underlying65
  a75 := Tryd.isAgg65
  z75 := Tryd.sizeOf65
  v75 := Tryd.zeroValue65
  t164 := Tryd.underlying92
  a164 := Tryd.isAgg92
  z164 := Tryd.sizeOf92
  v164 := Tryd.zeroValue92
}
theorem lays169 : Go.Proofs.Lays.n169 Tryd.prog builderRen := {
  mixed := by kernel_rfl
  f169 := Tryd.func49.trans (congrArg some (by kernel_rfl))
  t0 := Tryd.underlying0
  a0 := Tryd.isAgg0
  z0 := Tryd.sizeOf0
  v0 := Tryd.zeroValue0
  t3 := Tryd.underlying3
  a3 := Tryd.isAgg3
  z3 := Tryd.sizeOf3
  v3 := Tryd.zeroValue3
  t9 := Tryd.underlying9
  a9 := Tryd.isAgg9
  z9 := Tryd.sizeOf9
  v9 := Tryd.zeroValue9
  t37 := Tryd.underlying46
  a37 := Tryd.isAgg46
  z37 := Tryd.sizeOf46
  v37 := Tryd.zeroValue46
  t70 := Tryd.underlying61
  a70 := Tryd.isAgg61
  z70 := Tryd.sizeOf61
  v70 := Tryd.zeroValue61
  t72 := Tryd.underlying63
  a72 := Tryd.isAgg63
  z72 := Tryd.sizeOf63
  v72 := Tryd.zeroValue63
  t127 := Tryd.underlying85
  a127 := Tryd.isAgg85
  z127 := Tryd.sizeOf85
  v127 := Tryd.zeroValue85
}
theorem extraB : Go.Proofs.Builder.Extra Tryd.prog builderRen where
  sizeBuilder := by kernel_rfl
  liesBuilder := by kernel_rfl
  t5 := Tryd.underlying5
  a5 := Tryd.isAgg5
  z5 := Tryd.sizeOf5
  v5 := Tryd.zeroValue5
  infoByte := by kernel_rfl
  cellsByte := by kernel_rfl
  sizeByte := by kernel_rfl
  neB5 := by decide

/-- A builder in block b that holds l; U: what is left alone. -/
structure Bld (U : World) (b : Nat) (w : World) (l : List UInt8) : Prop where
  is : Lib.IsBuilder 63 5 b b (Lib.byteCells l) w
  ke : Kept U w
  lo : U.heap.size ≤ b
theorem kept_below {U w w' : World} {B : Nat} (h : Kept U w) (hb : Below B w w') (hU : U.heap.size ≤ B) : Kept U w' := by
  obtain ⟨⟨h1, h2, h3⟩, hf, hs⟩ := h
  refine ⟨⟨hb.os.trans h1, hb.output.trans h2, fun i hi => ?_⟩, fun a ha => (hb.frozen (Nat.lt_of_lt_of_le ha hU)).trans (hf a ha), Nat.le_trans hs hb.size⟩
  rw [hb.block i (Nat.lt_of_lt_of_le hi hU)]
  exact h3 i hi
theorem bat_kept {w w' : World} {T e : TypeId} {B b : Nat} {p : Value} {bs : List Value} (h : Lib.BuilderAt T e B b p bs w) (hk : Kept w w') : Lib.BuilderAt T e B b p bs w' := by
  obtain ⟨hB, v, hb, hown, hne⟩ := h
  refine ⟨hB, v, ?_, own_kept hown hk, hne⟩
  rw [hk.blk (by
    rcases Nat.lt_or_ge b w.heap.size with h' | h'
    · exact h'
    · rw [Array.getElem?_eq_none h'] at hb; cases hb)]
  exact hb
theorem Bld.kept {U w w' : World} {b : Nat} {l : List UInt8} (h : Bld U b w l) (hk : Kept w w') : Bld U b w' l :=
  ⟨h.is.imp (bat_kept · hk) (bat_kept · hk), h.ke.trans hk, h.lo⟩
theorem Bld.start (U : World) : Bld U U.heap.size (U.alloc (.cells #[.pointer none, .slice none 0 0] 63)) [] :=
  ⟨Lib.fresh_isBuilder _ _ U, (Kept.refl U).alloc _ _, Nat.le_refl _⟩
theorem bld_lt {U w : World} {b : Nat} {l : List UInt8} (h : Bld U b w l) : b < w.heap.size := by
  rcases h.is with h | h
  · exact h.lt
  · exact h.lt
theorem write_any {U w : World} {b : Nat} {l : List UInt8} (h : Bld U b w l) (s : ByteArray) (hl : l.length + s.size ≤ 140737488355328) (r : List UInt8) (hr : l ++ s.data.toList = r) :
    Calls Tryd.prog 45 #[.pointer (some ⟨b, 0, none⟩), .string s] w fun e w' => e = .returned (.tuple #[.int .i64 s.size, .nilIface]) ∧ Bld U b w' r := by
  have hc := Go.Proofs.Any.Builder_WriteString lays166 extraB b b (Lib.byteCells l) s w h.is (by rw [Lib.byteCells_length]; exact hl) (Nat.le_of_lt (bld_lt h))
  refine hc.mono fun e w' ⟨he, hb, hbe⟩ => ⟨he, ⟨.inr ?_, kept_below h.ke hbe h.lo, h.lo⟩⟩
  rw [Lib.strCells_eq, ← Lib.byteCells_append, hr] at hb
  exact hb
theorem string_any {U w : World} {b : Nat} {l : List UInt8} (h : Bld U b w l) :
    Calls Tryd.prog 49 #[.pointer (some ⟨b, 0, none⟩)] w fun e w' => e = .returned (.string ⟨l.toArray⟩) ∧ Kept U w' := by
  have hc := Go.Proofs.Any.Builder_String_any lays169 extraB b b l w h.is (Nat.le_of_lt (bld_lt h))
  exact hc.mono fun e w' ⟨he, hbe⟩ => ⟨he, kept_below h.ke hbe h.lo⟩
end Go.Proofs.YtjcnjmlgedmmoaaDoor

namespace Go.Proofs.YtjcnjmlgedmmoaaDoor
open Go.RowKit
set_option linter.unusedVariables false

theorem putVa_cut (b : ByteArray) (x : Va) : putVa b x = b ++ putVa ⟨#[]⟩ x := by
  unfold putVa putV
  split
  · rw [ba_nil]
  · split
    · rw [ba_nil, ba_assoc, ba_assoc, ba_assoc]
    · rw [ba_nil, ba_assoc]
theorem putPa_cut (b : ByteArray) (p : Pa) : putPa b p = b ++ putPa ⟨#[]⟩ p := by
  unfold putPa
  rw [putVa_cut (putVa b p.f), putVa_cut b, putVa_cut (putVa ⟨#[]⟩ p.f), ba_assoc]
theorem ba_listT (a b r : ByteArray) (h : a ++ b = r) : a.data.toList ++ b.data.toList = r.data.toList := by
  subst h
  simp [ByteArray.data_append]
theorem ba_lenT (a : ByteArray) : a.data.toList.length = a.size := by simp
theorem tputN (b : ByteArray) (n : Nat) (w : World) (hn : n ≤ 1000000) (hb : b.size ≤ 90000) (r : ByteArray) (hr : b ++ putS n = r) :
    Calls Tryd.prog 46 #[.string b, .int .u64 (n : Int)] w fun e w' => e = .returned (.string r) ∧ Kept w w' := by
  subst hr
  exact (put_any b n w (by omega) (by omega)).mono fun _ _ ⟨he, hg⟩ => ⟨he, kept_of hg⟩
theorem tputVa (b : ByteArray) (x : Va) (h : VaS x) (c : ByteArray) (hc : putVa b x = c) (hb : b.size ≤ 80000) (w : World) :
    Calls Tryd.prog 48 #[.string b, .agg #[.int .i64 x.k, .int .i64 x.n, .string x.t]] w fun e w' => e = .returned (.string c) ∧ Kept w w' := by
  subst hc
  exact (vput_any b x.k x.n x.t w h.lo h.hi (by omega) (by have := h.t; omega)).mono fun _ _ ⟨he, hg⟩ => ⟨he, kept_of hg⟩
set_option maxRecDepth 100000 in
theorem putPa_sz (b : ByteArray) (x : Pa) (h : VaS x.f ∧ VaS x.t) : (putPa b x).size ≤ b.size + 1240 := by
  have h1 := putVa_size b x.f h.1
  have h2 := putVa_size (putVa b x.f) x.t h.2
  unfold putPa
  omega
set_option maxRecDepth 100000 in
theorem putTbL_sz {b : ByteArray} {T : Tb} (h : TbS T) (hb : b.size ≤ 5000) (t : Nat) : (putTbL b T t).size ≤ 5020 + t * 1240 := by
  induction t with
  | zero => rw [putTb_zero, ByteArray.size_append, ByteArray.size_append]; have := putS_size (marksT T); have := putS_size T.L.length; omega
  | succ t ih =>
    cases hx : T.L[t]? with
    | some p => rw [putTb_step hx]; have := putPa_sz (putTbL b T t) p (h.L p (List.mem_of_getElem? hx)); omega
    | none =>
      have e : putTbL b T (t + 1) = putTbL b T t := by
        unfold putTbL
        rw [List.take_add_one, hx, Option.toList_none, List.append_nil]
      rw [e]; omega
set_option maxRecDepth 100000 in
set_option maxHeartbeats 8000000 in
theorem tways_any (A : Option Addr) (n c : Nat) (T : Tb) (w : World) (m : Nat) (hm : marksT T = m) :
    Calls Tryd.prog 47 #[.agg #[.slice A n c, .bool T.keep, .int .i64 T.d.k, .int .i64 T.d.n, .string T.d.t, .int .i64 T.b.k, .int .i64 T.b.n, .string T.b.t, .bool T.tu]] w fun e w' => e = .returned (.int .u64 (m : Int)) ∧ Kept w w' := by
  have HK := Lib.hid ((Kept.refl w).alloc #[.slice A n c, .bool T.keep, .int .i64 T.d.k, .int .i64 T.d.n, .string T.d.t, .int .i64 T.b.k, .int .i64 T.b.n, .string T.b.t, .bool T.tu] 26)
  have HT := Lib.hid (TabB.new w A n c T 26)
  have HM := Lib.hid hm
  have o1 : Go.bits BinOp.or IntKind.u64 0 1 = 1 := by kernel_rfl
  have o2 : Go.bits BinOp.or IntKind.u64 0 2 = 2 := by kernel_rfl
  have o3 : Go.bits BinOp.or IntKind.u64 1 2 = 3 := by kernel_rfl
  clear hm
  rcases Bool.eq_false_or_eq_true T.keep with hkp | hkp <;> rcases Bool.eq_false_or_eq_true T.tu with htu | htu
  · have HF := Lib.hid (show (3 : Int) = (m : Int) by rw [← HM.out]; unfold marksT; rw [hkp, htu]; rfl)
    have t1 := HT.out.c1
    have t8 := HT.out.c8
    rw [hkp, htu] at HK ⊢
    rw [hkp, htu] at t1 t8
    clear hkp htu
    go_enter Tryd.func47, Tryd.ntmps47
    go_wp2_with fail
    go_ret
    exact ⟨congrArg (fun z => Ending.returned (Value.int IntKind.u64 z)) HF.out, HK.out⟩
  · have HF := Lib.hid (show (1 : Int) = (m : Int) by rw [← HM.out]; unfold marksT; rw [hkp, htu]; rfl)
    have t1 := HT.out.c1
    have t8 := HT.out.c8
    rw [hkp, htu] at HK ⊢
    rw [hkp, htu] at t1 t8
    clear hkp htu
    go_enter Tryd.func47, Tryd.ntmps47
    go_wp2_with fail
    go_ret
    exact ⟨congrArg (fun z => Ending.returned (Value.int IntKind.u64 z)) HF.out, HK.out⟩
  · have HF := Lib.hid (show (2 : Int) = (m : Int) by rw [← HM.out]; unfold marksT; rw [hkp, htu]; rfl)
    have t1 := HT.out.c1
    have t8 := HT.out.c8
    rw [hkp, htu] at HK ⊢
    rw [hkp, htu] at t1 t8
    clear hkp htu
    go_enter Tryd.func47, Tryd.ntmps47
    go_wp2_with fail
    go_ret
    exact ⟨congrArg (fun z => Ending.returned (Value.int IntKind.u64 z)) HF.out, HK.out⟩
  · have HF := Lib.hid (show (0 : Int) = (m : Int) by rw [← HM.out]; unfold marksT; rw [hkp, htu]; rfl)
    have t1 := HT.out.c1
    have t8 := HT.out.c8
    rw [hkp, htu] at HK ⊢
    rw [hkp, htu] at t1 t8
    clear hkp htu
    go_enter Tryd.func47, Tryd.ntmps47
    go_wp2_with fail
    go_ret
    exact ⟨congrArg (fun z => Ending.returned (Value.int IntKind.u64 z)) HF.out, HK.out⟩
set_option maxRecDepth 100000 in
set_option maxHeartbeats 8000000 in
theorem htput_any (b : ByteArray) (A : Option Addr) (n c : Nat) (T : Tb) (w : World) (h : Pal w A n c T.L) (hs : TbS T) (hb : b.size ≤ 5000) (r : ByteArray) (hr : putTb b T = r) :
    Calls Tryd.prog 22 #[.string b, .agg #[.slice A n c, .bool T.keep, .int .i64 T.d.k, .int .i64 T.d.n, .string T.d.t, .int .i64 T.b.k, .int .i64 T.b.n, .string T.b.t, .bool T.tu]] w fun e w' => e = .returned (.string r) ∧ Kept w w' := by
  have hk := (Kept.refl w).alloc #[.slice A n c, .bool T.keep, .int .i64 T.d.k, .int .i64 T.d.n, .string T.d.t, .int .i64 T.b.k, .int .i64 T.b.n, .string T.b.t, .bool T.tu] 26
  have hcap := h.cap.1; have hcap2 := h.cap.2
  have HNL := Lib.hid h.1; have HS := Lib.hid hs; have HR := Lib.hid hr
  have hn20 : n ≤ 20 := by have := hs.few; have := h.1; omega
  have HT := Lib.hid (TabB.new w A n c T 26)
  have HH := Lib.hid (h.kept hk)
  have t := (TabB.new w A n c T 26).kept ((Kept.refl _).alloc #[.pointer none, .slice none 0 0] 63)
  have t0 := t.c0; have t1 := t.c1; have t2 := t.c2; have t3 := t.c3; have t4 := t.c4; have t5 := t.c5; have t6 := t.c6; have t7 := t.c7; have t8 := t.c8
  obtain ⟨U, hU⟩ : ∃ U, w.alloc (.cells #[.slice A n c, .bool T.keep, .int .i64 T.d.k, .int .i64 T.d.n, .string T.d.t, .int .i64 T.b.k, .int .i64 T.b.n, .string T.b.t, .bool T.tu] 26) = U := ⟨_, rfl⟩
  have hsU : U.heap.size = w.heap.size + 1 := by rw [← hU]; simp
  have hbl := Bld.start U
  rw [hsU] at hbl
  obtain ⟨V, hV⟩ : ∃ V, U.alloc (.cells #[.pointer none, .slice none 0 0] 63) = V := ⟨_, rfl⟩
  rw [hV] at hbl
  rw [hU] at hk HT HH
  have HK := Lib.hid hk; have HUU := Lib.hid hU; have HVV := Lib.hid hV; have HBL := Lib.hid hbl
  obtain ⟨m, hm⟩ : ∃ m, marksT T = m := ⟨_, rfl⟩
  have hm3 : m ≤ 3 := by rw [← hm]; unfold marksT; split <;> split <;> omega
  obtain ⟨b1, hb1⟩ : ∃ c, b ++ putS m = c := ⟨_, rfl⟩
  obtain ⟨y, hy⟩ : ∃ c, putS n = c := ⟨_, rfl⟩
  have z1 : b1.size ≤ 5010 := by have := putS_size m; rw [← hb1, ByteArray.size_append]; omega
  have zy : y.size ≤ 10 := by rw [← hy]; exact putS_size _
  have AW := Lib.hid (fun w => tways_any A n c T w m hm)
  have P1 := Lib.hid (fun w => tputN b m w (by omega) (by omega) b1 hb1)
  have P2 := Lib.hid (fun w => tputN ⟨#[]⟩ n w (by omega) (by decide) y (by rw [ba_nil, hy]))
  have HZ := Lib.hid (show b1 ++ y = putTbL b T 0 by rw [putTb_zero, hm, hb1, ← h.1, hy])
  have HSZ := Lib.hid (fun t => putTbL_sz hs hb t)
  have hwr : IntKind.u64.wrap (n : Int) = (n : Int) := by rw [IntKind.wrap_u64]; omega
  clear h hs hr hb hk t hU hV hbl hsU hm hb1 hy
  go_enter Tryd.func22, Tryd.ntmps22
  go_wp2_with fail
  rw [HUU.out, HVV.out]
  go_at_call 47
  refine (AW.out _).mono ?_
  rintro e w1 ⟨rfl, hk1⟩
  replace HBL := Lib.hid (HBL.out.kept hk1)
  clear hk1 t0 t1 t2 t3 t4 t5 t6 t7 t8
  go_wp2_with fail
  go_at_call 46
  refine (P1.out _).mono ?_
  rintro e w2 ⟨rfl, hk1⟩
  replace HBL := Lib.hid (HBL.out.kept hk1)
  clear hk1
  go_wp2_with fail
  go_at_call 45
  refine (write_any HBL.out b1 (by simp; omega) b1.data.toList (by simp)).mono ?_
  rintro e w3 ⟨rfl, hbl⟩
  replace HBL := Lib.hid hbl
  have t0 := (HT.out.kept hbl.ke).c0
  clear hbl
  go_wp2_with fail
  go_at_call 46
  refine (P2.out _).mono ?_
  rintro e w4 ⟨rfl, hk1⟩
  replace HBL := Lib.hid (HBL.out.kept hk1)
  clear hk1 t0
  go_wp2_with fail
  go_at_call 45
  refine (write_any HBL.out y (by rw [ba_lenT]; omega) (putTbL b T 0).data.toList (ba_listT _ _ _ HZ.out)).mono ?_
  rintro e w5 ⟨rfl, hbl⟩
  replace HBL := Lib.hid hbl
  have t0 := (HT.out.kept hbl.ke).c0
  clear hbl
  go_wp2_with fail
  clear t0
  go_loopw [22] (fun i wr => ∃ t : Nat, t ≤ n ∧ i = .int .i64 t ∧ Bld U (w.heap.size + 1) wr (putTbL b T t).data.toList) (fun i _ => n - (intOf i).toNat)
  case atStart => exact ⟨0, Nat.zero_le _, rfl, HBL.out⟩
  case round =>
    obtain ⟨t, ht, rfl, hbl⟩ := hrel
    have HBR := Lib.hid hbl
    clear hbl
    have hsz := HSZ.out t
    by_cases hlt : t < n
    · obtain ⟨g, o, x, rfl, hx, EX⟩ := (HH.out.kept HBR.out.ke).get hlt
      have x0 := EX.c0; have x1 := EX.c1; have x2 := EX.c2; have x3 := EX.c3; have x4 := EX.c4; have x5 := EX.c5
      have hka := (Kept.refl wr).alloc #[.int .i64 x.f.k, .int .i64 x.f.n, .string x.f.t, .int .i64 x.t.k, .int .i64 x.t.n, .string x.t.t] 44
      have HE := Lib.hid (PaB.new wr x 44)
      have HXS := Lib.hid (HS.out.L x (List.mem_of_getElem? hx))
      obtain ⟨p1, hp1⟩ : ∃ c, putVa ⟨#[]⟩ x.f = c := ⟨_, rfl⟩
      obtain ⟨p2, hp2⟩ : ∃ c, putVa p1 x.t = c := ⟨_, rfl⟩
      have zp1 : p1.size ≤ 620 := by have := putVa_size ⟨#[]⟩ x.f HXS.out.1; rw [hp1] at this; exact this
      have zp2 : p2.size ≤ 1240 := by have := putVa_size p1 x.t HXS.out.2; rw [hp2] at this; omega
      have A1 := Lib.hid (fun w => tputVa ⟨#[]⟩ x.f HXS.out.1 p1 hp1 (by decide) w)
      have A2 := Lib.hid (fun w => tputVa p1 x.t HXS.out.2 p2 hp2 (by omega) w)
      have HL := Lib.hid (show (putTbL b T t).data.toList ++ p2.data.toList = (putTbL b T (t + 1)).data.toList from ba_listT _ _ _ (by rw [putTb_step hx, putPa_cut]; unfold putPa; rw [hp1, hp2]))
      have HLL := Lib.hid (show (putTbL b T t).data.toList.length + p2.size ≤ 140737488355328 by rw [ba_lenT]; omega)
      obtain ⟨W1, hW1⟩ : ∃ W1, wr.alloc (.cells #[.int .i64 x.f.k, .int .i64 x.f.n, .string x.f.t, .int .i64 x.t.k, .int .i64 x.t.n, .string x.t.t] 44) = W1 := ⟨_, rfl⟩
      rw [hW1] at hka HE
      have HKA := Lib.hid hka; have HW1 := Lib.hid hW1
      clear EX hx hka hW1 hp1 hp2 zp1 zp2
      go_wp2_with fail
      rw [HW1.out]
      clear x0 x1 x2 x3 x4 x5
      refine region_plan U 7 (.read [0, 3] (.two 1 (.two 2 (.one 4 (.one 5 (.one 6 .stop))) 4 (.one 2 (.one 5 (.one 6 .stop)))) 4 (.one 1 (.one 2 (.one 5 (.one 6 .stop)))))) (by kernel_rfl) (by kernel_rfl) (by kernel_rfl) (by kernel_rfl) (by kernel_rfl) (fun _ d _ _ _ h => by cases d <;> exact h) (HBR.out.ke.trans HKA.out) ?_
      intro wd hwd
      have HV := Lib.hid (HKA.out.trans hwd)
      replace HE := Lib.hid (HE.out.kept hwd)
      clear hwd
      rw [wpPlan_read]
      simp only [pickOps_cons, pickOps_nil, consO_some, List.getElem?_cons_zero, List.getElem?_cons_succ]
      repeat (go_big_quiet_step (fail))
      refine wpQuiet_nil ?_
      rw [wpPlan_two]
      simp only [pickOps_cons, pickOps_nil, consO_some, List.getElem?_cons_zero, List.getElem?_cons_succ]
      constructor
      · have e0 := HE.out.c0; have e1 := HE.out.c1; have e2 := HE.out.c2
        go_wp2_with fail
        clear e0 e1 e2
        refine soloP (HBR.out.ke.trans HV.out) ?_
        rw [wpPlan_two]
        simp only [pickOps_cons, pickOps_nil, consO_some, List.getElem?_cons_zero, List.getElem?_cons_succ]
        constructor
        · go_wp2_with (go_at_call 48; refine (A1.out _).mono ?_; rintro e u1 ⟨rfl, hkz⟩)
          replace HV := Lib.hid (HV.out.trans hkz)
          replace HE := Lib.hid (HE.out.kept hkz)
          clear hkz
          refine soloP (HBR.out.ke.trans HV.out) ?_
          rw [wpPlan_one]
          simp only [pickOps_cons, pickOps_nil, consO_some, List.getElem?_cons_zero, List.getElem?_cons_succ]
          have e0 := HE.out.c3; have e1 := HE.out.c4; have e2 := HE.out.c5
          go_wp2_with fail
          clear e0 e1 e2
          refine soloP (HBR.out.ke.trans HV.out) ?_
          rw [wpPlan_one]
          simp only [pickOps_cons, pickOps_nil, consO_some, List.getElem?_cons_zero, List.getElem?_cons_succ]
          go_wp2_with (go_at_call 48; refine (A2.out _).mono ?_; rintro e u2 ⟨rfl, hkz⟩)
          replace HV := Lib.hid (HV.out.trans hkz)
          replace HE := Lib.hid (HE.out.kept hkz)
          clear hkz
          refine soloP (HBR.out.ke.trans HV.out) ?_
          rw [wpPlan_one]
          simp only [pickOps_cons, pickOps_nil, consO_some, List.getElem?_cons_zero, List.getElem?_cons_succ]
          go_wp2_with (go_at_call 45; refine (write_any (HBR.out.kept HV.out) p2 HLL.out _ HL.out).mono ?_; rintro e u9 ⟨rfl, hbl⟩)
          have HBF := Lib.hid hbl
          clear hbl
          refine soloP HBF.out.ke ?_
          refine wpPlan_stop ?_
          go_wp2_with fail
          go_roundw
          case rel => exact ⟨t + 1, hlt, by go_num, HBF.out⟩
          case measure => simp [intOf]; omega
        · have e0 := HE.out.c3; have e1 := HE.out.c4; have e2 := HE.out.c5
          go_wp2_with fail
          clear e0 e1 e2
          refine soloP (HBR.out.ke.trans HV.out) ?_
          rw [wpPlan_one]
          simp only [pickOps_cons, pickOps_nil, consO_some, List.getElem?_cons_zero, List.getElem?_cons_succ]
          go_wp2_with (go_at_call 48; refine (A1.out _).mono ?_; rintro e u1 ⟨rfl, hkz⟩)
          replace HV := Lib.hid (HV.out.trans hkz)
          replace HE := Lib.hid (HE.out.kept hkz)
          clear hkz
          refine soloP (HBR.out.ke.trans HV.out) ?_
          rw [wpPlan_one]
          simp only [pickOps_cons, pickOps_nil, consO_some, List.getElem?_cons_zero, List.getElem?_cons_succ]
          go_wp2_with (go_at_call 48; refine (A2.out _).mono ?_; rintro e u2 ⟨rfl, hkz⟩)
          replace HV := Lib.hid (HV.out.trans hkz)
          replace HE := Lib.hid (HE.out.kept hkz)
          clear hkz
          refine soloP (HBR.out.ke.trans HV.out) ?_
          rw [wpPlan_one]
          simp only [pickOps_cons, pickOps_nil, consO_some, List.getElem?_cons_zero, List.getElem?_cons_succ]
          go_wp2_with (go_at_call 45; refine (write_any (HBR.out.kept HV.out) p2 HLL.out _ HL.out).mono ?_; rintro e u9 ⟨rfl, hbl⟩)
          have HBF := Lib.hid hbl
          clear hbl
          refine soloP HBF.out.ke ?_
          refine wpPlan_stop ?_
          go_wp2_with fail
          go_roundw
          case rel => exact ⟨t + 1, hlt, by go_num, HBF.out⟩
          case measure => simp [intOf]; omega
      · have e0 := HE.out.c3; have e1 := HE.out.c4; have e2 := HE.out.c5
        go_wp2_with fail
        clear e0 e1 e2
        refine soloP (HBR.out.ke.trans HV.out) ?_
        rw [wpPlan_one]
        simp only [pickOps_cons, pickOps_nil, consO_some, List.getElem?_cons_zero, List.getElem?_cons_succ]
        have e0 := HE.out.c0; have e1 := HE.out.c1; have e2 := HE.out.c2
        go_wp2_with fail
        clear e0 e1 e2
        refine soloP (HBR.out.ke.trans HV.out) ?_
        rw [wpPlan_one]
        simp only [pickOps_cons, pickOps_nil, consO_some, List.getElem?_cons_zero, List.getElem?_cons_succ]
        go_wp2_with (go_at_call 48; refine (A1.out _).mono ?_; rintro e u1 ⟨rfl, hkz⟩)
        replace HV := Lib.hid (HV.out.trans hkz)
        replace HE := Lib.hid (HE.out.kept hkz)
        clear hkz
        refine soloP (HBR.out.ke.trans HV.out) ?_
        rw [wpPlan_one]
        simp only [pickOps_cons, pickOps_nil, consO_some, List.getElem?_cons_zero, List.getElem?_cons_succ]
        go_wp2_with (go_at_call 48; refine (A2.out _).mono ?_; rintro e u2 ⟨rfl, hkz⟩)
        replace HV := Lib.hid (HV.out.trans hkz)
        replace HE := Lib.hid (HE.out.kept hkz)
        clear hkz
        refine soloP (HBR.out.ke.trans HV.out) ?_
        rw [wpPlan_one]
        simp only [pickOps_cons, pickOps_nil, consO_some, List.getElem?_cons_zero, List.getElem?_cons_succ]
        go_wp2_with (go_at_call 45; refine (write_any (HBR.out.kept HV.out) p2 HLL.out _ HL.out).mono ?_; rintro e u9 ⟨rfl, hbl⟩)
        have HBF := Lib.hid hbl
        clear hbl
        refine soloP HBF.out.ke ?_
        refine wpPlan_stop ?_
        go_wp2_with fail
        go_roundw
        case rel => exact ⟨t + 1, hlt, by go_num, HBF.out⟩
        case measure => simp [intOf]; omega
    · obtain rfl : t = n := by omega
      obtain ⟨p1, hp1⟩ : ∃ c, putVa ⟨#[]⟩ T.d = c := ⟨_, rfl⟩
      obtain ⟨p2, hp2⟩ : ∃ c, putVa p1 T.b = c := ⟨_, rfl⟩
      have zp1 : p1.size ≤ 620 := by have := putVa_size ⟨#[]⟩ T.d HS.out.d; rw [hp1] at this; exact this
      have zp2 : p2.size ≤ 1240 := by have := putVa_size p1 T.b HS.out.b; rw [hp2] at this; omega
      have A1 := Lib.hid (fun w => tputVa ⟨#[]⟩ T.d HS.out.d p1 hp1 (by decide) w)
      have A2 := Lib.hid (fun w => tputVa p1 T.b HS.out.b p2 hp2 (by omega) w)
      have HL := Lib.hid (show (putTbL b T t).data.toList ++ p2.data.toList = r.data.toList from ba_listT _ _ _ (by rw [← HR.out]; unfold putTb; rw [putPa_cut, HNL.out]; unfold putPa; rw [hp1, hp2]))
      have HLL := Lib.hid (show (putTbL b T t).data.toList.length + p2.size ≤ 140737488355328 by rw [ba_lenT]; omega)
      clear hp1 hp2 zp1 zp2
      go_wp2_with fail
      have T2 := KExt.cell HT.out.c2; have T3 := KExt.cell HT.out.c3; have T4 := KExt.cell HT.out.c4; have T5 := KExt.cell HT.out.c5; have T6 := KExt.cell HT.out.c6; have T7 := KExt.cell HT.out.c7
      refine region_plan U 7 (.read [0, 1, 3, 4] (.one 2 (.one 5 (.one 6 .stop)))) (by kernel_rfl) (by kernel_rfl) (by kernel_rfl) (by kernel_rfl) (by kernel_rfl) (fun _ d _ _ _ h => by cases d <;> exact h) HBR.out.ke ?_
      intro wd hwd
      have HV := Lib.hid hwd
      clear hwd
      rw [wpPlan_read]
      simp only [pickOps_cons, pickOps_nil, consO_some, List.getElem?_cons_zero, List.getElem?_cons_succ]
      repeat (go_big_quiet_step (fail))
      refine wpQuiet_nil ?_
      clear T2 T3 T4 T5 T6 T7
      rw [wpPlan_one]
      simp only [pickOps_cons, pickOps_nil, consO_some, List.getElem?_cons_zero, List.getElem?_cons_succ]
      go_wp2_with (go_at_call 48; refine (A1.out _).mono ?_; rintro e u1 ⟨rfl, hkz⟩)
      replace HV := Lib.hid (HV.out.trans hkz)
      clear hkz
      refine soloP (HBR.out.ke.trans HV.out) ?_
      rw [wpPlan_one]
      simp only [pickOps_cons, pickOps_nil, consO_some, List.getElem?_cons_zero, List.getElem?_cons_succ]
      go_wp2_with (go_at_call 48; refine (A2.out _).mono ?_; rintro e u2 ⟨rfl, hkz⟩)
      replace HV := Lib.hid (HV.out.trans hkz)
      clear hkz
      refine soloP (HBR.out.ke.trans HV.out) ?_
      rw [wpPlan_one]
      simp only [pickOps_cons, pickOps_nil, consO_some, List.getElem?_cons_zero, List.getElem?_cons_succ]
      go_wp2_with (go_at_call 45; refine (write_any (HBR.out.kept HV.out) p2 HLL.out _ HL.out).mono ?_; rintro e u9 ⟨rfl, hbl⟩)
      have HBF := Lib.hid hbl
      clear hbl
      refine soloP HBF.out.ke ?_
      refine wpPlan_stop ?_
      go_wp2_with fail
      go_at_call 49
      refine (string_any HBF.out).mono ?_
      rintro e w9 ⟨rfl, hk9⟩
      go_wp2_with fail
      go_ret
      exact ⟨congrArg (fun z => Ending.returned (Value.string z)) (show (⟨r.data⟩ : ByteArray) = r from rfl), HK.out.trans hk9⟩
end Go.Proofs.YtjcnjmlgedmmoaaDoor

namespace Go.Proofs.YtjcnjmlgedmmoaaDoor
open Go.RowKit
set_option linter.unusedVariables false

/-- What is taken so far, in two cells that may be written: what is left, the first error. -/
structure Sou (w : World) (b : Nat) (r : ByteArray) (z : Nat) : Prop where
  c0 : w.cell? ⟨b, 0, none⟩ = some (.string r)
  c1 : w.cell? ⟨b, 1, none⟩ = some (.int .i64 (z : Int))
  f : ∀ i, w.frozen? ⟨b, i, none⟩ = false
  lt : b < w.heap.size
theorem Sou.kept {w w' : World} {b : Nat} {r : ByteArray} {z : Nat} (h : Sou w b r z) (hg : Kept w w') : Sou w' b r z :=
  ⟨hg.cell h.c0, hg.cell h.c1, fun i => (hg.2.1 ⟨b, i, none⟩ h.lt).trans (h.f i), Nat.lt_of_lt_of_le h.lt hg.2.2⟩
theorem Sou.keptE {G : Nat} {w w' : World} {b : Nat} {r : ByteArray} {z : Nat} (h : Sou w b r z) (k : KeptE G w w') (hb : b ≠ G) : Sou w' b r z :=
  ⟨k.cell hb h.c0, k.cell hb h.c1, fun i => k.froz hb h.lt (h.f i), Nat.lt_of_lt_of_le h.lt k.size⟩
theorem Sou.set0 {w : World} {b : Nat} {r : ByteArray} {z : Nat} (h : Sou w b r z) (r' : ByteArray) : Sou (w.setCell ⟨b, 0, none⟩ (.string r')) b r' z :=
  ⟨World.cell?_setCell_same _ _ _ h.c0, cell_beside (by decide) h.c1, fun i => by rw [World.frozen?_setCell]; exact h.f i, by have := h.lt; simpa [World.setCell] using this⟩
theorem Sou.set1 {w : World} {b : Nat} {r : ByteArray} {z : Nat} (h : Sou w b r z) (z' : Nat) : Sou (w.setCell ⟨b, 1, none⟩ (.int .i64 (z' : Int))) b r z' :=
  ⟨cell_beside (by decide) h.c0, World.cell?_setCell_same _ _ _ h.c1, fun i => by rw [World.frozen?_setCell]; exact h.f i, by have := h.lt; simpa [World.setCell] using this⟩
theorem cell_offT {w : World} {b b' i j : Nat} {v u : Value} (hb : b ≠ b') (h : w.cell? ⟨b', j, none⟩ = some u) : (w.setCell ⟨b, i, none⟩ v).cell? ⟨b', j, none⟩ = some u := by
  rw [World.cell?_setCell_other _ _ _ _ (fun e => hb (by cases e; rfl))]; exact h
theorem Sou.far {w : World} {b g i : Nat} {r : ByteArray} {z : Nat} (h : Sou w b r z) (hne : g ≠ b) (v : Value) : Sou (w.setCell ⟨g, i, none⟩ v) b r z :=
  ⟨cell_offT hne h.c0, cell_offT hne h.c1, fun i => by rw [World.frozen?_setCell]; exact h.f i, by have := h.lt; simpa [World.setCell] using this⟩
/-- What 'number' takes. -/
def NumR (most : Nat) (above : Nat) (r : ByteArray) (z : Nat) (v : Nat) (r' : ByteArray) (z' : Nat) : Prop :=
  (z = 0 ∧ most < tkN r ∧ v = 0 ∧ r' = tkR r ∧ z' = above) ∨ (z = 0 ∧ tkN r ≤ most ∧ v = tkN r ∧ r' = tkR r ∧ z' = tkE r) ∨ (z ≠ 0 ∧ v = 0 ∧ r' = r ∧ z' = z)
theorem numR_ex (most above : Nat) (r : ByteArray) (z : Nat) : ∃ v r' z', NumR most above r z v r' z' := by
  by_cases hz : z = 0
  · by_cases h : most < tkN r
    · exact ⟨_, _, _, .inl ⟨hz, h, rfl, rfl, rfl⟩⟩
    · exact ⟨_, _, _, .inr (.inl ⟨hz, by omega, rfl, rfl, rfl⟩)⟩
  · exact ⟨_, _, _, .inr (.inr ⟨hz, rfl, rfl, rfl⟩)⟩
theorem NumR.size {most above : Nat} {r : ByteArray} {z v : Nat} {r' : ByteArray} {z' : Nat} (h : NumR most above r z v r' z') : r'.size ≤ r.size ∧ v ≤ most := by
  have := tkR_size r
  rcases h with ⟨_, _, rfl, rfl, _⟩ | ⟨_, h, rfl, rfl, _⟩ | ⟨_, rfl, rfl, _⟩
  · exact ⟨this, Nat.zero_le _⟩
  · exact ⟨this, h⟩
  · exact ⟨Nat.le_refl _, Nat.zero_le _⟩
/-- What 'value' takes. -/
def ValR (r : ByteArray) (z : Nat) (v : Va) (r' : ByteArray) (z' : Nat) : Prop :=
  (z = 0 ∧ v = tVa r ∧ r' = tvR r ∧ z' = tvE r) ∨ (z ≠ 0 ∧ v = .zero ∧ r' = r ∧ z' = z)
theorem valR_ex (r : ByteArray) (z : Nat) : ∃ v r' z', ValR r z v r' z' := by
  by_cases hz : z = 0
  · exact ⟨_, _, _, .inl ⟨hz, rfl, rfl, rfl⟩⟩
  · exact ⟨_, _, _, .inr ⟨hz, rfl, rfl, rfl⟩⟩
theorem ValR.size {r : ByteArray} {z : Nat} {v : Va} {r' : ByteArray} {z' : Nat} (h : ValR r z v r' z') : r'.size ≤ r.size := by
  rcases h with ⟨_, _, rfl, _⟩ | ⟨_, _, rfl, _⟩
  · exact tvR_szH r
  · exact Nat.le_refl _
/-- Where the taking stands behind the two numbers and t pairs. -/
def InvT (s : ByteArray) (a m t : Nat) (L : List Pa) (r : ByteArray) (z : Nat) : Prop :=
  (z = 0 ∧ ttbL s = restTb a (takePs (m - t) L r)) ∨ (z ≠ 0 ∧ ttbL s = (.none, ⟨#[]⟩, z))
theorem inv_head {s : ByteArray} {a : Nat} {r1 : ByteArray} {z1 m : Nat} {r2 : ByteArray} {z2 : Nat} (h1 : NumR 3 3 s 0 a r1 z1) (h2 : NumR 8 4 r1 z1 m r2 z2) : InvT s a m 0 [] r2 z2 := by
  rcases h1 with ⟨_, h3, rfl, rfl, rfl⟩ | ⟨_, h3, rfl, rfl, rfl⟩ | ⟨h, _⟩
  · have he : tkE s = 0 := Classical.byContradiction fun e => by have := (tk_bad s e).1; omega
    rcases h2 with ⟨h, _⟩ | ⟨h, _⟩ | ⟨_, rfl, rfl, rfl⟩
    · cases h
    · cases h
    · exact .inr ⟨by decide, by unfold ttbL; rw [if_neg (by simp [he]), if_pos h3]⟩
  · by_cases he : tkE s = 0
    · rcases h2 with ⟨_, h8, rfl, rfl, rfl⟩ | ⟨_, h8, rfl, rfl, rfl⟩ | ⟨h, _⟩
      · have he2 : tkE (tkR s) = 0 := Classical.byContradiction fun e => by have := (tk_bad _ e).1; omega
        exact .inr ⟨by decide, by unfold ttbL; rw [if_neg (by simp [he]), if_neg (by omega), if_neg (by simp [he2]), if_pos h8]⟩
      · by_cases he2 : tkE (tkR s) = 0
        · exact .inl ⟨he2, by unfold ttbL; rw [if_neg (by simp [he]), if_neg (by omega), if_neg (by simp [he2]), if_neg (by omega), Nat.sub_zero]⟩
        · exact .inr ⟨he2, by unfold ttbL; rw [if_neg (by simp [he]), if_neg (by omega), if_pos he2]⟩
      · exact absurd he h
    · rcases h2 with ⟨h, _⟩ | ⟨h, _⟩ | ⟨_, rfl, rfl, rfl⟩
      · exact absurd h he
      · exact absurd h he
      · exact .inr ⟨he, by unfold ttbL; rw [if_pos he]⟩
  · exact absurd rfl h
theorem inv_step {s : ByteArray} {a m t : Nat} {L : List Pa} {r : ByteArray} {z : Nat} {x y : Va} {r1 : ByteArray} {z1 : Nat} {r2 : ByteArray} {z2 : Nat} (h : InvT s a m t L r z) (ht : t < m) (h1 : ValR r z x r1 z1) (h2 : ValR r1 z1 y r2 z2) : InvT s a m (t + 1) (L ++ [⟨x, y⟩]) r2 z2 := by
  rcases h with ⟨rfl, h⟩ | ⟨hz, h⟩
  · rcases h1 with ⟨_, rfl, rfl, rfl⟩ | ⟨h, _⟩
    · rw [show m - t = (m - (t + 1)) + 1 by omega] at h
      by_cases he : tvE r = 0
      · rcases h2 with ⟨_, rfl, rfl, rfl⟩ | ⟨h', _⟩
        · by_cases he2 : tvE (tvR r) = 0
          · refine .inl ⟨he2, ?_⟩
            rw [h, takePs_ok (by unfold twoE; rw [two_ok he he2])]
            unfold twoX twoR
            rw [two_ok he he2]
          · refine .inr ⟨he2, ?_⟩
            have e : twoE r = tvE (tvR r) := by unfold twoE; rw [two_e2 he he2]
            rw [h, takePs_err (by rw [e]; exact he2), e]
            unfold restTb
            rw [if_pos he2]
        · exact absurd he h'
      · rcases h2 with ⟨h', _⟩ | ⟨_, rfl, rfl, rfl⟩
        · exact absurd h' he
        · refine .inr ⟨he, ?_⟩
          have e : twoE r = tvE r := by unfold twoE; rw [two_e1 he]
          rw [h, takePs_err (by rw [e]; exact he), e]
          unfold restTb
          rw [if_pos he]
    · exact absurd rfl h
  · rcases h1 with ⟨h', _⟩ | ⟨_, rfl, rfl, rfl⟩
    · exact absurd h' hz
    · rcases h2 with ⟨h', _⟩ | ⟨_, rfl, rfl, rfl⟩
      · exact absurd h' hz
      · exact .inr ⟨hz, h⟩
theorem inv_end {s : ByteArray} {a m t : Nat} {L : List Pa} {r : ByteArray} {z : Nat} {x y : Va} {r1 : ByteArray} {z1 : Nat} {r2 : ByteArray} {z2 : Nat} (h : InvT s a m t L r z) (ht : m - t = 0) (h1 : ValR r z x r1 z1) (h2 : ValR r1 z1 y r2 z2) :
    (z2 = 0 ∧ ttbL s = (⟨L, decide (a % 2 = 1), x, y, decide (2 ≤ a)⟩, r2, 0)) ∨ (z2 ≠ 0 ∧ ttbL s = (.none, ⟨#[]⟩, z2)) := by
  rcases h with ⟨rfl, h⟩ | ⟨hz, h⟩
  · rcases h1 with ⟨_, rfl, rfl, rfl⟩ | ⟨h, _⟩
    · rw [ht] at h
      have h0 : ttbL s = restTb a (L, r, 0) := h
      unfold restTb at h0
      rw [if_neg (by simp)] at h0
      by_cases he : tvE r = 0
      · rcases h2 with ⟨_, rfl, rfl, rfl⟩ | ⟨h', _⟩
        · by_cases he2 : tvE (tvR r) = 0
          · refine .inl ⟨he2, ?_⟩
            unfold twoE twoX twoR at h0
            rw [two_ok he he2] at h0
            rw [h0]
            simp
          · refine .inr ⟨he2, ?_⟩
            unfold twoE at h0
            rw [two_e2 he he2] at h0
            rw [h0]
            simp [he2]
        · exact absurd he h'
      · rcases h2 with ⟨h', _⟩ | ⟨_, rfl, rfl, rfl⟩
        · exact absurd h' he
        · refine .inr ⟨he, ?_⟩
          unfold twoE at h0
          rw [two_e1 he] at h0
          rw [h0]
          simp [he]
    · exact absurd rfl h
  · rcases h1 with ⟨h', _⟩ | ⟨_, rfl, rfl, rfl⟩
    · exact absurd h' hz
    · rcases h2 with ⟨h', _⟩ | ⟨_, rfl, rfl, rfl⟩
      · exact absurd h' hz
      · exact .inr ⟨hz, h⟩
theorem bits_keepT {m : Nat} (h : m ≤ 3) : (Go.bits BinOp.and IntKind.u64 (m : Int) 1 != 0) = decide (m % 2 = 1) := by
  obtain rfl | rfl | rfl | rfl : m = 0 ∨ m = 1 ∨ m = 2 ∨ m = 3 := by omega
  all_goals kernel_rfl
theorem bits_tuT {m : Nat} (h : m ≤ 3) : (Go.bits BinOp.and IntKind.u64 (m : Int) 2 != 0) = decide (2 ≤ m) := by
  obtain rfl | rfl | rfl | rfl : m = 0 ∨ m = 1 ∨ m = 2 ∨ m = 3 := by omega
  all_goals kernel_rfl
/-- The row, the block that names it, and what is left; W0: what is left alone. -/
structure TakQ (W0 : World) (B sb tb : Nat) (wr : World) (v : Value) (L : List Pa) (kp tu : Bool) (r : ByteArray) (z : Nat) : Prop where
  own : wr.ownsRow B 44 6 v L.length (flatPa L)
  box : TabZ wr tb v kp tu
  sou : Sou wr sb r z
  ke : Kept W0 wr
  le : B ≤ wr.heap.size
theorem TakQ.kept {W0 : World} {B sb tb : Nat} {wr w' : World} {v : Value} {L : List Pa} {kp tu : Bool} {r : ByteArray} {z : Nat} (h : TakQ W0 B sb tb wr v L kp tu r z) (k : Kept wr w') : TakQ W0 B sb tb w' v L kp tu r z :=
  ⟨own_kept h.own k, h.box.kept k, h.sou.kept k, h.ke.trans k, Nat.le_trans h.le k.2.2⟩
/-- The blocks in their order. -/
structure OrdQ (W0 : World) (B sb tb : Nat) : Prop where
  s : W0.heap.size ≤ sb
  t : sb < tb
  b : tb < B
theorem TakQ.val {W0 : World} {B sb tb : Nat} {wr w' : World} {v : Value} {L : List Pa} {kp tu : Bool} {r r' : ByteArray} {z z' : Nat} (h : TakQ W0 B sb tb wr v L kp tu r z) (o : OrdQ W0 B sb tb) (hs : Sou w' sb r' z') (k : KeptE sb wr w') : TakQ W0 B sb tb w' v L kp tu r' z' :=
  ⟨own_blk h.own fun g hg => by
    have := (h.own.lt g hg)
    exact k.blk g this.2 (fun e => by have := o.t; have := o.b; omega), h.box.keptE k (fun e => by have := o.t; omega), hs, k.kept h.ke o.s, Nat.le_trans h.le k.size⟩
theorem TakQ.form {W0 : World} {B sb tb : Nat} {wr : World} {v : Value} {L : List Pa} {kp tu : Bool} {r : ByteArray} {z : Nat} (h : TakQ W0 B sb tb wr v L kp tu r z) : ∃ A c, v = .slice A L.length c ∧ Pal wr A L.length c L ∧ ∀ ad, A = some ad → B ≤ ad.block := Pal.of_own' h.own
theorem TakQ.app {W0 : World} {B sb tb : Nat} {wr : World} {v : Value} {L : List Pa} {kp tu : Bool} {r : ByteArray} {z : Nat} (h : TakQ W0 B sb tb wr v L kp tu r z) (o : OrdQ W0 B sb tb) (A : Option Addr) (m c : Nat) (M : List Pa) (hs : Pal wr A m c M) (hl : L.length + m ≤ 1000000) :
    ∃ v' w', (Builtin.append_ #[22, 22] 22 #[v, .slice A m c]).run Tryd.prog wr = .ok v' w' ∧ w'.cell? ⟨tb, 0, none⟩ = some v ∧ (∀ j, w'.frozen? ⟨tb, j, none⟩ = false) ∧ Kept W0 w' ∧ TakQ W0 B sb tb (w'.setCell ⟨tb, 0, none⟩ v') v' (L ++ M) kp tu r z := by
  obtain ⟨v', w', hr, ho, hg, hat⟩ := app_pas wr B v L.length (flatPa L) h.own A m c M hs (by omega) h.le
  have hS := o.s; have hT := o.t; have hB := o.b
  have hk : ∃ G, B ≤ G ∧ KeptE G wr w' := by
    rcases hv : v.ownBlock with _ | G
    · exact ⟨B, Nat.le_refl _, (KeptE.refl _ wr).grown hg fun g hg2 => by rw [hv] at hg2; cases hg2⟩
    · exact ⟨G, (h.own.lt G hv).1, (KeptE.refl G wr).grown hg fun g hg2 => .inl (by rw [hv] at hg2; exact (Option.some.inj hg2).symm)⟩
  obtain ⟨G, hG, hkG⟩ := hk
  have hbox := h.box.keptE hkG (by omega)
  have hsou := h.sou.keptE hkG (by omega)
  have hkk : Kept W0 w' := hkG.kept h.ke (by omega)
  have hne' : ∀ g, v'.ownBlock = some g → g ≠ tb := fun g hg2 e => by have := (ho.lt g hg2).1; omega
  refine ⟨v', w', hr, hbox.c0, hbox.f, hkk, ⟨?_, hbox.set0 v', hsou.far (by omega) _, hkk.setCell (a := ⟨tb, 0, none⟩) (by show W0.heap.size ≤ tb; omega) _, ?_⟩⟩
  · rw [List.length_append, flatPa_app, ← hs.1]
    exact own_blk ho fun g hg2 => Deep.blk_setCell_other w' _ _ g (fun e => hne' g hg2 e)
  · have := Nat.le_trans h.le hkG.size
    simpa [World.setCell] using this
end Go.Proofs.YtjcnjmlgedmmoaaDoor

