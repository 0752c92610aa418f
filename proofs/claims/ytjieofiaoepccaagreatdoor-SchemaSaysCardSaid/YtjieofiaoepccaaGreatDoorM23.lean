/-
  What is proved: package schema's Put of layer 11 (P11.6), called with any text and any schema, of bounded lengths, returns what that says; the world has new blocks at most.
  words for the taking of fields (P11.7): how long what is taken is; a schema's fields while they are taken, in a row that a block names.
  package schema's next, at the types that it is asked for, and its taking of one field (P11.7), called with any text of up to 100000 bytes, return what that says; the world has new blocks at most.
-/
import Derived.Test.YtjieofiaoepccaaGreatDoorM22
import Derived.Test.YtjieofiaoepccaaGreatDoorM4
import Derived.Test.YtjieofiaoepccaaGreatDoorM20
import Derived.Test.YtjieofiaoepccaaGreatDoorM5
import Derived.Test.YtjieofiaoepccaaGreatDoorM12
import Derived.Test.YtjieofiaoepccaaGreatDoorM19
namespace Go.Proofs.YtjieofiaoepccaaGreatDoor
open Go.RowKit
set_option linter.unusedVariables false
theorem listF_app (a b r : ByteArray) (h : a ++ b = r) : a.data.toList ++ b.data.toList = r.data.toList := by
  subst h
  simp [ByteArray.data_append]
theorem listF_len (a : ByteArray) : a.data.toList.length = a.size := by simp
theorem putFd_size {x : Fd} (h : FdS x) (b : ByteArray) : (putFd b x).size ≤ b.size + 560 := by
  have q1 := h.p; have q2 := h.vt
  have z1 := putS_size x.p.size; have z2 := putS_size (x.k % 4).toNat; have z3 := putS_size (x.t % 4).toNat
  have := putV_size (b ++ putS x.p.size ++ x.p ++ putS (x.k % 4).toNat ++ putS (x.t % 4).toNat) x.vk x.vn x.vt
  unfold putFd
  simp only [ByteArray.size_append] at this ⊢
  omega
set_option maxRecDepth 100000 in
set_option maxHeartbeats 8000000 in
theorem spf_any (x : Fd) (w : World) (h : FdS x) (r : ByteArray) (hr : putFd ⟨#[]⟩ x = r) :
    Calls Tryz.prog 44 #[.agg #[.string x.p, .int .i64 x.k, .int .i64 x.t, .int .i64 x.vk, .int .i64 x.vn, .string x.vt]] w fun e w' => e = .returned (.string r) ∧ Kept w w' := by
  have hand1 := i64_and3 x.k; have hand2 := i64_and3 x.t
  obtain ⟨m1, hm1, hm14⟩ : ∃ m : Nat, x.k % 4 = (m : Int) ∧ m < 4 := ⟨(x.k % 4).toNat, by omega, by omega⟩
  obtain ⟨m2, hm2, hm24⟩ : ∃ m : Nat, x.t % 4 = (m : Int) ∧ m < 4 := ⟨(x.t % 4).toNat, by omega, by omega⟩
  have hw1 : IntKind.u64.wrap (m1 : Int) = (m1 : Int) := by rw [IntKind.wrap_u64]; omega
  have hw2 : IntKind.u64.wrap (m2 : Int) = (m2 : Int) := by rw [IntKind.wrap_u64]; omega
  obtain ⟨b1, hb1⟩ : ∃ b1, (⟨#[]⟩ : ByteArray) ++ putS x.p.size ++ x.p = b1 := ⟨_, rfl⟩
  obtain ⟨b2, hb2⟩ : ∃ b2, b1 ++ putS m1 = b2 := ⟨_, rfl⟩
  obtain ⟨b3, hb3⟩ : ∃ b3, b2 ++ putS m2 = b3 := ⟨_, rfl⟩
  have q1 := h.p; have q2 := h.vt
  have z1 : b1.size ≤ 210 := by have := putS_size x.p.size; rw [← hb1, ByteArray.size_append, ByteArray.size_append]; show 0 + _ + _ ≤ _; omega
  have z2 : b2.size ≤ 220 := by have := putS_size m1; rw [← hb2, ByteArray.size_append]; omega
  have z3 : b3.size ≤ 230 := by have := putS_size m2; rw [← hb3, ByteArray.size_append]; omega
  have A2 := Lib.hid (fun w => text_any ⟨#[]⟩ x.p w (by decide) (by omega))
  have A3 := Lib.hid (fun w => put_any b1 m1 w (by omega) (by omega))
  have A4 := Lib.hid (fun w => put_any b2 m2 w (by omega) (by omega))
  have A5 := Lib.hid (fun w => vput_any b3 x.vk x.vn x.vt w h.lo h.hi (by omega) (by omega))
  have HR := Lib.hid (show putV b3 x.vk x.vn x.vt = r by rw [← hr]; unfold putFd; rw [hb1, show (x.k % 4).toNat = m1 by omega, hb2, show (x.t % 4).toNat = m2 by omega, hb3])
  rw [hm1] at hand1
  rw [hm2] at hand2
  rw [hb1] at A2
  rw [hb2] at A3
  rw [hb3] at A4
  rw [HR.out] at A5
  have hka := (Kept.refl w).alloc #[.string x.p, .int .i64 x.k, .int .i64 x.t, .int .i64 x.vk, .int .i64 x.vn, .string x.vt] 30
  have HE := Lib.hid (FdB.new w x 30)
  have y0 := HE.out.c0
  have HKA := Lib.hid hka
  clear h hr q1 q2 z1 z2 z3 hb1 hb2 hb3 hm1 hm2 hm14 hm24 hka
  go_enter Tryz.func44, Tryz.ntmps44
  go_wp2_with fail
  go_at_call 71
  refine (A2.out _).mono ?_
  rintro e w2 ⟨rfl, hg⟩
  have hk := kept_of hg
  replace HE := Lib.hid (HE.out.kept hk)
  replace HKA := Lib.hid (HKA.out.trans hk)
  clear hg hk y0 A2
  have y1 := HE.out.c1
  go_wp2_with fail
  go_at_call 43
  refine (A3.out _).mono ?_
  rintro e w3 ⟨rfl, hg⟩
  have hk := kept_of hg
  replace HE := Lib.hid (HE.out.kept hk)
  replace HKA := Lib.hid (HKA.out.trans hk)
  clear hg hk y1 A3
  have y2 := HE.out.c2
  go_wp2_with fail
  go_at_call 43
  refine (A4.out _).mono ?_
  rintro e w4 ⟨rfl, hg⟩
  have hk := kept_of hg
  replace HE := Lib.hid (HE.out.kept hk)
  replace HKA := Lib.hid (HKA.out.trans hk)
  clear hg hk y2 A4
  have y3 := HE.out.c3; have y4 := HE.out.c4; have y5 := HE.out.c5
  go_wp2_with fail
  go_at_call 72
  refine (A5.out _).mono ?_
  rintro e w5 ⟨rfl, hg⟩
  replace HKA := Lib.hid (HKA.out.trans (kept_of hg))
  clear hg y3 y4 y5 A5
  go_wp2_with fail
  go_ret
  exact ⟨rfl, HKA.out⟩
set_option maxRecDepth 100000 in
set_option maxHeartbeats 8000000 in
theorem sput_any (b : ByteArray) (A : Option Addr) (n c : Nat) (L : List Fd) (w : World) (h : Fl w A n c L) (hn : n ≤ 40) (hw : ∀ x ∈ L, FdS x) (hb : b.size ≤ 5000) :
    Calls Tryz.prog 17 #[.string b, .agg #[.slice A n c]] w fun e w' => e = .returned (.string (putSc b L)) ∧ Kept w w' := by
  have hk := (Kept.refl w).alloc #[.slice A n c] 24
  have hcap := h.cap.1; have hcap2 := h.cap.2
  have HNL := Lib.hid h.1; have HSZ := Lib.hid hw
  have HB := Lib.hid (Box1.new w (.slice A n c) 24)
  have HH := Lib.hid (h.kept hk)
  have hB0 := Bld.start (w.alloc (.cells #[.slice A n c] 24))
  have hsz : (w.alloc (.cells #[.slice A n c] 24)).heap.size = w.heap.size + 1 := by simp
  rw [hsz] at hB0
  have hk2 := (Kept.refl (w.alloc (.cells #[.slice A n c] 24))).alloc #[.pointer none, .slice none 0 0] 60
  have d0 := (HB.out.kept hk2).c0
  obtain ⟨U, hU⟩ : ∃ U, w.alloc (.cells #[.slice A n c] 24) = U := ⟨_, rfl⟩
  rw [hU] at hk HB HH hB0
  have HK := Lib.hid hk; have HUU := Lib.hid hU; have HB0 := Lib.hid hB0
  have hwr : IntKind.u64.wrap (n : Int) = (n : Int) := by rw [IntKind.wrap_u64]; omega
  obtain ⟨s0, hs0⟩ : ∃ s, b ++ putS n = s := ⟨_, rfl⟩
  have AN := Lib.hid (fun w => put_any b n w (by omega) (by omega))
  have hz0 : s0.size ≤ 5010 := by have := putS_size n; rw [← hs0, ByteArray.size_append]; omega
  have HS0 := Lib.hid (show putScL b L 0 = s0 by unfold putScL; rw [List.take_zero, ← HNL.out]; exact hs0)
  rw [hs0] at AN
  clear h hw hk hk2 hU hb hs0 hB0 hsz
  go_enter Tryz.func17, Tryz.ntmps17
  go_wp2_with fail
  go_at_call 43
  refine (AN.out _).mono ?_
  rintro e w1 ⟨rfl, hg⟩
  have HBL1 := Lib.hid (HB0.out.kept (by rw [← HUU.out]; exact kept_of hg))
  clear hg d0 hwr AN
  go_wp2_with fail
  go_at_call 42
  refine (write_any HBL1.out s0 (by simp; omega) s0.data.toList (by simp)).mono ?_
  rintro e w2 ⟨rfl, hbl2⟩
  have HBL2 := Lib.hid hbl2
  have d0 := (HB.out.kept hbl2.ke).c0
  clear hbl2
  go_wp2_with fail
  clear d0
  go_loopw [18] (fun i wr => ∃ (t : Nat), t ≤ n ∧ i = .int .i64 t ∧ (putScL b L t).size ≤ 5010 + t * 560 ∧ Bld U (w.heap.size + 1) wr (putScL b L t).data.toList) (fun i _ => n - (intOf i).toNat)
  case atStart => exact ⟨0, Nat.zero_le _, rfl, by rw [HS0.out]; omega, by rw [HS0.out]; exact HBL2.out⟩
  case round =>
    obtain ⟨t, ht, rfl, hsz, hbl⟩ := hrel
    have HBL := Lib.hid hbl
    clear hbl
    by_cases hlt : t < n
    · obtain ⟨g, o, x, rfl, hx, EX⟩ := (HH.out.kept HBL.out.ke).get hlt
      have hst := putScL_step b hx
      have hfs := HSZ.out x (List.mem_of_getElem? hx)
      rw [putF_enc] at hst
      obtain ⟨y, hy⟩ : ∃ y, putFd ⟨#[]⟩ x = y := ⟨_, rfl⟩
      have hys : y.size ≤ 560 := by have := putFd_size hfs ⟨#[]⟩; rw [hy] at this; have e : (⟨#[]⟩ : ByteArray).size = 0 := rfl; omega
      have AF := Lib.hid (fun w => spf_any x w hfs y hy)
      rw [hy] at hst
      have hn1 : (putScL b L (t + 1)).size ≤ 5010 + (t + 1) * 560 := by rw [hst, ByteArray.size_append]; omega
      have HS := Lib.hid (show (putScL b L t).data.toList ++ y.data.toList = (putScL b L (t + 1)).data.toList from listF_app _ _ _ hst.symm)
      have hll : (putScL b L t).data.toList.length + y.size ≤ 140737488355328 := by rw [listF_len]; omega
      have HLL := Lib.hid hll
      have HN1 := Lib.hid hn1
      have x0 := EX.c0; have x1 := EX.c1; have x2 := EX.c2; have x3 := EX.c3; have x4 := EX.c4; have x5 := EX.c5
      have hka := (Kept.refl wr).alloc #[.string x.p, .int .i64 x.k, .int .i64 x.t, .int .i64 x.vk, .int .i64 x.vn, .string x.vt] 30
      have HKA := Lib.hid hka
      clear EX hx hst hfs hy hys hn1 hll hka
      go_wp2_with fail
      go_at_call 44
      refine (AF.out _).mono ?_
      rintro e w5 ⟨rfl, hk5⟩
      have HK5 := Lib.hid (HKA.out.trans hk5)
      clear hk5 x0 x1 x2 x3 x4 x5
      go_wp2_with fail
      go_at_call 42
      refine (write_any (HBL.out.kept HK5.out) y HLL.out _ HS.out).mono ?_
      rintro e w6 ⟨rfl, hbl6⟩
      go_wp2_with fail
      go_roundw
      case rel => exact ⟨t + 1, hlt, by go_num, HN1.out, hbl6⟩
      case measure => simp [intOf]; omega
    · have htn : t = n := by omega
      have HF := Lib.hid (show (⟨(putScL b L t).data.toList.toArray⟩ : ByteArray) = putSc b L by
        rw [htn, HNL.out, putScL_all])
      clear htn
      go_wp2_with fail
      go_at_call 45
      refine (string_any HBL.out).mono ?_
      rintro e w9 ⟨rfl, hk9⟩
      go_wp2_with fail
      go_ret
      exact ⟨by rw [← HF.out]; rfl, HK.out.trans hk9⟩
end Go.Proofs.YtjieofiaoepccaaGreatDoor

namespace Go.Proofs.YtjieofiaoepccaaGreatDoor
open Go.RowKit
set_option linter.unusedVariables false

theorem ttR_szF (s : ByteArray) (m : Int) : (ttR s m).size ≤ s.size := by
  by_cases h : ttE s m = 0
  · have := congrArg ByteArray.size (tt_aft s m h).1
    rw [ByteArray.size_append, ByteArray.size_append] at this
    omega
  · have : ttR s m = ⟨#[]⟩ := by
      unfold ttE ttL at h
      unfold ttR ttL
      by_cases h1 : tkE s ≠ 0
      · rw [if_pos h1]
      rw [if_neg h1] at h ⊢
      by_cases h2 : m < 0 ∨ m < (tkN s : Int)
      · rw [if_pos h2]
      rw [if_neg h2] at h ⊢
      by_cases h3 : (tkR s).size < tkN s
      · rw [if_pos h3]
      · rw [if_neg h3] at h; simp at h
    rw [this]
    exact Nat.zero_le _
theorem tvR_szF (s : ByteArray) : (tvR s).size ≤ s.size := by
  have h1 := tkR_size s
  have h2 := tkR_size (tkR s)
  have h3 := ttR_szF (tkR s) 200
  unfold tvR tvL
  by_cases e1 : tkE s ≠ 0
  · rw [if_pos e1]; exact Nat.zero_le _
  rw [if_neg e1]
  by_cases e2 : 3 < tkN s
  · rw [if_pos e2]; exact Nat.zero_le _
  rw [if_neg e2]
  by_cases e3 : tkN s = 0
  · rw [if_pos e3]; exact h1
  rw [if_neg e3]
  by_cases e4 : tkN s = 2
  · rw [if_pos e4]
    by_cases e5 : ttE (tkR s) 200 ≠ 0
    · rw [if_pos e5]; exact Nat.zero_le _
    · rw [if_neg e5]; exact Nat.le_trans h3 h1
  rw [if_neg e4]
  by_cases e5 : tkE (tkR s) ≠ 0
  · rw [if_pos e5]; exact Nat.zero_le _
  rw [if_neg e5]
  by_cases e6 : rightB (tkN s) (tiN (tkR s)) ⟨#[]⟩ = true
  · rw [if_pos e6]; exact Nat.le_trans h2 h1
  · rw [if_neg e6]; exact Nat.zero_le _
theorem tvT_szF (s : ByteArray) : (tvT s).size ≤ 200 := by
  unfold tvT tvL
  by_cases h1 : tkE s ≠ 0
  · rw [if_pos h1]; exact Nat.zero_le _
  rw [if_neg h1]
  by_cases h2 : 3 < tkN s
  · rw [if_pos h2]; exact Nat.zero_le _
  rw [if_neg h2]
  by_cases h3 : tkN s = 0
  · rw [if_pos h3]; exact Nat.zero_le _
  rw [if_neg h3]
  by_cases h4 : tkN s = 2
  · rw [if_pos h4]
    by_cases h5 : ttE (tkR s) 200 ≠ 0
    · rw [if_pos h5]; exact Nat.zero_le _
    · rw [if_neg h5]; exact tt_size _
  rw [if_neg h4]
  by_cases h5 : tkE (tkR s) ≠ 0
  · rw [if_pos h5]; exact Nat.zero_le _
  rw [if_neg h5]
  by_cases h6 : rightB (tkN s) (tiN (tkR s)) ⟨#[]⟩ = true
  · rw [if_pos h6]; exact Nat.zero_le _
  · rw [if_neg h6]; exact Nat.zero_le _
/-- What a taken field holds. -/
theorem tf_sizes {s : ByteArray} (h : tfE s = 0) : (tfX s).p.size ≤ 1000 ∧ (tfX s).vt.size ≤ 1000 ∧ (tfR s).size ≤ s.size := by
  unfold tfE at h
  unfold tfX tfR
  by_cases h1 : errF s ≠ 0
  · rw [show tfL s = (.none, ⟨#[]⟩, errF s) by unfold tfL; rw [if_pos h1]] at h; exact absurd h h1
  by_cases h2 : 3 < tkN (f1 s) ∨ 3 < tkN (f2 s)
  · rw [show tfL s = (.none, ⟨#[]⟩, 3) by unfold tfL; rw [if_neg h1, if_pos h2]] at h; simp at h
  rw [show tfL s = (fdK s, tvR (f3 s), 0) by unfold tfL; rw [if_neg h1, if_neg h2]]
  have ht : ttE s 102 = 0 := by
    by_cases q : ttE s 102 = 0
    · exact q
    · exact absurd (show errF s ≠ 0 by unfold errF; rw [if_pos q]; exact q) h1
  have a1 := (tt_aft s 102 ht).2.1
  have a2 := tvT_szF (f3 s)
  have a3 := tvR_szF (f3 s)
  have a4 := tkR_size (f2 s)
  have a5 := tkR_size (f1 s)
  have a6 := ttR_szF s 102
  refine ⟨?_, ?_, ?_⟩
  · show (ttT s 102).size ≤ _; omega
  · show (tvT (f3 s)).size ≤ _; omega
  · show (tvR (f3 s)).size ≤ _
    unfold f3 f2 f1 at *
    omega
theorem Box1.keptE {G : Nat} {w w' : World} {b : Nat} {u : Value} (h : Box1 w b u) (k : KeptE G w w') (hb : b ≠ G) : Box1 w' b u :=
  ⟨k.cell hb h.c0, fun j => by
    have := h.f j
    have e := k.blk b h.lt hb
    unfold World.frozen? at this ⊢
    rw [e]; exact this, Nat.lt_of_lt_of_le h.lt k.size⟩
/-- What the taking of fields keeps: a row, which a block of its own names. -/
structure TakM (b : Nat) (U wr : World) (v : Value) (L : List Fd) : Prop where
  own : wr.ownsRow U.heap.size 30 6 v L.length (flatF L)
  box : Box1 wr b v
  ke : KeptE b U wr
theorem TakM.start {b : Nat} {U : World} (h : Box1 U b (.slice none 0 0)) : TakM b U U (.slice none 0 0) [] := ⟨World.ownsRow_nil _ _ _ _, h, KeptE.refl _ _⟩
theorem TakM.kept {b : Nat} {U wr w' : World} {v : Value} {L : List Fd} (h : TakM b U wr v L) (k : Kept wr w') : TakM b U w' v L := ⟨own_kept h.own k, h.box.kept k, h.ke.trans k⟩
theorem TakM.form {b : Nat} {U wr : World} {v : Value} {L : List Fd} (h : TakM b U wr v L) : ∃ A c, v = .slice A L.length c ∧ Fl wr A L.length c L := Fl.of_own h.own
theorem TakM.app {b : Nat} {U wr : World} {v : Value} {L : List Fd} (h : TakM b U wr v L) (hb : b < U.heap.size) (A : Option Addr) (m c : Nat) (M : List Fd) (hs : Fl wr A m c M) (hl : L.length + m ≤ 1000000) :
    ∃ v' w', (Builtin.append_ #[22, 22] 22 #[v, .slice A m c]).run Tryz.prog wr = .ok v' w' ∧ w'.cell? ⟨b, 0, none⟩ = some v ∧ (∀ j, w'.frozen? ⟨b, j, none⟩ = false) ∧ TakM b U (w'.setCell ⟨b, 0, none⟩ v') v' (L ++ M) := by
  obtain ⟨v', w', hr, ho, hg, hat⟩ := app_fls wr U.heap.size v L.length (flatF L) h.own A m c M hs (by omega) h.ke.size
  have hne : ∀ g, v.ownBlock = some g → g ≠ b := fun g hg2 e => by have := (h.own.lt g hg2).1; omega
  have hk : ∃ G, G ≠ b ∧ KeptE G wr w' := by
    rcases hv : v.ownBlock with _ | G
    · exact ⟨b + 1, by omega, (KeptE.refl _ wr).grown hg fun g hg2 => by rw [hv] at hg2; cases hg2⟩
    · exact ⟨G, hne G hv, (KeptE.refl G wr).grown hg fun g hg2 => .inl (by rw [hv] at hg2; exact (Option.some.inj hg2).symm)⟩
  obtain ⟨G, hG, hkG⟩ := hk
  have hbox := h.box.keptE hkG (fun e => hG e.symm)
  have hne' : ∀ g, v'.ownBlock = some g → g ≠ b := fun g hg2 e => by have := (ho.lt g hg2).1; omega
  refine ⟨v', w', hr, hbox.c0, hbox.f, ⟨?_, ⟨World.cell?_setCell_same _ _ _ hbox.c0, fun j => by rw [World.frozen?_setCell]; exact hbox.f j, by have := hbox.lt; simpa [World.setCell] using this⟩, ?_⟩⟩
  · rw [List.length_append, flatF_app, ← hs.1]
    exact own_blk ho fun g hg2 => Deep.blk_setCell_other w' _ _ g (fun e => hne' g hg2 e)
  · have h1 : KeptE b U w' := h.ke.grown hg fun g hg2 => .inr (h.own.lt g hg2).1
    exact h1.set (.inl rfl) _
/-- P11.7: what Take hands back. -/
def TakS (s : ByteArray) (w : World) (e : Ending) (w' : World) : Prop :=
  ∃ A c, e = .returned (.tuple #[.agg #[.slice A (tscL s).1.length c], .string (tscL s).2.1, .int .i64 ((tscL s).2.2 : Int)]) ∧ Fl w' A (tscL s).1.length c (tscL s).1 ∧ Kept w w'
theorem takS_err {s : ByteArray} {z : Nat} (h : tscL s = ([], ⟨#[]⟩, z)) {w w' : World} (hk : Kept w w') : TakS s w (.returned (.tuple #[.agg #[.slice none 0 0], .string ⟨#[]⟩, .int .i64 (z : Int)])) w' := by
  unfold TakS
  rw [h]
  exact ⟨none, 0, rfl, Fl.nil _, hk⟩
theorem takS_ok {s r : ByteArray} {L : List Fd} (h : tscL s = (L, r, 0)) {w w' : World} {A : Option Addr} {c : Nat} (hf : Fl w' A L.length c L) (hk : Kept w w') : TakS s w (.returned (.tuple #[.agg #[.slice A L.length c], .string r, .int .i64 0])) w' := by
  unfold TakS
  rw [h]
  exact ⟨A, c, rfl, hf, hk⟩
end Go.Proofs.YtjieofiaoepccaaGreatDoor

namespace Go.Proofs.YtjieofiaoepccaaGreatDoor
open Go.RowKit
set_option linter.unusedVariables false
/-- A number behind what was taken, or an error that came ahead of it. -/
def nxN (r : ByteArray) (z : Nat) : Nat × ByteArray × Nat := if z ≠ 0 then (0, ⟨#[]⟩, z) else (tkN r, tkR r, tkE r)
def nxV (r : ByteArray) (z : Nat) : Int × Int × ByteArray × ByteArray × Nat := if z ≠ 0 then (0, 0, ⟨#[]⟩, ⟨#[]⟩, z) else (tvK r, tvI r, tvT r, tvR r, tvE r)
theorem nxN_size {r : ByteArray} {z : Nat} {m : Nat} (h : r.size ≤ m) : (nxN r z).2.1.size ≤ m := by
  unfold nxN
  split
  · exact Nat.zero_le _
  · exact Nat.le_trans (tkR_size r) h
set_option maxRecDepth 100000 in
set_option maxHeartbeats 8000000 in
theorem nxN_any (r : ByteArray) (z : Nat) (hs : r.size ≤ 100000) (n' : Nat) (r' : ByteArray) (z' : Nat) (h : nxN r z = (n', r', z')) (w : World) :
    Calls Tryz.prog 61 #[.string r, .int .i64 (z : Int), .func (.func 30) #[] #[]] w fun e w' => e = .returned (.tuple #[.int .u64 (n' : Int), .string r', .int .i64 (z' : Int)]) ∧ Kept w w' := by
  unfold nxN at h
  by_cases hz : z = 0
  · subst hz
    rw [if_neg (by simp)] at h
    obtain ⟨h1, h2⟩ := Prod.mk.inj h
    obtain ⟨h2, h3⟩ := Prod.mk.inj h2
    have AK := Lib.hid (fun w => take_c r (n' : Int) r' (z' : Int) (by rw [h1]) h2 (by rw [h3]) (by omega) w)
    clear h h1 h2 h3 hs
    go_enter Tryz.func61, Tryz.ntmps61
    go_wp2_with fail
    go_at_call 30
    refine (AK.out _).mono ?_
    rintro e w1 ⟨rfl, hg⟩
    go_wp2_with fail
    go_ret3
    exact ⟨rfl, kept_of hg⟩
  · rw [if_pos hz] at h
    obtain ⟨rfl, h2⟩ := Prod.mk.inj h
    obtain ⟨rfl, rfl⟩ := Prod.mk.inj h2
    have f1 : ((z : Int) == 0) = false := by simp; omega
    have f2 : ((z : Int) != 0) = true := by simp; omega
    clear h h2 hz hs
    go_enter Tryz.func61, Tryz.ntmps61
    go_wp2_with fail
    go_ret3
    exact ⟨rfl, Kept.refl _⟩
theorem Box.keptF {w w' : World} {b : Nat} {x0 x1 x2 : Value} (h : Box w b x0 x1 x2) (hg : Kept w w') : Box w' b x0 x1 x2 :=
  ⟨hg.cell h.c0, hg.cell h.c1, hg.cell h.c2, fun i => (hg.2.1 ⟨b, i, none⟩ (show b < w.heap.size from World.block_lt_of_cell? w _ h.c0)).trans (h.f i)⟩
set_option maxRecDepth 100000 in
set_option maxHeartbeats 8000000 in
theorem nxV_any (r : ByteArray) (z : Nat) (hs : r.size ≤ 100000) (k n : Int) (t : ByteArray) (r' : ByteArray) (z' : Nat) (h : nxV r z = (k, n, t, r', z')) (w : World) :
    Calls Tryz.prog 62 #[.string r, .int .i64 (z : Int), .func (.func 63) #[] #[]] w fun e w' => e = .returned (.tuple #[.agg #[.int .i64 k, .int .i64 n, .string t], .string r', .int .i64 (z' : Int)]) ∧ Kept w w' := by
  have HB := Lib.hid (Box.new w (.int .i64 0) (.int .i64 0) (.string ⟨#[]⟩) 28)
  have HK := Lib.hid ((Kept.refl w).alloc #[.int .i64 0, .int .i64 0, .string ⟨#[]⟩] 28)
  unfold nxV at h
  by_cases hz : z = 0
  · subst hz
    rw [if_neg (by simp)] at h
    obtain ⟨h1, h⟩ := Prod.mk.inj h
    obtain ⟨h2, h⟩ := Prod.mk.inj h
    obtain ⟨h3, h⟩ := Prod.mk.inj h
    obtain ⟨h4, h5⟩ := Prod.mk.inj h
    have AK := Lib.hid (fun w => vtake_any r w (by omega))
    rw [h1, h2, h3, h4, h5] at AK
    clear h h1 h2 h3 h4 h5 hs
    go_enter Tryz.func62, Tryz.ntmps62
    go_wp2_with fail
    go_at_call 63
    refine (AK.out _).mono ?_
    rintro e w1 ⟨rfl, hg⟩
    have hk := kept_of hg
    have hb := HB.out.keptF hk
    have b0 := hb.c0; have b1 := hb.c1; have b2 := hb.c2; have bf := hb.f
    have HF := Lib.hid (show Kept w _ from (((HK.out.trans hk).setCell (a := ⟨w.heap.size, 0, none⟩) (Nat.le_refl _) (.int .i64 k)).setCell (a := ⟨w.heap.size, 1, none⟩) (Nat.le_refl _) (.int .i64 n)).setCell (a := ⟨w.heap.size, 2, none⟩) (Nat.le_refl _) (.string t))
    clear hb hk hg
    go_wp2_with fail
    refine bodyPost_ret (by simp [results, Tryz.results62, go_sem, *]) rfl ⟨rfl, ?_⟩
    exact HF.out
  · rw [if_pos hz] at h
    simp only [Prod.mk.injEq] at h
    obtain ⟨e1, e2, e3, e4, e5⟩ := h
    subst e1 e2 e3 e4 e5
    have f1 : ((z : Int) == 0) = false := by simp; omega
    have f2 : ((z : Int) != 0) = true := by simp; omega
    have hk2 := (Kept.refl (w.alloc (.cells #[.int .i64 0, .int .i64 0, .string ⟨#[]⟩] 28))).alloc #[.int .i64 0, .int .i64 0, .string ⟨#[]⟩] 28
    have hb := HB.out.keptF hk2
    have b0 := hb.c0; have b1 := hb.c1; have b2 := hb.c2; have bf := hb.f
    have HF := Lib.hid (HK.out.trans hk2)
    clear hz hs hb hk2
    go_enter Tryz.func62, Tryz.ntmps62
    go_wp2_with fail
    refine bodyPost_ret (by simp [results, Tryz.results62, go_sem, *]) rfl ⟨rfl, ?_⟩
    exact HF.out
/-- What a field's four parts come to. -/
theorem tf_parts (s : ByteArray) {t r1 : ByteArray} {z0 n1 : Nat} {r2 : ByteArray} {z1 n2 : Nat} {r3 : ByteArray} {z2 : Nat} {k n : Int} {vt r4 : ByteArray} {z3 : Nat}
    (h0 : ttT s 102 = t ∧ ttR s 102 = r1 ∧ ttE s 102 = z0) (h1 : nxN r1 z0 = (n1, r2, z1)) (h2 : nxN r2 z1 = (n2, r3, z2)) (h3 : nxV r3 z2 = (k, n, vt, r4, z3)) :
    (z3 ≠ 0 → tfL s = (.none, ⟨#[]⟩, z3)) ∧ (z3 = 0 → (3 < n1 ∨ 3 < n2) → tfL s = (.none, ⟨#[]⟩, 3)) ∧ (z3 = 0 → ¬ (3 < n1 ∨ 3 < n2) → tfL s = (⟨t, n1, n2, k, n, vt⟩, r4, 0)) := by
  obtain ⟨a1, a2, a3⟩ := h0
  have key : errF s = z3 ∧ (z3 = 0 → tkN (f1 s) = n1 ∧ tkN (f2 s) = n2 ∧ tvK (f3 s) = k ∧ tvI (f3 s) = n ∧ tvT (f3 s) = vt ∧ tvR (f3 s) = r4) := by
    have e1 : f1 s = r1 := a2
    unfold errF f2 f3 f2
    rw [e1, a3]
    unfold nxN at h1 h2
    unfold nxV at h3
    by_cases q0 : z0 = 0
    · subst q0
      rw [if_neg (by simp)] at h1
      obtain ⟨b1, b2⟩ := Prod.mk.inj h1
      obtain ⟨b2, b3⟩ := Prod.mk.inj b2
      rw [if_neg (by simp), b1, b2, b3]
      by_cases q1 : z1 = 0
      · subst q1
        rw [if_neg (by simp)] at h2
        obtain ⟨c1, c2⟩ := Prod.mk.inj h2
        obtain ⟨c2, c3⟩ := Prod.mk.inj c2
        rw [if_neg (by simp), c1, c2, c3]
        by_cases q2 : z2 = 0
        · subst q2
          rw [if_neg (by simp)] at h3
          obtain ⟨d1, h3⟩ := Prod.mk.inj h3
          obtain ⟨d2, h3⟩ := Prod.mk.inj h3
          obtain ⟨d3, h3⟩ := Prod.mk.inj h3
          obtain ⟨d4, d5⟩ := Prod.mk.inj h3
          rw [if_neg (by simp)]
          exact ⟨d5, fun _ => ⟨rfl, rfl, d1, d2, d3, d4⟩⟩
        · rw [if_pos q2] at h3
          have d5 : z2 = z3 := (Prod.mk.inj (Prod.mk.inj (Prod.mk.inj (Prod.mk.inj h3).2).2).2).2
          rw [if_pos q2]
          exact ⟨d5, fun e => absurd (d5.trans e) q2⟩
      · rw [if_pos q1] at h2
        have c3 : z1 = z2 := (Prod.mk.inj (Prod.mk.inj h2).2).2
        rw [if_pos (by omega)] at h3
        have d5 : z2 = z3 := (Prod.mk.inj (Prod.mk.inj (Prod.mk.inj (Prod.mk.inj h3).2).2).2).2
        rw [if_pos q1]
        exact ⟨c3.trans d5, fun e => absurd (c3.trans (d5.trans e)) q1⟩
    · rw [if_pos q0] at h1
      have b3 : z0 = z1 := (Prod.mk.inj (Prod.mk.inj h1).2).2
      rw [if_pos (by omega)] at h2
      have c3 : z1 = z2 := (Prod.mk.inj (Prod.mk.inj h2).2).2
      rw [if_pos (by omega)] at h3
      have d5 : z2 = z3 := (Prod.mk.inj (Prod.mk.inj (Prod.mk.inj (Prod.mk.inj h3).2).2).2).2
      rw [if_pos q0]
      exact ⟨b3.trans (c3.trans d5), fun e => absurd (b3.trans (c3.trans (d5.trans e))) q0⟩
  obtain ⟨hE, hk⟩ := key
  unfold tfL
  rw [hE]
  refine ⟨fun h => by rw [if_pos h], fun h g => ?_, fun h g => ?_⟩
  · obtain ⟨k1, k2, _⟩ := hk h
    rw [if_neg (by omega), k1, k2, if_pos g]
  · obtain ⟨k1, k2, k3, k4, k5, k6⟩ := hk h
    rw [if_neg (by omega), k1, k2, if_neg g]
    unfold fdK
    rw [a1, k1, k2, k3, k4, k5, k6]
set_option maxRecDepth 100000 in
set_option maxHeartbeats 8000000 in
theorem stf_any (s : ByteArray) (w : World) (hs : s.size ≤ 100000) :
    Calls Tryz.prog 31 #[.string s] w fun e w' => e = .returned (.tuple #[.agg #[.string (tfX s).p, .int .i64 (tfX s).k, .int .i64 (tfX s).t, .int .i64 (tfX s).vk, .int .i64 (tfX s).vn, .string (tfX s).vt], .string (tfR s), .int .i64 (tfE s)]) ∧ Kept w w' := by
  have hres := FdB.new w .none 30
  simp only [Fd.none] at hres
  have HRES := Lib.hid hres
  have HK := Lib.hid ((Kept.refl w).alloc #[.string ⟨#[]⟩, .int .i64 0, .int .i64 0, .int .i64 0, .int .i64 0, .string ⟨#[]⟩] 30)
  obtain ⟨t, ht⟩ : ∃ t, ttT s 102 = t := ⟨_, rfl⟩
  obtain ⟨r1, hr1⟩ : ∃ r, ttR s 102 = r := ⟨_, rfl⟩
  obtain ⟨z0, hz0⟩ : ∃ z, ttE s 102 = z := ⟨_, rfl⟩
  have hs1 : r1.size ≤ 100000 := by rw [← hr1]; exact Nat.le_trans (ttR_szF s 102) hs
  obtain ⟨n1, r2, z1, h1⟩ : ∃ n r z, nxN r1 z0 = (n, r, z) := ⟨_, _, _, rfl⟩
  have hs2 : r2.size ≤ 100000 := by have := nxN_size (z := z0) hs1; rw [h1] at this; exact this
  obtain ⟨n2, r3, z2, h2⟩ : ∃ n r z, nxN r2 z1 = (n, r, z) := ⟨_, _, _, rfl⟩
  have hs3 : r3.size ≤ 100000 := by have := nxN_size (z := z1) hs2; rw [h2] at this; exact this
  obtain ⟨vk, vn, vt, r4, z3, h3⟩ : ∃ k n t r z, nxV r3 z2 = (k, n, t, r, z) := ⟨_, _, _, _, _, rfl⟩
  have HP := Lib.hid (tf_parts s ⟨ht, hr1, hz0⟩ h1 h2 h3)
  have AT := Lib.hid (fun w => takeText_c s 102 t r1 (z0 : Int) ht hr1 (by rw [hz0]) (by omega) (by decide) (by decide) w)
  have A1 := Lib.hid (fun w => nxN_any r1 z0 hs1 n1 r2 z1 h1 w)
  have A2 := Lib.hid (fun w => nxN_any r2 z1 hs2 n2 r3 z2 h2 w)
  have A3 := Lib.hid (fun w => nxV_any r3 z2 hs3 vk vn vt r4 z3 h3 w)
  clear hres ht hr1 hz0 hs1 h1 hs2 h2 hs3 h3 hs
  by_cases hz : z3 = 0
  · subst hz
    by_cases hg3 : 3 < n1 ∨ 3 < n2
    · have hL := HP.out.2.1 rfl hg3
      obtain ⟨t1, t2, t3⟩ := tf_of hL
      rw [t1, t2, t3]
      clear hL t1 t2 t3
      by_cases hle : n1 ≤ n2
      · have hm : max (n1 : Int) (n2 : Int) = (n2 : Int) := by omega
        have hmn : max n1 n2 = n2 := by omega
        have g1 : decide ((3 : Int) < (n2 : Int)) = true := decide_eq_true (by omega)
        have g1' : decide (3 < n2) = true := decide_eq_true (by omega)
        clear hg3 hle
        go_enter Tryz.func31, Tryz.ntmps31
        go_wp2_with fail
        go_at_call 60
        refine (AT.out _).mono ?_
        rintro e w1 ⟨rfl, hg⟩
        have hk := kept_of hg
        replace HK := Lib.hid (HK.out.trans hk)
        replace HRES := Lib.hid (HRES.out.kept hk)
        clear hk hg
        go_wp2_with fail
        go_at_call 61
        refine (A1.out _).mono ?_
        rintro e w2 ⟨rfl, hk⟩
        replace HK := Lib.hid (HK.out.trans hk)
        replace HRES := Lib.hid (HRES.out.kept hk)
        clear hk
        go_wp2_with fail
        go_at_call 61
        refine (A2.out _).mono ?_
        rintro e w3 ⟨rfl, hk⟩
        replace HK := Lib.hid (HK.out.trans hk)
        replace HRES := Lib.hid (HRES.out.kept hk)
        clear hk
        go_wp2_with fail
        go_at_call 62
        refine (A3.out _).mono ?_
        rintro e w4 ⟨rfl, hk⟩
        have hka := (Kept.refl w4).alloc #[.int .i64 vk, .int .i64 vn, .string vt] 28
        have HBV := Lib.hid (Box.new w4 (.int .i64 vk) (.int .i64 vn) (.string vt) 28)
        replace HK := Lib.hid (HK.out.trans (hk.trans hka))
        replace HRES := Lib.hid (HRES.out.kept (hk.trans hka))
        clear hk hka
        have hr := HRES.out
        have rf := hr.f
        have r0 := hr.c0; have r1 := hr.c1; have r2 := hr.c2; have r3 := hr.c3; have r4 := hr.c4; have r5 := hr.c5
        clear hr
        have HF := Lib.hid (show Kept w _ from (((((HK.out.setCell (a := ⟨w.heap.size, 0, none⟩) (Nat.le_refl _) (.string ⟨#[]⟩)).setCell (a := ⟨w.heap.size, 1, none⟩) (Nat.le_refl _) (.int .i64 0)).setCell (a := ⟨w.heap.size, 2, none⟩) (Nat.le_refl _) (.int .i64 0)).setCell (a := ⟨w.heap.size, 3, none⟩) (Nat.le_refl _) (.int .i64 0)).setCell (a := ⟨w.heap.size, 4, none⟩) (Nat.le_refl _) (.int .i64 0)).setCell (a := ⟨w.heap.size, 5, none⟩) (Nat.le_refl _) (.string ⟨#[]⟩))
        go_wp2_with fail
        refine bodyPost_ret (by simp [results, Tryz.results31, go_sem, Fd.none, *]) rfl ⟨rfl, ?_⟩
        exact HF.out
      · have hm : max (n1 : Int) (n2 : Int) = (n1 : Int) := by omega
        have hmn : max n1 n2 = n1 := by omega
        have g1 : decide ((3 : Int) < (n1 : Int)) = true := decide_eq_true (by omega)
        have g1' : decide (3 < n1) = true := decide_eq_true (by omega)
        clear hg3 hle
        go_enter Tryz.func31, Tryz.ntmps31
        go_wp2_with fail
        go_at_call 60
        refine (AT.out _).mono ?_
        rintro e w1 ⟨rfl, hg⟩
        have hk := kept_of hg
        replace HK := Lib.hid (HK.out.trans hk)
        replace HRES := Lib.hid (HRES.out.kept hk)
        clear hk hg
        go_wp2_with fail
        go_at_call 61
        refine (A1.out _).mono ?_
        rintro e w2 ⟨rfl, hk⟩
        replace HK := Lib.hid (HK.out.trans hk)
        replace HRES := Lib.hid (HRES.out.kept hk)
        clear hk
        go_wp2_with fail
        go_at_call 61
        refine (A2.out _).mono ?_
        rintro e w3 ⟨rfl, hk⟩
        replace HK := Lib.hid (HK.out.trans hk)
        replace HRES := Lib.hid (HRES.out.kept hk)
        clear hk
        go_wp2_with fail
        go_at_call 62
        refine (A3.out _).mono ?_
        rintro e w4 ⟨rfl, hk⟩
        have hka := (Kept.refl w4).alloc #[.int .i64 vk, .int .i64 vn, .string vt] 28
        have HBV := Lib.hid (Box.new w4 (.int .i64 vk) (.int .i64 vn) (.string vt) 28)
        replace HK := Lib.hid (HK.out.trans (hk.trans hka))
        replace HRES := Lib.hid (HRES.out.kept (hk.trans hka))
        clear hk hka
        have hr := HRES.out
        have rf := hr.f
        have r0 := hr.c0; have r1 := hr.c1; have r2 := hr.c2; have r3 := hr.c3; have r4 := hr.c4; have r5 := hr.c5
        clear hr
        have HF := Lib.hid (show Kept w _ from (((((HK.out.setCell (a := ⟨w.heap.size, 0, none⟩) (Nat.le_refl _) (.string ⟨#[]⟩)).setCell (a := ⟨w.heap.size, 1, none⟩) (Nat.le_refl _) (.int .i64 0)).setCell (a := ⟨w.heap.size, 2, none⟩) (Nat.le_refl _) (.int .i64 0)).setCell (a := ⟨w.heap.size, 3, none⟩) (Nat.le_refl _) (.int .i64 0)).setCell (a := ⟨w.heap.size, 4, none⟩) (Nat.le_refl _) (.int .i64 0)).setCell (a := ⟨w.heap.size, 5, none⟩) (Nat.le_refl _) (.string ⟨#[]⟩))
        go_wp2_with fail
        refine bodyPost_ret (by simp [results, Tryz.results31, go_sem, Fd.none, *]) rfl ⟨rfl, ?_⟩
        exact HF.out
    · have hL := HP.out.2.2 rfl hg3
      obtain ⟨t1, t2, t3⟩ := tf_of hL
      rw [t1, t2, t3]
      clear hL t1 t2 t3
      have hw1 : IntKind.i64.wrap (n1 : Int) = (n1 : Int) := by rw [IntWalk.i64_in _ (by omega)]
      have hw2 : IntKind.i64.wrap (n2 : Int) = (n2 : Int) := by rw [IntWalk.i64_in _ (by omega)]
      by_cases hle : n1 ≤ n2
      · have hm : max (n1 : Int) (n2 : Int) = (n2 : Int) := by omega
        have hmn : max n1 n2 = n2 := by omega
        have g1 : decide ((3 : Int) < (n2 : Int)) = false := decide_eq_false (by omega)
        have g1' : decide (3 < n2) = false := decide_eq_false (by omega)
        clear hg3 hle
        go_enter Tryz.func31, Tryz.ntmps31
        go_wp2_with fail
        go_at_call 60
        refine (AT.out _).mono ?_
        rintro e w1 ⟨rfl, hg⟩
        have hk := kept_of hg
        replace HK := Lib.hid (HK.out.trans hk)
        replace HRES := Lib.hid (HRES.out.kept hk)
        clear hk hg
        go_wp2_with fail
        go_at_call 61
        refine (A1.out _).mono ?_
        rintro e w2 ⟨rfl, hk⟩
        replace HK := Lib.hid (HK.out.trans hk)
        replace HRES := Lib.hid (HRES.out.kept hk)
        clear hk
        go_wp2_with fail
        go_at_call 61
        refine (A2.out _).mono ?_
        rintro e w3 ⟨rfl, hk⟩
        replace HK := Lib.hid (HK.out.trans hk)
        replace HRES := Lib.hid (HRES.out.kept hk)
        clear hk
        go_wp2_with fail
        go_at_call 62
        refine (A3.out _).mono ?_
        rintro e w4 ⟨rfl, hk⟩
        have hka := (Kept.refl w4).alloc #[.int .i64 vk, .int .i64 vn, .string vt] 28
        have HBV := Lib.hid (Box.new w4 (.int .i64 vk) (.int .i64 vn) (.string vt) 28)
        replace HK := Lib.hid (HK.out.trans (hk.trans hka))
        replace HRES := Lib.hid (HRES.out.kept (hk.trans hka))
        clear hk hka
        have hr := HRES.out
        have rf := hr.f
        have r0 := hr.c0; have r1 := hr.c1; have r2 := hr.c2; have r3 := hr.c3; have r4 := hr.c4; have r5 := hr.c5
        clear hr
        have v0 := HBV.out.c0; have v1 := HBV.out.c1; have v2 := HBV.out.c2
        have HF := Lib.hid (show Kept w _ from (((((HK.out.setCell (a := ⟨w.heap.size, 0, none⟩) (Nat.le_refl _) (.string t)).setCell (a := ⟨w.heap.size, 1, none⟩) (Nat.le_refl _) (.int .i64 (n1 : Int))).setCell (a := ⟨w.heap.size, 2, none⟩) (Nat.le_refl _) (.int .i64 (n2 : Int))).setCell (a := ⟨w.heap.size, 3, none⟩) (Nat.le_refl _) (.int .i64 vk)).setCell (a := ⟨w.heap.size, 4, none⟩) (Nat.le_refl _) (.int .i64 vn)).setCell (a := ⟨w.heap.size, 5, none⟩) (Nat.le_refl _) (.string vt))
        go_wp2_with fail
        refine bodyPost_ret (by simp [results, Tryz.results31, go_sem, *]) rfl ⟨rfl, ?_⟩
        exact HF.out
      · have hm : max (n1 : Int) (n2 : Int) = (n1 : Int) := by omega
        have hmn : max n1 n2 = n1 := by omega
        have g1 : decide ((3 : Int) < (n1 : Int)) = false := decide_eq_false (by omega)
        have g1' : decide (3 < n1) = false := decide_eq_false (by omega)
        clear hg3 hle
        go_enter Tryz.func31, Tryz.ntmps31
        go_wp2_with fail
        go_at_call 60
        refine (AT.out _).mono ?_
        rintro e w1 ⟨rfl, hg⟩
        have hk := kept_of hg
        replace HK := Lib.hid (HK.out.trans hk)
        replace HRES := Lib.hid (HRES.out.kept hk)
        clear hk hg
        go_wp2_with fail
        go_at_call 61
        refine (A1.out _).mono ?_
        rintro e w2 ⟨rfl, hk⟩
        replace HK := Lib.hid (HK.out.trans hk)
        replace HRES := Lib.hid (HRES.out.kept hk)
        clear hk
        go_wp2_with fail
        go_at_call 61
        refine (A2.out _).mono ?_
        rintro e w3 ⟨rfl, hk⟩
        replace HK := Lib.hid (HK.out.trans hk)
        replace HRES := Lib.hid (HRES.out.kept hk)
        clear hk
        go_wp2_with fail
        go_at_call 62
        refine (A3.out _).mono ?_
        rintro e w4 ⟨rfl, hk⟩
        have hka := (Kept.refl w4).alloc #[.int .i64 vk, .int .i64 vn, .string vt] 28
        have HBV := Lib.hid (Box.new w4 (.int .i64 vk) (.int .i64 vn) (.string vt) 28)
        replace HK := Lib.hid (HK.out.trans (hk.trans hka))
        replace HRES := Lib.hid (HRES.out.kept (hk.trans hka))
        clear hk hka
        have hr := HRES.out
        have rf := hr.f
        have r0 := hr.c0; have r1 := hr.c1; have r2 := hr.c2; have r3 := hr.c3; have r4 := hr.c4; have r5 := hr.c5
        clear hr
        have v0 := HBV.out.c0; have v1 := HBV.out.c1; have v2 := HBV.out.c2
        have HF := Lib.hid (show Kept w _ from (((((HK.out.setCell (a := ⟨w.heap.size, 0, none⟩) (Nat.le_refl _) (.string t)).setCell (a := ⟨w.heap.size, 1, none⟩) (Nat.le_refl _) (.int .i64 (n1 : Int))).setCell (a := ⟨w.heap.size, 2, none⟩) (Nat.le_refl _) (.int .i64 (n2 : Int))).setCell (a := ⟨w.heap.size, 3, none⟩) (Nat.le_refl _) (.int .i64 vk)).setCell (a := ⟨w.heap.size, 4, none⟩) (Nat.le_refl _) (.int .i64 vn)).setCell (a := ⟨w.heap.size, 5, none⟩) (Nat.le_refl _) (.string vt))
        go_wp2_with fail
        refine bodyPost_ret (by simp [results, Tryz.results31, go_sem, *]) rfl ⟨rfl, ?_⟩
        exact HF.out
  · have hL := HP.out.1 hz
    obtain ⟨t1, t2, t3⟩ := tf_of hL
    rw [t1, t2, t3]
    clear hL t1 t2 t3
    have f1' : ((z3 : Int) == 0) = false := by simp; omega
    have f2' : ((z3 : Int) != 0) = true := by simp; omega
    clear hz
    go_enter Tryz.func31, Tryz.ntmps31
    go_wp2_with fail
    go_at_call 60
    refine (AT.out _).mono ?_
    rintro e w1 ⟨rfl, hg⟩
    have hk := kept_of hg
    replace HK := Lib.hid (HK.out.trans hk)
    replace HRES := Lib.hid (HRES.out.kept hk)
    clear hk hg
    go_wp2_with fail
    go_at_call 61
    refine (A1.out _).mono ?_
    rintro e w2 ⟨rfl, hk⟩
    replace HK := Lib.hid (HK.out.trans hk)
    replace HRES := Lib.hid (HRES.out.kept hk)
    clear hk
    go_wp2_with fail
    go_at_call 61
    refine (A2.out _).mono ?_
    rintro e w3 ⟨rfl, hk⟩
    replace HK := Lib.hid (HK.out.trans hk)
    replace HRES := Lib.hid (HRES.out.kept hk)
    clear hk
    go_wp2_with fail
    go_at_call 62
    refine (A3.out _).mono ?_
    rintro e w4 ⟨rfl, hk⟩
    have hka := (Kept.refl w4).alloc #[.int .i64 vk, .int .i64 vn, .string vt] 28
    have HBV := Lib.hid (Box.new w4 (.int .i64 vk) (.int .i64 vn) (.string vt) 28)
    replace HK := Lib.hid (HK.out.trans (hk.trans hka))
    replace HRES := Lib.hid (HRES.out.kept (hk.trans hka))
    clear hk hka
    have hr := HRES.out
    have rf := hr.f
    have r0 := hr.c0; have r1 := hr.c1; have r2 := hr.c2; have r3 := hr.c3; have r4 := hr.c4; have r5 := hr.c5
    clear hr
    have HF := Lib.hid (show Kept w _ from (((((HK.out.setCell (a := ⟨w.heap.size, 0, none⟩) (Nat.le_refl _) (.string ⟨#[]⟩)).setCell (a := ⟨w.heap.size, 1, none⟩) (Nat.le_refl _) (.int .i64 0)).setCell (a := ⟨w.heap.size, 2, none⟩) (Nat.le_refl _) (.int .i64 0)).setCell (a := ⟨w.heap.size, 3, none⟩) (Nat.le_refl _) (.int .i64 0)).setCell (a := ⟨w.heap.size, 4, none⟩) (Nat.le_refl _) (.int .i64 0)).setCell (a := ⟨w.heap.size, 5, none⟩) (Nat.le_refl _) (.string ⟨#[]⟩))
    go_wp2_with fail
    refine bodyPost_ret (by simp [results, Tryz.results31, go_sem, Fd.none, *]) rfl ⟨rfl, ?_⟩
    exact HF.out
end Go.Proofs.YtjieofiaoepccaaGreatDoor

