/-
  What is proved: dot.With, called with any rising slice of dots that lies in memory and any dot, returns the slice's dots with that one at its place (P5.5); the world has new blocks at most.
-/
import Derived.Test.YtgofecnpmohmgaaDSearch
import Derived.Test.YtgofecnpmohmgaaDConcat
namespace Go.Proofs.Ytgofecnpmohmgaa
open Go.RowKit

theorem sizeD (W : World) : (Go.sizeOf (Try.prog.elem 23)).run Try.prog W = .ok 2 W := by kernel_rfl
theorem dl_head {w : World} {A : Option Addr} {n c k : Nat} {L : List (Int × Int)} (h : Dl w A n c L) (hk : k ≤ n) : Dl w A k c (L.take k) := by
  obtain ⟨h1, h2, h3, h4, h5⟩ := h
  refine ⟨by rw [List.length_take]; omega, by omega, h3, h4, ?_⟩
  rcases h5 with h0 | ⟨b, o, hA, hc⟩
  · exact .inl (by omega)
  · refine .inr ⟨b, o, hA, fun j x hj => hc j x ?_⟩
    rw [List.getElem?_take] at hj
    split at hj
    · exact hj
    · cases hj
theorem run_dhead (A : Option Addr) (n c k : Nat) (hk : k ≤ c) (W : World) :
    (Instr.slice 23 (.slice A n c) none (some (.int .i64 (k : Int))) none).run Try.prog W = .ok (.slice A k c) W := by
  rw [run_slice_h W 23 _ n c (by kernel_rfl) .i64 (k : Int) (by omega) (by omega), sizeD]
  cases A <;> simp [Result.andThen, sliced, Addr.add]
theorem run_dhead2 (A : Option Addr) (n c k : Nat) (hk : k ≤ c) (W : World) :
    (Instr.sliceAt 23 (.slice A n c) none (some (.int .i64 (k : Int))) none).run Try.prog W = .ok (.slice A k c) W := by
  rw [run_sliceAt_slice W _ _ _ _ _ (by kernel_rfl)]; exact run_dhead A n c k hk W
theorem dl_tail {w : World} {A : Option Addr} {n c k : Nat} {L : List (Int × Int)} (h : Dl w A n c L) (hk : k ≤ n) : ∃ A2, Dl w A2 (n - k) (c - k) (L.drop k) ∧
    (∀ W : World, (Instr.slice 23 (.slice A n c) (some (.int .i64 (k : Int))) none none).run Try.prog W = .ok (.slice A2 (n - k) (c - k)) W) ∧
    (∀ W : World, (Instr.sliceAt 23 (.slice A n c) (some (.int .i64 (k : Int))) none none).run Try.prog W = .ok (.slice A2 (n - k) (c - k)) W) := by
  obtain ⟨h1, h2, h3, h4, h5⟩ := h
  have hr : ∀ W : World, (Instr.slice 23 (.slice A n c) (some (.int .i64 (k : Int))) none none).run Try.prog W = .ok (.slice (if c = k then A else A.map (·.add (k * 2))) (n - k) (c - k)) W := fun W => by
    rw [run_slice_l W 23 _ n c (by kernel_rfl) .i64 (k : Int) (by omega) (by omega), sizeD]
    simp only [Result.andThen, sliced, Int.toNat_natCast]
  refine ⟨_, ?_, hr, fun W => by rw [run_sliceAt_slice W _ _ _ _ _ (by kernel_rfl)]; exact hr W⟩
  refine ⟨by rw [List.length_drop]; omega, by omega, by omega, fun he => ?_, ?_⟩
  · by_cases hc : c = k
    · omega
    · rw [if_neg hc, Option.map_eq_none_iff] at he
      have := h4 he
      omega
  · rcases h5 with h0 | ⟨b, o, hA, hc⟩
    · exact .inl (by omega)
    · by_cases hkn : k = n
      · exact .inl (by omega)
      · refine .inr ⟨b, o + k * 2, ?_, fun j x hj => ?_⟩
        · rw [if_neg (by omega), hA, Option.map_some, Addr.add_lit]
        · rw [List.getElem?_drop] at hj
          have := hc _ x hj
          rw [show o + k * 2 + j * 2 = o + (k + j) * 2 by omega]
          exact this

theorem dl_one (w : World) (x1 x2 : Int) (t : TypeId) : Dl (w.alloc (.cells #[.int .i64 x1, .int .i64 x2] t)) (some ⟨w.heap.size, 0, none⟩) 1 1 [(x1, x2)] := by
  refine ⟨rfl, Nat.le_refl _, by simp [maxLen], (fun h => by cases h), .inr ⟨w.heap.size, 0, rfl, fun j x hj => ?_⟩⟩
  match j, hj with
  | 0, hj =>
    obtain rfl : (x1, x2) = x := by simpa using hj
    exact ⟨by rw [World.cell?_alloc_new]; rfl, by rw [World.cell?_alloc_new]; rfl⟩
  | j + 1, hj => simp at hj

theorem concat3D (wd : World) (hb : Nat) (he : wd.heap.size = hb) (s0 s1 s2 : SD) (h0 : Dl wd s0.A s0.n s0.c s0.L) (h1 : Dl wd s1.A s1.n s1.c s1.L) (h2 : Dl wd s2.A s2.n s2.c s2.L) (hT : s0.n + s1.n + s2.n ≤ 1000000) (t : TypeId) :
    Calls Try.prog 56 #[.slice (some ⟨hb, 0, none⟩) 3 3] (wd.alloc (.cells #[.slice s0.A s0.n s0.c, .slice s1.A s1.n s1.c, .slice s2.A s2.n s2.c] t))
      fun e w' => ∃ v, e = .returned v ∧ w'.ownsRow (hb + 1) 36 2 v (s0.n + s1.n + s2.n) (flatD (s0.L ++ s1.L ++ s2.L)) ∧ Kept wd w' := by
  subst he
  have hk := (Kept.refl wd).alloc #[.slice s0.A s0.n s0.c, .slice s1.A s1.n s1.c, .slice s2.A s2.n s2.c] t
  have e1 : totD [s0, s1, s2] 3 = s0.n + s1.n + s2.n := by simp [totD]; omega
  have e2 : catD [s0, s1, s2] 3 = s0.L ++ s1.L ++ s2.L := by simp [catD]
  refine (dconcat_any wd.heap.size [s0, s1, s2] _ (by simp) (by show totD [s0, s1, s2] 3 ≤ _; omega) ?_ ?_).mono ?_
  · intro k s hks
    rw [World.cell?_alloc_new]
    match k, hks with
    | 0, hks => simp at hks; subst hks; rfl
    | 1, hks => simp at hks; subst hks; rfl
    | 2, hks => simp at hks; subst hks; rfl
    | k + 3, hks => simp at hks
  · intro s hs
    simp only [List.mem_cons, List.not_mem_nil, or_false] at hs
    rcases hs with rfl | rfl | rfl
    · exact h0.kept hk
    · exact h1.kept hk
    · exact h2.kept hk
  · rintro e w' ⟨v, rfl, ho, hw⟩
    have ho2 : w'.ownsRow (wd.alloc (.cells #[.slice s0.A s0.n s0.c, .slice s1.A s1.n s1.c, .slice s2.A s2.n s2.c] t)).heap.size 36 2 v (totD [s0, s1, s2] 3) (flatD (catD [s0, s1, s2] 3)) := ho
    rw [e1, e2] at ho2
    exact ⟨v, rfl, by simpa using ho2, hk.trans hw⟩

/-- What With leaves. -/
def Withs (A0 : Option Addr) (L : List (Int × Int)) (x : Int × Int) (w : World) (e : Ending) (w' : World) : Prop :=
  ∃ A m c X, e = .returned (.slice A m c) ∧ Dl w' A m c X ∧ WithD L x X ∧ m ≤ L.length + 1 ∧ Kept w w' ∧ (A = A0 ∨ ∀ ad, A = some ad → w.heap.size ≤ ad.block)

set_option maxRecDepth 100000 in
set_option maxHeartbeats 1000000 in
theorem dwith_yes (A : Option Addr) (n c : Nat) (L : List (Int × Int)) (x1 x2 : Int) (w : World) (h : Dl w A n c L) (hr : Rise L) (hn : n ≤ 1000000) (hm : (x1, x2) ∈ L) :
    Calls Try.prog 50 #[.slice A n c, .agg #[.int .i64 x1, .int .i64 x2]] w (Withs A L (x1, x2) w) := by
  have hz : decide ((x1, x2) ∈ L) = true := by simpa using hm
  have HM := Lib.hid (WithD.self hr hm)
  have HD := Lib.hid h
  have HL := Lib.hid h.1
  have HS := Lib.hid (search_any A n c L x1 x2 (w.alloc (.cells #[.int .i64 x1, .int .i64 x2] 36)) (h.kept ((Kept.refl _).alloc _ _)) hr hn)
  rw [hz] at HS
  clear h hr hm hz
  go_enter Try.func50, Try.ntmps50
  go_wp2_with fail
  go_at_call 57
  refine HS.out.mono ?_
  rintro e w1 ⟨k, rfl, hk, _, _, hkp⟩
  have HK := Lib.hid (((Kept.refl w).alloc #[.int .i64 x1, .int .i64 x2] 36).trans hkp)
  clear hkp
  go_wp2_with fail
  go_at_call 69
  refine (clone_any A n c L _ (HD.out.kept HK.out) hn).mono ?_
  rintro e w2 ⟨v, rfl, ho, hk2⟩
  obtain ⟨A2, c2, rfl, hd, hf⟩ := Dl.of_own' ho
  have HF := Lib.hid hf
  have HE := Lib.hid hd
  have HK2 := Lib.hid hk2
  clear ho hd hk2 hf
  go_wp2_with fail
  go_ret
  exact ⟨A2, n, c2, L, rfl, HE.out, HM.out, by have := HL.out; omega, HK.out.trans HK2.out, .inr fun ad e => Nat.le_trans HK.out.2.2 (HF.out ad e)⟩

set_option maxRecDepth 100000 in
set_option maxHeartbeats 1000000 in
theorem dwith_no (A : Option Addr) (n c : Nat) (L : List (Int × Int)) (x1 x2 : Int) (w : World) (h : Dl w A n c L) (hr : Rise L) (hn : n ≤ 999999) (hm : (x1, x2) ∉ L) :
    Calls Try.prog 50 #[.slice A n c, .agg #[.int .i64 x1, .int .i64 x2]] w (Withs A L (x1, x2) w) := by
  have hz : decide ((x1, x2) ∈ L) = false := by simpa using hm
  have hcap := h.cap.1
  have hcap2 := h.cap.2
  have HR := Lib.hid hr
  have HD := Lib.hid h
  have HL := Lib.hid h.1
  have HS := Lib.hid (search_any A n c L x1 x2 (w.alloc (.cells #[.int .i64 x1, .int .i64 x2] 36)) (h.kept ((Kept.refl _).alloc _ _)) hr (by omega))
  rw [hz] at HS
  have HM := Lib.hid hm
  clear h hr hm hz
  go_enter Try.func50, Try.ntmps50
  go_wp2_with fail
  go_at_call 57
  refine HS.out.mono ?_
  rintro e w1 ⟨k, rfl, hk, hlo, hhi, hkp⟩
  have HW := Lib.hid (WithD.put HR.out k hlo (hhi HM.out))
  have d0 := KExt.cell hkp.box0
  have d1 := KExt.cell hkp.box1
  have HK := Lib.hid (((Kept.refl w).alloc #[.int .i64 x1, .int .i64 x2] 36).trans hkp)
  have HD1 := Lib.hid (HD.out.kept HK.out)
  have HH := Lib.hid (dl_head HD1.out hk)
  obtain ⟨A2, ht, hr2, hr3⟩ := dl_tail HD1.out hk
  have hr0 := run_dhead A n c k (by omega)
  have hr1 := run_dhead2 A n c k (by omega)
  have HT := Lib.hid ht
  clear hkp hlo hhi ht
  go_wp2_with fail
  refine region_mix w1 [([0, 1, 2, 3, 5, 6, 7], some 4), ([], some 8), ([], some 9), ([10], none)] (by kernel_rfl) (by kernel_rfl) (by kernel_rfl) (by kernel_rfl) (fun _ d _ _ _ h => by cases d <;> exact h) (Kept.refl _) ?_
  intro wd hwd
  rw [wpMix_call]
  simp only [pickOps_cons, pickOps_nil, consO_some, List.getElem?_cons_zero, List.getElem?_cons_succ]
  repeat (go_big_quiet_step (fail))
  refine wpQuiet_nil ?_
  go_wp2_with fail
  refine soloQ_both (hwd.alloc _ _) ?_
  have HA := Lib.hid ((Kept.refl wd).alloc #[.int .i64 x1, .int .i64 x2] 36)
  have HC := Lib.hid (concat3D (wd.alloc (.cells #[.int .i64 x1, .int .i64 x2] 36)) (wd.heap.size + 1) (by simp) ⟨A, k, c, L.take k⟩ ⟨some ⟨wd.heap.size, 0, none⟩, 1, 1, [(x1, x2)]⟩ ⟨A2, n - k, c - k, L.drop k⟩
    (HH.out.kept (hwd.trans HA.out)) (dl_one wd x1 x2 _) (HT.out.kept (hwd.trans HA.out)) (by simp only; omega) 23)
  have HWD := Lib.hid hwd
  clear hwd
  rw [wpMix_call]
  simp only [pickOps_cons, pickOps_nil, consO_some, List.getElem?_cons_zero, List.getElem?_cons_succ]
  refine wpQuiet_nil ?_
  go_wp2_with fail
  refine soloQ_both ((HWD.out.alloc _ _).alloc _ _) ?_
  rw [wpMix_call]
  simp only [pickOps_cons, pickOps_nil, consO_some, List.getElem?_cons_zero, List.getElem?_cons_succ]
  refine wpQuiet_nil ?_
  go_wp2_with (go_at_call 56; ((with_reducible refine HC.out.mono ?_); rintro e w2 ⟨v, rfl, ho, hkw⟩))
  obtain ⟨A3, c3, rfl, hd, hf⟩ := Dl.of_own' ho
  have HF := Lib.hid hf
  have HD3 := Lib.hid hd
  have HK3 := Lib.hid (HWD.out.trans (HA.out.trans hkw))
  clear ho hd hkw hf
  refine soloQ_both HK3.out ?_
  rw [wpMix_read]
  simp only [pickOps_cons, pickOps_nil, consO_some, List.getElem?_cons_zero, List.getElem?_cons_succ]
  repeat (go_big_quiet_step (fail))
  refine wpQuiet_nil ?_
  refine wpMix_nil ?_
  go_wp2_with fail
  go_ret
  exact ⟨A3, _, c3, L.take k ++ [(x1, x2)] ++ L.drop k, rfl, HD3.out, by rw [List.append_assoc]; exact HW.out, by have := HL.out; omega, HK.out.trans HK3.out, .inr fun ad e => by have := HF.out ad e; have := (HK.out.trans HWD.out).2.2; omega⟩

theorem dwith_any (A : Option Addr) (n c : Nat) (L : List (Int × Int)) (x1 x2 : Int) (w : World) (h : Dl w A n c L) (hr : Rise L) (hn : n ≤ 999999) :
    Calls Try.prog 50 #[.slice A n c, .agg #[.int .i64 x1, .int .i64 x2]] w (Withs A L (x1, x2) w) := by
  by_cases hm : (x1, x2) ∈ L
  · exact dwith_yes A n c L x1 x2 w h hr (by omega) hm
  · exact dwith_no A n c L x1 x2 w h hr hn hm
end Go.Proofs.Ytgofecnpmohmgaa
