/-
  What is proved: plain facts on sets as bytes (P6.11, P6.12, P6.13): what is put is taken, whatever follows; what is taken is put as these bytes; no program is spoken of here.
-/
import Derived.Test.YtgofecnpmohmgaaCTake
import Derived.Test.YtgofecnpmohmgaaCPut
import Derived.Test.YtgofecnpmohmgaaM2
namespace Go.Proofs.Ytgofecnpmohmgaa
open Go.RowKit

def encVe : List Int → ByteArray
  | [] => ⟨#[]⟩
  | x :: V => putS (zigI x).toNat ++ encVe V
def encDo (x : Int × Int) : ByteArray := putS (zigI x.1).toNat ++ putS (zigI x.2).toNat
def encCl : List (Int × Int) → ByteArray
  | [] => ⟨#[]⟩
  | x :: C => encDo x ++ encCl C
theorem ba_assoc (a b c : ByteArray) : a ++ b ++ c = a ++ (b ++ c) := by
  apply ba_ext
  simp only [ba_app, List.append_assoc]
theorem ba_nil (a : ByteArray) : (⟨#[]⟩ : ByteArray) ++ a = a := by
  apply ba_ext
  rw [ba_app]; rfl
theorem ba_nil_r (a : ByteArray) : a ++ (⟨#[]⟩ : ByteArray) = a := by
  apply ba_ext
  rw [ba_app]
  show _ ++ [] = _
  rw [List.append_nil]
theorem putVs_enc (V : List Int) (b : ByteArray) : putVs V b = b ++ encVe V := by
  induction V generalizing b with
  | nil => exact (ba_nil_r b).symm
  | cons x V ih =>
    show putVs V (b ++ putS (zigI x).toNat) = _
    rw [ih, encVe, ba_assoc]
theorem putDs_enc (C : List (Int × Int)) (b : ByteArray) : putDs C b = b ++ encCl C := by
  induction C generalizing b with
  | nil => exact (ba_nil_r b).symm
  | cons x C ih =>
    show putDs C (putD b x) = _
    rw [ih, encCl]
    unfold putD encDo
    simp only [ba_assoc]
theorem putC_enc (V : List Int) (C : List (Int × Int)) : putC ⟨#[]⟩ V C = putS V.length ++ (encVe V ++ (putS C.length ++ encCl C)) := by
  unfold putC
  rw [putDs_enc, putVs_enc, ba_nil]
  simp only [ba_assoc]
theorem tk_fore (n : Nat) (s : ByteArray) (h : n < 18446744073709551616) : tkN (putS n ++ s) = n ∧ tkR (putS n ++ s) = s ∧ tkE (putS n ++ s) = 0 := by
  have := tk_put n s h
  rwa [ba_nil] at this
theorem ti_fore (x : Int) (s : ByteArray) (h1 : -9223372036854775808 ≤ x) (h2 : x ≤ 9223372036854775807) : tiN (putS (zigI x).toNat ++ s) = x ∧ tkR (putS (zigI x).toNat ++ s) = s ∧ tkE (putS (zigI x).toNat ++ s) = 0 := by
  have hb := zig_bd x h1 h2
  obtain ⟨p1, p2, p3⟩ := tk_fore (zigI x).toNat s (by omega)
  refine ⟨?_, p2, p3⟩
  unfold tiN
  rw [if_pos p3, p1, show (((zigI x).toNat : Nat) : Int) = zigI x by omega, zag_zig]
theorem tk_aft (s : ByteArray) (h : tkE s = 0) : putS (tkN s) ++ tkR s = s := by
  have := tk_back s h
  rwa [ba_nil] at this
theorem ti_aft (s : ByteArray) (h : tkE s = 0) : putS (zigI (tiN s)).toNat ++ tkR s = s := by
  have e : (zigI (tiN s)).toNat = tkN s := by
    unfold tiN
    rw [if_pos h, zig_zag _ (by omega)]
    exact Int.toNat_natCast _
  rw [e]
  exact tk_aft s h
theorem td_fore (x : Int × Int) (s : ByteArray) (h : rightD x = true) : tdX (encDo x ++ s) = x ∧ tdR (encDo x ++ s) = s ∧ tdE (encDo x ++ s) = 0 := by
  obtain ⟨x1, x2⟩ := x
  obtain ⟨b1, b2, b3, b4⟩ := rightD_bd h
  simp only at b1 b2 b3 b4
  have e : encDo (x1, x2) ++ s = putS (zigI x1).toNat ++ (putS (zigI x2).toNat ++ s) := by unfold encDo; rw [ba_assoc]
  obtain ⟨p1, p2, p3⟩ := ti_fore x1 (putS (zigI x2).toNat ++ s) (by omega) (by omega)
  obtain ⟨q1, q2, q3⟩ := ti_fore x2 s (by omega) (by omega)
  have ht : tdL (encDo (x1, x2) ++ s) = ((x1, x2), s, 0) := by
    unfold tdL
    rw [e, p3, p2, q3, q2, p1, q1, if_neg (by simp), if_neg (by simp), if_pos (.inl h)]
  exact ⟨by unfold tdX; rw [ht], by unfold tdR; rw [ht], by unfold tdE; rw [ht]⟩
theorem td_aft (s : ByteArray) (h : tdE s = 0) : encDo (tdX s) ++ tdR s = s := by
  unfold tdE tdL at h
  unfold tdX tdR tdL
  split at h
  · rename_i he; exact absurd h he
  · rename_i he
    split at h
    · rename_i he2; exact absurd h he2
    · rename_i he2
      split at h
      · rename_i hr
        rw [if_neg he, if_neg he2, if_pos hr]
        have h1 := ti_aft s (by simpa using he)
        have h2 := ti_aft (tkR s) (by simpa using he2)
        show encDo (tiN s, tiN (tkR s)) ++ tkR (tkR s) = s
        unfold encDo
        rw [ba_assoc, h2, h1]
      · cases h
theorem takeVs_fore (V V0 : List Int) (s : ByteArray) (h : ∀ x ∈ V, -9223372036854775808 ≤ x ∧ x ≤ 9223372036854775807) : takeVs V.length V0 (encVe V ++ s) = (V0 ++ V, s, 0) := by
  induction V generalizing V0 with
  | nil => rw [List.append_nil]; show (V0, (⟨#[]⟩ : ByteArray) ++ s, 0) = _; rw [ba_nil]
  | cons x V ih =>
    obtain ⟨p1, p2, p3⟩ := ti_fore x (encVe V ++ s) (h x (List.mem_cons_self ..)).1 (h x (List.mem_cons_self ..)).2
    rw [List.length_cons, encVe, ba_assoc, takeVs_ok p3, p1, p2, ih _ fun y hy => h y (List.mem_cons_of_mem _ hy), List.append_assoc]
    rfl
theorem takeDs_fore (C C0 : List (Int × Int)) (s : ByteArray) (h : ∀ x ∈ C, rightD x = true) : takeDs C.length C0 (encCl C ++ s) = (C0 ++ C, s, 0) := by
  induction C generalizing C0 with
  | nil => rw [List.append_nil]; show (C0, (⟨#[]⟩ : ByteArray) ++ s, 0) = _; rw [ba_nil]
  | cons x C ih =>
    obtain ⟨p1, p2, p3⟩ := td_fore x (encCl C ++ s) (h x (List.mem_cons_self ..))
    rw [List.length_cons, encCl, ba_assoc, takeDs_ok p3, p1, p2, ih _ fun y hy => h y (List.mem_cons_of_mem _ hy), List.append_assoc]
    rfl
theorem takeVs_aft : ∀ (k : Nat) (V0 : List Int) (s : ByteArray), (takeVs k V0 s).2.2 = 0 → ∃ V, (takeVs k V0 s).1 = V0 ++ V ∧ V.length = k ∧ s = encVe V ++ (takeVs k V0 s).2.1
  | 0, V0, s, _ => ⟨[], (List.append_nil _).symm, rfl, (ba_nil s).symm⟩
  | k + 1, V0, s, h => by
    by_cases he : tkE s = 0
    · rw [takeVs_ok he] at h ⊢
      obtain ⟨V, e1, e2, e3⟩ := takeVs_aft k _ _ h
      refine ⟨tiN s :: V, by rw [e1, List.append_assoc]; rfl, by rw [List.length_cons, e2], ?_⟩
      rw [encVe, ba_assoc, ← e3]
      exact (ti_aft s he).symm
    · rw [takeVs_err he] at h
      exact absurd h he
theorem takeDs_aft : ∀ (k : Nat) (C0 : List (Int × Int)) (s : ByteArray), (takeDs k C0 s).2.2 = 0 → ∃ C, (takeDs k C0 s).1 = C0 ++ C ∧ C.length = k ∧ s = encCl C ++ (takeDs k C0 s).2.1
  | 0, C0, s, _ => ⟨[], (List.append_nil _).symm, rfl, (ba_nil s).symm⟩
  | k + 1, C0, s, h => by
    by_cases he : tdE s = 0
    · rw [takeDs_ok he] at h ⊢
      obtain ⟨C, e1, e2, e3⟩ := takeDs_aft k _ _ h
      refine ⟨tdX s :: C, by rw [e1, List.append_assoc]; rfl, by rw [List.length_cons, e2], ?_⟩
      rw [encCl, ba_assoc, ← e3]
      exact (td_aft s he).symm
    · rw [takeDs_err he] at h
      exact absurd h he
theorem putS_pos (n : Nat) : 1 ≤ (putS n).size := by
  show 1 ≤ (putL n).toArray.size
  rw [List.size_toArray]
  unfold putL
  rw [putF]
  split <;> simp
theorem encCl_long (C : List (Int × Int)) : C.length ≤ (encCl C).size := by
  induction C with
  | nil => exact Nat.zero_le _
  | cons x C ih =>
    have h1 := putS_pos (zigI x.1).toNat
    rw [List.length_cons, encCl, ByteArray.size_append]
    unfold encDo
    rw [ByteArray.size_append]
    omega
/-- P6.13: what is put is taken, whatever follows. -/
theorem tc_fore {V : List Int} {C : List (Int × Int)} (h : RightC V C) (hm : C.length ≤ 1000000) (s : ByteArray) : tcL (putC ⟨#[]⟩ V C ++ s) = (V, C, s, 0) := by
  have hl := h.vec.len
  have e : putC ⟨#[]⟩ V C ++ s = putS V.length ++ (encVe V ++ (putS C.length ++ (encCl C ++ s))) := by rw [putC_enc]; simp only [ba_assoc]
  obtain ⟨p1, p2, p3⟩ := tk_fore V.length (encVe V ++ (putS C.length ++ (encCl C ++ s))) (by omega)
  obtain ⟨q1, q2, q3⟩ := tk_fore C.length (encCl C ++ s) (by omega)
  have hv := takeVs_fore V [] (putS C.length ++ (encCl C ++ s)) (fun x hx => by have := h.vec.bd x hx; omega)
  have hd := takeDs_fore C [] s h.right
  rw [List.nil_append] at hv hd
  have hlong := encCl_long C
  unfold tcL
  rw [e, p3, p1, p2, hv, if_neg (by simp), if_neg (by omega), if_neg (by simp)]
  unfold cloudC
  simp only
  rw [q3, q1, q2, hd, if_neg (by simp), if_neg (by rw [ByteArray.size_append]; omega), if_neg (by simp)]
  unfold formC
  rw [if_pos h]
/-- P6.13: what is taken is put as these bytes. -/
theorem tc_aft {s r : ByteArray} {V : List Int} {C : List (Int × Int)} (h : tcL s = (V, C, r, 0)) : putC ⟨#[]⟩ V C ++ r = s ∧ RightC V C := by
  unfold tcL at h
  split at h
  · rename_i he; simp only [Prod.mk.injEq] at h; exact absurd h.2.2.2 he
  rename_i he
  split at h
  · simp at h
  split at h
  · rename_i hv; simp only [Prod.mk.injEq] at h; exact absurd h.2.2.2 hv
  rename_i hv
  obtain ⟨V1, a1, a2, a3⟩ := takeVs_aft (tkN s) [] (tkR s) (by simpa using hv)
  unfold cloudC at h
  split at h
  · rename_i h2; simp only [Prod.mk.injEq] at h; exact absurd h.2.2.2 h2
  rename_i h2
  split at h
  · simp at h
  split at h
  · rename_i hd; simp only [Prod.mk.injEq] at h; exact absurd h.2.2.2 hd
  rename_i hd
  obtain ⟨C1, b1, b2, b3⟩ := takeDs_aft _ [] _ (by simpa using hd)
  unfold formC at h
  split at h
  · rename_i hr
    simp only [Prod.mk.injEq] at h
    obtain ⟨c1, c2, c3, _⟩ := h
    rw [c1, c2] at hr
    refine ⟨?_, hr⟩
    have eV : V = V1 := by rw [← c1, a1]; rfl
    have eC : C = C1 := by rw [← c2, b1]; rfl
    subst eV eC
    rw [putC_enc, a2, b2, ← c3]
    simp only [ba_assoc]
    rw [← b3, tk_aft _ (by simpa using h2), ← a3]
    exact tk_aft s (by simpa using he)
  · simp at h
end Go.Proofs.Ytgofecnpmohmgaa
