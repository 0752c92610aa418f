/-
  What is proved: plain facts on dots as bytes (P5.3, P5.4): what is put is taken, whatever follows; what is taken is put as these bytes; no program is spoken of here.
-/
import Derived.Test.YtoanccojpppfoaaDoorBytes
import Derived.Test.YtoanccojpppfoaaDoorDTake
namespace Go.Proofs.YtoanccojpppfoaaDoor
open Go.RowKit

def encDo (x : Int × Int) : ByteArray := putS (zigI x.1).toNat ++ putS (zigI x.2).toNat
theorem putD_enc (b : ByteArray) (x : Int × Int) : putD b x = b ++ encDo x := by
  unfold putD encDo
  rw [ba_assoc]
theorem td_fore (x : Int × Int) (s : ByteArray) (h : rightD x = true) : tdX (encDo x ++ s) = x ∧ tdR (encDo x ++ s) = s ∧ tdE (encDo x ++ s) = 0 := by
  obtain ⟨x1, x2⟩ := x
  obtain ⟨b1, b2, b3, b4⟩ := rightD_bd h
  simp only at b1 b2 b3 b4
  have e : encDo (x1, x2) ++ s = putS (zigI x1).toNat ++ (putS (zigI x2).toNat ++ s) := by unfold encDo; rw [ba_assoc]
  obtain ⟨p1, p2, p3⟩ := ti_fore x1 (putS (zigI x2).toNat ++ s) (by omega) (by omega)
  obtain ⟨q1, q2, q3⟩ := ti_fore x2 s (by omega) (by omega)
  have ht : tdL (encDo (x1, x2) ++ s) = ((x1, x2), s, 0) := by
    unfold tdL
    rw [e, p3, p2, q3, q2, p1, q1, if_neg (by simp), if_neg (by simp), if_pos (.inl h)]
  exact ⟨by unfold tdX; rw [ht], by unfold tdR; rw [ht], by unfold tdE; rw [ht]⟩
theorem td_aft (s : ByteArray) (h : tdE s = 0) : encDo (tdX s) ++ tdR s = s := by
  unfold tdE tdL at h
  unfold tdX tdR tdL
  split at h
  · rename_i he; exact absurd h he
  · rename_i he
    split at h
    · rename_i he2; exact absurd h he2
    · rename_i he2
      split at h
      · rename_i hr
        rw [if_neg he, if_neg he2, if_pos hr]
        have h1 := ti_aft s (by simpa using he)
        have h2 := ti_aft (tkR s) (by simpa using he2)
        show encDo (tiN s, tiN (tkR s)) ++ tkR (tkR s) = s
        unfold encDo
        rw [ba_assoc, h2, h1]
      · cases h
/-- The dot that names the version at the beginning. -/
theorem td_none (s : ByteArray) : tdX (encDo (0, 0) ++ s) = (0, 0) ∧ tdR (encDo (0, 0) ++ s) = s ∧ tdE (encDo (0, 0) ++ s) = 0 := by
  have e : encDo (0, 0) ++ s = putS (zigI 0).toNat ++ (putS (zigI 0).toNat ++ s) := by unfold encDo; rw [ba_assoc]
  obtain ⟨p1, p2, p3⟩ := ti_fore 0 (putS (zigI 0).toNat ++ s) (by omega) (by omega)
  obtain ⟨q1, q2, q3⟩ := ti_fore 0 s (by omega) (by omega)
  have ht : tdL (encDo (0, 0) ++ s) = ((0, 0), s, 0) := by
    unfold tdL
    rw [e, p3, p2, q3, q2, p1, q1, if_neg (by simp), if_neg (by simp), if_pos (.inr ⟨rfl, rfl⟩)]
  exact ⟨by unfold tdX; rw [ht], by unfold tdR; rw [ht], by unfold tdE; rw [ht]⟩
end Go.Proofs.YtoanccojpppfoaaDoor
