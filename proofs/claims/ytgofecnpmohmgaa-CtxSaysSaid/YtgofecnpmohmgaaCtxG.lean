/-
  What is proved: package ctx keeps all the contracts that layer 6's laws ask of it (CtxC).
-/
import Derived.Test.YtgofecnpmohmgaaCtxC
import Derived.Test.YtgofecnpmohmgaaGRight
import Derived.Test.YtgofecnpmohmgaaGOf
import Derived.Test.YtgofecnpmohmgaaGWithin
import Derived.Test.YtgofecnpmohmgaaGDots
import Derived.Test.YtgofecnpmohmgaaGTake
import Derived.Test.YtgofecnpmohmgaaGPut
namespace Go.Proofs.Ytgofecnpmohmgaa
open Go.RowKit

theorem SetsF.as {S S' : Int × Int → Prop} {mx mx' : Nat} {w w' : World} {e : Ending} (h : SetsF S mx w e w') (he : ∀ d, S d ↔ S' d) (hm : mx ≤ mx') : Sets S' mx' w e w' := by
  obtain ⟨A, n, c, B, m, k, V, C, h1, h2, h3, h4, h5, h6, _⟩ := h
  exact ⟨A, n, c, B, m, k, V, C, h1, h2, h3, ⟨h4.right, fun d => (h4.has d).trans (he d)⟩, Nat.le_trans h5 hm, h6⟩
theorem ctxC : CtxC where
  right A n c V B m k C w h hd _ _ r hr := gright_any A n c V B m k C w h hd r hr
  has A n c V B m k C x1 x2 w h hd _ r hr := ghas_any A n c V B m k C x1 x2 w h hd r hr
  add A n c V B m k C x1 x2 w h hd hr hm := (gadd_any A n c V B m k C x1 x2 w h hr.vec hd hr.rise (by omega)).mono fun _ _ hs => hs.as (fun d => add_has hr (x1, x2) d) (by rw [← hd.1]; exact Nat.le_refl _)
  of_ A n c L w h hn := (gof_any A n c L w h (by omega)).mono fun _ _ hs => hs.as (fun d => of_has L d) (by rw [← h.1]; exact Nat.le_refl _)
  join A n c V B m k C A' n' c' V' B' m' k' C' w h hd hr h' hd' hr' hm := (gjoin_any A n c V B m k C A' n' c' V' B' m' k' C' w h hr.vec hd h' hr'.vec hd' (by omega)).mono fun _ _ hs => hs.as (fun d => join_has hr hr' d) (by rw [← hd.1, ← hd'.1]; exact Nat.le_refl _)
  compact A n c V B m k L w h hd hr hm := (gcompact_any A n c V B m k L w h hr.vec hd (by omega)).mono fun _ _ hs => hs.as (fun d => Iff.rfl) (by rw [← hd.1]; exact Nat.le_refl _)
  dots A n c V B m k C most w h hd hr hm := gdots_any A n c V B m k C most w h hr.vec hd hm
  most A n c V B m k C r w h hd _ := gmost_any A n c V B m k C r w h hd
  put b A n c V B m k C w h hd hr hb hm := gputC_any b A n c V B m k C w h hd hb (by have := h.1; have := hr.vec.len; omega) hm (fun x hx => by have := hr.vec.bd x hx; omega) (fun d hx => by have := rightD_bd (hr.right d hx); omega)
  take s w hs := gtake_any s w (by omega)
  same A n c V B m k C A' n' c' V' B' m' k' C' w h hd h' hd' r hr := gsame_any A n c V B m k C A' n' c' V' B' m' k' C' w h hd h' hd' r hr
  within A n c V B m k C A' n' c' V' B' m' k' C' w h hd _ h' hd' hr' hm r hr := gwithin_any A n c V B m k C A' n' c' V' B' m' k' C' w h hd h' hd' hr' (by omega) r hr
end Go.Proofs.Ytgofecnpmohmgaa
