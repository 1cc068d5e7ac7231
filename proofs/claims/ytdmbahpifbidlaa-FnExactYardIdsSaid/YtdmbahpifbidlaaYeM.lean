/-
  What writing the marks leaves: blocks below the copies, and those behind.
-/
import Derived.Test.YtdmbahpifbidlaaYeK
namespace Go.Proofs.Ytdmbahpifbidlaa
open Go.ChangeShapes Go.WideShapes Go.RowKit
set_option linter.unusedVariables false

theorem ArgY.under {A K : Nat} {w w' : World} {h : Int} {v : Value} (hb : ArgY A w h v) (hk : Below K w w') (hA : A < K) : ArgY A w' h v := by
  unfold ArgY at hb ⊢
  rw [hk.block A hA]
  exact hb
theorem BoxY.under {A K : Nat} {w w' : World} {h : Int} {v : Value} (hb : BoxY A w h v) (hk : Below K w w') (hA : A < K) : BoxY A w' h v := by
  unfold BoxY at hb ⊢
  rw [hk.block A hA]
  exact hb
theorem BoxY.mid {A K B : Nat} {w w' : World} {h : Int} {v : Value} (hb : BoxY A w h v) (hm : MidB K B w w') (hA : B ≤ A) : BoxY A w' h v := by
  have hl := hb.lt
  unfold BoxY at hb ⊢
  rw [hm.block A (.inr hA) hl]
  exact hb
theorem FreeAt.mid {K B g : Nat} {w w' : World} {v : Value} {l : List Int} (h : FreeAt g w v l) (hm : MidB K B w w') (hg : B ≤ g) : FreeAt g w' v l := h.far hm.size (hm.block g (.inr hg) h.lt)
theorem FreeE.mid {K B N : Nat} {w w' : World} {v : Value} {l : List Int} (h : FreeE N w v l) (hm : MidB K B w w') (hN : B ≤ N) : FreeE N w' v l := by
  rcases h with h | ⟨g, hg, hf⟩
  · exact .inl h
  · exact .inr ⟨g, hg, hf.mid hm (Nat.le_trans hN hg)⟩
end Go.Proofs.Ytdmbahpifbidlaa
