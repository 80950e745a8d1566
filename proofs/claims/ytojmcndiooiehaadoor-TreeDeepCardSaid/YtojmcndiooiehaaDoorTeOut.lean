/-
  CONTRACTS: chapter 15: what a parse leaves, told at once.
-/
import Derived.Test.YtojmcndiooiehaaDoorTePar
namespace Go.Proofs.YtojmcndiooiehaaDoor
open Go.RowKit Go.Sort
open Me

namespace Te
theorem GotR.out {G : Nat → Prop} {res : Except Int Nd} {e : Ending} {w' : World} (h : GotR G res e w') : ∃ A c, e = .returned (.tuple #[val (ndOf res) (.slice A (ndOf res).ks.length c), .int .i64 (erOf res)]) ∧ At w' G (ndOf res) (.slice A (ndOf res).ks.length c) := by
  obtain ⟨k, s, n, ks, v, er, he, hr⟩ := h
  rcases hr with ⟨rfl, h1, h2⟩ | ⟨_, h1, rfl, rfl, rfl, rfl, rfl⟩
  · obtain ⟨A, c, xs, rfl, _, _⟩ := h2.form
    rw [h1]
    exact ⟨A, c, he, h2⟩
  · rw [h1]
    exact ⟨none, 0, he, At.zero _ _ _ _ _⟩
end Te
end Go.Proofs.YtojmcndiooiehaaDoor
