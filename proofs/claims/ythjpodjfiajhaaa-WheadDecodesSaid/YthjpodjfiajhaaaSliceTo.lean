/-
  A slice cut at a length that is a letter: as one equation for every world.
-/
import Derived.Test.YthjpodjfiajhaaaOwnB
namespace Go.Proofs.Ythjpodjfiajhaaa
open Go.RowKit Go.Sort

theorem slice_to (W : World) (b off n m cap : Nat) (hm : m ≤ n) (hn : n ≤ cap) :
    (Instr.slice 22 (.slice (some ⟨b, off, none⟩) n cap) none (some (.int .i64 (m : Int))) none).run Try.prog W = .ok (.slice (some ⟨b, off, none⟩) m cap) W := by
  have h1 : (m : Int) ≤ (n : Int) := by omega
  have h2 : ¬ (cap : Int) < (m : Int) := by omega
  have h3 : m ≤ cap := by omega
  have h4 : (0 : Int) ≤ (m : Int) := by omega
  simp [go_sem, *]
end Go.Proofs.Ythjpodjfiajhaaa
