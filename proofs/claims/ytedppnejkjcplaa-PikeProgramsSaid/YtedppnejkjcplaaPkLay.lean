/-
  CONTRACTS: the library's slices.Clone over ints, as chapter 12 calls it.
-/
import Derived.Test.YtedppnejkjcplaaPkMem
import Derived.Test.YtedppnejkjcplaaShelf4
namespace Go.Proofs.Ytedppnejkjcplaa
open Go.RowKit Go.Shelf
open Me
namespace Pk
theorem int_info0 : (Try.prog.info? 3).map (fun i => (i.zero, i.size, i.bytes)) = some (some (.int .i64 0), 1, 8) := by kernel_rfl
theorem sizeInt : ∀ w, (Go.sizeOf 3).run Try.prog w = .ok 1 w := fun w => Try.sizeOf3 w
theorem clone_any {w : World} {g o n cap : Nat} {r : List Int} (hn : n = r.length) (h9 : r.length ≤ 1048576) (hc : ∀ j u, (iv r)[j]? = some u → w.cell? ⟨g, o + j, none⟩ = some u) :
    Calls Try.prog 48 #[.slice (some ⟨g, o, none⟩) n cap] w fun e w' => ∃ v, e = .returned v ∧ w'.ownsRow w.heap.size intT 1 v r.length (iv r) ∧ Below w.heap.size w w' := by
  obtain ⟨i0, hi0, hz0, hz1, hz2⟩ := info_parts int_info0
  subst hn
  have hr := AnyE.slices_Clone (P := Try.prog) Try.pkClone i0 (.int .i64 0) 1 8 hi0 hz0 hz1 hz2 rfl (by decide) sizeInt g o r.length cap (iv r) w (by rw [iv_len]; omega) (by unfold maxLen; omega) (by omega) hc (iv_one r)
  refine hr.mono ?_
  rintro e w' ⟨v, rfl, h1, _, h2⟩
  exact ⟨v, rfl, h1, h2⟩
end Pk
end Go.Proofs.Ytedppnejkjcplaa
