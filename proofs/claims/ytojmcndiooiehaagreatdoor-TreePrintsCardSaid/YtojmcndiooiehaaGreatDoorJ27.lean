/-
  DcRWh: CONTRACTS: the document's own Whole.
-/
import Derived.Test.YtojmcndiooiehaaGreatDoorJ14

set_option linter.unusedSimpArgs false
set_option linter.unusedVariables false
namespace Go.Proofs.YtojmcndiooiehaaGreatDoor
set_option maxRecDepth 20000
open Go.RowKit

namespace Dc
theorem wh_long {l : List UInt8} (h : all (body l) = true) (hl : 19 < (strip (body l)).length) : whOk l = false ∧ whN l = 0 := by
  have h1 := strip_long (body l) (all_split h).1 (by omega)
  have h2 : 10 ^ 19 ≤ 10 ^ ((strip (body l)).length - 1) := Nat.pow_le_pow_right (by decide) (by omega)
  have h3 : 4611686018427387904 < num (body l) := Nat.lt_of_lt_of_le (Nat.lt_of_lt_of_le (by decide : 4611686018427387904 < 10 ^ 19) h2) h1
  have h4 : whOk l = false := by
    unfold whOk
    rw [h]
    simp
    omega
  exact ⟨h4, by unfold whN; rw [h4]; rfl⟩
theorem wh_no2 {l : List UInt8} {k : Nat} (h : all (body l) = true) (hk : 4611686018427387904 < num ((strip (body l)).take k)) : whOk l = false ∧ whN l = 0 := by
  have h1 := num_take_le (strip (body l)) k
  rw [num_strip] at h1
  have h4 : whOk l = false := by
    unfold whOk
    rw [h]
    simp
    omega
  exact ⟨h4, by unfold whN; rw [h4]; rfl⟩
theorem wh_yes {l : List UInt8} {x : Int} (h : all (body l) = true) (hx : x = (num (strip (body l)) : Int)) (hle : x ≤ 4611686018427387904) : whOk l = true ∧ whN l = if minus l then -x else x := by
  rw [num_strip] at hx
  have h4 : whOk l = true := by
    unfold whOk
    rw [h]
    simp
    omega
  refine ⟨h4, ?_⟩
  unfold whN
  rw [h4, hx]
  rfl
end Dc

theorem tail_mk (c : UInt8) (r : List UInt8) : (⟨(c :: r).toArray⟩ : ByteArray).extract 1 (c :: r).length = ⟨r.toArray⟩ := by
  rw [ext_from _ _ _ (Nat.le_refl _)]; rfl

end Go.Proofs.YtojmcndiooiehaaGreatDoor
