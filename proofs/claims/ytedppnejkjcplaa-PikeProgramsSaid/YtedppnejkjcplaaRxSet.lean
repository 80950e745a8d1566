/-
  CONTRACTS: chapter 11: a set of bytes as an array of 256 bools: add, join, invert.
-/
import Derived.Test.YtedppnejkjcplaaRxPure
import Derived.Test.YtedppnejkjcplaaOwnB
namespace Go.Proofs.Ytedppnejkjcplaa
open Go.RowKit
open Me

namespace Rx
/-- A set as cells. -/
def cel (s : St) : Array Value := ((List.range 256).map fun i => Value.bool (s i)).toArray
theorem cel_size (s : St) : (cel s).size = 256 := by unfold cel; simp
theorem cel_at (s : St) (i : Nat) (h : i < 256) : (cel s)[i]? = some (.bool (s i)) := by
  unfold cel
  rw [List.getElem?_toArray, List.getElem?_map, List.getElem?_range h]
  rfl
theorem cel_ext {s t : St} (h : ∀ i, i < 256 → s i = t i) : cel s = cel t := by
  unfold cel
  congr 1
  apply List.map_congr_left
  intro i hi
  rw [h i (List.mem_range.1 hi)]
theorem cel_inj {s t : St} (h : cel s = cel t) : ∀ i, i < 256 → s i = t i := fun i hi => by
  have h1 := cel_at s i hi
  rw [h, cel_at t i hi] at h1
  simpa using h1.symm
theorem cel_set (s : St) (i : Nat) (b : Bool) : (cel s).setIfInBounds i (.bool b) = cel (fun j => if j = i then b else s j) := by
  apply Array.ext_getElem?
  intro j
  rw [Array.getElem?_setIfInBounds]
  by_cases hj : j < 256
  · rw [cel_at _ j hj, cel_at _ j hj, cel_size]
    by_cases e : i = j
    · subst e; simp [hj]
    · rw [if_neg e, if_neg (fun h => e h.symm)]
  · have h1 : (cel s)[j]? = none := Array.getElem?_eq_none (by rw [cel_size]; omega)
    have h2 : (cel fun j => if j = i then b else s j)[j]? = none := Array.getElem?_eq_none (by rw [cel_size]; omega)
    rw [h1, h2, cel_size]
    by_cases e : i = j
    · subst e; simp [hj]
    · rw [if_neg e]
theorem cel_one (s : St) : (cel s).all (·.oneCell') = true := by
  rw [Array.all_eq_true_iff_forall_mem]
  intro v hv
  unfold cel at hv
  simp at hv
  obtain ⟨i, _, rfl⟩ := hv
  rfl
/-- What a walk over a set leaves: its cells, and all else as it was. -/
def Turned (w : World) (b : Nat) (t : TypeId) (s : St) (e : Ending) (w' : World) : Prop := e = .returned (.tuple #[]) ∧ RowAt w' b t (cel s) ∧ Kp (fun i => i = b) w w'
end Rx

namespace Rx
theorem pairsTo_step (s : St) (k : Nat) : pairsTo s (k + 1) = pairsTo s k ++ pairAt s k := rfl
theorem pairAt_len (s : St) (k : Nat) : (pairAt s k).length ≤ 2 := by
  unfold pairAt
  split
  · split <;> split <;> simp
  · simp
theorem pairsTo_len (s : St) (k : Nat) : (pairsTo s k).length ≤ 2 * k := by
  induction k with
  | zero => exact Nat.zero_le _
  | succ k ih => rw [pairsTo_step, List.length_append]; have := pairAt_len s k; omega
end Rx
end Go.Proofs.Ytedppnejkjcplaa
