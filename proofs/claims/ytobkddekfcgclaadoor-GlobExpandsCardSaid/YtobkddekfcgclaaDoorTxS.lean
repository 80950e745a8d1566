/-
  TEXTS AS CELLS: a slice of texts that reads as a list. No program is named here.
-/
import Derived.Test.YtobkddekfcgclaaDoorMe
namespace Go.Proofs.YtobkddekfcgclaaDoor
open Go.RowKit
namespace Me
/-- Texts as cells. -/
def byS (l : List (List UInt8)) : List Value := l.map fun n => .string ⟨n.toArray⟩
theorem byS_len (l : List (List UInt8)) : (byS l).length = l.length := by unfold byS; simp
theorem byS_append (a b : List (List UInt8)) : byS (a ++ b) = byS a ++ byS b := by unfold byS; simp
theorem byS_take (l : List (List UInt8)) (k : Nat) : (byS l).take k = byS (l.take k) := by unfold byS; simp
theorem byS_drop (l : List (List UInt8)) (k : Nat) : (byS l).drop k = byS (l.drop k) := by unfold byS; simp
theorem byS_get (l : List (List UInt8)) (j : Nat) (h : j < l.length) : (byS l)[j]? = some (.string ⟨(l[j]).toArray⟩) := by unfold byS; simp [h]
theorem byS_one (l : List (List UInt8)) : ∀ u ∈ byS l, u.oneCell' = true := by
  intro u hu
  unfold byS at hu
  obtain ⟨c, _, rfl⟩ := List.mem_map.1 hu
  rfl
/-- A slice of texts that reads as a list. -/
def Ss (w : World) (G : Nat → Prop) (v : Value) (l : List (List UInt8)) : Prop := ∃ A c, v = .slice A l.length c ∧ l.length ≤ c ∧ c ≤ maxLen ∧ Rd w G A (byS l)
theorem Ss.own {w : World} {base : Nat} {e : TypeId} {v : Value} {l : List (List UInt8)} (h : w.ownsRow base e 1 v l.length (byS l)) : Ss w (fun i => base ≤ i) v l := by
  rcases h.2 with ⟨hv, h0⟩ | ⟨g, cap, cur, hv, hb, hg, hnc, hcm, hcs, ht⟩
  · have hz : l = [] := List.eq_nil_of_length_eq_zero h0
    subst hz
    exact ⟨none, 0, hv, Nat.le_refl _, Nat.zero_le _, Rd.none_ _ _ _⟩
  · refine ⟨some ⟨g, 0, none⟩, cap, hv, hnc, hcm, ?_⟩
    rw [hv] at h
    refine (Rd.own h).mono fun i _ hi => ?_
    have : g = i := by simpa [Value.ownBlock] using hi
    omega
end Me
end Go.Proofs.YtobkddekfcgclaaDoor
