/-
  THE PLAIN MATHEMATICS of files: their names in order; texts as cells; and the walk's inner loop is to come.
-/
import Derived.Test.YtiacpopgnmledaaVrTell
namespace Go.Proofs.Ytiacpopgnmledaa
open Go.RowKit
open Me
namespace Vf

def lt (x y : List UInt8) : Bool := Op.bytesLess x y
/-- How many names at the head stand before n. -/
def lead : List (List UInt8) → List UInt8 → Nat
  | [], _ => 0
  | x :: r, n => if lt x n then lead r n + 1 else 0
def ins (l : List (List UInt8)) (n : List UInt8) : List (List UInt8) := l.take (lead l n) ++ ([n] ++ l.drop (lead l n))
def names (l : List Fl) : List (List UInt8) := l.foldl (fun m f => ins m f.name) []
theorem names_take (l : List Fl) (k : Nat) (h : k < l.length) : names (l.take (k + 1)) = ins (names (l.take k)) l[k].name := by
  unfold names
  rw [List.take_succ_eq_append_getElem h, List.foldl_append]
  rfl
theorem lead_le : ∀ (l : List (List UInt8)) (n : List UInt8), lead l n ≤ l.length
  | [], _ => Nat.le_refl _
  | x :: r, n => by
    have := lead_le r n
    rw [lead, List.length_cons]
    split <;> omega
theorem ins_len (l : List (List UInt8)) (n : List UInt8) : (ins l n).length = l.length + 1 := by
  have := lead_le l n
  unfold ins
  rw [List.length_append, List.length_append, List.length_take, List.length_drop, List.length_singleton]
  omega
theorem names_len_take (l : List Fl) : ∀ k, k ≤ l.length → (names (l.take k)).length = k
  | 0, _ => by simp [names]
  | k + 1, h => by rw [names_take l k (by omega), ins_len, names_len_take l k (by omega)]
theorem lead_at : ∀ (l : List (List UInt8)) (n : List UInt8) (q : Nat), q ≤ l.length → (∀ i (h : i < l.length), i < q → lt l[i] n = true) → (∀ h : q < l.length, lt l[q] n = false) → lead l n = q
  | [], _, q, hq, _, _ => by simp at hq; subst hq; rfl
  | x :: r, n, 0, _, _, h => by
    have := h (by simp)
    simp only [List.getElem_cons_zero] at this
    rw [lead, this]
    rfl
  | x :: r, n, q + 1, hq, ha, h => by
    have h0 := ha 0 (by simp) (by omega)
    simp only [List.getElem_cons_zero] at h0
    rw [lead, h0, if_pos rfl, lead_at r n q (by simpa using hq) (fun i hi hiq => by have := ha (i + 1) (by simpa using hi) (by omega); simpa using this) (fun hq2 => by have := h (by simpa using hq2); simpa using this)]
end Vf
namespace Me
/-- Texts as cells. -/
def byS (l : List (List UInt8)) : List Value := l.map fun n => .string ⟨n.toArray⟩
theorem byS_len (l : List (List UInt8)) : (byS l).length = l.length := by unfold byS; simp
theorem byS_append (a b : List (List UInt8)) : byS (a ++ b) = byS a ++ byS b := by unfold byS; simp
theorem byS_take (l : List (List UInt8)) (k : Nat) : (byS l).take k = byS (l.take k) := by unfold byS; simp
theorem byS_drop (l : List (List UInt8)) (k : Nat) : (byS l).drop k = byS (l.drop k) := by unfold byS; simp
theorem byS_get (l : List (List UInt8)) (j : Nat) (h : j < l.length) : (byS l)[j]? = some (.string ⟨(l[j]).toArray⟩) := by unfold byS; simp [h]
theorem byS_one (l : List (List UInt8)) : ∀ u ∈ byS l, u.oneCell' = true := by
  intro u hu
  unfold byS at hu
  obtain ⟨c, _, rfl⟩ := List.mem_map.1 hu
  rfl
/-- A slice of texts that reads as a list. -/
def Ss (w : World) (G : Nat → Prop) (v : Value) (l : List (List UInt8)) : Prop := ∃ A c, v = .slice A l.length c ∧ l.length ≤ c ∧ c ≤ maxLen ∧ Rd w G A (byS l)
theorem Ss.own {w : World} {base : Nat} {e : TypeId} {v : Value} {l : List (List UInt8)} (h : w.ownsRow base e 1 v l.length (byS l)) : Ss w (fun i => base ≤ i) v l := by
  rcases h.2 with ⟨hv, h0⟩ | ⟨g, cap, cur, hv, hb, hg, hnc, hcm, hcs, ht⟩
  · have hz : l = [] := List.eq_nil_of_length_eq_zero h0
    subst hz
    exact ⟨none, 0, hv, Nat.le_refl _, Nat.zero_le _, Rd.none_ _ _ _⟩
  · refine ⟨some ⟨g, 0, none⟩, cap, hv, hnc, hcm, ?_⟩
    rw [hv] at h
    refine (Rd.own h).mono fun i _ hi => ?_
    have : g = i := by simpa [Value.ownBlock] using hi
    omega
end Me
end Go.Proofs.Ytiacpopgnmledaa
