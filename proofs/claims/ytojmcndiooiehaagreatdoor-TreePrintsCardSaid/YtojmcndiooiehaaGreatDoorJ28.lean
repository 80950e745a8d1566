/-
  DcRPa0: CONTRACTS: the document's own Parse: what its tests come to.
-/
import Derived.Test.YtojmcndiooiehaaGreatDoorJ16
import Derived.Test.YtojmcndiooiehaaGreatDoorJ27

set_option linter.unusedSimpArgs false
set_option linter.unusedVariables false
namespace Go.Proofs.YtojmcndiooiehaaGreatDoor
set_option maxRecDepth 20000
open Go.RowKit

namespace Dc
theorem ahead_not {s : List UInt8} {k : Nat} (h : k < (ahead s).length) (h2 : k < s.length) : s[k] ≠ 46 := by
  have e : s[k]? = (ahead s)[k]? := by
    conv => lhs; rw [← ahead_tail s]
    rw [List.getElem?_append_left h]
  rw [List.getElem?_eq_getElem h2, List.getElem?_eq_getElem h] at e
  rw [Option.some.inj e]
  have := List.all_takeWhile (p := (· != (46 : UInt8))) (l := s)
  rw [List.all_eq_true] at this
  simpa using this _ (List.getElem_mem h)
theorem dot_at {s : List UInt8} (h : dotted s = true) (h2 : (ahead s).length < s.length) : s[(ahead s).length] = 46 := by
  have h0 : tail46 s ≠ [] := by intro e; unfold dotted at h; rw [e] at h; cases h
  cases ht : tail46 s with
  | nil => exact absurd ht h0
  | cons x r =>
    have e : s[(ahead s).length]? = some x := by
      conv => lhs; arg 1; rw [← ahead_tail s]
      rw [List.getElem?_append_right (Nat.le_refl _), Nat.sub_self, ht]
      rfl
    rw [List.getElem?_eq_getElem h2] at e
    rw [Option.some.inj e]
    have hh := List.head?_dropWhile_not (· != (46 : UInt8)) s
    have e2 : List.dropWhile (· != (46 : UInt8)) s = x :: r := ht
    rw [e2] at hh
    simpa using hh
def rpOk (dt da db okw : Bool) (N f : Int) : Bool := da && (!dt || db) && (okw && decide (N ≤ 4611686018427) && decide (N * 1000000 + f ≤ 4611686018427387904))
def rpV (m dt da db okw : Bool) (N f : Int) : Int := if rpOk dt da db okw N f then (if m then -(N * 1000000 + f) else N * 1000000 + f) else 0
theorem rp_no {m dt da db okw : Bool} {N f : Int} (h : rpOk dt da db okw N f = false) : rpOk dt da db okw N f = false ∧ rpV m dt da db okw N f = 0 :=
  ⟨h, by unfold rpV; rw [h]; rfl⟩
theorem rp_long {m dt da db okw : Bool} {N f : Int} (h : 4611686018427 < N) : rpOk dt da db okw N f = false ∧ rpV m dt da db okw N f = 0 := by
  apply rp_no
  have : decide (N ≤ 4611686018427) = false := by rw [decide_eq_false_iff_not]; omega
  unfold rpOk
  rw [this]
  cases da <;> cases okw <;> simp
theorem rp_much {m dt da db okw : Bool} {N f : Int} (h : 4611686018427387904 < N * 1000000 + f) : rpOk dt da db okw N f = false ∧ rpV m dt da db okw N f = 0 := by
  apply rp_no
  have : decide (N * 1000000 + f ≤ 4611686018427387904) = false := by rw [decide_eq_false_iff_not]; omega
  unfold rpOk
  rw [this]
  cases da <;> simp
theorem rp_yes {m dt db : Bool} {N f : Int} (hb : (!dt || db) = true) (h1 : N ≤ 4611686018427) (h : N * 1000000 + f ≤ 4611686018427387904) : rpOk dt true db true N f = true ∧ rpV m dt true db true N f = if m then -(N * 1000000 + f) else N * 1000000 + f := by
  have h2 : rpOk dt true db true N f = true := by
    unfold rpOk
    rw [hb, decide_eq_true h1, decide_eq_true h]
    rfl
  exact ⟨h2, by unfold rpV; rw [h2]; rfl⟩
end Dc

theorem below_two {B : Nat} {w W : World} (h : Below B w W) (g : Nat) (hg : B ≤ g) (u v : Value) : Below B w ((W.setCell ⟨g, 0, none⟩ u).setCell ⟨g, 1, none⟩ v).drew :=
  ((h.setCell hg u).setCell hg v).drew

end Go.Proofs.YtojmcndiooiehaaGreatDoor
