/-
  THE PLAIN MATHEMATICS of fixed's values: what each function comes to, over whole numbers of any size. No program is named here.
-/
import Derived.WalkKit
namespace Go.Proofs.YtojmcndiooiehaaDoor
namespace Fx

/-- A value: whether it is known, and its millionths. -/
structure Vl where
  ok : Bool
  n : Int

def inR (n : Int) : Bool := decide (-4611686018427387904 ≤ n ∧ n ≤ 4611686018427387904)
def none : Vl := ⟨false, 0⟩
/-- Of: the value of n millionths, or none. -/
def of (n : Int) : Vl := if inR n then ⟨true, n⟩ else none
def num (v : Vl) : Bool := v.ok && inR v.n
def isV (v : Vl) : Bool := if v.ok then inR v.n else decide (v.n = 0)
def plus (a b : Vl) : Vl := if num a && num b then of (a.n + b.n) else none
def sub (a b : Vl) : Vl := if num a && num b then of (a.n - b.n) else none
def abs (a : Vl) : Vl := if num a then of (if 0 ≤ a.n then a.n else -a.n) else none
def less (a b : Vl) : Bool := (num a && num b) && decide (a.n < b.n)

theorem inR_yes {n : Int} (h1 : -4611686018427387904 ≤ n) (h2 : n ≤ 4611686018427387904) : inR n = true := by unfold inR; simp; omega
theorem inR_low {n : Int} (h : n < -4611686018427387904) : inR n = false := by unfold inR; simp; omega
theorem inR_high {n : Int} (h : 4611686018427387904 < n) : inR n = false := by unfold inR; simp; omega
theorem inR_iff {n : Int} : inR n = true ↔ -4611686018427387904 ≤ n ∧ n ≤ 4611686018427387904 := by unfold inR; simp
theorem inR_not {n : Int} (h : inR n = false) : n < -4611686018427387904 ∨ 4611686018427387904 < n := by
  by_cases h1 : n < -4611686018427387904
  · exact .inl h1
  · by_cases h2 : 4611686018427387904 < n
    · exact .inr h2
    · rw [inR_yes (by omega) (by omega)] at h; cases h
theorem of_yes {n : Int} (h : inR n = true) : of n = ⟨true, n⟩ := by unfold of; rw [if_pos h]
theorem of_no {n : Int} (h : inR n = false) : of n = none := by unfold of; rw [if_neg (by simp [h])]
theorem num_yes {n : Int} (h : inR n = true) : num ⟨true, n⟩ = true := by simp [num, h]
theorem num_no {n : Int} (h : inR n = false) : num ⟨true, n⟩ = false := by simp [num, h]
theorem num_off {n : Int} : num ⟨false, n⟩ = false := rfl
theorem num_iff {b : Bool} {n : Int} : num ⟨b, n⟩ = true ↔ b = true ∧ -4611686018427387904 ≤ n ∧ n ≤ 4611686018427387904 := by
  unfold num; simp [inR_iff]
theorem isV_on {n : Int} : isV ⟨true, n⟩ = inR n := rfl
theorem isV_off {n : Int} : isV ⟨false, n⟩ = decide (n = 0) := rfl
theorem plus_yes {a b : Vl} (h1 : num a = true) (h2 : num b = true) : plus a b = of (a.n + b.n) := by unfold plus; simp [h1, h2]
theorem plus_no1 {a b : Vl} (h1 : num a = false) : plus a b = none := by unfold plus; simp [h1]
theorem plus_no2 {a b : Vl} (h2 : num b = false) : plus a b = none := by unfold plus; simp [h2]
theorem sub_yes {a b : Vl} (h1 : num a = true) (h2 : num b = true) : sub a b = of (a.n - b.n) := by unfold sub; simp [h1, h2]
theorem sub_no1 {a b : Vl} (h1 : num a = false) : sub a b = none := by unfold sub; simp [h1]
theorem sub_no2 {a b : Vl} (h2 : num b = false) : sub a b = none := by unfold sub; simp [h2]
theorem abs_pos {a : Vl} (h : num a = true) (h0 : 0 ≤ a.n) : abs a = of a.n := by unfold abs; simp [h, h0]
theorem abs_neg {a : Vl} (h : num a = true) (h0 : a.n < 0) : abs a = of (-a.n) := by unfold abs; rw [if_pos h, if_neg (by omega)]
theorem abs_no {a : Vl} (h : num a = false) : abs a = none := by unfold abs; simp [h]
theorem of_wrap {n : Int} (h1 : -9223372036854775808 ≤ n) (h2 : n ≤ 9223372036854775808) : of (Go.RowKit.wrap64 n) = of n := by
  unfold Go.RowKit.wrap64
  by_cases h : n = 9223372036854775808
  · subst h; rw [of_no (n := 9223372036854775808) (inR_high (by omega))]; exact of_no (inR_low (by omega))
  · congr 1; omega
/-- A number without its sign. -/
def mag (n : Int) : Nat := n.natAbs
end Fx
end Go.Proofs.YtojmcndiooiehaaDoor
