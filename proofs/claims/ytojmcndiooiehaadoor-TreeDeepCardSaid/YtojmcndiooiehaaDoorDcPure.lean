/-
  THE PLAIN MATHEMATICS of digits: the document's own answers of chapter 2, over lists of bytes.
-/
import Derived.WalkKit
namespace Go.Proofs.YtojmcndiooiehaaDoor
set_option maxRecDepth 20000
namespace Dc

def isD (c : UInt8) : Bool := decide (48 ≤ c.toNat ∧ c.toNat ≤ 57)
def allD (l : List UInt8) : Bool := l.all isD
def all (l : List UInt8) : Bool := allD l && decide (l ≠ [])
theorem isD_iff {c : UInt8} : isD c = true ↔ 48 ≤ c.toNat ∧ c.toNat ≤ 57 := by unfold isD; simp
theorem allD_take_succ (l : List UInt8) (k : Nat) (h : k < l.length) : allD (l.take (k + 1)) = (allD (l.take k) && isD l[k]) := by
  unfold allD
  rw [List.take_succ_eq_append_getElem h, List.all_append]
  simp
theorem allD_false {l : List UInt8} {k : Nat} (h : k < l.length) (hd : isD l[k] = false) : allD l = false := by
  unfold allD
  rw [List.all_eq_false]
  exact ⟨l[k], List.getElem_mem h, by simp [hd]⟩
/-- Without the noughts ahead, but one. -/
def strip : List UInt8 → List UInt8
  | c :: d :: r => if c = 48 then strip (d :: r) else c :: d :: r
  | l => l
/-- Digits as a number, capped ahead of each step. -/
def wholeGo : Nat → List UInt8 → Option Nat
  | n, [] => some n
  | n, c :: r => if isD c = true ∧ n ≤ 461168601842738789 then wholeGo (n * 10 + (c.toNat - 48)) r else none
def wholeN (l : List UInt8) : Int := match wholeGo 0 l with | some n => (n : Int) | none => 0
def wholeB (l : List UInt8) : Bool := match wholeGo 0 l with | some _ => decide (l ≠ []) | none => false
/-- The digit at a place, 0 behind the end. -/
def dg (l : List UInt8) (i : Nat) : Nat := match l[i]? with | some c => c.toNat - 48 | none => 0
def fr (l : List UInt8) : Nat → Nat
  | 0 => 0
  | i + 1 => fr l i * 10 + dg l i
/-- The millionths of digits behind the dot, rounded. -/
def frac (l : List UInt8) : Nat := if 6 < l.length ∧ 5 ≤ dg l 6 then fr l 6 + 1 else fr l 6
theorem isD_of_allD {l : List UInt8} (h : allD l = true) (i : Nat) (hi : i < l.length) : isD l[i] = true := by
  unfold allD at h
  exact List.all_eq_true.1 h _ (List.getElem_mem hi)
theorem dg_in {l : List UInt8} {i : Nat} (hi : i < l.length) : dg l i = l[i].toNat - 48 := by
  unfold dg; rw [List.getElem?_eq_getElem hi]
theorem dg_out {l : List UInt8} {i : Nat} (hi : l.length ≤ i) : dg l i = 0 := by
  unfold dg; rw [List.getElem?_eq_none hi]
theorem dg_le {l : List UInt8} (h : allD l = true) (i : Nat) : dg l i ≤ 9 := by
  by_cases hi : i < l.length
  · rw [dg_in hi]
    have := isD_iff.1 (isD_of_allD h i hi)
    omega
  · rw [dg_out (by omega)]; omega
theorem fr_lt {l : List UInt8} (h : allD l = true) : ∀ i, fr l i < 10 ^ i
  | 0 => by simp [fr]
  | i + 1 => by
    have := fr_lt h i
    have := dg_le h i
    rw [fr, Nat.pow_succ]
    omega
/-- A number in digits, put ahead of what is there. -/
def plainGo : Nat → Nat → List UInt8 → List UInt8
  | 0, _, s => s
  | f + 1, u, s => if u / 10 = 0 then UInt8.ofNat (48 + u % 10) :: s else plainGo f (u / 10) (UInt8.ofNat (48 + u % 10) :: s)
def plain (u : Nat) : List UInt8 := plainGo 20 u []
/-- Digits as a number, of any size. -/
def numFrom (n : Nat) (l : List UInt8) : Nat := l.foldl (fun n c => n * 10 + (c.toNat - 48)) n
def num (l : List UInt8) : Nat := numFrom 0 l
theorem numFrom_eq (l : List UInt8) : ∀ n, numFrom n l = n * 10 ^ l.length + num l := by
  induction l with
  | nil => intro n; simp [numFrom, num]
  | cons c r ih =>
    intro n
    have h1 : numFrom n (c :: r) = numFrom (n * 10 + (c.toNat - 48)) r := rfl
    have h2 : num (c :: r) = numFrom (0 * 10 + (c.toNat - 48)) r := rfl
    rw [h1, h2, ih, ih (0 * 10 + (c.toNat - 48)), List.length_cons, Nat.pow_succ, Nat.zero_mul, Nat.zero_add, Nat.add_mul, Nat.mul_assoc n 10, Nat.mul_comm 10]
    omega
theorem num_nil : num [] = 0 := rfl
theorem num_cons (c : UInt8) (r : List UInt8) : num (c :: r) = (c.toNat - 48) * 10 ^ r.length + num r := by
  have h2 : num (c :: r) = numFrom (0 * 10 + (c.toNat - 48)) r := rfl
  rw [h2, numFrom_eq, Nat.zero_mul, Nat.zero_add]
theorem num_append (a b : List UInt8) : num (a ++ b) = num a * 10 ^ b.length + num b := by
  have h : num (a ++ b) = numFrom (num a) b := by unfold num numFrom; rw [List.foldl_append]
  rw [h, numFrom_eq]
theorem num_take_succ (l : List UInt8) (k : Nat) (h : k < l.length) : num (l.take (k + 1)) = num (l.take k) * 10 + (l[k].toNat - 48) := by
  rw [List.take_succ_eq_append_getElem h, num_append]
  simp [num_cons, num_nil]
theorem num_take_le (l : List UInt8) (k : Nat) : num (l.take k) ≤ num l := by
  have h := num_append (l.take k) (l.drop k)
  rw [List.take_append_drop] at h
  rw [h]
  have : 1 ≤ 10 ^ (l.drop k).length := Nat.one_le_pow _ _ (by decide)
  have := Nat.mul_le_mul_left (num (l.take k)) this
  omega
theorem num_strip (l : List UInt8) : num (strip l) = num l := by
  induction l with
  | nil => rfl
  | cons c r ih =>
    cases r with
    | nil => rfl
    | cons d r =>
      rw [strip]
      split
      · rename_i h; rw [ih, num_cons c, h]; simp
      · rfl
theorem allD_strip (l : List UInt8) : allD l = true → allD (strip l) = true := by
  induction l with
  | nil => intro h; exact h
  | cons c r ih =>
    intro h
    cases r with
    | nil => exact h
    | cons d r =>
      rw [strip]
      split
      · apply ih; unfold allD at *; rw [List.all_cons, Bool.and_eq_true] at h; exact h.2
      · exact h
theorem strip_ne (l : List UInt8) : l ≠ [] → strip l ≠ [] := by
  induction l with
  | nil => intro h; exact absurd rfl h
  | cons c r ih =>
    intro _
    cases r with
    | nil => simp [strip]
    | cons d r =>
      rw [strip]
      split
      · exact ih (by simp)
      · simp
/-- A row of digits without a nought ahead, longer than one, is at least its first digit's worth. -/
theorem strip_long (l : List UInt8) : allD l = true → 1 < (strip l).length → 10 ^ ((strip l).length - 1) ≤ num l := by
  induction l with
  | nil => intro _ h; simp [strip] at h
  | cons c r ih =>
    intro hd h
    cases r with
    | nil => simp [strip] at h
    | cons d r =>
      rw [strip] at h ⊢
      split
      · rename_i hc
        rw [if_pos hc] at h
        have := ih (by unfold allD at *; rw [List.all_cons, Bool.and_eq_true] at hd; exact hd.2) h
        rw [num_cons c]
        omega
      · rename_i hc
        rw [num_cons c]
        have h1 := isD_iff.1 (isD_of_allD hd 0 (by simp))
        have h2 : c.toNat ≠ 48 := fun h => hc (UInt8.toNat_inj.1 h)
        have h3 : 1 ≤ c.toNat - 48 := by have := h1.1; simp at this; omega
        have h4 := Nat.mul_le_mul_right (10 ^ (d :: r).length) h3
        rw [Nat.one_mul] at h4
        have h5 : (c :: d :: r).length - 1 = (d :: r).length := by simp
        rw [h5]
        omega
theorem plainGo_length (f : Nat) : ∀ (u : Nat) (s : List UInt8), (plainGo f u s).length ≤ s.length + f := by
  induction f with
  | zero => intro u s; simp [plainGo]
  | succ f ih =>
    intro u s
    rw [plainGo]
    split
    · simp only [List.length_cons]
      omega
    · have := ih (u / 10) (UInt8.ofNat (48 + u % 10) :: s)
      simp only [List.length_cons] at this
      omega
theorem plain_length (u : Nat) : (plain u).length ≤ 20 := by have := plainGo_length 20 u []; simpa [plain] using this
def digits (n : Int) : List UInt8 := if n < 0 then 45 :: plain n.natAbs else plain n.natAbs
def minus (l : List UInt8) : Bool := match l with | c :: _ => c == 45 | [] => false
def body (l : List UInt8) : List UInt8 := if minus l then l.drop 1 else l
/-- Whole: the number, and whether there is one. -/
def whOk (l : List UInt8) : Bool := all (body l) && decide (num (body l) ≤ 4611686018427387904)
def whN (l : List UInt8) : Int := if whOk l then (if minus l then -(num (body l) : Int) else (num (body l) : Int)) else 0
end Dc
end Go.Proofs.YtojmcndiooiehaaDoor
