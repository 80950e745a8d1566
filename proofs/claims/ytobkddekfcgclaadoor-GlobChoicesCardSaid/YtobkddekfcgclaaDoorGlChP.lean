/-
  PLAIN: chapter 9's law on choices: the pattern that it builds and what that stands for.
-/
import Derived.Test.YtobkddekfcgclaaDoorGlLawP
namespace Go.Proofs.YtobkddekfcgclaaDoor
open Go.RowKit
open Me

namespace Gl
def letter (j : Nat) : UInt8 := UInt8.ofNat (97 + j)
/-- The first letters, with commas between. -/
def alt : Nat → List UInt8
  | 0 => []
  | j + 1 => (if j = 0 then [] else alt j ++ [44]) ++ [letter j]
def alts (n : Nat) : List (List UInt8) := (List.range n).map fun j => [letter j]
def join44 : List UInt8 → List UInt8
  | [] => []
  | [b] => [b]
  | b :: r => b :: 44 :: join44 r
theorem gr_join (l : List UInt8) (h : l ≠ []) (hs : l.all (fun b => noSp [b]) = true) : Gr true (join44 l) (l.map fun b => [b]) := by
  induction l with
  | nil => exact absurd rfl h
  | cons b r ih =>
    rw [List.all_cons, Bool.and_eq_true] at hs
    cases r with
    | nil => exact Gr.one (Gr.plain hs.1)
    | cons c r => exact Gr.more (t := [b]) (Gr.plain hs.1) (ih (by simp) hs.2)
theorem gr_alt (n : Nat) (h0 : 0 < n) (h8 : n ≤ 8) : Gr true (alt n) (alts n) := by
  have key : ∀ l : List UInt8, l ≠ [] → l.all (fun b => noSp [b]) = true → alt n = join44 l → alts n = (l.map fun b => [b]) → Gr true (alt n) (alts n) := fun l h hs e1 e2 => by
    rw [e1, e2]; exact gr_join l h hs
  refine key ((List.range n).map letter) ?_ ?_ ?_ ?_
  · obtain ⟨m, rfl⟩ : ∃ m, n = m + 1 := ⟨n - 1, by omega⟩
    simp [List.range_succ]
  · have : n = 1 ∨ n = 2 ∨ n = 3 ∨ n = 4 ∨ n = 5 ∨ n = 6 ∨ n = 7 ∨ n = 8 := by omega
    rcases this with rfl | rfl | rfl | rfl | rfl | rfl | rfl | rfl <;> decide
  · have : n = 1 ∨ n = 2 ∨ n = 3 ∨ n = 4 ∨ n = 5 ∨ n = 6 ∨ n = 7 ∨ n = 8 := by omega
    rcases this with rfl | rfl | rfl | rfl | rfl | rfl | rfl | rfl <;> decide
  · unfold alts; simp
theorem alt_len (n : Nat) : (alt n).length ≤ 2 * n := by
  induction n with
  | zero => exact Nat.le_refl _
  | succ n ih =>
    rw [alt]
    by_cases h : n = 0
    · rw [if_pos h]; simp; omega
    · rw [if_neg h]; simp; omega
/-- Groups one behind the other. -/
def strOf : List Nat → List UInt8
  | [] => []
  | n :: r => 123 :: (alt n ++ 125 :: strOf r)
def setOf : List Nat → List (List UInt8)
  | [] => [[]]
  | n :: r => comb [[]] (comb (alts n) (setOf r))
def prodN : List Nat → Nat
  | [] => 1
  | n :: r => n * prodN r
theorem strOf_append (a b : List Nat) : strOf (a ++ b) = strOf a ++ strOf b := by
  induction a with
  | nil => rfl
  | cons n a ih => show 123 :: (alt n ++ 125 :: strOf (a ++ b)) = _; rw [ih]; simp [strOf]
theorem prodN_append (a b : List Nat) : prodN (a ++ b) = prodN a * prodN b := by
  induction a with
  | nil => show _ = 1 * _; rw [Nat.one_mul]; rfl
  | cons n a ih => show n * prodN (a ++ b) = n * prodN a * prodN b; rw [ih, Nat.mul_assoc]
def okN (ns : List Nat) : Prop := ∀ n ∈ ns, 0 < n ∧ n ≤ 8
theorem gr_str (ns : List Nat) (h : okN ns) : Gr false (strOf ns) (setOf ns) := by
  induction ns with
  | nil => exact Gr.plain rfl
  | cons n r ih =>
    have h1 := h n (by simp)
    exact Gr.group (p := []) rfl (gr_alt n h1.1 h1.2) (ih fun m hm => h m (by simp [hm]))
theorem set_len (ns : List Nat) : (setOf ns).length = prodN ns := by
  induction ns with
  | nil => rfl
  | cons n r ih =>
    show (comb [[]] (comb (alts n) (setOf r))).length = n * prodN r
    rw [comb_unit, comb_len, ih]
    unfold alts
    simp
theorem str_len (ns : List Nat) (h : okN ns) : (strOf ns).length ≤ 18 * ns.length := by
  induction ns with
  | nil => exact Nat.le_refl _
  | cons n r ih =>
    have h1 := h n (by simp)
    have := ih fun m hm => h m (by simp [hm])
    have := alt_len n
    simp [strOf]
    omega
theorem set_mem (ns : List Nat) (h : okN ns) : ∀ x ∈ setOf ns, plainB x = true ∧ x.length = ns.length := by
  induction ns with
  | nil => intro x hx; simp [setOf] at hx; subst hx; exact ⟨rfl, rfl⟩
  | cons n r ih =>
    intro x hx
    have h1 := h n (by simp)
    have ih := ih fun m hm => h m (by simp [hm])
    rw [setOf, comb_unit] at hx
    unfold comb at hx
    rw [List.mem_flatMap] at hx
    obtain ⟨a, ha, hx⟩ := hx
    rw [List.mem_map] at hx
    obtain ⟨b, hb, rfl⟩ := hx
    unfold alts at ha
    rw [List.mem_map] at ha
    obtain ⟨j, hj, rfl⟩ := ha
    have hj : j < 8 := by have := List.mem_range.1 hj; omega
    have := ih b hb
    refine ⟨?_, by simp [this.2]⟩
    show plainB (letter j :: b) = true
    unfold plainB at *
    rw [List.all_cons, this.1, Bool.and_true]
    have : j = 0 ∨ j = 1 ∨ j = 2 ∨ j = 3 ∨ j = 4 ∨ j = 5 ∨ j = 6 ∨ j = 7 := by omega
    rcases this with rfl | rfl | rfl | rfl | rfl | rfl | rfl | rfl <;> decide
theorem err_str (ns : List Nat) (h : okN ns) (h0 : 0 < ns.length) (h9 : ns.length ≤ 10) : expErr (strOf ns) (setOf ns) = if 512 < prodN ns then 13 else 0 := by
  have hb : bal 0 (strOf ns) = true := by
    have := (gr_str ns h).bal 0 [] (fun e => by cases e)
    rw [List.append_nil] at this
    rw [this]; rfl
  have hl := str_len ns h
  unfold expErr
  rw [if_neg (by rw [hb]; rintro (e | e); omega; cases e), set_len]
  have : (setOf ns).all resOk = true := by
    rw [List.all_eq_true]
    intro x hx
    have := set_mem ns h x hx
    exact resOk_plain x this.1 (by omega)
  rw [this]
  rfl
theorem lim_step (a n : Nat) (hn : n ≤ 8) : min 513 (lim a * n) = lim (a * n) := by
  have := lim_mul a n
  rw [lim_id (n := n) (by omega)] at this
  rw [← this]
  unfold lim
  omega
/-- One of the numbers, as the law reads it. -/
theorem and7 (x : Int) : ∃ m : Nat, m ≤ 7 ∧ bits .and .i64 x 7 = (m : Int) := by
  refine ⟨((BitVec.ofInt 64 x).toNat % 8), by omega, ?_⟩
  have e : (BitVec.ofInt 64 x).toNat &&& 7 = (BitVec.ofInt 64 x).toNat % 8 := Nat.and_two_pow_sub_one_eq_mod _ 3
  show IntKind.i64.wrap ((BitVec.ofInt 64 x &&& BitVec.ofInt 64 7).toNat : Int) = _
  rw [BitVec.toNat_and, show (BitVec.ofInt 64 7).toNat = 7 by decide, e, IntKind.wrap_i64]
  omega
def nOf (x : Int) : Nat := 1 + (bits .and .i64 x 7).toNat
theorem nOf_eq {x : Int} {m : Nat} (h : bits .and .i64 x 7 = (m : Int)) : nOf x = 1 + m := by unfold nOf; rw [h]; rfl
theorem nOf_ok (l : List Int) : okN (l.map nOf) := by
  intro n hn
  rw [List.mem_map] at hn
  obtain ⟨x, _, rfl⟩ := hn
  obtain ⟨m, hm, e⟩ := and7 x
  rw [nOf_eq e]; omega
end Gl
end Go.Proofs.YtobkddekfcgclaaDoor
