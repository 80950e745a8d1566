/-
  THE PLAIN MATHEMATICS of a root, bit by bit.
-/
import Derived.Test.YtafgjenhfoijlaaFxMdPure
namespace Go.Proofs.Ytafgjenhfoijlaa
namespace Fx

structure IsRt (T n : Nat) : Prop where
  low : n * n ≤ T
  high : T < (n + 1) * (n + 1)

theorem rt_unique {T n m : Nat} (h : IsRt T n) (k : IsRt T m) : n = m := by
  have a : n < m + 1 := by
    apply Nat.lt_of_not_le
    intro hh
    have := Nat.mul_le_mul hh hh
    have := h.low; have := k.high
    omega
  have b : m < n + 1 := by
    apply Nat.lt_of_not_le
    intro hh
    have := Nat.mul_le_mul hh hh
    have := k.low; have := h.high
    omega
  omega

/-- Behind the bits from k on: n is a multiple of 2^k, and the root is less than 2^k above it. -/
structure Rt (T k n : Nat) : Prop where
  low : n * n ≤ T
  high : T < (n + 2 ^ k) * (n + 2 ^ k)
  mult : n % 2 ^ k = 0

theorem rt_or {T k n : Nat} (h : Rt T (k + 1) n) : n ||| 2 ^ k = n + 2 ^ k := by
  have hm := h.mult
  have hd := Nat.div_add_mod n (2 ^ (k + 1))
  rw [hm, Nat.add_zero] at hd
  have h2 := Nat.two_pow_add_eq_or_of_lt (i := k + 1) (b := 2 ^ k) (by rw [Nat.pow_succ]; have : 0 < 2 ^ k := Nat.pos_of_ne_zero (by simp); omega) (n / 2 ^ (k + 1))
  rw [hd] at h2
  exact h2.symm

theorem rt_mult {k n : Nat} (h : n % 2 ^ (k + 1) = 0) : n % 2 ^ k = 0 := by
  have := Nat.mod_mul_left_mod n 2 (2 ^ k)
  rw [Nat.pow_succ, Nat.mul_comm] at h
  rw [h] at this
  simpa using this.symm

theorem rt_yes {T k n : Nat} (h : Rt T (k + 1) n) (hc : (n + 2 ^ k) * (n + 2 ^ k) ≤ T) : Rt T k (n + 2 ^ k) := by
  refine ⟨hc, ?_, ?_⟩
  · have := h.high
    rw [Nat.pow_succ] at this
    rw [Nat.add_assoc, ← Nat.mul_two]
    exact this
  · rw [Nat.add_mod_right]; exact rt_mult h.mult
theorem rt_no {T k n : Nat} (h : Rt T (k + 1) n) (hc : T < (n + 2 ^ k) * (n + 2 ^ k)) : Rt T k n := ⟨h.low, hc, rt_mult h.mult⟩
theorem rt_done {T n : Nat} (h : Rt T 0 n) : IsRt T n := ⟨h.low, by have := h.high; rw [Nat.pow_zero] at this; exact this⟩

def rtGo (T : Nat) : Nat → Nat → Nat
  | 0, n => n
  | k + 1, n => if (n + 2 ^ k) * (n + 2 ^ k) ≤ T then rtGo T k (n + 2 ^ k) else rtGo T k n
theorem rtGo_is (T : Nat) : ∀ (k n : Nat), Rt T k n → IsRt T (rtGo T k n)
  | 0, _, h => rt_done h
  | k + 1, n, h => by
    unfold rtGo
    split
    · rename_i hc; exact rtGo_is T k _ (rt_yes h hc)
    · rename_i hc; exact rtGo_is T k _ (rt_no h (Nat.lt_of_not_le hc))

/-- The root, rounded down. -/
def rt (T : Nat) : Nat := rtGo T 42 0
theorem rt_start (T k : Nat) (h : T < 2 ^ k * 2 ^ k) : Rt T k 0 := ⟨by omega, by rw [Nat.zero_add]; exact h, by simp⟩
theorem rt_is {T : Nat} (h : T < 4835703278458516698824704) : IsRt T (rt T) := rtGo_is T 42 0 (rt_start T 42 (Nat.lt_of_lt_of_le h (by decide)))
theorem rt_eq {T n : Nat} (h : T < 4835703278458516698824704) (k : IsRt T n) : n = rt T := rt_unique k (rt_is h)

theorem rt_lt {T k n : Nat} (h : Rt T (k + 1) n) (hT : T < 4835703278458516698824704) : n < 2199023255552 := by
  apply Nat.lt_of_not_le
  intro hh
  have := Nat.mul_le_mul hh hh
  have := h.low
  omega

/-- The number to try, by two words. -/
theorem words_le (h l hi lo M T : Nat) (hM : M = h * 18446744073709551616 + l) (hT : T = hi * 18446744073709551616 + lo) (hl : l < 18446744073709551616) (hlo : lo < 18446744073709551616) :
    (h < hi ∨ (h = hi ∧ l ≤ lo)) ↔ M ≤ T := by
  subst hM hT
  omega

def sqrt (a : Vl) : Vl := if num a && decide (0 ≤ a.n) then of (rt (a.n.toNat * 1000000)) else none
theorem sqrt_no {a : Vl} (h : num a = false) : sqrt a = none := by unfold sqrt; simp [h]
theorem sqrt_neg {a : Vl} (h : a.n < 0) : sqrt a = none := by unfold sqrt; rw [if_neg (by simp; intro _; omega)]
theorem sqrt_yes {a : Vl} (h : num a = true) (h0 : 0 ≤ a.n) : sqrt a = of (rt (a.n.toNat * 1000000)) := by unfold sqrt; simp [h, h0]
end Fx
end Go.Proofs.Ytafgjenhfoijlaa
