/-
  THE PLAIN MATHEMATICS of MulDiv: the product by a third number, to the nearest, halves away from 0; and the same bit by bit.
-/
import Derived.Test.YtafgjenhfoijlaaFxPure
namespace Go.Proofs.Ytafgjenhfoijlaa
namespace Fx

/-- To the nearest, halves up. -/
def rnd (p d : Nat) : Nat := if d ≤ 2 * (p % d) then p / d + 1 else p / d
def mdq (a b c : Int) : Nat := rnd (mag a * mag b) (mag c)
def mdok (a b c : Int) : Bool := decide (c ≠ 0 ∧ mdq a b c ≤ 4611686018427387904)
def neg3 (a b c : Int) : Bool := ((decide (a < 0) != decide (b < 0)) != decide (c < 0))
def mdn (a b c : Int) : Int := if mdok a b c then (if neg3 a b c then -(mdq a b c : Int) else (mdq a b c : Int)) else 0

theorem rnd_up {p d : Nat} (h : d ≤ 2 * (p % d)) : rnd p d = p / d + 1 := by unfold rnd; rw [if_pos h]
theorem rnd_down {p d : Nat} (h : 2 * (p % d) < d) : rnd p d = p / d := by unfold rnd; rw [if_neg (by omega)]
theorem rnd_ge (p d : Nat) : p / d ≤ rnd p d := by unfold rnd; split <;> omega

theorem mdok_zero {a b c : Int} (h : c = 0) : mdok a b c = false := by unfold mdok; simp [h]
theorem mdok_yes {a b c : Int} (h : c ≠ 0) (hq : mdq a b c ≤ 4611686018427387904) : mdok a b c = true := by unfold mdok; simp [h, hq]
theorem mdok_no {a b c : Int} (hq : 4611686018427387904 < mdq a b c) : mdok a b c = false := by
  unfold mdok; simp only [decide_eq_false_iff_not]; omega
theorem mdn_no {a b c : Int} (h : mdok a b c = false) : mdn a b c = 0 := by unfold mdn; rw [h]; rfl
theorem mdn_neg {a b c : Int} (h : mdok a b c = true) (hn : neg3 a b c = true) : mdn a b c = -(mdq a b c : Int) := by unfold mdn; rw [h, hn]; rfl
theorem mdn_pos {a b c : Int} (h : mdok a b c = true) (hn : neg3 a b c = false) : mdn a b c = (mdq a b c : Int) := by unfold mdn; rw [h, hn]; rfl

theorem mag_le {n : Int} (h1 : -9223372036854775808 ≤ n) (h2 : n ≤ 9223372036854775807) : mag n ≤ 9223372036854775808 := by unfold mag; omega
theorem mag_pos {n : Int} (h : n ≠ 0) : 0 < mag n := by unfold mag; omega

/-- MulDiv's value: the number, and whether there is one. -/
structure Md (a b c : Int) (n : Int) (ok : Bool) : Prop where
  num : n = mdn a b c
  ok : ok = mdok a b c

theorem md_zero {a b c : Int} (h : c = 0) : Md a b c 0 false := ⟨(mdn_no (mdok_zero h)).symm, (mdok_zero h).symm⟩
theorem md_big {a b c : Int} (hq : 4611686018427387904 < mdq a b c) : Md a b c 0 false := ⟨(mdn_no (mdok_no hq)).symm, (mdok_no hq).symm⟩
theorem md_neg {a b c : Int} {q : Int} (h : c ≠ 0) (he : q = (mdq a b c : Int)) (hq : q ≤ 4611686018427387904) (hn : neg3 a b c = true) : Md a b c (-q) true := by
  have h2 := mdok_yes (a := a) (b := b) h (by omega)
  exact ⟨by rw [mdn_neg h2 hn, he], h2.symm⟩
theorem md_pos {a b c : Int} {q : Int} (h : c ≠ 0) (he : q = (mdq a b c : Int)) (hq : q ≤ 4611686018427387904) (hn : neg3 a b c = false) : Md a b c q true := by
  have h2 := mdok_yes (a := a) (b := b) h (by omega)
  exact ⟨by rw [mdn_pos h2 hn, he], h2.symm⟩

/-- The value of MulDiv's answer. -/
def mdv (a b c : Int) : Vl := if mdok a b c then of (mdn a b c) else none
def mul (a b : Vl) : Vl := if num a && num b then mdv a.n b.n 1000000 else none
def div (a b : Vl) : Vl := if num a && num b then mdv a.n 1000000 b.n else none
theorem mdv_yes {a b c : Int} (h : mdok a b c = true) : mdv a b c = of (mdn a b c) := by unfold mdv; rw [if_pos h]
theorem mdv_no {a b c : Int} (h : mdok a b c = false) : mdv a b c = none := by unfold mdv; rw [if_neg (by simp [h])]
theorem mul_yes {a b : Vl} (h1 : num a = true) (h2 : num b = true) : mul a b = mdv a.n b.n 1000000 := by unfold mul; simp [h1, h2]
theorem mul_no1 {a b : Vl} (h1 : num a = false) : mul a b = none := by unfold mul; simp [h1]
theorem mul_no2 {a b : Vl} (h2 : num b = false) : mul a b = none := by unfold mul; simp [h2]
theorem div_yes {a b : Vl} (h1 : num a = true) (h2 : num b = true) : div a b = mdv a.n 1000000 b.n := by unfold div; simp [h1, h2]
theorem div_no1 {a b : Vl} (h1 : num a = false) : div a b = none := by unfold div; simp [h1]
theorem div_no2 {a b : Vl} (h2 : num b = false) : div a b = none := by unfold div; simp [h2]

/-- What the library's two steps (the product's words, then their division) come to. -/
theorem words (p d : Nat) (hd : d ≤ p / 18446744073709551616) (h0 : 0 < d) : 18446744073709551616 ≤ p / d := by
  rw [Nat.le_div_iff_mul_le h0]
  have := Nat.div_mul_le_self p 18446744073709551616
  omega
theorem whole (p : Nat) : p / 18446744073709551616 * 18446744073709551616 + p % 18446744073709551616 = p := by omega

/-- Bit by bit: N's bits from number i + 1 on (i from 127 down to -1), by d. -/
structure Rm (N d : Nat) (i : Int) (q r : Int) (o : Bool) : Prop where
  lo : -1 ≤ i
  hi : i ≤ 127
  q0 : 0 ≤ q
  q1 : q ≤ 18446744073709551615
  rest : r = ((N / 2 ^ (i + 1).toNat % d : Nat) : Int)
  quot : if o then 9223372036854775808 ≤ N / 2 ^ (i + 1).toNat / d else q = ((N / 2 ^ (i + 1).toNat / d : Nat) : Int) ∧ q ≤ 9223372036854775807

theorem half_bit (N k : Nat) : N / 2 ^ k = 2 * (N / 2 ^ (k + 1)) + N / 2 ^ k % 2 := by
  rw [Nat.pow_succ, ← Nat.div_div_eq_div_mul]; omega

/-- One more bit. -/
theorem next_bit (A d β : Nat) (hd : 0 < d) (hβ : β < 2) :
    (if d ≤ 2 * (A % d) + β then (2 * A + β) % d = 2 * (A % d) + β - d ∧ (2 * A + β) / d = 2 * (A / d) + 1 else (2 * A + β) % d = 2 * (A % d) + β ∧ (2 * A + β) / d = 2 * (A / d)) := by
  have h := Nat.div_add_mod A d
  have hm := Nat.mod_lt A hd
  have e : 2 * A + β = (2 * (A % d) + β) + d * (2 * (A / d)) := by
    rw [Nat.mul_left_comm]
    generalize d * (A / d) = x at *
    omega
  rw [e, Nat.add_mul_mod_self_left, Nat.add_mul_div_left _ _ hd]
  split
  · rename_i hc
    have e2 : 2 * (A % d) + β = (2 * (A % d) + β - d) + d * 1 := by omega
    rw [e2, Nat.add_mul_mod_self_left, Nat.add_mul_div_left _ _ hd, Nat.mod_eq_of_lt (by omega), Nat.div_eq_of_lt (by omega)]
    omega
  · rename_i hc
    rw [Nat.mod_eq_of_lt (by omega), Nat.div_eq_of_lt (by omega)]
    omega
end Fx
end Go.Proofs.Ytafgjenhfoijlaa
