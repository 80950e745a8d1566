/-
  FxMdPure: THE PLAIN MATHEMATICS of MulDiv: the product by a third number, to the nearest, halves away from 0; and the same bit by bit.
  AgPure: THE PLAIN MATHEMATICS of agg: many values as one, in five ways; whether enough are known; what lies between; turned around.
  WpPure: THE PLAIN STATE of chapter 7: what is in a file of files that are known, and what is written there; as the document says it. No program is named here.
  VrMake: CONTRACTS: the document's own files as an object: Create.
  WpRO: THE DOCUMENT's FILES AS AN OBJECT, among blocks that are to stay: what each of its functions does to it.
  WhSide: CONTRACTS: the document's archives: which may follow which.
  WhMay: CONTRACTS: the document's own headers: which may be.
-/
import Derived.Test.YtbhfapbhlkgmfaaDoorJ2
import Derived.Test.YtbhfapbhlkgmfaaDoorJ6
import Derived.Test.YtbhfapbhlkgmfaaDoorJ1
import Derived.Test.YtbhfapbhlkgmfaaDoorJ4
import Derived.Test.YtbhfapbhlkgmfaaDoorJ5
import Derived.Test.YtbhfapbhlkgmfaaDoorJ3

namespace Go.Proofs.YtbhfapbhlkgmfaaDoor
namespace Fx

/-- To the nearest, halves up. -/
def rnd (p d : Nat) : Nat := if d ≤ 2 * (p % d) then p / d + 1 else p / d
def mdq (a b c : Int) : Nat := rnd (mag a * mag b) (mag c)
def mdok (a b c : Int) : Bool := decide (c ≠ 0 ∧ mdq a b c ≤ 4611686018427387904)
def neg3 (a b c : Int) : Bool := ((decide (a < 0) != decide (b < 0)) != decide (c < 0))
def mdn (a b c : Int) : Int := if mdok a b c then (if neg3 a b c then -(mdq a b c : Int) else (mdq a b c : Int)) else 0

theorem rnd_up {p d : Nat} (h : d ≤ 2 * (p % d)) : rnd p d = p / d + 1 := by unfold rnd; rw [if_pos h]
theorem rnd_down {p d : Nat} (h : 2 * (p % d) < d) : rnd p d = p / d := by unfold rnd; rw [if_neg (by omega)]
theorem rnd_ge (p d : Nat) : p / d ≤ rnd p d := by unfold rnd; split <;> omega

theorem mdok_zero {a b c : Int} (h : c = 0) : mdok a b c = false := by unfold mdok; simp [h]
theorem mdok_yes {a b c : Int} (h : c ≠ 0) (hq : mdq a b c ≤ 4611686018427387904) : mdok a b c = true := by unfold mdok; simp [h, hq]
theorem mdok_no {a b c : Int} (hq : 4611686018427387904 < mdq a b c) : mdok a b c = false := by
  unfold mdok; simp only [decide_eq_false_iff_not]; omega
theorem mdn_no {a b c : Int} (h : mdok a b c = false) : mdn a b c = 0 := by unfold mdn; rw [h]; rfl
theorem mdn_neg {a b c : Int} (h : mdok a b c = true) (hn : neg3 a b c = true) : mdn a b c = -(mdq a b c : Int) := by unfold mdn; rw [h, hn]; rfl
theorem mdn_pos {a b c : Int} (h : mdok a b c = true) (hn : neg3 a b c = false) : mdn a b c = (mdq a b c : Int) := by unfold mdn; rw [h, hn]; rfl

theorem mag_le {n : Int} (h1 : -9223372036854775808 ≤ n) (h2 : n ≤ 9223372036854775807) : mag n ≤ 9223372036854775808 := by unfold mag; omega
theorem mag_pos {n : Int} (h : n ≠ 0) : 0 < mag n := by unfold mag; omega

/-- MulDiv's value: the number, and whether there is one. -/
structure Md (a b c : Int) (n : Int) (ok : Bool) : Prop where
  num : n = mdn a b c
  ok : ok = mdok a b c

theorem md_zero {a b c : Int} (h : c = 0) : Md a b c 0 false := ⟨(mdn_no (mdok_zero h)).symm, (mdok_zero h).symm⟩
theorem md_big {a b c : Int} (hq : 4611686018427387904 < mdq a b c) : Md a b c 0 false := ⟨(mdn_no (mdok_no hq)).symm, (mdok_no hq).symm⟩
theorem md_neg {a b c : Int} {q : Int} (h : c ≠ 0) (he : q = (mdq a b c : Int)) (hq : q ≤ 4611686018427387904) (hn : neg3 a b c = true) : Md a b c (-q) true := by
  have h2 := mdok_yes (a := a) (b := b) h (by omega)
  exact ⟨by rw [mdn_neg h2 hn, he], h2.symm⟩
theorem md_pos {a b c : Int} {q : Int} (h : c ≠ 0) (he : q = (mdq a b c : Int)) (hq : q ≤ 4611686018427387904) (hn : neg3 a b c = false) : Md a b c q true := by
  have h2 := mdok_yes (a := a) (b := b) h (by omega)
  exact ⟨by rw [mdn_pos h2 hn, he], h2.symm⟩

/-- The value of MulDiv's answer. -/
def mdv (a b c : Int) : Vl := if mdok a b c then of (mdn a b c) else none
def mul (a b : Vl) : Vl := if num a && num b then mdv a.n b.n 1000000 else none
def div (a b : Vl) : Vl := if num a && num b then mdv a.n 1000000 b.n else none
theorem mdv_yes {a b c : Int} (h : mdok a b c = true) : mdv a b c = of (mdn a b c) := by unfold mdv; rw [if_pos h]
theorem mdv_no {a b c : Int} (h : mdok a b c = false) : mdv a b c = none := by unfold mdv; rw [if_neg (by simp [h])]
theorem mul_yes {a b : Vl} (h1 : num a = true) (h2 : num b = true) : mul a b = mdv a.n b.n 1000000 := by unfold mul; simp [h1, h2]
theorem mul_no1 {a b : Vl} (h1 : num a = false) : mul a b = none := by unfold mul; simp [h1]
theorem mul_no2 {a b : Vl} (h2 : num b = false) : mul a b = none := by unfold mul; simp [h2]
theorem div_yes {a b : Vl} (h1 : num a = true) (h2 : num b = true) : div a b = mdv a.n 1000000 b.n := by unfold div; simp [h1, h2]
theorem div_no1 {a b : Vl} (h1 : num a = false) : div a b = none := by unfold div; simp [h1]
theorem div_no2 {a b : Vl} (h2 : num b = false) : div a b = none := by unfold div; simp [h2]

/-- What the library's two steps (the product's words, then their division) come to. -/
theorem words (p d : Nat) (hd : d ≤ p / 18446744073709551616) (h0 : 0 < d) : 18446744073709551616 ≤ p / d := by
  rw [Nat.le_div_iff_mul_le h0]
  have := Nat.div_mul_le_self p 18446744073709551616
  omega
theorem whole (p : Nat) : p / 18446744073709551616 * 18446744073709551616 + p % 18446744073709551616 = p := by omega

/-- Bit by bit: N's bits from number i + 1 on (i from 127 down to -1), by d. -/
structure Rm (N d : Nat) (i : Int) (q r : Int) (o : Bool) : Prop where
  lo : -1 ≤ i
  hi : i ≤ 127
  q0 : 0 ≤ q
  q1 : q ≤ 18446744073709551615
  rest : r = ((N / 2 ^ (i + 1).toNat % d : Nat) : Int)
  quot : if o then 9223372036854775808 ≤ N / 2 ^ (i + 1).toNat / d else q = ((N / 2 ^ (i + 1).toNat / d : Nat) : Int) ∧ q ≤ 9223372036854775807

theorem half_bit (N k : Nat) : N / 2 ^ k = 2 * (N / 2 ^ (k + 1)) + N / 2 ^ k % 2 := by
  rw [Nat.pow_succ, ← Nat.div_div_eq_div_mul]; omega

/-- One more bit. -/
theorem next_bit (A d β : Nat) (hd : 0 < d) (hβ : β < 2) :
    (if d ≤ 2 * (A % d) + β then (2 * A + β) % d = 2 * (A % d) + β - d ∧ (2 * A + β) / d = 2 * (A / d) + 1 else (2 * A + β) % d = 2 * (A % d) + β ∧ (2 * A + β) / d = 2 * (A / d)) := by
  have h := Nat.div_add_mod A d
  have hm := Nat.mod_lt A hd
  have e : 2 * A + β = (2 * (A % d) + β) + d * (2 * (A / d)) := by
    rw [Nat.mul_left_comm]
    generalize d * (A / d) = x at *
    omega
  rw [e, Nat.add_mul_mod_self_left, Nat.add_mul_div_left _ _ hd]
  split
  · rename_i hc
    have e2 : 2 * (A % d) + β = (2 * (A % d) + β - d) + d * 1 := by omega
    rw [e2, Nat.add_mul_mod_self_left, Nat.add_mul_div_left _ _ hd, Nat.mod_eq_of_lt (by omega), Nat.div_eq_of_lt (by omega)]
    omega
  · rename_i hc
    rw [Nat.mod_eq_of_lt (by omega), Nat.div_eq_of_lt (by omega)]
    omega

theorem rm_start (N d : Nat) (h : N < 340282366920938463463374607431768211456) : Rm N d 127 0 0 false := by
  have e : N / 2 ^ (127 + 1 : Int).toNat = 0 := by
    apply Nat.div_eq_of_lt
    show N < 2 ^ 128
    omega
  refine ⟨by omega, by omega, by omega, by omega, ?_, ?_⟩
  · rw [e, Nat.zero_mod]; rfl
  · rw [e, Nat.zero_div]; exact ⟨rfl, by omega⟩

theorem rm_rest {N d : Nat} {i q r : Int} {o : Bool} (h : Rm N d i q r o) (hd : 0 < d) : 0 ≤ r ∧ r < d := by
  rw [h.rest]
  have := Nat.mod_lt (N / 2 ^ (i + 1).toNat) hd
  omega

/-- A turn. -/
theorem rm_step {N d : Nat} {i q r : Int} {o : Bool} (h : Rm N d i q r o) (hi : 0 ≤ i) (hd : 0 < d) (β : Nat) (hβ : β = N / 2 ^ i.toNat % 2) (q2 : Int) (hq2 : q2 = q * 2 % 18446744073709551616) (s : Int) (hs : s = r * 2 + β) (o2 : Bool) (ho : o2 = (o || decide (4611686018427387904 ≤ q))) :
    ((d : Int) ≤ s → Rm N d (i - 1) (q2 + 1) (s - d) o2) ∧ (s < (d : Int) → Rm N d (i - 1) q2 s o2) := by
  obtain ⟨lo, hi2, q0, q1, hr, hq⟩ := h
  obtain ⟨k, rfl⟩ := Int.eq_ofNat_of_zero_le hi
  have e1 : ((k : Int) + 1).toNat = k + 1 := by omega
  have e2 : ((k : Int) - 1 + 1).toNat = k := by omega
  have hb := half_bit N k
  rw [Int.toNat_natCast] at hβ
  rw [← hβ] at hb
  rw [e1] at hr hq
  have hβ2 : β < 2 := by omega
  have hn := next_bit (N / 2 ^ (k + 1)) d β hd hβ2
  rw [← hb] at hn
  have hm := Nat.mod_lt (N / 2 ^ (k + 1)) hd
  have quot : ∀ δ : Nat, δ < 2 → N / 2 ^ k / d = 2 * (N / 2 ^ (k + 1) / d) + δ → (if o2 = true then 9223372036854775808 ≤ N / 2 ^ k / d else q2 + δ = ((N / 2 ^ k / d : Nat) : Int) ∧ q2 + δ ≤ 9223372036854775807) := by
    intro δ hδ hQ
    rw [hQ]
    generalize N / 2 ^ (k + 1) / d = Q at *
    cases o with
    | true =>
      rw [if_pos rfl] at hq
      rw [ho, Bool.true_or, if_pos rfl]
      omega
    | false =>
      rw [if_neg (by simp)] at hq
      rw [ho, Bool.false_or]
      by_cases hc : 4611686018427387904 ≤ q
      · rw [if_pos (by simpa using hc)]
        omega
      · rw [if_neg (by simpa using hc)]
        omega
  have q2b : 0 ≤ q2 ∧ q2 ≤ 18446744073709551614 := by omega
  constructor
  · intro hds
    rw [if_pos (by omega)] at hn
    refine ⟨by omega, by omega, by omega, by omega, ?_, ?_⟩
    · rw [e2, hn.1]; omega
    · rw [e2]; exact quot 1 (by omega) hn.2
  · intro hds
    rw [if_neg (by omega)] at hn
    refine ⟨by omega, by omega, by omega, by omega, ?_, ?_⟩
    · rw [e2, hn.1]; omega
    · rw [e2]; have := quot 0 (by omega) (by rw [hn.2]; rfl); rw [Int.natCast_zero, Int.add_zero] at this; exact this

/-- Behind the last turn. -/
theorem rm_end {N d : Nat} {i q r : Int} {o : Bool} (h : Rm N d i q r o) (hi : i < 0) : r = ((N % d : Nat) : Int) ∧ (o = true → 9223372036854775808 ≤ N / d) ∧ (o = false → q = ((N / d : Nat) : Int) ∧ q ≤ 9223372036854775807) := by
  obtain ⟨lo, hi2, q0, q1, hr, hq⟩ := h
  have e : (i + 1).toNat = 0 := by omega
  rw [e, Nat.pow_zero, Nat.div_one] at hr hq
  refine ⟨hr, fun ho => ?_, fun ho => ?_⟩
  · rw [if_pos ho] at hq; exact hq
  · rw [if_neg (by simp [ho])] at hq; exact hq

theorem bit_low (N m : Nat) (hm : m < 64) : N % 18446744073709551616 / 2 ^ m % 2 = N / 2 ^ m % 2 := by
  have e : (18446744073709551616 : Nat) = 2 ^ m * 2 ^ (64 - m) := by rw [← Nat.pow_add, show m + (64 - m) = 64 by omega]
  rw [e, Nat.mod_mul_right_div_self]
  have e3 : 64 - m = (63 - m) + 1 := by omega
  rw [e3, Nat.pow_succ, Nat.mod_mul_left_mod]
theorem bit_high (N m : Nat) : N / 18446744073709551616 / 2 ^ m % 2 = N / 2 ^ (64 + m) % 2 := by
  rw [Nat.div_div_eq_div_mul, Nat.pow_add]

theorem halves_q (a q c r : Int) (h : q * c + r = a) (hc : 1 ≤ c) (hr0 : 0 ≤ r) (hr : r < c) :
    (0 ≤ a → (rnd (mag a) (mag c) : Int) = if c ≤ 2 * r then q + 1 else q) ∧ (a < 0 → (rnd (mag a) (mag c) : Int) = if 2 * r ≤ c then -q else -q - 1) := by
  obtain ⟨C, rfl⟩ := Int.eq_ofNat_of_zero_le (show 0 ≤ c by omega)
  obtain ⟨R, rfl⟩ := Int.eq_ofNat_of_zero_le hr0
  have hmc : mag (C : Int) = C := by unfold mag; omega
  rw [hmc]
  have hC : 0 < C := by omega
  constructor
  · intro ha
    have hq : 0 ≤ q := by
      apply Int.not_lt.1
      intro hq
      have := Int.mul_le_mul_of_nonneg_right (show q ≤ -1 by omega) (show (0 : Int) ≤ (C : Int) by omega)
      omega
    obtain ⟨Q, rfl⟩ := Int.eq_ofNat_of_zero_le hq
    have hA : mag a = R + C * Q := by
      unfold mag; rw [← h, ← Int.natCast_mul, ← Int.natCast_add, Int.natAbs_natCast, Nat.mul_comm, Nat.add_comm]
    have hd : mag a / C = Q := by rw [hA, Nat.add_mul_div_left _ _ hC, Nat.div_eq_of_lt (by omega)]; omega
    have hm : mag a % C = R := by rw [hA, Nat.add_mul_mod_self_left, Nat.mod_eq_of_lt (by omega)]
    unfold rnd
    rw [hd, hm]
    by_cases h2 : C ≤ 2 * R
    · rw [if_pos h2, if_pos (by omega)]; omega
    · rw [if_neg h2, if_neg (by omega)]
  · intro ha
    have hq : q ≤ -1 := by
      apply Int.not_lt.1
      intro hq
      have := Int.mul_nonneg (show 0 ≤ q by omega) (show (0 : Int) ≤ (C : Int) by omega)
      omega
    by_cases hR : R = 0
    · subst hR
      obtain ⟨Q, hQ⟩ := Int.eq_ofNat_of_zero_le (show 0 ≤ -q by omega)
      have hA : mag a = C * Q := by
        unfold mag
        have : a = -((C * Q : Nat) : Int) := by rw [Int.natCast_mul, ← hQ, ← h, Int.mul_neg, Int.neg_neg, Int.mul_comm]; omega
        rw [this, Int.natAbs_neg, Int.natAbs_natCast]
      have hd : mag a / C = Q := by rw [hA, Nat.mul_div_cancel_left _ hC]
      have hm : mag a % C = 0 := by rw [hA, Nat.mul_mod_right]
      unfold rnd
      rw [hd, hm, if_neg (by omega), if_pos (by omega)]
      omega
    · obtain ⟨Q, hQ⟩ := Int.eq_ofNat_of_zero_le (show 0 ≤ -q - 1 by omega)
      have hA : mag a = (C - R) + C * Q := by
        have e : ((C - R + C * Q : Nat) : Int) = -a := by
          have hx : (C : Int) * (Q : Int) = -(q * C) - C := by rw [← hQ, Int.mul_sub, Int.mul_neg, Int.mul_comm q]; omega
          rw [Int.natCast_add, Int.natCast_mul, hx]; omega
        unfold mag
        have : a = -((C - R + C * Q : Nat) : Int) := by omega
        rw [this, Int.natAbs_neg, Int.natAbs_natCast]
      have hd : mag a / C = Q := by rw [hA, Nat.add_mul_div_left _ _ hC, Nat.div_eq_of_lt (by omega)]; omega
      have hm : mag a % C = C - R := by rw [hA, Nat.add_mul_mod_self_left, Nat.mod_eq_of_lt (by omega)]
      unfold rnd
      rw [hd, hm]
      by_cases h2 : C ≤ 2 * (C - R)
      · rw [if_pos h2, if_pos (by omega)]; omega
      · rw [if_neg h2, if_neg (by omega)]; omega

/-- What FixedHalves asks, of both calls. -/
theorem halves (a q c r w : Int) (h : q * c + r = a) (hc : 1 ≤ c) (hr0 : 0 ≤ r) (hr : r < c) (hq1 : -1073741824 ≤ q) (hq2 : q ≤ 1073741824)
    (hw : w = if c < 2 * r ∨ (2 * r = c ∧ 0 < a) then q + 1 else q) :
    (mdn a 1 c = w ∧ mdok a 1 c = true) ∧ (mdn 1 (-a) (-c) = w ∧ mdok 1 (-a) (-c) = true) := by
  obtain ⟨h1, h2⟩ := halves_q a q c r h hc hr0 hr
  have m1 : mag 1 = 1 := rfl
  have ma : mag (-a) = mag a := by unfold mag; omega
  have mc : mag (-c) = mag c := by unfold mag; omega
  have e1 : mdq a 1 c = rnd (mag a) (mag c) := by unfold mdq; rw [m1, Nat.mul_one]
  have e2 : mdq 1 (-a) (-c) = rnd (mag a) (mag c) := by unfold mdq; rw [m1, Nat.one_mul, ma, mc]
  have hb : (rnd (mag a) (mag c) : Int) ≤ 1073741825 := by
    by_cases ha : 0 ≤ a
    · rw [h1 ha]; split <;> omega
    · rw [h2 (by omega)]; split <;> omega
  have o1 := mdok_yes (a := a) (b := 1) (c := c) (by omega) (by rw [e1]; omega)
  have o2 := mdok_yes (a := 1) (b := -a) (c := -c) (by omega) (by rw [e2]; omega)
  refine ⟨⟨?_, o1⟩, ?_, o2⟩
  · by_cases ha : 0 ≤ a
    · rw [mdn_pos o1 (by unfold neg3; rw [show decide (a < 0) = false by simp; omega, show decide (c < 0) = false by simp; omega]; rfl), e1, h1 ha, hw]
      by_cases hz : a = 0
      · have hq0 : q = 0 ∧ r = 0 := by
          have hqq : q = 0 := by
            by_cases hq : 1 ≤ q
            · have := Int.mul_le_mul_of_nonneg_right hq (show (0 : Int) ≤ c by omega)
              omega
            · by_cases hq' : q ≤ -1
              · have := Int.mul_le_mul_of_nonneg_right hq' (show (0 : Int) ≤ c by omega)
                omega
              · omega
          rw [hqq, Int.zero_mul] at h
          omega
        rw [if_neg (by omega), if_neg (by omega)]
      · by_cases h3 : c ≤ 2 * r
        · rw [if_pos h3, if_pos (by omega)]
        · rw [if_neg h3, if_neg (by omega)]
    · rw [mdn_neg o1 (by unfold neg3; rw [show decide (a < 0) = true by simp; omega, show decide (c < 0) = false by simp; omega]; rfl), e1, h2 (by omega), hw]
      by_cases h3 : 2 * r ≤ c
      · rw [if_pos h3, if_neg (by omega)]; omega
      · rw [if_neg h3, if_pos (by omega)]; omega
  · by_cases ha : 0 < a
    · rw [mdn_pos o2 (by unfold neg3; rw [show decide (-a < 0) = true by simp; omega, show decide (-c < 0) = true by simp; omega]; rfl), e2, h1 (by omega), hw]
      by_cases h3 : c ≤ 2 * r
      · rw [if_pos h3, if_pos (by omega)]
      · rw [if_neg h3, if_neg (by omega)]
    · rw [mdn_neg o2 (by unfold neg3; rw [show decide (-a < 0) = false by simp; omega, show decide (-c < 0) = true by simp; omega]; rfl), e2, hw]
      by_cases hz : a = 0
      · have hq0 : q = 0 ∧ r = 0 := by
          have hqq : q = 0 := by
            by_cases hq : 1 ≤ q
            · have := Int.mul_le_mul_of_nonneg_right hq (show (0 : Int) ≤ c by omega)
              omega
            · by_cases hq' : q ≤ -1
              · have := Int.mul_le_mul_of_nonneg_right hq' (show (0 : Int) ≤ c by omega)
                omega
              · omega
          rw [hqq, Int.zero_mul] at h
          omega
        rw [h1 (by omega), if_neg (by omega), if_neg (by omega)]; omega
      · rw [h2 (by omega)]
        by_cases h3 : 2 * r ≤ c
        · rw [if_pos h3, if_neg (by omega)]; omega
        · rw [if_neg h3, if_pos (by omega)]; omega
end Fx
end Go.Proofs.YtbhfapbhlkgmfaaDoor

namespace Go.Proofs.YtbhfapbhlkgmfaaDoor
open Go.RowKit
open Fx (Vl)
namespace Ag

/-- Those that are known. -/
def kn (l : List Vl) : List Vl := l.filter Fx.num
theorem kn_take (l : List Vl) (k : Nat) (h : k < l.length) : kn (l.take (k + 1)) = if Fx.num l[k] = true then kn (l.take k) ++ [l[k]] else kn (l.take k) := by
  unfold kn
  rw [List.take_succ_eq_append_getElem h, List.filter_append]
  by_cases hn : Fx.num l[k] = true
  · rw [if_pos hn]; simp [hn]
  · rw [if_neg hn]; simp [hn]
theorem kn_len (l : List Vl) : (kn l).length ≤ l.length := List.length_filter_le _ _
theorem kn_take_len (l : List Vl) (k : Nat) : (kn (l.take k)).length ≤ k := Nat.le_trans (kn_len _) (by rw [List.length_take]; omega)
theorem kn_num (l : List Vl) : ∀ v ∈ kn l, Fx.num v = true := fun _ hv => (List.mem_filter.1 hv).2
theorem kn_mem (l : List Vl) : ∀ v ∈ kn l, v ∈ l := fun _ hv => (List.mem_filter.1 hv).1

def mx1 (a b : Vl) : Vl := if a.n < b.n then b else a
def mn1 (a b : Vl) : Vl := if b.n < a.n then b else a
def mx (l : List Vl) : Vl := match l with | [] => Fx.none | x :: r => r.foldl mx1 x
def mn (l : List Vl) : Vl := match l with | [] => Fx.none | x :: r => r.foldl mn1 x
theorem mx_take (l : List Vl) (k : Nat) (h0 : 0 < k) (h : k < l.length) : mx (l.take (k + 1)) = mx1 (mx (l.take k)) l[k] := by
  rw [List.take_succ_eq_append_getElem h]
  cases hl : l.take k with
  | nil => have := congrArg List.length hl; rw [List.length_take, Nat.min_eq_left (Nat.le_of_lt h)] at this; simp at this; omega
  | cons x r => simp [mx, List.foldl_append]
theorem mn_take (l : List Vl) (k : Nat) (h0 : 0 < k) (h : k < l.length) : mn (l.take (k + 1)) = mn1 (mn (l.take k)) l[k] := by
  rw [List.take_succ_eq_append_getElem h]
  cases hl : l.take k with
  | nil => have := congrArg List.length hl; rw [List.length_take, Nat.min_eq_left (Nat.le_of_lt h)] at this; simp at this; omega
  | cons x r => simp [mn, List.foldl_append]
theorem mx_one (l : List Vl) (h : 0 < l.length) : mx (l.take 1) = l[0] := by cases l with | nil => cases h | cons x r => rfl
theorem mn_one (l : List Vl) (h : 0 < l.length) : mn (l.take 1) = l[0] := by cases l with | nil => cases h | cons x r => rfl
theorem mx1_yes {a b : Vl} (h : a.n < b.n) : mx1 a b = b := if_pos h
theorem mx1_no {a b : Vl} (h : ¬ a.n < b.n) : mx1 a b = a := if_neg h
theorem mn1_yes {a b : Vl} (h : b.n < a.n) : mn1 a b = b := if_pos h
theorem mn1_no {a b : Vl} (h : ¬ b.n < a.n) : mn1 a b = a := if_neg h

/-- All of them as one. -/
def tg (kind : Int) (k : List Vl) : Vl :=
  if k.length = 0 then Fx.none
  else if kind = 1 then Fx.div (sum k) (Fx.of ((k.length : Int) * 1000000))
  else if kind = 2 then sum k
  else if kind = 3 then k.getD (k.length - 1) Fx.none
  else if kind = 4 then mx k
  else if kind = 5 then mn k
  else Fx.none
theorem tg_nil (kind : Int) : tg kind [] = Fx.none := rfl
theorem tg_1 {k : List Vl} (h : 0 < k.length) : tg 1 k = Fx.div (sum k) (Fx.of ((k.length : Int) * 1000000)) := by unfold tg; rw [if_neg (Nat.ne_of_gt h), if_pos (Eq.refl (1 : Int))]
theorem tg_2 {k : List Vl} (h : 0 < k.length) : tg 2 k = sum k := by unfold tg; rw [if_neg (Nat.ne_of_gt h), if_neg (by decide), if_pos (Eq.refl (2 : Int))]
theorem tg_3 {k : List Vl} (h : 0 < k.length) : tg 3 k = k[k.length - 1]'(by omega) := by
  unfold tg; rw [if_neg (Nat.ne_of_gt h), if_neg (by decide), if_neg (by decide), if_pos (Eq.refl (3 : Int))]
  rw [List.getD_eq_getElem?_getD, List.getElem?_eq_getElem (by omega)]; rfl
theorem tg_4 {k : List Vl} (h : 0 < k.length) : tg 4 k = mx k := by unfold tg; rw [if_neg (Nat.ne_of_gt h), if_neg (by decide), if_neg (by decide), if_neg (by decide), if_pos (Eq.refl (4 : Int))]
theorem tg_5 {k : List Vl} (h : 0 < k.length) : tg 5 k = mn k := by unfold tg; rw [if_neg (Nat.ne_of_gt h), if_neg (by decide), if_neg (by decide), if_neg (by decide), if_neg (by decide), if_pos (Eq.refl (5 : Int))]
theorem tg_no {kind : Int} {k : List Vl} (h1 : kind ≠ 1) (h2 : kind ≠ 2) (h3 : kind ≠ 3) (h4 : kind ≠ 4) (h5 : kind ≠ 5) : tg kind k = Fx.none := by
  unfold tg; rw [if_neg h1, if_neg h2, if_neg h3, if_neg h4, if_neg h5]; split <;> rfl

def lim (n : Int) : Int := if n < 0 then 0 else if 16777216 < n then 16777216 else n
theorem lim_bd (n : Int) : 0 ≤ lim n ∧ lim n ≤ 16777216 := by
  unfold lim
  split
  · omega
  · split <;> omega
def en (xff known all : Int) : Bool := decide (0 < lim known ∧ lim known ≤ lim all ∧ lim xff * lim all ≤ lim known * 1000000)
def put (kind xff : Int) (l : List Vl) : Vl := if en xff ((kn l).length : Int) (l.length : Int) = true then tg kind (kn l) else Fx.none
end Ag
end Go.Proofs.YtbhfapbhlkgmfaaDoor

namespace Go.Proofs.YtbhfapbhlkgmfaaDoor
open Go.RowKit
open Fx (Vl)
open Vf (Fl Sv)
namespace Wp

/-- A header. -/
structure Hd where
  ag : Int
  xf : Int
  l : List (Int × Int)
def Hd.zero : Hd := ⟨0, 0, []⟩
def Hd.val (h : Hd) : Bool := Wh.val h.ag h.xf h.l
def Hd.size (h : Hd) : Int := Wh.size h.ag h.xf h.l
def Hd.offs (h : Hd) (i : Int) : Int := Wh.offs h.ag h.xf h.l i
def Hd.span (h : Hd) : Int := Wh.spn h.ag h.xf h.l
def Hd.step (h : Hd) (i : Nat) : Int := (Wh.At h.l i).1
def Hd.cnt (h : Hd) (i : Nat) : Int := (Wh.At h.l i).2
/-- The header that bytes begin with. -/
def hdOf (b : List UInt8) : Hd := ⟨Wh.dag b, Wh.dxf b, Wh.dl b⟩

/-- Info: the header of a file, and the error. -/
def info (fs : List Fl) (n : List UInt8) : Hd × Int :=
  if (Vf.size fs n).2 ≠ 0 then (Hd.zero, (Vf.size fs n).2)
  else
    let b := (Vf.read fs n 0 (Vf.size fs n).1).1
    if Wh.derr b ≠ 0 ∨ (hdOf b).size ≠ (Vf.size fs n).1 then (Hd.zero, 2) else (hdOf b, 0)

/-- Create: of files in the state S. -/
def create (S : Sv) (n : List UInt8) (h : Hd) : Sv × Int :=
  if h.val = false then (S, 1)
  else
    let b := Wh.enc h.ag h.xf h.l
    let R := Vf.create S n (b ++ List.replicate (h.size - (b.length : Int)).toNat 0)
    if R.2 = 0 then ({ R.1 with was := R.1.now, l := [] }, 0) else (R.1, R.2)

/-- Where a slot stands. -/
def at_ (h : Hd) (i : Nat) (t : Int) : Int := h.offs i + 12 * Sl.pl (h.step i) (h.cnt i) t
/-- The point in twelve bytes. -/
def pt (b : List UInt8) : Int × Int := (Sl.dat b, Sl.dnn b)
/-- What a slot has of a time. -/
def value (fs : List Fl) (n : List UInt8) (h : Hd) (i : Nat) (t : Int) : Vl :=
  let p := pt (Vf.read fs n (at_ h i t) 12).1
  let u := Sl.al t (h.step i)
  if u ≤ 0 ∨ p.1 ≠ u then Fx.none else Fx.of p.2
/-- A slot is written. -/
def write (S : Sv) (n : List UInt8) (h : Hd) (i : Nat) (t v : Int) : Sv :=
  let a := at_ h i t
  let S1 := (Vf.write S n a [0, 0, 0, 0]).1
  let S2 := (Vf.write S1 n (a + 4) (Sl.beb v 8)).1
  (Vf.write S2 n a (Sl.beb (Sl.lim (Sl.al t (h.step i))) 4)).1
/-- The values of one archive that are the next one's slot. -/
def vals (fs : List Fl) (n : List UInt8) (h : Hd) (i : Nat) (t : Int) (k : Nat) : List Vl :=
  (List.range k).map fun (j : Nat) => value fs n h i (Sl.al t (h.step (i + 1)) + (j : Int) * h.step i)
def many (h : Hd) (i : Nat) : Nat := (h.step (i + 1) / h.step i).toNat
/-- What was laid in an archive goes on to the next one. -/
def passes (S : Sv) (n : List UInt8) (h : Hd) (i : Nat) (t : Int) : Sv × Bool :=
  let v := Ag.put h.ag h.xf (vals S.now n h i t (many h i))
  if v.ok = false ∨ Sl.al t (h.step (i + 1)) = 0 then (S, false) else (write S n h (i + 1) t v.n, true)
/-- On and on: from archive k, at most m times. -/
def climb (n : List UInt8) (h : Hd) (t : Int) : Nat → Sv → Nat → Sv
  | 0, S, _ => S
  | m + 1, S, k => if (passes S n h k t).2 = true then climb n h t m (passes S n h k t).1 (k + 1) else S
/-- The first archive from i on that covers a time. -/
def first (h : Hd) (d : Int) : Nat → Nat → Option Nat
  | 0, _ => none
  | m + 1, i => if d < h.step i * h.cnt i then some i else first h d m (i + 1)
/-- A point is laid, or passed over. -/
def lays (S : Sv) (n : List UInt8) (h : Hd) (now : Int) (p : Int × Int) : Sv × Bool :=
  if p.1 < 1 ∨ now < p.1 ∨ Fx.inR p.2 = false then (S, false)
  else match first h (now - p.1) h.l.length 0 with
    | none => (S, false)
    | some i => if Sl.al p.1 (h.step i) = 0 then (S, false) else (climb n h p.1 (h.l.length - 1 - i) (write S n h i p.1 p.2) i, true)
/-- Points one by one. -/
def layAll (n : List UInt8) (h : Hd) (now : Int) : List (Int × Int) → Sv → Int → Sv × Int
  | [], S, c => (S, c)
  | p :: l, S, c => layAll n h now l (lays S n h now p).1 (if (lays S n h now p).2 = true then c + 1 else c)
def time (now : Int) : Bool := decide (1 ≤ now ∧ now ≤ 4294967295)
/-- Update: the files, the number, the error. -/
def update (S : Sv) (n : List UInt8) (now : Int) (l : List (Int × Int)) : Sv × Int × Int :=
  let R := info S.now n
  if R.2 ≠ 0 then (S, 0, R.2) else if time now = false then (S, 0, 1)
  else
    let U := layAll n R.1 now l S 0
    ({ U.1 with was := U.1.now, l := [] }, U.2, 0)
/-- Ring: the points of an archive, and the error. -/
def ring (fs : List Fl) (n : List UInt8) (i : Int) : List (Int × Int) × Int :=
  let R := info fs n
  if R.2 ≠ 0 then ([], R.2) else if i < 0 ∨ (R.1.l.length : Int) ≤ i then ([], 1)
  else ((List.range (R.1.cnt i.toNat).toNat).map fun (k : Nat) => pt (Vf.read fs n (R.1.offs i + 12 * (k : Int)) 12).1, 0)
/-- A series: its start, its step, its values. -/
structure Se where
  start : Int
  step : Int
  vals : List Vl
def clip (h : Hd) (now from_ : Int) : Int := max (max 0 from_) (now - h.span)
/-- Fetch: the series, and the error. -/
def fetch (fs : List Fl) (n : List UInt8) (now from_ until_ : Int) : Option Se × Int :=
  let R := info fs n
  if R.2 ≠ 0 then (none, R.2) else if time now = false then (none, 1)
  else if until_ < from_ ∨ now < from_ ∨ until_ < 0 ∨ until_ < now - R.1.span then (none, 7)
  else
    let f := clip R.1 now from_
    let u := min until_ now
    match first R.1 (now - f - 1) R.1.l.length 0 with
    | none => (none, 7)
    | some i =>
      let s := R.1.step i
      let a := Sl.al f s + s
      let e := if Sl.al u s + s ≤ a then a + s else Sl.al u s + s
      (some ⟨a, s, (List.range ((e - a) / s).toNat).map fun (k : Nat) => value fs n R.1 i (a + (k : Int) * s)⟩, 0)
end Wp
end Go.Proofs.YtbhfapbhlkgmfaaDoor

namespace Go.Proofs.YtbhfapbhlkgmfaaDoor
open Go.RowKit
open Me

end Go.Proofs.YtbhfapbhlkgmfaaDoor

namespace Go.Proofs.YtbhfapbhlkgmfaaDoor
open Go.RowKit
open Me Vf
namespace Wp

/-- The document's files at fs in the state S, when c acts were played at most; the blocks of V are none of its own. -/
def RO (w : World) (V : Nat → Prop) (fs c : Nat) (S : Sv) : Prop :=
  ∃ G lr nv wv lv ys, At w G fs lr S nv wv lv ys ∧ Vf.Inv c S ∧ ∀ b, V b → b < w.heap.size ∧ ¬ G b ∧ b ≠ fs ∧ lr ≠ some b
theorem RO.below {w w' : World} {V : Nat → Prop} {fs c : Nat} {S : Sv} (h : RO w V fs c S) (b : Below w.heap.size w w') : RO w' V fs c S := by
  obtain ⟨G, lr, nv, wv, lv, ys, h1, h2, h3⟩ := h
  exact ⟨G, lr, nv, wv, lv, ys, h1.below b, h2, fun i hi => ⟨Nat.lt_of_lt_of_le (h3 i hi).1 b.size, (h3 i hi).2⟩⟩
/-- Blocks that were laid since are none of its own. -/
theorem RO.add {w w' : World} {V V' : Nat → Prop} {fs c : Nat} {S : Sv} (h : RO w V fs c S) (b : Below w.heap.size w w') (hV : ∀ i, V' i → V i ∨ (w.heap.size ≤ i ∧ i < w'.heap.size)) : RO w' V' fs c S := by
  obtain ⟨G, lr, nv, wv, lv, ys, h1, h2, h3⟩ := h
  have hlr : ∀ g, lr = some g → g < w.heap.size := fun g hg => (h1.own.lt g (h1.row.trans hg)).2
  have hfs := h1.fsLt
  refine ⟨G, lr, nv, wv, lv, ys, h1.below b, h2, fun i hi => ?_⟩
  rcases hV i hi with hv | ⟨ha, hb⟩
  · exact ⟨Nat.lt_of_lt_of_le (h3 i hv).1 b.size, (h3 i hv).2⟩
  · exact ⟨hb, fun hg => by have := h1.lt i hg; omega, fun e => by omega, fun e => by have := hlr i e; omega⟩
/-- What is changed in blocks of V changes nothing. -/
theorem RO.kp {w w' : World} {V O : Nat → Prop} {fs c : Nat} {S : Sv} (h : RO w V fs c S) (k : Kp O w w') (hO : ∀ i, O i → V i) : RO w' V fs c S := by
  obtain ⟨G, lr, nv, wv, lv, ys, h1, h2, h3⟩ := h
  exact ⟨G, lr, nv, wv, lv, ys, h1.kp k (fun i hi => (h3 i (hO i hi)).2), h2, fun i hi => ⟨Nat.lt_of_lt_of_le (h3 i hi).1 k.size, (h3 i hi).2⟩⟩
theorem RO.more {w : World} {V V' : Nat → Prop} {fs c c' : Nat} {S : Sv} (h : RO w V fs c S) (hc : c ≤ c') (hV : ∀ i, V' i → V i) : RO w V' fs c' S := by
  obtain ⟨G, lr, nv, wv, lv, ys, h1, h2, h3⟩ := h
  exact ⟨G, lr, nv, wv, lv, ys, h1, h2.mono hc, fun i hi => h3 i (hV i hi)⟩
theorem RO.vlt {w : World} {V : Nat → Prop} {fs c : Nat} {S : Sv} (h : RO w V fs c S) : ∀ i, V i → i < w.heap.size := by
  obtain ⟨G, lr, nv, wv, lv, ys, h1, h2, h3⟩ := h
  exact fun i hi => (h3 i hi).1
theorem RO.inv {w : World} {V : Nat → Prop} {fs c : Nat} {S : Sv} (h : RO w V fs c S) : Vf.Inv c S := by
  obtain ⟨G, lr, nv, wv, lv, ys, h1, h2, h3⟩ := h
  exact h2
theorem RO.of_next {w w' : World} {V G : Nat → Prop} {fs c' : Nat} {lr : Option Nat} {S : Sv} {R : Sv × Int} {nv wv lv : Value} {ys : List Value} {e : Ending} (h1 : At w G fs lr S nv wv lv ys) (h3 : ∀ b, V b → b < w.heap.size ∧ ¬ G b ∧ b ≠ fs ∧ lr ≠ some b)
    (hi : Vf.Inv c' R.1) (hn : Vf.Next w G fs lr R e w') : e = .returned (.int .i64 R.2) ∧ RO w' V fs c' R.1 ∧ Kp (fun b => ¬ V b) w w' := by
  obtain ⟨rfl, G', lr', nv', wv', lv', ys', q1, q2, q3, q4⟩ := hn
  refine ⟨rfl, ⟨G', lr', nv', wv', lv', ys', q1, hi, fun b hb => ⟨Nat.lt_of_lt_of_le (h3 b hb).1 q2.size, fun hg => ?_, (h3 b hb).2.2.1, fun e => ?_⟩⟩, q2.mono fun b _ ho hv => ?_⟩
  · rcases q3 b hg with h | h
    · exact (h3 b hb).2.1 h
    · have := (h3 b hb).1; omega
  · rcases q4 b e with h | h
    · exact (h3 b hb).2.2.2 h
    · have := (h3 b hb).1; omega
  · rcases ho with rfl | e
    · exact (h3 b hv).2.2.1 rfl
    · exact (h3 b hv).2.2.2 e
end Wp
open Wp

section
variable {w : World} {V : Nat → Prop} {fs c : Nat} {S : Sv}
end
end Go.Proofs.YtbhfapbhlkgmfaaDoor

namespace Go.Proofs.YtbhfapbhlkgmfaaDoor
open Go.RowKit Go.Sort
open Wh (At)

set_option maxHeartbeats 1000000 in
theorem side_any (s c t d : Int) (h1 : 1 ≤ s) (h2 : s ≤ 16777216) (h3 : 1 ≤ c) (h4 : c ≤ 16777216) (h5 : 1 ≤ t) (h6 : t ≤ 16777216) (h7 : 1 ≤ d) (h8 : d ≤ 16777216) (w : World) :
    Calls Tryd.prog 34 #[.agg #[.int .i64 s, .int .i64 c], .agg #[.int .i64 t, .int .i64 d]] w fun e w' => e = .returned (.bool (Wh.fol (s, c) (t, d))) ∧ Below w.heap.size w w' := by
  obtain ⟨kc, kf⟩ := kgrown ((w.alloc (.cells #[.int .i64 s, .int .i64 c] 30)).alloc (.cells #[.int .i64 t, .int .i64 d] 30))
  have bs := Wh.mul_bd h1 h2 h3 h4
  have bt := Wh.mul_bd h5 h6 h7 h8
  have hw1 : IntKind.i64.wrap (s * c) = s * c := IntWalk.i64_in _ (by omega)
  have hw2 : IntKind.i64.wrap (t * d) = t * d := IntWalk.i64_in _ (by omega)
  have hm : t.tmod s = t % s := Int.tmod_eq_emod_of_nonneg (by omega)
  have hd : t.tdiv s = t / s := Int.tdiv_eq_ediv_of_nonneg (by omega)
  have hz : (s == 0) = false := by simp; omega
  have hdb : 0 ≤ t / s ∧ t / s ≤ t := ⟨Int.ediv_nonneg (by omega) (by omega), Int.ediv_le_self _ (by omega)⟩
  have hdw : IntKind.i64.wrap (t / s) = t / s := IntWalk.i64_in _ (by omega)
  by_cases g1 : t ≤ s
  · have H := Lib.hid (Wh.fol_1 (a := (s, c)) (b := (t, d)) g1)
    have e1 : decide (s < t) = false := decide_eq_false (by omega)
    go_enter Tryd.func34, Tryd.ntmps34
    go_wp2_with fail
    refine wp_region_quiet_below (by kernel_rfl) (by kernel_rfl) ?_
    repeat (go_big_quiet_step (fail))
    refine wpQuiet_nil ?_
    intro _ hw'
    obtain ⟨⟨dq, osq⟩, hw''⟩ := hw'
    subst hw''
    go_wp2
    go_ret
    exact ⟨by rw [H.out]; rfl, (by repeat (first | exact Below.refl _ _ | assumption | refine Below.setCell ?_ (by first | (simp; done) | omega | (simp; omega) | (simp at *; omega)) _ | refine Below.alloc ?_ (by first | (simp; done) | omega | (simp; omega) | (simp at *; omega)) _ | refine Below.drew ?_ | (refine Below.trans ?_ (Below.mono (by assumption) (by first | (simp; done) | omega | (simp; omega) | (simp at *; omega)))) | (refine Below.trans ?_ (Below.mono (below_regrown _ _ _) (by first | (simp; done) | omega | (simp; omega) | (simp at *; omega))))))⟩
  · have e1 : decide (s < t) = true := decide_eq_true (by omega)
    by_cases g2 : t % s = 0
    · have e2 : (t % s == 0) = true := by simp [g2]
      by_cases g3 : t * d ≤ s * c
      · have H := Lib.hid (Wh.fol_3 (a := (s, c)) (b := (t, d)) g3)
        have e3 : decide (s * c < t * d) = false := decide_eq_false (by omega)
        clear g2
        go_enter Tryd.func34, Tryd.ntmps34
        go_wp2_with fail
        refine wp_region_quiet_below (by kernel_rfl) (by kernel_rfl) ?_
        repeat (go_big_quiet_step (fail))
        refine wpQuiet_nil ?_
        intro _ hw'
        obtain ⟨⟨dq, osq⟩, hw''⟩ := hw'
        subst hw''
        go_wp2
        go_ret
        exact ⟨by rw [H.out]; rfl, (by repeat (first | exact Below.refl _ _ | assumption | refine Below.setCell ?_ (by first | (simp; done) | omega | (simp; omega) | (simp at *; omega)) _ | refine Below.alloc ?_ (by first | (simp; done) | omega | (simp; omega) | (simp at *; omega)) _ | refine Below.drew ?_ | (refine Below.trans ?_ (Below.mono (by assumption) (by first | (simp; done) | omega | (simp; omega) | (simp at *; omega)))) | (refine Below.trans ?_ (Below.mono (below_regrown _ _ _) (by first | (simp; done) | omega | (simp; omega) | (simp at *; omega))))))⟩
      · have H := Lib.hid (Wh.fol_4 (a := (s, c)) (b := (t, d)) (by show s < t; omega) g2 (by show s * c < t * d; omega))
        have e3 : decide (s * c < t * d) = true := decide_eq_true (by omega)
        clear g2
        go_enter Tryd.func34, Tryd.ntmps34
        go_wp2_with fail
        refine wp_region_quiet_below (by kernel_rfl) (by kernel_rfl) ?_
        repeat (go_big_quiet_step (fail))
        refine wpQuiet_nil ?_
        intro _ hw'
        obtain ⟨⟨dq, osq⟩, hw''⟩ := hw'
        subst hw''
        go_wp2
        go_ret
        exact ⟨by rw [H.out]; rfl, (by repeat (first | exact Below.refl _ _ | assumption | refine Below.setCell ?_ (by first | (simp; done) | omega | (simp; omega) | (simp at *; omega)) _ | refine Below.alloc ?_ (by first | (simp; done) | omega | (simp; omega) | (simp at *; omega)) _ | refine Below.drew ?_ | (refine Below.trans ?_ (Below.mono (by assumption) (by first | (simp; done) | omega | (simp; omega) | (simp at *; omega)))) | (refine Below.trans ?_ (Below.mono (below_regrown _ _ _) (by first | (simp; done) | omega | (simp; omega) | (simp at *; omega))))))⟩
    · have H := Lib.hid (Wh.fol_2 (a := (s, c)) (b := (t, d)) g2)
      have e2 : (t % s == 0) = false := by simp [g2]
      clear g2
      go_enter Tryd.func34, Tryd.ntmps34
      go_wp2_with fail
      refine wp_region_quiet_below (by kernel_rfl) (by kernel_rfl) ?_
      repeat (go_big_quiet_step (fail))
      refine wpQuiet_nil ?_
      intro _ hw'
      obtain ⟨⟨dq, osq⟩, hw''⟩ := hw'
      subst hw''
      go_wp2
      go_ret
      exact ⟨by rw [H.out]; rfl, (by repeat (first | exact Below.refl _ _ | assumption | refine Below.setCell ?_ (by first | (simp; done) | omega | (simp; omega) | (simp at *; omega)) _ | refine Below.alloc ?_ (by first | (simp; done) | omega | (simp; omega) | (simp at *; omega)) _ | refine Below.drew ?_ | (refine Below.trans ?_ (Below.mono (by assumption) (by first | (simp; done) | omega | (simp; omega) | (simp at *; omega)))) | (refine Below.trans ?_ (Below.mono (below_regrown _ _ _) (by first | (simp; done) | omega | (simp; omega) | (simp at *; omega))))))⟩
end Go.Proofs.YtbhfapbhlkgmfaaDoor

namespace Go.Proofs.YtbhfapbhlkgmfaaDoor
open Go.RowKit Go.Sort
open Wh (At)

theorem Wh.av_run {l : List (Int × Int)} {k : Nat} (hk : k ≤ l.length) (h : 1048576 < Wh.run l k)   : Wh.av l = false := by
  cases ha : Wh.alls l l.length
  · unfold Wh.av; simp [ha]
  · have := Wh.run_le (Wh.alls_cnt ha) k hk
    exact Wh.av_big (by omega)

theorem lowBox {w W : World} {o : Obj} (h : Below (w.heap.size + 1) (w.alloc o) W) : Below w.heap.size w W := ((Below.refl _ _).alloc (Nat.le_refl _) _).trans (h.mono (Nat.le_succ _))

set_option maxHeartbeats 4000000 in
theorem may_some (ag xf : Int) (g1 : 1 ≤ ag) (g2 : ag ≤ 5) (x1 : 0 ≤ xf) (x2 : xf ≤ 1000000) (l : List (Int × Int)) (b off cap : Nat) (w : World) (hA : Ars w b off l) (hcap : l.length ≤ cap) (h1 : 1 ≤ l.length) (h8 : l.length ≤ 8) :
    Calls Tryd.prog 18 #[.agg #[.int .i64 ag, .int .i64 xf, .slice (some ⟨b, off, none⟩) l.length cap]] w fun e w' => e = .returned (.bool (Wh.av l)) ∧ Below w.heap.size w w' := by
  have HF : Hid (∀ k, k < l.length → Wh.stp l k = false → Wh.av l = false) := Lib.hid fun k hk h => Wh.av_stp hk h
  have HA := Lib.hid hA
  have H1 : Hid (∀ k, Wh.num (At l k).1 = false → Wh.stp l k = false) := Lib.hid fun k => Wh.stp_f1
  have H2 : Hid (∀ k, Wh.num (At l k).2 = false → Wh.stp l k = false) := Lib.hid fun k => Wh.stp_f2
  have H3 : Hid (∀ k, 0 < k → Wh.fol (At l (k - 1)) (At l k) = false → Wh.stp l k = false) := Lib.hid fun k => Wh.stp_f3
  have HT : Hid (∀ k, Wh.alls l k = true → Wh.num (At l k).1 = true → Wh.num (At l k).2 = true → (k = 0 ∨ Wh.fol (At l (k - 1)) (At l k) = true) → Wh.alls l (k + 1) = true) := Lib.hid fun k h h1 h2 h3 => Wh.alls_succ h (Wh.stp_t h1 h2 h3)
  have HB : Hid (∀ k m, k < m → Wh.alls l m = true → (1 ≤ (At l k).1 ∧ (At l k).1 ≤ 16777216) ∧ (1 ≤ (At l k).2 ∧ (At l k).2 ≤ 16777216)) := Lib.hid fun k m => Wh.alls_num
  have HU : Hid (∀ k, Wh.run l (k + 1) = Wh.run l k + 12 + 12 * (At l k).2) := Lib.hid fun k => Wh.run_succ l k
  have HG : Hid (∀ k, k ≤ l.length → 1048576 < Wh.run l k → Wh.av l = false) := Lib.hid fun k hk h => Wh.av_run hk h
  have HZ : Hid (Wh.run l 0 = 16) := Lib.hid (Wh.run_zero l)
  have HN : Hid (∀ k, 16 ≤ Wh.run l k ∧ Wh.run l k ≤ 1048576 → 16 ≤ Wh.run l k ∧ Wh.run l k ≤ 1048576) := Lib.hid fun _ h => h
  clear hA
  go_enter Tryd.func18, Tryd.ntmps18
  go_wp2
  go_loopw [3, 4] (fun n i wr => ∃ j : Nat, j ≤ l.length ∧ i = .int .i64 j ∧ n = .int .i64 (Wh.run l j) ∧ Hid (Wh.alls l j = true) ∧ (16 ≤ Wh.run l j ∧ Wh.run l j ≤ 1048576) ∧ Below (w.heap.size + 1) (w.alloc (.cells #[.int .i64 ag, .int .i64 xf, .slice (some ⟨b, off, none⟩) l.length cap] 24)) wr) (fun _ i _ => l.length - (intOf i).toNat)
  case atStart => exact ⟨0, Nat.zero_le _, rfl, by rw [HZ.out], Lib.hid rfl, by rw [HZ.out]; omega, Below.refl _ _⟩
  case round =>
    obtain ⟨j, hj, rfl, rfl, hal, hrn, hR⟩ := hrel
    have hx2 : wr.cell? ⟨w.heap.size, 2, none⟩ = some (.slice (some ⟨b, off, none⟩) l.length cap) := (hR.cell (p := ⟨w.heap.size, 2, none⟩) (Nat.lt_succ_self _)).trans (by simp [go_sem])
    have hsz : w.heap.size < wr.heap.size := by have := hR.size; simp at this; omega
    have hAr := HA.out.below (lowBox hR)
    have hbl := hAr.lt
    have HR := Lib.hid hR
    clear hR HN
    by_cases hlt : j < l.length
    · have c0 := hAr.st j hlt
      have c1 := hAr.ct j hlt
      have HJ := Lib.hid (HF.out j hlt)
      have HJ1 := Lib.hid (H1.out j)
      have HJ2 := Lib.hid (H2.out j)
      have HJ3 := Lib.hid (H3.out j)
      have HJT := Lib.hid (HT.out j hal.out)
      have HJU := Lib.hid (HU.out j)
      have HJG : Hid (1048576 < Wh.run l j + 12 + 12 * (At l j).2 → Wh.av l = false) := Lib.hid fun h => HG.out (j + 1) (by omega) (by rw [HU.out]; exact h)
      have hp : (∀ m, j = m + 1 → (1 ≤ (At l m).1 ∧ (At l m).1 ≤ 16777216) ∧ (1 ≤ (At l m).2 ∧ (At l m).2 ≤ 16777216)) := fun m e => HB.out m j (by omega) hal.out
      have HP := Lib.hid hp
      have HPC : Hid (∀ m, j = m + 1 → wr.cell? ⟨b, off + m * 2, none⟩ = some (.int .i64 (At l m).1) ∧ wr.cell? ⟨b, off + m * 2 + 1, none⟩ = some (.int .i64 (At l m).2)) := Lib.hid fun m e => ⟨hAr.st m (by omega), hAr.ct m (by omega)⟩
      clear hp hAr HF HA H1 H2 H3 HT HB HU HG HZ hal
      by_cases k1 : (At l j).1 < 1
      · have HQ := Lib.hid (HJ.out (HJ1.out (by unfold Wh.num; simp; omega)))
        have d1 : decide ((At l j).1 < 1) = true := decide_eq_true k1
        clear HJ HJ1 HJ2 HJ3 HJT HJU HJG HP HPC
        generalize At l j = a at *
        obtain ⟨s, c⟩ := a
        dsimp only at *
        go_wp2_with fail
        obtain ⟨kc, kf⟩ := kgrown (wr.alloc (.cells #[.int .i64 s, .int .i64 c] 30))
        refine wp_region_quiet_below (by kernel_rfl) (by kernel_rfl) ?_
        repeat (go_big_quiet_step (fail))
        refine wpQuiet_nil ?_
        intro _ hw'
        obtain ⟨⟨dq, osq⟩, hw''⟩ := hw'
        subst hw''
        go_wp2
        go_ret
        exact ⟨by rw [HQ.out]; rfl, (HR.out.alloc (by have := HR.out.size; simp at this; omega) _).trans ((below_regrown _ _ _).mono (by have := HR.out.size; simp at this ⊢; omega)) |> lowBox⟩
      have d1 : decide ((At l j).1 < 1) = false := decide_eq_false k1
      by_cases k2 : 16777216 < (At l j).1
      · have HQ := Lib.hid (HJ.out (HJ1.out (by unfold Wh.num; simp; omega)))
        have d2 : decide (16777216 < (At l j).1) = true := decide_eq_true k2
        clear HJ HJ1 HJ2 HJ3 HJT HJU HJG HP HPC
        generalize At l j = a at *
        obtain ⟨s, c⟩ := a
        dsimp only at *
        go_wp2_with fail
        obtain ⟨kc, kf⟩ := kgrown (wr.alloc (.cells #[.int .i64 s, .int .i64 c] 30))
        refine wp_region_quiet_below (by kernel_rfl) (by kernel_rfl) ?_
        repeat (go_big_quiet_step (fail))
        refine wpQuiet_nil ?_
        intro _ hw'
        obtain ⟨⟨dq, osq⟩, hw''⟩ := hw'
        subst hw''
        go_wp2
        go_ret
        exact ⟨by rw [HQ.out]; rfl, (HR.out.alloc (by have := HR.out.size; simp at this; omega) _).trans ((below_regrown _ _ _).mono (by have := HR.out.size; simp at this ⊢; omega)) |> lowBox⟩
      have d2 : decide (16777216 < (At l j).1) = false := decide_eq_false k2
      by_cases k3 : (At l j).2 < 1
      · have HQ := Lib.hid (HJ.out (HJ2.out (by unfold Wh.num; simp; omega)))
        have d3 : decide ((At l j).2 < 1) = true := decide_eq_true k3
        clear HJ HJ1 HJ2 HJ3 HJT HJU HJG HP HPC
        generalize At l j = a at *
        obtain ⟨s, c⟩ := a
        dsimp only at *
        go_wp2_with fail
        obtain ⟨kc, kf⟩ := kgrown (wr.alloc (.cells #[.int .i64 s, .int .i64 c] 30))
        refine wp_region_quiet_below (by kernel_rfl) (by kernel_rfl) ?_
        repeat (go_big_quiet_step (fail))
        refine wpQuiet_nil ?_
        intro _ hw'
        obtain ⟨⟨dq, osq⟩, hw''⟩ := hw'
        subst hw''
        go_wp2
        go_ret
        exact ⟨by rw [HQ.out]; rfl, (HR.out.alloc (by have := HR.out.size; simp at this; omega) _).trans ((below_regrown _ _ _).mono (by have := HR.out.size; simp at this ⊢; omega)) |> lowBox⟩
      have d3 : decide ((At l j).2 < 1) = false := decide_eq_false k3
      by_cases k4 : 16777216 < (At l j).2
      · have HQ := Lib.hid (HJ.out (HJ2.out (by unfold Wh.num; simp; omega)))
        have d4 : decide (16777216 < (At l j).2) = true := decide_eq_true k4
        clear HJ HJ1 HJ2 HJ3 HJT HJU HJG HP HPC
        generalize At l j = a at *
        obtain ⟨s, c⟩ := a
        dsimp only at *
        go_wp2_with fail
        obtain ⟨kc, kf⟩ := kgrown (wr.alloc (.cells #[.int .i64 s, .int .i64 c] 30))
        refine wp_region_quiet_below (by kernel_rfl) (by kernel_rfl) ?_
        repeat (go_big_quiet_step (fail))
        refine wpQuiet_nil ?_
        intro _ hw'
        obtain ⟨⟨dq, osq⟩, hw''⟩ := hw'
        subst hw''
        go_wp2
        go_ret
        exact ⟨by rw [HQ.out]; rfl, (HR.out.alloc (by have := HR.out.size; simp at this; omega) _).trans ((below_regrown _ _ _).mono (by have := HR.out.size; simp at this ⊢; omega)) |> lowBox⟩
      have d4 : decide (16777216 < (At l j).2) = false := decide_eq_false k4
      have q1 : 1 ≤ (At l j).1 := by omega
      have q2 : (At l j).1 ≤ 16777216 := by omega
      have q3 : 1 ≤ (At l j).2 := by omega
      have q4 : (At l j).2 ≤ 16777216 := by omega
      have HJT := Lib.hid (HJT.out (Wh.num_t q1 q2) (Wh.num_t q3 q4))
      clear k1 k2 k3 k4
      cases j with
      | zero =>
        have HQ := Lib.hid (HJT.out (.inl rfl))
        simp only [Nat.zero_mul, Nat.add_zero] at c0 c1
        clear HJ HJ1 HJ2 HJ3 HJT HP HPC
        generalize Wh.run l 0 = q at *
        generalize At l 0 = a at *
        obtain ⟨s, c⟩ := a
        dsimp only at *
        by_cases k5 : 1048576 < q + 12 + 12 * c
        · have HQ := Lib.hid (HJG.out k5)
          clear HJG
          go_wp2_with fail
          obtain ⟨kc, kf⟩ := kgrown (wr.alloc (.cells #[.int .i64 s, .int .i64 c] 30))
          refine wp_region_quiet_below (by kernel_rfl) (by kernel_rfl) ?_
          repeat (go_big_quiet_step (fail))
          refine wpQuiet_nil ?_
          intro _ hw'
          obtain ⟨⟨dq, osq⟩, hw''⟩ := hw'
          subst hw''
          go_wp2
          go_ret
          exact ⟨by rw [HQ.out]; rfl, lowBox ((HR.out.alloc (by have := HR.out.size; simp at this; omega) _).trans ((below_regrown _ _ _).mono (by have := HR.out.size; simp at this ⊢; omega)))⟩
        · clear HJG
          go_wp2_with fail
          obtain ⟨kc, kf⟩ := kgrown (wr.alloc (.cells #[.int .i64 s, .int .i64 c] 30))
          refine wp_region_quiet_below (by kernel_rfl) (by kernel_rfl) ?_
          repeat (go_big_quiet_step (fail))
          refine wpQuiet_nil ?_
          intro _ hw'
          obtain ⟨⟨dq, osq⟩, hw''⟩ := hw'
          subst hw''
          go_wp2
          go_roundw
          case rel => exact ⟨1, by omega, by go_num, by rw [HJU.out], HQ, by rw [HJU.out]; omega, (HR.out.alloc (by have := HR.out.size; simp at this; omega) _).trans ((below_regrown _ _ _).mono (by have := HR.out.size; simp at this ⊢; omega))⟩
          case measure => simp [intOf]; omega
      | succ m =>
        obtain ⟨⟨p1, p2⟩, p3, p4⟩ := HP.out m rfl
        obtain ⟨e0, e1⟩ := HPC.out m rfl
        have HK3 : Hid (Wh.fol (At l m) (At l (m + 1)) = false → Wh.av l = false) := Lib.hid fun h => HJ.out (HJ3.out (by omega) h)
        have HKT : Hid (Wh.fol (At l m) (At l (m + 1)) = true → Wh.alls l (m + 1 + 1) = true) := Lib.hid fun h => HJT.out (.inr h)
        have hg : decide ((0 : Int) < (m : Int) + 1) = true := decide_eq_true (by omega)
        have HFO := Lib.hid (side_any (At l m).1 (At l m).2 (At l (m + 1)).1 (At l (m + 1)).2 p1 p2 p3 p4 q1 q2 q3 q4)
        have hml : m + 1 ≤ l.length := by omega
        clear HJ HJ1 HJ2 HJ3 HJT HP HPC
        generalize Wh.run l (m + 1) = q at *
        generalize At l (m + 1) = a at *
        generalize At l m = a0 at *
        obtain ⟨s, c⟩ := a
        obtain ⟨s0, cc⟩ := a0
        dsimp only at *
        cases hfo : Wh.fol (s0, cc) (s, c)
        · have HQ := Lib.hid (HK3.out hfo)
          clear HK3 HKT
          go_wp2_with fail
          obtain ⟨kc, kf⟩ := kgrown (wr.alloc (.cells #[.int .i64 s, .int .i64 c] 30))
          refine wp_region_quiet_below (by kernel_rfl) (by kernel_rfl) ?_
          repeat (go_big_quiet_step ((go_at_call 34; exact Calls.regrown_of (HFO.out _))))
          refine wpQuiet_nil ?_
          intro _ hw'
          obtain ⟨⟨dq, osq⟩, hw''⟩ := hw'
          subst hw''
          go_wp2
          go_ret
          exact ⟨by rw [HQ.out]; rfl, lowBox ((HR.out.alloc (by have := HR.out.size; simp at this; omega) _).trans ((below_regrown _ _ _).mono (by have := HR.out.size; simp at this ⊢; omega)))⟩
        · have HQ := Lib.hid (HKT.out hfo)
          clear HK3 HKT
          by_cases k5 : 1048576 < q + 12 + 12 * c
          · have HQ := Lib.hid (HJG.out k5)
            clear HJG
            go_wp2_with fail
            obtain ⟨kc, kf⟩ := kgrown (wr.alloc (.cells #[.int .i64 s, .int .i64 c] 30))
            refine wp_region_quiet_below (by kernel_rfl) (by kernel_rfl) ?_
            repeat (go_big_quiet_step ((go_at_call 34; exact Calls.regrown_of (HFO.out _))))
            refine wpQuiet_nil ?_
            intro _ hw'
            obtain ⟨⟨dq, osq⟩, hw''⟩ := hw'
            subst hw''
            go_wp2
            go_ret
            exact ⟨by rw [HQ.out]; rfl, lowBox ((HR.out.alloc (by have := HR.out.size; simp at this; omega) _).trans ((below_regrown _ _ _).mono (by have := HR.out.size; simp at this ⊢; omega)))⟩
          · clear HJG
            go_wp2_with fail
            obtain ⟨kc, kf⟩ := kgrown (wr.alloc (.cells #[.int .i64 s, .int .i64 c] 30))
            refine wp_region_quiet_below (by kernel_rfl) (by kernel_rfl) ?_
            repeat (go_big_quiet_step ((go_at_call 34; exact Calls.regrown_of (HFO.out _))))
            refine wpQuiet_nil ?_
            intro _ hw'
            obtain ⟨⟨dq, osq⟩, hw''⟩ := hw'
            subst hw''
            go_wp2
            go_roundw
            case rel => exact ⟨m + 1 + 1, by omega, by go_num, by rw [HJU.out], HQ, by rw [HJU.out]; omega, (HR.out.alloc (by have := HR.out.size; simp at this; omega) _).trans ((below_regrown _ _ _).mono (by have := HR.out.size; simp at this ⊢; omega))⟩
            case measure => simp [intOf]; omega
    · obtain rfl : j = l.length := by omega
      obtain ⟨k, hk⟩ : ∃ k, l.length = k + 1 := ⟨l.length - 1, by omega⟩
      have c0 := hAr.st k (by omega)
      have c1 := hAr.ct k (by omega)
      obtain ⟨⟨p1, p2⟩, p3, p4⟩ := HB.out k l.length (by omega) hal.out
      have HQ : Hid (Wh.av l = decide ((At l k).1 * (At l k).2 ≤ 4294967295)) := Lib.hid (by
        have := Wh.av_end h1 h8 hal.out hrn.2
        rw [this]
        unfold Wh.lsp
        rw [hk]
        rfl)
      have bm := Wh.mul_bd p1 p2 p3 p4
      have hw : IntKind.i64.wrap ((At l k).1 * (At l k).2) = (At l k).1 * (At l k).2 := IntWalk.i64_in _ (by omega)
      clear hAr HF HA H1 H2 H3 HT HB HU HG HZ hal
      generalize hls : l.length = n at *
      have HLS := Lib.hid hls
      clear hls
      subst hk
      generalize At l k = a at *
      obtain ⟨s, c⟩ := a
      dsimp only at *
      generalize hmu : s * c = mu at *
      have HMU := Lib.hid hmu
      clear hmu
      have hw2 : IntKind.i64.wrap (s * c) = mu := by rw [HMU.out]; exact hw
      go_wp2
      go_ret
      exact ⟨by rw [HQ.out]; rfl, lowBox (HR.out.alloc (by have := HR.out.size; simp at this; omega) _)⟩
end Go.Proofs.YtbhfapbhlkgmfaaDoor
