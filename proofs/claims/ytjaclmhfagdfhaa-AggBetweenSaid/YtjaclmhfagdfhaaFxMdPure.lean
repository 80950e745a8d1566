/-
  THE PLAIN MATHEMATICS of MulDiv: the product by a third number, to the nearest, halves away from 0; and the same bit by bit.
-/
import Derived.Test.YtjaclmhfagdfhaaFxPure
namespace Go.Proofs.Ytjaclmhfagdfhaa
namespace Fx

/-- To the nearest, halves up. -/
def rnd (p d : Nat) : Nat := if d ≤ 2 * (p % d) then p / d + 1 else p / d
def mdq (a b c : Int) : Nat := rnd (mag a * mag b) (mag c)
def mdok (a b c : Int) : Bool := decide (c ≠ 0 ∧ mdq a b c ≤ 4611686018427387904)
def neg3 (a b c : Int) : Bool := ((decide (a < 0) != decide (b < 0)) != decide (c < 0))
def mdn (a b c : Int) : Int := if mdok a b c then (if neg3 a b c then -(mdq a b c : Int) else (mdq a b c : Int)) else 0

theorem rnd_up {p d : Nat} (h : d ≤ 2 * (p % d)) : rnd p d = p / d + 1 := by unfold rnd; rw [if_pos h]
theorem rnd_down {p d : Nat} (h : 2 * (p % d) < d) : rnd p d = p / d := by unfold rnd; rw [if_neg (by omega)]
theorem rnd_ge (p d : Nat) : p / d ≤ rnd p d := by unfold rnd; split <;> omega

theorem mdok_zero {a b c : Int} (h : c = 0) : mdok a b c = false := by unfold mdok; simp [h]
theorem mdok_yes {a b c : Int} (h : c ≠ 0) (hq : mdq a b c ≤ 4611686018427387904) : mdok a b c = true := by unfold mdok; simp [h, hq]
theorem mdok_no {a b c : Int} (hq : 4611686018427387904 < mdq a b c) : mdok a b c = false := by
  unfold mdok; simp only [decide_eq_false_iff_not]; omega
theorem mdn_no {a b c : Int} (h : mdok a b c = false) : mdn a b c = 0 := by unfold mdn; rw [h]; rfl
theorem mdn_neg {a b c : Int} (h : mdok a b c = true) (hn : neg3 a b c = true) : mdn a b c = -(mdq a b c : Int) := by unfold mdn; rw [h, hn]; rfl
theorem mdn_pos {a b c : Int} (h : mdok a b c = true) (hn : neg3 a b c = false) : mdn a b c = (mdq a b c : Int) := by unfold mdn; rw [h, hn]; rfl

theorem mag_le {n : Int} (h1 : -9223372036854775808 ≤ n) (h2 : n ≤ 9223372036854775807) : mag n ≤ 9223372036854775808 := by unfold mag; omega
theorem mag_pos {n : Int} (h : n ≠ 0) : 0 < mag n := by unfold mag; omega

/-- MulDiv's value: the number, and whether there is one. -/
structure Md (a b c : Int) (n : Int) (ok : Bool) : Prop where
  num : n = mdn a b c
  ok : ok = mdok a b c

theorem md_zero {a b c : Int} (h : c = 0) : Md a b c 0 false := ⟨(mdn_no (mdok_zero h)).symm, (mdok_zero h).symm⟩
theorem md_big {a b c : Int} (hq : 4611686018427387904 < mdq a b c) : Md a b c 0 false := ⟨(mdn_no (mdok_no hq)).symm, (mdok_no hq).symm⟩
theorem md_neg {a b c : Int} {q : Int} (h : c ≠ 0) (he : q = (mdq a b c : Int)) (hq : q ≤ 4611686018427387904) (hn : neg3 a b c = true) : Md a b c (-q) true := by
  have h2 := mdok_yes (a := a) (b := b) h (by omega)
  exact ⟨by rw [mdn_neg h2 hn, he], h2.symm⟩
theorem md_pos {a b c : Int} {q : Int} (h : c ≠ 0) (he : q = (mdq a b c : Int)) (hq : q ≤ 4611686018427387904) (hn : neg3 a b c = false) : Md a b c q true := by
  have h2 := mdok_yes (a := a) (b := b) h (by omega)
  exact ⟨by rw [mdn_pos h2 hn, he], h2.symm⟩

/-- The value of MulDiv's answer. -/
def mdv (a b c : Int) : Vl := if mdok a b c then of (mdn a b c) else none
def mul (a b : Vl) : Vl := if num a && num b then mdv a.n b.n 1000000 else none
def div (a b : Vl) : Vl := if num a && num b then mdv a.n 1000000 b.n else none
theorem mdv_yes {a b c : Int} (h : mdok a b c = true) : mdv a b c = of (mdn a b c) := by unfold mdv; rw [if_pos h]
theorem mdv_no {a b c : Int} (h : mdok a b c = false) : mdv a b c = none := by unfold mdv; rw [if_neg (by simp [h])]
theorem mul_yes {a b : Vl} (h1 : num a = true) (h2 : num b = true) : mul a b = mdv a.n b.n 1000000 := by unfold mul; simp [h1, h2]
theorem mul_no1 {a b : Vl} (h1 : num a = false) : mul a b = none := by unfold mul; simp [h1]
theorem mul_no2 {a b : Vl} (h2 : num b = false) : mul a b = none := by unfold mul; simp [h2]
theorem div_yes {a b : Vl} (h1 : num a = true) (h2 : num b = true) : div a b = mdv a.n 1000000 b.n := by unfold div; simp [h1, h2]
theorem div_no1 {a b : Vl} (h1 : num a = false) : div a b = none := by unfold div; simp [h1]
theorem div_no2 {a b : Vl} (h2 : num b = false) : div a b = none := by unfold div; simp [h2]

/-- What the library's two steps (the product's words, then their division) come to. -/
theorem words (p d : Nat) (hd : d ≤ p / 18446744073709551616) (h0 : 0 < d) : 18446744073709551616 ≤ p / d := by
  rw [Nat.le_div_iff_mul_le h0]
  have := Nat.div_mul_le_self p 18446744073709551616
  omega
theorem whole (p : Nat) : p / 18446744073709551616 * 18446744073709551616 + p % 18446744073709551616 = p := by omega

/-- Bit by bit: N's bits from number i + 1 on (i from 127 down to -1), by d. -/
structure Rm (N d : Nat) (i : Int) (q r : Int) (o : Bool) : Prop where
  lo : -1 ≤ i
  hi : i ≤ 127
  q0 : 0 ≤ q
  q1 : q ≤ 18446744073709551615
  rest : r = ((N / 2 ^ (i + 1).toNat % d : Nat) : Int)
  quot : if o then 9223372036854775808 ≤ N / 2 ^ (i + 1).toNat / d else q = ((N / 2 ^ (i + 1).toNat / d : Nat) : Int) ∧ q ≤ 9223372036854775807

theorem half_bit (N k : Nat) : N / 2 ^ k = 2 * (N / 2 ^ (k + 1)) + N / 2 ^ k % 2 := by
  rw [Nat.pow_succ, ← Nat.div_div_eq_div_mul]; omega

/-- One more bit. -/
theorem next_bit (A d β : Nat) (hd : 0 < d) (hβ : β < 2) :
    (if d ≤ 2 * (A % d) + β then (2 * A + β) % d = 2 * (A % d) + β - d ∧ (2 * A + β) / d = 2 * (A / d) + 1 else (2 * A + β) % d = 2 * (A % d) + β ∧ (2 * A + β) / d = 2 * (A / d)) := by
  have h := Nat.div_add_mod A d
  have hm := Nat.mod_lt A hd
  have e : 2 * A + β = (2 * (A % d) + β) + d * (2 * (A / d)) := by
    rw [Nat.mul_left_comm]
    generalize d * (A / d) = x at *
    omega
  rw [e, Nat.add_mul_mod_self_left, Nat.add_mul_div_left _ _ hd]
  split
  · rename_i hc
    have e2 : 2 * (A % d) + β = (2 * (A % d) + β - d) + d * 1 := by omega
    rw [e2, Nat.add_mul_mod_self_left, Nat.add_mul_div_left _ _ hd, Nat.mod_eq_of_lt (by omega), Nat.div_eq_of_lt (by omega)]
    omega
  · rename_i hc
    rw [Nat.mod_eq_of_lt (by omega), Nat.div_eq_of_lt (by omega)]
    omega

theorem rm_start (N d : Nat) (h : N < 340282366920938463463374607431768211456) : Rm N d 127 0 0 false := by
  have e : N / 2 ^ (127 + 1 : Int).toNat = 0 := by
    apply Nat.div_eq_of_lt
    show N < 2 ^ 128
    omega
  refine ⟨by omega, by omega, by omega, by omega, ?_, ?_⟩
  · rw [e, Nat.zero_mod]; rfl
  · rw [e, Nat.zero_div]; exact ⟨rfl, by omega⟩

theorem rm_rest {N d : Nat} {i q r : Int} {o : Bool} (h : Rm N d i q r o) (hd : 0 < d) : 0 ≤ r ∧ r < d := by
  rw [h.rest]
  have := Nat.mod_lt (N / 2 ^ (i + 1).toNat) hd
  omega

/-- A turn. -/
theorem rm_step {N d : Nat} {i q r : Int} {o : Bool} (h : Rm N d i q r o) (hi : 0 ≤ i) (hd : 0 < d) (β : Nat) (hβ : β = N / 2 ^ i.toNat % 2) (q2 : Int) (hq2 : q2 = q * 2 % 18446744073709551616) (s : Int) (hs : s = r * 2 + β) (o2 : Bool) (ho : o2 = (o || decide (4611686018427387904 ≤ q))) :
    ((d : Int) ≤ s → Rm N d (i - 1) (q2 + 1) (s - d) o2) ∧ (s < (d : Int) → Rm N d (i - 1) q2 s o2) := by
  obtain ⟨lo, hi2, q0, q1, hr, hq⟩ := h
  obtain ⟨k, rfl⟩ := Int.eq_ofNat_of_zero_le hi
  have e1 : ((k : Int) + 1).toNat = k + 1 := by omega
  have e2 : ((k : Int) - 1 + 1).toNat = k := by omega
  have hb := half_bit N k
  rw [Int.toNat_natCast] at hβ
  rw [← hβ] at hb
  rw [e1] at hr hq
  have hβ2 : β < 2 := by omega
  have hn := next_bit (N / 2 ^ (k + 1)) d β hd hβ2
  rw [← hb] at hn
  have hm := Nat.mod_lt (N / 2 ^ (k + 1)) hd
  have quot : ∀ δ : Nat, δ < 2 → N / 2 ^ k / d = 2 * (N / 2 ^ (k + 1) / d) + δ → (if o2 = true then 9223372036854775808 ≤ N / 2 ^ k / d else q2 + δ = ((N / 2 ^ k / d : Nat) : Int) ∧ q2 + δ ≤ 9223372036854775807) := by
    intro δ hδ hQ
    rw [hQ]
    generalize N / 2 ^ (k + 1) / d = Q at *
    cases o with
    | true =>
      rw [if_pos rfl] at hq
      rw [ho, Bool.true_or, if_pos rfl]
      omega
    | false =>
      rw [if_neg (by simp)] at hq
      rw [ho, Bool.false_or]
      by_cases hc : 4611686018427387904 ≤ q
      · rw [if_pos (by simpa using hc)]
        omega
      · rw [if_neg (by simpa using hc)]
        omega
  have q2b : 0 ≤ q2 ∧ q2 ≤ 18446744073709551614 := by omega
  constructor
  · intro hds
    rw [if_pos (by omega)] at hn
    refine ⟨by omega, by omega, by omega, by omega, ?_, ?_⟩
    · rw [e2, hn.1]; omega
    · rw [e2]; exact quot 1 (by omega) hn.2
  · intro hds
    rw [if_neg (by omega)] at hn
    refine ⟨by omega, by omega, by omega, by omega, ?_, ?_⟩
    · rw [e2, hn.1]; omega
    · rw [e2]; have := quot 0 (by omega) (by rw [hn.2]; rfl); rw [Int.natCast_zero, Int.add_zero] at this; exact this

/-- Behind the last turn. -/
theorem rm_end {N d : Nat} {i q r : Int} {o : Bool} (h : Rm N d i q r o) (hi : i < 0) : r = ((N % d : Nat) : Int) ∧ (o = true → 9223372036854775808 ≤ N / d) ∧ (o = false → q = ((N / d : Nat) : Int) ∧ q ≤ 9223372036854775807) := by
  obtain ⟨lo, hi2, q0, q1, hr, hq⟩ := h
  have e : (i + 1).toNat = 0 := by omega
  rw [e, Nat.pow_zero, Nat.div_one] at hr hq
  refine ⟨hr, fun ho => ?_, fun ho => ?_⟩
  · rw [if_pos ho] at hq; exact hq
  · rw [if_neg (by simp [ho])] at hq; exact hq

theorem bit_low (N m : Nat) (hm : m < 64) : N % 18446744073709551616 / 2 ^ m % 2 = N / 2 ^ m % 2 := by
  have e : (18446744073709551616 : Nat) = 2 ^ m * 2 ^ (64 - m) := by rw [← Nat.pow_add, show m + (64 - m) = 64 by omega]
  rw [e, Nat.mod_mul_right_div_self]
  have e3 : 64 - m = (63 - m) + 1 := by omega
  rw [e3, Nat.pow_succ, Nat.mod_mul_left_mod]
theorem bit_high (N m : Nat) : N / 18446744073709551616 / 2 ^ m % 2 = N / 2 ^ (64 + m) % 2 := by
  rw [Nat.div_div_eq_div_mul, Nat.pow_add]

theorem halves_q (a q c r : Int) (h : q * c + r = a) (hc : 1 ≤ c) (hr0 : 0 ≤ r) (hr : r < c) :
    (0 ≤ a → (rnd (mag a) (mag c) : Int) = if c ≤ 2 * r then q + 1 else q) ∧ (a < 0 → (rnd (mag a) (mag c) : Int) = if 2 * r ≤ c then -q else -q - 1) := by
  obtain ⟨C, rfl⟩ := Int.eq_ofNat_of_zero_le (show 0 ≤ c by omega)
  obtain ⟨R, rfl⟩ := Int.eq_ofNat_of_zero_le hr0
  have hmc : mag (C : Int) = C := by unfold mag; omega
  rw [hmc]
  have hC : 0 < C := by omega
  constructor
  · intro ha
    have hq : 0 ≤ q := by
      apply Int.not_lt.1
      intro hq
      have := Int.mul_le_mul_of_nonneg_right (show q ≤ -1 by omega) (show (0 : Int) ≤ (C : Int) by omega)
      omega
    obtain ⟨Q, rfl⟩ := Int.eq_ofNat_of_zero_le hq
    have hA : mag a = R + C * Q := by
      unfold mag; rw [← h, ← Int.natCast_mul, ← Int.natCast_add, Int.natAbs_natCast, Nat.mul_comm, Nat.add_comm]
    have hd : mag a / C = Q := by rw [hA, Nat.add_mul_div_left _ _ hC, Nat.div_eq_of_lt (by omega)]; omega
    have hm : mag a % C = R := by rw [hA, Nat.add_mul_mod_self_left, Nat.mod_eq_of_lt (by omega)]
    unfold rnd
    rw [hd, hm]
    by_cases h2 : C ≤ 2 * R
    · rw [if_pos h2, if_pos (by omega)]; omega
    · rw [if_neg h2, if_neg (by omega)]
  · intro ha
    have hq : q ≤ -1 := by
      apply Int.not_lt.1
      intro hq
      have := Int.mul_nonneg (show 0 ≤ q by omega) (show (0 : Int) ≤ (C : Int) by omega)
      omega
    by_cases hR : R = 0
    · subst hR
      obtain ⟨Q, hQ⟩ := Int.eq_ofNat_of_zero_le (show 0 ≤ -q by omega)
      have hA : mag a = C * Q := by
        unfold mag
        have : a = -((C * Q : Nat) : Int) := by rw [Int.natCast_mul, ← hQ, ← h, Int.mul_neg, Int.neg_neg, Int.mul_comm]; omega
        rw [this, Int.natAbs_neg, Int.natAbs_natCast]
      have hd : mag a / C = Q := by rw [hA, Nat.mul_div_cancel_left _ hC]
      have hm : mag a % C = 0 := by rw [hA, Nat.mul_mod_right]
      unfold rnd
      rw [hd, hm, if_neg (by omega), if_pos (by omega)]
      omega
    · obtain ⟨Q, hQ⟩ := Int.eq_ofNat_of_zero_le (show 0 ≤ -q - 1 by omega)
      have hA : mag a = (C - R) + C * Q := by
        have e : ((C - R + C * Q : Nat) : Int) = -a := by
          have hx : (C : Int) * (Q : Int) = -(q * C) - C := by rw [← hQ, Int.mul_sub, Int.mul_neg, Int.mul_comm q]; omega
          rw [Int.natCast_add, Int.natCast_mul, hx]; omega
        unfold mag
        have : a = -((C - R + C * Q : Nat) : Int) := by omega
        rw [this, Int.natAbs_neg, Int.natAbs_natCast]
      have hd : mag a / C = Q := by rw [hA, Nat.add_mul_div_left _ _ hC, Nat.div_eq_of_lt (by omega)]; omega
      have hm : mag a % C = C - R := by rw [hA, Nat.add_mul_mod_self_left, Nat.mod_eq_of_lt (by omega)]
      unfold rnd
      rw [hd, hm]
      by_cases h2 : C ≤ 2 * (C - R)
      · rw [if_pos h2, if_pos (by omega)]; omega
      · rw [if_neg h2, if_neg (by omega)]; omega

/-- What FixedHalves asks, of both calls. -/
theorem halves (a q c r w : Int) (h : q * c + r = a) (hc : 1 ≤ c) (hr0 : 0 ≤ r) (hr : r < c) (hq1 : -1073741824 ≤ q) (hq2 : q ≤ 1073741824)
    (hw : w = if c < 2 * r ∨ (2 * r = c ∧ 0 < a) then q + 1 else q) :
    (mdn a 1 c = w ∧ mdok a 1 c = true) ∧ (mdn 1 (-a) (-c) = w ∧ mdok 1 (-a) (-c) = true) := by
  obtain ⟨h1, h2⟩ := halves_q a q c r h hc hr0 hr
  have m1 : mag 1 = 1 := rfl
  have ma : mag (-a) = mag a := by unfold mag; omega
  have mc : mag (-c) = mag c := by unfold mag; omega
  have e1 : mdq a 1 c = rnd (mag a) (mag c) := by unfold mdq; rw [m1, Nat.mul_one]
  have e2 : mdq 1 (-a) (-c) = rnd (mag a) (mag c) := by unfold mdq; rw [m1, Nat.one_mul, ma, mc]
  have hb : (rnd (mag a) (mag c) : Int) ≤ 1073741825 := by
    by_cases ha : 0 ≤ a
    · rw [h1 ha]; split <;> omega
    · rw [h2 (by omega)]; split <;> omega
  have o1 := mdok_yes (a := a) (b := 1) (c := c) (by omega) (by rw [e1]; omega)
  have o2 := mdok_yes (a := 1) (b := -a) (c := -c) (by omega) (by rw [e2]; omega)
  refine ⟨⟨?_, o1⟩, ?_, o2⟩
  · by_cases ha : 0 ≤ a
    · rw [mdn_pos o1 (by unfold neg3; rw [show decide (a < 0) = false by simp; omega, show decide (c < 0) = false by simp; omega]; rfl), e1, h1 ha, hw]
      by_cases hz : a = 0
      · have hq0 : q = 0 ∧ r = 0 := by
          have hqq : q = 0 := by
            by_cases hq : 1 ≤ q
            · have := Int.mul_le_mul_of_nonneg_right hq (show (0 : Int) ≤ c by omega)
              omega
            · by_cases hq' : q ≤ -1
              · have := Int.mul_le_mul_of_nonneg_right hq' (show (0 : Int) ≤ c by omega)
                omega
              · omega
          rw [hqq, Int.zero_mul] at h
          omega
        rw [if_neg (by omega), if_neg (by omega)]
      · by_cases h3 : c ≤ 2 * r
        · rw [if_pos h3, if_pos (by omega)]
        · rw [if_neg h3, if_neg (by omega)]
    · rw [mdn_neg o1 (by unfold neg3; rw [show decide (a < 0) = true by simp; omega, show decide (c < 0) = false by simp; omega]; rfl), e1, h2 (by omega), hw]
      by_cases h3 : 2 * r ≤ c
      · rw [if_pos h3, if_neg (by omega)]; omega
      · rw [if_neg h3, if_pos (by omega)]; omega
  · by_cases ha : 0 < a
    · rw [mdn_pos o2 (by unfold neg3; rw [show decide (-a < 0) = true by simp; omega, show decide (-c < 0) = true by simp; omega]; rfl), e2, h1 (by omega), hw]
      by_cases h3 : c ≤ 2 * r
      · rw [if_pos h3, if_pos (by omega)]
      · rw [if_neg h3, if_neg (by omega)]
    · rw [mdn_neg o2 (by unfold neg3; rw [show decide (-a < 0) = false by simp; omega, show decide (-c < 0) = true by simp; omega]; rfl), e2, hw]
      by_cases hz : a = 0
      · have hq0 : q = 0 ∧ r = 0 := by
          have hqq : q = 0 := by
            by_cases hq : 1 ≤ q
            · have := Int.mul_le_mul_of_nonneg_right hq (show (0 : Int) ≤ c by omega)
              omega
            · by_cases hq' : q ≤ -1
              · have := Int.mul_le_mul_of_nonneg_right hq' (show (0 : Int) ≤ c by omega)
                omega
              · omega
          rw [hqq, Int.zero_mul] at h
          omega
        rw [h1 (by omega), if_neg (by omega), if_neg (by omega)]; omega
      · rw [h2 (by omega)]
        by_cases h3 : 2 * r ≤ c
        · rw [if_pos h3, if_neg (by omega)]; omega
        · rw [if_neg h3, if_pos (by omega)]; omega
end Fx
end Go.Proofs.Ytjaclmhfagdfhaa
