/-
  FxMdPure: THE PLAIN MATHEMATICS of MulDiv: the product by a third number, to the nearest, halves away from 0; and the same bit by bit.
  AgPure: THE PLAIN MATHEMATICS of agg: many values as one, in five ways; whether enough are known; what lies between; turned around.
  WpPure: THE PLAIN STATE of chapter 7: what is in a file of files that are known, and what is written there; as the document says it. No program is named here.
  VrMake: CONTRACTS: the document's own files as an object: Create.
  WpRO: THE DOCUMENT's FILES AS AN OBJECT, among blocks that are to stay: what each of its functions does to it.
  WhSide: CONTRACTS: the document's archives: which may follow which.
  WhMay: CONTRACTS: the document's own headers: which may be.
  WhRef: CONTRACTS: the document's own headers: which may be, any; their sizes, places, spans.
  AgRow: ROWS OF VALUES: what a slice of Vals holds, as a list; a row of the call's own; a row of Vals that comes in.
  WpAt: CONTRACTS: chapter 7, the document's file: where a slot stands.
  WpVal: CONTRACTS: chapter 7, the document's file: the value that a slot has of a time.
  WpWr: CONTRACTS: chapter 7, the document's file: a slot is written.
  AgKn: CONTRACTS: those of a row that are known, on both sides.
-/
import Derived.Test.YtbakngbmfgnmcaaDoorJ2
import Derived.Test.YtbakngbmfgnmcaaDoorJ6
import Derived.Test.YtbakngbmfgnmcaaDoorJ1
import Derived.Test.YtbakngbmfgnmcaaDoorJ4
import Derived.Test.YtbakngbmfgnmcaaDoorJ5
import Derived.Test.YtbakngbmfgnmcaaDoorJ3
import Derived.Test.YtbakngbmfgnmcaaDoorRows
import Derived.WalkKit
import Derived.WalkSpells
import Derived.WalkLawsBesides
import Derived.Deep.QuietTactic
import Derived.BigQuiet
import Derived.Lib.QuietBelow
import Derived.Lib.Hide
import Derived.IntWalk
import Derived.Deep.RegionHeld3
import Derived.Laws.MakeOwn

namespace Go.Proofs.YtbakngbmfgnmcaaDoor
namespace Fx

/-- To the nearest, halves up. -/
def rnd (p d : Nat) : Nat := if d ≤ 2 * (p % d) then p / d + 1 else p / d
def mdq (a b c : Int) : Nat := rnd (mag a * mag b) (mag c)
def mdok (a b c : Int) : Bool := decide (c ≠ 0 ∧ mdq a b c ≤ 4611686018427387904)
def neg3 (a b c : Int) : Bool := ((decide (a < 0) != decide (b < 0)) != decide (c < 0))
def mdn (a b c : Int) : Int := if mdok a b c then (if neg3 a b c then -(mdq a b c : Int) else (mdq a b c : Int)) else 0

theorem rnd_up {p d : Nat} (h : d ≤ 2 * (p % d)) : rnd p d = p / d + 1 := by unfold rnd; rw [if_pos h]
theorem rnd_down {p d : Nat} (h : 2 * (p % d) < d) : rnd p d = p / d := by unfold rnd; rw [if_neg (by omega)]
theorem rnd_ge (p d : Nat) : p / d ≤ rnd p d := by unfold rnd; split <;> omega

theorem mdok_zero {a b c : Int} (h : c = 0) : mdok a b c = false := by unfold mdok; simp [h]
theorem mdok_yes {a b c : Int} (h : c ≠ 0) (hq : mdq a b c ≤ 4611686018427387904) : mdok a b c = true := by unfold mdok; simp [h, hq]
theorem mdok_no {a b c : Int} (hq : 4611686018427387904 < mdq a b c) : mdok a b c = false := by
  unfold mdok; simp only [decide_eq_false_iff_not]; omega
theorem mdn_no {a b c : Int} (h : mdok a b c = false) : mdn a b c = 0 := by unfold mdn; rw [h]; rfl
theorem mdn_neg {a b c : Int} (h : mdok a b c = true) (hn : neg3 a b c = true) : mdn a b c = -(mdq a b c : Int) := by unfold mdn; rw [h, hn]; rfl
theorem mdn_pos {a b c : Int} (h : mdok a b c = true) (hn : neg3 a b c = false) : mdn a b c = (mdq a b c : Int) := by unfold mdn; rw [h, hn]; rfl

theorem mag_le {n : Int} (h1 : -9223372036854775808 ≤ n) (h2 : n ≤ 9223372036854775807) : mag n ≤ 9223372036854775808 := by unfold mag; omega
theorem mag_pos {n : Int} (h : n ≠ 0) : 0 < mag n := by unfold mag; omega

/-- MulDiv's value: the number, and whether there is one. -/
structure Md (a b c : Int) (n : Int) (ok : Bool) : Prop where
  num : n = mdn a b c
  ok : ok = mdok a b c

theorem md_zero {a b c : Int} (h : c = 0) : Md a b c 0 false := ⟨(mdn_no (mdok_zero h)).symm, (mdok_zero h).symm⟩
theorem md_big {a b c : Int} (hq : 4611686018427387904 < mdq a b c) : Md a b c 0 false := ⟨(mdn_no (mdok_no hq)).symm, (mdok_no hq).symm⟩
theorem md_neg {a b c : Int} {q : Int} (h : c ≠ 0) (he : q = (mdq a b c : Int)) (hq : q ≤ 4611686018427387904) (hn : neg3 a b c = true) : Md a b c (-q) true := by
  have h2 := mdok_yes (a := a) (b := b) h (by omega)
  exact ⟨by rw [mdn_neg h2 hn, he], h2.symm⟩
theorem md_pos {a b c : Int} {q : Int} (h : c ≠ 0) (he : q = (mdq a b c : Int)) (hq : q ≤ 4611686018427387904) (hn : neg3 a b c = false) : Md a b c q true := by
  have h2 := mdok_yes (a := a) (b := b) h (by omega)
  exact ⟨by rw [mdn_pos h2 hn, he], h2.symm⟩

/-- The value of MulDiv's answer. -/
def mdv (a b c : Int) : Vl := if mdok a b c then of (mdn a b c) else none
def mul (a b : Vl) : Vl := if num a && num b then mdv a.n b.n 1000000 else none
def div (a b : Vl) : Vl := if num a && num b then mdv a.n 1000000 b.n else none
theorem mdv_yes {a b c : Int} (h : mdok a b c = true) : mdv a b c = of (mdn a b c) := by unfold mdv; rw [if_pos h]
theorem mdv_no {a b c : Int} (h : mdok a b c = false) : mdv a b c = none := by unfold mdv; rw [if_neg (by simp [h])]
theorem mul_yes {a b : Vl} (h1 : num a = true) (h2 : num b = true) : mul a b = mdv a.n b.n 1000000 := by unfold mul; simp [h1, h2]
theorem mul_no1 {a b : Vl} (h1 : num a = false) : mul a b = none := by unfold mul; simp [h1]
theorem mul_no2 {a b : Vl} (h2 : num b = false) : mul a b = none := by unfold mul; simp [h2]
theorem div_yes {a b : Vl} (h1 : num a = true) (h2 : num b = true) : div a b = mdv a.n 1000000 b.n := by unfold div; simp [h1, h2]
theorem div_no1 {a b : Vl} (h1 : num a = false) : div a b = none := by unfold div; simp [h1]
theorem div_no2 {a b : Vl} (h2 : num b = false) : div a b = none := by unfold div; simp [h2]

/-- What the library's two steps (the product's words, then their division) come to. -/
theorem words (p d : Nat) (hd : d ≤ p / 18446744073709551616) (h0 : 0 < d) : 18446744073709551616 ≤ p / d := by
  rw [Nat.le_div_iff_mul_le h0]
  have := Nat.div_mul_le_self p 18446744073709551616
  omega
theorem whole (p : Nat) : p / 18446744073709551616 * 18446744073709551616 + p % 18446744073709551616 = p := by omega

/-- Bit by bit: N's bits from number i + 1 on (i from 127 down to -1), by d. -/
structure Rm (N d : Nat) (i : Int) (q r : Int) (o : Bool) : Prop where
  lo : -1 ≤ i
  hi : i ≤ 127
  q0 : 0 ≤ q
  q1 : q ≤ 18446744073709551615
  rest : r = ((N / 2 ^ (i + 1).toNat % d : Nat) : Int)
  quot : if o then 9223372036854775808 ≤ N / 2 ^ (i + 1).toNat / d else q = ((N / 2 ^ (i + 1).toNat / d : Nat) : Int) ∧ q ≤ 9223372036854775807

theorem half_bit (N k : Nat) : N / 2 ^ k = 2 * (N / 2 ^ (k + 1)) + N / 2 ^ k % 2 := by
  rw [Nat.pow_succ, ← Nat.div_div_eq_div_mul]; omega

/-- One more bit. -/
theorem next_bit (A d β : Nat) (hd : 0 < d) (hβ : β < 2) :
    (if d ≤ 2 * (A % d) + β then (2 * A + β) % d = 2 * (A % d) + β - d ∧ (2 * A + β) / d = 2 * (A / d) + 1 else (2 * A + β) % d = 2 * (A % d) + β ∧ (2 * A + β) / d = 2 * (A / d)) := by
  have h := Nat.div_add_mod A d
  have hm := Nat.mod_lt A hd
  have e : 2 * A + β = (2 * (A % d) + β) + d * (2 * (A / d)) := by
    rw [Nat.mul_left_comm]
    generalize d * (A / d) = x at *
    omega
  rw [e, Nat.add_mul_mod_self_left, Nat.add_mul_div_left _ _ hd]
  split
  · rename_i hc
    have e2 : 2 * (A % d) + β = (2 * (A % d) + β - d) + d * 1 := by omega
    rw [e2, Nat.add_mul_mod_self_left, Nat.add_mul_div_left _ _ hd, Nat.mod_eq_of_lt (by omega), Nat.div_eq_of_lt (by omega)]
    omega
  · rename_i hc
    rw [Nat.mod_eq_of_lt (by omega), Nat.div_eq_of_lt (by omega)]
    omega

theorem rm_start (N d : Nat) (h : N < 340282366920938463463374607431768211456) : Rm N d 127 0 0 false := by
  have e : N / 2 ^ (127 + 1 : Int).toNat = 0 := by
    apply Nat.div_eq_of_lt
    show N < 2 ^ 128
    omega
  refine ⟨by omega, by omega, by omega, by omega, ?_, ?_⟩
  · rw [e, Nat.zero_mod]; rfl
  · rw [e, Nat.zero_div]; exact ⟨rfl, by omega⟩

theorem rm_rest {N d : Nat} {i q r : Int} {o : Bool} (h : Rm N d i q r o) (hd : 0 < d) : 0 ≤ r ∧ r < d := by
  rw [h.rest]
  have := Nat.mod_lt (N / 2 ^ (i + 1).toNat) hd
  omega

/-- A turn. -/
theorem rm_step {N d : Nat} {i q r : Int} {o : Bool} (h : Rm N d i q r o) (hi : 0 ≤ i) (hd : 0 < d) (β : Nat) (hβ : β = N / 2 ^ i.toNat % 2) (q2 : Int) (hq2 : q2 = q * 2 % 18446744073709551616) (s : Int) (hs : s = r * 2 + β) (o2 : Bool) (ho : o2 = (o || decide (4611686018427387904 ≤ q))) :
    ((d : Int) ≤ s → Rm N d (i - 1) (q2 + 1) (s - d) o2) ∧ (s < (d : Int) → Rm N d (i - 1) q2 s o2) := by
  obtain ⟨lo, hi2, q0, q1, hr, hq⟩ := h
  obtain ⟨k, rfl⟩ := Int.eq_ofNat_of_zero_le hi
  have e1 : ((k : Int) + 1).toNat = k + 1 := by omega
  have e2 : ((k : Int) - 1 + 1).toNat = k := by omega
  have hb := half_bit N k
  rw [Int.toNat_natCast] at hβ
  rw [← hβ] at hb
  rw [e1] at hr hq
  have hβ2 : β < 2 := by omega
  have hn := next_bit (N / 2 ^ (k + 1)) d β hd hβ2
  rw [← hb] at hn
  have hm := Nat.mod_lt (N / 2 ^ (k + 1)) hd
  have quot : ∀ δ : Nat, δ < 2 → N / 2 ^ k / d = 2 * (N / 2 ^ (k + 1) / d) + δ → (if o2 = true then 9223372036854775808 ≤ N / 2 ^ k / d else q2 + δ = ((N / 2 ^ k / d : Nat) : Int) ∧ q2 + δ ≤ 9223372036854775807) := by
    intro δ hδ hQ
    rw [hQ]
    generalize N / 2 ^ (k + 1) / d = Q at *
    cases o with
    | true =>
      rw [if_pos rfl] at hq
      rw [ho, Bool.true_or, if_pos rfl]
      omega
    | false =>
      rw [if_neg (by simp)] at hq
      rw [ho, Bool.false_or]
      by_cases hc : 4611686018427387904 ≤ q
      · rw [if_pos (by simpa using hc)]
        omega
      · rw [if_neg (by simpa using hc)]
        omega
  have q2b : 0 ≤ q2 ∧ q2 ≤ 18446744073709551614 := by omega
  constructor
  · intro hds
    rw [if_pos (by omega)] at hn
    refine ⟨by omega, by omega, by omega, by omega, ?_, ?_⟩
    · rw [e2, hn.1]; omega
    · rw [e2]; exact quot 1 (by omega) hn.2
  · intro hds
    rw [if_neg (by omega)] at hn
    refine ⟨by omega, by omega, by omega, by omega, ?_, ?_⟩
    · rw [e2, hn.1]; omega
    · rw [e2]; have := quot 0 (by omega) (by rw [hn.2]; rfl); rw [Int.natCast_zero, Int.add_zero] at this; exact this

/-- Behind the last turn. -/
theorem rm_end {N d : Nat} {i q r : Int} {o : Bool} (h : Rm N d i q r o) (hi : i < 0) : r = ((N % d : Nat) : Int) ∧ (o = true → 9223372036854775808 ≤ N / d) ∧ (o = false → q = ((N / d : Nat) : Int) ∧ q ≤ 9223372036854775807) := by
  obtain ⟨lo, hi2, q0, q1, hr, hq⟩ := h
  have e : (i + 1).toNat = 0 := by omega
  rw [e, Nat.pow_zero, Nat.div_one] at hr hq
  refine ⟨hr, fun ho => ?_, fun ho => ?_⟩
  · rw [if_pos ho] at hq; exact hq
  · rw [if_neg (by simp [ho])] at hq; exact hq

theorem bit_low (N m : Nat) (hm : m < 64) : N % 18446744073709551616 / 2 ^ m % 2 = N / 2 ^ m % 2 := by
  have e : (18446744073709551616 : Nat) = 2 ^ m * 2 ^ (64 - m) := by rw [← Nat.pow_add, show m + (64 - m) = 64 by omega]
  rw [e, Nat.mod_mul_right_div_self]
  have e3 : 64 - m = (63 - m) + 1 := by omega
  rw [e3, Nat.pow_succ, Nat.mod_mul_left_mod]
theorem bit_high (N m : Nat) : N / 18446744073709551616 / 2 ^ m % 2 = N / 2 ^ (64 + m) % 2 := by
  rw [Nat.div_div_eq_div_mul, Nat.pow_add]

theorem halves_q (a q c r : Int) (h : q * c + r = a) (hc : 1 ≤ c) (hr0 : 0 ≤ r) (hr : r < c) :
    (0 ≤ a → (rnd (mag a) (mag c) : Int) = if c ≤ 2 * r then q + 1 else q) ∧ (a < 0 → (rnd (mag a) (mag c) : Int) = if 2 * r ≤ c then -q else -q - 1) := by
  obtain ⟨C, rfl⟩ := Int.eq_ofNat_of_zero_le (show 0 ≤ c by omega)
  obtain ⟨R, rfl⟩ := Int.eq_ofNat_of_zero_le hr0
  have hmc : mag (C : Int) = C := by unfold mag; omega
  rw [hmc]
  have hC : 0 < C := by omega
  constructor
  · intro ha
    have hq : 0 ≤ q := by
      apply Int.not_lt.1
      intro hq
      have := Int.mul_le_mul_of_nonneg_right (show q ≤ -1 by omega) (show (0 : Int) ≤ (C : Int) by omega)
      omega
    obtain ⟨Q, rfl⟩ := Int.eq_ofNat_of_zero_le hq
    have hA : mag a = R + C * Q := by
      unfold mag; rw [← h, ← Int.natCast_mul, ← Int.natCast_add, Int.natAbs_natCast, Nat.mul_comm, Nat.add_comm]
    have hd : mag a / C = Q := by rw [hA, Nat.add_mul_div_left _ _ hC, Nat.div_eq_of_lt (by omega)]; omega
    have hm : mag a % C = R := by rw [hA, Nat.add_mul_mod_self_left, Nat.mod_eq_of_lt (by omega)]
    unfold rnd
    rw [hd, hm]
    by_cases h2 : C ≤ 2 * R
    · rw [if_pos h2, if_pos (by omega)]; omega
    · rw [if_neg h2, if_neg (by omega)]
  · intro ha
    have hq : q ≤ -1 := by
      apply Int.not_lt.1
      intro hq
      have := Int.mul_nonneg (show 0 ≤ q by omega) (show (0 : Int) ≤ (C : Int) by omega)
      omega
    by_cases hR : R = 0
    · subst hR
      obtain ⟨Q, hQ⟩ := Int.eq_ofNat_of_zero_le (show 0 ≤ -q by omega)
      have hA : mag a = C * Q := by
        unfold mag
        have : a = -((C * Q : Nat) : Int) := by rw [Int.natCast_mul, ← hQ, ← h, Int.mul_neg, Int.neg_neg, Int.mul_comm]; omega
        rw [this, Int.natAbs_neg, Int.natAbs_natCast]
      have hd : mag a / C = Q := by rw [hA, Nat.mul_div_cancel_left _ hC]
      have hm : mag a % C = 0 := by rw [hA, Nat.mul_mod_right]
      unfold rnd
      rw [hd, hm, if_neg (by omega), if_pos (by omega)]
      omega
    · obtain ⟨Q, hQ⟩ := Int.eq_ofNat_of_zero_le (show 0 ≤ -q - 1 by omega)
      have hA : mag a = (C - R) + C * Q := by
        have e : ((C - R + C * Q : Nat) : Int) = -a := by
          have hx : (C : Int) * (Q : Int) = -(q * C) - C := by rw [← hQ, Int.mul_sub, Int.mul_neg, Int.mul_comm q]; omega
          rw [Int.natCast_add, Int.natCast_mul, hx]; omega
        unfold mag
        have : a = -((C - R + C * Q : Nat) : Int) := by omega
        rw [this, Int.natAbs_neg, Int.natAbs_natCast]
      have hd : mag a / C = Q := by rw [hA, Nat.add_mul_div_left _ _ hC, Nat.div_eq_of_lt (by omega)]; omega
      have hm : mag a % C = C - R := by rw [hA, Nat.add_mul_mod_self_left, Nat.mod_eq_of_lt (by omega)]
      unfold rnd
      rw [hd, hm]
      by_cases h2 : C ≤ 2 * (C - R)
      · rw [if_pos h2, if_pos (by omega)]; omega
      · rw [if_neg h2, if_neg (by omega)]; omega

/-- What FixedHalves asks, of both calls. -/
theorem halves (a q c r w : Int) (h : q * c + r = a) (hc : 1 ≤ c) (hr0 : 0 ≤ r) (hr : r < c) (hq1 : -1073741824 ≤ q) (hq2 : q ≤ 1073741824)
    (hw : w = if c < 2 * r ∨ (2 * r = c ∧ 0 < a) then q + 1 else q) :
    (mdn a 1 c = w ∧ mdok a 1 c = true) ∧ (mdn 1 (-a) (-c) = w ∧ mdok 1 (-a) (-c) = true) := by
  obtain ⟨h1, h2⟩ := halves_q a q c r h hc hr0 hr
  have m1 : mag 1 = 1 := rfl
  have ma : mag (-a) = mag a := by unfold mag; omega
  have mc : mag (-c) = mag c := by unfold mag; omega
  have e1 : mdq a 1 c = rnd (mag a) (mag c) := by unfold mdq; rw [m1, Nat.mul_one]
  have e2 : mdq 1 (-a) (-c) = rnd (mag a) (mag c) := by unfold mdq; rw [m1, Nat.one_mul, ma, mc]
  have hb : (rnd (mag a) (mag c) : Int) ≤ 1073741825 := by
    by_cases ha : 0 ≤ a
    · rw [h1 ha]; split <;> omega
    · rw [h2 (by omega)]; split <;> omega
  have o1 := mdok_yes (a := a) (b := 1) (c := c) (by omega) (by rw [e1]; omega)
  have o2 := mdok_yes (a := 1) (b := -a) (c := -c) (by omega) (by rw [e2]; omega)
  refine ⟨⟨?_, o1⟩, ?_, o2⟩
  · by_cases ha : 0 ≤ a
    · rw [mdn_pos o1 (by unfold neg3; rw [show decide (a < 0) = false by simp; omega, show decide (c < 0) = false by simp; omega]; rfl), e1, h1 ha, hw]
      by_cases hz : a = 0
      · have hq0 : q = 0 ∧ r = 0 := by
          have hqq : q = 0 := by
            by_cases hq : 1 ≤ q
            · have := Int.mul_le_mul_of_nonneg_right hq (show (0 : Int) ≤ c by omega)
              omega
            · by_cases hq' : q ≤ -1
              · have := Int.mul_le_mul_of_nonneg_right hq' (show (0 : Int) ≤ c by omega)
                omega
              · omega
          rw [hqq, Int.zero_mul] at h
          omega
        rw [if_neg (by omega), if_neg (by omega)]
      · by_cases h3 : c ≤ 2 * r
        · rw [if_pos h3, if_pos (by omega)]
        · rw [if_neg h3, if_neg (by omega)]
    · rw [mdn_neg o1 (by unfold neg3; rw [show decide (a < 0) = true by simp; omega, show decide (c < 0) = false by simp; omega]; rfl), e1, h2 (by omega), hw]
      by_cases h3 : 2 * r ≤ c
      · rw [if_pos h3, if_neg (by omega)]; omega
      · rw [if_neg h3, if_pos (by omega)]; omega
  · by_cases ha : 0 < a
    · rw [mdn_pos o2 (by unfold neg3; rw [show decide (-a < 0) = true by simp; omega, show decide (-c < 0) = true by simp; omega]; rfl), e2, h1 (by omega), hw]
      by_cases h3 : c ≤ 2 * r
      · rw [if_pos h3, if_pos (by omega)]
      · rw [if_neg h3, if_neg (by omega)]
    · rw [mdn_neg o2 (by unfold neg3; rw [show decide (-a < 0) = false by simp; omega, show decide (-c < 0) = true by simp; omega]; rfl), e2, hw]
      by_cases hz : a = 0
      · have hq0 : q = 0 ∧ r = 0 := by
          have hqq : q = 0 := by
            by_cases hq : 1 ≤ q
            · have := Int.mul_le_mul_of_nonneg_right hq (show (0 : Int) ≤ c by omega)
              omega
            · by_cases hq' : q ≤ -1
              · have := Int.mul_le_mul_of_nonneg_right hq' (show (0 : Int) ≤ c by omega)
                omega
              · omega
          rw [hqq, Int.zero_mul] at h
          omega
        rw [h1 (by omega), if_neg (by omega), if_neg (by omega)]; omega
      · rw [h2 (by omega)]
        by_cases h3 : 2 * r ≤ c
        · rw [if_pos h3, if_neg (by omega)]; omega
        · rw [if_neg h3, if_pos (by omega)]; omega
end Fx
end Go.Proofs.YtbakngbmfgnmcaaDoor

namespace Go.Proofs.YtbakngbmfgnmcaaDoor
open Go.RowKit
open Fx (Vl)
namespace Ag

/-- Those that are known. -/
def kn (l : List Vl) : List Vl := l.filter Fx.num
theorem kn_take (l : List Vl) (k : Nat) (h : k < l.length) : kn (l.take (k + 1)) = if Fx.num l[k] = true then kn (l.take k) ++ [l[k]] else kn (l.take k) := by
  unfold kn
  rw [List.take_succ_eq_append_getElem h, List.filter_append]
  by_cases hn : Fx.num l[k] = true
  · rw [if_pos hn]; simp [hn]
  · rw [if_neg hn]; simp [hn]
theorem kn_len (l : List Vl) : (kn l).length ≤ l.length := List.length_filter_le _ _
theorem kn_take_len (l : List Vl) (k : Nat) : (kn (l.take k)).length ≤ k := Nat.le_trans (kn_len _) (by rw [List.length_take]; omega)
theorem kn_num (l : List Vl) : ∀ v ∈ kn l, Fx.num v = true := fun _ hv => (List.mem_filter.1 hv).2
theorem kn_mem (l : List Vl) : ∀ v ∈ kn l, v ∈ l := fun _ hv => (List.mem_filter.1 hv).1

def mx1 (a b : Vl) : Vl := if a.n < b.n then b else a
def mn1 (a b : Vl) : Vl := if b.n < a.n then b else a
def mx (l : List Vl) : Vl := match l with | [] => Fx.none | x :: r => r.foldl mx1 x
def mn (l : List Vl) : Vl := match l with | [] => Fx.none | x :: r => r.foldl mn1 x
theorem mx_take (l : List Vl) (k : Nat) (h0 : 0 < k) (h : k < l.length) : mx (l.take (k + 1)) = mx1 (mx (l.take k)) l[k] := by
  rw [List.take_succ_eq_append_getElem h]
  cases hl : l.take k with
  | nil => have := congrArg List.length hl; rw [List.length_take, Nat.min_eq_left (Nat.le_of_lt h)] at this; simp at this; omega
  | cons x r => simp [mx, List.foldl_append]
theorem mn_take (l : List Vl) (k : Nat) (h0 : 0 < k) (h : k < l.length) : mn (l.take (k + 1)) = mn1 (mn (l.take k)) l[k] := by
  rw [List.take_succ_eq_append_getElem h]
  cases hl : l.take k with
  | nil => have := congrArg List.length hl; rw [List.length_take, Nat.min_eq_left (Nat.le_of_lt h)] at this; simp at this; omega
  | cons x r => simp [mn, List.foldl_append]
theorem mx_one (l : List Vl) (h : 0 < l.length) : mx (l.take 1) = l[0] := by cases l with | nil => cases h | cons x r => rfl
theorem mn_one (l : List Vl) (h : 0 < l.length) : mn (l.take 1) = l[0] := by cases l with | nil => cases h | cons x r => rfl
theorem mx1_yes {a b : Vl} (h : a.n < b.n) : mx1 a b = b := if_pos h
theorem mx1_no {a b : Vl} (h : ¬ a.n < b.n) : mx1 a b = a := if_neg h
theorem mn1_yes {a b : Vl} (h : b.n < a.n) : mn1 a b = b := if_pos h
theorem mn1_no {a b : Vl} (h : ¬ b.n < a.n) : mn1 a b = a := if_neg h

/-- All of them as one. -/
def tg (kind : Int) (k : List Vl) : Vl :=
  if k.length = 0 then Fx.none
  else if kind = 1 then Fx.div (sum k) (Fx.of ((k.length : Int) * 1000000))
  else if kind = 2 then sum k
  else if kind = 3 then k.getD (k.length - 1) Fx.none
  else if kind = 4 then mx k
  else if kind = 5 then mn k
  else Fx.none
theorem tg_nil (kind : Int) : tg kind [] = Fx.none := rfl
theorem tg_1 {k : List Vl} (h : 0 < k.length) : tg 1 k = Fx.div (sum k) (Fx.of ((k.length : Int) * 1000000)) := by unfold tg; rw [if_neg (Nat.ne_of_gt h), if_pos (Eq.refl (1 : Int))]
theorem tg_2 {k : List Vl} (h : 0 < k.length) : tg 2 k = sum k := by unfold tg; rw [if_neg (Nat.ne_of_gt h), if_neg (by decide), if_pos (Eq.refl (2 : Int))]
theorem tg_3 {k : List Vl} (h : 0 < k.length) : tg 3 k = k[k.length - 1]'(by omega) := by
  unfold tg; rw [if_neg (Nat.ne_of_gt h), if_neg (by decide), if_neg (by decide), if_pos (Eq.refl (3 : Int))]
  rw [List.getD_eq_getElem?_getD, List.getElem?_eq_getElem (by omega)]; rfl
theorem tg_4 {k : List Vl} (h : 0 < k.length) : tg 4 k = mx k := by unfold tg; rw [if_neg (Nat.ne_of_gt h), if_neg (by decide), if_neg (by decide), if_neg (by decide), if_pos (Eq.refl (4 : Int))]
theorem tg_5 {k : List Vl} (h : 0 < k.length) : tg 5 k = mn k := by unfold tg; rw [if_neg (Nat.ne_of_gt h), if_neg (by decide), if_neg (by decide), if_neg (by decide), if_neg (by decide), if_pos (Eq.refl (5 : Int))]
theorem tg_no {kind : Int} {k : List Vl} (h1 : kind ≠ 1) (h2 : kind ≠ 2) (h3 : kind ≠ 3) (h4 : kind ≠ 4) (h5 : kind ≠ 5) : tg kind k = Fx.none := by
  unfold tg; rw [if_neg h1, if_neg h2, if_neg h3, if_neg h4, if_neg h5]; split <;> rfl

def lim (n : Int) : Int := if n < 0 then 0 else if 16777216 < n then 16777216 else n
theorem lim_bd (n : Int) : 0 ≤ lim n ∧ lim n ≤ 16777216 := by
  unfold lim
  split
  · omega
  · split <;> omega
def en (xff known all : Int) : Bool := decide (0 < lim known ∧ lim known ≤ lim all ∧ lim xff * lim all ≤ lim known * 1000000)
def put (kind xff : Int) (l : List Vl) : Vl := if en xff ((kn l).length : Int) (l.length : Int) = true then tg kind (kn l) else Fx.none
end Ag
end Go.Proofs.YtbakngbmfgnmcaaDoor

namespace Go.Proofs.YtbakngbmfgnmcaaDoor
open Go.RowKit
open Fx (Vl)
open Vf (Fl Sv)
namespace Wp

/-- A header. -/
structure Hd where
  ag : Int
  xf : Int
  l : List (Int × Int)
def Hd.zero : Hd := ⟨0, 0, []⟩
def Hd.val (h : Hd) : Bool := Wh.val h.ag h.xf h.l
def Hd.size (h : Hd) : Int := Wh.size h.ag h.xf h.l
def Hd.offs (h : Hd) (i : Int) : Int := Wh.offs h.ag h.xf h.l i
def Hd.span (h : Hd) : Int := Wh.spn h.ag h.xf h.l
def Hd.step (h : Hd) (i : Nat) : Int := (Wh.At h.l i).1
def Hd.cnt (h : Hd) (i : Nat) : Int := (Wh.At h.l i).2
/-- The header that bytes begin with. -/
def hdOf (b : List UInt8) : Hd := ⟨Wh.dag b, Wh.dxf b, Wh.dl b⟩

/-- Info: the header of a file, and the error. -/
def info (fs : List Fl) (n : List UInt8) : Hd × Int :=
  if (Vf.size fs n).2 ≠ 0 then (Hd.zero, (Vf.size fs n).2)
  else
    let b := (Vf.read fs n 0 (Vf.size fs n).1).1
    if Wh.derr b ≠ 0 ∨ (hdOf b).size ≠ (Vf.size fs n).1 then (Hd.zero, 2) else (hdOf b, 0)

/-- Create: of files in the state S. -/
def create (S : Sv) (n : List UInt8) (h : Hd) : Sv × Int :=
  if h.val = false then (S, 1)
  else
    let b := Wh.enc h.ag h.xf h.l
    let R := Vf.create S n (b ++ List.replicate (h.size - (b.length : Int)).toNat 0)
    if R.2 = 0 then ({ R.1 with was := R.1.now, l := [] }, 0) else (R.1, R.2)

/-- Where a slot stands. -/
def at_ (h : Hd) (i : Nat) (t : Int) : Int := h.offs i + 12 * Sl.pl (h.step i) (h.cnt i) t
/-- The point in twelve bytes. -/
def pt (b : List UInt8) : Int × Int := (Sl.dat b, Sl.dnn b)
/-- What a slot has of a time. -/
def value (fs : List Fl) (n : List UInt8) (h : Hd) (i : Nat) (t : Int) : Vl :=
  let p := pt (Vf.read fs n (at_ h i t) 12).1
  let u := Sl.al t (h.step i)
  if u ≤ 0 ∨ p.1 ≠ u then Fx.none else Fx.of p.2
/-- A slot is written. -/
def write (S : Sv) (n : List UInt8) (h : Hd) (i : Nat) (t v : Int) : Sv :=
  let a := at_ h i t
  let S1 := (Vf.write S n a [0, 0, 0, 0]).1
  let S2 := (Vf.write S1 n (a + 4) (Sl.beb v 8)).1
  (Vf.write S2 n a (Sl.beb (Sl.lim (Sl.al t (h.step i))) 4)).1
/-- The values of one archive that are the next one's slot. -/
def vals (fs : List Fl) (n : List UInt8) (h : Hd) (i : Nat) (t : Int) (k : Nat) : List Vl :=
  (List.range k).map fun (j : Nat) => value fs n h i (Sl.al t (h.step (i + 1)) + (j : Int) * h.step i)
def many (h : Hd) (i : Nat) : Nat := (h.step (i + 1) / h.step i).toNat
/-- What was laid in an archive goes on to the next one. -/
def passes (S : Sv) (n : List UInt8) (h : Hd) (i : Nat) (t : Int) : Sv × Bool :=
  let v := Ag.put h.ag h.xf (vals S.now n h i t (many h i))
  if v.ok = false ∨ Sl.al t (h.step (i + 1)) = 0 then (S, false) else (write S n h (i + 1) t v.n, true)
/-- On and on: from archive k, at most m times. -/
def climb (n : List UInt8) (h : Hd) (t : Int) : Nat → Sv → Nat → Sv
  | 0, S, _ => S
  | m + 1, S, k => if (passes S n h k t).2 = true then climb n h t m (passes S n h k t).1 (k + 1) else S
/-- The first archive from i on that covers a time. -/
def first (h : Hd) (d : Int) : Nat → Nat → Option Nat
  | 0, _ => none
  | m + 1, i => if d < h.step i * h.cnt i then some i else first h d m (i + 1)
/-- A point is laid, or passed over. -/
def lays (S : Sv) (n : List UInt8) (h : Hd) (now : Int) (p : Int × Int) : Sv × Bool :=
  if p.1 < 1 ∨ now < p.1 ∨ Fx.inR p.2 = false then (S, false)
  else match first h (now - p.1) h.l.length 0 with
    | none => (S, false)
    | some i => if Sl.al p.1 (h.step i) = 0 then (S, false) else (climb n h p.1 (h.l.length - 1 - i) (write S n h i p.1 p.2) i, true)
/-- Points one by one. -/
def layAll (n : List UInt8) (h : Hd) (now : Int) : List (Int × Int) → Sv → Int → Sv × Int
  | [], S, c => (S, c)
  | p :: l, S, c => layAll n h now l (lays S n h now p).1 (if (lays S n h now p).2 = true then c + 1 else c)
def time (now : Int) : Bool := decide (1 ≤ now ∧ now ≤ 4294967295)
/-- Update: the files, the number, the error. -/
def update (S : Sv) (n : List UInt8) (now : Int) (l : List (Int × Int)) : Sv × Int × Int :=
  let R := info S.now n
  if R.2 ≠ 0 then (S, 0, R.2) else if time now = false then (S, 0, 1)
  else
    let U := layAll n R.1 now l S 0
    ({ U.1 with was := U.1.now, l := [] }, U.2, 0)
/-- Ring: the points of an archive, and the error. -/
def ring (fs : List Fl) (n : List UInt8) (i : Int) : List (Int × Int) × Int :=
  let R := info fs n
  if R.2 ≠ 0 then ([], R.2) else if i < 0 ∨ (R.1.l.length : Int) ≤ i then ([], 1)
  else ((List.range (R.1.cnt i.toNat).toNat).map fun (k : Nat) => pt (Vf.read fs n (R.1.offs i + 12 * (k : Int)) 12).1, 0)
/-- A series: its start, its step, its values. -/
structure Se where
  start : Int
  step : Int
  vals : List Vl
def clip (h : Hd) (now from_ : Int) : Int := max (max 0 from_) (now - h.span)
/-- Fetch: the series, and the error. -/
def fetch (fs : List Fl) (n : List UInt8) (now from_ until_ : Int) : Option Se × Int :=
  let R := info fs n
  if R.2 ≠ 0 then (none, R.2) else if time now = false then (none, 1)
  else if until_ < from_ ∨ now < from_ ∨ until_ < 0 ∨ until_ < now - R.1.span then (none, 7)
  else
    let f := clip R.1 now from_
    let u := min until_ now
    match first R.1 (now - f - 1) R.1.l.length 0 with
    | none => (none, 7)
    | some i =>
      let s := R.1.step i
      let a := Sl.al f s + s
      let e := if Sl.al u s + s ≤ a then a + s else Sl.al u s + s
      (some ⟨a, s, (List.range ((e - a) / s).toNat).map fun (k : Nat) => value fs n R.1 i (a + (k : Int) * s)⟩, 0)
end Wp
end Go.Proofs.YtbakngbmfgnmcaaDoor

namespace Go.Proofs.YtbakngbmfgnmcaaDoor
open Go.RowKit
open Me

end Go.Proofs.YtbakngbmfgnmcaaDoor

namespace Go.Proofs.YtbakngbmfgnmcaaDoor
open Go.RowKit
open Me Vf
namespace Wp

/-- The document's files at fs in the state S, when c acts were played at most; the blocks of V are none of its own. -/
def RO (w : World) (V : Nat → Prop) (fs c : Nat) (S : Sv) : Prop :=
  ∃ G lr nv wv lv ys, At w G fs lr S nv wv lv ys ∧ Vf.Inv c S ∧ ∀ b, V b → b < w.heap.size ∧ ¬ G b ∧ b ≠ fs ∧ lr ≠ some b
theorem RO.below {w w' : World} {V : Nat → Prop} {fs c : Nat} {S : Sv} (h : RO w V fs c S) (b : Below w.heap.size w w') : RO w' V fs c S := by
  obtain ⟨G, lr, nv, wv, lv, ys, h1, h2, h3⟩ := h
  exact ⟨G, lr, nv, wv, lv, ys, h1.below b, h2, fun i hi => ⟨Nat.lt_of_lt_of_le (h3 i hi).1 b.size, (h3 i hi).2⟩⟩
/-- Blocks that were laid since are none of its own. -/
theorem RO.add {w w' : World} {V V' : Nat → Prop} {fs c : Nat} {S : Sv} (h : RO w V fs c S) (b : Below w.heap.size w w') (hV : ∀ i, V' i → V i ∨ (w.heap.size ≤ i ∧ i < w'.heap.size)) : RO w' V' fs c S := by
  obtain ⟨G, lr, nv, wv, lv, ys, h1, h2, h3⟩ := h
  have hlr : ∀ g, lr = some g → g < w.heap.size := fun g hg => (h1.own.lt g (h1.row.trans hg)).2
  have hfs := h1.fsLt
  refine ⟨G, lr, nv, wv, lv, ys, h1.below b, h2, fun i hi => ?_⟩
  rcases hV i hi with hv | ⟨ha, hb⟩
  · exact ⟨Nat.lt_of_lt_of_le (h3 i hv).1 b.size, (h3 i hv).2⟩
  · exact ⟨hb, fun hg => by have := h1.lt i hg; omega, fun e => by omega, fun e => by have := hlr i e; omega⟩
/-- What is changed in blocks of V changes nothing. -/
theorem RO.kp {w w' : World} {V O : Nat → Prop} {fs c : Nat} {S : Sv} (h : RO w V fs c S) (k : Kp O w w') (hO : ∀ i, O i → V i) : RO w' V fs c S := by
  obtain ⟨G, lr, nv, wv, lv, ys, h1, h2, h3⟩ := h
  exact ⟨G, lr, nv, wv, lv, ys, h1.kp k (fun i hi => (h3 i (hO i hi)).2), h2, fun i hi => ⟨Nat.lt_of_lt_of_le (h3 i hi).1 k.size, (h3 i hi).2⟩⟩
theorem RO.more {w : World} {V V' : Nat → Prop} {fs c c' : Nat} {S : Sv} (h : RO w V fs c S) (hc : c ≤ c') (hV : ∀ i, V' i → V i) : RO w V' fs c' S := by
  obtain ⟨G, lr, nv, wv, lv, ys, h1, h2, h3⟩ := h
  exact ⟨G, lr, nv, wv, lv, ys, h1, h2.mono hc, fun i hi => h3 i (hV i hi)⟩
theorem RO.vlt {w : World} {V : Nat → Prop} {fs c : Nat} {S : Sv} (h : RO w V fs c S) : ∀ i, V i → i < w.heap.size := by
  obtain ⟨G, lr, nv, wv, lv, ys, h1, h2, h3⟩ := h
  exact fun i hi => (h3 i hi).1
theorem RO.inv {w : World} {V : Nat → Prop} {fs c : Nat} {S : Sv} (h : RO w V fs c S) : Vf.Inv c S := by
  obtain ⟨G, lr, nv, wv, lv, ys, h1, h2, h3⟩ := h
  exact h2
theorem RO.of_next {w w' : World} {V G : Nat → Prop} {fs c' : Nat} {lr : Option Nat} {S : Sv} {R : Sv × Int} {nv wv lv : Value} {ys : List Value} {e : Ending} (h1 : At w G fs lr S nv wv lv ys) (h3 : ∀ b, V b → b < w.heap.size ∧ ¬ G b ∧ b ≠ fs ∧ lr ≠ some b)
    (hi : Vf.Inv c' R.1) (hn : Vf.Next w G fs lr R e w') : e = .returned (.int .i64 R.2) ∧ RO w' V fs c' R.1 ∧ Kp (fun b => ¬ V b) w w' := by
  obtain ⟨rfl, G', lr', nv', wv', lv', ys', q1, q2, q3, q4⟩ := hn
  refine ⟨rfl, ⟨G', lr', nv', wv', lv', ys', q1, hi, fun b hb => ⟨Nat.lt_of_lt_of_le (h3 b hb).1 q2.size, fun hg => ?_, (h3 b hb).2.2.1, fun e => ?_⟩⟩, q2.mono fun b _ ho hv => ?_⟩
  · rcases q3 b hg with h | h
    · exact (h3 b hb).2.1 h
    · have := (h3 b hb).1; omega
  · rcases q4 b e with h | h
    · exact (h3 b hb).2.2.2 h
    · have := (h3 b hb).1; omega
  · rcases ho with rfl | e
    · exact (h3 b hv).2.2.1 rfl
    · exact (h3 b hv).2.2.2 e
end Wp
open Wp

section
variable {w : World} {V : Nat → Prop} {fs c : Nat} {S : Sv}
end
end Go.Proofs.YtbakngbmfgnmcaaDoor

namespace Go.Proofs.YtbakngbmfgnmcaaDoor
open Go.RowKit Go.Sort
open Wh (At)

end Go.Proofs.YtbakngbmfgnmcaaDoor

namespace Go.Proofs.YtbakngbmfgnmcaaDoor
open Go.RowKit Go.Sort
open Wh (At)

theorem Wh.av_run {l : List (Int × Int)} {k : Nat} (hk : k ≤ l.length) (h : 1048576 < Wh.run l k)   : Wh.av l = false := by
  cases ha : Wh.alls l l.length
  · unfold Wh.av; simp [ha]
  · have := Wh.run_le (Wh.alls_cnt ha) k hk
    exact Wh.av_big (by omega)

theorem lowBox {w W : World} {o : Obj} (h : Below (w.heap.size + 1) (w.alloc o) W) : Below w.heap.size w W := ((Below.refl _ _).alloc (Nat.le_refl _) _).trans (h.mono (Nat.le_succ _))

end Go.Proofs.YtbakngbmfgnmcaaDoor

namespace Go.Proofs.YtbakngbmfgnmcaaDoor
open Go.RowKit Go.Sort
open Wh (At)

end Go.Proofs.YtbakngbmfgnmcaaDoor

namespace Go.Proofs.YtbakngbmfgnmcaaDoor
open Go.RowKit Go.Sort
open Fx (Vl)
open Me

theorem infoVal : (Tryd.prog.info? 43).map (fun i => (i.zero, i.size, i.bytes)) = some (some (.agg #[.bool false, .int .i64 0]), 2, 16) := by kernel_rfl

def cellsOf (l : List Vl) : List Value := l.flatMap fun v => [.bool v.ok, .int .i64 v.n]
theorem cellsOf_length (l : List Vl) : (cellsOf l).length = l.length * 2 := by
  induction l with
  | nil => rfl
  | cons v l ih => simp only [cellsOf, List.flatMap_cons, List.length_append, List.length_cons, List.length_nil] at *; omega
theorem cellsOf_even (l : List Vl) : ∀ i (h : i < l.length), (cellsOf l)[i * 2]? = some (.bool l[i].ok) := by
  induction l with
  | nil => intro i h; cases h
  | cons v l ih =>
    intro i h
    cases i with
    | zero => rfl
    | succ i =>
      have := ih i (by simpa using h)
      have e : (i + 1) * 2 = i * 2 + 1 + 1 := by omega
      rw [e]
      show (cellsOf l)[i * 2]? = _
      exact this
theorem cellsOf_odd (l : List Vl) : ∀ i (h : i < l.length), (cellsOf l)[i * 2 + 1]? = some (.int .i64 l[i].n) := by
  induction l with
  | nil => intro i h; cases h
  | cons v l ih =>
    intro i h
    cases i with
    | zero => rfl
    | succ i =>
      have := ih i (by simpa using h)
      have e : (i + 1) * 2 + 1 = i * 2 + 1 + 1 + 1 := by omega
      rw [e]
      show (cellsOf l)[i * 2 + 1]? = _
      exact this
theorem cellsOf_one (l : List Vl) : ∀ u ∈ cellsOf l, u.oneCell' = true := by
  intro u hu
  simp only [cellsOf, List.mem_flatMap] at hu
  obtain ⟨v, _, hv⟩ := hu
  simp at hv
  rcases hv with rfl | rfl <;> rfl
theorem cellsOf_at {w : World} {b off : Nat} {l : List Vl} (hv : Vals w b off l) : ∀ j u, (cellsOf l)[j]? = some u → w.cell? ((⟨b, off, none⟩ : Addr).add j) = some u := by
  intro j u hj
  have hlt : j < l.length * 2 := by
    have := (List.getElem?_eq_some_iff.1 hj).1
    rwa [cellsOf_length] at this
  rw [show (⟨b, off, none⟩ : Addr).add j = ⟨b, off + j, none⟩ by simp [Addr.add]]
  by_cases h2 : j % 2 = 0
  · have e : j = j / 2 * 2 := by omega
    have h := cellsOf_even l (j / 2) (by omega)
    rw [← e, hj] at h
    rw [e, hv.ok (j / 2) (by omega), h]
  · have e : j = j / 2 * 2 + 1 := by omega
    have h := cellsOf_odd l (j / 2) (by omega)
    rw [← e, hj] at h
    rw [e, ← Nat.add_assoc, hv.n (j / 2) (by omega), h]


theorem cellsOf_append (l m : List Vl) : cellsOf (l ++ m) = cellsOf l ++ cellsOf m := by simp [cellsOf]
theorem cellsOf_single (v : Vl) : cellsOf [v] = [.bool v.ok, .int .i64 v.n] := rfl

/-- A slice of Vals, nil and empty ones too, as a list. -/
def Sl (w : World) (v : Value) (l : List Vl) : Prop := (l = [] ∧ ∃ x cap, v = .slice x 0 cap) ∨ (0 < l.length ∧ ∃ b off cap, v = .slice (some ⟨b, off, none⟩) l.length cap ∧ Vals w b off l)
theorem Sl.below {w w' : World} {v : Value} {l : List Vl} (h : Sl w v l) (hb : Below w.heap.size w w') : Sl w' v l := by
  rcases h with h | ⟨h0, b, off, cap, e, hv⟩
  · exact .inl h
  · exact .inr ⟨h0, b, off, cap, e, hv.below hb⟩
theorem Sl.form {w : World} {v : Value} {l : List Vl} (h : Sl w v l) : ∃ A c, v = .slice A l.length c := by
  rcases h with ⟨rfl, x, cap, rfl⟩ | ⟨_, b, off, cap, rfl, _⟩
  · exact ⟨_, _, rfl⟩
  · exact ⟨_, _, rfl⟩
theorem Sl.nil (w : World) (x : Option Addr) (cap : Nat) : Sl w (.slice x 0 cap) [] := .inl ⟨rfl, x, cap, rfl⟩
theorem Sl.some {w : World} {b off cap : Nat} {l : List Vl} (h0 : 0 < l.length) (h : Vals w b off l) : Sl w (.slice (some ⟨b, off, none⟩) l.length cap) l := .inr ⟨h0, b, off, cap, rfl, h⟩

/-- A row of Vals of the call's own. -/
def OwnV (base : Nat) (w : World) (v : Value) (l : List Vl) : Prop := w.ownsRow base 43 2 v l.length (cellsOf l)
theorem OwnV.lt {base : Nat} {w : World} {v : Value} {l : List Vl} (h : OwnV base w v l) : ∀ g, v.ownBlock = some g → base ≤ g ∧ g < w.heap.size := by
  intro g hg
  rcases h.2 with ⟨rfl, _⟩ | ⟨g', cap, cur, rfl, hb, hh, _⟩
  · cases hg
  · have : g' = g := by simpa [Value.ownBlock] using hg
    subst this
    exact ⟨hb, (Array.getElem?_eq_some_iff.1 hh).1⟩
theorem OwnV.nil (a : Nat) (w : World) : OwnV a w (.slice none 0 0) [] := ⟨rfl, .inl ⟨rfl, rfl⟩⟩
theorem OwnV.below {a : Nat} {w w' : World} {v : Value} {l : List Vl} (h : OwnV a w v l) (k : Below w.heap.size w w') : OwnV a w' v l :=
  owns_keep h fun g hg => k.block g (h.lt g hg).2
theorem OwnV.slice {a : Nat} {w : World} {v : Value} {l : List Vl} (h : OwnV a w v l) : ∃ A c, v = .slice A l.length c := by
  rcases h.2 with ⟨rfl, h0⟩ | ⟨g', cap, cur, rfl, _⟩
  · exact ⟨none, 0, by rw [h0]⟩
  · exact ⟨_, _, rfl⟩
theorem OwnV.more {base : Nat} {w : World} {v : Value} {l : List Vl} {ok : Bool} {n : Int} (h : w.ownsRow base 43 2 v (l.length + 1) (cellsOf l ++ [.bool ok, .int .i64 n])) : OwnV base w v (l ++ [⟨ok, n⟩]) := by
  unfold OwnV
  rw [List.length_append, cellsOf_append, cellsOf_single]
  exact h
theorem OwnV.sl {base : Nat} {w : World} {v : Value} {l : List Vl} (h : OwnV base w v l) : Sl w v l := by
  obtain ⟨hlen, ⟨rfl, h0⟩ | ⟨g, cap, cur, rfl, hb, hg, hle, hm, hs, hx⟩⟩ := h
  · exact .inl ⟨List.eq_nil_of_length_eq_zero h0, none, 0, rfl⟩
  · by_cases h0 : l.length = 0
    · have e := List.eq_nil_of_length_eq_zero h0
      subst e
      exact .inl ⟨rfl, _, _, rfl⟩
    · refine .inr ⟨by omega, g, 0, cap, rfl, (Array.getElem?_eq_some_iff.1 hg).1, ?_, ?_⟩
      · intro i hi
        rw [Nat.zero_add, ← cellsOf_even l i hi, ← hx, List.getElem?_take, if_pos (by rw [cellsOf_length] at hlen; omega)]
        simp [World.cell?, hg]
      · intro i hi
        rw [Nat.zero_add, ← cellsOf_odd l i hi, ← hx, List.getElem?_take, if_pos (by rw [cellsOf_length] at hlen; omega)]
        simp [World.cell?, hg]

/-- What a slice of Vals reads as, for an append. -/
theorem Sl.rd {w : World} {A : Option Addr} {n c : Nat} {l : List Vl} (h : Sl w (.slice A n c) l) : n = l.length ∧ Rd w (fun _ => True) A (cellsOf l) := by
  rcases h with ⟨rfl, x, cap, e⟩ | ⟨h0, b, off, cap, e, hv⟩
  · injection e with e1 e2 e3
    exact ⟨e2, fun hne => absurd rfl hne⟩
  · injection e with e1 e2 e3
    subst e1 e2 e3
    exact ⟨rfl, fun _ => ⟨_, rfl, hv.lt, trivial, cellsOf_at hv⟩⟩

theorem adN (b off j : Nat) : (⟨b, off, none⟩ : Addr).add j = ⟨b, off + j, none⟩ := by simp [Addr.add]

/-- Every row of Vals that comes in. -/
theorem sl_in (x : Option Addr) (len cap : Nat) (w : World) (hx : (x = none ∧ len = 0 ∧ cap = 0) ∨ (∃ a : Addr, x = some a ∧ ∀ i, i < len → ∃ (ok : Bool) (n : Int), w.cell? (a.add (i * 2)) = some (.bool ok) ∧ w.cell? (a.add (i * 2 + 1)) = some (.int .i64 n))) :
    ∃ l : List Vl, l.length = len ∧ Sl w (.slice x len cap) l := by
  rcases hx with ⟨rfl, rfl, rfl⟩ | ⟨a, rfl, hc⟩
  · exact ⟨[], rfl, Sl.nil _ _ _⟩
  · by_cases h0 : len = 0
    · subst h0; exact ⟨[], rfl, Sl.nil _ _ _⟩
    · obtain ⟨b, off, spot⟩ := a
      obtain ⟨ok0, n0, hk0, _⟩ := hc 0 (by omega)
      have hspot : spot = none := by simpa [Addr.add] using World.cell?_spot hk0
      subst hspot
      obtain ⟨l, hlen, hl2⟩ : ∃ l : List Vl, l.length = len ∧ ∀ i (h : i < l.length), w.cell? ⟨b, off + i * 2, none⟩ = some (.bool l[i].ok) ∧ w.cell? ⟨b, off + i * 2 + 1, none⟩ = some (.int .i64 l[i].n) := by
        have key : ∀ m, m ≤ len → ∃ l : List Vl, l.length = m ∧ ∀ i (h : i < l.length), w.cell? ⟨b, off + i * 2, none⟩ = some (.bool l[i].ok) ∧ w.cell? ⟨b, off + i * 2 + 1, none⟩ = some (.int .i64 l[i].n) := by
          intro m
          induction m with
          | zero => intro _; exact ⟨[], rfl, fun i h => by cases h⟩
          | succ m ih =>
            intro hm
            obtain ⟨l, e, hi⟩ := ih (by omega)
            obtain ⟨ok, n, c0, c1⟩ := hc m (by omega)
            refine ⟨l ++ [⟨ok, n⟩], by simp [e], fun i h => ?_⟩
            by_cases him : i < l.length
            · rw [List.getElem_append_left him]; exact hi i him
            · have him2 : i = l.length := by simp at h; omega
              subst him2
              rw [List.getElem_append_right (Nat.le_refl _)]
              rw [adN] at c0 c1
              simp only [e, Nat.sub_self, List.getElem_cons_zero]
              exact ⟨c0, by rw [Nat.add_assoc]; exact c1⟩
        exact key len (Nat.le_refl _)
      refine ⟨l, hlen, ?_⟩
      subst hlen
      exact Sl.some (by omega) ⟨World.block_lt_of_cell? w _ (hl2 0 (by omega)).1, fun i h => (hl2 i h).1, fun i h => (hl2 i h).2⟩
end Go.Proofs.YtbakngbmfgnmcaaDoor

namespace Go.Proofs.YtbakngbmfgnmcaaDoor
open Go.RowKit Go.Sort
open Fx (Vl)
open Me
namespace Wp

/-- The document's file of a file system: at block x; the system's object at fs; the header's archives at A. -/
structure FileR (w : World) (x fs : Nat) (n : List UInt8) (h : Hd) (A : Option Addr) (cap : Nat) : Prop where
  row : RowAt w x 36 #[.pointer (some ⟨fs, 0, none⟩), .string ⟨n.toArray⟩, .int .i64 h.ag, .int .i64 h.xf, .slice A h.l.length cap]
  ars : Row w A h.l cap
theorem FileR.below {w w' : World} {x fs : Nat} {n : List UInt8} {h : Hd} {A : Option Addr} {cap : Nat} (f : FileR w x fs n h A cap) (b : Below w.heap.size w w') : FileR w' x fs n h A cap :=
  ⟨f.row.below b f.row.lt, f.ars.below b⟩
theorem FileR.keep {w w' : World} {V : Nat → Prop} {x fs : Nat} {n : List UInt8} {h : Hd} {A : Option Addr} {cap : Nat} (f : FileR w x fs n h A cap) (k : Kp (fun b => ¬ V b) w w') (hx : V x) (hA : ∀ a, A = some a → V a.block) : FileR w' x fs n h A cap := by
  refine ⟨(k.block x f.row.lt (fun o => o hx)).trans f.row, f.ars.1, fun h0 => ?_⟩
  obtain ⟨b, off, e, ha⟩ := f.ars.2 h0
  have hb : V b := hA _ e
  exact ⟨b, off, e, Nat.lt_of_lt_of_le ha.lt k.size, fun i hi => (k.cell (p := ⟨b, off + i * 2, none⟩) ha.lt (fun o => o hb)).trans (ha.st i hi), fun i hi => (k.cell (p := ⟨b, off + i * 2 + 1, none⟩) ha.lt (fun o => o hb)).trans (ha.ct i hi)⟩
/-- A header that may be: each archive's numbers. -/
theorem Hd.nums {h : Hd} (hv : h.val = true) : ∀ i, i < h.l.length → (1 ≤ h.step i ∧ h.step i ≤ 16777216) ∧ (1 ≤ h.cnt i ∧ h.cnt i ≤ 16777216) := by
  obtain ⟨_, _, _, ha⟩ := Wh.val_t hv
  obtain ⟨a1, a2, a3, a4, a5⟩ := Wh.av_t ha
  exact fun i hi => Wh.alls_num hi a3
theorem Hd.len {h : Hd} (hv : h.val = true) : 1 ≤ h.l.length ∧ h.l.length ≤ 8 := by
  obtain ⟨_, _, _, ha⟩ := Wh.val_t hv
  obtain ⟨a1, a2, a3, a4, a5⟩ := Wh.av_t ha
  exact ⟨a1, a2⟩
theorem Hd.offs_bd {h : Hd} (hv : h.val = true) (i : Int) : 0 ≤ h.offs i ∧ h.offs i ≤ 2000000000 := by
  obtain ⟨_, _, _, ha⟩ := Wh.val_t hv
  obtain ⟨a1, a2, a3, a4, a5⟩ := Wh.av_t ha
  unfold Hd.offs Wh.offs
  split
  · rename_i hh
    have := Wh.ends_bd a2 (Wh.alls_cnt a3) i.toNat (by omega)
    omega
  · omega
theorem pl_bd {s c t : Int} (hc : 1 ≤ c ∧ c ≤ 16777216) : 0 ≤ Sl.pl s c t ∧ Sl.pl s c t ≤ 16777216 := by
  unfold Sl.pl
  split
  · omega
  · have h1 := Int.emod_nonneg (t / s) (by omega : c ≠ 0)
    have h2 := Int.emod_lt_of_pos (t / s) (by omega : 0 < c)
    omega
theorem at_bd {h : Hd} (hv : h.val = true) (i : Nat) (hi : i < h.l.length) (t : Int) : 0 ≤ at_ h i t ∧ at_ h i t ≤ 2300000000 := by
  have h1 := Hd.offs_bd hv (i : Int)
  have h2 := pl_bd (s := h.step i) (t := t) (Hd.nums hv i hi).2
  unfold at_
  omega
end Wp
open Wp

end Go.Proofs.YtbakngbmfgnmcaaDoor

namespace Go.Proofs.YtbakngbmfgnmcaaDoor
open Go.RowKit Go.Sort
open Fx (Vl)
open Me
open Wp

end Go.Proofs.YtbakngbmfgnmcaaDoor

namespace Go.Proofs.YtbakngbmfgnmcaaDoor
open Go.RowKit Go.Sort
open Fx (Vl)
open Me
open Wp

/-- One row in a slice of rows. -/
theorem ps_one {base g : Nat} {w : World} {v : Value} {L : List UInt8} (h : BsT base w v L) (hg : RowAt w g 52 #[v]) : Vf.Ps w (fun _ => True) (.slice (some ⟨g, 0, none⟩) 1 1) [L] := by
  obtain ⟨A, c, e, h1, h2, hr⟩ := h
  refine ⟨some ⟨g, 0, none⟩, 1, [v], rfl, Nat.le_refl _, by unfold maxLen; omega, fun _ => ⟨_, rfl, hg.lt, trivial, fun j u hu => ?_⟩, ⟨[v], [], rfl, ⟨v, rfl, A, c, e, h1, h2, hr.mono fun _ _ _ => trivial⟩, rfl⟩⟩
  rw [Addr.add_lit, Nat.zero_add, hg.cell]
  simpa using hu
/-- The call's own rows stay where blocks behind base do. -/
theorem BsT.keep {base : Nat} {V : Nat → Prop} {w w' : World} {v : Value} {L : List UInt8} (h : BsT base w v L) (k : Kp (fun b => ¬ V b) w w') (hV : ∀ i, base ≤ i → i < w.heap.size → V i) : BsT base w' v L := by
  obtain ⟨A, c, e, h1, h2, hr⟩ := h
  exact ⟨A, c, e, h1, h2, hr.keep k.size fun i hi hb => k.block i hi (fun o => o (hV i hb hi))⟩
theorem kp_via {O : Nat → Prop} {a b c : World} (k : Kp O b c) (h : Below a.heap.size a b) : Kp O a c := (Kp.of_below h).trans k (fun _ _ h => h)
theorem Wp.one_flat (L : List UInt8) : [L].flatten = L := by simp

/-- What a slot's write leaves. -/
def Wp.Wrote (w : World) (V : Nat → Prop) (fs c : Nat) (S : Vf.Sv) (e : Ending) (w' : World) : Prop := e = .returned (.tuple #[]) ∧ RO w' V fs c S ∧ Kp (fun b => ¬ V b) w w'

end Go.Proofs.YtbakngbmfgnmcaaDoor

namespace Go.Proofs.YtbakngbmfgnmcaaDoor
open Go.RowKit Go.Sort
open Fx (Vl)
open Me

/-- What Known hands back. -/
def Knew (w : World) (m : List Vl) (e : Ending) (w' : World) : Prop := ∃ v, e = .returned v ∧ OwnV w.heap.size w' v m ∧ Below w.heap.size w w'

/-- One more of them. -/
theorem own_append {w W w2 : World} {v v2 : Value} {m : List Vl} {eo : Bool} {en : Int} (hb : Below w.heap.size w W) (ho : OwnV w.heap.size W v m)
    (hown : w2.ownsRow w.heap.size 43 2 v2 (m.length + 1) (cellsOf m ++ [.bool eo, .int .i64 en])) (hg : W.grownBy w2 v.ownBlock) : OwnV w.heap.size w2 v2 (m ++ [⟨eo, en⟩]) ∧ Below w.heap.size w w2 :=
  ⟨OwnV.more hown, hb.grown hg hb.size fun g e => (ho.lt g e).1⟩

set_option maxHeartbeats 2000000 in
theorem known_some (l : List Vl) (hl : l.length ≤ 1000000) (b off cap : Nat) (w : World) (hv : Vals w b off l) :
    Calls Tryd.prog 69 #[.slice (some ⟨b, off, none⟩) l.length cap] w (Knew w (Ag.kn l)) := by
  obtain ⟨i0, hi, hz0, hz1, hz2⟩ := info_parts infoVal
  obtain ⟨C, CS, hmk, hcs, hC⟩ : ∃ (C : Nat) (CS : Array Value), (∀ W : World, (Instr.makeSlice 37 (.int .i64 0) (.int .i64 (l.length : Int))).run Tryd.prog W = .ok (.slice (some ⟨W.heap.size, 0, none⟩) 0 C) (W.alloc (.cells CS 43))) ∧ CS.size = C * 2 ∧ C ≤ 1000000 := by
    refine ⟨(l.length : Int).toNat, madeCells #[.bool false, .int .i64 0] ((l.length : Int).toNat * 2), fun W => ?_, size_madeCells _ _, by omega⟩
    have h := run_make (P := Tryd.prog) W 37 43 i0 _ Tryd.underlying37 hi hz0 .i64 .i64 0 (l.length : Int) (by omega) (by omega) (by rw [hz2]; omega) (by omega)
    rw [hz1] at h
    exact h
  have HI := Lib.hid hi
  have HZ := Lib.hid (And.intro hz0 (And.intro hz1 hz2))
  have HO0 : Hid (∀ W : World, w.heap.size ≤ W.heap.size → OwnV w.heap.size (W.alloc (.cells CS 43)) (.slice (some ⟨W.heap.size, 0, none⟩) 0 C) []) := Lib.hid fun W h => World.ownsRow_made W CS C h (by unfold maxLen; omega) hcs
  clear hi hz0 hz1 hz2
  go_enter Tryd.func69, Tryd.ntmps69
  go_wp2_with fail
  go_loopw [3, 11] (fun v i wr => ∃ k : Nat, k ≤ l.length ∧ i = .int .i64 k ∧ OwnV w.heap.size wr v (Ag.kn (l.take k)) ∧ Below w.heap.size w wr) (fun _ i _ => l.length - (intOf i).toNat)
  case atStart => exact ⟨0, Nat.zero_le _, rfl, HO0.out w (Nat.le_refl _), (Below.refl _ _).alloc (Nat.le_refl _) _⟩
  case round =>
    obtain ⟨k, hk, rfl, hown, hbel⟩ := hrel
    obtain ⟨A, c, rfl⟩ := hown.slice
    by_cases hlt : k < l.length
    · have hvr := hv.below hbel
      have ec0 := hvr.ok k hlt
      have ec1 := hvr.n k hlt
      have hbr := hvr.lt
      have hkl : (k : Int) < (l.length : Int) := by omega
      have hk0 : (0 : Int) ≤ (k : Int) := by omega
      have hst := Lib.hid (Ag.kn_take l k hlt)
      have hml := Ag.kn_take_len l k
      have HB := Lib.hid hbel
      have HO := Lib.hid hown
      have hws := hbel.size
      clear hbel hown hvr
      generalize l[k] = ek at *
      generalize Ag.kn (l.take k) = m at *
      obtain ⟨eo, en⟩ := ek
      cases hq : Fx.num ⟨eo, en⟩
      · have HT : Hid (Ag.kn (l.take (k + 1)) = m) := Lib.hid (by rw [hst.out, if_neg (by rw [hq]; exact Bool.false_ne_true)])
        cases eo
        · go_wp2_with fail
          go_roundw
          case rel => exact ⟨k + 1, by omega, by go_num, by rw [HT.out]; exact HO.out.below ((Below.refl _ _).alloc (Nat.le_refl _) _), HB.out.alloc hws _⟩
          case measure => simp [intOf]; omega
        · have HIs : Hid (∀ W, Calls Tryd.prog 74 #[.agg #[.bool true, .int .i64 en]] W fun e w' => e = .returned (.bool false) ∧ Below W.heap.size W w') := Lib.hid fun W => by
            have := isV_any true en W
            rw [Fx.isV_on, show Fx.inR en = false from hq] at this
            exact this
          go_wp2_with (go_at_call 74; (((with_reducible refine (HIs.out _).mono ?_)); rintro e w1 ⟨rfl, hb1⟩; obtain ⟨hc1, hf1⟩ := bcell hb1; (try have hq1w : w.heap.size < w1.heap.size := Nat.lt_of_lt_of_le (by first | assumption | (simp; done) | (simp; omega)) hb1.size); (try have hq1wr : wr.heap.size < w1.heap.size := Nat.lt_of_lt_of_le (by first | assumption | (simp; done) | (simp; omega)) hb1.size); have hs1 := hb1.size; (try simp at hs1)))
          have HB1 : Hid (Below wr.heap.size wr w1) := Lib.hid (by repeat (first | exact Below.refl _ _ | assumption | refine Below.setCell ?_ (by first | (simp; done) | omega | (simp; omega) | (simp at *; omega)) _ | refine Below.alloc ?_ (by first | (simp; done) | omega | (simp; omega) | (simp at *; omega)) _ | refine Below.drew ?_ | (refine Below.trans ?_ (Below.mono (by assumption) (by first | (simp; done) | omega | (simp; omega) | (simp at *; omega)))) | (refine Below.trans ?_ (Below.mono (below_regrown _ _ _) (by first | (simp; done) | omega | (simp; omega) | (simp at *; omega))))))
          go_roundw
          case rel => exact ⟨k + 1, by omega, by go_num, by rw [HT.out]; exact HO.out.below HB1.out, HB.out.trans (HB1.out.mono hws)⟩
          case measure => simp [intOf]; omega
      · obtain ⟨rfl, _, _⟩ := Fx.num_iff.1 hq
        have HT : Hid (Ag.kn (l.take (k + 1)) = m ++ [⟨true, en⟩]) := Lib.hid (by rw [hst.out, if_pos hq])
        have HIs : Hid (∀ W, Calls Tryd.prog 74 #[.agg #[.bool true, .int .i64 en]] W fun e w' => e = .returned (.bool true) ∧ Below W.heap.size W w') := Lib.hid fun W => by
            have := isV_any true en W
            rw [Fx.isV_on, show Fx.inR en = true from hq] at this
            exact this
        go_wp2_with first
          | (go_at_call 74; (((with_reducible refine (HIs.out _).mono ?_)); rintro e w1 ⟨rfl, hb1⟩; obtain ⟨hc1, hf1⟩ := bcell hb1; (try have hq1w : w.heap.size < w1.heap.size := Nat.lt_of_lt_of_le (by first | assumption | (simp; done) | (simp; omega)) hb1.size); (try have hq1wr : wr.heap.size < w1.heap.size := Nat.lt_of_lt_of_le (by first | assumption | (simp; done) | (simp; omega)) hb1.size); have hs1 := hb1.size; (try simp at hs1)))
          | (at_builtin; refine wpList_app _ rfl (.tmp 21) (.tmp 23) 37 rfl w.heap.size 43 i0 (.agg #[.bool false, .int .i64 0]) 2 16 Tryd.underlying37 HI.out HZ.out.1 HZ.out.2.1 HZ.out.2.2 rfl (by decide) (.slice A m.length c) m.length (cellsOf m) rfl (HO.out.below (by repeat (first | exact Below.refl _ _ | assumption | refine Below.setCell ?_ (by first | (simp; done) | omega | (simp; omega) | (simp at *; omega)) _ | refine Below.alloc ?_ (by first | (simp; done) | omega | (simp; omega) | (simp at *; omega)) _ | refine Below.drew ?_ | (refine Below.trans ?_ (Below.mono (by assumption) (by first | (simp; done) | omega | (simp; omega) | (simp at *; omega)))) | (refine Below.trans ?_ (Below.mono (below_regrown _ _ _) (by first | (simp; done) | omega | (simp; omega) | (simp at *; omega))))))) (fun b => b = w1.heap.size) (some ⟨w1.heap.size, 0, none⟩) 1 1 [.bool true, .int .i64 en] rfl rfl (Rd.fresh _ _ _ _ rfl) (by intro u hu; simp at hu; rcases hu with rfl | rfl <;> rfl) (by unfold maxLen; omega) (by omega) (by simp; omega) ?_; intro v2 w2 hown2 hg2 hat2 hnil2)
        have HB1 : Hid (Below wr.heap.size wr (w1.alloc (.cells #[.bool true, .int .i64 en] 43))) := Lib.hid (by repeat (first | exact Below.refl _ _ | assumption | refine Below.setCell ?_ (by first | (simp; done) | omega | (simp; omega) | (simp at *; omega)) _ | refine Below.alloc ?_ (by first | (simp; done) | omega | (simp; omega) | (simp at *; omega)) _ | refine Below.drew ?_ | (refine Below.trans ?_ (Below.mono (by assumption) (by first | (simp; done) | omega | (simp; omega) | (simp at *; omega)))) | (refine Below.trans ?_ (Below.mono (below_regrown _ _ _) (by first | (simp; done) | omega | (simp; omega) | (simp at *; omega))))))
        have HN := Lib.hid (own_append (HB.out.trans (HB1.out.mono hws)) (HO.out.below HB1.out) hown2 hg2)
        obtain ⟨A2, n2, c2, rfl⟩ := own_slice hown2
        clear hown2 hg2 hat2 hnil2
        go_wp2_with fail
        go_roundw
        case rel => exact ⟨k + 1, by omega, by go_num, by rw [HT.out]; exact HN.out.1, HN.out.2⟩
        case measure => simp [intOf]; omega
    · obtain rfl : k = l.length := by omega
      have HO := Lib.hid hown
      have HB := Lib.hid hbel
      rw [List.take_length] at *
      clear hown hbel
      go_wp2
      go_ret
      exact ⟨_, rfl, HO.out, HB.out⟩

set_option maxHeartbeats 2000000 in
theorem known_zero (x : Option Addr) (cap : Nat) (w : World) :
    Calls Tryd.prog 69 #[.slice x 0 cap] w (Knew w []) := by
  obtain ⟨i0, hi, hz0, hz1, hz2⟩ := info_parts infoVal
  obtain ⟨CS, hmk, hcs⟩ : ∃ (CS : Array Value), (∀ W : World, (Instr.makeSlice 37 (.int .i64 0) (.int .i64 0)).run Tryd.prog W = .ok (.slice (some ⟨W.heap.size, 0, none⟩) 0 0) (W.alloc (.cells CS 43))) ∧ CS.size = 0 * 2 := by
    refine ⟨madeCells #[.bool false, .int .i64 0] ((0 : Int).toNat * 2), fun W => ?_, size_madeCells _ _⟩
    have h := run_make (P := Tryd.prog) W 37 43 i0 _ Tryd.underlying37 hi hz0 .i64 .i64 0 0 (by omega) (by omega) (by omega) (by omega)
    rw [hz1] at h
    exact h
  have HO0 : Hid (∀ W : World, w.heap.size ≤ W.heap.size → OwnV w.heap.size (W.alloc (.cells CS 43)) (.slice (some ⟨W.heap.size, 0, none⟩) 0 0) []) := Lib.hid fun W h => World.ownsRow_made W CS 0 h (by unfold maxLen; omega) hcs
  clear hi hz0 hz1 hz2
  go_enter Tryd.func69, Tryd.ntmps69
  go_wp2_with fail
  go_loopw [3, 11] (fun v i wr => i = .int .i64 0 ∧ OwnV w.heap.size wr v [] ∧ Below w.heap.size w wr) (fun _ i _ => 0)
  case atStart => exact ⟨rfl, HO0.out w (Nat.le_refl _), (Below.refl _ _).alloc (Nat.le_refl _) _⟩
  case round =>
    obtain ⟨rfl, hown, hbel⟩ := hrel
    obtain ⟨A, c, rfl⟩ := hown.slice
    have HO := Lib.hid hown
    have HB := Lib.hid hbel
    clear hown hbel
    go_wp2
    go_ret
    exact ⟨_, rfl, HO.out, HB.out⟩
theorem known_v (l : List Vl) (hl : l.length ≤ 1000000) (v : Value) (w : World) (hv : Sl w v l) : Calls Tryd.prog 69 #[v] w (Knew w (Ag.kn l)) := by
  rcases hv with ⟨rfl, x, cap, rfl⟩ | ⟨h0, b, off, cap, rfl, hv⟩
  · exact known_zero x cap w
  · exact known_some l hl b off cap w hv

end Go.Proofs.YtbakngbmfgnmcaaDoor
