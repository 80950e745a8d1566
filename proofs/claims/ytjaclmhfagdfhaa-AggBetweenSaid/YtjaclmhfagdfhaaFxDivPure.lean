/-
  THE PLAIN MATHEMATICS of a division of two words by one, digit by digit (a digit: 32 bits), as the library does it.
-/
namespace Go.Proofs.Ytjaclmhfagdfhaa
namespace Dv

/-- What holds of a guess q of a digit, and of what is left, r, at every turn. -/
structure Inv (n1 n0 u t q r : Nat) : Prop where
  sum : q * n1 + r = u
  low : (u * 4294967296 + t) / (n1 * 4294967296 + n0) ≤ q
  top : q ≤ 4294967297

theorem y_pos {n1 n0 : Nat} (h1 : 2147483648 ≤ n1) : 0 < n1 * 4294967296 + n0 := by omega

theorem digit_aux (u t y : Nat) (hu : u < y) (ht : t < 4294967296) : u * 4294967296 + t < 4294967296 * y := by omega

theorem digit_lt {n1 n0 u t : Nat} (h1 : 2147483648 ≤ n1) (hu : u < n1 * 4294967296 + n0) (ht : t < 4294967296) :
    (u * 4294967296 + t) / (n1 * 4294967296 + n0) < 4294967296 := by
  rw [Nat.div_lt_iff_lt_mul (y_pos h1)]
  exact digit_aux _ _ _ hu ht

theorem start {n1 n0 u t : Nat} (h1 : 2147483648 ≤ n1) (h0 : n0 < 4294967296) (hu : u < n1 * 4294967296 + n0) (ht : t < 4294967296) :
    Inv n1 n0 u t (u / n1) (u % n1) := by
  refine ⟨by rw [Nat.mul_comm]; exact Nat.div_add_mod u n1, ?_, ?_⟩
  · rw [Nat.le_div_iff_mul_le (by omega)]
    have h := Nat.div_mul_le_self (u * 4294967296 + t) (n1 * 4294967296 + n0)
    generalize (u * 4294967296 + t) / (n1 * 4294967296 + n0) = Q at *
    rw [Nat.mul_add, ← Nat.mul_assoc] at h
    generalize Q * n1 = a at *
    generalize Q * n0 = b at *
    omega
  · have : u / n1 < 4294967298 := by rw [Nat.div_lt_iff_lt_mul (by omega)]; omega
    omega

theorem step {n1 n0 u t q r : Nat} (h1 : 2147483648 ≤ n1) (hu : u < n1 * 4294967296 + n0) (ht : t < 4294967296)
    (h : Inv n1 n0 u t q r) (hc : 4294967296 ≤ q ∨ 4294967296 * r + t < q * n0) : 1 ≤ q ∧ Inv n1 n0 u t (q - 1) (r + n1) ∧ (u * 4294967296 + t) / (n1 * 4294967296 + n0) < q := by
  obtain ⟨hs, hl, ht'⟩ := h
  have hlt : (u * 4294967296 + t) / (n1 * 4294967296 + n0) < q := by
    rcases hc with hc | hc
    · exact Nat.lt_of_lt_of_le (digit_lt h1 hu ht) hc
    · rw [Nat.div_lt_iff_lt_mul (y_pos h1), Nat.mul_add, ← Nat.mul_assoc]
      generalize q * n1 = a at *
      generalize q * n0 = b at *
      omega
  have h1q : 1 ≤ q := Nat.lt_of_le_of_lt (Nat.zero_le _) hlt
  refine ⟨h1q, ⟨?_, Nat.le_sub_one_of_lt hlt, by omega⟩, hlt⟩
  obtain ⟨p, rfl⟩ : ∃ p, q = p + 1 := ⟨q - 1, by omega⟩
  rw [Nat.add_sub_cancel]
  rw [Nat.add_mul] at hs
  omega

/-- Whichever way the turns end, the guess is the digit, and nothing is borrowed. -/
theorem stop {n1 n0 u t q r : Nat} (h1 : 2147483648 ≤ n1) (h0 : n0 < 4294967296)
    (h : Inv n1 n0 u t q r) (hc : (q * n0 ≤ 4294967296 * r + t) ∨ (4294967296 ≤ r ∧ q ≤ 4294967296)) :
    q = (u * 4294967296 + t) / (n1 * 4294967296 + n0) ∧ q * (n1 * 4294967296 + n0) ≤ u * 4294967296 + t := by
  obtain ⟨hs, hl, _⟩ := h
  have hle : q * n0 ≤ 4294967296 * r + t := by
    rcases hc with hc | ⟨hr, hq⟩
    · exact hc
    · have := Nat.mul_le_mul hq (show n0 ≤ 4294967295 by omega)
      omega
  have hy : q * (n1 * 4294967296 + n0) ≤ u * 4294967296 + t := by
    rw [Nat.mul_add, ← Nat.mul_assoc]
    generalize q * n1 = a at *
    generalize q * n0 = b at *
    omega
  exact ⟨Nat.le_antisymm ((Nat.le_div_iff_mul_le (y_pos h1)).2 hy) hl, hy⟩

theorem prod_lt {q n0 : Nat} (hq : q < 4294967296) (h0 : n0 < 4294967296) : q * n0 < 18446744073709551616 := by
  have := Nat.mul_le_mul (show q ≤ 4294967295 by omega) (show n0 ≤ 4294967295 by omega)
  omega

/-- Two digits in turn are the whole. -/
theorem two_aux (a b m d0 : Nat) (h : b + m = a) : a * 4294967296 + d0 = (m * 4294967296 + d0) + b * 4294967296 := by omega
theorem two' (a d0 y : Nat) (hy : 0 < y) :
    (a * 4294967296 + d0) / y = a / y * 4294967296 + (a % y * 4294967296 + d0) / y ∧
    (a * 4294967296 + d0) % y = (a % y * 4294967296 + d0) % y := by
  rw [two_aux a (y * (a / y)) (a % y) d0 (Nat.div_add_mod a y), Nat.mul_assoc, Nat.add_mul_div_left _ _ hy, Nat.add_mul_mod_self_left]
  exact ⟨Nat.add_comm _ _, rfl⟩

/-- Both numbers doubled as often: the quotient is the same, what is left is doubled as often. -/
theorem scaled (N y S : Nat) (hS : 0 < S) : N * S / (y * S) = N / y ∧ N * S % (y * S) / S = N % y := by
  refine ⟨Nat.mul_div_mul_right _ _ hS, ?_⟩
  rw [Nat.mul_mod_mul_right, Nat.mul_div_cancel _ hS]

theorem shifted_aux (a b c d : Nat) (h : 18446744073709551616 * c + d = a) : b * 18446744073709551616 + a = (b + c) * 18446744073709551616 + d := by omega
/-- The two words doubled. -/
theorem shifted (hi lo S T : Nat) (hST : S * T = 18446744073709551616) (hS : 0 < S) :
    (hi * 18446744073709551616 + lo) * S = (hi * S + lo / T) * 18446744073709551616 + lo * S % 18446744073709551616 := by
  have e : lo * S / 18446744073709551616 = lo / T := by
    rw [← hST, Nat.mul_comm S T]; exact Nat.mul_div_mul_right _ _ hS
  have h := Nat.div_add_mod (lo * S) 18446744073709551616
  rw [e] at h
  have e2 : (hi * 18446744073709551616 + lo) * S = hi * S * 18446744073709551616 + lo * S := by rw [Nat.add_mul, Nat.mul_right_comm]
  rw [e2]
  exact shifted_aux (lo * S) (hi * S) (lo / T) (lo * S % 18446744073709551616) h

theorem high_lt {hi lo y S T : Nat} (hST : S * T = 18446744073709551616) (hlo : lo < 18446744073709551616) (h : hi < y) : hi * S + lo / T < y * S ∧ lo / T < S := by
  have h1 : lo / T < S := by
    rw [Nat.div_lt_iff_lt_mul (Nat.pos_of_ne_zero (fun h0 => by rw [h0] at hST; omega))]; omega
  have h2 := Nat.mul_le_mul_right S (show hi + 1 ≤ y from h)
  rw [Nat.add_mul] at h2
  omega

/-- The same over whole numbers with a sign. -/
def InvI (n1 n0 u t : Nat) (a b : Int) : Prop := 0 ≤ a ∧ 0 ≤ b ∧ b ≤ 4294967295 ∧ Inv n1 n0 u t a.toNat b.toNat

theorem startI {n1 n0 u t : Nat} (h1 : 2147483648 ≤ n1) (h2 : n1 < 4294967296) (h0 : n0 < 4294967296) (hu : u < n1 * 4294967296 + n0) (ht : t < 4294967296) :
    InvI n1 n0 u t ((u / n1 : Nat) : Int) ((u % n1 : Nat) : Int) :=
  ⟨Int.natCast_nonneg _, Int.natCast_nonneg _, by have := Nat.mod_lt u (show 0 < n1 by omega); omega, by rw [Int.toNat_natCast, Int.toNat_natCast]; exact start h1 h0 hu ht⟩

theorem boundsI {n1 n0 u t : Nat} {a b : Int} (h : InvI n1 n0 u t a b) : 0 ≤ a ∧ a ≤ 4294967297 ∧ 0 ≤ b ∧ b ≤ 4294967295 := by
  obtain ⟨h1, h2, h3, h4⟩ := h
  have := h4.top
  exact ⟨h1, by omega, h2, h3⟩

theorem prodI {a : Int} {n0 : Nat} (h0 : 0 ≤ a) (h1 : a ≤ 4294967295) (h : n0 < 4294967296) : ∃ P : Int, a * (n0 : Int) = P ∧ 0 ≤ P ∧ P ≤ 18446744073709551615 := by
  obtain ⟨x, rfl⟩ := Int.eq_ofNat_of_zero_le h0
  have hp := prod_lt (q := x) (n0 := n0) (by omega) h
  refine ⟨_, rfl, by rw [← Int.natCast_mul]; exact Int.natCast_nonneg _, ?_⟩
  rw [← Int.natCast_mul]
  omega

theorem stepI_nat {n1 n0 u t : Nat} {a b : Int} (h1 : 2147483648 ≤ n1) (hu : u < n1 * 4294967296 + n0) (ht : t < 4294967296)
    (h : InvI n1 n0 u t a b) (hc : 4294967296 ≤ a ∨ 4294967296 * b + t < a * n0) : 1 ≤ a.toNat ∧ Inv n1 n0 u t (a.toNat - 1) (b.toNat + n1) := by
  obtain ⟨ha, hb, h3, h4⟩ := h
  obtain ⟨x, rfl⟩ := Int.eq_ofNat_of_zero_le ha
  obtain ⟨z, rfl⟩ := Int.eq_ofNat_of_zero_le hb
  simp only [Int.toNat_natCast] at h4 ⊢
  have hs := step h1 hu ht h4 (by
    rcases hc with hc | hc
    · exact .inl (by omega)
    · right
      rw [← Int.natCast_mul] at hc
      omega)
  exact ⟨hs.1, hs.2.1⟩

/-- A turn that goes on. -/
theorem stepI {n1 n0 u t : Nat} {a b : Int} (h1 : 2147483648 ≤ n1) (hu : u < n1 * 4294967296 + n0) (ht : t < 4294967296)
    (h : InvI n1 n0 u t a b) (hc : 4294967296 ≤ a ∨ 4294967296 * b + t < a * n0) (hb2 : b + n1 ≤ 4294967295) : 1 ≤ a ∧ InvI n1 n0 u t (a - 1) (b + n1) := by
  obtain ⟨hs1, hs2⟩ := stepI_nat h1 hu ht h hc
  obtain ⟨ha, hb, h3, h4⟩ := h
  refine ⟨by omega, by omega, by omega, hb2, ?_⟩
  have e1 : (a - 1).toNat = a.toNat - 1 := by omega
  have e2 : (b + (n1 : Int)).toNat = b.toNat + n1 := by omega
  rw [e1, e2]
  exact hs2

/-- The way out behind a turn. -/
theorem breakI {n1 n0 u t Q : Nat} {a b : Int} (h1 : 2147483648 ≤ n1) (h0 : n0 < 4294967296) (hu : u < n1 * 4294967296 + n0) (ht : t < 4294967296)
    (hQ : Q = (u * 4294967296 + t) / (n1 * 4294967296 + n0))
    (h : InvI n1 n0 u t a b) (hc : 4294967296 ≤ a ∨ 4294967296 * b + t < a * n0) (hb2 : 4294967296 ≤ b + n1) : a = (Q : Int) + 1 := by
  obtain ⟨hs1, hs2⟩ := stepI_nat h1 hu ht h hc
  obtain ⟨ha, hb, h3, h4⟩ := h
  have htop := h4.top
  have := (stop h1 h0 hs2 (.inr ⟨by omega, by omega⟩)).1.trans hQ.symm
  omega

/-- The way out ahead of a turn. -/
theorem doneI {n1 n0 u t Q : Nat} {a b : Int} (h1 : 2147483648 ≤ n1) (h0 : n0 < 4294967296)
    (hQ : Q = (u * 4294967296 + t) / (n1 * 4294967296 + n0))
    (h : InvI n1 n0 u t a b) (hc : a * n0 ≤ 4294967296 * b + t) : a = (Q : Int) := by
  obtain ⟨ha, hb, h3, h4⟩ := h
  obtain ⟨x, rfl⟩ := Int.eq_ofNat_of_zero_le ha
  obtain ⟨z, rfl⟩ := Int.eq_ofNat_of_zero_le hb
  simp only [Int.toNat_natCast] at h4
  have := (stop h1 h0 h4 (.inl (by rw [← Int.natCast_mul] at hc; omega))).1.trans hQ.symm
  omega
end Dv
end Go.Proofs.Ytjaclmhfagdfhaa
