/-
  DcPrint: THE PLAIN MATHEMATICS of digits, further: what is printed and what is parsed, and that they belong together.
-/
import Derived.Test.YtojmcndiooiehaaGreatDoorJ2

set_option linter.unusedSimpArgs false
set_option linter.unusedVariables false
namespace Go.Proofs.YtojmcndiooiehaaGreatDoor
namespace Dc

/-! ## what plain makes -/
theorem plainGo_acc (f : Nat) : ∀ (u : Nat) (s : List UInt8), plainGo f u s = plainGo f u [] ++ s := by
  induction f with
  | zero => intro u s; simp [plainGo]
  | succ f ih =>
    intro u s
    rw [plainGo, plainGo]
    split
    · simp
    · rw [ih (u / 10) (_ :: s), ih (u / 10) [_]]
      simp
theorem dig_toNat (u : Nat) : (UInt8.ofNat (48 + u % 10)).toNat = 48 + u % 10 := UInt8.toNat_ofNat_of_lt' (by show 48 + u % 10 < 256; omega)
theorem isD_dig (u : Nat) : isD (UInt8.ofNat (48 + u % 10)) = true := isD_iff.2 (by rw [dig_toNat]; omega)
theorem allD_append (a b : List UInt8) : allD (a ++ b) = (allD a && allD b) := by unfold allD; rw [List.all_append]
theorem allD_cons (c : UInt8) (l : List UInt8) : allD (c :: l) = (isD c && allD l) := rfl
theorem plainGo_num (f : Nat) : ∀ u, u < 10 ^ f → allD (plainGo f u []) = true ∧ num (plainGo f u []) = u := by
  induction f with
  | zero => intro u hu; simp at hu; subst hu; exact ⟨rfl, rfl⟩
  | succ f ih =>
    intro u hu
    rw [plainGo]
    split
    · rename_i h
      refine ⟨by rw [allD_cons, isD_dig]; rfl, ?_⟩
      rw [num_cons, dig_toNat]
      simp [num_nil]
      omega
    · rw [plainGo_acc]
      have hu' : u / 10 < 10 ^ f := by rw [Nat.pow_succ] at hu; omega
      obtain ⟨h1, h2⟩ := ih _ hu'
      refine ⟨by rw [allD_append, h1, allD_cons, isD_dig]; rfl, ?_⟩
      rw [num_append, h2, num_cons, dig_toNat]
      simp [num_nil]
      omega
theorem plain_all {u : Nat} (h : u < 10 ^ 20) : allD (plain u) = true := (plainGo_num 20 u h).1
theorem plain_num {u : Nat} (h : u < 10 ^ 20) : num (plain u) = u := (plainGo_num 20 u h).2
theorem plainGo_ne (f u : Nat) (s : List UInt8) : plainGo (f + 1) u s ≠ [] := by
  rw [plainGo]
  split
  · simp
  · rw [plainGo_acc]; simp
theorem plain_ne (u : Nat) : plain u ≠ [] := plainGo_ne 19 u []
theorem plainGo_exact (f : Nat) : ∀ (k u : Nat), k < f → 10 ^ k ≤ u → u < 10 ^ (k + 1) → (plainGo f u []).length = k + 1 := by
  induction f with
  | zero => intro k u h; omega
  | succ f ih =>
    intro k u h h1 h2
    rw [plainGo]
    cases k with
    | zero => rw [if_pos (by simp at h2; omega)]; rfl
    | succ k =>
      have h3 : 10 ^ k ≤ u / 10 := by rw [Nat.pow_succ] at h1; omega
      have h4 : u / 10 < 10 ^ (k + 1) := by rw [Nat.pow_succ] at h2; omega
      have h5 : 1 ≤ 10 ^ k := Nat.one_le_pow _ _ (by decide)
      rw [if_neg (by omega), plainGo_acc, List.length_append, ih k _ (by omega) h3 h4]
      rfl
theorem plain_len7 {u : Nat} (h1 : 1000000 ≤ u) (h2 : u < 10000000) : (plain u).length = 7 := plainGo_exact 20 6 u (by omega) (by simpa using h1) (by simpa using h2)

/-! ## the fraction's six digits -/
def six (n : Nat) : List UInt8 := (plain (1000000 + n)).drop 1
theorem six_len {n : Nat} (h : n < 1000000) : (six n).length = 6 := by
  unfold six; rw [List.length_drop, plain_len7 (by omega) (by omega)]
theorem allD_drop {l : List UInt8} (h : allD l = true) (k : Nat) : allD (l.drop k) = true := by
  unfold allD at *
  rw [List.all_eq_true] at *
  exact fun x hx => h x (List.mem_of_mem_drop hx)
theorem allD_take {l : List UInt8} (h : allD l = true) (k : Nat) : allD (l.take k) = true := by
  unfold allD at *
  rw [List.all_eq_true] at *
  exact fun x hx => h x (List.mem_of_mem_take hx)
theorem six_all {n : Nat} (h : n < 1000000) : allD (six n) = true := allD_drop (plain_all (Nat.lt_of_lt_of_le (by omega : 1000000 + n < 10000000) (by decide))) 1
theorem num_lt {l : List UInt8} (h : allD l = true) : num l < 10 ^ l.length := by
  induction l with
  | nil => simp [num_nil]
  | cons c r ih =>
    rw [allD_cons, Bool.and_eq_true] at h
    have h1 := isD_iff.1 h.1
    have h2 := ih h.2
    rw [num_cons, List.length_cons, Nat.pow_succ]
    have h3 : (c.toNat - 48) * 10 ^ r.length ≤ 9 * 10 ^ r.length := Nat.mul_le_mul_right _ (by omega)
    omega
theorem six_num {n : Nat} (h : n < 1000000) : num (six n) = n := by
  have hu : 1000000 + n < 10 ^ 20 := Nat.lt_of_lt_of_le (by omega : 1000000 + n < 10000000) (by decide)
  have h1 := plain_num hu
  have h2 := plain_len7 (u := 1000000 + n) (by omega) (by omega)
  have h3 := plain_all hu
  have h4 : six n = (plain (1000000 + n)).drop 1 := rfl
  rw [h4]
  generalize plain (1000000 + n) = p at *
  match p with
  | [] => simp at h2
  | c :: r =>
    rw [num_cons] at h1
    rw [allD_cons, Bool.and_eq_true] at h3
    have hr : r.length = 6 := by simpa using h2
    have h5 := num_lt h3.2
    have h6 := isD_iff.1 h3.1
    rw [hr] at h1 h5
    show num r = n
    omega
/-- Without the noughts at the end. -/
def trimZ (l : List UInt8) : List UInt8 := (l.reverse.dropWhile (· == 48)).reverse
theorem trimZ_spec (l : List UInt8) : ∃ k, l = trimZ l ++ List.replicate k 48 := by
  have h : l.reverse = l.reverse.takeWhile (· == 48) ++ l.reverse.dropWhile (· == 48) := List.takeWhile_append_dropWhile.symm
  refine ⟨(l.reverse.takeWhile (· == 48)).length, ?_⟩
  have e : l.reverse.takeWhile (· == 48) = List.replicate (l.reverse.takeWhile (· == 48)).length 48 := by
    apply List.eq_replicate_of_mem
    intro x hx
    have := List.all_takeWhile (p := (· == (48 : UInt8))) (l := l.reverse)
    rw [List.all_eq_true] at this
    simpa using this x hx
  have h2 := congrArg List.reverse h
  rw [List.reverse_reverse, List.reverse_append] at h2
  rw [e, List.reverse_replicate] at h2
  exact h2
theorem trimZ_snoc (l : List UInt8) : trimZ (l ++ [48]) = trimZ l := by unfold trimZ; simp
theorem trimZ_keep (l : List UInt8) (c : UInt8) (h : c ≠ 48) : trimZ (l ++ [c]) = l ++ [c] := by unfold trimZ; simp [h]
theorem num_zeros (k : Nat) : num (List.replicate k 48) = 0 := by
  induction k with
  | zero => rfl
  | succ k ih => rw [List.replicate_succ, num_cons, ih]; simp
theorem allD_zeros (k : Nat) : allD (List.replicate k 48) = true := by
  induction k with
  | zero => rfl
  | succ k ih => rw [List.replicate_succ, allD_cons, ih]; rfl
theorem fr_append (l : List UInt8) (j : Nat) : ∀ i, i ≤ l.length → fr (l ++ List.replicate j 48) i = fr l i
  | 0, _ => rfl
  | i + 1, h => by
    rw [fr, fr, fr_append l j i (by omega)]
    congr 1
    unfold dg
    rw [List.getElem?_append_left (by omega)]
theorem fr_num (l : List UInt8) : ∀ i, i ≤ l.length → fr l i = num (l.take i)
  | 0, _ => rfl
  | i + 1, h => by rw [fr, fr_num l i (by omega), num_take_succ l i (by omega), dg_in (by omega)]
theorem dg_zeros (l : List UInt8) (j i : Nat) (h : l.length ≤ i) : dg (l ++ List.replicate j 48) i = 0 := by
  unfold dg
  rw [List.getElem?_append_right h]
  cases h2 : (List.replicate j (48 : UInt8))[i - l.length]? with
  | none => rfl
  | some c =>
    have := List.mem_of_getElem? h2
    rw [List.mem_replicate] at this
    rw [this.2]; rfl
/-- Noughts behind the digits that there are turn nothing. -/
theorem fr_zeros (l : List UInt8) (j : Nat) : ∀ i, fr (l ++ List.replicate j 48) i = fr l i
  | 0 => rfl
  | i + 1 => by
    rw [fr, fr, fr_zeros l j i]
    congr 1
    by_cases h : i < l.length
    · unfold dg; rw [List.getElem?_append_left h]
    · rw [dg_zeros l j i (by omega), dg_out (by omega)]
theorem frac_zeros (l : List UInt8) (j : Nat) (h : l.length ≤ 6) : frac (l ++ List.replicate j 48) = fr l 6 := by
  unfold frac
  rw [if_neg, fr_zeros]
  rw [dg_zeros l j 6 h]; omega
theorem frac_short (l : List UInt8) (h : l.length ≤ 6) : frac l = fr l 6 := by
  unfold frac; rw [if_neg (by omega)]
theorem fr_six {n : Nat} (h : n < 1000000) : fr (six n) 6 = n := by
  have hl := six_len h
  rw [fr_num _ 6 (by omega), List.take_of_length_le (by omega), six_num h]
theorem trim_len (l : List UInt8) : (trimZ l).length ≤ l.length := by
  obtain ⟨k, h⟩ := trimZ_spec l
  have := congrArg List.length h
  rw [List.length_append] at this
  omega
theorem fr_trim (l : List UInt8) (i : Nat) : fr (trimZ l) i = fr l i := by
  obtain ⟨k, h⟩ := trimZ_spec l
  conv => rhs; rw [h]
  rw [fr_zeros]
theorem allD_trim {l : List UInt8} (h : allD l = true) : allD (trimZ l) = true := by
  obtain ⟨k, e⟩ := trimZ_spec l
  rw [e, allD_append, Bool.and_eq_true] at h
  exact h.1
theorem fr_trim_six {n : Nat} (h : n < 1000000) : fr (trimZ (six n)) 6 = n := by rw [fr_trim, fr_six h]
theorem trim_six_ne {n : Nat} (h : n < 1000000) (h0 : n ≠ 0) : trimZ (six n) ≠ [] := by
  intro e
  have := fr_trim_six h
  rw [e] at this
  exact h0 this.symm

/-! ## what is printed -/
def fracText (n : Nat) : List UInt8 := if n = 0 then [] else 46 :: trimZ (six n)
def knownB (b : Bool) (n : Int) : Bool := b && decide (-4611686018427387904 ≤ n ∧ n ≤ 4611686018427387904)
def sgn (n : Int) : List UInt8 := if n < 0 then [45] else []
/-- A number of millionths, without its sign, in digits. -/
def pbod (u : Nat) : List UInt8 := plain (u / 1000000) ++ fracText (u % 1000000)
def noneText : List UInt8 := [78, 111, 110, 101]
def pr (b : Bool) (n : Int) : List UInt8 := if knownB b n then sgn n ++ pbod n.natAbs else noneText

/-! ## what is parsed -/
def unsign (l : List UInt8) : List UInt8 := match l with | c :: r => if c = 45 ∨ c = 43 then r else c :: r | [] => []
def ahead (l : List UInt8) : List UInt8 := l.takeWhile (· != 46)
def tail46 (l : List UInt8) : List UInt8 := l.dropWhile (· != 46)
def behind (l : List UInt8) : List UInt8 := (tail46 l).drop 1
def dotted (l : List UInt8) : Bool := !(tail46 l).isEmpty
def form (b : List UInt8) : Bool := all (ahead b) && (!dotted b || all (behind b))
def prN (b : List UInt8) : Nat := num (ahead b) * 1000000 + frac (behind b)
def prOk (l : List UInt8) : Bool := form (unsign l) && decide (prN (unsign l) ≤ 4611686018427387904)
def prV (l : List UInt8) : Int := if prOk l then (if minus l then -(prN (unsign l) : Int) else (prN (unsign l) : Int)) else 0

theorem digit_ne46 {c : UInt8} (h : isD c = true) : (c != 46) = true := by
  have := isD_iff.1 h
  rw [bne_iff_ne]
  rintro rfl
  exact absurd this.1 (by decide)
theorem ahead_dot {a : List UInt8} (h : allD a = true) (b : List UInt8) : ahead (a ++ 46 :: b) = a ∧ tail46 (a ++ 46 :: b) = 46 :: b := by
  induction a with
  | nil => exact ⟨rfl, rfl⟩
  | cons c r ih =>
    rw [allD_cons, Bool.and_eq_true] at h
    have h1 := digit_ne46 h.1
    obtain ⟨i1, i2⟩ := ih h.2
    unfold ahead tail46 at *
    rw [List.cons_append, List.takeWhile_cons, List.dropWhile_cons, h1]
    simp only [if_true]
    exact ⟨by rw [i1], i2⟩
theorem ahead_plain {a : List UInt8} (h : allD a = true) : ahead a = a ∧ tail46 a = [] := by
  induction a with
  | nil => exact ⟨rfl, rfl⟩
  | cons c r ih =>
    rw [allD_cons, Bool.and_eq_true] at h
    have h1 := digit_ne46 h.1
    obtain ⟨i1, i2⟩ := ih h.2
    unfold ahead tail46 at *
    rw [List.takeWhile_cons, List.dropWhile_cons, h1]
    simp only [if_true]
    exact ⟨by rw [i1], i2⟩
theorem all_mk {a : List UInt8} (h : allD a = true) (hn : a ≠ []) : all a = true := by unfold all; rw [h, decide_eq_true hn]; rfl
theorem form_dot {a b : List UInt8} (ha : allD a = true) (na : a ≠ []) (hb : allD b = true) (nb : b ≠ []) : form (a ++ 46 :: b) = true ∧ prN (a ++ 46 :: b) = num a * 1000000 + frac b := by
  obtain ⟨h1, h2⟩ := ahead_dot ha b
  unfold form prN behind dotted
  rw [h1, h2]
  exact ⟨by rw [all_mk ha na, List.drop_one, List.tail_cons, all_mk hb nb]; rfl, rfl⟩
theorem form_plain {a : List UInt8} (ha : allD a = true) (na : a ≠ []) : form a = true ∧ prN a = num a * 1000000 := by
  obtain ⟨h1, h2⟩ := ahead_plain ha
  unfold form prN behind dotted
  rw [h1, h2]
  have h0 : frac (List.drop 1 []) = 0 := rfl
  exact ⟨by rw [all_mk ha na]; rfl, by rw [h0, Nat.add_zero]⟩
/-- The head of a row of digits is no sign. -/
theorem head_digit {a : List UInt8} (h : allD a = true) (b : List UInt8) (hn : a ≠ []) : minus (a ++ b) = false ∧ unsign (a ++ b) = a ++ b := by
  match a with
  | [] => exact absurd rfl hn
  | c :: r =>
    rw [allD_cons, Bool.and_eq_true] at h
    have := isD_iff.1 h.1
    have n1 : c ≠ 45 := by rintro rfl; exact absurd this.1 (by decide)
    have n2 : c ≠ 43 := by rintro rfl; exact absurd this.1 (by decide)
    refine ⟨?_, ?_⟩
    · show (c == 45) = false
      simpa using n1
    · show (if c = 45 ∨ c = 43 then r ++ b else c :: (r ++ b)) = _
      rw [if_neg (by rintro (h | h) <;> contradiction)]
      rfl
theorem sign_minus (b : List UInt8) : minus (45 :: b) = true ∧ unsign (45 :: b) = b := ⟨rfl, rfl⟩
/-- What is made of a sign and a body. -/
theorem parse_signed (neg : Bool) {a : List UInt8} (h : allD a = true) (b : List UInt8) (hn : a ≠ []) (N : Nat) (hf : form (a ++ b) = true) (hN : prN (a ++ b) = N) (hle : N ≤ 4611686018427387904) :
    prOk ((if neg then [45] else []) ++ (a ++ b)) = true ∧ prV ((if neg then [45] else []) ++ (a ++ b)) = if neg then -(N : Int) else (N : Int) := by
  cases neg with
  | true =>
    have e : (if true = true then [45] else []) ++ (a ++ b) = (45 : UInt8) :: (a ++ b) := rfl
    rw [e]
    have hok : prOk ((45 : UInt8) :: (a ++ b)) = true := by
      unfold prOk; rw [(sign_minus _).2, hf, hN, decide_eq_true hle]; rfl
    refine ⟨hok, ?_⟩
    unfold prV
    rw [hok, (sign_minus _).1, (sign_minus _).2, hN]
    rfl
  | false =>
    have e : (if false = true then [45] else []) ++ (a ++ b) = a ++ b := rfl
    rw [e]
    obtain ⟨m, u⟩ := head_digit h b hn
    have hok : prOk (a ++ b) = true := by
      unfold prOk; rw [u, hf, hN, decide_eq_true hle]; rfl
    refine ⟨hok, ?_⟩
    unfold prV
    rw [hok, m, u, hN]
    rfl
theorem lt20 {u : Nat} (h : u ≤ 18446744073709551615) : u < 10 ^ 20 := Nat.lt_of_le_of_lt h (by decide)
theorem pbod_form {u : Nat} (h : u ≤ 4611686018427387904) : form (pbod u) = true ∧ prN (pbod u) = u := by
  have hq : u / 1000000 < 10 ^ 20 := lt20 (by omega)
  have hr : u % 1000000 < 1000000 := Nat.mod_lt _ (by decide)
  unfold pbod fracText
  split
  · rename_i h0
    rw [List.append_nil]
    obtain ⟨f, n⟩ := form_plain (plain_all hq) (plain_ne _)
    exact ⟨f, by rw [n, plain_num hq]; omega⟩
  · rename_i h0
    obtain ⟨f, n⟩ := form_dot (plain_all hq) (plain_ne _) (allD_trim (six_all hr)) (trim_six_ne hr h0)
    refine ⟨f, ?_⟩
    rw [n, plain_num hq, frac_short _ (Nat.le_trans (trim_len _) (by rw [six_len hr]; omega)), fr_trim_six hr]
    omega
theorem parse_pr {b : Bool} {n : Int} (h : knownB b n = true) : prOk (pr b n) = true ∧ prV (pr b n) = n := by
  have hb : -4611686018427387904 ≤ n ∧ n ≤ 4611686018427387904 := by
    unfold knownB at h
    rw [Bool.and_eq_true, decide_eq_true_eq] at h
    exact h.2
  have hu : n.natAbs ≤ 4611686018427387904 := by omega
  have hp := parse_signed (decide (n < 0)) (plain_all (lt20 (by omega : n.natAbs / 1000000 ≤ 18446744073709551615))) (fracText (n.natAbs % 1000000)) (plain_ne _) n.natAbs (pbod_form hu).1 (pbod_form hu).2 hu
  have e : pr b n = (if decide (n < 0) = true then [45] else []) ++ (plain (n.natAbs / 1000000) ++ fracText (n.natAbs % 1000000)) := by
    unfold pr sgn
    rw [if_pos h]
    simp [pbod]
  rw [e]
  refine ⟨hp.1, hp.2.trans ?_⟩
  by_cases hn : n < 0
  · rw [if_pos (decide_eq_true hn)]; omega
  · rw [if_neg (by simpa using hn)]; omega
theorem none_not : prOk noneText = false := rfl
theorem pr_not {b : Bool} {n : Int} (h : knownB b n = false) : pr b n = noneText := by unfold pr; rw [h]; rfl

/-! ## whole numbers there and back -/
theorem body_plain {u : Nat} (h : u < 10 ^ 20) : minus (plain u) = false ∧ body (plain u) = plain u := by
  have := head_digit (plain_all h) [] (plain_ne u)
  rw [List.append_nil] at this
  refine ⟨this.1, ?_⟩
  unfold body
  rw [this.1]
  rfl
theorem wh_digits {n : Int} (h1 : -9223372036854775808 ≤ n) (h2 : n ≤ 9223372036854775807) :
    whOk (digits n) = decide (-4611686018427387904 ≤ n ∧ n ≤ 4611686018427387904) ∧ (whOk (digits n) = true → whN (digits n) = n) := by
  have hu : n.natAbs < 10 ^ 20 := lt20 (by omega)
  have ha := all_mk (plain_all hu) (plain_ne n.natAbs)
  by_cases hn : n < 0
  · have e : digits n = 45 :: plain n.natAbs := by unfold digits; rw [if_pos hn]
    have m : minus (digits n) = true := by rw [e]; rfl
    have bd : body (digits n) = plain n.natAbs := by unfold body; rw [m, e]; rfl
    have hok : whOk (digits n) = decide (n.natAbs ≤ 4611686018427387904) := by
      unfold whOk; rw [bd, ha, plain_num hu]; rfl
    refine ⟨by rw [hok, decide_eq_decide]; omega, fun h => ?_⟩
    unfold whN
    rw [h, m, bd, plain_num hu]
    simp only [if_true]
    omega
  · have e : digits n = plain n.natAbs := by unfold digits; rw [if_neg hn]
    obtain ⟨m', bd'⟩ := body_plain hu
    have m : minus (digits n) = false := by rw [e]; exact m'
    have bd : body (digits n) = plain n.natAbs := by rw [e]; exact bd'
    have hok : whOk (digits n) = decide (n.natAbs ≤ 4611686018427387904) := by
      unfold whOk; rw [bd, ha, plain_num hu]; rfl
    refine ⟨by rw [hok, decide_eq_decide]; omega, fun h => ?_⟩
    unfold whN
    rw [h, m, bd, plain_num hu]
    simp
    omega

/-! ## noughts; digits behind the sixth -/
theorem noughts_parse {u : Nat} (hu : u ≤ 4611686018427387904) (neg : Bool) (a k : Nat) (hk : 1 ≤ k) :
    prOk ((if neg then [45] else []) ++ (List.replicate a 48 ++ (plain (u / 1000000) ++ 46 :: (trimZ (six (u % 1000000)) ++ List.replicate k 48)))) = true ∧
    prV ((if neg then [45] else []) ++ (List.replicate a 48 ++ (plain (u / 1000000) ++ 46 :: (trimZ (six (u % 1000000)) ++ List.replicate k 48)))) = if neg then -(u : Int) else (u : Int) := by
  have hq : u / 1000000 < 10 ^ 20 := lt20 (by omega)
  have hr : u % 1000000 < 1000000 := Nat.mod_lt _ (by decide)
  have hA : allD (List.replicate a 48 ++ plain (u / 1000000)) = true := by rw [allD_append, allD_zeros, plain_all hq]; rfl
  have nA : List.replicate a 48 ++ plain (u / 1000000) ≠ [] := by intro e; exact plain_ne _ (List.append_eq_nil_iff.1 e).2
  have hB : allD (trimZ (six (u % 1000000)) ++ List.replicate k 48) = true := by rw [allD_append, allD_zeros, allD_trim (six_all hr)]; rfl
  have nB : trimZ (six (u % 1000000)) ++ List.replicate k 48 ≠ [] := by
    intro e
    have := congrArg List.length (List.append_eq_nil_iff.1 e).2
    simp at this
    omega
  obtain ⟨f, n⟩ := form_dot hA nA hB nB
  rw [frac_zeros _ _ (Nat.le_trans (trim_len _) (by rw [six_len hr]; omega)), fr_trim_six hr, num_append, num_zeros, plain_num hq] at n
  have hN : prN (List.replicate a 48 ++ plain (u / 1000000) ++ 46 :: (trimZ (six (u % 1000000)) ++ List.replicate k 48)) = u := by rw [n]; omega
  have := parse_signed neg hA _ nA u f hN hu
  rw [List.append_assoc] at this
  exact this
theorem rounds_parse {u : Nat} (hu : u < 4611686018427387904) (neg : Bool) (c : UInt8) (hc : isD c = true) :
    prOk ((if neg then [45] else []) ++ (plain (u / 1000000) ++ 46 :: (six (u % 1000000) ++ [c]))) = true ∧
    prV ((if neg then [45] else []) ++ (plain (u / 1000000) ++ 46 :: (six (u % 1000000) ++ [c]))) = if neg then -((if 53 ≤ c.toNat then u + 1 else u : Nat) : Int) else ((if 53 ≤ c.toNat then u + 1 else u : Nat) : Int) := by
  have hq : u / 1000000 < 10 ^ 20 := lt20 (by omega)
  have hr : u % 1000000 < 1000000 := Nat.mod_lt _ (by decide)
  have hB : allD (six (u % 1000000) ++ [c]) = true := by rw [allD_append, six_all hr, allD_cons, hc]; rfl
  have nB : six (u % 1000000) ++ [c] ≠ [] := by simp
  obtain ⟨f, n⟩ := form_dot (plain_all hq) (plain_ne _) hB nB
  have hl := six_len hr
  have e6 : fr (six (u % 1000000) ++ [c]) 6 = u % 1000000 := by
    rw [fr_num _ 6 (by rw [List.length_append]; omega), List.take_append_of_le_length (by omega), List.take_of_length_le (by omega), six_num hr]
  have d6 : dg (six (u % 1000000) ++ [c]) 6 = c.toNat - 48 := by
    unfold dg
    rw [List.getElem?_append_right (by omega), hl]
    rfl
  have hd := isD_iff.1 hc
  have hN : prN (plain (u / 1000000) ++ 46 :: (six (u % 1000000) ++ [c])) = if 53 ≤ c.toNat then u + 1 else u := by
    rw [n, plain_num hq]
    unfold frac
    rw [e6, d6]
    by_cases h5 : 53 ≤ c.toNat
    · rw [if_pos h5, if_pos ⟨by rw [List.length_append, hl]; simp, by omega⟩]; omega
    · rw [if_neg h5, if_neg (by omega)]; omega
  exact parse_signed neg (plain_all hq) _ (plain_ne _) _ f hN (by split <;> omega)
end Dc
end Go.Proofs.YtojmcndiooiehaaGreatDoor
