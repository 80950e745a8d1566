/-
  LxP: PLAIN: chapter 14: the words of a text. No program.
  DcPure: THE PLAIN MATHEMATICS of digits: the document's own answers of chapter 2, over lists of bytes.
-/
import Derived.Test.YtojmcndiooiehaaGreatDoorJ1
import Derived.Lib.Hide
import Derived.WalkKit

set_option linter.unusedSimpArgs false
set_option linter.unusedVariables false
namespace Go.Proofs.YtojmcndiooiehaaGreatDoor
open Go.RowKit

namespace Lx
/-- A token: its kind, its text. -/
abbrev Tok := Int × List UInt8
def isL (c : UInt8) : Bool := (decide (65 ≤ c.toNat) && decide (c.toNat ≤ 90)) || (decide (97 ≤ c.toNat) && decide (c.toNat ≤ 122))
def isI (c : UInt8) : Bool := isL c || (decide (48 ≤ c.toNat) && decide (c.toNat ≤ 57)) || c == 95
def extra : List UInt8 := [45, 58, 35, 37, 64, 61, 46, 42, 63, 91, 93, 123, 125, 43]
def extra2 : List UInt8 := [46, 42, 63, 91, 93, 123, 125, 43]
/-- May this byte be in a word, braces aside? -/
def inW (c : UInt8) : Bool := isI c || extra.contains c
def may (c : UInt8) (d : Int) : Bool := inW c || (decide (0 < d) && c == 44)
def dep (c : UInt8) (d : Int) : Int := if c = 123 then d + 1 else if c = 125 then d - 1 else d
/-- How many bytes of a word stand here, where so many braces are open; none: its braces don't match. -/
def scan : List UInt8 → Int → Option Nat
  | [], d => if d = 0 then some 0 else none
  | c :: r, d => if may c d = true then (if dep c d < 0 then none else (scan r (dep c d)).map (· + 1)) else if d = 0 then some 0 else none
def idx (q : UInt8) (l : List UInt8) : Nat := (l.takeWhile (· != q)).length
def blank (c : UInt8) : Bool := c == 32 || c == 9
/-- The token that begins with c, and how many bytes of what is behind c it has. -/
def token (c : UInt8) (r : List UInt8) : Option (Tok × Nat) :=
  if c = 40 then some ((3, []), 0) else if c = 41 then some ((4, []), 0) else if c = 44 then some ((5, []), 0)
  else if c = 34 ∨ c = 39 then (if idx c r < r.length then some ((2, r.take (idx c r)), idx c r + 1) else none)
  else match scan (c :: r) 0 with
    | some (n + 1) => some ((1, (c :: r).take (n + 1)), n)
    | _ => none
def lexF : Nat → List UInt8 → Option (List Tok)
  | _, [] => some []
  | 0, _ :: _ => none
  | f + 1, c :: r => if blank c = true then lexF f r else match token c r with
    | none => none
    | some (t, n) => (lexF f (r.drop n)).map (t :: ·)
/-- All tokens of a text. -/
def lex (l : List UInt8) : Option (List Tok) := lexF l.length l

theorem lexF_more : ∀ (f g : Nat) (l : List UInt8), l.length ≤ f → l.length ≤ g → lexF f l = lexF g l
  | _, _, [], _, _ => by simp [lexF]
  | 0, _, _ :: _, h, _ => by simp at h
  | _, 0, _ :: _, _, h => by simp at h
  | f + 1, g + 1, c :: r, hf, hg => by
    have hf : r.length ≤ f := by simpa using hf
    have hg : r.length ≤ g := by simpa using hg
    rw [lexF, lexF]
    split
    · exact lexF_more f g r hf hg
    · cases token c r with
      | none => rfl
      | some p =>
        obtain ⟨t, n⟩ := p
        show (lexF f (r.drop n)).map _ = (lexF g (r.drop n)).map _
        rw [lexF_more f g (r.drop n) (by simp; omega) (by simp; omega)]
theorem lex_nil : lex [] = some [] := rfl
theorem lex_blank {c : UInt8} (h : blank c = true) (r : List UInt8) : lex (c :: r) = lex r := by
  show lexF (r.length + 1) (c :: r) = _
  rw [lexF, if_pos h]; rfl
theorem lex_bad {c : UInt8} (h : blank c = false) {r : List UInt8} (ht : token c r = none) : lex (c :: r) = none := by
  show lexF (r.length + 1) (c :: r) = _
  rw [lexF, if_neg (by simp [h]), ht]
theorem lex_tok {c : UInt8} (h : blank c = false) {r : List UInt8} {t : Tok} {n : Nat} (ht : token c r = some (t, n)) : lex (c :: r) = (lex (r.drop n)).map (t :: ·) := by
  show lexF (r.length + 1) (c :: r) = _
  rw [lexF, if_neg (by simp [h]), ht]
  show (lexF r.length (r.drop n)).map _ = (lexF (r.drop n).length (r.drop n)).map _
  rw [lexF_more r.length (r.drop n).length (r.drop n) (by simp) (Nat.le_refl _)]
def skipB (l : List UInt8) : List UInt8 := l.dropWhile blank
theorem lex_skip (l : List UInt8) : lex (skipB l) = lex l := by
  induction l with
  | nil => rfl
  | cons c r ih =>
    unfold skipB
    rw [List.dropWhile_cons]
    split
    · rename_i h; rw [lex_blank h]; exact ih
    · rfl
theorem skipB_head {l : List UInt8} {c : UInt8} {r : List UInt8} (h : skipB l = c :: r) : blank c = false := by
  induction l with
  | nil => cases h
  | cons a t ih =>
    unfold skipB at h
    rw [List.dropWhile_cons] at h
    split at h
    · exact ih h
    · rename_i hb
      injection h with h1 h2
      subst h1
      simpa using hb
theorem skipB_len (l : List UInt8) : (skipB l).length ≤ l.length := by
  induction l with
  | nil => exact Nat.le_refl _
  | cons a t ih =>
    unfold skipB
    rw [List.dropWhile_cons]
    split
    · exact Nat.le_trans ih (by simp)
    · exact Nat.le_refl _
theorem idx_le (q : UInt8) (l : List UInt8) : idx q l ≤ l.length := by
  induction l with
  | nil => exact Nat.le_refl _
  | cons a t ih =>
    unfold idx
    rw [List.takeWhile_cons]
    split
    · exact Nat.succ_le_succ ih
    · exact Nat.zero_le _
theorem scan_le : ∀ (l : List UInt8) (d : Int) (n : Nat), scan l d = some n → n ≤ l.length
  | [], d, n, h => by
    rw [scan] at h
    split at h
    · have := Option.some.inj h; omega
    · cases h
  | c :: r, d, n, h => by
    rw [scan] at h
    split at h
    · split at h
      · cases h
      · cases hs : scan r (dep c d) with
        | none => rw [hs] at h; cases h
        | some k =>
          rw [hs] at h
          have h2 : k + 1 = n := Option.some.inj h
          have := scan_le r _ k hs
          simp; omega
    · split at h
      · have := Option.some.inj h; omega
      · cases h
theorem token_le {c : UInt8} {r : List UInt8} {t : Tok} {n : Nat} (h : token c r = some (t, n)) : n ≤ r.length ∧ t.2.length ≤ r.length + 1 := by
  unfold token at h
  split at h
  · injection h with h; injection h with h1 h2; subst h1; subst h2; simp
  · split at h
    · injection h with h; injection h with h1 h2; subst h1; subst h2; simp
    · split at h
      · injection h with h; injection h with h1 h2; subst h1; subst h2; simp
      · split at h
        · split at h
          · injection h with h; injection h with h1 h2; subst h1; subst h2; simp; omega
          · cases h
        · split at h
          · rename_i k hs
            have := scan_le _ _ _ hs
            injection h with h; injection h with h1 h2; subst h1; subst h2
            simp at this ⊢; omega
          · cases h
/-- Texts of tokens are no longer than what they were read of. -/
theorem lexF_len : ∀ (f : Nat) (l : List UInt8) (x : List Tok), lexF f l = some x → ∀ t ∈ x, t.2.length ≤ l.length
  | _, [], x, h => by
    rw [lexF] at h
    have := Option.some.inj h
    subst this
    intro t ht; cases ht
  | 0, _ :: _, x, h => by cases h
  | f + 1, c :: r, x, h => by
    rw [lexF] at h
    split at h
    · intro t ht
      exact Nat.le_trans (lexF_len f r x h t ht) (by simp)
    · cases hk : token c r with
      | none => rw [hk] at h; cases h
      | some p =>
        obtain ⟨t0, n⟩ := p
        rw [hk] at h
        have h : (lexF f (r.drop n)).map (t0 :: ·) = some x := h
        cases hl : lexF f (r.drop n) with
        | none => rw [hl] at h; cases h
        | some y =>
          rw [hl] at h
          have := Option.some.inj h
          subst this
          intro t ht
          rcases List.mem_cons.1 ht with rfl | ht
          · simpa using (token_le hk).2
          · have := lexF_len f _ y hl t ht
            simp at this ⊢; omega
theorem lexF_count : ∀ (f : Nat) (l : List UInt8) (x : List Tok), lexF f l = some x → x.length ≤ l.length
  | _, [], x, h => by
    rw [lexF] at h
    have := Option.some.inj h
    subst this
    exact Nat.le_refl _
  | 0, _ :: _, x, h => by cases h
  | f + 1, c :: r, x, h => by
    rw [lexF] at h
    split at h
    · exact Nat.le_trans (lexF_count f r x h) (by simp)
    · cases hk : token c r with
      | none => rw [hk] at h; cases h
      | some p =>
        obtain ⟨t0, n⟩ := p
        rw [hk] at h
        have h : (lexF f (r.drop n)).map (t0 :: ·) = some x := h
        cases hl : lexF f (r.drop n) with
        | none => rw [hl] at h; cases h
        | some y =>
          rw [hl] at h
          have := Option.some.inj h
          subst this
          have := lexF_count f _ y hl
          simp at this ⊢; omega
theorem lex_len {l : List UInt8} {x : List Tok} (h : lex l = some x) : ∀ t ∈ x, t.2.length ≤ l.length := lexF_len _ _ _ h
theorem lex_count {l : List UInt8} {x : List Tok} (h : lex l = some x) : x.length ≤ l.length := lexF_count _ _ _ h

/-! ## a path -/
/-- Is all of it one word? -/
def pathOf (l : List UInt8) : Bool := decide (scan l 0 = some l.length) && decide (0 < l.length) && !l.contains 43
theorem inW_not {c : UInt8} (h : may c 0 = true) : blank c = false ∧ c ≠ 40 ∧ c ≠ 41 ∧ c ≠ 44 ∧ ¬ (c = 34 ∨ c = 39) := by
  refine ⟨?_, ?_, ?_, ?_, ?_⟩
  · cases hb : blank c
    · rfl
    · have : c = 32 ∨ c = 9 := by simpa [blank] using hb
      rcases this with rfl | rfl <;> revert h <;> decide
  · rintro rfl; revert h; decide
  · rintro rfl; revert h; decide
  · rintro rfl; revert h; decide
  · rintro (rfl | rfl) <;> revert h <;> decide
theorem one_word (l : List UInt8) : (lex l = some [(1, l)]) ↔ (scan l 0 = some l.length ∧ 0 < l.length) := by
  cases l with
  | nil => constructor
           · intro h; have := Option.some.inj h; cases this
           · rintro ⟨_, h⟩; cases h
  | cons c r =>
    constructor
    · intro h
      refine ⟨?_, by simp⟩
      cases hb : blank c
      · cases hk : token c r with
        | none => rw [lex_bad hb hk] at h; cases h
        | some p =>
          obtain ⟨t, n⟩ := p
          rw [lex_tok hb hk] at h
          cases hl : lex (r.drop n) with
          | none => rw [hl] at h; cases h
          | some y =>
            rw [hl] at h
            have h := Option.some.inj h
            injection h with h1 h2
            subst h1
            unfold token at hk
            split at hk
            · injection hk with hk; injection hk with k1 k2; injection k1 with k1 k3; cases k1
            · split at hk
              · injection hk with hk; injection hk with k1 k2; injection k1 with k1 k3; cases k1
              · split at hk
                · injection hk with hk; injection hk with k1 k2; injection k1 with k1 k3; cases k1
                · split at hk
                  · split at hk
                    · injection hk with hk; injection hk with k1 k2; injection k1 with k1 k3; cases k1
                    · cases hk
                  · split at hk
                    · rename_i k hs
                      have h4 := scan_le _ _ _ hs
                      injection hk with hk; injection hk with k1 k2; injection k1 with k1 k3
                      have := congrArg List.length k3
                      rw [List.length_take] at this
                      rw [hs]
                      congr 1
                      omega
                    · cases hk
      · rw [lex_blank hb] at h
        have := lex_len h (1, c :: r) (by simp)
        simp at this
        omega
    · rintro ⟨h, _⟩
      have hm : may c 0 = true := by
        cases hm : may c 0
        · rw [scan, if_neg (by simp [hm]), if_pos rfl] at h
          have := Option.some.inj h
          simp at this
        · rfl
      obtain ⟨hb, h1, h2, h3, h4⟩ := inW_not hm
      have hk : token c r = some ((1, c :: r), r.length) := by
        unfold token
        rw [if_neg h1, if_neg h2, if_neg h3, if_neg h4, h]
        show some (((1 : Int), (c :: r).take (r.length + 1)), r.length) = _
        rw [List.take_of_length_le (by simp)]
      rw [lex_tok hb hk, List.drop_length]
      rfl

/-! ## what a text begins with -/
def hdIs (c : UInt8) : List UInt8 → Bool
  | [] => false
  | b :: _ => decide (b = c)
def cutH (c : UInt8) (l : List UInt8) : List UInt8 := if hdIs c l = true then l.drop 1 else l

/-! ## a name -/
def headL : List UInt8 → Bool
  | [] => false
  | c :: _ => isL c
def identOf (l : List UInt8) : Bool := l.all isI && headL l

/-! ## texts behind one another -/
/-- A byte at which each word ends. -/
def stop (c : UInt8) : Bool := c == 32 || c == 9 || c == 40 || c == 41 || c == 44
theorem stop_may {c : UInt8} (h : stop c = true) : may c 0 = false := by
  have : c = 32 ∨ c = 9 ∨ c = 40 ∨ c = 41 ∨ c = 44 := by simpa [stop, or_assoc] using h
  rcases this with rfl | rfl | rfl | rfl | rfl <;> decide
theorem scan_app {c : UInt8} (hc : stop c = true) (m : List UInt8) : ∀ (l : List UInt8) (d : Int) (n : Nat), scan l d = some n → scan (l ++ c :: m) d = some n
  | [], d, n, h => by
    rw [scan] at h
    split at h
    · rename_i hd
      subst hd
      show scan (c :: m) 0 = _
      rw [scan, if_neg (by simp [stop_may hc]), if_pos rfl]
      exact h
    · cases h
  | a :: r, d, n, h => by
    rw [scan] at h
    show scan (a :: (r ++ c :: m)) d = _
    rw [scan]
    split at h
    · rename_i hm
      rw [if_pos hm]
      split at h
      · cases h
      · rename_i hd
        rw [if_neg hd]
        cases hs : scan r (dep a d) with
        | none => rw [hs] at h; cases h
        | some k => rw [hs] at h; rw [scan_app hc m r _ k hs]; exact h
    · rename_i hm
      rw [if_neg hm]
      exact h
theorem idx_app {q : UInt8} (l m : List UInt8) (h : idx q l < l.length) : idx q (l ++ m) = idx q l := by
  induction l with
  | nil => cases h
  | cons a t ih =>
    unfold idx at h ⊢
    rw [List.cons_append, List.takeWhile_cons]
    rw [List.takeWhile_cons] at h ⊢
    split
    · rename_i hq
      rw [if_pos hq] at h
      have := ih (by unfold idx; simpa using h)
      unfold idx at this
      simp [this]
    · rfl
theorem token_app {c : UInt8} (hc : stop c = true) (m : List UInt8) {a : UInt8} {r : List UInt8} {t : Tok} {n : Nat} (h : token a r = some (t, n)) : token a (r ++ c :: m) = some (t, n) := by
  have hle := (token_le h).1
  unfold token at h ⊢
  split
  · rename_i h1; rw [if_pos h1] at h; exact h
  · rename_i h1
    rw [if_neg h1] at h
    split
    · rename_i h2; rw [if_pos h2] at h; exact h
    · rename_i h2
      rw [if_neg h2] at h
      split
      · rename_i h3; rw [if_pos h3] at h; exact h
      · rename_i h3
        rw [if_neg h3] at h
        split
        · rename_i h4
          rw [if_pos h4] at h
          split at h
          · rename_i h5
            rw [idx_app r (c :: m) h5, if_pos (by simp; omega), List.take_append_of_le_length (Nat.le_of_lt h5)]
            exact h
          · cases h
        · rename_i h4
          rw [if_neg h4] at h
          cases hs : scan (a :: r) 0 with
          | none => rw [hs] at h; cases h
          | some k =>
            have hk := scan_le _ _ _ hs
            rw [hs] at h
            have h6 : scan (a :: (r ++ c :: m)) 0 = some k := scan_app hc m (a :: r) 0 k hs
            rw [h6]
            cases k with
            | zero => exact h
            | succ k =>
              have h7 : (a :: (r ++ c :: m)).take (k + 1) = (a :: r).take (k + 1) := by
                rw [← List.cons_append, List.take_append_of_le_length hk]
              show some (((1 : Int), (a :: (r ++ c :: m)).take (k + 1)), k) = _
              rw [h7]
              exact h
theorem lex_app {c : UInt8} (hc : stop c = true) (m : List UInt8) : ∀ (f : Nat) (l : List UInt8) (x : List Tok), l.length ≤ f → lex l = some x → lex (l ++ c :: m) = (lex (c :: m)).map (x ++ ·)
  | _, [], x, _, h => by
    have := Option.some.inj h
    subst this
    show lex (c :: m) = _
    cases lex (c :: m) <;> rfl
  | 0, _ :: _, _, hf, _ => by simp at hf
  | f + 1, a :: r, x, hf, h => by
    have hf : r.length ≤ f := by simpa using hf
    show lex (a :: (r ++ c :: m)) = _
    cases hb : blank a
    · cases hk : token a r with
      | none => rw [lex_bad hb hk] at h; cases h
      | some p =>
        obtain ⟨t, n⟩ := p
        rw [lex_tok hb hk] at h
        rw [lex_tok hb (token_app hc m hk), List.drop_append_of_le_length (token_le hk).1]
        cases hl : lex (r.drop n) with
        | none => rw [hl] at h; cases h
        | some y =>
          rw [hl] at h
          have := Option.some.inj h
          subst this
          rw [lex_app hc m f (r.drop n) y (by simp; omega) hl]
          cases lex (c :: m) <;> rfl
    · rw [lex_blank hb] at h
      rw [lex_blank hb]
      exact lex_app hc m f r x hf h
def gap (n : Nat) : List UInt8 := List.replicate n 32
theorem lex_gap (n : Nat) (l : List UInt8) : lex (gap n ++ l) = lex l := by
  induction n with
  | zero => rfl
  | succ n ih =>
    show lex (32 :: (gap n ++ l)) = _
    rw [lex_blank (by decide)]
    exact ih
theorem lex_gap_end (n : Nat) {l : List UInt8} {x : List Tok} (h : lex l = some x) : lex (l ++ gap n) = some x := by
  cases n with
  | zero => show lex (l ++ []) = _; rw [List.append_nil]; exact h
  | succ n =>
    show lex (l ++ 32 :: gap n) = _
    rw [lex_app (by decide) _ l.length l x (Nat.le_refl _) h, lex_blank (by decide)]
    have := lex_gap n []
    rw [List.append_nil] at this
    rw [this, lex_nil]
    show some (x ++ []) = _
    rw [List.append_nil]
/-- A sign. -/
def signs (c : UInt8) : Bool := c == 40 || c == 41 || c == 44
theorem lex_sign {c : UInt8} (hc : signs c = true) : ∃ k : Int, ∀ m, lex (c :: m) = (lex m).map ([(k, [])] ++ ·) := by
  have : c = 40 ∨ c = 41 ∨ c = 44 := by simpa [signs, or_assoc] using hc
  rcases this with rfl | rfl | rfl
  · exact ⟨3, fun m => lex_tok (by decide) (t := (3, [])) (n := 0) (by unfold token; rfl)⟩
  · exact ⟨4, fun m => lex_tok (by decide) (t := (4, [])) (n := 0) (by unfold token; rfl)⟩
  · exact ⟨5, fun m => lex_tok (by decide) (t := (5, [])) (n := 0) (by unfold token; rfl)⟩
theorem lex_blanks {a b : List UInt8} {x y z : List Tok} {c : UInt8} (hc : signs c = true) (n : Nat) (ha : lex a = some x) (hb : lex b = some y) (hz : lex [c] = some z) :
    lex (gap n ++ a ++ gap n ++ [c] ++ gap n ++ b ++ gap n) = some (x ++ (z ++ y)) := by
  obtain ⟨k, hk⟩ := lex_sign hc
  have hz2 := hk []
  rw [hz, lex_nil] at hz2
  have hz3 : z = [(k, [])] := by have := Option.some.inj hz2; simpa using this
  have hs : stop c = true := by
    have : c = 40 ∨ c = 41 ∨ c = 44 := by simpa [signs, or_assoc] using hc
    rcases this with rfl | rfl | rfl <;> decide
  have e : gap n ++ a ++ gap n ++ [c] ++ gap n ++ b ++ gap n = gap n ++ ((a ++ gap n) ++ c :: (gap n ++ (b ++ gap n))) := by simp
  rw [e, lex_gap, lex_app hs _ _ _ x (Nat.le_refl _) (lex_gap_end n ha), hk, lex_gap, lex_gap_end n hb, hz3]
  rfl
end Lx
end Go.Proofs.YtojmcndiooiehaaGreatDoor

namespace Go.Proofs.YtojmcndiooiehaaGreatDoor
namespace Dc

def isD (c : UInt8) : Bool := decide (48 ≤ c.toNat ∧ c.toNat ≤ 57)
def allD (l : List UInt8) : Bool := l.all isD
def all (l : List UInt8) : Bool := allD l && decide (l ≠ [])
theorem isD_iff {c : UInt8} : isD c = true ↔ 48 ≤ c.toNat ∧ c.toNat ≤ 57 := by unfold isD; simp
theorem allD_take_succ (l : List UInt8) (k : Nat) (h : k < l.length) : allD (l.take (k + 1)) = (allD (l.take k) && isD l[k]) := by
  unfold allD
  rw [List.take_succ_eq_append_getElem h, List.all_append]
  simp
theorem allD_false {l : List UInt8} {k : Nat} (h : k < l.length) (hd : isD l[k] = false) : allD l = false := by
  unfold allD
  rw [List.all_eq_false]
  exact ⟨l[k], List.getElem_mem h, by simp [hd]⟩
/-- Without the noughts ahead, but one. -/
def strip : List UInt8 → List UInt8
  | c :: d :: r => if c = 48 then strip (d :: r) else c :: d :: r
  | l => l
/-- Digits as a number, capped ahead of each step. -/
def wholeGo : Nat → List UInt8 → Option Nat
  | n, [] => some n
  | n, c :: r => if isD c = true ∧ n ≤ 461168601842738789 then wholeGo (n * 10 + (c.toNat - 48)) r else none
def wholeN (l : List UInt8) : Int := match wholeGo 0 l with | some n => (n : Int) | none => 0
def wholeB (l : List UInt8) : Bool := match wholeGo 0 l with | some _ => decide (l ≠ []) | none => false
/-- The digit at a place, 0 behind the end. -/
def dg (l : List UInt8) (i : Nat) : Nat := match l[i]? with | some c => c.toNat - 48 | none => 0
def fr (l : List UInt8) : Nat → Nat
  | 0 => 0
  | i + 1 => fr l i * 10 + dg l i
/-- The millionths of digits behind the dot, rounded. -/
def frac (l : List UInt8) : Nat := if 6 < l.length ∧ 5 ≤ dg l 6 then fr l 6 + 1 else fr l 6
theorem isD_of_allD {l : List UInt8} (h : allD l = true) (i : Nat) (hi : i < l.length) : isD l[i] = true := by
  unfold allD at h
  exact List.all_eq_true.1 h _ (List.getElem_mem hi)
theorem dg_in {l : List UInt8} {i : Nat} (hi : i < l.length) : dg l i = l[i].toNat - 48 := by
  unfold dg; rw [List.getElem?_eq_getElem hi]
theorem dg_out {l : List UInt8} {i : Nat} (hi : l.length ≤ i) : dg l i = 0 := by
  unfold dg; rw [List.getElem?_eq_none hi]
theorem dg_le {l : List UInt8} (h : allD l = true) (i : Nat) : dg l i ≤ 9 := by
  by_cases hi : i < l.length
  · rw [dg_in hi]
    have := isD_iff.1 (isD_of_allD h i hi)
    omega
  · rw [dg_out (by omega)]; omega
theorem fr_lt {l : List UInt8} (h : allD l = true) : ∀ i, fr l i < 10 ^ i
  | 0 => by simp [fr]
  | i + 1 => by
    have := fr_lt h i
    have := dg_le h i
    rw [fr, Nat.pow_succ]
    omega
/-- A number in digits, put ahead of what is there. -/
def plainGo : Nat → Nat → List UInt8 → List UInt8
  | 0, _, s => s
  | f + 1, u, s => if u / 10 = 0 then UInt8.ofNat (48 + u % 10) :: s else plainGo f (u / 10) (UInt8.ofNat (48 + u % 10) :: s)
def plain (u : Nat) : List UInt8 := plainGo 20 u []
/-- Digits as a number, of any size. -/
def numFrom (n : Nat) (l : List UInt8) : Nat := l.foldl (fun n c => n * 10 + (c.toNat - 48)) n
def num (l : List UInt8) : Nat := numFrom 0 l
theorem numFrom_eq (l : List UInt8) : ∀ n, numFrom n l = n * 10 ^ l.length + num l := by
  induction l with
  | nil => intro n; simp [numFrom, num]
  | cons c r ih =>
    intro n
    have h1 : numFrom n (c :: r) = numFrom (n * 10 + (c.toNat - 48)) r := rfl
    have h2 : num (c :: r) = numFrom (0 * 10 + (c.toNat - 48)) r := rfl
    rw [h1, h2, ih, ih (0 * 10 + (c.toNat - 48)), List.length_cons, Nat.pow_succ, Nat.zero_mul, Nat.zero_add, Nat.add_mul, Nat.mul_assoc n 10, Nat.mul_comm 10]
    omega
theorem num_nil : num [] = 0 := rfl
theorem num_cons (c : UInt8) (r : List UInt8) : num (c :: r) = (c.toNat - 48) * 10 ^ r.length + num r := by
  have h2 : num (c :: r) = numFrom (0 * 10 + (c.toNat - 48)) r := rfl
  rw [h2, numFrom_eq, Nat.zero_mul, Nat.zero_add]
theorem num_append (a b : List UInt8) : num (a ++ b) = num a * 10 ^ b.length + num b := by
  have h : num (a ++ b) = numFrom (num a) b := by unfold num numFrom; rw [List.foldl_append]
  rw [h, numFrom_eq]
theorem num_take_succ (l : List UInt8) (k : Nat) (h : k < l.length) : num (l.take (k + 1)) = num (l.take k) * 10 + (l[k].toNat - 48) := by
  rw [List.take_succ_eq_append_getElem h, num_append]
  simp [num_cons, num_nil]
theorem num_take_le (l : List UInt8) (k : Nat) : num (l.take k) ≤ num l := by
  have h := num_append (l.take k) (l.drop k)
  rw [List.take_append_drop] at h
  rw [h]
  have : 1 ≤ 10 ^ (l.drop k).length := Nat.one_le_pow _ _ (by decide)
  have := Nat.mul_le_mul_left (num (l.take k)) this
  omega
theorem num_strip (l : List UInt8) : num (strip l) = num l := by
  induction l with
  | nil => rfl
  | cons c r ih =>
    cases r with
    | nil => rfl
    | cons d r =>
      rw [strip]
      split
      · rename_i h; rw [ih, num_cons c, h]; simp
      · rfl
theorem allD_strip (l : List UInt8) : allD l = true → allD (strip l) = true := by
  induction l with
  | nil => intro h; exact h
  | cons c r ih =>
    intro h
    cases r with
    | nil => exact h
    | cons d r =>
      rw [strip]
      split
      · apply ih; unfold allD at *; rw [List.all_cons, Bool.and_eq_true] at h; exact h.2
      · exact h
theorem strip_ne (l : List UInt8) : l ≠ [] → strip l ≠ [] := by
  induction l with
  | nil => intro h; exact absurd rfl h
  | cons c r ih =>
    intro _
    cases r with
    | nil => simp [strip]
    | cons d r =>
      rw [strip]
      split
      · exact ih (by simp)
      · simp
/-- A row of digits without a nought ahead, longer than one, is at least its first digit's worth. -/
theorem strip_long (l : List UInt8) : allD l = true → 1 < (strip l).length → 10 ^ ((strip l).length - 1) ≤ num l := by
  induction l with
  | nil => intro _ h; simp [strip] at h
  | cons c r ih =>
    intro hd h
    cases r with
    | nil => simp [strip] at h
    | cons d r =>
      rw [strip] at h ⊢
      split
      · rename_i hc
        rw [if_pos hc] at h
        have := ih (by unfold allD at *; rw [List.all_cons, Bool.and_eq_true] at hd; exact hd.2) h
        rw [num_cons c]
        omega
      · rename_i hc
        rw [num_cons c]
        have h1 := isD_iff.1 (isD_of_allD hd 0 (by simp))
        have h2 : c.toNat ≠ 48 := fun h => hc (UInt8.toNat_inj.1 h)
        have h3 : 1 ≤ c.toNat - 48 := by have := h1.1; simp at this; omega
        have h4 := Nat.mul_le_mul_right (10 ^ (d :: r).length) h3
        rw [Nat.one_mul] at h4
        have h5 : (c :: d :: r).length - 1 = (d :: r).length := by simp
        rw [h5]
        omega
theorem plainGo_length (f : Nat) : ∀ (u : Nat) (s : List UInt8), (plainGo f u s).length ≤ s.length + f := by
  induction f with
  | zero => intro u s; simp [plainGo]
  | succ f ih =>
    intro u s
    rw [plainGo]
    split
    · simp only [List.length_cons]
      omega
    · have := ih (u / 10) (UInt8.ofNat (48 + u % 10) :: s)
      simp only [List.length_cons] at this
      omega
theorem plain_length (u : Nat) : (plain u).length ≤ 20 := by have := plainGo_length 20 u []; simpa [plain] using this
def digits (n : Int) : List UInt8 := if n < 0 then 45 :: plain n.natAbs else plain n.natAbs
def minus (l : List UInt8) : Bool := match l with | c :: _ => c == 45 | [] => false
def body (l : List UInt8) : List UInt8 := if minus l then l.drop 1 else l
/-- Whole: the number, and whether there is one. -/
def whOk (l : List UInt8) : Bool := all (body l) && decide (num (body l) ≤ 4611686018427387904)
def whN (l : List UInt8) : Int := if whOk l then (if minus l then -(num (body l) : Int) else (num (body l) : Int)) else 0
end Dc
end Go.Proofs.YtojmcndiooiehaaGreatDoor
