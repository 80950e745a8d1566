/-
  CHAPTER 11, PLAIN: what is left grows shorter; how many instructions there may be.
-/
import Derived.Test.YtedppnejkjcplaaRxPure
namespace Go.Proofs.Ytedppnejkjcplaa
namespace Rx
theorem takeByte_len {s r : List UInt8} {c : UInt8} (h : takeByte s = some (c, r)) : r.length < s.length := by
  cases s with
  | nil => cases h
  | cons b t =>
    simp only [takeByte] at h
    by_cases hb : b = 92
    · rw [if_pos hb] at h
      cases t with
      | nil => cases h
      | cons c2 t2 =>
        simp only at h
        split at h
        · cases h
        · cases h; simp; omega
    · rw [if_neg hb] at h
      cases h; simp
theorem items_len : ∀ (n : Nat) {aft fst : Bool} {s r : List UInt8} {f g : St}, items n aft fst s f = some (g, r) → r.length < s.length
  | 0, _, _, _, _, _, _, h => by cases h
  | n + 1, aft, fst, s, r, f, g, h => by
    rw [items] at h
    split at h
    · rename_i h1
      cases s with
      | nil => simp [starts] at h1
      | cons b t => cases h; simp
    · split at h
      · rename_i c hc
        have := items_len n h
        rw [List.length_drop] at this
        omega
      · split at h
        · cases h
        · rename_i lo t ht
          have h1 := takeByte_len ht
          split at h
          · split at h
            · cases h
            · rename_i hi t2 ht2
              have h2 := takeByte_len ht2
              rw [List.length_drop] at h2
              split at h
              · cases h
              · have := items_len n h
                omega
          · have := items_len n h
            omega
theorem bracket_len {s r : List UInt8} {g : St} (h : bracket s = some (g, r)) : r.length < s.length := by
  unfold bracket at h
  split at h
  · obtain ⟨⟨g1, r1⟩, h1, h2⟩ := Option.map_eq_some_iff.1 h
    cases h2
    have := items_len _ h1
    rw [List.length_drop] at this
    show r1.length < _
    omega
  · exact items_len _ h
theorem set_len {s r : List UInt8} {g : St} (h : set s = some (g, r)) : r.length < s.length := by
  cases s with
  | nil => cases h
  | cons b t =>
    rw [set] at h
    split at h
    · cases h; simp
    · split at h
      · have := bracket_len h; simp; omega
      · split at h
        · cases h; simp; omega
        · split at h
          · cases h
          · obtain ⟨⟨g1, r1⟩, h1, h2⟩ := Option.map_eq_some_iff.1 h
            cases h2
            exact takeByte_len h1
/-- What an expression's reader owes. -/
def Short (E : List UInt8 → Nat → Nat → Res) : Prop := ∀ s g d c r g2, E s g d = .ok (c, r, g2) → c.length + 2 * r.length ≤ 2 * s.length ∧ g2 + r.length ≤ g + s.length
theorem starts_drop {c : UInt8} {r : List UInt8} (h : starts c r = true) : (r.drop 1).length + 1 = r.length := by
  cases r with
  | nil => simp [starts] at h
  | cons b t => simp
theorem saved_len (k : Nat) (c : List In) : (saved k c).length = c.length + 2 := by simp [saved]
theorem groupE_len {E : List UInt8 → Nat → Nat → Res} (hE : Short E) {s r : List UInt8} {g d g2 : Nat} {c : List In} (h : groupE E s g d = .ok (c, r, g2)) : c.length + 2 * r.length ≤ 2 * s.length ∧ g2 + r.length ≤ g + s.length := by
  unfold groupE at h
  split at h
  · cases h
  · split at h
    · split at h
      · cases h
      · rename_i c1 r1 g1 he
        obtain ⟨h1, h2⟩ := hE _ _ _ _ _ _ he
        rw [List.length_drop] at h1 h2
        split at h
        · rename_i hs
          have := starts_drop hs
          cases h
          exact ⟨by omega, by omega⟩
        · cases h
    · split at h
      · cases h
      · rename_i c1 r1 g1 he
        obtain ⟨h1, h2⟩ := hE _ _ _ _ _ _ he
        split at h
        · rename_i hs
          have := starts_drop hs
          cases h
          rw [saved_len]
          exact ⟨by omega, by omega⟩
        · cases h
theorem atomE_len {E : List UInt8 → Nat → Nat → Res} (hE : Short E) {s r : List UInt8} {g d g2 : Nat} {c : List In} (h : atomE E s g d = .ok (c, r, g2)) : c.length + 2 * r.length ≤ 2 * s.length ∧ g2 + r.length ≤ g + s.length ∧ r.length < s.length := by
  cases s with
  | nil => cases h
  | cons b t =>
    rw [atomE] at h
    split at h
    · have := groupE_len hE h
      simp
      exact ⟨by omega, by omega, by omega⟩
    · split at h
      · cases h; simp; omega
      · split at h
        · cases h; simp; omega
        · split at h
          · cases h
          · rename_i f r2 hf
            have := set_len hf
            cases h
            simp at *
            omega
theorem rep_len (x : List In) (s : List UInt8) : (rep x s).1.length + 2 * (rep x s).2.length ≤ x.length + 2 * s.length ∧ (rep x s).2.length ≤ s.length := by
  cases s with
  | nil => simp [rep]
  | cons c r =>
    have hl : ∀ z, (repeated x c z).length ≤ x.length + 2 := by
      intro z
      unfold repeated
      split
      · simp
      · split <;> simp
    rw [rep]
    split
    · split
      · have := hl true
        simp; omega
      · have := hl false
        simp; omega
    · simp
theorem pieceE_len {E : List UInt8 → Nat → Nat → Res} (hE : Short E) {s r : List UInt8} {g d g2 : Nat} {c : List In} (h : pieceE E s g d = .ok (c, r, g2)) : c.length + 2 * r.length ≤ 2 * s.length ∧ g2 + r.length ≤ g + s.length ∧ r.length < s.length := by
  unfold pieceE at h
  split at h
  · cases h
  · rename_i x r1 g1 ha
    obtain ⟨h1, h2, h3⟩ := atomE_len hE ha
    have := rep_len x r1
    cases h
    exact ⟨by omega, by omega, by omega⟩
theorem branchE_len {E : List UInt8 → Nat → Nat → Res} (hE : Short E) : ∀ (n : Nat) {acc : List In} {s r : List UInt8} {g d g2 : Nat} {c : List In}, branchE E n acc s g d = .ok (c, r, g2) → c.length + 2 * r.length ≤ acc.length + 2 * s.length ∧ g2 + r.length ≤ g + s.length
  | 0, _, _, _, _, _, _, _, h => by cases h
  | n + 1, acc, s, r, g, d, g2, c, h => by
    rw [branchE] at h
    split at h
    · cases h; exact ⟨Nat.le_refl _, Nat.le_refl _⟩
    · split at h
      · cases h
      · rename_i x r1 g1 hp
        obtain ⟨h1, h2, h3⟩ := pieceE_len hE hp
        obtain ⟨h4, h5⟩ := branchE_len hE n h
        rw [List.length_append] at h4
        exact ⟨by omega, by omega⟩
/-- All branches but the last, with a Split and a Jump each. -/
def tot (bs : List (List In)) : Nat := (bs.map fun b => b.length + 2).sum
theorem tot_snoc (bs : List (List In)) (b : List In) : tot (bs ++ [b]) = tot bs + (b.length + 2) := by simp [tot]
theorem choice_len : ∀ (bs : List (List In)) (b : List In), (choice (bs ++ [b])).length = tot bs + b.length
  | [], b => by simp [choice, tot]
  | [a], b => by simp [choice, tot]; omega
  | a :: c :: r, b => by
    have h := choice_len (c :: r) b
    have e : choice (a :: c :: r ++ [b]) = ⟨2, 1, ((a.length + 2 : Nat) : Int), []⟩ :: (a ++ ⟨3, (((choice (c :: r ++ [b])).length + 1 : Nat) : Int), 0, []⟩ :: choice (c :: r ++ [b])) := rfl
    rw [e, List.length_cons, List.length_append, List.length_cons, h]
    simp [tot]; omega
theorem waysE_len {E : List UInt8 → Nat → Nat → Res} (hE : Short E) : ∀ (n : Nat) {bs : List (List In)} {s r : List UInt8} {g d g2 : Nat} {c : List In}, waysE E n bs s g d = .ok (c, r, g2) → c.length + 2 * r.length ≤ tot bs + 2 * s.length ∧ g2 + r.length ≤ g + s.length
  | 0, _, _, _, _, _, _, _, h => by cases h
  | n + 1, bs, s, r, g, d, g2, c, h => by
    rw [waysE] at h
    split at h
    · cases h
    · rename_i b r1 g1 hb
      obtain ⟨h1, h2⟩ := branchE_len hE _ hb
      simp at h1
      split at h
      · rename_i hs
        have := starts_drop hs
        obtain ⟨h4, h5⟩ := waysE_len hE n h
        rw [tot_snoc] at h4
        exact ⟨by omega, by omega⟩
      · cases h
        rw [choice_len]
        exact ⟨by omega, by omega⟩
theorem expr_len : ∀ n, Short (expr n)
  | 0 => fun _ _ _ _ _ _ h => by cases h
  | n + 1 => fun s g d c r g2 h => by
    have := waysE_len (expr_len n) _ h
    simpa [tot] using this
end Rx
end Go.Proofs.Ytedppnejkjcplaa
