/-
  CHAPTER 11, PLAIN: a byte is in one of a set's runs just if it is in the set.
-/
import Derived.Test.YtajijcnfhijanaaRxLen
namespace Go.Proofs.Ytajijcnfhijanaa
namespace Rx
/-- Does a run go on at k? -/
def openAt (f : St) (k : Nat) : Prop := 0 < k ∧ k < 256 ∧ f (k - 1) = true ∧ f k = true
/-- What the runs up to k tell. -/
def Runs (f : St) (k : Nat) : Prop :=
  (¬ openAt f k ∧ ∀ rest (c : UInt8), has (pairsTo f k ++ rest) c = ((decide (c.toNat < k) && f c.toNat) || has rest c)) ∨
  (openAt f k ∧ ∃ P a, pairsTo f k = P ++ [UInt8.ofNat a] ∧ a < k ∧ (∀ i, a ≤ i → i < k → f i = true) ∧ ∀ rest (c : UInt8), has (P ++ rest) c = ((decide (c.toNat < a) && f c.toNat) || has rest c))
theorem ofNat_le {a : Nat} (ha : a < 256) (c : UInt8) : decide (UInt8.ofNat a ≤ c) = decide (a ≤ c.toNat) := by
  apply decide_eq_decide.2
  rw [UInt8.le_iff_toNat_le, UInt8.toNat_ofNat', Nat.mod_eq_of_lt (by omega)]
theorem le_ofNat {a : Nat} (ha : a < 256) (c : UInt8) : decide (c ≤ UInt8.ofNat a) = decide (c.toNat ≤ a) := by
  apply decide_eq_decide.2
  rw [UInt8.le_iff_toNat_le, UInt8.toNat_ofNat', Nat.mod_eq_of_lt (by omega)]
theorem has_run {a b : Nat} (ha : a < 256) (hb : b < 256) (rest : List UInt8) (c : UInt8) : has (UInt8.ofNat a :: UInt8.ofNat b :: rest) c = ((decide (a ≤ c.toNat) && decide (c.toNat ≤ b)) || has rest c) := by
  rw [has, ofNat_le ha, le_ofNat hb]
theorem run_join {f : St} {a k n : Nat} (hak : a ≤ k) (hf : ∀ i, a ≤ i → i ≤ k → f i = true) (r : Bool) : ((decide (n < a) && f n) || ((decide (a ≤ n) && decide (n ≤ k)) || r)) = ((decide (n < k + 1) && f n) || r) := by
  by_cases h1 : n < a
  · have h2 : n < k + 1 := by omega
    have h3 : ¬ a ≤ n := by omega
    simp [h1, h2, h3]
  · by_cases h2 : n ≤ k
    · have := hf n (by omega) h2
      have h3 : n < k + 1 := by omega
      have h4 : a ≤ n := by omega
      simp [h1, h2, h3, h4, this]
    · have h3 : ¬ n < k + 1 := by omega
      simp [h1, h2, h3]
theorem runs_step {f : St} {k : Nat} (hk : k < 256) (h : Runs f k) : Runs f (k + 1) := by
  have hs : pairsTo f (k + 1) = pairsTo f k ++ pairAt f k := rfl
  by_cases hf : f k = true
  · by_cases hst : k = 0 ∨ f (k - 1) = false
    · have hno : ¬ openAt f k := by
        rintro ⟨h1, h2, h3, h4⟩
        rcases hst with e | e
        · omega
        · rw [e] at h3; cases h3
      rcases h with ⟨_, h⟩ | ⟨ho, _⟩

      rotate_left
      · exact absurd ho hno
      by_cases hsp : k = 255 ∨ f (k + 1) = false
      · left
        have hp : pairAt f k = [UInt8.ofNat k, UInt8.ofNat k] := by unfold pairAt; rw [if_pos hf, if_pos hst, if_pos hsp]; rfl
        refine ⟨?_, fun rest c => ?_⟩
        · rintro ⟨h1, h2, h3, h4⟩
          rcases hsp with e | e
          · omega
          · rw [e] at h4; cases h4
        · rw [hs, hp, List.append_assoc, h]
          show (_ || has (UInt8.ofNat k :: UInt8.ofNat k :: rest) c) = _
          rw [has_run hk hk]
          exact run_join (Nat.le_refl _) (fun i h1 h2 => by rw [show i = k by omega]; exact hf) _
      · right
        have hp : pairAt f k = [UInt8.ofNat k] := by unfold pairAt; rw [if_pos hf, if_pos hst, if_neg hsp]; rfl
        have hk1 : k ≠ 255 := fun e => hsp (.inl e)
        have hk2 : f (k + 1) = true := by cases h : f (k + 1); exact absurd (.inr h) hsp; rfl
        exact ⟨⟨by omega, by omega, hf, hk2⟩, pairsTo f k, k, by rw [hs, hp], by omega, fun i h1 h2 => by rw [show i = k by omega]; exact hf, h⟩
    · have hk0 : 0 < k := by rcases Nat.eq_zero_or_pos k with e | e; exact absurd (.inl e) hst; exact e
      have hf1 : f (k - 1) = true := by cases h : f (k - 1); exact absurd (.inr h) hst; rfl
      have ho : openAt f k := ⟨hk0, hk, hf1, hf⟩
      rcases h with ⟨hn, _⟩ | ⟨_, P, a, h1, h2, h3, h4⟩
      · exact absurd ho hn
      by_cases hsp : k = 255 ∨ f (k + 1) = false
      · left
        have hp : pairAt f k = [UInt8.ofNat k] := by unfold pairAt; rw [if_pos hf, if_neg hst, if_pos hsp]; rfl
        refine ⟨?_, fun rest c => ?_⟩
        · rintro ⟨g1, g2, g3, g4⟩
          rcases hsp with e | e
          · omega
          · rw [e] at g4; cases g4
        · rw [hs, hp, h1]
          have e : P ++ [UInt8.ofNat a] ++ [UInt8.ofNat k] ++ rest = P ++ (UInt8.ofNat a :: UInt8.ofNat k :: rest) := by simp
          rw [e, h4, has_run (by omega) hk]
          exact run_join (by omega) (fun i g1 g2 => by
            by_cases e : i = k
            · rw [e]; exact hf
            · exact h3 i g1 (by omega)) _
      · right
        have hp : pairAt f k = [] := by unfold pairAt; rw [if_pos hf, if_neg hst, if_neg hsp]; rfl
        have hk1 : k ≠ 255 := fun e => hsp (.inl e)
        have hk2 : f (k + 1) = true := by cases h : f (k + 1); exact absurd (.inr h) hsp; rfl
        exact ⟨⟨by omega, by omega, hf, hk2⟩, P, a, by rw [hs, hp, List.append_nil, h1], by omega, fun i g1 g2 => by
          by_cases e : i = k
          · rw [e]; exact hf
          · exact h3 i g1 (by omega), h4⟩
  · have hff : f k = false := by cases h : f k; rfl; exact absurd h hf
    have hp : pairAt f k = [] := by unfold pairAt; rw [if_neg hf]
    left
    rcases h with ⟨_, h⟩ | ⟨⟨_, _, _, h4⟩, _⟩
    · refine ⟨?_, fun rest c => ?_⟩
      · rintro ⟨h1, h2, h3, h4⟩
        rw [Nat.add_sub_cancel, hff] at h3; cases h3
      · rw [hs, hp, List.append_nil, h]
        by_cases e : c.toNat = k
        · rw [e, hff]; simp
        · have : decide (c.toNat < k + 1) = decide (c.toNat < k) := decide_eq_decide.2 (by omega)
          rw [this]
    · rw [hff] at h4; cases h4
theorem runs_all (f : St) : ∀ k, k ≤ 256 → Runs f k
  | 0, _ => .inl ⟨fun h => absurd h.1 (Nat.lt_irrefl _), fun rest c => by simp [pairsTo]⟩
  | k + 1, h => runs_step (by omega) (runs_all f k (by omega))
/-- A byte is in one of a set's runs just if it is in the set. -/
theorem has_pairs (f : St) (c : UInt8) : has (pairs f) c = f c.toNat := by
  have hc := UInt8.toNat_lt c
  rcases runs_all f 256 (Nat.le_refl _) with ⟨_, h⟩ | ⟨⟨_, h, _⟩, _⟩
  · have := h [] c
    rw [List.append_nil] at this
    unfold pairs
    rw [this]
    have h2 : c.toNat < 256 := hc
    simp [h2, has]
  · omega
end Rx
end Go.Proofs.Ytajijcnfhijanaa
