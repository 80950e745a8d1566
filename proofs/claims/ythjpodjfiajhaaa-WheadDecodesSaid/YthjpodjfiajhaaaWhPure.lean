/-
  PLAIN MATHEMATICS: which headers may be, their sizes and places. No program is named here.
-/
import Derived.Lib.Hide
namespace Go.Proofs.Ythjpodjfiajhaaa
namespace Wh

def At (l : List (Int × Int)) (i : Nat) : Int × Int := l.getD i (0, 0)
def num (n : Int) : Bool := decide (1 ≤ n) && decide (n ≤ 16777216)
def fol (a b : Int × Int) : Bool := decide (a.1 < b.1) && decide (b.1 % a.1 = 0) && decide (a.1 * a.2 < b.1 * b.2) && decide (b.1 / a.1 ≤ a.2)
def stp (l : List (Int × Int)) (i : Nat) : Bool := num (At l i).1 && num (At l i).2 && (decide (i = 0) || fol (At l (i - 1)) (At l i))
def alls (l : List (Int × Int)) : Nat → Bool
  | 0 => true
  | k + 1 => alls l k && stp l k
def sm (l : List (Int × Int)) : Nat → Int
  | 0 => 0
  | k + 1 => sm l k + 12 * (At l k).2
def ends (l : List (Int × Int)) (k : Nat) : Int := 16 + 12 * (l.length : Int) + sm l k
def lsp (l : List (Int × Int)) : Int := (At l (l.length - 1)).1 * (At l (l.length - 1)).2
def kind (ag : Int) : Bool := decide (1 ≤ ag) && decide (ag ≤ 5)
def av (l : List (Int × Int)) : Bool := decide (1 ≤ l.length) && decide (l.length ≤ 8) && alls l l.length && decide (ends l l.length ≤ 1048576) && decide (lsp l ≤ 4294967295)
def val (ag xf : Int) (l : List (Int × Int)) : Bool := kind ag && decide (0 ≤ xf) && decide (xf ≤ 1000000) && av l

theorem num_t {n : Int} (h1 : 1 ≤ n) (h2 : n ≤ 16777216) : num n = true := by unfold num; simp [h1, h2]
theorem num_bd {n : Int} (h : num n = true) : 1 ≤ n ∧ n ≤ 16777216 := by unfold num at h; simpa using h
theorem num_f {n : Int} (h : num n = false) : n < 1 ∨ 16777216 < n := by
  unfold num at h
  simp at h
  omega
theorem kind_f {n : Int} (h : n < 1 ∨ 5 < n) : kind n = false := by
  unfold kind
  simp
  omega
theorem kind_bd {n : Int} (h : kind n = true) : 1 ≤ n ∧ n ≤ 5 := by unfold kind at h; simpa using h

theorem alls_less {l : List (Int × Int)} {k n : Nat} (hkn : k ≤ n) (h : alls l n = true) : alls l k = true := by
  induction n with
  | zero => obtain rfl : k = 0 := by omega
            exact h
  | succ n ih =>
    by_cases e : k = n + 1
    · subst e; exact h
    · exact ih (by omega) (by unfold alls at h; simp at h; exact h.1)
theorem alls_stp {l : List (Int × Int)} {k n : Nat} (hkn : k < n) (h : alls l n = true) : stp l k = true := by
  have := alls_less (Nat.succ_le_of_lt hkn) h
  unfold alls at this
  simp at this
  exact this.2
theorem alls_f {l : List (Int × Int)} {k n : Nat} (hkn : k < n) (h : stp l k = false) : alls l n = false := by
  cases e : alls l n with
  | false => rfl
  | true => rw [alls_stp hkn e] at h; cases h
theorem alls_num {l : List (Int × Int)} {k n : Nat} (hkn : k < n) (h : alls l n = true) : (1 ≤ (At l k).1 ∧ (At l k).1 ≤ 16777216) ∧ (1 ≤ (At l k).2 ∧ (At l k).2 ≤ 16777216) := by
  have := alls_stp hkn h
  unfold stp at this
  simp only [Bool.and_eq_true] at this
  exact ⟨num_bd this.1.1, num_bd this.1.2⟩
theorem sm_bd {l : List (Int × Int)} {n : Nat} (h : ∀ i, i < n → 1 ≤ (At l i).2 ∧ (At l i).2 ≤ 16777216) : ∀ k, k ≤ n → 12 * (k : Int) ≤ sm l k ∧ sm l k ≤ 201326592 * (k : Int)
  | 0, _ => by simp [sm]
  | k + 1, hk => by
    have := sm_bd h k (by omega)
    have := h k (by omega)
    unfold sm
    omega
theorem sm_le {l : List (Int × Int)} {n : Nat} (h : ∀ i, i < n → 1 ≤ (At l i).2 ∧ (At l i).2 ≤ 16777216) {k : Nat} : ∀ m, k ≤ m → m ≤ n → sm l k + 12 * ((m : Int) - (k : Int)) ≤ sm l m
  | 0, hk, _ => by obtain rfl : k = 0 := by omega
                   simp
  | m + 1, hk, hm => by
    by_cases e : k = m + 1
    · subst e; simp
    · have := sm_le (k := k) h m (by omega) (by omega)
      have := h m (by omega)
      rw [sm]
      omega
theorem ends_bd {l : List (Int × Int)} (h8 : l.length ≤ 8) (h : ∀ i, i < l.length → 1 ≤ (At l i).2 ∧ (At l i).2 ≤ 16777216) (k : Nat) (hk : k ≤ l.length) : 16 ≤ ends l k ∧ ends l k ≤ 2000000000 := by
  have := sm_bd h k hk
  unfold ends
  omega
theorem ends_succ (l : List (Int × Int)) (k : Nat) : ends l (k + 1) = ends l k + 12 * (At l k).2 := by unfold ends; rw [sm]; omega
theorem ends_zero (l : List (Int × Int)) : ends l 0 = 16 + 12 * (l.length : Int) := by unfold ends; rw [sm]; omega
/-- The sum as the document makes it. -/
def run (l : List (Int × Int)) (k : Nat) : Int := 16 + 12 * (k : Int) + sm l k
theorem run_succ (l : List (Int × Int)) (k : Nat) : run l (k + 1) = run l k + 12 + 12 * (At l k).2 := by unfold run; rw [sm]; omega
theorem run_zero (l : List (Int × Int)) : run l 0 = 16 := by unfold run; rw [sm]; omega
theorem run_all (l : List (Int × Int)) : run l l.length = ends l l.length := rfl
theorem run_bd {l : List (Int × Int)} (h8 : l.length ≤ 8) (h : ∀ i, i < l.length → 1 ≤ (At l i).2 ∧ (At l i).2 ≤ 16777216) (k : Nat) (hk : k ≤ l.length) : 16 ≤ run l k ∧ run l k ≤ 2000000000 := by
  have := sm_bd h k hk
  unfold run
  omega
theorem run_le {l : List (Int × Int)} (h : ∀ i, i < l.length → 1 ≤ (At l i).2 ∧ (At l i).2 ≤ 16777216) (k : Nat) (hk : k ≤ l.length) : run l k ≤ ends l l.length := by
  have := sm_le h l.length hk (Nat.le_refl _)
  unfold run ends
  omega
theorem alls_cnt {l : List (Int × Int)} {n : Nat} (h : alls l n = true) : ∀ i, i < n → 1 ≤ (At l i).2 ∧ (At l i).2 ≤ 16777216 := fun _ hi => (alls_num hi h).2

theorem av_long {l : List (Int × Int)} (h : 8 < l.length) : av l = false := by
  have : decide (l.length ≤ 8) = false := decide_eq_false (by omega)
  unfold av
  simp [this]
theorem av_nil {l : List (Int × Int)} (h : l.length = 0) : av l = false := by
  have : decide (1 ≤ l.length) = false := decide_eq_false (by omega)
  unfold av
  simp [this]
theorem av_stp {l : List (Int × Int)} {k : Nat} (hk : k < l.length) (h : stp l k = false) : av l = false := by
  unfold av
  simp [alls_f hk h]
theorem av_big {l : List (Int × Int)} (h : 1048576 < ends l l.length) : av l = false := by
  have : decide (ends l l.length ≤ 1048576) = false := decide_eq_false (by omega)
  unfold av
  simp [this]
theorem av_end {l : List (Int × Int)} (h1 : 1 ≤ l.length) (h8 : l.length ≤ 8) (ha : alls l l.length = true) (he : ends l l.length ≤ 1048576) : av l = decide (lsp l ≤ 4294967295) := by
  unfold av
  simp [h1, h8, ha, he]
theorem av_t {l : List (Int × Int)} (h : av l = true) : 1 ≤ l.length ∧ l.length ≤ 8 ∧ alls l l.length = true ∧ ends l l.length ≤ 1048576 ∧ lsp l ≤ 4294967295 := by
  unfold av at h
  simp only [Bool.and_eq_true, decide_eq_true_eq] at h
  exact ⟨h.1.1.1.1, h.1.1.1.2, h.1.1.2, h.1.2, h.2⟩
theorem val_t {ag xf : Int} {l : List (Int × Int)} (h : val ag xf l = true) : (1 ≤ ag ∧ ag ≤ 5) ∧ 0 ≤ xf ∧ xf ≤ 1000000 ∧ av l = true := by
  unfold val at h
  simp only [Bool.and_eq_true, decide_eq_true_eq] at h
  exact ⟨kind_bd h.1.1.1, h.1.1.2, h.1.2, h.2⟩
theorem val_head {ag xf : Int} {l : List (Int × Int)} (h : ag < 1 ∨ 5 < ag ∨ xf < 0 ∨ 1000000 < xf ∨ av l = false) : val ag xf l = false := by
  unfold val
  rcases h with h | h | h | h | h
  · simp [kind_f (.inl h)]
  · simp [kind_f (.inr h)]
  · have : decide (0 ≤ xf) = false := decide_eq_false (by omega)
    simp [this]
  · have : decide (xf ≤ 1000000) = false := decide_eq_false (by omega)
    simp [this]
  · simp [h]
theorem kind_t {ag : Int} (h1 : 1 ≤ ag) (h2 : ag ≤ 5) : kind ag = true := by unfold kind; simp [h1, h2]
theorem val_av {ag xf : Int} {l : List (Int × Int)} (h1 : 1 ≤ ag) (h2 : ag ≤ 5) (h3 : 0 ≤ xf) (h4 : xf ≤ 1000000) : val ag xf l = av l := by
  unfold val
  simp [kind_t h1 h2, h3, h4]
theorem lsp_bd {l : List (Int × Int)} (h1 : 1 ≤ l.length) (ha : alls l l.length = true) : 1 ≤ lsp l ∧ lsp l ≤ 281474976710656 := by
  have := alls_num (k := l.length - 1) (by omega) ha
  unfold lsp
  constructor
  · calc (1 : Int) = 1 * 1 := rfl
      _ ≤ _ := Int.mul_le_mul this.1.1 this.2.1 (by omega) (by omega)
  · calc _ ≤ (16777216 : Int) * 16777216 := Int.mul_le_mul this.1.2 this.2.2 (by omega) (by omega)
      _ = _ := rfl
theorem mul_bd {a b : Int} (h1 : 1 ≤ a) (h2 : a ≤ 16777216) (h3 : 1 ≤ b) (h4 : b ≤ 16777216) : 1 ≤ a * b ∧ a * b ≤ 281474976710656 := by
  constructor
  · calc (1 : Int) = 1 * 1 := rfl
      _ ≤ _ := Int.mul_le_mul h1 h3 (by omega) (by omega)
  · calc a * b ≤ (16777216 : Int) * 16777216 := Int.mul_le_mul h2 h4 (by omega) (by omega)
      _ = _ := rfl
/-- What a step is, told by its parts. -/
theorem stp_f1 {l : List (Int × Int)} {k : Nat} (h : num (At l k).1 = false) : stp l k = false := by unfold stp; simp [h]
theorem stp_f2 {l : List (Int × Int)} {k : Nat} (h : num (At l k).2 = false) : stp l k = false := by unfold stp; simp [h]
theorem stp_f3 {l : List (Int × Int)} {k : Nat} (h0 : 0 < k) (h : fol (At l (k - 1)) (At l k) = false) : stp l k = false := by
  have : decide (k = 0) = false := decide_eq_false (by omega)
  unfold stp
  simp [h, this]
theorem stp_t {l : List (Int × Int)} {k : Nat} (h1 : num (At l k).1 = true) (h2 : num (At l k).2 = true) (h : k = 0 ∨ fol (At l (k - 1)) (At l k) = true) : stp l k = true := by
  unfold stp
  rw [h1, h2]
  rcases h with h | h
  · simp [h]
  · simp [h]
theorem alls_succ {l : List (Int × Int)} {k : Nat} (h : alls l k = true) (h2 : stp l k = true) : alls l (k + 1) = true := by unfold alls; simp [h, h2]
/-- The four tests of two archives side by side. -/
theorem fol_1 {a b : Int × Int} (h : b.1 ≤ a.1) : fol a b = false := by
  have : decide (a.1 < b.1) = false := decide_eq_false (by omega)
  unfold fol; simp [this]
theorem fol_2 {a b : Int × Int} (h : b.1 % a.1 ≠ 0) : fol a b = false := by
  have : decide (b.1 % a.1 = 0) = false := by simp [h]
  unfold fol; simp [this]
theorem fol_3 {a b : Int × Int} (h : b.1 * b.2 ≤ a.1 * a.2) : fol a b = false := by
  have : decide (a.1 * a.2 < b.1 * b.2) = false := decide_eq_false (by omega)
  unfold fol; simp [this]
theorem fol_4 {a b : Int × Int} (h1 : a.1 < b.1) (h2 : b.1 % a.1 = 0) (h3 : a.1 * a.2 < b.1 * b.2) : fol a b = decide (b.1 / a.1 ≤ a.2) := by unfold fol; simp [h1, h2, h3]
end Wh
end Go.Proofs.Ythjpodjfiajhaaa
