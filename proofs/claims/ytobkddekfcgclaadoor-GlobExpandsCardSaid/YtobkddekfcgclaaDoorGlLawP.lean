/-
  PLAIN: chapter 9's laws: what the plain patterns match, what they are expanded to.
-/
import Derived.Test.YtobkddekfcgclaaDoorGlExp
namespace Go.Proofs.YtobkddekfcgclaaDoor
open Go.RowKit
open Me

namespace Gl
theorem ok_ne {b c : UInt8} (h : Nm.okB b = true) (hc : Nm.okB c = false) : b ≠ c := by rintro rfl; rw [h] at hc; cases hc
theorem toks_lits (p r : List UInt8) (h : p.all Nm.okB = true) : toks none (p ++ r) = (toks none r).map (p.map El.lit ++ ·) := by
  induction p with
  | nil => cases h2 : toks none r <;> simp [h2]
  | cons b p ih =>
    rw [List.all_cons, Bool.and_eq_true] at h
    have n1 := ok_ne h.1 (c := 42) (by decide)
    have n2 := ok_ne h.1 (c := 63) (by decide)
    have n3 := ok_ne h.1 (c := 91) (by decide)
    rw [List.cons_append, toks, if_neg n1, if_neg n2, if_neg n3, if_pos h.1, ih h.2]
    cases toks none r <;> rfl
theorem mt_lits (p : List UInt8) (q : List El) (s : List UInt8) : mt (p.map El.lit ++ q) s = (decide (s.take p.length = p) && mt q (s.drop p.length)) := by
  induction p generalizing s with
  | nil => simp
  | cons b p ih =>
    cases s with
    | nil => show mt (El.lit b :: _) [] = _; rw [mt_end rfl]; simp
    | cons c t =>
      show mt (El.lit b :: _) (c :: t) = _
      rw [mt_one rfl]
      show (decide (b = c) && mt (p.map El.lit ++ q) t) = _
      rw [ih]
      by_cases e : b = c
      · subst e; simp
      · have e' : ¬ c = b := fun h => e h.symm
        simp [e, e']
theorem gm_plain (p s : List UInt8) (h : p.all Nm.okB = true) : gm p s = decide (s = p) := by
  have := toks_lits p [] h
  rw [List.append_nil] at this
  unfold gm
  rw [this]
  show mt (p.map El.lit ++ []) s = _
  rw [mt_lits]
  by_cases e : s = p
  · subst e; simp; rfl
  · rw [decide_eq_false e]
    by_cases e1 : s.take p.length = p
    · rw [decide_eq_true e1, Bool.true_and]
      show (s.drop p.length).isEmpty = false
      cases hd : s.drop p.length with
      | nil =>
        have := List.take_append_drop p.length s
        rw [hd, e1, List.append_nil] at this
        exact absurd this.symm e
      | cons _ _ => rfl
    · rw [decide_eq_false e1, Bool.false_and]
theorem simple_plain (p : List UInt8) (h : p.all Nm.okB = true) : simple p = true := by
  have := toks_lits p [] h
  rw [List.append_nil] at this
  unfold simple
  rw [this]; rfl
theorem pt_plain (s : List UInt8) (h : plainB s = true) : (Nm.pt s).all (fun p => p.all Nm.okB) = true := by
  induction s with
  | nil => rfl
  | cons b r ih =>
    unfold plainB at h ih
    rw [List.all_cons, Bool.and_eq_true] at h
    have ih := ih h.2
    rw [Nm.pt]
    by_cases e : b = 46
    · rw [if_pos e, List.all_cons, ih]; rfl
    · rw [if_neg e]
      have hb : Nm.okB b = true := by have := h.1; simp [e] at this; exact this
      cases hp : Nm.pt r with
      | nil => simp [hb]
      | cons p q =>
        rw [hp] at ih
        simp only [List.all_cons] at ih ⊢
        rw [hb, Bool.true_and]
        exact ih
theorem noSp_plain (s : List UInt8) (h : plainB s = true) : noSp s = true := by
  unfold plainB at h
  unfold noSp
  rw [List.all_eq_true] at *
  intro b hb
  have := h b hb
  rw [Bool.or_eq_true] at this
  rcases this with e | e
  · have e : b = 46 := by simpa using e
    subst e; decide
  · have n1 := ok_ne e (c := 123) (by decide)
    have n2 := ok_ne e (c := 125) (by decide)
    have n3 := ok_ne e (c := 44) (by decide)
    simp [n1, n2, n3]
theorem resOk_plain (s : List UInt8) (h : plainB s = true) (h0 : 0 < s.length) : resOk s = true := by
  unfold resOk
  have e : s.isEmpty = false := by cases s with
    | nil => cases h0
    | cons _ _ => rfl
  rw [e]
  have := pt_plain s h
  rw [List.all_eq_true] at this
  show (true && (Nm.pt s).all simple) = true
  rw [Bool.true_and, List.all_eq_true]
  intro p hp
  exact simple_plain p (this p hp)
theorem expErr_plain (s : List UInt8) (h : plainB s = true) (h0 : 0 < s.length) (h9 : s.length ≤ 200) : expErr s [s] = 0 := by
  have hb : bal 0 s = true := by
    have := (Gr.plain (noSp_plain s h)).bal 0 [] (fun e => by cases e)
    rw [List.append_nil] at this
    rw [this]; rfl
  unfold expErr
  rw [if_neg (by rw [hb]; rintro (e | e); omega; cases e), if_neg (by simp), List.all_cons, resOk_plain s h h0]
  rfl
/-! ## stars -/
theorem mt_star2 (q : List El) (s : List UInt8) : mt (.star :: .star :: q) s = mt (.star :: q) s := by
  rw [mt_star, mt_star]
  apply eq_of_iff
  rw [tails_iff, tails_iff]
  constructor
  · rintro ⟨k, hk, h⟩
    rw [mt_star, tails_iff] at h
    obtain ⟨j, hj, h⟩ := h
    rw [List.length_drop] at hj
    exact ⟨k + j, by omega, by rw [← List.drop_drop]; exact h⟩
  · rintro ⟨k, hk, h⟩
    exact ⟨k, hk, by rw [mt_star, tails_iff]; exact ⟨0, by omega, h⟩⟩
theorem mt_tail (b : List UInt8) (s : List UInt8) : mt (.star :: b.map El.lit) s = (decide (b.length ≤ s.length) && decide (s.drop (s.length - b.length) = b)) := by
  apply eq_of_iff
  rw [mt_star, tails_iff, Bool.and_eq_true, decide_eq_true_eq, decide_eq_true_eq]
  have key : ∀ t : List UInt8, mt (b.map El.lit) t = decide (t = b) := by
    intro t
    have := mt_lits b [] t
    rw [List.append_nil] at this
    rw [this]
    by_cases e : t = b
    · subst e; simp; rfl
    · rw [decide_eq_false e]
      by_cases e1 : t.take b.length = b
      · rw [decide_eq_true e1, Bool.true_and]
        show (t.drop b.length).isEmpty = false
        cases hd : t.drop b.length with
        | nil =>
          have := List.take_append_drop b.length t
          rw [hd, e1, List.append_nil] at this
          exact absurd this.symm e
        | cons _ _ => rfl
      · rw [decide_eq_false e1, Bool.false_and]
  constructor
  · rintro ⟨k, hk, h⟩
    rw [key, decide_eq_true_eq] at h
    have hl : s.length - k = b.length := by rw [← h, List.length_drop]
    exact ⟨by omega, by rw [show s.length - b.length = k by omega]; exact h⟩
  · rintro ⟨h1, h2⟩
    exact ⟨s.length - b.length, by omega, by rw [key, h2]; simp⟩
def stars (a b s : List UInt8) : Bool := decide (a.length + b.length ≤ s.length) && (decide (s.take a.length = a) && decide (s.drop (s.length - b.length) = b))
theorem stars_eq (a b s : List UInt8) : mt (a.map El.lit ++ (.star :: b.map El.lit)) s = stars a b s := by
  rw [mt_lits, mt_tail, List.length_drop, List.drop_drop]
  unfold stars
  by_cases e : s.take a.length = a
  · have hl : a.length ≤ s.length := by
      have := congrArg List.length e
      rw [List.length_take] at this
      omega
    rw [decide_eq_true e, Bool.true_and, Bool.true_and]
    by_cases e1 : b.length ≤ s.length - a.length
    · rw [decide_eq_true e1, decide_eq_true (show a.length + b.length ≤ s.length by omega), show a.length + (s.length - a.length - b.length) = s.length - b.length by omega]
    · rw [decide_eq_false e1, decide_eq_false (show ¬ a.length + b.length ≤ s.length by omega), Bool.false_and, Bool.false_and]
  · rw [decide_eq_false e, Bool.false_and, Bool.false_and, Bool.and_false]
theorem gm_star1 (a b s : List UInt8) (ha : a.all Nm.okB = true) (hb : b.all Nm.okB = true) : gm (a ++ 42 :: b) s = stars a b s := by
  have h1 := toks_lits a (42 :: b) ha
  have h2 := toks_lits b [] hb
  rw [List.append_nil] at h2
  rw [show toks none (42 :: b) = (toks none b).map (El.star :: ·) from rfl, h2] at h1
  unfold gm
  rw [h1]
  show mt (a.map El.lit ++ (El.star :: (b.map El.lit ++ []))) s = _
  rw [List.append_nil, stars_eq]
theorem gm_star2 (a b s : List UInt8) (ha : a.all Nm.okB = true) (hb : b.all Nm.okB = true) : gm (a ++ 42 :: 42 :: b) s = stars a b s := by
  have h1 := toks_lits a (42 :: 42 :: b) ha
  have h2 := toks_lits b [] hb
  rw [List.append_nil] at h2
  rw [show toks none (42 :: 42 :: b) = ((toks none b).map (El.star :: ·)).map (El.star :: ·) from rfl, h2] at h1
  unfold gm
  rw [h1]
  show mt (a.map El.lit ++ (El.star :: El.star :: (b.map El.lit ++ []))) s = _
  rw [List.append_nil, mt_lits, mt_star2, ← mt_lits, stars_eq]
/-! ## what a call gave, in one form -/
theorem Gave.both {w w' : World} {ok : Bool} {L : List (List UInt8)} {bad : Int} {e : Ending} (h : Gave w ok L bad e w') : ∃ v, e = .returned (.tuple #[v, .int .i64 (if ok then 0 else bad)]) ∧ OwnS w.heap.size w' v (if ok then L else []) ∧ Below w.heap.size w w' := by
  obtain ⟨hb, ⟨rfl, v, rfl, ho⟩ | ⟨rfl, rfl⟩⟩ := h
  · exact ⟨v, rfl, ho, hb⟩
  · exact ⟨_, rfl, OwnS.nil _ _, hb⟩
theorem GaveE.both {w w' : World} {err : Int} {L : List (List UInt8)} {e : Ending} (h : GaveE w err L e w') : ∃ v, e = .returned (.tuple #[v, .int .i64 err]) ∧ OwnS w.heap.size w' v (if err = 0 then L else []) ∧ Below w.heap.size w w' := by
  obtain ⟨hb, ⟨rfl, v, rfl, ho⟩ | ⟨h0, rfl⟩⟩ := h
  · exact ⟨v, rfl, ho, hb⟩
  · exact ⟨_, rfl, by rw [if_neg h0]; exact OwnS.nil _ _, hb⟩
/-! ## the known pattern -/
theorem gr_known : Gr false [97, 46, 123, 98, 44, 99, 123, 100, 44, 125, 125] [[97, 46, 98], [97, 46, 99, 100], [97, 46, 99]] := by
  have h1 : Gr true [100, 44] [[100], []] := Gr.more (t := [100]) (g := []) (Gr.plain rfl) (Gr.one (Gr.plain rfl))
  have h2 : Gr false [99, 123, 100, 44, 125] [[99, 100], [99]] := Gr.group (p := [99]) (g := [100, 44]) (r := []) rfl h1 (Gr.plain rfl)
  have h3 : Gr true [98, 44, 99, 123, 100, 44, 125] [[98], [99, 100], [99]] := Gr.more (t := [98]) (g := [99, 123, 100, 44, 125]) (Gr.plain rfl) (Gr.one h2)
  exact Gr.group (p := [97, 46]) (g := [98, 44, 99, 123, 100, 44, 125]) (r := []) rfl h3 (Gr.plain rfl)
theorem err_known : expErr [97, 46, 123, 98, 44, 99, 123, 100, 44, 125, 125] [[97, 46, 98], [97, 46, 99, 100], [97, 46, 99]] = 0 := by decide +kernel
theorem gm_known : gm [115, 63, 91, 48, 45, 50, 93, 42] [115, 118, 49] = true := by decide +kernel
end Gl
end Go.Proofs.YtobkddekfcgclaaDoor
