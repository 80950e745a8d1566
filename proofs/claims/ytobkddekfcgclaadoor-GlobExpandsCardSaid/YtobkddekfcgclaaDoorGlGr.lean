/-
  PLAIN: choices (chapter 9): which braces match, what a text's choices mean, all that comes out and how many. No program.
-/
import Derived.Test.YtobkddekfcgclaaDoorGlPure
namespace Go.Proofs.YtobkddekfcgclaaDoor
open Go.RowKit

namespace Gl
/-- Neither brace nor comma. -/
def noSp (s : List UInt8) : Bool := s.all fun b => b != 123 && (b != 125 && b != 44)
/-- One of the first behind one of the second. -/
def comb (A B : List (List UInt8)) : List (List UInt8) := A.flatMap fun a => B.map fun b => a ++ b
def prod : List (List (List UInt8)) → List (List UInt8)
  | [] => [[]]
  | M :: r => comb M (prod r)
/-- What a text (false), or the texts of a group (true), mean. -/
inductive Gr : Bool → List UInt8 → List (List UInt8) → Prop
  | plain {p : List UInt8} (h : noSp p = true) : Gr false p [p]
  | group {p g : List UInt8} {M : List (List UInt8)} {r : List UInt8} {R : List (List UInt8)} (h : noSp p = true) (hg : Gr true g M) (hr : Gr false r R) : Gr false (p ++ 123 :: (g ++ 125 :: r)) (comb [p] (comb M R))
  | one {t : List UInt8} {L : List (List UInt8)} (h : Gr false t L) : Gr true t L
  | more {t : List UInt8} {L : List (List UInt8)} {g : List UInt8} {M : List (List UInt8)} (h : Gr false t L) (hg : Gr true g M) : Gr true (t ++ 44 :: g) (L ++ M)

theorem comb_len (A B : List (List UInt8)) : (comb A B).length = A.length * B.length := by
  induction A with
  | nil => show 0 = 0 * _; rw [Nat.zero_mul]
  | cons a A ih =>
    show (B.map _ ++ comb A B).length = _
    rw [List.length_append, List.length_map, ih, List.length_cons, Nat.succ_mul, Nat.add_comm]
theorem comb_unit (B : List (List UInt8)) : comb [[]] B = B := by
  show B.map (fun b => [] ++ b) ++ [] = B
  rw [List.append_nil]
  simp
theorem comb_end (A : List (List UInt8)) : comb A [[]] = A := by
  unfold comb; simp
theorem comb_assoc (A B C : List (List UInt8)) : comb (comb A B) C = comb A (comb B C) := by
  unfold comb
  rw [List.flatMap_assoc]
  congr 1
  funext a
  rw [List.flatMap_map, List.map_flatMap]
  congr 1
  funext b
  rw [List.map_map]
  congr 1
  funext c
  show a ++ b ++ c = a ++ (b ++ c)
  rw [List.append_assoc]
theorem comb_append (A A' B : List (List UInt8)) : comb (A ++ A') B = comb A B ++ comb A' B := by
  unfold comb; rw [List.flatMap_append]
theorem prod_snoc (l : List (List (List UInt8))) (M : List (List UInt8)) : prod (l ++ [M]) = comb (prod l) M := by
  induction l with
  | nil => show comb M [[]] = comb [[]] M; rw [comb_end, comb_unit]
  | cons x l ih => show comb x (prod (l ++ [M])) = comb (comb x (prod l)) M; rw [ih, comb_assoc]
theorem prod_one (M : List (List UInt8)) : prod [M] = M := comb_end M
theorem comb_pre (p : List UInt8) (B : List (List UInt8)) : comb [p] B = B.map fun b => p ++ b := by
  show B.map _ ++ [] = _; rw [List.append_nil]
theorem Gr.pos {b : Bool} {t : List UInt8} {L : List (List UInt8)} (h : Gr b t L) : 0 < L.length := by
  induction h with
  | plain _ => exact Nat.zero_lt_one
  | group _ _ _ ih1 ih2 => rw [comb_len, comb_len]; simpa using Nat.mul_pos ih1 ih2
  | one _ ih => exact ih
  | more _ _ ih1 ih2 => rw [List.length_append]; omega

/-! ## braces -/
def bal : Nat → List UInt8 → Bool
  | n, [] => decide (n = 0)
  | n, b :: r => if b = 123 then bal (n + 1) r else if b = 125 then (if n = 0 then false else bal (n - 1) r) else if b = 44 then (if n = 0 then false else bal n r) else bal n r
theorem noSp_cons {b : UInt8} {r : List UInt8} (h : b ≠ 123 ∧ b ≠ 125 ∧ b ≠ 44) (hr : noSp r = true) : noSp (b :: r) = true := by
  unfold noSp at *
  rw [List.all_cons, hr]
  simp [h.1, h.2.1, h.2.2]
theorem bal_plain {b : UInt8} (h : b ≠ 123 ∧ b ≠ 125 ∧ b ≠ 44) (n : Nat) (r : List UInt8) : bal n (b :: r) = bal n r := by
  rw [bal, if_neg h.1, if_neg h.2.1, if_neg h.2.2]
/-- A balanced rest begins with a text. -/
theorem split_text (m : Nat) : ∀ (s : List UInt8), s.length ≤ m → ∀ n, bal n s = true → ∃ t L s2, s = t ++ s2 ∧ Gr false t L ∧ ((s2 = [] ∧ n = 0) ∨ (∃ s', s2 = 44 :: s' ∧ 0 < n ∧ bal n s' = true) ∨ (∃ s', s2 = 125 :: s' ∧ 0 < n ∧ bal (n - 1) s' = true)) := by
  induction m with
  | zero =>
    intro s hs n h
    obtain rfl := List.eq_nil_of_length_eq_zero (Nat.le_zero.1 hs)
    exact ⟨[], [[]], [], rfl, Gr.plain rfl, .inl ⟨rfl, of_decide_eq_true h⟩⟩
  | succ m ih =>
    -- the texts of a group
    have grp : ∀ (k : Nat) (s : List UInt8), s.length ≤ k → s.length ≤ m → ∀ n, bal (n + 1) s = true → ∃ g M s', s = g ++ 125 :: s' ∧ Gr true g M ∧ bal n s' = true := by
      intro k
      induction k with
      | zero =>
        intro s hs hm n h
        obtain rfl := List.eq_nil_of_length_eq_zero (Nat.le_zero.1 hs)
        have := of_decide_eq_true h
        omega
      | succ k ihk =>
        intro s hs hm n h
        obtain ⟨t, L, s2, rfl, hg, hc⟩ := ih s hm (n + 1) h
        rcases hc with ⟨_, h0⟩ | ⟨s', rfl, _, hb⟩ | ⟨s', rfl, _, hb⟩
        · omega
        · rw [List.length_append, List.length_cons] at hs hm
          obtain ⟨g, M, s'', rfl, hg2, hb2⟩ := ihk s' (by omega) (by omega) n hb
          exact ⟨t ++ 44 :: g, L ++ M, s'', by simp, Gr.more hg hg2, hb2⟩
        · exact ⟨t, L, s', rfl, Gr.one hg, by simpa using hb⟩
    intro s hs n h
    cases s with
    | nil => exact ⟨[], [[]], [], rfl, Gr.plain rfl, .inl ⟨rfl, of_decide_eq_true h⟩⟩
    | cons b r =>
      rw [List.length_cons] at hs
      by_cases h1 : b = 123
      · subst h1
        rw [bal, if_pos rfl] at h
        obtain ⟨g, M, s', rfl, hg, hb⟩ := grp m r (by omega) (by omega) n h
        rw [List.length_append, List.length_cons] at hs
        obtain ⟨t, L, s2, rfl, ht, hc⟩ := ih s' (by omega) n hb
        exact ⟨[] ++ 123 :: (g ++ 125 :: t), comb [[]] (comb M L), s2, by simp, Gr.group rfl hg ht, hc⟩
      by_cases h2 : b = 125
      · subst h2
        rw [bal, if_neg h1, if_pos rfl] at h
        by_cases hn : n = 0
        · rw [if_pos hn] at h; cases h
        rw [if_neg hn] at h
        exact ⟨[], [[]], 125 :: r, rfl, Gr.plain rfl, .inr (.inr ⟨r, rfl, by omega, h⟩)⟩
      by_cases h3 : b = 44
      · subst h3
        rw [bal, if_neg h1, if_neg h2, if_pos rfl] at h
        by_cases hn : n = 0
        · rw [if_pos hn] at h; cases h
        rw [if_neg hn] at h
        exact ⟨[], [[]], 44 :: r, rfl, Gr.plain rfl, .inr (.inl ⟨r, rfl, by omega, h⟩)⟩
      rw [bal_plain ⟨h1, h2, h3⟩] at h
      obtain ⟨t, L, s2, rfl, ht, hc⟩ := ih r (by omega) n h
      have hsp : ∃ L, Gr false (b :: t) L := by
        cases ht with
        | plain hp => exact ⟨_, Gr.plain (noSp_cons ⟨h1, h2, h3⟩ hp)⟩
        | group hp hg hr => exact ⟨_, Gr.group (noSp_cons ⟨h1, h2, h3⟩ hp) hg hr⟩
      obtain ⟨L', hL'⟩ := hsp
      exact ⟨b :: t, L', s2, rfl, hL', hc⟩
theorem parse (s : List UInt8) (h : bal 0 s = true) : ∃ L, Gr false s L := by
  obtain ⟨t, L, s2, rfl, ht, hc⟩ := split_text s.length s (Nat.le_refl _) 0 h
  rcases hc with ⟨rfl, _⟩ | ⟨_, _, h0, _⟩ | ⟨_, _, h0, _⟩
  · exact ⟨L, by rw [List.append_nil]; exact ht⟩
  · omega
  · omega
/-- Such a text is balanced. -/
theorem Gr.bal {b : Bool} {t : List UInt8} {L : List (List UInt8)} (h : Gr b t L) : ∀ n s, (b = true → 0 < n) → Gl.bal n (t ++ s) = Gl.bal n s := by
  induction h with
  | @plain p h =>
    intro n s _
    induction p with
    | nil => rfl
    | cons b r ih =>
      have hb : (b ≠ 123 ∧ b ≠ 125 ∧ b ≠ 44) ∧ noSp r = true := by simpa [noSp] using h
      rw [List.cons_append, bal_plain hb.1, ih hb.2]
  | @group p g M r R h _ _ ih1 ih2 =>
    intro n s _
    have hp : ∀ (x : List UInt8), Gl.bal n (p ++ x) = Gl.bal n x := by
      intro x
      clear ih1 ih2
      induction p with
      | nil => rfl
      | cons b r ih =>
        have hb : (b ≠ 123 ∧ b ≠ 125 ∧ b ≠ 44) ∧ noSp r = true := by simpa [noSp] using h
        rw [List.cons_append, bal_plain hb.1, ih hb.2]
    rw [List.append_assoc, hp]
    show Gl.bal n (123 :: ((g ++ 125 :: r) ++ s)) = _
    rw [Gl.bal, if_pos rfl, List.append_assoc, ih1 (n + 1) _ (fun _ => by omega)]
    show Gl.bal (n + 1) (125 :: (r ++ s)) = _
    rw [Gl.bal, if_neg (by decide), if_pos rfl, if_neg (by omega), Nat.add_sub_cancel, ih2 n s (fun h => by cases h)]
  | one _ ih => intro n s _; exact ih n s (fun h => by cases h)
  | @more t L g M _ _ ih1 ih2 =>
    intro n s h0
    have hn := h0 rfl
    rw [List.append_assoc, ih1 n _ (fun h => by cases h)]
    show Gl.bal n (44 :: (g ++ s)) = _
    rw [Gl.bal, if_neg (by decide), if_neg (by decide), if_pos rfl, if_neg (by omega), ih2 n s (fun _ => hn)]

/-! ## where a group ends -/
def eF : Nat → List UInt8 → List UInt8 → Option (Nat × List (List UInt8))
  | _, _, [] => none
  | n, cur, b :: r => if b = 123 then (eF (n + 1) (cur ++ [b]) r).map fun x => (x.1 + 1, x.2)
      else if b = 125 then (if n = 1 then some (0, [cur]) else (eF (n - 1) (cur ++ [b]) r).map fun x => (x.1 + 1, x.2))
      else if b = 44 ∧ n = 1 then (eF n [] r).map fun x => (x.1 + 1, cur :: x.2)
      else (eF n (cur ++ [b]) r).map fun x => (x.1 + 1, x.2)
theorem eF_add (o : Option (Nat × List (List UInt8))) (i j : Nat) : (o.map fun x => (x.1 + i, x.2)).map (fun x => (x.1 + j, x.2)) = o.map fun x => (x.1 + (i + j), x.2) := by
  cases o with
  | none => rfl
  | some x => show some (x.1 + i + j, x.2) = some (x.1 + (i + j), x.2); rw [Nat.add_assoc]
theorem eF_plain {p : List UInt8} (h : noSp p = true) (n : Nat) (cur s : List UInt8) : eF n cur (p ++ s) = (eF n (cur ++ p) s).map fun x => (x.1 + p.length, x.2) := by
  induction p generalizing cur with
  | nil => rw [List.append_nil]; show eF n cur s = _; cases eF n cur s <;> rfl
  | cons b r ih =>
    have hb : (b ≠ 123 ∧ b ≠ 125 ∧ b ≠ 44) ∧ noSp r = true := by simpa [noSp] using h
    rw [List.cons_append, eF, if_neg hb.1.1, if_neg hb.1.2.1, if_neg (fun e => hb.1.2.2 e.1), ih hb.2, eF_add, List.append_assoc]
    rfl
theorem Gr.ends {b : Bool} {t : List UInt8} {L : List (List UInt8)} (h : Gr b t L) : ∀ n cur s, 1 ≤ n → (b = true → 2 ≤ n) → eF n cur (t ++ s) = (eF n (cur ++ t) s).map fun x => (x.1 + t.length, x.2) := by
  induction h with
  | plain h => intro n cur s _ _; exact eF_plain h n cur s
  | @group p g M r R h _ _ ih1 ih2 =>
    intro n cur s h1 _
    rw [List.append_assoc, eF_plain h]
    show (eF n (cur ++ p) (123 :: ((g ++ 125 :: r) ++ s))).map _ = _
    rw [eF, if_pos rfl, List.append_assoc g, ih1 (n + 1) _ _ (by omega) (fun _ => by omega)]
    show ((((eF (n + 1) _ (125 :: (r ++ s)))).map _).map _).map _ = _
    rw [eF, if_neg (by decide), if_pos rfl, if_neg (by omega), Nat.add_sub_cancel, ih2 n _ s h1 (fun h => by cases h)]
    rw [eF_add, eF_add, eF_add, eF_add]
    have e1 : cur ++ p ++ [123] ++ g ++ [125] ++ r = cur ++ (p ++ 123 :: (g ++ 125 :: r)) := by simp
    have e2 : r.length + (1 + (g.length + (1 + p.length))) = (p ++ 123 :: (g ++ 125 :: r)).length := by simp; omega
    rw [e1]
    have e3 : r.length + 1 + g.length + 1 + p.length = (p ++ 123 :: (g ++ 125 :: r)).length := by simp; omega
    first | rw [e2] | (rw [← e2]; simp only [Nat.add_assoc])
  | one _ ih => intro n cur s h1 _; exact ih n cur s h1 (fun h => by cases h)
  | @more t L g M _ _ ih1 ih2 =>
    intro n cur s h1 h2
    have hn := h2 rfl
    rw [List.append_assoc, ih1 n _ _ h1 (fun h => by cases h)]
    show ((eF n _ (44 :: (g ++ s)))).map _ = _
    rw [eF, if_neg (by decide), if_neg (by decide), if_neg (fun e => by omega), ih2 n _ s h1 (fun _ => hn), eF_add, eF_add]
    have e1 : cur ++ t ++ [44] ++ g = cur ++ (t ++ 44 :: g) := by simp
    have e2 : g.length + (1 + t.length) = (t ++ 44 :: g).length := by simp; omega
    rw [e1]
    first | rw [e2] | (rw [← e2]; simp only [Nat.add_assoc])
/-- A group's texts, and what they mean. -/
theorem Gr.texts {b : Bool} {g : List UInt8} {M : List (List UInt8)} (h : Gr b g M) : ∀ s, ∃ ps : List (List UInt8 × List (List UInt8)), eF 1 [] (g ++ 125 :: s) = some (g.length, ps.map (·.1)) ∧ M = (ps.map (·.2)).flatten ∧ ps ≠ [] ∧ ∀ x ∈ ps, Gr false x.1 x.2 ∧ x.1.length ≤ g.length := by
  have one : ∀ {t : List UInt8} {L : List (List UInt8)}, Gr false t L → ∀ s, ∃ ps : List (List UInt8 × List (List UInt8)), eF 1 [] (t ++ 125 :: s) = some (t.length, ps.map (·.1)) ∧ L = (ps.map (·.2)).flatten ∧ ps ≠ [] ∧ ∀ x ∈ ps, Gr false x.1 x.2 ∧ x.1.length ≤ t.length := by
    intro t L h s
    refine ⟨[(t, L)], ?_, by simp, by simp, ?_⟩
    · rw [h.ends 1 [] _ (Nat.le_refl _) (fun h => by cases h), eF, if_neg (by decide), if_pos rfl, if_pos rfl]
      simp
    · intro x hx
      obtain rfl : x = (t, L) := by simpa using hx
      exact ⟨h, Nat.le_refl _⟩
  induction h with
  | plain h => exact one (Gr.plain h)
  | group h hg hr _ _ => exact one (Gr.group h hg hr)
  | one h _ => exact one h
  | @more t L g M h hg _ ih =>
    intro s
    obtain ⟨ps, h1, h2, h3, h4⟩ := ih s
    refine ⟨(t, L) :: ps, ?_, by rw [h2]; rfl, by simp, ?_⟩
    · rw [List.append_assoc, h.ends 1 [] _ (Nat.le_refl _) (fun h => by cases h)]
      show (eF 1 _ (44 :: (g ++ 125 :: s))).map _ = _
      rw [eF, if_neg (by decide), if_neg (by decide), if_pos ⟨rfl, rfl⟩, h1]
      simp
      omega
    · intro x hx
      rw [List.length_append, List.length_cons]
      rcases List.mem_cons.1 hx with rfl | hx
      · exact ⟨h, by simp⟩
      · have := h4 x hx
        exact ⟨this.1, by omega⟩
end Gl
end Go.Proofs.YtobkddekfcgclaaDoor
