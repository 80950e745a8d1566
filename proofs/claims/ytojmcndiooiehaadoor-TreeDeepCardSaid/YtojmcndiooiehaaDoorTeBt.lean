/-
  PLAIN: chapter 15: a node that may be, printed and parsed, is it. No program.
-/
import Derived.Test.YtojmcndiooiehaaDoorTeBk
namespace Go.Proofs.YtojmcndiooiehaaDoor
open Go.RowKit

namespace Te
theorem ok_parts {d : Nat} {k : Int} {s : List UInt8} {n : Int} {ks : List Nd} (h : ok d (.mk k s n ks) = true) : 0 < d ∧ ((k = 1 ∧ n = 0 ∧ Lx.identOf s = true ∧ oks (d - 1) ks = true) ∨ (k ≠ 1 ∧ ks = [] ∧ leafOk k s n = true)) := by
  by_cases hk : k = 1
  · subst hk
    rw [ok, if_pos rfl] at h
    simp at h
    exact ⟨h.1, .inl ⟨rfl, h.2.1, h.2.2.1, h.2.2.2⟩⟩
  · rw [ok, if_neg hk] at h
    simp at h
    exact ⟨h.1, .inr ⟨hk, h.2.1, h.2.2⟩⟩
theorem oks_in : ∀ (d : Nat) (l : List Nd), oks d l = true → ∀ x ∈ l, ok d x = true
  | _, [], _, x, hx => by cases hx
  | d, y :: r, h, x, hx => by
    rw [oks, Bool.and_eq_true] at h
    rcases List.mem_cons.1 hx with rfl | hx
    · exact h.1
    · exact oks_in d r h.2 x hx
/-- What a leaf that may be is. -/
theorem leaf_parts {k : Int} {s : List UInt8} {n : Int} (h : leafOk k s n = true) :
    (k = 2 ∧ n = 0 ∧ pathB s = true ∧ s ≠ trueT ∧ s ≠ falseT ∧ Dc.prOk s = false) ∨ (k = 3 ∧ s = [] ∧ Dc.knownB true n = true) ∨ (k = 4 ∧ n = 0 ∧ (s.contains 34 && s.contains 39) = false) ∨ (k = 5 ∧ s = [] ∧ (n = 0 ∨ n = 1)) := by
  unfold leafOk at h
  split at h
  · rename_i hk
    refine .inl ⟨hk, ?_⟩
    simp only [Bool.and_eq_true, decide_eq_true_eq, Bool.not_eq_true', decide_eq_false_iff_not] at h
    exact ⟨h.1, h.2.1.1.1, h.2.1.1.2, h.2.1.2, h.2.2⟩
  · split at h
    · rename_i hk
      refine .inr (.inl ⟨hk, ?_⟩)
      simp only [Bool.and_eq_true, decide_eq_true_eq] at h
      refine ⟨h.1, ?_⟩
      unfold Dc.knownB
      rw [Bool.true_and]
      exact decide_eq_true h.2
    · split at h
      · rename_i hk
        refine .inr (.inr (.inl ⟨hk, ?_⟩))
        simp only [Bool.and_eq_true, decide_eq_true_eq, Bool.not_eq_true'] at h
        exact h
      · split at h
        · rename_i hk
          refine .inr (.inr (.inr ⟨hk, ?_⟩))
          simp only [Bool.and_eq_true, decide_eq_true_eq, Bool.or_eq_true] at h
          exact h
        · cases h
theorem txt2 (s : List UInt8) (n : Int) (ks : List Nd) : txt (.mk 2 s n ks) = s := by rw [txt, if_neg (by decide), if_pos rfl]
theorem txt3 (s : List UInt8) (n : Int) (ks : List Nd) : txt (.mk 3 s n ks) = Dc.pr true n := by rw [txt, if_neg (by decide), if_neg (by decide), if_pos rfl]
theorem txt4 (s : List UInt8) (n : Int) (ks : List Nd) : txt (.mk 4 s n ks) = quoted s := by rw [txt, if_neg (by decide), if_neg (by decide), if_neg (by decide), if_pos rfl]
theorem txt5 (s : List UInt8) (n : Int) (ks : List Nd) : txt (.mk 5 s n ks) = if n = 1 then trueT else falseT := by rw [txt, if_neg (by decide), if_neg (by decide), if_neg (by decide), if_neg (by decide), if_pos rfl]
theorem toks_word {k : Int} (h1 : k ≠ 1) (h4 : k ≠ 4) (s : List UInt8) (n : Int) (ks : List Nd) : toks (.mk k s n ks) = [(1, txt (.mk k s n ks))] := by rw [toks, if_neg h1, if_neg h4]
theorem toks4 (s : List UInt8) (n : Int) (ks : List Nd) : toks (.mk 4 s n ks) = [(2, s)] := by rw [toks, if_neg (by decide), if_pos rfl]
theorem toks1 (s : List UInt8) (n : Int) (ks : List Nd) : toks (.mk 1 s n ks) = (1, s) :: (3, []) :: (tokss true ks ++ [(4, [])]) := by rw [toks, if_pos rfl]
theorem lex_txt : ∀ (d : Nat) (x : Nd), ok d x = true → Lx.lex (txt x) = some (toks x)
  | 0, .mk k s n ks, h => by rw [ok] at h; simp at h
  | d + 1, .mk k s n ks, h => by
    obtain ⟨_, h⟩ := ok_parts h
    rcases h with ⟨rfl, rfl, hi, hk⟩ | ⟨hk, rfl, hl⟩
    · have e : txt (.mk 1 s 0 ks) = s ++ 40 :: (txts true ks ++ [41]) := by rw [txt, if_pos rfl]; simp
      rw [e, toks1, Lx.lex_app (by decide) _ _ _ _ (Nat.le_refl _) (ident_word hi), lex_open, lex_txts ks true fun x hx => lex_txt d x (oks_in d ks hk x hx)]
      rfl
    · rcases leaf_parts hl with ⟨rfl, rfl, h1, _⟩ | ⟨rfl, rfl, h1⟩ | ⟨rfl, rfl, h1⟩ | ⟨rfl, rfl, h1⟩
      · rw [toks_word (by decide) (by decide), txt2]; exact path_word h1
      · rw [toks_word (by decide) (by decide), txt3]; exact pr_word h1
      · rw [toks4, txt4]; exact str_word h1
      · rw [toks_word (by decide) (by decide), txt5]
        rcases h1 with rfl | rfl
        · rw [if_neg (by decide)]; exact lex_false
        · rw [if_pos rfl]; exact lex_true
/-! ## the tokens as a node -/
theorem hd_toks (x : Nd) (r : List Tok) : hd 4 (toks x ++ r) = false := by
  obtain ⟨k, s, n, ks⟩ := x
  rw [toks]
  split
  · rfl
  · split <;> rfl
theorem word_true0 : word trueT = some (.mk 5 [] 1 []) := by
  have h : Dc.prOk trueT = false := by decide +kernel
  unfold word; rw [if_neg (by rw [h]; decide), if_pos rfl]
theorem word_false0 : word falseT = some (.mk 5 [] 0 []) := by
  have h : Dc.prOk falseT = false := by decide +kernel
  unfold word; rw [if_neg (by rw [h]; decide), if_neg (by decide), if_pos rfl]
theorem kids_toks {d : Nat} (s : List UInt8) (r : List Tok) : ∀ (ks : List Nd) (x : Nd) (acc : List Nd), (∀ y ∈ x :: ks, ∀ q, hd 3 q = false → expr d (toks y ++ q) = .ok (y, q)) →
    kidsA d s acc (tokss true (x :: ks) ++ (4, []) :: r) = .ok (.mk 1 s 0 (acc ++ x :: ks), r)
  | [], x, acc, h => by
    have e : tokss true [x] ++ (4, []) :: r = toks x ++ (4, []) :: r := by rw [tokss, tokss, if_pos rfl]; simp
    rw [e]
    exact kidsA_end (h x (by simp) _ rfl) rfl
  | y :: q, x, acc, h => by
    have e : tokss true (x :: y :: q) ++ (4, []) :: r = toks x ++ ((5, []) :: (tokss true (y :: q) ++ (4, []) :: r)) := by
      rw [tokss, tokss, if_pos rfl, if_neg (by decide), tokss, if_pos rfl]; simp
    rw [e, kidsA_more (h x (by simp) _ rfl) rfl rfl]
    have := kids_toks s r q y (acc ++ [x]) fun z hz => h z (List.mem_cons_of_mem _ hz)
    rw [List.append_assoc] at this
    exact this
theorem expr_toks : ∀ (d : Nat) (x : Nd), ok d x = true → ∀ r, hd 3 r = false → expr d (toks x ++ r) = .ok (x, r)
  | 0, .mk k s n ks, h, r, _ => by rw [ok] at h; simp at h
  | d + 1, .mk k s n ks, h, r, hr => by
    obtain ⟨_, h⟩ := ok_parts h
    rcases h with ⟨rfl, rfl, hi, hk⟩ | ⟨hk, rfl, hl⟩
    · have e : toks (.mk 1 s 0 ks) ++ r = (1, s) :: ((3, []) :: (tokss true ks ++ (4, []) :: r)) := by rw [toks1]; simp
      rw [e]
      cases ks with
      | nil => rw [expr_empty d hi rfl (by rw [tokss]; rfl)]; rw [tokss]; rfl
      | cons x q =>
        have h4 : hd 4 (((3, []) :: (tokss true (x :: q) ++ (4, []) :: r) : List Tok).drop 1) = false := by
          show hd 4 (tokss true (x :: q) ++ (4, []) :: r) = false
          rw [tokss, if_pos rfl]
          simp only [List.nil_append, List.append_assoc]
          exact hd_toks x _
        rw [expr_call d hi rfl h4]
        have := kids_toks s r q x [] fun y hy => expr_toks d y (oks_in d _ hk y hy)
        exact this
    · rcases leaf_parts hl with ⟨rfl, rfl, h1, h2, h3, h4⟩ | ⟨rfl, rfl, h1⟩ | ⟨rfl, rfl, h1⟩ | ⟨rfl, rfl, h1⟩
      · rw [toks_word (by decide) (by decide), txt2]
        show expr (d + 1) ((1, s) :: r) = _
        rw [expr_word d (by rw [hr, Bool.and_false])]
        unfold word
        rw [if_neg (by rw [h4]; decide), if_neg h2, if_neg h3, if_pos h1]
      · rw [toks_word (by decide) (by decide), txt3]
        show expr (d + 1) ((1, Dc.pr true n) :: r) = _
        rw [expr_word d (by rw [hr, Bool.and_false])]
        obtain ⟨p1, p2⟩ := Dc.parse_pr h1
        unfold word
        rw [if_pos p1, p2]
      · rw [toks4]
        exact expr_str d s r
      · rw [toks_word (by decide) (by decide), txt5]
        show expr (d + 1) ((1, if n = 1 then trueT else falseT) :: r) = _
        rw [expr_word d (by rw [hr, Bool.and_false])]
        rcases h1 with rfl | rfl
        · rw [if_neg (by decide), word_false0]
        · rw [if_pos rfl, word_true0]
/-- There and back. -/
theorem parse_txt {x : Nd} (h : ok 64 x = true) (hl : (txt x).length ≤ 4096) : parseS (txt x) = .ok x := by
  unfold parseS
  rw [if_neg (by omega), lex_txt 64 x h]
  have := expr_toks 64 x h [] rfl
  rw [List.append_nil] at this
  unfold parse
  show (match expr 64 (toks x) with | .error e => Except.error e | .ok (n, r) => if r = [] then .ok n else .error 8) = _
  rw [this]
  rfl
end Te
end Go.Proofs.YtojmcndiooiehaaDoor
