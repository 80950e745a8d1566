/-
  TeBk: PLAIN: chapter 15: a node that may be, printed and parsed, is it. No program.
  TeBt: PLAIN: chapter 15: a node that may be, printed and parsed, is it. No program.
-/
import Derived.Test.YtojmcndiooiehaaGreatDoorJ4

set_option linter.unusedSimpArgs false
set_option linter.unusedVariables false
namespace Go.Proofs.YtojmcndiooiehaaGreatDoor
open Go.RowKit

namespace Te
mutual
/-- The tokens of a node's text. -/
def toks : Nd → List Tok
  | .mk k s n ks => if k = 1 then (1, s) :: (3, []) :: (tokss true ks ++ [(4, [])]) else if k = 4 then [(2, s)] else [(1, txt (.mk k s n ks))]
def tokss : Bool → List Nd → List Tok
  | _, [] => []
  | b, x :: r => (if b = true then [] else [(5, [])]) ++ (toks x ++ tokss false r)
end
/-! ## one word -/
def wc (c : UInt8) : Prop := Lx.may c 0 = true ∧ c ≠ 123 ∧ c ≠ 125
theorem scan_plain : ∀ l : List UInt8, (∀ c ∈ l, wc c) → Lx.scan l 0 = some l.length
  | [], _ => rfl
  | c :: r, h => by
    obtain ⟨h1, h2, h3⟩ := h c (by simp)
    have hd : Lx.dep c 0 = 0 := by unfold Lx.dep; rw [if_neg h2, if_neg h3]
    rw [Lx.scan, if_pos h1, hd, if_neg (by decide), scan_plain r fun x hx => h x (List.mem_cons_of_mem _ hx)]
    rfl
theorem lex_plain {l : List UInt8} (h : ∀ c ∈ l, wc c) (h0 : l ≠ []) : Lx.lex l = some [(1, l)] := (Lx.one_word l).2 ⟨scan_plain l h, List.length_pos_iff.2 h0⟩
theorem u8_all {P : UInt8 → Prop} (h : ∀ n : Fin 256, P (UInt8.ofNat n.val)) (c : UInt8) : P c := by
  have := h ⟨c.toNat, c.toNat_lt⟩
  simpa using this
theorem wc_all : ∀ c : UInt8, Lx.isI c = true → wc c := u8_all (P := fun c => Lx.isI c = true → Lx.may c 0 = true ∧ c ≠ 123 ∧ c ≠ 125) (by decide +kernel)
theorem wc_digit : ∀ c : UInt8, Dc.isD c = true → wc c := u8_all (P := fun c => Dc.isD c = true → Lx.may c 0 = true ∧ c ≠ 123 ∧ c ≠ 125) (by decide +kernel)
theorem ident_word {s : List UInt8} (h : Lx.identOf s = true) : Lx.lex s = some [(1, s)] := by
  unfold Lx.identOf at h
  rw [Bool.and_eq_true] at h
  refine lex_plain (fun c hc => wc_all c (List.all_eq_true.1 h.1 c hc)) ?_
  rintro rfl
  exact absurd h.2 (by decide)
theorem path_word {s : List UInt8} (h : pathB s = true) : Lx.lex s = some [(1, s)] := by
  unfold pathB Lx.pathOf at h
  rw [Bool.and_eq_true, Bool.and_eq_true, Bool.and_eq_true] at h
  exact (Lx.one_word s).2 ⟨of_decide_eq_true h.2.1.1, of_decide_eq_true h.2.1.2⟩
theorem allD_mem {l : List UInt8} (h : Dc.allD l = true) : ∀ c ∈ l, wc c := fun c hc => wc_digit c (List.all_eq_true.1 h c hc)
theorem pr_known {n : Int} (h : Dc.knownB true n = true) : n.natAbs ≤ 4611686018427387904 := by
  unfold Dc.knownB at h
  rw [Bool.true_and] at h
  have := of_decide_eq_true h
  omega
theorem pr_word {n : Int} (h : Dc.knownB true n = true) : Lx.lex (Dc.pr true n) = some [(1, Dc.pr true n)] := by
  have hn := pr_known h
  have hp : Dc.allD (Dc.plain (n.natAbs / 1000000)) = true := Dc.plain_all (Dc.lt20 (by omega))
  refine lex_plain (fun c hc => ?_) (fun e => ?_)
  · unfold Dc.pr at hc
    rw [if_pos h] at hc
    unfold Dc.sgn Dc.pbod Dc.fracText at hc
    rcases List.mem_append.1 hc with hc | hc
    · split at hc
      · rw [List.mem_singleton] at hc; subst hc; unfold wc; decide
      · cases hc
    · rcases List.mem_append.1 hc with hc | hc
      · exact allD_mem hp c hc
      · split at hc
        · cases hc
        · rcases List.mem_cons.1 hc with rfl | hc
          · unfold wc; decide
          · exact allD_mem (Dc.allD_trim (Dc.six_all (by omega))) c hc
  · unfold Dc.pr at e
    rw [if_pos h] at e
    unfold Dc.pbod at e
    have h1 := (List.append_eq_nil_iff.1 e).2
    exact Dc.plain_ne _ (List.append_eq_nil_iff.1 h1).1
/-! ## a quoted text -/
theorem idx_here (q : UInt8) : ∀ s : List UInt8, s.contains q = false → Lx.idx q (s ++ [q]) = s.length
  | [], _ => by unfold Lx.idx; simp
  | a :: r, h => by
    rw [List.contains_cons, Bool.or_eq_false_iff] at h
    have ih := idx_here q r h.2
    have ha : (a != q) = true := by
      have := h.1
      simp at this ⊢
      exact fun e => this e.symm
    unfold Lx.idx at ih ⊢
    rw [List.cons_append, List.takeWhile_cons, if_pos ha, List.length_cons, ih, List.length_cons]
theorem lex_quote {q : UInt8} (hq : q = 34 ∨ q = 39) {s : List UInt8} (h : s.contains q = false) : Lx.lex (q :: (s ++ [q])) = some [(2, s)] := by
  have hb : Lx.blank q = false := by rcases hq with rfl | rfl <;> decide
  have ht : Lx.token q (s ++ [q]) = some ((2, s), s.length + 1) := by
    unfold Lx.token
    rw [if_neg (by rcases hq with rfl | rfl <;> decide), if_neg (by rcases hq with rfl | rfl <;> decide), if_neg (by rcases hq with rfl | rfl <;> decide), if_pos hq, idx_here q s h, if_pos (by simp), List.take_left']
    rfl
  rw [Lx.lex_tok hb ht]
  have : (s ++ [q]).drop (s.length + 1) = [] := List.drop_eq_nil_of_le (by simp)
  rw [this, Lx.lex_nil]
  rfl
theorem str_word {s : List UInt8} (h : (s.contains 34 && s.contains 39) = false) : Lx.lex (quoted s) = some [(2, s)] := by
  unfold quoted
  cases h1 : s.contains 34
  · rw [if_neg (by decide)]; exact lex_quote (.inl rfl) h1
  · rw [h1, Bool.true_and] at h
    rw [if_pos rfl]; exact lex_quote (.inr rfl) h
/-! ## a node's text, in tokens -/
theorem lex_open (m : List UInt8) : Lx.lex (40 :: m) = (Lx.lex m).map ([(3, [])] ++ ·) := Lx.lex_tok (by decide) (t := (3, [])) (n := 0) (by unfold Lx.token; rfl)
theorem lex_close (m : List UInt8) : Lx.lex (41 :: m) = (Lx.lex m).map ([(4, [])] ++ ·) := Lx.lex_tok (by decide) (t := (4, [])) (n := 0) (by unfold Lx.token; rfl)
theorem lex_comma (m : List UInt8) : Lx.lex (44 :: m) = (Lx.lex m).map ([(5, [])] ++ ·) := Lx.lex_tok (by decide) (t := (5, [])) (n := 0) (by unfold Lx.token; rfl)
theorem rest_stop : ∀ ks : List Nd, ∃ c m, txts false ks ++ [41] = c :: m ∧ Lx.stop c = true
  | [] => ⟨41, [], by rw [txts]; rfl, by decide⟩
  | x :: r => ⟨44, txt x ++ txts false r ++ [41], by rw [txts]; simp, by decide⟩
theorem lex_txts : ∀ (ks : List Nd) (b : Bool), (∀ x ∈ ks, Lx.lex (txt x) = some (toks x)) → Lx.lex (txts b ks ++ [41]) = some (tokss b ks ++ [(4, [])])
  | [], b, _ => by rw [txts, tokss]; exact (lex_close []).trans rfl
  | x :: r, b, h => by
    have ih := lex_txts r false fun y hy => h y (List.mem_cons_of_mem _ hy)
    obtain ⟨c, m, e, hc⟩ := rest_stop r
    have h1 : Lx.lex (txt x ++ (txts false r ++ [41])) = some (toks x ++ (tokss false r ++ [(4, [])])) := by
      rw [e, Lx.lex_app hc m _ _ _ (Nat.le_refl _) (h x (by simp)), ← e, ih]; rfl
    rw [txts, tokss]
    cases b
    · rw [if_neg (by decide), if_neg (by decide)]
      have e2 : [44] ++ (txt x ++ txts false r) ++ [41] = 44 :: (txt x ++ (txts false r ++ [41])) := by simp
      rw [e2, lex_comma, h1]; simp
    · rw [if_pos rfl, if_pos rfl]
      have e2 : [] ++ (txt x ++ txts false r) ++ [41] = txt x ++ (txts false r ++ [41]) := by simp
      rw [e2, h1]; simp
theorem lex_true : Lx.lex trueT = some [(1, trueT)] := by decide +kernel
theorem lex_false : Lx.lex falseT = some [(1, falseT)] := by decide +kernel
end Te
end Go.Proofs.YtojmcndiooiehaaGreatDoor

namespace Go.Proofs.YtojmcndiooiehaaGreatDoor
open Go.RowKit

namespace Te
theorem ok_parts {d : Nat} {k : Int} {s : List UInt8} {n : Int} {ks : List Nd} (h : ok d (.mk k s n ks) = true) : 0 < d ∧ ((k = 1 ∧ n = 0 ∧ Lx.identOf s = true ∧ oks (d - 1) ks = true) ∨ (k ≠ 1 ∧ ks = [] ∧ leafOk k s n = true)) := by
  by_cases hk : k = 1
  · subst hk
    rw [ok, if_pos rfl] at h
    simp at h
    exact ⟨h.1, .inl ⟨rfl, h.2.1, h.2.2.1, h.2.2.2⟩⟩
  · rw [ok, if_neg hk] at h
    simp at h
    exact ⟨h.1, .inr ⟨hk, h.2.1, h.2.2⟩⟩
theorem oks_in : ∀ (d : Nat) (l : List Nd), oks d l = true → ∀ x ∈ l, ok d x = true
  | _, [], _, x, hx => by cases hx
  | d, y :: r, h, x, hx => by
    rw [oks, Bool.and_eq_true] at h
    rcases List.mem_cons.1 hx with rfl | hx
    · exact h.1
    · exact oks_in d r h.2 x hx
/-- What a leaf that may be is. -/
theorem leaf_parts {k : Int} {s : List UInt8} {n : Int} (h : leafOk k s n = true) :
    (k = 2 ∧ n = 0 ∧ pathB s = true ∧ s ≠ trueT ∧ s ≠ falseT ∧ Dc.prOk s = false) ∨ (k = 3 ∧ s = [] ∧ Dc.knownB true n = true) ∨ (k = 4 ∧ n = 0 ∧ (s.contains 34 && s.contains 39) = false) ∨ (k = 5 ∧ s = [] ∧ (n = 0 ∨ n = 1)) := by
  unfold leafOk at h
  split at h
  · rename_i hk
    refine .inl ⟨hk, ?_⟩
    simp only [Bool.and_eq_true, decide_eq_true_eq, Bool.not_eq_true', decide_eq_false_iff_not] at h
    exact ⟨h.1, h.2.1.1.1, h.2.1.1.2, h.2.1.2, h.2.2⟩
  · split at h
    · rename_i hk
      refine .inr (.inl ⟨hk, ?_⟩)
      simp only [Bool.and_eq_true, decide_eq_true_eq] at h
      refine ⟨h.1, ?_⟩
      unfold Dc.knownB
      rw [Bool.true_and]
      exact decide_eq_true h.2
    · split at h
      · rename_i hk
        refine .inr (.inr (.inl ⟨hk, ?_⟩))
        simp only [Bool.and_eq_true, decide_eq_true_eq, Bool.not_eq_true'] at h
        exact h
      · split at h
        · rename_i hk
          refine .inr (.inr (.inr ⟨hk, ?_⟩))
          simp only [Bool.and_eq_true, decide_eq_true_eq, Bool.or_eq_true] at h
          exact h
        · cases h
theorem txt2 (s : List UInt8) (n : Int) (ks : List Nd) : txt (.mk 2 s n ks) = s := by rw [txt, if_neg (by decide), if_pos rfl]
theorem txt3 (s : List UInt8) (n : Int) (ks : List Nd) : txt (.mk 3 s n ks) = Dc.pr true n := by rw [txt, if_neg (by decide), if_neg (by decide), if_pos rfl]
theorem txt4 (s : List UInt8) (n : Int) (ks : List Nd) : txt (.mk 4 s n ks) = quoted s := by rw [txt, if_neg (by decide), if_neg (by decide), if_neg (by decide), if_pos rfl]
theorem txt5 (s : List UInt8) (n : Int) (ks : List Nd) : txt (.mk 5 s n ks) = if n = 1 then trueT else falseT := by rw [txt, if_neg (by decide), if_neg (by decide), if_neg (by decide), if_neg (by decide), if_pos rfl]
theorem toks_word {k : Int} (h1 : k ≠ 1) (h4 : k ≠ 4) (s : List UInt8) (n : Int) (ks : List Nd) : toks (.mk k s n ks) = [(1, txt (.mk k s n ks))] := by rw [toks, if_neg h1, if_neg h4]
theorem toks4 (s : List UInt8) (n : Int) (ks : List Nd) : toks (.mk 4 s n ks) = [(2, s)] := by rw [toks, if_neg (by decide), if_pos rfl]
theorem toks1 (s : List UInt8) (n : Int) (ks : List Nd) : toks (.mk 1 s n ks) = (1, s) :: (3, []) :: (tokss true ks ++ [(4, [])]) := by rw [toks, if_pos rfl]
theorem lex_txt : ∀ (d : Nat) (x : Nd), ok d x = true → Lx.lex (txt x) = some (toks x)
  | 0, .mk k s n ks, h => by rw [ok] at h; simp at h
  | d + 1, .mk k s n ks, h => by
    obtain ⟨_, h⟩ := ok_parts h
    rcases h with ⟨rfl, rfl, hi, hk⟩ | ⟨hk, rfl, hl⟩
    · have e : txt (.mk 1 s 0 ks) = s ++ 40 :: (txts true ks ++ [41]) := by rw [txt, if_pos rfl]; simp
      rw [e, toks1, Lx.lex_app (by decide) _ _ _ _ (Nat.le_refl _) (ident_word hi), lex_open, lex_txts ks true fun x hx => lex_txt d x (oks_in d ks hk x hx)]
      rfl
    · rcases leaf_parts hl with ⟨rfl, rfl, h1, _⟩ | ⟨rfl, rfl, h1⟩ | ⟨rfl, rfl, h1⟩ | ⟨rfl, rfl, h1⟩
      · rw [toks_word (by decide) (by decide), txt2]; exact path_word h1
      · rw [toks_word (by decide) (by decide), txt3]; exact pr_word h1
      · rw [toks4, txt4]; exact str_word h1
      · rw [toks_word (by decide) (by decide), txt5]
        rcases h1 with rfl | rfl
        · rw [if_neg (by decide)]; exact lex_false
        · rw [if_pos rfl]; exact lex_true
/-! ## the tokens as a node -/
theorem hd_toks (x : Nd) (r : List Tok) : hd 4 (toks x ++ r) = false := by
  obtain ⟨k, s, n, ks⟩ := x
  rw [toks]
  split
  · rfl
  · split <;> rfl
theorem word_true0 : word trueT = some (.mk 5 [] 1 []) := by
  have h : Dc.prOk trueT = false := by decide +kernel
  unfold word; rw [if_neg (by rw [h]; decide), if_pos rfl]
theorem word_false0 : word falseT = some (.mk 5 [] 0 []) := by
  have h : Dc.prOk falseT = false := by decide +kernel
  unfold word; rw [if_neg (by rw [h]; decide), if_neg (by decide), if_pos rfl]
theorem kids_toks {d : Nat} (s : List UInt8) (r : List Tok) : ∀ (ks : List Nd) (x : Nd) (acc : List Nd), (∀ y ∈ x :: ks, ∀ q, hd 3 q = false → expr d (toks y ++ q) = .ok (y, q)) →
    kidsA d s acc (tokss true (x :: ks) ++ (4, []) :: r) = .ok (.mk 1 s 0 (acc ++ x :: ks), r)
  | [], x, acc, h => by
    have e : tokss true [x] ++ (4, []) :: r = toks x ++ (4, []) :: r := by rw [tokss, tokss, if_pos rfl]; simp
    rw [e]
    exact kidsA_end (h x (by simp) _ rfl) rfl
  | y :: q, x, acc, h => by
    have e : tokss true (x :: y :: q) ++ (4, []) :: r = toks x ++ ((5, []) :: (tokss true (y :: q) ++ (4, []) :: r)) := by
      rw [tokss, tokss, if_pos rfl, if_neg (by decide), tokss, if_pos rfl]; simp
    rw [e, kidsA_more (h x (by simp) _ rfl) rfl rfl]
    have := kids_toks s r q y (acc ++ [x]) fun z hz => h z (List.mem_cons_of_mem _ hz)
    rw [List.append_assoc] at this
    exact this
theorem expr_toks : ∀ (d : Nat) (x : Nd), ok d x = true → ∀ r, hd 3 r = false → expr d (toks x ++ r) = .ok (x, r)
  | 0, .mk k s n ks, h, r, _ => by rw [ok] at h; simp at h
  | d + 1, .mk k s n ks, h, r, hr => by
    obtain ⟨_, h⟩ := ok_parts h
    rcases h with ⟨rfl, rfl, hi, hk⟩ | ⟨hk, rfl, hl⟩
    · have e : toks (.mk 1 s 0 ks) ++ r = (1, s) :: ((3, []) :: (tokss true ks ++ (4, []) :: r)) := by rw [toks1]; simp
      rw [e]
      cases ks with
      | nil => rw [expr_empty d hi rfl (by rw [tokss]; rfl)]; rw [tokss]; rfl
      | cons x q =>
        have h4 : hd 4 (((3, []) :: (tokss true (x :: q) ++ (4, []) :: r) : List Tok).drop 1) = false := by
          show hd 4 (tokss true (x :: q) ++ (4, []) :: r) = false
          rw [tokss, if_pos rfl]
          simp only [List.nil_append, List.append_assoc]
          exact hd_toks x _
        rw [expr_call d hi rfl h4]
        have := kids_toks s r q x [] fun y hy => expr_toks d y (oks_in d _ hk y hy)
        exact this
    · rcases leaf_parts hl with ⟨rfl, rfl, h1, h2, h3, h4⟩ | ⟨rfl, rfl, h1⟩ | ⟨rfl, rfl, h1⟩ | ⟨rfl, rfl, h1⟩
      · rw [toks_word (by decide) (by decide), txt2]
        show expr (d + 1) ((1, s) :: r) = _
        rw [expr_word d (by rw [hr, Bool.and_false])]
        unfold word
        rw [if_neg (by rw [h4]; decide), if_neg h2, if_neg h3, if_pos h1]
      · rw [toks_word (by decide) (by decide), txt3]
        show expr (d + 1) ((1, Dc.pr true n) :: r) = _
        rw [expr_word d (by rw [hr, Bool.and_false])]
        obtain ⟨p1, p2⟩ := Dc.parse_pr h1
        unfold word
        rw [if_pos p1, p2]
      · rw [toks4]
        exact expr_str d s r
      · rw [toks_word (by decide) (by decide), txt5]
        show expr (d + 1) ((1, if n = 1 then trueT else falseT) :: r) = _
        rw [expr_word d (by rw [hr, Bool.and_false])]
        rcases h1 with rfl | rfl
        · rw [if_neg (by decide), word_false0]
        · rw [if_pos rfl, word_true0]
/-- There and back. -/
theorem parse_txt {x : Nd} (h : ok 64 x = true) (hl : (txt x).length ≤ 4096) : parseS (txt x) = .ok x := by
  unfold parseS
  rw [if_neg (by omega), lex_txt 64 x h]
  have := expr_toks 64 x h [] rfl
  rw [List.append_nil] at this
  unfold parse
  show (match expr 64 (toks x) with | .error e => Except.error e | .ok (n, r) => if r = [] then .ok n else .error 8) = _
  rw [this]
  rfl
end Te
end Go.Proofs.YtojmcndiooiehaaGreatDoor
