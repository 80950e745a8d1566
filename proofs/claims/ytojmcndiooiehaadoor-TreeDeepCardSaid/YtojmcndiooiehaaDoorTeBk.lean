/-
  PLAIN: chapter 15: a node that may be, printed and parsed, is it. No program.
-/
import Derived.Test.YtojmcndiooiehaaDoorTeP
namespace Go.Proofs.YtojmcndiooiehaaDoor
open Go.RowKit

namespace Te
mutual
/-- The tokens of a node's text. -/
def toks : Nd → List Tok
  | .mk k s n ks => if k = 1 then (1, s) :: (3, []) :: (tokss true ks ++ [(4, [])]) else if k = 4 then [(2, s)] else [(1, txt (.mk k s n ks))]
def tokss : Bool → List Nd → List Tok
  | _, [] => []
  | b, x :: r => (if b = true then [] else [(5, [])]) ++ (toks x ++ tokss false r)
end
/-! ## one word -/
def wc (c : UInt8) : Prop := Lx.may c 0 = true ∧ c ≠ 123 ∧ c ≠ 125
theorem scan_plain : ∀ l : List UInt8, (∀ c ∈ l, wc c) → Lx.scan l 0 = some l.length
  | [], _ => rfl
  | c :: r, h => by
    obtain ⟨h1, h2, h3⟩ := h c (by simp)
    have hd : Lx.dep c 0 = 0 := by unfold Lx.dep; rw [if_neg h2, if_neg h3]
    rw [Lx.scan, if_pos h1, hd, if_neg (by decide), scan_plain r fun x hx => h x (List.mem_cons_of_mem _ hx)]
    rfl
theorem lex_plain {l : List UInt8} (h : ∀ c ∈ l, wc c) (h0 : l ≠ []) : Lx.lex l = some [(1, l)] := (Lx.one_word l).2 ⟨scan_plain l h, List.length_pos_iff.2 h0⟩
theorem u8_all {P : UInt8 → Prop} (h : ∀ n : Fin 256, P (UInt8.ofNat n.val)) (c : UInt8) : P c := by
  have := h ⟨c.toNat, c.toNat_lt⟩
  simpa using this
theorem wc_all : ∀ c : UInt8, Lx.isI c = true → wc c := u8_all (P := fun c => Lx.isI c = true → Lx.may c 0 = true ∧ c ≠ 123 ∧ c ≠ 125) (by decide +kernel)
theorem wc_digit : ∀ c : UInt8, Dc.isD c = true → wc c := u8_all (P := fun c => Dc.isD c = true → Lx.may c 0 = true ∧ c ≠ 123 ∧ c ≠ 125) (by decide +kernel)
theorem ident_word {s : List UInt8} (h : Lx.identOf s = true) : Lx.lex s = some [(1, s)] := by
  unfold Lx.identOf at h
  rw [Bool.and_eq_true] at h
  refine lex_plain (fun c hc => wc_all c (List.all_eq_true.1 h.1 c hc)) ?_
  rintro rfl
  exact absurd h.2 (by decide)
theorem path_word {s : List UInt8} (h : pathB s = true) : Lx.lex s = some [(1, s)] := by
  unfold pathB Lx.pathOf at h
  rw [Bool.and_eq_true, Bool.and_eq_true, Bool.and_eq_true] at h
  exact (Lx.one_word s).2 ⟨of_decide_eq_true h.2.1.1, of_decide_eq_true h.2.1.2⟩
theorem allD_mem {l : List UInt8} (h : Dc.allD l = true) : ∀ c ∈ l, wc c := fun c hc => wc_digit c (List.all_eq_true.1 h c hc)
theorem pr_known {n : Int} (h : Dc.knownB true n = true) : n.natAbs ≤ 4611686018427387904 := by
  unfold Dc.knownB at h
  rw [Bool.true_and] at h
  have := of_decide_eq_true h
  omega
theorem pr_word {n : Int} (h : Dc.knownB true n = true) : Lx.lex (Dc.pr true n) = some [(1, Dc.pr true n)] := by
  have hn := pr_known h
  have hp : Dc.allD (Dc.plain (n.natAbs / 1000000)) = true := Dc.plain_all (Dc.lt20 (by omega))
  refine lex_plain (fun c hc => ?_) (fun e => ?_)
  · unfold Dc.pr at hc
    rw [if_pos h] at hc
    unfold Dc.sgn Dc.pbod Dc.fracText at hc
    rcases List.mem_append.1 hc with hc | hc
    · split at hc
      · rw [List.mem_singleton] at hc; subst hc; unfold wc; decide
      · cases hc
    · rcases List.mem_append.1 hc with hc | hc
      · exact allD_mem hp c hc
      · split at hc
        · cases hc
        · rcases List.mem_cons.1 hc with rfl | hc
          · unfold wc; decide
          · exact allD_mem (Dc.allD_trim (Dc.six_all (by omega))) c hc
  · unfold Dc.pr at e
    rw [if_pos h] at e
    unfold Dc.pbod at e
    have h1 := (List.append_eq_nil_iff.1 e).2
    exact Dc.plain_ne _ (List.append_eq_nil_iff.1 h1).1
/-! ## a quoted text -/
theorem idx_here (q : UInt8) : ∀ s : List UInt8, s.contains q = false → Lx.idx q (s ++ [q]) = s.length
  | [], _ => by unfold Lx.idx; simp
  | a :: r, h => by
    rw [List.contains_cons, Bool.or_eq_false_iff] at h
    have ih := idx_here q r h.2
    have ha : (a != q) = true := by
      have := h.1
      simp at this ⊢
      exact fun e => this e.symm
    unfold Lx.idx at ih ⊢
    rw [List.cons_append, List.takeWhile_cons, if_pos ha, List.length_cons, ih, List.length_cons]
theorem lex_quote {q : UInt8} (hq : q = 34 ∨ q = 39) {s : List UInt8} (h : s.contains q = false) : Lx.lex (q :: (s ++ [q])) = some [(2, s)] := by
  have hb : Lx.blank q = false := by rcases hq with rfl | rfl <;> decide
  have ht : Lx.token q (s ++ [q]) = some ((2, s), s.length + 1) := by
    unfold Lx.token
    rw [if_neg (by rcases hq with rfl | rfl <;> decide), if_neg (by rcases hq with rfl | rfl <;> decide), if_neg (by rcases hq with rfl | rfl <;> decide), if_pos hq, idx_here q s h, if_pos (by simp), List.take_left']
    rfl
  rw [Lx.lex_tok hb ht]
  have : (s ++ [q]).drop (s.length + 1) = [] := List.drop_eq_nil_of_le (by simp)
  rw [this, Lx.lex_nil]
  rfl
theorem str_word {s : List UInt8} (h : (s.contains 34 && s.contains 39) = false) : Lx.lex (quoted s) = some [(2, s)] := by
  unfold quoted
  cases h1 : s.contains 34
  · rw [if_neg (by decide)]; exact lex_quote (.inl rfl) h1
  · rw [h1, Bool.true_and] at h
    rw [if_pos rfl]; exact lex_quote (.inr rfl) h
/-! ## a node's text, in tokens -/
theorem lex_open (m : List UInt8) : Lx.lex (40 :: m) = (Lx.lex m).map ([(3, [])] ++ ·) := Lx.lex_tok (by decide) (t := (3, [])) (n := 0) (by unfold Lx.token; rfl)
theorem lex_close (m : List UInt8) : Lx.lex (41 :: m) = (Lx.lex m).map ([(4, [])] ++ ·) := Lx.lex_tok (by decide) (t := (4, [])) (n := 0) (by unfold Lx.token; rfl)
theorem lex_comma (m : List UInt8) : Lx.lex (44 :: m) = (Lx.lex m).map ([(5, [])] ++ ·) := Lx.lex_tok (by decide) (t := (5, [])) (n := 0) (by unfold Lx.token; rfl)
theorem rest_stop : ∀ ks : List Nd, ∃ c m, txts false ks ++ [41] = c :: m ∧ Lx.stop c = true
  | [] => ⟨41, [], by rw [txts]; rfl, by decide⟩
  | x :: r => ⟨44, txt x ++ txts false r ++ [41], by rw [txts]; simp, by decide⟩
theorem lex_txts : ∀ (ks : List Nd) (b : Bool), (∀ x ∈ ks, Lx.lex (txt x) = some (toks x)) → Lx.lex (txts b ks ++ [41]) = some (tokss b ks ++ [(4, [])])
  | [], b, _ => by rw [txts, tokss]; exact (lex_close []).trans rfl
  | x :: r, b, h => by
    have ih := lex_txts r false fun y hy => h y (List.mem_cons_of_mem _ hy)
    obtain ⟨c, m, e, hc⟩ := rest_stop r
    have h1 : Lx.lex (txt x ++ (txts false r ++ [41])) = some (toks x ++ (tokss false r ++ [(4, [])])) := by
      rw [e, Lx.lex_app hc m _ _ _ (Nat.le_refl _) (h x (by simp)), ← e, ih]; rfl
    rw [txts, tokss]
    cases b
    · rw [if_neg (by decide), if_neg (by decide)]
      have e2 : [44] ++ (txt x ++ txts false r) ++ [41] = 44 :: (txt x ++ (txts false r ++ [41])) := by simp
      rw [e2, lex_comma, h1]; simp
    · rw [if_pos rfl, if_pos rfl]
      have e2 : [] ++ (txt x ++ txts false r) ++ [41] = txt x ++ (txts false r ++ [41]) := by simp
      rw [e2, h1]; simp
theorem lex_true : Lx.lex trueT = some [(1, trueT)] := by decide +kernel
theorem lex_false : Lx.lex falseT = some [(1, falseT)] := by decide +kernel
end Te
end Go.Proofs.YtojmcndiooiehaaDoor
