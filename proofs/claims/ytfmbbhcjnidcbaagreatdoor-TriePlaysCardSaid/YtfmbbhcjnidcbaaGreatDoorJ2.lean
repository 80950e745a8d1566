/-
  GlPure: PLAIN: patterns of parts (chapter 9): classes, a simple pattern's elements, what they match; the walk that lets only the last star take more. No program.
-/
import Derived.Test.YtfmbbhcjnidcbaaGreatDoorJ1

namespace Go.Proofs.YtfmbbhcjnidcbaaGreatDoor
open Go.RowKit

namespace Gl
/-- The ranges of a class stand in order. -/
def okR : List UInt8 → Bool
  | a :: d :: b :: r => if d = 45 then !decide (b.toNat < a.toNat) && okR r else okR (d :: b :: r)
  | _ => true
/-- A byte is in a class. -/
def inR (c : UInt8) : List UInt8 → Bool
  | a :: d :: b :: r => if d = 45 then (decide (a.toNat ≤ c.toNat) && decide (c.toNat ≤ b.toNat)) || inR c r else decide (a = c) || inR c (d :: b :: r)
  | [a, b] => decide (a = c) || decide (b = c)
  | [a] => decide (a = c)
  | [] => false
inductive El where
  | star | any | cls (c : List UInt8) | lit (b : UInt8)
/-- A pattern's elements, if it is a simple one. -/
def toks : Option (List UInt8) → List UInt8 → Option (List El)
  | none, [] => some []
  | some _, [] => none
  | none, b :: r => if b = 42 then (toks none r).map (El.star :: ·) else if b = 63 then (toks none r).map (El.any :: ·) else if b = 91 then toks (some []) r
      else if Nm.okB b then (toks none r).map (El.lit b :: ·) else none
  | some c, b :: r => if b = 93 then (if !c.isEmpty && okR c then (toks none r).map (El.cls c :: ·) else none) else toks (some (c ++ [b])) r
def simple (s : List UInt8) : Bool := (toks none s).isSome
/-- No such byte. -/
def none93 (s : List UInt8) : Bool := s.all (· != 93)
def noSpec (s : List UInt8) : Bool := s.all fun b => b != 42 && (b != 63 && b != 91)

theorem toks_in (c x y : List UInt8) (h : none93 x = true) : toks (some c) (x ++ 93 :: y) = if !(c ++ x).isEmpty && okR (c ++ x) then (toks none y).map (El.cls (c ++ x) :: ·) else none := by
  induction x generalizing c with
  | nil => rw [List.append_nil]; show toks (some c) (93 :: y) = _; rw [toks, if_pos rfl]
  | cons b r ih =>
    have hb : b ≠ 93 ∧ none93 r = true := by simpa [none93] using h
    show toks (some c) (b :: (r ++ 93 :: y)) = _
    rw [toks, if_neg hb.1, ih _ hb.2]
    simp
theorem toks_out (c x : List UInt8) (h : none93 x = true) : toks (some c) x = none := by
  induction x generalizing c with
  | nil => rfl
  | cons b r ih =>
    have hb : b ≠ 93 ∧ none93 r = true := by simpa [none93] using h
    rw [toks, if_neg hb.1, ih _ hb.2]
theorem simple_nil : simple [] = true := rfl
theorem simple_star (b : UInt8) (h : b = 42 ∨ b = 63) (r : List UInt8) : simple (b :: r) = simple r := by
  unfold simple
  rcases h with rfl | rfl
  · rw [toks, if_pos rfl, Option.isSome_map]
  · rw [toks, if_neg (by decide), if_pos rfl, Option.isSome_map]
theorem simple_cls (x y : List UInt8) (h : none93 x = true) : simple (91 :: (x ++ 93 :: y)) = (!x.isEmpty && okR x && simple y) := by
  unfold simple
  rw [toks, if_neg (by decide), if_neg (by decide), if_pos rfl, toks_in _ _ _ h, List.nil_append]
  split
  · rename_i e; rw [e, Option.isSome_map, Bool.true_and]
  · rename_i e; rw [show (!x.isEmpty && okR x) = false by simpa using e]; rfl
theorem simple_open (x : List UInt8) (h : none93 x = true) : simple (91 :: x) = false := by
  unfold simple
  rw [toks, if_neg (by decide), if_neg (by decide), if_pos rfl, toks_out _ _ h]; rfl
theorem simple_lit {b : UInt8} (h : b ≠ 42 ∧ b ≠ 63 ∧ b ≠ 91) (r : List UInt8) : simple (b :: r) = (Nm.okB b && simple r) := by
  unfold simple
  rw [toks, if_neg h.1, if_neg h.2.1, if_neg h.2.2]
  split
  · rename_i e; rw [e, Option.isSome_map, Bool.true_and]
  · rename_i e; rw [show Nm.okB b = false by simpa using e]; rfl
theorem simple_chunk (x y : List UInt8) (h : noSpec x = true) : simple (x ++ y) = (x.all Nm.okB && simple y) := by
  induction x with
  | nil => simp
  | cons b r ih =>
    have hb : (b ≠ 42 ∧ b ≠ 63 ∧ b ≠ 91) ∧ noSpec r = true := by simpa [noSpec] using h
    show simple (b :: (r ++ y)) = _
    rw [simple_lit hb.1, ih hb.2, List.all_cons, Bool.and_assoc]

/-! ## what is matched -/
def one (c : UInt8) : El → Bool
  | .star => false
  | .any => true
  | .cls x => inR c x
  | .lit b => decide (b = c)
def isStar : El → Bool
  | .star => true
  | _ => false
/-- A tail of it. -/
def tails (f : List UInt8 → Bool) : List UInt8 → Bool
  | [] => f []
  | c :: t => f (c :: t) || tails f t
def mt : List El → List UInt8 → Bool
  | [] => fun s => s.isEmpty
  | e :: p => fun s => if isStar e then tails (mt p) s else match s with
    | [] => false
    | c :: t => one c e && mt p t
/-- A pattern matches a text. -/
def gm (p s : List UInt8) : Bool := match toks none p with
  | none => false
  | some ps => mt ps s

theorem tails_iff (f : List UInt8 → Bool) (s : List UInt8) : tails f s = true ↔ ∃ k, k ≤ s.length ∧ f (s.drop k) = true := by
  induction s with
  | nil => exact ⟨fun h => ⟨0, Nat.le_refl _, h⟩, fun ⟨k, hk, h⟩ => by rw [List.drop_nil] at h; exact h⟩
  | cons c t ih =>
    unfold tails
    rw [Bool.or_eq_true, ih]
    constructor
    · rintro (h | ⟨k, hk, h⟩)
      · exact ⟨0, Nat.zero_le _, h⟩
      · exact ⟨k + 1, by simpa using hk, h⟩
    · rintro ⟨k, hk, h⟩
      cases k with
      | zero => exact .inl h
      | succ k => exact .inr ⟨k, by simpa using hk, h⟩
theorem mt_star (p : List El) (s : List UInt8) : mt (.star :: p) s = tails (mt p) s := rfl
theorem mt_one {e : El} (h : isStar e = false) (p : List El) (c : UInt8) (t : List UInt8) : mt (e :: p) (c :: t) = (one c e && mt p t) := by
  show (if isStar e = true then _ else _) = _
  rw [if_neg (by rw [h]; decide)]
theorem mt_end {e : El} (h : isStar e = false) (p : List El) : mt (e :: p) [] = false := by
  show (if isStar e = true then _ else _) = _
  rw [if_neg (by rw [h]; decide)]
theorem mt_nothing (p : List El) : mt p [] = p.all isStar := by
  induction p with
  | nil => rfl
  | cons e p ih =>
    cases h : isStar e
    · rw [mt_end h, List.all_cons, h]; rfl
    · cases e <;> first | cases h | skip
      rw [mt_star]; show mt p [] = _; rw [ih]; simp [isStar]
/-- Elements that take a byte each. -/
def singles (q : List El) : Prop := ∀ e ∈ q, isStar e = false
theorem mt_singles {ks : List El} (hk : singles ks) (r : List El) (x : List UInt8) (h : mt (ks ++ r) x = true) : ks.length ≤ x.length ∧ mt r (x.drop ks.length) = true := by
  induction ks generalizing x with
  | nil => exact ⟨Nat.zero_le _, h⟩
  | cons e ks ih =>
    have he := hk e (List.mem_cons_self ..)
    cases x with
    | nil => rw [List.cons_append, mt_end he] at h; cases h
    | cons c t =>
      rw [List.cons_append, mt_one he, Bool.and_eq_true] at h
      have := ih (fun e he => hk e (List.mem_cons_of_mem _ he)) t h.2
      exact ⟨by simpa using this.1, this.2⟩

/-- What the tails behind the first byte say. -/
def nxt (q : List El) (l : List UInt8) : Bool := match l with
  | [] => false
  | _ :: l' => tails (mt q) l'
/-- The walk: the last star, if there was one, left q to match all of a tail of l; ps is left to match t. -/
def Inv (R : Bool) (st : Option (List El × List UInt8)) (ps : List El) (t : List UInt8) : Prop := match st with
  | none => R = mt ps t
  | some (q, l) => ∃ k ks, k ≤ l.length ∧ t = l.drop k ∧ q = ks ++ ps ∧ ks.length = k ∧ singles ks ∧ R = (mt ps t || nxt q l)
theorem nxt_back {ks : List El} {ps : List El} {l : List UInt8} (hs : singles ks) (h : nxt (ks ++ ps) l = true) : ∃ m, ks.length < m ∧ m ≤ l.length ∧ mt ps (l.drop m) = true := by
  cases l with
  | nil => cases h
  | cons x l' =>
    obtain ⟨j, hj, hm⟩ := (tails_iff _ _).1 h
    obtain ⟨h1, h2⟩ := mt_singles hs _ _ hm
    rw [List.length_drop] at h1
    refine ⟨j + ks.length + 1, by omega, by rw [List.length_cons]; omega, ?_⟩
    rw [List.drop_drop] at h2
    exact h2
theorem Inv.star {R : Bool} {st : Option (List El × List UInt8)} {ps : List El} {t : List UInt8} (h : Inv R st (.star :: ps) t) : Inv R (some (ps, t)) ps t := by
  refine ⟨0, [], Nat.zero_le _, rfl, rfl, rfl, (fun _ h => by cases h), ?_⟩
  have key : (mt ps t || nxt ps t) = tails (mt ps) t := by
    cases t with
    | nil => show (mt ps [] || false) = mt ps []; rw [Bool.or_false]
    | cons c t => rfl
  rw [key]
  cases st with
  | none => exact h
  | some st =>
    obtain ⟨q, l⟩ := st
    obtain ⟨k, ks, hk, rfl, rfl, hkl, hs, rfl⟩ := h
    rw [mt_star]
    cases hn : nxt (ks ++ El.star :: ps) l with
    | false => rw [Bool.or_false]
    | true =>
      rw [Bool.or_true]
      symm
      obtain ⟨m, h1, h2, h3⟩ := nxt_back hs hn
      rw [mt_star] at h3
      obtain ⟨j, h4, h5⟩ := (tails_iff _ _).1 h3
      rw [List.length_drop] at h4
      refine (tails_iff _ _).2 ⟨m + j - k, by rw [List.length_drop]; omega, ?_⟩
      rw [List.drop_drop, show k + (m + j - k) = m + j by omega]
      rw [List.drop_drop] at h5
      exact h5
theorem Inv.take {R : Bool} {st : Option (List El × List UInt8)} {e : El} {ps : List El} {c : UInt8} {t : List UInt8} (h : Inv R st (e :: ps) (c :: t)) (he : isStar e = false) (ho : one c e = true) : Inv R st ps t := by
  cases st with
  | none => unfold Inv at h ⊢; rw [h, mt_one he, ho, Bool.true_and]
  | some st =>
    obtain ⟨q, l⟩ := st
    obtain ⟨k, ks, hk, ht, rfl, hkl, hs, hR⟩ := h
    have hlen : k < l.length := by
      have := congrArg List.length ht
      rw [List.length_cons, List.length_drop] at this
      omega
    have ht2 := List.drop_eq_getElem_cons hlen
    rw [← ht, List.cons.injEq] at ht2
    refine ⟨k + 1, ks ++ [e], by omega, ht2.2, by simp, by simp [hkl], ?_, ?_⟩
    · intro x hx
      rcases List.mem_append.1 hx with hx | hx
      · exact hs x hx
      · obtain rfl : x = e := by simpa using hx
        exact he
    · rw [hR, mt_one he, ho, Bool.true_and]
theorem mt_stuck {ps : List El} {c : UInt8} {t : List UInt8} (h : ps = [] ∨ ∃ e p', ps = e :: p' ∧ isStar e = false ∧ one c e = false) : mt ps (c :: t) = false := by
  rcases h with rfl | ⟨e, p', rfl, he, ho⟩
  · rfl
  · rw [mt_one he, ho]; rfl
theorem Inv.stuck {R : Bool} {ps : List El} {c : UInt8} {t : List UInt8} (h : Inv R none ps (c :: t)) (hs : mt ps (c :: t) = false) : R = false := by
  unfold Inv at h; rw [h, hs]
theorem Inv.back {R : Bool} {q : List El} {l : List UInt8} {ps : List El} {c : UInt8} {t : List UInt8} (h : Inv R (some (q, l)) ps (c :: t)) (hs : mt ps (c :: t) = false) : 0 < l.length ∧ Inv R (some (q, l.drop 1)) q (l.drop 1) := by
  obtain ⟨k, ks, hk, ht, rfl, hkl, hsg, hR⟩ := h
  cases l with
  | nil => simp at ht
  | cons x l' =>
    refine ⟨by simp, 0, [], Nat.zero_le _, rfl, rfl, rfl, (fun _ h => by cases h), ?_⟩
    rw [hR, hs, Bool.false_or]
    show tails (mt _) l' = (mt _ l' || nxt _ l')
    cases l' with
    | nil => show mt _ [] = (mt _ [] || false); rw [Bool.or_false]
    | cons y l'' => rfl
theorem Inv.done {R : Bool} {st : Option (List El × List UInt8)} {ps : List El} (h : Inv R st ps []) : R = ps.all isStar := by
  rw [← mt_nothing]
  cases st with
  | none => exact h
  | some st =>
    obtain ⟨q, l⟩ := st
    obtain ⟨k, ks, hk, ht, rfl, hkl, hs, hR⟩ := h
    have hlen : l.length ≤ k := by
      have := congrArg List.length ht
      rw [List.length_drop] at this
      have h0 : ([] : List UInt8).length = 0 := rfl
      omega
    rw [hR]
    cases hn : nxt (ks ++ ps) l with
    | false => rw [Bool.or_false]
    | true =>
      obtain ⟨m, h1, h2, _⟩ := nxt_back hs hn
      omega
/-- What is behind the first byte, and ahead of 93. -/
def ah (s : List UInt8) : List UInt8 := s.takeWhile (· != 93)
def bh (s : List UInt8) : List UInt8 := (s.dropWhile (· != 93)).drop 1
def has93 (s : List UInt8) : Bool := !none93 s
theorem ah_none (s : List UInt8) : none93 (ah s) = true := by
  unfold none93 ah
  rw [List.all_eq_true]
  intro x hx
  exact List.all_eq_true.1 (List.all_takeWhile (p := (· != 93)) (l := s)) x hx
theorem cut93 (s : List UInt8) (h : has93 s = true) : s = ah s ++ 93 :: bh s := by
  induction s with
  | nil => cases h
  | cons b r ih =>
    unfold ah bh
    by_cases hb : b = 93
    · subst hb; rfl
    · have hc : (b != 93) = true := by simpa using hb
      rw [List.takeWhile_cons, List.dropWhile_cons, hc]
      show b :: r = b :: (ah r ++ 93 :: bh r)
      have hr : has93 r = true := by simpa [has93, none93, hb] using h
      rw [← ih hr]
/-- The first element of a simple pattern. -/
theorem toks_first {b : UInt8} {r : List UInt8} {ps : List El} (h : toks none (b :: r) = some ps) :
    (b = 42 ∧ ∃ p', ps = .star :: p' ∧ toks none r = some p') ∨ (b = 63 ∧ ∃ p', ps = .any :: p' ∧ toks none r = some p') ∨
    (b = 91 ∧ has93 r = true ∧ ∃ p', ps = .cls (ah r) :: p' ∧ toks none (bh r) = some p') ∨
    (b ≠ 42 ∧ b ≠ 63 ∧ b ≠ 91 ∧ ∃ p', ps = .lit b :: p' ∧ toks none r = some p') := by
  rw [toks] at h
  by_cases h1 : b = 42
  · rw [if_pos h1] at h
    obtain ⟨p', h2, h3⟩ := Option.map_eq_some_iff.1 h
    exact .inl ⟨h1, p', h3.symm, h2⟩
  rw [if_neg h1] at h
  by_cases h2 : b = 63
  · rw [if_pos h2] at h
    obtain ⟨p', h4, h3⟩ := Option.map_eq_some_iff.1 h
    exact .inr (.inl ⟨h2, p', h3.symm, h4⟩)
  rw [if_neg h2] at h
  by_cases h3 : b = 91
  · rw [if_pos h3] at h
    cases hn : has93 r with
    | false =>
      rw [toks_out [] r (by simpa [has93] using hn)] at h
      cases h
    | true =>
      rw [cut93 r hn, toks_in _ _ _ (ah_none r), List.nil_append] at h
      split at h
      · obtain ⟨p', h4, h5⟩ := Option.map_eq_some_iff.1 h
        exact .inr (.inr (.inl ⟨h3, rfl, p', h5.symm, h4⟩))
      · cases h
  rw [if_neg h3] at h
  split at h
  · obtain ⟨p', h4, h5⟩ := Option.map_eq_some_iff.1 h
    exact .inr (.inr (.inr ⟨h1, h2, h3, p', h5.symm, h4⟩))
  · cases h
theorem toks_empty {ps : List El} (h : toks none [] = some ps) : ps = [] := by
  rw [toks] at h; exact (Option.some.inj h).symm
theorem toks_stars (p : List UInt8) (ps : List El) (h : toks none p = some ps) : ps.all isStar = p.all (· == 42) := by
  induction p generalizing ps with
  | nil => rw [toks_empty h]; rfl
  | cons b r ih =>
    rcases toks_first h with ⟨rfl, p', rfl, h2⟩ | ⟨rfl, p', rfl, h2⟩ | ⟨rfl, _, p', rfl, h2⟩ | ⟨h1, _, _, p', rfl, h2⟩
    · rw [List.all_cons, List.all_cons, ih p' h2]; rfl
    · rfl
    · rfl
    · rw [List.all_cons, List.all_cons, show (b == 42) = false by simpa using h1]; rfl
end Gl
end Go.Proofs.YtfmbbhcjnidcbaaGreatDoor
