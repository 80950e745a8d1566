/-
  CHAPTER 11, PLAIN: an expression of one piece; groups within one another; a bracket expression of bytes told one by one.
-/
import Derived.Test.YtajijcnfhijanaaRxComp
namespace Go.Proofs.Ytajijcnfhijanaa
namespace Rx
section
variable {E : List UInt8 → Nat → Nat → Res} {s tail : List UInt8} {x : List In} {g g2 d : Nat}
theorem branch_one (hs : stops s = false) (hp : pieceE E s g d = .ok (x, tail, g2)) (ht : stops tail = true) : branchE E (s.length + 1) [] s g d = .ok (x, tail, g2) := by
  obtain ⟨k, hk⟩ : ∃ k, s.length = k + 1 := by
    cases s with
    | nil => cases hs
    | cons a r => exact ⟨r.length, rfl⟩
  rw [hk, branchE, hs, hp]
  show branchE E (k + 1) ([] ++ x) tail g2 d = _
  rw [branchE, ht]
  simp
theorem branch_err {e : Int} (hs : stops s = false) (hp : pieceE E s g d = .error e) : branchE E (s.length + 1) [] s g d = .error e := by
  rw [branchE, hs, hp]; rfl
theorem ways_one (hs : stops s = false) (hp : pieceE E s g d = .ok (x, tail, g2)) (ht : stops tail = true) (h1 : starts 124 tail = false) : waysE E (s.length + 1) [] s g d = .ok (x, tail, g2) := by
  rw [waysE, branch_one hs hp ht]
  show (if starts 124 tail = true then _ else _) = _
  rw [h1]; rfl
theorem ways_err {e : Int} (hs : stops s = false) (hp : pieceE E s g d = .error e) : waysE E (s.length + 1) [] s g d = .error e := by
  rw [waysE, branch_err hs hp]
end
/-- What may stand behind an expression within a group, or at the end. -/
def Tail (t : List UInt8) : Prop := t = [] ∨ ∃ r, t = 41 :: r
theorem Tail.stops {t : List UInt8} (h : Tail t) : stops t = true := by
  rcases h with rfl | ⟨r, rfl⟩ <;> rfl
theorem Tail.bar {t : List UInt8} (h : Tail t) : starts 124 t = false := by
  rcases h with rfl | ⟨r, rfl⟩ <;> rfl
theorem Tail.rep {t : List UInt8} (h : Tail t) (x : List In) : rep x t = (x, t) := by
  rcases h with rfl | ⟨r, rfl⟩ <;> rfl

/-! ## groups within one another -/
/-- So many groups around a byte; p: without numbers. -/
def nest (p : Bool) : Nat → List UInt8
  | 0 => [97]
  | n + 1 => (if p then [40, 63, 58] else [40]) ++ nest p n ++ [41]
theorem nest_len (p : Bool) : ∀ n, (nest p n).length ≤ 1 + 4 * n
  | 0 => by simp [nest]
  | n + 1 => by
    have := nest_len p n
    unfold nest
    cases p <;> simp <;> omega
theorem nest_head (n : Nat) (t : List UInt8) : ∃ a r, nest false n ++ t = a :: r ∧ (a = 97 ∨ a = 40) := by
  cases n with
  | zero => exact ⟨97, t, rfl, .inl rfl⟩
  | succ n => exact ⟨40, nest false n ++ [41] ++ t, by simp [nest], .inr rfl⟩
theorem nest_expr (p : Bool) : ∀ (n m g d : Nat) (tail : List UInt8), Tail tail → (nest p n ++ tail).length < m → d ≤ 64 →
    (d + n ≤ 64 → ∃ c, c.length ≤ 1 + 2 * n ∧ expr m (nest p n ++ tail) g d = .ok (c, tail, if p then g else g + n)) ∧ (64 < d + n → expr m (nest p n ++ tail) g d = .error 12)
  | 0, 0, _, _, _, _, hm, _ => absurd hm (Nat.not_lt_zero _)
  | n + 1, 0, _, _, _, _, hm, _ => absurd hm (Nat.not_lt_zero _)
  | 0, m + 1, g, d, tail, ht, hm, hd => by
    refine ⟨fun _ => ⟨[⟨1, 0, 0, pairs (add none_ 97 97)⟩], by simp, ?_⟩, fun h => by omega⟩
    have hp : pieceE (expr m) (97 :: tail) g d = .ok ([⟨1, 0, 0, pairs (add none_ 97 97)⟩], tail, g) := by
      have ha : atomE (expr m) (97 :: tail) g d = .ok ([⟨1, 0, 0, pairs (add none_ 97 97)⟩], tail, g) := by
        have hset : set (97 :: tail) = some (add none_ 97 97, tail) := by
          rw [set, if_neg (by decide), if_neg (by decide)]
          have hc : classOf (97 :: tail) = none := by
            cases tail with
            | nil => rfl
            | cons a r => rfl
          rw [hc]
          rfl
        rw [atomE, if_neg (by decide), if_neg (by decide), if_neg (by decide), hset]
      unfold pieceE
      rw [ha]
      show Except.ok ((rep _ tail).1, (rep _ tail).2, g) = _
      rw [ht.rep]
    have := ways_one (E := expr m) (s := 97 :: tail) rfl hp ht.stops ht.bar
    show waysE (expr m) ((97 :: tail).length + 1) [] (97 :: tail) g d = _
    rw [this]
    cases p <;> simp
  | n + 1, m + 1, g, d, tail, ht, hm, hd => by
    have ht2 : Tail (41 :: tail) := .inr ⟨tail, rfl⟩
    obtain ⟨rest, hrest, hrl⟩ : ∃ rest, nest p (n + 1) ++ tail = 40 :: rest ∧ rest = (if p then [63, 58] else []) ++ nest p n ++ (41 :: tail) := ⟨_, by show ((if p then [40, 63, 58] else [40]) ++ nest p n ++ [41]) ++ tail = _; cases p <;> simp, rfl⟩
    rw [hrest] at hm ⊢
    have hE : expr (m + 1) (40 :: rest) g d = waysE (expr m) ((40 :: rest).length + 1) [] (40 :: rest) g d := rfl
    rw [hE]
    have hlen : (nest p n ++ (41 :: tail)).length < m := by
      rw [hrl] at hm
      cases p <;> simp at hm ⊢ <;> omega
    by_cases h64 : d = 64
    · subst h64
      have hg : groupE (expr m) rest g 64 = .error 12 := rfl
      have hp : pieceE (expr m) (40 :: rest) g 64 = .error 12 := by
        have ha : atomE (expr m) (40 :: rest) g 64 = .error 12 := by rw [atomE, if_pos rfl, hg]
        unfold pieceE; rw [ha]
      exact ⟨fun h => by omega, fun _ => ways_err rfl hp⟩
    cases p
    · have hst : (starts 63 rest && starts 58 (rest.drop 1)) = false := by
        obtain ⟨a, r, e, ha⟩ := nest_head n (41 :: tail)
        rw [hrl]
        show (starts 63 (nest false n ++ (41 :: tail)) && _) = false
        rw [e]
        rcases ha with rfl | rfl <;> rfl
      have hr2 : rest = nest false n ++ (41 :: tail) := hrl
      obtain ⟨ih1, ih2⟩ := nest_expr false n m (g + 1) (d + 1) (41 :: tail) ht2 hlen (by omega)
      have hg : groupE (expr m) rest g d = (match expr m rest (g + 1) (d + 1) with
        | .error e => .error e
        | .ok (c, r, g2) => if starts 41 r then .ok (saved (g + 1) c, r.drop 1, g2) else .error 8) := by
        unfold groupE; rw [if_neg h64, hst]; rfl
      refine ⟨fun h => ?_, fun h => ?_⟩
      · obtain ⟨c, hc, he⟩ := ih1 (by omega)
        rw [← hr2] at he
        refine ⟨saved (g + 1) c, by rw [saved_len]; omega, ?_⟩
        have hg2 : groupE (expr m) rest g d = .ok (saved (g + 1) c, tail, g + 1 + n) := by rw [hg, he]; rfl
        have hp : pieceE (expr m) (40 :: rest) g d = .ok (saved (g + 1) c, tail, g + 1 + n) := by
          have ha : atomE (expr m) (40 :: rest) g d = .ok (saved (g + 1) c, tail, g + 1 + n) := by rw [atomE, if_pos rfl, hg2]
          unfold pieceE
          rw [ha]
          show Except.ok ((rep _ tail).1, (rep _ tail).2, g + 1 + n) = _
          rw [ht.rep]
        rw [ways_one rfl hp ht.stops ht.bar]
        simp; omega
      · have he := ih2 (by omega)
        rw [← hr2] at he
        have hp : pieceE (expr m) (40 :: rest) g d = .error 12 := by
          have ha : atomE (expr m) (40 :: rest) g d = .error 12 := by rw [atomE, if_pos rfl, hg, he]
          unfold pieceE; rw [ha]
        exact ways_err rfl hp
    · have hst : (starts 63 rest && starts 58 (rest.drop 1)) = true := by rw [hrl]; rfl
      have hr2 : rest.drop 2 = nest true n ++ (41 :: tail) := by rw [hrl]; rfl
      obtain ⟨ih1, ih2⟩ := nest_expr true n m g (d + 1) (41 :: tail) ht2 hlen (by omega)
      have hg : groupE (expr m) rest g d = (match expr m (rest.drop 2) g (d + 1) with
        | .error e => .error e
        | .ok (c, r, g2) => if starts 41 r then .ok (c, r.drop 1, g2) else .error 8) := by
        unfold groupE; rw [if_neg h64, hst]; rfl
      refine ⟨fun h => ?_, fun h => ?_⟩
      · obtain ⟨c, hc, he⟩ := ih1 (by omega)
        rw [← hr2] at he
        refine ⟨c, by omega, ?_⟩
        have hg2 : groupE (expr m) rest g d = .ok (c, tail, g) := by rw [hg, he]; rfl
        have hp : pieceE (expr m) (40 :: rest) g d = .ok (c, tail, g) := by
          have ha : atomE (expr m) (40 :: rest) g d = .ok (c, tail, g) := by rw [atomE, if_pos rfl, hg2]
          unfold pieceE
          rw [ha]
          show Except.ok ((rep _ tail).1, (rep _ tail).2, g) = _
          rw [ht.rep]
        rw [ways_one rfl hp ht.stops ht.bar]
        simp
      · have he := ih2 (by omega)
        rw [← hr2] at he
        have hp : pieceE (expr m) (40 :: rest) g d = .error 12 := by
          have ha : atomE (expr m) (40 :: rest) g d = .error 12 := by rw [atomE, if_pos rfl, hg, he]
          unfold pieceE; rw [ha]
        exact ways_err rfl hp
/-- The whole. -/
theorem nest_comp (p : Bool) (n : Nat) (hn : n ≤ 100) : (n ≤ 64 → ∃ L, comp (nest p n) = .ok (L, if p then 0 else n)) ∧ (64 < n → comp (nest p n) = .error 12) := by
  have hl := nest_len p n
  have h := nest_expr p n ((nest p n).length + 1) 0 0 [] (.inl rfl) (by simp) (by omega)
  rw [List.append_nil] at h
  have h4 : ¬ 4096 < (nest p n).length := by omega
  refine ⟨fun h6 => ?_, fun h6 => ?_⟩
  · obtain ⟨c, hc, he⟩ := h.1 (by omega)
    refine ⟨placed 0 (saved 0 c ++ [⟨7, 0, 0, []⟩]), ?_⟩
    unfold comp
    rw [if_neg h4, he]
    show (if ([] : List UInt8) ≠ [] then _ else if 1024 < c.length + 3 then _ else _) = _
    rw [if_neg (by simp), if_neg (by omega)]
    cases p <;> simp
  · unfold comp
    rw [if_neg h4, h.2 (by omega)]

/-! ## bytes told one by one -/
/-- A byte as it is told: with a stroke where it needs one. -/
def tok (b : UInt8) : List UInt8 := if wordB b then [b] else [92, b]
def toks (l : List UInt8) : List UInt8 := l.flatMap tok
/-- The set of these bytes. -/
def told (f : St) (l : List UInt8) : St := l.foldl (fun f b => add f b.toNat b.toNat) f
theorem told_at (l : List UInt8) : ∀ (f : St) (i : Nat), told f l i = (f i || l.any fun b => b.toNat == i) := by
  induction l with
  | nil => intro f i; simp [told]
  | cons b r ih =>
    intro f i
    show told (add f b.toNat b.toNat) r i = _
    rw [ih]
    rw [List.any_cons]
    have : add f b.toNat b.toNat i = (f i || (b.toNat == i)) := by
      unfold add
      congr 1
      by_cases h : b.toNat = i
      · subst h; simp
      · rw [show (b.toNat == i) = false by simpa using h]
        simp; omega
    rw [this, Bool.or_assoc]
theorem word_ne {b : UInt8} (h : wordB b = true) : b ≠ 92 ∧ b ≠ 93 ∧ b ≠ 45 ∧ b ≠ 94 := by
  refine ⟨?_, ?_, ?_, ?_⟩ <;> rintro rfl <;> revert h <;> decide
theorem cls_word {b : UInt8} (h : wordB b = false) : cls b = none := by
  unfold cls
  rw [if_neg, if_neg, if_neg, if_neg, if_neg, if_neg] <;> rintro rfl <;> revert h <;> decide
theorem toks_cons (b : UInt8) (r : List UInt8) : toks (b :: r) = tok b ++ toks r := by unfold toks; rw [List.flatMap_cons]
/-- What follows a byte is no range. -/
theorem no_range (l rest : List UInt8) : isRange (toks l ++ 93 :: rest) = false := by
  unfold isRange
  have : starts 45 (toks l ++ 93 :: rest) = false := by
    cases l with
    | nil => rfl
    | cons b r =>
      rw [toks_cons]
      unfold tok
      by_cases h : wordB b = true
      · rw [if_pos h]
        show (b == 45) = false
        simpa using (word_ne h).2.2.1
      · rw [if_neg h]; rfl
  rw [this]; rfl
theorem items_toks : ∀ (l rest : List UInt8) (f : St) (fst : Bool) (k : Nat), (l ≠ [] ∨ fst = false) → (toks l ++ 93 :: rest).length < k → items k false fst (toks l ++ 93 :: rest) f = some (told f l, rest)
  | [], rest, f, fst, 0, _, hk => absurd hk (Nat.not_lt_zero _)
  | b :: l, rest, f, fst, 0, _, hk => absurd hk (Nat.not_lt_zero _)
  | [], rest, f, fst, k + 1, h, hk => by
    have hf : fst = false := by rcases h with h | h; exact absurd rfl h; exact h
    exact items_end hf rfl
  | b :: l, rest, f, fst, k + 1, _, hk => by
    rw [toks_cons, List.append_assoc] at hk ⊢
    by_cases hw : wordB b = true
    · have ht : tok b = [b] := by unfold tok; rw [if_pos hw]
      rw [ht] at hk ⊢
      obtain ⟨n1, n2, n3, n4⟩ := word_ne hw
      have hin : fst = true ∨ starts 93 ([b] ++ (toks l ++ 93 :: rest)) = false := .inr (by show (b == 93) = false; simpa using n2)
      have hc : classOf ([b] ++ (toks l ++ 93 :: rest)) = none := by
        show classOf (b :: (toks l ++ 93 :: rest)) = none
        cases h : toks l ++ 93 :: rest with
        | nil => rfl
        | cons a r => show (if b = 92 then _ else _) = _; rw [if_neg n1]
      have htk : takeByte ([b] ++ (toks l ++ 93 :: rest)) = some (b, toks l ++ 93 :: rest) := by
        show takeByte (b :: (toks l ++ 93 :: rest)) = _
        simp only [takeByte]
        rw [if_neg n1]
      rw [items_one hin hc htk (by rw [no_range, Bool.and_false])]
      rw [items_toks l rest _ false k (.inr rfl) (by simp at hk ⊢; omega)]
      rfl
    · have hwf : wordB b = false := by cases h : wordB b; rfl; exact absurd h hw
      have ht : tok b = [92, b] := by unfold tok; rw [if_neg hw]
      rw [ht] at hk ⊢
      have hin : fst = true ∨ starts 93 ([92, b] ++ (toks l ++ 93 :: rest)) = false := .inr rfl
      have hc : classOf ([92, b] ++ (toks l ++ 93 :: rest)) = none := by
        show (if (92 : UInt8) = 92 then cls b else none) = none
        rw [if_pos rfl, cls_word hwf]
      have htk : takeByte ([92, b] ++ (toks l ++ 93 :: rest)) = some (b, toks l ++ 93 :: rest) := by
        show takeByte (92 :: b :: (toks l ++ 93 :: rest)) = _
        rw [takeByte, if_pos rfl]
        show (if wordB b = true then none else some (b, toks l ++ 93 :: rest)) = _
        rw [hwf]; rfl
      rw [items_one hin hc htk (by rw [no_range, Bool.and_false])]
      rw [items_toks l rest _ false k (.inr rfl) (by simp at hk ⊢; omega)]
      rfl
theorem toks_roof (l : List UInt8) (hl : l ≠ []) (rest : List UInt8) : starts 94 (toks l ++ rest) = false := by
  cases l with
  | nil => exact absurd rfl hl
  | cons b r =>
    rw [toks_cons]
    unfold tok
    by_cases h : wordB b = true
    · rw [if_pos h]
      show (b == 94) = false
      simpa using (word_ne h).2.2.2
    · rw [if_neg h]; rfl
theorem bracket_toks (l : List UInt8) (hl : l ≠ []) : bracket (toks l ++ [93]) = some (told none_ l, []) := by
  unfold bracket
  rw [toks_roof l hl]
  show items _ false true (toks l ++ [93]) none_ = _
  exact items_toks l [] none_ true _ (.inl hl) (Nat.lt_succ_self _)
theorem bracket_roof (l : List UInt8) (hl : l ≠ []) : bracket (94 :: (toks l ++ [93])) = some (inv (told none_ l), []) := by
  unfold bracket
  rw [if_pos (show starts 94 (94 :: (toks l ++ [93])) = true from rfl)]
  show Option.map _ (items _ false true (toks l ++ [93]) none_) = _
  rw [items_toks l [] none_ true _ (.inl hl) (by simp)]
  rfl
theorem comp_bracket {s : List UInt8} {f : St} (hb : bracket s = some (f, [])) (hs : s.length ≤ 4000) : ∃ L, comp (91 :: s) = .ok (L, 0) ∧ L.length = 4 ∧ L[1]? = some ⟨1, 0, 0, pairs f⟩ := by
  have hset : set (91 :: s) = some (f, []) := by rw [set, if_neg (by decide), if_pos rfl, hb]
  have he : expr ((91 :: s).length + 1) (91 :: s) 0 0 = .ok ([⟨1, 0, 0, pairs f⟩], [], 0) := by
    have hp : pieceE (expr (91 :: s).length) (91 :: s) 0 0 = .ok ([⟨1, 0, 0, pairs f⟩], [], 0) := by
      have ha : atomE (expr (91 :: s).length) (91 :: s) 0 0 = .ok ([⟨1, 0, 0, pairs f⟩], [], 0) := by
        rw [atomE, if_neg (by decide), if_neg (by decide), if_neg (by decide), hset]
      unfold pieceE
      rw [ha]
      rfl
    exact ways_one (E := expr (91 :: s).length) (s := 91 :: s) rfl hp rfl rfl
  refine ⟨placed 0 (saved 0 [⟨1, 0, 0, pairs f⟩] ++ [⟨7, 0, 0, []⟩]), ?_, rfl, rfl⟩
  unfold comp
  rw [if_neg (by simp; omega), he]
  rfl
end Rx
end Go.Proofs.Ytajijcnfhijanaa
