/-
  GlGr: PLAIN: choices (chapter 9): which braces match, what a text's choices mean, all that comes out and how many. No program.
  GlOne: CONTRACTS: chapter 9, functions over one text's bytes: braces (both sides), classes and their ranges.
-/
import Derived.Test.YtfmbbhcjnidcbaaGreatDoorJ2
import Derived.Test.YtfmbbhcjnidcbaaGreatDoorJ6
import Derived.Lib.Hide
import Derived.Laws.Strings3
import Derived.RegionTactic

namespace Go.Proofs.YtfmbbhcjnidcbaaGreatDoor
open Go.RowKit

namespace Gl
/-- Neither brace nor comma. -/
def noSp (s : List UInt8) : Bool := s.all fun b => b != 123 && (b != 125 && b != 44)
/-- One of the first behind one of the second. -/
def comb (A B : List (List UInt8)) : List (List UInt8) := A.flatMap fun a => B.map fun b => a ++ b
def prod : List (List (List UInt8)) → List (List UInt8)
  | [] => [[]]
  | M :: r => comb M (prod r)
/-- What a text (false), or the texts of a group (true), mean. -/
inductive Gr : Bool → List UInt8 → List (List UInt8) → Prop
  | plain {p : List UInt8} (h : noSp p = true) : Gr false p [p]
  | group {p g : List UInt8} {M : List (List UInt8)} {r : List UInt8} {R : List (List UInt8)} (h : noSp p = true) (hg : Gr true g M) (hr : Gr false r R) : Gr false (p ++ 123 :: (g ++ 125 :: r)) (comb [p] (comb M R))
  | one {t : List UInt8} {L : List (List UInt8)} (h : Gr false t L) : Gr true t L
  | more {t : List UInt8} {L : List (List UInt8)} {g : List UInt8} {M : List (List UInt8)} (h : Gr false t L) (hg : Gr true g M) : Gr true (t ++ 44 :: g) (L ++ M)

theorem comb_len (A B : List (List UInt8)) : (comb A B).length = A.length * B.length := by
  induction A with
  | nil => show 0 = 0 * _; rw [Nat.zero_mul]
  | cons a A ih =>
    show (B.map _ ++ comb A B).length = _
    rw [List.length_append, List.length_map, ih, List.length_cons, Nat.succ_mul, Nat.add_comm]
theorem comb_unit (B : List (List UInt8)) : comb [[]] B = B := by
  show B.map (fun b => [] ++ b) ++ [] = B
  rw [List.append_nil]
  simp
theorem comb_end (A : List (List UInt8)) : comb A [[]] = A := by
  unfold comb; simp
theorem comb_assoc (A B C : List (List UInt8)) : comb (comb A B) C = comb A (comb B C) := by
  unfold comb
  rw [List.flatMap_assoc]
  congr 1
  funext a
  rw [List.flatMap_map, List.map_flatMap]
  congr 1
  funext b
  rw [List.map_map]
  congr 1
  funext c
  show a ++ b ++ c = a ++ (b ++ c)
  rw [List.append_assoc]
theorem comb_append (A A' B : List (List UInt8)) : comb (A ++ A') B = comb A B ++ comb A' B := by
  unfold comb; rw [List.flatMap_append]
theorem prod_snoc (l : List (List (List UInt8))) (M : List (List UInt8)) : prod (l ++ [M]) = comb (prod l) M := by
  induction l with
  | nil => show comb M [[]] = comb [[]] M; rw [comb_end, comb_unit]
  | cons x l ih => show comb x (prod (l ++ [M])) = comb (comb x (prod l)) M; rw [ih, comb_assoc]
theorem prod_one (M : List (List UInt8)) : prod [M] = M := comb_end M
theorem comb_pre (p : List UInt8) (B : List (List UInt8)) : comb [p] B = B.map fun b => p ++ b := by
  show B.map _ ++ [] = _; rw [List.append_nil]
theorem Gr.pos {b : Bool} {t : List UInt8} {L : List (List UInt8)} (h : Gr b t L) : 0 < L.length := by
  induction h with
  | plain _ => exact Nat.zero_lt_one
  | group _ _ _ ih1 ih2 => rw [comb_len, comb_len]; simpa using Nat.mul_pos ih1 ih2
  | one _ ih => exact ih
  | more _ _ ih1 ih2 => rw [List.length_append]; omega

/-! ## braces -/
def bal : Nat → List UInt8 → Bool
  | n, [] => decide (n = 0)
  | n, b :: r => if b = 123 then bal (n + 1) r else if b = 125 then (if n = 0 then false else bal (n - 1) r) else if b = 44 then (if n = 0 then false else bal n r) else bal n r
theorem noSp_cons {b : UInt8} {r : List UInt8} (h : b ≠ 123 ∧ b ≠ 125 ∧ b ≠ 44) (hr : noSp r = true) : noSp (b :: r) = true := by
  unfold noSp at *
  rw [List.all_cons, hr]
  simp [h.1, h.2.1, h.2.2]
theorem bal_plain {b : UInt8} (h : b ≠ 123 ∧ b ≠ 125 ∧ b ≠ 44) (n : Nat) (r : List UInt8) : bal n (b :: r) = bal n r := by
  rw [bal, if_neg h.1, if_neg h.2.1, if_neg h.2.2]
/-- A balanced rest begins with a text. -/
theorem split_text (m : Nat) : ∀ (s : List UInt8), s.length ≤ m → ∀ n, bal n s = true → ∃ t L s2, s = t ++ s2 ∧ Gr false t L ∧ ((s2 = [] ∧ n = 0) ∨ (∃ s', s2 = 44 :: s' ∧ 0 < n ∧ bal n s' = true) ∨ (∃ s', s2 = 125 :: s' ∧ 0 < n ∧ bal (n - 1) s' = true)) := by
  induction m with
  | zero =>
    intro s hs n h
    obtain rfl := List.eq_nil_of_length_eq_zero (Nat.le_zero.1 hs)
    exact ⟨[], [[]], [], rfl, Gr.plain rfl, .inl ⟨rfl, of_decide_eq_true h⟩⟩
  | succ m ih =>
    -- the texts of a group
    have grp : ∀ (k : Nat) (s : List UInt8), s.length ≤ k → s.length ≤ m → ∀ n, bal (n + 1) s = true → ∃ g M s', s = g ++ 125 :: s' ∧ Gr true g M ∧ bal n s' = true := by
      intro k
      induction k with
      | zero =>
        intro s hs hm n h
        obtain rfl := List.eq_nil_of_length_eq_zero (Nat.le_zero.1 hs)
        have := of_decide_eq_true h
        omega
      | succ k ihk =>
        intro s hs hm n h
        obtain ⟨t, L, s2, rfl, hg, hc⟩ := ih s hm (n + 1) h
        rcases hc with ⟨_, h0⟩ | ⟨s', rfl, _, hb⟩ | ⟨s', rfl, _, hb⟩
        · omega
        · rw [List.length_append, List.length_cons] at hs hm
          obtain ⟨g, M, s'', rfl, hg2, hb2⟩ := ihk s' (by omega) (by omega) n hb
          exact ⟨t ++ 44 :: g, L ++ M, s'', by simp, Gr.more hg hg2, hb2⟩
        · exact ⟨t, L, s', rfl, Gr.one hg, by simpa using hb⟩
    intro s hs n h
    cases s with
    | nil => exact ⟨[], [[]], [], rfl, Gr.plain rfl, .inl ⟨rfl, of_decide_eq_true h⟩⟩
    | cons b r =>
      rw [List.length_cons] at hs
      by_cases h1 : b = 123
      · subst h1
        rw [bal, if_pos rfl] at h
        obtain ⟨g, M, s', rfl, hg, hb⟩ := grp m r (by omega) (by omega) n h
        rw [List.length_append, List.length_cons] at hs
        obtain ⟨t, L, s2, rfl, ht, hc⟩ := ih s' (by omega) n hb
        exact ⟨[] ++ 123 :: (g ++ 125 :: t), comb [[]] (comb M L), s2, by simp, Gr.group rfl hg ht, hc⟩
      by_cases h2 : b = 125
      · subst h2
        rw [bal, if_neg h1, if_pos rfl] at h
        by_cases hn : n = 0
        · rw [if_pos hn] at h; cases h
        rw [if_neg hn] at h
        exact ⟨[], [[]], 125 :: r, rfl, Gr.plain rfl, .inr (.inr ⟨r, rfl, by omega, h⟩)⟩
      by_cases h3 : b = 44
      · subst h3
        rw [bal, if_neg h1, if_neg h2, if_pos rfl] at h
        by_cases hn : n = 0
        · rw [if_pos hn] at h; cases h
        rw [if_neg hn] at h
        exact ⟨[], [[]], 44 :: r, rfl, Gr.plain rfl, .inr (.inl ⟨r, rfl, by omega, h⟩)⟩
      rw [bal_plain ⟨h1, h2, h3⟩] at h
      obtain ⟨t, L, s2, rfl, ht, hc⟩ := ih r (by omega) n h
      have hsp : ∃ L, Gr false (b :: t) L := by
        cases ht with
        | plain hp => exact ⟨_, Gr.plain (noSp_cons ⟨h1, h2, h3⟩ hp)⟩
        | group hp hg hr => exact ⟨_, Gr.group (noSp_cons ⟨h1, h2, h3⟩ hp) hg hr⟩
      obtain ⟨L', hL'⟩ := hsp
      exact ⟨b :: t, L', s2, rfl, hL', hc⟩
theorem parse (s : List UInt8) (h : bal 0 s = true) : ∃ L, Gr false s L := by
  obtain ⟨t, L, s2, rfl, ht, hc⟩ := split_text s.length s (Nat.le_refl _) 0 h
  rcases hc with ⟨rfl, _⟩ | ⟨_, _, h0, _⟩ | ⟨_, _, h0, _⟩
  · exact ⟨L, by rw [List.append_nil]; exact ht⟩
  · omega
  · omega
/-- Such a text is balanced. -/
theorem Gr.bal {b : Bool} {t : List UInt8} {L : List (List UInt8)} (h : Gr b t L) : ∀ n s, (b = true → 0 < n) → Gl.bal n (t ++ s) = Gl.bal n s := by
  induction h with
  | @plain p h =>
    intro n s _
    induction p with
    | nil => rfl
    | cons b r ih =>
      have hb : (b ≠ 123 ∧ b ≠ 125 ∧ b ≠ 44) ∧ noSp r = true := by simpa [noSp] using h
      rw [List.cons_append, bal_plain hb.1, ih hb.2]
  | @group p g M r R h _ _ ih1 ih2 =>
    intro n s _
    have hp : ∀ (x : List UInt8), Gl.bal n (p ++ x) = Gl.bal n x := by
      intro x
      clear ih1 ih2
      induction p with
      | nil => rfl
      | cons b r ih =>
        have hb : (b ≠ 123 ∧ b ≠ 125 ∧ b ≠ 44) ∧ noSp r = true := by simpa [noSp] using h
        rw [List.cons_append, bal_plain hb.1, ih hb.2]
    rw [List.append_assoc, hp]
    show Gl.bal n (123 :: ((g ++ 125 :: r) ++ s)) = _
    rw [Gl.bal, if_pos rfl, List.append_assoc, ih1 (n + 1) _ (fun _ => by omega)]
    show Gl.bal (n + 1) (125 :: (r ++ s)) = _
    rw [Gl.bal, if_neg (by decide), if_pos rfl, if_neg (by omega), Nat.add_sub_cancel, ih2 n s (fun h => by cases h)]
  | one _ ih => intro n s _; exact ih n s (fun h => by cases h)
  | @more t L g M _ _ ih1 ih2 =>
    intro n s h0
    have hn := h0 rfl
    rw [List.append_assoc, ih1 n _ (fun h => by cases h)]
    show Gl.bal n (44 :: (g ++ s)) = _
    rw [Gl.bal, if_neg (by decide), if_neg (by decide), if_pos rfl, if_neg (by omega), ih2 n s (fun _ => hn)]

/-! ## where a group ends -/
def eF : Nat → List UInt8 → List UInt8 → Option (Nat × List (List UInt8))
  | _, _, [] => none
  | n, cur, b :: r => if b = 123 then (eF (n + 1) (cur ++ [b]) r).map fun x => (x.1 + 1, x.2)
      else if b = 125 then (if n = 1 then some (0, [cur]) else (eF (n - 1) (cur ++ [b]) r).map fun x => (x.1 + 1, x.2))
      else if b = 44 ∧ n = 1 then (eF n [] r).map fun x => (x.1 + 1, cur :: x.2)
      else (eF n (cur ++ [b]) r).map fun x => (x.1 + 1, x.2)
theorem eF_add (o : Option (Nat × List (List UInt8))) (i j : Nat) : (o.map fun x => (x.1 + i, x.2)).map (fun x => (x.1 + j, x.2)) = o.map fun x => (x.1 + (i + j), x.2) := by
  cases o with
  | none => rfl
  | some x => show some (x.1 + i + j, x.2) = some (x.1 + (i + j), x.2); rw [Nat.add_assoc]
theorem eF_plain {p : List UInt8} (h : noSp p = true) (n : Nat) (cur s : List UInt8) : eF n cur (p ++ s) = (eF n (cur ++ p) s).map fun x => (x.1 + p.length, x.2) := by
  induction p generalizing cur with
  | nil => rw [List.append_nil]; show eF n cur s = _; cases eF n cur s <;> rfl
  | cons b r ih =>
    have hb : (b ≠ 123 ∧ b ≠ 125 ∧ b ≠ 44) ∧ noSp r = true := by simpa [noSp] using h
    rw [List.cons_append, eF, if_neg hb.1.1, if_neg hb.1.2.1, if_neg (fun e => hb.1.2.2 e.1), ih hb.2, eF_add, List.append_assoc]
    rfl
theorem Gr.ends {b : Bool} {t : List UInt8} {L : List (List UInt8)} (h : Gr b t L) : ∀ n cur s, 1 ≤ n → (b = true → 2 ≤ n) → eF n cur (t ++ s) = (eF n (cur ++ t) s).map fun x => (x.1 + t.length, x.2) := by
  induction h with
  | plain h => intro n cur s _ _; exact eF_plain h n cur s
  | @group p g M r R h _ _ ih1 ih2 =>
    intro n cur s h1 _
    rw [List.append_assoc, eF_plain h]
    show (eF n (cur ++ p) (123 :: ((g ++ 125 :: r) ++ s))).map _ = _
    rw [eF, if_pos rfl, List.append_assoc g, ih1 (n + 1) _ _ (by omega) (fun _ => by omega)]
    show ((((eF (n + 1) _ (125 :: (r ++ s)))).map _).map _).map _ = _
    rw [eF, if_neg (by decide), if_pos rfl, if_neg (by omega), Nat.add_sub_cancel, ih2 n _ s h1 (fun h => by cases h)]
    rw [eF_add, eF_add, eF_add, eF_add]
    have e1 : cur ++ p ++ [123] ++ g ++ [125] ++ r = cur ++ (p ++ 123 :: (g ++ 125 :: r)) := by simp
    have e2 : r.length + (1 + (g.length + (1 + p.length))) = (p ++ 123 :: (g ++ 125 :: r)).length := by simp; omega
    rw [e1]
    have e3 : r.length + 1 + g.length + 1 + p.length = (p ++ 123 :: (g ++ 125 :: r)).length := by simp; omega
    first | rw [e2] | (rw [← e2]; simp only [Nat.add_assoc])
  | one _ ih => intro n cur s h1 _; exact ih n cur s h1 (fun h => by cases h)
  | @more t L g M _ _ ih1 ih2 =>
    intro n cur s h1 h2
    have hn := h2 rfl
    rw [List.append_assoc, ih1 n _ _ h1 (fun h => by cases h)]
    show ((eF n _ (44 :: (g ++ s)))).map _ = _
    rw [eF, if_neg (by decide), if_neg (by decide), if_neg (fun e => by omega), ih2 n _ s h1 (fun _ => hn), eF_add, eF_add]
    have e1 : cur ++ t ++ [44] ++ g = cur ++ (t ++ 44 :: g) := by simp
    have e2 : g.length + (1 + t.length) = (t ++ 44 :: g).length := by simp; omega
    rw [e1]
    first | rw [e2] | (rw [← e2]; simp only [Nat.add_assoc])
/-- A group's texts, and what they mean. -/
theorem Gr.texts {b : Bool} {g : List UInt8} {M : List (List UInt8)} (h : Gr b g M) : ∀ s, ∃ ps : List (List UInt8 × List (List UInt8)), eF 1 [] (g ++ 125 :: s) = some (g.length, ps.map (·.1)) ∧ M = (ps.map (·.2)).flatten ∧ ps ≠ [] ∧ ∀ x ∈ ps, Gr false x.1 x.2 ∧ x.1.length ≤ g.length := by
  have one : ∀ {t : List UInt8} {L : List (List UInt8)}, Gr false t L → ∀ s, ∃ ps : List (List UInt8 × List (List UInt8)), eF 1 [] (t ++ 125 :: s) = some (t.length, ps.map (·.1)) ∧ L = (ps.map (·.2)).flatten ∧ ps ≠ [] ∧ ∀ x ∈ ps, Gr false x.1 x.2 ∧ x.1.length ≤ t.length := by
    intro t L h s
    refine ⟨[(t, L)], ?_, by simp, by simp, ?_⟩
    · rw [h.ends 1 [] _ (Nat.le_refl _) (fun h => by cases h), eF, if_neg (by decide), if_pos rfl, if_pos rfl]
      simp
    · intro x hx
      obtain rfl : x = (t, L) := by simpa using hx
      exact ⟨h, Nat.le_refl _⟩
  induction h with
  | plain h => exact one (Gr.plain h)
  | group h hg hr _ _ => exact one (Gr.group h hg hr)
  | one h _ => exact one h
  | @more t L g M h hg _ ih =>
    intro s
    obtain ⟨ps, h1, h2, h3, h4⟩ := ih s
    refine ⟨(t, L) :: ps, ?_, by rw [h2]; rfl, by simp, ?_⟩
    · rw [List.append_assoc, h.ends 1 [] _ (Nat.le_refl _) (fun h => by cases h)]
      show (eF 1 _ (44 :: (g ++ 125 :: s))).map _ = _
      rw [eF, if_neg (by decide), if_neg (by decide), if_pos ⟨rfl, rfl⟩, h1]
      simp
      omega
    · intro x hx
      rw [List.length_append, List.length_cons]
      rcases List.mem_cons.1 hx with rfl | hx
      · exact ⟨h, by simp⟩
      · have := h4 x hx
        exact ⟨this.1, by omega⟩
end Gl
end Go.Proofs.YtfmbbhcjnidcbaaGreatDoor

namespace Go.Proofs.YtfmbbhcjnidcbaaGreatDoor
open Go.RowKit
open Me

namespace Gl
theorem ret_bool {a b : Bool} (h : a = b) : Ending.returned (.bool a) = .returned (.bool b) := by rw [h]
theorem byteEq (b c : UInt8) : ((b.toNat : Int) == (c.toNat : Int)) = decide (b = c) := by
  by_cases h : b = c
  · subst h; simp
  · rw [decide_eq_false h]
    simp only [beq_eq_false_iff_ne, ne_eq]
    intro e
    exact h (UInt8.toNat_inj.1 (by omega))
theorem byteLt (b c : UInt8) : decide ((b.toNat : Int) < (c.toNat : Int)) = decide (b.toNat < c.toNat) := by
  by_cases h : b.toNat < c.toNat
  · rw [decide_eq_true h, decide_eq_true (by omega)]
  · rw [decide_eq_false h, decide_eq_false (by omega)]
/-- A range's low end, its high end, what is behind it. -/
def lo : List UInt8 → UInt8
  | a :: _ => a
  | [] => 0
def ranged (s : List UInt8) : Bool := match s with
  | _ :: d :: _ :: _ => decide (d = 45)
  | _ => false
def hi (s : List UInt8) : UInt8 := match s with
  | a :: d :: b :: _ => if d = 45 then b else a
  | a :: _ => a
  | [] => 0
def re (s : List UInt8) : List UInt8 := if ranged s then s.drop 3 else s.drop 1
theorem re_len (s : List UInt8) (h : s ≠ []) : (re s).length < s.length := by
  have : 0 < s.length := List.length_pos_iff.2 h
  unfold re
  split <;> (rw [List.length_drop]; omega)
theorem okR_step (s : List UInt8) (h : s ≠ []) : okR s = (!decide ((hi s).toNat < (lo s).toNat) && okR (re s)) := by
  match s, h with
  | [a], _ => simp [okR, hi, lo, re, ranged]
  | [a, b], _ => simp [okR, hi, lo, re, ranged]
  | a :: d :: b :: r, _ =>
    rw [okR]
    by_cases hd : d = 45
    · simp [hi, lo, re, ranged, hd]
    · simp [hi, lo, re, ranged, hd]
theorem inR_step (c : UInt8) (s : List UInt8) (h : s ≠ []) : inR c s = ((decide ((lo s).toNat ≤ c.toNat) && decide (c.toNat ≤ (hi s).toNat)) || inR c (re s)) := by
  have key : ∀ a : UInt8, decide (a = c) = (decide (a.toNat ≤ c.toNat) && decide (c.toNat ≤ a.toNat)) := by
    intro a
    by_cases h : a = c
    · subst h; simp
    · rw [decide_eq_false h]
      by_cases h1 : a.toNat ≤ c.toNat
      · have h2 : ¬ c.toNat ≤ a.toNat := fun h2 => h (UInt8.toNat_inj.1 (by omega))
        simp [h2]
      · simp [h1]
  match s, h with
  | [a], _ => rw [inR, key]; simp [hi, lo, re, ranged, inR] <;> rfl
  | [a, b], _ => rw [inR, key]; simp [hi, lo, re, ranged, inR] <;> rfl
  | a :: d :: b :: r, _ =>
    rw [inR]
    by_cases hd : d = 45
    · simp [hi, lo, re, ranged, hd] <;> rfl
    · rw [if_neg hd, key]; simp [hi, lo, re, ranged, hd] <;> rfl
end Gl

set_option maxHeartbeats 1000000 in
theorem isBalanced_any (s : List UInt8) (hl : s.length ≤ 4294967270) (w : World) :
    Calls Tryz.prog 61 #[.string ⟨s.toArray⟩] w fun e w' => e = .returned (.bool (Gl.bal 0 s)) ∧ w' = w := by
  have hs : (⟨s.toArray⟩ : ByteArray).size = s.length := by show s.toArray.size = _; simp
  generalize hR : Gl.bal 0 s = R
  have HR : Hid (Gl.bal 0 (s.drop 0) = R) := Lib.hid hR
  clear hR
  go_enter Tryz.func61, Tryz.ntmps61
  go_wp2_with fail
  go_loop [3, 7] (fun d i => ∃ k n : Nat, k ≤ s.length ∧ n ≤ k ∧ d = .int .i64 n ∧ i = .int .i64 k ∧ Hid (Gl.bal n (s.drop k) = R)) (fun _ i => s.length - (intOf i).toNat)
  case atStart => exact ⟨0, 0, Nat.zero_le _, Nat.le_refl _, rfl, rfl, HR⟩
  case round =>
    obtain ⟨k, n, hk, hnk, rfl, rfl, HD⟩ := hrel
    by_cases hlt : k < s.length
    · have hkl : (k : Int) < (s.length : Int) := by omega
      have hk0 : (0 : Int) ≤ (k : Int) := by omega
      have hk9 : (k : Int) ≤ 4294967270 := by omega
      have hn9 : (n : Int) ≤ 4294967270 := by omega
      have hdr := Lib.hid (List.drop_eq_getElem_cons hlt)
      have e1 : ((((⟨s.toArray⟩ : ByteArray)[k]'hlt).toNat : Int) == 123) = decide (s[k] = 123) := Gl.byteEq s[k] 123
      have e2 : ((((⟨s.toArray⟩ : ByteArray)[k]'hlt).toNat : Int) == 125) = decide (s[k] = 125) := Gl.byteEq s[k] 125
      have e3 : ((((⟨s.toArray⟩ : ByteArray)[k]'hlt).toNat : Int) == 44) = decide (s[k] = 44) := Gl.byteEq s[k] 44
      rw [hdr.out, Gl.bal] at HD
      by_cases b1 : s[k] = 123
      · rw [if_pos b1] at HD
        rw [decide_eq_true b1] at e1
        clear e2 e3 b1 hdr
        go_wp2_with fail
        go_round
        case rel => exact ⟨k + 1, n + 1, by omega, by omega, by go_num, by go_num, HD⟩
        case measure => simp [intOf]; omega
      rw [if_neg b1] at HD
      rw [decide_eq_false b1] at e1
      by_cases b2 : s[k] = 125
      · rw [if_pos b2] at HD
        rw [decide_eq_true b2] at e2
        clear e3 b1 b2 hdr
        by_cases hn : n = 0
        · rw [if_pos hn] at HD
          have hneg : (n : Int) - 1 < 0 := by omega
          clear hn
          go_wp2_with fail
          go_ret
          exact ⟨Gl.ret_bool HD.out, rfl⟩
        · rw [if_neg hn] at HD
          have hneg : ¬ (n : Int) - 1 < 0 := by omega
          go_wp2_with fail
          go_round
          case rel => exact ⟨k + 1, n - 1, by omega, by omega, by go_num, by go_num, HD⟩
          case measure => simp [intOf]; omega
      rw [if_neg b2] at HD
      rw [decide_eq_false b2] at e2
      by_cases b3 : s[k] = 44
      · rw [if_pos b3] at HD
        rw [decide_eq_true b3] at e3
        clear b1 b2 b3 hdr
        by_cases hn : n = 0
        · subst hn
          rw [if_pos rfl] at HD
          go_wp2_with fail
          go_ret
          exact ⟨Gl.ret_bool HD.out, rfl⟩
        · rw [if_neg hn] at HD
          have hz : ((n : Int) == 0) = false := by simp; omega
          have hneg : ¬ (n : Int) < 0 := by omega
          go_wp2_with fail
          go_round
          case rel => exact ⟨k + 1, n, by omega, by omega, by go_num, by go_num, HD⟩
          case measure => simp [intOf]; omega
      · rw [if_neg b3] at HD
        rw [decide_eq_false b3] at e3
        clear b1 b2 b3 hdr
        have hneg : ¬ (n : Int) < 0 := by omega
        go_wp2_with fail
        go_round
        case rel => exact ⟨k + 1, n, by omega, by omega, by go_num, by go_num, HD⟩
        case measure => simp [intOf]; omega
    · obtain rfl : k = s.length := by omega
      rw [List.drop_length] at HD
      have HE : Hid (R = ((n : Int) == 0)) := Lib.hid (by rw [← HD.out]; show decide (n = 0) = _; by_cases h : n = 0 <;> simp [h])
      go_wp2
      go_ret
      exact ⟨Gl.ret_bool HE.out.symm, rfl⟩

set_option maxHeartbeats 1000000 in
theorem refBraces_any (s : List UInt8) (hl : s.length ≤ 4294967270) (w : World) :
    Calls Tryz.prog 51 #[.string ⟨s.toArray⟩] w fun e w' => e = .returned (.bool (Gl.bal 0 s)) ∧ w' = w := by
  have hs : (⟨s.toArray⟩ : ByteArray).size = s.length := by show s.toArray.size = _; simp
  generalize hR : Gl.bal 0 s = R
  have HR : Hid (Gl.bal 0 (s.drop 0) = R) := Lib.hid hR
  clear hR
  go_enter Tryz.func51, Tryz.ntmps51
  go_wp2_with fail
  go_loop [3, 4] (fun d i => ∃ k n : Nat, k ≤ s.length ∧ n ≤ k ∧ d = .int .i64 n ∧ i = .int .i64 k ∧ Hid (Gl.bal n (s.drop k) = R)) (fun _ i => s.length - (intOf i).toNat)
  case atStart => exact ⟨0, 0, Nat.zero_le _, Nat.le_refl _, rfl, rfl, HR⟩
  case round =>
    obtain ⟨k, n, hk, hnk, rfl, rfl, HD⟩ := hrel
    by_cases hlt : k < s.length
    · have hkl : (k : Int) < (s.length : Int) := by omega
      have hk0 : (0 : Int) ≤ (k : Int) := by omega
      have hk9 : (k : Int) ≤ 4294967270 := by omega
      have hn9 : (n : Int) ≤ 4294967270 := by omega
      have hdr := Lib.hid (List.drop_eq_getElem_cons hlt)
      have e1 : ((((⟨s.toArray⟩ : ByteArray)[k]'hlt).toNat : Int) == 123) = decide (s[k] = 123) := Gl.byteEq s[k] 123
      have e2 : ((((⟨s.toArray⟩ : ByteArray)[k]'hlt).toNat : Int) == 125) = decide (s[k] = 125) := Gl.byteEq s[k] 125
      have e3 : ((((⟨s.toArray⟩ : ByteArray)[k]'hlt).toNat : Int) == 44) = decide (s[k] = 44) := Gl.byteEq s[k] 44
      rw [hdr.out, Gl.bal] at HD
      by_cases b1 : s[k] = 123
      · rw [if_pos b1] at HD
        rw [decide_eq_true b1] at e1
        clear e2 e3 b1 hdr
        go_wp2_with fail
        go_round
        case rel => exact ⟨k + 1, n + 1, by omega, by omega, by go_num, by go_num, HD⟩
        case measure => simp [intOf]; omega
      rw [if_neg b1] at HD
      rw [decide_eq_false b1] at e1
      by_cases b2 : s[k] = 125
      · rw [if_pos b2] at HD
        rw [decide_eq_true b2] at e2
        clear e3 b1 b2 hdr
        by_cases hn : n = 0
        · rw [if_pos hn] at HD
          have hneg : (n : Int) - 1 < 0 := by omega
          clear hn
          go_wp2_with fail
          go_ret
          exact ⟨Gl.ret_bool HD.out, rfl⟩
        · rw [if_neg hn] at HD
          have hneg : ¬ (n : Int) - 1 < 0 := by omega
          go_wp2_with fail
          go_round
          case rel => exact ⟨k + 1, n - 1, by omega, by omega, by go_num, by go_num, HD⟩
          case measure => simp [intOf]; omega
      rw [if_neg b2] at HD
      rw [decide_eq_false b2] at e2
      by_cases b3 : s[k] = 44
      · rw [if_pos b3] at HD
        rw [decide_eq_true b3] at e3
        clear b1 b2 b3 hdr
        by_cases hn : n = 0
        · subst hn
          rw [if_pos rfl] at HD
          go_wp2_with fail
          go_ret
          exact ⟨Gl.ret_bool HD.out, rfl⟩
        · rw [if_neg hn] at HD
          have hz : ((n : Int) == 0) = false := by simp; omega
          have hneg : ¬ (n : Int) < 0 := by omega
          go_wp2_with fail
          go_round
          case rel => exact ⟨k + 1, n, by omega, by omega, by go_num, by go_num, HD⟩
          case measure => simp [intOf]; omega
      · rw [if_neg b3] at HD
        rw [decide_eq_false b3] at e3
        clear b1 b2 b3 hdr
        have hneg : ¬ (n : Int) < 0 := by omega
        go_wp2_with fail
        go_round
        case rel => exact ⟨k + 1, n, by omega, by omega, by go_num, by go_num, HD⟩
        case measure => simp [intOf]; omega
    · obtain rfl : k = s.length := by omega
      rw [List.drop_length] at HD
      have HE : Hid (R = ((n : Int) == 0)) := Lib.hid (by rw [← HD.out]; show decide (n = 0) = _; by_cases h : n = 0 <;> simp [h])
      go_wp2
      go_ret
      exact ⟨Gl.ret_bool HE.out.symm, rfl⟩
end Go.Proofs.YtfmbbhcjnidcbaaGreatDoor
