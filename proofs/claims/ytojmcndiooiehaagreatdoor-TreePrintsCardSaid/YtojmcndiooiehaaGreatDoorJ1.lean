/-
  NmPure: PLAIN: names in parts (chapter 8): a text's parts between its dots, joined again; what is a name; its file and back; the part at a place. No program.
-/
import Derived.Lib.Replace
import Derived.Lib.SplitLaws
import Derived.Lib.Hide

set_option linter.unusedSimpArgs false
set_option linter.unusedVariables false
namespace Go.Proofs.YtojmcndiooiehaaGreatDoor
open Go.RowKit

namespace Nm
/-- The texts between the dots. -/
def pt : List UInt8 → List (List UInt8)
  | [] => [[]]
  | b :: r => if b = 46 then [] :: pt r else match pt r with
    | [] => [[b]]
    | p :: q => (b :: p) :: q
/-- Texts with dots between. -/
def jn : List (List UInt8) → List UInt8
  | [] => []
  | [p] => p
  | p :: q :: r => p ++ 46 :: jn (q :: r)
def noDot (p : List UInt8) : Bool := p.all (· != 46)

theorem pt_ne (s : List UInt8) : pt s ≠ [] := by
  cases s with
  | nil => simp [pt]
  | cons b r =>
    unfold pt
    split
    · simp
    · split <;> simp
theorem pt_dot (r : List UInt8) : pt (46 :: r) = [] :: pt r := by rw [pt, if_pos rfl]
theorem pt_cons {b : UInt8} (h : b ≠ 46) {r p : List UInt8} {q : List (List UInt8)} (e : pt r = p :: q) : pt (b :: r) = (b :: p) :: q := by rw [pt, if_neg h, e]
theorem pt_cut (a r : List UInt8) (h : noDot a = true) : pt (a ++ 46 :: r) = a :: pt r := by
  induction a with
  | nil => exact pt_dot r
  | cons b a ih =>
    have hb : b ≠ 46 ∧ noDot a = true := by simpa [noDot] using h
    exact pt_cons hb.1 (ih hb.2)
theorem pt_plain (a : List UInt8) (h : noDot a = true) : pt a = [a] := by
  induction a with
  | nil => rfl
  | cons b a ih =>
    have hb : b ≠ 46 ∧ noDot a = true := by simpa [noDot] using h
    exact pt_cons hb.1 (ih hb.2)
theorem pt_noDot (s : List UInt8) : ∀ p ∈ pt s, noDot p = true := by
  induction s with
  | nil => intro p hp; have : p = [] := by simpa [pt] using hp
           subst this; rfl
  | cons b r ih =>
    by_cases h : b = 46
    · subst h
      rw [pt_dot]
      intro p hp
      rcases List.mem_cons.1 hp with rfl | hp
      · rfl
      · exact ih p hp
    · cases e : pt r with
      | nil => exact absurd e (pt_ne r)
      | cons q t =>
        rw [pt_cons h e]
        rw [e] at ih
        intro p hp
        rcases List.mem_cons.1 hp with rfl | hp
        · have := ih q (List.mem_cons_self ..)
          unfold noDot at *
          simpa [h] using this
        · exact ih p (List.mem_cons_of_mem _ hp)
theorem jn_cons (p : List UInt8) {l : List (List UInt8)} (h : l ≠ []) : jn (p :: l) = p ++ 46 :: jn l := by
  cases l with
  | nil => exact absurd rfl h
  | cons q r => rfl
theorem jn_snoc (l : List (List UInt8)) (p : List UInt8) (h : l ≠ []) : jn (l ++ [p]) = jn l ++ 46 :: p := by
  induction l with
  | nil => exact absurd rfl h
  | cons q r ih =>
    by_cases hr : r = []
    · subst hr; rfl
    · rw [List.cons_append, jn_cons q (by simp), ih hr, jn_cons q hr]
      simp
theorem jn_pt (s : List UInt8) : jn (pt s) = s := by
  induction s with
  | nil => rfl
  | cons b r ih =>
    by_cases h : b = 46
    · subst h
      rw [pt_dot, jn_cons _ (pt_ne r), ih]
      rfl
    · cases e : pt r with
      | nil => exact absurd e (pt_ne r)
      | cons q t =>
        rw [pt_cons h e]
        rw [e] at ih
        cases t with
        | nil => rw [← ih]; rfl
        | cons t1 t2 =>
          rw [jn_cons _ (by simp)] at ih ⊢
          rw [← ih]; rfl
theorem pt_jn (l : List (List UInt8)) (hl : l ≠ []) (h : ∀ p ∈ l, noDot p = true) : pt (jn l) = l := by
  induction l with
  | nil => exact absurd rfl hl
  | cons q r ih =>
    by_cases hr : r = []
    · subst hr; exact pt_plain q (h q (List.mem_cons_self ..))
    · rw [jn_cons q hr, pt_cut _ _ (h q (List.mem_cons_self ..)), ih hr (fun p hp => h p (List.mem_cons_of_mem _ hp))]
/-- What a loop builds: the first k with dots between. -/
theorem jn_take (l : List (List UInt8)) (k : Nat) (h : k < l.length) : jn (l.take (k + 1)) = jn (l.take k) ++ ((if 0 < k then [46] else []) ++ l[k]) := by
  rw [List.take_succ_eq_append_getElem h]
  by_cases hk : 0 < k
  · have hne : l.take k ≠ [] := by
      intro e
      have h0 : (l.take k).length = 0 := by rw [e]; rfl
      rw [List.length_take] at h0; omega
    rw [if_pos hk, jn_snoc _ _ hne]
    rfl
  · have : k = 0 := by omega
    subst this
    rfl
theorem jn_take_len (l : List (List UInt8)) (k : Nat) (hk : k ≤ l.length) : (jn (l.take k)).length ≤ (jn l).length := by
  induction l generalizing k with
  | nil => simp at hk; subst hk; exact Nat.le_refl _
  | cons q r ih =>
    cases k with
    | zero => exact Nat.zero_le _
    | succ k =>
      have hk' : k ≤ r.length := by simpa using hk
      by_cases hr : r = []
      · subst hr; have : k = 0 := by simpa using hk'
        subst this; exact Nat.le_refl _
      · rw [List.take_succ_cons, jn_cons q hr]
        by_cases h0 : r.take k = []
        · rw [h0]; show q.length ≤ _; rw [List.length_append]; omega
        · rw [jn_cons q h0]
          have := ih k hk'
          rw [List.length_append, List.length_append, List.length_cons, List.length_cons]; omega
theorem jn_len (l : List (List UInt8)) (m : Nat) (h : ∀ p ∈ l, p.length ≤ m) : (jn l).length ≤ l.length * (m + 1) := by
  induction l with
  | nil => exact Nat.zero_le _
  | cons q r ih =>
    have hq := h q (List.mem_cons_self ..)
    have ih' := ih (fun p hp => h p (List.mem_cons_of_mem _ hp))
    by_cases hr : r = []
    · subst hr; show q.length ≤ _; simp; omega
    · rw [jn_cons q hr, List.length_append, List.length_cons, List.length_cons, Nat.add_mul]; omega

/-- As many parts as dots, and one. -/
theorem pt_length (s : List UInt8) : (pt s).length = s.count 46 + 1 := by
  induction s with
  | nil => rfl
  | cons b r ih =>
    by_cases h : b = 46
    · subst h; rw [pt_dot, List.length_cons, ih]; simp
    · cases e : pt r with
      | nil => exact absurd e (pt_ne r)
      | cons q t =>
        rw [pt_cons h e, List.count_cons_of_ne (by simpa using h), ← ih, e]; rfl
theorem pt_len (s : List UInt8) : (pt s).length ≤ s.length + 1 := by
  rw [pt_length]; have := List.count_le_length (a := (46 : UInt8)) (l := s); omega
theorem pt_part_len (s : List UInt8) : ∀ p ∈ pt s, p.length ≤ s.length := by
  induction s with
  | nil => intro p hp; have : p = [] := by simpa [pt] using hp
           subst this; exact Nat.le_refl _
  | cons b r ih =>
    by_cases h : b = 46
    · subst h; rw [pt_dot]; intro p hp
      rcases List.mem_cons.1 hp with rfl | hp
      · exact Nat.zero_le _
      · have := ih p hp; rw [List.length_cons]; omega
    · cases e : pt r with
      | nil => exact absurd e (pt_ne r)
      | cons q t =>
        rw [pt_cons h e]; rw [e] at ih; intro p hp
        rcases List.mem_cons.1 hp with rfl | hp
        · have := ih q (List.mem_cons_self ..); simp; omega
        · have := ih p (List.mem_cons_of_mem _ hp); simp; omega

/-! A text's first dot. -/
def ahead (l : List UInt8) : List UInt8 := l.takeWhile (· != 46)
def dotted (l : List UInt8) : Bool := !(l.dropWhile (· != 46)).isEmpty
def behind (l : List UInt8) : List UInt8 := (l.dropWhile (· != 46)).drop 1
theorem noDot_ahead (l : List UInt8) : noDot (ahead l) = true := by
  unfold noDot ahead
  rw [List.all_eq_true]
  intro b hb
  induction l with
  | nil => cases hb
  | cons c r ih =>
    rw [List.takeWhile_cons] at hb
    split at hb
    · rcases List.mem_cons.1 hb with rfl | hb
      · assumption
      · exact ih hb
    · cases hb
theorem whole (l : List UInt8) (h : dotted l = true) : l = ahead l ++ 46 :: behind l := by
  induction l with
  | nil => cases h
  | cons c r ih =>
    by_cases hc : c = 46
    · subst hc; rfl
    · have h1 : (c != 46) = true := by simpa using hc
      have hd : dotted r = true := by unfold dotted at h ⊢; rw [List.dropWhile_cons, h1] at h; simpa using h
      have e := ih hd
      unfold ahead behind at *
      rw [List.takeWhile_cons, List.dropWhile_cons, h1]
      simp only [if_true]
      rw [List.cons_append, ← e]
theorem whole_not (l : List UInt8) (h : dotted l = false) : ahead l = l ∧ noDot l = true := by
  induction l with
  | nil => exact ⟨rfl, rfl⟩
  | cons c r ih =>
    by_cases hc : c = 46
    · subst hc; cases h
    · have h1 : (c != 46) = true := by simpa using hc
      have hd : dotted r = false := by unfold dotted at h ⊢; rw [List.dropWhile_cons, h1] at h; simpa using h
      obtain ⟨e1, e2⟩ := ih hd
      constructor
      · unfold ahead at *; rw [List.takeWhile_cons, h1]; simp only [if_true]; rw [e1]
      · unfold noDot at *; rw [List.all_cons, h1, e2]; rfl
theorem pt_ahead (s : List UInt8) : pt s = ahead s :: (if dotted s then pt (behind s) else []) := by
  by_cases h : dotted s = true
  · rw [if_pos h]
    conv => lhs; rw [whole s h]
    exact pt_cut _ _ (noDot_ahead s)
  · have h' : dotted s = false := by simpa using h
    obtain ⟨e1, e2⟩ := whole_not s h'
    rw [if_neg h, e1]
    exact pt_plain s e2
/-- Behind k dots. -/
def rest : Nat → List UInt8 → List UInt8
  | 0, s => s
  | k + 1, s => behind (rest k s)
theorem pt_rest (s : List UInt8) (k : Nat) (h : k < (pt s).length) : (pt s).drop k = pt (rest k s) := by
  induction k with
  | zero => rfl
  | succ k ih =>
    have e := ih (by omega)
    have hd : (pt s).drop (k + 1) = ((pt s).drop k).drop 1 := by rw [List.drop_drop]
    rw [hd, e, pt_ahead (rest k s), List.drop_succ_cons, List.drop_zero]
    by_cases hh : dotted (rest k s) = true
    · rw [if_pos hh]; rfl
    · exfalso
      have e2 := congrArg List.length (e.trans (pt_ahead (rest k s)))
      rw [if_neg hh, List.length_drop] at e2
      simp at e2
      omega
theorem rest_dotted (s : List UInt8) (k : Nat) (h : k < (pt s).length) : dotted (rest k s) = decide (k + 1 < (pt s).length) := by
  have e := congrArg List.length ((pt_rest s k h).trans (pt_ahead (rest k s)))
  rw [List.length_drop, List.length_cons] at e
  by_cases hh : dotted (rest k s) = true
  · rw [hh]
    rw [if_pos hh] at e
    have := List.length_pos_iff.2 (pt_ne (behind (rest k s)))
    rw [decide_eq_true (by omega)]
  · have h' : dotted (rest k s) = false := by simpa using hh
    rw [h'] at e ⊢
    simp at e
    rw [decide_eq_false (by omega)]
theorem rest_at (s : List UInt8) (k : Nat) (h : k < (pt s).length) : (pt s)[k] = ahead (rest k s) := by
  have e := (pt_rest s k h).trans (pt_ahead (rest k s))
  rw [List.drop_eq_getElem_cons h] at e
  exact (List.cons.inj e).1
theorem rest_len (s : List UInt8) (k : Nat) : (rest k s).length ≤ s.length := by
  induction k with
  | zero => exact Nat.le_refl _
  | succ k ih =>
    refine Nat.le_trans ?_ ih
    show (((rest k s).dropWhile (· != 46)).drop 1).length ≤ _
    rw [List.length_drop]
    have := (List.dropWhile_suffix (fun x : UInt8 => x != 46) (l := rest k s)).length_le
    omega
/-- The part at a place: from the front, or from the end. -/
def nd (s : List UInt8) (i : Int) : List UInt8 :=
  let j := if i < 0 then i + (pt s).length else i
  if j < 0 then [] else (pt s).getD j.toNat []
theorem nd_at (s : List UInt8) (k : Nat) (h : k < (pt s).length) : nd s (k : Int) = ahead (rest k s) := by
  unfold nd
  rw [if_neg (by omega), if_neg (by omega), ← rest_at s k h]
  show (pt s).getD ((k : Int)).toNat [] = _
  rw [Int.toNat_natCast]
  simp [h]
theorem nd_far (s : List UInt8) (i : Int) (h : ((pt s).length : Int) ≤ i) : nd s i = [] := by
  unfold nd
  rw [if_neg (by omega), if_neg (by omega)]
  simp [show (pt s).length ≤ i.toNat by omega]
theorem nd_neg (s : List UInt8) (i : Int) (h : i < 0) (h2 : 0 ≤ i + (pt s).length) : nd s i = nd s (i + (pt s).length) := by
  show (if (if i < 0 then i + ((pt s).length : Int) else i) < 0 then [] else (pt s).getD (if i < 0 then i + ((pt s).length : Int) else i).toNat []) = (if (if i + ((pt s).length : Int) < 0 then i + (pt s).length + (pt s).length else i + (pt s).length) < 0 then [] else (pt s).getD (if i + ((pt s).length : Int) < 0 then i + (pt s).length + (pt s).length else i + (pt s).length).toNat [])
  rw [if_pos h, if_neg (show ¬ i + ((pt s).length : Int) < 0 by omega), if_neg (show ¬ i + ((pt s).length : Int) < 0 by omega), if_neg (show ¬ i + ((pt s).length : Int) < 0 by omega)]
theorem nd_ahead (s : List UInt8) (i : Int) (h : i + (pt s).length < 0) : nd s i = [] := by
  show (if (if i < 0 then i + ((pt s).length : Int) else i) < 0 then [] else (pt s).getD (if i < 0 then i + ((pt s).length : Int) else i).toNat []) = []
  rw [if_pos (show i < 0 by omega), if_pos h]

/-! What is a name. -/
def okB (b : UInt8) : Bool := decide (97 ≤ b.toNat ∧ b.toNat ≤ 122) || decide (65 ≤ b.toNat ∧ b.toNat ≤ 90) || decide (48 ≤ b.toNat ∧ b.toNat ≤ 57) || [95, 45, 58, 35, 37, 64, 61].contains b
def okP (p : List UInt8) : Bool := !p.isEmpty && p.all okB
def is (s : List UInt8) : Bool := decide (s.length ≤ 200) && (pt s).all okP && decide ((pt s).length ≤ 20)
theorem okP_noDot {p : List UInt8} (h : okP p = true) : noDot p = true := by
  unfold okP at h
  have h2 : p.all okB = true := by simpa using (Bool.and_eq_true_iff.1 h).2
  unfold noDot
  rw [List.all_eq_true] at h2 ⊢
  intro b hb
  have := h2 b hb
  by_cases e : b = 46
  · subst e; revert this; decide
  · simpa using e

/-! Files. -/
def turn (a c : UInt8) (s : List UInt8) : List UInt8 := s.map fun b => if b = a then c else b
def wsp : List UInt8 := [46, 119, 115, 112]
def fl (s : List UInt8) : List UInt8 := turn 46 47 s ++ wsp
/-- A text less its ending. -/
def stem (f : List UInt8) : List UInt8 := f.take (f.length - 4)
def ends (f : List UInt8) : Bool := decide (4 ≤ f.length) && (f.drop (f.length - 4) == wsp)
def fOk (f : List UInt8) : Bool := ends f && noDot (stem f) && is (turn 47 46 (stem f))
def fOf (f : List UInt8) : List UInt8 := if fOk f then turn 47 46 (stem f) else []
theorem turn_len (a c : UInt8) (s : List UInt8) : (turn a c s).length = s.length := by unfold turn; simp
theorem ends_stem {f : List UInt8} (h : ends f = true) : f = stem f ++ wsp := by
  unfold ends at h
  obtain ⟨h1, h2⟩ := Bool.and_eq_true_iff.1 h
  have := eq_of_beq h2
  conv => lhs; rw [← List.take_append_drop (f.length - 4) f, this]
  rfl
theorem stem_app (s : List UInt8) : stem (s ++ wsp) = s := by unfold stem wsp; simp
theorem ends_app (s : List UInt8) : ends (s ++ wsp) = true := by unfold ends wsp; simp
theorem turn_back {s : List UInt8} : (turn 46 47 (turn 47 46 s) = s) ↔ noDot s = true := by
  induction s with
  | nil => exact ⟨fun _ => rfl, fun _ => rfl⟩
  | cons b r ih =>
    unfold turn noDot at *
    rw [List.map_cons, List.map_cons, List.cons.injEq, List.all_cons, Bool.and_eq_true, ih]
    refine and_congr_left fun _ => ?_
    by_cases h1 : b = 47
    · subst h1; decide
    · rw [if_neg h1]
      by_cases h2 : b = 46
      · subst h2; decide
      · rw [if_neg h2]; simp [h2]
/-- The file of what comes out is the file that went in: just if its stem has no dot. -/
theorem fl_back {f : List UInt8} (h : ends f = true) : (fl (turn 47 46 (stem f)) = f) ↔ noDot (stem f) = true := by
  rw [← turn_back]
  conv => lhs; rhs; rw [ends_stem h]
  unfold fl
  exact List.append_left_inj wsp
theorem okB_47 : okB 47 = false := by decide
theorem is_all {s : List UInt8} (h : is s = true) : ∀ p ∈ pt s, okP p = true := by
  unfold is at h
  have := (Bool.and_eq_true_iff.1 (Bool.and_eq_true_iff.1 h).1).2
  exact List.all_eq_true.1 this
/-- A name has no slash. -/
theorem no_slash {s : List UInt8} (h : is s = true) : ∀ b ∈ s, b ≠ 47 := by
  have hp := is_all h
  have e := jn_pt s
  have key : ∀ l : List (List UInt8), (∀ p ∈ l, okP p = true) → ∀ b ∈ jn l, b ≠ 47 := by
    intro l
    induction l with
    | nil => intro _ b hb; cases hb
    | cons q r ih =>
      intro hl b hb
      have hq : q.all okB = true := by have := hl q (List.mem_cons_self ..); unfold okP at this; simpa using (Bool.and_eq_true_iff.1 this).2
      have hq' : ∀ b ∈ q, b ≠ 47 := fun b hb e => by have := List.all_eq_true.1 hq b hb; rw [e, okB_47] at this; cases this
      by_cases hr : r = []
      · subst hr; exact hq' b hb
      · rw [jn_cons q hr] at hb
        rcases List.mem_append.1 hb with hb | hb
        · exact hq' b hb
        · rcases List.mem_cons.1 hb with rfl | hb
          · decide
          · exact ih (fun p hp => hl p (List.mem_cons_of_mem _ hp)) b hb
  intro b hb
  exact key (pt s) hp b (by rw [e]; exact hb)
end Nm
end Go.Proofs.YtojmcndiooiehaaGreatDoor
