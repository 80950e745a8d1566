/-
  TrPure: PLAIN: names as paths of parts, their order; what is found; rows that are sorted; insertion. No program.
-/
import Derived.Test.YtfmbbhcjnidcbaaGreatDoorJ1
import Derived.Test.YtfmbbhcjnidcbaaGreatDoorJ2
import Derived.Lib.Hide

namespace Go.Proofs.YtfmbbhcjnidcbaaGreatDoor
open Go.RowKit

namespace Tr
abbrev Path := List (List UInt8)
/-- Ahead, part by part. -/
def ltP : Path → Path → Bool
  | [], [] => false
  | [], _ :: _ => true
  | _ :: _, [] => false
  | x :: xs, y :: ys => if x = y then ltP xs ys else decide (x < y)
theorem ltP_cons (x : List UInt8) (xs : Path) (y : List UInt8) (ys : Path) : ltP (x :: xs) (y :: ys) = if x = y then ltP xs ys else decide (x < y) := rfl
theorem bl_irr (x : List UInt8) : ¬ x < x := List.lt_irrefl x
theorem bl_tr {x y z : List UInt8} (h : x < y) (h2 : y < z) : x < z := List.lt_trans h h2
theorem bl_tot (x y : List UInt8) : x = y ∨ x < y ∨ y < x := by
  by_cases h : x < y
  · exact .inr (.inl h)
  by_cases h2 : y < x
  · exact .inr (.inr h2)
  · exact .inl (List.le_antisymm (List.not_lt.1 h2) (List.not_lt.1 h))
theorem ltP_irr : ∀ a : Path, ltP a a = false
  | [] => rfl
  | x :: xs => by rw [ltP_cons, if_pos rfl]; exact ltP_irr xs
theorem ltP_tr : ∀ {a b c : Path}, ltP a b = true → ltP b c = true → ltP a c = true
  | [], [], _, h, _ => by cases h
  | [], _ :: _, [], _, h => by cases h
  | [], _ :: _, _ :: _, _, _ => rfl
  | _ :: _, [], _, h, _ => by cases h
  | _ :: _, _ :: _, [], _, h => by cases h
  | x :: xs, y :: ys, z :: zs, h1, h2 => by
    rw [ltP_cons] at *
    by_cases e : x = y
    · subst e
      rw [if_pos rfl] at h1
      by_cases e2 : x = z
      · subst e2
        rw [if_pos rfl] at *
        exact ltP_tr h1 h2
      · rw [if_neg e2] at *; exact h2
    · rw [if_neg e] at h1
      by_cases e2 : y = z
      · subst e2
        rw [if_neg e]; exact h1
      · rw [if_neg e2] at h2
        have h3 := bl_tr (of_decide_eq_true h1) (of_decide_eq_true h2)
        have e3 : x ≠ z := by rintro rfl; exact bl_irr _ h3
        rw [if_neg e3]; exact decide_eq_true h3
theorem ltP_tot : ∀ a b : Path, a = b ∨ ltP a b = true ∨ ltP b a = true
  | [], [] => .inl rfl
  | [], _ :: _ => .inr (.inl rfl)
  | _ :: _, [] => .inr (.inr rfl)
  | x :: xs, y :: ys => by
    rw [ltP_cons, ltP_cons]
    by_cases e : x = y
    · subst e
      rw [if_pos rfl, if_pos rfl]
      rcases ltP_tot xs ys with h | h
      · exact .inl (by rw [h])
      · exact .inr h
    · rw [if_neg e, if_neg (Ne.symm e)]
      rcases bl_tot x y with h | h | h
      · exact absurd h e
      · exact .inr (.inl (decide_eq_true h))
      · exact .inr (.inr (decide_eq_true h))
theorem ltP_pre : ∀ (p a b : Path), ltP (p ++ a) (p ++ b) = ltP a b
  | [], _, _ => rfl
  | x :: p, a, b => by rw [List.cons_append, List.cons_append, ltP_cons, if_pos rfl]; exact ltP_pre p a b
theorem ltP_ahead (p : Path) (k : List UInt8) (r : Path) : ltP p (p ++ k :: r) = true := by
  have := ltP_pre p [] (k :: r)
  rw [List.append_nil] at this
  rw [this]; rfl
theorem ltP_parts (p : Path) {k k' : List UInt8} (r r' : Path) (h : k < k') : ltP (p ++ k :: r) (p ++ k' :: r') = true := by
  rw [ltP_pre, ltP_cons, if_neg (by rintro rfl; exact bl_irr _ h)]
  exact decide_eq_true h
/-- As a loop finds it: the first j parts are alike. -/
theorem ltP_at {a b : Path} (j : Nat) (he : a.take j = b.take j) : ltP a b = ltP (a.drop j) (b.drop j) := by
  have h := ltP_pre (a.take j) (a.drop j) (b.drop j)
  rw [List.take_append_drop] at h
  rw [he, List.take_append_drop] at h
  exact h

/-! Sorted rows. -/
section
variable {α : Type} {R : α → α → Prop}
theorem nodup_of (irr : ∀ a, ¬ R a a) {l : List α} (h : l.Pairwise R) : l.Nodup := by
  show l.Pairwise (fun a b => a ≠ b)
  exact h.imp fun {a b} h e => by subst e; exact irr _ h
theorem uniq (irr : ∀ a, ¬ R a a) (tr : ∀ a b c, R a b → R b c → R a c) {l m : List α} (hl : l.Pairwise R) (hm : m.Pairwise R) (h : ∀ x, x ∈ l ↔ x ∈ m) : l = m := by
  have hp : l.Perm m := (List.perm_ext_iff_of_nodup (nodup_of irr hl) (nodup_of irr hm)).2 h
  exact List.Perm.eq_of_pairwise (le := R) (fun a b _ _ h1 h2 => absurd (tr a b a h1 h2) (irr a)) hl hm hp
theorem len_le_of_mem [DecidableEq α] : ∀ {l m : List α}, l.Nodup → (∀ x ∈ l, x ∈ m) → l.length ≤ m.length
  | [], _, _, _ => Nat.zero_le _
  | x :: r, m, hn, h => by
    have hx := h x (List.mem_cons_self ..)
    have hn' := List.nodup_cons.1 hn
    have := len_le_of_mem (l := r) (m := m.erase x) hn'.2 fun y hy => (List.mem_erase_of_ne (by rintro rfl; exact hn'.1 hy)).2 (h y (List.mem_cons_of_mem _ hy))
    rw [List.length_erase_of_mem hx] at this
    have := List.length_pos_of_mem hx
    rw [List.length_cons]; omega
end

/-- How many stand ahead. -/
def lead {α : Type} (f : α → Bool) : List α → Nat
  | [] => 0
  | x :: r => if f x = true then lead f r + 1 else 0
theorem lead_spec {α : Type} (f : α → Bool) : ∀ (l : List α), lead f l ≤ l.length ∧ (∀ j (h : j < l.length), j < lead f l → f l[j] = true) ∧ ∀ h : lead f l < l.length, f (l[lead f l]) = false
  | [] => ⟨Nat.zero_le _, fun _ h => absurd h (Nat.not_lt_zero _), fun h => absurd h (Nat.not_lt_zero _)⟩
  | x :: r => by
    obtain ⟨h1, h2, h3⟩ := lead_spec f r
    by_cases hx : f x = true
    · have e : lead f (x :: r) = lead f r + 1 := if_pos hx
      refine ⟨by rw [e, List.length_cons]; omega, fun j hj hl => ?_, fun h => ?_⟩
      · cases j with
        | zero => exact hx
        | succ j => rw [e] at hl; exact h2 j (by simpa using hj) (by omega)
      · have h' : lead f r < r.length := by rw [e] at h; simpa using h
        have e2 : (x :: r)[lead f (x :: r)] = r[lead f r] := by simp [e]
        rw [e2]; exact h3 h'
    · have e : lead f (x :: r) = 0 := if_neg hx
      refine ⟨by rw [e]; exact Nat.zero_le _, fun j hj hl => by rw [e] at hl; omega, fun h => ?_⟩
      have e2 : (x :: r)[lead f (x :: r)] = x := by simp [e]
      rw [e2]; simpa using hx
theorem lead_eq {α : Type} (f : α → Bool) (l : List α) (i : Nat) (hi : i ≤ l.length) (h1 : ∀ j (h : j < l.length), j < i → f l[j] = true) (h2 : ∀ h : i < l.length, f l[i] = false) : i = lead f l := by
  obtain ⟨a1, a2, a3⟩ := lead_spec f l
  rcases Nat.lt_trichotomy i (lead f l) with h | h | h
  · have := a2 i (by omega) h
    rw [h2 (by omega)] at this; cases this
  · exact h
  · have := h1 (lead f l) (by omega) h
    rw [a3 (by omega)] at this; cases this
/-- One more among those that are sorted. -/
def put {α : Type} (f : α → Bool) (l : List α) (x : α) : List α := l.take (lead f l) ++ x :: l.drop (lead f l)
theorem mem_put {α : Type} (f : α → Bool) (l : List α) (x y : α) : y ∈ put f l x ↔ y = x ∨ y ∈ l := by
  unfold put
  rw [List.mem_append, List.mem_cons]
  constructor
  · rintro (h | h | h)
    · exact .inr (List.mem_of_mem_take h)
    · exact .inl h
    · exact .inr (List.mem_of_mem_drop h)
  · rintro (h | h)
    · exact .inr (.inl h)
    · rw [← List.take_append_drop (lead f l) l, List.mem_append] at h
      rcases h with h | h
      · exact .inl h
      · exact .inr (.inr h)
theorem put_len {α : Type} (f : α → Bool) (l : List α) (x : α) : (put f l x).length = l.length + 1 := by
  unfold put
  have := (lead_spec f l).1
  rw [List.length_append, List.length_take, List.length_cons, List.length_drop, Nat.min_eq_left this]; omega
theorem put_sorted {α : Type} {R : α → α → Prop} (tr : ∀ a b c, R a b → R b c → R a c) (tot : ∀ a b, a = b ∨ R a b ∨ R b a) (f : α → Bool) (l : List α) (x : α) (hf : ∀ y, f y = true ↔ R y x) (hx : x ∉ l) (h : l.Pairwise R) : (put f l x).Pairwise R := by
  obtain ⟨a1, a2, a3⟩ := lead_spec f l
  have h0 := h
  rw [← List.take_append_drop (lead f l) l] at h0
  obtain ⟨ha, hb, hc⟩ := List.pairwise_append.1 h0
  have hlo : ∀ y ∈ l.take (lead f l), R y x := by
    intro y hy
    obtain ⟨j, hj, rfl⟩ := List.getElem_of_mem hy
    rw [List.length_take] at hj
    rw [List.getElem_take]
    exact (hf _).1 (a2 j (by omega) (by omega))
  have hhi : ∀ y ∈ l.drop (lead f l), R x y := by
    intro y hy
    by_cases hlt : lead f l < l.length
    · have e := List.drop_eq_getElem_cons hlt
      have h1 : R x l[lead f l] := by
        have h3 := a3 hlt
        rcases tot x l[lead f l] with e1 | e1 | e1
        · exact absurd (by rw [e1]; exact List.getElem_mem hlt) hx
        · exact e1
        · rw [(hf _).2 e1] at h3; cases h3
      rw [e] at hy hb
      rcases List.mem_cons.1 hy with rfl | hy
      · exact h1
      · exact tr _ _ _ h1 ((List.pairwise_cons.1 hb).1 y hy)
    · rw [List.drop_eq_nil_of_le (by omega)] at hy; cases hy
  unfold put
  refine List.pairwise_append.2 ⟨ha, List.pairwise_cons.2 ⟨hhi, hb⟩, fun y hy z hz => ?_⟩
  rcases List.mem_cons.1 hz with rfl | hz
  · exact hlo y hy
  · exact hc y hy z hz
/-- Laid, if it is not there. -/
def lay {α : Type} [DecidableEq α] (f : α → Bool) (l : List α) (x : α) : List α := if l[lead f l]? = some x then l else put f l x
theorem lay_there {α : Type} [DecidableEq α] {R : α → α → Prop} (irr : ∀ a, ¬ R a a) (f : α → Bool) (l : List α) (x : α) (hf : ∀ y, f y = true ↔ R y x) (h : l.Pairwise R) : l[lead f l]? = some x ↔ x ∈ l := by
  constructor
  · intro h; exact List.mem_of_getElem? h
  · intro hx
    obtain ⟨j, hj, rfl⟩ := List.getElem_of_mem hx
    have : j = lead f l := lead_eq f l j (by omega) (fun i hi hij => (hf _).2 (List.pairwise_iff_getElem.1 h i j hi hj hij)) (fun _ => by
      cases e : f l[j] with
      | false => rfl
      | true => exact absurd ((hf _).1 e) (irr _))
    rw [← this]; exact List.getElem?_eq_getElem hj
theorem mem_lay {α : Type} [DecidableEq α] {R : α → α → Prop} (irr : ∀ a, ¬ R a a) (f : α → Bool) (l : List α) (x : α) (hf : ∀ y, f y = true ↔ R y x) (h : l.Pairwise R) (y : α) : y ∈ lay f l x ↔ y = x ∨ y ∈ l := by
  unfold lay
  by_cases hx : l[lead f l]? = some x
  · rw [if_pos hx]
    have := (lay_there irr f l x hf h).1 hx
    exact ⟨.inr, fun h => h.elim (fun e => e ▸ this) id⟩
  · rw [if_neg hx]; exact mem_put f l x y
theorem lay_sorted {α : Type} [DecidableEq α] {R : α → α → Prop} (irr : ∀ a, ¬ R a a) (tr : ∀ a b c, R a b → R b c → R a c) (tot : ∀ a b, a = b ∨ R a b ∨ R b a) (f : α → Bool) (l : List α) (x : α) (hf : ∀ y, f y = true ↔ R y x) (h : l.Pairwise R) : (lay f l x).Pairwise R := by
  unfold lay
  by_cases hx : l[lead f l]? = some x
  · rw [if_pos hx]; exact h
  · rw [if_neg hx]; exact put_sorted tr tot f l x hf (fun hm => hx ((lay_there irr f l x hf h).2 hm)) h
theorem lay_len {α : Type} [DecidableEq α] (f : α → Bool) (l : List α) (x : α) : (lay f l x).length ≤ l.length + 1 := by
  unfold lay
  split
  · omega
  · rw [put_len]; exact Nat.le_refl _

/-! Names. -/
theorem pt_inj {a b : List UInt8} (h : Nm.pt a = Nm.pt b) : a = b := by rw [← Nm.jn_pt a, h, Nm.jn_pt]
def RN (a b : List UInt8) : Prop := ltP (Nm.pt a) (Nm.pt b) = true
theorem RN.irr (a : List UInt8) : ¬ RN a a := by unfold RN; rw [ltP_irr]; simp
theorem RN.tr (a b c : List UInt8) (h : RN a b) (h2 : RN b c) : RN a c := ltP_tr h h2
theorem RN.tot (a b : List UInt8) : a = b ∨ RN a b ∨ RN b a := (ltP_tot (Nm.pt a) (Nm.pt b)).imp_left pt_inj
def bef (n : List UInt8) (x : List UInt8) : Bool := ltP (Nm.pt x) (Nm.pt n)
/-- A name among names. -/
def ins (L : List (List UInt8)) (n : List UInt8) : List (List UInt8) := put (bef n) L n
theorem ins_sorted {L : List (List UInt8)} {n : List UInt8} (h : L.Pairwise RN) (hn : n ∉ L) : (ins L n).Pairwise RN := put_sorted RN.tr RN.tot (bef n) L n (fun _ => Iff.rfl) hn h
theorem mem_ins (L : List (List UInt8)) (n y : List UInt8) : y ∈ ins L n ↔ y = n ∨ y ∈ L := mem_put _ L n y

/-! Hits. -/
abbrev DH := List UInt8 × Bool
def ltH (a b : DH) : Bool := ltP (Nm.pt a.1) (Nm.pt b.1) || (decide (a.1 = b.1) && (!a.2 && b.2))
def RH (a b : DH) : Prop := ltH a b = true
theorem ltH_iff (a b : DH) : ltH a b = true ↔ ltP (Nm.pt a.1) (Nm.pt b.1) = true ∨ (a.1 = b.1 ∧ a.2 = false ∧ b.2 = true) := by unfold ltH; simp
theorem RH.irr (a : DH) : ¬ RH a a := by
  unfold RH; rw [ltH_iff, ltP_irr]
  rintro (h | ⟨_, h1, h2⟩)
  · cases h
  · rw [h1] at h2; cases h2
theorem RH.tr (a b c : DH) (h : RH a b) (h2 : RH b c) : RH a c := by
  unfold RH at *
  rw [ltH_iff] at *
  rcases h with h | ⟨e, h1, h1'⟩
  · rcases h2 with h2 | ⟨e2, _, _⟩
    · exact .inl (ltP_tr h h2)
    · exact .inl (by rw [← e2]; exact h)
  · rcases h2 with h2 | ⟨e2, h3, _⟩
    · exact .inl (by rw [e]; exact h2)
    · rw [h1'] at h3; cases h3
theorem RH.tot (a b : DH) : a = b ∨ RH a b ∨ RH b a := by
  unfold RH
  rw [ltH_iff, ltH_iff]
  rcases ltP_tot (Nm.pt a.1) (Nm.pt b.1) with h | h | h
  · have e := pt_inj h
    obtain ⟨n, l⟩ := a
    obtain ⟨m, l'⟩ := b
    obtain rfl : n = m := e
    cases l <;> cases l' <;> simp
  · exact .inr (.inl (.inl h))
  · exact .inr (.inr (.inl h))
def layH (l : List DH) (h : DH) : List DH := lay (fun y => ltH y h) l h
/-- Part by part matched. -/
def mtch : Path → Path → Bool
  | [], [] => true
  | [], _ :: _ => false
  | _ :: _, [] => false
  | x :: xs, y :: ys => Gl.gm x y && mtch xs ys
theorem mtch_len : ∀ {a b : Path}, mtch a b = true → a.length = b.length
  | [], [], _ => rfl
  | [], _ :: _, h => by cases h
  | _ :: _, [], h => by cases h
  | x :: xs, y :: ys, h => by
    have := (Bool.and_eq_true_iff.1 h).2
    rw [List.length_cons, List.length_cons, mtch_len this]
theorem mtch_app : ∀ {a b : Path} (c d : Path), a.length = b.length → mtch (a ++ c) (b ++ d) = (mtch a b && mtch c d)
  | [], [], _, _, _ => rfl
  | [], _ :: _, _, _, h => by cases h
  | _ :: _, [], _, _, h => by cases h
  | x :: xs, y :: ys, c, d, h => by
    show (Gl.gm x y && mtch (xs ++ c) (ys ++ d)) = (Gl.gm x y && mtch xs ys && mtch c d)
    rw [mtch_app c d (by simpa using h), Bool.and_assoc]
theorem mtch_snoc (a b : Path) (x y : List UInt8) (h : a.length = b.length) : mtch (a ++ [x]) (b ++ [y]) = (mtch a b && Gl.gm x y) := by
  rw [mtch_app [x] [y] h]
  show (mtch a b && (Gl.gm x y && true)) = _
  rw [Bool.and_true]
/-- What a pattern's parts find of a name. -/
def hit (p : Path) (s : List UInt8) : Option DH :=
  if p.length ≤ (Nm.pt s).length ∧ mtch p ((Nm.pt s).take p.length) = true then some (Nm.jn ((Nm.pt s).take p.length), decide ((Nm.pt s).length = p.length)) else none
def addHit (p : Path) (acc : List DH) (s : List UInt8) : List DH := match hit p s with
  | some h => layH acc h
  | none => acc
def findFrom (L : List (List UInt8)) (acc : List DH) (p : Path) : List DH := L.foldl (addHit p) acc
def findD (ps : List Path) (L : List (List UInt8)) : List DH := ps.foldl (findFrom L) []
theorem addHit_ok (p : Path) (acc : List DH) (s : List UInt8) (h : acc.Pairwise RH) : (addHit p acc s).Pairwise RH ∧ ∀ y, y ∈ addHit p acc s ↔ hit p s = some y ∨ y ∈ acc := by
  unfold addHit
  cases e : hit p s with
  | none => exact ⟨h, fun y => by simp⟩
  | some x =>
    refine ⟨lay_sorted RH.irr RH.tr RH.tot _ acc x (fun _ => Iff.rfl) h, fun y => ?_⟩
    show y ∈ lay _ acc x ↔ _
    rw [mem_lay RH.irr _ acc x (fun _ => Iff.rfl) h]
    constructor
    · rintro (rfl | h)
      · exact .inl rfl
      · exact .inr h
    · rintro (h | h)
      · exact .inl (Option.some.inj h).symm
      · exact .inr h
theorem findFrom_ok (p : Path) : ∀ (L : List (List UInt8)) (acc : List DH), acc.Pairwise RH → (findFrom L acc p).Pairwise RH ∧ ∀ y, y ∈ findFrom L acc p ↔ (∃ s ∈ L, hit p s = some y) ∨ y ∈ acc
  | [], acc, h => ⟨h, fun y => by simp [findFrom]⟩
  | s :: r, acc, h => by
    obtain ⟨h1, h2⟩ := addHit_ok p acc s h
    obtain ⟨h3, h4⟩ := findFrom_ok p r (addHit p acc s) h1
    refine ⟨h3, fun y => (h4 y).trans ?_⟩
    rw [h2 y]
    constructor
    · rintro (⟨t, ht, he⟩ | h | h)
      · exact .inl ⟨t, List.mem_cons_of_mem _ ht, he⟩
      · exact .inl ⟨s, List.mem_cons_self .., h⟩
      · exact .inr h
    · rintro (⟨t, ht, he⟩ | h)
      · rcases List.mem_cons.1 ht with rfl | ht
        · exact .inr (.inl he)
        · exact .inl ⟨t, ht, he⟩
      · exact .inr (.inr h)
theorem find_ok (L : List (List UInt8)) : ∀ (ps : List Path) (acc : List DH), acc.Pairwise RH → (ps.foldl (findFrom L) acc).Pairwise RH ∧ ∀ y, y ∈ ps.foldl (findFrom L) acc ↔ (∃ p ∈ ps, ∃ s ∈ L, hit p s = some y) ∨ y ∈ acc
  | [], acc, h => ⟨h, fun y => by simp⟩
  | p :: r, acc, h => by
    obtain ⟨h1, h2⟩ := findFrom_ok p L acc h
    obtain ⟨h3, h4⟩ := find_ok L r (findFrom L acc p) h1
    refine ⟨h3, fun y => (h4 y).trans ?_⟩
    rw [h2 y]
    constructor
    · rintro (⟨q, hq, hs⟩ | h | h)
      · exact .inl ⟨q, List.mem_cons_of_mem _ hq, hs⟩
      · exact .inl ⟨p, List.mem_cons_self .., h⟩
      · exact .inr h
    · rintro (⟨q, hq, hs⟩ | h)
      · rcases List.mem_cons.1 hq with rfl | hq
        · exact .inr (.inl hs)
        · exact .inl ⟨q, hq, hs⟩
      · exact .inr (.inr h)
theorem findD_sorted (ps : List Path) (L : List (List UInt8)) : (findD ps L).Pairwise RH := (find_ok L ps [] List.Pairwise.nil).1
theorem mem_findD (ps : List Path) (L : List (List UInt8)) (y : DH) : y ∈ findD ps L ↔ ∃ p ∈ ps, ∃ s ∈ L, hit p s = some y := by
  have := (find_ok L ps [] List.Pairwise.nil).2 y
  unfold findD
  rw [this]
  simp
/-- Two rows of hits that are sorted and hold the same are one. -/
theorem hits_uniq {l m : List DH} (hl : l.Pairwise RH) (hm : m.Pairwise RH) (h : ∀ x, x ∈ l ↔ x ∈ m) : l = m := uniq RH.irr RH.tr hl hm h
theorem names_uniq {l m : List (List UInt8)} (hl : l.Pairwise RN) (hm : m.Pairwise RN) (h : ∀ x, x ∈ l ↔ x ∈ m) : l = m := uniq RN.irr RN.tr hl hm h

/-! What the program finds: places, sorted; each is a branch, or a leaf, or both. -/
def hitsOf (br lf : Path → Bool) (q : Path) : List DH := (if br q = true then [(Nm.jn q, false)] else []) ++ (if lf q = true then [(Nm.jn q, true)] else [])
def hitsAll (br lf : Path → Bool) (qs : List Path) : List DH := qs.flatMap (hitsOf br lf)
theorem mem_hitsAll (br lf : Path → Bool) (qs : List Path) (y : DH) : y ∈ hitsAll br lf qs ↔ ∃ q ∈ qs, y.1 = Nm.jn q ∧ ((y.2 = false ∧ br q = true) ∨ (y.2 = true ∧ lf q = true)) := by
  unfold hitsAll
  rw [List.mem_flatMap]
  refine exists_congr fun q => and_congr_right fun _ => ?_
  unfold hitsOf
  obtain ⟨n, b⟩ := y
  by_cases h1 : br q = true <;> by_cases h2 : lf q = true <;> cases b <;> simp [h1, h2]
theorem hitsAll_sorted (br lf : Path → Bool) : ∀ (qs : List Path), (∀ q ∈ qs, Nm.pt (Nm.jn q) = q) → qs.Pairwise (fun a b => ltP a b = true) → (hitsAll br lf qs).Pairwise RH
  | [], _, _ => List.Pairwise.nil
  | q :: r, hq, h => by
    have h' := List.pairwise_cons.1 h
    have ih := hitsAll_sorted br lf r (fun x hx => hq x (List.mem_cons_of_mem _ hx)) h'.2
    show (hitsOf br lf q ++ hitsAll br lf r).Pairwise RH
    refine List.pairwise_append.2 ⟨?_, ih, fun a ha b hb => ?_⟩
    · unfold hitsOf
      by_cases h1 : br q = true <;> by_cases h2 : lf q = true <;> simp [h1, h2]
      show ltH _ _ = true
      rw [ltH_iff]
      exact .inr ⟨rfl, rfl, rfl⟩
    · have ha' : a.1 = Nm.jn q := by
        unfold hitsOf at ha
        rcases List.mem_append.1 ha with ha | ha
        · split at ha
          · rw [List.mem_singleton.1 ha]
          · cases ha
        · split at ha
          · rw [List.mem_singleton.1 ha]
          · cases ha
      obtain ⟨x, hx, hbx, _⟩ := (mem_hitsAll br lf r b).1 hb
      show ltH _ _ = true
      rw [ltH_iff, ha', hbx, hq q (List.mem_cons_self ..), hq x (List.mem_cons_of_mem _ hx)]
      exact .inl (h'.1 x hx)
theorem hitsAll_len (br lf : Path → Bool) : ∀ (qs : List Path), (∀ q ∈ qs, br q = true ∨ lf q = true) → qs.length ≤ (hitsAll br lf qs).length
  | [], _ => Nat.le_refl _
  | q :: r, h => by
    have ih := hitsAll_len br lf r (fun x hx => h x (List.mem_cons_of_mem _ hx))
    show _ ≤ (hitsOf br lf q ++ hitsAll br lf r).length
    rw [List.length_append, List.length_cons]
    have : 1 ≤ (hitsOf br lf q).length := by
      unfold hitsOf
      rcases h q (List.mem_cons_self ..) with h1 | h1
      · rw [if_pos h1]; simp
      · rw [if_pos h1]; simp
    omega
theorem hitsAll_le (br lf : Path → Bool) : ∀ (qs : List Path), (hitsAll br lf qs).length ≤ 2 * qs.length
  | [] => Nat.le_refl _
  | q :: r => by
    have ih := hitsAll_le br lf r
    show (hitsOf br lf q ++ hitsAll br lf r).length ≤ _
    rw [List.length_append, List.length_cons]
    have : (hitsOf br lf q).length ≤ 2 := by
      unfold hitsOf
      split <;> split <;> simp
    omega
theorem hitsAll_snoc (br lf : Path → Bool) (qs : List Path) (q : Path) : hitsAll br lf (qs ++ [q]) = hitsAll br lf qs ++ hitsOf br lf q := by
  unfold hitsAll; simp
end Tr
end Go.Proofs.YtfmbbhcjnidcbaaGreatDoor
