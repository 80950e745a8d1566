/-
  PkWalks: CHAPTER 12, PLAIN: walk after walk (each with its own memory of what it executed) finds what all starts at once find.
  PkTurn: CHAPTER 12, PLAIN: the program's turns: what is due is told by the one row and by the offsets that it is to have again.
  U8: What a byte is, in this translation.
-/
import Derived.Test.YtelbabgkpflckaaJ2
import Derived.Test.YtelbabgkpflckaaRows
import Derived.WalkKit

set_option linter.unusedSimpArgs false
set_option linter.unusedVariables false
namespace Go.Proofs.Ytelbabgkpflckaa
namespace Pk
open Rx (In)
section
variable {L : List In} {t : List UInt8}

/-- A place is settled: there is no such instruction, or it was executed. -/
def Set_ (L : List In) (t : List UInt8) (V : Seen) (h : Int) (k : Nat) : Prop := fetch L h = none ∨ V h.toNat k = true ∨ t.length < k
/-- Where an instruction leads holds. -/
def Leads (P : Int → Nat → Prop) (k : Nat) (h : Int) : Out → Prop
  | .dead => True
  | .hit => False
  | .next => P (h + 1) (k + 1)
  | .go m => ∀ e ∈ m, P e.1 k
theorem Leads.mono {P Q : Int → Nat → Prop} {k : Nat} {h : Int} {o : Out} (g : ∀ a b, P a b → Q a b) (hp : Leads P k h o) : Leads Q k h o := by
  cases o with
  | dead => trivial
  | hit => exact hp
  | next => exact g _ _ hp
  | go m => exact fun e he => g _ _ (hp e he)
theorem Leads.row {P : Int → Nat → Prop} {k : Nat} {x : In} {h : Int} {r : Row} (hp : Leads P k h (act t k x h r)) (q : Row) : Leads P k h (act t k x h q) := by
  rcases act_heads t k x h r q with ⟨_, e⟩ | ⟨e, _⟩ | ⟨e, e2⟩ | ⟨m, n, e, e2, e3⟩
  · rw [e]; trivial
  · rw [e] at hp; exact hp.elim
  · rw [e] at hp; rw [e2]; exact hp
  · rw [e] at hp
    rw [e2]
    intro y hy
    have : y.1 ∈ n.map Prod.fst := List.mem_map.2 ⟨y, hy, rfl⟩
    rw [← e3] at this
    obtain ⟨z, hz, e4⟩ := List.mem_map.1 this
    rw [← e4]
    exact hp z hz
/-- All that was executed led only to what was executed: save for what is still to be tried. -/
def Pend (L : List In) (t : List UInt8) (V : Seen) (l : List Ent) : Prop := ∀ (h : Int) (k : Nat) (x : In) (r : Row), fetch L h = some x → V h.toNat k = true → Leads (fun a b => Set_ L t V a b ∨ ∃ q, (a, b, q) ∈ l) k h (act t k x h r)
theorem pend_end (S : Seen) (l : List Ent) (hP : Pend L t S l) (hn : (dfs L t S l).1 = none) : Pend L t (dfs L t S l).2 [] := by
  induction hn2 : mu L t S l using Nat.strongRecOn generalizing S l with
  | _ n ih =>
    subst hn2
    match l with
    | [] => rw [dfs_nil]; exact hP
    | (h, k, r) :: l =>
      cases hx : fetch L h with
      | none =>
        rw [dfs_out hx] at hn ⊢
        refine ih _ (by unfold mu; simp) S l ?_ hn rfl
        intro h' k' x' r' hx' hv
        refine (hP h' k' x' r' hx' hv).mono ?_
        rintro a b (hs | ⟨q, hq⟩)
        · exact .inl hs
        · rcases List.mem_cons.1 hq with he | he
          · cases he; exact .inl (.inl hx)
          · exact .inr ⟨q, he⟩
      | some x =>
        by_cases hs : S h.toNat k = true ∨ t.length < k
        · rw [dfs_seen hs] at hn ⊢
          refine ih _ (by unfold mu; simp) S l ?_ hn rfl
          intro h' k' x' r' hx' hv
          refine (hP h' k' x' r' hx' hv).mono ?_
          rintro a b (hs2 | ⟨q, hq⟩)
          · exact .inl hs2
          · rcases List.mem_cons.1 hq with he | he
            · cases he; exact .inl (.inr hs)
            · exact .inr ⟨q, he⟩
        · have hs1 : S h.toNat k = false := by cases e : S h.toNat k <;> simp_all
          have hs2 : k ≤ t.length := by omega
          rw [dfs_act hx hs1 hs2] at hn ⊢
          have hm := mu_see L t (fetch_some hx).2.1 hs2 hs1
          have hsee : ∀ a b, Set_ L t S a b → Set_ L t (see S h.toNat k) a b := by
            rintro a b (h1 | h1 | h1)
            · exact .inl h1
            · exact .inr (.inl (by simp [see, h1]))
            · exact .inr (.inr h1)
          have hme : Set_ L t (see S h.toNat k) h k := .inr (.inl (by simp [see]))
          -- whatever is to be tried next: the old obligations, and the one of this instruction
          have key : ∀ l2 : List Ent, (∀ e ∈ l, e ∈ l2) → (∀ q, Leads (fun a b => Set_ L t (see S h.toNat k) a b ∨ ∃ q, (a, b, q) ∈ l2) k h (act t k x h q)) → Pend L t (see S h.toNat k) l2 := by
            intro l2 hsub hown h' k' x' r' hx' hv
            by_cases he : h'.toNat = h.toNat ∧ k' = k
            · have e1 : h' = h := by
                have := (fetch_some hx').1
                have := (fetch_some hx).1
                have := he.1
                omega
              have e2 := he.2
              subst e1 e2
              rw [hx] at hx'
              cases hx'
              exact hown r'
            · have hv2 : S h'.toNat k' = true := by
                unfold see at hv
                simp at hv
                rcases hv with hv | hv
                · exact hv
                · exact (he hv).elim
              refine (hP h' k' x' r' hx' hv2).mono ?_
              rintro a b (h1 | ⟨q, hq⟩)
              · exact .inl (hsee a b h1)
              · rcases List.mem_cons.1 hq with he2 | he2
                · cases he2; exact .inl hme
                · exact .inr ⟨q, hsub _ he2⟩
          cases ha : act t k x h r with
          | dead =>
            rw [ha] at hn
            refine ih _ (by unfold mu; simp only [List.length_cons]; omega) _ l (key l (fun _ he => he) fun q => ?_) hn rfl
            exact Leads.row (r := r) (by rw [ha]; trivial) q
          | hit => rw [ha] at hn; cases hn
          | next =>
            rw [ha] at hn
            refine ih _ (by unfold mu; simp only [List.length_cons]; omega) _ _ (key _ (fun _ he => List.mem_cons_of_mem _ he) fun q => ?_) hn rfl
            exact Leads.row (r := r) (by rw [ha]; exact .inr ⟨r, List.mem_cons_self⟩) q
          | go m =>
            rw [ha] at hn
            have h2 := act_go_len ha
            refine ih _ (by unfold mu; simp only [List.length_cons, List.length_append, List.length_map]; omega) _ _ (key _ (fun _ he => List.mem_append_right _ he) fun q => ?_) hn rfl
            exact Leads.row (r := r) (by rw [ha]; exact fun e he => .inr ⟨e.2, List.mem_append_left _ (List.mem_map.2 ⟨e, he, rfl⟩)⟩) q

/-! ## what was executed in vain may be left out -/
def Or (S V : Seen) : Seen := fun p a => S p a || V p a
theorem or_see {V : Seen} (S : Seen) {p a : Nat} (hv : V p a = true) : Or (see S p a) V = Or S V := by
  funext q b
  unfold Or see
  by_cases hp : q = p ∧ b = a
  · obtain ⟨rfl, rfl⟩ := hp
    simp [hv]
  · have : (decide (q = p) && decide (b = a)) = false := by simpa using hp
    rw [this, Bool.or_false]
theorem settled_end {V : Seen} (hV : Pend L t V []) (S : Seen) (l : List Ent) (hl : ∀ e ∈ l, Set_ L t V e.1 e.2.1) : (dfs L t S l).1 = none ∧ Or (dfs L t S l).2 V = Or S V := by
  induction hn : mu L t S l using Nat.strongRecOn generalizing S l with
  | _ n ih =>
    subst hn
    match l with
    | [] => rw [dfs_nil]; exact ⟨rfl, rfl⟩
    | (h, k, r) :: l =>
      have hl2 : ∀ e ∈ l, Set_ L t V e.1 e.2.1 := fun e he => hl e (List.mem_cons_of_mem _ he)
      cases hx : fetch L h with
      | none =>
        rw [dfs_out hx]
        exact ih _ (by unfold mu; simp) S l hl2 rfl
      | some x =>
        by_cases hs : S h.toNat k = true ∨ t.length < k
        · rw [dfs_seen hs]
          exact ih _ (by unfold mu; simp) S l hl2 rfl
        · have hs1 : S h.toNat k = false := by cases e : S h.toNat k <;> simp_all
          have hs2 : k ≤ t.length := by omega
          rw [dfs_act hx hs1 hs2]
          have hm := mu_see L t (fetch_some hx).2.1 hs2 hs1
          have hv : V h.toNat k = true := by
            rcases hl _ List.mem_cons_self with h1 | h1 | h1
            · rw [show fetch L h = none from h1] at hx; cases hx
            · exact h1
            · have : t.length < k := h1
              omega
          have hL := hV h k x r hx hv
          rw [← or_see S hv]
          have hL2 : Leads (fun a b => Set_ L t V a b) k h (act t k x h r) := hL.mono fun a b hab => by
            rcases hab with hab | ⟨_, hq⟩
            · exact hab
            · cases hq
          cases ha : act t k x h r with
          | dead => exact ih _ (by unfold mu; simp only [List.length_cons]; omega) _ l hl2 rfl
          | hit => rw [ha] at hL2; exact hL2.elim
          | next =>
            rw [ha] at hL2
            refine ih _ (by unfold mu; simp only [List.length_cons]; omega) _ _ ?_ rfl
            intro e he
            rcases List.mem_cons.1 he with rfl | he
            · exact hL2
            · exact hl2 e he
          | go m =>
            rw [ha] at hL2
            have h2 := act_go_len ha
            refine ih _ (by unfold mu; simp only [List.length_cons, List.length_append, List.length_map]; omega) _ _ ?_ rfl
            intro e he
            rcases List.mem_append.1 he with he | he
            · obtain ⟨y, hy, rfl⟩ := List.mem_map.1 he; exact hL2 y hy
            · exact hl2 e he
theorem dfs_vain {V : Seen} (hV : Pend L t V []) (S T : Seen) (hST : Or S V = Or T V) (l : List Ent) : (dfs L t S l).1 = (dfs L t T l).1 := by
  induction hn : mu L t (Or S V) l using Nat.strongRecOn generalizing S T l with
  | _ n ih =>
    subst hn
    match l with
    | [] => rw [dfs_nil, dfs_nil]
    | (h, k, r) :: l =>
      by_cases hset : Set_ L t V h k
      · have e : ∀ S, dfs L t S ((h, k, r) :: l) = dfs L t S ([(h, k, r)] ++ l) := fun _ => rfl
        rw [e, e, dfs_append, dfs_append]
        have hone : ∀ e ∈ [((h, k, r) : Ent)], Set_ L t V e.1 e.2.1 := fun e he => by rw [List.mem_singleton.1 he]; exact hset
        have h1 := settled_end hV S _ hone
        have h2 := settled_end hV T _ hone
        generalize dfs L t S [(h, k, r)] = z1 at h1
        generalize dfs L t T [(h, k, r)] = z2 at h2
        obtain ⟨f1, S1⟩ := z1
        obtain ⟨f2, T1⟩ := z2
        obtain ⟨rfl, e1⟩ := h1
        obtain ⟨rfl, e2⟩ := h2
        have e1 : Or S1 V = Or S V := e1
        have e2 : Or T1 V = Or T V := e2
        exact ih _ (by rw [e1]; unfold mu; simp) S1 T1 (e1.trans (hST.trans e2.symm)) l rfl
      · have hx0 : fetch L h ≠ none := fun e => hset (.inl e)
        have hv : V h.toNat k = false := by
          cases e : V h.toNat k
          · rfl
          · exact (hset (.inr (.inl e))).elim
        have hk : k ≤ t.length := by
          have : ¬ t.length < k := fun e => hset (.inr (.inr e))
          omega
        have hSTk : S h.toNat k = T h.toNat k := by
          have := congrFun (congrFun hST h.toNat) k
          unfold Or at this
          rw [hv, Bool.or_false, Bool.or_false] at this
          exact this
        cases hx : fetch L h with
        | none => exact (hx0 hx).elim
        | some x =>
          by_cases hs : S h.toNat k = true
          · rw [dfs_seen (.inl hs), dfs_seen (.inl (hSTk ▸ hs))]
            exact ih _ (by unfold mu; simp) S T hST l rfl
          · have hs1 : S h.toNat k = false := by cases e : S h.toNat k <;> simp_all
            rw [dfs_act hx hs1 hk, dfs_act hx (hSTk ▸ hs1) hk]
            have hO : ∀ S : Seen, Or (see S h.toNat k) V = see (Or S V) h.toNat k := by
              intro S
              funext q b
              show ((S q b || (decide (q = h.toNat) && decide (b = k))) || V q b) = ((S q b || V q b) || (decide (q = h.toNat) && decide (b = k)))
              cases S q b <;> cases V q b <;> cases (decide (q = h.toNat) && decide (b = k)) <;> rfl
            have hST2 : Or (see S h.toNat k) V = Or (see T h.toNat k) V := by rw [hO, hO, hST]
            have hm : free (L.length * (t.length + 1)) (lin t.length (Or (see S h.toNat k) V)) + 1 = free (L.length * (t.length + 1)) (lin t.length (Or S V)) := by
              rw [hO]
              exact mu_see L t (fetch_some hx).2.1 hk (by unfold Or; rw [hs1, hv]; rfl)
            cases ha : act t k x h r with
            | dead => exact ih _ (by unfold mu; simp only [List.length_cons]; omega) _ _ hST2 l rfl
            | hit => rfl
            | next => exact ih _ (by unfold mu; simp only [List.length_cons]; omega) _ _ hST2 _ rfl
            | go m =>
              have h2 := act_go_len ha
              exact ih _ (by unfold mu; simp only [List.length_cons, List.length_append, List.length_map]; omega) _ _ hST2 _ rfl

/-! ## the whole search -/
def nothing : Seen := fun _ _ => false
def blank (w : Nat) : Row := List.replicate w (-1)
/-- A walk from a place. -/
def walk (L : List In) (t : List UInt8) (w k : Nat) : Option Row := (dfs L t nothing [(0, k, blank w)]).1
/-- The first walk that ends well: the places from k on, n of them. -/
def first (L : List In) (t : List UInt8) (w : Nat) : Nat → Nat → Option Row
  | _, 0 => none
  | k, n + 1 => (walk L t w k).or (first L t w (k + 1) n)
def starts (w : Nat) : Nat → Nat → List Ent
  | _, 0 => []
  | k, n + 1 => (0, k, blank w) :: starts w (k + 1) n
theorem pend_nothing (l : List Ent) : Pend L t nothing l := fun _ _ _ _ _ hv => by cases hv
theorem first_starts (w k n : Nat) : first L t w k n = (dfs L t nothing (starts w k n)).1 := by
  induction n generalizing k with
  | zero => unfold first starts; rw [dfs_nil]
  | succ n ih =>
    show (walk L t w k).or (first L t w (k + 1) n) = (dfs L t nothing ([(0, k, blank w)] ++ starts w (k + 1) n)).1
    rw [dfs_append, ih]
    unfold walk
    have hp := pend_end (L := L) (t := t) nothing [(0, k, blank w)] (pend_nothing _)
    generalize dfs L t nothing [(0, k, blank w)] = z at hp
    obtain ⟨f, S⟩ := z
    cases f with
    | some r => rfl
    | none =>
      show (dfs L t nothing (starts w (k + 1) n)).1 = (dfs L t S (starts w (k + 1) n)).1
      exact dfs_vain (hp rfl) nothing S (by funext p a; show (false || S p a) = (S p a || S p a); cases S p a <;> rfl) _

/-- All paths at once, from a place on, n places left: the paths that are there, and what was found. -/
def pike (L : List In) (t : List UInt8) (w : Nat) : Nat → Nat → List (Int × Row) → Option Row → Option Row
  | _, 0, _, f => f
  | k, n + 1, l, f =>
    pike L t w (k + 1) n (lev L t k (fun _ => false) (l ++ if f.isNone then [(0, blank w)] else [])).2.1 (((lev L t k (fun _ => false) (l ++ if f.isNone then [(0, blank w)] else [])).2.2).or f)
/-- A path that is left at an offset stands at one that there is. -/
theorem lev_outs_end {A : Nat → Bool} (l : List (Int × Row)) : (lev L t t.length A l).2.1 = [] := by
  induction hn : muL L A l using Nat.strongRecOn generalizing A l with
  | _ n ih =>
    subst hn
    match l with
    | [] => rw [lev_nil]
    | (h, r) :: l =>
      cases hx : fetch L h with
      | none =>
        rw [lev_out hx]
        exact ih _ (by unfold muL; simp) l rfl
      | some x =>
        by_cases hs : A h.toNat = true
        · rw [lev_seen hs]
          exact ih _ (by unfold muL; simp) l rfl
        · have hs1 : A h.toNat = false := by cases e : A h.toNat <;> simp_all
          rw [lev_act hx hs1]
          have hm := free_mark L.length A h.toNat (fetch_some hx).2.1 hs1
          cases ha : act t t.length x h r with
          | dead => exact ih _ (by unfold muL; simp only [List.length_cons]; omega) _ rfl
          | hit => rfl
          | next => have := act_next ha; omega
          | go m =>
            have h2 := act_go_len ha
            exact ih _ (by unfold muL; simp only [List.length_cons, List.length_append]; omega) _ rfl
theorem starts_from {j : Nat} (w k n : Nat) (h : j ≤ k) : From j (starts w k n) := by
  induction n generalizing k with
  | zero => intro e he; cases he
  | succ n ih =>
    intro e he
    rcases List.mem_cons.1 he with rfl | he
    · exact h
    · exact ih (k + 1) (by omega) e he
theorem pike_is (w k n : Nat) (hk : k + n = t.length + 1) (l : List (Int × Row)) (f : Option Row) (hl : n = 0 → l = []) :
    pike L t w k n l f = ((dfs L t nothing (at_ k l ++ if f.isNone then starts w k n else [])).1).or f := by
  induction n generalizing k l f with
  | zero =>
    rw [hl rfl]
    have : (if f.isNone then starts w k 0 else []) = [] := by split <;> rfl
    rw [this]
    show f = ((dfs L t nothing []).1).or f
    rw [dfs_nil]
    rfl
  | succ n ih =>
    unfold pike
    have hkt : k ≤ t.length := by omega
    rw [ih (k + 1) (by omega) _ _ (fun h0 => by
      have : k = t.length := by omega
      rw [this]
      exact lev_outs_end _)]
    cases f with
    | some q =>
      have e := dfs_level (L := L) (t := t) hkt [] (fun _ he => by cases he) nothing nothing (fun _ _ _ => rfl) (fun _ => false) (fun _ => rfl) l
      simp only [Option.isNone_some, Bool.false_eq_true, if_false, List.append_nil] at e ⊢
      rw [e]
      generalize lev L t k (fun _ => false) l = z
      obtain ⟨B, o, m⟩ := z
      cases m with
      | some y =>
        show ((dfs L t nothing (at_ (k + 1) o ++ _)).1).or (some y) = (((dfs L t nothing (at_ (k + 1) o)).1).or (some y)).or (some q)
        simp only [Option.or_some, Option.isNone_some, Bool.false_eq_true, if_false, List.append_nil]
        cases (dfs L t nothing (at_ (k + 1) o)).1 <;> rfl
      | none =>
        simp only [Then, Option.none_or, Option.isNone_some, Bool.false_eq_true, if_false, List.append_nil]
    | none =>
      have e := dfs_level (L := L) (t := t) hkt (starts w (k + 1) n) (starts_from w (k + 1) n (Nat.le_refl _)) nothing nothing (fun _ _ _ => rfl) (fun _ => false) (fun _ => rfl) (l ++ [(0, blank w)])
      have e2 : at_ k (l ++ [(0, blank w)]) ++ starts w (k + 1) n = at_ k l ++ starts w k (n + 1) := by
        unfold at_
        rw [List.map_append, List.append_assoc]
        rfl
      rw [e2] at e
      simp only [Option.isNone_none, if_true, Option.or_none]
      rw [e]
      generalize lev L t k (fun _ => false) (l ++ [(0, blank w)]) = z
      obtain ⟨B, o, m⟩ := z
      cases m with
      | some y =>
        simp only [Then, Option.isNone_some, Bool.false_eq_true, if_false, List.append_nil]
      | none =>
        simp only [Then, Option.isNone_none, if_true, Option.or_none]
/-- All paths at once find what walk after walk finds. -/
theorem pike_first (w k n : Nat) (hk : k + n = t.length + 1) : pike L t w k n [] none = first L t w k n := by
  rw [pike_is w k n hk [] none (fun _ => rfl), first_starts]
  simp only [Option.isNone_none, if_true, Option.or_none]
  rfl
/-- Where a path is found and none is left, nothing else comes. -/
theorem pike_done (w k n : Nat) (r : Row) : pike L t w k n [] (some r) = some r := by
  induction n generalizing k with
  | zero => rfl
  | succ n ih =>
    unfold pike
    simp only [Option.isNone_some, Bool.false_eq_true, if_false, List.append_nil]
    rw [lev_nil]
    exact ih (k + 1)
end
end Pk
end Go.Proofs.Ytelbabgkpflckaa

namespace Go.Proofs.Ytelbabgkpflckaa
namespace Pk
open Rx (In)

/-- A turn. -/
structure Tn where
  head : Int
  back : Bool
  num : Int
  off : Int
def Tn.go (h : Int) : Tn := ⟨h, false, 0, 0⟩
def Tn.again (n o : Int) : Tn := ⟨0, true, n, o⟩
/-- What the turns mean, the first one ahead. -/
def den (r : Row) : List Tn → List (Int × Row)
  | [] => []
  | a :: l => if a.back then den (r.set a.num.toNat a.off) l else (a.head, r) :: den r l
/-- The numbers lie within the row. -/
def Fit (w : Nat) (ts : List Tn) : Prop := ∀ a ∈ ts, a.back = true → 0 ≤ a.num ∧ a.num < (w : Int)
theorem Fit.cons {w : Nat} {a : Tn} {ts : List Tn} (h : Fit w ts) (ha : a.back = true → 0 ≤ a.num ∧ a.num < (w : Int)) : Fit w (a :: ts) := by
  intro b hb hbb
  rcases List.mem_cons.1 hb with rfl | hb
  · exact ha hbb
  · exact h b hb hbb
theorem Fit.tail {w : Nat} {a : Tn} {ts : List Tn} (h : Fit w (a :: ts)) : Fit w ts := fun b hb => h b (List.mem_cons_of_mem _ hb)

section
variable (L : List In) (t : List UInt8) (k : Nat)
/-- A result with what was handed on before it. -/
def full (o : List (Int × Row)) (z : Res1) : Res1 := (z.1, o ++ z.2.1, z.2.2)
theorem full_full (o q : List (Int × Row)) (z : Res1) : full o (full q z) = full (o ++ q) z := by unfold full; simp
theorem full_nil (z : Res1) : full [] z = z := rfl
/-- What is to come: the paths that are due at this offset, behind those handed on. -/
def due (A : Nat → Bool) (o : List (Int × Row)) (l : List (Int × Row)) : Res1 := full o (lev L t k A l)
end
section
variable {L : List In} {t : List UInt8} {k : Nat} {A : Nat → Bool} {o : List (Int × Row)}
theorem due_nil : due L t k A o [] = (A, o, none) := by unfold due; rw [lev_nil]; unfold full; simp
theorem due_out {h : Int} {r : Row} {l : List (Int × Row)} (e : fetch L h = none) : due L t k A o ((h, r) :: l) = due L t k A o l := by
  unfold due; rw [lev_out e]
theorem due_seen {h : Int} {r : Row} {l : List (Int × Row)} (e : A h.toNat = true) : due L t k A o ((h, r) :: l) = due L t k A o l := by
  unfold due; rw [lev_seen e]
theorem due_dead {h : Int} {r : Row} {l : List (Int × Row)} {x : In} (e : fetch L h = some x) (hs : A h.toNat = false) (ha : act t k x h r = .dead) : due L t k A o ((h, r) :: l) = due L t k (mark A h.toNat) o l := by
  unfold due; rw [lev_act e hs, ha]
theorem due_hit {h : Int} {r : Row} {l : List (Int × Row)} {x : In} (e : fetch L h = some x) (hs : A h.toNat = false) (ha : act t k x h r = .hit) : due L t k A o ((h, r) :: l) = (mark A h.toNat, o, some r) := by
  unfold due; rw [lev_act e hs, ha]; unfold full; simp
theorem due_next {h : Int} {r : Row} {l : List (Int × Row)} {x : In} (e : fetch L h = some x) (hs : A h.toNat = false) (ha : act t k x h r = .next) : due L t k A o ((h, r) :: l) = due L t k (mark A h.toNat) (o ++ [(h + 1, r)]) l := by
  unfold due; rw [lev_act e hs, ha]; unfold full; simp
theorem due_go {h : Int} {r : Row} {l : List (Int × Row)} {x : In} {m : List (Int × Row)} (e : fetch L h = some x) (hs : A h.toNat = false) (ha : act t k x h r = .go m) : due L t k A o ((h, r) :: l) = due L t k (mark A h.toNat) o (m ++ l) := by
  unfold due; rw [lev_act e hs, ha]
/-- One path, then the ones behind it. -/
theorem due_cons {e : Int × Row} {l : List (Int × Row)} : due L t k A o (e :: l) = (match due L t k A o [e] with
    | (B, q, some r) => (B, q, some r)
    | (B, q, none) => due L t k B q l) := by
  have h := lev_append (L := L) (t := t) (k := k) A [e] l
  unfold due
  rw [show e :: l = [e] ++ l from rfl, h]
  generalize lev L t k A [e] = z
  obtain ⟨B, q, m⟩ := z
  cases m with
  | none => show full o _ = full (o ++ q) _; unfold full; simp
  | some r => rfl
theorem den_go (r : Row) (h : Int) (l : List Tn) : den r (Tn.go h :: l) = (h, r) :: den r l := by
  rw [den, if_neg (show ¬ (Tn.go h).back = true by simp [Tn.go])]; rfl
theorem den_head {a : Tn} (r : Row) (l : List Tn) (ha : a.back = false) : den r (a :: l) = (a.head, r) :: den r l := by
  rw [den, if_neg (by rw [ha]; simp)]
theorem den_back {a : Tn} (r : Row) (l : List Tn) (ha : a.back = true) : den r (a :: l) = den (r.set a.num.toNat a.off) l := by
  rw [den, if_pos ha]

/-- A number that is set and has its offset again, is as it was. -/
theorem put_again (r : Row) (i : Int) (k : Nat) (h0 : 0 ≤ i) (h1 : i < (r.length : Int)) (l : List Tn) : den (put r i k) (Tn.again i (r.getD i.toNat 0) :: l) = den r l := by
  rw [den_back _ _ rfl]
  congr 1
  show (put r i k).set i.toNat (r.getD i.toNat 0) = r
  unfold put
  rw [if_pos ⟨h0, h1⟩, List.set_set]
  have : i.toNat < r.length := by omega
  rw [List.getD_eq_getElem?_getD, List.getElem?_eq_getElem this]
  exact List.set_getElem_self this

/-! ## how much is executed and handed on -/
/-- No more is handed on than is executed. -/
theorem lev_count (L : List In) (t : List UInt8) (k : Nat) (A : Nat → Bool) (l : List (Int × Row)) : (lev L t k A l).2.1.length + free L.length (lev L t k A l).1 ≤ free L.length A := by
  induction hn : muL L A l using Nat.strongRecOn generalizing A l with
  | _ n ih =>
    subst hn
    match l with
    | [] => rw [lev_nil]; simp
    | (h, r) :: l =>
      cases hx : fetch L h with
      | none =>
        rw [lev_out hx]
        exact ih _ (by unfold muL; simp) A l rfl
      | some x =>
        by_cases hs : A h.toNat = true
        · rw [lev_seen hs]
          exact ih _ (by unfold muL; simp) A l rfl
        · have hs1 : A h.toNat = false := by cases e : A h.toNat <;> simp_all
          have hm := free_mark L.length A h.toNat (fetch_some hx).2.1 hs1
          rw [lev_act hx hs1]
          cases ha : act t k x h r with
          | dead => have := ih _ (by unfold muL; simp only [List.length_cons]; omega) (mark A h.toNat) l rfl; simp only; omega
          | hit => simp only [List.length_nil]; omega
          | next => have := ih _ (by unfold muL; simp only [List.length_cons]; omega) (mark A h.toNat) l rfl; simp only [List.length_cons]; omega
          | go m =>
            have h2 := act_go_len ha
            have := ih _ (by unfold muL; simp only [List.length_cons, List.length_append]; omega) (mark A h.toNat) (m ++ l) rfl
            simp only
            omega
theorem due_count (l : List (Int × Row)) : (due L t k A o l).2.1.length + free L.length (due L t k A o l).1 ≤ o.length + free L.length A := by
  have := lev_count L t k A l
  unfold due full
  simp only [List.length_append]
  omega
theorem free_none (m : Nat) : free m (fun _ => false) = m := by
  unfold free
  have : (List.range m).countP (fun i => !(fun _ => false) i) = (List.range m).length := List.countP_eq_length.2 (fun _ _ => rfl)
  rw [this, List.length_range]
end
end Pk
end Go.Proofs.Ytelbabgkpflckaa

namespace Go.Proofs.Ytelbabgkpflckaa
open Go.RowKit
theorem u8info : (Try.prog.info? 5).map (fun i => (i.zero, i.size, i.bytes)) = some (some (.int .u8 0), 1, 1) := by kernel_rfl
end Go.Proofs.Ytelbabgkpflckaa
