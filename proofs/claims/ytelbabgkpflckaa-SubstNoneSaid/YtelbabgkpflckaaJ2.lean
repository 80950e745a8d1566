/-
  PkEq: CHAPTER 12, PLAIN: one path behind the other finds what all paths at once find.
-/
import Derived.Test.YtelbabgkpflckaaJ1

set_option linter.unusedSimpArgs false
set_option linter.unusedVariables false
namespace Go.Proofs.Ytelbabgkpflckaa
namespace Pk
open Rx (In)
section
variable {L : List In} {t : List UInt8}

/-! ## one list behind another -/
theorem dfs_append (S : Seen) (l q : List Ent) : dfs L t S (l ++ q) = (match dfs L t S l with
    | (some r, S2) => (some r, S2)
    | (none, S2) => dfs L t S2 q) := by
  induction hn : mu L t S l using Nat.strongRecOn generalizing S l with
  | _ n ih =>
    subst hn
    match l with
    | [] => rw [List.nil_append, dfs_nil]
    | (h, k, r) :: l =>
      rw [List.cons_append]
      cases hx : fetch L h with
      | none =>
        rw [dfs_out hx, dfs_out hx]
        exact ih _ (by unfold mu; simp) S l rfl
      | some x =>
        by_cases hs : S h.toNat k = true ∨ t.length < k
        · rw [dfs_seen hs, dfs_seen hs]
          exact ih _ (by unfold mu; simp) S l rfl
        · have hs1 : S h.toNat k = false := by cases e : S h.toNat k <;> simp_all
          have hs2 : k ≤ t.length := by omega
          rw [dfs_act hx hs1 hs2, dfs_act hx hs1 hs2]
          have hm := mu_see L t (fetch_some hx).2.1 hs2 hs1
          cases ha : act t k x h r with
          | dead => exact ih _ (by unfold mu; simp only [List.length_cons]; omega) _ _ rfl
          | hit => rfl
          | next =>
            show dfs L t _ ((h + 1, k + 1, r) :: (l ++ q)) = _
            rw [← List.cons_append]
            exact ih _ (by unfold mu; simp only [List.length_cons]; omega) _ _ rfl
          | go m =>
            show dfs L t _ (m.map (fun e => (e.1, k, e.2)) ++ (l ++ q)) = _
            rw [← List.append_assoc]
            have h2 := act_go_len ha
            exact ih _ (by unfold mu; simp only [List.length_cons, List.length_append, List.length_map]; omega) _ _ rfl

theorem lev_append {k : Nat} (A : Nat → Bool) (l q : List (Int × Row)) : lev L t k A (l ++ q) = (match lev L t k A l with
    | (B, o, some r) => (B, o, some r)
    | (B, o, none) => ((lev L t k B q).1, o ++ (lev L t k B q).2.1, (lev L t k B q).2.2)) := by
  induction hn : muL L A l using Nat.strongRecOn generalizing A l with
  | _ n ih =>
    subst hn
    match l with
    | [] => rw [List.nil_append, lev_nil]; rfl
    | (h, r) :: l =>
      rw [List.cons_append]
      cases hx : fetch L h with
      | none =>
        rw [lev_out hx, lev_out hx]
        exact ih _ (by unfold muL; simp) A l rfl
      | some x =>
        by_cases hs : A h.toNat = true
        · rw [lev_seen hs, lev_seen hs]
          exact ih _ (by unfold muL; simp) A l rfl
        · have hs1 : A h.toNat = false := by cases e : A h.toNat <;> simp_all
          rw [lev_act hx hs1, lev_act hx hs1]
          have hm := free_mark L.length A h.toNat (fetch_some hx).2.1 hs1
          cases ha : act t k x h r with
          | dead => exact ih _ (by unfold muL; simp only [List.length_cons]; omega) _ _ rfl
          | hit => rfl
          | next =>
            have := ih _ (by unfold muL; simp only [List.length_cons]; omega) (mark A h.toNat) l rfl
            simp only
            rw [this]
            generalize lev L t k (mark A h.toNat) l = z
            obtain ⟨B, o, m⟩ := z
            cases m <;> rfl
          | go m =>
            show lev L t k _ (m ++ (l ++ q)) = _
            rw [← List.append_assoc]
            have h2 := act_go_len ha
            exact ih _ (by unfold muL; simp only [List.length_cons, List.length_append]; omega) _ _ rfl

/-! ## offsets from a place on are all that matter -/
def Ag (j : Nat) (S T : Seen) : Prop := ∀ p a, j ≤ a → S p a = T p a
theorem Ag.see {j : Nat} {S T : Seen} (h : Ag j S T) (p a : Nat) : Ag j (see S p a) (see T p a) := by
  intro q b hb
  unfold Pk.see
  rw [h q b hb]
def From (j : Nat) (l : List Ent) : Prop := ∀ e ∈ l, j ≤ e.2.1
theorem dfs_agree {j : Nat} {S T : Seen} (hST : Ag j S T) (l : List Ent) (hl : From j l) : (dfs L t S l).1 = (dfs L t T l).1 ∧ Ag j (dfs L t S l).2 (dfs L t T l).2 := by
  induction hn : mu L t S l using Nat.strongRecOn generalizing S T l with
  | _ n ih =>
    subst hn
    match l with
    | [] => rw [dfs_nil, dfs_nil]; exact ⟨rfl, hST⟩
    | (h, k, r) :: l =>
      have hk : j ≤ k := hl _ List.mem_cons_self
      have hl2 : From j l := fun e he => hl e (List.mem_cons_of_mem _ he)
      cases hx : fetch L h with
      | none =>
        rw [dfs_out hx, dfs_out hx]
        exact ih _ (by unfold mu; simp) hST l hl2 rfl
      | some x =>
        have hSk := hST h.toNat k hk
        by_cases hs : S h.toNat k = true ∨ t.length < k
        · rw [dfs_seen hs, dfs_seen (hSk ▸ hs)]
          exact ih _ (by unfold mu; simp) hST l hl2 rfl
        · have hs1 : S h.toNat k = false := by cases e : S h.toNat k <;> simp_all
          have hs2 : k ≤ t.length := by omega
          rw [dfs_act hx hs1 hs2, dfs_act hx (hSk ▸ hs1) hs2]
          have hm := mu_see L t (fetch_some hx).2.1 hs2 hs1
          cases ha : act t k x h r with
          | dead => exact ih _ (by unfold mu; simp only [List.length_cons]; omega) (hST.see _ _) _ hl2 rfl
          | hit => exact ⟨rfl, hST.see _ _⟩
          | next =>
            refine ih _ (by unfold mu; simp only [List.length_cons]; omega) (hST.see _ _) _ ?_ rfl
            intro e he
            rcases List.mem_cons.1 he with rfl | he
            · show j ≤ k + 1; omega
            · exact hl2 e he
          | go m =>
            have h2 := act_go_len ha
            refine ih _ (by unfold mu; simp only [List.length_cons, List.length_append, List.length_map]; omega) (hST.see _ _) _ ?_ rfl
            intro e he
            rcases List.mem_append.1 he with he | he
            · obtain ⟨y, _, rfl⟩ := List.mem_map.1 he; exact hk
            · exact hl2 e he
/-- What lies ahead is not touched. -/
theorem dfs_keeps {j : Nat} (S : Seen) (l : List Ent) (hl : From j l) : ∀ p a, a < j → (dfs L t S l).2 p a = S p a := by
  induction hn : mu L t S l using Nat.strongRecOn generalizing S l with
  | _ n ih =>
    subst hn
    match l with
    | [] => rw [dfs_nil]; exact fun _ _ _ => rfl
    | (h, k, r) :: l =>
      have hk : j ≤ k := hl _ List.mem_cons_self
      have hl2 : From j l := fun e he => hl e (List.mem_cons_of_mem _ he)
      have hse : ∀ p a, a < j → see S h.toNat k p a = S p a := by
        intro p a ha
        have : ¬ a = k := by omega
        simp [see, this]
      cases hx : fetch L h with
      | none =>
        rw [dfs_out hx]
        exact ih _ (by unfold mu; simp) S l hl2 rfl
      | some x =>
        by_cases hs : S h.toNat k = true ∨ t.length < k
        · rw [dfs_seen hs]
          exact ih _ (by unfold mu; simp) S l hl2 rfl
        · have hs1 : S h.toNat k = false := by cases e : S h.toNat k <;> simp_all
          have hs2 : k ≤ t.length := by omega
          rw [dfs_act hx hs1 hs2]
          have hm := mu_see L t (fetch_some hx).2.1 hs2 hs1
          cases ha : act t k x h r with
          | dead => intro p a hpa; rw [← hse p a hpa]; exact ih _ (by unfold mu; simp only [List.length_cons]; omega) _ _ hl2 rfl p a hpa
          | hit => intro p a hpa; exact hse p a hpa
          | next =>
            intro p a hpa
            rw [← hse p a hpa]
            refine ih _ (by unfold mu; simp only [List.length_cons]; omega) _ _ ?_ rfl p a hpa
            intro e he
            rcases List.mem_cons.1 he with rfl | he
            · show j ≤ k + 1; omega
            · exact hl2 e he
          | go m =>
            have h2 := act_go_len ha
            intro p a hpa
            rw [← hse p a hpa]
            refine ih _ (by unfold mu; simp only [List.length_cons, List.length_append, List.length_map]; omega) _ _ ?_ rfl p a hpa
            intro e he
            rcases List.mem_append.1 he with he | he
            · obtain ⟨y, _, rfl⟩ := List.mem_map.1 he; exact hk
            · exact hl2 e he

/-! ## one offset behind the other -/
def at_ (k : Nat) (l : List (Int × Row)) : List Ent := l.map fun e => (e.1, k, e.2)
theorem at_from {j k : Nat} (h : j ≤ k) (l : List (Int × Row)) : From j (at_ k l) := by
  intro e he
  obtain ⟨y, _, rfl⟩ := List.mem_map.1 he
  exact h
theorem From.append {j : Nat} {l q : List Ent} (h : From j l) (g : From j q) : From j (l ++ q) := by
  intro e he
  rcases List.mem_append.1 he with he | he
  · exact h e he
  · exact g e he
/-- What one offset's lists lead to, then the later ones. -/
def Then (L : List In) (t : List UInt8) (k : Nat) (W : Seen) (later : List Ent) (z : Res1) : Option Row := match z with
  | (_, o, some r) => ((dfs L t W (at_ (k + 1) o)).1).or (some r)
  | (_, o, none) => (dfs L t W (at_ (k + 1) o ++ later)).1
theorem dfs_level {k : Nat} (hk : k ≤ t.length) (later : List Ent) (hlat : From (k + 1) later) (S W : Seen) (hW : Ag (k + 1) S W) (A : Nat → Bool) (hA : ∀ p, S p k = A p) (l : List (Int × Row)) :
    (dfs L t S (at_ k l ++ later)).1 = Then L t k W later (lev L t k A l) := by
  induction hn : muL L A l using Nat.strongRecOn generalizing S W A l with
  | _ n ih =>
    subst hn
    match l with
    | [] => rw [lev_nil]; exact (dfs_agree hW later hlat).1
    | (h, r) :: l =>
      show (dfs L t S ((h, k, r) :: (at_ k l ++ later))).1 = _
      cases hx : fetch L h with
      | none =>
        rw [dfs_out hx, lev_out hx]
        exact ih _ (by unfold muL; simp) S W hW A hA l rfl
      | some x =>
        by_cases hs : A h.toNat = true
        · rw [dfs_seen (.inl ((hA _).trans hs)), lev_seen hs]
          exact ih _ (by unfold muL; simp) S W hW A hA l rfl
        · have hs1 : A h.toNat = false := by cases e : A h.toNat <;> simp_all
          rw [dfs_act hx ((hA _).trans hs1) hk, lev_act hx hs1]
          have hm := free_mark L.length A h.toNat (fetch_some hx).2.1 hs1
          have hW2 : Ag (k + 1) (see S h.toNat k) W := by
            intro p a ha
            have : ¬ a = k := by omega
            simp [see, this, hW p a ha]
          have hA2 : ∀ p, see S h.toNat k p k = mark A h.toNat p := by
            intro p
            simp [see, mark, hA]
          cases ha : act t k x h r with
          | dead => exact ih _ (by unfold muL; simp only [List.length_cons]; omega) _ W hW2 _ hA2 l rfl
          | hit =>
            show some r = ((dfs L t W (at_ (k + 1) [])).1).or (some r)
            unfold at_
            rw [List.map_nil, dfs_nil]
            rfl
          | next =>
            show (dfs L t (see S h.toNat k) ([(h + 1, k + 1, r)] ++ (at_ k l ++ later))).1 = _
            rw [dfs_append]
            have hF : From (k + 1) [((h + 1 : Int), k + 1, r)] := by
              intro e he
              rw [List.mem_singleton.1 he]
              exact Nat.le_refl _
            have hg := dfs_agree (L := L) (t := t) hW2 [((h + 1 : Int), k + 1, r)] hF
            have hkp := dfs_keeps (L := L) (t := t) (see S h.toNat k) [((h + 1 : Int), k + 1, r)] hF
            generalize dfs L t (see S h.toNat k) [((h + 1 : Int), k + 1, r)] = z1 at hg hkp
            have hz2 : ∀ q, dfs L t W (at_ (k + 1) ((h + 1, r) :: q)) = dfs L t W ([((h + 1 : Int), k + 1, r)] ++ at_ (k + 1) q) := fun _ => rfl
            have hz3 : ∀ q, dfs L t W (at_ (k + 1) ((h + 1, r) :: q) ++ later) = dfs L t W ([((h + 1 : Int), k + 1, r)] ++ (at_ (k + 1) q ++ later)) := fun _ => rfl
            have hih := fun S2 (hh : ∀ p, S2 p k = mark A h.toNat p) W2 (hW3 : Ag (k + 1) S2 W2) => ih _ (by unfold muL; simp only [List.length_cons]; omega) S2 W2 hW3 (mark A h.toNat) hh l rfl
            generalize lev L t k (mark A h.toNat) l = z at hih
            obtain ⟨B, o, m⟩ := z
            generalize hz4 : dfs L t W [((h + 1 : Int), k + 1, r)] = z4 at hg
            obtain ⟨f1, S1⟩ := z1
            obtain ⟨f4, S4⟩ := z4
            obtain ⟨e1, hag⟩ := hg
            cases m with
            | some q =>
              show _ = ((dfs L t W (at_ (k + 1) ((h + 1, r) :: o))).1).or (some q)
              rw [hz2, dfs_append, hz4]
              cases f1 with
              | some y => rw [← show some y = f4 from e1]; rfl
              | none =>
                rw [← show none = f4 from e1]
                exact hih S1 (fun p => (hkp p k (by omega)).trans (hA2 p)) S4 hag
            | none =>
              show _ = (dfs L t W (at_ (k + 1) ((h + 1, r) :: o) ++ later)).1
              rw [hz3, dfs_append, hz4]
              cases f1 with
              | some y => rw [← show some y = f4 from e1]
              | none =>
                rw [← show none = f4 from e1]
                exact hih S1 (fun p => (hkp p k (by omega)).trans (hA2 p)) S4 hag
          | go m =>
            have h2 := act_go_len ha
            show (dfs L t (see S h.toNat k) (at_ k m ++ (at_ k l ++ later))).1 = _
            have : at_ k m ++ (at_ k l ++ later) = at_ k (m ++ l) ++ later := by unfold at_; rw [List.map_append, List.append_assoc]
            rw [this]
            exact ih _ (by unfold muL; simp only [List.length_cons, List.length_append]; omega) _ W hW2 _ hA2 (m ++ l) rfl
end
end Pk
end Go.Proofs.Ytelbabgkpflckaa
