/-
  CHAPTER 12, PLAIN: the program's turns: what is due is told by the one row and by the offsets that it is to have again.
-/
import Derived.Test.YtedppnejkjcplaaPkWalks
namespace Go.Proofs.Ytedppnejkjcplaa
namespace Pk
open Rx (In)

/-- A turn. -/
structure Tn where
  head : Int
  back : Bool
  num : Int
  off : Int
def Tn.go (h : Int) : Tn := ⟨h, false, 0, 0⟩
def Tn.again (n o : Int) : Tn := ⟨0, true, n, o⟩
/-- What the turns mean, the first one ahead. -/
def den (r : Row) : List Tn → List (Int × Row)
  | [] => []
  | a :: l => if a.back then den (r.set a.num.toNat a.off) l else (a.head, r) :: den r l
/-- The numbers lie within the row. -/
def Fit (w : Nat) (ts : List Tn) : Prop := ∀ a ∈ ts, a.back = true → 0 ≤ a.num ∧ a.num < (w : Int)
theorem Fit.cons {w : Nat} {a : Tn} {ts : List Tn} (h : Fit w ts) (ha : a.back = true → 0 ≤ a.num ∧ a.num < (w : Int)) : Fit w (a :: ts) := by
  intro b hb hbb
  rcases List.mem_cons.1 hb with rfl | hb
  · exact ha hbb
  · exact h b hb hbb
theorem Fit.tail {w : Nat} {a : Tn} {ts : List Tn} (h : Fit w (a :: ts)) : Fit w ts := fun b hb => h b (List.mem_cons_of_mem _ hb)

section
variable (L : List In) (t : List UInt8) (k : Nat)
/-- A result with what was handed on before it. -/
def full (o : List (Int × Row)) (z : Res1) : Res1 := (z.1, o ++ z.2.1, z.2.2)
theorem full_full (o q : List (Int × Row)) (z : Res1) : full o (full q z) = full (o ++ q) z := by unfold full; simp
theorem full_nil (z : Res1) : full [] z = z := rfl
/-- What is to come: the paths that are due at this offset, behind those handed on. -/
def due (A : Nat → Bool) (o : List (Int × Row)) (l : List (Int × Row)) : Res1 := full o (lev L t k A l)
end
section
variable {L : List In} {t : List UInt8} {k : Nat} {A : Nat → Bool} {o : List (Int × Row)}
theorem due_nil : due L t k A o [] = (A, o, none) := by unfold due; rw [lev_nil]; unfold full; simp
theorem due_out {h : Int} {r : Row} {l : List (Int × Row)} (e : fetch L h = none) : due L t k A o ((h, r) :: l) = due L t k A o l := by
  unfold due; rw [lev_out e]
theorem due_seen {h : Int} {r : Row} {l : List (Int × Row)} (e : A h.toNat = true) : due L t k A o ((h, r) :: l) = due L t k A o l := by
  unfold due; rw [lev_seen e]
theorem due_dead {h : Int} {r : Row} {l : List (Int × Row)} {x : In} (e : fetch L h = some x) (hs : A h.toNat = false) (ha : act t k x h r = .dead) : due L t k A o ((h, r) :: l) = due L t k (mark A h.toNat) o l := by
  unfold due; rw [lev_act e hs, ha]
theorem due_hit {h : Int} {r : Row} {l : List (Int × Row)} {x : In} (e : fetch L h = some x) (hs : A h.toNat = false) (ha : act t k x h r = .hit) : due L t k A o ((h, r) :: l) = (mark A h.toNat, o, some r) := by
  unfold due; rw [lev_act e hs, ha]; unfold full; simp
theorem due_next {h : Int} {r : Row} {l : List (Int × Row)} {x : In} (e : fetch L h = some x) (hs : A h.toNat = false) (ha : act t k x h r = .next) : due L t k A o ((h, r) :: l) = due L t k (mark A h.toNat) (o ++ [(h + 1, r)]) l := by
  unfold due; rw [lev_act e hs, ha]; unfold full; simp
theorem due_go {h : Int} {r : Row} {l : List (Int × Row)} {x : In} {m : List (Int × Row)} (e : fetch L h = some x) (hs : A h.toNat = false) (ha : act t k x h r = .go m) : due L t k A o ((h, r) :: l) = due L t k (mark A h.toNat) o (m ++ l) := by
  unfold due; rw [lev_act e hs, ha]
/-- One path, then the ones behind it. -/
theorem due_cons {e : Int × Row} {l : List (Int × Row)} : due L t k A o (e :: l) = (match due L t k A o [e] with
    | (B, q, some r) => (B, q, some r)
    | (B, q, none) => due L t k B q l) := by
  have h := lev_append (L := L) (t := t) (k := k) A [e] l
  unfold due
  rw [show e :: l = [e] ++ l from rfl, h]
  generalize lev L t k A [e] = z
  obtain ⟨B, q, m⟩ := z
  cases m with
  | none => show full o _ = full (o ++ q) _; unfold full; simp
  | some r => rfl
theorem den_go (r : Row) (h : Int) (l : List Tn) : den r (Tn.go h :: l) = (h, r) :: den r l := by
  rw [den, if_neg (show ¬ (Tn.go h).back = true by simp [Tn.go])]; rfl
theorem den_head {a : Tn} (r : Row) (l : List Tn) (ha : a.back = false) : den r (a :: l) = (a.head, r) :: den r l := by
  rw [den, if_neg (by rw [ha]; simp)]
theorem den_back {a : Tn} (r : Row) (l : List Tn) (ha : a.back = true) : den r (a :: l) = den (r.set a.num.toNat a.off) l := by
  rw [den, if_pos ha]

/-- A number that is set and has its offset again, is as it was. -/
theorem put_again (r : Row) (i : Int) (k : Nat) (h0 : 0 ≤ i) (h1 : i < (r.length : Int)) (l : List Tn) : den (put r i k) (Tn.again i (r.getD i.toNat 0) :: l) = den r l := by
  rw [den_back _ _ rfl]
  congr 1
  show (put r i k).set i.toNat (r.getD i.toNat 0) = r
  unfold put
  rw [if_pos ⟨h0, h1⟩, List.set_set]
  have : i.toNat < r.length := by omega
  rw [List.getD_eq_getElem?_getD, List.getElem?_eq_getElem this]
  exact List.set_getElem_self this

/-! ## how much is executed and handed on -/
/-- No more is handed on than is executed. -/
theorem lev_count (L : List In) (t : List UInt8) (k : Nat) (A : Nat → Bool) (l : List (Int × Row)) : (lev L t k A l).2.1.length + free L.length (lev L t k A l).1 ≤ free L.length A := by
  induction hn : muL L A l using Nat.strongRecOn generalizing A l with
  | _ n ih =>
    subst hn
    match l with
    | [] => rw [lev_nil]; simp
    | (h, r) :: l =>
      cases hx : fetch L h with
      | none =>
        rw [lev_out hx]
        exact ih _ (by unfold muL; simp) A l rfl
      | some x =>
        by_cases hs : A h.toNat = true
        · rw [lev_seen hs]
          exact ih _ (by unfold muL; simp) A l rfl
        · have hs1 : A h.toNat = false := by cases e : A h.toNat <;> simp_all
          have hm := free_mark L.length A h.toNat (fetch_some hx).2.1 hs1
          rw [lev_act hx hs1]
          cases ha : act t k x h r with
          | dead => have := ih _ (by unfold muL; simp only [List.length_cons]; omega) (mark A h.toNat) l rfl; simp only; omega
          | hit => simp only [List.length_nil]; omega
          | next => have := ih _ (by unfold muL; simp only [List.length_cons]; omega) (mark A h.toNat) l rfl; simp only [List.length_cons]; omega
          | go m =>
            have h2 := act_go_len ha
            have := ih _ (by unfold muL; simp only [List.length_cons, List.length_append]; omega) (mark A h.toNat) (m ++ l) rfl
            simp only
            omega
theorem due_count (l : List (Int × Row)) : (due L t k A o l).2.1.length + free L.length (due L t k A o l).1 ≤ o.length + free L.length A := by
  have := lev_count L t k A l
  unfold due full
  simp only [List.length_append]
  omega
theorem free_none (m : Nat) : free m (fun _ => false) = m := by
  unfold free
  have : (List.range m).countP (fun i => !(fun _ => false) i) = (List.range m).length := List.countP_eq_length.2 (fun _ _ => rfl)
  rw [this, List.length_range]
end
end Pk
end Go.Proofs.Ytedppnejkjcplaa
