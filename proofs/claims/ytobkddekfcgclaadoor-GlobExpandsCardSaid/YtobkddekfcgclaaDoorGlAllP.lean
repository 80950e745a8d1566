/-
  PLAIN: chapter 9: what the document's own Expand gathers.
-/
import Derived.Test.YtobkddekfcgclaaDoorGlEnds
namespace Go.Proofs.YtobkddekfcgclaaDoor
open Go.RowKit
open Me

namespace Gl
def acc (p : List UInt8) (F R : List (List UInt8)) : List (List UInt8) := comb [p] (comb F R)
theorem acc_nil (p : List UInt8) (R : List (List UInt8)) : acc p [] R = [] := rfl
theorem acc_len (p : List UInt8) (F R : List (List UInt8)) : (acc p F R).length = F.length * R.length := by
  unfold acc; rw [comb_len, comb_len]; simp
theorem acc_append (p : List UInt8) (F M R : List (List UInt8)) : acc p (F ++ M) R = acc p F R ++ acc p M R := by
  unfold acc; rw [comb_append, comb_pre, comb_pre, comb_pre, List.map_append]
theorem acc_one (p x : List UInt8) (R : List (List UInt8)) : acc p [x] R = R.map fun b => p ++ x ++ b := by
  unfold acc; rw [comb_pre, comb_pre, List.map_map]; congr 1; funext b; simp
theorem acc_take (p : List UInt8) (M R : List (List UInt8)) (j : Nat) (h : j < M.length) : acc p (M.take (j + 1)) R = acc p (M.take j) R ++ R.map fun b => p ++ M[j] ++ b := by
  rw [List.take_succ_eq_append_getElem h, acc_append, acc_one]
theorem map_take (f : List UInt8 → List UInt8) (R : List (List UInt8)) (h : Nat) (hh : h < R.length) : (R.take (h + 1)).map f = (R.take h).map f ++ [f R[h]] := by
  rw [List.take_succ_eq_append_getElem hh, List.map_append]; rfl
def flat (ps : List (List UInt8 × List (List UInt8))) (k : Nat) : List (List UInt8) := ((ps.take k).map (·.2)).flatten
theorem flat_succ (ps : List (List UInt8 × List (List UInt8))) (k : Nat) (h : k < ps.length) : flat ps (k + 1) = flat ps k ++ ps[k].2 := by
  unfold flat
  rw [List.take_succ_eq_append_getElem h, List.map_append, List.flatten_append]
  congr 1
  simp
theorem flat_all (ps : List (List UInt8 × List (List UInt8))) : flat ps ps.length = (ps.map (·.2)).flatten := by unfold flat; rw [List.take_length]
theorem flat_le (ps : List (List UInt8 × List (List UInt8))) (k : Nat) : (flat ps k).length ≤ ((ps.map (·.2)).flatten).length := by
  have : (ps.map (·.2)).flatten = flat ps k ++ ((ps.drop k).map (·.2)).flatten := by
    unfold flat
    rw [← List.flatten_append, ← List.map_append, List.take_append_drop]
  rw [this, List.length_append]; omega
theorem eF_len : ∀ (l : List UInt8) (n : Nat) (cur : List UInt8) (e : Nat) (t : List (List UInt8)), eF n cur l = some (e, t) → t.length ≤ l.length := by
  intro l
  induction l with
  | nil => intro n cur e t h; rw [eF] at h; cases h
  | cons b r ih =>
    intro n cur e t h
    rw [eF] at h
    by_cases h1 : b = 123
    · rw [if_pos h1] at h
      obtain ⟨e', h, _⟩ := map_some h
      exact Nat.le_succ_of_le (ih _ _ _ _ h)
    rw [if_neg h1] at h
    by_cases h2 : b = 125
    · rw [if_pos h2] at h
      by_cases h3 : n = 1
      · rw [if_pos h3] at h
        cases h
        simp
      · rw [if_neg h3] at h
        obtain ⟨e', h, _⟩ := map_some h
        exact Nat.le_succ_of_le (ih _ _ _ _ h)
    rw [if_neg h2] at h
    by_cases h3 : b = 44 ∧ n = 1
    · rw [if_pos h3] at h
      cases ho : eF n [] r with
      | none => rw [ho] at h; cases h
      | some x =>
        rw [ho] at h
        cases h
        exact Nat.succ_le_succ (ih _ _ _ _ ho)
    · rw [if_neg h3] at h
      obtain ⟨e', h, _⟩ := map_some h
      exact Nat.le_succ_of_le (ih _ _ _ _ h)
/-- What it hands back. -/
def GaveA (w : World) (L : List (List UInt8)) (e : Ending) (w' : World) : Prop :=
  ∃ v, e = .returned (.tuple #[v, .bool (decide (L.length ≤ 512))]) ∧ OwnS w.heap.size w' v (if L.length ≤ 512 then L else []) ∧ Below w.heap.size w w'
theorem GaveA.no {w w' : World} {L : List (List UInt8)} (hb : Below w.heap.size w w') (h : 512 < L.length) : GaveA w L (.returned (.tuple #[.slice none 0 0, .bool false])) w' :=
  ⟨_, by rw [decide_eq_false (by omega)], by rw [if_neg (by omega)]; exact OwnS.nil _ _, hb⟩
theorem GaveA.yes {w w' : World} {L : List (List UInt8)} {v : Value} (hb : Below w.heap.size w w') (h : L.length ≤ 512) (ho : OwnS w.heap.size w' v L) : GaveA w L (.returned (.tuple #[v, .bool true])) w' :=
  ⟨v, by rw [decide_eq_true h], by rw [if_pos h]; exact ho, hb⟩
theorem _root_.Go.Proofs.YtobkddekfcgclaaDoor.OwnS.less {a b : Nat} {w : World} {v : Value} {l : List (List UInt8)} (h : OwnS a w v l) (hb : b ≤ a) : OwnS b w v l := ⟨h.1, h.2.imp id fun ⟨g, cap, cur, h1, h2, h3⟩ => ⟨g, cap, cur, h1, Nat.le_trans hb h2, h3⟩⟩
/-- The gathering: its row, and a row that it reads from. -/
structure Gath (w2 : World) (n0 n1 : Nat) (Am : Option Addr) (M : List (List UInt8)) (wz : World) (u : Value) (D : List (List UInt8)) : Prop where
  own : OwnS w2.heap.size wz u D
  bel : Below w2.heap.size w2 wz
  far : ∀ b, u.ownBlock = some b → b < n0 ∨ n1 ≤ b
  size : n1 ≤ wz.heap.size
  rd : Rd wz (fun b => n0 ≤ b ∧ b < n1) Am (byS M)
theorem Gath.push {w2 : World} {n0 n1 : Nat} {Am : Option Addr} {M : List (List UInt8)} {wz wy w' : World} {u u2 : Value} {D : List (List UInt8)} {seg : List UInt8} (h : Gath w2 n0 n1 Am M wz u D)
    (hy : Below wz.heap.size wz wy)
    (hown : w'.ownsRow w2.heap.size 9 1 u2 (D.length + 1) (byS D ++ [.string ⟨seg.toArray⟩])) (hg : wy.grownBy w' u.ownBlock) (hat : u2.ownBlock = u.ownBlock ∨ u2.ownBlock = some wy.heap.size) : Gath w2 n0 n1 Am M w' u2 (D ++ [seg]) := by
  have hs := hy.size
  have hgs := hg.size
  have h2 := h.bel.size
  refine ⟨OwnS.more hown, (h.bel.trans (hy.mono h2)).grown hg (by omega) fun g e => (World.ownsRow.lt h.own g e).1, ?_, by have := h.size; omega, ?_⟩
  · intro b hb
    rcases hat with e | e
    · exact h.far b (by rw [← e]; exact hb)
    · rw [e] at hb
      cases hb
      exact .inr (by have := h.size; omega)
  · refine h.rd.keep (by omega) fun i hi hG => ?_
    have hi2 : i < wy.heap.size := by omega
    rw [hg.block i hi2 (fun e => by
      rcases h.far i e.symm with h3 | h3 <;> omega)]
    exact hy.block i hi
theorem Gath.drew {w2 : World} {n0 n1 : Nat} {Am : Option Addr} {M : List (List UInt8)} {wz : World} {u : Value} {D : List (List UInt8)} (h : Gath w2 n0 n1 Am M wz u D) : Gath w2 n0 n1 Am M wz.drew u D :=
  ⟨h.own.below ((Below.refl _ _).drew), h.bel.drew, h.far, h.size, h.rd.below ((Below.refl _ _).drew)⟩
end Gl
end Go.Proofs.YtobkddekfcgclaaDoor
