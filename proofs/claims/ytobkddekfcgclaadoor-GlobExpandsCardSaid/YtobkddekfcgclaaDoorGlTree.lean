/-
  MEMORY: rows of alternatives in memory (chapter 9), each with what it means; what stands of them when the world goes on.
-/
import Derived.Test.YtobkddekfcgclaaDoorGlGr
import Derived.Test.YtobkddekfcgclaaDoorOwnB
namespace Go.Proofs.YtobkddekfcgclaaDoor
open Go.RowKit
open Me

namespace Gl
def lim (n : Nat) : Nat := min n 513
theorem lim_le (n : Nat) : lim n ≤ 513 := Nat.min_le_right _ _
theorem lim_mul (a b : Nat) : lim (lim a * lim b) = lim (a * b) := by
  have key : ∀ x y : Nat, min (min x 513 * y) 513 = min (x * y) 513 := by
    intro x y
    by_cases hx : x ≤ 513
    · rw [Nat.min_eq_left hx]
    · have e : min x 513 = 513 := Nat.min_eq_right (by omega)
      rw [e]
      rcases Nat.eq_zero_or_pos y with rfl | h0
      · rfl
      · have h1 : 513 ≤ 513 * y := Nat.le_mul_of_pos_right _ h0
        have h2 : x ≤ x * y := Nat.le_mul_of_pos_right _ h0
        omega
  unfold lim
  rw [key, Nat.mul_comm, key, Nat.mul_comm]
theorem lim_add (a b : Nat) : lim (lim a + lim b) = lim (a + b) := by unfold lim; omega
theorem lim_id {n : Nat} (h : n ≤ 512) : lim n = n := by unfold lim; omega
theorem lim_gt {n : Nat} (h : 512 < n) : lim n = 513 := by unfold lim; omega

/-- A piece as data, with what it means; a row likewise. -/
structure Pi where
  b : List UInt8
  rs : Value
  k : Nat
  M : List (List UInt8)
structure Ro where
  ps : Value
  k : Nat
  L : List (List UInt8)
def cellP (p : Pi) : List Value := [.string ⟨p.b.toArray⟩, p.rs, .int .i64 p.k]
def cellR (r : Ro) : List Value := [r.ps, .int .i64 r.k]
def cellsP (l : List Pi) : List Value := l.flatMap cellP
def cellsR (l : List Ro) : List Value := l.flatMap cellR
theorem cellsP_len (l : List Pi) : (cellsP l).length = l.length * 3 := by
  induction l with
  | nil => rfl
  | cons p l ih => show (cellP p ++ cellsP l).length = _; rw [List.length_append, ih, List.length_cons]; show 3 + _ = _; omega
theorem cellsR_len (l : List Ro) : (cellsR l).length = l.length * 2 := by
  induction l with
  | nil => rfl
  | cons p l ih => show (cellR p ++ cellsR l).length = _; rw [List.length_append, ih, List.length_cons]; show 2 + _ = _; omega
theorem cellsP_append (l m : List Pi) : cellsP (l ++ m) = cellsP l ++ cellsP m := by unfold cellsP; rw [List.flatMap_append]
theorem cellsR_append (l m : List Ro) : cellsR (l ++ m) = cellsR l ++ cellsR m := by unfold cellsR; rw [List.flatMap_append]
theorem cellsP_get (l : List Pi) (i : Nat) (h : i < l.length) : (cellsP l)[i * 3]? = some (.string ⟨l[i].b.toArray⟩) ∧ (cellsP l)[i * 3 + 1]? = some l[i].rs ∧ (cellsP l)[i * 3 + 2]? = some (.int .i64 l[i].k) := by
  induction l generalizing i with
  | nil => cases h
  | cons p l ih =>
    cases i with
    | zero => exact ⟨rfl, rfl, rfl⟩
    | succ i =>
      have := ih i (by simpa using h)
      refine ⟨?_, ?_, ?_⟩
      · rw [show (i + 1) * 3 = i * 3 + 3 by omega]; exact this.1
      · rw [show (i + 1) * 3 + 1 = i * 3 + 1 + 3 by omega]; exact this.2.1
      · rw [show (i + 1) * 3 + 2 = i * 3 + 2 + 3 by omega]; exact this.2.2
theorem cellsR_get (l : List Ro) (i : Nat) (h : i < l.length) : (cellsR l)[i * 2]? = some l[i].ps ∧ (cellsR l)[i * 2 + 1]? = some (.int .i64 l[i].k) := by
  induction l generalizing i with
  | nil => cases h
  | cons p l ih =>
    cases i with
    | zero => exact ⟨rfl, rfl⟩
    | succ i =>
      have := ih i (by simpa using h)
      refine ⟨?_, ?_⟩
      · rw [show (i + 1) * 2 = i * 2 + 2 by omega]; exact this.1
      · rw [show (i + 1) * 2 + 1 = i * 2 + 1 + 2 by omega]; exact this.2

/-- A piece whose rows, if it has any, are such. -/
def PieceOk (RM : Ro → Prop) (w : World) (G : Nat → Prop) (p : Pi) : Prop :=
  p.k = lim p.M.length ∧ 0 < p.M.length ∧ ((p.rs = .slice none 0 0 ∧ p.M = [p.b]) ∨
    ∃ (rows : List Ro) (A : Option Addr) (c : Nat), p.b = [] ∧ p.rs = .slice A rows.length c ∧ Rd w G A (cellsR rows) ∧ rows.length ≤ 4294967296 ∧ p.M = (rows.map Ro.L).flatten ∧ ∀ r ∈ rows, RM r)
/-- A row of such pieces, so deep. -/
def RowM (w : World) (G : Nat → Prop) : Nat → Ro → Prop
  | 0, _ => False
  | n + 1, r => r.k = lim r.L.length ∧ 0 < r.L.length ∧ ∃ (pcs : List Pi) (A : Option Addr) (c : Nat), r.ps = .slice A pcs.length c ∧ Rd w G A (cellsP pcs) ∧ pcs.length ≤ 8589934592 ∧ r.L = prod (pcs.map Pi.M) ∧ ∀ p ∈ pcs, PieceOk (RowM w G n) w G p
def PieceM (w : World) (G : Nat → Prop) (n : Nat) (p : Pi) : Prop := PieceOk (RowM w G n) w G p
theorem PieceOk.mono {RM RM' : Ro → Prop} {w w' : World} {G G' : Nat → Prop} {p : Pi} (h : PieceOk RM w G p) (hr : ∀ r, RM r → RM' r) (hw : ∀ A xs, Rd w G A xs → Rd w' G' A xs) : PieceOk RM' w' G' p := by
  obtain ⟨h1, h0, h2⟩ := h
  refine ⟨h1, h0, ?_⟩
  rcases h2 with h2 | ⟨rows, A, c, h2, h3, h4, h5, h6, h7⟩
  · exact .inl h2
  · exact .inr ⟨rows, A, c, h2, h3, hw _ _ h4, h5, h6, fun r hr' => hr r (h7 r hr')⟩
theorem RowM.more {w w' : World} {G G' : Nat → Prop} (hw : ∀ A xs, Rd w G A xs → Rd w' G' A xs) {n m : Nat} (hm : n ≤ m) {r : Ro} (h : RowM w G n r) : RowM w' G' m r := by
  induction n generalizing m r with
  | zero => exact h.elim
  | succ n ih =>
    cases m with
    | zero => omega
    | succ m =>
      obtain ⟨h1, h0, pcs, A, c, h2, h3, h4, h5, h6⟩ := h
      exact ⟨h1, h0, pcs, A, c, h2, hw _ _ h3, h4, h5, fun p hp => (h6 p hp).mono (fun r hr => ih (by omega) hr) hw⟩
theorem PieceM.more {w w' : World} {G G' : Nat → Prop} (hw : ∀ A xs, Rd w G A xs → Rd w' G' A xs) {n m : Nat} (hm : n ≤ m) {p : Pi} (h : PieceM w G n p) : PieceM w' G' m p :=
  PieceOk.mono h (fun _ hr => hr.more hw hm) hw
theorem PieceM.text (w : World) (G : Nat → Prop) (n : Nat) (b : List UInt8) : PieceM w G n ⟨b, .slice none 0 0, 1, [b]⟩ := ⟨rfl, Nat.zero_lt_one, .inl ⟨rfl, rfl⟩⟩
theorem RowM.lim {w : World} {G : Nat → Prop} {n : Nat} {r : Ro} (h : RowM w G n r) : r.k = Gl.lim r.L.length ∧ 0 < r.L.length := by
  cases n with
  | zero => exact h.elim
  | succ n => exact ⟨h.1, h.2.1⟩
end Gl
end Go.Proofs.YtobkddekfcgclaaDoor
