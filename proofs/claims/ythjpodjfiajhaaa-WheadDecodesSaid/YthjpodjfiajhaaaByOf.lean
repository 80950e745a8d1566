/-
  BYTES THAT LIE AT AN ADDRESS: out of a row that is read; parts of them. For every seat.
-/
import Derived.Test.YthjpodjfiajhaaaOwnB
namespace Go.Proofs.Ythjpodjfiajhaaa
open Go.RowKit Go.Sort
open Me

theorem By.of {w : World} {G : Nat → Prop} {A : Option Addr} {l : List UInt8} (h : Rd w G A (by8 l)) (hl : 0 < l.length) : ∃ b off, A = some ⟨b, off, none⟩ ∧ By w b off l := by
  obtain ⟨b, off, e, h1, _, h3⟩ := Rd.lit h 0 (by rw [by8_len]; exact hl)
  refine ⟨b, off, e, h1, fun j hj => ?_⟩
  have : Wh.byt l j = l[j].toNat := by unfold Wh.byt; rw [List.getD_eq_getElem?_getD, List.getElem?_eq_getElem hj]; rfl
  rw [this]
  exact h3 j _ (by8_get l j hj)
theorem By.take {w : World} {b off : Nat} {l : List UInt8} (h : By w b off l) (n : Nat) (_ : n ≤ l.length) : By w b off (l.take n) :=
  ⟨h.lt, fun j hj => by
    rw [List.length_take] at hj
    have : Wh.byt (l.take n) j = Wh.byt l j := by unfold Wh.byt; rw [List.getD_eq_getElem?_getD, List.getD_eq_getElem?_getD, List.getElem?_take, if_pos (by omega)]
    rw [this]; exact h.at_ j (by omega)⟩
theorem By.drop {w : World} {b off : Nat} {l : List UInt8} (h : By w b off l) (n : Nat) : By w b (off + n) (l.drop n) :=
  ⟨h.lt, fun j hj => by
    rw [List.length_drop] at hj
    have : Wh.byt (l.drop n) j = Wh.byt l (n + j) := by unfold Wh.byt; rw [List.getD_eq_getElem?_getD, List.getD_eq_getElem?_getD, List.getElem?_drop]
    rw [this, Nat.add_assoc]; exact h.at_ (n + j) (by omega)⟩
end Go.Proofs.Ythjpodjfiajhaaa
