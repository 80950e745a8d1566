/-
  CONTRACTS: chapter 8's own answers (ref8): Is, Join, turn, File, Of, Node.
-/
import Derived.Test.YtobkddekfcgclaaDoorNmRef
import Derived.RegionTactic
import Derived.Lib.BufferMore
import Derived.Lib.ConvBytes
namespace Go.Proofs.YtobkddekfcgclaaDoor
open Go.RowKit
open Me


theorem OwnS.form {base : Nat} {w : World} {v : Value} {l : List (List UInt8)} (h : OwnS base w v l) (hl : 0 < l.length) : ∃ g c, v = .slice (some ⟨g, 0, none⟩) l.length c := by
  rcases h.2 with ⟨_, h0⟩ | ⟨g', cap, cur, rfl, _⟩
  · omega
  · exact ⟨_, _, rfl⟩
theorem Nm.is_nil : Nm.is [] = false := by decide

theorem catB (a b : List UInt8) : (⟨a.toArray⟩ : ByteArray) ++ ⟨b.toArray⟩ = ⟨(a ++ b).toArray⟩ := by
  apply ByteArray.ext
  rw [ByteArray.data_append]
  simp

/-- A row of bytes that a conversion laid. -/
def Bx (w : World) (b : Nat) (l : List UInt8) : Prop := ∃ cs f g, w.heap[b]? = some (.cells cs 5 (f, g)) ∧ l.length ≤ f ∧ ∀ j (h : j < l.length), cs[j]? = some (.int .u8 (l[j].toNat : Int))
theorem Bx.cell {w : World} {b : Nat} {l : List UInt8} (h : Bx w b l) (j : Nat) (hj : j < l.length) : w.cell? ⟨b, j, none⟩ = some (.int .u8 (l[j].toNat : Int)) := by
  obtain ⟨cs, f, g, h1, _, h3⟩ := h
  rw [cell_of_row w b j cs _ _ h1, h3 j hj]
theorem Bx.frozen {w : World} {b : Nat} {l : List UInt8} (h : Bx w b l) (j : Nat) (hj : j < l.length) : w.frozen? ⟨b, j, none⟩ = false := by
  obtain ⟨cs, f, g, h1, h2, _⟩ := h
  simp only [World.frozen?, h1]
  simp; omega
theorem Bx.lt {w : World} {b : Nat} {l : List UInt8} (h : Bx w b l) : b < w.heap.size := by
  obtain ⟨cs, f, g, h1, _⟩ := h
  exact (Array.getElem?_eq_some_iff.1 h1).1
theorem Bx.set {w : World} {b : Nat} {l : List UInt8} (h : Bx w b l) (k : Nat) (c : UInt8) : Bx (w.setCell ⟨b, k, none⟩ (.int .u8 (c.toNat : Int))) b (l.set k c) := by
  obtain ⟨cs, f, g, h1, h2, h3⟩ := h
  refine ⟨cs.setIfInBounds k (.int .u8 (c.toNat : Int)), f, g, Lib.heap_setCell_same h1 _, by simpa using h2, fun j hj => ?_⟩
  have hj' : j < l.length := by simpa using hj
  rw [Array.getElem?_setIfInBounds, List.getElem_set]
  have hlt : j < cs.size := (Array.getElem?_eq_some_iff.1 (h3 j hj')).1
  by_cases e : k = j
  · subst e; rw [if_pos rfl, if_pos hlt, if_pos rfl]
  · rw [if_neg e, if_neg e, h3 j hj']
theorem conv_bytes (l : List UInt8) (w : World) : ∃ c W', (convert 9 34 (.string ⟨l.toArray⟩)).run Tryd.prog w = .ok (.slice (some ⟨w.heap.size, 0, none⟩) l.length c) W' ∧ Bx W' w.heap.size l ∧ Below w.heap.size w W' := by
  have hs : (⟨l.toArray⟩ : ByteArray).size = l.length := by show l.toArray.size = _; simp
  have h := Lib.run_convert_string_bytes (P := Tryd.prog) w 9 34 5 ⟨l.toArray⟩ Tryd.underlying9 Tryd.underlying34 Tryd.underlying5
  rw [hs] at h
  refine ⟨_, _, h, ⟨_, _, _, Lib.bytesWorld_at_new _ _ _, ?_, fun j hj => ?_⟩, ⟨rfl, rfl, rfl, by rw [Lib.bytesWorld_size]; omega, fun k hk => Lib.bytesWorld_at_old w _ _ k hk⟩⟩
  · unfold Lib.bytesCells; simp
  · unfold Lib.bytesCells
    rw [Array.getElem?_append_left (by simpa using hj)]
    simp [hj]
theorem set_same {α : Type} (l : List α) (k : Nat) (h : k < l.length) : l.set k l[k] = l := by
  apply List.ext_getElem?
  intro j
  rw [List.getElem?_set]
  by_cases e : k = j
  · subst e; rw [if_pos rfl, if_pos h, List.getElem?_eq_getElem h]
  · rw [if_neg e]
theorem Nm.turn_at (a c : UInt8) (s : List UInt8) (k : Nat) (h : k < s.length) : (turn a c (s.take k) ++ s.drop k).set k (if s[k] = a then c else s[k]) = turn a c (s.take (k + 1)) ++ s.drop (k + 1) := by
  unfold turn
  have hl : ((s.take k).map fun b => if b = a then c else b).length = k := by simp; omega
  rw [List.set_append_right _ _ (by omega), hl, Nat.sub_self, List.take_succ_eq_append_getElem h, List.map_append, List.drop_eq_getElem_cons h, List.append_assoc]
  rfl
theorem Nm.turn_get (a c : UInt8) (s : List UInt8) (k : Nat) (h : k < s.length) (h2 : k < (turn a c (s.take k) ++ s.drop k).length) : (turn a c (s.take k) ++ s.drop k)[k] = s[k] := by
  have hl : (turn a c (s.take k)).length = k := by rw [turn_len, List.length_take]; omega
  rw [List.getElem_append_right (by omega), List.getElem_drop]
  congr 1
  omega

/-- What a text ends in, and what stands ahead of it. -/
theorem cutEnd (f : List UInt8) (k : Nat) : (⟨f.toArray⟩ : ByteArray).extract k f.length = ⟨(f.drop k).toArray⟩ := by
  rw [Nm.cutB, List.take_of_length_le (by rw [List.length_drop]; omega)]
theorem cutHead (f : List UInt8) (k : Nat) : (⟨f.toArray⟩ : ByteArray).extract 0 k = ⟨(f.take k).toArray⟩ := by
  rw [Nm.cutB, Nat.sub_zero, List.drop_zero]

theorem Nm.nd_get (s : List UInt8) (k : Nat) (h : k < (pt s).length) : nd s (k : Int) = (pt s)[k] := by rw [nd_at s k h, rest_at s k h]

end Go.Proofs.YtobkddekfcgclaaDoor
