/-
  CONTRACT: the document's own Decode.
-/
import Derived.Test.YthjpodjfiajhaaaWhDecY
import Derived.Test.YthjpodjfiajhaaaWhREnc
namespace Go.Proofs.Ythjpodjfiajhaaa
open Go.RowKit Go.Sort
open Wh (At)
open Me

namespace Wh
def cellsA (l : List (Int × Int)) : List Value := l.flatMap fun a => [.int .i64 a.1, .int .i64 a.2]
theorem cellsA_len (l : List (Int × Int)) : (cellsA l).length = l.length * 2 := by
  induction l with
  | nil => rfl
  | cons v l ih => simp only [cellsA, List.flatMap_cons, List.length_append, List.length_cons, List.length_nil] at *; omega
theorem cellsA_at (l : List (Int × Int)) : ∀ i, i < l.length → (cellsA l)[i * 2]? = some (.int .i64 (At l i).1) ∧ (cellsA l)[i * 2 + 1]? = some (.int .i64 (At l i).2) := by
  induction l with
  | nil => intro i h; cases h
  | cons v l ih =>
    intro i h
    cases i with
    | zero => exact ⟨rfl, rfl⟩
    | succ i =>
      obtain ⟨e1, e2⟩ := ih i (by simpa using h)
      have e : (i + 1) * 2 = i * 2 + 1 + 1 := by omega
      rw [e]
      exact ⟨e1, e2⟩
theorem archs_succ (L : List UInt8) (j : Nat) : archs L (j + 1) = archs L j ++ [(nm L (16 + 12 * j + 4), nm L (16 + 12 * j + 8))] := by
  unfold archs
  rw [List.range_succ, List.map_append]
  rfl
theorem dok_none {L : List UInt8} (h : nm L 12 < 1) : dok L = false := by
  refine dok_v (val_head (.inr (.inr (.inr (.inr (av_nil ?_))))))
  unfold cand
  rw [archs_len]
  omega
end Wh

def OwnAr (base : Nat) (w : World) (v : Value) (l : List (Int × Int)) : Prop := w.ownsRow base 41 2 v l.length (Wh.cellsA l)
theorem OwnAr.lt {base : Nat} {w : World} {v : Value} {l : List (Int × Int)} (h : OwnAr base w v l) : ∀ g, v.ownBlock = some g → base ≤ g ∧ g < w.heap.size := by
  intro g hg
  rcases h.2 with ⟨rfl, _⟩ | ⟨g', cap, cur, rfl, hb, hh, _⟩
  · cases hg
  · have : g' = g := by simpa [Value.ownBlock] using hg
    subst this
    exact ⟨hb, (Array.getElem?_eq_some_iff.1 hh).1⟩
theorem OwnAr.keep {base : Nat} {w w' : World} {v : Value} {l : List (Int × Int)} (h : OwnAr base w v l) (hk : ∀ g, base ≤ g → g < w.heap.size → w'.heap[g]? = w.heap[g]?) : OwnAr base w' v l :=
  owns_keep h fun g hg => hk g (h.lt g hg).1 (h.lt g hg).2
theorem OwnAr.row {base : Nat} {w : World} {v : Value} {l : List (Int × Int)} (h : OwnAr base w v l) : ∃ A c, v = .slice A l.length c ∧ Row w A l c := by
  obtain ⟨hlen, ⟨rfl, h0⟩ | ⟨g, cap, cur, rfl, hb, hg, hle, hm, hs, hx⟩⟩ := h
  · exact ⟨none, 0, by rw [h0], by omega, fun h => by omega⟩
  · refine ⟨some ⟨g, 0, none⟩, cap, rfl, hle, fun h0 => ⟨g, 0, rfl, (Array.getElem?_eq_some_iff.1 hg).1, fun i hi => ?_, fun i hi => ?_⟩⟩
    · rw [Nat.zero_add, ← (Wh.cellsA_at l i hi).1, ← hx, List.getElem?_take, if_pos (by omega)]
      simp [World.cell?, hg]
    · rw [Nat.zero_add, ← (Wh.cellsA_at l i hi).2, ← hx, List.getElem?_take, if_pos (by omega)]
      simp [World.cell?, hg]

/-- What holds of the blocks while the document reads: the result's block, the header's (w.heap.size + 1), the archives' own row. -/
structure RfMade (w wr : World) (L : List UInt8) (j : Nat) (v : Value) : Prop where
  sz : w.heap.size + 2 ≤ wr.heap.size
  bel : Below w.heap.size w wr
  rr : RowAt wr w.heap.size 25 #[.int .i64 0, .int .i64 0, .slice none 0 0]
  rh : RowAt wr (w.heap.size + 1) 25 #[.int .i64 (Wh.nm L 0), .int .i64 (Wh.nm L 8), v]
  own : OwnAr (w.heap.size + 2) wr v (Wh.archs L j)

theorem RfMade.step {w wr w4 : World} {L : List UInt8} {j n : Nat} {v v4 : Value} (hM : RfMade w wr L j v)
    (hg : ((wr.drewN n).alloc (.cells #[.int .i64 (Wh.nm L (16 + 12 * j + 4)), .int .i64 (Wh.nm L (16 + 12 * j + 8))] 41)).grownBy w4 v.ownBlock)
    (ho : w4.ownsRow (w.heap.size + 2) 41 2 v4 ((Wh.archs L j).length + 1) (Wh.cellsA (Wh.archs L j) ++ [.int .i64 (Wh.nm L (16 + 12 * j + 4)), .int .i64 (Wh.nm L (16 + 12 * j + 8))])) :
    w4.cell? ⟨w.heap.size + 1, 2, none⟩ = some v ∧ w4.frozen? ⟨w.heap.size + 1, 2, none⟩ = false ∧ RfMade w (w4.setCell ⟨w.heap.size + 1, 2, none⟩ v4) L (j + 1) v4 := by
  obtain ⟨sz, bel, rr, rh, own⟩ := hM
  have hlt := own.lt
  have hs4 : wr.heap.size + 1 ≤ w4.heap.size := by have := hg.size; simpa using this
  have key : ∀ i, i < w.heap.size + 2 → w4.heap[i]? = wr.heap[i]? := fun i hi => by
    have h1 := hg.block i (by simp; omega) (fun e => by have := (hlt i e.symm).1; omega)
    rw [h1]
    exact Below.heap_alloc (wr.drewN n) _ i (by show i < wr.heap.size; omega)
  have rr4 : RowAt w4 w.heap.size 25 #[.int .i64 0, .int .i64 0, .slice none 0 0] := (key _ (by omega)).trans rr
  have rh4 : RowAt w4 (w.heap.size + 1) 25 #[.int .i64 (Wh.nm L 0), .int .i64 (Wh.nm L 8), v] := (key _ (by omega)).trans rh
  refine ⟨rh4.cell 2, rh4.frozen 2, by simpa [World.setCell] using (by omega : w.heap.size + 2 ≤ w4.heap.size), ?_, rr4.far (by show w.heap.size ≠ w.heap.size + 1; omega) _, ?_, ?_⟩
  · have b1 : Below w.heap.size w w4 := ((bel_drewN bel n).alloc (by show _ ≤ wr.heap.size; omega) _).grown hg (by simp; omega) (fun g e => by have := (hlt g e).1; omega)
    exact b1.setCell (by show _ ≤ w.heap.size + 1; omega) _
  · have := rh4.set_ 2 v4
    simpa using this
  · rw [Wh.archs_succ]
    have ho' : OwnAr (w.heap.size + 2) w4 v4 (Wh.archs L j ++ [(Wh.nm L (16 + 12 * j + 4), Wh.nm L (16 + 12 * j + 8))]) := by
      unfold OwnAr
      rw [List.length_append]
      unfold Wh.cellsA at ho ⊢
      rw [List.flatMap_append]
      exact ho
    exact ho'.keep fun g hg1 _ => Below.heap_setCell _ ⟨w.heap.size + 1, 2, none⟩ v4 g (by show g ≠ w.heap.size + 1; omega)

set_option maxHeartbeats 1000000 in
theorem rdecode_short (A : Option Addr) (L : List UInt8) (cap : Nat) (w : World) (hn : L.length < 16) :
    Calls Try.prog 5 #[.slice A L.length cap] w (Decoded w L) := by
  have HD : Hid (Wh.dok L = false) := Lib.hid (Wh.dok_r (by unfold Wh.rok; rw [decide_eq_false (by omega : ¬ 16 ≤ L.length), Bool.false_and, Bool.false_and]))
  generalize hl : L.length = n at *
  have HL := Lib.hid hl
  clear hl
  go_enter Try.func5, Try.ntmps5
  go_wp2_with fail
  refine bodyPost_ret (v := .tuple #[.agg #[.int .i64 0, .int .i64 0, .slice none 0 0], .int .i64 2]) ?_ rfl (Decoded.no HD.out rfl ?_)
  · simp [results, Try.results5, go_sem]
  · exact (by repeat (first | exact Below.refl _ _ | assumption | refine Below.setCell ?_ (by first | (simp; done) | omega | (simp; omega) | (simp at *; omega)) _ | refine Below.alloc ?_ (by first | (simp; done) | omega | (simp; omega) | (simp at *; omega)) _ | refine Below.drew ?_ | (refine Below.trans ?_ (Below.mono (by assumption) (by first | (simp; done) | omega | (simp; omega) | (simp at *; omega)))) | (refine Below.trans ?_ (Below.mono (below_regrown _ _ _) (by first | (simp; done) | omega | (simp; omega) | (simp at *; omega))))))
end Go.Proofs.Ythjpodjfiajhaaa
