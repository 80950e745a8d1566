/-
  VALUES THAT COME IN, AS DATA: a slice of Vals, nil ones too, is a list.
-/
import Derived.Test.YtjaclmhfagdfhaaAgRow
import Derived.Deep.Slices
import Derived.ProofKit
import Derived.OpenShut
import Derived.ChangeOld
import Derived.Lib.SmallJoins
import Derived.ChangeArms
namespace Go.Proofs.Ytjaclmhfagdfhaa
open Go.RowKit Go.Sort
open Fx (Vl)
open Me

namespace OpV
open Go.ChangeShapes Go.WideShapes Go.ChangeAt Go.RowKit Go.Deep Go.Joins
theorem opened {H : Type} {enc : TypeId × Value → H} {w : World} {base : Nat} {spare : Nat → Bool} {held : Bool} {fuel : Nat} {x : Option Addr} {len cap : Nat} {y : DataW H × List MemPlace}
    (h : DataW.trod enc Try.prog w base spare held fuel 22 [.slice x len cap] = some y) :
    (x = none ∧ len = 0 ∧ cap = 0) ∨ (∃ a : Addr, x = some a ∧ ∀ i, i < len → ∃ (ok : Bool) (n : Int), w.cell? (a.add (i * 2)) = some (.bool ok) ∧ w.cell? (a.add (i * 2 + 1)) = some (.int .i64 n)) := by
  rcases open_slice Try.underlying22 h with ⟨hcs, _⟩ | ⟨a, len', cap', m, n, D, Pl, hcs, _, hl, _, hm, _, hi⟩
  · simp at hcs
    exact .inl ⟨hcs.1, hcs.2.1, hcs.2.2⟩
  · simp at hcs
    obtain ⟨rfl, rfl, rfl⟩ := hcs
    refine .inr ⟨a, rfl, fun i hil => ?_⟩
    have him : i < m := by rw [hm]; split <;> omega
    obtain ⟨cs', h1, h2⟩ := hi i him
    have hC : Try.prog.cellsOf 24 = 2 := by kernel_rfl
    rw [hC] at h1
    obtain ⟨_, hlen, hat⟩ := World.cells?_some h1
    match cs', hlen with
    | [c0, c1], _ =>
      obtain ⟨xs, n', _, _, _, _, hf⟩ := DataW.trod_struct Try.underlying24 h2
      have g0 := hf 0 _ rfl
      have g1 := hf 1 _ rfl
      have hb : Try.prog.cellsOf 4 = 1 := by kernel_rfl
      have hn : Try.prog.cellsOf 3 = 1 := by kernel_rfl
      have hx2 : xs.length = 2 := by assumption
      have g0' : DataW.trod enc Try.prog w base spare held n' 4 [c0] = some (xs[0]'(by omega)) := by
        have e : xs[0]? = some (xs[0]'(by omega)) := List.getElem?_eq_getElem (by omega)
        rw [← e, ← g0]
        show _ = DataW.trod enc Try.prog w base spare held n' 4 (List.take (Try.prog.cellsOf 4) (List.drop 0 [c0, c1]))
        rw [hb]
        rfl
      have g1' : DataW.trod enc Try.prog w base spare held n' 3 [c1] = some (xs[1]'(by omega)) := by
        have e : xs[1]? = some (xs[1]'(by omega)) := List.getElem?_eq_getElem (by omega)
        rw [← e, ← g1]
        show _ = DataW.trod enc Try.prog w base spare held n' 3 (List.take (Try.prog.cellsOf 3) (List.drop 1 [c0, c1]))
        rw [hn]
        rfl
      obtain ⟨ok, e0, _⟩ := DataW.trod_bool Try.underlying4 g0'
      obtain ⟨v, e1, _, _⟩ := DataW.trod_int Try.underlying3 g1'
      simp at e0 e1
      subst e0 e1
      refine ⟨ok, v, ?_, ?_⟩
      · have := hat 0 (by omega)
        simpa [Addr.add] using this
      · have := hat 1 (by omega)
        rw [Go.Deep.add_add] at this
        simpa using this

theorem valsV {H : Type} {enc : TypeId × Value → H} {w : World} {base : Nat} {spare : Nat → Bool} {held : Bool} {v : Value} {d : DataW H} {p : List MemPlace} {r : Reach} {b0 : Nat}
    (hv : Value.okWide Try.prog w r b0 22 v) (h : DataW.Trod enc Try.prog w base spare held 22 v d p) : ∃ A c l, v = .slice A (List.length l) c ∧ Sl w v l := by
  obtain ⟨a0, len0, cap0, rfl⟩ := okWide_slice Try.underlying22 hv
  obtain ⟨fuel, hf⟩ := h
  obtain ⟨l, e, hs⟩ := sl_in a0 len0 cap0 w (opened (by simpa [Value.cells] using hf))
  exact ⟨a0, cap0, l, by rw [e], hs⟩
end OpV
end Go.Proofs.Ytjaclmhfagdfhaa
