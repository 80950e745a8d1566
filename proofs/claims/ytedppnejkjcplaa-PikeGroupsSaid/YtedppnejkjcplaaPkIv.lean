/-
  INTS THAT COME IN (chapter 12), AS DATA: a slice of ints, nil ones too, is a list.
-/
import Derived.Test.YtedppnejkjcplaaPkMem
import Derived.Deep.Slices
import Derived.ProofKit
import Derived.OpenShut
import Derived.ChangeOld
import Derived.Lib.SmallJoins
import Derived.ChangeArms
namespace Go.Proofs.Ytedppnejkjcplaa
open Go.RowKit Go.Sort
open Me
set_option maxRecDepth 100000
open Pk (iv iv_len iv_get)
namespace IvOpen
open Go.ChangeShapes Go.WideShapes Go.ChangeAt Go.RowKit Go.Deep Go.Joins
theorem ints {H : Type} {enc : TypeId × Value → H} {w : World} {base : Nat} {spare : Nat → Bool} {held : Bool} {fuel : Nat} {x : Option Addr} {len cap : Nat} {y : DataW H × List MemPlace}
    (h : DataW.trod enc Try.prog w base spare held fuel 28 [.slice x len cap] = some y) :
    ∃ l : List Int, len = l.length ∧ Rd w (fun _ => True) x (iv l) ∧ ∀ n ∈ l, -9223372036854775808 ≤ n ∧ n ≤ 9223372036854775807 := by
  rcases Go.ChangeShapes.open_ints Try.underlying28 Try.underlying3 (by kernel_rfl) h with ⟨hcs, _⟩ | ⟨a, len', cap', zs, hcs, hb, hl, hm, hzl, _, hc, hwf⟩
  · simp at hcs
    obtain ⟨rfl, rfl, rfl⟩ := hcs
    exact ⟨[], rfl, Rd.none_ _ _ _, fun n hn => absurd hn (by simp)⟩
  · simp at hcs
    obtain ⟨rfl, rfl, rfl⟩ := hcs
    have hle : len ≤ zs.length := by rw [hzl]; split <;> omega
    have hll : (zs.take len).length = len := by rw [List.length_take]; omega
    refine ⟨zs.take len, hll.symm, fun hn => ?_, fun n hn => ?_⟩
    · have key : ∀ j u, (iv (zs.take len))[j]? = some u → w.cell? (a.add j) = some u := by
        intro j u hu
        have hj : j < len := by
          have := (List.getElem?_eq_some_iff.1 hu).1
          rw [iv_len, hll] at this
          exact this
        rw [iv_get _ j (by rw [hll]; exact hj)] at hu
        rw [hc j (by omega), ← hu, List.getElem_take]
        simp [show j < zs.length by omega]
      refine ⟨a, rfl, ?_, trivial, key⟩
      have h0 : 0 < len := by
        rcases Nat.eq_zero_or_pos len with e | e
        · exfalso; apply hn; subst e; rfl
        · exact e
      have := World.block_lt_of_cell? w _ (hc 0 (by omega))
      rwa [Me.block_add] at this
    · have := hwf n (List.mem_of_mem_take hn)
      simpa [Lit.wf, IntKind.min, IntKind.max, IntKind.signed, IntKind.bits] using this
theorem intsV {H : Type} {enc : TypeId × Value → H} {w : World} {base : Nat} {spare : Nat → Bool} {held : Bool} {v : Value} {d : DataW H} {p : List MemPlace} {r : Reach} {b0 : Nat}
    (hv : Value.okWide Try.prog w r b0 28 v) (h : DataW.Trod enc Try.prog w base spare held 28 v d p) : ∃ A c l, v = .slice A (List.length l) c ∧ Rd w (fun _ => True) A (iv l) ∧ ∀ n ∈ l, -9223372036854775808 ≤ n ∧ n ≤ 9223372036854775807 := by
  obtain ⟨a0, len0, cap0, rfl⟩ := okWide_slice Try.underlying28 hv
  obtain ⟨fuel, hf⟩ := h
  obtain ⟨l, e, hs⟩ := ints (by simpa [Value.cells] using hf)
  exact ⟨a0, cap0, l, by rw [e], hs⟩
end IvOpen
end Go.Proofs.Ytedppnejkjcplaa
