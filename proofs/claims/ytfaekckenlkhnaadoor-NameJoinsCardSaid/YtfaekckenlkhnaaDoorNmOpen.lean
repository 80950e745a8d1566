/-
  TEXTS THAT COME IN, AS DATA: a slice of texts, nil ones too, is a list.
-/
import Derived.Test.YtfaekckenlkhnaaDoorNmFn
import Derived.SliceStrings
import Derived.Deep.Slices
import Derived.ProofKit
import Derived.OpenShut
import Derived.ChangeOld
import Derived.Lib.SmallJoins
import Derived.ChangeArms
namespace Go.Proofs.YtfaekckenlkhnaaDoor
open Go.RowKit Go.Sort
open Me
namespace NmOpen
open Go.ChangeShapes Go.WideShapes Go.ChangeAt Go.RowKit Go.Deep Go.Joins
theorem texts {H : Type} {enc : TypeId × Value → H} {w : World} {base : Nat} {spare : Nat → Bool} {held : Bool} {fuel : Nat} {x : Option Addr} {len cap : Nat} {y : DataW H × List MemPlace}
    (h : DataW.trod enc Tryd.prog w base spare held fuel 22 [.slice x len cap] = some y) :
    ∃ l : List (List UInt8), len = l.length ∧ Rd w (fun _ => True) x (byS l) := by
  rcases open_strings Tryd.underlying22 Tryd.underlying9 (by kernel_rfl) h with ⟨hcs, _⟩ | ⟨a, len', cap', ss, hcs, _, hl, _, hlen, _, hat, _⟩
  · simp at hcs
    obtain ⟨rfl, rfl, rfl⟩ := hcs
    exact ⟨[], rfl, Rd.none_ _ _ _⟩
  · simp at hcs
    obtain ⟨rfl, rfl, rfl⟩ := hcs
    have hle : len ≤ ss.length := by rw [hlen]; split <;> omega
    have hll : ((ss.take len).map fun s => s.data.toList).length = len := by rw [List.length_map, List.length_take]; omega
    refine ⟨(ss.take len).map fun s => s.data.toList, hll.symm, fun hn => ?_⟩
    have key : ∀ j u, (byS ((ss.take len).map fun s => s.data.toList))[j]? = some u → w.cell? (a.add j) = some u := by
      intro j u hu
      have hj : j < len := by
        have := (List.getElem?_eq_some_iff.1 hu).1
        rw [byS_len, hll] at this
        exact this
      rw [byS_get _ j (by rw [hll]; exact hj)] at hu
      rw [hat j (by omega), ← hu, List.getElem_map, List.getElem_take]
      simp [show j < ss.length by omega]
    refine ⟨a, rfl, ?_, trivial, key⟩
    have h0 : 0 < len := by
      rcases Nat.eq_zero_or_pos len with e | e
      · exfalso; apply hn; subst e; rfl
      · exact e
    have := World.block_lt_of_cell? w _ (hat 0 (by omega))
    rwa [Me.block_add] at this
theorem textsV {H : Type} {enc : TypeId × Value → H} {w : World} {base : Nat} {spare : Nat → Bool} {held : Bool} {v : Value} {d : DataW H} {p : List MemPlace} {r : Reach} {b0 : Nat}
    (hv : Value.okWide Tryd.prog w r b0 22 v) (h : DataW.Trod enc Tryd.prog w base spare held 22 v d p) : ∃ A c l, v = .slice A (List.length l) c ∧ Rd w (fun _ => True) A (byS l) := by
  obtain ⟨a0, len0, cap0, rfl⟩ := okWide_slice Tryd.underlying22 hv
  obtain ⟨fuel, hf⟩ := h
  obtain ⟨l, e, hs⟩ := texts (by simpa [Value.cells] using hf)
  exact ⟨a0, cap0, l, by rw [e], hs⟩
end NmOpen
end Go.Proofs.YtfaekckenlkhnaaDoor
