/-
  BYTES THAT COME IN, AS DATA: a slice of bytes, nil ones too, is a list.
-/
import Derived.Test.YtajijcnfhijanaaOwnB
import Derived.Deep.Slices
import Derived.ProofKit
import Derived.OpenShut
import Derived.ChangeOld
import Derived.Lib.SmallJoins
import Derived.ChangeArms
namespace Go.Proofs.Ytajijcnfhijanaa
open Go.RowKit Go.Sort
open Me

set_option maxRecDepth 100000
namespace OpB
open Go.ChangeShapes Go.WideShapes Go.ChangeAt Go.RowKit Go.Deep Go.Joins
theorem bytes {H : Type} {enc : TypeId × Value → H} {w : World} {base : Nat} {spare : Nat → Bool} {held : Bool} {fuel : Nat} {cs : List Value} {y : DataW H × List MemPlace}
    (h : DataW.trod enc Try.prog w base spare held fuel 38 cs = some y) : ∃ v l, cs = [v] ∧ Reads w v l := by
  rcases Go.ChangeShapes.open_ints Try.underlying38 Try.underlying5 (by kernel_rfl) h with ⟨rfl, _⟩ | ⟨a, len, cap, zs, rfl, hb, hl, hm, hzl, _, hc, hwf⟩
  · exact ⟨_, [], rfl, none, 0, rfl, Nat.le_refl _, Rd.none_ _ _ _⟩
  · have hlz : len ≤ zs.length := by rw [hzl]; split <;> omega
    have key : ∀ z ∈ zs, (((UInt8.ofNat z.toNat).toNat : Nat) : Int) = z := fun z hz => by
      have := hwf z hz
      simp [Lit.wf, IntKind.min, IntKind.max, IntKind.signed, IntKind.bits] at this
      simp
      omega
    have hlen : ((zs.take len).map (fun z => UInt8.ofNat z.toNat)).length = len := by simp; omega
    refine ⟨_, (zs.take len).map (fun z => UInt8.ofNat z.toNat), rfl, some a, cap, by rw [hlen], by rw [hlen]; exact hl, fun hn => ⟨a, rfl, ?_, trivial, fun j u hu => ?_⟩⟩
    · have h0 : 0 < zs.length := by
        rcases Nat.eq_zero_or_pos len with e | e
        · exfalso; apply hn; subst e; simp [by8]
        · omega
      exact World.block_lt_of_cell? w _ (hc 0 h0)
    · unfold by8 at hu
      rw [List.map_map, List.getElem?_map, List.getElem?_take] at hu
      split at hu
      · rename_i hj
        have hjz : j < zs.length := by omega
        rw [List.getElem?_eq_getElem hjz] at hu
        simp only [Option.map_some, Function.comp_apply, Option.some.injEq] at hu
        rw [← hu, hc j hjz, key _ (List.getElem_mem hjz)]
        simp [hjz]
      · cases hu
theorem bytesV {H : Type} {enc : TypeId × Value → H} {w : World} {base : Nat} {spare : Nat → Bool} {held : Bool} {v : Value} {d : DataW H} {p : List MemPlace} {r : Reach} {b0 : Nat}
    (hv : Value.okWide Try.prog w r b0 38 v) (h : DataW.Trod enc Try.prog w base spare held 38 v d p) : ∃ A c l, v = .slice A (List.length l) c ∧ Reads w v l := by
  obtain ⟨a0, len0, cap0, rfl⟩ := okWide_slice Try.underlying38 hv
  obtain ⟨fuel, hf⟩ := h
  obtain ⟨v, l, e, hr⟩ := bytes (by simpa [Value.cells] using hf)
  have e' : Value.slice a0 len0 cap0 = v := by simpa using e
  subst e'
  obtain ⟨A, c, e2, hc, hrd⟩ := hr
  exact ⟨A, c, l, e2, A, c, e2, hc, hrd⟩
end OpB
end Go.Proofs.Ytajijcnfhijanaa
