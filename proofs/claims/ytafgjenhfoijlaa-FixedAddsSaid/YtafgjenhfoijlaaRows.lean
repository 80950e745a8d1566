/-
  No cell of these rows narrows 'for every input' (looked for: loops, veiled, ifaces, maps, wideKeys, modest, calm, conditions, laid).
  DERIVED. THE GIVEN ROWS OF THIS SEAT. 9 by the template 'for every input the law returns true; each argument reads behind the call as it read before'; 0 by the template 'total and deterministic' (their statements: YtafgjenhfoijlaaTotals.lean).
  GIVEN WITH THE SEED: the statements are not yours to turn. If you find one false, say at which input.
  Laid BY PROGRAM, IN A SANDBOX (cutbox-rows.mjs): the forced cells as the released guide's own fill.sh prints them over the translation 0b12bb7c22546924… (all of the seat's roots in one cut). By AI agents, Wed Nov 11 2026. No macro, syntax, notation, axiom, sorry.
-/
import Derived.Test.YtafgjenhfoijlaaChecked
import GoSem.Claim
import GoSem.ClaimJoined
import GoSem.ClaimMapViews
import Derived.JoinedTies
import Derived.KernelRfl
namespace Go.Proofs.Ytafgjenhfoijlaa
/- THE CELL 'sum', in the pinned program and in every row, IS THE sha256 OF THE DUMP (.gsa) THAT YtafgjenhfoijlaaProg.lean LOADS. Nothing in Lean hashes anything: it is a label: what it is worth is what the hold of that sum in a sandbox is worth. -/
noncomputable def Try.pinned : Pinned := { name := "ytafgjenhfoijlaa", sum := "0b12bb7c22546924d32fb46d622ceecb57f695e31185c01b093ebfb8beb58e1c", checked := Try.checked }
namespace Rows
def none {H : Type} : Left H := { results := [], args := [] }

/-- 'graticulelaw1.FixedOf': WHATEVER THE INPUT: true; the input reads as it did. -/
def fixedOfSpec : ChangeSpec := { name := "fixedOf", fn := fun _ => fun
  | [d1, d2] => { results := [.lit (.bool true)], args := [d1, d2] }
  | _ => none }
def fixedOfRow : OpenClaim := { program := "ytafgjenhfoijlaa", sum := "0b12bb7c22546924d32fb46d622ceecb57f695e31185c01b093ebfb8beb58e1c", func := "graticule/graticulelaw1.FixedOf", spec := "fixedOf", named := ["math/bits.divideError", "math/bits.overflowError"], apart := false }
def FixedOfSaid : Prop := fixedOfRow.holds Try.pinned (OpenSpec.ofChange fixedOfSpec)

/-- ITS FALSE NEIGHBOUR: 'it returns false'. Refute it at one input. -/
def fixedOfWrong : ChangeSpec := { name := "fixedOf", fn := fun _ => fun
  | [d1, d2] => { results := [.lit (.bool false)], args := [d1, d2] }
  | _ => none }
def FixedOfWrongFalsely : Prop := fixedOfRow.holds Try.pinned (OpenSpec.ofChange fixedOfWrong)

/-- 'graticulelaw1.FixedAdds': WHATEVER THE INPUT: true; the input reads as it did. -/
def fixedAddsSpec : ChangeSpec := { name := "fixedAdds", fn := fun _ => fun
  | [d] => { results := [.lit (.bool true)], args := [d] }
  | _ => none }
def fixedAddsRow : OpenClaim := { program := "ytafgjenhfoijlaa", sum := "0b12bb7c22546924d32fb46d622ceecb57f695e31185c01b093ebfb8beb58e1c", func := "graticule/graticulelaw1.FixedAdds", spec := "fixedAdds", named := ["math/bits.divideError", "math/bits.overflowError"], apart := false }
def FixedAddsSaid : Prop := fixedAddsRow.holds Try.pinned (OpenSpec.ofChange fixedAddsSpec)

/-- ITS FALSE NEIGHBOUR: 'it returns false'. Refute it at one input. -/
def fixedAddsWrong : ChangeSpec := { name := "fixedAdds", fn := fun _ => fun
  | [d] => { results := [.lit (.bool false)], args := [d] }
  | _ => none }
def FixedAddsWrongFalsely : Prop := fixedAddsRow.holds Try.pinned (OpenSpec.ofChange fixedAddsWrong)

/-- 'graticulelaw1.FixedSubs': WHATEVER THE INPUT: true; the input reads as it did. -/
def fixedSubsSpec : ChangeSpec := { name := "fixedSubs", fn := fun _ => fun
  | [d1, d2] => { results := [.lit (.bool true)], args := [d1, d2] }
  | _ => none }
def fixedSubsRow : OpenClaim := { program := "ytafgjenhfoijlaa", sum := "0b12bb7c22546924d32fb46d622ceecb57f695e31185c01b093ebfb8beb58e1c", func := "graticule/graticulelaw1.FixedSubs", spec := "fixedSubs", named := ["math/bits.divideError", "math/bits.overflowError"], apart := false }
def FixedSubsSaid : Prop := fixedSubsRow.holds Try.pinned (OpenSpec.ofChange fixedSubsSpec)

/-- ITS FALSE NEIGHBOUR: 'it returns false'. Refute it at one input. -/
def fixedSubsWrong : ChangeSpec := { name := "fixedSubs", fn := fun _ => fun
  | [d1, d2] => { results := [.lit (.bool false)], args := [d1, d2] }
  | _ => none }
def FixedSubsWrongFalsely : Prop := fixedSubsRow.holds Try.pinned (OpenSpec.ofChange fixedSubsWrong)

/-- 'graticulelaw1.FixedMulDiv': WHATEVER THE INPUT: true; the input reads as it did. -/
def fixedMulDivSpec : ChangeSpec := { name := "fixedMulDiv", fn := fun _ => fun
  | [d1, d2, d3] => { results := [.lit (.bool true)], args := [d1, d2, d3] }
  | _ => none }
def fixedMulDivRow : OpenClaim := { program := "ytafgjenhfoijlaa", sum := "0b12bb7c22546924d32fb46d622ceecb57f695e31185c01b093ebfb8beb58e1c", func := "graticule/graticulelaw1.FixedMulDiv", spec := "fixedMulDiv", named := ["math/bits.divideError", "math/bits.overflowError"], apart := false }
def FixedMulDivSaid : Prop := fixedMulDivRow.holds Try.pinned (OpenSpec.ofChange fixedMulDivSpec)

/-- ITS FALSE NEIGHBOUR: 'it returns false'. Refute it at one input. -/
def fixedMulDivWrong : ChangeSpec := { name := "fixedMulDiv", fn := fun _ => fun
  | [d1, d2, d3] => { results := [.lit (.bool false)], args := [d1, d2, d3] }
  | _ => none }
def FixedMulDivWrongFalsely : Prop := fixedMulDivRow.holds Try.pinned (OpenSpec.ofChange fixedMulDivWrong)

/-- 'graticulelaw1.FixedMuls': WHATEVER THE INPUT: true; the input reads as it did. -/
def fixedMulsSpec : ChangeSpec := { name := "fixedMuls", fn := fun _ => fun
  | [d1, d2] => { results := [.lit (.bool true)], args := [d1, d2] }
  | _ => none }
def fixedMulsRow : OpenClaim := { program := "ytafgjenhfoijlaa", sum := "0b12bb7c22546924d32fb46d622ceecb57f695e31185c01b093ebfb8beb58e1c", func := "graticule/graticulelaw1.FixedMuls", spec := "fixedMuls", named := ["math/bits.divideError", "math/bits.overflowError"], apart := false }
def FixedMulsSaid : Prop := fixedMulsRow.holds Try.pinned (OpenSpec.ofChange fixedMulsSpec)

/-- ITS FALSE NEIGHBOUR: 'it returns false'. Refute it at one input. -/
def fixedMulsWrong : ChangeSpec := { name := "fixedMuls", fn := fun _ => fun
  | [d1, d2] => { results := [.lit (.bool false)], args := [d1, d2] }
  | _ => none }
def FixedMulsWrongFalsely : Prop := fixedMulsRow.holds Try.pinned (OpenSpec.ofChange fixedMulsWrong)

/-- 'graticulelaw1.FixedRoot': WHATEVER THE INPUT: true; the input reads as it did. -/
def fixedRootSpec : ChangeSpec := { name := "fixedRoot", fn := fun _ => fun
  | [d] => { results := [.lit (.bool true)], args := [d] }
  | _ => none }
def fixedRootRow : OpenClaim := { program := "ytafgjenhfoijlaa", sum := "0b12bb7c22546924d32fb46d622ceecb57f695e31185c01b093ebfb8beb58e1c", func := "graticule/graticulelaw1.FixedRoot", spec := "fixedRoot", named := ["math/bits.divideError", "math/bits.overflowError"], apart := false }
def FixedRootSaid : Prop := fixedRootRow.holds Try.pinned (OpenSpec.ofChange fixedRootSpec)

/-- ITS FALSE NEIGHBOUR: 'it returns false'. Refute it at one input. -/
def fixedRootWrong : ChangeSpec := { name := "fixedRoot", fn := fun _ => fun
  | [d] => { results := [.lit (.bool false)], args := [d] }
  | _ => none }
def FixedRootWrongFalsely : Prop := fixedRootRow.holds Try.pinned (OpenSpec.ofChange fixedRootWrong)

/-- 'graticulelaw1.FixedSquare': WHATEVER THE INPUT: true; the input reads as it did. -/
def fixedSquareSpec : ChangeSpec := { name := "fixedSquare", fn := fun _ => fun
  | [d] => { results := [.lit (.bool true)], args := [d] }
  | _ => none }
def fixedSquareRow : OpenClaim := { program := "ytafgjenhfoijlaa", sum := "0b12bb7c22546924d32fb46d622ceecb57f695e31185c01b093ebfb8beb58e1c", func := "graticule/graticulelaw1.FixedSquare", spec := "fixedSquare", named := ["math/bits.divideError", "math/bits.overflowError"], apart := false }
def FixedSquareSaid : Prop := fixedSquareRow.holds Try.pinned (OpenSpec.ofChange fixedSquareSpec)

/-- ITS FALSE NEIGHBOUR: 'it returns false'. Refute it at one input. -/
def fixedSquareWrong : ChangeSpec := { name := "fixedSquare", fn := fun _ => fun
  | [d] => { results := [.lit (.bool false)], args := [d] }
  | _ => none }
def FixedSquareWrongFalsely : Prop := fixedSquareRow.holds Try.pinned (OpenSpec.ofChange fixedSquareWrong)

/-- 'graticulelaw1.FixedBack': WHATEVER THE INPUT: true; the input reads as it did. -/
def fixedBackSpec : ChangeSpec := { name := "fixedBack", fn := fun _ => fun
  | [d1, d2] => { results := [.lit (.bool true)], args := [d1, d2] }
  | _ => none }
def fixedBackRow : OpenClaim := { program := "ytafgjenhfoijlaa", sum := "0b12bb7c22546924d32fb46d622ceecb57f695e31185c01b093ebfb8beb58e1c", func := "graticule/graticulelaw1.FixedBack", spec := "fixedBack", named := ["math/bits.divideError", "math/bits.overflowError"], apart := false }
def FixedBackSaid : Prop := fixedBackRow.holds Try.pinned (OpenSpec.ofChange fixedBackSpec)

/-- ITS FALSE NEIGHBOUR: 'it returns false'. Refute it at one input. -/
def fixedBackWrong : ChangeSpec := { name := "fixedBack", fn := fun _ => fun
  | [d1, d2] => { results := [.lit (.bool false)], args := [d1, d2] }
  | _ => none }
def FixedBackWrongFalsely : Prop := fixedBackRow.holds Try.pinned (OpenSpec.ofChange fixedBackWrong)

/-- 'graticulelaw1.FixedHalves': WHATEVER THE INPUT: true; the input reads as it did. -/
def fixedHalvesSpec : ChangeSpec := { name := "fixedHalves", fn := fun _ => fun
  | [d1, d2, d3] => { results := [.lit (.bool true)], args := [d1, d2, d3] }
  | _ => none }
def fixedHalvesRow : OpenClaim := { program := "ytafgjenhfoijlaa", sum := "0b12bb7c22546924d32fb46d622ceecb57f695e31185c01b093ebfb8beb58e1c", func := "graticule/graticulelaw1.FixedHalves", spec := "fixedHalves", named := ["math/bits.divideError", "math/bits.overflowError"], apart := false }
def FixedHalvesSaid : Prop := fixedHalvesRow.holds Try.pinned (OpenSpec.ofChange fixedHalvesSpec)

/-- ITS FALSE NEIGHBOUR: 'it returns false'. Refute it at one input. -/
def fixedHalvesWrong : ChangeSpec := { name := "fixedHalves", fn := fun _ => fun
  | [d1, d2, d3] => { results := [.lit (.bool false)], args := [d1, d2, d3] }
  | _ => none }
def FixedHalvesWrongFalsely : Prop := fixedHalvesRow.holds Try.pinned (OpenSpec.ofChange fixedHalvesWrong)

/- THE SECOND FORM. 'bulk': how many values and letters a reading holds, each counted each time it is reached (what is shared counts as often as it is met; a slice's spare places count too). A statement '..UptoSaid' is the law's where the arguments, and the package variables that the reading takes, are together of bulk at most 1048576: NARROWER than '..Said'. Prove '..Said' where nothing that the law and all that it calls make is longer than what came in: it says more and counts as full. Else prove '..UptoSaid'. A law counts once. -/
mutual
def uptoBulk {H : Type} : DataW H → Nat
  | .lit (.string bytes) => bytes.length + 1
  | .lit _ => 1
  | .nil => 1
  | .ptr d => uptoBulk d + 1
  | .slice elems spare => uptoBulkAll elems + uptoBulkAll spare + 1
  | .agg parts => uptoBulkAll parts + 1
  | .iface _ d => uptoBulk d + 1
  | .map entries => uptoBulkEntries entries + 1
  | .held _ => 1
def uptoBulkAll {H : Type} : List (DataW H) → Nat
  | [] => 0
  | d :: r => uptoBulk d + uptoBulkAll r
def uptoBulkEntries {H : Type} : List (Lit × DataW H) → Nat
  | [] => 0
  | x :: r => uptoBulkEntry x + uptoBulkEntries r
def uptoBulkEntry {H : Type} : Lit × DataW H → Nat
  | (.string bytes, d) => bytes.length + uptoBulk d + 1
  | (_, d) => uptoBulk d + 1
 end
def uptoSmall : (H : Type) → List (DataW H) → Bool := fun _ ds => decide (uptoBulkAll ds ≤ 1048576)
def OpenSpec.upto (s : _root_.Go.ChangeSpec) : _root_.Go.OpenSpec := { _root_.Go.OpenSpec.ofChange s with cond := some uptoSmall }

/-- 'graticulelaw1.FixedOf', WHERE WHAT IT READS IS OF BULK AT MOST 1048576: true; the input reads as it did. -/
def fixedOfUptoRow : OpenClaim := { program := "ytafgjenhfoijlaa", sum := "0b12bb7c22546924d32fb46d622ceecb57f695e31185c01b093ebfb8beb58e1c", func := "graticule/graticulelaw1.FixedOf", spec := "fixedOf", named := ["math/bits.divideError", "math/bits.overflowError"], apart := false, narrowed := true }
def FixedOfUptoSaid : Prop := fixedOfUptoRow.holds Try.pinned (OpenSpec.upto fixedOfSpec)

/-- 'graticulelaw1.FixedAdds', WHERE WHAT IT READS IS OF BULK AT MOST 1048576: true; the input reads as it did. -/
def fixedAddsUptoRow : OpenClaim := { program := "ytafgjenhfoijlaa", sum := "0b12bb7c22546924d32fb46d622ceecb57f695e31185c01b093ebfb8beb58e1c", func := "graticule/graticulelaw1.FixedAdds", spec := "fixedAdds", named := ["math/bits.divideError", "math/bits.overflowError"], apart := false, narrowed := true }
def FixedAddsUptoSaid : Prop := fixedAddsUptoRow.holds Try.pinned (OpenSpec.upto fixedAddsSpec)

/-- 'graticulelaw1.FixedSubs', WHERE WHAT IT READS IS OF BULK AT MOST 1048576: true; the input reads as it did. -/
def fixedSubsUptoRow : OpenClaim := { program := "ytafgjenhfoijlaa", sum := "0b12bb7c22546924d32fb46d622ceecb57f695e31185c01b093ebfb8beb58e1c", func := "graticule/graticulelaw1.FixedSubs", spec := "fixedSubs", named := ["math/bits.divideError", "math/bits.overflowError"], apart := false, narrowed := true }
def FixedSubsUptoSaid : Prop := fixedSubsUptoRow.holds Try.pinned (OpenSpec.upto fixedSubsSpec)

/-- 'graticulelaw1.FixedMulDiv', WHERE WHAT IT READS IS OF BULK AT MOST 1048576: true; the input reads as it did. -/
def fixedMulDivUptoRow : OpenClaim := { program := "ytafgjenhfoijlaa", sum := "0b12bb7c22546924d32fb46d622ceecb57f695e31185c01b093ebfb8beb58e1c", func := "graticule/graticulelaw1.FixedMulDiv", spec := "fixedMulDiv", named := ["math/bits.divideError", "math/bits.overflowError"], apart := false, narrowed := true }
def FixedMulDivUptoSaid : Prop := fixedMulDivUptoRow.holds Try.pinned (OpenSpec.upto fixedMulDivSpec)

/-- 'graticulelaw1.FixedMuls', WHERE WHAT IT READS IS OF BULK AT MOST 1048576: true; the input reads as it did. -/
def fixedMulsUptoRow : OpenClaim := { program := "ytafgjenhfoijlaa", sum := "0b12bb7c22546924d32fb46d622ceecb57f695e31185c01b093ebfb8beb58e1c", func := "graticule/graticulelaw1.FixedMuls", spec := "fixedMuls", named := ["math/bits.divideError", "math/bits.overflowError"], apart := false, narrowed := true }
def FixedMulsUptoSaid : Prop := fixedMulsUptoRow.holds Try.pinned (OpenSpec.upto fixedMulsSpec)

/-- 'graticulelaw1.FixedRoot', WHERE WHAT IT READS IS OF BULK AT MOST 1048576: true; the input reads as it did. -/
def fixedRootUptoRow : OpenClaim := { program := "ytafgjenhfoijlaa", sum := "0b12bb7c22546924d32fb46d622ceecb57f695e31185c01b093ebfb8beb58e1c", func := "graticule/graticulelaw1.FixedRoot", spec := "fixedRoot", named := ["math/bits.divideError", "math/bits.overflowError"], apart := false, narrowed := true }
def FixedRootUptoSaid : Prop := fixedRootUptoRow.holds Try.pinned (OpenSpec.upto fixedRootSpec)

/-- 'graticulelaw1.FixedSquare', WHERE WHAT IT READS IS OF BULK AT MOST 1048576: true; the input reads as it did. -/
def fixedSquareUptoRow : OpenClaim := { program := "ytafgjenhfoijlaa", sum := "0b12bb7c22546924d32fb46d622ceecb57f695e31185c01b093ebfb8beb58e1c", func := "graticule/graticulelaw1.FixedSquare", spec := "fixedSquare", named := ["math/bits.divideError", "math/bits.overflowError"], apart := false, narrowed := true }
def FixedSquareUptoSaid : Prop := fixedSquareUptoRow.holds Try.pinned (OpenSpec.upto fixedSquareSpec)

/-- 'graticulelaw1.FixedBack', WHERE WHAT IT READS IS OF BULK AT MOST 1048576: true; the input reads as it did. -/
def fixedBackUptoRow : OpenClaim := { program := "ytafgjenhfoijlaa", sum := "0b12bb7c22546924d32fb46d622ceecb57f695e31185c01b093ebfb8beb58e1c", func := "graticule/graticulelaw1.FixedBack", spec := "fixedBack", named := ["math/bits.divideError", "math/bits.overflowError"], apart := false, narrowed := true }
def FixedBackUptoSaid : Prop := fixedBackUptoRow.holds Try.pinned (OpenSpec.upto fixedBackSpec)

/-- 'graticulelaw1.FixedHalves', WHERE WHAT IT READS IS OF BULK AT MOST 1048576: true; the input reads as it did. -/
def fixedHalvesUptoRow : OpenClaim := { program := "ytafgjenhfoijlaa", sum := "0b12bb7c22546924d32fb46d622ceecb57f695e31185c01b093ebfb8beb58e1c", func := "graticule/graticulelaw1.FixedHalves", spec := "fixedHalves", named := ["math/bits.divideError", "math/bits.overflowError"], apart := false, narrowed := true }
def FixedHalvesUptoSaid : Prop := fixedHalvesUptoRow.holds Try.pinned (OpenSpec.upto fixedHalvesSpec)

end Rows
end Go.Proofs.Ytafgjenhfoijlaa
