/-
  No cell of these rows narrows 'for every input' (looked for: loops, veiled, ifaces, maps, wideKeys, modest, calm, conditions, laid).
  DERIVED. THE GIVEN ROWS OF THIS SEAT. 4 by the template 'for every input the law returns true; each argument reads behind the call as it read before'; 0 by the template 'total and deterministic' (their statements: YtajijcnfhijanaaTotals.lean).
  GIVEN WITH THE SEED: the statements are not yours to turn. If you find one false, say at which input.
  Laid BY PROGRAM, IN A SANDBOX (cutbox-rows.mjs): the forced cells as the released guide's own fill.sh prints them over the translation 1bbbdfec108d3046… (all of the seat's roots in one cut). By AI agents, Wed Nov 11 2026. No macro, syntax, notation, axiom, sorry.
-/
import Derived.Test.YtajijcnfhijanaaChecked
import GoSem.Claim
import GoSem.ClaimJoined
import GoSem.ClaimMapViews
import Derived.JoinedTies
import Derived.KernelRfl
namespace Go.Proofs.Ytajijcnfhijanaa
/- THE CELL 'sum', in the pinned program and in every row, IS THE sha256 OF THE DUMP (.gsa) THAT YtajijcnfhijanaaProg.lean LOADS. Nothing in Lean hashes anything: it is a label: what it is worth is what the hold of that sum in a sandbox is worth. -/
noncomputable def Try.pinned : Pinned := { name := "ytajijcnfhijanaa", sum := "1bbbdfec108d304607ce9ac45eb10549754aee491d102019df3ba1cd9ca82c5f", checked := Try.checked }
namespace Rows
def none {H : Type} : Left H := { results := [], args := [] }

/-- 'graticulelaw11.RexHas': WHATEVER THE INPUT: true; the input reads as it did. -/
def rexHasSpec : ChangeSpec := { name := "rexHas", fn := fun _ => fun
  | [d1, d2] => { results := [.lit (.bool true)], args := [d1, d2] }
  | _ => none }
def rexHasRow : OpenClaim := { program := "ytajijcnfhijanaa", sum := "1bbbdfec108d304607ce9ac45eb10549754aee491d102019df3ba1cd9ca82c5f", func := "graticule/graticulelaw11.RexHas", spec := "rexHas", inPlace := ["internal/bytealg.IndexByteString"], recurses := true, apart := false }
def RexHasSaid : Prop := rexHasRow.holds Try.pinned (OpenSpec.ofChange rexHasSpec)

/-- ITS FALSE NEIGHBOUR: 'it returns false'. Refute it at one input. -/
def rexHasWrong : ChangeSpec := { name := "rexHas", fn := fun _ => fun
  | [d1, d2] => { results := [.lit (.bool false)], args := [d1, d2] }
  | _ => none }
def RexHasWrongFalsely : Prop := rexHasRow.holds Try.pinned (OpenSpec.ofChange rexHasWrong)

/-- 'graticulelaw11.RexPlaces': WHATEVER THE INPUT: true; the input reads as it did. -/
def rexPlacesSpec : ChangeSpec := { name := "rexPlaces", fn := fun _ => fun
  | [d] => { results := [.lit (.bool true)], args := [d] }
  | _ => none }
def rexPlacesRow : OpenClaim := { program := "ytajijcnfhijanaa", sum := "1bbbdfec108d304607ce9ac45eb10549754aee491d102019df3ba1cd9ca82c5f", func := "graticule/graticulelaw11.RexPlaces", spec := "rexPlaces", inPlace := ["internal/bytealg.IndexByteString"], recurses := true, apart := false }
def RexPlacesSaid : Prop := rexPlacesRow.holds Try.pinned (OpenSpec.ofChange rexPlacesSpec)

/-- ITS FALSE NEIGHBOUR: 'it returns false'. Refute it at one input. -/
def rexPlacesWrong : ChangeSpec := { name := "rexPlaces", fn := fun _ => fun
  | [d] => { results := [.lit (.bool false)], args := [d] }
  | _ => none }
def RexPlacesWrongFalsely : Prop := rexPlacesRow.holds Try.pinned (OpenSpec.ofChange rexPlacesWrong)

/-- 'graticulelaw11.RexClasses': WHATEVER THE INPUT: true; the input reads as it did. -/
def rexClassesSpec : ChangeSpec := { name := "rexClasses", fn := fun _ => fun
  | [d1, d2] => { results := [.lit (.bool true)], args := [d1, d2] }
  | _ => none }
def rexClassesRow : OpenClaim := { program := "ytajijcnfhijanaa", sum := "1bbbdfec108d304607ce9ac45eb10549754aee491d102019df3ba1cd9ca82c5f", func := "graticule/graticulelaw11.RexClasses", spec := "rexClasses", inPlace := ["internal/bytealg.IndexByteString"], recurses := true, apart := false }
def RexClassesSaid : Prop := rexClassesRow.holds Try.pinned (OpenSpec.ofChange rexClassesSpec)

/-- ITS FALSE NEIGHBOUR: 'it returns false'. Refute it at one input. -/
def rexClassesWrong : ChangeSpec := { name := "rexClasses", fn := fun _ => fun
  | [d1, d2] => { results := [.lit (.bool false)], args := [d1, d2] }
  | _ => none }
def RexClassesWrongFalsely : Prop := rexClassesRow.holds Try.pinned (OpenSpec.ofChange rexClassesWrong)

/-- 'graticulelaw11.RexDeep': WHATEVER THE INPUT: true; the input reads as it did. -/
def rexDeepSpec : ChangeSpec := { name := "rexDeep", fn := fun _ => fun
  | [d1, d2] => { results := [.lit (.bool true)], args := [d1, d2] }
  | _ => none }
def rexDeepRow : OpenClaim := { program := "ytajijcnfhijanaa", sum := "1bbbdfec108d304607ce9ac45eb10549754aee491d102019df3ba1cd9ca82c5f", func := "graticule/graticulelaw11.RexDeep", spec := "rexDeep", inPlace := ["internal/bytealg.IndexByteString"], recurses := true, apart := false }
def RexDeepSaid : Prop := rexDeepRow.holds Try.pinned (OpenSpec.ofChange rexDeepSpec)

/-- ITS FALSE NEIGHBOUR: 'it returns false'. Refute it at one input. -/
def rexDeepWrong : ChangeSpec := { name := "rexDeep", fn := fun _ => fun
  | [d1, d2] => { results := [.lit (.bool false)], args := [d1, d2] }
  | _ => none }
def RexDeepWrongFalsely : Prop := rexDeepRow.holds Try.pinned (OpenSpec.ofChange rexDeepWrong)

/- THE SECOND FORM. 'bulk': how many values and letters a reading holds, each counted each time it is reached (what is shared counts as often as it is met; a slice's spare places count too). A statement '..UptoSaid' is the law's where the arguments, and the package variables that the reading takes, are together of bulk at most 1048576: NARROWER than '..Said'. Prove '..Said' where nothing that the law and all that it calls make is longer than what came in: it says more and counts as full. Else prove '..UptoSaid'. A law counts once. -/
mutual
def uptoBulk {H : Type} : DataW H → Nat
  | .lit (.string bytes) => bytes.length + 1
  | .lit _ => 1
  | .nil => 1
  | .ptr d => uptoBulk d + 1
  | .slice elems spare => uptoBulkAll elems + uptoBulkAll spare + 1
  | .agg parts => uptoBulkAll parts + 1
  | .iface _ d => uptoBulk d + 1
  | .map entries => uptoBulkEntries entries + 1
  | .held _ => 1
def uptoBulkAll {H : Type} : List (DataW H) → Nat
  | [] => 0
  | d :: r => uptoBulk d + uptoBulkAll r
def uptoBulkEntries {H : Type} : List (Lit × DataW H) → Nat
  | [] => 0
  | x :: r => uptoBulkEntry x + uptoBulkEntries r
def uptoBulkEntry {H : Type} : Lit × DataW H → Nat
  | (.string bytes, d) => bytes.length + uptoBulk d + 1
  | (_, d) => uptoBulk d + 1
 end
def uptoSmall : (H : Type) → List (DataW H) → Bool := fun _ ds => decide (uptoBulkAll ds ≤ 1048576)
def OpenSpec.upto (s : _root_.Go.ChangeSpec) : _root_.Go.OpenSpec := { _root_.Go.OpenSpec.ofChange s with cond := some uptoSmall }

/-- 'graticulelaw11.RexHas', WHERE WHAT IT READS IS OF BULK AT MOST 1048576: true; the input reads as it did. -/
def rexHasUptoRow : OpenClaim := { program := "ytajijcnfhijanaa", sum := "1bbbdfec108d304607ce9ac45eb10549754aee491d102019df3ba1cd9ca82c5f", func := "graticule/graticulelaw11.RexHas", spec := "rexHas", inPlace := ["internal/bytealg.IndexByteString"], recurses := true, apart := false, narrowed := true }
def RexHasUptoSaid : Prop := rexHasUptoRow.holds Try.pinned (OpenSpec.upto rexHasSpec)

/-- 'graticulelaw11.RexPlaces', WHERE WHAT IT READS IS OF BULK AT MOST 1048576: true; the input reads as it did. -/
def rexPlacesUptoRow : OpenClaim := { program := "ytajijcnfhijanaa", sum := "1bbbdfec108d304607ce9ac45eb10549754aee491d102019df3ba1cd9ca82c5f", func := "graticule/graticulelaw11.RexPlaces", spec := "rexPlaces", inPlace := ["internal/bytealg.IndexByteString"], recurses := true, apart := false, narrowed := true }
def RexPlacesUptoSaid : Prop := rexPlacesUptoRow.holds Try.pinned (OpenSpec.upto rexPlacesSpec)

/-- 'graticulelaw11.RexClasses', WHERE WHAT IT READS IS OF BULK AT MOST 1048576: true; the input reads as it did. -/
def rexClassesUptoRow : OpenClaim := { program := "ytajijcnfhijanaa", sum := "1bbbdfec108d304607ce9ac45eb10549754aee491d102019df3ba1cd9ca82c5f", func := "graticule/graticulelaw11.RexClasses", spec := "rexClasses", inPlace := ["internal/bytealg.IndexByteString"], recurses := true, apart := false, narrowed := true }
def RexClassesUptoSaid : Prop := rexClassesUptoRow.holds Try.pinned (OpenSpec.upto rexClassesSpec)

/-- 'graticulelaw11.RexDeep', WHERE WHAT IT READS IS OF BULK AT MOST 1048576: true; the input reads as it did. -/
def rexDeepUptoRow : OpenClaim := { program := "ytajijcnfhijanaa", sum := "1bbbdfec108d304607ce9ac45eb10549754aee491d102019df3ba1cd9ca82c5f", func := "graticule/graticulelaw11.RexDeep", spec := "rexDeep", inPlace := ["internal/bytealg.IndexByteString"], recurses := true, apart := false, narrowed := true }
def RexDeepUptoSaid : Prop := rexDeepUptoRow.holds Try.pinned (OpenSpec.upto rexDeepSpec)

end Rows
end Go.Proofs.Ytajijcnfhijanaa
