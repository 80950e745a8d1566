/-
  No cell of these rows narrows 'for every input' (looked for: loops, veiled, ifaces, maps, wideKeys, modest, calm, conditions, laid).
  DERIVED. THE GIVEN ROWS OF THIS SEAT. 5 by the template 'for every input the law returns true; each argument reads behind the call as it read before'; 0 by the template 'total and deterministic' (their statements: YtjaclmhfagdfhaaTotals.lean).
  GIVEN WITH THE SEED: the statements are not yours to turn. If you find one false, say at which input.
  Laid BY PROGRAM, IN A SANDBOX (cutbox-rows.mjs): the forced cells as the released guide's own fill.sh prints them over the translation 0a962eaffeb7b3fa… (all of the seat's roots in one cut). By AI agents, Wed Nov 11 2026. No macro, syntax, notation, axiom, sorry.
-/
import Derived.Test.YtjaclmhfagdfhaaChecked
import GoSem.Claim
import GoSem.ClaimJoined
import GoSem.ClaimMapViews
import Derived.JoinedTies
import Derived.KernelRfl
namespace Go.Proofs.Ytjaclmhfagdfhaa
/- THE CELL 'sum', in the pinned program and in every row, IS THE sha256 OF THE DUMP (.gsa) THAT YtjaclmhfagdfhaaProg.lean LOADS. Nothing in Lean hashes anything: it is a label: what it is worth is what the hold of that sum in a sandbox is worth. -/
noncomputable def Try.pinned : Pinned := { name := "ytjaclmhfagdfhaa", sum := "0a962eaffeb7b3fa0ca61346f630e1c500bad265b46f73dcc4336a5c876b30d2", checked := Try.checked }
namespace Rows
def none {H : Type} : Left H := { results := [], args := [] }

/-- 'graticulelaw6.AggOf': WHATEVER THE INPUT: true; the input reads as it did. -/
def aggOfSpec : ChangeSpec := { name := "aggOf", fn := fun _ => fun
  | [d1, d2] => { results := [.lit (.bool true)], args := [d1, d2] }
  | _ => none }
def aggOfRow : OpenClaim := { program := "ytjaclmhfagdfhaa", sum := "0a962eaffeb7b3fa0ca61346f630e1c500bad265b46f73dcc4336a5c876b30d2", func := "graticule/graticulelaw6.AggOf", spec := "aggOf", unfollowed := true, recurses := true, named := ["math/bits.divideError", "math/bits.overflowError"], apart := false }
def AggOfSaid : Prop := aggOfRow.holds Try.pinned (OpenSpec.ofChange aggOfSpec)

/-- ITS FALSE NEIGHBOUR: 'it returns false'. Refute it at one input. -/
def aggOfWrong : ChangeSpec := { name := "aggOf", fn := fun _ => fun
  | [d1, d2] => { results := [.lit (.bool false)], args := [d1, d2] }
  | _ => none }
def AggOfWrongFalsely : Prop := aggOfRow.holds Try.pinned (OpenSpec.ofChange aggOfWrong)

/-- 'graticulelaw6.AggPuts': WHATEVER THE INPUT: true; the input reads as it did. -/
def aggPutsSpec : ChangeSpec := { name := "aggPuts", fn := fun _ => fun
  | [d1, d2, d3, d4, d5] => { results := [.lit (.bool true)], args := [d1, d2, d3, d4, d5] }
  | _ => none }
def aggPutsRow : OpenClaim := { program := "ytjaclmhfagdfhaa", sum := "0a962eaffeb7b3fa0ca61346f630e1c500bad265b46f73dcc4336a5c876b30d2", func := "graticule/graticulelaw6.AggPuts", spec := "aggPuts", unfollowed := true, recurses := true, named := ["math/bits.divideError", "math/bits.overflowError"], apart := false }
def AggPutsSaid : Prop := aggPutsRow.holds Try.pinned (OpenSpec.ofChange aggPutsSpec)

/-- ITS FALSE NEIGHBOUR: 'it returns false'. Refute it at one input. -/
def aggPutsWrong : ChangeSpec := { name := "aggPuts", fn := fun _ => fun
  | [d1, d2, d3, d4, d5] => { results := [.lit (.bool false)], args := [d1, d2, d3, d4, d5] }
  | _ => none }
def AggPutsWrongFalsely : Prop := aggPutsRow.holds Try.pinned (OpenSpec.ofChange aggPutsWrong)

/-- 'graticulelaw6.AggNames': WHATEVER THE INPUT: true; the input reads as it did. -/
def aggNamesSpec : ChangeSpec := { name := "aggNames", fn := fun _ => fun
  | [d1, d2] => { results := [.lit (.bool true)], args := [d1, d2] }
  | _ => none }
def aggNamesRow : OpenClaim := { program := "ytjaclmhfagdfhaa", sum := "0a962eaffeb7b3fa0ca61346f630e1c500bad265b46f73dcc4336a5c876b30d2", func := "graticule/graticulelaw6.AggNames", spec := "aggNames", unfollowed := true, recurses := true, named := ["math/bits.divideError", "math/bits.overflowError"], apart := false }
def AggNamesSaid : Prop := aggNamesRow.holds Try.pinned (OpenSpec.ofChange aggNamesSpec)

/-- ITS FALSE NEIGHBOUR: 'it returns false'. Refute it at one input. -/
def aggNamesWrong : ChangeSpec := { name := "aggNames", fn := fun _ => fun
  | [d1, d2] => { results := [.lit (.bool false)], args := [d1, d2] }
  | _ => none }
def AggNamesWrongFalsely : Prop := aggNamesRow.holds Try.pinned (OpenSpec.ofChange aggNamesWrong)

/-- 'graticulelaw6.AggBetween': WHATEVER THE INPUT: true; the input reads as it did. -/
def aggBetweenSpec : ChangeSpec := { name := "aggBetween", fn := fun _ => fun
  | [d] => { results := [.lit (.bool true)], args := [d] }
  | _ => none }
def aggBetweenRow : OpenClaim := { program := "ytjaclmhfagdfhaa", sum := "0a962eaffeb7b3fa0ca61346f630e1c500bad265b46f73dcc4336a5c876b30d2", func := "graticule/graticulelaw6.AggBetween", spec := "aggBetween", unfollowed := true, recurses := true, named := ["math/bits.divideError", "math/bits.overflowError"], apart := false }
def AggBetweenSaid : Prop := aggBetweenRow.holds Try.pinned (OpenSpec.ofChange aggBetweenSpec)

/-- ITS FALSE NEIGHBOUR: 'it returns false'. Refute it at one input. -/
def aggBetweenWrong : ChangeSpec := { name := "aggBetween", fn := fun _ => fun
  | [d] => { results := [.lit (.bool false)], args := [d] }
  | _ => none }
def AggBetweenWrongFalsely : Prop := aggBetweenRow.holds Try.pinned (OpenSpec.ofChange aggBetweenWrong)

/-- 'graticulelaw6.AggTurns': WHATEVER THE INPUT: true; the input reads as it did. -/
def aggTurnsSpec : ChangeSpec := { name := "aggTurns", fn := fun _ => fun
  | [d] => { results := [.lit (.bool true)], args := [d] }
  | _ => none }
def aggTurnsRow : OpenClaim := { program := "ytjaclmhfagdfhaa", sum := "0a962eaffeb7b3fa0ca61346f630e1c500bad265b46f73dcc4336a5c876b30d2", func := "graticule/graticulelaw6.AggTurns", spec := "aggTurns", unfollowed := true, recurses := true, named := ["math/bits.divideError", "math/bits.overflowError"], apart := false }
def AggTurnsSaid : Prop := aggTurnsRow.holds Try.pinned (OpenSpec.ofChange aggTurnsSpec)

/-- ITS FALSE NEIGHBOUR: 'it returns false'. Refute it at one input. -/
def aggTurnsWrong : ChangeSpec := { name := "aggTurns", fn := fun _ => fun
  | [d] => { results := [.lit (.bool false)], args := [d] }
  | _ => none }
def AggTurnsWrongFalsely : Prop := aggTurnsRow.holds Try.pinned (OpenSpec.ofChange aggTurnsWrong)

/- THE SECOND FORM. 'bulk': how many values and letters a reading holds, each counted each time it is reached (what is shared counts as often as it is met; a slice's spare places count too). A statement '..UptoSaid' is the law's where the arguments, and the package variables that the reading takes, are together of bulk at most 1048576: NARROWER than '..Said'. Prove '..Said' where nothing that the law and all that it calls make is longer than what came in: it says more and counts as full. Else prove '..UptoSaid'. A law counts once. -/
mutual
def uptoBulk {H : Type} : DataW H → Nat
  | .lit (.string bytes) => bytes.length + 1
  | .lit _ => 1
  | .nil => 1
  | .ptr d => uptoBulk d + 1
  | .slice elems spare => uptoBulkAll elems + uptoBulkAll spare + 1
  | .agg parts => uptoBulkAll parts + 1
  | .iface _ d => uptoBulk d + 1
  | .map entries => uptoBulkEntries entries + 1
  | .held _ => 1
def uptoBulkAll {H : Type} : List (DataW H) → Nat
  | [] => 0
  | d :: r => uptoBulk d + uptoBulkAll r
def uptoBulkEntries {H : Type} : List (Lit × DataW H) → Nat
  | [] => 0
  | x :: r => uptoBulkEntry x + uptoBulkEntries r
def uptoBulkEntry {H : Type} : Lit × DataW H → Nat
  | (.string bytes, d) => bytes.length + uptoBulk d + 1
  | (_, d) => uptoBulk d + 1
 end
def uptoSmall : (H : Type) → List (DataW H) → Bool := fun _ ds => decide (uptoBulkAll ds ≤ 1048576)
def OpenSpec.upto (s : _root_.Go.ChangeSpec) : _root_.Go.OpenSpec := { _root_.Go.OpenSpec.ofChange s with cond := some uptoSmall }

/-- 'graticulelaw6.AggOf', WHERE WHAT IT READS IS OF BULK AT MOST 1048576: true; the input reads as it did. -/
def aggOfUptoRow : OpenClaim := { program := "ytjaclmhfagdfhaa", sum := "0a962eaffeb7b3fa0ca61346f630e1c500bad265b46f73dcc4336a5c876b30d2", func := "graticule/graticulelaw6.AggOf", spec := "aggOf", unfollowed := true, recurses := true, named := ["math/bits.divideError", "math/bits.overflowError"], apart := false, narrowed := true }
def AggOfUptoSaid : Prop := aggOfUptoRow.holds Try.pinned (OpenSpec.upto aggOfSpec)

/-- 'graticulelaw6.AggPuts', WHERE WHAT IT READS IS OF BULK AT MOST 1048576: true; the input reads as it did. -/
def aggPutsUptoRow : OpenClaim := { program := "ytjaclmhfagdfhaa", sum := "0a962eaffeb7b3fa0ca61346f630e1c500bad265b46f73dcc4336a5c876b30d2", func := "graticule/graticulelaw6.AggPuts", spec := "aggPuts", unfollowed := true, recurses := true, named := ["math/bits.divideError", "math/bits.overflowError"], apart := false, narrowed := true }
def AggPutsUptoSaid : Prop := aggPutsUptoRow.holds Try.pinned (OpenSpec.upto aggPutsSpec)

/-- 'graticulelaw6.AggNames', WHERE WHAT IT READS IS OF BULK AT MOST 1048576: true; the input reads as it did. -/
def aggNamesUptoRow : OpenClaim := { program := "ytjaclmhfagdfhaa", sum := "0a962eaffeb7b3fa0ca61346f630e1c500bad265b46f73dcc4336a5c876b30d2", func := "graticule/graticulelaw6.AggNames", spec := "aggNames", unfollowed := true, recurses := true, named := ["math/bits.divideError", "math/bits.overflowError"], apart := false, narrowed := true }
def AggNamesUptoSaid : Prop := aggNamesUptoRow.holds Try.pinned (OpenSpec.upto aggNamesSpec)

/-- 'graticulelaw6.AggBetween', WHERE WHAT IT READS IS OF BULK AT MOST 1048576: true; the input reads as it did. -/
def aggBetweenUptoRow : OpenClaim := { program := "ytjaclmhfagdfhaa", sum := "0a962eaffeb7b3fa0ca61346f630e1c500bad265b46f73dcc4336a5c876b30d2", func := "graticule/graticulelaw6.AggBetween", spec := "aggBetween", unfollowed := true, recurses := true, named := ["math/bits.divideError", "math/bits.overflowError"], apart := false, narrowed := true }
def AggBetweenUptoSaid : Prop := aggBetweenUptoRow.holds Try.pinned (OpenSpec.upto aggBetweenSpec)

/-- 'graticulelaw6.AggTurns', WHERE WHAT IT READS IS OF BULK AT MOST 1048576: true; the input reads as it did. -/
def aggTurnsUptoRow : OpenClaim := { program := "ytjaclmhfagdfhaa", sum := "0a962eaffeb7b3fa0ca61346f630e1c500bad265b46f73dcc4336a5c876b30d2", func := "graticule/graticulelaw6.AggTurns", spec := "aggTurns", unfollowed := true, recurses := true, named := ["math/bits.divideError", "math/bits.overflowError"], apart := false, narrowed := true }
def AggTurnsUptoSaid : Prop := aggTurnsUptoRow.holds Try.pinned (OpenSpec.upto aggTurnsSpec)

end Rows
end Go.Proofs.Ytjaclmhfagdfhaa
