/-
  No cell of these rows narrows 'for every input' (looked for: loops, veiled, ifaces, maps, wideKeys, modest, calm, conditions, laid).
  DERIVED. THE GIVEN ROWS OF THIS SEAT. 4 by the template 'for every input the law returns true; each argument reads behind the call as it read before'; 0 by the template 'total and deterministic' (their statements: YtelbabgkpflckaaTotals.lean).
  GIVEN WITH THE SEED: the statements are not yours to turn. If you find one false, say at which input.
  Laid BY PROGRAM, IN A SANDBOX (cutbox-rows.mjs): the forced cells as the released guide's own fill.sh prints them over the translation f5198ac714236df0… (all of the seat's roots in one cut). By AI agents, Wed Nov 11 2026. No macro, syntax, notation, axiom, sorry.
-/
import Derived.Test.YtelbabgkpflckaaChecked
import GoSem.Claim
import GoSem.ClaimJoined
import GoSem.ClaimMapViews
import Derived.JoinedTies
import Derived.KernelRfl
namespace Go.Proofs.Ytelbabgkpflckaa
/- THE CELL 'sum', in the pinned program and in every row, IS THE sha256 OF THE DUMP (.gsa) THAT YtelbabgkpflckaaProg.lean LOADS. Nothing in Lean hashes anything: it is a label: what it is worth is what the hold of that sum in a sandbox is worth. -/
noncomputable def Try.pinned : Pinned := { name := "ytelbabgkpflckaa", sum := "f5198ac714236df0e43147d1222ef97b851fe51fb55c1915917ead1eb8783a3f", checked := Try.checked }
namespace Rows
def none {H : Type} : Left H := { results := [], args := [] }

/-- 'graticulelaw12.PikeFinds': WHATEVER THE INPUT: true; the input reads as it did. -/
def pikeFindsSpec : ChangeSpec := { name := "pikeFinds", fn := fun _ => fun
  | [d1, d2, d3] => { results := [.lit (.bool true)], args := [d1, d2, d3] }
  | _ => none }
def pikeFindsRow : OpenClaim := { program := "ytelbabgkpflckaa", sum := "f5198ac714236df0e43147d1222ef97b851fe51fb55c1915917ead1eb8783a3f", func := "graticule/graticulelaw12.PikeFinds", spec := "pikeFinds", recurses := true, apart := false }
def PikeFindsSaid : Prop := pikeFindsRow.holds Try.pinned (OpenSpec.ofChange pikeFindsSpec)

/-- ITS FALSE NEIGHBOUR: 'it returns false'. Refute it at one input. -/
def pikeFindsWrong : ChangeSpec := { name := "pikeFinds", fn := fun _ => fun
  | [d1, d2, d3] => { results := [.lit (.bool false)], args := [d1, d2, d3] }
  | _ => none }
def PikeFindsWrongFalsely : Prop := pikeFindsRow.holds Try.pinned (OpenSpec.ofChange pikeFindsWrong)

/-- 'graticulelaw13.SubstExpands': WHATEVER THE INPUT: true; the input reads as it did. -/
def substExpandsSpec : ChangeSpec := { name := "substExpands", fn := fun _ => fun
  | [d1, d2, d3] => { results := [.lit (.bool true)], args := [d1, d2, d3] }
  | _ => none }
def substExpandsRow : OpenClaim := { program := "ytelbabgkpflckaa", sum := "f5198ac714236df0e43147d1222ef97b851fe51fb55c1915917ead1eb8783a3f", func := "graticule/graticulelaw13.SubstExpands", spec := "substExpands", inPlace := ["internal/abi.NoEscape", "internal/bytealg.IndexByteString"], recurses := true, apart := false }
def SubstExpandsSaid : Prop := substExpandsRow.holds Try.pinned (OpenSpec.ofChange substExpandsSpec)

/-- ITS FALSE NEIGHBOUR: 'it returns false'. Refute it at one input. -/
def substExpandsWrong : ChangeSpec := { name := "substExpands", fn := fun _ => fun
  | [d1, d2, d3] => { results := [.lit (.bool false)], args := [d1, d2, d3] }
  | _ => none }
def SubstExpandsWrongFalsely : Prop := substExpandsRow.holds Try.pinned (OpenSpec.ofChange substExpandsWrong)

/-- 'graticulelaw13.SubstAll': WHATEVER THE INPUT: true; the input reads as it did. -/
def substAllSpec : ChangeSpec := { name := "substAll", fn := fun _ => fun
  | [d1, d2, d3] => { results := [.lit (.bool true)], args := [d1, d2, d3] }
  | _ => none }
def substAllRow : OpenClaim := { program := "ytelbabgkpflckaa", sum := "f5198ac714236df0e43147d1222ef97b851fe51fb55c1915917ead1eb8783a3f", func := "graticule/graticulelaw13.SubstAll", spec := "substAll", inPlace := ["internal/bytealg.IndexByteString", "internal/abi.NoEscape"], recurses := true, apart := false }
def SubstAllSaid : Prop := substAllRow.holds Try.pinned (OpenSpec.ofChange substAllSpec)

/-- ITS FALSE NEIGHBOUR: 'it returns false'. Refute it at one input. -/
def substAllWrong : ChangeSpec := { name := "substAll", fn := fun _ => fun
  | [d1, d2, d3] => { results := [.lit (.bool false)], args := [d1, d2, d3] }
  | _ => none }
def SubstAllWrongFalsely : Prop := substAllRow.holds Try.pinned (OpenSpec.ofChange substAllWrong)

/-- 'graticulelaw13.SubstNone': WHATEVER THE INPUT: true; the input reads as it did. -/
def substNoneSpec : ChangeSpec := { name := "substNone", fn := fun _ => fun
  | [d1, d2] => { results := [.lit (.bool true)], args := [d1, d2] }
  | _ => none }
def substNoneRow : OpenClaim := { program := "ytelbabgkpflckaa", sum := "f5198ac714236df0e43147d1222ef97b851fe51fb55c1915917ead1eb8783a3f", func := "graticule/graticulelaw13.SubstNone", spec := "substNone", inPlace := ["internal/bytealg.IndexByteString", "internal/abi.NoEscape"], recurses := true, apart := false }
def SubstNoneSaid : Prop := substNoneRow.holds Try.pinned (OpenSpec.ofChange substNoneSpec)

/-- ITS FALSE NEIGHBOUR: 'it returns false'. Refute it at one input. -/
def substNoneWrong : ChangeSpec := { name := "substNone", fn := fun _ => fun
  | [d1, d2] => { results := [.lit (.bool false)], args := [d1, d2] }
  | _ => none }
def SubstNoneWrongFalsely : Prop := substNoneRow.holds Try.pinned (OpenSpec.ofChange substNoneWrong)

/- THE SECOND FORM. 'bulk': how many values and letters a reading holds, each counted each time it is reached (what is shared counts as often as it is met; a slice's spare places count too). A statement '..UptoSaid' is the law's where the arguments, and the package variables that the reading takes, are together of bulk at most 1048576: NARROWER than '..Said'. Prove '..Said' where nothing that the law and all that it calls make is longer than what came in: it says more and counts as full. Else prove '..UptoSaid'. A law counts once. -/
mutual
def uptoBulk {H : Type} : DataW H → Nat
  | .lit (.string bytes) => bytes.length + 1
  | .lit _ => 1
  | .nil => 1
  | .ptr d => uptoBulk d + 1
  | .slice elems spare => uptoBulkAll elems + uptoBulkAll spare + 1
  | .agg parts => uptoBulkAll parts + 1
  | .iface _ d => uptoBulk d + 1
  | .map entries => uptoBulkEntries entries + 1
  | .held _ => 1
def uptoBulkAll {H : Type} : List (DataW H) → Nat
  | [] => 0
  | d :: r => uptoBulk d + uptoBulkAll r
def uptoBulkEntries {H : Type} : List (Lit × DataW H) → Nat
  | [] => 0
  | x :: r => uptoBulkEntry x + uptoBulkEntries r
def uptoBulkEntry {H : Type} : Lit × DataW H → Nat
  | (.string bytes, d) => bytes.length + uptoBulk d + 1
  | (_, d) => uptoBulk d + 1
 end
def uptoSmall : (H : Type) → List (DataW H) → Bool := fun _ ds => decide (uptoBulkAll ds ≤ 1048576)
def OpenSpec.upto (s : _root_.Go.ChangeSpec) : _root_.Go.OpenSpec := { _root_.Go.OpenSpec.ofChange s with cond := some uptoSmall }

/-- 'graticulelaw12.PikeFinds', WHERE WHAT IT READS IS OF BULK AT MOST 1048576: true; the input reads as it did. -/
def pikeFindsUptoRow : OpenClaim := { program := "ytelbabgkpflckaa", sum := "f5198ac714236df0e43147d1222ef97b851fe51fb55c1915917ead1eb8783a3f", func := "graticule/graticulelaw12.PikeFinds", spec := "pikeFinds", recurses := true, apart := false, narrowed := true }
def PikeFindsUptoSaid : Prop := pikeFindsUptoRow.holds Try.pinned (OpenSpec.upto pikeFindsSpec)

/-- 'graticulelaw13.SubstExpands', WHERE WHAT IT READS IS OF BULK AT MOST 1048576: true; the input reads as it did. -/
def substExpandsUptoRow : OpenClaim := { program := "ytelbabgkpflckaa", sum := "f5198ac714236df0e43147d1222ef97b851fe51fb55c1915917ead1eb8783a3f", func := "graticule/graticulelaw13.SubstExpands", spec := "substExpands", inPlace := ["internal/abi.NoEscape", "internal/bytealg.IndexByteString"], recurses := true, apart := false, narrowed := true }
def SubstExpandsUptoSaid : Prop := substExpandsUptoRow.holds Try.pinned (OpenSpec.upto substExpandsSpec)

/-- 'graticulelaw13.SubstAll', WHERE WHAT IT READS IS OF BULK AT MOST 1048576: true; the input reads as it did. -/
def substAllUptoRow : OpenClaim := { program := "ytelbabgkpflckaa", sum := "f5198ac714236df0e43147d1222ef97b851fe51fb55c1915917ead1eb8783a3f", func := "graticule/graticulelaw13.SubstAll", spec := "substAll", inPlace := ["internal/bytealg.IndexByteString", "internal/abi.NoEscape"], recurses := true, apart := false, narrowed := true }
def SubstAllUptoSaid : Prop := substAllUptoRow.holds Try.pinned (OpenSpec.upto substAllSpec)

/-- 'graticulelaw13.SubstNone', WHERE WHAT IT READS IS OF BULK AT MOST 1048576: true; the input reads as it did. -/
def substNoneUptoRow : OpenClaim := { program := "ytelbabgkpflckaa", sum := "f5198ac714236df0e43147d1222ef97b851fe51fb55c1915917ead1eb8783a3f", func := "graticule/graticulelaw13.SubstNone", spec := "substNone", inPlace := ["internal/bytealg.IndexByteString", "internal/abi.NoEscape"], recurses := true, apart := false, narrowed := true }
def SubstNoneUptoSaid : Prop := substNoneUptoRow.holds Try.pinned (OpenSpec.upto substNoneSpec)

end Rows
end Go.Proofs.Ytelbabgkpflckaa
