/-
  LAID BY THE SHELF's COMMAND: where the library's own slices.Clone stands at this seat.
-/
import Derived.Shelf.SlGeneric
import Derived.Shelf.SlicesE.Clone
import Derived.Test.YtedppnejkjcplaaProg
namespace Go.Proofs
open Go.Shelf
def Try.pkClone_ren : Go.Shelf.Ren := ⟨fun | 41 => 48 | n => n, fun | 22 => 28 | 23 => 3 | 4 => 4 | n => n, fun | n => n⟩
theorem Try.pkClone : Go.Proofs.SlLaysE0.n41 Try.prog Try.pkClone_ren := {
  mixed := by kernel_rfl
  f41 := ⟨Try.f48.name, by decide, Try.func48.trans (congrArg some (by kernel_rfl))⟩
  t4 := Try.underlying4
  a4 := Try.isAgg4
  z4 := Try.sizeOf4
  v4 := Try.zeroValue4
  t22 := Try.underlying28
  a22 := Try.isAgg28
  z22 := Try.sizeOf28
  v22 := Try.zeroValue28 }
end Go.Proofs
