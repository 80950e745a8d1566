/-
  CONTRACTS: package name: Join, File, Of, Node, for every text.
-/
import Derived.Test.YtobkddekfcgclaaDoorNmFn
namespace Go.Proofs.YtobkddekfcgclaaDoor
open Go.RowKit
open Me

/-- One more text behind what a Builder holds. -/
theorem write_more {base b : Nat} {l : List UInt8} (s : List UInt8) (hl : l.length + s.length ≤ 140737488355328) (r : List UInt8) (hr : r = l ++ s) (W : World) (h : Bld base b l W) (hB : base ≤ W.heap.size) :
    Calls Tryd.prog 69 #[.pointer (some ⟨b, 0, none⟩), .string ⟨s.toArray⟩] W fun e w' => e = .returned (.tuple #[.int .i64 s.length, .nilIface]) ∧ Hid (Bld base b r w') ∧ Below base W w' := by
  subst hr
  refine (write_str h s hl hB).mono ?_
  rintro e w' ⟨rfl, h1, h2⟩
  exact ⟨rfl, Lib.hid h1, h2⟩

/-- A tuple of a text and a bool. -/
def strBool (s : List UInt8) (b : Bool) : Ending := .returned (.tuple #[.string ⟨s.toArray⟩, .bool b])
theorem strBool_eq {s s' : List UInt8} {b b' : Bool} (h1 : s = s') (h2 : b = b') : Ending.returned (.tuple #[.string ⟨s.toArray⟩, .bool b]) = strBool s' b' := by rw [h1, h2]; rfl

end Go.Proofs.YtobkddekfcgclaaDoor
