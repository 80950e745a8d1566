/-
  CONTRACTS: the document's own functions of chapter 2.
-/
import Derived.Test.YtojmcndiooiehaaDoorRows
import Derived.Test.YtojmcndiooiehaaDoorDcPure
import Derived.WalkKit
import Derived.WalkSpells
import Derived.WalkLawsBesides
import Derived.Deep.QuietTactic
import Derived.BigQuiet
import Derived.Lib.QuietBelow
import Derived.Lib.Hide
namespace Go.Proofs.YtojmcndiooiehaaDoor
set_option maxRecDepth 20000
open Go.RowKit

theorem ret2_ib {a b : Int} {c d : Bool} (h : a = b) (k : c = d) : Ending.returned (.tuple #[.int .i64 a, .bool c]) = .returned (.tuple #[.int .i64 b, .bool d]) := by rw [h, k]
theorem ret_i64 {a b : Int} (h : a = b) : Ending.returned (.int .i64 a) = .returned (.int .i64 b) := by rw [h]
theorem ret_str {a b : ByteArray} (h : a = b) : Ending.returned (.string a) = .returned (.string b) := by rw [h]
theorem ret_bool {a b : Bool} (h : a = b) : Ending.returned (.bool a) = .returned (.bool b) := by rw [h]

/-- How long a string is: for a loop's measure. -/
def strLen : Value → Nat | .string b => b.size | _ => 0
theorem cat_mk (a b : List UInt8) : (⟨a.toArray⟩ : ByteArray) ++ ⟨b.toArray⟩ = ⟨(a ++ b).toArray⟩ := by
  apply ByteArray.ext
  simp
theorem ext_mk (l : List UInt8) (a b : Nat) : (⟨l.toArray⟩ : ByteArray).extract a b = ⟨((l.drop a).take (b - a)).toArray⟩ := by
  apply ByteArray.ext
  rw [ByteArray.data_extract, List.extract_toArray]
theorem ext_from (l : List UInt8) (a b : Nat) (h : l.length ≤ b) : (⟨l.toArray⟩ : ByteArray).extract a b = ⟨(l.drop a).toArray⟩ := by
  rw [ext_mk, List.take_of_length_le (by rw [List.length_drop]; omega)]

/-- What holds at every turn of whole. -/
def WRel (l : List UInt8) (k : Nat) (n : Int) : Prop := ∃ m : Nat, n = (m : Int) ∧ Dc.wholeGo 0 l = Dc.wholeGo m (l.drop k) ∧ m ≤ 4611686018427387899

theorem head_mk (c : UInt8) (r : List UInt8) : (((⟨(c :: r).toArray⟩ : ByteArray)[0]'(by simp [ByteArray.size])).toNat == 45) = (c == 45) := by
  show (c.toNat == 45) = (c == 45)
  rw [Bool.eq_iff_iff, beq_iff_eq, beq_iff_eq]
  exact ⟨fun h => UInt8.toNat_inj.1 h, fun h => by rw [h]; rfl⟩

end Go.Proofs.YtojmcndiooiehaaDoor
