/-
  CONTRACTS: chapter 14: which bytes may be in a word, on both sides; Ident.
-/
import Derived.Test.YtojmcndiooiehaaDoorLxLib
namespace Go.Proofs.YtojmcndiooiehaaDoor
open Go.RowKit
open Me

namespace Lx
/-- What may be in a name (chapter 8). -/
def isB (c : UInt8) : Bool := isI c || ([45, 58, 35, 37, 64, 61] : List UInt8).contains c
theorem inW_B (c : UInt8) : inW c = (isB c || extra2.contains c) := by
  unfold inW isB
  rw [Bool.or_assoc]
  congr 1
  unfold extra extra2
  simp only [List.contains_cons, List.contains_nil, Bool.or_false]
  simp only [Bool.or_assoc]
/-- A byte of a text. -/
theorem byte_at {s : List UInt8} {i : Nat} {c : UInt8} (h : s[i]? = some c) : ∃ z : i < (⟨s.toArray⟩ : ByteArray).size, (⟨s.toArray⟩ : ByteArray)[i]'z = c := by
  obtain ⟨hi, hc⟩ := List.getElem?_eq_some_iff.1 h
  have zl : (⟨s.toArray⟩ : ByteArray).size = s.length := by show s.toArray.size = _; simp
  exact ⟨by omega, hc⟩
theorem eq_nat (c k : UInt8) : (c == k) = decide (c.toNat = k.toNat) := by
  by_cases h : c = k
  · subst h; simp
  · rw [decide_eq_false (fun e => h (UInt8.toNat_inj.1 e))]
    simpa using h
end Lx

set_option maxHeartbeats 1000000 in
theorem isLetter_any (c : UInt8) (w : World) :
    Calls Tryd.prog 48 #[.int .u8 (c.toNat : Int)] w fun e w' => e = .returned (.bool (Lx.isL c)) ∧ w = w' := by
  have HQ : Hid (Lx.isL c = ((decide (65 ≤ c.toNat) && decide (c.toNat ≤ 90)) || (decide (97 ≤ c.toNat) && decide (c.toNat ≤ 122)))) := Lib.hid rfl
  generalize Lx.isL c = R at *
  generalize c.toNat = n at *
  go_enter Tryd.func48, Tryd.ntmps48
  go_wp2_with fail
  all_goals
    go_ret
    refine ⟨Lx.ret_bool ?_, rfl⟩
    rw [HQ.out, Bool.eq_iff_iff]
    simp
    try omega

set_option maxHeartbeats 1000000 in
theorem isOfIdent_any (c : UInt8) (w : World) :
    Calls Tryd.prog 47 #[.int .u8 (c.toNat : Int)] w fun e w' => e = .returned (.bool (Lx.isI c)) ∧ w = w' := by
  have HQ : Hid (Lx.isI c = (Lx.isL c || (decide (48 ≤ c.toNat) && decide (c.toNat ≤ 57)) || decide (c.toNat = 95))) := Lib.hid (by unfold Lx.isI; rw [Lx.eq_nat]; rfl)
  have HL := Lib.hid fun W => isLetter_any c W
  generalize Lx.isI c = R at *
  generalize Lx.isL c = L at *
  generalize c.toNat = n at *
  cases L
  all_goals
    go_enter Tryd.func47, Tryd.ntmps47
    go_wp2_with (go_at_call 48; go_must (refine (HL.out _).mono ?_; rintro e w2 ⟨rfl, rfl⟩))
    all_goals
      go_ret
      refine ⟨Lx.ret_bool ?_, rfl⟩
      rw [HQ.out, Bool.eq_iff_iff]
      simp
      try omega

set_option maxHeartbeats 2000000 in
theorem mayStand_any (c : UInt8) (d : Int) (w : World) :
    Calls Tryd.prog 46 #[.int .u8 (c.toNat : Int), .int .i64 d] w fun e w' => e = .returned (.bool (Lx.may c d)) ∧ w = w' := by
  have HQ : Hid (Lx.may c d = ((Lx.isI c || decide (0 ≤ Lib.indexByte Lx.extra c)) || (decide (0 < d) && decide (c.toNat = 44)))) := Lib.hid (by unfold Lx.may Lx.inW; rw [Lx.index_has, Lx.eq_nat]; rfl)
  have HI := Lib.hid fun W => isOfIdent_any c W
  have HX : Hid (∀ W, Calls Tryd.prog 61 #[.string ⟨#[45, 58, 35, 37, 64, 61, 46, 42, 63, 91, 93, 123, 125, 43]⟩, .int .u8 (c.toNat : Int)] W fun e w' => e = .returned (.int .i64 (Lib.indexByte Lx.extra c)) ∧ w' = W) := Lib.hid fun W => indexByte_at Lx.extra c W
  generalize Lx.may c d = R at *
  generalize Lib.indexByte Lx.extra c = X at *
  generalize Lx.isI c = L at *
  generalize c.toNat = n at *
  cases L
  all_goals
    go_enter Tryd.func46, Tryd.ntmps46
    go_wp2_with first
      | (go_at_call 47; go_must (refine (HI.out _).mono ?_; rintro e w2 ⟨rfl, rfl⟩))
      | (go_at_call 61; go_must (refine (HX.out _).mono ?_; rintro e w2 ⟨rfl, rfl⟩))
    all_goals
      go_ret
      refine ⟨Lx.ret_bool ?_, rfl⟩
      rw [HQ.out, Bool.eq_iff_iff]
      simp
      try omega

end Go.Proofs.YtojmcndiooiehaaDoor
