/-
  CONTRACTS: chapter 11: what a text begins with, and what is taken off it.
-/
import Derived.Test.YtajijcnfhijanaaRxPairs
import Derived.Lib.Bytealg
import Derived.Laws.Strings3
namespace Go.Proofs.Ytajijcnfhijanaa
open Go.RowKit
open Me

namespace Rx
theorem pre_one (c : UInt8) (l : List UInt8) : List.isPrefixOf [c] l = starts c l := by
  cases l with
  | nil => rfl
  | cons b r => show (c == b && List.isPrefixOf [] r) = (b == c); rw [List.isPrefixOf_nil_left, Bool.and_true, Bool.beq_comm]
theorem eq_pre (l p : List UInt8) (h : p.length ≤ l.length) : ((((⟨l.toArray⟩ : ByteArray).extract 0 p.length).toList == p) : Bool) = p.isPrefixOf l := by
  rw [Lib.extract_toList]
  simp only [List.drop_zero, Nat.sub_zero]
  show (l.take p.length == p) = _
  induction p generalizing l with
  | nil => simp
  | cons c p ih =>
    cases l with
    | nil => simp at h
    | cons b r =>
      have := ih r (by simpa using h)
      show ((b == c) && (r.take p.length == p)) = ((c == b) && p.isPrefixOf r)
      rw [this, Bool.beq_comm]
theorem pre_short (l p : List UInt8) (h : l.length < p.length) : p.isPrefixOf l = false := by
  cases hb : p.isPrefixOf l
  · rfl
  · have := (List.isPrefixOf_iff_prefix.1 hb).length_le
    omega
theorem retb {a b : Bool} (h : a = b) : Ending.returned (.bool a) = .returned (.bool b) := by rw [h]
end Rx

set_option maxHeartbeats 400000 in
theorem rPrefix_any (l p : List UInt8) (w : World) :
    Calls Try.prog 37 #[.string ⟨l.toArray⟩, .string ⟨p.toArray⟩] w fun e w' => e = .returned (.bool (p.isPrefixOf l)) ∧ w = w' := by
  by_cases h : p.length ≤ l.length
  · have hI : (p.length : Int) ≤ (l.length : Int) := by omega
    have HE := Lib.hid (Rx.eq_pre l p h)
    go_enter Try.func37, Try.ntmps37
    go_wp2_with fail
    go_ret
    refine ⟨Rx.retb ?_, rfl⟩
    rw [← HE.out]
  · have hI : ¬ (p.length : Int) ≤ (l.length : Int) := by omega
    have HE := Lib.hid (Rx.pre_short l p (by omega))
    go_enter Try.func37, Try.ntmps37
    go_wp2_with fail
    go_ret
    exact ⟨Rx.retb HE.out.symm, rfl⟩

theorem sPrefix_any (l p : List UInt8) (w : World) :
    Calls Try.prog 31 #[.string ⟨l.toArray⟩, .string ⟨p.toArray⟩] w fun e w' => e = .returned (.bool (p.isPrefixOf l)) ∧ w = w' := by
  have HP := Lib.hid fun W => rPrefix_any l p W
  generalize p.isPrefixOf l = R at *
  go_enter Try.func31, Try.ntmps31
  go_wp2_with (go_at_call 37; go_must (refine (HP.out _).mono ?_; rintro e w' ⟨rfl, rfl⟩))
  go_ret
  exact ⟨rfl, rfl⟩

namespace Rx
def cutP (p l : List UInt8) : List UInt8 := if p.isPrefixOf l then l.drop p.length else l
end Rx

set_option maxHeartbeats 400000 in
theorem rCut_any (l p : List UInt8) (w : World) :
    Calls Try.prog 35 #[.string ⟨l.toArray⟩, .string ⟨p.toArray⟩] w fun e w' => e = .returned (.tuple #[.string ⟨(Rx.cutP p l).toArray⟩, .bool (p.isPrefixOf l)]) ∧ w = w' := by
  have HP := Lib.hid fun W => rPrefix_any l p W
  have HC : Hid (Rx.cutP p l = if p.isPrefixOf l then l.drop p.length else l) := Lib.hid rfl
  have HS := Lib.hid fun h => Rx.pre_short l p h
  generalize Rx.cutP p l = C at *
  cases hb : p.isPrefixOf l
  · rw [hb] at HP HC
    have HC2 : Hid (C = l) := Lib.hid HC.out
    clear HS hb HC
    go_enter Try.func35, Try.ntmps35
    go_wp2_with (go_at_call 37; go_must (refine (HP.out _).mono ?_; rintro e w' ⟨rfl, rfl⟩))
    ((try simp only [Exit.inBlock, Exit.then]); refine bodyPost_ret (results_tmp2 rfl _ _ _) rfl ?_)
    exact ⟨by rw [HC2.out]; rfl, rfl⟩
  · rw [hb] at HP HC
    have hle : p.length ≤ l.length := by
      rcases Nat.lt_or_ge l.length p.length with h | h
      · have := HS.out h; rw [hb] at this; cases this
      · exact h
    have hleI : (p.length : Int) ≤ (l.length : Int) := by omega
    have HC2 : Hid (C = l.drop p.length) := Lib.hid HC.out
    have HX : Hid (((⟨l.toArray⟩ : ByteArray).extract p.length l.length) = ⟨(l.drop p.length).toArray⟩) := Lib.hid (by
      apply ByteArray.ext
      rw [ByteArray.data_extract]
      apply Array.toList_inj.1
      simp [List.take_of_length_le])
    clear HS hb HC
    go_enter Try.func35, Try.ntmps35
    go_wp2_with (go_at_call 37; go_must (refine (HP.out _).mono ?_; rintro e w' ⟨rfl, rfl⟩))
    ((try simp only [Exit.inBlock, Exit.then]); refine bodyPost_ret (results_tmp2 rfl _ _ _) rfl ?_)
    exact ⟨by rw [HC2.out, ← HX.out]; rfl, rfl⟩

theorem sCut_any (l p : List UInt8) (w : World) :
    Calls Try.prog 28 #[.string ⟨l.toArray⟩, .string ⟨p.toArray⟩] w fun e w' => e = .returned (.tuple #[.string ⟨(Rx.cutP p l).toArray⟩, .bool (p.isPrefixOf l)]) ∧ w = w' := by
  have HP := Lib.hid fun W => rCut_any l p W
  generalize p.isPrefixOf l = R at *
  generalize Rx.cutP p l = C at *
  go_enter Try.func28, Try.ntmps28
  go_wp2_with (go_at_call 35; go_must (refine (HP.out _).mono ?_; rintro e w' ⟨rfl, rfl⟩))
  ((try simp only [Exit.inBlock, Exit.then]); refine bodyPost_ret (results_tmp2 rfl _ _ _) rfl ?_)
  exact ⟨rfl, rfl⟩

end Go.Proofs.Ytajijcnfhijanaa
