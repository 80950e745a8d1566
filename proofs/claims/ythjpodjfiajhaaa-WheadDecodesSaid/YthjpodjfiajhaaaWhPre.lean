/-
  CONTRACTS: bytes.Equal and bytes.HasPrefix over slices that read as lists.
-/
import Derived.Test.YthjpodjfiajhaaaWhEnc
import Derived.Laws.IdiomStrings
import Derived.Lib.BufferRead
namespace Go.Proofs.Ythjpodjfiajhaaa
open Go.RowKit Go.Sort
open Me

set_option maxHeartbeats 400000 in
theorem equal_any (v v' : Value) (l m : List UInt8) (w : World) (h1 : Reads w v l) (h2 : Reads w v' m) :
    Calls Try.prog 20 #[v, v'] w fun e w' => e = .returned (.bool (decide (l = m))) ∧ w = w' := by
  have c1 := h1.conv
  have c2 := h2.conv
  clear h1 h2
  by_cases hlm : l = m
  · subst hlm
    go_enter Try.func20, Try.ntmps20
    go_wp2
    go_ret
    exact ⟨by simp, rfl⟩
  · have HD := Lib.hid (decide_eq_false hlm)
    have hbe : (l == m) = false := by simp [hlm]
    clear hlm
    go_enter Try.func20, Try.ntmps20
    go_wp2
    go_ret
    exact ⟨by rw [HD.out]; rfl, rfl⟩

set_option maxHeartbeats 400000 in
theorem hasPrefix_any (A A' : Option Addr) (L E : List UInt8) (c c' : Nat) (w : World) (h1 : Reads w (.slice A L.length c) L) (h2 : Reads w (.slice A' E.length c') E) :
    Calls Try.prog 10 #[.slice A L.length c, .slice A' E.length c'] w fun e w' => e = .returned (.bool (decide (E.length ≤ L.length ∧ L.take E.length = E))) ∧ w = w' := by
  have hcl : L.length ≤ c := by
    obtain ⟨_, _, e, hc, _⟩ := h1
    injection e with _ _ e3
    omega
  by_cases hn : E.length ≤ L.length
  · have HE := Lib.hid (equal_any (.slice A E.length c) (.slice A' E.length c') (L.take E.length) E w (h1.take hn) h2)
    have HD : Hid (decide (E.length ≤ L.length ∧ L.take E.length = E) = decide (L.take E.length = E)) := Lib.hid (by simp [hn])
    generalize decide (L.take E.length = E) = r at *
    have hnI : (E.length : Int) ≤ (L.length : Int) := by omega
    have hnc : E.length ≤ c := by omega
    clear h1 h2
    go_enter Try.func10, Try.ntmps10
    go_wp2_with (go_at_call 20; go_must (refine (HE.out).mono ?_; rintro e w' ⟨rfl, rfl⟩))
    go_ret
    exact ⟨by rw [HD.out]; rfl, rfl⟩
  · have HD : Hid (decide (E.length ≤ L.length ∧ L.take E.length = E) = false) := Lib.hid (by simp [hn])
    have hnI : (L.length : Int) < (E.length : Int) := by omega
    clear h1 h2
    go_enter Try.func10, Try.ntmps10
    go_wp2_with fail
    go_ret
    exact ⟨by rw [HD.out]; rfl, rfl⟩
end Go.Proofs.Ythjpodjfiajhaaa
