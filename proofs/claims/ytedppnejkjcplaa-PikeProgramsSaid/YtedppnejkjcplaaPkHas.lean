/-
  CONTRACTS: chapter 12 stands on Has of chapter 11, on both sides: for every text.
-/
import Derived.Test.YtedppnejkjcplaaPkMem
namespace Go.Proofs.Ytedppnejkjcplaa
open Go.RowKit
open Me

namespace Pk
theorem retb {a b : Bool} (h : a = b) : Ending.returned (.bool a) = .returned (.bool b) := by rw [h]
def sLen : Value → Nat | .string s => s.size | _ => 0
theorem has_two (a b c : UInt8) (r : List UInt8) : Rx.has (a :: b :: r) c = ((decide (a ≤ c) && decide (c ≤ b)) || Rx.has r c) := rfl
theorem le8 (a c : UInt8) : decide (a ≤ c) = decide (a.toNat ≤ c.toNat) := by
  apply decide_eq_decide.2
  exact UInt8.le_iff_toNat_le
theorem drop2 (a b : UInt8) (r : List UInt8) : (⟨(a :: b :: r).toArray⟩ : ByteArray).extract 2 (r.length + 1 + 1) = ⟨r.toArray⟩ := by
  apply ByteArray.ext
  rw [ByteArray.data_extract]
  simp
end Pk

set_option maxHeartbeats 1000000 in
theorem pkHas_any (l : List UInt8) (c : UInt8) (w : World) :
    Calls Try.prog 68 #[.string ⟨l.toArray⟩, .int .u8 (c.toNat : Int)] w fun e w' => e = .returned (.bool (Rx.has l c)) ∧ w = w' := by
  have HR0 := Lib.hid (rfl : Rx.has l c = Rx.has l c)
  obtain ⟨R, HR⟩ : ∃ R, Hid (Rx.has l c = R) := ⟨_, Lib.hid rfl⟩
  rw [HR.out]
  clear HR0
  go_enter Try.func68, Try.ntmps68
  go_wp2_with fail
  go_loopw [0] (fun x wr => ∃ m : List UInt8, x = .string ⟨m.toArray⟩ ∧ Hid (Rx.has m c = R) ∧ Hid (w = wr)) (fun x _ => Pk.sLen x)
  case atStart => exact ⟨l, rfl, HR, Lib.hid rfl⟩
  case round =>
    obtain ⟨m, rfl, HM, HW⟩ := hrel
    cases m with
    | nil =>
      have HQ : Hid (false = R) := Lib.hid HM.out
      go_wp2_with fail
      go_ret
      exact ⟨Pk.retb HQ.out, HW.out⟩
    | cons a m =>
      cases m with
      | nil =>
        have HQ : Hid (false = R) := Lib.hid HM.out
        go_wp2_with fail
        go_ret
        exact ⟨Pk.retb HQ.out, HW.out⟩
      | cons b r =>
        have HM2 : Hid (((decide (a.toNat ≤ c.toNat) && decide (c.toNat ≤ b.toNat)) || Rx.has r c) = R) := Lib.hid (by rw [← Pk.le8, ← Pk.le8]; exact HM.out)
        have hI : ¬ ((a :: b :: r).length : Int) < 2 := by simp; omega
        have hI2 : (2 : Int) ≤ ((a :: b :: r).length : Int) := by simp; omega
        have HD := Lib.hid (Pk.drop2 a b r)
        have z0 : 0 < (⟨(a :: b :: r).toArray⟩ : ByteArray).size := by show 0 < (a :: b :: r).toArray.size; simp
        have z1 : 1 < (⟨(a :: b :: r).toArray⟩ : ByteArray).size := by show 1 < (a :: b :: r).toArray.size; simp
        have g0 : (⟨(a :: b :: r).toArray⟩ : ByteArray)[0]'z0 = a := rfl
        have g1 : (⟨(a :: b :: r).toArray⟩ : ByteArray)[1]'z1 = b := rfl
        have HN : Hid (Rx.has r c = R → ∃ m : List UInt8, Value.string ((⟨(a :: b :: r).toArray⟩ : ByteArray).extract 2 (r.length + 1 + 1)) = .string ⟨m.toArray⟩ ∧ Hid (Rx.has m c = R) ∧ Hid (w = wr)) := Lib.hid fun h => ⟨r, by rw [HD.out], Lib.hid h, HW⟩
        have HN2 : Hid (Pk.sLen (Value.string ((⟨(a :: b :: r).toArray⟩ : ByteArray).extract 2 (r.length + 1 + 1))) < Pk.sLen (.string ⟨(a :: b :: r).toArray⟩)) := Lib.hid (by rw [HD.out]; show r.toArray.size < (a :: b :: r).toArray.size; simp; omega)
        by_cases h1 : a.toNat ≤ c.toNat
        · have h1I : (a.toNat : Int) ≤ (c.toNat : Int) := by omega
          by_cases h2 : c.toNat ≤ b.toNat
          · have h2I : (c.toNat : Int) ≤ (b.toNat : Int) := by omega
            have HQ : Hid (true = R) := Lib.hid (by rw [← HM2.out]; simp [h1, h2])
            clear h1 h2
            go_wp2_with fail
            go_ret
            exact ⟨Pk.retb HQ.out, HW.out⟩
          · have h2I : ¬ (c.toNat : Int) ≤ (b.toNat : Int) := by omega
            have HQ : Hid (Rx.has r c = R) := Lib.hid (by rw [← HM2.out]; simp [h1, h2])
            clear h1 h2
            go_wp2_with fail
            go_roundw
            case rel => exact HN.out HQ.out
            case measure => exact HN2.out
        · have h1I : ¬ (a.toNat : Int) ≤ (c.toNat : Int) := by omega
          have HQ : Hid (Rx.has r c = R) := Lib.hid (by rw [← HM2.out]; simp [h1])
          clear h1
          go_wp2_with fail
          go_roundw
          case rel => exact HN.out HQ.out
          case measure => exact HN2.out

set_option maxHeartbeats 1000000 in
theorem pkRefHas_any (l : List UInt8) (hl : l.length ≤ 1048576) (c : UInt8) (w : World) :
    Calls Try.prog 50 #[.string ⟨l.toArray⟩, .int .u8 (c.toNat : Int)] w fun e w' => e = .returned (.bool (Rx.has l c)) ∧ w = w' := by
  obtain ⟨R, HR⟩ : ∃ R, Hid (Rx.has l c = R) := ⟨_, Lib.hid rfl⟩
  rw [HR.out]
  go_enter Try.func50, Try.ntmps50
  go_wp2_with fail
  go_loopw [5] (fun x wr => ∃ k : Nat, x = .int .i64 k ∧ k ≤ l.length + 1 ∧ Hid (Rx.has (l.drop k) c = R) ∧ Hid (w = wr)) (fun x _ => l.length + 1 - (intOf x).toNat)
  case atStart => exact ⟨0, rfl, by omega, Lib.hid HR.out, Lib.hid rfl⟩
  case round =>
    obtain ⟨k, rfl, hk, HM, HW⟩ := hrel
    have hwk : IntKind.i64.wrap ((k : Int) + 1) = ((k + 1 : Nat) : Int) := by rw [IntKind.wrap_i64]; omega
    have hwk2 : IntKind.i64.wrap ((k : Int) + 2) = ((k + 2 : Nat) : Int) := by rw [IntKind.wrap_i64]; omega
    by_cases hgo : k + 1 < l.length
    · have hgI : ((k + 1 : Nat) : Int) < (l.length : Int) := by omega
      have hk0 : (0 : Int) ≤ (k : Int) := by omega
      have hk1 : (k : Int) < (l.length : Int) := by omega
      have zl : (⟨l.toArray⟩ : ByteArray).size = l.length := by show l.toArray.size = _; simp
      have z0 : k < (⟨l.toArray⟩ : ByteArray).size := by omega
      have z1 : k + 1 < (⟨l.toArray⟩ : ByteArray).size := by omega
      obtain ⟨a, g0⟩ : ∃ a, (⟨l.toArray⟩ : ByteArray)[k]'z0 = a := ⟨_, rfl⟩
      obtain ⟨b, g1⟩ : ∃ b, (⟨l.toArray⟩ : ByteArray)[k + 1]'z1 = b := ⟨_, rfl⟩
      have HM2 : Hid (((decide (a.toNat ≤ c.toNat) && decide (c.toNat ≤ b.toNat)) || Rx.has (l.drop (k + 2)) c) = R) := Lib.hid (by
        have e : l.drop k = a :: b :: l.drop (k + 2) := by
          rw [List.drop_eq_getElem_cons (by omega : k < l.length), List.drop_eq_getElem_cons (by omega : k + 1 < l.length)]
          rw [← g0, ← g1]
          rfl
        have := HM.out
        rw [e, Pk.has_two, Pk.le8, Pk.le8] at this
        exact this)
      clear zl
      by_cases h1 : a.toNat ≤ c.toNat
      · have h1I : (a.toNat : Int) ≤ (c.toNat : Int) := by omega
        by_cases h2 : c.toNat ≤ b.toNat
        · have h2I : (c.toNat : Int) ≤ (b.toNat : Int) := by omega
          have HQ : Hid (true = R) := Lib.hid (by rw [← HM2.out]; simp [h1, h2])
          go_wp2_with fail
          go_ret
          exact ⟨Pk.retb HQ.out, HW.out⟩
        · have h2I : ¬ (c.toNat : Int) ≤ (b.toNat : Int) := by omega
          have HQ : Hid (Rx.has (l.drop (k + 2)) c = R) := Lib.hid (by rw [← HM2.out]; simp [h1, h2])
          go_wp2_with fail
          go_roundw
          case rel => exact ⟨k + 2, by go_num, by omega, HQ, HW⟩
          case measure => simp [intOf]; omega
      · have h1I : ¬ (a.toNat : Int) ≤ (c.toNat : Int) := by omega
        have HQ : Hid (Rx.has (l.drop (k + 2)) c = R) := Lib.hid (by rw [← HM2.out]; simp [h1])
        go_wp2_with fail
        go_roundw
        case rel => exact ⟨k + 2, by go_num, by omega, HQ, HW⟩
        case measure => simp [intOf]; omega
    · have hgI : ¬ ((k + 1 : Nat) : Int) < (l.length : Int) := by omega
      have HQ : Hid (false = R) := Lib.hid (by
        have := HM.out
        cases hd : l.drop k with
        | nil => rw [hd] at this; exact this
        | cons a t =>
          cases t with
          | nil => rw [hd] at this; exact this
          | cons b r => have := congrArg List.length hd; simp at this; omega)
      go_wp2_with fail
      go_ret
      exact ⟨Pk.retb HQ.out, HW.out⟩
end Go.Proofs.Ytedppnejkjcplaa
