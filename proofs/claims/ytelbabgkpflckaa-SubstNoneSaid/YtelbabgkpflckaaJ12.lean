/-
  RcSix: CONTRACTS: chapter 12, the document's Compile: special, word, six.
-/
import Derived.Test.YtelbabgkpflckaaJ11

set_option linter.unusedSimpArgs false
set_option linter.unusedVariables false
namespace Go.Proofs.Ytelbabgkpflckaa
open Go.RowKit
open Me

set_option maxHeartbeats 1000000 in
theorem refSpecial_any (c : UInt8) (w : World) :
    Calls Try.prog 74 #[.int .u8 (c.toNat : Int)] w fun e w' => e = .returned (.bool (Rc.special c)) ∧ w = w' := by
  obtain ⟨R, hR⟩ : ∃ R, Rc.special c = R := ⟨_, rfl⟩
  rw [hR]
  unfold Rc.special at hR
  obtain ⟨sp, hsp⟩ : ∃ sp : List UInt8, sp = [92, 94, 36, 46, 124, 63, 42, 43, 40, 41, 91] := ⟨_, rfl⟩
  rw [← hsp] at hR
  have hspl : sp.length = 11 := by rw [hsp]; rfl
  have HR := Lib.hid hR
  have HSP : Hid ((⟨#[92, 94, 36, 46, 124, 63, 42, 43, 40, 41, 91]⟩ : ByteArray) = ⟨sp.toArray⟩) := Lib.hid (by rw [hsp])
  clear hR hsp
  go_enter Try.func74, Try.ntmps74
  go_wp2_with fail
  rw [HSP.out]
  go_loopw [4] (fun x wr => ∃ k : Nat, x = .int .i64 k ∧ k ≤ 11 ∧ Hid ((sp.drop k).contains c = R) ∧ Hid (w = wr)) (fun x _ => 11 - (intOf x).toNat)
  case atStart => exact ⟨0, rfl, by omega, Lib.hid HR.out, Lib.hid rfl⟩
  case round =>
    obtain ⟨k, rfl, hk, HM, HW⟩ := hrel
    by_cases hlt : k < 11
    · have hkl : k < sp.length := by omega
      obtain ⟨a, ha⟩ : ∃ a, sp[k] = a := ⟨_, rfl⟩
      have hget : sp[k]? = some a := by rw [List.getElem?_eq_getElem hkl, ha]
      obtain ⟨z0, g0⟩ := Rc.byte_at hget
      have hkI : (k : Int) < (sp.length : Int) := by omega
      have hk0 : (0 : Int) ≤ (k : Int) := by omega
      have HM2 : Hid ((c == a || (sp.drop (k + 1)).contains c) = R) := Lib.hid (by have := HM.out; rw [List.drop_eq_getElem_cons hkl, ha, List.contains_cons] at this; exact this)
      clear hget ha HM hspl
      by_cases he : c = a
      · have heI : (a.toNat : Int) = (c.toNat : Int) := by rw [he]
        have HQ : Hid (true = R) := Lib.hid (by rw [← HM2.out, he]; simp)
        clear he
        go_wp2_with fail
        go_ret
        exact ⟨by rw [← HQ.out]; rfl, HW.out⟩
      · have heI : ¬ (a.toNat : Int) = (c.toNat : Int) := fun e => he (UInt8.toNat_inj.1 (by omega))
        have HQ : Hid ((sp.drop (k + 1)).contains c = R) := Lib.hid (by rw [← HM2.out]; simp [he])
        clear he
        go_wp2_with fail
        go_roundw
        case rel => exact ⟨k + 1, by go_num, by omega, HQ, HW⟩
        case measure => simp [intOf]; omega
    · obtain rfl : k = 11 := by omega
      have hkI : ¬ (11 : Int) < (sp.length : Int) := by omega
      have HQ : Hid (false = R) := Lib.hid (by rw [← HM.out, List.drop_eq_nil_of_le (by omega)]; rfl)
      clear HM
      go_wp2_with fail
      go_ret
      exact ⟨by rw [← HQ.out]; rfl, HW.out⟩

namespace Rc
def wordN (k : Nat) : Bool := (decide (97 ≤ k) && decide (k ≤ 122)) || (decide (65 ≤ k) && decide (k ≤ 90)) || (decide (48 ≤ k) && decide (k ≤ 57))
end Rc

set_option maxHeartbeats 1000000 in
theorem refWord_any (k : Nat) (w : World) :
    Calls Try.prog 78 #[.int .u8 (k : Int)] w fun e w' => e = .returned (.bool (Rc.wordN k)) ∧ w = w' := by
  have hcase : k < 48 ∨ (48 ≤ k ∧ k ≤ 57) ∨ (57 < k ∧ k < 65) ∨ (65 ≤ k ∧ k ≤ 90) ∨ (90 < k ∧ k < 97) ∨ (97 ≤ k ∧ k ≤ 122) ∨ 122 < k := by omega
  rcases hcase with h | h | h | h | h | h | h
  · have k0 : ¬ (97 : Int) ≤ (k : Int) := by omega
    have k1 : (k : Int) ≤ (122 : Int) := by omega
    have k2 : ¬ (65 : Int) ≤ (k : Int) := by omega
    have k3 : (k : Int) ≤ (90 : Int) := by omega
    have k4 : ¬ (48 : Int) ≤ (k : Int) := by omega
    have k5 : (k : Int) ≤ (57 : Int) := by omega
    have HQ : Hid (Rc.wordN k = false) := Lib.hid (by unfold Rc.wordN; simp; omega)
    rw [HQ.out]
    go_enter Try.func78, Try.ntmps78
    go_wp2_with fail
    go_ret
    exact ⟨rfl, rfl⟩
  · have k0 : ¬ (97 : Int) ≤ (k : Int) := by omega
    have k1 : (k : Int) ≤ (122 : Int) := by omega
    have k2 : ¬ (65 : Int) ≤ (k : Int) := by omega
    have k3 : (k : Int) ≤ (90 : Int) := by omega
    have k4 : (48 : Int) ≤ (k : Int) := by omega
    have k5 : (k : Int) ≤ (57 : Int) := by omega
    have HQ : Hid (Rc.wordN k = true) := Lib.hid (by unfold Rc.wordN; simp; omega)
    rw [HQ.out]
    go_enter Try.func78, Try.ntmps78
    go_wp2_with fail
    go_ret
    exact ⟨rfl, rfl⟩
  · have k0 : ¬ (97 : Int) ≤ (k : Int) := by omega
    have k1 : (k : Int) ≤ (122 : Int) := by omega
    have k2 : ¬ (65 : Int) ≤ (k : Int) := by omega
    have k3 : (k : Int) ≤ (90 : Int) := by omega
    have k4 : (48 : Int) ≤ (k : Int) := by omega
    have k5 : ¬ (k : Int) ≤ (57 : Int) := by omega
    have HQ : Hid (Rc.wordN k = false) := Lib.hid (by unfold Rc.wordN; simp; omega)
    rw [HQ.out]
    go_enter Try.func78, Try.ntmps78
    go_wp2_with fail
    go_ret
    exact ⟨rfl, rfl⟩
  · have k0 : ¬ (97 : Int) ≤ (k : Int) := by omega
    have k1 : (k : Int) ≤ (122 : Int) := by omega
    have k2 : (65 : Int) ≤ (k : Int) := by omega
    have k3 : (k : Int) ≤ (90 : Int) := by omega
    have k4 : (48 : Int) ≤ (k : Int) := by omega
    have k5 : ¬ (k : Int) ≤ (57 : Int) := by omega
    have HQ : Hid (Rc.wordN k = true) := Lib.hid (by unfold Rc.wordN; simp; omega)
    rw [HQ.out]
    go_enter Try.func78, Try.ntmps78
    go_wp2_with fail
    go_ret
    exact ⟨rfl, rfl⟩
  · have k0 : ¬ (97 : Int) ≤ (k : Int) := by omega
    have k1 : (k : Int) ≤ (122 : Int) := by omega
    have k2 : (65 : Int) ≤ (k : Int) := by omega
    have k3 : ¬ (k : Int) ≤ (90 : Int) := by omega
    have k4 : (48 : Int) ≤ (k : Int) := by omega
    have k5 : ¬ (k : Int) ≤ (57 : Int) := by omega
    have HQ : Hid (Rc.wordN k = false) := Lib.hid (by unfold Rc.wordN; simp; omega)
    rw [HQ.out]
    go_enter Try.func78, Try.ntmps78
    go_wp2_with fail
    go_ret
    exact ⟨rfl, rfl⟩
  · have k0 : (97 : Int) ≤ (k : Int) := by omega
    have k1 : (k : Int) ≤ (122 : Int) := by omega
    have k2 : (65 : Int) ≤ (k : Int) := by omega
    have k3 : ¬ (k : Int) ≤ (90 : Int) := by omega
    have k4 : (48 : Int) ≤ (k : Int) := by omega
    have k5 : ¬ (k : Int) ≤ (57 : Int) := by omega
    have HQ : Hid (Rc.wordN k = true) := Lib.hid (by unfold Rc.wordN; simp; omega)
    rw [HQ.out]
    go_enter Try.func78, Try.ntmps78
    go_wp2_with fail
    go_ret
    exact ⟨rfl, rfl⟩
  · have k0 : (97 : Int) ≤ (k : Int) := by omega
    have k1 : ¬ (k : Int) ≤ (122 : Int) := by omega
    have k2 : (65 : Int) ≤ (k : Int) := by omega
    have k3 : ¬ (k : Int) ≤ (90 : Int) := by omega
    have k4 : (48 : Int) ≤ (k : Int) := by omega
    have k5 : ¬ (k : Int) ≤ (57 : Int) := by omega
    have HQ : Hid (Rc.wordN k = false) := Lib.hid (by unfold Rc.wordN; simp; omega)
    rw [HQ.out]
    go_enter Try.func78, Try.ntmps78
    go_wp2_with fail
    go_ret
    exact ⟨rfl, rfl⟩

namespace Rc
open Rx (cel St)
/-- What six leaves. -/
def SixR (w : World) (e : Ending) (w' : World) : Prop := (∃ (m : St) (ok : Bool), e = .returned (.tuple #[.agg (cel m), .bool ok])) ∧ Below w.heap.size w w'
end Rc

set_option maxRecDepth 100000 in
set_option maxHeartbeats 8000000 in
theorem six_any (c : UInt8) (w : World) :
    Calls Try.prog 77 #[.int .u8 (c.toNat : Int)] w (Rc.SixR w) := by
  obtain ⟨n, hn⟩ : ∃ n, n = c.toNat := ⟨_, rfl⟩
  rw [← hn]
  clear hn
  have HWD := Lib.hid fun (k : Nat) (W : World) => refWord_any k W
  obtain ⟨b, hb⟩ : ∃ b, b = w.heap.size := ⟨_, rfl⟩
  obtain ⟨w0, hw0⟩ : ∃ w0, w0 = (w.alloc (.cells Try.zeroCells125 125)).alloc (.cells Try.zeroCells125 125) := ⟨_, rfl⟩
  have HR0 : Hid (RowAt w0 b 125 (Rx.cel Rx.none_)) := Lib.hid (by rw [hw0, ← z_b256, hb]; exact (RowAt.new w _ _).alloc _)
  have HR1 : Hid (RowAt w0 (b + 1) 125 (Rx.cel Rx.none_)) := Lib.hid (by rw [hw0, ← z_b256, hb]; exact RowAt.new' (by simp))
  have HB0 : Hid (Below w.heap.size w w0) := Lib.hid (by rw [hw0]; exact ((Below.refl _ _).alloc (Nat.le_refl _) _).alloc (by simp) _)
  have HBB := Lib.hid hb
  go_enter Try.func77, Try.ntmps77
  go_wp2_with fail
  rw [← hw0, ← hb]
  clear hw0 hb
  go_loopw [5] (fun x wr => ∃ k : Nat, x = .int .i64 k ∧ k ≤ 256 ∧ Hid (∃ m, RowAt wr (b + 1) 125 (Rx.cel m)) ∧ Hid (Kp (fun i => i = b + 1) w0 wr)) (fun x _ => 256 - (intOf x).toNat)
  case atStart => exact ⟨0, rfl, by omega, Lib.hid ⟨_, HR1.out⟩, Lib.hid (Kp.refl _ _)⟩
  case round =>
    obtain ⟨k, rfl, hk, HM, HK⟩ := hrel
    obtain ⟨m, hm⟩ := HM.out
    have HW := Lib.hid hm
    clear HM
    have hr0 : RowAt wr b 125 (Rx.cel Rx.none_) := (HK.out.block b HR0.out.lt (by omega)).trans HR0.out
    have HRES := Lib.hid hr0
    have HBE : Hid (Below w.heap.size w wr) := Lib.hid (HB0.out.trans (HK.out.below (by have := HB0.out.size; omega) (fun i hi e => by have := HBB.out; omega)))
    have hlb := hm.lt
    clear hr0
    by_cases hlt : k < 256
    · have hkI : (k : Int) < 256 := by omega
      have hk0 : (0 : Int) ≤ (k : Int) := by omega
      have hu8 : IntKind.u8.wrap (k : Int) = (k : Int) := by rw [IntKind.wrap_u8]; omega
      have hc : wr.cell? ⟨b + 1, k, none⟩ = some (.bool (m k)) := (hm.cell k).trans (Rx.cel_at _ k hlt)
      have hf := hm.frozen k
      clear hm
      by_cases h100 : n = 100
      · have j0 : ((n : Int) = 100) = True := eq_true (by omega)
        have j0b : ((n : Int) == 100) = true := by simp [j0]
        have j1 : ¬ (n : Int) = 68 := by omega
        have j1b : ((n : Int) == 68) = false := by simpa using j1
        have j2 : ¬ (n : Int) = 119 := by omega
        have j2b : ((n : Int) == 119) = false := by simpa using j2
        have j3 : ¬ (n : Int) = 87 := by omega
        have j3b : ((n : Int) == 87) = false := by simpa using j3
        have j4 : ¬ (n : Int) = 115 := by omega
        have j4b : ((n : Int) == 115) = false := by simpa using j4
        have j5 : ¬ (n : Int) = 83 := by omega
        have j5b : ((n : Int) == 83) = false := by simpa using j5
        have j9 : (97 : Int) ≤ (n : Int) := by omega
        clear h100
        by_cases q1 : k < 48
        · have i1 : ¬ (48 : Int) ≤ (k : Int) := by omega
          go_wp2_with fail
          go_roundw
          case rel => exact ⟨k + 1, by go_num, by omega, Lib.hid ⟨_, Rc.turned HW.out k _⟩, Lib.hid (HK.out.setCell _ (.inr rfl) _)⟩
          case measure => simp [intOf]; omega
        · by_cases q2 : k ≤ 57
          · have i1 : (48 : Int) ≤ (k : Int) := by omega
            have i2 : (k : Int) ≤ 57 := by omega
            go_wp2_with fail
            go_roundw
            case rel => exact ⟨k + 1, by go_num, by omega, Lib.hid ⟨_, Rc.turned HW.out k _⟩, Lib.hid (HK.out.setCell _ (.inr rfl) _)⟩
            case measure => simp [intOf]; omega
          · have i1 : (48 : Int) ≤ (k : Int) := by omega
            have i2 : ¬ (k : Int) ≤ 57 := by omega
            go_wp2_with fail
            go_roundw
            case rel => exact ⟨k + 1, by go_num, by omega, Lib.hid ⟨_, Rc.turned HW.out k _⟩, Lib.hid (HK.out.setCell _ (.inr rfl) _)⟩
            case measure => simp [intOf]; omega
      · by_cases h68 : n = 68
        · have j0 : ¬ (n : Int) = 100 := by omega
          have j0b : ((n : Int) == 100) = false := by simpa using j0
          have j1 : ((n : Int) = 68) = True := eq_true (by omega)
          have j1b : ((n : Int) == 68) = true := by simp [j1]
          have j2 : ¬ (n : Int) = 119 := by omega
          have j2b : ((n : Int) == 119) = false := by simpa using j2
          have j3 : ¬ (n : Int) = 87 := by omega
          have j3b : ((n : Int) == 87) = false := by simpa using j3
          have j4 : ¬ (n : Int) = 115 := by omega
          have j4b : ((n : Int) == 115) = false := by simpa using j4
          have j5 : ¬ (n : Int) = 83 := by omega
          have j5b : ((n : Int) == 83) = false := by simpa using j5
          have j9 : ¬ (97 : Int) ≤ (n : Int) := by omega
          clear h68
          by_cases q1 : k < 48
          · have i1 : ¬ (48 : Int) ≤ (k : Int) := by omega
            go_wp2_with fail
            go_roundw
            case rel => exact ⟨k + 1, by go_num, by omega, Lib.hid ⟨_, Rc.turned HW.out k _⟩, Lib.hid (HK.out.setCell _ (.inr rfl) _)⟩
            case measure => simp [intOf]; omega
          · by_cases q2 : k ≤ 57
            · have i1 : (48 : Int) ≤ (k : Int) := by omega
              have i2 : (k : Int) ≤ 57 := by omega
              go_wp2_with fail
              go_roundw
              case rel => exact ⟨k + 1, by go_num, by omega, Lib.hid ⟨_, Rc.turned HW.out k _⟩, Lib.hid (HK.out.setCell _ (.inr rfl) _)⟩
              case measure => simp [intOf]; omega
            · have i1 : (48 : Int) ≤ (k : Int) := by omega
              have i2 : ¬ (k : Int) ≤ 57 := by omega
              go_wp2_with fail
              go_roundw
              case rel => exact ⟨k + 1, by go_num, by omega, Lib.hid ⟨_, Rc.turned HW.out k _⟩, Lib.hid (HK.out.setCell _ (.inr rfl) _)⟩
              case measure => simp [intOf]; omega
        · by_cases h119 : n = 119
          · have j0 : ¬ (n : Int) = 100 := by omega
            have j0b : ((n : Int) == 100) = false := by simpa using j0
            have j1 : ¬ (n : Int) = 68 := by omega
            have j1b : ((n : Int) == 68) = false := by simpa using j1
            have j2 : ((n : Int) = 119) = True := eq_true (by omega)
            have j2b : ((n : Int) == 119) = true := by simp [j2]
            have j3 : ¬ (n : Int) = 87 := by omega
            have j3b : ((n : Int) == 87) = false := by simpa using j3
            have j4 : ¬ (n : Int) = 115 := by omega
            have j4b : ((n : Int) == 115) = false := by simpa using j4
            have j5 : ¬ (n : Int) = 83 := by omega
            have j5b : ((n : Int) == 83) = false := by simpa using j5
            have j9 : (97 : Int) ≤ (n : Int) := by omega
            clear h119
            cases hwn : Rc.wordN k
            · have HWN : Hid (∀ W, Calls Try.prog 78 #[.int .u8 (k : Int)] W fun e w' => e = .returned (.bool false) ∧ W = w') := Lib.hid fun W => by have := HWD.out k W; rw [hwn] at this; exact this
              by_cases q1 : k = 95
              · subst q1
                go_wp2_with (go_at_call 78; go_must (refine (HWN.out _).mono ?_; rintro e w2 ⟨rfl, rfl⟩))
                go_roundw
                case rel => exact ⟨96, by go_num, by omega, Lib.hid ⟨_, Rc.turned HW.out 95 _⟩, Lib.hid (HK.out.setCell _ (.inr rfl) _)⟩
                case measure => simp [intOf]
              · have i1 : ¬ ((k : Int) = 95) := by omega
                have i1b : ((k : Int) == 95) = false := by simpa using i1
                go_wp2_with (go_at_call 78; go_must (refine (HWN.out _).mono ?_; rintro e w2 ⟨rfl, rfl⟩))
                go_roundw
                case rel => exact ⟨k + 1, by go_num, by omega, Lib.hid ⟨_, Rc.turned HW.out k _⟩, Lib.hid (HK.out.setCell _ (.inr rfl) _)⟩
                case measure => simp [intOf]; omega
            · have HWN : Hid (∀ W, Calls Try.prog 78 #[.int .u8 (k : Int)] W fun e w' => e = .returned (.bool true) ∧ W = w') := Lib.hid fun W => by have := HWD.out k W; rw [hwn] at this; exact this
              go_wp2_with (go_at_call 78; go_must (refine (HWN.out _).mono ?_; rintro e w2 ⟨rfl, rfl⟩))
              go_roundw
              case rel => exact ⟨k + 1, by go_num, by omega, Lib.hid ⟨_, Rc.turned HW.out k _⟩, Lib.hid (HK.out.setCell _ (.inr rfl) _)⟩
              case measure => simp [intOf]; omega
          · by_cases h87 : n = 87
            · have j0 : ¬ (n : Int) = 100 := by omega
              have j0b : ((n : Int) == 100) = false := by simpa using j0
              have j1 : ¬ (n : Int) = 68 := by omega
              have j1b : ((n : Int) == 68) = false := by simpa using j1
              have j2 : ¬ (n : Int) = 119 := by omega
              have j2b : ((n : Int) == 119) = false := by simpa using j2
              have j3 : ((n : Int) = 87) = True := eq_true (by omega)
              have j3b : ((n : Int) == 87) = true := by simp [j3]
              have j4 : ¬ (n : Int) = 115 := by omega
              have j4b : ((n : Int) == 115) = false := by simpa using j4
              have j5 : ¬ (n : Int) = 83 := by omega
              have j5b : ((n : Int) == 83) = false := by simpa using j5
              have j9 : ¬ (97 : Int) ≤ (n : Int) := by omega
              clear h87
              cases hwn : Rc.wordN k
              · have HWN : Hid (∀ W, Calls Try.prog 78 #[.int .u8 (k : Int)] W fun e w' => e = .returned (.bool false) ∧ W = w') := Lib.hid fun W => by have := HWD.out k W; rw [hwn] at this; exact this
                by_cases q1 : k = 95
                · subst q1
                  go_wp2_with (go_at_call 78; go_must (refine (HWN.out _).mono ?_; rintro e w2 ⟨rfl, rfl⟩))
                  go_roundw
                  case rel => exact ⟨96, by go_num, by omega, Lib.hid ⟨_, Rc.turned HW.out 95 _⟩, Lib.hid (HK.out.setCell _ (.inr rfl) _)⟩
                  case measure => simp [intOf]
                · have i1 : ¬ ((k : Int) = 95) := by omega
                  have i1b : ((k : Int) == 95) = false := by simpa using i1
                  go_wp2_with (go_at_call 78; go_must (refine (HWN.out _).mono ?_; rintro e w2 ⟨rfl, rfl⟩))
                  go_roundw
                  case rel => exact ⟨k + 1, by go_num, by omega, Lib.hid ⟨_, Rc.turned HW.out k _⟩, Lib.hid (HK.out.setCell _ (.inr rfl) _)⟩
                  case measure => simp [intOf]; omega
              · have HWN : Hid (∀ W, Calls Try.prog 78 #[.int .u8 (k : Int)] W fun e w' => e = .returned (.bool true) ∧ W = w') := Lib.hid fun W => by have := HWD.out k W; rw [hwn] at this; exact this
                go_wp2_with (go_at_call 78; go_must (refine (HWN.out _).mono ?_; rintro e w2 ⟨rfl, rfl⟩))
                go_roundw
                case rel => exact ⟨k + 1, by go_num, by omega, Lib.hid ⟨_, Rc.turned HW.out k _⟩, Lib.hid (HK.out.setCell _ (.inr rfl) _)⟩
                case measure => simp [intOf]; omega
            · by_cases h115 : n = 115
              · have j0 : ¬ (n : Int) = 100 := by omega
                have j0b : ((n : Int) == 100) = false := by simpa using j0
                have j1 : ¬ (n : Int) = 68 := by omega
                have j1b : ((n : Int) == 68) = false := by simpa using j1
                have j2 : ¬ (n : Int) = 119 := by omega
                have j2b : ((n : Int) == 119) = false := by simpa using j2
                have j3 : ¬ (n : Int) = 87 := by omega
                have j3b : ((n : Int) == 87) = false := by simpa using j3
                have j4 : ((n : Int) = 115) = True := eq_true (by omega)
                have j4b : ((n : Int) == 115) = true := by simp [j4]
                have j5 : ¬ (n : Int) = 83 := by omega
                have j5b : ((n : Int) == 83) = false := by simpa using j5
                have j9 : (97 : Int) ≤ (n : Int) := by omega
                clear h115
                by_cases q1 : k < 9
                · have i1 : ¬ (9 : Int) ≤ (k : Int) := by omega
                  have i32 : ¬ ((k : Int) = 32) := by omega
                  have i32b : ((k : Int) == 32) = false := by simpa using i32
                  go_wp2_with fail
                  go_roundw
                  case rel => exact ⟨k + 1, by go_num, by omega, Lib.hid ⟨_, Rc.turned HW.out k _⟩, Lib.hid (HK.out.setCell _ (.inr rfl) _)⟩
                  case measure => simp [intOf]; omega
                · by_cases q2 : k ≤ 13
                  · have i1 : (9 : Int) ≤ (k : Int) := by omega
                    have i2 : (k : Int) ≤ 13 := by omega
                    go_wp2_with fail
                    go_roundw
                    case rel => exact ⟨k + 1, by go_num, by omega, Lib.hid ⟨_, Rc.turned HW.out k _⟩, Lib.hid (HK.out.setCell _ (.inr rfl) _)⟩
                    case measure => simp [intOf]; omega
                  · by_cases q3 : k = 32
                    · subst q3
                      go_wp2_with fail
                      go_roundw
                      case rel => exact ⟨33, by go_num, by omega, Lib.hid ⟨_, Rc.turned HW.out 32 _⟩, Lib.hid (HK.out.setCell _ (.inr rfl) _)⟩
                      case measure => simp [intOf]
                    · have i1 : (9 : Int) ≤ (k : Int) := by omega
                      have i2 : ¬ (k : Int) ≤ 13 := by omega
                      have i32 : ¬ ((k : Int) = 32) := by omega
                      have i32b : ((k : Int) == 32) = false := by simpa using i32
                      go_wp2_with fail
                      go_roundw
                      case rel => exact ⟨k + 1, by go_num, by omega, Lib.hid ⟨_, Rc.turned HW.out k _⟩, Lib.hid (HK.out.setCell _ (.inr rfl) _)⟩
                      case measure => simp [intOf]; omega
              · by_cases h83 : n = 83
                · have j0 : ¬ (n : Int) = 100 := by omega
                  have j0b : ((n : Int) == 100) = false := by simpa using j0
                  have j1 : ¬ (n : Int) = 68 := by omega
                  have j1b : ((n : Int) == 68) = false := by simpa using j1
                  have j2 : ¬ (n : Int) = 119 := by omega
                  have j2b : ((n : Int) == 119) = false := by simpa using j2
                  have j3 : ¬ (n : Int) = 87 := by omega
                  have j3b : ((n : Int) == 87) = false := by simpa using j3
                  have j4 : ¬ (n : Int) = 115 := by omega
                  have j4b : ((n : Int) == 115) = false := by simpa using j4
                  have j5 : ((n : Int) = 83) = True := eq_true (by omega)
                  have j5b : ((n : Int) == 83) = true := by simp [j5]
                  have j9 : ¬ (97 : Int) ≤ (n : Int) := by omega
                  clear h83
                  by_cases q1 : k < 9
                  · have i1 : ¬ (9 : Int) ≤ (k : Int) := by omega
                    have i32 : ¬ ((k : Int) = 32) := by omega
                    have i32b : ((k : Int) == 32) = false := by simpa using i32
                    go_wp2_with fail
                    go_roundw
                    case rel => exact ⟨k + 1, by go_num, by omega, Lib.hid ⟨_, Rc.turned HW.out k _⟩, Lib.hid (HK.out.setCell _ (.inr rfl) _)⟩
                    case measure => simp [intOf]; omega
                  · by_cases q2 : k ≤ 13
                    · have i1 : (9 : Int) ≤ (k : Int) := by omega
                      have i2 : (k : Int) ≤ 13 := by omega
                      go_wp2_with fail
                      go_roundw
                      case rel => exact ⟨k + 1, by go_num, by omega, Lib.hid ⟨_, Rc.turned HW.out k _⟩, Lib.hid (HK.out.setCell _ (.inr rfl) _)⟩
                      case measure => simp [intOf]; omega
                    · by_cases q3 : k = 32
                      · subst q3
                        go_wp2_with fail
                        go_roundw
                        case rel => exact ⟨33, by go_num, by omega, Lib.hid ⟨_, Rc.turned HW.out 32 _⟩, Lib.hid (HK.out.setCell _ (.inr rfl) _)⟩
                        case measure => simp [intOf]
                      · have i1 : (9 : Int) ≤ (k : Int) := by omega
                        have i2 : ¬ (k : Int) ≤ 13 := by omega
                        have i32 : ¬ ((k : Int) = 32) := by omega
                        have i32b : ((k : Int) == 32) = false := by simpa using i32
                        go_wp2_with fail
                        go_roundw
                        case rel => exact ⟨k + 1, by go_num, by omega, Lib.hid ⟨_, Rc.turned HW.out k _⟩, Lib.hid (HK.out.setCell _ (.inr rfl) _)⟩
                        case measure => simp [intOf]; omega
                · have j1 : ¬ (n : Int) = 100 := by omega
                  have j2 : ¬ (n : Int) = 68 := by omega
                  have j3 : ¬ (n : Int) = 119 := by omega
                  have j4 : ¬ (n : Int) = 87 := by omega
                  have j5 : ¬ (n : Int) = 115 := by omega
                  have j6 : ¬ (n : Int) = 83 := by omega
                  have j1b : ((n : Int) == 100) = false := by simpa using j1
                  have j2b : ((n : Int) == 68) = false := by simpa using j2
                  have j3b : ((n : Int) == 119) = false := by simpa using j3
                  have j4b : ((n : Int) == 87) = false := by simpa using j4
                  have j5b : ((n : Int) == 115) = false := by simpa using j5
                  have j6b : ((n : Int) == 83) = false := by simpa using j6
                  go_wp2_with first
                    | ((with_reducible refine Rc.ldset (Rx.cel m) (Rx.cel_size _) ?_ (HW.out) ?_); (focus simp [Act.eval, Act.put]))
                    | ((with_reducible refine Rc.stset (Rx.cel m) (Rx.cel Rx.none_) (Rx.cel_size _) (Rx.cel_one _) (Rx.cel_size _) ?_ ?_ (HRES.out) ?_); (focus simp [Act.eval, Act.put]); (focus simp [Act.eval, Act.put]))
                  ((try simp only [Exit.inBlock, Exit.then]); refine bodyPost_ret (Rc.ret_set2 rfl _ ?_ (Rc.row_setRow HRES.out _) (Rx.cel_size _)) rfl ?_; (focus simp); simp only [Array.getD_eq_getD_getElem?])
                  exact ⟨⟨m, false, rfl⟩, Rc.below_setRow HBE.out (by have := HBB.out; omega) _⟩
    · obtain rfl : k = 256 := by omega
      clear hm
      go_wp2_with first
        | ((with_reducible refine Rc.ldset (Rx.cel m) (Rx.cel_size _) ?_ (HW.out) ?_); (focus simp [Act.eval, Act.put]))
        | ((with_reducible refine Rc.stset (Rx.cel m) (Rx.cel Rx.none_) (Rx.cel_size _) (Rx.cel_one _) (Rx.cel_size _) ?_ ?_ (HRES.out) ?_); (focus simp [Act.eval, Act.put]); (focus simp [Act.eval, Act.put]))
      ((try simp only [Exit.inBlock, Exit.then]); refine bodyPost_ret (Rc.ret_set2 rfl _ ?_ (Rc.row_setRow HRES.out _) (Rx.cel_size _)) rfl ?_; (focus simp); simp only [Array.getD_eq_getD_getElem?])
      exact ⟨⟨m, true, rfl⟩, Rc.below_setRow HBE.out (by have := HBB.out; omega) _⟩
end Go.Proofs.Ytelbabgkpflckaa
