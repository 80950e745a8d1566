/-
  RcSixD: CONTRACTS: chapter 12, the document's Compile: six and sixAt, with what they answer.
-/
import Derived.Test.YtelbabgkpflckaaJ29

set_option linter.unusedSimpArgs false
set_option linter.unusedVariables false
namespace Go.Proofs.Ytelbabgkpflckaa
open Go.RowKit Go.Sort
open Me
open Pk

namespace Rc
open Rx (cel St)
/-- Is it one of the six? -/
def isSixN (n : Nat) : Bool := n == 100 || n == 68 || n == 119 || n == 87 || n == 115 || n == 83
/-- What six leaves. -/
def SixD (n : Nat) (w : World) (e : Ending) (w' : World) : Prop := (∃ (m : St), e = .returned (.tuple #[.agg (cel m), .bool (isSixN n)])) ∧ Below w.heap.size w w'
/-- Does one of the six stand there? -/
def sixAtB (s : List UInt8) (k : Nat) : Bool := (s[k]? == some 92) && (match s[k + 1]? with
  | some c => isSixN c.toNat
  | none => false)
end Rc

set_option maxRecDepth 100000 in
set_option maxHeartbeats 8000000 in
theorem six_det (c : UInt8) (w : World) :
    Calls Try.prog 77 #[.int .u8 (c.toNat : Int)] w (Rc.SixD c.toNat w) := by
  obtain ⟨n, hn⟩ : ∃ n, n = c.toNat := ⟨_, rfl⟩
  rw [← hn]
  clear hn
  have HWD := Lib.hid fun (k : Nat) (W : World) => refWord_any k W
  obtain ⟨b, hb⟩ : ∃ b, b = w.heap.size := ⟨_, rfl⟩
  obtain ⟨w0, hw0⟩ : ∃ w0, w0 = (w.alloc (.cells Try.zeroCells125 125)).alloc (.cells Try.zeroCells125 125) := ⟨_, rfl⟩
  have HR0 : Hid (RowAt w0 b 125 (Rx.cel Rx.none_)) := Lib.hid (by rw [hw0, ← z_b256, hb]; exact (RowAt.new w _ _).alloc _)
  have HR1 : Hid (RowAt w0 (b + 1) 125 (Rx.cel Rx.none_)) := Lib.hid (by rw [hw0, ← z_b256, hb]; exact RowAt.new' (by simp))
  have HB0 : Hid (Below w.heap.size w w0) := Lib.hid (by rw [hw0]; exact ((Below.refl _ _).alloc (Nat.le_refl _) _).alloc (by simp) _)
  have HBB := Lib.hid hb
  go_enter Try.func77, Try.ntmps77
  go_wp2_with fail
  rw [← hw0, ← hb]
  clear hw0 hb
  go_loopw [5] (fun x wr => ∃ k : Nat, x = .int .i64 k ∧ k ≤ 256 ∧ Hid (0 < k → Rc.isSixN n = true) ∧ Hid (∃ m, RowAt wr (b + 1) 125 (Rx.cel m)) ∧ Hid (Kp (fun i => i = b + 1) w0 wr)) (fun x _ => 256 - (intOf x).toNat)
  case atStart => exact ⟨0, rfl, by omega, Lib.hid (fun h => absurd h (by omega)), Lib.hid ⟨_, HR1.out⟩, Lib.hid (Kp.refl _ _)⟩
  case round =>
    obtain ⟨k, rfl, hk, HSX, HM, HK⟩ := hrel
    obtain ⟨m, hm⟩ := HM.out
    have HW := Lib.hid hm
    clear HM
    have hr0 : RowAt wr b 125 (Rx.cel Rx.none_) := (HK.out.block b HR0.out.lt (by omega)).trans HR0.out
    have HRES := Lib.hid hr0
    have HBE : Hid (Below w.heap.size w wr) := Lib.hid (HB0.out.trans (HK.out.below (by have := HB0.out.size; omega) (fun i hi e => by have := HBB.out; omega)))
    have hlb := hm.lt
    clear hr0
    by_cases hlt : k < 256
    · have hkI : (k : Int) < 256 := by omega
      have hk0 : (0 : Int) ≤ (k : Int) := by omega
      have hu8 : IntKind.u8.wrap (k : Int) = (k : Int) := by rw [IntKind.wrap_u8]; omega
      have hc : wr.cell? ⟨b + 1, k, none⟩ = some (.bool (m k)) := (hm.cell k).trans (Rx.cel_at _ k hlt)
      have hf := hm.frozen k
      clear hm
      by_cases h100 : n = 100
      · have j0 : ((n : Int) = 100) = True := eq_true (by omega)
        have j0b : ((n : Int) == 100) = true := by simp [j0]
        have j1 : ¬ (n : Int) = 68 := by omega
        have j1b : ((n : Int) == 68) = false := by simpa using j1
        have j2 : ¬ (n : Int) = 119 := by omega
        have j2b : ((n : Int) == 119) = false := by simpa using j2
        have j3 : ¬ (n : Int) = 87 := by omega
        have j3b : ((n : Int) == 87) = false := by simpa using j3
        have j4 : ¬ (n : Int) = 115 := by omega
        have j4b : ((n : Int) == 115) = false := by simpa using j4
        have j5 : ¬ (n : Int) = 83 := by omega
        have j5b : ((n : Int) == 83) = false := by simpa using j5
        have HIS : Hid (Rc.isSixN n = true) := Lib.hid (by unfold Rc.isSixN; rw [h100]; rfl)
        have j9 : (97 : Int) ≤ (n : Int) := by omega
        clear h100
        by_cases q1 : k < 48
        · have i1 : ¬ (48 : Int) ≤ (k : Int) := by omega
          go_wp2_with fail
          go_roundw
          case rel => exact ⟨k + 1, by go_num, by omega, Lib.hid (fun _ => HIS.out), Lib.hid ⟨_, Rc.turned HW.out k _⟩, Lib.hid (HK.out.setCell _ (.inr rfl) _)⟩
          case measure => simp [intOf]; omega
        · by_cases q2 : k ≤ 57
          · have i1 : (48 : Int) ≤ (k : Int) := by omega
            have i2 : (k : Int) ≤ 57 := by omega
            go_wp2_with fail
            go_roundw
            case rel => exact ⟨k + 1, by go_num, by omega, Lib.hid (fun _ => HIS.out), Lib.hid ⟨_, Rc.turned HW.out k _⟩, Lib.hid (HK.out.setCell _ (.inr rfl) _)⟩
            case measure => simp [intOf]; omega
          · have i1 : (48 : Int) ≤ (k : Int) := by omega
            have i2 : ¬ (k : Int) ≤ 57 := by omega
            go_wp2_with fail
            go_roundw
            case rel => exact ⟨k + 1, by go_num, by omega, Lib.hid (fun _ => HIS.out), Lib.hid ⟨_, Rc.turned HW.out k _⟩, Lib.hid (HK.out.setCell _ (.inr rfl) _)⟩
            case measure => simp [intOf]; omega
      · by_cases h68 : n = 68
        · have j0 : ¬ (n : Int) = 100 := by omega
          have j0b : ((n : Int) == 100) = false := by simpa using j0
          have j1 : ((n : Int) = 68) = True := eq_true (by omega)
          have j1b : ((n : Int) == 68) = true := by simp [j1]
          have j2 : ¬ (n : Int) = 119 := by omega
          have j2b : ((n : Int) == 119) = false := by simpa using j2
          have j3 : ¬ (n : Int) = 87 := by omega
          have j3b : ((n : Int) == 87) = false := by simpa using j3
          have j4 : ¬ (n : Int) = 115 := by omega
          have j4b : ((n : Int) == 115) = false := by simpa using j4
          have j5 : ¬ (n : Int) = 83 := by omega
          have j5b : ((n : Int) == 83) = false := by simpa using j5
          have HIS : Hid (Rc.isSixN n = true) := Lib.hid (by unfold Rc.isSixN; rw [h68]; rfl)
          have j9 : ¬ (97 : Int) ≤ (n : Int) := by omega
          clear h68
          by_cases q1 : k < 48
          · have i1 : ¬ (48 : Int) ≤ (k : Int) := by omega
            go_wp2_with fail
            go_roundw
            case rel => exact ⟨k + 1, by go_num, by omega, Lib.hid (fun _ => HIS.out), Lib.hid ⟨_, Rc.turned HW.out k _⟩, Lib.hid (HK.out.setCell _ (.inr rfl) _)⟩
            case measure => simp [intOf]; omega
          · by_cases q2 : k ≤ 57
            · have i1 : (48 : Int) ≤ (k : Int) := by omega
              have i2 : (k : Int) ≤ 57 := by omega
              go_wp2_with fail
              go_roundw
              case rel => exact ⟨k + 1, by go_num, by omega, Lib.hid (fun _ => HIS.out), Lib.hid ⟨_, Rc.turned HW.out k _⟩, Lib.hid (HK.out.setCell _ (.inr rfl) _)⟩
              case measure => simp [intOf]; omega
            · have i1 : (48 : Int) ≤ (k : Int) := by omega
              have i2 : ¬ (k : Int) ≤ 57 := by omega
              go_wp2_with fail
              go_roundw
              case rel => exact ⟨k + 1, by go_num, by omega, Lib.hid (fun _ => HIS.out), Lib.hid ⟨_, Rc.turned HW.out k _⟩, Lib.hid (HK.out.setCell _ (.inr rfl) _)⟩
              case measure => simp [intOf]; omega
        · by_cases h119 : n = 119
          · have j0 : ¬ (n : Int) = 100 := by omega
            have j0b : ((n : Int) == 100) = false := by simpa using j0
            have j1 : ¬ (n : Int) = 68 := by omega
            have j1b : ((n : Int) == 68) = false := by simpa using j1
            have j2 : ((n : Int) = 119) = True := eq_true (by omega)
            have j2b : ((n : Int) == 119) = true := by simp [j2]
            have j3 : ¬ (n : Int) = 87 := by omega
            have j3b : ((n : Int) == 87) = false := by simpa using j3
            have j4 : ¬ (n : Int) = 115 := by omega
            have j4b : ((n : Int) == 115) = false := by simpa using j4
            have j5 : ¬ (n : Int) = 83 := by omega
            have j5b : ((n : Int) == 83) = false := by simpa using j5
            have HIS : Hid (Rc.isSixN n = true) := Lib.hid (by unfold Rc.isSixN; rw [h119]; rfl)
            have j9 : (97 : Int) ≤ (n : Int) := by omega
            clear h119
            cases hwn : Rc.wordN k
            · have HWN : Hid (∀ W, Calls Try.prog 78 #[.int .u8 (k : Int)] W fun e w' => e = .returned (.bool false) ∧ W = w') := Lib.hid fun W => by have := HWD.out k W; rw [hwn] at this; exact this
              by_cases q1 : k = 95
              · subst q1
                go_wp2_with (go_at_call 78; go_must (refine (HWN.out _).mono ?_; rintro e w2 ⟨rfl, rfl⟩))
                go_roundw
                case rel => exact ⟨96, by go_num, by omega, Lib.hid (fun _ => HIS.out), Lib.hid ⟨_, Rc.turned HW.out 95 _⟩, Lib.hid (HK.out.setCell _ (.inr rfl) _)⟩
                case measure => simp [intOf]
              · have i1 : ¬ ((k : Int) = 95) := by omega
                have i1b : ((k : Int) == 95) = false := by simpa using i1
                go_wp2_with (go_at_call 78; go_must (refine (HWN.out _).mono ?_; rintro e w2 ⟨rfl, rfl⟩))
                go_roundw
                case rel => exact ⟨k + 1, by go_num, by omega, Lib.hid (fun _ => HIS.out), Lib.hid ⟨_, Rc.turned HW.out k _⟩, Lib.hid (HK.out.setCell _ (.inr rfl) _)⟩
                case measure => simp [intOf]; omega
            · have HWN : Hid (∀ W, Calls Try.prog 78 #[.int .u8 (k : Int)] W fun e w' => e = .returned (.bool true) ∧ W = w') := Lib.hid fun W => by have := HWD.out k W; rw [hwn] at this; exact this
              go_wp2_with (go_at_call 78; go_must (refine (HWN.out _).mono ?_; rintro e w2 ⟨rfl, rfl⟩))
              go_roundw
              case rel => exact ⟨k + 1, by go_num, by omega, Lib.hid (fun _ => HIS.out), Lib.hid ⟨_, Rc.turned HW.out k _⟩, Lib.hid (HK.out.setCell _ (.inr rfl) _)⟩
              case measure => simp [intOf]; omega
          · by_cases h87 : n = 87
            · have j0 : ¬ (n : Int) = 100 := by omega
              have j0b : ((n : Int) == 100) = false := by simpa using j0
              have j1 : ¬ (n : Int) = 68 := by omega
              have j1b : ((n : Int) == 68) = false := by simpa using j1
              have j2 : ¬ (n : Int) = 119 := by omega
              have j2b : ((n : Int) == 119) = false := by simpa using j2
              have j3 : ((n : Int) = 87) = True := eq_true (by omega)
              have j3b : ((n : Int) == 87) = true := by simp [j3]
              have j4 : ¬ (n : Int) = 115 := by omega
              have j4b : ((n : Int) == 115) = false := by simpa using j4
              have j5 : ¬ (n : Int) = 83 := by omega
              have j5b : ((n : Int) == 83) = false := by simpa using j5
              have HIS : Hid (Rc.isSixN n = true) := Lib.hid (by unfold Rc.isSixN; rw [h87]; rfl)
              have j9 : ¬ (97 : Int) ≤ (n : Int) := by omega
              clear h87
              cases hwn : Rc.wordN k
              · have HWN : Hid (∀ W, Calls Try.prog 78 #[.int .u8 (k : Int)] W fun e w' => e = .returned (.bool false) ∧ W = w') := Lib.hid fun W => by have := HWD.out k W; rw [hwn] at this; exact this
                by_cases q1 : k = 95
                · subst q1
                  go_wp2_with (go_at_call 78; go_must (refine (HWN.out _).mono ?_; rintro e w2 ⟨rfl, rfl⟩))
                  go_roundw
                  case rel => exact ⟨96, by go_num, by omega, Lib.hid (fun _ => HIS.out), Lib.hid ⟨_, Rc.turned HW.out 95 _⟩, Lib.hid (HK.out.setCell _ (.inr rfl) _)⟩
                  case measure => simp [intOf]
                · have i1 : ¬ ((k : Int) = 95) := by omega
                  have i1b : ((k : Int) == 95) = false := by simpa using i1
                  go_wp2_with (go_at_call 78; go_must (refine (HWN.out _).mono ?_; rintro e w2 ⟨rfl, rfl⟩))
                  go_roundw
                  case rel => exact ⟨k + 1, by go_num, by omega, Lib.hid (fun _ => HIS.out), Lib.hid ⟨_, Rc.turned HW.out k _⟩, Lib.hid (HK.out.setCell _ (.inr rfl) _)⟩
                  case measure => simp [intOf]; omega
              · have HWN : Hid (∀ W, Calls Try.prog 78 #[.int .u8 (k : Int)] W fun e w' => e = .returned (.bool true) ∧ W = w') := Lib.hid fun W => by have := HWD.out k W; rw [hwn] at this; exact this
                go_wp2_with (go_at_call 78; go_must (refine (HWN.out _).mono ?_; rintro e w2 ⟨rfl, rfl⟩))
                go_roundw
                case rel => exact ⟨k + 1, by go_num, by omega, Lib.hid (fun _ => HIS.out), Lib.hid ⟨_, Rc.turned HW.out k _⟩, Lib.hid (HK.out.setCell _ (.inr rfl) _)⟩
                case measure => simp [intOf]; omega
            · by_cases h115 : n = 115
              · have j0 : ¬ (n : Int) = 100 := by omega
                have j0b : ((n : Int) == 100) = false := by simpa using j0
                have j1 : ¬ (n : Int) = 68 := by omega
                have j1b : ((n : Int) == 68) = false := by simpa using j1
                have j2 : ¬ (n : Int) = 119 := by omega
                have j2b : ((n : Int) == 119) = false := by simpa using j2
                have j3 : ¬ (n : Int) = 87 := by omega
                have j3b : ((n : Int) == 87) = false := by simpa using j3
                have j4 : ((n : Int) = 115) = True := eq_true (by omega)
                have j4b : ((n : Int) == 115) = true := by simp [j4]
                have j5 : ¬ (n : Int) = 83 := by omega
                have j5b : ((n : Int) == 83) = false := by simpa using j5
                have HIS : Hid (Rc.isSixN n = true) := Lib.hid (by unfold Rc.isSixN; rw [h115]; rfl)
                have j9 : (97 : Int) ≤ (n : Int) := by omega
                clear h115
                by_cases q1 : k < 9
                · have i1 : ¬ (9 : Int) ≤ (k : Int) := by omega
                  have i32 : ¬ ((k : Int) = 32) := by omega
                  have i32b : ((k : Int) == 32) = false := by simpa using i32
                  go_wp2_with fail
                  go_roundw
                  case rel => exact ⟨k + 1, by go_num, by omega, Lib.hid (fun _ => HIS.out), Lib.hid ⟨_, Rc.turned HW.out k _⟩, Lib.hid (HK.out.setCell _ (.inr rfl) _)⟩
                  case measure => simp [intOf]; omega
                · by_cases q2 : k ≤ 13
                  · have i1 : (9 : Int) ≤ (k : Int) := by omega
                    have i2 : (k : Int) ≤ 13 := by omega
                    go_wp2_with fail
                    go_roundw
                    case rel => exact ⟨k + 1, by go_num, by omega, Lib.hid (fun _ => HIS.out), Lib.hid ⟨_, Rc.turned HW.out k _⟩, Lib.hid (HK.out.setCell _ (.inr rfl) _)⟩
                    case measure => simp [intOf]; omega
                  · by_cases q3 : k = 32
                    · subst q3
                      go_wp2_with fail
                      go_roundw
                      case rel => exact ⟨33, by go_num, by omega, Lib.hid (fun _ => HIS.out), Lib.hid ⟨_, Rc.turned HW.out 32 _⟩, Lib.hid (HK.out.setCell _ (.inr rfl) _)⟩
                      case measure => simp [intOf]
                    · have i1 : (9 : Int) ≤ (k : Int) := by omega
                      have i2 : ¬ (k : Int) ≤ 13 := by omega
                      have i32 : ¬ ((k : Int) = 32) := by omega
                      have i32b : ((k : Int) == 32) = false := by simpa using i32
                      go_wp2_with fail
                      go_roundw
                      case rel => exact ⟨k + 1, by go_num, by omega, Lib.hid (fun _ => HIS.out), Lib.hid ⟨_, Rc.turned HW.out k _⟩, Lib.hid (HK.out.setCell _ (.inr rfl) _)⟩
                      case measure => simp [intOf]; omega
              · by_cases h83 : n = 83
                · have j0 : ¬ (n : Int) = 100 := by omega
                  have j0b : ((n : Int) == 100) = false := by simpa using j0
                  have j1 : ¬ (n : Int) = 68 := by omega
                  have j1b : ((n : Int) == 68) = false := by simpa using j1
                  have j2 : ¬ (n : Int) = 119 := by omega
                  have j2b : ((n : Int) == 119) = false := by simpa using j2
                  have j3 : ¬ (n : Int) = 87 := by omega
                  have j3b : ((n : Int) == 87) = false := by simpa using j3
                  have j4 : ¬ (n : Int) = 115 := by omega
                  have j4b : ((n : Int) == 115) = false := by simpa using j4
                  have j5 : ((n : Int) = 83) = True := eq_true (by omega)
                  have j5b : ((n : Int) == 83) = true := by simp [j5]
                  have HIS : Hid (Rc.isSixN n = true) := Lib.hid (by unfold Rc.isSixN; rw [h83]; rfl)
                  have j9 : ¬ (97 : Int) ≤ (n : Int) := by omega
                  clear h83
                  by_cases q1 : k < 9
                  · have i1 : ¬ (9 : Int) ≤ (k : Int) := by omega
                    have i32 : ¬ ((k : Int) = 32) := by omega
                    have i32b : ((k : Int) == 32) = false := by simpa using i32
                    go_wp2_with fail
                    go_roundw
                    case rel => exact ⟨k + 1, by go_num, by omega, Lib.hid (fun _ => HIS.out), Lib.hid ⟨_, Rc.turned HW.out k _⟩, Lib.hid (HK.out.setCell _ (.inr rfl) _)⟩
                    case measure => simp [intOf]; omega
                  · by_cases q2 : k ≤ 13
                    · have i1 : (9 : Int) ≤ (k : Int) := by omega
                      have i2 : (k : Int) ≤ 13 := by omega
                      go_wp2_with fail
                      go_roundw
                      case rel => exact ⟨k + 1, by go_num, by omega, Lib.hid (fun _ => HIS.out), Lib.hid ⟨_, Rc.turned HW.out k _⟩, Lib.hid (HK.out.setCell _ (.inr rfl) _)⟩
                      case measure => simp [intOf]; omega
                    · by_cases q3 : k = 32
                      · subst q3
                        go_wp2_with fail
                        go_roundw
                        case rel => exact ⟨33, by go_num, by omega, Lib.hid (fun _ => HIS.out), Lib.hid ⟨_, Rc.turned HW.out 32 _⟩, Lib.hid (HK.out.setCell _ (.inr rfl) _)⟩
                        case measure => simp [intOf]
                      · have i1 : (9 : Int) ≤ (k : Int) := by omega
                        have i2 : ¬ (k : Int) ≤ 13 := by omega
                        have i32 : ¬ ((k : Int) = 32) := by omega
                        have i32b : ((k : Int) == 32) = false := by simpa using i32
                        go_wp2_with fail
                        go_roundw
                        case rel => exact ⟨k + 1, by go_num, by omega, Lib.hid (fun _ => HIS.out), Lib.hid ⟨_, Rc.turned HW.out k _⟩, Lib.hid (HK.out.setCell _ (.inr rfl) _)⟩
                        case measure => simp [intOf]; omega
                · have HIS : Hid (Rc.isSixN n = false) := Lib.hid (by unfold Rc.isSixN; simp; omega)
                  have j1 : ¬ (n : Int) = 100 := by omega
                  have j2 : ¬ (n : Int) = 68 := by omega
                  have j3 : ¬ (n : Int) = 119 := by omega
                  have j4 : ¬ (n : Int) = 87 := by omega
                  have j5 : ¬ (n : Int) = 115 := by omega
                  have j6 : ¬ (n : Int) = 83 := by omega
                  have j1b : ((n : Int) == 100) = false := by simpa using j1
                  have j2b : ((n : Int) == 68) = false := by simpa using j2
                  have j3b : ((n : Int) == 119) = false := by simpa using j3
                  have j4b : ((n : Int) == 87) = false := by simpa using j4
                  have j5b : ((n : Int) == 115) = false := by simpa using j5
                  have j6b : ((n : Int) == 83) = false := by simpa using j6
                  go_wp2_with first
                    | ((with_reducible refine Rc.ldset (Rx.cel m) (Rx.cel_size _) ?_ (HW.out) ?_); (focus simp [Act.eval, Act.put]))
                    | ((with_reducible refine Rc.stset (Rx.cel m) (Rx.cel Rx.none_) (Rx.cel_size _) (Rx.cel_one _) (Rx.cel_size _) ?_ ?_ (HRES.out) ?_); (focus simp [Act.eval, Act.put]); (focus simp [Act.eval, Act.put]))
                  ((try simp only [Exit.inBlock, Exit.then]); refine bodyPost_ret (Rc.ret_set2 rfl _ ?_ (Rc.row_setRow HRES.out _) (Rx.cel_size _)) rfl ?_; (focus simp); simp only [Array.getD_eq_getD_getElem?])
                  exact ⟨⟨m, by rw [HIS.out]; rfl⟩, Rc.below_setRow HBE.out (by have := HBB.out; omega) _⟩
    · obtain rfl : k = 256 := by omega
      clear hm
      go_wp2_with first
        | ((with_reducible refine Rc.ldset (Rx.cel m) (Rx.cel_size _) ?_ (HW.out) ?_); (focus simp [Act.eval, Act.put]))
        | ((with_reducible refine Rc.stset (Rx.cel m) (Rx.cel Rx.none_) (Rx.cel_size _) (Rx.cel_one _) (Rx.cel_size _) ?_ ?_ (HRES.out) ?_); (focus simp [Act.eval, Act.put]); (focus simp [Act.eval, Act.put]))
      ((try simp only [Exit.inBlock, Exit.then]); refine bodyPost_ret (Rc.ret_set2 rfl _ ?_ (Rc.row_setRow HRES.out _) (Rx.cel_size _)) rfl ?_; (focus simp); simp only [Array.getD_eq_getD_getElem?])
      exact ⟨⟨m, by rw [HSX.out (by omega)]; rfl⟩, Rc.below_setRow HBE.out (by have := HBB.out; omega) _⟩
set_option maxRecDepth 100000 in
set_option maxHeartbeats 8000000 in
theorem sixAt_det {w : World} {b : Nat} {v : Value} {r : Rc.Rr} (h : Rc.At w b v r) (hl : r.s.length ≤ 1000000) (k : Nat) (hk : k ≤ r.s.length) :
    Calls Try.prog 76 #[.pointer (some ⟨b, 0, none⟩), .int .i64 (k : Int)] w fun e w' => e = .returned (.bool (Rc.sixAtB r.s k)) ∧ Below w.heap.size w w' := by
  have hbl := h.lt
  obtain ⟨s, i, d, er, g, L⟩ := r
  have c0 : w.cell? ⟨b, 0, none⟩ = some (.string ⟨s.toArray⟩) := h.c0
  have hl : s.length ≤ 1000000 := hl
  have hk : k ≤ s.length := hk
  have hk0 : (0 : Int) ≤ (k : Int) := by omega
  have hk1 : IntKind.i64.wrap ((k : Int) + 1) = (k : Int) + 1 := by rw [IntKind.wrap_i64]; omega
  by_cases h1 : k + 1 < s.length
  · have h1J : ¬ (s.length : Int) ≤ (k : Int) + 1 := by omega
    obtain ⟨c, hc⟩ : ∃ c, s[k]? = some c := ⟨_, List.getElem?_eq_getElem (by omega)⟩
    obtain ⟨z0, g0⟩ := Rc.byte_at hc
    by_cases h92 : c = 92
    · have hcI : ((c.toNat : Int) = 92) = True := by rw [h92]; simp
      have hcB : ((c.toNat : Int) != 92) = false := by rw [h92]; rfl
      obtain ⟨c', hc'⟩ : ∃ c', s[k + 1]? = some c' := ⟨_, List.getElem?_eq_getElem h1⟩
      obtain ⟨z1, g1⟩ := Rc.byte_at hc'
      have HSX := Lib.hid fun W => six_det c' W
      have HQ : Hid (Rc.sixAtB s k = Rc.isSixN c'.toNat) := Lib.hid (by unfold Rc.sixAtB; rw [hc, hc', h92]; rfl)
      clear hc hc' h92 h
      go_enter Try.func76, Try.ntmps76
      go_wp2_with first
        | (go_at_call 77; go_must (refine (HSX.out _).mono ?_; rintro e w2 ⟨⟨m, rfl⟩, hb2⟩; have HB2 : Hid (Below w.heap.size w ((w2.alloc (.cells Try.zeroCells125 125)).setRow w2.heap.size (Rx.cel m))) := Lib.hid (Rc.below_setRow (hb2.alloc hb2.size _) hb2.size _); have HM0 : Hid (RowAt (w2.alloc (.cells Try.zeroCells125 125)) w2.heap.size 125 (Rx.cel Rx.none_)) := Lib.hid (by rw [← z_b256]; exact RowAt.new w2 _ _); clear hb2))
        | ((with_reducible refine Rc.stset (Rx.cel m) (Rx.cel Rx.none_) (Rx.cel_size _) (Rx.cel_one _) (Rx.cel_size _) ?_ ?_ (HM0.out) ?_); (focus simp [Act.eval, Act.put]); (focus simp [Act.eval, Act.put]))
      go_ret
      exact ⟨by show _ = Ending.returned (.bool (Rc.sixAtB s k)); rw [HQ.out]; rfl, HB2.out⟩
    · have hcI : ¬ (c.toNat : Int) = 92 := fun e => h92 (UInt8.toNat_inj.1 (by show c.toNat = 92; omega))
      have hcB : ((c.toNat : Int) != 92) = true := by simpa using hcI
      have HQ : Hid (Rc.sixAtB s k = false) := Lib.hid (by unfold Rc.sixAtB; rw [hc, show (some c == some (92 : UInt8)) = false by simpa using h92]; rfl)
      clear hc h
      go_enter Try.func76, Try.ntmps76
      go_wp2_with fail
      go_ret
      exact ⟨by show _ = Ending.returned (.bool (Rc.sixAtB s k)); rw [HQ.out]; rfl, Below.refl _ _⟩
  · have h1J : (s.length : Int) ≤ (k : Int) + 1 := by omega
    have HQ : Hid (Rc.sixAtB s k = false) := Lib.hid (by unfold Rc.sixAtB; rw [List.getElem?_eq_none (show s.length ≤ k + 1 by omega), Bool.and_false])
    clear h
    go_enter Try.func76, Try.ntmps76
    go_wp2_with fail
    go_ret
    exact ⟨by show _ = Ending.returned (.bool (Rc.sixAtB s k)); rw [HQ.out]; rfl, Below.refl _ _⟩

end Go.Proofs.Ytelbabgkpflckaa
