/-
  CONTRACTS: chapter 14: the document's word.
-/
import Derived.Test.YtcbpdefpknckgaaDoorLxWord
namespace Go.Proofs.YtcbpdefpknckgaaDoor
open Go.RowKit
open Me

set_option maxRecDepth 100000 in
set_option maxHeartbeats 8000000 in
theorem lrefWord_any (s : List UInt8) (k : Nat) (hk : k ≤ s.length) (hl : s.length ≤ 1000000) (w : World) :
    Calls Tryd.prog 16 #[.string ⟨s.toArray⟩, .int .i64 (k : Int)] w fun e w' => e = .returned (.int .i64 (match Lx.scan (s.drop k) 0 with | some (n + 1) => ((k + (n + 1) : Nat) : Int) | _ => -1)) ∧ w = w' := by
  have HIN := Lib.hid fun c W => lrefIn_any c W
  have HFS := Lib.hid (Lx.Far.start (s.drop k))
  have HA1 : Hid (Lx.scan (s.drop k) 0 = none → (match Lx.scan (s.drop k) 0 with | some (n + 1) => ((k + (n + 1) : Nat) : Int) | _ => -1) = -1) := Lib.hid fun h => by rw [h]
  have HA2 : Hid (Lx.scan (s.drop k) 0 = some 0 → (match Lx.scan (s.drop k) 0 with | some (n + 1) => ((k + (n + 1) : Nat) : Int) | _ => -1) = -1) := Lib.hid fun h => by rw [h]
  have HA3 : Hid (∀ n, 0 < n → Lx.scan (s.drop k) 0 = some n → (match Lx.scan (s.drop k) 0 with | some (n + 1) => ((k + (n + 1) : Nat) : Int) | _ => -1) = ((k + n : Nat) : Int)) := Lib.hid fun n hn h => by
    obtain ⟨m, rfl⟩ : ∃ m, n = m + 1 := ⟨n - 1, by omega⟩
    rw [h]
  generalize (match Lx.scan (s.drop k) 0 with | some (n + 1) => ((k + (n + 1) : Nat) : Int) | _ => -1) = R at *
  have hk0 : (0 : Int) ≤ (k : Int) := by omega
  go_enter Tryd.func16, Tryd.ntmps16
  go_wp2_with fail
  go_loopw [5, 6] (fun y x wr => ∃ (i : Nat) (d : Nat), x = .int .i64 ((k + i : Nat) : Int) ∧ y = .int .i64 (d : Int) ∧ k + i ≤ s.length ∧ d ≤ i ∧ Hid (Lx.Far (s.drop k) i (d : Int)) ∧ Hid (w = wr)) (fun _ x _ => s.length - (intOf x).toNat)
  case atStart => exact ⟨0, 0, rfl, rfl, hk, Nat.le_refl _, HFS, Lib.hid rfl⟩
  case round =>
    obtain ⟨i, d, rfl, rfl, hi, hdi, HF, HW⟩ := hrel
    obtain rfl := HW.out
    clear HW
    obtain ⟨j, hj⟩ : ∃ j, j = k + i := ⟨_, rfl⟩
    rw [← hj] at hi ⊢
    have HJ := Lib.hid hj
    have hdb : d ≤ s.length := by omega
    have hi0 : (0 : Int) ≤ (j : Int) := by omega
    by_cases hlt : j < s.length
    · obtain ⟨a, ha⟩ : ∃ a, s[j] = a := ⟨_, rfl⟩
      have hget : s[j]? = some a := by rw [List.getElem?_eq_getElem hlt, ha]
      obtain ⟨z0, g0⟩ := Lx.byte_at hget
      have hiI : (j : Int) < (s.length : Int) := by omega
      have HDR : Hid ((s.drop k).drop i = a :: (s.drop k).drop (i + 1)) := Lib.hid (by
        rw [List.drop_drop, List.drop_drop, ← hj, List.drop_eq_getElem_cons hlt, ha]
        congr 2
        omega)
      have HMA := Lib.hid (HIN.out a)
      have HMY : Hid (Lx.may a (d : Int) = (Lx.inW a || (decide ((0 : Int) < (d : Int)) && a == 44))) := Lib.hid rfl
      clear hget ha hj
      cases hm : Lx.may a (d : Int)
      · have HSC : Hid (Lx.scan (s.drop k) 0 = if (d : Int) = 0 then some i else none) := Lib.hid (HF.out.end_ (by rw [HDR.out, Lx.scan_stop hm]))
        have hinw : Lx.inW a = false := by
          cases hw : Lx.inW a
          · rfl
          · rw [HMY.out, hw] at hm; simp at hm
        rw [hinw] at HMA
        by_cases h44 : a = 44
        · have hd0 : d = 0 := by
            rw [HMY.out, hinw, h44] at hm
            have : ¬ (0 : Int) < (d : Int) := by simpa using hm
            omega
          have k1 : ((a.toNat : Int) = 44) = True := by rw [h44]; simp
          have k1b : ((a.toNat : Int) == 44) = true := by rw [h44]; rfl
          have k2 : ¬ (0 : Int) < (d : Int) := by omega
          have q1 : ((d : Int) = 0) = True := eq_true (by omega)
          have q1b : ((d : Int) != 0) = false := by rw [hd0]; rfl
          clear hm hinw h44
          by_cases hi1 : 0 < i
          · have HQ : Hid (R = (j : Int)) := Lib.hid (by rw [HA3.out i hi1 (by rw [HSC.out, if_pos (by omega)]), HJ.out])
            have q2 : ¬ (j : Int) = (k : Int) := by have := HJ.out; omega
            have q2b : ((j : Int) == (k : Int)) = false := by simpa using q2
            clear hd0
            go_wp2_with (go_at_call 24; go_must (refine (HMA.out _).mono ?_; rintro e w2 ⟨rfl, rfl⟩))
            go_ret
            exact ⟨by rw [HQ.out]; rfl, rfl⟩
          · have HQ := Lib.hid (HA2.out (by rw [HSC.out, if_pos (by omega), show i = 0 by omega]))
            have q2 : ((j : Int) = (k : Int)) = True := eq_true (by have := HJ.out; omega)
            have q2b : ((j : Int) == (k : Int)) = true := by simp [q2]
            clear hd0
            go_wp2_with (go_at_call 24; go_must (refine (HMA.out _).mono ?_; rintro e w2 ⟨rfl, rfl⟩))
            go_ret
            exact ⟨by rw [HQ.out]; rfl, rfl⟩
        · have k1 : ¬ (a.toNat : Int) = 44 := fun e => h44 (UInt8.toNat_inj.1 (by show a.toNat = 44; omega))
          have k1b : ((a.toNat : Int) == 44) = false := by simpa using k1
          clear hm hinw h44
          by_cases hd0 : d = 0
          · have q1 : ((d : Int) = 0) = True := eq_true (by omega)
            have q1b : ((d : Int) != 0) = false := by rw [hd0]; rfl
            by_cases hi1 : 0 < i
            · have HQ : Hid (R = (j : Int)) := Lib.hid (by rw [HA3.out i hi1 (by rw [HSC.out, if_pos (by omega)]), HJ.out])
              have q2 : ¬ (j : Int) = (k : Int) := by have := HJ.out; omega
              have q2b : ((j : Int) == (k : Int)) = false := by simpa using q2
              clear hd0
              go_wp2_with (go_at_call 24; go_must (refine (HMA.out _).mono ?_; rintro e w2 ⟨rfl, rfl⟩))
              go_ret
              exact ⟨by rw [HQ.out]; rfl, rfl⟩
            · have HQ := Lib.hid (HA2.out (by rw [HSC.out, if_pos (by omega), show i = 0 by omega]))
              have q2 : ((j : Int) = (k : Int)) = True := eq_true (by have := HJ.out; omega)
              have q2b : ((j : Int) == (k : Int)) = true := by simp [q2]
              clear hd0
              go_wp2_with (go_at_call 24; go_must (refine (HMA.out _).mono ?_; rintro e w2 ⟨rfl, rfl⟩))
              go_ret
              exact ⟨by rw [HQ.out]; rfl, rfl⟩
          · have q1 : ¬ (d : Int) = 0 := by omega
            have q1b : ((d : Int) != 0) = true := by simpa using q1
            have HQ := Lib.hid (HA1.out (by rw [HSC.out, if_neg (by omega)]))
            clear hd0
            go_wp2_with (go_at_call 24; go_must (refine (HMA.out _).mono ?_; rintro e w2 ⟨rfl, rfl⟩))
            go_ret
            exact ⟨by rw [HQ.out]; rfl, rfl⟩
      · have HM := Lib.hid hm
        rw [HMY.out] at hm
        have HCS : Hid (∀ (h : Lx.inW a = false), a = 44 ∧ 0 < d) := Lib.hid fun h => by
          rw [h] at hm
          have : (0 : Int) < (d : Int) ∧ a = 44 := by simpa using hm
          exact ⟨this.2, by omega⟩
        clear hm
        cases hw : Lx.inW a
        · obtain ⟨h44, hdp⟩ := HCS.out hw
          have k1 : ((a.toNat : Int) = 44) = True := by rw [h44]; simp
          have k1b : ((a.toNat : Int) == 44) = true := by rw [h44]; rfl
          have k3 : ¬ (a.toNat : Int) = 123 := by rw [h44]; decide
          have k3b : ((a.toNat : Int) == 123) = false := by rw [h44]; rfl
          have k4 : ¬ (a.toNat : Int) = 125 := by rw [h44]; decide
          have k4b : ((a.toNat : Int) == 125) = false := by rw [h44]; rfl
          have k2 : (0 : Int) < (d : Int) := by omega
          have e1 : Lx.dep a (d : Int) = (d : Int) := by rw [h44]; rfl
          have HF2 : Hid (Lx.Far (s.drop k) (i + 1) (d : Int)) := Lib.hid (by have := HF.out.next HDR.out HM.out (by rw [e1]; omega); rwa [e1] at this)
          have hw1 : ¬ ((d : Int) < 0) := by omega
          rw [hw] at HMA
          clear e1 h44 hw
          go_wp2_with (go_at_call 24; go_must (refine (HMA.out _).mono ?_; rintro e w2 ⟨rfl, rfl⟩))
          go_roundw
          case rel => exact ⟨i + 1, d, by have := HJ.out; go_num, by go_num, by have := HJ.out; omega, by omega, HF2, Lib.hid (by first | trivial | rfl)⟩
          case measure => simp [intOf]; omega
        · rw [hw] at HMA
          clear hw
          by_cases h123 : a = 123
          · have k1 : ((a.toNat : Int) = 123) = True := by rw [h123]; simp
            have k1b : ((a.toNat : Int) == 123) = true := by rw [h123]; rfl
            have e1 : Lx.dep a (d : Int) = ((d + 1 : Nat) : Int) := by unfold Lx.dep; rw [if_pos h123]; omega
            have HF2 : Hid (Lx.Far (s.drop k) (i + 1) ((d + 1 : Nat) : Int)) := Lib.hid (by have := HF.out.next HDR.out HM.out (by rw [e1]; omega); rwa [e1] at this)
            have hw1 : ¬ ((d : Int) + 1 < 0) := by omega
            clear e1 h123
            go_wp2_with (go_at_call 24; go_must (refine (HMA.out _).mono ?_; rintro e w2 ⟨rfl, rfl⟩))
            go_roundw
            case rel => exact ⟨i + 1, d + 1, by have := HJ.out; go_num, by go_num, by have := HJ.out; omega, by omega, HF2, Lib.hid (by first | trivial | rfl)⟩
            case measure => simp [intOf]; omega
          · have k1 : ¬ (a.toNat : Int) = 123 := fun e => h123 (UInt8.toNat_inj.1 (by show a.toNat = 123; omega))
            have k1b : ((a.toNat : Int) == 123) = false := by simpa using k1
            by_cases h125 : a = 125
            · have k2 : ((a.toNat : Int) = 125) = True := by rw [h125]; simp
              have k2b : ((a.toNat : Int) == 125) = true := by rw [h125]; rfl
              have e1 : Lx.dep a (d : Int) = (d : Int) - 1 := by unfold Lx.dep; rw [if_neg h123, if_pos h125]
              by_cases hz : d = 0
              · have HSC : Hid (Lx.scan (s.drop k) 0 = none) := Lib.hid (HF.out.bad HDR.out HM.out (by rw [e1]; omega))
                have HQ := Lib.hid (HA1.out HSC.out)
                have hw1 : (d : Int) - 1 < 0 := by omega
                clear e1 h123 h125 hz
                go_wp2_with (go_at_call 24; go_must (refine (HMA.out _).mono ?_; rintro e w2 ⟨rfl, rfl⟩))
                go_ret
                exact ⟨by rw [HQ.out]; rfl, rfl⟩
              · obtain ⟨m, rfl⟩ : ∃ m, d = m + 1 := ⟨d - 1, by omega⟩
                have hw1 : ((m + 1 : Nat) : Int) - 1 = (m : Int) := by omega
                have HF2 : Hid (Lx.Far (s.drop k) (i + 1) (m : Int)) := Lib.hid (by have := HF.out.next HDR.out HM.out (by rw [e1]; omega); rwa [e1, hw1] at this)
                have hw2 : IntKind.i64.wrap (((m + 1 : Nat) : Int) - 1) = (m : Int) := by rw [IntKind.wrap_i64]; omega
                have hw3 : ¬ ((m : Int) < 0) := by omega
                clear e1 h123 h125 hz hw1
                go_wp2_with (go_at_call 24; go_must (refine (HMA.out _).mono ?_; rintro e w2 ⟨rfl, rfl⟩))
                go_roundw
                case rel => exact ⟨i + 1, m, by have := HJ.out; go_num, by go_num, by have := HJ.out; omega, by omega, HF2, Lib.hid (by first | trivial | rfl)⟩
                case measure => simp [intOf]; omega
            · have k2 : ¬ (a.toNat : Int) = 125 := fun e => h125 (UInt8.toNat_inj.1 (by show a.toNat = 125; omega))
              have k2b : ((a.toNat : Int) == 125) = false := by simpa using k2
              have e1 : Lx.dep a (d : Int) = (d : Int) := by unfold Lx.dep; rw [if_neg h123, if_neg h125]
              have HF2 : Hid (Lx.Far (s.drop k) (i + 1) (d : Int)) := Lib.hid (by have := HF.out.next HDR.out HM.out (by rw [e1]; omega); rwa [e1] at this)
              have hw1 : ¬ ((d : Int) < 0) := by omega
              clear e1 h123 h125
              go_wp2_with (go_at_call 24; go_must (refine (HMA.out _).mono ?_; rintro e w2 ⟨rfl, rfl⟩))
              go_roundw
              case rel => exact ⟨i + 1, d, by have := HJ.out; go_num, by go_num, by have := HJ.out; omega, by omega, HF2, Lib.hid (by first | trivial | rfl)⟩
              case measure => simp [intOf]; omega
    · have hiI : ¬ (j : Int) < (s.length : Int) := by omega
      have HSC : Hid (Lx.scan (s.drop k) 0 = if (d : Int) = 0 then some i else none) := Lib.hid (HF.out.end_ (by rw [List.drop_eq_nil_of_le (by simp; omega)]; rfl))
      clear hj
      by_cases hd0 : d = 0
      · have q1 : ((d : Int) = 0) = True := eq_true (by omega)
        have q1b : ((d : Int) != 0) = false := by rw [hd0]; rfl
        by_cases hi1 : 0 < i
        · have HQ : Hid (R = (j : Int)) := Lib.hid (by rw [HA3.out i hi1 (by rw [HSC.out, if_pos (by omega)]), HJ.out])
          have q2 : ¬ (j : Int) = (k : Int) := by have := HJ.out; omega
          have q2b : ((j : Int) == (k : Int)) = false := by simpa using q2
          clear hd0
          go_wp2_with fail
          go_ret
          exact ⟨by rw [HQ.out]; rfl, rfl⟩
        · have HQ := Lib.hid (HA2.out (by rw [HSC.out, if_pos (by omega), show i = 0 by omega]))
          have q2 : ((j : Int) = (k : Int)) = True := eq_true (by have := HJ.out; omega)
          have q2b : ((j : Int) == (k : Int)) = true := by simp [q2]
          clear hd0
          go_wp2_with fail
          go_ret
          exact ⟨by rw [HQ.out]; rfl, rfl⟩
      · have q1 : ¬ (d : Int) = 0 := by omega
        have q1b : ((d : Int) != 0) = true := by simpa using q1
        have HQ := Lib.hid (HA1.out (by rw [HSC.out, if_neg (by omega)]))
        clear hd0
        go_wp2_with fail
        go_ret
        exact ⟨by rw [HQ.out]; rfl, rfl⟩
end Go.Proofs.YtcbpdefpknckgaaDoor
