/-
  LxId: CONTRACTS: chapter 14: Ident, on both sides.
  LxPath: CONTRACTS: chapter 14: Path, on both sides; the law's tokens.
-/
import Derived.Test.YtojmcndiooiehaaGreatDoorJ6
import Derived.Test.YtojmcndiooiehaaGreatDoorJ10

set_option linter.unusedSimpArgs false
set_option linter.unusedVariables false
namespace Go.Proofs.YtojmcndiooiehaaGreatDoor
open Go.RowKit
open Me

namespace Lx
theorem all_drop (p : UInt8 → Bool) (l : List UInt8) (k : Nat) (h : k < l.length) : (l.drop k).all p = (p l[k] && (l.drop (k + 1)).all p) := by
  rw [List.drop_eq_getElem_cons h, List.all_cons]
end Lx

set_option maxHeartbeats 2000000 in
theorem ident_any (l : List UInt8) (hl : l.length ≤ 4294967280) (w : World) :
    Calls Tryz.prog 44 #[.string ⟨l.toArray⟩] w fun e w' => e = .returned (.bool (Lx.identOf l)) ∧ w = w' := by
  have HI := Lib.hid fun c W => isOfIdent_any c W
  have HL := Lib.hid fun c W => isLetter_any c W
  have HR : Hid (Lx.identOf l = ((l.drop 0).all Lx.isI && Lx.headL l)) := Lib.hid rfl
  generalize Lx.identOf l = R at *
  go_enter Tryz.func44, Tryz.ntmps44
  go_wp2_with fail
  go_loopw [3, 6] (fun _ x wr => ∃ k : Nat, x = .int .i64 k ∧ k ≤ l.length ∧ Hid (R = ((l.drop k).all Lx.isI && Lx.headL l)) ∧ Hid (w = wr)) (fun _ x _ => l.length - (intOf x).toNat)
  case atStart => exact ⟨0, rfl, by omega, HR, Lib.hid rfl⟩
  case round =>
    obtain ⟨k, rfl, hk, HM, HW⟩ := hrel
    by_cases hlt : k < l.length
    · obtain ⟨a, ha⟩ : ∃ a, l[k] = a := ⟨_, rfl⟩
      have hget : l[k]? = some a := by rw [List.getElem?_eq_getElem hlt, ha]
      obtain ⟨z0, g0⟩ := Lx.byte_at hget
      have hkI : (k : Int) < (l.length : Int) := by omega
      have hk0 : (0 : Int) ≤ (k : Int) := by omega
      have HA := HI.out a
      have HA := Lib.hid HA
      have HM2 : Hid (R = (Lx.isI a && (l.drop (k + 1)).all Lx.isI && Lx.headL l)) := Lib.hid (by rw [HM.out, Lx.all_drop _ _ _ hlt, ha])
      clear hget ha HM
      generalize Lx.isI a = q at *
      cases q
      · go_wp2_with (go_at_call 66; go_must (refine (HA.out _).mono ?_; rintro e w2 ⟨rfl, rfl⟩))
        go_ret
        exact ⟨by rw [HM2.out]; simp, HW.out⟩
      · go_wp2_with (go_at_call 66; go_must (refine (HA.out _).mono ?_; rintro e w2 ⟨rfl, rfl⟩))
        go_roundw
        case rel => exact ⟨k + 1, by go_num, by omega, Lib.hid (by rw [HM2.out]; simp), HW⟩
        case measure => simp [intOf]; omega
    · obtain rfl : k = l.length := by omega
      have HM2 : Hid (R = Lx.headL l) := Lib.hid (by rw [HM.out, List.drop_length]; rfl)
      clear HM HR
      by_cases hn : l = []
      · have HM3 : Hid (R = false) := Lib.hid (by rw [HM2.out, hn]; rfl)
        have hne : (l == ([] : List UInt8)) = true := by rw [hn]; rfl
        have hne2 : (l != ([] : List UInt8)) = false := by rw [hn]; rfl
        clear hn HM2
        go_wp2_with fail
        go_ret
        exact ⟨by rw [HM3.out]; rfl, HW.out⟩
      · obtain ⟨c, r, hcr⟩ : ∃ c r, l = c :: r := by cases l with
          | nil => exact absurd rfl hn
          | cons c r => exact ⟨c, r, rfl⟩
        have hne : (l == ([] : List UInt8)) = false := by simpa using hn
        have hne2 : (l != ([] : List UInt8)) = true := by simpa using hn
        obtain ⟨z0, g0⟩ := Lx.byte_at (s := l) (i := 0) (c := c) (by rw [hcr]; rfl)
        have HA := Lib.hid (HL.out c)
        have HM3 : Hid (R = Lx.isL c) := Lib.hid (by rw [HM2.out, hcr]; rfl)
        have hlp : (0 : Int) < (l.length : Int) := by rw [hcr]; simp
        clear HM2 hcr hn
        generalize Lx.isL c = q at *
        go_wp2_with (go_at_call 67; go_must (refine (HA.out _).mono ?_; rintro e w2 ⟨rfl, rfl⟩))
        go_ret
        exact ⟨by rw [HM3.out]; rfl, HW.out⟩

set_option maxHeartbeats 8000000 in
theorem lrefIdent_any (l : List UInt8) (hl : l.length ≤ 4294967280) (w : World) :
    Calls Tryz.prog 35 #[.string ⟨l.toArray⟩] w fun e w' => e = .returned (.bool (Lx.identOf l)) ∧ w = w' := by
  have HR : Hid (Lx.identOf l = ((l.drop 0).all Lx.isI && (if (0 : Nat) = 0 then Lx.headL l else true))) := Lib.hid rfl
  generalize Lx.identOf l = R at *
  go_enter Tryz.func35, Tryz.ntmps35
  go_wp2_with fail
  go_loopw [3, 4, 5] (fun x _ _ wr => ∃ k : Nat, x = .int .i64 k ∧ k ≤ l.length ∧ Hid (R = ((l.drop k).all Lx.isI && (if k = 0 then Lx.headL l else true))) ∧ Hid (w = wr)) (fun x _ _ _ => l.length - (intOf x).toNat)
  case atStart => exact ⟨0, rfl, by omega, HR, Lib.hid rfl⟩
  case round =>
    obtain ⟨k, rfl, hk, HM, HW⟩ := hrel
    by_cases hlt : k < l.length
    · obtain ⟨a, ha⟩ : ∃ a, l[k] = a := ⟨_, rfl⟩
      have hget : l[k]? = some a := by rw [List.getElem?_eq_getElem hlt, ha]
      obtain ⟨z0, g0⟩ := Lx.byte_at hget
      have hkI : (k : Int) < (l.length : Int) := by omega
      have hk0 : (0 : Int) ≤ (k : Int) := by omega
      have HM2 : Hid (R = (Lx.isI a && (l.drop (k + 1)).all Lx.isI && (if k = 0 then Lx.isL a else true))) := Lib.hid (by
        rw [HM.out, Lx.all_drop _ _ _ hlt, ha]
        by_cases h0 : k = 0
        · subst h0
          obtain ⟨r, hr⟩ : ∃ r, l = a :: r := by
            cases l with
            | nil => cases hlt
            | cons c r => exact ⟨r, by rw [show c = a from ha]⟩
          rw [hr]; rfl
        · rw [if_neg h0, if_neg h0])
      have HIQ : Hid (Lx.isI a = ((decide (65 ≤ a.toNat) && decide (a.toNat ≤ 90)) || (decide (97 ≤ a.toNat) && decide (a.toNat ≤ 122)) || (decide (48 ≤ a.toNat) && decide (a.toNat ≤ 57)) || decide (a.toNat = 95))) := Lib.hid (by unfold Lx.isI Lx.isL; rw [Lx.eq_nat]; rfl)
      have HLQ : Hid (Lx.isL a = ((decide (65 ≤ a.toNat) && decide (a.toNat ≤ 90)) || (decide (97 ≤ a.toNat) && decide (a.toNat ≤ 122)))) := Lib.hid rfl
      clear hget ha HM
      generalize Lx.isI a = qi at *
      generalize Lx.isL a = ql at *
      have hcase : (a.toNat < 48) ∨ (48 ≤ a.toNat ∧ a.toNat ≤ 57) ∨ (57 < a.toNat ∧ a.toNat < 65) ∨ (65 ≤ a.toNat ∧ a.toNat ≤ 90) ∨ (90 < a.toNat ∧ a.toNat < 97 ∧ a.toNat ≠ 95) ∨ (a.toNat = 95) ∨ (97 ≤ a.toNat ∧ a.toNat ≤ 122) ∨ (122 < a.toNat) := by omega
      by_cases h0 : k = 0
      · have h0I : ((k : Int) = 0) = True := eq_true (by omega)
        have h0B : ((k : Int) == 0) = true := by rw [h0]; rfl
        have HM3 : Hid (R = (qi && (l.drop (k + 1)).all Lx.isI && ql)) := Lib.hid (by rw [HM2.out, if_pos h0])
        clear HM2 h0
        rcases hcase with h | h | h | h | h | h | h | h
        · have t0 : ¬ (97 : Int) ≤ (a.toNat : Int) := by omega
          have t1 : (a.toNat : Int) ≤ 122 := by omega
          have t2 : ¬ (65 : Int) ≤ (a.toNat : Int) := by omega
          have t3 : (a.toNat : Int) ≤ 90 := by omega
          have t4 : (a.toNat : Int) < 48 := by omega
          have t5 : ¬ (57 : Int) < (a.toNat : Int) := by omega
          have t9 : ¬ (a.toNat : Int) = 95 := by omega
          have t9b : ((a.toNat : Int) != 95) = true := by simpa using t9
          have t9c : ((a.toNat : Int) == 95) = false := by simpa using t9
          have HF : Hid (R = false) := Lib.hid (by rw [HM3.out, HIQ.out]; simp; omega)
          clear h
          go_wp2_with fail
          go_ret
          exact ⟨by rw [HF.out]; rfl, HW.out⟩
        · have t0 : ¬ (97 : Int) ≤ (a.toNat : Int) := by omega
          have t1 : (a.toNat : Int) ≤ 122 := by omega
          have t2 : ¬ (65 : Int) ≤ (a.toNat : Int) := by omega
          have t3 : (a.toNat : Int) ≤ 90 := by omega
          have t4 : ¬ (a.toNat : Int) < 48 := by omega
          have t5 : ¬ (57 : Int) < (a.toNat : Int) := by omega
          have t9 : ¬ (a.toNat : Int) = 95 := by omega
          have t9b : ((a.toNat : Int) != 95) = true := by simpa using t9
          have t9c : ((a.toNat : Int) == 95) = false := by simpa using t9
          have HF : Hid (R = false) := Lib.hid (by rw [HM3.out, HLQ.out]; simp; omega)
          clear h
          go_wp2_with fail
          go_ret
          exact ⟨by rw [HF.out]; rfl, HW.out⟩
        · have t0 : ¬ (97 : Int) ≤ (a.toNat : Int) := by omega
          have t1 : (a.toNat : Int) ≤ 122 := by omega
          have t2 : ¬ (65 : Int) ≤ (a.toNat : Int) := by omega
          have t3 : (a.toNat : Int) ≤ 90 := by omega
          have t4 : ¬ (a.toNat : Int) < 48 := by omega
          have t5 : (57 : Int) < (a.toNat : Int) := by omega
          have t9 : ¬ (a.toNat : Int) = 95 := by omega
          have t9b : ((a.toNat : Int) != 95) = true := by simpa using t9
          have t9c : ((a.toNat : Int) == 95) = false := by simpa using t9
          have HF : Hid (R = false) := Lib.hid (by rw [HM3.out, HIQ.out]; simp; omega)
          clear h
          go_wp2_with fail
          go_ret
          exact ⟨by rw [HF.out]; rfl, HW.out⟩
        · have t0 : ¬ (97 : Int) ≤ (a.toNat : Int) := by omega
          have t1 : (a.toNat : Int) ≤ 122 := by omega
          have t2 : (65 : Int) ≤ (a.toNat : Int) := by omega
          have t3 : (a.toNat : Int) ≤ 90 := by omega
          have t4 : ¬ (a.toNat : Int) < 48 := by omega
          have t5 : (57 : Int) < (a.toNat : Int) := by omega
          have t9 : ¬ (a.toNat : Int) = 95 := by omega
          have t9b : ((a.toNat : Int) != 95) = true := by simpa using t9
          have t9c : ((a.toNat : Int) == 95) = false := by simpa using t9
          have e1 : qi = true := by rw [HIQ.out]; simp; omega
          have e2 : ql = true := by rw [HLQ.out]; simp; omega
          have HF : Hid (R = (l.drop (k + 1)).all Lx.isI) := Lib.hid (by rw [HM3.out, e1, e2]; simp)
          clear e1 e2
          clear h
          go_wp2_with fail
          go_roundw
          case rel => exact ⟨k + 1, by go_num, by omega, Lib.hid (by rw [HF.out, if_neg (by omega), Bool.and_true]), HW⟩
          case measure => simp [intOf]; omega
        · have t0 : ¬ (97 : Int) ≤ (a.toNat : Int) := by omega
          have t1 : (a.toNat : Int) ≤ 122 := by omega
          have t2 : (65 : Int) ≤ (a.toNat : Int) := by omega
          have t3 : ¬ (a.toNat : Int) ≤ 90 := by omega
          have t4 : ¬ (a.toNat : Int) < 48 := by omega
          have t5 : (57 : Int) < (a.toNat : Int) := by omega
          have t9 : ¬ (a.toNat : Int) = 95 := by omega
          have t9b : ((a.toNat : Int) != 95) = true := by simpa using t9
          have t9c : ((a.toNat : Int) == 95) = false := by simpa using t9
          have HF : Hid (R = false) := Lib.hid (by rw [HM3.out, HIQ.out]; simp; omega)
          clear h
          go_wp2_with fail
          go_ret
          exact ⟨by rw [HF.out]; rfl, HW.out⟩
        · have t0 : ¬ (97 : Int) ≤ (a.toNat : Int) := by omega
          have t1 : (a.toNat : Int) ≤ 122 := by omega
          have t2 : (65 : Int) ≤ (a.toNat : Int) := by omega
          have t3 : ¬ (a.toNat : Int) ≤ 90 := by omega
          have t4 : ¬ (a.toNat : Int) < 48 := by omega
          have t5 : (57 : Int) < (a.toNat : Int) := by omega
          have t9 : ((a.toNat : Int) = 95) = True := eq_true (by omega)
          have t9b : ((a.toNat : Int) != 95) = false := by simp [t9]
          have t9c : ((a.toNat : Int) == 95) = true := by simp [t9]
          have HF : Hid (R = false) := Lib.hid (by rw [HM3.out, HLQ.out]; simp; omega)
          clear h
          go_wp2_with fail
          go_ret
          exact ⟨by rw [HF.out]; rfl, HW.out⟩
        · have t0 : (97 : Int) ≤ (a.toNat : Int) := by omega
          have t1 : (a.toNat : Int) ≤ 122 := by omega
          have t2 : (65 : Int) ≤ (a.toNat : Int) := by omega
          have t3 : ¬ (a.toNat : Int) ≤ 90 := by omega
          have t4 : ¬ (a.toNat : Int) < 48 := by omega
          have t5 : (57 : Int) < (a.toNat : Int) := by omega
          have t9 : ¬ (a.toNat : Int) = 95 := by omega
          have t9b : ((a.toNat : Int) != 95) = true := by simpa using t9
          have t9c : ((a.toNat : Int) == 95) = false := by simpa using t9
          have e1 : qi = true := by rw [HIQ.out]; simp; omega
          have e2 : ql = true := by rw [HLQ.out]; simp; omega
          have HF : Hid (R = (l.drop (k + 1)).all Lx.isI) := Lib.hid (by rw [HM3.out, e1, e2]; simp)
          clear e1 e2
          clear h
          go_wp2_with fail
          go_roundw
          case rel => exact ⟨k + 1, by go_num, by omega, Lib.hid (by rw [HF.out, if_neg (by omega), Bool.and_true]), HW⟩
          case measure => simp [intOf]; omega
        · have t0 : (97 : Int) ≤ (a.toNat : Int) := by omega
          have t1 : ¬ (a.toNat : Int) ≤ 122 := by omega
          have t2 : (65 : Int) ≤ (a.toNat : Int) := by omega
          have t3 : ¬ (a.toNat : Int) ≤ 90 := by omega
          have t4 : ¬ (a.toNat : Int) < 48 := by omega
          have t5 : (57 : Int) < (a.toNat : Int) := by omega
          have t9 : ¬ (a.toNat : Int) = 95 := by omega
          have t9b : ((a.toNat : Int) != 95) = true := by simpa using t9
          have t9c : ((a.toNat : Int) == 95) = false := by simpa using t9
          have HF : Hid (R = false) := Lib.hid (by rw [HM3.out, HIQ.out]; simp; omega)
          clear h
          go_wp2_with fail
          go_ret
          exact ⟨by rw [HF.out]; rfl, HW.out⟩
      · have h0I : ¬ ((k : Int) = 0) := by omega
        have h0B : ((k : Int) == 0) = false := by simpa using h0I
        have HM3 : Hid (R = (qi && (l.drop (k + 1)).all Lx.isI)) := Lib.hid (by rw [HM2.out, if_neg h0, Bool.and_true])
        clear HM2 h0
        rcases hcase with h | h | h | h | h | h | h | h
        · have t0 : ¬ (97 : Int) ≤ (a.toNat : Int) := by omega
          have t1 : (a.toNat : Int) ≤ 122 := by omega
          have t2 : ¬ (65 : Int) ≤ (a.toNat : Int) := by omega
          have t3 : (a.toNat : Int) ≤ 90 := by omega
          have t4 : (a.toNat : Int) < 48 := by omega
          have t5 : ¬ (57 : Int) < (a.toNat : Int) := by omega
          have t9 : ¬ (a.toNat : Int) = 95 := by omega
          have t9b : ((a.toNat : Int) != 95) = true := by simpa using t9
          have t9c : ((a.toNat : Int) == 95) = false := by simpa using t9
          have HF : Hid (R = false) := Lib.hid (by rw [HM3.out, HIQ.out]; simp; omega)
          clear h
          go_wp2_with fail
          go_ret
          exact ⟨by rw [HF.out]; rfl, HW.out⟩
        · have t0 : ¬ (97 : Int) ≤ (a.toNat : Int) := by omega
          have t1 : (a.toNat : Int) ≤ 122 := by omega
          have t2 : ¬ (65 : Int) ≤ (a.toNat : Int) := by omega
          have t3 : (a.toNat : Int) ≤ 90 := by omega
          have t4 : ¬ (a.toNat : Int) < 48 := by omega
          have t5 : ¬ (57 : Int) < (a.toNat : Int) := by omega
          have t9 : ¬ (a.toNat : Int) = 95 := by omega
          have t9b : ((a.toNat : Int) != 95) = true := by simpa using t9
          have t9c : ((a.toNat : Int) == 95) = false := by simpa using t9
          have e1 : qi = true := by rw [HIQ.out]; simp; omega
          have HF : Hid (R = (l.drop (k + 1)).all Lx.isI) := Lib.hid (by rw [HM3.out, e1]; simp)
          clear e1
          clear h
          go_wp2_with fail
          go_roundw
          case rel => exact ⟨k + 1, by go_num, by omega, Lib.hid (by rw [HF.out, if_neg (by omega), Bool.and_true]), HW⟩
          case measure => simp [intOf]; omega
        · have t0 : ¬ (97 : Int) ≤ (a.toNat : Int) := by omega
          have t1 : (a.toNat : Int) ≤ 122 := by omega
          have t2 : ¬ (65 : Int) ≤ (a.toNat : Int) := by omega
          have t3 : (a.toNat : Int) ≤ 90 := by omega
          have t4 : ¬ (a.toNat : Int) < 48 := by omega
          have t5 : (57 : Int) < (a.toNat : Int) := by omega
          have t9 : ¬ (a.toNat : Int) = 95 := by omega
          have t9b : ((a.toNat : Int) != 95) = true := by simpa using t9
          have t9c : ((a.toNat : Int) == 95) = false := by simpa using t9
          have HF : Hid (R = false) := Lib.hid (by rw [HM3.out, HIQ.out]; simp; omega)
          clear h
          go_wp2_with fail
          go_ret
          exact ⟨by rw [HF.out]; rfl, HW.out⟩
        · have t0 : ¬ (97 : Int) ≤ (a.toNat : Int) := by omega
          have t1 : (a.toNat : Int) ≤ 122 := by omega
          have t2 : (65 : Int) ≤ (a.toNat : Int) := by omega
          have t3 : (a.toNat : Int) ≤ 90 := by omega
          have t4 : ¬ (a.toNat : Int) < 48 := by omega
          have t5 : (57 : Int) < (a.toNat : Int) := by omega
          have t9 : ¬ (a.toNat : Int) = 95 := by omega
          have t9b : ((a.toNat : Int) != 95) = true := by simpa using t9
          have t9c : ((a.toNat : Int) == 95) = false := by simpa using t9
          have e1 : qi = true := by rw [HIQ.out]; simp; omega
          have HF : Hid (R = (l.drop (k + 1)).all Lx.isI) := Lib.hid (by rw [HM3.out, e1]; simp)
          clear e1
          clear h
          go_wp2_with fail
          go_roundw
          case rel => exact ⟨k + 1, by go_num, by omega, Lib.hid (by rw [HF.out, if_neg (by omega), Bool.and_true]), HW⟩
          case measure => simp [intOf]; omega
        · have t0 : ¬ (97 : Int) ≤ (a.toNat : Int) := by omega
          have t1 : (a.toNat : Int) ≤ 122 := by omega
          have t2 : (65 : Int) ≤ (a.toNat : Int) := by omega
          have t3 : ¬ (a.toNat : Int) ≤ 90 := by omega
          have t4 : ¬ (a.toNat : Int) < 48 := by omega
          have t5 : (57 : Int) < (a.toNat : Int) := by omega
          have t9 : ¬ (a.toNat : Int) = 95 := by omega
          have t9b : ((a.toNat : Int) != 95) = true := by simpa using t9
          have t9c : ((a.toNat : Int) == 95) = false := by simpa using t9
          have HF : Hid (R = false) := Lib.hid (by rw [HM3.out, HIQ.out]; simp; omega)
          clear h
          go_wp2_with fail
          go_ret
          exact ⟨by rw [HF.out]; rfl, HW.out⟩
        · have t0 : ¬ (97 : Int) ≤ (a.toNat : Int) := by omega
          have t1 : (a.toNat : Int) ≤ 122 := by omega
          have t2 : (65 : Int) ≤ (a.toNat : Int) := by omega
          have t3 : ¬ (a.toNat : Int) ≤ 90 := by omega
          have t4 : ¬ (a.toNat : Int) < 48 := by omega
          have t5 : (57 : Int) < (a.toNat : Int) := by omega
          have t9 : ((a.toNat : Int) = 95) = True := eq_true (by omega)
          have t9b : ((a.toNat : Int) != 95) = false := by simp [t9]
          have t9c : ((a.toNat : Int) == 95) = true := by simp [t9]
          have e1 : qi = true := by rw [HIQ.out]; simp; omega
          have HF : Hid (R = (l.drop (k + 1)).all Lx.isI) := Lib.hid (by rw [HM3.out, e1]; simp)
          clear e1
          clear h
          go_wp2_with fail
          go_roundw
          case rel => exact ⟨k + 1, by go_num, by omega, Lib.hid (by rw [HF.out, if_neg (by omega), Bool.and_true]), HW⟩
          case measure => simp [intOf]; omega
        · have t0 : (97 : Int) ≤ (a.toNat : Int) := by omega
          have t1 : (a.toNat : Int) ≤ 122 := by omega
          have t2 : (65 : Int) ≤ (a.toNat : Int) := by omega
          have t3 : ¬ (a.toNat : Int) ≤ 90 := by omega
          have t4 : ¬ (a.toNat : Int) < 48 := by omega
          have t5 : (57 : Int) < (a.toNat : Int) := by omega
          have t9 : ¬ (a.toNat : Int) = 95 := by omega
          have t9b : ((a.toNat : Int) != 95) = true := by simpa using t9
          have t9c : ((a.toNat : Int) == 95) = false := by simpa using t9
          have e1 : qi = true := by rw [HIQ.out]; simp; omega
          have HF : Hid (R = (l.drop (k + 1)).all Lx.isI) := Lib.hid (by rw [HM3.out, e1]; simp)
          clear e1
          clear h
          go_wp2_with fail
          go_roundw
          case rel => exact ⟨k + 1, by go_num, by omega, Lib.hid (by rw [HF.out, if_neg (by omega), Bool.and_true]), HW⟩
          case measure => simp [intOf]; omega
        · have t0 : (97 : Int) ≤ (a.toNat : Int) := by omega
          have t1 : ¬ (a.toNat : Int) ≤ 122 := by omega
          have t2 : (65 : Int) ≤ (a.toNat : Int) := by omega
          have t3 : ¬ (a.toNat : Int) ≤ 90 := by omega
          have t4 : ¬ (a.toNat : Int) < 48 := by omega
          have t5 : (57 : Int) < (a.toNat : Int) := by omega
          have t9 : ¬ (a.toNat : Int) = 95 := by omega
          have t9b : ((a.toNat : Int) != 95) = true := by simpa using t9
          have t9c : ((a.toNat : Int) == 95) = false := by simpa using t9
          have HF : Hid (R = false) := Lib.hid (by rw [HM3.out, HIQ.out]; simp; omega)
          clear h
          go_wp2_with fail
          go_ret
          exact ⟨by rw [HF.out]; rfl, HW.out⟩
    · obtain rfl : k = l.length := by omega
      have HM2 : Hid (R = decide (0 < l.length)) := Lib.hid (by
        rw [HM.out, List.drop_length]
        cases l with
        | nil => rfl
        | cons c r => simp)
      have hkI : ¬ (l.length : Int) < (l.length : Int) := by omega
      clear HM HR
      go_wp2_with fail
      go_ret
      exact ⟨by rw [HM2.out]; rfl, HW.out⟩
end Go.Proofs.YtojmcndiooiehaaGreatDoor

namespace Go.Proofs.YtojmcndiooiehaaGreatDoor
open Go.RowKit
open Me

namespace Lx
/-- Path, as it is asked of any text. -/
def pathA (l : List UInt8) : Bool := decide (l.length ≤ 4096) && pathOf l
theorem rd_tok {w : World} {G : Nat → Prop} {A : Option Addr} {l : List Tok} (h : Rd w G A (cellsT l)) {i : Nat} (hi : i < l.length) : ∃ b o, A = some ⟨b, o, none⟩ ∧ b < w.heap.size ∧ w.cell? ⟨b, o + i * 2, none⟩ = some (.int .i64 l[i].1) ∧ w.cell? ⟨b, o + i * 2 + 1, none⟩ = some (.string ⟨l[i].2.toArray⟩) := by
  obtain ⟨b, o, hA, hb, _, hc⟩ := h.lit (i * 2) (by rw [cellsT_len]; omega)
  have hg : ∀ (l : List Tok) (i : Nat) (hi : i < l.length), (cellsT l)[i * 2]? = some (.int .i64 l[i].1) ∧ (cellsT l)[i * 2 + 1]? = some (.string ⟨l[i].2.toArray⟩) := by
    intro l
    induction l with
    | nil => intro i hi; cases hi
    | cons x l ih =>
      intro i hi
      have e : cellsT (x :: l) = .int .i64 x.1 :: .string ⟨x.2.toArray⟩ :: cellsT l := rfl
      cases i with
      | zero => rw [e]; exact ⟨rfl, rfl⟩
      | succ i =>
        have := ih i (by simpa using hi)
        rw [e, show (i + 1) * 2 = i * 2 + 1 + 1 by omega]
        exact this
  obtain ⟨g1, g2⟩ := hg l i hi
  exact ⟨b, o, hA, hb, hc _ _ g1, by rw [Nat.add_assoc]; exact hc _ _ g2⟩
theorem below_drewN {B : Nat} {a w : World} (h : Below B a w) (n : Nat) : Below B a (w.drewN n) := ⟨h.os, h.tape, h.output, h.size, h.block⟩
theorem path_long {l : List UInt8} (h : 4096 < l.length) : pathA l = false := by
  unfold pathA; rw [decide_eq_false (by omega)]; rfl
theorem path_word {l : List UInt8} (h : ¬ 4096 < l.length) : pathA l = (decide (lex l = some [(1, l)]) && !l.contains 43) := by
  unfold pathA pathOf
  rw [decide_eq_true (by omega), Bool.true_and]
  congr 1
  have := one_word l
  by_cases h1 : scan l 0 = some l.length
  · by_cases h2 : 0 < l.length
    · rw [decide_eq_true h1, decide_eq_true h2, decide_eq_true (this.2 ⟨h1, h2⟩)]; rfl
    · rw [decide_eq_false h2, decide_eq_false (fun e => h2 (this.1 e).2), Bool.and_false]
  · rw [decide_eq_false h1, decide_eq_false (fun e => h1 (this.1 e).1), Bool.false_and]
end Lx

set_option maxRecDepth 100000 in
set_option maxHeartbeats 8000000 in
theorem lpath_any (s : List UInt8) (hs : s.length ≤ 4294967280) (w : World) :
    Calls Tryz.prog 83 #[.string ⟨s.toArray⟩] w fun e w' => e = .returned (.bool (Lx.pathA s)) ∧ Below w.heap.size w w' := by
  have HLX := Lib.hid (llex_any s hs w)
  have HCT := Lib.hid fun W => contains_one s 43 W
  have HNO : Hid ((Lx.lexL s).length ≠ 1 → Lx.pathA s = false) := Lib.hid fun h => by
    by_cases hl : 4096 < s.length
    · exact Lx.path_long hl
    · rw [Lx.path_word hl]
      cases hx : Lx.lex s with
      | none => rfl
      | some x =>
        rw [(Lx.lex_yes hl hx).2] at h
        rw [decide_eq_false (fun e => h (by rw [Option.some.inj e]; rfl))]; rfl
  have HYES : Hid (∀ k t, Lx.lexL s = [(k, t)] → Lx.pathA s = (decide (k = 1 ∧ t = s) && !s.contains 43)) := Lib.hid fun k t h => by
    by_cases hl : 4096 < s.length
    · rw [(Lx.lex_long hl).2] at h; cases h
    · rw [Lx.path_word hl]
      cases hx : Lx.lex s with
      | none => rw [(Lx.lex_no hl hx).2] at h; cases h
      | some x =>
        rw [(Lx.lex_yes hl hx).2] at h
        subst h
        congr 1
        rw [decide_eq_decide]
        constructor
        · intro e; have := Option.some.inj e; simpa using this
        · rintro ⟨rfl, rfl⟩; rfl
  have HLX2 : Hid (Calls Tryz.prog 19 #[.string ⟨s.toArray⟩] w fun e w' => ∃ v er, e = .returned (.tuple #[v, .int .i64 er]) ∧ Lx.OwnT 67 w.heap.size w' v (Lx.lexL s) ∧ Below w.heap.size w w') := Lib.hid (HLX.out.mono fun e w' ⟨v, h1, h2, h3⟩ => ⟨v, _, h1, h2, h3⟩)
  clear HLX
  generalize Lx.pathA s = R at *
  generalize Lx.lexL s = L at *
  by_cases h1 : L.length = 1
  · obtain ⟨⟨k, t⟩, rfl⟩ : ∃ x, L = [x] := by
      cases L with
      | nil => cases h1
      | cons x r =>
        cases r with
        | nil => exact ⟨x, rfl⟩
        | cons y r => simp at h1
    have HQ := Lib.hid (HYES.out k t rfl)
    clear h1 HYES HNO
    generalize s.contains 43 = q at *
    by_cases hk : k = 1
    · subst hk
      by_cases ht : t = s
      · have HQ2 : Hid (R = !q) := Lib.hid (by rw [HQ.out, decide_eq_true ⟨rfl, ht⟩]; rfl)
        subst ht
        clear HQ
        go_enter Tryz.func83, Tryz.ntmps83
        go_wp2_with first
          | (go_at_call 19; go_must (refine HLX2.out.mono ?_; rintro e w1 ⟨v, er, rfl, ho, hb⟩; obtain ⟨A, c, hv⟩ := ho.form; have hv2 : v = .slice A 1 c := hv; subst hv2; obtain ⟨b1, o1, rfl, hb1, x0, x1⟩ := Lx.rd_tok (i := 0) (Rd.own ho) (by simp); have x0 : w1.cell? ⟨b1, o1, none⟩ = some (.int .i64 1) := x0; have x1 : w1.cell? ⟨b1, o1 + 1, none⟩ = some (.string ⟨t.toArray⟩) := x1; have HB := Lib.hid hb; clear ho hb hv))
          | (go_at_call 63; go_must (refine (HCT.out _).mono ?_; rintro e w2 ⟨rfl, rfl⟩))
        go_ret
        exact ⟨by rw [HQ2.out]; rfl, HB.out⟩
      · have HQ2 : Hid (R = false) := Lib.hid (by rw [HQ.out, decide_eq_false (fun e => ht e.2)]; rfl)
        have e1 : (t == s) = false := by simpa using ht
        have e2 : ¬ t = s := ht
        clear HQ ht
        go_enter Tryz.func83, Tryz.ntmps83
        go_wp2_with first
          | (go_at_call 19; go_must (refine HLX2.out.mono ?_; rintro e w1 ⟨v, er, rfl, ho, hb⟩; obtain ⟨A, c, hv⟩ := ho.form; have hv2 : v = .slice A 1 c := hv; subst hv2; obtain ⟨b1, o1, rfl, hb1, x0, x1⟩ := Lx.rd_tok (i := 0) (Rd.own ho) (by simp); have x0 : w1.cell? ⟨b1, o1, none⟩ = some (.int .i64 1) := x0; have x1 : w1.cell? ⟨b1, o1 + 1, none⟩ = some (.string ⟨t.toArray⟩) := x1; have HB := Lib.hid hb; clear ho hb hv))
          | (go_at_call 63; go_must (refine (HCT.out _).mono ?_; rintro e w2 ⟨rfl, rfl⟩))
        go_ret
        exact ⟨by rw [HQ2.out]; rfl, HB.out⟩
    · have HQ2 : Hid (R = false) := Lib.hid (by rw [HQ.out, decide_eq_false (fun e => hk e.1)]; rfl)
      have e1 : (k == 1) = false := by simpa using hk
      have e2 : ¬ k = 1 := hk
      clear HQ hk
      go_enter Tryz.func83, Tryz.ntmps83
      go_wp2_with first
        | (go_at_call 19; go_must (refine HLX2.out.mono ?_; rintro e w1 ⟨v, er, rfl, ho, hb⟩; obtain ⟨A, c, hv⟩ := ho.form; have hv2 : v = .slice A 1 c := hv; subst hv2; obtain ⟨b1, o1, rfl, hb1, x0, x1⟩ := Lx.rd_tok (i := 0) (Rd.own ho) (by simp); have x0 : w1.cell? ⟨b1, o1, none⟩ = some (.int .i64 k) := x0; have x1 : w1.cell? ⟨b1, o1 + 1, none⟩ = some (.string ⟨t.toArray⟩) := x1; have HB := Lib.hid hb; clear ho hb hv))
        | (go_at_call 63; go_must (refine (HCT.out _).mono ?_; rintro e w2 ⟨rfl, rfl⟩))
      go_ret
      exact ⟨by rw [HQ2.out]; rfl, HB.out⟩
  · have HQ := Lib.hid (HNO.out h1)
    have e1 : ¬ (L.length : Int) = 1 := by omega
    have e2 : ((L.length : Int) == 1) = false := by simpa using e1
    clear h1 HYES HNO
    go_enter Tryz.func83, Tryz.ntmps83
    go_wp2_with (go_at_call 19; go_must (refine HLX2.out.mono ?_; rintro e w1 ⟨v, er, rfl, ho, hb⟩; obtain ⟨A, c, rfl⟩ := ho.form; have HB := Lib.hid hb; clear ho hb))
    go_ret
    exact ⟨by rw [HQ.out]; rfl, HB.out⟩

end Go.Proofs.YtojmcndiooiehaaGreatDoor
