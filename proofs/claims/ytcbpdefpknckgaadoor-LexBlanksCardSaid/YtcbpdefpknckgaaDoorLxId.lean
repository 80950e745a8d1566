/-
  CONTRACTS: chapter 14: Ident, on both sides.
-/
import Derived.Test.YtcbpdefpknckgaaDoorLxByte
namespace Go.Proofs.YtcbpdefpknckgaaDoor
open Go.RowKit
open Me

namespace Lx
theorem all_drop (p : UInt8 → Bool) (l : List UInt8) (k : Nat) (h : k < l.length) : (l.drop k).all p = (p l[k] && (l.drop (k + 1)).all p) := by
  rw [List.drop_eq_getElem_cons h, List.all_cons]
end Lx

set_option maxHeartbeats 2000000 in
theorem ident_any (l : List UInt8) (hl : l.length ≤ 4294967280) (w : World) :
    Calls Tryd.prog 12 #[.string ⟨l.toArray⟩] w fun e w' => e = .returned (.bool (Lx.identOf l)) ∧ w = w' := by
  have HI := Lib.hid fun c W => isOfIdent_any c W
  have HL := Lib.hid fun c W => isLetter_any c W
  have HR : Hid (Lx.identOf l = ((l.drop 0).all Lx.isI && Lx.headL l)) := Lib.hid rfl
  generalize Lx.identOf l = R at *
  go_enter Tryd.func12, Tryd.ntmps12
  go_wp2_with fail
  go_loopw [3, 6] (fun _ x wr => ∃ k : Nat, x = .int .i64 k ∧ k ≤ l.length ∧ Hid (R = ((l.drop k).all Lx.isI && Lx.headL l)) ∧ Hid (w = wr)) (fun _ x _ => l.length - (intOf x).toNat)
  case atStart => exact ⟨0, rfl, by omega, HR, Lib.hid rfl⟩
  case round =>
    obtain ⟨k, rfl, hk, HM, HW⟩ := hrel
    by_cases hlt : k < l.length
    · obtain ⟨a, ha⟩ : ∃ a, l[k] = a := ⟨_, rfl⟩
      have hget : l[k]? = some a := by rw [List.getElem?_eq_getElem hlt, ha]
      obtain ⟨z0, g0⟩ := Lx.byte_at hget
      have hkI : (k : Int) < (l.length : Int) := by omega
      have hk0 : (0 : Int) ≤ (k : Int) := by omega
      have HA := HI.out a
      have HA := Lib.hid HA
      have HM2 : Hid (R = (Lx.isI a && (l.drop (k + 1)).all Lx.isI && Lx.headL l)) := Lib.hid (by rw [HM.out, Lx.all_drop _ _ _ hlt, ha])
      clear hget ha HM
      generalize Lx.isI a = q at *
      cases q
      · go_wp2_with (go_at_call 18; go_must (refine (HA.out _).mono ?_; rintro e w2 ⟨rfl, rfl⟩))
        go_ret
        exact ⟨by rw [HM2.out]; simp, HW.out⟩
      · go_wp2_with (go_at_call 18; go_must (refine (HA.out _).mono ?_; rintro e w2 ⟨rfl, rfl⟩))
        go_roundw
        case rel => exact ⟨k + 1, by go_num, by omega, Lib.hid (by rw [HM2.out]; simp), HW⟩
        case measure => simp [intOf]; omega
    · obtain rfl : k = l.length := by omega
      have HM2 : Hid (R = Lx.headL l) := Lib.hid (by rw [HM.out, List.drop_length]; rfl)
      clear HM HR
      by_cases hn : l = []
      · have HM3 : Hid (R = false) := Lib.hid (by rw [HM2.out, hn]; rfl)
        have hne : (l == ([] : List UInt8)) = true := by rw [hn]; rfl
        have hne2 : (l != ([] : List UInt8)) = false := by rw [hn]; rfl
        clear hn HM2
        go_wp2_with fail
        go_ret
        exact ⟨by rw [HM3.out]; rfl, HW.out⟩
      · obtain ⟨c, r, hcr⟩ : ∃ c r, l = c :: r := by cases l with
          | nil => exact absurd rfl hn
          | cons c r => exact ⟨c, r, rfl⟩
        have hne : (l == ([] : List UInt8)) = false := by simpa using hn
        have hne2 : (l != ([] : List UInt8)) = true := by simpa using hn
        obtain ⟨z0, g0⟩ := Lx.byte_at (s := l) (i := 0) (c := c) (by rw [hcr]; rfl)
        have HA := Lib.hid (HL.out c)
        have HM3 : Hid (R = Lx.isL c) := Lib.hid (by rw [HM2.out, hcr]; rfl)
        have hlp : (0 : Int) < (l.length : Int) := by rw [hcr]; simp
        clear HM2 hcr hn
        generalize Lx.isL c = q at *
        go_wp2_with (go_at_call 19; go_must (refine (HA.out _).mono ?_; rintro e w2 ⟨rfl, rfl⟩))
        go_ret
        exact ⟨by rw [HM3.out]; rfl, HW.out⟩

set_option maxHeartbeats 8000000 in
theorem lrefIdent_any (l : List UInt8) (hl : l.length ≤ 4294967280) (w : World) :
    Calls Tryd.prog 13 #[.string ⟨l.toArray⟩] w fun e w' => e = .returned (.bool (Lx.identOf l)) ∧ w = w' := by
  have HR : Hid (Lx.identOf l = ((l.drop 0).all Lx.isI && (if (0 : Nat) = 0 then Lx.headL l else true))) := Lib.hid rfl
  generalize Lx.identOf l = R at *
  go_enter Tryd.func13, Tryd.ntmps13
  go_wp2_with fail
  go_loopw [3, 4, 5] (fun x _ _ wr => ∃ k : Nat, x = .int .i64 k ∧ k ≤ l.length ∧ Hid (R = ((l.drop k).all Lx.isI && (if k = 0 then Lx.headL l else true))) ∧ Hid (w = wr)) (fun x _ _ _ => l.length - (intOf x).toNat)
  case atStart => exact ⟨0, rfl, by omega, HR, Lib.hid rfl⟩
  case round =>
    obtain ⟨k, rfl, hk, HM, HW⟩ := hrel
    by_cases hlt : k < l.length
    · obtain ⟨a, ha⟩ : ∃ a, l[k] = a := ⟨_, rfl⟩
      have hget : l[k]? = some a := by rw [List.getElem?_eq_getElem hlt, ha]
      obtain ⟨z0, g0⟩ := Lx.byte_at hget
      have hkI : (k : Int) < (l.length : Int) := by omega
      have hk0 : (0 : Int) ≤ (k : Int) := by omega
      have HM2 : Hid (R = (Lx.isI a && (l.drop (k + 1)).all Lx.isI && (if k = 0 then Lx.isL a else true))) := Lib.hid (by
        rw [HM.out, Lx.all_drop _ _ _ hlt, ha]
        by_cases h0 : k = 0
        · subst h0
          obtain ⟨r, hr⟩ : ∃ r, l = a :: r := by
            cases l with
            | nil => cases hlt
            | cons c r => exact ⟨r, by rw [show c = a from ha]⟩
          rw [hr]; rfl
        · rw [if_neg h0, if_neg h0])
      have HIQ : Hid (Lx.isI a = ((decide (65 ≤ a.toNat) && decide (a.toNat ≤ 90)) || (decide (97 ≤ a.toNat) && decide (a.toNat ≤ 122)) || (decide (48 ≤ a.toNat) && decide (a.toNat ≤ 57)) || decide (a.toNat = 95))) := Lib.hid (by unfold Lx.isI Lx.isL; rw [Lx.eq_nat]; rfl)
      have HLQ : Hid (Lx.isL a = ((decide (65 ≤ a.toNat) && decide (a.toNat ≤ 90)) || (decide (97 ≤ a.toNat) && decide (a.toNat ≤ 122)))) := Lib.hid rfl
      clear hget ha HM
      generalize Lx.isI a = qi at *
      generalize Lx.isL a = ql at *
      have hcase : (a.toNat < 48) ∨ (48 ≤ a.toNat ∧ a.toNat ≤ 57) ∨ (57 < a.toNat ∧ a.toNat < 65) ∨ (65 ≤ a.toNat ∧ a.toNat ≤ 90) ∨ (90 < a.toNat ∧ a.toNat < 97 ∧ a.toNat ≠ 95) ∨ (a.toNat = 95) ∨ (97 ≤ a.toNat ∧ a.toNat ≤ 122) ∨ (122 < a.toNat) := by omega
      by_cases h0 : k = 0
      · have h0I : ((k : Int) = 0) = True := eq_true (by omega)
        have h0B : ((k : Int) == 0) = true := by rw [h0]; rfl
        have HM3 : Hid (R = (qi && (l.drop (k + 1)).all Lx.isI && ql)) := Lib.hid (by rw [HM2.out, if_pos h0])
        clear HM2 h0
        rcases hcase with h | h | h | h | h | h | h | h
        · have t0 : ¬ (97 : Int) ≤ (a.toNat : Int) := by omega
          have t1 : (a.toNat : Int) ≤ 122 := by omega
          have t2 : ¬ (65 : Int) ≤ (a.toNat : Int) := by omega
          have t3 : (a.toNat : Int) ≤ 90 := by omega
          have t4 : (a.toNat : Int) < 48 := by omega
          have t5 : ¬ (57 : Int) < (a.toNat : Int) := by omega
          have t9 : ¬ (a.toNat : Int) = 95 := by omega
          have t9b : ((a.toNat : Int) != 95) = true := by simpa using t9
          have t9c : ((a.toNat : Int) == 95) = false := by simpa using t9
          have HF : Hid (R = false) := Lib.hid (by rw [HM3.out, HIQ.out]; simp; omega)
          clear h
          go_wp2_with fail
          go_ret
          exact ⟨by rw [HF.out]; rfl, HW.out⟩
        · have t0 : ¬ (97 : Int) ≤ (a.toNat : Int) := by omega
          have t1 : (a.toNat : Int) ≤ 122 := by omega
          have t2 : ¬ (65 : Int) ≤ (a.toNat : Int) := by omega
          have t3 : (a.toNat : Int) ≤ 90 := by omega
          have t4 : ¬ (a.toNat : Int) < 48 := by omega
          have t5 : ¬ (57 : Int) < (a.toNat : Int) := by omega
          have t9 : ¬ (a.toNat : Int) = 95 := by omega
          have t9b : ((a.toNat : Int) != 95) = true := by simpa using t9
          have t9c : ((a.toNat : Int) == 95) = false := by simpa using t9
          have HF : Hid (R = false) := Lib.hid (by rw [HM3.out, HLQ.out]; simp; omega)
          clear h
          go_wp2_with fail
          go_ret
          exact ⟨by rw [HF.out]; rfl, HW.out⟩
        · have t0 : ¬ (97 : Int) ≤ (a.toNat : Int) := by omega
          have t1 : (a.toNat : Int) ≤ 122 := by omega
          have t2 : ¬ (65 : Int) ≤ (a.toNat : Int) := by omega
          have t3 : (a.toNat : Int) ≤ 90 := by omega
          have t4 : ¬ (a.toNat : Int) < 48 := by omega
          have t5 : (57 : Int) < (a.toNat : Int) := by omega
          have t9 : ¬ (a.toNat : Int) = 95 := by omega
          have t9b : ((a.toNat : Int) != 95) = true := by simpa using t9
          have t9c : ((a.toNat : Int) == 95) = false := by simpa using t9
          have HF : Hid (R = false) := Lib.hid (by rw [HM3.out, HIQ.out]; simp; omega)
          clear h
          go_wp2_with fail
          go_ret
          exact ⟨by rw [HF.out]; rfl, HW.out⟩
        · have t0 : ¬ (97 : Int) ≤ (a.toNat : Int) := by omega
          have t1 : (a.toNat : Int) ≤ 122 := by omega
          have t2 : (65 : Int) ≤ (a.toNat : Int) := by omega
          have t3 : (a.toNat : Int) ≤ 90 := by omega
          have t4 : ¬ (a.toNat : Int) < 48 := by omega
          have t5 : (57 : Int) < (a.toNat : Int) := by omega
          have t9 : ¬ (a.toNat : Int) = 95 := by omega
          have t9b : ((a.toNat : Int) != 95) = true := by simpa using t9
          have t9c : ((a.toNat : Int) == 95) = false := by simpa using t9
          have e1 : qi = true := by rw [HIQ.out]; simp; omega
          have e2 : ql = true := by rw [HLQ.out]; simp; omega
          have HF : Hid (R = (l.drop (k + 1)).all Lx.isI) := Lib.hid (by rw [HM3.out, e1, e2]; simp)
          clear e1 e2
          clear h
          go_wp2_with fail
          go_roundw
          case rel => exact ⟨k + 1, by go_num, by omega, Lib.hid (by rw [HF.out, if_neg (by omega), Bool.and_true]), HW⟩
          case measure => simp [intOf]; omega
        · have t0 : ¬ (97 : Int) ≤ (a.toNat : Int) := by omega
          have t1 : (a.toNat : Int) ≤ 122 := by omega
          have t2 : (65 : Int) ≤ (a.toNat : Int) := by omega
          have t3 : ¬ (a.toNat : Int) ≤ 90 := by omega
          have t4 : ¬ (a.toNat : Int) < 48 := by omega
          have t5 : (57 : Int) < (a.toNat : Int) := by omega
          have t9 : ¬ (a.toNat : Int) = 95 := by omega
          have t9b : ((a.toNat : Int) != 95) = true := by simpa using t9
          have t9c : ((a.toNat : Int) == 95) = false := by simpa using t9
          have HF : Hid (R = false) := Lib.hid (by rw [HM3.out, HIQ.out]; simp; omega)
          clear h
          go_wp2_with fail
          go_ret
          exact ⟨by rw [HF.out]; rfl, HW.out⟩
        · have t0 : ¬ (97 : Int) ≤ (a.toNat : Int) := by omega
          have t1 : (a.toNat : Int) ≤ 122 := by omega
          have t2 : (65 : Int) ≤ (a.toNat : Int) := by omega
          have t3 : ¬ (a.toNat : Int) ≤ 90 := by omega
          have t4 : ¬ (a.toNat : Int) < 48 := by omega
          have t5 : (57 : Int) < (a.toNat : Int) := by omega
          have t9 : ((a.toNat : Int) = 95) = True := eq_true (by omega)
          have t9b : ((a.toNat : Int) != 95) = false := by simp [t9]
          have t9c : ((a.toNat : Int) == 95) = true := by simp [t9]
          have HF : Hid (R = false) := Lib.hid (by rw [HM3.out, HLQ.out]; simp; omega)
          clear h
          go_wp2_with fail
          go_ret
          exact ⟨by rw [HF.out]; rfl, HW.out⟩
        · have t0 : (97 : Int) ≤ (a.toNat : Int) := by omega
          have t1 : (a.toNat : Int) ≤ 122 := by omega
          have t2 : (65 : Int) ≤ (a.toNat : Int) := by omega
          have t3 : ¬ (a.toNat : Int) ≤ 90 := by omega
          have t4 : ¬ (a.toNat : Int) < 48 := by omega
          have t5 : (57 : Int) < (a.toNat : Int) := by omega
          have t9 : ¬ (a.toNat : Int) = 95 := by omega
          have t9b : ((a.toNat : Int) != 95) = true := by simpa using t9
          have t9c : ((a.toNat : Int) == 95) = false := by simpa using t9
          have e1 : qi = true := by rw [HIQ.out]; simp; omega
          have e2 : ql = true := by rw [HLQ.out]; simp; omega
          have HF : Hid (R = (l.drop (k + 1)).all Lx.isI) := Lib.hid (by rw [HM3.out, e1, e2]; simp)
          clear e1 e2
          clear h
          go_wp2_with fail
          go_roundw
          case rel => exact ⟨k + 1, by go_num, by omega, Lib.hid (by rw [HF.out, if_neg (by omega), Bool.and_true]), HW⟩
          case measure => simp [intOf]; omega
        · have t0 : (97 : Int) ≤ (a.toNat : Int) := by omega
          have t1 : ¬ (a.toNat : Int) ≤ 122 := by omega
          have t2 : (65 : Int) ≤ (a.toNat : Int) := by omega
          have t3 : ¬ (a.toNat : Int) ≤ 90 := by omega
          have t4 : ¬ (a.toNat : Int) < 48 := by omega
          have t5 : (57 : Int) < (a.toNat : Int) := by omega
          have t9 : ¬ (a.toNat : Int) = 95 := by omega
          have t9b : ((a.toNat : Int) != 95) = true := by simpa using t9
          have t9c : ((a.toNat : Int) == 95) = false := by simpa using t9
          have HF : Hid (R = false) := Lib.hid (by rw [HM3.out, HIQ.out]; simp; omega)
          clear h
          go_wp2_with fail
          go_ret
          exact ⟨by rw [HF.out]; rfl, HW.out⟩
      · have h0I : ¬ ((k : Int) = 0) := by omega
        have h0B : ((k : Int) == 0) = false := by simpa using h0I
        have HM3 : Hid (R = (qi && (l.drop (k + 1)).all Lx.isI)) := Lib.hid (by rw [HM2.out, if_neg h0, Bool.and_true])
        clear HM2 h0
        rcases hcase with h | h | h | h | h | h | h | h
        · have t0 : ¬ (97 : Int) ≤ (a.toNat : Int) := by omega
          have t1 : (a.toNat : Int) ≤ 122 := by omega
          have t2 : ¬ (65 : Int) ≤ (a.toNat : Int) := by omega
          have t3 : (a.toNat : Int) ≤ 90 := by omega
          have t4 : (a.toNat : Int) < 48 := by omega
          have t5 : ¬ (57 : Int) < (a.toNat : Int) := by omega
          have t9 : ¬ (a.toNat : Int) = 95 := by omega
          have t9b : ((a.toNat : Int) != 95) = true := by simpa using t9
          have t9c : ((a.toNat : Int) == 95) = false := by simpa using t9
          have HF : Hid (R = false) := Lib.hid (by rw [HM3.out, HIQ.out]; simp; omega)
          clear h
          go_wp2_with fail
          go_ret
          exact ⟨by rw [HF.out]; rfl, HW.out⟩
        · have t0 : ¬ (97 : Int) ≤ (a.toNat : Int) := by omega
          have t1 : (a.toNat : Int) ≤ 122 := by omega
          have t2 : ¬ (65 : Int) ≤ (a.toNat : Int) := by omega
          have t3 : (a.toNat : Int) ≤ 90 := by omega
          have t4 : ¬ (a.toNat : Int) < 48 := by omega
          have t5 : ¬ (57 : Int) < (a.toNat : Int) := by omega
          have t9 : ¬ (a.toNat : Int) = 95 := by omega
          have t9b : ((a.toNat : Int) != 95) = true := by simpa using t9
          have t9c : ((a.toNat : Int) == 95) = false := by simpa using t9
          have e1 : qi = true := by rw [HIQ.out]; simp; omega
          have HF : Hid (R = (l.drop (k + 1)).all Lx.isI) := Lib.hid (by rw [HM3.out, e1]; simp)
          clear e1
          clear h
          go_wp2_with fail
          go_roundw
          case rel => exact ⟨k + 1, by go_num, by omega, Lib.hid (by rw [HF.out, if_neg (by omega), Bool.and_true]), HW⟩
          case measure => simp [intOf]; omega
        · have t0 : ¬ (97 : Int) ≤ (a.toNat : Int) := by omega
          have t1 : (a.toNat : Int) ≤ 122 := by omega
          have t2 : ¬ (65 : Int) ≤ (a.toNat : Int) := by omega
          have t3 : (a.toNat : Int) ≤ 90 := by omega
          have t4 : ¬ (a.toNat : Int) < 48 := by omega
          have t5 : (57 : Int) < (a.toNat : Int) := by omega
          have t9 : ¬ (a.toNat : Int) = 95 := by omega
          have t9b : ((a.toNat : Int) != 95) = true := by simpa using t9
          have t9c : ((a.toNat : Int) == 95) = false := by simpa using t9
          have HF : Hid (R = false) := Lib.hid (by rw [HM3.out, HIQ.out]; simp; omega)
          clear h
          go_wp2_with fail
          go_ret
          exact ⟨by rw [HF.out]; rfl, HW.out⟩
        · have t0 : ¬ (97 : Int) ≤ (a.toNat : Int) := by omega
          have t1 : (a.toNat : Int) ≤ 122 := by omega
          have t2 : (65 : Int) ≤ (a.toNat : Int) := by omega
          have t3 : (a.toNat : Int) ≤ 90 := by omega
          have t4 : ¬ (a.toNat : Int) < 48 := by omega
          have t5 : (57 : Int) < (a.toNat : Int) := by omega
          have t9 : ¬ (a.toNat : Int) = 95 := by omega
          have t9b : ((a.toNat : Int) != 95) = true := by simpa using t9
          have t9c : ((a.toNat : Int) == 95) = false := by simpa using t9
          have e1 : qi = true := by rw [HIQ.out]; simp; omega
          have HF : Hid (R = (l.drop (k + 1)).all Lx.isI) := Lib.hid (by rw [HM3.out, e1]; simp)
          clear e1
          clear h
          go_wp2_with fail
          go_roundw
          case rel => exact ⟨k + 1, by go_num, by omega, Lib.hid (by rw [HF.out, if_neg (by omega), Bool.and_true]), HW⟩
          case measure => simp [intOf]; omega
        · have t0 : ¬ (97 : Int) ≤ (a.toNat : Int) := by omega
          have t1 : (a.toNat : Int) ≤ 122 := by omega
          have t2 : (65 : Int) ≤ (a.toNat : Int) := by omega
          have t3 : ¬ (a.toNat : Int) ≤ 90 := by omega
          have t4 : ¬ (a.toNat : Int) < 48 := by omega
          have t5 : (57 : Int) < (a.toNat : Int) := by omega
          have t9 : ¬ (a.toNat : Int) = 95 := by omega
          have t9b : ((a.toNat : Int) != 95) = true := by simpa using t9
          have t9c : ((a.toNat : Int) == 95) = false := by simpa using t9
          have HF : Hid (R = false) := Lib.hid (by rw [HM3.out, HIQ.out]; simp; omega)
          clear h
          go_wp2_with fail
          go_ret
          exact ⟨by rw [HF.out]; rfl, HW.out⟩
        · have t0 : ¬ (97 : Int) ≤ (a.toNat : Int) := by omega
          have t1 : (a.toNat : Int) ≤ 122 := by omega
          have t2 : (65 : Int) ≤ (a.toNat : Int) := by omega
          have t3 : ¬ (a.toNat : Int) ≤ 90 := by omega
          have t4 : ¬ (a.toNat : Int) < 48 := by omega
          have t5 : (57 : Int) < (a.toNat : Int) := by omega
          have t9 : ((a.toNat : Int) = 95) = True := eq_true (by omega)
          have t9b : ((a.toNat : Int) != 95) = false := by simp [t9]
          have t9c : ((a.toNat : Int) == 95) = true := by simp [t9]
          have e1 : qi = true := by rw [HIQ.out]; simp; omega
          have HF : Hid (R = (l.drop (k + 1)).all Lx.isI) := Lib.hid (by rw [HM3.out, e1]; simp)
          clear e1
          clear h
          go_wp2_with fail
          go_roundw
          case rel => exact ⟨k + 1, by go_num, by omega, Lib.hid (by rw [HF.out, if_neg (by omega), Bool.and_true]), HW⟩
          case measure => simp [intOf]; omega
        · have t0 : (97 : Int) ≤ (a.toNat : Int) := by omega
          have t1 : (a.toNat : Int) ≤ 122 := by omega
          have t2 : (65 : Int) ≤ (a.toNat : Int) := by omega
          have t3 : ¬ (a.toNat : Int) ≤ 90 := by omega
          have t4 : ¬ (a.toNat : Int) < 48 := by omega
          have t5 : (57 : Int) < (a.toNat : Int) := by omega
          have t9 : ¬ (a.toNat : Int) = 95 := by omega
          have t9b : ((a.toNat : Int) != 95) = true := by simpa using t9
          have t9c : ((a.toNat : Int) == 95) = false := by simpa using t9
          have e1 : qi = true := by rw [HIQ.out]; simp; omega
          have HF : Hid (R = (l.drop (k + 1)).all Lx.isI) := Lib.hid (by rw [HM3.out, e1]; simp)
          clear e1
          clear h
          go_wp2_with fail
          go_roundw
          case rel => exact ⟨k + 1, by go_num, by omega, Lib.hid (by rw [HF.out, if_neg (by omega), Bool.and_true]), HW⟩
          case measure => simp [intOf]; omega
        · have t0 : (97 : Int) ≤ (a.toNat : Int) := by omega
          have t1 : ¬ (a.toNat : Int) ≤ 122 := by omega
          have t2 : (65 : Int) ≤ (a.toNat : Int) := by omega
          have t3 : ¬ (a.toNat : Int) ≤ 90 := by omega
          have t4 : ¬ (a.toNat : Int) < 48 := by omega
          have t5 : (57 : Int) < (a.toNat : Int) := by omega
          have t9 : ¬ (a.toNat : Int) = 95 := by omega
          have t9b : ((a.toNat : Int) != 95) = true := by simpa using t9
          have t9c : ((a.toNat : Int) == 95) = false := by simpa using t9
          have HF : Hid (R = false) := Lib.hid (by rw [HM3.out, HIQ.out]; simp; omega)
          clear h
          go_wp2_with fail
          go_ret
          exact ⟨by rw [HF.out]; rfl, HW.out⟩
    · obtain rfl : k = l.length := by omega
      have HM2 : Hid (R = decide (0 < l.length)) := Lib.hid (by
        rw [HM.out, List.drop_length]
        cases l with
        | nil => rfl
        | cons c r => simp)
      have hkI : ¬ (l.length : Int) < (l.length : Int) := by omega
      clear HM HR
      go_wp2_with fail
      go_ret
      exact ⟨by rw [HM2.out]; rfl, HW.out⟩
end Go.Proofs.YtcbpdefpknckgaaDoor
