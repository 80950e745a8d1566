/-
  CONTRACTS: chapter 14: which bytes may be in a word, on both sides; Ident.
-/
import Derived.Test.YtcbpdefpknckgaaDoorLxLib
namespace Go.Proofs.YtcbpdefpknckgaaDoor
open Go.RowKit
open Me

namespace Lx
/-- What may be in a name (chapter 8). -/
def isB (c : UInt8) : Bool := isI c || ([45, 58, 35, 37, 64, 61] : List UInt8).contains c
theorem inW_B (c : UInt8) : inW c = (isB c || extra2.contains c) := by
  unfold inW isB
  rw [Bool.or_assoc]
  congr 1
  unfold extra extra2
  simp only [List.contains_cons, List.contains_nil, Bool.or_false]
  simp only [Bool.or_assoc]
/-- A byte of a text. -/
theorem byte_at {s : List UInt8} {i : Nat} {c : UInt8} (h : s[i]? = some c) : ∃ z : i < (⟨s.toArray⟩ : ByteArray).size, (⟨s.toArray⟩ : ByteArray)[i]'z = c := by
  obtain ⟨hi, hc⟩ := List.getElem?_eq_some_iff.1 h
  have zl : (⟨s.toArray⟩ : ByteArray).size = s.length := by show s.toArray.size = _; simp
  exact ⟨by omega, hc⟩
theorem eq_nat (c k : UInt8) : (c == k) = decide (c.toNat = k.toNat) := by
  by_cases h : c = k
  · subst h; simp
  · rw [decide_eq_false (fun e => h (UInt8.toNat_inj.1 e))]
    simpa using h
end Lx

set_option maxHeartbeats 1000000 in
theorem isLetter_any (c : UInt8) (w : World) :
    Calls Tryd.prog 19 #[.int .u8 (c.toNat : Int)] w fun e w' => e = .returned (.bool (Lx.isL c)) ∧ w = w' := by
  have HQ : Hid (Lx.isL c = ((decide (65 ≤ c.toNat) && decide (c.toNat ≤ 90)) || (decide (97 ≤ c.toNat) && decide (c.toNat ≤ 122)))) := Lib.hid rfl
  generalize Lx.isL c = R at *
  generalize c.toNat = n at *
  go_enter Tryd.func19, Tryd.ntmps19
  go_wp2_with fail
  all_goals
    go_ret
    refine ⟨Lx.ret_bool ?_, rfl⟩
    rw [HQ.out, Bool.eq_iff_iff]
    simp
    try omega

set_option maxHeartbeats 1000000 in
theorem isOfIdent_any (c : UInt8) (w : World) :
    Calls Tryd.prog 18 #[.int .u8 (c.toNat : Int)] w fun e w' => e = .returned (.bool (Lx.isI c)) ∧ w = w' := by
  have HQ : Hid (Lx.isI c = (Lx.isL c || (decide (48 ≤ c.toNat) && decide (c.toNat ≤ 57)) || decide (c.toNat = 95))) := Lib.hid (by unfold Lx.isI; rw [Lx.eq_nat]; rfl)
  have HL := Lib.hid fun W => isLetter_any c W
  generalize Lx.isI c = R at *
  generalize Lx.isL c = L at *
  generalize c.toNat = n at *
  cases L
  all_goals
    go_enter Tryd.func18, Tryd.ntmps18
    go_wp2_with (go_at_call 19; go_must (refine (HL.out _).mono ?_; rintro e w2 ⟨rfl, rfl⟩))
    all_goals
      go_ret
      refine ⟨Lx.ret_bool ?_, rfl⟩
      rw [HQ.out, Bool.eq_iff_iff]
      simp
      try omega

set_option maxHeartbeats 2000000 in
theorem lrefByte_any (c : UInt8) (w : World) :
    Calls Tryd.prog 33 #[.int .u8 (c.toNat : Int)] w fun e w' => e = .returned (.bool (Lx.isB c)) ∧ w = w' := by
  have HQ : Hid (Lx.isB c = ((((decide (65 ≤ c.toNat) && decide (c.toNat ≤ 90)) || (decide (97 ≤ c.toNat) && decide (c.toNat ≤ 122))) || (decide (48 ≤ c.toNat) && decide (c.toNat ≤ 57)) || decide (c.toNat = 95)) || (decide (c.toNat = 45) || (decide (c.toNat = 58) || (decide (c.toNat = 35) || (decide (c.toNat = 37) || (decide (c.toNat = 64) || decide (c.toNat = 61)))))))) := Lib.hid (by
    unfold Lx.isB Lx.isI Lx.isL
    simp only [List.contains_cons, List.contains_nil, Bool.or_false, Lx.eq_nat]
    rfl)
  generalize Lx.isB c = R at *
  generalize c.toNat = n at *
  go_enter Tryd.func33, Tryd.ntmps33
  go_wp2_with fail
  all_goals
    go_ret
    refine ⟨Lx.ret_bool ?_, rfl⟩
    rw [HQ.out, Bool.eq_iff_iff]
    simp
    try omega

set_option maxHeartbeats 2000000 in
theorem mayStand_any (c : UInt8) (d : Int) (w : World) :
    Calls Tryd.prog 32 #[.int .u8 (c.toNat : Int), .int .i64 d] w fun e w' => e = .returned (.bool (Lx.may c d)) ∧ w = w' := by
  have HQ : Hid (Lx.may c d = ((Lx.isI c || decide (0 ≤ Lib.indexByte Lx.extra c)) || (decide (0 < d) && decide (c.toNat = 44)))) := Lib.hid (by unfold Lx.may Lx.inW; rw [Lx.index_has, Lx.eq_nat]; rfl)
  have HI := Lib.hid fun W => isOfIdent_any c W
  have HX : Hid (∀ W, Calls Tryd.prog 40 #[.string ⟨#[45, 58, 35, 37, 64, 61, 46, 42, 63, 91, 93, 123, 125, 43]⟩, .int .u8 (c.toNat : Int)] W fun e w' => e = .returned (.int .i64 (Lib.indexByte Lx.extra c)) ∧ w' = W) := Lib.hid fun W => indexByte_at Lx.extra c W
  generalize Lx.may c d = R at *
  generalize Lib.indexByte Lx.extra c = X at *
  generalize Lx.isI c = L at *
  generalize c.toNat = n at *
  cases L
  all_goals
    go_enter Tryd.func32, Tryd.ntmps32
    go_wp2_with first
      | (go_at_call 18; go_must (refine (HI.out _).mono ?_; rintro e w2 ⟨rfl, rfl⟩))
      | (go_at_call 40; go_must (refine (HX.out _).mono ?_; rintro e w2 ⟨rfl, rfl⟩))
    all_goals
      go_ret
      refine ⟨Lx.ret_bool ?_, rfl⟩
      rw [HQ.out, Bool.eq_iff_iff]
      simp
      try omega

set_option maxHeartbeats 1000000 in
theorem lrefIn_any (c : UInt8) (w : World) :
    Calls Tryd.prog 24 #[.int .u8 (c.toNat : Int)] w fun e w' => e = .returned (.bool (Lx.inW c)) ∧ w = w' := by
  have HB := Lib.hid fun W => lrefByte_any c W
  have HQ := Lib.hid (Lx.inW_B c)
  generalize Lx.inW c = R at *
  cases hb : Lx.isB c
  · rw [hb] at HB HQ
    have HR : Hid (Lx.extra2.contains c = R) := Lib.hid (by rw [HQ.out]; rfl)
    obtain ⟨sp, hsp⟩ : ∃ sp : List UInt8, sp = Lx.extra2 := ⟨_, rfl⟩
    rw [← hsp] at HR
    have hspl : sp.length = 8 := by rw [hsp]; rfl
    have HSP : Hid ((⟨#[46, 42, 63, 91, 93, 123, 125, 43]⟩ : ByteArray) = ⟨sp.toArray⟩) := Lib.hid (by rw [hsp]; rfl)
    clear hsp hb HQ
    go_enter Tryd.func24, Tryd.ntmps24
    go_wp2_with (go_at_call 33; go_must (refine (HB.out _).mono ?_; rintro e w2 ⟨rfl, rfl⟩))
    rw [HSP.out]
    go_loopw [4] (fun x wr => ∃ k : Nat, x = .int .i64 k ∧ k ≤ 8 ∧ Hid ((sp.drop k).contains c = R) ∧ Hid (w = wr)) (fun x _ => 8 - (intOf x).toNat)
    case atStart => exact ⟨0, rfl, by omega, Lib.hid HR.out, Lib.hid rfl⟩
    case round =>
      obtain ⟨k, rfl, hk, HM, HW⟩ := hrel
      by_cases hlt : k < 8
      · have hkl : k < sp.length := by omega
        obtain ⟨a, ha⟩ : ∃ a, sp[k] = a := ⟨_, rfl⟩
        have hget : sp[k]? = some a := by rw [List.getElem?_eq_getElem hkl, ha]
        obtain ⟨z0, g0⟩ := Lx.byte_at hget
        have hkI : (k : Int) < (sp.length : Int) := by omega
        have hk0 : (0 : Int) ≤ (k : Int) := by omega
        have HM2 : Hid ((c == a || (sp.drop (k + 1)).contains c) = R) := Lib.hid (by have := HM.out; rw [List.drop_eq_getElem_cons hkl, ha, List.contains_cons] at this; exact this)
        clear hget ha HM hspl
        by_cases he : c = a
        · have heI : (a.toNat : Int) = (c.toNat : Int) := by rw [he]
          have HQ : Hid (true = R) := Lib.hid (by rw [← HM2.out, he]; simp)
          clear he
          go_wp2_with fail
          go_ret
          exact ⟨by rw [← HQ.out]; rfl, HW.out⟩
        · have heI : ¬ (a.toNat : Int) = (c.toNat : Int) := fun e => he (UInt8.toNat_inj.1 (by omega))
          have HQ : Hid ((sp.drop (k + 1)).contains c = R) := Lib.hid (by rw [← HM2.out]; simp [he])
          clear he
          go_wp2_with fail
          go_roundw
          case rel => exact ⟨k + 1, by go_num, by omega, HQ, HW⟩
          case measure => simp [intOf]; omega
      · obtain rfl : k = 8 := by omega
        have hkI : ¬ (8 : Int) < (sp.length : Int) := by omega
        have HQ : Hid (false = R) := Lib.hid (by rw [← HM.out, List.drop_eq_nil_of_le (by omega)]; rfl)
        clear HM
        go_wp2_with fail
        go_ret
        exact ⟨by rw [← HQ.out]; rfl, HW.out⟩
  · rw [hb] at HB HQ
    have HQ2 : Hid (true = R) := Lib.hid (by rw [HQ.out]; rfl)
    clear hb HQ
    go_enter Tryd.func24, Tryd.ntmps24
    go_wp2_with (go_at_call 33; go_must (refine (HB.out _).mono ?_; rintro e w2 ⟨rfl, rfl⟩))
    go_ret
    exact ⟨by rw [← HQ2.out]; rfl, rfl⟩
end Go.Proofs.YtcbpdefpknckgaaDoor
