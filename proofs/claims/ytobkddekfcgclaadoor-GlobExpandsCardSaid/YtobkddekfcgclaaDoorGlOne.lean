/-
  CONTRACTS: chapter 9, functions over one text's bytes: braces (both sides), classes and their ranges.
-/
import Derived.Test.YtobkddekfcgclaaDoorGlGr
import Derived.Test.YtobkddekfcgclaaDoorOwnB
import Derived.Lib.Hide
import Derived.Laws.Strings3
import Derived.RegionTactic
namespace Go.Proofs.YtobkddekfcgclaaDoor
open Go.RowKit
open Me

namespace Gl
theorem ret_bool {a b : Bool} (h : a = b) : Ending.returned (.bool a) = .returned (.bool b) := by rw [h]
theorem byteEq (b c : UInt8) : ((b.toNat : Int) == (c.toNat : Int)) = decide (b = c) := by
  by_cases h : b = c
  · subst h; simp
  · rw [decide_eq_false h]
    simp only [beq_eq_false_iff_ne, ne_eq]
    intro e
    exact h (UInt8.toNat_inj.1 (by omega))
theorem byteLt (b c : UInt8) : decide ((b.toNat : Int) < (c.toNat : Int)) = decide (b.toNat < c.toNat) := by
  by_cases h : b.toNat < c.toNat
  · rw [decide_eq_true h, decide_eq_true (by omega)]
  · rw [decide_eq_false h, decide_eq_false (by omega)]
/-- A range's low end, its high end, what is behind it. -/
def lo : List UInt8 → UInt8
  | a :: _ => a
  | [] => 0
def ranged (s : List UInt8) : Bool := match s with
  | _ :: d :: _ :: _ => decide (d = 45)
  | _ => false
def hi (s : List UInt8) : UInt8 := match s with
  | a :: d :: b :: _ => if d = 45 then b else a
  | a :: _ => a
  | [] => 0
def re (s : List UInt8) : List UInt8 := if ranged s then s.drop 3 else s.drop 1
theorem re_len (s : List UInt8) (h : s ≠ []) : (re s).length < s.length := by
  have : 0 < s.length := List.length_pos_iff.2 h
  unfold re
  split <;> (rw [List.length_drop]; omega)
theorem okR_step (s : List UInt8) (h : s ≠ []) : okR s = (!decide ((hi s).toNat < (lo s).toNat) && okR (re s)) := by
  match s, h with
  | [a], _ => simp [okR, hi, lo, re, ranged]
  | [a, b], _ => simp [okR, hi, lo, re, ranged]
  | a :: d :: b :: r, _ =>
    rw [okR]
    by_cases hd : d = 45
    · simp [hi, lo, re, ranged, hd]
    · simp [hi, lo, re, ranged, hd]
theorem inR_step (c : UInt8) (s : List UInt8) (h : s ≠ []) : inR c s = ((decide ((lo s).toNat ≤ c.toNat) && decide (c.toNat ≤ (hi s).toNat)) || inR c (re s)) := by
  have key : ∀ a : UInt8, decide (a = c) = (decide (a.toNat ≤ c.toNat) && decide (c.toNat ≤ a.toNat)) := by
    intro a
    by_cases h : a = c
    · subst h; simp
    · rw [decide_eq_false h]
      by_cases h1 : a.toNat ≤ c.toNat
      · have h2 : ¬ c.toNat ≤ a.toNat := fun h2 => h (UInt8.toNat_inj.1 (by omega))
        simp [h2]
      · simp [h1]
  match s, h with
  | [a], _ => rw [inR, key]; simp [hi, lo, re, ranged, inR] <;> rfl
  | [a, b], _ => rw [inR, key]; simp [hi, lo, re, ranged, inR] <;> rfl
  | a :: d :: b :: r, _ =>
    rw [inR]
    by_cases hd : d = 45
    · simp [hi, lo, re, ranged, hd] <;> rfl
    · rw [if_neg hd, key]; simp [hi, lo, re, ranged, hd] <;> rfl
end Gl

set_option maxHeartbeats 1000000 in
theorem isBalanced_any (s : List UInt8) (hl : s.length ≤ 4294967270) (w : World) :
    Calls Tryd.prog 20 #[.string ⟨s.toArray⟩] w fun e w' => e = .returned (.bool (Gl.bal 0 s)) ∧ w' = w := by
  have hs : (⟨s.toArray⟩ : ByteArray).size = s.length := by show s.toArray.size = _; simp
  generalize hR : Gl.bal 0 s = R
  have HR : Hid (Gl.bal 0 (s.drop 0) = R) := Lib.hid hR
  clear hR
  go_enter Tryd.func20, Tryd.ntmps20
  go_wp2_with fail
  go_loop [3, 7] (fun d i => ∃ k n : Nat, k ≤ s.length ∧ n ≤ k ∧ d = .int .i64 n ∧ i = .int .i64 k ∧ Hid (Gl.bal n (s.drop k) = R)) (fun _ i => s.length - (intOf i).toNat)
  case atStart => exact ⟨0, 0, Nat.zero_le _, Nat.le_refl _, rfl, rfl, HR⟩
  case round =>
    obtain ⟨k, n, hk, hnk, rfl, rfl, HD⟩ := hrel
    by_cases hlt : k < s.length
    · have hkl : (k : Int) < (s.length : Int) := by omega
      have hk0 : (0 : Int) ≤ (k : Int) := by omega
      have hk9 : (k : Int) ≤ 4294967270 := by omega
      have hn9 : (n : Int) ≤ 4294967270 := by omega
      have hdr := Lib.hid (List.drop_eq_getElem_cons hlt)
      have e1 : ((((⟨s.toArray⟩ : ByteArray)[k]'hlt).toNat : Int) == 123) = decide (s[k] = 123) := Gl.byteEq s[k] 123
      have e2 : ((((⟨s.toArray⟩ : ByteArray)[k]'hlt).toNat : Int) == 125) = decide (s[k] = 125) := Gl.byteEq s[k] 125
      have e3 : ((((⟨s.toArray⟩ : ByteArray)[k]'hlt).toNat : Int) == 44) = decide (s[k] = 44) := Gl.byteEq s[k] 44
      rw [hdr.out, Gl.bal] at HD
      by_cases b1 : s[k] = 123
      · rw [if_pos b1] at HD
        rw [decide_eq_true b1] at e1
        clear e2 e3 b1 hdr
        go_wp2_with fail
        go_round
        case rel => exact ⟨k + 1, n + 1, by omega, by omega, by go_num, by go_num, HD⟩
        case measure => simp [intOf]; omega
      rw [if_neg b1] at HD
      rw [decide_eq_false b1] at e1
      by_cases b2 : s[k] = 125
      · rw [if_pos b2] at HD
        rw [decide_eq_true b2] at e2
        clear e3 b1 b2 hdr
        by_cases hn : n = 0
        · rw [if_pos hn] at HD
          have hneg : (n : Int) - 1 < 0 := by omega
          clear hn
          go_wp2_with fail
          go_ret
          exact ⟨Gl.ret_bool HD.out, rfl⟩
        · rw [if_neg hn] at HD
          have hneg : ¬ (n : Int) - 1 < 0 := by omega
          go_wp2_with fail
          go_round
          case rel => exact ⟨k + 1, n - 1, by omega, by omega, by go_num, by go_num, HD⟩
          case measure => simp [intOf]; omega
      rw [if_neg b2] at HD
      rw [decide_eq_false b2] at e2
      by_cases b3 : s[k] = 44
      · rw [if_pos b3] at HD
        rw [decide_eq_true b3] at e3
        clear b1 b2 b3 hdr
        by_cases hn : n = 0
        · subst hn
          rw [if_pos rfl] at HD
          go_wp2_with fail
          go_ret
          exact ⟨Gl.ret_bool HD.out, rfl⟩
        · rw [if_neg hn] at HD
          have hz : ((n : Int) == 0) = false := by simp; omega
          have hneg : ¬ (n : Int) < 0 := by omega
          go_wp2_with fail
          go_round
          case rel => exact ⟨k + 1, n, by omega, by omega, by go_num, by go_num, HD⟩
          case measure => simp [intOf]; omega
      · rw [if_neg b3] at HD
        rw [decide_eq_false b3] at e3
        clear b1 b2 b3 hdr
        have hneg : ¬ (n : Int) < 0 := by omega
        go_wp2_with fail
        go_round
        case rel => exact ⟨k + 1, n, by omega, by omega, by go_num, by go_num, HD⟩
        case measure => simp [intOf]; omega
    · obtain rfl : k = s.length := by omega
      rw [List.drop_length] at HD
      have HE : Hid (R = ((n : Int) == 0)) := Lib.hid (by rw [← HD.out]; show decide (n = 0) = _; by_cases h : n = 0 <;> simp [h])
      go_wp2
      go_ret
      exact ⟨Gl.ret_bool HE.out.symm, rfl⟩

set_option maxHeartbeats 1000000 in
theorem refBraces_any (s : List UInt8) (hl : s.length ≤ 4294967270) (w : World) :
    Calls Tryd.prog 25 #[.string ⟨s.toArray⟩] w fun e w' => e = .returned (.bool (Gl.bal 0 s)) ∧ w' = w := by
  have hs : (⟨s.toArray⟩ : ByteArray).size = s.length := by show s.toArray.size = _; simp
  generalize hR : Gl.bal 0 s = R
  have HR : Hid (Gl.bal 0 (s.drop 0) = R) := Lib.hid hR
  clear hR
  go_enter Tryd.func25, Tryd.ntmps25
  go_wp2_with fail
  go_loop [3, 4] (fun d i => ∃ k n : Nat, k ≤ s.length ∧ n ≤ k ∧ d = .int .i64 n ∧ i = .int .i64 k ∧ Hid (Gl.bal n (s.drop k) = R)) (fun _ i => s.length - (intOf i).toNat)
  case atStart => exact ⟨0, 0, Nat.zero_le _, Nat.le_refl _, rfl, rfl, HR⟩
  case round =>
    obtain ⟨k, n, hk, hnk, rfl, rfl, HD⟩ := hrel
    by_cases hlt : k < s.length
    · have hkl : (k : Int) < (s.length : Int) := by omega
      have hk0 : (0 : Int) ≤ (k : Int) := by omega
      have hk9 : (k : Int) ≤ 4294967270 := by omega
      have hn9 : (n : Int) ≤ 4294967270 := by omega
      have hdr := Lib.hid (List.drop_eq_getElem_cons hlt)
      have e1 : ((((⟨s.toArray⟩ : ByteArray)[k]'hlt).toNat : Int) == 123) = decide (s[k] = 123) := Gl.byteEq s[k] 123
      have e2 : ((((⟨s.toArray⟩ : ByteArray)[k]'hlt).toNat : Int) == 125) = decide (s[k] = 125) := Gl.byteEq s[k] 125
      have e3 : ((((⟨s.toArray⟩ : ByteArray)[k]'hlt).toNat : Int) == 44) = decide (s[k] = 44) := Gl.byteEq s[k] 44
      rw [hdr.out, Gl.bal] at HD
      by_cases b1 : s[k] = 123
      · rw [if_pos b1] at HD
        rw [decide_eq_true b1] at e1
        clear e2 e3 b1 hdr
        go_wp2_with fail
        go_round
        case rel => exact ⟨k + 1, n + 1, by omega, by omega, by go_num, by go_num, HD⟩
        case measure => simp [intOf]; omega
      rw [if_neg b1] at HD
      rw [decide_eq_false b1] at e1
      by_cases b2 : s[k] = 125
      · rw [if_pos b2] at HD
        rw [decide_eq_true b2] at e2
        clear e3 b1 b2 hdr
        by_cases hn : n = 0
        · rw [if_pos hn] at HD
          have hneg : (n : Int) - 1 < 0 := by omega
          clear hn
          go_wp2_with fail
          go_ret
          exact ⟨Gl.ret_bool HD.out, rfl⟩
        · rw [if_neg hn] at HD
          have hneg : ¬ (n : Int) - 1 < 0 := by omega
          go_wp2_with fail
          go_round
          case rel => exact ⟨k + 1, n - 1, by omega, by omega, by go_num, by go_num, HD⟩
          case measure => simp [intOf]; omega
      rw [if_neg b2] at HD
      rw [decide_eq_false b2] at e2
      by_cases b3 : s[k] = 44
      · rw [if_pos b3] at HD
        rw [decide_eq_true b3] at e3
        clear b1 b2 b3 hdr
        by_cases hn : n = 0
        · subst hn
          rw [if_pos rfl] at HD
          go_wp2_with fail
          go_ret
          exact ⟨Gl.ret_bool HD.out, rfl⟩
        · rw [if_neg hn] at HD
          have hz : ((n : Int) == 0) = false := by simp; omega
          have hneg : ¬ (n : Int) < 0 := by omega
          go_wp2_with fail
          go_round
          case rel => exact ⟨k + 1, n, by omega, by omega, by go_num, by go_num, HD⟩
          case measure => simp [intOf]; omega
      · rw [if_neg b3] at HD
        rw [decide_eq_false b3] at e3
        clear b1 b2 b3 hdr
        have hneg : ¬ (n : Int) < 0 := by omega
        go_wp2_with fail
        go_round
        case rel => exact ⟨k + 1, n, by omega, by omega, by go_num, by go_num, HD⟩
        case measure => simp [intOf]; omega
    · obtain rfl : k = s.length := by omega
      rw [List.drop_length] at HD
      have HE : Hid (R = ((n : Int) == 0)) := Lib.hid (by rw [← HD.out]; show decide (n = 0) = _; by_cases h : n = 0 <;> simp [h])
      go_wp2
      go_ret
      exact ⟨Gl.ret_bool HE.out.symm, rfl⟩
end Go.Proofs.YtobkddekfcgclaaDoor
