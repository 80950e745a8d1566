/-
  GlOne: CONTRACTS: chapter 9, functions over one text's bytes: braces (both sides), classes and their ranges.
  GlTwo: CONTRACTS: chapter 9, classes: the program's cutRange, isClass, lists.
-/
import Derived.Test.YtiolkiikgjedcaaGreatDoorJ18
import Derived.Test.YtiolkiikgjedcaaGreatDoorJ11
import Derived.Lib.Hide
import Derived.Laws.Strings3
import Derived.RegionTactic

namespace Go.Proofs.YtiolkiikgjedcaaGreatDoor
open Go.RowKit
open Me

namespace Gl
theorem ret_bool {a b : Bool} (h : a = b) : Ending.returned (.bool a) = .returned (.bool b) := by rw [h]
theorem byteEq (b c : UInt8) : ((b.toNat : Int) == (c.toNat : Int)) = decide (b = c) := by
  by_cases h : b = c
  · subst h; simp
  · rw [decide_eq_false h]
    simp only [beq_eq_false_iff_ne, ne_eq]
    intro e
    exact h (UInt8.toNat_inj.1 (by omega))
theorem byteLt (b c : UInt8) : decide ((b.toNat : Int) < (c.toNat : Int)) = decide (b.toNat < c.toNat) := by
  by_cases h : b.toNat < c.toNat
  · rw [decide_eq_true h, decide_eq_true (by omega)]
  · rw [decide_eq_false h, decide_eq_false (by omega)]
/-- A range's low end, its high end, what is behind it. -/
def lo : List UInt8 → UInt8
  | a :: _ => a
  | [] => 0
def ranged (s : List UInt8) : Bool := match s with
  | _ :: d :: _ :: _ => decide (d = 45)
  | _ => false
def hi (s : List UInt8) : UInt8 := match s with
  | a :: d :: b :: _ => if d = 45 then b else a
  | a :: _ => a
  | [] => 0
def re (s : List UInt8) : List UInt8 := if ranged s then s.drop 3 else s.drop 1
theorem re_len (s : List UInt8) (h : s ≠ []) : (re s).length < s.length := by
  have : 0 < s.length := List.length_pos_iff.2 h
  unfold re
  split <;> (rw [List.length_drop]; omega)
theorem okR_step (s : List UInt8) (h : s ≠ []) : okR s = (!decide ((hi s).toNat < (lo s).toNat) && okR (re s)) := by
  match s, h with
  | [a], _ => simp [okR, hi, lo, re, ranged]
  | [a, b], _ => simp [okR, hi, lo, re, ranged]
  | a :: d :: b :: r, _ =>
    rw [okR]
    by_cases hd : d = 45
    · simp [hi, lo, re, ranged, hd]
    · simp [hi, lo, re, ranged, hd]
theorem inR_step (c : UInt8) (s : List UInt8) (h : s ≠ []) : inR c s = ((decide ((lo s).toNat ≤ c.toNat) && decide (c.toNat ≤ (hi s).toNat)) || inR c (re s)) := by
  have key : ∀ a : UInt8, decide (a = c) = (decide (a.toNat ≤ c.toNat) && decide (c.toNat ≤ a.toNat)) := by
    intro a
    by_cases h : a = c
    · subst h; simp
    · rw [decide_eq_false h]
      by_cases h1 : a.toNat ≤ c.toNat
      · have h2 : ¬ c.toNat ≤ a.toNat := fun h2 => h (UInt8.toNat_inj.1 (by omega))
        simp [h2]
      · simp [h1]
  match s, h with
  | [a], _ => rw [inR, key]; simp [hi, lo, re, ranged, inR] <;> rfl
  | [a, b], _ => rw [inR, key]; simp [hi, lo, re, ranged, inR] <;> rfl
  | a :: d :: b :: r, _ =>
    rw [inR]
    by_cases hd : d = 45
    · simp [hi, lo, re, ranged, hd] <;> rfl
    · rw [if_neg hd, key]; simp [hi, lo, re, ranged, hd] <;> rfl
end Gl

set_option maxHeartbeats 1000000 in
theorem isBalanced_any (s : List UInt8) (hl : s.length ≤ 4294967270) (w : World) :
    Calls Tryz.prog 64 #[.string ⟨s.toArray⟩] w fun e w' => e = .returned (.bool (Gl.bal 0 s)) ∧ w' = w := by
  have hs : (⟨s.toArray⟩ : ByteArray).size = s.length := by show s.toArray.size = _; simp
  generalize hR : Gl.bal 0 s = R
  have HR : Hid (Gl.bal 0 (s.drop 0) = R) := Lib.hid hR
  clear hR
  go_enter Tryz.func64, Tryz.ntmps64
  go_wp2_with fail
  go_loop [3, 7] (fun d i => ∃ k n : Nat, k ≤ s.length ∧ n ≤ k ∧ d = .int .i64 n ∧ i = .int .i64 k ∧ Hid (Gl.bal n (s.drop k) = R)) (fun _ i => s.length - (intOf i).toNat)
  case atStart => exact ⟨0, 0, Nat.zero_le _, Nat.le_refl _, rfl, rfl, HR⟩
  case round =>
    obtain ⟨k, n, hk, hnk, rfl, rfl, HD⟩ := hrel
    by_cases hlt : k < s.length
    · have hkl : (k : Int) < (s.length : Int) := by omega
      have hk0 : (0 : Int) ≤ (k : Int) := by omega
      have hk9 : (k : Int) ≤ 4294967270 := by omega
      have hn9 : (n : Int) ≤ 4294967270 := by omega
      have hdr := Lib.hid (List.drop_eq_getElem_cons hlt)
      have e1 : ((((⟨s.toArray⟩ : ByteArray)[k]'hlt).toNat : Int) == 123) = decide (s[k] = 123) := Gl.byteEq s[k] 123
      have e2 : ((((⟨s.toArray⟩ : ByteArray)[k]'hlt).toNat : Int) == 125) = decide (s[k] = 125) := Gl.byteEq s[k] 125
      have e3 : ((((⟨s.toArray⟩ : ByteArray)[k]'hlt).toNat : Int) == 44) = decide (s[k] = 44) := Gl.byteEq s[k] 44
      rw [hdr.out, Gl.bal] at HD
      by_cases b1 : s[k] = 123
      · rw [if_pos b1] at HD
        rw [decide_eq_true b1] at e1
        clear e2 e3 b1 hdr
        go_wp2_with fail
        go_round
        case rel => exact ⟨k + 1, n + 1, by omega, by omega, by go_num, by go_num, HD⟩
        case measure => simp [intOf]; omega
      rw [if_neg b1] at HD
      rw [decide_eq_false b1] at e1
      by_cases b2 : s[k] = 125
      · rw [if_pos b2] at HD
        rw [decide_eq_true b2] at e2
        clear e3 b1 b2 hdr
        by_cases hn : n = 0
        · rw [if_pos hn] at HD
          have hneg : (n : Int) - 1 < 0 := by omega
          clear hn
          go_wp2_with fail
          go_ret
          exact ⟨Gl.ret_bool HD.out, rfl⟩
        · rw [if_neg hn] at HD
          have hneg : ¬ (n : Int) - 1 < 0 := by omega
          go_wp2_with fail
          go_round
          case rel => exact ⟨k + 1, n - 1, by omega, by omega, by go_num, by go_num, HD⟩
          case measure => simp [intOf]; omega
      rw [if_neg b2] at HD
      rw [decide_eq_false b2] at e2
      by_cases b3 : s[k] = 44
      · rw [if_pos b3] at HD
        rw [decide_eq_true b3] at e3
        clear b1 b2 b3 hdr
        by_cases hn : n = 0
        · subst hn
          rw [if_pos rfl] at HD
          go_wp2_with fail
          go_ret
          exact ⟨Gl.ret_bool HD.out, rfl⟩
        · rw [if_neg hn] at HD
          have hz : ((n : Int) == 0) = false := by simp; omega
          have hneg : ¬ (n : Int) < 0 := by omega
          go_wp2_with fail
          go_round
          case rel => exact ⟨k + 1, n, by omega, by omega, by go_num, by go_num, HD⟩
          case measure => simp [intOf]; omega
      · rw [if_neg b3] at HD
        rw [decide_eq_false b3] at e3
        clear b1 b2 b3 hdr
        have hneg : ¬ (n : Int) < 0 := by omega
        go_wp2_with fail
        go_round
        case rel => exact ⟨k + 1, n, by omega, by omega, by go_num, by go_num, HD⟩
        case measure => simp [intOf]; omega
    · obtain rfl : k = s.length := by omega
      rw [List.drop_length] at HD
      have HE : Hid (R = ((n : Int) == 0)) := Lib.hid (by rw [← HD.out]; show decide (n = 0) = _; by_cases h : n = 0 <;> simp [h])
      go_wp2
      go_ret
      exact ⟨Gl.ret_bool HE.out.symm, rfl⟩

set_option maxHeartbeats 1000000 in
theorem refBraces_any (s : List UInt8) (hl : s.length ≤ 4294967270) (w : World) :
    Calls Tryz.prog 54 #[.string ⟨s.toArray⟩] w fun e w' => e = .returned (.bool (Gl.bal 0 s)) ∧ w' = w := by
  have hs : (⟨s.toArray⟩ : ByteArray).size = s.length := by show s.toArray.size = _; simp
  generalize hR : Gl.bal 0 s = R
  have HR : Hid (Gl.bal 0 (s.drop 0) = R) := Lib.hid hR
  clear hR
  go_enter Tryz.func54, Tryz.ntmps54
  go_wp2_with fail
  go_loop [3, 4] (fun d i => ∃ k n : Nat, k ≤ s.length ∧ n ≤ k ∧ d = .int .i64 n ∧ i = .int .i64 k ∧ Hid (Gl.bal n (s.drop k) = R)) (fun _ i => s.length - (intOf i).toNat)
  case atStart => exact ⟨0, 0, Nat.zero_le _, Nat.le_refl _, rfl, rfl, HR⟩
  case round =>
    obtain ⟨k, n, hk, hnk, rfl, rfl, HD⟩ := hrel
    by_cases hlt : k < s.length
    · have hkl : (k : Int) < (s.length : Int) := by omega
      have hk0 : (0 : Int) ≤ (k : Int) := by omega
      have hk9 : (k : Int) ≤ 4294967270 := by omega
      have hn9 : (n : Int) ≤ 4294967270 := by omega
      have hdr := Lib.hid (List.drop_eq_getElem_cons hlt)
      have e1 : ((((⟨s.toArray⟩ : ByteArray)[k]'hlt).toNat : Int) == 123) = decide (s[k] = 123) := Gl.byteEq s[k] 123
      have e2 : ((((⟨s.toArray⟩ : ByteArray)[k]'hlt).toNat : Int) == 125) = decide (s[k] = 125) := Gl.byteEq s[k] 125
      have e3 : ((((⟨s.toArray⟩ : ByteArray)[k]'hlt).toNat : Int) == 44) = decide (s[k] = 44) := Gl.byteEq s[k] 44
      rw [hdr.out, Gl.bal] at HD
      by_cases b1 : s[k] = 123
      · rw [if_pos b1] at HD
        rw [decide_eq_true b1] at e1
        clear e2 e3 b1 hdr
        go_wp2_with fail
        go_round
        case rel => exact ⟨k + 1, n + 1, by omega, by omega, by go_num, by go_num, HD⟩
        case measure => simp [intOf]; omega
      rw [if_neg b1] at HD
      rw [decide_eq_false b1] at e1
      by_cases b2 : s[k] = 125
      · rw [if_pos b2] at HD
        rw [decide_eq_true b2] at e2
        clear e3 b1 b2 hdr
        by_cases hn : n = 0
        · rw [if_pos hn] at HD
          have hneg : (n : Int) - 1 < 0 := by omega
          clear hn
          go_wp2_with fail
          go_ret
          exact ⟨Gl.ret_bool HD.out, rfl⟩
        · rw [if_neg hn] at HD
          have hneg : ¬ (n : Int) - 1 < 0 := by omega
          go_wp2_with fail
          go_round
          case rel => exact ⟨k + 1, n - 1, by omega, by omega, by go_num, by go_num, HD⟩
          case measure => simp [intOf]; omega
      rw [if_neg b2] at HD
      rw [decide_eq_false b2] at e2
      by_cases b3 : s[k] = 44
      · rw [if_pos b3] at HD
        rw [decide_eq_true b3] at e3
        clear b1 b2 b3 hdr
        by_cases hn : n = 0
        · subst hn
          rw [if_pos rfl] at HD
          go_wp2_with fail
          go_ret
          exact ⟨Gl.ret_bool HD.out, rfl⟩
        · rw [if_neg hn] at HD
          have hz : ((n : Int) == 0) = false := by simp; omega
          have hneg : ¬ (n : Int) < 0 := by omega
          go_wp2_with fail
          go_round
          case rel => exact ⟨k + 1, n, by omega, by omega, by go_num, by go_num, HD⟩
          case measure => simp [intOf]; omega
      · rw [if_neg b3] at HD
        rw [decide_eq_false b3] at e3
        clear b1 b2 b3 hdr
        have hneg : ¬ (n : Int) < 0 := by omega
        go_wp2_with fail
        go_round
        case rel => exact ⟨k + 1, n, by omega, by omega, by go_num, by go_num, HD⟩
        case measure => simp [intOf]; omega
    · obtain rfl : k = s.length := by omega
      rw [List.drop_length] at HD
      have HE : Hid (R = ((n : Int) == 0)) := Lib.hid (by rw [← HD.out]; show decide (n = 0) = _; by_cases h : n = 0 <;> simp [h])
      go_wp2
      go_ret
      exact ⟨Gl.ret_bool HE.out.symm, rfl⟩
end Go.Proofs.YtiolkiikgjedcaaGreatDoor

namespace Go.Proofs.YtiolkiikgjedcaaGreatDoor
open Go.RowKit
open Me

namespace Gl
theorem dropB (s : List UInt8) (k : Nat) : (⟨s.toArray⟩ : ByteArray).extract k s.length = ⟨(s.drop k).toArray⟩ := by
  apply ByteArray.ext
  rw [ByteArray.data_extract]
  apply Array.toList_inj.1
  simp [List.take_of_length_le]
theorem takeB (s : List UInt8) (k : Nat) : (⟨s.toArray⟩ : ByteArray).extract 0 k = ⟨(s.take k).toArray⟩ := by
  apply ByteArray.ext
  rw [ByteArray.data_extract]
  apply Array.toList_inj.1
  simp
/-- A text's length, in a slot. -/
def strLen (v : Value) : Nat := match v with
  | .string b => b.size
  | _ => 0
theorem strLen_mk (l : List UInt8) : strLen (.string ⟨l.toArray⟩) = l.length := by show l.toArray.size = _; simp
theorem ranged_len {s : List UInt8} (h : ranged s = true) : 2 < s.length := by
  match s, h with
  | a :: d :: b :: r, _ => simp
theorem ranged_iff (s : List UInt8) (h : 2 < s.length) : ranged s = decide (s[1] = 45) := by
  match s, h with
  | a :: d :: b :: r, _ => rfl
theorem ranged_short (s : List UInt8) (h : ¬ 2 < s.length) : ranged s = false := by
  match s, h with
  | [], _ => rfl
  | [a], _ => rfl
  | [a, b], _ => rfl
  | a :: d :: b :: r, h => simp at h
theorem lo_eq (s : List UInt8) (h : 0 < s.length) : lo s = s[0] := by
  match s, h with
  | a :: r, _ => rfl
theorem hi_yes (s : List UInt8) (h : 2 < s.length) (hr : ranged s = true) : hi s = s[2] := by
  match s, h with
  | a :: d :: b :: r, _ =>
    have : d = 45 := by simpa [ranged] using hr
    show (if d = 45 then b else a) = _; rw [if_pos this]; rfl
theorem hi_no (s : List UInt8) (h : 0 < s.length) (hr : ranged s = false) : hi s = s[0] := by
  match s, h with
  | [a], _ => rfl
  | [a, b], _ => rfl
  | a :: d :: b :: r, _ =>
    have : d ≠ 45 := by simpa [ranged] using hr
    show (if d = 45 then b else a) = _; rw [if_neg this]; rfl
theorem ret_cut {a b a' b' : UInt8} {l l' : List UInt8} (h1 : a = a') (h2 : b = b') (h3 : l = l') : Ending.returned (.tuple #[.int .u8 (a.toNat : Int), .int .u8 (b.toNat : Int), .string ⟨l.toArray⟩]) = .returned (.tuple #[.int .u8 (a'.toNat : Int), .int .u8 (b'.toNat : Int), .string ⟨l'.toArray⟩]) := by rw [h1, h2, h3]
end Gl

set_option maxHeartbeats 1000000 in
theorem cutRange_any (s : List UInt8) (hl : s.length ≤ 4294967270) (h0 : 0 < s.length) (w : World) :
    Calls Tryz.prog 125 #[.string ⟨s.toArray⟩] w fun e w' => e = .returned (.tuple #[.int .u8 ((Gl.lo s).toNat : Int), .int .u8 ((Gl.hi s).toNat : Int), .string ⟨(Gl.re s).toArray⟩]) ∧ Below w.heap.size w w' := by
  have hs : (⟨s.toArray⟩ : ByteArray).size = s.length := by show s.toArray.size = _; simp
  have hl0 : (0 : Int) < (s.length : Int) := by omega
  have hd3 := Gl.dropB s 3
  have hd1 := Gl.dropB s 1
  have HLo := Lib.hid (Gl.lo_eq s h0)
  by_cases h2 : 2 < s.length
  · have h2' : (2 : Int) < (s.length : Int) := by omega
    have h1' : (1 : Int) < (s.length : Int) := by omega
    have e1 : ((((⟨s.toArray⟩ : ByteArray)[1]'(by rw [hs]; omega)).toNat : Int) == 45) = decide (s[1] = 45) := Gl.byteEq s[1] 45
    rw [← Gl.ranged_iff s h2] at e1
    cases hr : Gl.ranged s
    · rw [hr] at e1
      have HHi := Lib.hid (Gl.hi_no s h0 hr)
      have HRe : Hid (Gl.re s = s.tail) := Lib.hid (by unfold Gl.re; rw [hr]; show s.drop 1 = _; exact List.drop_one)
      clear hr
      go_enter Tryz.func125, Tryz.ntmps125
      go_wp2_with fail
      go_region
      all_goals
        go_wp2_with fail
        ((try simp only [Exit.inBlock, Exit.then]); refine bodyPost_ret (results_tmp3 rfl _ _ _) rfl ?_)
        exact ⟨Gl.ret_cut HLo.out.symm HHi.out.symm HRe.out.symm, (by repeat (first | exact Below.refl _ _ | assumption | refine Below.setCell ?_ (by first | (simp; done) | omega | (simp; omega) | (simp at *; omega)) _ | refine Below.alloc ?_ (by first | (simp; done) | omega | (simp; omega) | (simp at *; omega)) _ | refine Below.drew ?_ | (refine Below.trans ?_ (Below.mono (by assumption) (by first | (simp; done) | omega | (simp; omega) | (simp at *; omega)))) | (refine Below.trans ?_ (Below.mono (below_regrown _ _ _) (by first | (simp; done) | omega | (simp; omega) | (simp at *; omega))))))⟩
    · rw [hr] at e1
      have HHi := Lib.hid (Gl.hi_yes s h2 hr)
      have HRe : Hid (Gl.re s = s.drop 3) := Lib.hid (by unfold Gl.re; rw [hr]; rfl)
      clear hr
      have h3' : (3 : Int) ≤ (s.length : Int) := by omega
      go_enter Tryz.func125, Tryz.ntmps125
      go_wp2_with fail
      go_region
      all_goals
        go_wp2_with fail
        ((try simp only [Exit.inBlock, Exit.then]); refine bodyPost_ret (results_tmp3 rfl _ _ _) rfl ?_)
        exact ⟨Gl.ret_cut HLo.out.symm HHi.out.symm HRe.out.symm, (by repeat (first | exact Below.refl _ _ | assumption | refine Below.setCell ?_ (by first | (simp; done) | omega | (simp; omega) | (simp at *; omega)) _ | refine Below.alloc ?_ (by first | (simp; done) | omega | (simp; omega) | (simp at *; omega)) _ | refine Below.drew ?_ | (refine Below.trans ?_ (Below.mono (by assumption) (by first | (simp; done) | omega | (simp; omega) | (simp at *; omega)))) | (refine Below.trans ?_ (Below.mono (below_regrown _ _ _) (by first | (simp; done) | omega | (simp; omega) | (simp at *; omega))))))⟩
  · have h2' : ¬ (2 : Int) < (s.length : Int) := by omega
    have hr := Gl.ranged_short s h2
    have HHi := Lib.hid (Gl.hi_no s h0 hr)
    have HRe : Hid (Gl.re s = s.tail) := Lib.hid (by unfold Gl.re; rw [hr]; show s.drop 1 = _; exact List.drop_one)
    clear hr
    go_enter Tryz.func125, Tryz.ntmps125
    go_wp2_with fail
    go_region
    all_goals
      go_wp2_with fail
      ((try simp only [Exit.inBlock, Exit.then]); refine bodyPost_ret (results_tmp3 rfl _ _ _) rfl ?_)
      exact ⟨Gl.ret_cut HLo.out.symm HHi.out.symm HRe.out.symm, (by repeat (first | exact Below.refl _ _ | assumption | refine Below.setCell ?_ (by first | (simp; done) | omega | (simp; omega) | (simp at *; omega)) _ | refine Below.alloc ?_ (by first | (simp; done) | omega | (simp; omega) | (simp at *; omega)) _ | refine Below.drew ?_ | (refine Below.trans ?_ (Below.mono (by assumption) (by first | (simp; done) | omega | (simp; omega) | (simp at *; omega)))) | (refine Below.trans ?_ (Below.mono (below_regrown _ _ _) (by first | (simp; done) | omega | (simp; omega) | (simp at *; omega))))))⟩

set_option maxHeartbeats 1000000 in
theorem isClass_any (s : List UInt8) (hl : s.length ≤ 4294967270) (w : World) :
    Calls Tryz.prog 95 #[.string ⟨s.toArray⟩] w fun e w' => e = .returned (.bool (!s.isEmpty && Gl.okR s)) ∧ Below w.heap.size w w' := by
  by_cases h0 : s = []
  · subst h0
    go_enter Tryz.func95, Tryz.ntmps95
    go_wp2_with fail
    go_ret
    exact ⟨rfl, (by repeat (first | exact Below.refl _ _ | assumption | refine Below.setCell ?_ (by first | (simp; done) | omega | (simp; omega) | (simp at *; omega)) _ | refine Below.alloc ?_ (by first | (simp; done) | omega | (simp; omega) | (simp at *; omega)) _ | refine Below.drew ?_ | (refine Below.trans ?_ (Below.mono (by assumption) (by first | (simp; done) | omega | (simp; omega) | (simp at *; omega)))) | (refine Below.trans ?_ (Below.mono (below_regrown _ _ _) (by first | (simp; done) | omega | (simp; omega) | (simp at *; omega))))))⟩
  · have hemp : s.isEmpty = false := by simpa using h0
    have HR : Hid (Gl.okR s = (!s.isEmpty && Gl.okR s)) := Lib.hid (by rw [hemp]; rfl)
    generalize (!s.isEmpty && Gl.okR s) = R at *
    go_enter Tryz.func95, Tryz.ntmps95
    go_wp2_with fail
    go_loopw [0] (fun v wr => ∃ t : List UInt8, v = .string ⟨t.toArray⟩ ∧ Hid (t.length ≤ s.length) ∧ Hid (Gl.okR t = R) ∧ Below w.heap.size w wr) (fun v _ => Gl.strLen v)
    case atStart => exact ⟨s, rfl, Lib.hid (Nat.le_refl _), HR, Below.refl _ _⟩
    case round =>
      obtain ⟨t, rfl, HL, HD, hbel⟩ := hrel
      by_cases ht : t = []
      · subst ht
        have HD' : Hid (true = R) := Lib.hid HD.out
        go_wp2
        go_ret
        exact ⟨Gl.ret_bool HD'.out, hbel⟩
      · have htemp : t.isEmpty = false := by simpa using ht
        have hlen := Gl.re_len t ht
        have HC := Lib.hid (cutRange_any t (Nat.le_trans HL.out hl) (List.length_pos_iff.2 ht))
        have HS := Lib.hid (Gl.okR_step t ht)
        have HN := Lib.hid hlen
        rw [HS.out] at HD
        have e1 := Gl.byteLt (Gl.hi t) (Gl.lo t)
        clear HS
        generalize Gl.hi t = b at *
        generalize Gl.lo t = a at *
        generalize Gl.re t = r at *
        cases hd : decide (b.toNat < a.toNat)
        · rw [hd] at e1 HD
          clear hd
          have HD2 : Hid (Gl.okR r = R) := Lib.hid (by simpa using HD.out)
          have e2 := of_decide_eq_false e1
          go_wp2_with (go_at_call 125; go_must (refine (HC.out _).mono ?_; rintro e w1 ⟨rfl, hb1⟩))
          go_roundw
          case rel => exact ⟨r, rfl, Lib.hid (by have := HL.out; have := HN.out; omega), HD2, hbel.trans (hb1.mono hbel.size)⟩
          case measure => rw [Gl.strLen_mk, Gl.strLen_mk]; exact HN.out
        · rw [hd] at e1 HD
          clear hd
          have HD2 : Hid (false = R) := Lib.hid (by simpa using HD.out)
          have e2 := of_decide_eq_true e1
          go_wp2_with (go_at_call 125; go_must (refine (HC.out _).mono ?_; rintro e w1 ⟨rfl, hb1⟩))
          go_ret
          exact ⟨Gl.ret_bool HD2.out, hbel.trans (hb1.mono hbel.size)⟩

set_option maxHeartbeats 1000000 in
theorem lists_any (s : List UInt8) (hl : s.length ≤ 4294967270) (c : UInt8) (w : World) :
    Calls Tryz.prog 134 #[.string ⟨s.toArray⟩, .int .u8 (c.toNat : Int)] w fun e w' => e = .returned (.bool (Gl.inR c s)) ∧ Below w.heap.size w w' := by
  generalize hR : Gl.inR c s = R
  have HR : Hid (Gl.inR c s = R) := Lib.hid hR
  clear hR
  go_enter Tryz.func134, Tryz.ntmps134
  go_wp2_with fail
  go_loopw [0] (fun v wr => ∃ t : List UInt8, v = .string ⟨t.toArray⟩ ∧ Hid (t.length ≤ s.length) ∧ Hid (Gl.inR c t = R) ∧ Below w.heap.size w wr) (fun v _ => Gl.strLen v)
  case atStart => exact ⟨s, rfl, Lib.hid (Nat.le_refl _), HR, Below.refl _ _⟩
  case round =>
    obtain ⟨t, rfl, HL, HD, hbel⟩ := hrel
    by_cases ht : t = []
    · subst ht
      have HD' : Hid (false = R) := Lib.hid HD.out
      go_wp2
      go_ret
      exact ⟨Gl.ret_bool HD'.out, hbel⟩
    · have htemp : t.isEmpty = false := by simpa using ht
      have hlen := Gl.re_len t ht
      have HC := Lib.hid (cutRange_any t (Nat.le_trans HL.out hl) (List.length_pos_iff.2 ht))
      have HS := Lib.hid (Gl.inR_step c t ht)
      have HN := Lib.hid hlen
      rw [HS.out] at HD
      clear HS
      generalize Gl.hi t = b at *
      generalize Gl.lo t = a at *
      generalize Gl.re t = r at *
      by_cases h1 : a.toNat ≤ c.toNat
      · have g1 : (a.toNat : Int) ≤ (c.toNat : Int) := by omega
        by_cases h2 : c.toNat ≤ b.toNat
        · have g2 : (c.toNat : Int) ≤ (b.toNat : Int) := by omega
          have HD2 : Hid (true = R) := Lib.hid (by rw [← HD.out, decide_eq_true h1, decide_eq_true h2]; rfl)
          clear h1 h2
          go_wp2_with (go_at_call 125; go_must (refine (HC.out _).mono ?_; rintro e w1 ⟨rfl, hb1⟩))
          go_ret
          exact ⟨Gl.ret_bool HD2.out, hbel.trans (hb1.mono hbel.size)⟩
        · have g2 : ¬ (c.toNat : Int) ≤ (b.toNat : Int) := by omega
          have HD2 : Hid (Gl.inR c r = R) := Lib.hid (by rw [← HD.out, decide_eq_true h1, decide_eq_false h2]; rfl)
          clear h1 h2
          go_wp2_with (go_at_call 125; go_must (refine (HC.out _).mono ?_; rintro e w1 ⟨rfl, hb1⟩))
          go_roundw
          case rel => exact ⟨r, rfl, Lib.hid (by have := HL.out; have := HN.out; omega), HD2, hbel.trans (hb1.mono hbel.size)⟩
          case measure => rw [Gl.strLen_mk, Gl.strLen_mk]; exact HN.out
      · have g1 : ¬ (a.toNat : Int) ≤ (c.toNat : Int) := by omega
        have HD2 : Hid (Gl.inR c r = R) := Lib.hid (by rw [← HD.out, decide_eq_false h1]; rfl)
        clear h1
        go_wp2_with (go_at_call 125; go_must (refine (HC.out _).mono ?_; rintro e w1 ⟨rfl, hb1⟩))
        go_roundw
        case rel => exact ⟨r, rfl, Lib.hid (by have := HL.out; have := HN.out; omega), HD2, hbel.trans (hb1.mono hbel.size)⟩
        case measure => rw [Gl.strLen_mk, Gl.strLen_mk]; exact HN.out
end Go.Proofs.YtiolkiikgjedcaaGreatDoor
