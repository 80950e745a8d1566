/-
  CONTRACTS: chapter 9's own answers (ref9): simple, Plain; the law's plain.
-/
import Derived.Test.YtobkddekfcgclaaDoorGlRef
namespace Go.Proofs.YtobkddekfcgclaaDoor
open Go.RowKit
open Me

namespace Gl
theorem byteEqN (b c : UInt8) : (b.toNat == c.toNat) = decide (b = c) := by
  by_cases h : b = c
  · subst h; simp
  · rw [decide_eq_false h]
    simp only [beq_eq_false_iff_ne, ne_eq]
    intro e
    exact h (UInt8.toNat_inj.1 e)
theorem byteNe (b c : UInt8) : ((b.toNat : Int) != (c.toNat : Int)) = !decide (b = c) := by
  rw [← byteEq]; rfl
theorem simple_at_cls (s : List UInt8) (i : Nat) (h : i < s.length) (hb : s[i] = 91) : simple (s.drop i) = (clsOk s i && simple (s.drop (clsAt s i + 1))) := by
  rw [List.drop_eq_getElem_cons h, hb]
  unfold clsOk
  cases hn : has93 (s.drop (i + 1)) with
  | false =>
    rw [simple_open _ (by simpa [has93] using hn)]; rfl
  | true =>
    have e := cut93 _ hn
    rw [← bh_drop s i hn]
    conv => lhs; rw [e]
    rw [simple_cls _ _ (ah_none _), Bool.true_and]
theorem simple_at_star (s : List UInt8) (i : Nat) (h : i < s.length) (hb : s[i] = 42 ∨ s[i] = 63) : simple (s.drop i) = simple (s.drop (i + 1)) := by
  rw [List.drop_eq_getElem_cons h, simple_star _ hb]
theorem simple_at_lit (s : List UInt8) (i : Nat) (h : i < s.length) (hb : s[i] ≠ 42 ∧ s[i] ≠ 63 ∧ s[i] ≠ 91) : simple (s.drop i) = (Nm.okB s[i] && simple (s.drop (i + 1))) := by
  rw [List.drop_eq_getElem_cons h, simple_lit hb]
theorem plain_at (s : List UInt8) (i : Nat) (h : i < s.length) : plainB (s.drop i) = ((s[i] == 46 || Nm.okB s[i]) && plainB (s.drop (i + 1))) := by
  rw [List.drop_eq_getElem_cons h]; rfl
end Gl

set_option maxHeartbeats 2000000 in
theorem refSimple_any (s : List UInt8) (hl : s.length ≤ 4294967270) (w : World) :
    Calls Tryd.prog 28 #[.string ⟨s.toArray⟩] w fun e w' => e = .returned (.bool (Gl.simple s)) ∧ Below w.heap.size w w' := by
  have hs : (⟨s.toArray⟩ : ByteArray).size = s.length := by show s.toArray.size = _; simp
  generalize hR : Gl.simple s = R
  have HR : Hid (Gl.simple (s.drop 0) = R) := Lib.hid hR
  clear hR
  go_enter Tryd.func28, Tryd.ntmps28
  go_wp2_with fail
  go_loopw [3] (fun x wr => ∃ i : Nat, i ≤ s.length ∧ x = .int .i64 i ∧ Hid (Gl.simple (s.drop i) = R) ∧ Below w.heap.size w wr) (fun x _ => s.length - (intOf x).toNat)
  case atStart => exact ⟨0, Nat.zero_le _, rfl, HR, Below.refl _ _⟩
  case round =>
    obtain ⟨i, hi, rfl, HD, hbel⟩ := hrel
    have hi0 : (0 : Int) ≤ (i : Int) := by omega
    have hi9 : (i : Int) ≤ 4294967270 := by omega
    by_cases hlt : i < s.length
    · have hil : (i : Int) < (s.length : Int) := by omega
      have e1 : ((((⟨s.toArray⟩ : ByteArray)[i]'hlt).toNat : Int) == 91) = decide (s[i] = 91) := Gl.byteEq s[i] 91
      have e2 : ((((⟨s.toArray⟩ : ByteArray)[i]'hlt).toNat : Int) == 42) = decide (s[i] = 42) := Gl.byteEq s[i] 42
      have e3 : ((((⟨s.toArray⟩ : ByteArray)[i]'hlt).toNat : Int) == 63) = decide (s[i] = 63) := Gl.byteEq s[i] 63
      by_cases b1 : s[i] = 91
      · rw [decide_eq_true b1] at e1
        have HC := Lib.hid (refClass_any s hl i hlt)
        have HS := Lib.hid (Gl.simple_at_cls s i hlt b1)
        have HLe := Lib.hid (Gl.clsAt_le s i hlt)
        have HHas := Lib.hid (Gl.clsAt_has s i)
        have HOk : Hid (Gl.clsOk s i = true → Gl.has93 (s.drop (i + 1)) = true) := Lib.hid fun h => by
          unfold Gl.clsOk at h; rw [Bool.and_eq_true] at h; exact h.1
        have HGe : Hid (i + 1 ≤ Gl.clsAt s i) := Lib.hid (by unfold Gl.clsAt; omega)
        rw [HS.out] at HD
        clear HS b1 e2 e3
        generalize Gl.clsAt s i = e at *
        cases hok : Gl.clsOk s i
        · rw [hok] at HD HC
          clear hok
          have HD2 : Hid (false = R) := HD
          have HC2 : Hid (∀ w : World, Calls Tryd.prog 44 #[.string ⟨s.toArray⟩, .int .i64 i] w fun e w' => e = .returned (.int .i64 (-1)) ∧ Below w.heap.size w w') := HC
          clear HC
          go_wp2_with (go_at_call 44; go_must (refine (HC2.out _).mono ?_; rintro e w1 ⟨rfl, hb1⟩))
          go_ret
          exact ⟨Gl.ret_bool HD2.out, hbel.trans (hb1.mono hbel.size)⟩
        · rw [hok] at HD HC
          obtain ⟨hel, _⟩ := HHas.out (HOk.out hok)
          clear hok
          have HD2 : Hid (Gl.simple (s.drop (e + 1)) = R) := HD
          have HC2 : Hid (∀ w : World, Calls Tryd.prog 44 #[.string ⟨s.toArray⟩, .int .i64 i] w fun e' w' => e' = .returned (.int .i64 e) ∧ Below w.heap.size w w') := HC
          have he0 : ¬ (e : Int) < 0 := by omega
          have he9 : (e : Int) ≤ 4294967270 := by omega
          clear HC
          go_wp2_with (go_at_call 44; go_must (refine (HC2.out _).mono ?_; rintro e w1 ⟨rfl, hb1⟩))
          go_roundw
          case rel => exact ⟨e + 1, by omega, by go_num, HD2, hbel.trans (hb1.mono hbel.size)⟩
          case measure => have := HGe.out; simp [intOf]; omega
      rw [decide_eq_false b1] at e1
      by_cases b2 : s[i] = 42
      · rw [decide_eq_true b2] at e2
        rw [Gl.simple_at_star s i hlt (.inl b2)] at HD
        clear e3 b1 b2
        go_wp2_with fail
        go_roundw
        case rel => exact ⟨i + 1, by omega, by go_num, HD, hbel⟩
        case measure => simp [intOf]; omega
      rw [decide_eq_false b2] at e2
      by_cases b3 : s[i] = 63
      · rw [decide_eq_true b3] at e3
        rw [Gl.simple_at_star s i hlt (.inr b3)] at HD
        clear b1 b2 b3
        go_wp2_with fail
        go_roundw
        case rel => exact ⟨i + 1, by omega, by go_num, HD, hbel⟩
        case measure => simp [intOf]; omega
      rw [decide_eq_false b3] at e3
      rw [Gl.simple_at_lit s i hlt ⟨b2, b3, b1⟩] at HD
      have HB : Hid (∀ w : World, Calls Tryd.prog 36 #[.int .u8 (((⟨s.toArray⟩ : ByteArray)[i]'hlt).toNat : Int)] w fun e w' => e = .returned (.bool (Nm.okB s[i])) ∧ w' = w) := Lib.hid fun w => refByte_any s[i] w
      clear b1 b2 b3
      cases hok : Nm.okB s[i]
      · rw [hok] at HD HB
        clear hok
        have HD2 : Hid (false = R) := HD
        go_wp2_with (go_at_call 36; go_must (refine (HB.out _).mono ?_; rintro e w1 ⟨rfl, rfl⟩))
        go_ret
        exact ⟨Gl.ret_bool HD2.out, hbel⟩
      · rw [hok] at HD HB
        clear hok
        have HD2 : Hid (Gl.simple (s.drop (i + 1)) = R) := HD
        go_wp2_with (go_at_call 36; go_must (refine (HB.out _).mono ?_; rintro e w1 ⟨rfl, rfl⟩))
        go_roundw
        case rel => exact ⟨i + 1, by omega, by go_num, HD2, hbel⟩
        case measure => simp [intOf]; omega
    · obtain rfl : i = s.length := by omega
      rw [List.drop_length] at HD
      have HD2 : Hid (true = R) := HD
      go_wp2
      go_ret
      exact ⟨Gl.ret_bool HD2.out, hbel⟩

set_option maxHeartbeats 2000000 in
theorem refPlain_any (s : List UInt8) (hl : s.length ≤ 4294967270) (w : World) :
    Calls Tryd.prog 16 #[.string ⟨s.toArray⟩] w fun e w' => e = .returned (.bool (Gl.plainB s)) ∧ w' = w := by
  have hs : (⟨s.toArray⟩ : ByteArray).size = s.length := by show s.toArray.size = _; simp
  generalize hR : Gl.plainB s = R
  have HR : Hid (Gl.plainB (s.drop 0) = R) := Lib.hid hR
  clear hR
  go_enter Tryd.func16, Tryd.ntmps16
  go_wp2_with fail
  go_loop [3] (fun x => ∃ i : Nat, i ≤ s.length ∧ x = .int .i64 i ∧ Hid (Gl.plainB (s.drop i) = R)) (fun x => s.length - (intOf x).toNat)
  case atStart => exact ⟨0, Nat.zero_le _, rfl, HR⟩
  case round =>
    obtain ⟨i, hi, rfl, HD⟩ := hrel
    have hi0 : (0 : Int) ≤ (i : Int) := by omega
    have hi9 : (i : Int) ≤ 4294967270 := by omega
    by_cases hlt : i < s.length
    · have hil : (i : Int) < (s.length : Int) := by omega
      have e1 : ((((⟨s.toArray⟩ : ByteArray)[i]'hlt).toNat : Int) == 46) = decide (s[i] = 46) := Gl.byteEq s[i] 46
      have e0 : ((((⟨s.toArray⟩ : ByteArray)[i]'hlt).toNat : Int) != 46) = !decide (s[i] = 46) := Gl.byteNe s[i] 46
      rw [Gl.plain_at s i hlt] at HD
      by_cases b1 : s[i] = 46
      · rw [decide_eq_true b1] at e1 e0
        have HD2 : Hid (Gl.plainB (s.drop (i + 1)) = R) := Lib.hid (by rw [← HD.out, show (s[i] == 46) = true by simpa using b1]; rfl)
        clear b1
        go_wp2_with fail
        go_round
        case rel => exact ⟨i + 1, by omega, by go_num, HD2⟩
        case measure => simp [intOf]; omega
      rw [decide_eq_false b1] at e1 e0
      have HB : Hid (∀ w : World, Calls Tryd.prog 36 #[.int .u8 (((⟨s.toArray⟩ : ByteArray)[i]'hlt).toNat : Int)] w fun e w' => e = .returned (.bool (Nm.okB s[i])) ∧ w' = w) := Lib.hid fun w => refByte_any s[i] w
      cases hok : Nm.okB s[i]
      · rw [hok] at HD HB
        have HD2 : Hid (false = R) := Lib.hid (by rw [← HD.out, show (s[i] == 46) = false by simpa using b1]; rfl)
        clear b1 hok
        go_wp2_with (go_at_call 36; go_must (refine (HB.out _).mono ?_; rintro e w1 ⟨rfl, rfl⟩))
        go_ret
        exact ⟨Gl.ret_bool HD2.out, rfl⟩
      · rw [hok] at HD HB
        have HD2 : Hid (Gl.plainB (s.drop (i + 1)) = R) := Lib.hid (by rw [← HD.out, Bool.or_true, Bool.true_and])
        clear b1 hok
        go_wp2_with (go_at_call 36; go_must (refine (HB.out _).mono ?_; rintro e w1 ⟨rfl, rfl⟩))
        go_round
        case rel => exact ⟨i + 1, by omega, by go_num, HD2⟩
        case measure => simp [intOf]; omega
    · obtain rfl : i = s.length := by omega
      rw [List.drop_length] at HD
      have HD2 : Hid (true = R) := HD
      go_wp2
      go_ret
      exact ⟨Gl.ret_bool HD2.out, rfl⟩

namespace Gl
/-- Bytes of a part alone. -/
theorem allOk (s : List UInt8) : s.all Nm.okB = (!(s.any (· == 46)) && plainB s) := by
  induction s with
  | nil => rfl
  | cons b r ih =>
    unfold plainB at *
    rw [List.all_cons, List.any_cons, List.all_cons, ih]
    by_cases hb : b = 46
    · subst hb; rw [show Nm.okB 46 = false by decide]; simp
    · rw [show (b == 46) = false by simpa using hb, Bool.false_or, Bool.false_or]
      cases Nm.okB b <;> simp
end Gl

set_option maxHeartbeats 2000000 in
theorem lawPlain_any (s : List UInt8) (hl : s.length ≤ 4294967270) (w : World) :
    Calls Tryd.prog 19 #[.string ⟨s.toArray⟩] w fun e w' => e = .returned (.bool (s.all Nm.okB)) ∧ w' = w := by
  have hs : (⟨s.toArray⟩ : ByteArray).size = s.length := by show s.toArray.size = _; simp
  have HP := Lib.hid (refPlain_any s hl)
  have HA := Lib.hid (Gl.allOk s)
  have HF : Hid (∀ i (h : i < s.length), s[i] = 46 → s.any (· == 46) = true) := Lib.hid fun i h hb => List.any_eq_true.2 ⟨s[i], List.getElem_mem h, by simpa using hb⟩
  have HN : Hid ((∀ i (h : i < s.length), s[i] ≠ 46) → s.any (· == 46) = false) := Lib.hid fun h => List.any_eq_false.2 fun x hx => by
    obtain ⟨i, hi, rfl⟩ := List.getElem_of_mem hx
    simpa using h i hi
  generalize s.any (· == 46) = dots at *
  generalize s.all Nm.okB = R at *
  generalize Gl.plainB s = P at *
  go_enter Tryd.func19, Tryd.ntmps19
  go_wp2_with fail
  go_loop [3] (fun x => ∃ i : Nat, i ≤ s.length ∧ x = .int .i64 i ∧ Hid (∀ j (h : j < s.length), j < i → s[j] ≠ 46)) (fun x => s.length - (intOf x).toNat)
  case atStart => exact ⟨0, Nat.zero_le _, rfl, Lib.hid fun j _ h => absurd h (by omega)⟩
  case round =>
    obtain ⟨i, hi, rfl, HD⟩ := hrel
    have hi0 : (0 : Int) ≤ (i : Int) := by omega
    have hi9 : (i : Int) ≤ 4294967270 := by omega
    by_cases hlt : i < s.length
    · have hil : (i : Int) < (s.length : Int) := by omega
      have e1 : ((((⟨s.toArray⟩ : ByteArray)[i]'hlt).toNat : Int) == 46) = decide (s[i] = 46) := Gl.byteEq s[i] 46
      have e0 : ((((⟨s.toArray⟩ : ByteArray)[i]'hlt).toNat) == 46) = decide (s[i] = 46) := Gl.byteEqN s[i] 46
      by_cases b1 : s[i] = 46
      · rw [decide_eq_true b1] at e1 e0
        have HD2 : Hid (false = R) := Lib.hid (by rw [HA.out, HF.out i hlt b1]; rfl)
        clear b1
        go_wp2_with fail
        go_ret
        exact ⟨Gl.ret_bool HD2.out, rfl⟩
      · rw [decide_eq_false b1] at e1 e0
        have HD2 : Hid (∀ j (h : j < s.length), j < i + 1 → s[j] ≠ 46) := Lib.hid fun j h hj => by
          by_cases e : j = i
          · subst e; exact b1
          · exact HD.out j h (by omega)
        clear b1
        go_wp2_with fail
        go_round
        case rel => exact ⟨i + 1, by omega, by go_num, HD2⟩
        case measure => simp [intOf]; omega
    · obtain rfl : i = s.length := by omega
      have HD2 : Hid (P = R) := Lib.hid (by rw [HA.out, HN.out fun j h => HD.out j h h]; rfl)
      go_wp2_with (go_at_call 16; go_must (refine (HP.out _).mono ?_; rintro e w1 ⟨rfl, rfl⟩))
      go_ret
      exact ⟨Gl.ret_bool HD2.out, rfl⟩
end Go.Proofs.YtobkddekfcgclaaDoor
