/-
  CONTRACTS: the roots, rounded down.
-/
import Derived.Test.YtafgjenhfoijlaaFxRtPure
import Derived.Test.YtafgjenhfoijlaaFxMul
namespace Go.Proofs.Ytafgjenhfoijlaa
open Go.RowKit

set_option maxHeartbeats 1000000 in
theorem root_any (T : Nat) (hT : Hid (T < 4835703278458516698824704)) (hi lo : Int) (hhi : Hid (hi = ((T / 18446744073709551616 : Nat) : Int))) (hlo : Hid (lo = ((T % 18446744073709551616 : Nat) : Int))) (w : World) :
    Calls Try.prog 47 #[.int .u64 hi, .int .u64 lo] w fun e w' => e = .returned (.int .u64 (Fx.rt T : Int)) ∧ w = w' := by
  go_enter Try.func47, Try.ntmps47
  go_wp2_with fail
  go_loop [5, 6] (fun n i => ∃ (k m : Nat), Fx.Rt T k m ∧ n = .int .u64 m ∧ i = .int .i64 ((k : Int) - 1) ∧ k ≤ 41) (fun _ i => (intOf i + 1).toNat)
  case atStart => exact ⟨41, 0, Fx.rt_start T 41 (Nat.lt_of_lt_of_le hT.out (by decide)), rfl, rfl, by omega⟩
  case round =>
    obtain ⟨k, m, hR, rfl, rfl, hk⟩ := hrel
    cases k with
    | zero =>
      have he := Lib.hid (Fx.rt_eq hT.out (Fx.rt_done hR))
      clear hR
      go_wp2
      go_ret
      exact ⟨ret_int (by rw [he.out]), rfl⟩
    | succ k =>
      have hk2 : ((k + 1 : Nat) : Int) - 1 = (k : Int) := by omega
      rw [hk2]
      have hkb : k ≤ 63 := by omega
      have hp1 : 2 ^ k ≤ 2 ^ 41 := Nat.pow_le_pow_right (by decide) (by omega)
      have hml := Fx.rt_lt hR hT.out
      obtain ⟨p, hp⟩ : ∃ p : Nat, p = 2 ^ k := ⟨_, rfl⟩
      have e1 : IntKind.u64.wrap (2 ^ k) = (p : Int) := by
        have := castPow 1 k
        rw [Int.natCast_one, Int.one_mul, Nat.one_mul] at this
        rw [this, hp, wrapN _ (by omega)]
      obtain ⟨mo, hmo⟩ : ∃ mo : Int, mo = ((m + 2 ^ k : Nat) : Int) := ⟨_, rfl⟩
      have e2 : bits .or .u64 (m : Int) (p : Int) = mo := by
        rw [hmo, orN _ _ (by omega) (by rw [hp]; omega), hp, Fx.rt_or hR]
      obtain ⟨h, hh⟩ : ∃ h : Int, h = (((m + 2 ^ k) * (m + 2 ^ k) / 18446744073709551616 : Nat) : Int) := ⟨_, rfl⟩
      obtain ⟨l, hl⟩ : ∃ l : Int, l = (((m + 2 ^ k) * (m + 2 ^ k) % 18446744073709551616 : Nat) : Int) := ⟨_, rfl⟩
      have HM : Hid (∀ W, Calls Try.prog 41 #[.int .u64 mo, .int .u64 mo] W fun e w' => e = .returned (.tuple #[.int .u64 h, .int .u64 l]) ∧ W = w') := by
        apply Lib.hid; intro W; rw [hmo, hh, hl]; exact mul64_any (m + 2 ^ k) (m + 2 ^ k) (by omega) (by omega) W
      have HCMP : Hid ((h < hi ∨ (h = hi ∧ l ≤ lo)) ↔ (m + 2 ^ k) * (m + 2 ^ k) ≤ T) := by
        apply Lib.hid
        have := Fx.words_le _ _ _ _ _ _ (Fx.whole ((m + 2 ^ k) * (m + 2 ^ k))).symm (Fx.whole T).symm (Nat.mod_lt _ (by decide)) (Nat.mod_lt _ (by decide))
        rw [← this, hh, hl, hhi.out, hlo.out]
        constructor
        · rintro (h1 | ⟨h1, h2⟩)
          · exact .inl (by omega)
          · exact .inr ⟨by omega, by omega⟩
        · rintro (h1 | ⟨h1, h2⟩)
          · exact .inl (by omega)
          · exact .inr ⟨by omega, by omega⟩
      have HMO := Lib.hid hmo
      clear hmo hh hl hp hp1 hml
      rename Hid (mo = _) => hmo
      have HR := Lib.hid hR
      clear hR
      by_cases c1 : h < hi
      · go_wp2_with fail
        (go_at_call 41; go_must (refine (HM.out _).mono ?_; rintro e w' ⟨rfl, rfl⟩))
        go_wp2
        go_round
        case rel => exact ⟨k, m + 2 ^ k, Fx.rt_yes HR.out (HCMP.out.1 (.inl c1)), congrArg (Value.int .u64) hmo.out, rfl, by omega⟩
        case measure => simp [intOf]
      · by_cases c2 : h = hi
        · subst c2
          by_cases c3 : l ≤ lo
          · go_wp2_with fail
            (go_at_call 41; go_must (refine (HM.out _).mono ?_; rintro e w' ⟨rfl, rfl⟩))
            go_wp2
            go_round
            case rel => exact ⟨k, m + 2 ^ k, Fx.rt_yes HR.out (HCMP.out.1 (.inr ⟨by trivial, c3⟩)), congrArg (Value.int .u64) hmo.out, rfl, by omega⟩
            case measure => simp [intOf]
          · go_wp2_with fail
            (go_at_call 41; go_must (refine (HM.out _).mono ?_; rintro e w' ⟨rfl, rfl⟩))
            go_wp2
            go_round
            case rel => exact ⟨k, m, Fx.rt_no HR.out (Nat.lt_of_not_le fun hh => by have := HCMP.out.2 hh; omega), rfl, rfl, by omega⟩
            case measure => simp [intOf]
        · have c4 : (h == hi) = false := by simp [c2]
          have C2 := Lib.hid c2
          have HC2 : Hid (¬ (h < hi ∨ (h = hi ∧ l ≤ lo))) := Lib.hid (by rintro (h1 | ⟨h1, _⟩); exact c1 h1; exact c2 h1)
          clear c2 C2
          go_wp2_with fail
          (go_at_call 41; go_must (refine (HM.out _).mono ?_; rintro e w' ⟨rfl, rfl⟩))
          go_wp2
          go_round
          case rel => exact ⟨k, m, Fx.rt_no HR.out (Nat.lt_of_not_le fun hh => HC2.out (HCMP.out.2 hh)), rfl, rfl, by omega⟩
          case measure => simp [intOf]
end Go.Proofs.Ytafgjenhfoijlaa
