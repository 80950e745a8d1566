/-
  CONTRACTS: Sqrt, and the document's own.
-/
import Derived.Test.YtafgjenhfoijlaaFxRt
import Derived.Test.YtafgjenhfoijlaaFxOps
namespace Go.Proofs.Ytafgjenhfoijlaa
open Go.RowKit

theorem T_lt {n : Int} (h2 : n ≤ 4611686018427387904) : n.toNat * 1000000 < 4835703278458516698824704 := by omega

set_option maxHeartbeats 1000000 in
theorem sqrt_any (b : Bool) (n : Int) (w : World) :
    Calls Try.prog 33 #[.agg #[.bool b, .int .i64 n]] w fun e w' => e = .returned (.agg #[.bool (Fx.sqrt ⟨b, n⟩).ok, .int .i64 (Fx.sqrt ⟨b, n⟩).n]) ∧ Below w.heap.size w w' := by
  cases h : Fx.num ⟨b, n⟩
  · rw [Fx.sqrt_no h]
    go_enter Try.func33, Try.ntmps33
    go_wp2_with (go_at_call 38; go_must (refine (isNumber_any _ _ _).mono ?_; rintro e w' ⟨rfl, hb⟩; obtain ⟨hc, hf⟩ := bcell hb; (try have hz0 : w.heap.size < w'.heap.size := Nat.lt_of_lt_of_le (by first | assumption | (simp; done) | (simp; omega)) hb.size); (try have hz1 : w.heap.size + 1 < w'.heap.size := Nat.lt_of_lt_of_le (by first | assumption | (simp; done) | (simp; omega)) hb.size); (try have hz2 : w.heap.size + 1 + 1 < w'.heap.size := Nat.lt_of_lt_of_le (by first | assumption | (simp; done) | (simp; omega)) hb.size); have hz := hb.size; (try simp at hz)))
    exact bodyPost_ret (v := .agg #[.bool false, .int .i64 0]) (by simp [results, Try.results33, go_sem, *]) rfl ⟨rfl, (by repeat (first | exact Below.refl _ _ | assumption | refine Below.setCell ?_ (by first | (simp; done) | omega | (simp; omega) | (simp at *; omega)) _ | refine Below.alloc ?_ (by first | (simp; done) | omega | (simp; omega) | (simp at *; omega)) _ | refine Below.drew ?_ | (refine Below.trans ?_ (Below.mono (by assumption) (by first | (simp; done) | omega | (simp; omega) | (simp at *; omega)))) | (refine Below.trans ?_ (Below.mono (below_regrown _ _ _) (by first | (simp; done) | omega | (simp; omega) | (simp at *; omega))))))⟩
  · obtain ⟨rfl, n1, n2⟩ := Fx.num_iff.1 h
    by_cases h0 : n < 0
    · rw [Fx.sqrt_neg h0]
      go_enter Try.func33, Try.ntmps33
      go_wp2_with (go_at_call 38; go_must (refine (isNumber_any _ _ _).mono ?_; rintro e w' ⟨rfl, hb⟩; obtain ⟨hc, hf⟩ := bcell hb; (try have hz0 : w.heap.size < w'.heap.size := Nat.lt_of_lt_of_le (by first | assumption | (simp; done) | (simp; omega)) hb.size); (try have hz1 : w.heap.size + 1 < w'.heap.size := Nat.lt_of_lt_of_le (by first | assumption | (simp; done) | (simp; omega)) hb.size); (try have hz2 : w.heap.size + 1 + 1 < w'.heap.size := Nat.lt_of_lt_of_le (by first | assumption | (simp; done) | (simp; omega)) hb.size); have hz := hb.size; (try simp at hz)))
      exact bodyPost_ret (v := .agg #[.bool false, .int .i64 0]) (by simp [results, Try.results33, go_sem, *]) rfl ⟨rfl, (by repeat (first | exact Below.refl _ _ | assumption | refine Below.setCell ?_ (by first | (simp; done) | omega | (simp; omega) | (simp at *; omega)) _ | refine Below.alloc ?_ (by first | (simp; done) | omega | (simp; omega) | (simp at *; omega)) _ | refine Below.drew ?_ | (refine Below.trans ?_ (Below.mono (by assumption) (by first | (simp; done) | omega | (simp; omega) | (simp at *; omega)))) | (refine Below.trans ?_ (Below.mono (below_regrown _ _ _) (by first | (simp; done) | omega | (simp; omega) | (simp at *; omega))))))⟩
    · rw [Fx.sqrt_yes h (by show 0 ≤ n; omega)]
      have h00 : 0 ≤ n := by omega
      have hT := T_lt n2
      obtain ⟨N, hN⟩ := Int.eq_ofNat_of_zero_le h00
      obtain ⟨hi, hhi⟩ : ∃ hi : Int, hi = ((n.toNat * 1000000 / 18446744073709551616 : Nat) : Int) := ⟨_, rfl⟩
      obtain ⟨lo, hlo⟩ : ∃ lo : Int, lo = ((n.toNat * 1000000 % 18446744073709551616 : Nat) : Int) := ⟨_, rfl⟩
      have HM : Hid (∀ W, Calls Try.prog 41 #[.int .u64 n, .int .u64 1000000] W fun e w' => e = .returned (.tuple #[.int .u64 hi, .int .u64 lo]) ∧ W = w') := by
        apply Lib.hid; intro W
        have := mul64_any n.toNat 1000000 (by omega) (by omega) W
        rw [← hhi, ← hlo, Int.toNat_of_nonneg h00] at this
        exact this
      have HR : Hid (∀ W, Calls Try.prog 47 #[.int .u64 hi, .int .u64 lo] W fun e w' => e = .returned (.int .u64 (Fx.rt (n.toNat * 1000000) : Int)) ∧ W = w') :=
        Lib.hid fun W => root_any (n.toNat * 1000000) (Lib.hid hT) hi lo (Lib.hid hhi) (Lib.hid hlo) W
      have hrt := (Fx.rt_is hT).low
      have hrb : Fx.rt (n.toNat * 1000000) ≤ 2199023255552 := by
        apply Nat.le_of_not_lt
        intro hh
        have := Nat.mul_le_mul (Nat.le_of_lt hh) (Nat.le_of_lt hh)
        omega
      show Calls _ _ _ _ fun e w' => e = .returned (.agg #[.bool (Fx.of (Fx.rt (n.toNat * 1000000) : Int)).ok, .int .i64 (Fx.of (Fx.rt (n.toNat * 1000000) : Int)).n]) ∧ Below w.heap.size w w'
      obtain ⟨R, hR⟩ : ∃ R : Int, R = (Fx.rt (n.toNat * 1000000) : Int) := ⟨_, rfl⟩
      have R0 : 0 ≤ R := by omega
      have R1 : R ≤ 2199023255552 := by omega
      rw [← hR] at HR ⊢
      clear hR hrb hrt hhi hlo hN hT h0
      go_enter Try.func33, Try.ntmps33
      go_wp2_with first | (go_at_call 38; go_must (refine (isNumber_any _ _ _).mono ?_; rintro e w' ⟨rfl, hb⟩; obtain ⟨hc, hf⟩ := bcell hb; (try have hz0 : w.heap.size < w'.heap.size := Nat.lt_of_lt_of_le (by first | assumption | (simp; done) | (simp; omega)) hb.size); (try have hz1 : w.heap.size + 1 < w'.heap.size := Nat.lt_of_lt_of_le (by first | assumption | (simp; done) | (simp; omega)) hb.size); (try have hz2 : w.heap.size + 1 + 1 < w'.heap.size := Nat.lt_of_lt_of_le (by first | assumption | (simp; done) | (simp; omega)) hb.size); have hz := hb.size; (try simp at hz))) | (go_at_call 41; go_must (refine (HM.out _).mono ?_; rintro e w' ⟨rfl, rfl⟩)) | (go_at_call 47; go_must (refine (HR.out _).mono ?_; rintro e w' ⟨rfl, rfl⟩)) | (go_at_call 12; go_must (refine (of_any _ _).mono ?_; rintro e w' ⟨rfl, hb⟩; obtain ⟨hc, hf⟩ := bcell hb; (try have hz0 : w.heap.size < w'.heap.size := Nat.lt_of_lt_of_le (by first | assumption | (simp; done) | (simp; omega)) hb.size); (try have hz1 : w.heap.size + 1 < w'.heap.size := Nat.lt_of_lt_of_le (by first | assumption | (simp; done) | (simp; omega)) hb.size); (try have hz2 : w.heap.size + 1 + 1 < w'.heap.size := Nat.lt_of_lt_of_le (by first | assumption | (simp; done) | (simp; omega)) hb.size); have hz := hb.size; (try simp at hz)))
      exact bodyPost_ret (v := (.agg #[.bool (Fx.of R).ok, .int .i64 (Fx.of R).n])) (by simp [results, Try.results33, go_sem, *]) rfl ⟨rfl, (by repeat (first | exact Below.refl _ _ | assumption | refine Below.setCell ?_ (by first | (simp; done) | omega | (simp; omega) | (simp at *; omega)) _ | refine Below.alloc ?_ (by first | (simp; done) | omega | (simp; omega) | (simp at *; omega)) _ | refine Below.drew ?_ | (refine Below.trans ?_ (Below.mono (by assumption) (by first | (simp; done) | omega | (simp; omega) | (simp at *; omega)))) | (refine Below.trans ?_ (Below.mono (below_regrown _ _ _) (by first | (simp; done) | omega | (simp; omega) | (simp at *; omega))))))⟩

set_option maxHeartbeats 1000000 in
theorem refSqrt_any (b : Bool) (n : Int) (w : World) :
    Calls Try.prog 34 #[.agg #[.bool b, .int .i64 n]] w fun e w' => e = .returned (.agg #[.bool (Fx.sqrt ⟨b, n⟩).ok, .int .i64 (Fx.sqrt ⟨b, n⟩).n]) ∧ Below w.heap.size w w' := by
  cases h : Fx.num ⟨b, n⟩
  · rw [Fx.sqrt_no h]
    go_enter Try.func34, Try.ntmps34
    go_wp2_with (go_at_call 40; go_must (refine (known1_any _ _ _).mono ?_; rintro e w' ⟨rfl, hb⟩; obtain ⟨hc, hf⟩ := bcell hb; (try have hz0 : w.heap.size < w'.heap.size := Nat.lt_of_lt_of_le (by first | assumption | (simp; done) | (simp; omega)) hb.size); (try have hz1 : w.heap.size + 1 < w'.heap.size := Nat.lt_of_lt_of_le (by first | assumption | (simp; done) | (simp; omega)) hb.size); (try have hz2 : w.heap.size + 1 + 1 < w'.heap.size := Nat.lt_of_lt_of_le (by first | assumption | (simp; done) | (simp; omega)) hb.size); have hz := hb.size; (try simp at hz)))
    exact bodyPost_ret (v := .agg #[.bool false, .int .i64 0]) (by simp [results, Try.results34, go_sem, *]) rfl ⟨rfl, (by repeat (first | exact Below.refl _ _ | assumption | refine Below.setCell ?_ (by first | (simp; done) | omega | (simp; omega) | (simp at *; omega)) _ | refine Below.alloc ?_ (by first | (simp; done) | omega | (simp; omega) | (simp at *; omega)) _ | refine Below.drew ?_ | (refine Below.trans ?_ (Below.mono (by assumption) (by first | (simp; done) | omega | (simp; omega) | (simp at *; omega)))) | (refine Below.trans ?_ (Below.mono (below_regrown _ _ _) (by first | (simp; done) | omega | (simp; omega) | (simp at *; omega))))))⟩
  · obtain ⟨rfl, n1, n2⟩ := Fx.num_iff.1 h
    by_cases h0 : n < 0
    · rw [Fx.sqrt_neg h0]
      go_enter Try.func34, Try.ntmps34
      go_wp2_with (go_at_call 40; go_must (refine (known1_any _ _ _).mono ?_; rintro e w' ⟨rfl, hb⟩; obtain ⟨hc, hf⟩ := bcell hb; (try have hz0 : w.heap.size < w'.heap.size := Nat.lt_of_lt_of_le (by first | assumption | (simp; done) | (simp; omega)) hb.size); (try have hz1 : w.heap.size + 1 < w'.heap.size := Nat.lt_of_lt_of_le (by first | assumption | (simp; done) | (simp; omega)) hb.size); (try have hz2 : w.heap.size + 1 + 1 < w'.heap.size := Nat.lt_of_lt_of_le (by first | assumption | (simp; done) | (simp; omega)) hb.size); have hz := hb.size; (try simp at hz)))
      exact bodyPost_ret (v := .agg #[.bool false, .int .i64 0]) (by simp [results, Try.results34, go_sem, *]) rfl ⟨rfl, (by repeat (first | exact Below.refl _ _ | assumption | refine Below.setCell ?_ (by first | (simp; done) | omega | (simp; omega) | (simp at *; omega)) _ | refine Below.alloc ?_ (by first | (simp; done) | omega | (simp; omega) | (simp at *; omega)) _ | refine Below.drew ?_ | (refine Below.trans ?_ (Below.mono (by assumption) (by first | (simp; done) | omega | (simp; omega) | (simp at *; omega)))) | (refine Below.trans ?_ (Below.mono (below_regrown _ _ _) (by first | (simp; done) | omega | (simp; omega) | (simp at *; omega))))))⟩
    · rw [Fx.sqrt_yes h (by show 0 ≤ n; omega)]
      have h00 : 0 ≤ n := by omega
      obtain ⟨T, hTn⟩ : ∃ T, T = n.toNat * 1000000 := ⟨_, rfl⟩
      have hT : Hid (T < 4835703278458516698824704) := Lib.hid (by rw [hTn]; exact T_lt n2)
      obtain ⟨hi, hhi⟩ : ∃ hi : Int, hi = ((T / 18446744073709551616 : Nat) : Int) := ⟨_, rfl⟩
      obtain ⟨lo, hlo⟩ : ∃ lo : Int, lo = ((T % 18446744073709551616 : Nat) : Int) := ⟨_, rfl⟩
      have HT : Hid (∀ W, Calls Try.prog 44 #[.int .u64 n, .int .u64 1000000] W fun e w' => e = .returned (.tuple #[.int .u64 hi, .int .u64 lo]) ∧ W = w') := by
        apply Lib.hid; intro W
        have := times_any n.toNat 1000000 (by omega) (by omega) W
        rw [← hTn, ← hhi, ← hlo, Int.toNat_of_nonneg h00] at this
        exact this
      have hrt := (Fx.rt_is hT.out).low
      have hrb : Fx.rt T ≤ 2199023255552 := by
        have := hT.out
        apply Nat.le_of_not_lt
        intro hh
        have := Nat.mul_le_mul (Nat.le_of_lt hh) (Nat.le_of_lt hh)
        omega
      show Calls _ _ _ _ fun e w' => e = .returned (.agg #[.bool (Fx.of (Fx.rt (n.toNat * 1000000) : Int)).ok, .int .i64 (Fx.of (Fx.rt (n.toNat * 1000000) : Int)).n]) ∧ Below w.heap.size w w'
      rw [← hTn]
      obtain ⟨R, hR⟩ : ∃ R : Int, R = (Fx.rt T : Int) := ⟨_, rfl⟩
      have R0 : 0 ≤ R := by omega
      have R1 : R ≤ 2199023255552 := by omega
      rw [← hR]
      have HRT := Lib.hid hR
      replace hhi := Lib.hid hhi
      replace hlo := Lib.hid hlo
      clear hR hrb hrt h0 hTn
      go_enter Try.func34, Try.ntmps34
      go_wp2_with first | (go_at_call 40; go_must (refine (known1_any _ _ _).mono ?_; rintro e w' ⟨rfl, hb⟩; obtain ⟨hc, hf⟩ := bcell hb; (try have hz0 : w.heap.size < w'.heap.size := Nat.lt_of_lt_of_le (by first | assumption | (simp; done) | (simp; omega)) hb.size); (try have hz1 : w.heap.size + 1 < w'.heap.size := Nat.lt_of_lt_of_le (by first | assumption | (simp; done) | (simp; omega)) hb.size); (try have hz2 : w.heap.size + 1 + 1 < w'.heap.size := Nat.lt_of_lt_of_le (by first | assumption | (simp; done) | (simp; omega)) hb.size); have hz := hb.size; (try simp at hz))) | (go_at_call 44; go_must (refine (HT.out _).mono ?_; rintro e w' ⟨rfl, rfl⟩))
      go_loop [5, 6] (fun n i => ∃ (k m : Nat), Fx.Rt T k m ∧ n = .int .u64 m ∧ i = .int .i64 ((k : Int) - 1) ∧ k ≤ 42) (fun _ i => (intOf i + 1).toNat)
      case atStart => exact ⟨42, 0, Fx.rt_start T 42 (Nat.lt_of_lt_of_le hT.out (by decide)), rfl, rfl, by omega⟩
      case round =>
        obtain ⟨k, m, hR, rfl, rfl, hk⟩ := hrel
        cases k with
        | zero =>
          have he := Lib.hid (Fx.rt_eq hT.out (Fx.rt_done hR))
          clear hR
          obtain ⟨r, hr⟩ : ∃ r : Int, r = (m : Int) := ⟨_, rfl⟩
          obtain rfl : R = r := by rw [HRT.out, hr, he.out]
          rw [← hr]
          clear he hr
          go_wp2_with (go_at_call 13; go_must (refine (refOf_any _ _).mono ?_; rintro e w' ⟨rfl, hb⟩; obtain ⟨hc, hf⟩ := bcell hb; (try have hz0 : w.heap.size < w'.heap.size := Nat.lt_of_lt_of_le (by first | assumption | (simp; done) | (simp; omega)) hb.size); (try have hz1 : w.heap.size + 1 < w'.heap.size := Nat.lt_of_lt_of_le (by first | assumption | (simp; done) | (simp; omega)) hb.size); (try have hz2 : w.heap.size + 1 + 1 < w'.heap.size := Nat.lt_of_lt_of_le (by first | assumption | (simp; done) | (simp; omega)) hb.size); have hz := hb.size; (try simp at hz)))
          exact bodyPost_ret (v := (.agg #[.bool (Fx.of R).ok, .int .i64 (Fx.of R).n])) (by simp [results, Try.results34, go_sem, *]) rfl ⟨rfl, (by repeat (first | exact Below.refl _ _ | assumption | refine Below.setCell ?_ (by first | (simp; done) | omega | (simp; omega) | (simp at *; omega)) _ | refine Below.alloc ?_ (by first | (simp; done) | omega | (simp; omega) | (simp at *; omega)) _ | refine Below.drew ?_ | (refine Below.trans ?_ (Below.mono (by assumption) (by first | (simp; done) | omega | (simp; omega) | (simp at *; omega)))) | (refine Below.trans ?_ (Below.mono (below_regrown _ _ _) (by first | (simp; done) | omega | (simp; omega) | (simp at *; omega))))))⟩
        | succ k =>
          have hk2 : ((k + 1 : Nat) : Int) - 1 = (k : Int) := by omega
          rw [hk2]
          have hkb : k ≤ 63 := by omega
          have hp1 : 2 ^ k ≤ 2 ^ 41 := Nat.pow_le_pow_right (by decide) (by omega)
          have hml := Fx.rt_lt hR hT.out
          obtain ⟨p, hp⟩ : ∃ p : Nat, p = 2 ^ k := ⟨_, rfl⟩
          have e1 : IntKind.u64.wrap (2 ^ k) = (p : Int) := by
            have := castPow 1 k
            rw [Int.natCast_one, Int.one_mul, Nat.one_mul] at this
            rw [this, hp, wrapN _ (by omega)]
          obtain ⟨mo, hmo⟩ : ∃ mo : Int, mo = ((m + 2 ^ k : Nat) : Int) := ⟨_, rfl⟩
          have e2 : bits .or .u64 (m : Int) (p : Int) = mo := by
            rw [hmo, orN _ _ (by omega) (by rw [hp]; omega), hp, Fx.rt_or hR]
          obtain ⟨h, hh⟩ : ∃ h : Int, h = (((m + 2 ^ k) * (m + 2 ^ k) / 18446744073709551616 : Nat) : Int) := ⟨_, rfl⟩
          obtain ⟨l, hl⟩ : ∃ l : Int, l = (((m + 2 ^ k) * (m + 2 ^ k) % 18446744073709551616 : Nat) : Int) := ⟨_, rfl⟩
          have HM : Hid (∀ W, Calls Try.prog 44 #[.int .u64 mo, .int .u64 mo] W fun e w' => e = .returned (.tuple #[.int .u64 h, .int .u64 l]) ∧ W = w') := by
            apply Lib.hid; intro W; rw [hmo, hh, hl]; exact times_any (m + 2 ^ k) (m + 2 ^ k) (by omega) (by omega) W
          have HCMP : Hid ((h < hi ∨ (h = hi ∧ l ≤ lo)) ↔ (m + 2 ^ k) * (m + 2 ^ k) ≤ T) := by
            apply Lib.hid
            have := Fx.words_le _ _ _ _ _ _ (Fx.whole ((m + 2 ^ k) * (m + 2 ^ k))).symm (Fx.whole T).symm (Nat.mod_lt _ (by decide)) (Nat.mod_lt _ (by decide))
            rw [← this, hh, hl, hhi.out, hlo.out]
            constructor
            · rintro (h1 | ⟨h1, h2⟩)
              · exact .inl (by omega)
              · exact .inr ⟨by omega, by omega⟩
            · rintro (h1 | ⟨h1, h2⟩)
              · exact .inl (by omega)
              · exact .inr ⟨by omega, by omega⟩
          have HMO := Lib.hid hmo
          clear hmo hh hl hp hp1 hml
          rename Hid (mo = _) => hmo
          have HR := Lib.hid hR
          clear hR
          by_cases c1 : h < hi
          · go_wp2_with fail
            (go_at_call 44; go_must (refine (HM.out _).mono ?_; rintro e w' ⟨rfl, rfl⟩))
            go_wp2
            go_round
            case rel => exact ⟨k, m + 2 ^ k, Fx.rt_yes HR.out (HCMP.out.1 (.inl c1)), congrArg (Value.int .u64) hmo.out, rfl, by omega⟩
            case measure => simp [intOf]
          · by_cases c2 : h = hi
            · subst c2
              by_cases c3 : l ≤ lo
              · go_wp2_with fail
                (go_at_call 44; go_must (refine (HM.out _).mono ?_; rintro e w' ⟨rfl, rfl⟩))
                go_wp2
                go_round
                case rel => exact ⟨k, m + 2 ^ k, Fx.rt_yes HR.out (HCMP.out.1 (.inr ⟨by trivial, c3⟩)), congrArg (Value.int .u64) hmo.out, rfl, by omega⟩
                case measure => simp [intOf]
              · go_wp2_with fail
                (go_at_call 44; go_must (refine (HM.out _).mono ?_; rintro e w' ⟨rfl, rfl⟩))
                go_wp2
                go_round
                case rel => exact ⟨k, m, Fx.rt_no HR.out (Nat.lt_of_not_le fun hh => by have := HCMP.out.2 hh; omega), rfl, rfl, by omega⟩
                case measure => simp [intOf]
            · have c4 : (h == hi) = false := by simp [c2]
              have C2 := Lib.hid c2
              have HC2 : Hid (¬ (h < hi ∨ (h = hi ∧ l ≤ lo))) := Lib.hid (by rintro (h1 | ⟨h1, _⟩); exact c1 h1; exact c2 h1)
              clear c2 C2
              go_wp2_with fail
              (go_at_call 44; go_must (refine (HM.out _).mono ?_; rintro e w' ⟨rfl, rfl⟩))
              go_wp2
              go_round
              case rel => exact ⟨k, m, Fx.rt_no HR.out (Nat.lt_of_not_le fun hh => HC2.out (HCMP.out.2 hh)), rfl, rfl, by omega⟩
              case measure => simp [intOf]
end Go.Proofs.Ytafgjenhfoijlaa
