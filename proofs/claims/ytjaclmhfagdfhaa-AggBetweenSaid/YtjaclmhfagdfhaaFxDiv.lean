/-
  CONTRACT: the library's division of two words by one.
-/
import Derived.Test.YtjaclmhfagdfhaaFxBits
import Derived.Test.YtjaclmhfagdfhaaFxDivPure
namespace Go.Proofs.Ytjaclmhfagdfhaa
open Go.RowKit

theorem ret2_u64 {a b c d : Int} (h : a = c) (k : b = d) : Ending.returned (.tuple #[.int .u64 a, .int .u64 b]) = .returned (.tuple #[.int .u64 c, .int .u64 d]) := by rw [h, k]
theorem below_drewN (B : Nat) (w : World) (n : Nat) : Below B w (w.drewN n) := ⟨rfl, rfl, rfl, Nat.le_refl _, fun _ _ => rfl⟩

set_option maxHeartbeats 400000 in
/-- The upper word is 0. -/
theorem div64_low (lo y : Nat) (hlo : lo < 18446744073709551616) (hy : y < 18446744073709551616) (h0 : 0 < y) (w : World) :
    Calls Try.prog 53 #[.int .u64 0, .int .u64 lo, .int .u64 y] w fun e w' => e = .returned (.tuple #[.int .u64 ((lo / y : Nat) : Int), .int .u64 ((lo % y : Nat) : Int)]) ∧ Below w.heap.size w w' := by
  have hy0 : ((y : Int) == 0) = false := by simp; omega
  go_enter Try.func53, Try.ntmps53
  go_wp2_with fail
  go_quiet (fail)
  go_wp2
  ((try simp only [Exit.inBlock, Exit.then]); refine bodyPost_ret (results_tmp2 rfl _ _ _) rfl ?_)
  exact ⟨ret2_u64 (by rw [← Int.natCast_ediv, wrapN _ (Nat.lt_of_le_of_lt (Nat.div_le_self _ _) hlo)]) (by rw [Int.natCast_emod]), below_drewN _ _ _⟩

theorem quoN (u n : Nat) (hu : u < 18446744073709551616) : IntKind.u64.wrap ((u : Int) / (n : Int)) = ((u / n : Nat) : Int) := by
  rw [← Int.natCast_ediv, wrapN _ (Nat.lt_of_le_of_lt (Nat.div_le_self _ _) hu)]
theorem quoN' (u n : Nat) : ((u : Int) / (n : Int)) = ((u / n : Nat) : Int) := by rw [← Int.natCast_ediv]
theorem remN_aux (u n : Nat) : (u : Int) - ((u / n : Nat) : Int) * (n : Int) = ((u % n : Nat) : Int) := by
  have h := Nat.div_add_mod u n
  rw [Nat.mul_comm] at h
  rw [mulN]
  generalize u / n * n = x at *
  omega
theorem remN (u n : Nat) (hu : u < 18446744073709551616) : IntKind.u64.wrap ((u : Int) - IntKind.u64.wrap (IntKind.u64.wrap ((u : Int) / (n : Int)) * (n : Int))) = ((u % n : Nat) : Int) := by
  have hm : u % n ≤ u := Nat.mod_le _ _
  have hd : u / n * n ≤ u := Nat.div_mul_le_self _ _
  rw [quoN u n hu, mulN, wrapN _ (by omega), ← mulN, remN_aux, wrapN _ (by omega)]
theorem remN' (u n : Nat) (hu : u < 18446744073709551616) : IntKind.u64.wrap ((u : Int) - IntKind.u64.wrap ((u : Int) / (n : Int) * (n : Int))) = ((u % n : Nat) : Int) := by
  have hm : u % n ≤ u := Nat.mod_le _ _
  have hd : u / n * n ≤ u := Nat.div_mul_le_self _ _
  rw [quoN' u n, mulN, wrapN _ (by omega), ← mulN, remN_aux, wrapN _ (by omega)]

set_option maxHeartbeats 4000000 in
set_option maxRecDepth 100000 in
theorem div64_core (hi lo y s Y U L n1 n0 l1 l0 Q1 r1 Q0 r0 : Nat) (hh : hi < y) (h0 : 0 < hi) (hs : s ≤ 63)
    (HC : Hid (∀ W, Calls Try.prog 55 #[.int .u64 y] W fun e w' => e = .returned (.int .i64 s) ∧ W = w'))
    (e1 : IntKind.u64.wrap ((y : Int) * 2 ^ s) = Y) (e2 : bits .or .u64 (IntKind.u64.wrap ((hi : Int) * 2 ^ s)) ((lo : Int) / 2 ^ (64 - s)) = U)
    (e3 : IntKind.u64.wrap ((lo : Int) * 2 ^ s) = L) (e4 : (Y : Int) / 4294967296 = n1) (e5 : bits .and .u64 Y 4294967295 = n0)
    (e6 : (L : Int) / 4294967296 = l1) (e7 : bits .and .u64 L 4294967295 = l0)
    (e8 : IntKind.u64.wrap (IntKind.u64.wrap (IntKind.u64.wrap ((U : Int) * 4294967296) + (l1 : Int)) - IntKind.u64.wrap ((Q1 : Int) * (Y : Int))) = r1)
    (e9 : IntKind.u64.wrap (IntKind.u64.wrap (IntKind.u64.wrap ((r1 : Int) * 4294967296) + (l0 : Int)) - IntKind.u64.wrap ((Q0 : Int) * (Y : Int))) = r0)
    (b1 : 2147483648 ≤ n1) (b2 : n1 < 4294967296) (b3 : n0 < 4294967296) (b4 : l1 < 4294967296) (b5 : l0 < 4294967296) (b6 : U < 18446744073709551616) (b7 : r1 < 18446744073709551616)
    (b8 : Q1 < 4294967296) (b9 : Q0 < 4294967296) (hU : Hid (U < n1 * 4294967296 + n0)) (hr1 : Hid (r1 < n1 * 4294967296 + n0))
    (HQ1 : Hid (Q1 = (U * 4294967296 + l1) / (n1 * 4294967296 + n0))) (HQ0 : Hid (Q0 = (r1 * 4294967296 + l0) / (n1 * 4294967296 + n0)))
    (w : World) :
    Calls Try.prog 53 #[.int .u64 hi, .int .u64 lo, .int .u64 y] w fun e w' => e = .returned (.tuple #[.int .u64 ((Q1 * 4294967296 + Q0 : Nat) : Int), .int .u64 ((r0 / 2 ^ s : Nat) : Int)]) ∧ Below w.heap.size w w' := by
  have hy0 : ((y : Int) == 0) = false := by simp; omega
  have hh0 : ((hi : Int) == 0) = false := by simp; omega
  go_enter Try.func53, Try.ntmps53
  go_wp2_with (go_at_call 55; go_must (refine (HC.out _).mono ?_; rintro e w' ⟨rfl, rfl⟩))
  go_loop [15, 16] (fun x z => ∃ a b : Int, Dv.InvI n1 n0 U l1 a b ∧ x = .int .u64 a ∧ z = .int .u64 b) (fun x _ => (intOf x).toNat)
  case atStart => exact ⟨_, _, Dv.startI b1 b2 b3 hU.out b4, by (first | exact congrArg (Value.int .u64) (quoN U n1 b6) | exact congrArg (Value.int .u64) (quoN' U n1)), by first | exact congrArg (Value.int .u64) (remN U n1 b6) | exact congrArg (Value.int .u64) (remN' U n1 b6)⟩
  case round =>
    obtain ⟨a, b, hI, rfl, rfl⟩ := hrel
    clear e1 e2 e3 e4 e5 e6 e7 hy0 hh0
    obtain ⟨i1, i2, i3, i4⟩ := Dv.boundsI hI
    have HI := Lib.hid hI
    clear hI
    by_cases hA : 4294967296 ≤ a
    · by_cases hC : 4294967296 ≤ b + (n1 : Int)
      · obtain rfl := Dv.breakI b1 b3 hU.out b4 HQ1.out HI.out (.inl hA) hC
        clear HI i1 i2
        go_wp2
        go_loop [18, 16] (fun x z => ∃ a b : Int, Dv.InvI n1 n0 r1 l0 a b ∧ x = .int .u64 a ∧ z = .int .u64 b) (fun x _ => (intOf x).toNat)
        case atStart => exact ⟨_, _, Dv.startI b1 b2 b3 hr1.out b5, by (first | exact congrArg (Value.int .u64) (quoN r1 n1 b7) | exact congrArg (Value.int .u64) (quoN' r1 n1)), by first | exact congrArg (Value.int .u64) (remN r1 n1 b7) | exact congrArg (Value.int .u64) (remN' r1 n1 b7)⟩
        case round =>
          obtain ⟨a, b, hI, rfl, rfl⟩ := hrel
          skip
          obtain ⟨i1, i2, i3, i4⟩ := Dv.boundsI hI
          have HI := Lib.hid hI
          clear hI
          by_cases hA : 4294967296 ≤ a
          · by_cases hC : 4294967296 ≤ b + (n1 : Int)
            · obtain rfl := Dv.breakI b1 b3 hr1.out b5 HQ0.out HI.out (.inl hA) hC
              clear HI i1 i2
              go_wp2
              ((try simp only [Exit.inBlock, Exit.then]); refine bodyPost_ret (results_tmp2 rfl _ _ _) rfl ?_)
              exact ⟨rfl, Below.refl _ _⟩
            · obtain ⟨h1a, hI2⟩ := Dv.stepI b1 hr1.out b5 HI.out (.inl hA) (by omega)
              have HI2 := Lib.hid hI2
              clear hI2 HI
              go_wp2
              go_round
              case rel => exact ⟨_, _, HI2.out, rfl, rfl⟩
              case measure => simp [intOf]; omega
          · obtain ⟨P, eP, bP1, bP2⟩ := Dv.prodI i1 (show a ≤ 4294967295 by omega) b3
            by_cases hT : 4294967296 * b + (l0 : Int) < P
            · by_cases hC : 4294967296 ≤ b + (n1 : Int)
              · obtain rfl := Dv.breakI b1 b3 hr1.out b5 HQ0.out HI.out (.inr (by rw [eP]; exact hT)) hC
                clear HI i1 i2
                go_wp2
                ((try simp only [Exit.inBlock, Exit.then]); refine bodyPost_ret (results_tmp2 rfl _ _ _) rfl ?_)
                exact ⟨rfl, Below.refl _ _⟩
              · obtain ⟨h1a, hI2⟩ := Dv.stepI b1 hr1.out b5 HI.out (.inr (by rw [eP]; exact hT)) (by omega)
                have HI2 := Lib.hid hI2
                clear hI2 HI
                go_wp2
                go_round
                case rel => exact ⟨_, _, HI2.out, rfl, rfl⟩
                case measure => simp [intOf]; omega
            · obtain rfl := Dv.doneI b1 b3 HQ0.out HI.out (by rw [eP]; omega)
              clear HI i1 i2
              go_wp2
              ((try simp only [Exit.inBlock, Exit.then]); refine bodyPost_ret (results_tmp2 rfl _ _ _) rfl ?_)
              exact ⟨rfl, Below.refl _ _⟩
      · obtain ⟨h1a, hI2⟩ := Dv.stepI b1 hU.out b4 HI.out (.inl hA) (by omega)
        have HI2 := Lib.hid hI2
        clear hI2 HI
        go_wp2
        go_round
        case rel => exact ⟨_, _, HI2.out, rfl, rfl⟩
        case measure => simp [intOf]; omega
    · obtain ⟨P, eP, bP1, bP2⟩ := Dv.prodI i1 (show a ≤ 4294967295 by omega) b3
      by_cases hT : 4294967296 * b + (l1 : Int) < P
      · by_cases hC : 4294967296 ≤ b + (n1 : Int)
        · obtain rfl := Dv.breakI b1 b3 hU.out b4 HQ1.out HI.out (.inr (by rw [eP]; exact hT)) hC
          clear HI i1 i2
          go_wp2
          go_loop [18, 16] (fun x z => ∃ a b : Int, Dv.InvI n1 n0 r1 l0 a b ∧ x = .int .u64 a ∧ z = .int .u64 b) (fun x _ => (intOf x).toNat)
          case atStart => exact ⟨_, _, Dv.startI b1 b2 b3 hr1.out b5, by (first | exact congrArg (Value.int .u64) (quoN r1 n1 b7) | exact congrArg (Value.int .u64) (quoN' r1 n1)), by first | exact congrArg (Value.int .u64) (remN r1 n1 b7) | exact congrArg (Value.int .u64) (remN' r1 n1 b7)⟩
          case round =>
            obtain ⟨a, b, hI, rfl, rfl⟩ := hrel
            skip
            obtain ⟨i1, i2, i3, i4⟩ := Dv.boundsI hI
            have HI := Lib.hid hI
            clear hI
            by_cases hA : 4294967296 ≤ a
            · by_cases hC : 4294967296 ≤ b + (n1 : Int)
              · obtain rfl := Dv.breakI b1 b3 hr1.out b5 HQ0.out HI.out (.inl hA) hC
                clear HI i1 i2
                go_wp2
                ((try simp only [Exit.inBlock, Exit.then]); refine bodyPost_ret (results_tmp2 rfl _ _ _) rfl ?_)
                exact ⟨rfl, Below.refl _ _⟩
              · obtain ⟨h1a, hI2⟩ := Dv.stepI b1 hr1.out b5 HI.out (.inl hA) (by omega)
                have HI2 := Lib.hid hI2
                clear hI2 HI
                go_wp2
                go_round
                case rel => exact ⟨_, _, HI2.out, rfl, rfl⟩
                case measure => simp [intOf]; omega
            · obtain ⟨P, eP, bP1, bP2⟩ := Dv.prodI i1 (show a ≤ 4294967295 by omega) b3
              by_cases hT : 4294967296 * b + (l0 : Int) < P
              · by_cases hC : 4294967296 ≤ b + (n1 : Int)
                · obtain rfl := Dv.breakI b1 b3 hr1.out b5 HQ0.out HI.out (.inr (by rw [eP]; exact hT)) hC
                  clear HI i1 i2
                  go_wp2
                  ((try simp only [Exit.inBlock, Exit.then]); refine bodyPost_ret (results_tmp2 rfl _ _ _) rfl ?_)
                  exact ⟨rfl, Below.refl _ _⟩
                · obtain ⟨h1a, hI2⟩ := Dv.stepI b1 hr1.out b5 HI.out (.inr (by rw [eP]; exact hT)) (by omega)
                  have HI2 := Lib.hid hI2
                  clear hI2 HI
                  go_wp2
                  go_round
                  case rel => exact ⟨_, _, HI2.out, rfl, rfl⟩
                  case measure => simp [intOf]; omega
              · obtain rfl := Dv.doneI b1 b3 HQ0.out HI.out (by rw [eP]; omega)
                clear HI i1 i2
                go_wp2
                ((try simp only [Exit.inBlock, Exit.then]); refine bodyPost_ret (results_tmp2 rfl _ _ _) rfl ?_)
                exact ⟨rfl, Below.refl _ _⟩
        · obtain ⟨h1a, hI2⟩ := Dv.stepI b1 hU.out b4 HI.out (.inr (by rw [eP]; exact hT)) (by omega)
          have HI2 := Lib.hid hI2
          clear hI2 HI
          go_wp2
          go_round
          case rel => exact ⟨_, _, HI2.out, rfl, rfl⟩
          case measure => simp [intOf]; omega
      · obtain rfl := Dv.doneI b1 b3 HQ1.out HI.out (by rw [eP]; omega)
        clear HI i1 i2
        go_wp2
        go_loop [18, 16] (fun x z => ∃ a b : Int, Dv.InvI n1 n0 r1 l0 a b ∧ x = .int .u64 a ∧ z = .int .u64 b) (fun x _ => (intOf x).toNat)
        case atStart => exact ⟨_, _, Dv.startI b1 b2 b3 hr1.out b5, by (first | exact congrArg (Value.int .u64) (quoN r1 n1 b7) | exact congrArg (Value.int .u64) (quoN' r1 n1)), by first | exact congrArg (Value.int .u64) (remN r1 n1 b7) | exact congrArg (Value.int .u64) (remN' r1 n1 b7)⟩
        case round =>
          obtain ⟨a, b, hI, rfl, rfl⟩ := hrel
          skip
          obtain ⟨i1, i2, i3, i4⟩ := Dv.boundsI hI
          have HI := Lib.hid hI
          clear hI
          by_cases hA : 4294967296 ≤ a
          · by_cases hC : 4294967296 ≤ b + (n1 : Int)
            · obtain rfl := Dv.breakI b1 b3 hr1.out b5 HQ0.out HI.out (.inl hA) hC
              clear HI i1 i2
              go_wp2
              ((try simp only [Exit.inBlock, Exit.then]); refine bodyPost_ret (results_tmp2 rfl _ _ _) rfl ?_)
              exact ⟨rfl, Below.refl _ _⟩
            · obtain ⟨h1a, hI2⟩ := Dv.stepI b1 hr1.out b5 HI.out (.inl hA) (by omega)
              have HI2 := Lib.hid hI2
              clear hI2 HI
              go_wp2
              go_round
              case rel => exact ⟨_, _, HI2.out, rfl, rfl⟩
              case measure => simp [intOf]; omega
          · obtain ⟨P, eP, bP1, bP2⟩ := Dv.prodI i1 (show a ≤ 4294967295 by omega) b3
            by_cases hT : 4294967296 * b + (l0 : Int) < P
            · by_cases hC : 4294967296 ≤ b + (n1 : Int)
              · obtain rfl := Dv.breakI b1 b3 hr1.out b5 HQ0.out HI.out (.inr (by rw [eP]; exact hT)) hC
                clear HI i1 i2
                go_wp2
                ((try simp only [Exit.inBlock, Exit.then]); refine bodyPost_ret (results_tmp2 rfl _ _ _) rfl ?_)
                exact ⟨rfl, Below.refl _ _⟩
              · obtain ⟨h1a, hI2⟩ := Dv.stepI b1 hr1.out b5 HI.out (.inr (by rw [eP]; exact hT)) (by omega)
                have HI2 := Lib.hid hI2
                clear hI2 HI
                go_wp2
                go_round
                case rel => exact ⟨_, _, HI2.out, rfl, rfl⟩
                case measure => simp [intOf]; omega
            · obtain rfl := Dv.doneI b1 b3 HQ0.out HI.out (by rw [eP]; omega)
              clear HI i1 i2
              go_wp2
              ((try simp only [Exit.inBlock, Exit.then]); refine bodyPost_ret (results_tmp2 rfl _ _ _) rfl ?_)
              exact ⟨rfl, Below.refl _ _⟩

theorem restN (N x r : Nat) (U l : Nat) (hN : N = U * 4294967296 + l) (hx : x + r = N) (hr : r < 18446744073709551616) :
    IntKind.u64.wrap (IntKind.u64.wrap (IntKind.u64.wrap ((U : Int) * 4294967296) + (l : Int)) - IntKind.u64.wrap (x : Int)) = r := by
  simp only [IntKind.wrap_u64]
  omega
theorem digits_join (U L : Nat) : (U * 4294967296 + L / 4294967296) * 4294967296 + L % 4294967296 = U * 18446744073709551616 + L := by omega
theorem digits_of (Y : Nat) : Y / 4294967296 * 4294967296 + Y % 4294967296 = Y := by omega
theorem digit_top (Y : Nat) (h : 9223372036854775808 ≤ Y) : 2147483648 ≤ Y / 4294967296 := by omega
theorem digit_high (Y : Nat) (h : Y < 18446744073709551616) : Y / 4294967296 < 4294967296 := by omega
theorem castPow (a s : Nat) : (a : Int) * 2 ^ s = ((a * 2 ^ s : Nat) : Int) := by
  rw [Int.natCast_mul, Int.natCast_pow]; first | done | rfl
theorem castPowDiv (a s : Nat) : (a : Int) / 2 ^ s = ((a / 2 ^ s : Nat) : Int) := by
  rw [Int.natCast_ediv, Int.natCast_pow]; first | done | rfl

theorem div64_high (hi lo y : Nat) (hlo : lo < 18446744073709551616) (hy : y < 18446744073709551616) (h0 : 0 < hi) (hh : hi < y) (w : World) :
    Calls Try.prog 53 #[.int .u64 hi, .int .u64 lo, .int .u64 y] w fun e w' => e = .returned (.tuple #[.int .u64 (((hi * 18446744073709551616 + lo) / y : Nat) : Int), .int .u64 (((hi * 18446744073709551616 + lo) % y : Nat) : Int)]) ∧ Below w.heap.size w w' := by
  obtain ⟨k, hk, y1, y2⟩ := bitLen_bounds 64 y (by omega) (by omega)
  have hk63 : k ≤ 63 := by
    have := Lib.bitLen_le y 64 (by omega) (by omega)
    unfold Lib.bitLen at this
    omega
  obtain ⟨s, hs⟩ : ∃ s, s = 64 - Lib.bitLen y := ⟨_, rfl⟩
  have hsk : s = 63 - k := by rw [hs]; unfold Lib.bitLen; omega
  have HC : Hid (∀ W, Calls Try.prog 55 #[.int .u64 y] W fun e w' => e = .returned (.int .i64 s) ∧ W = w') := by
    apply Lib.hid; intro W; rw [hs]; exact leadingZeros_any y hy W
  obtain ⟨S, hS⟩ : ∃ S, S = 2 ^ s := ⟨_, rfl⟩
  obtain ⟨T, hT⟩ : ∃ T, T = 2 ^ (64 - s) := ⟨_, rfl⟩
  have hST : S * T = 18446744073709551616 := by
    rw [hS, hT, ← Nat.pow_add, show s + (64 - s) = 64 by omega]
  have hSpos : 0 < S := by rw [hS]; exact Nat.pos_of_ne_zero (by simp)
  have hYlow : 9223372036854775808 ≤ y * S := by
    have h := Nat.mul_le_mul_right S y1
    rw [hS, hsk, ← Nat.pow_add, show k + (63 - k) = 63 by omega] at h
    rw [hS, hsk]
    exact h
  have hYhigh : y * S < 18446744073709551616 := by
    have h := Nat.mul_lt_mul_of_pos_right y2 hSpos
    rw [hS, hsk, ← Nat.pow_add, show k + 1 + (63 - k) = 64 by omega] at h
    rw [hS, hsk]
    exact h
  obtain ⟨hU, hT2⟩ := Dv.high_lt (lo := lo) hST hlo hh
  have hsh := Dv.shifted hi lo S T hST hSpos
  obtain ⟨c, hc⟩ : ∃ c, c = lo / T := ⟨_, rfl⟩
  rw [← hc] at hU hT2 hsh
  have hUhi : hi * S < 18446744073709551616 := Nat.lt_of_le_of_lt (Nat.le_add_right _ c) (Nat.lt_trans hU hYhigh)
  have hsc := Dv.scaled (hi * 18446744073709551616 + lo) y S hSpos
  have e1 : IntKind.u64.wrap ((y : Int) * 2 ^ s) = ((y * S : Nat) : Int) := by rw [castPow, ← hS, wrapN _ hYhigh]
  have e2 : bits .or .u64 (IntKind.u64.wrap ((hi : Int) * 2 ^ s)) ((lo : Int) / 2 ^ (64 - s)) = ((hi * S + c : Nat) : Int) := by
    have hc64 : c < 18446744073709551616 := by rw [hc]; exact Nat.lt_of_le_of_lt (Nat.div_le_self _ _) hlo
    rw [castPow, castPowDiv, ← hS, ← hT, ← hc, wrapN _ hUhi, orN _ _ hUhi hc64]
    have h := Nat.two_pow_add_eq_or_of_lt (i := s) (b := c) (by rw [← hS]; exact hT2) hi
    rw [← hS, Nat.mul_comm S hi] at h
    rw [← h]
  have e3 : IntKind.u64.wrap ((lo : Int) * 2 ^ s) = ((lo * S % 18446744073709551616 : Nat) : Int) := by rw [castPow, ← hS, wrapM]
  have hL : lo * S % 18446744073709551616 < 18446744073709551616 := Nat.mod_lt _ (by omega)
  generalize lo * S % 18446744073709551616 = L at *
  generalize hi * S + c = U at *
  obtain ⟨Y, hY⟩ : ∃ Y, Y = y * S := ⟨_, rfl⟩
  rw [← hY] at e1 hU hYlow hYhigh hsc
  have hYd := Nat.div_add_mod Y 4294967296
  have hLd := Nat.div_add_mod L 4294967296
  have hY2 := digits_of Y
  have hn1 := digit_top Y hYlow
  have hl1 := digit_high L hL
  have hL2 := digits_join U L
  have hYpos : 0 < Y := Nat.lt_of_lt_of_le (by decide) hYlow
  have ht := Dv.two' (U * 4294967296 + L / 4294967296) (L % 4294967296) Y hYpos
  rw [hL2, ← hsh] at ht
  have hr1 := Nat.mod_lt (U * 4294967296 + L / 4294967296) hYpos
  have hd1 := Nat.div_add_mod (U * 4294967296 + L / 4294967296) Y
  have hq1 := Dv.digit_lt (n1 := Y / 4294967296) (n0 := Y % 4294967296) (u := U) (t := L / 4294967296) hn1 (by rw [hY2]; exact hU) hl1
  rw [hY2] at hq1
  have hr0 := Nat.mod_lt ((U * 4294967296 + L / 4294967296) % Y * 4294967296 + L % 4294967296) hYpos
  have hd0 := Nat.div_add_mod ((U * 4294967296 + L / 4294967296) % Y * 4294967296 + L % 4294967296) Y
  have hq0 := Dv.digit_lt (n1 := Y / 4294967296) (n0 := Y % 4294967296) (u := (U * 4294967296 + L / 4294967296) % Y) (t := L % 4294967296) hn1 (by rw [hY2]; exact hr1) (Nat.mod_lt _ (by decide))
  rw [hY2] at hq0
  rw [← hsc.1, ← hsc.2, ht.1, ht.2]
  have HT := Lib.hid ht
  clear ht hsc hsh
  obtain ⟨Q1, hQ1⟩ : ∃ Q, Q = (U * 4294967296 + L / 4294967296) / Y := ⟨_, rfl⟩
  obtain ⟨r1, hR1⟩ : ∃ r, r = (U * 4294967296 + L / 4294967296) % Y := ⟨_, rfl⟩
  rw [← hQ1, ← hR1] at hd1
  rw [← hR1] at hd0 hq0 hr0 hr1
  rw [← hQ1] at hq1
  rw [← hQ1, ← hR1]
  obtain ⟨Q0, hQ0⟩ : ∃ Q, Q = (r1 * 4294967296 + L % 4294967296) / Y := ⟨_, rfl⟩
  obtain ⟨r0, hR0⟩ : ∃ r, r = (r1 * 4294967296 + L % 4294967296) % Y := ⟨_, rfl⟩
  rw [← hQ0, ← hR0] at hd0
  rw [← hR0] at hr0
  rw [← hQ0] at hq0
  rw [← hQ0, ← hR0, hS]
  refine div64_core hi lo y s Y U L (Y / 4294967296) (Y % 4294967296) (L / 4294967296) (L % 4294967296) Q1 r1 Q0 r0 hh h0 (by rw [hsk]; exact Nat.sub_le _ _) HC e1 e2 e3 (divN Y) (maskN Y hYhigh) (divN L) (maskN L hL)
    (by rw [mulN]; exact restN (U * 4294967296 + L / 4294967296) (Q1 * Y) r1 U (L / 4294967296) rfl (by rw [Nat.mul_comm]; exact hd1) (Nat.lt_trans hr1 hYhigh))
    (by rw [mulN]; exact restN (r1 * 4294967296 + L % 4294967296) (Q0 * Y) r0 r1 (L % 4294967296) rfl (by rw [Nat.mul_comm]; exact hd0) (Nat.lt_trans hr0 hYhigh))
    hn1 (digit_high Y hYhigh) (Nat.mod_lt _ (by decide)) hl1 (Nat.mod_lt _ (by decide)) (Nat.lt_trans hU hYhigh) (Nat.lt_trans hr1 hYhigh) hq1 hq0 (Lib.hid (by rw [hY2]; exact hU)) (Lib.hid (by rw [hY2]; exact hr1)) (Lib.hid (by rw [hY2]; exact hQ1)) (Lib.hid (by rw [hY2]; exact hQ0)) w

theorem div64_any (hi lo y : Nat) (hlo : lo < 18446744073709551616) (hy : y < 18446744073709551616) (hh : hi < y) (w : World) :
    Calls Try.prog 53 #[.int .u64 hi, .int .u64 lo, .int .u64 y] w fun e w' => e = .returned (.tuple #[.int .u64 (((hi * 18446744073709551616 + lo) / y : Nat) : Int), .int .u64 (((hi * 18446744073709551616 + lo) % y : Nat) : Int)]) ∧ Below w.heap.size w w' := by
  by_cases h : hi = 0
  · subst h
    rw [Nat.zero_mul, Nat.zero_add]
    exact div64_low lo y hlo hy hh w
  · exact div64_high hi lo y hlo hy (by omega) hh w
end Go.Proofs.Ytjaclmhfagdfhaa
