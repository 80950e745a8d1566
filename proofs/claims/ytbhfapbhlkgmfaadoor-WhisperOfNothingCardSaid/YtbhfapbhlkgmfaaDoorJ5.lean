/-
  FxDiv: CONTRACT: the library's division of two words by one.
  FxMd: CONTRACT: fixed.MulDiv.
  FxMul: CONTRACTS: fixed.Mul, fixed.Div; and what every law asks at its end.
  AgTg: CONTRACTS: values as one: agg's together, Of and Put.
  FxRm: CONTRACT: the document's MulDiv, bit by bit.
  FxRmul: CONTRACTS: the document's Mul and Div.
  AgRef: CONTRACTS: values as one: the document's Of and Put.
  AgLaw: CONTRACTS: the document's Put; what the laws of agg ask beside it: two rows alike, a mean of what is known.
  WpPa: CONTRACTS: chapter 7, the document's file: what was laid in an archive goes on to the next one.
  WpLa: CONTRACTS: chapter 7, the document's file: a point is laid, or passed over.
  WqPure: THE PLAIN STATE of chapter 7, as the program looks at it: a file that is there is its bytes; what is read of them and written there. No program is named here.
  WqEq: THE PLAIN STATE of chapter 7: the program's way to look at slots is the document's. No program is named here.
  WhDecY: CONTRACT: whead's Decode, every row of bytes.
  WhREnc: CONTRACT: the document's own Encode.
-/
import Derived.Test.YtbhfapbhlkgmfaaDoorJ4
import Derived.Test.YtbhfapbhlkgmfaaDoorJ3
import Derived.Deep.RegionWith
import Derived.Test.YtbhfapbhlkgmfaaDoorJ2

namespace Go.Proofs.YtbhfapbhlkgmfaaDoor
open Go.RowKit

theorem ret2_u64 {a b c d : Int} (h : a = c) (k : b = d) : Ending.returned (.tuple #[.int .u64 a, .int .u64 b]) = .returned (.tuple #[.int .u64 c, .int .u64 d]) := by rw [h, k]
theorem below_drewN (B : Nat) (w : World) (n : Nat) : Below B w (w.drewN n) := ⟨rfl, rfl, rfl, Nat.le_refl _, fun _ _ => rfl⟩

set_option maxHeartbeats 400000 in
/-- The upper word is 0. -/
theorem div64_low (lo y : Nat) (hlo : lo < 18446744073709551616) (hy : y < 18446744073709551616) (h0 : 0 < y) (w : World) :
    Calls Tryd.prog 103 #[.int .u64 0, .int .u64 lo, .int .u64 y] w fun e w' => e = .returned (.tuple #[.int .u64 ((lo / y : Nat) : Int), .int .u64 ((lo % y : Nat) : Int)]) ∧ Below w.heap.size w w' := by
  have hy0 : ((y : Int) == 0) = false := by simp; omega
  go_enter Tryd.func103, Tryd.ntmps103
  go_wp2_with fail
  go_quiet (fail)
  go_wp2
  ((try simp only [Exit.inBlock, Exit.then]); refine bodyPost_ret (results_tmp2 rfl _ _ _) rfl ?_)
  exact ⟨ret2_u64 (by rw [← Int.natCast_ediv, wrapN _ (Nat.lt_of_le_of_lt (Nat.div_le_self _ _) hlo)]) (by rw [Int.natCast_emod]), below_drewN _ _ _⟩

theorem quoN (u n : Nat) (hu : u < 18446744073709551616) : IntKind.u64.wrap ((u : Int) / (n : Int)) = ((u / n : Nat) : Int) := by
  rw [← Int.natCast_ediv, wrapN _ (Nat.lt_of_le_of_lt (Nat.div_le_self _ _) hu)]
theorem quoN' (u n : Nat) : ((u : Int) / (n : Int)) = ((u / n : Nat) : Int) := by rw [← Int.natCast_ediv]
theorem remN_aux (u n : Nat) : (u : Int) - ((u / n : Nat) : Int) * (n : Int) = ((u % n : Nat) : Int) := by
  have h := Nat.div_add_mod u n
  rw [Nat.mul_comm] at h
  rw [mulN]
  generalize u / n * n = x at *
  omega
theorem remN (u n : Nat) (hu : u < 18446744073709551616) : IntKind.u64.wrap ((u : Int) - IntKind.u64.wrap (IntKind.u64.wrap ((u : Int) / (n : Int)) * (n : Int))) = ((u % n : Nat) : Int) := by
  have hm : u % n ≤ u := Nat.mod_le _ _
  have hd : u / n * n ≤ u := Nat.div_mul_le_self _ _
  rw [quoN u n hu, mulN, wrapN _ (by omega), ← mulN, remN_aux, wrapN _ (by omega)]
theorem remN' (u n : Nat) (hu : u < 18446744073709551616) : IntKind.u64.wrap ((u : Int) - IntKind.u64.wrap ((u : Int) / (n : Int) * (n : Int))) = ((u % n : Nat) : Int) := by
  have hm : u % n ≤ u := Nat.mod_le _ _
  have hd : u / n * n ≤ u := Nat.div_mul_le_self _ _
  rw [quoN' u n, mulN, wrapN _ (by omega), ← mulN, remN_aux, wrapN _ (by omega)]

set_option maxHeartbeats 4000000 in
set_option maxRecDepth 100000 in
theorem div64_core (hi lo y s Y U L n1 n0 l1 l0 Q1 r1 Q0 r0 : Nat) (hh : hi < y) (h0 : 0 < hi) (hs : s ≤ 63)
    (HC : Hid (∀ W, Calls Tryd.prog 105 #[.int .u64 y] W fun e w' => e = .returned (.int .i64 s) ∧ W = w'))
    (e1 : IntKind.u64.wrap ((y : Int) * 2 ^ s) = Y) (e2 : bits .or .u64 (IntKind.u64.wrap ((hi : Int) * 2 ^ s)) ((lo : Int) / 2 ^ (64 - s)) = U)
    (e3 : IntKind.u64.wrap ((lo : Int) * 2 ^ s) = L) (e4 : (Y : Int) / 4294967296 = n1) (e5 : bits .and .u64 Y 4294967295 = n0)
    (e6 : (L : Int) / 4294967296 = l1) (e7 : bits .and .u64 L 4294967295 = l0)
    (e8 : IntKind.u64.wrap (IntKind.u64.wrap (IntKind.u64.wrap ((U : Int) * 4294967296) + (l1 : Int)) - IntKind.u64.wrap ((Q1 : Int) * (Y : Int))) = r1)
    (e9 : IntKind.u64.wrap (IntKind.u64.wrap (IntKind.u64.wrap ((r1 : Int) * 4294967296) + (l0 : Int)) - IntKind.u64.wrap ((Q0 : Int) * (Y : Int))) = r0)
    (b1 : 2147483648 ≤ n1) (b2 : n1 < 4294967296) (b3 : n0 < 4294967296) (b4 : l1 < 4294967296) (b5 : l0 < 4294967296) (b6 : U < 18446744073709551616) (b7 : r1 < 18446744073709551616)
    (b8 : Q1 < 4294967296) (b9 : Q0 < 4294967296) (hU : Hid (U < n1 * 4294967296 + n0)) (hr1 : Hid (r1 < n1 * 4294967296 + n0))
    (HQ1 : Hid (Q1 = (U * 4294967296 + l1) / (n1 * 4294967296 + n0))) (HQ0 : Hid (Q0 = (r1 * 4294967296 + l0) / (n1 * 4294967296 + n0)))
    (w : World) :
    Calls Tryd.prog 103 #[.int .u64 hi, .int .u64 lo, .int .u64 y] w fun e w' => e = .returned (.tuple #[.int .u64 ((Q1 * 4294967296 + Q0 : Nat) : Int), .int .u64 ((r0 / 2 ^ s : Nat) : Int)]) ∧ Below w.heap.size w w' := by
  have hy0 : ((y : Int) == 0) = false := by simp; omega
  have hh0 : ((hi : Int) == 0) = false := by simp; omega
  go_enter Tryd.func103, Tryd.ntmps103
  go_wp2_with (go_at_call 105; go_must (refine (HC.out _).mono ?_; rintro e w' ⟨rfl, rfl⟩))
  go_loop [15, 16] (fun x z => ∃ a b : Int, Dv.InvI n1 n0 U l1 a b ∧ x = .int .u64 a ∧ z = .int .u64 b) (fun x _ => (intOf x).toNat)
  case atStart => exact ⟨_, _, Dv.startI b1 b2 b3 hU.out b4, by (first | exact congrArg (Value.int .u64) (quoN U n1 b6) | exact congrArg (Value.int .u64) (quoN' U n1)), by first | exact congrArg (Value.int .u64) (remN U n1 b6) | exact congrArg (Value.int .u64) (remN' U n1 b6)⟩
  case round =>
    obtain ⟨a, b, hI, rfl, rfl⟩ := hrel
    clear e1 e2 e3 e4 e5 e6 e7 hy0 hh0
    obtain ⟨i1, i2, i3, i4⟩ := Dv.boundsI hI
    have HI := Lib.hid hI
    clear hI
    by_cases hA : 4294967296 ≤ a
    · by_cases hC : 4294967296 ≤ b + (n1 : Int)
      · obtain rfl := Dv.breakI b1 b3 hU.out b4 HQ1.out HI.out (.inl hA) hC
        clear HI i1 i2
        go_wp2
        go_loop [18, 16] (fun x z => ∃ a b : Int, Dv.InvI n1 n0 r1 l0 a b ∧ x = .int .u64 a ∧ z = .int .u64 b) (fun x _ => (intOf x).toNat)
        case atStart => exact ⟨_, _, Dv.startI b1 b2 b3 hr1.out b5, by (first | exact congrArg (Value.int .u64) (quoN r1 n1 b7) | exact congrArg (Value.int .u64) (quoN' r1 n1)), by first | exact congrArg (Value.int .u64) (remN r1 n1 b7) | exact congrArg (Value.int .u64) (remN' r1 n1 b7)⟩
        case round =>
          obtain ⟨a, b, hI, rfl, rfl⟩ := hrel
          skip
          obtain ⟨i1, i2, i3, i4⟩ := Dv.boundsI hI
          have HI := Lib.hid hI
          clear hI
          by_cases hA : 4294967296 ≤ a
          · by_cases hC : 4294967296 ≤ b + (n1 : Int)
            · obtain rfl := Dv.breakI b1 b3 hr1.out b5 HQ0.out HI.out (.inl hA) hC
              clear HI i1 i2
              go_wp2
              ((try simp only [Exit.inBlock, Exit.then]); refine bodyPost_ret (results_tmp2 rfl _ _ _) rfl ?_)
              exact ⟨rfl, Below.refl _ _⟩
            · obtain ⟨h1a, hI2⟩ := Dv.stepI b1 hr1.out b5 HI.out (.inl hA) (by omega)
              have HI2 := Lib.hid hI2
              clear hI2 HI
              go_wp2
              go_round
              case rel => exact ⟨_, _, HI2.out, rfl, rfl⟩
              case measure => simp [intOf]; omega
          · obtain ⟨P, eP, bP1, bP2⟩ := Dv.prodI i1 (show a ≤ 4294967295 by omega) b3
            by_cases hT : 4294967296 * b + (l0 : Int) < P
            · by_cases hC : 4294967296 ≤ b + (n1 : Int)
              · obtain rfl := Dv.breakI b1 b3 hr1.out b5 HQ0.out HI.out (.inr (by rw [eP]; exact hT)) hC
                clear HI i1 i2
                go_wp2
                ((try simp only [Exit.inBlock, Exit.then]); refine bodyPost_ret (results_tmp2 rfl _ _ _) rfl ?_)
                exact ⟨rfl, Below.refl _ _⟩
              · obtain ⟨h1a, hI2⟩ := Dv.stepI b1 hr1.out b5 HI.out (.inr (by rw [eP]; exact hT)) (by omega)
                have HI2 := Lib.hid hI2
                clear hI2 HI
                go_wp2
                go_round
                case rel => exact ⟨_, _, HI2.out, rfl, rfl⟩
                case measure => simp [intOf]; omega
            · obtain rfl := Dv.doneI b1 b3 HQ0.out HI.out (by rw [eP]; omega)
              clear HI i1 i2
              go_wp2
              ((try simp only [Exit.inBlock, Exit.then]); refine bodyPost_ret (results_tmp2 rfl _ _ _) rfl ?_)
              exact ⟨rfl, Below.refl _ _⟩
      · obtain ⟨h1a, hI2⟩ := Dv.stepI b1 hU.out b4 HI.out (.inl hA) (by omega)
        have HI2 := Lib.hid hI2
        clear hI2 HI
        go_wp2
        go_round
        case rel => exact ⟨_, _, HI2.out, rfl, rfl⟩
        case measure => simp [intOf]; omega
    · obtain ⟨P, eP, bP1, bP2⟩ := Dv.prodI i1 (show a ≤ 4294967295 by omega) b3
      by_cases hT : 4294967296 * b + (l1 : Int) < P
      · by_cases hC : 4294967296 ≤ b + (n1 : Int)
        · obtain rfl := Dv.breakI b1 b3 hU.out b4 HQ1.out HI.out (.inr (by rw [eP]; exact hT)) hC
          clear HI i1 i2
          go_wp2
          go_loop [18, 16] (fun x z => ∃ a b : Int, Dv.InvI n1 n0 r1 l0 a b ∧ x = .int .u64 a ∧ z = .int .u64 b) (fun x _ => (intOf x).toNat)
          case atStart => exact ⟨_, _, Dv.startI b1 b2 b3 hr1.out b5, by (first | exact congrArg (Value.int .u64) (quoN r1 n1 b7) | exact congrArg (Value.int .u64) (quoN' r1 n1)), by first | exact congrArg (Value.int .u64) (remN r1 n1 b7) | exact congrArg (Value.int .u64) (remN' r1 n1 b7)⟩
          case round =>
            obtain ⟨a, b, hI, rfl, rfl⟩ := hrel
            skip
            obtain ⟨i1, i2, i3, i4⟩ := Dv.boundsI hI
            have HI := Lib.hid hI
            clear hI
            by_cases hA : 4294967296 ≤ a
            · by_cases hC : 4294967296 ≤ b + (n1 : Int)
              · obtain rfl := Dv.breakI b1 b3 hr1.out b5 HQ0.out HI.out (.inl hA) hC
                clear HI i1 i2
                go_wp2
                ((try simp only [Exit.inBlock, Exit.then]); refine bodyPost_ret (results_tmp2 rfl _ _ _) rfl ?_)
                exact ⟨rfl, Below.refl _ _⟩
              · obtain ⟨h1a, hI2⟩ := Dv.stepI b1 hr1.out b5 HI.out (.inl hA) (by omega)
                have HI2 := Lib.hid hI2
                clear hI2 HI
                go_wp2
                go_round
                case rel => exact ⟨_, _, HI2.out, rfl, rfl⟩
                case measure => simp [intOf]; omega
            · obtain ⟨P, eP, bP1, bP2⟩ := Dv.prodI i1 (show a ≤ 4294967295 by omega) b3
              by_cases hT : 4294967296 * b + (l0 : Int) < P
              · by_cases hC : 4294967296 ≤ b + (n1 : Int)
                · obtain rfl := Dv.breakI b1 b3 hr1.out b5 HQ0.out HI.out (.inr (by rw [eP]; exact hT)) hC
                  clear HI i1 i2
                  go_wp2
                  ((try simp only [Exit.inBlock, Exit.then]); refine bodyPost_ret (results_tmp2 rfl _ _ _) rfl ?_)
                  exact ⟨rfl, Below.refl _ _⟩
                · obtain ⟨h1a, hI2⟩ := Dv.stepI b1 hr1.out b5 HI.out (.inr (by rw [eP]; exact hT)) (by omega)
                  have HI2 := Lib.hid hI2
                  clear hI2 HI
                  go_wp2
                  go_round
                  case rel => exact ⟨_, _, HI2.out, rfl, rfl⟩
                  case measure => simp [intOf]; omega
              · obtain rfl := Dv.doneI b1 b3 HQ0.out HI.out (by rw [eP]; omega)
                clear HI i1 i2
                go_wp2
                ((try simp only [Exit.inBlock, Exit.then]); refine bodyPost_ret (results_tmp2 rfl _ _ _) rfl ?_)
                exact ⟨rfl, Below.refl _ _⟩
        · obtain ⟨h1a, hI2⟩ := Dv.stepI b1 hU.out b4 HI.out (.inr (by rw [eP]; exact hT)) (by omega)
          have HI2 := Lib.hid hI2
          clear hI2 HI
          go_wp2
          go_round
          case rel => exact ⟨_, _, HI2.out, rfl, rfl⟩
          case measure => simp [intOf]; omega
      · obtain rfl := Dv.doneI b1 b3 HQ1.out HI.out (by rw [eP]; omega)
        clear HI i1 i2
        go_wp2
        go_loop [18, 16] (fun x z => ∃ a b : Int, Dv.InvI n1 n0 r1 l0 a b ∧ x = .int .u64 a ∧ z = .int .u64 b) (fun x _ => (intOf x).toNat)
        case atStart => exact ⟨_, _, Dv.startI b1 b2 b3 hr1.out b5, by (first | exact congrArg (Value.int .u64) (quoN r1 n1 b7) | exact congrArg (Value.int .u64) (quoN' r1 n1)), by first | exact congrArg (Value.int .u64) (remN r1 n1 b7) | exact congrArg (Value.int .u64) (remN' r1 n1 b7)⟩
        case round =>
          obtain ⟨a, b, hI, rfl, rfl⟩ := hrel
          skip
          obtain ⟨i1, i2, i3, i4⟩ := Dv.boundsI hI
          have HI := Lib.hid hI
          clear hI
          by_cases hA : 4294967296 ≤ a
          · by_cases hC : 4294967296 ≤ b + (n1 : Int)
            · obtain rfl := Dv.breakI b1 b3 hr1.out b5 HQ0.out HI.out (.inl hA) hC
              clear HI i1 i2
              go_wp2
              ((try simp only [Exit.inBlock, Exit.then]); refine bodyPost_ret (results_tmp2 rfl _ _ _) rfl ?_)
              exact ⟨rfl, Below.refl _ _⟩
            · obtain ⟨h1a, hI2⟩ := Dv.stepI b1 hr1.out b5 HI.out (.inl hA) (by omega)
              have HI2 := Lib.hid hI2
              clear hI2 HI
              go_wp2
              go_round
              case rel => exact ⟨_, _, HI2.out, rfl, rfl⟩
              case measure => simp [intOf]; omega
          · obtain ⟨P, eP, bP1, bP2⟩ := Dv.prodI i1 (show a ≤ 4294967295 by omega) b3
            by_cases hT : 4294967296 * b + (l0 : Int) < P
            · by_cases hC : 4294967296 ≤ b + (n1 : Int)
              · obtain rfl := Dv.breakI b1 b3 hr1.out b5 HQ0.out HI.out (.inr (by rw [eP]; exact hT)) hC
                clear HI i1 i2
                go_wp2
                ((try simp only [Exit.inBlock, Exit.then]); refine bodyPost_ret (results_tmp2 rfl _ _ _) rfl ?_)
                exact ⟨rfl, Below.refl _ _⟩
              · obtain ⟨h1a, hI2⟩ := Dv.stepI b1 hr1.out b5 HI.out (.inr (by rw [eP]; exact hT)) (by omega)
                have HI2 := Lib.hid hI2
                clear hI2 HI
                go_wp2
                go_round
                case rel => exact ⟨_, _, HI2.out, rfl, rfl⟩
                case measure => simp [intOf]; omega
            · obtain rfl := Dv.doneI b1 b3 HQ0.out HI.out (by rw [eP]; omega)
              clear HI i1 i2
              go_wp2
              ((try simp only [Exit.inBlock, Exit.then]); refine bodyPost_ret (results_tmp2 rfl _ _ _) rfl ?_)
              exact ⟨rfl, Below.refl _ _⟩

theorem restN (N x r : Nat) (U l : Nat) (hN : N = U * 4294967296 + l) (hx : x + r = N) (hr : r < 18446744073709551616) :
    IntKind.u64.wrap (IntKind.u64.wrap (IntKind.u64.wrap ((U : Int) * 4294967296) + (l : Int)) - IntKind.u64.wrap (x : Int)) = r := by
  simp only [IntKind.wrap_u64]
  omega
theorem digits_join (U L : Nat) : (U * 4294967296 + L / 4294967296) * 4294967296 + L % 4294967296 = U * 18446744073709551616 + L := by omega
theorem digits_of (Y : Nat) : Y / 4294967296 * 4294967296 + Y % 4294967296 = Y := by omega
theorem digit_top (Y : Nat) (h : 9223372036854775808 ≤ Y) : 2147483648 ≤ Y / 4294967296 := by omega
theorem digit_high (Y : Nat) (h : Y < 18446744073709551616) : Y / 4294967296 < 4294967296 := by omega
theorem castPow (a s : Nat) : (a : Int) * 2 ^ s = ((a * 2 ^ s : Nat) : Int) := by
  rw [Int.natCast_mul, Int.natCast_pow]; first | done | rfl
theorem castPowDiv (a s : Nat) : (a : Int) / 2 ^ s = ((a / 2 ^ s : Nat) : Int) := by
  rw [Int.natCast_ediv, Int.natCast_pow]; first | done | rfl

theorem div64_high (hi lo y : Nat) (hlo : lo < 18446744073709551616) (hy : y < 18446744073709551616) (h0 : 0 < hi) (hh : hi < y) (w : World) :
    Calls Tryd.prog 103 #[.int .u64 hi, .int .u64 lo, .int .u64 y] w fun e w' => e = .returned (.tuple #[.int .u64 (((hi * 18446744073709551616 + lo) / y : Nat) : Int), .int .u64 (((hi * 18446744073709551616 + lo) % y : Nat) : Int)]) ∧ Below w.heap.size w w' := by
  obtain ⟨k, hk, y1, y2⟩ := bitLen_bounds 64 y (by omega) (by omega)
  have hk63 : k ≤ 63 := by
    have := Lib.bitLen_le y 64 (by omega) (by omega)
    unfold Lib.bitLen at this
    omega
  obtain ⟨s, hs⟩ : ∃ s, s = 64 - Lib.bitLen y := ⟨_, rfl⟩
  have hsk : s = 63 - k := by rw [hs]; unfold Lib.bitLen; omega
  have HC : Hid (∀ W, Calls Tryd.prog 105 #[.int .u64 y] W fun e w' => e = .returned (.int .i64 s) ∧ W = w') := by
    apply Lib.hid; intro W; rw [hs]; exact leadingZeros_any y hy W
  obtain ⟨S, hS⟩ : ∃ S, S = 2 ^ s := ⟨_, rfl⟩
  obtain ⟨T, hT⟩ : ∃ T, T = 2 ^ (64 - s) := ⟨_, rfl⟩
  have hST : S * T = 18446744073709551616 := by
    rw [hS, hT, ← Nat.pow_add, show s + (64 - s) = 64 by omega]
  have hSpos : 0 < S := by rw [hS]; exact Nat.pos_of_ne_zero (by simp)
  have hYlow : 9223372036854775808 ≤ y * S := by
    have h := Nat.mul_le_mul_right S y1
    rw [hS, hsk, ← Nat.pow_add, show k + (63 - k) = 63 by omega] at h
    rw [hS, hsk]
    exact h
  have hYhigh : y * S < 18446744073709551616 := by
    have h := Nat.mul_lt_mul_of_pos_right y2 hSpos
    rw [hS, hsk, ← Nat.pow_add, show k + 1 + (63 - k) = 64 by omega] at h
    rw [hS, hsk]
    exact h
  obtain ⟨hU, hT2⟩ := Dv.high_lt (lo := lo) hST hlo hh
  have hsh := Dv.shifted hi lo S T hST hSpos
  obtain ⟨c, hc⟩ : ∃ c, c = lo / T := ⟨_, rfl⟩
  rw [← hc] at hU hT2 hsh
  have hUhi : hi * S < 18446744073709551616 := Nat.lt_of_le_of_lt (Nat.le_add_right _ c) (Nat.lt_trans hU hYhigh)
  have hsc := Dv.scaled (hi * 18446744073709551616 + lo) y S hSpos
  have e1 : IntKind.u64.wrap ((y : Int) * 2 ^ s) = ((y * S : Nat) : Int) := by rw [castPow, ← hS, wrapN _ hYhigh]
  have e2 : bits .or .u64 (IntKind.u64.wrap ((hi : Int) * 2 ^ s)) ((lo : Int) / 2 ^ (64 - s)) = ((hi * S + c : Nat) : Int) := by
    have hc64 : c < 18446744073709551616 := by rw [hc]; exact Nat.lt_of_le_of_lt (Nat.div_le_self _ _) hlo
    rw [castPow, castPowDiv, ← hS, ← hT, ← hc, wrapN _ hUhi, orN _ _ hUhi hc64]
    have h := Nat.two_pow_add_eq_or_of_lt (i := s) (b := c) (by rw [← hS]; exact hT2) hi
    rw [← hS, Nat.mul_comm S hi] at h
    rw [← h]
  have e3 : IntKind.u64.wrap ((lo : Int) * 2 ^ s) = ((lo * S % 18446744073709551616 : Nat) : Int) := by rw [castPow, ← hS, wrapM]
  have hL : lo * S % 18446744073709551616 < 18446744073709551616 := Nat.mod_lt _ (by omega)
  generalize lo * S % 18446744073709551616 = L at *
  generalize hi * S + c = U at *
  obtain ⟨Y, hY⟩ : ∃ Y, Y = y * S := ⟨_, rfl⟩
  rw [← hY] at e1 hU hYlow hYhigh hsc
  have hYd := Nat.div_add_mod Y 4294967296
  have hLd := Nat.div_add_mod L 4294967296
  have hY2 := digits_of Y
  have hn1 := digit_top Y hYlow
  have hl1 := digit_high L hL
  have hL2 := digits_join U L
  have hYpos : 0 < Y := Nat.lt_of_lt_of_le (by decide) hYlow
  have ht := Dv.two' (U * 4294967296 + L / 4294967296) (L % 4294967296) Y hYpos
  rw [hL2, ← hsh] at ht
  have hr1 := Nat.mod_lt (U * 4294967296 + L / 4294967296) hYpos
  have hd1 := Nat.div_add_mod (U * 4294967296 + L / 4294967296) Y
  have hq1 := Dv.digit_lt (n1 := Y / 4294967296) (n0 := Y % 4294967296) (u := U) (t := L / 4294967296) hn1 (by rw [hY2]; exact hU) hl1
  rw [hY2] at hq1
  have hr0 := Nat.mod_lt ((U * 4294967296 + L / 4294967296) % Y * 4294967296 + L % 4294967296) hYpos
  have hd0 := Nat.div_add_mod ((U * 4294967296 + L / 4294967296) % Y * 4294967296 + L % 4294967296) Y
  have hq0 := Dv.digit_lt (n1 := Y / 4294967296) (n0 := Y % 4294967296) (u := (U * 4294967296 + L / 4294967296) % Y) (t := L % 4294967296) hn1 (by rw [hY2]; exact hr1) (Nat.mod_lt _ (by decide))
  rw [hY2] at hq0
  rw [← hsc.1, ← hsc.2, ht.1, ht.2]
  have HT := Lib.hid ht
  clear ht hsc hsh
  obtain ⟨Q1, hQ1⟩ : ∃ Q, Q = (U * 4294967296 + L / 4294967296) / Y := ⟨_, rfl⟩
  obtain ⟨r1, hR1⟩ : ∃ r, r = (U * 4294967296 + L / 4294967296) % Y := ⟨_, rfl⟩
  rw [← hQ1, ← hR1] at hd1
  rw [← hR1] at hd0 hq0 hr0 hr1
  rw [← hQ1] at hq1
  rw [← hQ1, ← hR1]
  obtain ⟨Q0, hQ0⟩ : ∃ Q, Q = (r1 * 4294967296 + L % 4294967296) / Y := ⟨_, rfl⟩
  obtain ⟨r0, hR0⟩ : ∃ r, r = (r1 * 4294967296 + L % 4294967296) % Y := ⟨_, rfl⟩
  rw [← hQ0, ← hR0] at hd0
  rw [← hR0] at hr0
  rw [← hQ0] at hq0
  rw [← hQ0, ← hR0, hS]
  refine div64_core hi lo y s Y U L (Y / 4294967296) (Y % 4294967296) (L / 4294967296) (L % 4294967296) Q1 r1 Q0 r0 hh h0 (by rw [hsk]; exact Nat.sub_le _ _) HC e1 e2 e3 (divN Y) (maskN Y hYhigh) (divN L) (maskN L hL)
    (by rw [mulN]; exact restN (U * 4294967296 + L / 4294967296) (Q1 * Y) r1 U (L / 4294967296) rfl (by rw [Nat.mul_comm]; exact hd1) (Nat.lt_trans hr1 hYhigh))
    (by rw [mulN]; exact restN (r1 * 4294967296 + L % 4294967296) (Q0 * Y) r0 r1 (L % 4294967296) rfl (by rw [Nat.mul_comm]; exact hd0) (Nat.lt_trans hr0 hYhigh))
    hn1 (digit_high Y hYhigh) (Nat.mod_lt _ (by decide)) hl1 (Nat.mod_lt _ (by decide)) (Nat.lt_trans hU hYhigh) (Nat.lt_trans hr1 hYhigh) hq1 hq0 (Lib.hid (by rw [hY2]; exact hU)) (Lib.hid (by rw [hY2]; exact hr1)) (Lib.hid (by rw [hY2]; exact hQ1)) (Lib.hid (by rw [hY2]; exact hQ0)) w

theorem div64_any (hi lo y : Nat) (hlo : lo < 18446744073709551616) (hy : y < 18446744073709551616) (hh : hi < y) (w : World) :
    Calls Tryd.prog 103 #[.int .u64 hi, .int .u64 lo, .int .u64 y] w fun e w' => e = .returned (.tuple #[.int .u64 (((hi * 18446744073709551616 + lo) / y : Nat) : Int), .int .u64 (((hi * 18446744073709551616 + lo) % y : Nat) : Int)]) ∧ Below w.heap.size w w' := by
  by_cases h : hi = 0
  · subst h
    rw [Nat.zero_mul, Nat.zero_add]
    exact div64_low lo y hlo hy hh w
  · exact div64_high hi lo y hlo hy (by omega) hh w
end Go.Proofs.YtbhfapbhlkgmfaaDoor

namespace Go.Proofs.YtbhfapbhlkgmfaaDoor
open Go.RowKit

/-- MulDiv's answer, whoever gives it. -/
def MdPost (a b c : Int) (w : World) (e : Ending) (w' : World) : Prop := ∃ n ok, Fx.Md a b c n ok ∧ e = .returned (.tuple #[.int .i64 n, .bool ok]) ∧ Below w.heap.size w w'

set_option maxHeartbeats 1000000 in
theorem md_zero_any (a b : Int) (w : World) :
    Calls Tryd.prog 98 #[.int .i64 a, .int .i64 b, .int .i64 0] w fun e w' => MdPost a b 0 w e w' := by
  go_enter Tryd.func98, Tryd.ntmps98
  go_wp2
  ((try simp only [Exit.inBlock, Exit.then]); refine bodyPost_ret (results_tmp2 rfl _ _ _) rfl ?_)
  exact ⟨_, _, Fx.md_zero rfl, rfl, Below.refl _ _⟩


/-- What the calls within come to. -/
structure MdIn (a b c x y d hi lo q r : Int) : Prop where
  A : ∀ W, Calls Tryd.prog 102 #[.int .i64 a] W fun e w' => e = .returned (.int .u64 x) ∧ W = w'
  B : ∀ W, Calls Tryd.prog 102 #[.int .i64 b] W fun e w' => e = .returned (.int .u64 y) ∧ W = w'
  C : ∀ W, Calls Tryd.prog 102 #[.int .i64 c] W fun e w' => e = .returned (.int .u64 d) ∧ W = w'
  M : ∀ W, Calls Tryd.prog 101 #[.int .u64 x, .int .u64 y] W fun e w' => e = .returned (.tuple #[.int .u64 hi, .int .u64 lo]) ∧ W = w'
  D : hi < d → ∀ W, Calls Tryd.prog 103 #[.int .u64 hi, .int .u64 lo, .int .u64 d] W fun e w' => e = .returned (.tuple #[.int .u64 q, .int .u64 r]) ∧ Below W.heap.size W w'
  d0 : 0 < d
  d1 : d ≤ 9223372036854775808
  q0 : 0 ≤ q
  q1 : q ≤ 18446744073709551615
  r0 : 0 ≤ r
  r1 : r < d

set_option maxHeartbeats 1000000 in
theorem md_over (a b c x y d hi lo q r : Int) (H : MdIn a b c x y d hi lo q r) (HC0 : Hid (c ≠ 0)) (hd : d ≤ hi) (HQ : Hid (4611686018427387904 < Fx.mdq a b c)) (w : World) :
    Calls Tryd.prog 98 #[.int .i64 a, .int .i64 b, .int .i64 c] w fun e w' => MdPost a b c w e w' := by
  have hc0 : (c == 0) = false := by simp [HC0.out]
  go_enter Tryd.func98, Tryd.ntmps98
  go_wp2_with fail
  (go_at_call 102; go_must (refine (H.A _).mono ?_; rintro e w' ⟨rfl, rfl⟩))
  go_wp2_with fail
  (go_at_call 102; go_must (refine (H.B _).mono ?_; rintro e w' ⟨rfl, rfl⟩))
  go_wp2_with fail
  (go_at_call 101; go_must (refine (H.M _).mono ?_; rintro e w' ⟨rfl, rfl⟩))
  go_wp2_with fail
  (go_at_call 102; go_must (refine (H.C _).mono ?_; rintro e w' ⟨rfl, rfl⟩))
  go_wp2_with fail
  all_goals
    ((try simp only [Exit.inBlock, Exit.then]); refine bodyPost_ret (results_tmp2 rfl _ _ _) rfl ?_)
    first
    | exact ⟨_, _, Fx.md_big (by have := HQ.out; omega), rfl, (by repeat (first | exact Below.refl _ _ | assumption | refine Below.setCell ?_ (by first | (simp; done) | omega | (simp; omega) | (simp at *; omega)) _ | refine Below.alloc ?_ (by first | (simp; done) | omega | (simp; omega) | (simp at *; omega)) _ | refine Below.drew ?_ | (refine Below.trans ?_ (Below.mono (by assumption) (by first | (simp; done) | omega | (simp; omega) | (simp at *; omega)))) | (refine Below.trans ?_ (Below.mono (below_regrown _ _ _) (by first | (simp; done) | omega | (simp; omega) | (simp at *; omega))))))⟩
    | exact ⟨_, _, Fx.md_neg HC0.out HQ.out.symm (by omega) ‹_›, rfl, (by repeat (first | exact Below.refl _ _ | assumption | refine Below.setCell ?_ (by first | (simp; done) | omega | (simp; omega) | (simp at *; omega)) _ | refine Below.alloc ?_ (by first | (simp; done) | omega | (simp; omega) | (simp at *; omega)) _ | refine Below.drew ?_ | (refine Below.trans ?_ (Below.mono (by assumption) (by first | (simp; done) | omega | (simp; omega) | (simp at *; omega)))) | (refine Below.trans ?_ (Below.mono (below_regrown _ _ _) (by first | (simp; done) | omega | (simp; omega) | (simp at *; omega))))))⟩
    | exact ⟨_, _, Fx.md_pos HC0.out HQ.out.symm (by omega) ‹_›, rfl, (by repeat (first | exact Below.refl _ _ | assumption | refine Below.setCell ?_ (by first | (simp; done) | omega | (simp; omega) | (simp at *; omega)) _ | refine Below.alloc ?_ (by first | (simp; done) | omega | (simp; omega) | (simp at *; omega)) _ | refine Below.drew ?_ | (refine Below.trans ?_ (Below.mono (by assumption) (by first | (simp; done) | omega | (simp; omega) | (simp at *; omega)))) | (refine Below.trans ?_ (Below.mono (below_regrown _ _ _) (by first | (simp; done) | omega | (simp; omega) | (simp at *; omega))))))⟩

set_option maxHeartbeats 1000000 in
theorem md_most (a b c x y d hi lo q r : Int) (H : MdIn a b c x y d hi lo q r) (HC0 : Hid (c ≠ 0)) (hd : hi < d) (hq : 4611686018427387904 < q) (HQ : Hid (4611686018427387904 < Fx.mdq a b c)) (w : World) :
    Calls Tryd.prog 98 #[.int .i64 a, .int .i64 b, .int .i64 c] w fun e w' => MdPost a b c w e w' := by
  have hc0 : (c == 0) = false := by simp [HC0.out]
  have HD := Lib.hid (H.D hd)
  have d1 := H.d1
  have q0 := H.q0
  have r0 := H.r0
  have r1 := H.r1
  go_enter Tryd.func98, Tryd.ntmps98
  go_wp2_with fail
  (go_at_call 102; go_must (refine (H.A _).mono ?_; rintro e w' ⟨rfl, rfl⟩))
  go_wp2_with fail
  (go_at_call 102; go_must (refine (H.B _).mono ?_; rintro e w' ⟨rfl, rfl⟩))
  go_wp2_with fail
  (go_at_call 101; go_must (refine (H.M _).mono ?_; rintro e w' ⟨rfl, rfl⟩))
  go_wp2_with fail
  (go_at_call 102; go_must (refine (H.C _).mono ?_; rintro e w' ⟨rfl, rfl⟩))
  go_wp2_with fail
  (go_at_call 103; go_must (refine (HD.out _).mono ?_; rintro e w' ⟨rfl, hb⟩; obtain ⟨hc, hf⟩ := bcell hb; (try have hz0 : w.heap.size < w'.heap.size := Nat.lt_of_lt_of_le (by first | assumption | (simp; done) | (simp; omega)) hb.size); (try have hz1 : w.heap.size + 1 < w'.heap.size := Nat.lt_of_lt_of_le (by first | assumption | (simp; done) | (simp; omega)) hb.size); (try have hz2 : w.heap.size + 1 + 1 < w'.heap.size := Nat.lt_of_lt_of_le (by first | assumption | (simp; done) | (simp; omega)) hb.size); have hz := hb.size; (try simp at hz)))
  go_wp2_with fail
  all_goals
    ((try simp only [Exit.inBlock, Exit.then]); refine bodyPost_ret (results_tmp2 rfl _ _ _) rfl ?_)
    first
    | exact ⟨_, _, Fx.md_big (by have := HQ.out; omega), rfl, (by repeat (first | exact Below.refl _ _ | assumption | refine Below.setCell ?_ (by first | (simp; done) | omega | (simp; omega) | (simp at *; omega)) _ | refine Below.alloc ?_ (by first | (simp; done) | omega | (simp; omega) | (simp at *; omega)) _ | refine Below.drew ?_ | (refine Below.trans ?_ (Below.mono (by assumption) (by first | (simp; done) | omega | (simp; omega) | (simp at *; omega)))) | (refine Below.trans ?_ (Below.mono (below_regrown _ _ _) (by first | (simp; done) | omega | (simp; omega) | (simp at *; omega))))))⟩
    | exact ⟨_, _, Fx.md_neg HC0.out HQ.out.symm (by omega) ‹_›, rfl, (by repeat (first | exact Below.refl _ _ | assumption | refine Below.setCell ?_ (by first | (simp; done) | omega | (simp; omega) | (simp at *; omega)) _ | refine Below.alloc ?_ (by first | (simp; done) | omega | (simp; omega) | (simp at *; omega)) _ | refine Below.drew ?_ | (refine Below.trans ?_ (Below.mono (by assumption) (by first | (simp; done) | omega | (simp; omega) | (simp at *; omega)))) | (refine Below.trans ?_ (Below.mono (below_regrown _ _ _) (by first | (simp; done) | omega | (simp; omega) | (simp at *; omega))))))⟩
    | exact ⟨_, _, Fx.md_pos HC0.out HQ.out.symm (by omega) ‹_›, rfl, (by repeat (first | exact Below.refl _ _ | assumption | refine Below.setCell ?_ (by first | (simp; done) | omega | (simp; omega) | (simp at *; omega)) _ | refine Below.alloc ?_ (by first | (simp; done) | omega | (simp; omega) | (simp at *; omega)) _ | refine Below.drew ?_ | (refine Below.trans ?_ (Below.mono (by assumption) (by first | (simp; done) | omega | (simp; omega) | (simp at *; omega)))) | (refine Below.trans ?_ (Below.mono (below_regrown _ _ _) (by first | (simp; done) | omega | (simp; omega) | (simp at *; omega))))))⟩

set_option maxHeartbeats 1000000 in
theorem md_up (a b c x y d hi lo q r : Int) (H : MdIn a b c x y d hi lo q r) (HC0 : Hid (c ≠ 0)) (hd : hi < d) (hq : q ≤ 4611686018427387904) (hr : d ≤ 2 * r) (HQ : Hid ((Fx.mdq a b c : Int) = q + 1)) (w : World) :
    Calls Tryd.prog 98 #[.int .i64 a, .int .i64 b, .int .i64 c] w fun e w' => MdPost a b c w e w' := by
  have hc0 : (c == 0) = false := by simp [HC0.out]
  have HD := Lib.hid (H.D hd)
  have d1 := H.d1
  have q0 := H.q0
  have r0 := H.r0
  have r1 := H.r1
  go_enter Tryd.func98, Tryd.ntmps98
  go_wp2_with fail
  (go_at_call 102; go_must (refine (H.A _).mono ?_; rintro e w' ⟨rfl, rfl⟩))
  go_wp2_with fail
  (go_at_call 102; go_must (refine (H.B _).mono ?_; rintro e w' ⟨rfl, rfl⟩))
  go_wp2_with fail
  (go_at_call 101; go_must (refine (H.M _).mono ?_; rintro e w' ⟨rfl, rfl⟩))
  go_wp2_with fail
  (go_at_call 102; go_must (refine (H.C _).mono ?_; rintro e w' ⟨rfl, rfl⟩))
  go_wp2_with fail
  (go_at_call 103; go_must (refine (HD.out _).mono ?_; rintro e w' ⟨rfl, hb⟩; obtain ⟨hc, hf⟩ := bcell hb; (try have hz0 : w.heap.size < w'.heap.size := Nat.lt_of_lt_of_le (by first | assumption | (simp; done) | (simp; omega)) hb.size); (try have hz1 : w.heap.size + 1 < w'.heap.size := Nat.lt_of_lt_of_le (by first | assumption | (simp; done) | (simp; omega)) hb.size); (try have hz2 : w.heap.size + 1 + 1 < w'.heap.size := Nat.lt_of_lt_of_le (by first | assumption | (simp; done) | (simp; omega)) hb.size); have hz := hb.size; (try simp at hz)))
  go_wp2_with fail
  all_goals
    ((try simp only [Exit.inBlock, Exit.then]); refine bodyPost_ret (results_tmp2 rfl _ _ _) rfl ?_)
    first
    | exact ⟨_, _, Fx.md_big (by have := HQ.out; omega), rfl, (by repeat (first | exact Below.refl _ _ | assumption | refine Below.setCell ?_ (by first | (simp; done) | omega | (simp; omega) | (simp at *; omega)) _ | refine Below.alloc ?_ (by first | (simp; done) | omega | (simp; omega) | (simp at *; omega)) _ | refine Below.drew ?_ | (refine Below.trans ?_ (Below.mono (by assumption) (by first | (simp; done) | omega | (simp; omega) | (simp at *; omega)))) | (refine Below.trans ?_ (Below.mono (below_regrown _ _ _) (by first | (simp; done) | omega | (simp; omega) | (simp at *; omega))))))⟩
    | exact ⟨_, _, Fx.md_neg HC0.out HQ.out.symm (by omega) ‹_›, rfl, (by repeat (first | exact Below.refl _ _ | assumption | refine Below.setCell ?_ (by first | (simp; done) | omega | (simp; omega) | (simp at *; omega)) _ | refine Below.alloc ?_ (by first | (simp; done) | omega | (simp; omega) | (simp at *; omega)) _ | refine Below.drew ?_ | (refine Below.trans ?_ (Below.mono (by assumption) (by first | (simp; done) | omega | (simp; omega) | (simp at *; omega)))) | (refine Below.trans ?_ (Below.mono (below_regrown _ _ _) (by first | (simp; done) | omega | (simp; omega) | (simp at *; omega))))))⟩
    | exact ⟨_, _, Fx.md_pos HC0.out HQ.out.symm (by omega) ‹_›, rfl, (by repeat (first | exact Below.refl _ _ | assumption | refine Below.setCell ?_ (by first | (simp; done) | omega | (simp; omega) | (simp at *; omega)) _ | refine Below.alloc ?_ (by first | (simp; done) | omega | (simp; omega) | (simp at *; omega)) _ | refine Below.drew ?_ | (refine Below.trans ?_ (Below.mono (by assumption) (by first | (simp; done) | omega | (simp; omega) | (simp at *; omega)))) | (refine Below.trans ?_ (Below.mono (below_regrown _ _ _) (by first | (simp; done) | omega | (simp; omega) | (simp at *; omega))))))⟩

set_option maxHeartbeats 1000000 in
theorem md_down (a b c x y d hi lo q r : Int) (H : MdIn a b c x y d hi lo q r) (HC0 : Hid (c ≠ 0)) (hd : hi < d) (hq : q ≤ 4611686018427387904) (hr : 2 * r < d) (HQ : Hid ((Fx.mdq a b c : Int) = q)) (w : World) :
    Calls Tryd.prog 98 #[.int .i64 a, .int .i64 b, .int .i64 c] w fun e w' => MdPost a b c w e w' := by
  have hc0 : (c == 0) = false := by simp [HC0.out]
  have HD := Lib.hid (H.D hd)
  have d1 := H.d1
  have q0 := H.q0
  have r0 := H.r0
  have r1 := H.r1
  go_enter Tryd.func98, Tryd.ntmps98
  go_wp2_with fail
  (go_at_call 102; go_must (refine (H.A _).mono ?_; rintro e w' ⟨rfl, rfl⟩))
  go_wp2_with fail
  (go_at_call 102; go_must (refine (H.B _).mono ?_; rintro e w' ⟨rfl, rfl⟩))
  go_wp2_with fail
  (go_at_call 101; go_must (refine (H.M _).mono ?_; rintro e w' ⟨rfl, rfl⟩))
  go_wp2_with fail
  (go_at_call 102; go_must (refine (H.C _).mono ?_; rintro e w' ⟨rfl, rfl⟩))
  go_wp2_with fail
  (go_at_call 103; go_must (refine (HD.out _).mono ?_; rintro e w' ⟨rfl, hb⟩; obtain ⟨hc, hf⟩ := bcell hb; (try have hz0 : w.heap.size < w'.heap.size := Nat.lt_of_lt_of_le (by first | assumption | (simp; done) | (simp; omega)) hb.size); (try have hz1 : w.heap.size + 1 < w'.heap.size := Nat.lt_of_lt_of_le (by first | assumption | (simp; done) | (simp; omega)) hb.size); (try have hz2 : w.heap.size + 1 + 1 < w'.heap.size := Nat.lt_of_lt_of_le (by first | assumption | (simp; done) | (simp; omega)) hb.size); have hz := hb.size; (try simp at hz)))
  go_wp2_with fail
  all_goals
    ((try simp only [Exit.inBlock, Exit.then]); refine bodyPost_ret (results_tmp2 rfl _ _ _) rfl ?_)
    first
    | exact ⟨_, _, Fx.md_big (by have := HQ.out; omega), rfl, (by repeat (first | exact Below.refl _ _ | assumption | refine Below.setCell ?_ (by first | (simp; done) | omega | (simp; omega) | (simp at *; omega)) _ | refine Below.alloc ?_ (by first | (simp; done) | omega | (simp; omega) | (simp at *; omega)) _ | refine Below.drew ?_ | (refine Below.trans ?_ (Below.mono (by assumption) (by first | (simp; done) | omega | (simp; omega) | (simp at *; omega)))) | (refine Below.trans ?_ (Below.mono (below_regrown _ _ _) (by first | (simp; done) | omega | (simp; omega) | (simp at *; omega))))))⟩
    | exact ⟨_, _, Fx.md_neg HC0.out HQ.out.symm (by omega) ‹_›, rfl, (by repeat (first | exact Below.refl _ _ | assumption | refine Below.setCell ?_ (by first | (simp; done) | omega | (simp; omega) | (simp at *; omega)) _ | refine Below.alloc ?_ (by first | (simp; done) | omega | (simp; omega) | (simp at *; omega)) _ | refine Below.drew ?_ | (refine Below.trans ?_ (Below.mono (by assumption) (by first | (simp; done) | omega | (simp; omega) | (simp at *; omega)))) | (refine Below.trans ?_ (Below.mono (below_regrown _ _ _) (by first | (simp; done) | omega | (simp; omega) | (simp at *; omega))))))⟩
    | exact ⟨_, _, Fx.md_pos HC0.out HQ.out.symm (by omega) ‹_›, rfl, (by repeat (first | exact Below.refl _ _ | assumption | refine Below.setCell ?_ (by first | (simp; done) | omega | (simp; omega) | (simp at *; omega)) _ | refine Below.alloc ?_ (by first | (simp; done) | omega | (simp; omega) | (simp at *; omega)) _ | refine Below.drew ?_ | (refine Below.trans ?_ (Below.mono (by assumption) (by first | (simp; done) | omega | (simp; omega) | (simp at *; omega)))) | (refine Below.trans ?_ (Below.mono (below_regrown _ _ _) (by first | (simp; done) | omega | (simp; omega) | (simp at *; omega))))))⟩

theorem mulDiv_any (a b c : Int) (a1 : -9223372036854775808 ≤ a) (a2 : a ≤ 9223372036854775807) (b1 : -9223372036854775808 ≤ b) (b2 : b ≤ 9223372036854775807) (c1 : -9223372036854775808 ≤ c) (c2 : c ≤ 9223372036854775807) (w : World) :
    Calls Tryd.prog 98 #[.int .i64 a, .int .i64 b, .int .i64 c] w fun e w' => MdPost a b c w e w' := by
  by_cases hc : c = 0
  · subst hc; exact md_zero_any a b w
  have hx := Fx.mag_le a1 a2
  have hy := Fx.mag_le b1 b2
  have hd := Fx.mag_le c1 c2
  have hd0 := Fx.mag_pos hc
  obtain ⟨p, hp⟩ : ∃ p, p = Fx.mag a * Fx.mag b := ⟨_, rfl⟩
  have hmq : Fx.mdq a b c = Fx.rnd p (Fx.mag c) := by unfold Fx.mdq; rw [← hp]
  have hw := Fx.whole p
  have hp128 : p / 18446744073709551616 < 18446744073709551616 := by
    have := Nat.mul_le_mul hx hy
    rw [← hp] at this
    rw [Nat.div_lt_iff_lt_mul (by decide)]
    exact Nat.lt_of_le_of_lt this (by decide)
  have hrd := Nat.mod_lt p hd0
  have hge := Fx.rnd_ge p (Fx.mag c)
  have H : MdIn a b c (Fx.mag a) (Fx.mag b) (Fx.mag c) ((p / 18446744073709551616 : Nat) : Int) ((p % 18446744073709551616 : Nat) : Int) (if p / 18446744073709551616 < Fx.mag c then ((p / Fx.mag c : Nat) : Int) else 0) ((p % Fx.mag c : Nat) : Int) := by
    refine ⟨fun W => magnitude_any a a1 a2 W, fun W => magnitude_any b b1 b2 W, fun W => magnitude_any c c1 c2 W, fun W => ?_, fun h W => ?_, by omega, by omega, ?_, ?_, by omega, by omega⟩
    · have := mul64_any (Fx.mag a) (Fx.mag b) (by omega) (by omega) W
      rw [← hp] at this
      exact this
    · have hlt : p / 18446744073709551616 < Fx.mag c := by omega
      have := div64_any (p / 18446744073709551616) (p % 18446744073709551616) (Fx.mag c) (Nat.mod_lt _ (by decide)) (by omega) hlt W
      rw [hw] at this
      rw [if_pos hlt]
      exact this
    · split
      · exact Int.natCast_nonneg _
      · exact Int.le_refl _
    · split
      · rename_i h
        have : p / Fx.mag c < 18446744073709551616 := by
          rw [Nat.div_lt_iff_lt_mul hd0]
          have h3 := Nat.div_add_mod p 18446744073709551616
          have h4 := Nat.mod_lt p (show 0 < 18446744073709551616 by decide)
          omega
        omega
      · omega
  by_cases h1 : p / 18446744073709551616 < Fx.mag c
  · rw [if_pos h1] at H
    by_cases h2 : 4611686018427387904 < p / Fx.mag c
    · exact md_most a b c _ _ _ _ _ _ _ H (Lib.hid hc) (by omega) (by omega) (Lib.hid (by rw [hmq]; omega)) w
    · by_cases h3 : Fx.mag c ≤ 2 * (p % Fx.mag c)
      · exact md_up a b c _ _ _ _ _ _ _ H (Lib.hid hc) (by omega) (by omega) (by omega) (Lib.hid (by rw [hmq, Fx.rnd_up h3]; omega)) w
      · exact md_down a b c _ _ _ _ _ _ _ H (Lib.hid hc) (by omega) (by omega) (by omega) (Lib.hid (by rw [hmq, Fx.rnd_down (by omega)])) w
  · have := Fx.words p (Fx.mag c) (by omega) hd0
    exact md_over a b c _ _ _ _ _ _ _ H (Lib.hid hc) (by omega) (Lib.hid (by rw [hmq]; omega)) w
end Go.Proofs.YtbhfapbhlkgmfaaDoor

namespace Go.Proofs.YtbhfapbhlkgmfaaDoor
open Go.RowKit
open Fx (Vl)

theorem mulDiv_val (a b c : Int) (a1 : -9223372036854775808 ≤ a) (a2 : a ≤ 9223372036854775807) (b1 : -9223372036854775808 ≤ b) (b2 : b ≤ 9223372036854775807) (c1 : -9223372036854775808 ≤ c) (c2 : c ≤ 9223372036854775807) (w : World) :
    Calls Tryd.prog 98 #[.int .i64 a, .int .i64 b, .int .i64 c] w fun e w' => e = .returned (.tuple #[.int .i64 (Fx.mdn a b c), .bool (Fx.mdok a b c)]) ∧ Below w.heap.size w w' :=
  (mulDiv_any a b c a1 a2 b1 b2 c1 c2 w).mono fun e w' ⟨n, ok, h, he, hb⟩ => ⟨by rw [he, h.num, h.ok], hb⟩

set_option maxHeartbeats 1000000 in
theorem div_any (a : Bool) (m : Int) (b : Bool) (n : Int) (w : World) :
    Calls Tryd.prog 90 #[.agg #[.bool a, .int .i64 m], .agg #[.bool b, .int .i64 n]] w fun e w' => e = .returned (.agg #[.bool (Fx.div ⟨a, m⟩ ⟨b, n⟩).ok, .int .i64 (Fx.div ⟨a, m⟩ ⟨b, n⟩).n]) ∧ Below w.heap.size w w' := by
  cases h : Fx.num ⟨a, m⟩
  · rw [Fx.div_no1 h]
    go_enter Tryd.func90, Tryd.ntmps90
    go_wp2_with (go_at_call 96; go_must (refine (isNumber_any _ _ _).mono ?_; rintro e w' ⟨rfl, hb⟩; obtain ⟨hc, hf⟩ := bcell hb; (try have hz0 : w.heap.size < w'.heap.size := Nat.lt_of_lt_of_le (by first | assumption | (simp; done) | (simp; omega)) hb.size); (try have hz1 : w.heap.size + 1 < w'.heap.size := Nat.lt_of_lt_of_le (by first | assumption | (simp; done) | (simp; omega)) hb.size); (try have hz2 : w.heap.size + 1 + 1 < w'.heap.size := Nat.lt_of_lt_of_le (by first | assumption | (simp; done) | (simp; omega)) hb.size); have hz := hb.size; (try simp at hz)))
    exact bodyPost_ret (v := .agg #[.bool false, .int .i64 0]) (by simp [results, Tryd.results90, go_sem, *]) rfl ⟨rfl, (by repeat (first | exact Below.refl _ _ | assumption | refine Below.setCell ?_ (by first | (simp; done) | omega | (simp; omega) | (simp at *; omega)) _ | refine Below.alloc ?_ (by first | (simp; done) | omega | (simp; omega) | (simp at *; omega)) _ | refine Below.drew ?_ | (refine Below.trans ?_ (Below.mono (by assumption) (by first | (simp; done) | omega | (simp; omega) | (simp at *; omega)))) | (refine Below.trans ?_ (Below.mono (below_regrown _ _ _) (by first | (simp; done) | omega | (simp; omega) | (simp at *; omega))))))⟩
  · cases h2 : Fx.num ⟨b, n⟩
    · rw [Fx.div_no2 h2]
      go_enter Tryd.func90, Tryd.ntmps90
      go_wp2_with (go_at_call 96; go_must (refine (isNumber_any _ _ _).mono ?_; rintro e w' ⟨rfl, hb⟩; obtain ⟨hc, hf⟩ := bcell hb; (try have hz0 : w.heap.size < w'.heap.size := Nat.lt_of_lt_of_le (by first | assumption | (simp; done) | (simp; omega)) hb.size); (try have hz1 : w.heap.size + 1 < w'.heap.size := Nat.lt_of_lt_of_le (by first | assumption | (simp; done) | (simp; omega)) hb.size); (try have hz2 : w.heap.size + 1 + 1 < w'.heap.size := Nat.lt_of_lt_of_le (by first | assumption | (simp; done) | (simp; omega)) hb.size); have hz := hb.size; (try simp at hz)))
      exact bodyPost_ret (v := .agg #[.bool false, .int .i64 0]) (by simp [results, Tryd.results90, go_sem, *]) rfl ⟨rfl, (by repeat (first | exact Below.refl _ _ | assumption | refine Below.setCell ?_ (by first | (simp; done) | omega | (simp; omega) | (simp at *; omega)) _ | refine Below.alloc ?_ (by first | (simp; done) | omega | (simp; omega) | (simp at *; omega)) _ | refine Below.drew ?_ | (refine Below.trans ?_ (Below.mono (by assumption) (by first | (simp; done) | omega | (simp; omega) | (simp at *; omega)))) | (refine Below.trans ?_ (Below.mono (below_regrown _ _ _) (by first | (simp; done) | omega | (simp; omega) | (simp at *; omega))))))⟩
    · rw [Fx.div_yes h h2]
      obtain ⟨rfl, m1, m2⟩ := Fx.num_iff.1 h
      obtain ⟨rfl, n1, n2⟩ := Fx.num_iff.1 h2
      have HM : Hid (∀ W, Calls Tryd.prog 98 #[.int .i64 m, .int .i64 1000000, .int .i64 n] W fun e w' => e = .returned (.tuple #[.int .i64 (Fx.mdn m 1000000 n), .bool (Fx.mdok m 1000000 n)]) ∧ Below W.heap.size W w') :=
        Lib.hid fun W => mulDiv_val m 1000000 n (by omega) (by omega) (by omega) (by omega) (by omega) (by omega) W
      cases ho : Fx.mdok m 1000000 n
      · rw [Fx.mdv_no ho]
        go_enter Tryd.func90, Tryd.ntmps90
        go_wp2_with first | (go_at_call 96; go_must (refine (isNumber_any _ _ _).mono ?_; rintro e w' ⟨rfl, hb⟩; obtain ⟨hc, hf⟩ := bcell hb; (try have hz0 : w.heap.size < w'.heap.size := Nat.lt_of_lt_of_le (by first | assumption | (simp; done) | (simp; omega)) hb.size); (try have hz1 : w.heap.size + 1 < w'.heap.size := Nat.lt_of_lt_of_le (by first | assumption | (simp; done) | (simp; omega)) hb.size); (try have hz2 : w.heap.size + 1 + 1 < w'.heap.size := Nat.lt_of_lt_of_le (by first | assumption | (simp; done) | (simp; omega)) hb.size); have hz := hb.size; (try simp at hz))) | (go_at_call 98; go_must (refine (HM.out _).mono ?_; rintro e w' ⟨rfl, hb⟩; obtain ⟨hc, hf⟩ := bcell hb; (try have hz0 : w.heap.size < w'.heap.size := Nat.lt_of_lt_of_le (by first | assumption | (simp; done) | (simp; omega)) hb.size); (try have hz1 : w.heap.size + 1 < w'.heap.size := Nat.lt_of_lt_of_le (by first | assumption | (simp; done) | (simp; omega)) hb.size); (try have hz2 : w.heap.size + 1 + 1 < w'.heap.size := Nat.lt_of_lt_of_le (by first | assumption | (simp; done) | (simp; omega)) hb.size); have hz := hb.size; (try simp at hz))) | (go_at_call 97; go_must (refine (ofQuotient_no _ _).mono ?_; rintro e w' ⟨rfl, hb⟩; obtain ⟨hc, hf⟩ := bcell hb; (try have hz0 : w.heap.size < w'.heap.size := Nat.lt_of_lt_of_le (by first | assumption | (simp; done) | (simp; omega)) hb.size); (try have hz1 : w.heap.size + 1 < w'.heap.size := Nat.lt_of_lt_of_le (by first | assumption | (simp; done) | (simp; omega)) hb.size); (try have hz2 : w.heap.size + 1 + 1 < w'.heap.size := Nat.lt_of_lt_of_le (by first | assumption | (simp; done) | (simp; omega)) hb.size); have hz := hb.size; (try simp at hz)))
        exact bodyPost_ret (v := .agg #[.bool false, .int .i64 0]) (by simp [results, Tryd.results90, go_sem, *]) rfl ⟨rfl, (by repeat (first | exact Below.refl _ _ | assumption | refine Below.setCell ?_ (by first | (simp; done) | omega | (simp; omega) | (simp at *; omega)) _ | refine Below.alloc ?_ (by first | (simp; done) | omega | (simp; omega) | (simp at *; omega)) _ | refine Below.drew ?_ | (refine Below.trans ?_ (Below.mono (by assumption) (by first | (simp; done) | omega | (simp; omega) | (simp at *; omega)))) | (refine Below.trans ?_ (Below.mono (below_regrown _ _ _) (by first | (simp; done) | omega | (simp; omega) | (simp at *; omega))))))⟩
      · rw [Fx.mdv_yes ho]
        go_enter Tryd.func90, Tryd.ntmps90
        go_wp2_with first | (go_at_call 96; go_must (refine (isNumber_any _ _ _).mono ?_; rintro e w' ⟨rfl, hb⟩; obtain ⟨hc, hf⟩ := bcell hb; (try have hz0 : w.heap.size < w'.heap.size := Nat.lt_of_lt_of_le (by first | assumption | (simp; done) | (simp; omega)) hb.size); (try have hz1 : w.heap.size + 1 < w'.heap.size := Nat.lt_of_lt_of_le (by first | assumption | (simp; done) | (simp; omega)) hb.size); (try have hz2 : w.heap.size + 1 + 1 < w'.heap.size := Nat.lt_of_lt_of_le (by first | assumption | (simp; done) | (simp; omega)) hb.size); have hz := hb.size; (try simp at hz))) | (go_at_call 98; go_must (refine (HM.out _).mono ?_; rintro e w' ⟨rfl, hb⟩; obtain ⟨hc, hf⟩ := bcell hb; (try have hz0 : w.heap.size < w'.heap.size := Nat.lt_of_lt_of_le (by first | assumption | (simp; done) | (simp; omega)) hb.size); (try have hz1 : w.heap.size + 1 < w'.heap.size := Nat.lt_of_lt_of_le (by first | assumption | (simp; done) | (simp; omega)) hb.size); (try have hz2 : w.heap.size + 1 + 1 < w'.heap.size := Nat.lt_of_lt_of_le (by first | assumption | (simp; done) | (simp; omega)) hb.size); have hz := hb.size; (try simp at hz))) | (go_at_call 97; go_must (refine (ofQuotient_yes _ _).mono ?_; rintro e w' ⟨rfl, hb⟩; obtain ⟨hc, hf⟩ := bcell hb; (try have hz0 : w.heap.size < w'.heap.size := Nat.lt_of_lt_of_le (by first | assumption | (simp; done) | (simp; omega)) hb.size); (try have hz1 : w.heap.size + 1 < w'.heap.size := Nat.lt_of_lt_of_le (by first | assumption | (simp; done) | (simp; omega)) hb.size); (try have hz2 : w.heap.size + 1 + 1 < w'.heap.size := Nat.lt_of_lt_of_le (by first | assumption | (simp; done) | (simp; omega)) hb.size); have hz := hb.size; (try simp at hz)))
        exact bodyPost_ret (v := (.agg #[.bool (Fx.of (Fx.mdn m 1000000 n)).ok, .int .i64 (Fx.of (Fx.mdn m 1000000 n)).n])) (by simp [results, Tryd.results90, go_sem, *]) rfl ⟨rfl, (by repeat (first | exact Below.refl _ _ | assumption | refine Below.setCell ?_ (by first | (simp; done) | omega | (simp; omega) | (simp at *; omega)) _ | refine Below.alloc ?_ (by first | (simp; done) | omega | (simp; omega) | (simp at *; omega)) _ | refine Below.drew ?_ | (refine Below.trans ?_ (Below.mono (by assumption) (by first | (simp; done) | omega | (simp; omega) | (simp at *; omega)))) | (refine Below.trans ?_ (Below.mono (below_regrown _ _ _) (by first | (simp; done) | omega | (simp; omega) | (simp at *; omega))))))⟩

end Go.Proofs.YtbhfapbhlkgmfaaDoor

namespace Go.Proofs.YtbhfapbhlkgmfaaDoor
open Go.RowKit Go.Sort
open Fx (Vl)
open Me

theorem vl_eta (v : Vl) : v = ⟨v.ok, v.n⟩ := rfl

set_option maxHeartbeats 2000000 in
theorem together_some (kind : Int) (l : List Vl) (h0 : 0 < l.length) (hl : l.length ≤ 1000000) (b off cap : Nat) (w : World) (hv : Vals w b off l) :
    Calls Tryd.prog 85 #[.int .i64 kind, .slice (some ⟨b, off, none⟩) l.length cap] w fun e w' => e = .returned (.agg #[.bool (Ag.tg kind l).ok, .int .i64 (Ag.tg kind l).n]) ∧ Below w.heap.size w w' := by
  have HA : Hid (∀ W, Below w.heap.size w W → Calls Tryd.prog 91 #[.slice (some ⟨b, off, none⟩) l.length cap] W fun e w' => e = .returned (.agg #[.bool (sum l).ok, .int .i64 (sum l).n]) ∧ Below W.heap.size W w') := Lib.hid fun W hb => add_some l (by omega) b off cap W (hv.below hb)
  have hne : ¬ ((l.length : Int) = 0) := by omega
  by_cases h1 : kind = 1
  · subst h1
    have HI : Hid (∀ W, Calls Tryd.prog 92 #[.int .i64 (l.length : Int)] W fun e w' => e = .returned (.agg #[.bool (Fx.of ((l.length : Int) * 1000000)).ok, .int .i64 (Fx.of ((l.length : Int) * 1000000)).n]) ∧ Below W.heap.size W w') := Lib.hid fun W => int_any _ W
    have HD : Hid (∀ s d W, Calls Tryd.prog 90 #[(.agg #[.bool s.ok, .int .i64 s.n]), (.agg #[.bool d.ok, .int .i64 d.n])] W fun e w' => e = .returned (.agg #[.bool (Fx.div s d).ok, .int .i64 (Fx.div s d).n]) ∧ Below W.heap.size W w') := Lib.hid fun s d W => div_any s.ok s.n d.ok d.n W
    replace HD := Lib.hid (HD.out (sum l) (Fx.of ((l.length : Int) * 1000000)))
    rw [Ag.tg_1 h0]
    generalize Fx.div (sum l) (Fx.of ((l.length : Int) * 1000000)) = q at *
    generalize Fx.of ((l.length : Int) * 1000000) = d at *
    generalize sum l = s at *
    obtain ⟨qo, qn⟩ := q
    obtain ⟨do_, dn⟩ := d
    obtain ⟨so, sn⟩ := s
    go_enter Tryd.func85, Tryd.ntmps85
    go_wp2_with first | (go_at_call 91; (((with_reducible refine (HA.out _ ((Below.refl _ _).alloc (Nat.le_refl _) _)).mono ?_)); rintro e w1 ⟨rfl, hb1⟩; obtain ⟨hc1, hf1⟩ := bcell hb1; (try have hq1w : w.heap.size < w1.heap.size := Nat.lt_of_lt_of_le (by first | assumption | (simp; done) | (simp; omega)) hb1.size); have hs1 := hb1.size; (try simp at hs1))) | (go_at_call 92; (((with_reducible refine (HI.out _).mono ?_)); rintro e w2 ⟨rfl, hb2⟩; obtain ⟨hc2, hf2⟩ := bcell hb2; (try have hq2w : w.heap.size < w2.heap.size := Nat.lt_of_lt_of_le (by first | assumption | (simp; done) | (simp; omega)) hb2.size); (try have hq2w1 : w1.heap.size < w2.heap.size := Nat.lt_of_lt_of_le (by first | assumption | (simp; done) | (simp; omega)) hb2.size); have hs2 := hb2.size; (try simp at hs2))) | (go_at_call 90; (((with_reducible refine (HD.out _).mono ?_)); rintro e w3 ⟨rfl, hb3⟩; obtain ⟨hc3, hf3⟩ := bcell hb3; (try have hq3w : w.heap.size < w3.heap.size := Nat.lt_of_lt_of_le (by first | assumption | (simp; done) | (simp; omega)) hb3.size); (try have hq3w2 : w2.heap.size < w3.heap.size := Nat.lt_of_lt_of_le (by first | assumption | (simp; done) | (simp; omega)) hb3.size); have hs3 := hb3.size; (try simp at hs3)))
    exact bodyPost_ret (v := .agg #[.bool qo, .int .i64 qn]) (by simp [results, Tryd.results85, go_sem, *]) rfl ⟨rfl, (by repeat (first | exact Below.refl _ _ | assumption | refine Below.setCell ?_ (by first | (simp; done) | omega | (simp; omega) | (simp at *; omega)) _ | refine Below.alloc ?_ (by first | (simp; done) | omega | (simp; omega) | (simp at *; omega)) _ | refine Below.drew ?_ | (refine Below.trans ?_ (Below.mono (by assumption) (by first | (simp; done) | omega | (simp; omega) | (simp at *; omega)))) | (refine Below.trans ?_ (Below.mono (below_regrown _ _ _) (by first | (simp; done) | omega | (simp; omega) | (simp at *; omega))))))⟩
  by_cases h2 : kind = 2
  · subst h2
    rw [Ag.tg_2 h0]
    generalize sum l = s at *
    obtain ⟨so, sn⟩ := s
    go_enter Tryd.func85, Tryd.ntmps85
    go_wp2_with (go_at_call 91; (((with_reducible refine (HA.out _ ((Below.refl _ _).alloc (Nat.le_refl _) _)).mono ?_)); rintro e w1 ⟨rfl, hb1⟩; obtain ⟨hc1, hf1⟩ := bcell hb1; (try have hq1w : w.heap.size < w1.heap.size := Nat.lt_of_lt_of_le (by first | assumption | (simp; done) | (simp; omega)) hb1.size); have hs1 := hb1.size; (try simp at hs1)))
    exact bodyPost_ret (v := .agg #[.bool so, .int .i64 sn]) (by simp [results, Tryd.results85, go_sem, *]) rfl ⟨rfl, (by repeat (first | exact Below.refl _ _ | assumption | refine Below.setCell ?_ (by first | (simp; done) | omega | (simp; omega) | (simp at *; omega)) _ | refine Below.alloc ?_ (by first | (simp; done) | omega | (simp; omega) | (simp at *; omega)) _ | refine Below.drew ?_ | (refine Below.trans ?_ (Below.mono (by assumption) (by first | (simp; done) | omega | (simp; omega) | (simp at *; omega)))) | (refine Below.trans ?_ (Below.mono (below_regrown _ _ _) (by first | (simp; done) | omega | (simp; omega) | (simp at *; omega))))))⟩
  clear HA
  by_cases h3 : kind = 3
  · subst h3
    rw [Ag.tg_3 h0]
    have x0 := hv.ok (l.length - 1) (by omega)
    have x1 := hv.n (l.length - 1) (by omega)
    have hbr := hv.lt
    generalize l[l.length - 1]'(by omega) = e at *
    obtain ⟨eo, en⟩ := e
    clear hv
    generalize l.length = n at *
    obtain ⟨m, rfl⟩ : ∃ m, n = m + 1 := ⟨n - 1, by omega⟩
    simp only [Nat.add_sub_cancel] at x0 x1
    go_enter Tryd.func85, Tryd.ntmps85
    go_wp2_with fail
    exact bodyPost_ret (v := .agg #[.bool eo, .int .i64 en]) (by simp [results, Tryd.results85, go_sem, *]) rfl ⟨rfl, (by repeat (first | exact Below.refl _ _ | assumption | refine Below.setCell ?_ (by first | (simp; done) | omega | (simp; omega) | (simp at *; omega)) _ | refine Below.alloc ?_ (by first | (simp; done) | omega | (simp; omega) | (simp at *; omega)) _ | refine Below.drew ?_ | (refine Below.trans ?_ (Below.mono (by assumption) (by first | (simp; done) | omega | (simp; omega) | (simp at *; omega)))) | (refine Below.trans ?_ (Below.mono (below_regrown _ _ _) (by first | (simp; done) | omega | (simp; omega) | (simp at *; omega))))))⟩
  by_cases h4 : kind = 4
  · subst h4
    have HM : Hid (∀ W, Below w.heap.size w W → Calls Tryd.prog 93 #[.slice (some ⟨b, off, none⟩) l.length cap, .func (.func 94) #[] #[]] W fun e w' => e = .returned (.agg #[.bool (Ag.mx l).ok, .int .i64 (Ag.mx l).n]) ∧ Below W.heap.size W w') := Lib.hid fun W hb => maxFunc_some l h0 (by omega) b off cap W (hv.below hb)
    rw [Ag.tg_4 h0]
    generalize Ag.mx l = s at *
    obtain ⟨so, sn⟩ := s
    go_enter Tryd.func85, Tryd.ntmps85
    go_wp2_with (go_at_call 93; (((with_reducible refine (HM.out _ ((Below.refl _ _).alloc (Nat.le_refl _) _)).mono ?_)); rintro e w1 ⟨rfl, hb1⟩; obtain ⟨hc1, hf1⟩ := bcell hb1; (try have hq1w : w.heap.size < w1.heap.size := Nat.lt_of_lt_of_le (by first | assumption | (simp; done) | (simp; omega)) hb1.size); have hs1 := hb1.size; (try simp at hs1)))
    exact bodyPost_ret (v := .agg #[.bool so, .int .i64 sn]) (by simp [results, Tryd.results85, go_sem, *]) rfl ⟨rfl, (by repeat (first | exact Below.refl _ _ | assumption | refine Below.setCell ?_ (by first | (simp; done) | omega | (simp; omega) | (simp at *; omega)) _ | refine Below.alloc ?_ (by first | (simp; done) | omega | (simp; omega) | (simp at *; omega)) _ | refine Below.drew ?_ | (refine Below.trans ?_ (Below.mono (by assumption) (by first | (simp; done) | omega | (simp; omega) | (simp at *; omega)))) | (refine Below.trans ?_ (Below.mono (below_regrown _ _ _) (by first | (simp; done) | omega | (simp; omega) | (simp at *; omega))))))⟩
  by_cases h5 : kind = 5
  · subst h5
    have HM : Hid (∀ W, Below w.heap.size w W → Calls Tryd.prog 95 #[.slice (some ⟨b, off, none⟩) l.length cap, .func (.func 94) #[] #[]] W fun e w' => e = .returned (.agg #[.bool (Ag.mn l).ok, .int .i64 (Ag.mn l).n]) ∧ Below W.heap.size W w') := Lib.hid fun W hb => minFunc_some l h0 (by omega) b off cap W (hv.below hb)
    rw [Ag.tg_5 h0]
    generalize Ag.mn l = s at *
    obtain ⟨so, sn⟩ := s
    go_enter Tryd.func85, Tryd.ntmps85
    go_wp2_with (go_at_call 95; (((with_reducible refine (HM.out _ ((Below.refl _ _).alloc (Nat.le_refl _) _)).mono ?_)); rintro e w1 ⟨rfl, hb1⟩; obtain ⟨hc1, hf1⟩ := bcell hb1; (try have hq1w : w.heap.size < w1.heap.size := Nat.lt_of_lt_of_le (by first | assumption | (simp; done) | (simp; omega)) hb1.size); have hs1 := hb1.size; (try simp at hs1)))
    exact bodyPost_ret (v := .agg #[.bool so, .int .i64 sn]) (by simp [results, Tryd.results85, go_sem, *]) rfl ⟨rfl, (by repeat (first | exact Below.refl _ _ | assumption | refine Below.setCell ?_ (by first | (simp; done) | omega | (simp; omega) | (simp at *; omega)) _ | refine Below.alloc ?_ (by first | (simp; done) | omega | (simp; omega) | (simp at *; omega)) _ | refine Below.drew ?_ | (refine Below.trans ?_ (Below.mono (by assumption) (by first | (simp; done) | omega | (simp; omega) | (simp at *; omega)))) | (refine Below.trans ?_ (Below.mono (below_regrown _ _ _) (by first | (simp; done) | omega | (simp; omega) | (simp at *; omega))))))⟩
  rw [Ag.tg_no h1 h2 h3 h4 h5]
  clear hv
  go_enter Tryd.func85, Tryd.ntmps85
  go_wp2_with fail
  exact bodyPost_ret (v := .agg #[.bool false, .int .i64 0]) (by simp [results, Tryd.results85, go_sem, *]) rfl ⟨rfl, (by repeat (first | exact Below.refl _ _ | assumption | refine Below.setCell ?_ (by first | (simp; done) | omega | (simp; omega) | (simp at *; omega)) _ | refine Below.alloc ?_ (by first | (simp; done) | omega | (simp; omega) | (simp at *; omega)) _ | refine Below.drew ?_ | (refine Below.trans ?_ (Below.mono (by assumption) (by first | (simp; done) | omega | (simp; omega) | (simp at *; omega)))) | (refine Below.trans ?_ (Below.mono (below_regrown _ _ _) (by first | (simp; done) | omega | (simp; omega) | (simp at *; omega))))))⟩

set_option maxHeartbeats 1000000 in
theorem together_zero (kind : Int) (x : Option Addr) (cap : Nat) (w : World) :
    Calls Tryd.prog 85 #[.int .i64 kind, .slice x 0 cap] w fun e w' => e = .returned (.agg #[.bool (Ag.tg kind []).ok, .int .i64 (Ag.tg kind []).n]) ∧ Below w.heap.size w w' := by
  rw [Ag.tg_nil]
  go_enter Tryd.func85, Tryd.ntmps85
  go_wp2_with fail
  exact bodyPost_ret (v := .agg #[.bool false, .int .i64 0]) (by simp [results, Tryd.results85, go_sem, *]) rfl ⟨rfl, (by repeat (first | exact Below.refl _ _ | assumption | refine Below.setCell ?_ (by first | (simp; done) | omega | (simp; omega) | (simp at *; omega)) _ | refine Below.alloc ?_ (by first | (simp; done) | omega | (simp; omega) | (simp at *; omega)) _ | refine Below.drew ?_ | (refine Below.trans ?_ (Below.mono (by assumption) (by first | (simp; done) | omega | (simp; omega) | (simp at *; omega)))) | (refine Below.trans ?_ (Below.mono (below_regrown _ _ _) (by first | (simp; done) | omega | (simp; omega) | (simp at *; omega))))))⟩
theorem together_v (kind : Int) (l : List Vl) (hl : l.length ≤ 1000000) (v : Value) (w : World) (hv : Sl w v l) :
    Calls Tryd.prog 85 #[.int .i64 kind, v] w fun e w' => e = .returned (.agg #[.bool (Ag.tg kind l).ok, .int .i64 (Ag.tg kind l).n]) ∧ Below w.heap.size w w' := by
  rcases hv with ⟨rfl, x, cap, rfl⟩ | ⟨h0, b, off, cap, rfl, hv⟩
  · exact together_zero kind x cap w
  · exact together_some kind l h0 hl b off cap w hv

set_option maxHeartbeats 1000000 in
theorem put_v (kind xff : Int) (l : List Vl) (hl : l.length ≤ 1000000) (v : Value) (w : World) (hv : Sl w v l) :
    Calls Tryd.prog 70 #[.int .i64 kind, .int .i64 xff, v] w fun e w' => e = .returned (.agg #[.bool (Ag.put kind xff l).ok, .int .i64 (Ag.put kind xff l).n]) ∧ Below w.heap.size w w' := by
  have HK : Hid (∀ W, Below w.heap.size w W → Calls Tryd.prog 83 #[v] W (Knew W (Ag.kn l))) := Lib.hid fun W hb => known_v l hl v W (hv.below hb)
  have hkl : (Ag.kn l).length ≤ 1000000 := Nat.le_trans (Ag.kn_len l) hl
  have HT : Hid (∀ u W, Sl W u (Ag.kn l) → Calls Tryd.prog 85 #[.int .i64 kind, u] W fun e w' => e = .returned (.agg #[.bool (Ag.tg kind (Ag.kn l)).ok, .int .i64 (Ag.tg kind (Ag.kn l)).n]) ∧ Below W.heap.size W w') := Lib.hid fun u W h => together_v kind _ hkl u W h
  have HE : Hid (∀ W, Calls Tryd.prog 84 #[.int .i64 xff, .int .i64 ((Ag.kn l).length : Int), .int .i64 (l.length : Int)] W fun e w' => e = .returned (.bool (Ag.en xff ((Ag.kn l).length : Int) (l.length : Int))) ∧ W = w') := Lib.hid fun W => enough_any _ _ _ W
  have HQ : Hid (Ag.put kind xff l = if Ag.en xff ((Ag.kn l).length : Int) (l.length : Int) = true then Ag.tg kind (Ag.kn l) else Fx.none) := Lib.hid rfl
  obtain ⟨A, c, rfl⟩ := hv.form
  clear hv
  generalize Ag.en xff ((Ag.kn l).length : Int) (l.length : Int) = en at *
  generalize Ag.put kind xff l = p at *
  generalize Ag.tg kind (Ag.kn l) = q at *
  generalize Ag.kn l = m at *
  obtain ⟨qo, qn⟩ := q
  cases en
  · obtain rfl : p = Fx.none := HQ.out
    go_enter Tryd.func70, Tryd.ntmps70
    go_wp2_with first
      | (go_at_call 83; go_must (refine (HK.out _ (by repeat (first | exact Below.refl _ _ | assumption | refine Below.setCell ?_ (by first | (simp; done) | omega | (simp; omega) | (simp at *; omega)) _ | refine Below.alloc ?_ (by first | (simp; done) | omega | (simp; omega) | (simp at *; omega)) _ | refine Below.drew ?_ | (refine Below.trans ?_ (Below.mono (by assumption) (by first | (simp; done) | omega | (simp; omega) | (simp at *; omega)))) | (refine Below.trans ?_ (Below.mono (below_regrown _ _ _) (by first | (simp; done) | omega | (simp; omega) | (simp at *; omega))))))).mono ?_; rintro e w1 ⟨v1, rfl, ho1, hb1⟩; obtain ⟨hc1, hf1⟩ := bcell hb1; have hq1w : w.heap.size < w1.heap.size := Nat.lt_of_lt_of_le (by simp) hb1.size; obtain ⟨A1, c1, rfl⟩ := ho1.slice; have HS1 := Lib.hid ho1.sl; clear ho1))
      | (go_at_call 84; go_must (refine (HE.out _).mono ?_; rintro e w' ⟨rfl, rfl⟩))
    exact bodyPost_ret (v := .agg #[.bool false, .int .i64 0]) (by simp [results, Tryd.results70, go_sem, *]) rfl ⟨rfl, (by repeat (first | exact Below.refl _ _ | assumption | refine Below.setCell ?_ (by first | (simp; done) | omega | (simp; omega) | (simp at *; omega)) _ | refine Below.alloc ?_ (by first | (simp; done) | omega | (simp; omega) | (simp at *; omega)) _ | refine Below.drew ?_ | (refine Below.trans ?_ (Below.mono (by assumption) (by first | (simp; done) | omega | (simp; omega) | (simp at *; omega)))) | (refine Below.trans ?_ (Below.mono (below_regrown _ _ _) (by first | (simp; done) | omega | (simp; omega) | (simp at *; omega))))))⟩
  · obtain rfl : p = ⟨qo, qn⟩ := HQ.out
    go_enter Tryd.func70, Tryd.ntmps70
    go_wp2_with first
      | (go_at_call 83; go_must (refine (HK.out _ (by repeat (first | exact Below.refl _ _ | assumption | refine Below.setCell ?_ (by first | (simp; done) | omega | (simp; omega) | (simp at *; omega)) _ | refine Below.alloc ?_ (by first | (simp; done) | omega | (simp; omega) | (simp at *; omega)) _ | refine Below.drew ?_ | (refine Below.trans ?_ (Below.mono (by assumption) (by first | (simp; done) | omega | (simp; omega) | (simp at *; omega)))) | (refine Below.trans ?_ (Below.mono (below_regrown _ _ _) (by first | (simp; done) | omega | (simp; omega) | (simp at *; omega))))))).mono ?_; rintro e w1 ⟨v1, rfl, ho1, hb1⟩; obtain ⟨hc1, hf1⟩ := bcell hb1; have hq1w : w.heap.size < w1.heap.size := Nat.lt_of_lt_of_le (by simp) hb1.size; obtain ⟨A1, c1, rfl⟩ := ho1.slice; have HS1 := Lib.hid ho1.sl; clear ho1))
      | (go_at_call 84; go_must (refine (HE.out _).mono ?_; rintro e w' ⟨rfl, rfl⟩))
      | (go_at_call 85; (((with_reducible refine (HT.out _ _ HS1.out).mono ?_)); rintro e w2 ⟨rfl, hb2⟩; obtain ⟨hc2, hf2⟩ := bcell hb2; (try have hq2w : w.heap.size < w2.heap.size := Nat.lt_of_lt_of_le (by first | assumption | (simp; done) | (simp; omega)) hb2.size); (try have hq2w1 : w1.heap.size < w2.heap.size := Nat.lt_of_lt_of_le (by first | assumption | (simp; done) | (simp; omega)) hb2.size); have hs2 := hb2.size; (try simp at hs2)))
    exact bodyPost_ret (v := .agg #[.bool qo, .int .i64 qn]) (by simp [results, Tryd.results70, go_sem, *]) rfl ⟨rfl, (by repeat (first | exact Below.refl _ _ | assumption | refine Below.setCell ?_ (by first | (simp; done) | omega | (simp; omega) | (simp at *; omega)) _ | refine Below.alloc ?_ (by first | (simp; done) | omega | (simp; omega) | (simp at *; omega)) _ | refine Below.drew ?_ | (refine Below.trans ?_ (Below.mono (by assumption) (by first | (simp; done) | omega | (simp; omega) | (simp at *; omega)))) | (refine Below.trans ?_ (Below.mono (below_regrown _ _ _) (by first | (simp; done) | omega | (simp; omega) | (simp at *; omega))))))⟩
end Go.Proofs.YtbhfapbhlkgmfaaDoor

namespace Go.Proofs.YtbhfapbhlkgmfaaDoor
open Go.RowKit

theorem and1 (x : Nat) (hx : x < 18446744073709551616) : bits .and .u64 (x : Int) 1 = ((x % 2 : Nat) : Int) := by
  have h := bits_and_u64_nat x 1 hx (by omega)
  rw [Nat.and_one_is_mod] at h
  exact h
theorem or1 (x β : Nat) (hx : x * 2 + β < 18446744073709551616) (hβ : β < 2) : bits .or .u64 ((x : Int) * 2) (β : Int) = ((x * 2 + β : Nat) : Int) := by
  have h := bits_or_u64_nat (x * 2) β (by omega) (by omega)
  have h2 := Nat.two_pow_add_eq_or_of_lt (i := 1) (b := β) (by omega) x
  rw [Nat.pow_one, Nat.mul_comm 2 x] at h2
  rw [← h2] at h
  rw [← h, Int.natCast_mul]; rfl
theorem or1' (x : Nat) (hx : x * 2 + 1 < 18446744073709551616) : bits .or .u64 ((x * 2 : Nat) : Int) 1 = ((x * 2 + 1 : Nat) : Int) := by
  have h := or1 x 1 hx (by omega)
  rw [Int.natCast_mul]; exact h
theorem and63 (i : Nat) (hi : i < 9223372036854775808) : bits .and .i64 (i : Int) 63 = ((i % 64 : Nat) : Int) := by
  have h1 : (BitVec.ofInt 64 (i : Int)).toNat = i := by
    rw [BitVec.ofInt_natCast, BitVec.toNat_ofNat]; exact Nat.mod_eq_of_lt (by omega)
  have e : i &&& 63 = i % 64 := Nat.and_two_pow_sub_one_eq_mod i 6
  show IntKind.i64.wrap ((BitVec.ofInt 64 (i : Int) &&& BitVec.ofInt 64 63).toNat : Int) = _
  rw [BitVec.toNat_and, h1, show (BitVec.ofInt 64 63).toNat = 63 by decide, e, IntKind.wrap_i64]
  omega

end Go.Proofs.YtbhfapbhlkgmfaaDoor

namespace Go.Proofs.YtbhfapbhlkgmfaaDoor
open Go.RowKit

end Go.Proofs.YtbhfapbhlkgmfaaDoor

namespace Go.Proofs.YtbhfapbhlkgmfaaDoor
open Go.RowKit Go.Sort
open Fx (Vl)
open Me

/-- What the document keeps on its way: for kind 4 the greatest so far, for kind 5 the least, else the first. -/
def Ag.run (kind : Int) (m : List Vl) (k : Nat) : Vl := if kind = 4 then Ag.mx (m.take k) else if kind = 5 then Ag.mn (m.take k) else m.getD 0 Fx.none
theorem Ag.run_one (kind : Int) (m : List Vl) (h : 0 < m.length) : Ag.run kind m 1 = m[0] := by
  unfold Ag.run
  split
  · exact Ag.mx_one m h
  · split
    · exact Ag.mn_one m h
    · rw [List.getD_eq_getElem?_getD, List.getElem?_eq_getElem h]; rfl
def Ag.best (kind : Int) (a b : Vl) : Vl := if kind = 4 then Ag.mx1 a b else if kind = 5 then Ag.mn1 a b else a
theorem Ag.run_step (kind : Int) (m : List Vl) (k : Nat) (h1 : 1 ≤ k) (h : k < m.length) : Ag.run kind m (k + 1) = Ag.best kind (Ag.run kind m k) m[k] := by
  unfold Ag.run Ag.best
  split
  · exact Ag.mx_take m k h1 h
  · split
    · exact Ag.mn_take m k h1 h
    · rfl
theorem Ag.best_4 {a b : Vl} (h : a.n < b.n) : Ag.best 4 a b = b := Ag.mx1_yes h
theorem Ag.best_4n {a b : Vl} (h : ¬ a.n < b.n) : Ag.best 4 a b = a := Ag.mx1_no h
theorem Ag.best_5 {a b : Vl} (h : b.n < a.n) : Ag.best 5 a b = b := Ag.mn1_yes h
theorem Ag.best_5n {a b : Vl} (h : ¬ b.n < a.n) : Ag.best 5 a b = a := Ag.mn1_no h
theorem Ag.best_no {kind : Int} {a b : Vl} (h4 : kind ≠ 4) (h5 : kind ≠ 5) : Ag.best kind a b = a := by unfold Ag.best; rw [if_neg h4, if_neg h5]
theorem Ag.run_4 (m : List Vl) : Ag.run 4 m m.length = Ag.mx m := by unfold Ag.run; rw [if_pos rfl, List.take_length]
theorem Ag.run_5 (m : List Vl) : Ag.run 5 m m.length = Ag.mn m := by unfold Ag.run; rw [if_neg (by decide), if_pos rfl, List.take_length]

theorem OwnV.vals {base : Nat} {w : World} {v : Value} {l : List Vl} (h : OwnV base w v l) (h0 : 0 < l.length) : ∃ b off cap, v = .slice (some ⟨b, off, none⟩) l.length cap ∧ Vals w b off l := by
  rcases h.sl with ⟨e, _⟩ | ⟨_, h⟩
  · rw [e] at h0; exact absurd h0 (Nat.lt_irrefl _)
  · exact h
theorem BestRel.start2 {w w' : World} {T : TypeId} (ok : Bool) (n : Int) (hb : Below (w.alloc (.cells #[.bool false, .int .i64 0] T)).heap.size (w.alloc (.cells #[.bool false, .int .i64 0] T)) w') :
    BestRel w (w'.alloc (.cells #[.bool ok, .int .i64 n] T)) w.heap.size w'.heap.size ⟨ok, n⟩ := by
  have hz := hb.size
  have hsz : (w.alloc (.cells #[.bool false, .int .i64 0] T)).heap.size = w.heap.size + 1 := by simp
  rw [hsz] at hz
  have hc : ∀ f, w'.cell? ⟨w.heap.size, f, none⟩ = (w.alloc (.cells #[.bool false, .int .i64 0] T)).cell? ⟨w.heap.size, f, none⟩ := fun f => hb.cell (p := ⟨w.heap.size, f, none⟩) (by rw [hsz]; show w.heap.size < _; omega)
  have hf : ∀ f, w'.frozen? ⟨w.heap.size, f, none⟩ = (w.alloc (.cells #[.bool false, .int .i64 0] T)).frozen? ⟨w.heap.size, f, none⟩ := fun f => hb.frozen (p := ⟨w.heap.size, f, none⟩) (by rw [hsz]; show w.heap.size < _; omega)
  have hlt : w.heap.size < w'.heap.size := by omega
  refine ⟨?_, Nat.le_refl _, by omega, by simp, ?_, ?_, ?_, ?_, ?_, ?_, ?_, ?_⟩
  · exact (((Below.refl w.heap.size w).alloc (Nat.le_refl _) _).trans (hb.mono (by omega))).alloc (by omega) _
  all_goals simp [go_sem, *]
theorem BestRel.drewN {w wr : World} {r s : Nat} {v : Vl} (h : BestRel w wr r s v) (n : Nat) : BestRel w (wr.drewN n) r s v := h.step (below_drewN _ _ _)

end Go.Proofs.YtbhfapbhlkgmfaaDoor

namespace Go.Proofs.YtbhfapbhlkgmfaaDoor
open Go.RowKit Go.Sort
open Fx (Vl)
open Me

/-- What every law asks at its end: true. -/
theorem put_known : Ag.put 1 500000 [⟨true, 1000000⟩, ⟨false, 0⟩, ⟨true, 3000000⟩] = ⟨true, 2000000⟩ := by rfl

end Go.Proofs.YtbhfapbhlkgmfaaDoor

namespace Go.Proofs.YtbhfapbhlkgmfaaDoor
open Go.RowKit Go.Sort
open Fx (Vl)
open Me
open Wp

namespace Wp
theorem sm_cnt {l : List (Int × Int)} {i : Nat} : ∀ k, (∀ j, j < k → 1 ≤ (Wh.At l j).2) → i < k → 12 * (Wh.At l i).2 ≤ Wh.sm l k
  | 0, _, h => by omega
  | k + 1, hc, h => by
    unfold Wh.sm
    have h0 : 0 ≤ Wh.sm l k := by
      clear h
      have : ∀ m, m ≤ k → 0 ≤ Wh.sm l m := fun m => by
        induction m with
        | zero => intro _; exact Int.le_refl _
        | succ m ih => intro hm; unfold Wh.sm; have := ih (by omega); have := hc m (by omega); omega
      exact this k (Nat.le_refl _)
    by_cases e : i = k
    · subst e; omega
    · have := sm_cnt (l := l) (i := i) k (fun j hj => hc j (by omega)) (by omega)
      have := hc k (by omega)
      omega
theorem cnt_bd {h : Hd} (hv : h.val = true) (i : Nat) (hi : i < h.l.length) : h.cnt i ≤ 87381 := by
  obtain ⟨_, _, _, ha⟩ := Wh.val_t hv
  obtain ⟨a1, a2, a3, a4, a5⟩ := Wh.av_t ha
  have h1 := sm_cnt (l := h.l) (i := i) h.l.length (fun j hj => ((Wh.alls_num hj a3).2).1) hi
  have h2 : Wh.ends h.l h.l.length = 16 + 12 * (h.l.length : Int) + Wh.sm h.l h.l.length := rfl
  show (Wh.At h.l i).2 ≤ 87381
  omega
theorem many_bd {h : Hd} (hv : h.val = true) (i : Nat) (hi : i + 1 < h.l.length) : h.step (i + 1) / h.step i = (many h i : Int) ∧ many h i ≤ 87381 := by
  obtain ⟨_, _, _, ha⟩ := Wh.val_t hv
  obtain ⟨a1, a2, a3, a4, a5⟩ := Wh.av_t ha
  have hs := Wh.alls_stp hi a3
  have h0 : 0 ≤ h.step (i + 1) / h.step i := Int.ediv_nonneg (by have := (Hd.nums hv (i + 1) hi).1; omega) (by have := (Hd.nums hv i (by omega)).1; omega)
  have h1 : h.step (i + 1) / h.step i ≤ h.cnt i := by
    unfold Wh.stp Wh.fol at hs
    simp only [Bool.and_eq_true, Bool.or_eq_true, decide_eq_true_eq, Nat.add_sub_cancel] at hs
    rcases hs.2 with e | e
    · omega
    · exact e.2
  have h2 := cnt_bd hv i (by omega)
  unfold many
  omega
theorem vals_succ (fs : List Vf.Fl) (n : List UInt8) (h : Hd) (i : Nat) (t : Int) (k : Nat) : vals fs n h i t (k + 1) = vals fs n h i t k ++ [value fs n h i (Sl.al t (h.step (i + 1)) + (k : Int) * h.step i)] := by
  unfold vals; rw [List.range_succ, List.map_append]; rfl
theorem vals_len (fs : List Vf.Fl) (n : List UInt8) (h : Hd) (i : Nat) (t : Int) (k : Nat) : (vals fs n h i t k).length = k := by unfold vals; simp
theorem al_bd {t s : Int} (h0 : 0 ≤ t) (hs : 1 ≤ s) : 0 ≤ Sl.al t s ∧ Sl.al t s ≤ t := by
  rw [Sl.al_eq hs h0]
  have h1 := Int.emod_nonneg t (by omega : s ≠ 0)
  have h2 := Int.emod_lt_of_pos t (by omega : 0 < s)
  have h3 := Int.mul_nonneg (by omega : 0 ≤ s) (Int.ediv_nonneg h0 (by omega : 0 ≤ s))
  have h4 := Int.emod_add_mul_ediv t s
  omega
end Wp

theorem below_via {a b c : World} (h : Below b.heap.size b c) (k : Below a.heap.size a b) : Below a.heap.size a c := k.trans (h.mono k.size)
theorem keep2 {w : World} {x g i : Nat} {u v : Value} (h : x ≠ g) : ((w.setCell ⟨g, 0, none⟩ u).setCell ⟨g, 1, none⟩ v).cell? ⟨x, i, none⟩ = w.cell? ⟨x, i, none⟩ :=
  World.cell?_of_block ((Below.heap_setCell _ _ _ _ h).trans (Below.heap_setCell _ _ _ _ h))

end Go.Proofs.YtbhfapbhlkgmfaaDoor

namespace Go.Proofs.YtbhfapbhlkgmfaaDoor
open Go.RowKit Go.Sort
open Fx (Vl)
open Me
open Wp

namespace Wp
theorem passes_no {S : Vf.Sv} {n : List UInt8} {h : Hd} {i : Nat} {t : Int} (e : (passes S n h i t).2 = false) : (passes S n h i t).1 = S := by
  unfold passes at e ⊢
  dsimp only at e ⊢
  split at e
  · rename_i hh; rw [if_pos hh]
  · cases e
theorem climb_no {n : List UInt8} {h : Hd} {t : Int} {m : Nat} {S : Vf.Sv} {k : Nat} (e : (passes S n h k t).2 = false) : climb n h t m S k = S := by
  cases m with
  | zero => rfl
  | succ m => unfold climb; rw [if_neg (by rw [e]; exact Bool.false_ne_true)]
theorem climb_yes {n : List UInt8} {h : Hd} {t : Int} {m : Nat} {S : Vf.Sv} {k : Nat} (e : (passes S n h k t).2 = true) : climb n h t (m + 1) S k = climb n h t m (passes S n h k t).1 (k + 1) := by
  conv => lhs; unfold climb
  rw [if_pos e]
theorem first_yes {h : Hd} {d : Int} {m i : Nat} (e : d < h.step i * h.cnt i) : first h d (m + 1) i = some i := by unfold first; rw [if_pos e]
theorem first_no {h : Hd} {d : Int} {m i : Nat} (e : ¬ d < h.step i * h.cnt i) : first h d (m + 1) i = first h d m (i + 1) := by
  conv => lhs; unfold first
  rw [if_neg e]
theorem first_zero {h : Hd} {d : Int} {i : Nat} : first h d 0 i = none := rfl
theorem lays_bad {S : Vf.Sv} {n : List UInt8} {h : Hd} {now : Int} {p : Int × Int} (e : p.1 < 1 ∨ now < p.1 ∨ Fx.inR p.2 = false) : lays S n h now p = (S, false) := by unfold lays; rw [if_pos e]
theorem lays_none {S : Vf.Sv} {n : List UInt8} {h : Hd} {now : Int} {p : Int × Int} (e : ¬ (p.1 < 1 ∨ now < p.1 ∨ Fx.inR p.2 = false)) (hf : first h (now - p.1) h.l.length 0 = none) : lays S n h now p = (S, false) := by unfold lays; rw [if_neg e, hf]
theorem lays_zero {S : Vf.Sv} {n : List UInt8} {h : Hd} {now : Int} {p : Int × Int} {i : Nat} (e : ¬ (p.1 < 1 ∨ now < p.1 ∨ Fx.inR p.2 = false)) (hf : first h (now - p.1) h.l.length 0 = some i) (hz : Sl.al p.1 (h.step i) = 0) : lays S n h now p = (S, false) := by
  unfold lays; rw [if_neg e, hf]
  dsimp only
  rw [if_pos hz]
theorem lays_yes {S : Vf.Sv} {n : List UInt8} {h : Hd} {now : Int} {p : Int × Int} {i : Nat} (e : ¬ (p.1 < 1 ∨ now < p.1 ∨ Fx.inR p.2 = false)) (hf : first h (now - p.1) h.l.length 0 = some i) (hz : ¬ Sl.al p.1 (h.step i) = 0) : lays S n h now p = (climb n h p.1 (h.l.length - 1 - i) (write S n h i p.1 p.2) i, true) := by
  unfold lays; rw [if_neg e, hf]
  dsimp only
  rw [if_neg hz]
end Wp

end Go.Proofs.YtbhfapbhlkgmfaaDoor

namespace Go.Proofs.YtbhfapbhlkgmfaaDoor
open Go.RowKit
open Fx (Vl)

namespace Vf
theorem goes_two (m p : List UInt8) (off : Nat) (i : Int) (k : Nat) (x : Fl) (l : List Fl) : goes ⟨2, m, off, p⟩ i k (x :: l) = (if (k : Int) = i then ⟨x.name, upd x.b off p⟩ else x) :: goes ⟨2, m, off, p⟩ i (k + 1) l := by
  rw [goes]
  unfold one
  by_cases h : (k : Int) = i
  · rw [if_pos ⟨h, rfl⟩, if_pos h]; rfl
  · rw [if_neg (fun e => h e.1), if_neg (fun e => h e.1), if_neg h]; rfl
theorem goes_two_ix (n m p : List UInt8) (off : Nat) (i : Int) : ∀ (l : List Fl) (k j : Nat), ixFrom n j (goes ⟨2, m, off, p⟩ i k l) = ixFrom n j l
  | [], _, _ => rfl
  | x :: l, k, j => by
    rw [goes_two, ixFrom, ixFrom, goes_two_ix n m p off i l (k + 1) (j + 1)]
    by_cases h : (k : Int) = i
    · rw [if_pos h]
    · rw [if_neg h]
theorem goes_two_len (m p : List UInt8) (off : Nat) (i : Int) : ∀ (l : List Fl) (k : Nat), (goes ⟨2, m, off, p⟩ i k l).length = l.length
  | [], _ => rfl
  | x :: l, k => by rw [goes_two, List.length_cons, List.length_cons, goes_two_len m p off i l (k + 1)]
theorem goes_two_get (m p : List UInt8) (off : Nat) : ∀ (l : List Fl) (k j : Nat) (i : Nat), k + j = i → (h : j < l.length) → (goes ⟨2, m, off, p⟩ (i : Int) k l)[j]? = some ⟨l[j].name, upd l[j].b off p⟩
  | [], _, _, _, _, h => by simp at h
  | x :: l, k, 0, i, e, h => by
    rw [goes_two, if_pos (by omega)]
    rfl
  | x :: l, k, j + 1, i, e, h => by
    rw [goes_two, List.getElem?_cons_succ, goes_two_get m p off l (k + 1) j i (by omega) (by simpa using h)]
    rfl

/-- A file that is there, with these bytes. -/
structure Has (l : List Fl) (n B : List UInt8) : Prop where
  is : Vf.is n = true
  at_ : ∃ (k : Nat) (nm : List UInt8), Vf.ix l n = (k : Int) ∧ l[k]? = some ⟨nm, B⟩
theorem Has.of_size {l : List Fl} {n : List UInt8} (h : (size l n).2 = 0) : ∃ B, Has l n B ∧ (size l n).1 = (B.length : Int) := by
  unfold size at h ⊢
  by_cases h1 : Vf.is n = false
  · rw [if_pos h1] at h; cases h
  rw [if_neg h1] at h ⊢
  by_cases h2 : ix l n < 0
  · rw [if_pos h2] at h; cases h
  rw [if_neg h2]
  have hb := ix_bd l n
  have hlt : (ix l n).toNat < l.length := by omega
  refine ⟨(l.getD (ix l n).toNat ⟨[], []⟩).b, ⟨by simpa using h1, (ix l n).toNat, l[(ix l n).toNat].name, by omega, ?_⟩, rfl⟩
  rw [List.getD_eq_getElem?_getD, List.getElem?_eq_getElem hlt]
  rfl
section
variable {l : List Fl} {n B : List UInt8} (h : Has l n B)
include h
theorem Has.size_eq : Vf.size l n = ((B.length : Int), 0) := by
  obtain ⟨k, nm, h1, h2⟩ := h.at_
  unfold Vf.size
  rw [if_neg (by simp [h.is]), if_neg (by omega), h1, Int.toNat_natCast, List.getD_eq_getElem?_getD, h2]
  rfl
theorem Has.bytes : bytesAt l n = B := by
  obtain ⟨k, nm, h1, h2⟩ := h.at_
  unfold bytesAt
  rw [h1, Int.toNat_natCast, List.getD_eq_getElem?_getD, h2]
  rfl
theorem Has.read_eq {t m : Int} (ht : 0 ≤ t) (hm : 0 ≤ m) (hb : t + m ≤ (B.length : Int)) : Vf.read l n t m = ((B.drop t.toNat).take m.toNat, 0) := by
  obtain ⟨k, nm, h1, h2⟩ := h.at_
  unfold Vf.read
  rw [if_neg (by simp [h.is]), if_neg (by omega), h.bytes, if_neg (by omega)]
end
theorem Has.write_eq {S : Sv} {n B : List UInt8} (h : Has S.now n B) {t : Int} {b : List UInt8} (ht : 0 ≤ t) (hb : t + (b.length : Int) ≤ (B.length : Int)) : Has (Vf.write S n t b).1.now n (upd B t.toNat b) ∧ Vf.write S n t b = (S.act ⟨2, n, t.toNat, b⟩, 0) := by
  obtain ⟨k, nm, h1, h2⟩ := h.at_
  have hl : lenAt S.now n = B.length := by
    unfold lenAt
    rw [h1, Int.toNat_natCast, List.getD_eq_getElem?_getD, h2]
    rfl
  have e : Vf.write S n t b = (S.act ⟨2, n, t.toNat, b⟩, 0) := by
    unfold Vf.write
    rw [if_neg (by simp [h.is]), if_neg (by omega), if_neg (by rw [hl]; omega)]
  refine ⟨⟨h.is, k, nm, ?_, ?_⟩, e⟩
  · rw [e]
    show ix (does S.now ⟨2, n, t.toNat, b⟩) n = _
    unfold does
    rw [if_neg (by simp), List.append_nil]
    show ixFrom n 0 (goes ⟨2, n, t.toNat, b⟩ _ 0 S.now) = _
    rw [goes_two_ix]
    exact h1
  · rw [e]
    show (does S.now ⟨2, n, t.toNat, b⟩)[k]? = _
    unfold does
    rw [if_neg (by simp), List.append_nil, h1]
    have hk := (List.getElem?_eq_some_iff.1 h2)
    obtain ⟨hk1, hk2⟩ := hk
    rw [goes_two_get n b t.toNat S.now 0 k k (by omega) hk1, hk2]
end Vf

namespace Wp
open Vf (Has upd)
/-- The slot that begins at a place of the bytes. -/
def slot (B : List UInt8) (o : Nat) : Int × Int := pt ((B.drop o).take 12)
/-- Slots side by side. -/
def side (B : List UInt8) (o n : Nat) : List (Int × Int) := (List.range n).map fun k => slot B (o + 12 * k)
theorem side_len (B : List UInt8) (o n : Nat) : (side B o n).length = n := by unfold side; simp
theorem side_succ (B : List UInt8) (o n : Nat) : side B o (n + 1) = side B o n ++ [slot B (o + 12 * n)] := by unfold side; rw [List.range_succ, List.map_append]; rfl
/-- The k-th slot of the bytes that were cut out. -/
theorem slot_cut {B : List UInt8} {o n k : Nat} (hk : k < n) : ((((B.drop o).take (12 * n)).drop (12 * k)).take 12) = (B.drop (o + 12 * k)).take 12 := by
  rw [List.drop_take, List.drop_drop, List.take_take]
  congr 1
  omega
/-- n slots of a ring of c slots that begins at o, from place p on. -/
def round (B : List UInt8) (o c p n : Nat) : List (Int × Int) := side B (o + 12 * p) (min n (c - p)) ++ side B o (n - min n (c - p))
theorem round_len (B : List UInt8) (o c p n : Nat) : (round B o c p n).length = n := by unfold round; rw [List.length_append, side_len, side_len]; omega
theorem round_get {B : List UInt8} {o c p n k : Nat} (hp : p < c) (hn : n ≤ c) (hk : k < n) : (round B o c p n)[k]? = some (slot B (o + 12 * ((p + k) % c))) := by
  unfold round
  by_cases h : k < min n (c - p)
  · rw [List.getElem?_append_left (by rw [side_len]; exact h)]
    have e : (p + k) % c = p + k := Nat.mod_eq_of_lt (by omega)
    unfold side
    rw [List.getElem?_map, List.getElem?_range h, e]
    show some (slot B _) = _
    congr 2; omega
  · rw [List.getElem?_append_right (by rw [side_len]; omega), side_len]
    have e : (p + k) % c = p + k - c := by
      rw [Nat.mod_eq_sub_mod (by omega)]
      exact Nat.mod_eq_of_lt (by omega)
    unfold side
    rw [List.getElem?_map, List.getElem?_range (by omega), e]
    show some (slot B _) = _
    congr 2; omega
theorem round_all {B : List UInt8} {o c : Nat} : round B o c 0 c = side B o c := by
  unfold round
  rw [Nat.sub_zero, Nat.min_self, Nat.sub_self, Nat.mul_zero, Nat.add_zero]
  unfold side
  simp
/-- What the slots hold for times a step apart, as the program reckons it. -/
def holds (s st : Int) (ps : List (Int × Int)) (k : Nat) : Vl := let p := ps.getD k (0, 0); if p.1 > 0 ∧ p.1 = st + (k : Int) * s then Fx.of p.2 else Fx.none
def held (s st : Int) (ps : List (Int × Int)) (n : Nat) : List Vl := (List.range n).map (holds s st ps)
theorem held_len (s st : Int) (ps : List (Int × Int)) (n : Nat) : (held s st ps n).length = n := by unfold held; simp
/-- A header's file: its size is the header's. -/
structure Fits (l : List Vf.Fl) (n : List UInt8) (h : Hd) (B : List UInt8) : Prop where
  has : Has l n B
  val : h.val = true
  size : (B.length : Int) = h.size
theorem size_eq {h : Hd} (hv : h.val = true) : h.size = Wh.ends h.l h.l.length := by
  have hv' : Wh.val h.ag h.xf h.l = true := hv
  unfold Hd.size Wh.size
  rw [if_pos hv']
theorem offs_eq {h : Hd} (hv : h.val = true) {i : Nat} (hi : i < h.l.length) : h.offs (i : Int) = Wh.ends h.l i := by
  have hv' : Wh.val h.ag h.xf h.l = true := hv
  unfold Hd.offs Wh.offs
  rw [if_pos ⟨hv', by omega, by omega⟩, Int.toNat_natCast]
theorem sm_mono {l : List (Int × Int)} {i : Nat} : ∀ k, (∀ j, j < k → 1 ≤ (Wh.At l j).2) → i < k → Wh.sm l i + 12 * (Wh.At l i).2 ≤ Wh.sm l k
  | 0, _, h => by omega
  | k + 1, hc, h => by
    have e1 : Wh.sm l (k + 1) = Wh.sm l k + 12 * (Wh.At l k).2 := rfl
    rw [e1]
    by_cases e : i = k
    · subst e; exact Int.le_refl _
    · have h1 := sm_mono (l := l) (i := i) k (fun j hj => hc j (by omega)) (by omega)
      have h2 := hc k (by omega)
      omega
/-- An archive's slots lie in the file, behind the head. -/
theorem ring_in {h : Hd} (hv : h.val = true) {i : Nat} (hi : i < h.l.length) : 16 + 12 * (h.l.length : Int) ≤ h.offs (i : Int) ∧ h.offs (i : Int) + 12 * h.cnt i ≤ h.size := by
  obtain ⟨_, _, _, ha⟩ := Wh.val_t hv
  obtain ⟨a1, a2, a3, a4, a5⟩ := Wh.av_t ha
  have hc : ∀ j, j < h.l.length → 1 ≤ (Wh.At h.l j).2 := fun j hj => ((Wh.alls_num hj a3).2).1
  rw [size_eq hv, offs_eq hv hi]
  unfold Wh.ends
  have h1 := sm_mono (l := h.l) (i := i) h.l.length hc hi
  have h0 : 0 ≤ Wh.sm h.l i := by
    have : ∀ m, m ≤ h.l.length → 0 ≤ Wh.sm h.l m := fun m => by
      induction m with
      | zero => intro _; exact Int.le_refl _
      | succ m ih => intro hm; unfold Wh.sm; have := ih (by omega); have := hc m (by omega); omega
    exact this i (by omega)
  show _ ∧ _ + 12 * (Wh.At h.l i).2 ≤ _
  omega
theorem Fits.ring {l : List Vf.Fl} {n : List UInt8} {h : Hd} {B : List UInt8} (f : Fits l n h B) {i : Nat} (hi : i < h.l.length) : 28 ≤ h.offs (i : Int) ∧ h.offs (i : Int) + 12 * h.cnt i ≤ (B.length : Int) := by
  have h1 := ring_in f.val hi
  rw [f.size]
  omega
end Wp
end Go.Proofs.YtbhfapbhlkgmfaaDoor

namespace Go.Proofs.YtbhfapbhlkgmfaaDoor
open Go.RowKit
open Fx (Vl)
open Vf (Has upd)
namespace Wp

theorem al_step {s st : Int} {k : Nat} (hs : 1 ≤ s) (h0 : 0 ≤ st) (ha : Sl.al st s = st) : 0 ≤ st + (k : Int) * s ∧ Sl.al (st + (k : Int) * s) s = st + (k : Int) * s ∧ (st + (k : Int) * s) / s = st / s + (k : Int) := by
  have h1 : 0 ≤ (k : Int) * s := Int.mul_nonneg (by omega) (by omega)
  have h2 : (st + (k : Int) * s) / s = st / s + (k : Int) := Int.add_mul_ediv_right _ _ (by omega)
  refine ⟨by omega, ?_, h2⟩
  rw [Sl.al_mul hs (by omega), h2, Int.mul_add, ← Sl.al_mul hs h0, ha, Int.mul_comm]
theorem pl_al {s c t : Int} (hs : 1 ≤ s) (h0 : 0 ≤ t) : Sl.pl s c (Sl.al t s) = Sl.pl s c t := by
  have hb := Sl.al_bd hs h0
  unfold Sl.pl
  by_cases hc : c < 1
  · rw [if_pos (.inr (.inl hc)), if_pos (.inr (.inl hc))]
  · rw [if_neg (by omega), if_neg (by omega), Sl.al_div hs h0]
section
variable {l : List Vf.Fl} {n : List UInt8} {h : Hd} {B : List UInt8} (f : Fits l n h B)
include f
theorem Fits.slot_in {i : Nat} (hi : i < h.l.length) (t : Int) (ht : 0 ≤ t) : 28 ≤ at_ h i t ∧ at_ h i t + 12 ≤ (B.length : Int) := by
  have h1 := f.ring hi
  obtain ⟨⟨n1, n2⟩, n3, n4⟩ := Hd.nums f.val i hi
  have h2 := Sl.pl_bd n1 n3 ht
  unfold at_
  omega
theorem Fits.value_eq {i : Nat} (hi : i < h.l.length) (t : Int) (ht : 0 ≤ t) : value l n h i t = if Sl.al t (h.step i) ≤ 0 ∨ (slot B (at_ h i t).toNat).1 ≠ Sl.al t (h.step i) then Fx.none else Fx.of (slot B (at_ h i t).toNat).2 := by
  have h1 := f.slot_in hi t ht
  unfold value
  dsimp only
  rw [f.has.read_eq (by omega) (by omega) (by omega)]
  rfl
/-- The values of times a step apart. -/
theorem Fits.held_eq {i : Nat} (hi : i < h.l.length) {st : Int} (h0 : 0 ≤ st) (ha : Sl.al st (h.step i) = st) {m c P : Nat} (hc : h.cnt i = (c : Int)) (hm : m ≤ c) (hP : Sl.pl (h.step i) (h.cnt i) st = (P : Int)) :
    held (h.step i) st (round B (h.offs (i : Int)).toNat c P m) m = (List.range m).map fun (k : Nat) => value l n h i (st + (k : Int) * h.step i) := by
  obtain ⟨⟨n1, n2⟩, n3, n4⟩ := Hd.nums f.val i hi
  have hr := f.ring hi
  have hPc : P < c := by have := Sl.pl_bd n1 n3 h0; omega
  unfold held
  apply List.map_congr_left
  intro k hk
  have hk' : k < m := List.mem_range.1 hk
  obtain ⟨q1, q2, q3⟩ := al_step (k := k) n1 h0 ha
  have hpl : Sl.pl (h.step i) (h.cnt i) (st + (k : Int) * h.step i) = (((P + k) % c : Nat) : Int) := by
    rw [Sl.pl_eq n1 n3 q1, q3, ← Int.emod_add_emod, ← Sl.pl_eq n1 n3 h0, hP, hc]
    rfl
  have hat : (at_ h i (st + (k : Int) * h.step i)).toNat = (h.offs (i : Int)).toNat + 12 * ((P + k) % c) := by
    unfold at_
    rw [hpl]
    omega
  rw [f.value_eq hi _ q1, hat, q2]
  unfold holds
  dsimp only
  rw [List.getD_eq_getElem?_getD, round_get hPc hm hk', Option.getD_some]
  by_cases e : (slot B ((h.offs (i : Int)).toNat + 12 * ((P + k) % c))).1 > 0 ∧ (slot B ((h.offs (i : Int)).toNat + 12 * ((P + k) % c))).1 = st + (k : Int) * h.step i
  · rw [if_pos e, if_neg (by omega)]
  · rw [if_neg e, if_pos (by omega)]
end
theorem step_dvd {h : Hd} (hv : h.val = true) {i : Nat} (hi : i + 1 < h.l.length) : h.step (i + 1) % h.step i = 0 ∧ h.step (i + 1) / h.step i ≤ h.cnt i ∧ h.step i * h.cnt i < h.step (i + 1) * h.cnt (i + 1) := by
  obtain ⟨_, _, _, ha⟩ := Wh.val_t hv
  obtain ⟨a1, a2, a3, a4, a5⟩ := Wh.av_t ha
  have hs := Wh.alls_stp hi a3
  unfold Wh.stp Wh.fol at hs
  simp only [Bool.and_eq_true, Bool.or_eq_true, decide_eq_true_eq, Nat.add_sub_cancel] at hs
  rcases hs.2 with e | e
  · omega
  · exact ⟨e.1.1.2, e.2, e.1.2⟩
theorem al_fine {h : Hd} (hv : h.val = true) {i : Nat} (hi : i + 1 < h.l.length) {t : Int} (ht : 0 ≤ t) : Sl.al (Sl.al t (h.step (i + 1))) (h.step i) = Sl.al t (h.step (i + 1)) := by
  obtain ⟨⟨n1, n2⟩, _⟩ := Hd.nums hv i (by omega)
  obtain ⟨⟨m1, m2⟩, _⟩ := Hd.nums hv (i + 1) hi
  have h1 := (step_dvd hv hi).1
  have hb := Sl.al_bd m1 ht
  rw [Sl.al_mul n1 hb.1, Sl.al_mul m1 ht]
  apply Int.mul_ediv_cancel_of_emod_eq_zero
  rw [Int.mul_emod, h1, Int.zero_mul, Int.zero_emod]
/-- What an archive has for the next one's slot. -/
theorem Fits.vals_eq {l : List Vf.Fl} {n : List UInt8} {h : Hd} {B : List UInt8} (f : Fits l n h B) {i : Nat} (hi : i + 1 < h.l.length) {t : Int} (ht : 0 ≤ t) {c P : Nat} (hc : h.cnt i = (c : Int)) (hP : Sl.pl (h.step i) (h.cnt i) (Sl.al t (h.step (i + 1))) = (P : Int)) :
    vals l n h i t (many h i) = held (h.step i) (Sl.al t (h.step (i + 1))) (round B (h.offs (i : Int)).toNat c P (many h i)) (many h i) := by
  obtain ⟨⟨m1, m2⟩, _⟩ := Hd.nums f.val (i + 1) hi
  have hb := Sl.al_bd m1 ht
  have hm := many_bd f.val i hi
  have hd := (step_dvd f.val hi).2.1
  rw [f.held_eq (by omega) hb.1 (al_fine f.val hi ht) hc (by omega) hP]
  rfl

/-- A slot written over. -/
def put (B : List UInt8) (o : Nat) (t u : Int) : List UInt8 := upd B o (Sl.beb (Sl.lim t) 4 ++ Sl.beb u 8)
theorem upd_mid {X Y Z p : List UInt8} (h : Y.length = p.length) : upd (X ++ (Y ++ Z)) X.length p = X ++ (p ++ Z) := by
  have h1 : (X ++ (Y ++ Z)).drop (X.length + Y.length) = Z := by
    rw [← List.append_assoc, ← List.length_append]
    exact List.drop_left
  unfold upd
  rw [List.take_left, ← h, h1, List.append_assoc]
theorem upd_upd {B p q r : List UInt8} {o : Nat} (h1 : p.length = r.length) (ho : o + r.length + q.length ≤ B.length) : upd (upd (upd B o p) (o + r.length) q) o r = upd B o (r ++ q) := by
  obtain ⟨X, Y, Z, T, hB, hX, hY, hZ⟩ : ∃ X Y Z T : List UInt8, B = X ++ (Y ++ (Z ++ T)) ∧ X.length = o ∧ Y.length = r.length ∧ Z.length = q.length := by
    refine ⟨B.take o, (B.drop o).take r.length, ((B.drop o).drop r.length).take q.length, ((B.drop o).drop r.length).drop q.length, ?_, ?_, ?_, ?_⟩
    · rw [List.take_append_drop, List.take_append_drop, List.take_append_drop]
    · rw [List.length_take]; omega
    · rw [List.length_take, List.length_drop]; omega
    · rw [List.length_take, List.length_drop, List.length_drop]; omega
  subst hB hX
  have e1 := upd_mid (X := X) (Y := Y) (Z := Z ++ T) (p := p) (by omega)
  have e2 := upd_mid (X := X ++ p) (Y := Z) (Z := T) (p := q) hZ
  have e3 := upd_mid (X := X) (Y := p) (Z := q ++ T) (p := r) h1
  have e4 := upd_mid (X := X) (Y := Y ++ Z) (Z := T) (p := r ++ q) (by rw [List.length_append, List.length_append]; omega)
  rw [List.length_append, h1, List.append_assoc, List.append_assoc] at e2
  rw [List.append_assoc, List.append_assoc] at e4
  rw [e1, e2, e3, e4]
theorem put_len {B : List UInt8} {o : Nat} {t u : Int} (h : o + 12 ≤ B.length) : (put B o t u).length = B.length := by
  unfold put
  exact Vf.upd_len (by rw [List.length_append]; exact h)
theorem Fits.write {S : Vf.Sv} {n : List UInt8} {h : Hd} {B : List UInt8} (f : Fits S.now n h B) {i : Nat} (hi : i < h.l.length) (t u : Int) (ht : 0 ≤ t) : Fits (write S n h i t u).now n h (put B (at_ h i t).toNat (Sl.al t (h.step i)) u) := by
  have hb := f.slot_in hi t ht
  have l4 : (Sl.beb (Sl.lim (Sl.al t (h.step i))) 4).length = 4 := rfl
  have l8 : (Sl.beb u 8).length = 8 := rfl
  obtain ⟨k1, _⟩ := f.has.write_eq (t := at_ h i t) (b := [0, 0, 0, 0]) (by omega) (by simp; omega)
  have n1 : (upd B (at_ h i t).toNat [0, 0, 0, 0]).length = B.length := Vf.upd_len (by simp; omega)
  obtain ⟨k2, _⟩ := k1.write_eq (t := at_ h i t + 4) (b := Sl.beb u 8) (by omega) (by rw [n1, l8]; omega)
  have n2 : (upd (upd B (at_ h i t).toNat [0, 0, 0, 0]) (at_ h i t + 4).toNat (Sl.beb u 8)).length = B.length := by rw [Vf.upd_len (by rw [n1, l8]; omega), n1]
  obtain ⟨k3, _⟩ := k2.write_eq (t := at_ h i t) (b := Sl.beb (Sl.lim (Sl.al t (h.step i))) 4) (by omega) (by rw [n2, l4]; omega)
  have e : upd (upd (upd B (at_ h i t).toNat [0, 0, 0, 0]) (at_ h i t + 4).toNat (Sl.beb u 8)) (at_ h i t).toNat (Sl.beb (Sl.lim (Sl.al t (h.step i))) 4) = put B (at_ h i t).toNat (Sl.al t (h.step i)) u := by
    have := upd_upd (B := B) (p := [0, 0, 0, 0]) (q := Sl.beb u 8) (r := Sl.beb (Sl.lim (Sl.al t (h.step i))) 4) (o := (at_ h i t).toNat) rfl (by rw [l4, l8]; omega)
    rw [l4] at this
    rw [show (at_ h i t + 4).toNat = (at_ h i t).toNat + 4 by omega]
    exact this
  rw [e] at k3
  exact ⟨k3, f.val, by rw [put_len (by omega)]; exact f.size⟩
theorem Fits.passes {S : Vf.Sv} {n : List UInt8} {h : Hd} {B : List UInt8} (f : Fits S.now n h B) {i : Nat} (hi : i + 1 < h.l.length) (t : Int) (ht : 0 ≤ t) : ∃ B', Fits (passes S n h i t).1.now n h B' := by
  unfold Wp.passes
  dsimp only
  split
  · exact ⟨B, f⟩
  · exact ⟨_, f.write hi t _ ht⟩
theorem Fits.climb {n : List UInt8} {h : Hd} {t : Int} (ht : 0 ≤ t) : ∀ (m : Nat) (S : Vf.Sv) (k : Nat) (B : List UInt8), Fits S.now n h B → k + m < h.l.length → ∃ B', Fits (climb n h t m S k).now n h B'
  | 0, S, k, B, f, _ => ⟨B, f⟩
  | m + 1, S, k, B, f, hk => by
    unfold Wp.climb
    split
    · obtain ⟨B1, f1⟩ := f.passes (i := k) (by omega) t ht
      exact Fits.climb ht m _ (k + 1) B1 f1 (by omega)
    · exact ⟨B, f⟩
theorem first_lt {h : Hd} {d : Int} : ∀ (m i : Nat) {j : Nat}, first h d m i = some j → i ≤ j ∧ j < i + m
  | 0, _, _, e => by cases e
  | m + 1, i, j, e => by
    unfold first at e
    split at e
    · cases e; omega
    · have := first_lt m (i + 1) e; omega
theorem Fits.lays {S : Vf.Sv} {n : List UInt8} {h : Hd} {B : List UInt8} (f : Fits S.now n h B) (now : Int) (p : Int × Int) : ∃ B', Fits (lays S n h now p).1.now n h B' := by
  unfold Wp.lays
  split
  · exact ⟨B, f⟩
  · rename_i hg
    split
    · exact ⟨B, f⟩
    · rename_i i e
      have hi := first_lt _ _ e
      split
      · exact ⟨B, f⟩
      · exact Fits.climb (by omega) _ _ _ _ (f.write (by omega) p.1 p.2 (by omega)) (by omega)

end Wp

/-! The head of a long file. -/
namespace Wh
theorem byt_take {L : List UInt8} {k j : Nat} (h : j < k) : byt (L.take k) j = byt L j := by
  unfold byt
  rw [List.getD_eq_getElem?_getD, List.getD_eq_getElem?_getD, List.getElem?_take_of_lt h]
theorem nm_take {L : List UInt8} {k j : Nat} (h : j + 4 ≤ k) : nm (L.take k) j = nm L j := by
  unfold nm
  rw [byt_take (by omega), byt_take (by omega), byt_take (by omega), byt_take (by omega)]
theorem archs_take {L : List UInt8} {k m : Nat} (h : 16 + 12 * m ≤ k) : archs (L.take k) m = archs L m := by
  unfold archs
  apply List.map_congr_left
  intro i hi
  have := List.mem_range.1 hi
  rw [nm_take (by omega), nm_take (by omega)]
theorem rok_take {L : List UInt8} {k : Nat} (hk : 112 ≤ k) : rok (L.take k) = rok L := by
  have h0 := nm_bd L 12
  unfold rok
  rw [nm_take (j := 12) (by omega), List.length_take, Bool.eq_iff_iff]
  simp only [Bool.and_eq_true, decide_eq_true_eq]
  omega
theorem cand_take {L : List UInt8} {k : Nat} (hk : 112 ≤ k) (h : rok L = true) : cand (L.take k) = cand L := by
  have h0 := nm_bd L 12
  obtain ⟨h1, h2, h3⟩ := rok_t h
  unfold cand
  rw [nm_take (j := 12) (by omega), archs_take (by omega)]
theorem enc_bd (ag xf : Int) (l : List (Int × Int)) : (enc ag xf l).length ≤ 112 := by
  unfold enc
  split
  · rename_i hv
    obtain ⟨_, _, _, ha⟩ := val_t hv
    obtain ⟨a1, a2, a3, a4, a5⟩ := av_t ha
    rw [fours_len, ints_len]
    omega
  · simp
theorem dok_take {L : List UInt8} {k : Nat} (hk : 112 ≤ k) : dok (L.take k) = dok L := by
  cases h : rok L
  · rw [dok_r h, dok_r (by rw [rok_take hk]; exact h)]
  · have hb := enc_bd (nm L 0) (nm L 8) (cand L)
    unfold dok encL
    rw [rok_take hk, cand_take hk h, nm_take (j := 0) (by omega), nm_take (j := 8) (by omega), List.length_take, List.take_take, Nat.min_eq_left (by omega : (enc (nm L 0) (nm L 8) (cand L)).length ≤ k)]
    congr 1
    rw [Bool.eq_iff_iff]
    simp only [decide_eq_true_eq]
    refine ⟨fun e => ⟨by omega, e.2⟩, fun e => ⟨by omega, e.2⟩⟩
theorem heads_take {L : List UInt8} {k : Nat} (hk : 112 ≤ k) : dag (L.take k) = dag L ∧ dxf (L.take k) = dxf L ∧ dl (L.take k) = dl L ∧ derr (L.take k) = derr L := by
  have e := dok_take (L := L) hk
  cases h : dok L
  · rw [h] at e
    obtain ⟨a1, a2, a3, a4⟩ := dok_f h
    obtain ⟨b1, b2, b3, b4⟩ := dok_f e
    rw [a1, a2, a3, a4, b1, b2, b3, b4]
    exact ⟨rfl, rfl, rfl, rfl⟩
  · rw [h] at e
    obtain ⟨a1, a2, a3, a4⟩ := dok_t h
    obtain ⟨b1, b2, b3, b4⟩ := dok_t e
    have hr : rok L = true := by
      cases e : rok L
      · rw [dok_r e] at h; cases h
      · rfl
    rw [a1, a2, a3, a4, b1, b2, b3, b4, nm_take (j := 0) (by omega), nm_take (j := 8) (by omega), cand_take hk hr]
    exact ⟨rfl, rfl, rfl, rfl⟩
end Wh
end Go.Proofs.YtbhfapbhlkgmfaaDoor

namespace Go.Proofs.YtbhfapbhlkgmfaaDoor
open Go.RowKit Go.Sort
open Wh (At)
open Me

/-- A row that reads as bytes, at its address. -/
theorem Reads.by_ {w : World} {A : Option Addr} {L : List UInt8} {c : Nat} (h : Reads w (.slice A L.length c) L) (h0 : 0 < L.length) : ∃ b off, A = some ⟨b, off, none⟩ ∧ By w b off L ∧ L.length ≤ c := by
  obtain ⟨A', c', e, hc, hr⟩ := h
  injection e with e1 e2 e3
  subst e1 e3
  obtain ⟨b, o, e, hl, _, hcell⟩ := hr.lit 0 (by rw [by8_len]; exact h0)
  refine ⟨b, o, e, ⟨hl, fun j hj => ?_⟩, hc⟩
  have := hcell j _ (by8_get L j hj)
  rw [this]
  unfold Wh.byt
  rw [List.getD_eq_getElem?_getD, List.getElem?_eq_getElem hj]
  rfl

theorem res_cells {w w1 w2 : World} {o : Obj} {T : TypeId} {x y z : Value} (h1 : Below (w.alloc (.cells #[x, y, z] T)).heap.size (w.alloc (.cells #[x, y, z] T)) w1) (h2 : Below (w1.alloc o).heap.size (w1.alloc o) w2) :
    w2.cell? ⟨w.heap.size, 0, none⟩ = some x ∧ w2.cell? ⟨w.heap.size, 1, none⟩ = some y ∧ w2.cell? ⟨w.heap.size, 2, none⟩ = some z ∧ Below w.heap.size w w2 := by
  have e1 : (w.alloc (.cells #[x, y, z] T)).heap.size = w.heap.size + 1 := by simp
  have e2 : w.heap.size + 1 ≤ w1.heap.size := by have := h1.size; omega
  have hb : Below (w.heap.size + 1) (w.alloc (.cells #[x, y, z] T)) w2 := ((h1.mono (by omega)).alloc e2 o).trans (h2.mono (by simp; omega))
  exact ⟨(hb.cell (p := ⟨w.heap.size, 0, none⟩) (Nat.lt_succ_self _)).trans (by simp [go_sem]), (hb.cell (p := ⟨w.heap.size, 1, none⟩) (Nat.lt_succ_self _)).trans (by simp [go_sem]), (hb.cell (p := ⟨w.heap.size, 2, none⟩) (Nat.lt_succ_self _)).trans (by simp [go_sem]), ((Below.refl _ _).alloc (Nat.le_refl _) _).trans (hb.mono (Nat.le_succ _))⟩
theorem back_cells {w w2 : World} (hb : Below w.heap.size w w2) (x y z : Value) : Below w.heap.size w (((w2.setCell ⟨w.heap.size, 0, none⟩ x).setCell ⟨w.heap.size, 1, none⟩ y).setCell ⟨w.heap.size, 2, none⟩ z) :=
  ((hb.setCell (Nat.le_refl _) _).setCell (Nat.le_refl _) _).setCell (Nat.le_refl _) _
theorem back_ars {w w2 : World} {g : Nat} {l : List (Int × Int)} (h : Ars w2 g 0 l) (hg : w.heap.size < g) (x y z : Value) : Ars (((w2.setCell ⟨w.heap.size, 0, none⟩ x).setCell ⟨w.heap.size, 1, none⟩ y).setCell ⟨w.heap.size, 2, none⟩ z) g 0 l := by
  have k : (((w2.setCell ⟨w.heap.size, 0, none⟩ x).setCell ⟨w.heap.size, 1, none⟩ y).setCell ⟨w.heap.size, 2, none⟩ z).heap[g]? = w2.heap[g]? :=
    ((Below.heap_setCell _ ⟨w.heap.size, 2, none⟩ z g (by show g ≠ w.heap.size; omega)).trans (Below.heap_setCell _ ⟨w.heap.size, 1, none⟩ y g (by show g ≠ w.heap.size; omega))).trans (Below.heap_setCell _ ⟨w.heap.size, 0, none⟩ x g (by show g ≠ w.heap.size; omega))
  refine ⟨by simpa [World.setCell] using h.lt, fun i hi => ?_, fun i hi => ?_⟩
  · exact (World.cell?_of_block (a := ⟨g, 0 + i * 2, none⟩) k).trans (h.st i hi)
  · exact (World.cell?_of_block (a := ⟨g, 0 + i * 2 + 1, none⟩) k).trans (h.ct i hi)

set_option maxHeartbeats 2000000 in
theorem decode_mid (L E : List UInt8) (b off cap : Nat) (l : List (Int × Int)) (a0 a8 : Int) (v r : Bool) (w : World) (hd : Hid (Wh.dok L = (v && r)))
    (HR : Hid (∀ W, Below w.heap.size w W → Calls Tryd.prog 64 #[.slice (some ⟨b, off, none⟩) L.length cap] W fun e w' => ∃ g, e = .returned (.tuple #[.agg #[.int .i64 a0, .int .i64 a8, .slice (some ⟨g, 0, none⟩) l.length l.length], .bool true]) ∧ W.heap.size ≤ g ∧ Ars w' g 0 l ∧ Below W.heap.size W w'))
    (HE : Hid (∀ W g, Ars W g 0 l → Calls Tryd.prog 20 #[.agg #[.int .i64 a0, .int .i64 a8, .slice (some ⟨g, 0, none⟩) l.length l.length]] W (Coded W E (if v = true then 0 else 1))))
    (HP : Hid (∀ W A' c', Below w.heap.size w W → Reads W (.slice A' E.length c') E → Calls Tryd.prog 65 #[.slice (some ⟨b, off, none⟩) L.length cap, .slice A' E.length c'] W fun e w' => e = .returned (.bool r) ∧ W = w'))
    (HY : Hid (v = true → r = true → Wh.nm L 0 = a0 ∧ Wh.nm L 8 = a8 ∧ Wh.cand L = l)) :
    Calls Tryd.prog 48 #[.slice (some ⟨b, off, none⟩) L.length cap] w (DecodedF w L) := by
  have HB0 : Hid (Below w.heap.size w (w.alloc (.cells #[.int .i64 0, .int .i64 0, .slice none 0 0] 24))) := Lib.hid ((Below.refl _ _).alloc (Nat.le_refl _) _)
  cases v with
  | false =>
    have HD : Hid (Wh.dok L = false) := Lib.hid (by rw [hd.out]; rfl)
    simp only [Bool.false_eq_true, if_false] at HE
    clear hd HY HP
    go_enter Tryd.func48, Tryd.ntmps48
    go_wp2_with first
      | (go_at_call 64; (with_reducible refine (HR.out _ HB0.out).mono ?_); rintro e w1 ⟨g, rfl, hg1, har, hb1⟩; obtain ⟨hc1, hf1⟩ := bcell hb1; have hq1 : w.heap.size < w1.heap.size := Nat.lt_of_lt_of_le (by simp) hb1.size; have HAR := Lib.hid har; clear har)
      | (go_at_call 20; (with_reducible refine (HE.out _ g (HAR.out.alloc _)).mono ?_); rintro e w2 ⟨v2, rfl, ho2, hb2⟩; obtain ⟨hc2, hf2⟩ := bcell hb2; have hq2 : w1.heap.size < w2.heap.size := Nat.lt_of_lt_of_le (by simp) hb2.size; have hq3 : w.heap.size < w2.heap.size := Nat.lt_trans hq1 hq2; obtain ⟨r0, r1, r2, hbw⟩ := res_cells hb1 hb2; have HBW := Lib.hid hbw)
    refine bodyPost_ret (v := .tuple #[.agg #[.int .i64 0, .int .i64 0, .slice none 0 0], .int .i64 2]) ?_ rfl (DecodedF.no HD.out rfl ?_)
    · simp [results, Tryd.results48, go_sem, r0, r1, r2]
    · exact back_cells HBW.out _ _ _
  | true =>
    simp only [if_true] at HE
    cases r with
    | false =>
      have HD : Hid (Wh.dok L = false) := Lib.hid (by rw [hd.out]; rfl)
      clear hd HY
      go_enter Tryd.func48, Tryd.ntmps48
      go_wp2_with first
      | (go_at_call 64; (with_reducible refine (HR.out _ HB0.out).mono ?_); rintro e w1 ⟨g, rfl, hg1, har, hb1⟩; obtain ⟨hc1, hf1⟩ := bcell hb1; have hq1 : w.heap.size < w1.heap.size := Nat.lt_of_lt_of_le (by simp) hb1.size; have HAR := Lib.hid har; clear har)
      | (go_at_call 20; (with_reducible refine (HE.out _ g (HAR.out.alloc _)).mono ?_); rintro e w2 ⟨v2, rfl, ho2, hb2⟩; obtain ⟨hc2, hf2⟩ := bcell hb2; have hq2 : w1.heap.size < w2.heap.size := Nat.lt_of_lt_of_le (by simp) hb2.size; have hq3 : w.heap.size < w2.heap.size := Nat.lt_trans hq1 hq2; obtain ⟨r0, r1, r2, hbw⟩ := res_cells hb1 hb2; have HB2 := Lib.hid hb2; have HBW := Lib.hid hbw; have hr2 := Reads.own ho2; have HO2 := Lib.hid hr2; obtain ⟨A2, c2, rfl, hcc2, _⟩ := hr2; clear ho2)
      | (go_at_call 65; (with_reducible refine (HP.out _ A2 c2 HBW.out HO2.out).mono ?_); rintro e w3 ⟨rfl, rfl⟩)
      refine bodyPost_ret (v := .tuple #[.agg #[.int .i64 0, .int .i64 0, .slice none 0 0], .int .i64 2]) ?_ rfl (DecodedF.no HD.out rfl ?_)
      · simp [results, Tryd.results48, go_sem, r0, r1, r2]
      · exact back_cells HBW.out _ _ _
    | true =>
      have HD : Hid (Wh.dok L = true) := Lib.hid (by rw [hd.out]; rfl)
      obtain ⟨y1, y2, y3⟩ := HY.out rfl rfl
      subst y1 y2 y3
      clear hd HY
      go_enter Tryd.func48, Tryd.ntmps48
      go_wp2_with first
      | (go_at_call 64; (with_reducible refine (HR.out _ HB0.out).mono ?_); rintro e w1 ⟨g, rfl, hg1, har, hb1⟩; obtain ⟨hc1, hf1⟩ := bcell hb1; have hq1 : w.heap.size < w1.heap.size := Nat.lt_of_lt_of_le (by simp) hb1.size; have HAR := Lib.hid har; clear har)
      | (go_at_call 20; (with_reducible refine (HE.out _ g (HAR.out.alloc _)).mono ?_); rintro e w2 ⟨v2, rfl, ho2, hb2⟩; obtain ⟨hc2, hf2⟩ := bcell hb2; have hq2 : w1.heap.size < w2.heap.size := Nat.lt_of_lt_of_le (by simp) hb2.size; have hq3 : w.heap.size < w2.heap.size := Nat.lt_trans hq1 hq2; obtain ⟨r0, r1, r2, hbw⟩ := res_cells hb1 hb2; have HB2 := Lib.hid hb2; have HBW := Lib.hid hbw; have hr2 := Reads.own ho2; have HO2 := Lib.hid hr2; obtain ⟨A2, c2, rfl, hcc2, _⟩ := hr2; clear ho2)
      | (go_at_call 65; (with_reducible refine (HP.out _ A2 c2 HBW.out HO2.out).mono ?_); rintro e w3 ⟨rfl, rfl⟩)
      refine bodyPost_ret (v := .tuple #[.agg #[.int .i64 (Wh.nm L 0), .int .i64 (Wh.nm L 8), .slice (some ⟨g, 0, none⟩) (Wh.cand L).length (Wh.cand L).length], .int .i64 0]) ?_ rfl (DecodedF.yes HD.out rfl ?_ ?_ (by simp at hg1; omega))
      · simp [results, Tryd.results48, go_sem, r0, r1, r2]
      · exact ⟨Nat.le_refl _, fun _ => ⟨g, 0, rfl, back_ars ((HAR.out.alloc _).below HB2.out) (by simp at hg1; omega) _ _ _⟩⟩
      · exact back_cells HBW.out _ _ _

/-- Decode of every row of bytes that reads. -/
theorem decode_anyF (A : Option Addr) (L : List UInt8) (cap : Nat) (w : World) (h : Reads w (.slice A L.length cap) L) :
    Calls Tryd.prog 48 #[.slice A L.length cap] w (DecodedF w L) := by
  cases hr : Wh.rok L
  · refine decode_bad A L cap w (Wh.dok_r hr) (Lib.hid fun W hb => ?_)
    rcases Wh.rok_f hr with h1 | ⟨h1, h2⟩
    · exact read_short A L.length cap h1 W
    · obtain ⟨b, off, rfl, hB, hc⟩ := h.by_ (by omega)
      exact read_no L b off cap W (hB.below hb) h1 hc h2
  · obtain ⟨r1, r2, r3⟩ := Wh.rok_t hr
    obtain ⟨b, off, rfl, hB, hc⟩ := h.by_ (by omega)
    have hn := Wh.nm_bd L 12
    have hkk : Wh.nm L 12 = (((Wh.cand L).length : Nat) : Int) := by unfold Wh.cand; rw [Wh.archs_len]; omega
    have har : Wh.archs L (Wh.cand L).length = Wh.cand L := by unfold Wh.cand; rw [Wh.archs_len]
    refine decode_mid L (Wh.encL L) b off cap (Wh.cand L) (Wh.nm L 0) (Wh.nm L 8) (Wh.val (Wh.nm L 0) (Wh.nm L 8) (Wh.cand L)) (decide ((Wh.encL L).length ≤ L.length ∧ L.take (Wh.encL L).length = Wh.encL L)) w (Lib.hid ?_) (Lib.hid fun W hb => ?_) (Lib.hid fun W g ha => ?_) (Lib.hid fun W A' c' hb hR => ?_) (Lib.hid fun _ _ => ⟨rfl, rfl, rfl⟩)
    · unfold Wh.dok; rw [hr, Bool.true_and]
    · refine (read_yes L b off cap (Wh.cand L).length W (hB.below hb) hc hkk (by omega) (by omega)).mono fun e w' hh => ?_
      obtain ⟨g, he, hg, ha, hb'⟩ := hh
      rw [har] at ha
      exact ⟨g, he, hg, ha, hb'⟩
    · exact encode_any (Wh.nm L 0) (Wh.nm L 8) (Wh.cand L) (some ⟨g, 0, none⟩) (Wh.cand L).length W ⟨Nat.le_refl _, fun _ => ⟨g, 0, rfl, ha⟩⟩
    · exact hasPrefix_any (some ⟨b, off, none⟩) A' L (Wh.encL L) cap c' W (h.below hb) hR
theorem decode_any (A : Option Addr) (L : List UInt8) (cap : Nat) (w : World) (h : Reads w (.slice A L.length cap) L) :
    Calls Tryd.prog 48 #[.slice A L.length cap] w (Decoded w L) := (decode_anyF A L cap w h).mono fun _ _ h => h.weak
end Go.Proofs.YtbhfapbhlkgmfaaDoor

namespace Go.Proofs.YtbhfapbhlkgmfaaDoor
open Go.RowKit Go.Sort
open Wh (At)
open Me

theorem intinfo : (Tryd.prog.info? 3).map (fun i => (i.zero, i.size, i.bytes)) = some (some (.int .i64 0), 1, 8) := by kernel_rfl
def OwnI (base : Nat) (w : World) (v : Value) (ns : List Int) : Prop := w.ownsRow base 3 1 v ns.length (ns.map fun n => .int .i64 n)
theorem OwnI.below {a : Nat} {w w' : World} {v : Value} {l : List Int} (h : OwnI a w v l) (k : Below w.heap.size w w') : OwnI a w' v l :=
  owns_keep h fun g hg => by
    rcases h.2 with ⟨rfl, _⟩ | ⟨g', cap, cur, rfl, hb, hh, _⟩
    · cases hg
    · have : g' = g := by simpa [Value.ownBlock] using hg
      subst this
      exact k.block _ (Array.getElem?_eq_some_iff.1 hh).1
theorem OwnI.lt {base : Nat} {w : World} {v : Value} {l : List Int} (h : OwnI base w v l) : ∀ g, v.ownBlock = some g → base ≤ g ∧ g < w.heap.size := by
  intro g hg
  rcases h.2 with ⟨rfl, _⟩ | ⟨g', cap, cur, rfl, hb, hh, _⟩
  · cases hg
  · have : g' = g := by simpa [Value.ownBlock] using hg
    subst this
    exact ⟨hb, (Array.getElem?_eq_some_iff.1 hh).1⟩
theorem OwnI.form {base : Nat} {w : World} {v : Value} {l : List Int} (h : OwnI base w v l) (hne : l ≠ []) :
    ∃ g cap, v = .slice (some ⟨g, 0, none⟩) l.length cap ∧ base ≤ g ∧ g < w.heap.size ∧ ∀ j (hj : j < l.length), w.cell? ⟨g, j, none⟩ = some (.int .i64 l[j]) := by
  obtain ⟨hlen, hn | ⟨g, cap, cur, rfl, hb, hg, hle, hm, hs, hx⟩⟩ := h
  · exact absurd (List.eq_nil_of_length_eq_zero hn.2) hne
  · refine ⟨g, cap, rfl, hb, (Array.getElem?_eq_some_iff.1 hg).1, fun j hj => ?_⟩
    rw [cell_of_row w g j cur _ (0, 0) hg]
    have e : (l.map fun n => (.int .i64 n : Value))[j]? = some (.int .i64 l[j]) := by simp [hj]
    rw [← e, ← hx, List.getElem?_take, if_pos (by simp; omega)]
    simp
theorem OwnI.fresh (w : World) (ns : List Int) (base : Nat) (hb : base ≤ w.heap.size) (hm : ns.length ≤ 1048576) : OwnI base (w.alloc (.cells (ns.map fun n => (.int .i64 n : Value)).toArray 3)) (.slice (some ⟨w.heap.size, 0, none⟩) ns.length ns.length) ns := by
  refine ⟨by simp, .inr ⟨w.heap.size, ns.length, _, rfl, hb, heap_alloc_new w _, Nat.le_refl _, by unfold maxLen; omega, by simp, ?_⟩⟩
  rw [Nat.mul_one]
  exact List.take_of_length_le (by simp)

/-- A box of a header, read in every world that kept it. -/
theorem box_cells {w W : World} {x y z : Value} {T : TypeId} (hb : Below (w.heap.size + 1) (w.alloc (.cells #[x, y, z] T)) W) :
    W.cell? ⟨w.heap.size, 0, none⟩ = some x ∧ W.cell? ⟨w.heap.size, 1, none⟩ = some y ∧ W.cell? ⟨w.heap.size, 2, none⟩ = some z :=
  ⟨(hb.cell (p := ⟨w.heap.size, 0, none⟩) (Nat.lt_succ_self _)).trans (by simp [go_sem]), (hb.cell (p := ⟨w.heap.size, 1, none⟩) (Nat.lt_succ_self _)).trans (by simp [go_sem]), (hb.cell (p := ⟨w.heap.size, 2, none⟩) (Nat.lt_succ_self _)).trans (by simp [go_sem])⟩

theorem OwnI.more {base : Nat} {w : World} {v : Value} {X Y : List Int} {m : Nat} {ys : List Value} (hm : Y.length = m) (hy : ys = Y.map fun n => .int .i64 n) (h : w.ownsRow base 3 1 v (X.length + m) ((X.map fun n => (.int .i64 n : Value)) ++ ys)) : OwnI base w v (X ++ Y) := by
  unfold OwnI
  rw [List.length_append, List.map_append, hm, ← hy]
  exact h

theorem Wh.ints_bd {ag xf : Int} {l : List (Int × Int)} (g1 : 0 ≤ ag) (g2 : ag ≤ 4294967295) (x1 : 0 ≤ xf) (x2 : xf ≤ 4294967295) (s1 : 0 ≤ Wh.lsp l) (s2 : Wh.lsp l ≤ 4294967295) (hl : l.length ≤ 1000)
    (h : ∀ i, i < l.length → (0 ≤ Wh.ends l i ∧ Wh.ends l i ≤ 4294967295) ∧ (0 ≤ (At l i).1 ∧ (At l i).1 ≤ 4294967295) ∧ (0 ≤ (At l i).2 ∧ (At l i).2 ≤ 4294967295)) : ∀ k, k ≤ l.length → ∀ n ∈ Wh.ints ag xf l k, 0 ≤ n ∧ n ≤ 4294967295
  | 0, _, n, hn => by
    simp [Wh.ints] at hn
    rcases hn with rfl | rfl | rfl | rfl <;> omega
  | k + 1, hk, n, hn => by
    unfold Wh.ints at hn
    rw [List.mem_append] at hn
    rcases hn with hn | hn
    · exact Wh.ints_bd g1 g2 x1 x2 s1 s2 hl h k (by omega) n hn
    · have := h k (by omega)
      simp at hn
      rcases hn with rfl | rfl | rfl <;> omega

end Go.Proofs.YtbhfapbhlkgmfaaDoor
