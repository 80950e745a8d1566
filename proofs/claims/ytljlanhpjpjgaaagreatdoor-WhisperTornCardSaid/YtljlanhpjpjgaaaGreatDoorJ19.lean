/- FxDiv FxMd FxMul -/
import Derived.Test.YtljlanhpjpjgaaaGreatDoorJ1
import Derived.Test.YtljlanhpjpjgaaaGreatDoorJ17
import Derived.Test.YtljlanhpjpjgaaaGreatDoorJ18
import Derived.Test.YtljlanhpjpjgaaaGreatDoorJ12
import Derived.Deep.RegionWith
import Derived.Test.YtljlanhpjpjgaaaGreatDoorJ11
namespace Go.Proofs.YtljlanhpjpjgaaaGreatDoor
set_option maxRecDepth 100000
set_option maxHeartbeats 8000000
section
open Go.RowKit
theorem ret2_u64 {a b c d : Int} (h : a = c) (k : b = d) : Ending.returned (.tuple #[.int .u64 a, .int .u64 b]) = .returned (.tuple #[.int .u64 c, .int .u64 d]) := by rw [h, k]
theorem below_drewN (B : Nat) (w : World) (n : Nat) : Below B w (w.drewN n) := ⟨rfl, rfl, rfl, Nat.le_refl _, fun _ _ => rfl⟩
theorem div64_low (lo y : Nat) (hlo : lo < 18446744073709551616) (hy : y < 18446744073709551616) (h0 : 0 < y) (w : World) :
 Calls Tryz.prog 154 #[.int .u64 0, .int .u64 lo, .int .u64 y] w fun e w' => e = .returned (.tuple #[.int .u64 ((lo / y : Nat) : Int), .int .u64 ((lo % y : Nat) : Int)]) ∧ Below w.heap.size w w' := by
 have hy0 : ((y : Int) == 0) = false := by simp; omega
 go_enter Tryz.func154, Tryz.ntmps154
 go_wp2_with fail
 go_quiet (fail)
 go_wp2
 ((try simp only [Exit.inBlock, Exit.then]); refine bodyPost_ret (results_tmp2 rfl _ _ _) rfl ?_)
 exact ⟨ret2_u64 (by rw [← Int.natCast_ediv, wrapN _ (Nat.lt_of_le_of_lt (Nat.div_le_self _ _) hlo)]) (by rw [Int.natCast_emod]), below_drewN _ _ _⟩
theorem quoN (u n : Nat) (hu : u < 18446744073709551616) : IntKind.u64.wrap ((u : Int) / (n : Int)) = ((u / n : Nat) : Int) := by
 rw [← Int.natCast_ediv, wrapN _ (Nat.lt_of_le_of_lt (Nat.div_le_self _ _) hu)]
theorem quoN' (u n : Nat) : ((u : Int) / (n : Int)) = ((u / n : Nat) : Int) := by rw [← Int.natCast_ediv]
theorem remN_aux (u n : Nat) : (u : Int) - ((u / n : Nat) : Int) * (n : Int) = ((u % n : Nat) : Int) := by
 have h := Nat.div_add_mod u n
 rw [Nat.mul_comm] at h
 rw [mulN]
 generalize u / n * n = x at *
 omega
theorem remN (u n : Nat) (hu : u < 18446744073709551616) : IntKind.u64.wrap ((u : Int) - IntKind.u64.wrap (IntKind.u64.wrap ((u : Int) / (n : Int)) * (n : Int))) = ((u % n : Nat) : Int) := by
 have hm : u % n ≤ u := Nat.mod_le _ _
 have hd : u / n * n ≤ u := Nat.div_mul_le_self _ _
 rw [quoN u n hu, mulN, wrapN _ (by omega), ← mulN, remN_aux, wrapN _ (by omega)]
theorem remN' (u n : Nat) (hu : u < 18446744073709551616) : IntKind.u64.wrap ((u : Int) - IntKind.u64.wrap ((u : Int) / (n : Int) * (n : Int))) = ((u % n : Nat) : Int) := by
 have hm : u % n ≤ u := Nat.mod_le _ _
 have hd : u / n * n ≤ u := Nat.div_mul_le_self _ _
 rw [quoN' u n, mulN, wrapN _ (by omega), ← mulN, remN_aux, wrapN _ (by omega)]
theorem div64_core (hi lo y s Y U L n1 n0 l1 l0 Q1 r1 Q0 r0 : Nat) (hh : hi < y) (h0 : 0 < hi) (hs : s ≤ 63)
 (HC : Hid (∀ W, Calls Tryz.prog 156 #[.int .u64 y] W fun e w' => e = .returned (.int .i64 s) ∧ W = w'))
 (e1 : IntKind.u64.wrap ((y : Int) * 2 ^ s) = Y) (e2 : bits .or .u64 (IntKind.u64.wrap ((hi : Int) * 2 ^ s)) ((lo : Int) / 2 ^ (64 - s)) = U)
 (e3 : IntKind.u64.wrap ((lo : Int) * 2 ^ s) = L) (e4 : (Y : Int) / 4294967296 = n1) (e5 : bits .and .u64 Y 4294967295 = n0)
 (e6 : (L : Int) / 4294967296 = l1) (e7 : bits .and .u64 L 4294967295 = l0)
 (e8 : IntKind.u64.wrap (IntKind.u64.wrap (IntKind.u64.wrap ((U : Int) * 4294967296) + (l1 : Int)) - IntKind.u64.wrap ((Q1 : Int) * (Y : Int))) = r1)
 (e9 : IntKind.u64.wrap (IntKind.u64.wrap (IntKind.u64.wrap ((r1 : Int) * 4294967296) + (l0 : Int)) - IntKind.u64.wrap ((Q0 : Int) * (Y : Int))) = r0)
 (b1 : 2147483648 ≤ n1) (b2 : n1 < 4294967296) (b3 : n0 < 4294967296) (b4 : l1 < 4294967296) (b5 : l0 < 4294967296) (b6 : U < 18446744073709551616) (b7 : r1 < 18446744073709551616)
 (b8 : Q1 < 4294967296) (b9 : Q0 < 4294967296) (hU : Hid (U < n1 * 4294967296 + n0)) (hr1 : Hid (r1 < n1 * 4294967296 + n0))
 (HQ1 : Hid (Q1 = (U * 4294967296 + l1) / (n1 * 4294967296 + n0))) (HQ0 : Hid (Q0 = (r1 * 4294967296 + l0) / (n1 * 4294967296 + n0)))
 (w : World) :
 Calls Tryz.prog 154 #[.int .u64 hi, .int .u64 lo, .int .u64 y] w fun e w' => e = .returned (.tuple #[.int .u64 ((Q1 * 4294967296 + Q0 : Nat) : Int), .int .u64 ((r0 / 2 ^ s : Nat) : Int)]) ∧ Below w.heap.size w w' := by
 have hy0 : ((y : Int) == 0) = false := by simp; omega
 have hh0 : ((hi : Int) == 0) = false := by simp; omega
 go_enter Tryz.func154, Tryz.ntmps154
 go_wp2_with (go_at_call 156; go_must (refine (HC.out _).mono ?_; rintro e w' ⟨rfl, rfl⟩))
 go_loop [15, 16] (fun x z => ∃ a b : Int, Dv.InvI n1 n0 U l1 a b ∧ x = .int .u64 a ∧ z = .int .u64 b) (fun x _ => (intOf x).toNat)
 case atStart => exact ⟨_, _, Dv.startI b1 b2 b3 hU.out b4, by (first | exact congrArg (Value.int .u64) (quoN U n1 b6) | exact congrArg (Value.int .u64) (quoN' U n1)), by first | exact congrArg (Value.int .u64) (remN U n1 b6) | exact congrArg (Value.int .u64) (remN' U n1 b6)⟩
 case round =>
  obtain ⟨a, b, hI, rfl, rfl⟩ := hrel
  clear e1 e2 e3 e4 e5 e6 e7 hy0 hh0
  obtain ⟨i1, i2, i3, i4⟩ := Dv.boundsI hI
  have HI := Lib.hid hI
  clear hI
  by_cases hA : 4294967296 ≤ a
  ·by_cases hC : 4294967296 ≤ b + (n1 : Int)
   ·obtain rfl := Dv.breakI b1 b3 hU.out b4 HQ1.out HI.out (.inl hA) hC
    clear HI i1 i2
    go_wp2
    go_loop [18, 16] (fun x z => ∃ a b : Int, Dv.InvI n1 n0 r1 l0 a b ∧ x = .int .u64 a ∧ z = .int .u64 b) (fun x _ => (intOf x).toNat)
    case atStart => exact ⟨_, _, Dv.startI b1 b2 b3 hr1.out b5, by (first | exact congrArg (Value.int .u64) (quoN r1 n1 b7) | exact congrArg (Value.int .u64) (quoN' r1 n1)), by first | exact congrArg (Value.int .u64) (remN r1 n1 b7) | exact congrArg (Value.int .u64) (remN' r1 n1 b7)⟩
    case round =>
     obtain ⟨a, b, hI, rfl, rfl⟩ := hrel
     skip
     obtain ⟨i1, i2, i3, i4⟩ := Dv.boundsI hI
     have HI := Lib.hid hI
     clear hI
     by_cases hA : 4294967296 ≤ a
     ·by_cases hC : 4294967296 ≤ b + (n1 : Int)
      ·obtain rfl := Dv.breakI b1 b3 hr1.out b5 HQ0.out HI.out (.inl hA) hC
       clear HI i1 i2
       go_wp2
       ((try simp only [Exit.inBlock, Exit.then]); refine bodyPost_ret (results_tmp2 rfl _ _ _) rfl ?_)
       exact ⟨rfl, Below.refl _ _⟩
      ·obtain ⟨h1a, hI2⟩ := Dv.stepI b1 hr1.out b5 HI.out (.inl hA) (by omega)
       have HI2 := Lib.hid hI2
       clear hI2 HI
       go_wp2
       go_round
       case rel => exact ⟨_, _, HI2.out, rfl, rfl⟩
       case measure => simp [intOf]; omega
     ·obtain ⟨P, eP, bP1, bP2⟩ := Dv.prodI i1 (show a ≤ 4294967295 by omega) b3
      by_cases hT : 4294967296 * b + (l0 : Int) < P
      ·by_cases hC : 4294967296 ≤ b + (n1 : Int)
       ·obtain rfl := Dv.breakI b1 b3 hr1.out b5 HQ0.out HI.out (.inr (by rw [eP]; exact hT)) hC
        clear HI i1 i2
        go_wp2
        ((try simp only [Exit.inBlock, Exit.then]); refine bodyPost_ret (results_tmp2 rfl _ _ _) rfl ?_)
        exact ⟨rfl, Below.refl _ _⟩
       ·obtain ⟨h1a, hI2⟩ := Dv.stepI b1 hr1.out b5 HI.out (.inr (by rw [eP]; exact hT)) (by omega)
        have HI2 := Lib.hid hI2
        clear hI2 HI
        go_wp2
        go_round
        case rel => exact ⟨_, _, HI2.out, rfl, rfl⟩
        case measure => simp [intOf]; omega
      ·obtain rfl := Dv.doneI b1 b3 HQ0.out HI.out (by rw [eP]; omega)
       clear HI i1 i2
       go_wp2
       ((try simp only [Exit.inBlock, Exit.then]); refine bodyPost_ret (results_tmp2 rfl _ _ _) rfl ?_)
       exact ⟨rfl, Below.refl _ _⟩
   ·obtain ⟨h1a, hI2⟩ := Dv.stepI b1 hU.out b4 HI.out (.inl hA) (by omega)
    have HI2 := Lib.hid hI2
    clear hI2 HI
    go_wp2
    go_round
    case rel => exact ⟨_, _, HI2.out, rfl, rfl⟩
    case measure => simp [intOf]; omega
  ·obtain ⟨P, eP, bP1, bP2⟩ := Dv.prodI i1 (show a ≤ 4294967295 by omega) b3
   by_cases hT : 4294967296 * b + (l1 : Int) < P
   ·by_cases hC : 4294967296 ≤ b + (n1 : Int)
    ·obtain rfl := Dv.breakI b1 b3 hU.out b4 HQ1.out HI.out (.inr (by rw [eP]; exact hT)) hC
     clear HI i1 i2
     go_wp2
     go_loop [18, 16] (fun x z => ∃ a b : Int, Dv.InvI n1 n0 r1 l0 a b ∧ x = .int .u64 a ∧ z = .int .u64 b) (fun x _ => (intOf x).toNat)
     case atStart => exact ⟨_, _, Dv.startI b1 b2 b3 hr1.out b5, by (first | exact congrArg (Value.int .u64) (quoN r1 n1 b7) | exact congrArg (Value.int .u64) (quoN' r1 n1)), by first | exact congrArg (Value.int .u64) (remN r1 n1 b7) | exact congrArg (Value.int .u64) (remN' r1 n1 b7)⟩
     case round =>
      obtain ⟨a, b, hI, rfl, rfl⟩ := hrel
      skip
      obtain ⟨i1, i2, i3, i4⟩ := Dv.boundsI hI
      have HI := Lib.hid hI
      clear hI
      by_cases hA : 4294967296 ≤ a
      ·by_cases hC : 4294967296 ≤ b + (n1 : Int)
       ·obtain rfl := Dv.breakI b1 b3 hr1.out b5 HQ0.out HI.out (.inl hA) hC
        clear HI i1 i2
        go_wp2
        ((try simp only [Exit.inBlock, Exit.then]); refine bodyPost_ret (results_tmp2 rfl _ _ _) rfl ?_)
        exact ⟨rfl, Below.refl _ _⟩
       ·obtain ⟨h1a, hI2⟩ := Dv.stepI b1 hr1.out b5 HI.out (.inl hA) (by omega)
        have HI2 := Lib.hid hI2
        clear hI2 HI
        go_wp2
        go_round
        case rel => exact ⟨_, _, HI2.out, rfl, rfl⟩
        case measure => simp [intOf]; omega
      ·obtain ⟨P, eP, bP1, bP2⟩ := Dv.prodI i1 (show a ≤ 4294967295 by omega) b3
       by_cases hT : 4294967296 * b + (l0 : Int) < P
       ·by_cases hC : 4294967296 ≤ b + (n1 : Int)
        ·obtain rfl := Dv.breakI b1 b3 hr1.out b5 HQ0.out HI.out (.inr (by rw [eP]; exact hT)) hC
         clear HI i1 i2
         go_wp2
         ((try simp only [Exit.inBlock, Exit.then]); refine bodyPost_ret (results_tmp2 rfl _ _ _) rfl ?_)
         exact ⟨rfl, Below.refl _ _⟩
        ·obtain ⟨h1a, hI2⟩ := Dv.stepI b1 hr1.out b5 HI.out (.inr (by rw [eP]; exact hT)) (by omega)
         have HI2 := Lib.hid hI2
         clear hI2 HI
         go_wp2
         go_round
         case rel => exact ⟨_, _, HI2.out, rfl, rfl⟩
         case measure => simp [intOf]; omega
       ·obtain rfl := Dv.doneI b1 b3 HQ0.out HI.out (by rw [eP]; omega)
        clear HI i1 i2
        go_wp2
        ((try simp only [Exit.inBlock, Exit.then]); refine bodyPost_ret (results_tmp2 rfl _ _ _) rfl ?_)
        exact ⟨rfl, Below.refl _ _⟩
    ·obtain ⟨h1a, hI2⟩ := Dv.stepI b1 hU.out b4 HI.out (.inr (by rw [eP]; exact hT)) (by omega)
     have HI2 := Lib.hid hI2
     clear hI2 HI
     go_wp2
     go_round
     case rel => exact ⟨_, _, HI2.out, rfl, rfl⟩
     case measure => simp [intOf]; omega
   ·obtain rfl := Dv.doneI b1 b3 HQ1.out HI.out (by rw [eP]; omega)
    clear HI i1 i2
    go_wp2
    go_loop [18, 16] (fun x z => ∃ a b : Int, Dv.InvI n1 n0 r1 l0 a b ∧ x = .int .u64 a ∧ z = .int .u64 b) (fun x _ => (intOf x).toNat)
    case atStart => exact ⟨_, _, Dv.startI b1 b2 b3 hr1.out b5, by (first | exact congrArg (Value.int .u64) (quoN r1 n1 b7) | exact congrArg (Value.int .u64) (quoN' r1 n1)), by first | exact congrArg (Value.int .u64) (remN r1 n1 b7) | exact congrArg (Value.int .u64) (remN' r1 n1 b7)⟩
    case round =>
     obtain ⟨a, b, hI, rfl, rfl⟩ := hrel
     skip
     obtain ⟨i1, i2, i3, i4⟩ := Dv.boundsI hI
     have HI := Lib.hid hI
     clear hI
     by_cases hA : 4294967296 ≤ a
     ·by_cases hC : 4294967296 ≤ b + (n1 : Int)
      ·obtain rfl := Dv.breakI b1 b3 hr1.out b5 HQ0.out HI.out (.inl hA) hC
       clear HI i1 i2
       go_wp2
       ((try simp only [Exit.inBlock, Exit.then]); refine bodyPost_ret (results_tmp2 rfl _ _ _) rfl ?_)
       exact ⟨rfl, Below.refl _ _⟩
      ·obtain ⟨h1a, hI2⟩ := Dv.stepI b1 hr1.out b5 HI.out (.inl hA) (by omega)
       have HI2 := Lib.hid hI2
       clear hI2 HI
       go_wp2
       go_round
       case rel => exact ⟨_, _, HI2.out, rfl, rfl⟩
       case measure => simp [intOf]; omega
     ·obtain ⟨P, eP, bP1, bP2⟩ := Dv.prodI i1 (show a ≤ 4294967295 by omega) b3
      by_cases hT : 4294967296 * b + (l0 : Int) < P
      ·by_cases hC : 4294967296 ≤ b + (n1 : Int)
       ·obtain rfl := Dv.breakI b1 b3 hr1.out b5 HQ0.out HI.out (.inr (by rw [eP]; exact hT)) hC
        clear HI i1 i2
        go_wp2
        ((try simp only [Exit.inBlock, Exit.then]); refine bodyPost_ret (results_tmp2 rfl _ _ _) rfl ?_)
        exact ⟨rfl, Below.refl _ _⟩
       ·obtain ⟨h1a, hI2⟩ := Dv.stepI b1 hr1.out b5 HI.out (.inr (by rw [eP]; exact hT)) (by omega)
        have HI2 := Lib.hid hI2
        clear hI2 HI
        go_wp2
        go_round
        case rel => exact ⟨_, _, HI2.out, rfl, rfl⟩
        case measure => simp [intOf]; omega
      ·obtain rfl := Dv.doneI b1 b3 HQ0.out HI.out (by rw [eP]; omega)
       clear HI i1 i2
       go_wp2
       ((try simp only [Exit.inBlock, Exit.then]); refine bodyPost_ret (results_tmp2 rfl _ _ _) rfl ?_)
       exact ⟨rfl, Below.refl _ _⟩
theorem restN (N x r : Nat) (U l : Nat) (hN : N = U * 4294967296 + l) (hx : x + r = N) (hr : r < 18446744073709551616) :
 IntKind.u64.wrap (IntKind.u64.wrap (IntKind.u64.wrap ((U : Int) * 4294967296) + (l : Int)) - IntKind.u64.wrap (x : Int)) = r := by
 simp only [IntKind.wrap_u64]
 omega
theorem digits_join (U L : Nat) : (U * 4294967296 + L / 4294967296) * 4294967296 + L % 4294967296 = U * 18446744073709551616 + L := by omega
theorem digits_of (Y : Nat) : Y / 4294967296 * 4294967296 + Y % 4294967296 = Y := by omega
theorem digit_top (Y : Nat) (h : 9223372036854775808 ≤ Y) : 2147483648 ≤ Y / 4294967296 := by omega
theorem digit_high (Y : Nat) (h : Y < 18446744073709551616) : Y / 4294967296 < 4294967296 := by omega
theorem castPow (a s : Nat) : (a : Int) * 2 ^ s = ((a * 2 ^ s : Nat) : Int) := by
 rw [Int.natCast_mul, Int.natCast_pow]; first | done | rfl
theorem castPowDiv (a s : Nat) : (a : Int) / 2 ^ s = ((a / 2 ^ s : Nat) : Int) := by
 rw [Int.natCast_ediv, Int.natCast_pow]; first | done | rfl
theorem div64_high (hi lo y : Nat) (hlo : lo < 18446744073709551616) (hy : y < 18446744073709551616) (h0 : 0 < hi) (hh : hi < y) (w : World) :
 Calls Tryz.prog 154 #[.int .u64 hi, .int .u64 lo, .int .u64 y] w fun e w' => e = .returned (.tuple #[.int .u64 (((hi * 18446744073709551616 + lo) / y : Nat) : Int), .int .u64 (((hi * 18446744073709551616 + lo) % y : Nat) : Int)]) ∧ Below w.heap.size w w' := by
 obtain ⟨k, hk, y1, y2⟩ := bitLen_bounds 64 y (by omega) (by omega)
 have hk63 : k ≤ 63 := by
  have := Lib.bitLen_le y 64 (by omega) (by omega)
  unfold Lib.bitLen at this
  omega
 obtain ⟨s, hs⟩ : ∃ s, s = 64 - Lib.bitLen y := ⟨_, rfl⟩
 have hsk : s = 63 - k := by rw [hs]; unfold Lib.bitLen; omega
 have HC : Hid (∀ W, Calls Tryz.prog 156 #[.int .u64 y] W fun e w' => e = .returned (.int .i64 s) ∧ W = w') := by
  apply Lib.hid; intro W; rw [hs]; exact leadingZeros_any y hy W
 obtain ⟨S, hS⟩ : ∃ S, S = 2 ^ s := ⟨_, rfl⟩
 obtain ⟨T, hT⟩ : ∃ T, T = 2 ^ (64 - s) := ⟨_, rfl⟩
 have hST : S * T = 18446744073709551616 := by
  rw [hS, hT, ← Nat.pow_add, show s + (64 - s) = 64 by omega]
 have hSpos : 0 < S := by rw [hS]; exact Nat.pos_of_ne_zero (by simp)
 have hYlow : 9223372036854775808 ≤ y * S := by
  have h := Nat.mul_le_mul_right S y1
  rw [hS, hsk, ← Nat.pow_add, show k + (63 - k) = 63 by omega] at h
  rw [hS, hsk]
  exact h
 have hYhigh : y * S < 18446744073709551616 := by
  have h := Nat.mul_lt_mul_of_pos_right y2 hSpos
  rw [hS, hsk, ← Nat.pow_add, show k + 1 + (63 - k) = 64 by omega] at h
  rw [hS, hsk]
  exact h
 obtain ⟨hU, hT2⟩ := Dv.high_lt (lo := lo) hST hlo hh
 have hsh := Dv.shifted hi lo S T hST hSpos
 obtain ⟨c, hc⟩ : ∃ c, c = lo / T := ⟨_, rfl⟩
 rw [← hc] at hU hT2 hsh
 have hUhi : hi * S < 18446744073709551616 := Nat.lt_of_le_of_lt (Nat.le_add_right _ c) (Nat.lt_trans hU hYhigh)
 have hsc := Dv.scaled (hi * 18446744073709551616 + lo) y S hSpos
 have e1 : IntKind.u64.wrap ((y : Int) * 2 ^ s) = ((y * S : Nat) : Int) := by rw [castPow, ← hS, wrapN _ hYhigh]
 have e2 : bits .or .u64 (IntKind.u64.wrap ((hi : Int) * 2 ^ s)) ((lo : Int) / 2 ^ (64 - s)) = ((hi * S + c : Nat) : Int) := by
  have hc64 : c < 18446744073709551616 := by rw [hc]; exact Nat.lt_of_le_of_lt (Nat.div_le_self _ _) hlo
  rw [castPow, castPowDiv, ← hS, ← hT, ← hc, wrapN _ hUhi, orN _ _ hUhi hc64]
  have h := Nat.two_pow_add_eq_or_of_lt (i := s) (b := c) (by rw [← hS]; exact hT2) hi
  rw [← hS, Nat.mul_comm S hi] at h
  rw [← h]
 have e3 : IntKind.u64.wrap ((lo : Int) * 2 ^ s) = ((lo * S % 18446744073709551616 : Nat) : Int) := by rw [castPow, ← hS, wrapM]
 have hL : lo * S % 18446744073709551616 < 18446744073709551616 := Nat.mod_lt _ (by omega)
 generalize lo * S % 18446744073709551616 = L at *
 generalize hi * S + c = U at *
 obtain ⟨Y, hY⟩ : ∃ Y, Y = y * S := ⟨_, rfl⟩
 rw [← hY] at e1 hU hYlow hYhigh hsc
 have hYd := Nat.div_add_mod Y 4294967296
 have hLd := Nat.div_add_mod L 4294967296
 have hY2 := digits_of Y
 have hn1 := digit_top Y hYlow
 have hl1 := digit_high L hL
 have hL2 := digits_join U L
 have hYpos : 0 < Y := Nat.lt_of_lt_of_le (by decide) hYlow
 have ht := Dv.two' (U * 4294967296 + L / 4294967296) (L % 4294967296) Y hYpos
 rw [hL2, ← hsh] at ht
 have hr1 := Nat.mod_lt (U * 4294967296 + L / 4294967296) hYpos
 have hd1 := Nat.div_add_mod (U * 4294967296 + L / 4294967296) Y
 have hq1 := Dv.digit_lt (n1 := Y / 4294967296) (n0 := Y % 4294967296) (u := U) (t := L / 4294967296) hn1 (by rw [hY2]; exact hU) hl1
 rw [hY2] at hq1
 have hr0 := Nat.mod_lt ((U * 4294967296 + L / 4294967296) % Y * 4294967296 + L % 4294967296) hYpos
 have hd0 := Nat.div_add_mod ((U * 4294967296 + L / 4294967296) % Y * 4294967296 + L % 4294967296) Y
 have hq0 := Dv.digit_lt (n1 := Y / 4294967296) (n0 := Y % 4294967296) (u := (U * 4294967296 + L / 4294967296) % Y) (t := L % 4294967296) hn1 (by rw [hY2]; exact hr1) (Nat.mod_lt _ (by decide))
 rw [hY2] at hq0
 rw [← hsc.1, ← hsc.2, ht.1, ht.2]
 have HT := Lib.hid ht
 clear ht hsc hsh
 obtain ⟨Q1, hQ1⟩ : ∃ Q, Q = (U * 4294967296 + L / 4294967296) / Y := ⟨_, rfl⟩
 obtain ⟨r1, hR1⟩ : ∃ r, r = (U * 4294967296 + L / 4294967296) % Y := ⟨_, rfl⟩
 rw [← hQ1, ← hR1] at hd1
 rw [← hR1] at hd0 hq0 hr0 hr1
 rw [← hQ1] at hq1
 rw [← hQ1, ← hR1]
 obtain ⟨Q0, hQ0⟩ : ∃ Q, Q = (r1 * 4294967296 + L % 4294967296) / Y := ⟨_, rfl⟩
 obtain ⟨r0, hR0⟩ : ∃ r, r = (r1 * 4294967296 + L % 4294967296) % Y := ⟨_, rfl⟩
 rw [← hQ0, ← hR0] at hd0
 rw [← hR0] at hr0
 rw [← hQ0] at hq0
 rw [← hQ0, ← hR0, hS]
 refine div64_core hi lo y s Y U L (Y / 4294967296) (Y % 4294967296) (L / 4294967296) (L % 4294967296) Q1 r1 Q0 r0 hh h0 (by rw [hsk]; exact Nat.sub_le _ _) HC e1 e2 e3 (divN Y) (maskN Y hYhigh) (divN L) (maskN L hL)
  (by rw [mulN]; exact restN (U * 4294967296 + L / 4294967296) (Q1 * Y) r1 U (L / 4294967296) rfl (by rw [Nat.mul_comm]; exact hd1) (Nat.lt_trans hr1 hYhigh))
  (by rw [mulN]; exact restN (r1 * 4294967296 + L % 4294967296) (Q0 * Y) r0 r1 (L % 4294967296) rfl (by rw [Nat.mul_comm]; exact hd0) (Nat.lt_trans hr0 hYhigh))
  hn1 (digit_high Y hYhigh) (Nat.mod_lt _ (by decide)) hl1 (Nat.mod_lt _ (by decide)) (Nat.lt_trans hU hYhigh) (Nat.lt_trans hr1 hYhigh) hq1 hq0 (Lib.hid (by rw [hY2]; exact hU)) (Lib.hid (by rw [hY2]; exact hr1)) (Lib.hid (by rw [hY2]; exact hQ1)) (Lib.hid (by rw [hY2]; exact hQ0)) w
theorem div64_any (hi lo y : Nat) (hlo : lo < 18446744073709551616) (hy : y < 18446744073709551616) (hh : hi < y) (w : World) :
 Calls Tryz.prog 154 #[.int .u64 hi, .int .u64 lo, .int .u64 y] w fun e w' => e = .returned (.tuple #[.int .u64 (((hi * 18446744073709551616 + lo) / y : Nat) : Int), .int .u64 (((hi * 18446744073709551616 + lo) % y : Nat) : Int)]) ∧ Below w.heap.size w w' := by
 by_cases h : hi = 0
 ·subst h
  rw [Nat.zero_mul, Nat.zero_add]
  exact div64_low lo y hlo hy hh w
 ·exact div64_high hi lo y hlo hy (by omega) hh w
end
section
open Go.RowKit
def MdPost (a b c : Int) (w : World) (e : Ending) (w' : World) : Prop := ∃ n ok, Fx.Md a b c n ok ∧ e = .returned (.tuple #[.int .i64 n, .bool ok]) ∧ Below w.heap.size w w'
theorem md_zero_any (a b : Int) (w : World) :
 Calls Tryz.prog 147 #[.int .i64 a, .int .i64 b, .int .i64 0] w fun e w' => MdPost a b 0 w e w' := by
 go_enter Tryz.func147, Tryz.ntmps147
 go_wp2
 ((try simp only [Exit.inBlock, Exit.then]); refine bodyPost_ret (results_tmp2 rfl _ _ _) rfl ?_)
 exact ⟨_, _, Fx.md_zero rfl, rfl, Below.refl _ _⟩
structure MdIn (a b c x y d hi lo q r : Int) : Prop where
 A : ∀ W, Calls Tryz.prog 153 #[.int .i64 a] W fun e w' => e = .returned (.int .u64 x) ∧ W = w'
 B : ∀ W, Calls Tryz.prog 153 #[.int .i64 b] W fun e w' => e = .returned (.int .u64 y) ∧ W = w'
 C : ∀ W, Calls Tryz.prog 153 #[.int .i64 c] W fun e w' => e = .returned (.int .u64 d) ∧ W = w'
 M : ∀ W, Calls Tryz.prog 152 #[.int .u64 x, .int .u64 y] W fun e w' => e = .returned (.tuple #[.int .u64 hi, .int .u64 lo]) ∧ W = w'
 D : hi < d → ∀ W, Calls Tryz.prog 154 #[.int .u64 hi, .int .u64 lo, .int .u64 d] W fun e w' => e = .returned (.tuple #[.int .u64 q, .int .u64 r]) ∧ Below W.heap.size W w'
 d0 : 0 < d
 d1 : d ≤ 9223372036854775808
 q0 : 0 ≤ q
 q1 : q ≤ 18446744073709551615
 r0 : 0 ≤ r
 r1 : r < d
theorem md_over (a b c x y d hi lo q r : Int) (H : MdIn a b c x y d hi lo q r) (HC0 : Hid (c ≠ 0)) (hd : d ≤ hi) (HQ : Hid (4611686018427387904 < Fx.mdq a b c)) (w : World) :
 Calls Tryz.prog 147 #[.int .i64 a, .int .i64 b, .int .i64 c] w fun e w' => MdPost a b c w e w' := by
 have hc0 : (c == 0) = false := by simp [HC0.out]
 go_enter Tryz.func147, Tryz.ntmps147
 go_wp2_with fail
 (go_at_call 153; go_must (refine (H.A _).mono ?_; rintro e w' ⟨rfl, rfl⟩))
 go_wp2_with fail
 (go_at_call 153; go_must (refine (H.B _).mono ?_; rintro e w' ⟨rfl, rfl⟩))
 go_wp2_with fail
 (go_at_call 152; go_must (refine (H.M _).mono ?_; rintro e w' ⟨rfl, rfl⟩))
 go_wp2_with fail
 (go_at_call 153; go_must (refine (H.C _).mono ?_; rintro e w' ⟨rfl, rfl⟩))
 go_wp2_with fail
 all_goals
  ((try simp only [Exit.inBlock, Exit.then]); refine bodyPost_ret (results_tmp2 rfl _ _ _) rfl ?_)
  first
  | exact ⟨_, _, Fx.md_big (by have := HQ.out; omega), rfl, Bq⟩
  | exact ⟨_, _, Fx.md_neg HC0.out HQ.out.symm (by omega) ‹_›, rfl, Bq⟩
  | exact ⟨_, _, Fx.md_pos HC0.out HQ.out.symm (by omega) ‹_›, rfl, Bq⟩
theorem md_most (a b c x y d hi lo q r : Int) (H : MdIn a b c x y d hi lo q r) (HC0 : Hid (c ≠ 0)) (hd : hi < d) (hq : 4611686018427387904 < q) (HQ : Hid (4611686018427387904 < Fx.mdq a b c)) (w : World) :
 Calls Tryz.prog 147 #[.int .i64 a, .int .i64 b, .int .i64 c] w fun e w' => MdPost a b c w e w' := by
 have hc0 : (c == 0) = false := by simp [HC0.out]
 have HD := Lib.hid (H.D hd)
 have d1 := H.d1
 have q0 := H.q0
 have r0 := H.r0
 have r1 := H.r1
 go_enter Tryz.func147, Tryz.ntmps147
 go_wp2_with fail
 (go_at_call 153; go_must (refine (H.A _).mono ?_; rintro e w' ⟨rfl, rfl⟩))
 go_wp2_with fail
 (go_at_call 153; go_must (refine (H.B _).mono ?_; rintro e w' ⟨rfl, rfl⟩))
 go_wp2_with fail
 (go_at_call 152; go_must (refine (H.M _).mono ?_; rintro e w' ⟨rfl, rfl⟩))
 go_wp2_with fail
 (go_at_call 153; go_must (refine (H.C _).mono ?_; rintro e w' ⟨rfl, rfl⟩))
 go_wp2_with fail
 (go_at_call 154; go_must (refine (HD.out _).mono ?_; rintro e w' ⟨rfl, hb⟩; obtain ⟨hc, hf⟩ := bcell hb; (try have hz0 : w.heap.size < w'.heap.size := Bz hb); (try have hz1 : w.heap.size + 1 < w'.heap.size := Bz hb); (try have hz2 : w.heap.size + 1 + 1 < w'.heap.size := Bz hb); have hz := hb.size; (try simp at hz)))
 go_wp2_with fail
 all_goals
  ((try simp only [Exit.inBlock, Exit.then]); refine bodyPost_ret (results_tmp2 rfl _ _ _) rfl ?_)
  first
  | exact ⟨_, _, Fx.md_big (by have := HQ.out; omega), rfl, Bq⟩
  | exact ⟨_, _, Fx.md_neg HC0.out HQ.out.symm (by omega) ‹_›, rfl, Bq⟩
  | exact ⟨_, _, Fx.md_pos HC0.out HQ.out.symm (by omega) ‹_›, rfl, Bq⟩
theorem md_up (a b c x y d hi lo q r : Int) (H : MdIn a b c x y d hi lo q r) (HC0 : Hid (c ≠ 0)) (hd : hi < d) (hq : q ≤ 4611686018427387904) (hr : d ≤ 2 * r) (HQ : Hid ((Fx.mdq a b c : Int) = q + 1)) (w : World) :
 Calls Tryz.prog 147 #[.int .i64 a, .int .i64 b, .int .i64 c] w fun e w' => MdPost a b c w e w' := by
 have hc0 : (c == 0) = false := by simp [HC0.out]
 have HD := Lib.hid (H.D hd)
 have d1 := H.d1
 have q0 := H.q0
 have r0 := H.r0
 have r1 := H.r1
 go_enter Tryz.func147, Tryz.ntmps147
 go_wp2_with fail
 (go_at_call 153; go_must (refine (H.A _).mono ?_; rintro e w' ⟨rfl, rfl⟩))
 go_wp2_with fail
 (go_at_call 153; go_must (refine (H.B _).mono ?_; rintro e w' ⟨rfl, rfl⟩))
 go_wp2_with fail
 (go_at_call 152; go_must (refine (H.M _).mono ?_; rintro e w' ⟨rfl, rfl⟩))
 go_wp2_with fail
 (go_at_call 153; go_must (refine (H.C _).mono ?_; rintro e w' ⟨rfl, rfl⟩))
 go_wp2_with fail
 (go_at_call 154; go_must (refine (HD.out _).mono ?_; rintro e w' ⟨rfl, hb⟩; obtain ⟨hc, hf⟩ := bcell hb; (try have hz0 : w.heap.size < w'.heap.size := Bz hb); (try have hz1 : w.heap.size + 1 < w'.heap.size := Bz hb); (try have hz2 : w.heap.size + 1 + 1 < w'.heap.size := Bz hb); have hz := hb.size; (try simp at hz)))
 go_wp2_with fail
 all_goals
  ((try simp only [Exit.inBlock, Exit.then]); refine bodyPost_ret (results_tmp2 rfl _ _ _) rfl ?_)
  first
  | exact ⟨_, _, Fx.md_big (by have := HQ.out; omega), rfl, Bq⟩
  | exact ⟨_, _, Fx.md_neg HC0.out HQ.out.symm (by omega) ‹_›, rfl, Bq⟩
  | exact ⟨_, _, Fx.md_pos HC0.out HQ.out.symm (by omega) ‹_›, rfl, Bq⟩
theorem md_down (a b c x y d hi lo q r : Int) (H : MdIn a b c x y d hi lo q r) (HC0 : Hid (c ≠ 0)) (hd : hi < d) (hq : q ≤ 4611686018427387904) (hr : 2 * r < d) (HQ : Hid ((Fx.mdq a b c : Int) = q)) (w : World) :
 Calls Tryz.prog 147 #[.int .i64 a, .int .i64 b, .int .i64 c] w fun e w' => MdPost a b c w e w' := by
 have hc0 : (c == 0) = false := by simp [HC0.out]
 have HD := Lib.hid (H.D hd)
 have d1 := H.d1
 have q0 := H.q0
 have r0 := H.r0
 have r1 := H.r1
 go_enter Tryz.func147, Tryz.ntmps147
 go_wp2_with fail
 (go_at_call 153; go_must (refine (H.A _).mono ?_; rintro e w' ⟨rfl, rfl⟩))
 go_wp2_with fail
 (go_at_call 153; go_must (refine (H.B _).mono ?_; rintro e w' ⟨rfl, rfl⟩))
 go_wp2_with fail
 (go_at_call 152; go_must (refine (H.M _).mono ?_; rintro e w' ⟨rfl, rfl⟩))
 go_wp2_with fail
 (go_at_call 153; go_must (refine (H.C _).mono ?_; rintro e w' ⟨rfl, rfl⟩))
 go_wp2_with fail
 (go_at_call 154; go_must (refine (HD.out _).mono ?_; rintro e w' ⟨rfl, hb⟩; obtain ⟨hc, hf⟩ := bcell hb; (try have hz0 : w.heap.size < w'.heap.size := Bz hb); (try have hz1 : w.heap.size + 1 < w'.heap.size := Bz hb); (try have hz2 : w.heap.size + 1 + 1 < w'.heap.size := Bz hb); have hz := hb.size; (try simp at hz)))
 go_wp2_with fail
 all_goals
  ((try simp only [Exit.inBlock, Exit.then]); refine bodyPost_ret (results_tmp2 rfl _ _ _) rfl ?_)
  first
  | exact ⟨_, _, Fx.md_big (by have := HQ.out; omega), rfl, Bq⟩
  | exact ⟨_, _, Fx.md_neg HC0.out HQ.out.symm (by omega) ‹_›, rfl, Bq⟩
  | exact ⟨_, _, Fx.md_pos HC0.out HQ.out.symm (by omega) ‹_›, rfl, Bq⟩
theorem mulDiv_any (a b c : Int) (a1 : -9223372036854775808 ≤ a) (a2 : a ≤ 9223372036854775807) (b1 : -9223372036854775808 ≤ b) (b2 : b ≤ 9223372036854775807) (c1 : -9223372036854775808 ≤ c) (c2 : c ≤ 9223372036854775807) (w : World) :
 Calls Tryz.prog 147 #[.int .i64 a, .int .i64 b, .int .i64 c] w fun e w' => MdPost a b c w e w' := by
 by_cases hc : c = 0
 ·subst hc; exact md_zero_any a b w
 have hx := Fx.mag_le a1 a2
 have hy := Fx.mag_le b1 b2
 have hd := Fx.mag_le c1 c2
 have hd0 := Fx.mag_pos hc
 obtain ⟨p, hp⟩ : ∃ p, p = Fx.mag a * Fx.mag b := ⟨_, rfl⟩
 have hmq : Fx.mdq a b c = Fx.rnd p (Fx.mag c) := by unfold Fx.mdq; rw [← hp]
 have hw := Fx.whole p
 have hp128 : p / 18446744073709551616 < 18446744073709551616 := by
  have := Nat.mul_le_mul hx hy
  rw [← hp] at this
  rw [Nat.div_lt_iff_lt_mul (by decide)]
  exact Nat.lt_of_le_of_lt this (by decide)
 have hrd := Nat.mod_lt p hd0
 have hge := Fx.rnd_ge p (Fx.mag c)
 have H : MdIn a b c (Fx.mag a) (Fx.mag b) (Fx.mag c) ((p / 18446744073709551616 : Nat) : Int) ((p % 18446744073709551616 : Nat) : Int) (if p / 18446744073709551616 < Fx.mag c then ((p / Fx.mag c : Nat) : Int) else 0) ((p % Fx.mag c : Nat) : Int) := by
  refine ⟨fun W => magnitude_any a a1 a2 W, fun W => magnitude_any b b1 b2 W, fun W => magnitude_any c c1 c2 W, fun W => ?_, fun h W => ?_, by omega, by omega, ?_, ?_, by omega, by omega⟩
  ·have := mul64_any (Fx.mag a) (Fx.mag b) (by omega) (by omega) W
   rw [← hp] at this
   exact this
  ·have hlt : p / 18446744073709551616 < Fx.mag c := by omega
   have := div64_any (p / 18446744073709551616) (p % 18446744073709551616) (Fx.mag c) (Nat.mod_lt _ (by decide)) (by omega) hlt W
   rw [hw] at this
   rw [if_pos hlt]
   exact this
  ·split
   ·exact Int.natCast_nonneg _
   ·exact Int.le_refl _
  ·split
   ·rename_i h
    have : p / Fx.mag c < 18446744073709551616 := by
     rw [Nat.div_lt_iff_lt_mul hd0]
     have h3 := Nat.div_add_mod p 18446744073709551616
     have h4 := Nat.mod_lt p (show 0 < 18446744073709551616 by decide)
     omega
    omega
   ·omega
 by_cases h1 : p / 18446744073709551616 < Fx.mag c
 ·rw [if_pos h1] at H
  by_cases h2 : 4611686018427387904 < p / Fx.mag c
  ·exact md_most a b c _ _ _ _ _ _ _ H (Lib.hid hc) (by omega) (by omega) (Lib.hid (by rw [hmq]; omega)) w
  ·by_cases h3 : Fx.mag c ≤ 2 * (p % Fx.mag c)
   ·exact md_up a b c _ _ _ _ _ _ _ H (Lib.hid hc) (by omega) (by omega) (by omega) (Lib.hid (by rw [hmq, Fx.rnd_up h3]; omega)) w
   ·exact md_down a b c _ _ _ _ _ _ _ H (Lib.hid hc) (by omega) (by omega) (by omega) (Lib.hid (by rw [hmq, Fx.rnd_down (by omega)])) w
 ·have := Fx.words p (Fx.mag c) (by omega) hd0
  exact md_over a b c _ _ _ _ _ _ _ H (Lib.hid hc) (by omega) (Lib.hid (by rw [hmq]; omega)) w
end
section
open Go.RowKit
open Fx (Vl)
theorem mulDiv_val (a b c : Int) (a1 : -9223372036854775808 ≤ a) (a2 : a ≤ 9223372036854775807) (b1 : -9223372036854775808 ≤ b) (b2 : b ≤ 9223372036854775807) (c1 : -9223372036854775808 ≤ c) (c2 : c ≤ 9223372036854775807) (w : World) :
 Calls Tryz.prog 147 #[.int .i64 a, .int .i64 b, .int .i64 c] w fun e w' => e = .returned (.tuple #[.int .i64 (Fx.mdn a b c), .bool (Fx.mdok a b c)]) ∧ Below w.heap.size w w' :=
 (mulDiv_any a b c a1 a2 b1 b2 c1 c2 w).mono fun e w' ⟨n, ok, h, he, hb⟩ => ⟨by rw [he, h.num, h.ok], hb⟩
theorem div_any (a : Bool) (m : Int) (b : Bool) (n : Int) (w : World) :
 Calls Tryz.prog 136 #[.agg #[.bool a, .int .i64 m], .agg #[.bool b, .int .i64 n]] w fun e w' => e = .returned (.agg #[.bool (Fx.div ⟨a, m⟩ ⟨b, n⟩).ok, .int .i64 (Fx.div ⟨a, m⟩ ⟨b, n⟩).n]) ∧ Below w.heap.size w w' := by
 cases h : Fx.num ⟨a, m⟩
 ·rw [Fx.div_no1 h]
  go_enter Tryz.func136, Tryz.ntmps136
  go_wp2_with (go_at_call 145; go_must (refine (isNumber_any _ _ _).mono ?_; rintro e w' ⟨rfl, hb⟩; obtain ⟨hc, hf⟩ := bcell hb; (try have hz0 : w.heap.size < w'.heap.size := Bz hb); (try have hz1 : w.heap.size + 1 < w'.heap.size := Bz hb); (try have hz2 : w.heap.size + 1 + 1 < w'.heap.size := Bz hb); have hz := hb.size; (try simp at hz)))
  exact bodyPost_ret (v := .agg #[.bool false, .int .i64 0]) (by simp [results, Tryz.results136, go_sem, *]) rfl ⟨rfl, Bq⟩
 ·cases h2 : Fx.num ⟨b, n⟩
  ·rw [Fx.div_no2 h2]
   go_enter Tryz.func136, Tryz.ntmps136
   go_wp2_with (go_at_call 145; go_must (refine (isNumber_any _ _ _).mono ?_; rintro e w' ⟨rfl, hb⟩; obtain ⟨hc, hf⟩ := bcell hb; (try have hz0 : w.heap.size < w'.heap.size := Bz hb); (try have hz1 : w.heap.size + 1 < w'.heap.size := Bz hb); (try have hz2 : w.heap.size + 1 + 1 < w'.heap.size := Bz hb); have hz := hb.size; (try simp at hz)))
   exact bodyPost_ret (v := .agg #[.bool false, .int .i64 0]) (by simp [results, Tryz.results136, go_sem, *]) rfl ⟨rfl, Bq⟩
  ·rw [Fx.div_yes h h2]
   obtain ⟨rfl, m1, m2⟩ := Fx.num_iff.1 h
   obtain ⟨rfl, n1, n2⟩ := Fx.num_iff.1 h2
   have HM : Hid (∀ W, Calls Tryz.prog 147 #[.int .i64 m, .int .i64 1000000, .int .i64 n] W fun e w' => e = .returned (.tuple #[.int .i64 (Fx.mdn m 1000000 n), .bool (Fx.mdok m 1000000 n)]) ∧ Below W.heap.size W w') :=
    Lib.hid fun W => mulDiv_val m 1000000 n (by omega) (by omega) (by omega) (by omega) (by omega) (by omega) W
   cases ho : Fx.mdok m 1000000 n
   ·rw [Fx.mdv_no ho]
    go_enter Tryz.func136, Tryz.ntmps136
    go_wp2_with first | (go_at_call 145; go_must (refine (isNumber_any _ _ _).mono ?_; rintro e w' ⟨rfl, hb⟩; obtain ⟨hc, hf⟩ := bcell hb; (try have hz0 : w.heap.size < w'.heap.size := Bz hb); (try have hz1 : w.heap.size + 1 < w'.heap.size := Bz hb); (try have hz2 : w.heap.size + 1 + 1 < w'.heap.size := Bz hb); have hz := hb.size; (try simp at hz))) | (go_at_call 147; go_must (refine (HM.out _).mono ?_; rintro e w' ⟨rfl, hb⟩; obtain ⟨hc, hf⟩ := bcell hb; (try have hz0 : w.heap.size < w'.heap.size := Bz hb); (try have hz1 : w.heap.size + 1 < w'.heap.size := Bz hb); (try have hz2 : w.heap.size + 1 + 1 < w'.heap.size := Bz hb); have hz := hb.size; (try simp at hz))) | (go_at_call 146; go_must (refine (ofQuotient_no _ _).mono ?_; rintro e w' ⟨rfl, hb⟩; obtain ⟨hc, hf⟩ := bcell hb; (try have hz0 : w.heap.size < w'.heap.size := Bz hb); (try have hz1 : w.heap.size + 1 < w'.heap.size := Bz hb); (try have hz2 : w.heap.size + 1 + 1 < w'.heap.size := Bz hb); have hz := hb.size; (try simp at hz)))
    exact bodyPost_ret (v := .agg #[.bool false, .int .i64 0]) (by simp [results, Tryz.results136, go_sem, *]) rfl ⟨rfl, Bq⟩
   ·rw [Fx.mdv_yes ho]
    go_enter Tryz.func136, Tryz.ntmps136
    go_wp2_with first | (go_at_call 145; go_must (refine (isNumber_any _ _ _).mono ?_; rintro e w' ⟨rfl, hb⟩; obtain ⟨hc, hf⟩ := bcell hb; (try have hz0 : w.heap.size < w'.heap.size := Bz hb); (try have hz1 : w.heap.size + 1 < w'.heap.size := Bz hb); (try have hz2 : w.heap.size + 1 + 1 < w'.heap.size := Bz hb); have hz := hb.size; (try simp at hz))) | (go_at_call 147; go_must (refine (HM.out _).mono ?_; rintro e w' ⟨rfl, hb⟩; obtain ⟨hc, hf⟩ := bcell hb; (try have hz0 : w.heap.size < w'.heap.size := Bz hb); (try have hz1 : w.heap.size + 1 < w'.heap.size := Bz hb); (try have hz2 : w.heap.size + 1 + 1 < w'.heap.size := Bz hb); have hz := hb.size; (try simp at hz))) | (go_at_call 146; go_must (refine (ofQuotient_yes _ _).mono ?_; rintro e w' ⟨rfl, hb⟩; obtain ⟨hc, hf⟩ := bcell hb; (try have hz0 : w.heap.size < w'.heap.size := Bz hb); (try have hz1 : w.heap.size + 1 < w'.heap.size := Bz hb); (try have hz2 : w.heap.size + 1 + 1 < w'.heap.size := Bz hb); have hz := hb.size; (try simp at hz)))
    exact bodyPost_ret (v := (.agg #[.bool (Fx.of (Fx.mdn m 1000000 n)).ok, .int .i64 (Fx.of (Fx.mdn m 1000000 n)).n])) (by simp [results, Tryz.results136, go_sem, *]) rfl ⟨rfl, Bq⟩
end
end Go.Proofs.YtljlanhpjpjgaaaGreatDoor
