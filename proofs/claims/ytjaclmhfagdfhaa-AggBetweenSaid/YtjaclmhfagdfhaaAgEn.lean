/-
  CONTRACTS: whether enough are known, on both sides.
-/
import Derived.Test.YtjaclmhfagdfhaaAgPure
import Derived.Test.YtjaclmhfagdfhaaFxBits
namespace Go.Proofs.Ytjaclmhfagdfhaa
open Go.RowKit

namespace Ag
theorem lim_lo {n : Int} (h : n < 0) : lim n = 0 := by unfold lim; rw [if_pos h]
theorem lim_hi {n : Int} (h : 16777216 < n) : lim n = 16777216 := by unfold lim; rw [if_neg (by omega), if_pos h]
theorem lim_in {n : Int} (h1 : ¬ n < 0) (h2 : ¬ 16777216 < n) : lim n = n := by unfold lim; rw [if_neg h1, if_neg h2]
theorem prod_bd {x a : Int} (h1 : 0 ≤ x ∧ x ≤ 16777216) (h2 : 0 ≤ a ∧ a ≤ 16777216) : 0 ≤ x * a ∧ x * a ≤ 281474976710656 :=
  ⟨Int.mul_nonneg h1.1 h2.1, by have := Int.mul_le_mul h1.2 h2.2 h2.1 (by omega); omega⟩
theorem en_of (xff known all : Int) : en xff known all = (decide (0 < lim known) && decide (lim known ≤ lim all) && decide (lim xff * lim all ≤ lim known * 1000000)) := by
  unfold en; rw [Bool.decide_and, Bool.decide_and, Bool.and_assoc]
end Ag

set_option maxHeartbeats 1000000 in
theorem limited_any (n : Int) (w : World) : Calls Try.prog 29 #[.int .i64 n] w fun e w' => e = .returned (.int .i64 (Ag.lim n)) ∧ w = w' := by
  go_enter Try.func29, Try.ntmps29
  go_wp2
  go_ret
  exact ⟨ret_int (by unfold Ag.lim; split <;> (try split) <;> omega), rfl⟩

set_option maxHeartbeats 1000000 in
theorem hold_any (n : Int) (w : World) : Calls Try.prog 30 #[.int .i64 n] w fun e w' => e = .returned (.int .i64 (Ag.lim n)) ∧ w = w' := by
  go_enter Try.func30, Try.ntmps30
  go_wp2
  go_ret
  exact ⟨ret_int (by unfold Ag.lim; split <;> (try split) <;> omega), rfl⟩

set_option maxHeartbeats 1000000 in
theorem enough_any (xff known all : Int) (w : World) :
    Calls Try.prog 16 #[.int .i64 xff, .int .i64 known, .int .i64 all] w fun e w' => e = .returned (.bool (Ag.en xff known all)) ∧ w = w' := by
  have H1 : Hid (∀ W, Calls Try.prog 29 #[.int .i64 xff] W fun e w' => e = .returned (.int .i64 (Ag.lim xff)) ∧ W = w') := Lib.hid fun W => limited_any _ W
  have H2 : Hid (∀ W, Calls Try.prog 29 #[.int .i64 known] W fun e w' => e = .returned (.int .i64 (Ag.lim known)) ∧ W = w') := Lib.hid fun W => limited_any _ W
  have H3 : Hid (∀ W, Calls Try.prog 29 #[.int .i64 all] W fun e w' => e = .returned (.int .i64 (Ag.lim all)) ∧ W = w') := Lib.hid fun W => limited_any _ W
  have b1 := Ag.lim_bd xff
  have b2 := Ag.lim_bd known
  have b3 := Ag.lim_bd all
  have bp := Ag.prod_bd b1 b3
  have HE := Lib.hid (Ag.en_of xff known all)
  generalize Ag.en xff known all = q at *
  generalize Ag.lim xff = x at *
  generalize Ag.lim known = k at *
  generalize Ag.lim all = a at *
  by_cases t1 : 0 < k
  · by_cases t2 : k ≤ a
    · obtain ⟨p, hp⟩ : ∃ p, x * a = p := ⟨_, rfl⟩
      rw [hp] at bp
      by_cases t3 : p ≤ k * 1000000
      · have HQ : Hid (q = true) := Lib.hid (by rw [HE.out, hp]; simp [t1, t2, t3])
        clear HE
        go_enter Try.func16, Try.ntmps16
        go_wp2_with first | (go_at_call 29; ((with_reducible refine (H1.out _).mono ?_); rintro e w' ⟨rfl, rfl⟩)) | (go_at_call 29; ((with_reducible refine (H2.out _).mono ?_); rintro e w' ⟨rfl, rfl⟩)) | (go_at_call 29; ((with_reducible refine (H3.out _).mono ?_); rintro e w' ⟨rfl, rfl⟩))
        go_ret
        exact ⟨by rw [HQ.out]; first | rfl | (simp; omega), rfl⟩
      · have HQ : Hid (q = false) := Lib.hid (by rw [HE.out, hp]; simp [t3])
        clear HE
        go_enter Try.func16, Try.ntmps16
        go_wp2_with first | (go_at_call 29; ((with_reducible refine (H1.out _).mono ?_); rintro e w' ⟨rfl, rfl⟩)) | (go_at_call 29; ((with_reducible refine (H2.out _).mono ?_); rintro e w' ⟨rfl, rfl⟩)) | (go_at_call 29; ((with_reducible refine (H3.out _).mono ?_); rintro e w' ⟨rfl, rfl⟩))
        go_ret
        exact ⟨by rw [HQ.out]; first | rfl | (simp; omega), rfl⟩
    · have HQ : Hid (q = false) := Lib.hid (by rw [HE.out]; simp [t2])
      clear HE bp
      go_enter Try.func16, Try.ntmps16
      go_wp2_with first | (go_at_call 29; ((with_reducible refine (H1.out _).mono ?_); rintro e w' ⟨rfl, rfl⟩)) | (go_at_call 29; ((with_reducible refine (H2.out _).mono ?_); rintro e w' ⟨rfl, rfl⟩)) | (go_at_call 29; ((with_reducible refine (H3.out _).mono ?_); rintro e w' ⟨rfl, rfl⟩))
      go_ret
      exact ⟨by rw [HQ.out]; first | rfl | (simp; omega), rfl⟩
  · have HQ : Hid (q = false) := Lib.hid (by rw [HE.out]; simp [t1])
    clear HE bp
    go_enter Try.func16, Try.ntmps16
    go_wp2_with first | (go_at_call 29; ((with_reducible refine (H1.out _).mono ?_); rintro e w' ⟨rfl, rfl⟩)) | (go_at_call 29; ((with_reducible refine (H2.out _).mono ?_); rintro e w' ⟨rfl, rfl⟩)) | (go_at_call 29; ((with_reducible refine (H3.out _).mono ?_); rintro e w' ⟨rfl, rfl⟩))
    go_ret
    exact ⟨by rw [HQ.out]; first | rfl | (simp; omega), rfl⟩

set_option maxHeartbeats 1000000 in
theorem refEnough_any (xff known all : Int) (w : World) :
    Calls Try.prog 17 #[.int .i64 xff, .int .i64 known, .int .i64 all] w fun e w' => e = .returned (.bool (Ag.en xff known all)) ∧ w = w' := by
  have H1 : Hid (∀ W, Calls Try.prog 30 #[.int .i64 xff] W fun e w' => e = .returned (.int .i64 (Ag.lim xff)) ∧ W = w') := Lib.hid fun W => hold_any _ W
  have H2 : Hid (∀ W, Calls Try.prog 30 #[.int .i64 known] W fun e w' => e = .returned (.int .i64 (Ag.lim known)) ∧ W = w') := Lib.hid fun W => hold_any _ W
  have H3 : Hid (∀ W, Calls Try.prog 30 #[.int .i64 all] W fun e w' => e = .returned (.int .i64 (Ag.lim all)) ∧ W = w') := Lib.hid fun W => hold_any _ W
  have b1 := Ag.lim_bd xff
  have b2 := Ag.lim_bd known
  have b3 := Ag.lim_bd all
  have bp := Ag.prod_bd b1 b3
  have HE := Lib.hid (Ag.en_of xff known all)
  generalize Ag.en xff known all = q at *
  generalize Ag.lim xff = x at *
  generalize Ag.lim known = k at *
  generalize Ag.lim all = a at *
  by_cases t1 : 0 < k
  · by_cases t2 : k ≤ a
    · obtain ⟨p, hp⟩ : ∃ p, x * a = p := ⟨_, rfl⟩
      rw [hp] at bp
      by_cases t3 : p ≤ k * 1000000
      · have HQ : Hid (q = true) := Lib.hid (by rw [HE.out, hp]; simp [t1, t2, t3])
        clear HE
        go_enter Try.func17, Try.ntmps17
        go_wp2_with first | (go_at_call 30; ((with_reducible refine (H1.out _).mono ?_); rintro e w' ⟨rfl, rfl⟩)) | (go_at_call 30; ((with_reducible refine (H2.out _).mono ?_); rintro e w' ⟨rfl, rfl⟩)) | (go_at_call 30; ((with_reducible refine (H3.out _).mono ?_); rintro e w' ⟨rfl, rfl⟩))
        go_ret
        exact ⟨by rw [HQ.out]; first | rfl | (simp; omega), rfl⟩
      · have HQ : Hid (q = false) := Lib.hid (by rw [HE.out, hp]; simp [t3])
        clear HE
        go_enter Try.func17, Try.ntmps17
        go_wp2_with first | (go_at_call 30; ((with_reducible refine (H1.out _).mono ?_); rintro e w' ⟨rfl, rfl⟩)) | (go_at_call 30; ((with_reducible refine (H2.out _).mono ?_); rintro e w' ⟨rfl, rfl⟩)) | (go_at_call 30; ((with_reducible refine (H3.out _).mono ?_); rintro e w' ⟨rfl, rfl⟩))
        go_ret
        exact ⟨by rw [HQ.out]; first | rfl | (simp; omega), rfl⟩
    · have HQ : Hid (q = false) := Lib.hid (by rw [HE.out]; simp [t2])
      clear HE bp
      go_enter Try.func17, Try.ntmps17
      go_wp2_with first | (go_at_call 30; ((with_reducible refine (H1.out _).mono ?_); rintro e w' ⟨rfl, rfl⟩)) | (go_at_call 30; ((with_reducible refine (H2.out _).mono ?_); rintro e w' ⟨rfl, rfl⟩)) | (go_at_call 30; ((with_reducible refine (H3.out _).mono ?_); rintro e w' ⟨rfl, rfl⟩))
      go_ret
      exact ⟨by rw [HQ.out]; first | rfl | (simp; omega), rfl⟩
  · have HQ : Hid (q = false) := Lib.hid (by rw [HE.out]; simp [t1])
    clear HE bp
    go_enter Try.func17, Try.ntmps17
    go_wp2_with first | (go_at_call 30; ((with_reducible refine (H1.out _).mono ?_); rintro e w' ⟨rfl, rfl⟩)) | (go_at_call 30; ((with_reducible refine (H2.out _).mono ?_); rintro e w' ⟨rfl, rfl⟩)) | (go_at_call 30; ((with_reducible refine (H3.out _).mono ?_); rintro e w' ⟨rfl, rfl⟩))
    go_ret
    exact ⟨by rw [HQ.out]; first | rfl | (simp; omega), rfl⟩
end Go.Proofs.Ytjaclmhfagdfhaa
