/-
  CONTRACTS: whead's archives: which may follow which, where they end, whether they may be.
-/
import Derived.Test.YthjpodjfiajhaaaWhBase
namespace Go.Proofs.Ythjpodjfiajhaaa
open Go.RowKit Go.Sort
open Wh (At)

set_option maxHeartbeats 1000000 in
theorem follows_any (s c t d : Int) (h1 : 1 ≤ s) (h2 : s ≤ 16777216) (h3 : 1 ≤ c) (h4 : c ≤ 16777216) (h5 : 1 ≤ t) (h6 : t ≤ 16777216) (h7 : 1 ≤ d) (h8 : d ≤ 16777216) (w : World) :
    Calls Try.prog 31 #[.agg #[.int .i64 s, .int .i64 c], .agg #[.int .i64 t, .int .i64 d]] w fun e w' => e = .returned (.bool (Wh.fol (s, c) (t, d))) ∧ Below w.heap.size w w' := by
  obtain ⟨kc, kf⟩ := kgrown ((w.alloc (.cells #[.int .i64 s, .int .i64 c] 41)).alloc (.cells #[.int .i64 t, .int .i64 d] 41))
  have bs := Wh.mul_bd h1 h2 h3 h4
  have bt := Wh.mul_bd h5 h6 h7 h8
  have HS1 := Lib.hid (span_any s c (IntWalk.i64_in _ (by omega)))
  have HS2 := Lib.hid (span_any t d (IntWalk.i64_in _ (by omega)))
  have hm : t.tmod s = t % s := Int.tmod_eq_emod_of_nonneg (by omega)
  have hd : t.tdiv s = t / s := Int.tdiv_eq_ediv_of_nonneg (by omega)
  have hz : (s == 0) = false := by simp; omega
  have hdb : 0 ≤ t / s ∧ t / s ≤ t := ⟨Int.ediv_nonneg (by omega) (by omega), Int.ediv_le_self _ (by omega)⟩
  have hdw : IntKind.i64.wrap (t / s) = t / s := IntWalk.i64_in _ (by omega)
  by_cases g1 : t ≤ s
  · have H := Lib.hid (Wh.fol_1 (a := (s, c)) (b := (t, d)) g1)
    have e1 : decide (s < t) = false := decide_eq_false (by omega)
    go_enter Try.func31, Try.ntmps31
    go_wp2_with fail
    refine wp_region_quiet_below (by kernel_rfl) (by kernel_rfl) ?_
    repeat (go_big_quiet_step (first
      | (go_at_call 28; exact Calls.regrown_of (HS2.out _))
      | (go_at_call 28; exact Calls.regrown_of (HS1.out _))))
    refine wpQuiet_nil ?_
    intro _ hw'
    obtain ⟨⟨dq, osq⟩, hw''⟩ := hw'
    subst hw''
    go_wp2
    go_ret
    exact ⟨by rw [H.out]; rfl, (by repeat (first | exact Below.refl _ _ | assumption | refine Below.setCell ?_ (by first | (simp; done) | omega | (simp; omega) | (simp at *; omega)) _ | refine Below.alloc ?_ (by first | (simp; done) | omega | (simp; omega) | (simp at *; omega)) _ | refine Below.drew ?_ | (refine Below.trans ?_ (Below.mono (by assumption) (by first | (simp; done) | omega | (simp; omega) | (simp at *; omega)))) | (refine Below.trans ?_ (Below.mono (below_regrown _ _ _) (by first | (simp; done) | omega | (simp; omega) | (simp at *; omega))))))⟩
  · have e1 : decide (s < t) = true := decide_eq_true (by omega)
    by_cases g2 : t % s = 0
    · have e2 : (t % s == 0) = true := by simp [g2]
      by_cases g3 : t * d ≤ s * c
      · have H := Lib.hid (Wh.fol_3 (a := (s, c)) (b := (t, d)) g3)
        have e3 : decide (s * c < t * d) = false := decide_eq_false (by omega)
        clear g2
        go_enter Try.func31, Try.ntmps31
        go_wp2_with fail
        refine wp_region_quiet_below (by kernel_rfl) (by kernel_rfl) ?_
        repeat (go_big_quiet_step (first
          | (go_at_call 28; exact Calls.regrown_of (HS2.out _))
          | (go_at_call 28; exact Calls.regrown_of (HS1.out _))))
        refine wpQuiet_nil ?_
        intro _ hw'
        obtain ⟨⟨dq, osq⟩, hw''⟩ := hw'
        subst hw''
        go_wp2
        go_ret
        exact ⟨by rw [H.out]; rfl, (by repeat (first | exact Below.refl _ _ | assumption | refine Below.setCell ?_ (by first | (simp; done) | omega | (simp; omega) | (simp at *; omega)) _ | refine Below.alloc ?_ (by first | (simp; done) | omega | (simp; omega) | (simp at *; omega)) _ | refine Below.drew ?_ | (refine Below.trans ?_ (Below.mono (by assumption) (by first | (simp; done) | omega | (simp; omega) | (simp at *; omega)))) | (refine Below.trans ?_ (Below.mono (below_regrown _ _ _) (by first | (simp; done) | omega | (simp; omega) | (simp at *; omega))))))⟩
      · have H := Lib.hid (Wh.fol_4 (a := (s, c)) (b := (t, d)) (by show s < t; omega) g2 (by show s * c < t * d; omega))
        have e3 : decide (s * c < t * d) = true := decide_eq_true (by omega)
        clear g2
        go_enter Try.func31, Try.ntmps31
        go_wp2_with fail
        refine wp_region_quiet_below (by kernel_rfl) (by kernel_rfl) ?_
        repeat (go_big_quiet_step (first
          | (go_at_call 28; exact Calls.regrown_of (HS2.out _))
          | (go_at_call 28; exact Calls.regrown_of (HS1.out _))))
        refine wpQuiet_nil ?_
        intro _ hw'
        obtain ⟨⟨dq, osq⟩, hw''⟩ := hw'
        subst hw''
        go_wp2
        go_ret
        exact ⟨by rw [H.out]; rfl, (by repeat (first | exact Below.refl _ _ | assumption | refine Below.setCell ?_ (by first | (simp; done) | omega | (simp; omega) | (simp at *; omega)) _ | refine Below.alloc ?_ (by first | (simp; done) | omega | (simp; omega) | (simp at *; omega)) _ | refine Below.drew ?_ | (refine Below.trans ?_ (Below.mono (by assumption) (by first | (simp; done) | omega | (simp; omega) | (simp at *; omega)))) | (refine Below.trans ?_ (Below.mono (below_regrown _ _ _) (by first | (simp; done) | omega | (simp; omega) | (simp at *; omega))))))⟩
    · have H := Lib.hid (Wh.fol_2 (a := (s, c)) (b := (t, d)) g2)
      have e2 : (t % s == 0) = false := by simp [g2]
      clear g2
      go_enter Try.func31, Try.ntmps31
      go_wp2_with fail
      refine wp_region_quiet_below (by kernel_rfl) (by kernel_rfl) ?_
      repeat (go_big_quiet_step (first
        | (go_at_call 28; exact Calls.regrown_of (HS2.out _))
        | (go_at_call 28; exact Calls.regrown_of (HS1.out _))))
      refine wpQuiet_nil ?_
      intro _ hw'
      obtain ⟨⟨dq, osq⟩, hw''⟩ := hw'
      subst hw''
      go_wp2
      go_ret
      exact ⟨by rw [H.out]; rfl, (by repeat (first | exact Below.refl _ _ | assumption | refine Below.setCell ?_ (by first | (simp; done) | omega | (simp; omega) | (simp at *; omega)) _ | refine Below.alloc ?_ (by first | (simp; done) | omega | (simp; omega) | (simp at *; omega)) _ | refine Below.drew ?_ | (refine Below.trans ?_ (Below.mono (by assumption) (by first | (simp; done) | omega | (simp; omega) | (simp at *; omega)))) | (refine Below.trans ?_ (Below.mono (below_regrown _ _ _) (by first | (simp; done) | omega | (simp; omega) | (simp at *; omega))))))⟩

end Go.Proofs.Ythjpodjfiajhaaa
