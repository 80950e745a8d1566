/-
  CONTRACTS: chapter 5's Align and Place, on both sides; the law's known.
-/
import Derived.Test.YtefegcmicnlphaaRows
import Derived.WalkKit
import Derived.WalkSpells
import Derived.WalkLawsBesides
import Derived.Deep.QuietTactic
import Derived.BigQuiet
import Derived.Lib.QuietBelow
import Derived.Lib.Hide
import Derived.IntWalk
namespace Go.Proofs.Ytefegcmicnlphaa
open Go.RowKit Go.Sort

theorem bcell {W w1 : World} (hb : Below W.heap.size W w1) : (∀ b o, b < W.heap.size → w1.cell? ⟨b, o, none⟩ = W.cell? ⟨b, o, none⟩) ∧ (∀ b o, b < W.heap.size → w1.frozen? ⟨b, o, none⟩ = W.frozen? ⟨b, o, none⟩) :=
  ⟨fun b o h => hb.cell (p := ⟨b, o, none⟩) h, fun b o h => hb.frozen (p := ⟨b, o, none⟩) h⟩

/-- Old cells, and old marks, in a world of the class. -/
theorem kgrown (W : World) : (∀ d os b o, b < W.heap.size → (Go.Sort.grow (redrawn W d) os).cell? ⟨b, o, none⟩ = W.cell? ⟨b, o, none⟩) ∧ (∀ d os b o, b < W.heap.size → (Go.Sort.grow (redrawn W d) os).frozen? ⟨b, o, none⟩ = W.frozen? ⟨b, o, none⟩) :=
  ⟨fun d os b o h => (below_regrown W d os).cell (p := ⟨b, o, none⟩) h, fun d os b o h => (below_regrown W d os).frozen (p := ⟨b, o, none⟩) h⟩

namespace Sl
def al (t s : Int) : Int := if s < 1 ∨ t < 0 then t else t - t % s
def pl (s c t : Int) : Int := if s < 1 ∨ c < 1 ∨ t < 0 then 0 else t / s % c
theorem al_eq {t s : Int} (h1 : 1 ≤ s) (h2 : 0 ≤ t) : al t s = t - t % s := by unfold al; rw [if_neg (by omega)]
theorem pl_eq {s c t : Int} (h1 : 1 ≤ s) (h2 : 1 ≤ c) (h3 : 0 ≤ t) : pl s c t = t / s % c := by unfold pl; rw [if_neg (by omega)]
theorem al_mul {t s : Int} (h1 : 1 ≤ s) (h2 : 0 ≤ t) : al t s = s * (t / s) := by
  rw [al_eq h1 h2]
  have := Int.mul_ediv_add_emod t s
  omega
theorem al_div {t s : Int} (h1 : 1 ≤ s) (h2 : 0 ≤ t) : al t s / s = t / s := by
  rw [al_mul h1 h2]
  exact Int.mul_ediv_cancel_left _ (by omega)
theorem al_bd {t s : Int} (h1 : 1 ≤ s) (h2 : 0 ≤ t) : 0 ≤ al t s ∧ al t s ≤ t := by
  rw [al_eq h1 h2]
  have h3 := Int.emod_nonneg t (by omega : s ≠ 0)
  have h4 : t % s ≤ t := by
    have := Int.mul_ediv_add_emod t s
    have h5 : 0 ≤ s * (t / s) := Int.mul_nonneg (by omega) (Int.ediv_nonneg h2 (by omega))
    omega
  omega
theorem pl_bd {s c t : Int} (h1 : 1 ≤ s) (h2 : 1 ≤ c) (h3 : 0 ≤ t) : 0 ≤ pl s c t ∧ pl s c t < c := by
  rw [pl_eq h1 h2 h3]
  exact ⟨Int.emod_nonneg _ (by omega), Int.emod_lt_of_pos _ (by omega)⟩
/-- Two times in one slot. -/
theorem rounds {s c t u : Int} (h1 : 1 ≤ s) (h2 : 1 ≤ c) (h3 : 0 ≤ t) (h4 : 0 ≤ u) : ((al t s - al u s).tmod (s * c) == 0) = (pl s c t == pl s c u) := by
  rw [al_mul h1 h3, al_mul h1 h4, pl_eq h1 h2 h3, pl_eq h1 h2 h4, ← Int.mul_sub]
  generalize t / s = T
  generalize u / s = U
  have hs : s ≠ 0 := by omega
  have a1 : (s * (T - U)).tmod (s * c) = 0 ↔ (s * c) ∣ (s * (T - U)) := by
    rw [Int.dvd_iff_tmod_eq_zero]
  have a2 : (s * c) ∣ (s * (T - U)) ↔ c ∣ (T - U) := Int.mul_dvd_mul_iff_left hs
  have a3 : c ∣ (T - U) ↔ T % c = U % c := by
    rw [Int.dvd_iff_emod_eq_zero]
    exact (Int.emod_eq_emod_iff_emod_sub_eq_zero).symm
  rw [Bool.eq_iff_iff]
  simp only [beq_iff_eq]
  exact a1.trans (a2.trans a3)
end Sl

section
set_option maxHeartbeats 400000
theorem align_any (t s : Int) (hi : t ≤ 9223372036854775807) (w : World) :
    Calls Try.prog 7 #[.int .i64 t, .int .i64 s] w fun e w' => e = .returned (.int .i64 (Sl.al t s)) ∧ w = w' := by
  by_cases h1 : s < 1
  · have H : Hid (Sl.al t s = t) := Lib.hid (by unfold Sl.al; rw [if_pos (.inl h1)])
    go_enter Try.func7, Try.ntmps7
    go_wp2
    go_ret
    exact ⟨by rw [H.out]; rfl, rfl⟩
  by_cases h2 : t < 0
  · have H : Hid (Sl.al t s = t) := Lib.hid (by unfold Sl.al; rw [if_pos (.inr h2)])
    go_enter Try.func7, Try.ntmps7
    go_wp2
    go_ret
    exact ⟨by rw [H.out]; rfl, rfl⟩
  have H := Lib.hid (Sl.al_eq (t := t) (s := s) (by omega) (by omega))
  have hm : t.tmod s = t % s := Int.tmod_eq_emod_of_nonneg (by omega)
  have hz : (s == 0) = false := by simp; omega
  have hb := Sl.al_bd (t := t) (s := s) (by omega) (by omega)
  rw [H.out] at hb
  have hw : IntKind.i64.wrap (t - t % s) = t - t % s := IntWalk.i64_in _ (by omega)
  have hn : 0 ≤ t % s := Int.emod_nonneg _ (by omega)
  have hw2 : IntKind.i64.wrap (t % s) = t % s := IntWalk.i64_in _ (by omega)
  go_enter Try.func7, Try.ntmps7
  go_wp2
  go_ret
  exact ⟨by rw [H.out]; rfl, rfl⟩

theorem ralign_any (t s : Int) (hi : t ≤ 9223372036854775807) (w : World) :
    Calls Try.prog 8 #[.int .i64 t, .int .i64 s] w fun e w' => e = .returned (.int .i64 (Sl.al t s)) ∧ w = w' := by
  by_cases h1 : s < 1
  · have H : Hid (Sl.al t s = t) := Lib.hid (by unfold Sl.al; rw [if_pos (.inl h1)])
    go_enter Try.func8, Try.ntmps8
    go_wp2
    go_ret
    exact ⟨by rw [H.out]; rfl, rfl⟩
  by_cases h2 : t < 0
  · have H : Hid (Sl.al t s = t) := Lib.hid (by unfold Sl.al; rw [if_pos (.inr h2)])
    go_enter Try.func8, Try.ntmps8
    go_wp2
    go_ret
    exact ⟨by rw [H.out]; rfl, rfl⟩
  have H := Lib.hid (Sl.al_eq (t := t) (s := s) (by omega) (by omega))
  have hm : t.tmod s = t % s := Int.tmod_eq_emod_of_nonneg (by omega)
  have hz : (s == 0) = false := by simp; omega
  have hb := Sl.al_bd (t := t) (s := s) (by omega) (by omega)
  rw [H.out] at hb
  have hw : IntKind.i64.wrap (t - t % s) = t - t % s := IntWalk.i64_in _ (by omega)
  have hn : 0 ≤ t % s := Int.emod_nonneg _ (by omega)
  have hw2 : IntKind.i64.wrap (t % s) = t % s := IntWalk.i64_in _ (by omega)
  go_enter Try.func8, Try.ntmps8
  go_wp2
  go_ret
  exact ⟨by rw [H.out]; rfl, rfl⟩
end

section
set_option maxHeartbeats 1000000
theorem place_any (s c t : Int) (hi : t ≤ 9223372036854775807) (w : World) :
    Calls Try.prog 9 #[.agg #[.int .i64 s, .int .i64 c], .int .i64 t] w fun e w' => e = .returned (.int .i64 (Sl.pl s c t)) ∧ Below w.heap.size w w' := by
  by_cases h1 : s < 1
  · have H : Hid (Sl.pl s c t = 0) := Lib.hid (by unfold Sl.pl; rw [if_pos (.inl h1)])
    go_enter Try.func9, Try.ntmps9
    go_wp2
    go_ret
    exact ⟨by rw [H.out]; rfl, (by repeat (first | exact Below.refl _ _ | assumption | refine Below.setCell ?_ (by first | (simp; done) | omega | (simp; omega) | (simp at *; omega)) _ | refine Below.alloc ?_ (by first | (simp; done) | omega | (simp; omega) | (simp at *; omega)) _ | refine Below.drew ?_ | (refine Below.trans ?_ (Below.mono (by assumption) (by first | (simp; done) | omega | (simp; omega) | (simp at *; omega)))) | (refine Below.trans ?_ (Below.mono (below_regrown _ _ _) (by first | (simp; done) | omega | (simp; omega) | (simp at *; omega))))))⟩
  by_cases h2 : c < 1
  · have H : Hid (Sl.pl s c t = 0) := Lib.hid (by unfold Sl.pl; rw [if_pos (.inr (.inl h2))])
    go_enter Try.func9, Try.ntmps9
    go_wp2
    go_ret
    exact ⟨by rw [H.out]; rfl, (by repeat (first | exact Below.refl _ _ | assumption | refine Below.setCell ?_ (by first | (simp; done) | omega | (simp; omega) | (simp at *; omega)) _ | refine Below.alloc ?_ (by first | (simp; done) | omega | (simp; omega) | (simp at *; omega)) _ | refine Below.drew ?_ | (refine Below.trans ?_ (Below.mono (by assumption) (by first | (simp; done) | omega | (simp; omega) | (simp at *; omega)))) | (refine Below.trans ?_ (Below.mono (below_regrown _ _ _) (by first | (simp; done) | omega | (simp; omega) | (simp at *; omega))))))⟩
  by_cases h3 : t < 0
  · have H : Hid (Sl.pl s c t = 0) := Lib.hid (by unfold Sl.pl; rw [if_pos (.inr (.inr h3))])
    go_enter Try.func9, Try.ntmps9
    go_wp2
    go_ret
    exact ⟨by rw [H.out]; rfl, (by repeat (first | exact Below.refl _ _ | assumption | refine Below.setCell ?_ (by first | (simp; done) | omega | (simp; omega) | (simp at *; omega)) _ | refine Below.alloc ?_ (by first | (simp; done) | omega | (simp; omega) | (simp at *; omega)) _ | refine Below.drew ?_ | (refine Below.trans ?_ (Below.mono (by assumption) (by first | (simp; done) | omega | (simp; omega) | (simp at *; omega)))) | (refine Below.trans ?_ (Below.mono (below_regrown _ _ _) (by first | (simp; done) | omega | (simp; omega) | (simp at *; omega))))))⟩
  have hb := Sl.al_bd (t := t) (s := s) (by omega) (by omega)
  have hq : 0 ≤ t / s ∧ t / s ≤ t := ⟨Int.ediv_nonneg (by omega) (by omega), Int.ediv_le_self _ (by omega)⟩
  have HA := Lib.hid (fun W => align_any t s hi W)
  have hd : (Sl.al t s).tdiv s = t / s := by rw [Int.tdiv_eq_ediv_of_nonneg hb.1, Sl.al_div (by omega) (by omega)]
  have hp := Sl.pl_bd (s := s) (c := c) (t := t) (by omega) (by omega) (by omega)
  have hm : (t / s).tmod c = Sl.pl s c t := by rw [Int.tmod_eq_emod_of_nonneg hq.1, Sl.pl_eq (by omega) (by omega) (by omega)]
  have hz : (s == 0) = false := by simp; omega
  have hz2 : (c == 0) = false := by simp; omega
  have hpq : Sl.pl s c t ≤ t / s := by
    rw [Sl.pl_eq (by omega) (by omega) (by omega)]
    have := Int.mul_ediv_add_emod (t / s) c
    have h5 : 0 ≤ c * (t / s / c) := Int.mul_nonneg (by omega) (Int.ediv_nonneg hq.1 (by omega))
    omega
  generalize Sl.pl s c t = p at *
  generalize t / s = q at *
  generalize Sl.al t s = a at *
  have hw1 : IntKind.i64.wrap q = q := IntWalk.i64_in _ (by omega)
  have hw2 : IntKind.i64.wrap p = p := IntWalk.i64_in _ (by omega)
  obtain ⟨kc, kf⟩ := kgrown (w.alloc (.cells #[.int .i64 s, .int .i64 c] 23))
  go_enter Try.func9, Try.ntmps9
  go_wp2_with fail
  refine wp_region_quiet_below (by kernel_rfl) (by kernel_rfl) ?_
  repeat (go_big_quiet_step (first
    | (go_at_call 7; exact Calls.regrown_of ((HA.out _).mono fun _ _ ⟨e, h⟩ => ⟨e, h ▸ Below.refl _ _⟩))))
  refine wpQuiet_nil ?_
  intro _ hw'
  obtain ⟨⟨dq, osq⟩, hw''⟩ := hw'
  subst hw''
  go_wp2
  go_ret
  exact ⟨rfl, (by repeat (first | exact Below.refl _ _ | assumption | refine Below.setCell ?_ (by first | (simp; done) | omega | (simp; omega) | (simp at *; omega)) _ | refine Below.alloc ?_ (by first | (simp; done) | omega | (simp; omega) | (simp at *; omega)) _ | refine Below.drew ?_ | (refine Below.trans ?_ (Below.mono (by assumption) (by first | (simp; done) | omega | (simp; omega) | (simp at *; omega)))) | (refine Below.trans ?_ (Below.mono (below_regrown _ _ _) (by first | (simp; done) | omega | (simp; omega) | (simp at *; omega))))))⟩

theorem rplace_any (s c t : Int) (hi : t ≤ 9223372036854775807) (w : World) :
    Calls Try.prog 10 #[.agg #[.int .i64 s, .int .i64 c], .int .i64 t] w fun e w' => e = .returned (.int .i64 (Sl.pl s c t)) ∧ Below w.heap.size w w' := by
  by_cases h1 : s < 1
  · have H : Hid (Sl.pl s c t = 0) := Lib.hid (by unfold Sl.pl; rw [if_pos (.inl h1)])
    go_enter Try.func10, Try.ntmps10
    go_wp2
    go_ret
    exact ⟨by rw [H.out]; rfl, (by repeat (first | exact Below.refl _ _ | assumption | refine Below.setCell ?_ (by first | (simp; done) | omega | (simp; omega) | (simp at *; omega)) _ | refine Below.alloc ?_ (by first | (simp; done) | omega | (simp; omega) | (simp at *; omega)) _ | refine Below.drew ?_ | (refine Below.trans ?_ (Below.mono (by assumption) (by first | (simp; done) | omega | (simp; omega) | (simp at *; omega)))) | (refine Below.trans ?_ (Below.mono (below_regrown _ _ _) (by first | (simp; done) | omega | (simp; omega) | (simp at *; omega))))))⟩
  by_cases h2 : c < 1
  · have H : Hid (Sl.pl s c t = 0) := Lib.hid (by unfold Sl.pl; rw [if_pos (.inr (.inl h2))])
    go_enter Try.func10, Try.ntmps10
    go_wp2
    go_ret
    exact ⟨by rw [H.out]; rfl, (by repeat (first | exact Below.refl _ _ | assumption | refine Below.setCell ?_ (by first | (simp; done) | omega | (simp; omega) | (simp at *; omega)) _ | refine Below.alloc ?_ (by first | (simp; done) | omega | (simp; omega) | (simp at *; omega)) _ | refine Below.drew ?_ | (refine Below.trans ?_ (Below.mono (by assumption) (by first | (simp; done) | omega | (simp; omega) | (simp at *; omega)))) | (refine Below.trans ?_ (Below.mono (below_regrown _ _ _) (by first | (simp; done) | omega | (simp; omega) | (simp at *; omega))))))⟩
  by_cases h3 : t < 0
  · have H : Hid (Sl.pl s c t = 0) := Lib.hid (by unfold Sl.pl; rw [if_pos (.inr (.inr h3))])
    go_enter Try.func10, Try.ntmps10
    go_wp2
    go_ret
    exact ⟨by rw [H.out]; rfl, (by repeat (first | exact Below.refl _ _ | assumption | refine Below.setCell ?_ (by first | (simp; done) | omega | (simp; omega) | (simp at *; omega)) _ | refine Below.alloc ?_ (by first | (simp; done) | omega | (simp; omega) | (simp at *; omega)) _ | refine Below.drew ?_ | (refine Below.trans ?_ (Below.mono (by assumption) (by first | (simp; done) | omega | (simp; omega) | (simp at *; omega)))) | (refine Below.trans ?_ (Below.mono (below_regrown _ _ _) (by first | (simp; done) | omega | (simp; omega) | (simp at *; omega))))))⟩
  have hq : 0 ≤ t / s ∧ t / s ≤ t := ⟨Int.ediv_nonneg (by omega) (by omega), Int.ediv_le_self _ (by omega)⟩
  have hd : t.tdiv s = t / s := Int.tdiv_eq_ediv_of_nonneg (by omega)
  have hp := Sl.pl_bd (s := s) (c := c) (t := t) (by omega) (by omega) (by omega)
  have hm : (t / s).tmod c = Sl.pl s c t := by rw [Int.tmod_eq_emod_of_nonneg hq.1, Sl.pl_eq (by omega) (by omega) (by omega)]
  have hz : (s == 0) = false := by simp; omega
  have hz2 : (c == 0) = false := by simp; omega
  have hpq : Sl.pl s c t ≤ t / s := by
    rw [Sl.pl_eq (by omega) (by omega) (by omega)]
    have := Int.mul_ediv_add_emod (t / s) c
    have h5 : 0 ≤ c * (t / s / c) := Int.mul_nonneg (by omega) (Int.ediv_nonneg hq.1 (by omega))
    omega
  generalize Sl.pl s c t = p at *
  generalize t / s = q at *
  have hw1 : IntKind.i64.wrap q = q := IntWalk.i64_in _ (by omega)
  have hw2 : IntKind.i64.wrap p = p := IntWalk.i64_in _ (by omega)
  go_enter Try.func10, Try.ntmps10
  go_wp2_with fail
  go_quiet (fail)
  go_wp2
  go_ret
  exact ⟨rfl, (by repeat (first | exact Below.refl _ _ | assumption | refine Below.setCell ?_ (by first | (simp; done) | omega | (simp; omega) | (simp at *; omega)) _ | refine Below.alloc ?_ (by first | (simp; done) | omega | (simp; omega) | (simp at *; omega)) _ | refine Below.drew ?_ | refine below_drewN ?_ _ | (refine Below.trans ?_ (Below.mono (by assumption) (by first | (simp; done) | omega | (simp; omega) | (simp at *; omega)))) | (refine Below.trans ?_ (Below.mono (below_regrown _ _ _) (by first | (simp; done) | omega | (simp; omega) | (simp at *; omega))))))⟩

theorem known_any (w : World) :
    Calls Try.prog 11 #[] w fun e w' => e = .returned (.bool true) ∧ Below w.heap.size w w' := by
  have H1 : Hid (∀ W, Calls Try.prog 9 #[.agg #[.int .i64 60, .int .i64 5], .int .i64 359] W fun e w' => e = .returned (.int .i64 0) ∧ Below W.heap.size W w') := Lib.hid fun W => by
    have h := place_any 60 5 359 (by omega) W
    have e : Sl.pl 60 5 359 = 0 := by decide
    rw [e] at h
    exact h
  have H2 : Hid (∀ W, Calls Try.prog 7 #[.int .i64 359, .int .i64 60] W fun e w' => e = .returned (.int .i64 300) ∧ W = w') := Lib.hid fun W => by
    have h := align_any 359 60 (by omega) W
    have e : Sl.al 359 60 = 300 := by decide
    rw [e] at h
    exact h
  go_enter Try.func11, Try.ntmps11
  go_wp2_with first
    | (go_at_call 9; (((with_reducible refine (H1.out _).mono ?_)); rintro e w1 ⟨rfl, hb1⟩; obtain ⟨hc1, hf1⟩ := bcell hb1; (try have hq1w : w.heap.size < w1.heap.size := Nat.lt_of_lt_of_le (by first | assumption | (simp; done) | (simp; omega)) hb1.size); have hs1 := hb1.size; (try simp at hs1)))
    | (go_at_call 7; ((with_reducible refine (H2.out _).mono ?_); rintro e w' ⟨rfl, rfl⟩))
  go_ret
  exact ⟨rfl, (by repeat (first | exact Below.refl _ _ | assumption | refine Below.setCell ?_ (by first | (simp; done) | omega | (simp; omega) | (simp at *; omega)) _ | refine Below.alloc ?_ (by first | (simp; done) | omega | (simp; omega) | (simp at *; omega)) _ | refine Below.drew ?_ | (refine Below.trans ?_ (Below.mono (by assumption) (by first | (simp; done) | omega | (simp; omega) | (simp at *; omega)))) | (refine Below.trans ?_ (Below.mono (below_regrown _ _ _) (by first | (simp; done) | omega | (simp; omega) | (simp at *; omega))))))⟩
end
end Go.Proofs.Ytefegcmicnlphaa
