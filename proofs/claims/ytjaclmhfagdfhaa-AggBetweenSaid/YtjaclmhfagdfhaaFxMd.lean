/-
  CONTRACT: fixed.MulDiv.
-/
import Derived.Test.YtjaclmhfagdfhaaFxDiv
import Derived.Test.YtjaclmhfagdfhaaFxMdPure
import Derived.Deep.RegionWith
namespace Go.Proofs.Ytjaclmhfagdfhaa
open Go.RowKit

/-- MulDiv's answer, whoever gives it. -/
def MdPost (a b c : Int) (w : World) (e : Ending) (w' : World) : Prop := ∃ n ok, Fx.Md a b c n ok ∧ e = .returned (.tuple #[.int .i64 n, .bool ok]) ∧ Below w.heap.size w w'

set_option maxHeartbeats 1000000 in
theorem md_zero_any (a b : Int) (w : World) :
    Calls Try.prog 45 #[.int .i64 a, .int .i64 b, .int .i64 0] w fun e w' => MdPost a b 0 w e w' := by
  go_enter Try.func45, Try.ntmps45
  go_wp2
  ((try simp only [Exit.inBlock, Exit.then]); refine bodyPost_ret (results_tmp2 rfl _ _ _) rfl ?_)
  exact ⟨_, _, Fx.md_zero rfl, rfl, Below.refl _ _⟩


/-- What the calls within come to. -/
structure MdIn (a b c x y d hi lo q r : Int) : Prop where
  A : ∀ W, Calls Try.prog 52 #[.int .i64 a] W fun e w' => e = .returned (.int .u64 x) ∧ W = w'
  B : ∀ W, Calls Try.prog 52 #[.int .i64 b] W fun e w' => e = .returned (.int .u64 y) ∧ W = w'
  C : ∀ W, Calls Try.prog 52 #[.int .i64 c] W fun e w' => e = .returned (.int .u64 d) ∧ W = w'
  M : ∀ W, Calls Try.prog 51 #[.int .u64 x, .int .u64 y] W fun e w' => e = .returned (.tuple #[.int .u64 hi, .int .u64 lo]) ∧ W = w'
  D : hi < d → ∀ W, Calls Try.prog 53 #[.int .u64 hi, .int .u64 lo, .int .u64 d] W fun e w' => e = .returned (.tuple #[.int .u64 q, .int .u64 r]) ∧ Below W.heap.size W w'
  d0 : 0 < d
  d1 : d ≤ 9223372036854775808
  q0 : 0 ≤ q
  q1 : q ≤ 18446744073709551615
  r0 : 0 ≤ r
  r1 : r < d

set_option maxHeartbeats 1000000 in
theorem md_over (a b c x y d hi lo q r : Int) (H : MdIn a b c x y d hi lo q r) (HC0 : Hid (c ≠ 0)) (hd : d ≤ hi) (HQ : Hid (4611686018427387904 < Fx.mdq a b c)) (w : World) :
    Calls Try.prog 45 #[.int .i64 a, .int .i64 b, .int .i64 c] w fun e w' => MdPost a b c w e w' := by
  have hc0 : (c == 0) = false := by simp [HC0.out]
  go_enter Try.func45, Try.ntmps45
  go_wp2_with fail
  (go_at_call 52; go_must (refine (H.A _).mono ?_; rintro e w' ⟨rfl, rfl⟩))
  go_wp2_with fail
  (go_at_call 52; go_must (refine (H.B _).mono ?_; rintro e w' ⟨rfl, rfl⟩))
  go_wp2_with fail
  (go_at_call 51; go_must (refine (H.M _).mono ?_; rintro e w' ⟨rfl, rfl⟩))
  go_wp2_with fail
  (go_at_call 52; go_must (refine (H.C _).mono ?_; rintro e w' ⟨rfl, rfl⟩))
  go_wp2_with fail
  all_goals
    ((try simp only [Exit.inBlock, Exit.then]); refine bodyPost_ret (results_tmp2 rfl _ _ _) rfl ?_)
    first
    | exact ⟨_, _, Fx.md_big (by have := HQ.out; omega), rfl, (by repeat (first | exact Below.refl _ _ | assumption | refine Below.setCell ?_ (by first | (simp; done) | omega | (simp; omega) | (simp at *; omega)) _ | refine Below.alloc ?_ (by first | (simp; done) | omega | (simp; omega) | (simp at *; omega)) _ | refine Below.drew ?_ | (refine Below.trans ?_ (Below.mono (by assumption) (by first | (simp; done) | omega | (simp; omega) | (simp at *; omega)))) | (refine Below.trans ?_ (Below.mono (below_regrown _ _ _) (by first | (simp; done) | omega | (simp; omega) | (simp at *; omega))))))⟩
    | exact ⟨_, _, Fx.md_neg HC0.out HQ.out.symm (by omega) ‹_›, rfl, (by repeat (first | exact Below.refl _ _ | assumption | refine Below.setCell ?_ (by first | (simp; done) | omega | (simp; omega) | (simp at *; omega)) _ | refine Below.alloc ?_ (by first | (simp; done) | omega | (simp; omega) | (simp at *; omega)) _ | refine Below.drew ?_ | (refine Below.trans ?_ (Below.mono (by assumption) (by first | (simp; done) | omega | (simp; omega) | (simp at *; omega)))) | (refine Below.trans ?_ (Below.mono (below_regrown _ _ _) (by first | (simp; done) | omega | (simp; omega) | (simp at *; omega))))))⟩
    | exact ⟨_, _, Fx.md_pos HC0.out HQ.out.symm (by omega) ‹_›, rfl, (by repeat (first | exact Below.refl _ _ | assumption | refine Below.setCell ?_ (by first | (simp; done) | omega | (simp; omega) | (simp at *; omega)) _ | refine Below.alloc ?_ (by first | (simp; done) | omega | (simp; omega) | (simp at *; omega)) _ | refine Below.drew ?_ | (refine Below.trans ?_ (Below.mono (by assumption) (by first | (simp; done) | omega | (simp; omega) | (simp at *; omega)))) | (refine Below.trans ?_ (Below.mono (below_regrown _ _ _) (by first | (simp; done) | omega | (simp; omega) | (simp at *; omega))))))⟩

set_option maxHeartbeats 1000000 in
theorem md_most (a b c x y d hi lo q r : Int) (H : MdIn a b c x y d hi lo q r) (HC0 : Hid (c ≠ 0)) (hd : hi < d) (hq : 4611686018427387904 < q) (HQ : Hid (4611686018427387904 < Fx.mdq a b c)) (w : World) :
    Calls Try.prog 45 #[.int .i64 a, .int .i64 b, .int .i64 c] w fun e w' => MdPost a b c w e w' := by
  have hc0 : (c == 0) = false := by simp [HC0.out]
  have HD := Lib.hid (H.D hd)
  have d1 := H.d1
  have q0 := H.q0
  have r0 := H.r0
  have r1 := H.r1
  go_enter Try.func45, Try.ntmps45
  go_wp2_with fail
  (go_at_call 52; go_must (refine (H.A _).mono ?_; rintro e w' ⟨rfl, rfl⟩))
  go_wp2_with fail
  (go_at_call 52; go_must (refine (H.B _).mono ?_; rintro e w' ⟨rfl, rfl⟩))
  go_wp2_with fail
  (go_at_call 51; go_must (refine (H.M _).mono ?_; rintro e w' ⟨rfl, rfl⟩))
  go_wp2_with fail
  (go_at_call 52; go_must (refine (H.C _).mono ?_; rintro e w' ⟨rfl, rfl⟩))
  go_wp2_with fail
  (go_at_call 53; go_must (refine (HD.out _).mono ?_; rintro e w' ⟨rfl, hb⟩; obtain ⟨hc, hf⟩ := bcell hb; (try have hz0 : w.heap.size < w'.heap.size := Nat.lt_of_lt_of_le (by first | assumption | (simp; done) | (simp; omega)) hb.size); (try have hz1 : w.heap.size + 1 < w'.heap.size := Nat.lt_of_lt_of_le (by first | assumption | (simp; done) | (simp; omega)) hb.size); (try have hz2 : w.heap.size + 1 + 1 < w'.heap.size := Nat.lt_of_lt_of_le (by first | assumption | (simp; done) | (simp; omega)) hb.size); have hz := hb.size; (try simp at hz)))
  go_wp2_with fail
  all_goals
    ((try simp only [Exit.inBlock, Exit.then]); refine bodyPost_ret (results_tmp2 rfl _ _ _) rfl ?_)
    first
    | exact ⟨_, _, Fx.md_big (by have := HQ.out; omega), rfl, (by repeat (first | exact Below.refl _ _ | assumption | refine Below.setCell ?_ (by first | (simp; done) | omega | (simp; omega) | (simp at *; omega)) _ | refine Below.alloc ?_ (by first | (simp; done) | omega | (simp; omega) | (simp at *; omega)) _ | refine Below.drew ?_ | (refine Below.trans ?_ (Below.mono (by assumption) (by first | (simp; done) | omega | (simp; omega) | (simp at *; omega)))) | (refine Below.trans ?_ (Below.mono (below_regrown _ _ _) (by first | (simp; done) | omega | (simp; omega) | (simp at *; omega))))))⟩
    | exact ⟨_, _, Fx.md_neg HC0.out HQ.out.symm (by omega) ‹_›, rfl, (by repeat (first | exact Below.refl _ _ | assumption | refine Below.setCell ?_ (by first | (simp; done) | omega | (simp; omega) | (simp at *; omega)) _ | refine Below.alloc ?_ (by first | (simp; done) | omega | (simp; omega) | (simp at *; omega)) _ | refine Below.drew ?_ | (refine Below.trans ?_ (Below.mono (by assumption) (by first | (simp; done) | omega | (simp; omega) | (simp at *; omega)))) | (refine Below.trans ?_ (Below.mono (below_regrown _ _ _) (by first | (simp; done) | omega | (simp; omega) | (simp at *; omega))))))⟩
    | exact ⟨_, _, Fx.md_pos HC0.out HQ.out.symm (by omega) ‹_›, rfl, (by repeat (first | exact Below.refl _ _ | assumption | refine Below.setCell ?_ (by first | (simp; done) | omega | (simp; omega) | (simp at *; omega)) _ | refine Below.alloc ?_ (by first | (simp; done) | omega | (simp; omega) | (simp at *; omega)) _ | refine Below.drew ?_ | (refine Below.trans ?_ (Below.mono (by assumption) (by first | (simp; done) | omega | (simp; omega) | (simp at *; omega)))) | (refine Below.trans ?_ (Below.mono (below_regrown _ _ _) (by first | (simp; done) | omega | (simp; omega) | (simp at *; omega))))))⟩

set_option maxHeartbeats 1000000 in
theorem md_up (a b c x y d hi lo q r : Int) (H : MdIn a b c x y d hi lo q r) (HC0 : Hid (c ≠ 0)) (hd : hi < d) (hq : q ≤ 4611686018427387904) (hr : d ≤ 2 * r) (HQ : Hid ((Fx.mdq a b c : Int) = q + 1)) (w : World) :
    Calls Try.prog 45 #[.int .i64 a, .int .i64 b, .int .i64 c] w fun e w' => MdPost a b c w e w' := by
  have hc0 : (c == 0) = false := by simp [HC0.out]
  have HD := Lib.hid (H.D hd)
  have d1 := H.d1
  have q0 := H.q0
  have r0 := H.r0
  have r1 := H.r1
  go_enter Try.func45, Try.ntmps45
  go_wp2_with fail
  (go_at_call 52; go_must (refine (H.A _).mono ?_; rintro e w' ⟨rfl, rfl⟩))
  go_wp2_with fail
  (go_at_call 52; go_must (refine (H.B _).mono ?_; rintro e w' ⟨rfl, rfl⟩))
  go_wp2_with fail
  (go_at_call 51; go_must (refine (H.M _).mono ?_; rintro e w' ⟨rfl, rfl⟩))
  go_wp2_with fail
  (go_at_call 52; go_must (refine (H.C _).mono ?_; rintro e w' ⟨rfl, rfl⟩))
  go_wp2_with fail
  (go_at_call 53; go_must (refine (HD.out _).mono ?_; rintro e w' ⟨rfl, hb⟩; obtain ⟨hc, hf⟩ := bcell hb; (try have hz0 : w.heap.size < w'.heap.size := Nat.lt_of_lt_of_le (by first | assumption | (simp; done) | (simp; omega)) hb.size); (try have hz1 : w.heap.size + 1 < w'.heap.size := Nat.lt_of_lt_of_le (by first | assumption | (simp; done) | (simp; omega)) hb.size); (try have hz2 : w.heap.size + 1 + 1 < w'.heap.size := Nat.lt_of_lt_of_le (by first | assumption | (simp; done) | (simp; omega)) hb.size); have hz := hb.size; (try simp at hz)))
  go_wp2_with fail
  all_goals
    ((try simp only [Exit.inBlock, Exit.then]); refine bodyPost_ret (results_tmp2 rfl _ _ _) rfl ?_)
    first
    | exact ⟨_, _, Fx.md_big (by have := HQ.out; omega), rfl, (by repeat (first | exact Below.refl _ _ | assumption | refine Below.setCell ?_ (by first | (simp; done) | omega | (simp; omega) | (simp at *; omega)) _ | refine Below.alloc ?_ (by first | (simp; done) | omega | (simp; omega) | (simp at *; omega)) _ | refine Below.drew ?_ | (refine Below.trans ?_ (Below.mono (by assumption) (by first | (simp; done) | omega | (simp; omega) | (simp at *; omega)))) | (refine Below.trans ?_ (Below.mono (below_regrown _ _ _) (by first | (simp; done) | omega | (simp; omega) | (simp at *; omega))))))⟩
    | exact ⟨_, _, Fx.md_neg HC0.out HQ.out.symm (by omega) ‹_›, rfl, (by repeat (first | exact Below.refl _ _ | assumption | refine Below.setCell ?_ (by first | (simp; done) | omega | (simp; omega) | (simp at *; omega)) _ | refine Below.alloc ?_ (by first | (simp; done) | omega | (simp; omega) | (simp at *; omega)) _ | refine Below.drew ?_ | (refine Below.trans ?_ (Below.mono (by assumption) (by first | (simp; done) | omega | (simp; omega) | (simp at *; omega)))) | (refine Below.trans ?_ (Below.mono (below_regrown _ _ _) (by first | (simp; done) | omega | (simp; omega) | (simp at *; omega))))))⟩
    | exact ⟨_, _, Fx.md_pos HC0.out HQ.out.symm (by omega) ‹_›, rfl, (by repeat (first | exact Below.refl _ _ | assumption | refine Below.setCell ?_ (by first | (simp; done) | omega | (simp; omega) | (simp at *; omega)) _ | refine Below.alloc ?_ (by first | (simp; done) | omega | (simp; omega) | (simp at *; omega)) _ | refine Below.drew ?_ | (refine Below.trans ?_ (Below.mono (by assumption) (by first | (simp; done) | omega | (simp; omega) | (simp at *; omega)))) | (refine Below.trans ?_ (Below.mono (below_regrown _ _ _) (by first | (simp; done) | omega | (simp; omega) | (simp at *; omega))))))⟩

set_option maxHeartbeats 1000000 in
theorem md_down (a b c x y d hi lo q r : Int) (H : MdIn a b c x y d hi lo q r) (HC0 : Hid (c ≠ 0)) (hd : hi < d) (hq : q ≤ 4611686018427387904) (hr : 2 * r < d) (HQ : Hid ((Fx.mdq a b c : Int) = q)) (w : World) :
    Calls Try.prog 45 #[.int .i64 a, .int .i64 b, .int .i64 c] w fun e w' => MdPost a b c w e w' := by
  have hc0 : (c == 0) = false := by simp [HC0.out]
  have HD := Lib.hid (H.D hd)
  have d1 := H.d1
  have q0 := H.q0
  have r0 := H.r0
  have r1 := H.r1
  go_enter Try.func45, Try.ntmps45
  go_wp2_with fail
  (go_at_call 52; go_must (refine (H.A _).mono ?_; rintro e w' ⟨rfl, rfl⟩))
  go_wp2_with fail
  (go_at_call 52; go_must (refine (H.B _).mono ?_; rintro e w' ⟨rfl, rfl⟩))
  go_wp2_with fail
  (go_at_call 51; go_must (refine (H.M _).mono ?_; rintro e w' ⟨rfl, rfl⟩))
  go_wp2_with fail
  (go_at_call 52; go_must (refine (H.C _).mono ?_; rintro e w' ⟨rfl, rfl⟩))
  go_wp2_with fail
  (go_at_call 53; go_must (refine (HD.out _).mono ?_; rintro e w' ⟨rfl, hb⟩; obtain ⟨hc, hf⟩ := bcell hb; (try have hz0 : w.heap.size < w'.heap.size := Nat.lt_of_lt_of_le (by first | assumption | (simp; done) | (simp; omega)) hb.size); (try have hz1 : w.heap.size + 1 < w'.heap.size := Nat.lt_of_lt_of_le (by first | assumption | (simp; done) | (simp; omega)) hb.size); (try have hz2 : w.heap.size + 1 + 1 < w'.heap.size := Nat.lt_of_lt_of_le (by first | assumption | (simp; done) | (simp; omega)) hb.size); have hz := hb.size; (try simp at hz)))
  go_wp2_with fail
  all_goals
    ((try simp only [Exit.inBlock, Exit.then]); refine bodyPost_ret (results_tmp2 rfl _ _ _) rfl ?_)
    first
    | exact ⟨_, _, Fx.md_big (by have := HQ.out; omega), rfl, (by repeat (first | exact Below.refl _ _ | assumption | refine Below.setCell ?_ (by first | (simp; done) | omega | (simp; omega) | (simp at *; omega)) _ | refine Below.alloc ?_ (by first | (simp; done) | omega | (simp; omega) | (simp at *; omega)) _ | refine Below.drew ?_ | (refine Below.trans ?_ (Below.mono (by assumption) (by first | (simp; done) | omega | (simp; omega) | (simp at *; omega)))) | (refine Below.trans ?_ (Below.mono (below_regrown _ _ _) (by first | (simp; done) | omega | (simp; omega) | (simp at *; omega))))))⟩
    | exact ⟨_, _, Fx.md_neg HC0.out HQ.out.symm (by omega) ‹_›, rfl, (by repeat (first | exact Below.refl _ _ | assumption | refine Below.setCell ?_ (by first | (simp; done) | omega | (simp; omega) | (simp at *; omega)) _ | refine Below.alloc ?_ (by first | (simp; done) | omega | (simp; omega) | (simp at *; omega)) _ | refine Below.drew ?_ | (refine Below.trans ?_ (Below.mono (by assumption) (by first | (simp; done) | omega | (simp; omega) | (simp at *; omega)))) | (refine Below.trans ?_ (Below.mono (below_regrown _ _ _) (by first | (simp; done) | omega | (simp; omega) | (simp at *; omega))))))⟩
    | exact ⟨_, _, Fx.md_pos HC0.out HQ.out.symm (by omega) ‹_›, rfl, (by repeat (first | exact Below.refl _ _ | assumption | refine Below.setCell ?_ (by first | (simp; done) | omega | (simp; omega) | (simp at *; omega)) _ | refine Below.alloc ?_ (by first | (simp; done) | omega | (simp; omega) | (simp at *; omega)) _ | refine Below.drew ?_ | (refine Below.trans ?_ (Below.mono (by assumption) (by first | (simp; done) | omega | (simp; omega) | (simp at *; omega)))) | (refine Below.trans ?_ (Below.mono (below_regrown _ _ _) (by first | (simp; done) | omega | (simp; omega) | (simp at *; omega))))))⟩

theorem mulDiv_any (a b c : Int) (a1 : -9223372036854775808 ≤ a) (a2 : a ≤ 9223372036854775807) (b1 : -9223372036854775808 ≤ b) (b2 : b ≤ 9223372036854775807) (c1 : -9223372036854775808 ≤ c) (c2 : c ≤ 9223372036854775807) (w : World) :
    Calls Try.prog 45 #[.int .i64 a, .int .i64 b, .int .i64 c] w fun e w' => MdPost a b c w e w' := by
  by_cases hc : c = 0
  · subst hc; exact md_zero_any a b w
  have hx := Fx.mag_le a1 a2
  have hy := Fx.mag_le b1 b2
  have hd := Fx.mag_le c1 c2
  have hd0 := Fx.mag_pos hc
  obtain ⟨p, hp⟩ : ∃ p, p = Fx.mag a * Fx.mag b := ⟨_, rfl⟩
  have hmq : Fx.mdq a b c = Fx.rnd p (Fx.mag c) := by unfold Fx.mdq; rw [← hp]
  have hw := Fx.whole p
  have hp128 : p / 18446744073709551616 < 18446744073709551616 := by
    have := Nat.mul_le_mul hx hy
    rw [← hp] at this
    rw [Nat.div_lt_iff_lt_mul (by decide)]
    exact Nat.lt_of_le_of_lt this (by decide)
  have hrd := Nat.mod_lt p hd0
  have hge := Fx.rnd_ge p (Fx.mag c)
  have H : MdIn a b c (Fx.mag a) (Fx.mag b) (Fx.mag c) ((p / 18446744073709551616 : Nat) : Int) ((p % 18446744073709551616 : Nat) : Int) (if p / 18446744073709551616 < Fx.mag c then ((p / Fx.mag c : Nat) : Int) else 0) ((p % Fx.mag c : Nat) : Int) := by
    refine ⟨fun W => magnitude_any a a1 a2 W, fun W => magnitude_any b b1 b2 W, fun W => magnitude_any c c1 c2 W, fun W => ?_, fun h W => ?_, by omega, by omega, ?_, ?_, by omega, by omega⟩
    · have := mul64_any (Fx.mag a) (Fx.mag b) (by omega) (by omega) W
      rw [← hp] at this
      exact this
    · have hlt : p / 18446744073709551616 < Fx.mag c := by omega
      have := div64_any (p / 18446744073709551616) (p % 18446744073709551616) (Fx.mag c) (Nat.mod_lt _ (by decide)) (by omega) hlt W
      rw [hw] at this
      rw [if_pos hlt]
      exact this
    · split
      · exact Int.natCast_nonneg _
      · exact Int.le_refl _
    · split
      · rename_i h
        have : p / Fx.mag c < 18446744073709551616 := by
          rw [Nat.div_lt_iff_lt_mul hd0]
          have h3 := Nat.div_add_mod p 18446744073709551616
          have h4 := Nat.mod_lt p (show 0 < 18446744073709551616 by decide)
          omega
        omega
      · omega
  by_cases h1 : p / 18446744073709551616 < Fx.mag c
  · rw [if_pos h1] at H
    by_cases h2 : 4611686018427387904 < p / Fx.mag c
    · exact md_most a b c _ _ _ _ _ _ _ H (Lib.hid hc) (by omega) (by omega) (Lib.hid (by rw [hmq]; omega)) w
    · by_cases h3 : Fx.mag c ≤ 2 * (p % Fx.mag c)
      · exact md_up a b c _ _ _ _ _ _ _ H (Lib.hid hc) (by omega) (by omega) (by omega) (Lib.hid (by rw [hmq, Fx.rnd_up h3]; omega)) w
      · exact md_down a b c _ _ _ _ _ _ _ H (Lib.hid hc) (by omega) (by omega) (by omega) (Lib.hid (by rw [hmq, Fx.rnd_down (by omega)])) w
  · have := Fx.words p (Fx.mag c) (by omega) hd0
    exact md_over a b c _ _ _ _ _ _ _ H (Lib.hid hc) (by omega) (Lib.hid (by rw [hmq]; omega)) w
end Go.Proofs.Ytjaclmhfagdfhaa
