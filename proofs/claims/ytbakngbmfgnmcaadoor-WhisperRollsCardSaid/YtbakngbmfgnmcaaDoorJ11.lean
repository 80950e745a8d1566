/-
  FxMd: CONTRACT: fixed.MulDiv.
  FxMul: CONTRACTS: fixed.Mul, fixed.Div; and what every law asks at its end.
  AgTg: CONTRACTS: values as one: agg's together, Of and Put.
  FxRm: CONTRACT: the document's MulDiv, bit by bit.
  FxRmul: CONTRACTS: the document's Mul and Div.
  AgRef: CONTRACTS: values as one: the document's Of and Put.
  AgLaw: CONTRACTS: the document's Put; what the laws of agg ask beside it: two rows alike, a mean of what is known.
  WpPa: CONTRACTS: chapter 7, the document's file: what was laid in an archive goes on to the next one.
  WpLa: CONTRACTS: chapter 7, the document's file: a point is laid, or passed over.
-/
import Derived.Test.YtbakngbmfgnmcaaDoorJ10
import Derived.Test.YtbakngbmfgnmcaaDoorJ7
import Derived.Deep.RegionWith
import Derived.Test.YtbakngbmfgnmcaaDoorJ6

namespace Go.Proofs.YtbakngbmfgnmcaaDoor
open Go.RowKit

/-- MulDiv's answer, whoever gives it. -/
def MdPost (a b c : Int) (w : World) (e : Ending) (w' : World) : Prop := ∃ n ok, Fx.Md a b c n ok ∧ e = .returned (.tuple #[.int .i64 n, .bool ok]) ∧ Below w.heap.size w w'

set_option maxHeartbeats 1000000 in
theorem md_zero_any (a b : Int) (w : World) :
    Calls Tryd.prog 86 #[.int .i64 a, .int .i64 b, .int .i64 0] w fun e w' => MdPost a b 0 w e w' := by
  go_enter Tryd.func86, Tryd.ntmps86
  go_wp2
  ((try simp only [Exit.inBlock, Exit.then]); refine bodyPost_ret (results_tmp2 rfl _ _ _) rfl ?_)
  exact ⟨_, _, Fx.md_zero rfl, rfl, Below.refl _ _⟩


/-- What the calls within come to. -/
structure MdIn (a b c x y d hi lo q r : Int) : Prop where
  A : ∀ W, Calls Tryd.prog 90 #[.int .i64 a] W fun e w' => e = .returned (.int .u64 x) ∧ W = w'
  B : ∀ W, Calls Tryd.prog 90 #[.int .i64 b] W fun e w' => e = .returned (.int .u64 y) ∧ W = w'
  C : ∀ W, Calls Tryd.prog 90 #[.int .i64 c] W fun e w' => e = .returned (.int .u64 d) ∧ W = w'
  M : ∀ W, Calls Tryd.prog 89 #[.int .u64 x, .int .u64 y] W fun e w' => e = .returned (.tuple #[.int .u64 hi, .int .u64 lo]) ∧ W = w'
  D : hi < d → ∀ W, Calls Tryd.prog 91 #[.int .u64 hi, .int .u64 lo, .int .u64 d] W fun e w' => e = .returned (.tuple #[.int .u64 q, .int .u64 r]) ∧ Below W.heap.size W w'
  d0 : 0 < d
  d1 : d ≤ 9223372036854775808
  q0 : 0 ≤ q
  q1 : q ≤ 18446744073709551615
  r0 : 0 ≤ r
  r1 : r < d

set_option maxHeartbeats 1000000 in
theorem md_over (a b c x y d hi lo q r : Int) (H : MdIn a b c x y d hi lo q r) (HC0 : Hid (c ≠ 0)) (hd : d ≤ hi) (HQ : Hid (4611686018427387904 < Fx.mdq a b c)) (w : World) :
    Calls Tryd.prog 86 #[.int .i64 a, .int .i64 b, .int .i64 c] w fun e w' => MdPost a b c w e w' := by
  have hc0 : (c == 0) = false := by simp [HC0.out]
  go_enter Tryd.func86, Tryd.ntmps86
  go_wp2_with fail
  (go_at_call 90; go_must (refine (H.A _).mono ?_; rintro e w' ⟨rfl, rfl⟩))
  go_wp2_with fail
  (go_at_call 90; go_must (refine (H.B _).mono ?_; rintro e w' ⟨rfl, rfl⟩))
  go_wp2_with fail
  (go_at_call 89; go_must (refine (H.M _).mono ?_; rintro e w' ⟨rfl, rfl⟩))
  go_wp2_with fail
  (go_at_call 90; go_must (refine (H.C _).mono ?_; rintro e w' ⟨rfl, rfl⟩))
  go_wp2_with fail
  all_goals
    ((try simp only [Exit.inBlock, Exit.then]); refine bodyPost_ret (results_tmp2 rfl _ _ _) rfl ?_)
    first
    | exact ⟨_, _, Fx.md_big (by have := HQ.out; omega), rfl, (by repeat (first | exact Below.refl _ _ | assumption | refine Below.setCell ?_ (by first | (simp; done) | omega | (simp; omega) | (simp at *; omega)) _ | refine Below.alloc ?_ (by first | (simp; done) | omega | (simp; omega) | (simp at *; omega)) _ | refine Below.drew ?_ | (refine Below.trans ?_ (Below.mono (by assumption) (by first | (simp; done) | omega | (simp; omega) | (simp at *; omega)))) | (refine Below.trans ?_ (Below.mono (below_regrown _ _ _) (by first | (simp; done) | omega | (simp; omega) | (simp at *; omega))))))⟩
    | exact ⟨_, _, Fx.md_neg HC0.out HQ.out.symm (by omega) ‹_›, rfl, (by repeat (first | exact Below.refl _ _ | assumption | refine Below.setCell ?_ (by first | (simp; done) | omega | (simp; omega) | (simp at *; omega)) _ | refine Below.alloc ?_ (by first | (simp; done) | omega | (simp; omega) | (simp at *; omega)) _ | refine Below.drew ?_ | (refine Below.trans ?_ (Below.mono (by assumption) (by first | (simp; done) | omega | (simp; omega) | (simp at *; omega)))) | (refine Below.trans ?_ (Below.mono (below_regrown _ _ _) (by first | (simp; done) | omega | (simp; omega) | (simp at *; omega))))))⟩
    | exact ⟨_, _, Fx.md_pos HC0.out HQ.out.symm (by omega) ‹_›, rfl, (by repeat (first | exact Below.refl _ _ | assumption | refine Below.setCell ?_ (by first | (simp; done) | omega | (simp; omega) | (simp at *; omega)) _ | refine Below.alloc ?_ (by first | (simp; done) | omega | (simp; omega) | (simp at *; omega)) _ | refine Below.drew ?_ | (refine Below.trans ?_ (Below.mono (by assumption) (by first | (simp; done) | omega | (simp; omega) | (simp at *; omega)))) | (refine Below.trans ?_ (Below.mono (below_regrown _ _ _) (by first | (simp; done) | omega | (simp; omega) | (simp at *; omega))))))⟩

set_option maxHeartbeats 1000000 in
theorem md_most (a b c x y d hi lo q r : Int) (H : MdIn a b c x y d hi lo q r) (HC0 : Hid (c ≠ 0)) (hd : hi < d) (hq : 4611686018427387904 < q) (HQ : Hid (4611686018427387904 < Fx.mdq a b c)) (w : World) :
    Calls Tryd.prog 86 #[.int .i64 a, .int .i64 b, .int .i64 c] w fun e w' => MdPost a b c w e w' := by
  have hc0 : (c == 0) = false := by simp [HC0.out]
  have HD := Lib.hid (H.D hd)
  have d1 := H.d1
  have q0 := H.q0
  have r0 := H.r0
  have r1 := H.r1
  go_enter Tryd.func86, Tryd.ntmps86
  go_wp2_with fail
  (go_at_call 90; go_must (refine (H.A _).mono ?_; rintro e w' ⟨rfl, rfl⟩))
  go_wp2_with fail
  (go_at_call 90; go_must (refine (H.B _).mono ?_; rintro e w' ⟨rfl, rfl⟩))
  go_wp2_with fail
  (go_at_call 89; go_must (refine (H.M _).mono ?_; rintro e w' ⟨rfl, rfl⟩))
  go_wp2_with fail
  (go_at_call 90; go_must (refine (H.C _).mono ?_; rintro e w' ⟨rfl, rfl⟩))
  go_wp2_with fail
  (go_at_call 91; go_must (refine (HD.out _).mono ?_; rintro e w' ⟨rfl, hb⟩; obtain ⟨hc, hf⟩ := bcell hb; (try have hz0 : w.heap.size < w'.heap.size := Nat.lt_of_lt_of_le (by first | assumption | (simp; done) | (simp; omega)) hb.size); (try have hz1 : w.heap.size + 1 < w'.heap.size := Nat.lt_of_lt_of_le (by first | assumption | (simp; done) | (simp; omega)) hb.size); (try have hz2 : w.heap.size + 1 + 1 < w'.heap.size := Nat.lt_of_lt_of_le (by first | assumption | (simp; done) | (simp; omega)) hb.size); have hz := hb.size; (try simp at hz)))
  go_wp2_with fail
  all_goals
    ((try simp only [Exit.inBlock, Exit.then]); refine bodyPost_ret (results_tmp2 rfl _ _ _) rfl ?_)
    first
    | exact ⟨_, _, Fx.md_big (by have := HQ.out; omega), rfl, (by repeat (first | exact Below.refl _ _ | assumption | refine Below.setCell ?_ (by first | (simp; done) | omega | (simp; omega) | (simp at *; omega)) _ | refine Below.alloc ?_ (by first | (simp; done) | omega | (simp; omega) | (simp at *; omega)) _ | refine Below.drew ?_ | (refine Below.trans ?_ (Below.mono (by assumption) (by first | (simp; done) | omega | (simp; omega) | (simp at *; omega)))) | (refine Below.trans ?_ (Below.mono (below_regrown _ _ _) (by first | (simp; done) | omega | (simp; omega) | (simp at *; omega))))))⟩
    | exact ⟨_, _, Fx.md_neg HC0.out HQ.out.symm (by omega) ‹_›, rfl, (by repeat (first | exact Below.refl _ _ | assumption | refine Below.setCell ?_ (by first | (simp; done) | omega | (simp; omega) | (simp at *; omega)) _ | refine Below.alloc ?_ (by first | (simp; done) | omega | (simp; omega) | (simp at *; omega)) _ | refine Below.drew ?_ | (refine Below.trans ?_ (Below.mono (by assumption) (by first | (simp; done) | omega | (simp; omega) | (simp at *; omega)))) | (refine Below.trans ?_ (Below.mono (below_regrown _ _ _) (by first | (simp; done) | omega | (simp; omega) | (simp at *; omega))))))⟩
    | exact ⟨_, _, Fx.md_pos HC0.out HQ.out.symm (by omega) ‹_›, rfl, (by repeat (first | exact Below.refl _ _ | assumption | refine Below.setCell ?_ (by first | (simp; done) | omega | (simp; omega) | (simp at *; omega)) _ | refine Below.alloc ?_ (by first | (simp; done) | omega | (simp; omega) | (simp at *; omega)) _ | refine Below.drew ?_ | (refine Below.trans ?_ (Below.mono (by assumption) (by first | (simp; done) | omega | (simp; omega) | (simp at *; omega)))) | (refine Below.trans ?_ (Below.mono (below_regrown _ _ _) (by first | (simp; done) | omega | (simp; omega) | (simp at *; omega))))))⟩

set_option maxHeartbeats 1000000 in
theorem md_up (a b c x y d hi lo q r : Int) (H : MdIn a b c x y d hi lo q r) (HC0 : Hid (c ≠ 0)) (hd : hi < d) (hq : q ≤ 4611686018427387904) (hr : d ≤ 2 * r) (HQ : Hid ((Fx.mdq a b c : Int) = q + 1)) (w : World) :
    Calls Tryd.prog 86 #[.int .i64 a, .int .i64 b, .int .i64 c] w fun e w' => MdPost a b c w e w' := by
  have hc0 : (c == 0) = false := by simp [HC0.out]
  have HD := Lib.hid (H.D hd)
  have d1 := H.d1
  have q0 := H.q0
  have r0 := H.r0
  have r1 := H.r1
  go_enter Tryd.func86, Tryd.ntmps86
  go_wp2_with fail
  (go_at_call 90; go_must (refine (H.A _).mono ?_; rintro e w' ⟨rfl, rfl⟩))
  go_wp2_with fail
  (go_at_call 90; go_must (refine (H.B _).mono ?_; rintro e w' ⟨rfl, rfl⟩))
  go_wp2_with fail
  (go_at_call 89; go_must (refine (H.M _).mono ?_; rintro e w' ⟨rfl, rfl⟩))
  go_wp2_with fail
  (go_at_call 90; go_must (refine (H.C _).mono ?_; rintro e w' ⟨rfl, rfl⟩))
  go_wp2_with fail
  (go_at_call 91; go_must (refine (HD.out _).mono ?_; rintro e w' ⟨rfl, hb⟩; obtain ⟨hc, hf⟩ := bcell hb; (try have hz0 : w.heap.size < w'.heap.size := Nat.lt_of_lt_of_le (by first | assumption | (simp; done) | (simp; omega)) hb.size); (try have hz1 : w.heap.size + 1 < w'.heap.size := Nat.lt_of_lt_of_le (by first | assumption | (simp; done) | (simp; omega)) hb.size); (try have hz2 : w.heap.size + 1 + 1 < w'.heap.size := Nat.lt_of_lt_of_le (by first | assumption | (simp; done) | (simp; omega)) hb.size); have hz := hb.size; (try simp at hz)))
  go_wp2_with fail
  all_goals
    ((try simp only [Exit.inBlock, Exit.then]); refine bodyPost_ret (results_tmp2 rfl _ _ _) rfl ?_)
    first
    | exact ⟨_, _, Fx.md_big (by have := HQ.out; omega), rfl, (by repeat (first | exact Below.refl _ _ | assumption | refine Below.setCell ?_ (by first | (simp; done) | omega | (simp; omega) | (simp at *; omega)) _ | refine Below.alloc ?_ (by first | (simp; done) | omega | (simp; omega) | (simp at *; omega)) _ | refine Below.drew ?_ | (refine Below.trans ?_ (Below.mono (by assumption) (by first | (simp; done) | omega | (simp; omega) | (simp at *; omega)))) | (refine Below.trans ?_ (Below.mono (below_regrown _ _ _) (by first | (simp; done) | omega | (simp; omega) | (simp at *; omega))))))⟩
    | exact ⟨_, _, Fx.md_neg HC0.out HQ.out.symm (by omega) ‹_›, rfl, (by repeat (first | exact Below.refl _ _ | assumption | refine Below.setCell ?_ (by first | (simp; done) | omega | (simp; omega) | (simp at *; omega)) _ | refine Below.alloc ?_ (by first | (simp; done) | omega | (simp; omega) | (simp at *; omega)) _ | refine Below.drew ?_ | (refine Below.trans ?_ (Below.mono (by assumption) (by first | (simp; done) | omega | (simp; omega) | (simp at *; omega)))) | (refine Below.trans ?_ (Below.mono (below_regrown _ _ _) (by first | (simp; done) | omega | (simp; omega) | (simp at *; omega))))))⟩
    | exact ⟨_, _, Fx.md_pos HC0.out HQ.out.symm (by omega) ‹_›, rfl, (by repeat (first | exact Below.refl _ _ | assumption | refine Below.setCell ?_ (by first | (simp; done) | omega | (simp; omega) | (simp at *; omega)) _ | refine Below.alloc ?_ (by first | (simp; done) | omega | (simp; omega) | (simp at *; omega)) _ | refine Below.drew ?_ | (refine Below.trans ?_ (Below.mono (by assumption) (by first | (simp; done) | omega | (simp; omega) | (simp at *; omega)))) | (refine Below.trans ?_ (Below.mono (below_regrown _ _ _) (by first | (simp; done) | omega | (simp; omega) | (simp at *; omega))))))⟩

set_option maxHeartbeats 1000000 in
theorem md_down (a b c x y d hi lo q r : Int) (H : MdIn a b c x y d hi lo q r) (HC0 : Hid (c ≠ 0)) (hd : hi < d) (hq : q ≤ 4611686018427387904) (hr : 2 * r < d) (HQ : Hid ((Fx.mdq a b c : Int) = q)) (w : World) :
    Calls Tryd.prog 86 #[.int .i64 a, .int .i64 b, .int .i64 c] w fun e w' => MdPost a b c w e w' := by
  have hc0 : (c == 0) = false := by simp [HC0.out]
  have HD := Lib.hid (H.D hd)
  have d1 := H.d1
  have q0 := H.q0
  have r0 := H.r0
  have r1 := H.r1
  go_enter Tryd.func86, Tryd.ntmps86
  go_wp2_with fail
  (go_at_call 90; go_must (refine (H.A _).mono ?_; rintro e w' ⟨rfl, rfl⟩))
  go_wp2_with fail
  (go_at_call 90; go_must (refine (H.B _).mono ?_; rintro e w' ⟨rfl, rfl⟩))
  go_wp2_with fail
  (go_at_call 89; go_must (refine (H.M _).mono ?_; rintro e w' ⟨rfl, rfl⟩))
  go_wp2_with fail
  (go_at_call 90; go_must (refine (H.C _).mono ?_; rintro e w' ⟨rfl, rfl⟩))
  go_wp2_with fail
  (go_at_call 91; go_must (refine (HD.out _).mono ?_; rintro e w' ⟨rfl, hb⟩; obtain ⟨hc, hf⟩ := bcell hb; (try have hz0 : w.heap.size < w'.heap.size := Nat.lt_of_lt_of_le (by first | assumption | (simp; done) | (simp; omega)) hb.size); (try have hz1 : w.heap.size + 1 < w'.heap.size := Nat.lt_of_lt_of_le (by first | assumption | (simp; done) | (simp; omega)) hb.size); (try have hz2 : w.heap.size + 1 + 1 < w'.heap.size := Nat.lt_of_lt_of_le (by first | assumption | (simp; done) | (simp; omega)) hb.size); have hz := hb.size; (try simp at hz)))
  go_wp2_with fail
  all_goals
    ((try simp only [Exit.inBlock, Exit.then]); refine bodyPost_ret (results_tmp2 rfl _ _ _) rfl ?_)
    first
    | exact ⟨_, _, Fx.md_big (by have := HQ.out; omega), rfl, (by repeat (first | exact Below.refl _ _ | assumption | refine Below.setCell ?_ (by first | (simp; done) | omega | (simp; omega) | (simp at *; omega)) _ | refine Below.alloc ?_ (by first | (simp; done) | omega | (simp; omega) | (simp at *; omega)) _ | refine Below.drew ?_ | (refine Below.trans ?_ (Below.mono (by assumption) (by first | (simp; done) | omega | (simp; omega) | (simp at *; omega)))) | (refine Below.trans ?_ (Below.mono (below_regrown _ _ _) (by first | (simp; done) | omega | (simp; omega) | (simp at *; omega))))))⟩
    | exact ⟨_, _, Fx.md_neg HC0.out HQ.out.symm (by omega) ‹_›, rfl, (by repeat (first | exact Below.refl _ _ | assumption | refine Below.setCell ?_ (by first | (simp; done) | omega | (simp; omega) | (simp at *; omega)) _ | refine Below.alloc ?_ (by first | (simp; done) | omega | (simp; omega) | (simp at *; omega)) _ | refine Below.drew ?_ | (refine Below.trans ?_ (Below.mono (by assumption) (by first | (simp; done) | omega | (simp; omega) | (simp at *; omega)))) | (refine Below.trans ?_ (Below.mono (below_regrown _ _ _) (by first | (simp; done) | omega | (simp; omega) | (simp at *; omega))))))⟩
    | exact ⟨_, _, Fx.md_pos HC0.out HQ.out.symm (by omega) ‹_›, rfl, (by repeat (first | exact Below.refl _ _ | assumption | refine Below.setCell ?_ (by first | (simp; done) | omega | (simp; omega) | (simp at *; omega)) _ | refine Below.alloc ?_ (by first | (simp; done) | omega | (simp; omega) | (simp at *; omega)) _ | refine Below.drew ?_ | (refine Below.trans ?_ (Below.mono (by assumption) (by first | (simp; done) | omega | (simp; omega) | (simp at *; omega)))) | (refine Below.trans ?_ (Below.mono (below_regrown _ _ _) (by first | (simp; done) | omega | (simp; omega) | (simp at *; omega))))))⟩

theorem mulDiv_any (a b c : Int) (a1 : -9223372036854775808 ≤ a) (a2 : a ≤ 9223372036854775807) (b1 : -9223372036854775808 ≤ b) (b2 : b ≤ 9223372036854775807) (c1 : -9223372036854775808 ≤ c) (c2 : c ≤ 9223372036854775807) (w : World) :
    Calls Tryd.prog 86 #[.int .i64 a, .int .i64 b, .int .i64 c] w fun e w' => MdPost a b c w e w' := by
  by_cases hc : c = 0
  · subst hc; exact md_zero_any a b w
  have hx := Fx.mag_le a1 a2
  have hy := Fx.mag_le b1 b2
  have hd := Fx.mag_le c1 c2
  have hd0 := Fx.mag_pos hc
  obtain ⟨p, hp⟩ : ∃ p, p = Fx.mag a * Fx.mag b := ⟨_, rfl⟩
  have hmq : Fx.mdq a b c = Fx.rnd p (Fx.mag c) := by unfold Fx.mdq; rw [← hp]
  have hw := Fx.whole p
  have hp128 : p / 18446744073709551616 < 18446744073709551616 := by
    have := Nat.mul_le_mul hx hy
    rw [← hp] at this
    rw [Nat.div_lt_iff_lt_mul (by decide)]
    exact Nat.lt_of_le_of_lt this (by decide)
  have hrd := Nat.mod_lt p hd0
  have hge := Fx.rnd_ge p (Fx.mag c)
  have H : MdIn a b c (Fx.mag a) (Fx.mag b) (Fx.mag c) ((p / 18446744073709551616 : Nat) : Int) ((p % 18446744073709551616 : Nat) : Int) (if p / 18446744073709551616 < Fx.mag c then ((p / Fx.mag c : Nat) : Int) else 0) ((p % Fx.mag c : Nat) : Int) := by
    refine ⟨fun W => magnitude_any a a1 a2 W, fun W => magnitude_any b b1 b2 W, fun W => magnitude_any c c1 c2 W, fun W => ?_, fun h W => ?_, by omega, by omega, ?_, ?_, by omega, by omega⟩
    · have := mul64_any (Fx.mag a) (Fx.mag b) (by omega) (by omega) W
      rw [← hp] at this
      exact this
    · have hlt : p / 18446744073709551616 < Fx.mag c := by omega
      have := div64_any (p / 18446744073709551616) (p % 18446744073709551616) (Fx.mag c) (Nat.mod_lt _ (by decide)) (by omega) hlt W
      rw [hw] at this
      rw [if_pos hlt]
      exact this
    · split
      · exact Int.natCast_nonneg _
      · exact Int.le_refl _
    · split
      · rename_i h
        have : p / Fx.mag c < 18446744073709551616 := by
          rw [Nat.div_lt_iff_lt_mul hd0]
          have h3 := Nat.div_add_mod p 18446744073709551616
          have h4 := Nat.mod_lt p (show 0 < 18446744073709551616 by decide)
          omega
        omega
      · omega
  by_cases h1 : p / 18446744073709551616 < Fx.mag c
  · rw [if_pos h1] at H
    by_cases h2 : 4611686018427387904 < p / Fx.mag c
    · exact md_most a b c _ _ _ _ _ _ _ H (Lib.hid hc) (by omega) (by omega) (Lib.hid (by rw [hmq]; omega)) w
    · by_cases h3 : Fx.mag c ≤ 2 * (p % Fx.mag c)
      · exact md_up a b c _ _ _ _ _ _ _ H (Lib.hid hc) (by omega) (by omega) (by omega) (Lib.hid (by rw [hmq, Fx.rnd_up h3]; omega)) w
      · exact md_down a b c _ _ _ _ _ _ _ H (Lib.hid hc) (by omega) (by omega) (by omega) (Lib.hid (by rw [hmq, Fx.rnd_down (by omega)])) w
  · have := Fx.words p (Fx.mag c) (by omega) hd0
    exact md_over a b c _ _ _ _ _ _ _ H (Lib.hid hc) (by omega) (Lib.hid (by rw [hmq]; omega)) w
end Go.Proofs.YtbakngbmfgnmcaaDoor

namespace Go.Proofs.YtbakngbmfgnmcaaDoor
open Go.RowKit
open Fx (Vl)

theorem mulDiv_val (a b c : Int) (a1 : -9223372036854775808 ≤ a) (a2 : a ≤ 9223372036854775807) (b1 : -9223372036854775808 ≤ b) (b2 : b ≤ 9223372036854775807) (c1 : -9223372036854775808 ≤ c) (c2 : c ≤ 9223372036854775807) (w : World) :
    Calls Tryd.prog 86 #[.int .i64 a, .int .i64 b, .int .i64 c] w fun e w' => e = .returned (.tuple #[.int .i64 (Fx.mdn a b c), .bool (Fx.mdok a b c)]) ∧ Below w.heap.size w w' :=
  (mulDiv_any a b c a1 a2 b1 b2 c1 c2 w).mono fun e w' ⟨n, ok, h, he, hb⟩ => ⟨by rw [he, h.num, h.ok], hb⟩

set_option maxHeartbeats 1000000 in
theorem div_any (a : Bool) (m : Int) (b : Bool) (n : Int) (w : World) :
    Calls Tryd.prog 76 #[.agg #[.bool a, .int .i64 m], .agg #[.bool b, .int .i64 n]] w fun e w' => e = .returned (.agg #[.bool (Fx.div ⟨a, m⟩ ⟨b, n⟩).ok, .int .i64 (Fx.div ⟨a, m⟩ ⟨b, n⟩).n]) ∧ Below w.heap.size w w' := by
  cases h : Fx.num ⟨a, m⟩
  · rw [Fx.div_no1 h]
    go_enter Tryd.func76, Tryd.ntmps76
    go_wp2_with (go_at_call 84; go_must (refine (isNumber_any _ _ _).mono ?_; rintro e w' ⟨rfl, hb⟩; obtain ⟨hc, hf⟩ := bcell hb; (try have hz0 : w.heap.size < w'.heap.size := Nat.lt_of_lt_of_le (by first | assumption | (simp; done) | (simp; omega)) hb.size); (try have hz1 : w.heap.size + 1 < w'.heap.size := Nat.lt_of_lt_of_le (by first | assumption | (simp; done) | (simp; omega)) hb.size); (try have hz2 : w.heap.size + 1 + 1 < w'.heap.size := Nat.lt_of_lt_of_le (by first | assumption | (simp; done) | (simp; omega)) hb.size); have hz := hb.size; (try simp at hz)))
    exact bodyPost_ret (v := .agg #[.bool false, .int .i64 0]) (by simp [results, Tryd.results76, go_sem, *]) rfl ⟨rfl, (by repeat (first | exact Below.refl _ _ | assumption | refine Below.setCell ?_ (by first | (simp; done) | omega | (simp; omega) | (simp at *; omega)) _ | refine Below.alloc ?_ (by first | (simp; done) | omega | (simp; omega) | (simp at *; omega)) _ | refine Below.drew ?_ | (refine Below.trans ?_ (Below.mono (by assumption) (by first | (simp; done) | omega | (simp; omega) | (simp at *; omega)))) | (refine Below.trans ?_ (Below.mono (below_regrown _ _ _) (by first | (simp; done) | omega | (simp; omega) | (simp at *; omega))))))⟩
  · cases h2 : Fx.num ⟨b, n⟩
    · rw [Fx.div_no2 h2]
      go_enter Tryd.func76, Tryd.ntmps76
      go_wp2_with (go_at_call 84; go_must (refine (isNumber_any _ _ _).mono ?_; rintro e w' ⟨rfl, hb⟩; obtain ⟨hc, hf⟩ := bcell hb; (try have hz0 : w.heap.size < w'.heap.size := Nat.lt_of_lt_of_le (by first | assumption | (simp; done) | (simp; omega)) hb.size); (try have hz1 : w.heap.size + 1 < w'.heap.size := Nat.lt_of_lt_of_le (by first | assumption | (simp; done) | (simp; omega)) hb.size); (try have hz2 : w.heap.size + 1 + 1 < w'.heap.size := Nat.lt_of_lt_of_le (by first | assumption | (simp; done) | (simp; omega)) hb.size); have hz := hb.size; (try simp at hz)))
      exact bodyPost_ret (v := .agg #[.bool false, .int .i64 0]) (by simp [results, Tryd.results76, go_sem, *]) rfl ⟨rfl, (by repeat (first | exact Below.refl _ _ | assumption | refine Below.setCell ?_ (by first | (simp; done) | omega | (simp; omega) | (simp at *; omega)) _ | refine Below.alloc ?_ (by first | (simp; done) | omega | (simp; omega) | (simp at *; omega)) _ | refine Below.drew ?_ | (refine Below.trans ?_ (Below.mono (by assumption) (by first | (simp; done) | omega | (simp; omega) | (simp at *; omega)))) | (refine Below.trans ?_ (Below.mono (below_regrown _ _ _) (by first | (simp; done) | omega | (simp; omega) | (simp at *; omega))))))⟩
    · rw [Fx.div_yes h h2]
      obtain ⟨rfl, m1, m2⟩ := Fx.num_iff.1 h
      obtain ⟨rfl, n1, n2⟩ := Fx.num_iff.1 h2
      have HM : Hid (∀ W, Calls Tryd.prog 86 #[.int .i64 m, .int .i64 1000000, .int .i64 n] W fun e w' => e = .returned (.tuple #[.int .i64 (Fx.mdn m 1000000 n), .bool (Fx.mdok m 1000000 n)]) ∧ Below W.heap.size W w') :=
        Lib.hid fun W => mulDiv_val m 1000000 n (by omega) (by omega) (by omega) (by omega) (by omega) (by omega) W
      cases ho : Fx.mdok m 1000000 n
      · rw [Fx.mdv_no ho]
        go_enter Tryd.func76, Tryd.ntmps76
        go_wp2_with first | (go_at_call 84; go_must (refine (isNumber_any _ _ _).mono ?_; rintro e w' ⟨rfl, hb⟩; obtain ⟨hc, hf⟩ := bcell hb; (try have hz0 : w.heap.size < w'.heap.size := Nat.lt_of_lt_of_le (by first | assumption | (simp; done) | (simp; omega)) hb.size); (try have hz1 : w.heap.size + 1 < w'.heap.size := Nat.lt_of_lt_of_le (by first | assumption | (simp; done) | (simp; omega)) hb.size); (try have hz2 : w.heap.size + 1 + 1 < w'.heap.size := Nat.lt_of_lt_of_le (by first | assumption | (simp; done) | (simp; omega)) hb.size); have hz := hb.size; (try simp at hz))) | (go_at_call 86; go_must (refine (HM.out _).mono ?_; rintro e w' ⟨rfl, hb⟩; obtain ⟨hc, hf⟩ := bcell hb; (try have hz0 : w.heap.size < w'.heap.size := Nat.lt_of_lt_of_le (by first | assumption | (simp; done) | (simp; omega)) hb.size); (try have hz1 : w.heap.size + 1 < w'.heap.size := Nat.lt_of_lt_of_le (by first | assumption | (simp; done) | (simp; omega)) hb.size); (try have hz2 : w.heap.size + 1 + 1 < w'.heap.size := Nat.lt_of_lt_of_le (by first | assumption | (simp; done) | (simp; omega)) hb.size); have hz := hb.size; (try simp at hz))) | (go_at_call 85; go_must (refine (ofQuotient_no _ _).mono ?_; rintro e w' ⟨rfl, hb⟩; obtain ⟨hc, hf⟩ := bcell hb; (try have hz0 : w.heap.size < w'.heap.size := Nat.lt_of_lt_of_le (by first | assumption | (simp; done) | (simp; omega)) hb.size); (try have hz1 : w.heap.size + 1 < w'.heap.size := Nat.lt_of_lt_of_le (by first | assumption | (simp; done) | (simp; omega)) hb.size); (try have hz2 : w.heap.size + 1 + 1 < w'.heap.size := Nat.lt_of_lt_of_le (by first | assumption | (simp; done) | (simp; omega)) hb.size); have hz := hb.size; (try simp at hz)))
        exact bodyPost_ret (v := .agg #[.bool false, .int .i64 0]) (by simp [results, Tryd.results76, go_sem, *]) rfl ⟨rfl, (by repeat (first | exact Below.refl _ _ | assumption | refine Below.setCell ?_ (by first | (simp; done) | omega | (simp; omega) | (simp at *; omega)) _ | refine Below.alloc ?_ (by first | (simp; done) | omega | (simp; omega) | (simp at *; omega)) _ | refine Below.drew ?_ | (refine Below.trans ?_ (Below.mono (by assumption) (by first | (simp; done) | omega | (simp; omega) | (simp at *; omega)))) | (refine Below.trans ?_ (Below.mono (below_regrown _ _ _) (by first | (simp; done) | omega | (simp; omega) | (simp at *; omega))))))⟩
      · rw [Fx.mdv_yes ho]
        go_enter Tryd.func76, Tryd.ntmps76
        go_wp2_with first | (go_at_call 84; go_must (refine (isNumber_any _ _ _).mono ?_; rintro e w' ⟨rfl, hb⟩; obtain ⟨hc, hf⟩ := bcell hb; (try have hz0 : w.heap.size < w'.heap.size := Nat.lt_of_lt_of_le (by first | assumption | (simp; done) | (simp; omega)) hb.size); (try have hz1 : w.heap.size + 1 < w'.heap.size := Nat.lt_of_lt_of_le (by first | assumption | (simp; done) | (simp; omega)) hb.size); (try have hz2 : w.heap.size + 1 + 1 < w'.heap.size := Nat.lt_of_lt_of_le (by first | assumption | (simp; done) | (simp; omega)) hb.size); have hz := hb.size; (try simp at hz))) | (go_at_call 86; go_must (refine (HM.out _).mono ?_; rintro e w' ⟨rfl, hb⟩; obtain ⟨hc, hf⟩ := bcell hb; (try have hz0 : w.heap.size < w'.heap.size := Nat.lt_of_lt_of_le (by first | assumption | (simp; done) | (simp; omega)) hb.size); (try have hz1 : w.heap.size + 1 < w'.heap.size := Nat.lt_of_lt_of_le (by first | assumption | (simp; done) | (simp; omega)) hb.size); (try have hz2 : w.heap.size + 1 + 1 < w'.heap.size := Nat.lt_of_lt_of_le (by first | assumption | (simp; done) | (simp; omega)) hb.size); have hz := hb.size; (try simp at hz))) | (go_at_call 85; go_must (refine (ofQuotient_yes _ _).mono ?_; rintro e w' ⟨rfl, hb⟩; obtain ⟨hc, hf⟩ := bcell hb; (try have hz0 : w.heap.size < w'.heap.size := Nat.lt_of_lt_of_le (by first | assumption | (simp; done) | (simp; omega)) hb.size); (try have hz1 : w.heap.size + 1 < w'.heap.size := Nat.lt_of_lt_of_le (by first | assumption | (simp; done) | (simp; omega)) hb.size); (try have hz2 : w.heap.size + 1 + 1 < w'.heap.size := Nat.lt_of_lt_of_le (by first | assumption | (simp; done) | (simp; omega)) hb.size); have hz := hb.size; (try simp at hz)))
        exact bodyPost_ret (v := (.agg #[.bool (Fx.of (Fx.mdn m 1000000 n)).ok, .int .i64 (Fx.of (Fx.mdn m 1000000 n)).n])) (by simp [results, Tryd.results76, go_sem, *]) rfl ⟨rfl, (by repeat (first | exact Below.refl _ _ | assumption | refine Below.setCell ?_ (by first | (simp; done) | omega | (simp; omega) | (simp at *; omega)) _ | refine Below.alloc ?_ (by first | (simp; done) | omega | (simp; omega) | (simp at *; omega)) _ | refine Below.drew ?_ | (refine Below.trans ?_ (Below.mono (by assumption) (by first | (simp; done) | omega | (simp; omega) | (simp at *; omega)))) | (refine Below.trans ?_ (Below.mono (below_regrown _ _ _) (by first | (simp; done) | omega | (simp; omega) | (simp at *; omega))))))⟩

end Go.Proofs.YtbakngbmfgnmcaaDoor

namespace Go.Proofs.YtbakngbmfgnmcaaDoor
open Go.RowKit Go.Sort
open Fx (Vl)
open Me

theorem vl_eta (v : Vl) : v = ⟨v.ok, v.n⟩ := rfl

set_option maxHeartbeats 2000000 in
theorem together_some (kind : Int) (l : List Vl) (h0 : 0 < l.length) (hl : l.length ≤ 1000000) (b off cap : Nat) (w : World) (hv : Vals w b off l) :
    Calls Tryd.prog 71 #[.int .i64 kind, .slice (some ⟨b, off, none⟩) l.length cap] w fun e w' => e = .returned (.agg #[.bool (Ag.tg kind l).ok, .int .i64 (Ag.tg kind l).n]) ∧ Below w.heap.size w w' := by
  have HA : Hid (∀ W, Below w.heap.size w W → Calls Tryd.prog 77 #[.slice (some ⟨b, off, none⟩) l.length cap] W fun e w' => e = .returned (.agg #[.bool (sum l).ok, .int .i64 (sum l).n]) ∧ Below W.heap.size W w') := Lib.hid fun W hb => add_some l (by omega) b off cap W (hv.below hb)
  have hne : ¬ ((l.length : Int) = 0) := by omega
  by_cases h1 : kind = 1
  · subst h1
    have HI : Hid (∀ W, Calls Tryd.prog 78 #[.int .i64 (l.length : Int)] W fun e w' => e = .returned (.agg #[.bool (Fx.of ((l.length : Int) * 1000000)).ok, .int .i64 (Fx.of ((l.length : Int) * 1000000)).n]) ∧ Below W.heap.size W w') := Lib.hid fun W => int_any _ W
    have HD : Hid (∀ s d W, Calls Tryd.prog 76 #[(.agg #[.bool s.ok, .int .i64 s.n]), (.agg #[.bool d.ok, .int .i64 d.n])] W fun e w' => e = .returned (.agg #[.bool (Fx.div s d).ok, .int .i64 (Fx.div s d).n]) ∧ Below W.heap.size W w') := Lib.hid fun s d W => div_any s.ok s.n d.ok d.n W
    replace HD := Lib.hid (HD.out (sum l) (Fx.of ((l.length : Int) * 1000000)))
    rw [Ag.tg_1 h0]
    generalize Fx.div (sum l) (Fx.of ((l.length : Int) * 1000000)) = q at *
    generalize Fx.of ((l.length : Int) * 1000000) = d at *
    generalize sum l = s at *
    obtain ⟨qo, qn⟩ := q
    obtain ⟨do_, dn⟩ := d
    obtain ⟨so, sn⟩ := s
    go_enter Tryd.func71, Tryd.ntmps71
    go_wp2_with first | (go_at_call 77; (((with_reducible refine (HA.out _ ((Below.refl _ _).alloc (Nat.le_refl _) _)).mono ?_)); rintro e w1 ⟨rfl, hb1⟩; obtain ⟨hc1, hf1⟩ := bcell hb1; (try have hq1w : w.heap.size < w1.heap.size := Nat.lt_of_lt_of_le (by first | assumption | (simp; done) | (simp; omega)) hb1.size); have hs1 := hb1.size; (try simp at hs1))) | (go_at_call 78; (((with_reducible refine (HI.out _).mono ?_)); rintro e w2 ⟨rfl, hb2⟩; obtain ⟨hc2, hf2⟩ := bcell hb2; (try have hq2w : w.heap.size < w2.heap.size := Nat.lt_of_lt_of_le (by first | assumption | (simp; done) | (simp; omega)) hb2.size); (try have hq2w1 : w1.heap.size < w2.heap.size := Nat.lt_of_lt_of_le (by first | assumption | (simp; done) | (simp; omega)) hb2.size); have hs2 := hb2.size; (try simp at hs2))) | (go_at_call 76; (((with_reducible refine (HD.out _).mono ?_)); rintro e w3 ⟨rfl, hb3⟩; obtain ⟨hc3, hf3⟩ := bcell hb3; (try have hq3w : w.heap.size < w3.heap.size := Nat.lt_of_lt_of_le (by first | assumption | (simp; done) | (simp; omega)) hb3.size); (try have hq3w2 : w2.heap.size < w3.heap.size := Nat.lt_of_lt_of_le (by first | assumption | (simp; done) | (simp; omega)) hb3.size); have hs3 := hb3.size; (try simp at hs3)))
    exact bodyPost_ret (v := .agg #[.bool qo, .int .i64 qn]) (by simp [results, Tryd.results71, go_sem, *]) rfl ⟨rfl, (by repeat (first | exact Below.refl _ _ | assumption | refine Below.setCell ?_ (by first | (simp; done) | omega | (simp; omega) | (simp at *; omega)) _ | refine Below.alloc ?_ (by first | (simp; done) | omega | (simp; omega) | (simp at *; omega)) _ | refine Below.drew ?_ | (refine Below.trans ?_ (Below.mono (by assumption) (by first | (simp; done) | omega | (simp; omega) | (simp at *; omega)))) | (refine Below.trans ?_ (Below.mono (below_regrown _ _ _) (by first | (simp; done) | omega | (simp; omega) | (simp at *; omega))))))⟩
  by_cases h2 : kind = 2
  · subst h2
    rw [Ag.tg_2 h0]
    generalize sum l = s at *
    obtain ⟨so, sn⟩ := s
    go_enter Tryd.func71, Tryd.ntmps71
    go_wp2_with (go_at_call 77; (((with_reducible refine (HA.out _ ((Below.refl _ _).alloc (Nat.le_refl _) _)).mono ?_)); rintro e w1 ⟨rfl, hb1⟩; obtain ⟨hc1, hf1⟩ := bcell hb1; (try have hq1w : w.heap.size < w1.heap.size := Nat.lt_of_lt_of_le (by first | assumption | (simp; done) | (simp; omega)) hb1.size); have hs1 := hb1.size; (try simp at hs1)))
    exact bodyPost_ret (v := .agg #[.bool so, .int .i64 sn]) (by simp [results, Tryd.results71, go_sem, *]) rfl ⟨rfl, (by repeat (first | exact Below.refl _ _ | assumption | refine Below.setCell ?_ (by first | (simp; done) | omega | (simp; omega) | (simp at *; omega)) _ | refine Below.alloc ?_ (by first | (simp; done) | omega | (simp; omega) | (simp at *; omega)) _ | refine Below.drew ?_ | (refine Below.trans ?_ (Below.mono (by assumption) (by first | (simp; done) | omega | (simp; omega) | (simp at *; omega)))) | (refine Below.trans ?_ (Below.mono (below_regrown _ _ _) (by first | (simp; done) | omega | (simp; omega) | (simp at *; omega))))))⟩
  clear HA
  by_cases h3 : kind = 3
  · subst h3
    rw [Ag.tg_3 h0]
    have x0 := hv.ok (l.length - 1) (by omega)
    have x1 := hv.n (l.length - 1) (by omega)
    have hbr := hv.lt
    generalize l[l.length - 1]'(by omega) = e at *
    obtain ⟨eo, en⟩ := e
    clear hv
    generalize l.length = n at *
    obtain ⟨m, rfl⟩ : ∃ m, n = m + 1 := ⟨n - 1, by omega⟩
    simp only [Nat.add_sub_cancel] at x0 x1
    go_enter Tryd.func71, Tryd.ntmps71
    go_wp2_with fail
    exact bodyPost_ret (v := .agg #[.bool eo, .int .i64 en]) (by simp [results, Tryd.results71, go_sem, *]) rfl ⟨rfl, (by repeat (first | exact Below.refl _ _ | assumption | refine Below.setCell ?_ (by first | (simp; done) | omega | (simp; omega) | (simp at *; omega)) _ | refine Below.alloc ?_ (by first | (simp; done) | omega | (simp; omega) | (simp at *; omega)) _ | refine Below.drew ?_ | (refine Below.trans ?_ (Below.mono (by assumption) (by first | (simp; done) | omega | (simp; omega) | (simp at *; omega)))) | (refine Below.trans ?_ (Below.mono (below_regrown _ _ _) (by first | (simp; done) | omega | (simp; omega) | (simp at *; omega))))))⟩
  by_cases h4 : kind = 4
  · subst h4
    have HM : Hid (∀ W, Below w.heap.size w W → Calls Tryd.prog 79 #[.slice (some ⟨b, off, none⟩) l.length cap, .func (.func 80) #[] #[]] W fun e w' => e = .returned (.agg #[.bool (Ag.mx l).ok, .int .i64 (Ag.mx l).n]) ∧ Below W.heap.size W w') := Lib.hid fun W hb => maxFunc_some l h0 (by omega) b off cap W (hv.below hb)
    rw [Ag.tg_4 h0]
    generalize Ag.mx l = s at *
    obtain ⟨so, sn⟩ := s
    go_enter Tryd.func71, Tryd.ntmps71
    go_wp2_with (go_at_call 79; (((with_reducible refine (HM.out _ ((Below.refl _ _).alloc (Nat.le_refl _) _)).mono ?_)); rintro e w1 ⟨rfl, hb1⟩; obtain ⟨hc1, hf1⟩ := bcell hb1; (try have hq1w : w.heap.size < w1.heap.size := Nat.lt_of_lt_of_le (by first | assumption | (simp; done) | (simp; omega)) hb1.size); have hs1 := hb1.size; (try simp at hs1)))
    exact bodyPost_ret (v := .agg #[.bool so, .int .i64 sn]) (by simp [results, Tryd.results71, go_sem, *]) rfl ⟨rfl, (by repeat (first | exact Below.refl _ _ | assumption | refine Below.setCell ?_ (by first | (simp; done) | omega | (simp; omega) | (simp at *; omega)) _ | refine Below.alloc ?_ (by first | (simp; done) | omega | (simp; omega) | (simp at *; omega)) _ | refine Below.drew ?_ | (refine Below.trans ?_ (Below.mono (by assumption) (by first | (simp; done) | omega | (simp; omega) | (simp at *; omega)))) | (refine Below.trans ?_ (Below.mono (below_regrown _ _ _) (by first | (simp; done) | omega | (simp; omega) | (simp at *; omega))))))⟩
  by_cases h5 : kind = 5
  · subst h5
    have HM : Hid (∀ W, Below w.heap.size w W → Calls Tryd.prog 81 #[.slice (some ⟨b, off, none⟩) l.length cap, .func (.func 80) #[] #[]] W fun e w' => e = .returned (.agg #[.bool (Ag.mn l).ok, .int .i64 (Ag.mn l).n]) ∧ Below W.heap.size W w') := Lib.hid fun W hb => minFunc_some l h0 (by omega) b off cap W (hv.below hb)
    rw [Ag.tg_5 h0]
    generalize Ag.mn l = s at *
    obtain ⟨so, sn⟩ := s
    go_enter Tryd.func71, Tryd.ntmps71
    go_wp2_with (go_at_call 81; (((with_reducible refine (HM.out _ ((Below.refl _ _).alloc (Nat.le_refl _) _)).mono ?_)); rintro e w1 ⟨rfl, hb1⟩; obtain ⟨hc1, hf1⟩ := bcell hb1; (try have hq1w : w.heap.size < w1.heap.size := Nat.lt_of_lt_of_le (by first | assumption | (simp; done) | (simp; omega)) hb1.size); have hs1 := hb1.size; (try simp at hs1)))
    exact bodyPost_ret (v := .agg #[.bool so, .int .i64 sn]) (by simp [results, Tryd.results71, go_sem, *]) rfl ⟨rfl, (by repeat (first | exact Below.refl _ _ | assumption | refine Below.setCell ?_ (by first | (simp; done) | omega | (simp; omega) | (simp at *; omega)) _ | refine Below.alloc ?_ (by first | (simp; done) | omega | (simp; omega) | (simp at *; omega)) _ | refine Below.drew ?_ | (refine Below.trans ?_ (Below.mono (by assumption) (by first | (simp; done) | omega | (simp; omega) | (simp at *; omega)))) | (refine Below.trans ?_ (Below.mono (below_regrown _ _ _) (by first | (simp; done) | omega | (simp; omega) | (simp at *; omega))))))⟩
  rw [Ag.tg_no h1 h2 h3 h4 h5]
  clear hv
  go_enter Tryd.func71, Tryd.ntmps71
  go_wp2_with fail
  exact bodyPost_ret (v := .agg #[.bool false, .int .i64 0]) (by simp [results, Tryd.results71, go_sem, *]) rfl ⟨rfl, (by repeat (first | exact Below.refl _ _ | assumption | refine Below.setCell ?_ (by first | (simp; done) | omega | (simp; omega) | (simp at *; omega)) _ | refine Below.alloc ?_ (by first | (simp; done) | omega | (simp; omega) | (simp at *; omega)) _ | refine Below.drew ?_ | (refine Below.trans ?_ (Below.mono (by assumption) (by first | (simp; done) | omega | (simp; omega) | (simp at *; omega)))) | (refine Below.trans ?_ (Below.mono (below_regrown _ _ _) (by first | (simp; done) | omega | (simp; omega) | (simp at *; omega))))))⟩

set_option maxHeartbeats 1000000 in
theorem together_zero (kind : Int) (x : Option Addr) (cap : Nat) (w : World) :
    Calls Tryd.prog 71 #[.int .i64 kind, .slice x 0 cap] w fun e w' => e = .returned (.agg #[.bool (Ag.tg kind []).ok, .int .i64 (Ag.tg kind []).n]) ∧ Below w.heap.size w w' := by
  rw [Ag.tg_nil]
  go_enter Tryd.func71, Tryd.ntmps71
  go_wp2_with fail
  exact bodyPost_ret (v := .agg #[.bool false, .int .i64 0]) (by simp [results, Tryd.results71, go_sem, *]) rfl ⟨rfl, (by repeat (first | exact Below.refl _ _ | assumption | refine Below.setCell ?_ (by first | (simp; done) | omega | (simp; omega) | (simp at *; omega)) _ | refine Below.alloc ?_ (by first | (simp; done) | omega | (simp; omega) | (simp at *; omega)) _ | refine Below.drew ?_ | (refine Below.trans ?_ (Below.mono (by assumption) (by first | (simp; done) | omega | (simp; omega) | (simp at *; omega)))) | (refine Below.trans ?_ (Below.mono (below_regrown _ _ _) (by first | (simp; done) | omega | (simp; omega) | (simp at *; omega))))))⟩
theorem together_v (kind : Int) (l : List Vl) (hl : l.length ≤ 1000000) (v : Value) (w : World) (hv : Sl w v l) :
    Calls Tryd.prog 71 #[.int .i64 kind, v] w fun e w' => e = .returned (.agg #[.bool (Ag.tg kind l).ok, .int .i64 (Ag.tg kind l).n]) ∧ Below w.heap.size w w' := by
  rcases hv with ⟨rfl, x, cap, rfl⟩ | ⟨h0, b, off, cap, rfl, hv⟩
  · exact together_zero kind x cap w
  · exact together_some kind l h0 hl b off cap w hv

set_option maxHeartbeats 1000000 in
theorem put_v (kind xff : Int) (l : List Vl) (hl : l.length ≤ 1000000) (v : Value) (w : World) (hv : Sl w v l) :
    Calls Tryd.prog 57 #[.int .i64 kind, .int .i64 xff, v] w fun e w' => e = .returned (.agg #[.bool (Ag.put kind xff l).ok, .int .i64 (Ag.put kind xff l).n]) ∧ Below w.heap.size w w' := by
  have HK : Hid (∀ W, Below w.heap.size w W → Calls Tryd.prog 69 #[v] W (Knew W (Ag.kn l))) := Lib.hid fun W hb => known_v l hl v W (hv.below hb)
  have hkl : (Ag.kn l).length ≤ 1000000 := Nat.le_trans (Ag.kn_len l) hl
  have HT : Hid (∀ u W, Sl W u (Ag.kn l) → Calls Tryd.prog 71 #[.int .i64 kind, u] W fun e w' => e = .returned (.agg #[.bool (Ag.tg kind (Ag.kn l)).ok, .int .i64 (Ag.tg kind (Ag.kn l)).n]) ∧ Below W.heap.size W w') := Lib.hid fun u W h => together_v kind _ hkl u W h
  have HE : Hid (∀ W, Calls Tryd.prog 70 #[.int .i64 xff, .int .i64 ((Ag.kn l).length : Int), .int .i64 (l.length : Int)] W fun e w' => e = .returned (.bool (Ag.en xff ((Ag.kn l).length : Int) (l.length : Int))) ∧ W = w') := Lib.hid fun W => enough_any _ _ _ W
  have HQ : Hid (Ag.put kind xff l = if Ag.en xff ((Ag.kn l).length : Int) (l.length : Int) = true then Ag.tg kind (Ag.kn l) else Fx.none) := Lib.hid rfl
  obtain ⟨A, c, rfl⟩ := hv.form
  clear hv
  generalize Ag.en xff ((Ag.kn l).length : Int) (l.length : Int) = en at *
  generalize Ag.put kind xff l = p at *
  generalize Ag.tg kind (Ag.kn l) = q at *
  generalize Ag.kn l = m at *
  obtain ⟨qo, qn⟩ := q
  cases en
  · obtain rfl : p = Fx.none := HQ.out
    go_enter Tryd.func57, Tryd.ntmps57
    go_wp2_with first
      | (go_at_call 69; go_must (refine (HK.out _ (by repeat (first | exact Below.refl _ _ | assumption | refine Below.setCell ?_ (by first | (simp; done) | omega | (simp; omega) | (simp at *; omega)) _ | refine Below.alloc ?_ (by first | (simp; done) | omega | (simp; omega) | (simp at *; omega)) _ | refine Below.drew ?_ | (refine Below.trans ?_ (Below.mono (by assumption) (by first | (simp; done) | omega | (simp; omega) | (simp at *; omega)))) | (refine Below.trans ?_ (Below.mono (below_regrown _ _ _) (by first | (simp; done) | omega | (simp; omega) | (simp at *; omega))))))).mono ?_; rintro e w1 ⟨v1, rfl, ho1, hb1⟩; obtain ⟨hc1, hf1⟩ := bcell hb1; have hq1w : w.heap.size < w1.heap.size := Nat.lt_of_lt_of_le (by simp) hb1.size; obtain ⟨A1, c1, rfl⟩ := ho1.slice; have HS1 := Lib.hid ho1.sl; clear ho1))
      | (go_at_call 70; go_must (refine (HE.out _).mono ?_; rintro e w' ⟨rfl, rfl⟩))
    exact bodyPost_ret (v := .agg #[.bool false, .int .i64 0]) (by simp [results, Tryd.results57, go_sem, *]) rfl ⟨rfl, (by repeat (first | exact Below.refl _ _ | assumption | refine Below.setCell ?_ (by first | (simp; done) | omega | (simp; omega) | (simp at *; omega)) _ | refine Below.alloc ?_ (by first | (simp; done) | omega | (simp; omega) | (simp at *; omega)) _ | refine Below.drew ?_ | (refine Below.trans ?_ (Below.mono (by assumption) (by first | (simp; done) | omega | (simp; omega) | (simp at *; omega)))) | (refine Below.trans ?_ (Below.mono (below_regrown _ _ _) (by first | (simp; done) | omega | (simp; omega) | (simp at *; omega))))))⟩
  · obtain rfl : p = ⟨qo, qn⟩ := HQ.out
    go_enter Tryd.func57, Tryd.ntmps57
    go_wp2_with first
      | (go_at_call 69; go_must (refine (HK.out _ (by repeat (first | exact Below.refl _ _ | assumption | refine Below.setCell ?_ (by first | (simp; done) | omega | (simp; omega) | (simp at *; omega)) _ | refine Below.alloc ?_ (by first | (simp; done) | omega | (simp; omega) | (simp at *; omega)) _ | refine Below.drew ?_ | (refine Below.trans ?_ (Below.mono (by assumption) (by first | (simp; done) | omega | (simp; omega) | (simp at *; omega)))) | (refine Below.trans ?_ (Below.mono (below_regrown _ _ _) (by first | (simp; done) | omega | (simp; omega) | (simp at *; omega))))))).mono ?_; rintro e w1 ⟨v1, rfl, ho1, hb1⟩; obtain ⟨hc1, hf1⟩ := bcell hb1; have hq1w : w.heap.size < w1.heap.size := Nat.lt_of_lt_of_le (by simp) hb1.size; obtain ⟨A1, c1, rfl⟩ := ho1.slice; have HS1 := Lib.hid ho1.sl; clear ho1))
      | (go_at_call 70; go_must (refine (HE.out _).mono ?_; rintro e w' ⟨rfl, rfl⟩))
      | (go_at_call 71; (((with_reducible refine (HT.out _ _ HS1.out).mono ?_)); rintro e w2 ⟨rfl, hb2⟩; obtain ⟨hc2, hf2⟩ := bcell hb2; (try have hq2w : w.heap.size < w2.heap.size := Nat.lt_of_lt_of_le (by first | assumption | (simp; done) | (simp; omega)) hb2.size); (try have hq2w1 : w1.heap.size < w2.heap.size := Nat.lt_of_lt_of_le (by first | assumption | (simp; done) | (simp; omega)) hb2.size); have hs2 := hb2.size; (try simp at hs2)))
    exact bodyPost_ret (v := .agg #[.bool qo, .int .i64 qn]) (by simp [results, Tryd.results57, go_sem, *]) rfl ⟨rfl, (by repeat (first | exact Below.refl _ _ | assumption | refine Below.setCell ?_ (by first | (simp; done) | omega | (simp; omega) | (simp at *; omega)) _ | refine Below.alloc ?_ (by first | (simp; done) | omega | (simp; omega) | (simp at *; omega)) _ | refine Below.drew ?_ | (refine Below.trans ?_ (Below.mono (by assumption) (by first | (simp; done) | omega | (simp; omega) | (simp at *; omega)))) | (refine Below.trans ?_ (Below.mono (below_regrown _ _ _) (by first | (simp; done) | omega | (simp; omega) | (simp at *; omega))))))⟩
end Go.Proofs.YtbakngbmfgnmcaaDoor

namespace Go.Proofs.YtbakngbmfgnmcaaDoor
open Go.RowKit

theorem and1 (x : Nat) (hx : x < 18446744073709551616) : bits .and .u64 (x : Int) 1 = ((x % 2 : Nat) : Int) := by
  have h := bits_and_u64_nat x 1 hx (by omega)
  rw [Nat.and_one_is_mod] at h
  exact h
theorem or1 (x β : Nat) (hx : x * 2 + β < 18446744073709551616) (hβ : β < 2) : bits .or .u64 ((x : Int) * 2) (β : Int) = ((x * 2 + β : Nat) : Int) := by
  have h := bits_or_u64_nat (x * 2) β (by omega) (by omega)
  have h2 := Nat.two_pow_add_eq_or_of_lt (i := 1) (b := β) (by omega) x
  rw [Nat.pow_one, Nat.mul_comm 2 x] at h2
  rw [← h2] at h
  rw [← h, Int.natCast_mul]; rfl
theorem or1' (x : Nat) (hx : x * 2 + 1 < 18446744073709551616) : bits .or .u64 ((x * 2 : Nat) : Int) 1 = ((x * 2 + 1 : Nat) : Int) := by
  have h := or1 x 1 hx (by omega)
  rw [Int.natCast_mul]; exact h
theorem and63 (i : Nat) (hi : i < 9223372036854775808) : bits .and .i64 (i : Int) 63 = ((i % 64 : Nat) : Int) := by
  have h1 : (BitVec.ofInt 64 (i : Int)).toNat = i := by
    rw [BitVec.ofInt_natCast, BitVec.toNat_ofNat]; exact Nat.mod_eq_of_lt (by omega)
  have e : i &&& 63 = i % 64 := Nat.and_two_pow_sub_one_eq_mod i 6
  show IntKind.i64.wrap ((BitVec.ofInt 64 (i : Int) &&& BitVec.ofInt 64 63).toNat : Int) = _
  rw [BitVec.toNat_and, h1, show (BitVec.ofInt 64 63).toNat = 63 by decide, e, IntKind.wrap_i64]
  omega

end Go.Proofs.YtbakngbmfgnmcaaDoor

namespace Go.Proofs.YtbakngbmfgnmcaaDoor
open Go.RowKit

end Go.Proofs.YtbakngbmfgnmcaaDoor

namespace Go.Proofs.YtbakngbmfgnmcaaDoor
open Go.RowKit Go.Sort
open Fx (Vl)
open Me

/-- What the document keeps on its way: for kind 4 the greatest so far, for kind 5 the least, else the first. -/
def Ag.run (kind : Int) (m : List Vl) (k : Nat) : Vl := if kind = 4 then Ag.mx (m.take k) else if kind = 5 then Ag.mn (m.take k) else m.getD 0 Fx.none
theorem Ag.run_one (kind : Int) (m : List Vl) (h : 0 < m.length) : Ag.run kind m 1 = m[0] := by
  unfold Ag.run
  split
  · exact Ag.mx_one m h
  · split
    · exact Ag.mn_one m h
    · rw [List.getD_eq_getElem?_getD, List.getElem?_eq_getElem h]; rfl
def Ag.best (kind : Int) (a b : Vl) : Vl := if kind = 4 then Ag.mx1 a b else if kind = 5 then Ag.mn1 a b else a
theorem Ag.run_step (kind : Int) (m : List Vl) (k : Nat) (h1 : 1 ≤ k) (h : k < m.length) : Ag.run kind m (k + 1) = Ag.best kind (Ag.run kind m k) m[k] := by
  unfold Ag.run Ag.best
  split
  · exact Ag.mx_take m k h1 h
  · split
    · exact Ag.mn_take m k h1 h
    · rfl
theorem Ag.best_4 {a b : Vl} (h : a.n < b.n) : Ag.best 4 a b = b := Ag.mx1_yes h
theorem Ag.best_4n {a b : Vl} (h : ¬ a.n < b.n) : Ag.best 4 a b = a := Ag.mx1_no h
theorem Ag.best_5 {a b : Vl} (h : b.n < a.n) : Ag.best 5 a b = b := Ag.mn1_yes h
theorem Ag.best_5n {a b : Vl} (h : ¬ b.n < a.n) : Ag.best 5 a b = a := Ag.mn1_no h
theorem Ag.best_no {kind : Int} {a b : Vl} (h4 : kind ≠ 4) (h5 : kind ≠ 5) : Ag.best kind a b = a := by unfold Ag.best; rw [if_neg h4, if_neg h5]
theorem Ag.run_4 (m : List Vl) : Ag.run 4 m m.length = Ag.mx m := by unfold Ag.run; rw [if_pos rfl, List.take_length]
theorem Ag.run_5 (m : List Vl) : Ag.run 5 m m.length = Ag.mn m := by unfold Ag.run; rw [if_neg (by decide), if_pos rfl, List.take_length]

theorem OwnV.vals {base : Nat} {w : World} {v : Value} {l : List Vl} (h : OwnV base w v l) (h0 : 0 < l.length) : ∃ b off cap, v = .slice (some ⟨b, off, none⟩) l.length cap ∧ Vals w b off l := by
  rcases h.sl with ⟨e, _⟩ | ⟨_, h⟩
  · rw [e] at h0; exact absurd h0 (Nat.lt_irrefl _)
  · exact h
theorem BestRel.start2 {w w' : World} {T : TypeId} (ok : Bool) (n : Int) (hb : Below (w.alloc (.cells #[.bool false, .int .i64 0] T)).heap.size (w.alloc (.cells #[.bool false, .int .i64 0] T)) w') :
    BestRel w (w'.alloc (.cells #[.bool ok, .int .i64 n] T)) w.heap.size w'.heap.size ⟨ok, n⟩ := by
  have hz := hb.size
  have hsz : (w.alloc (.cells #[.bool false, .int .i64 0] T)).heap.size = w.heap.size + 1 := by simp
  rw [hsz] at hz
  have hc : ∀ f, w'.cell? ⟨w.heap.size, f, none⟩ = (w.alloc (.cells #[.bool false, .int .i64 0] T)).cell? ⟨w.heap.size, f, none⟩ := fun f => hb.cell (p := ⟨w.heap.size, f, none⟩) (by rw [hsz]; show w.heap.size < _; omega)
  have hf : ∀ f, w'.frozen? ⟨w.heap.size, f, none⟩ = (w.alloc (.cells #[.bool false, .int .i64 0] T)).frozen? ⟨w.heap.size, f, none⟩ := fun f => hb.frozen (p := ⟨w.heap.size, f, none⟩) (by rw [hsz]; show w.heap.size < _; omega)
  have hlt : w.heap.size < w'.heap.size := by omega
  refine ⟨?_, Nat.le_refl _, by omega, by simp, ?_, ?_, ?_, ?_, ?_, ?_, ?_, ?_⟩
  · exact (((Below.refl w.heap.size w).alloc (Nat.le_refl _) _).trans (hb.mono (by omega))).alloc (by omega) _
  all_goals simp [go_sem, *]
theorem BestRel.drewN {w wr : World} {r s : Nat} {v : Vl} (h : BestRel w wr r s v) (n : Nat) : BestRel w (wr.drewN n) r s v := h.step (below_drewN _ _ _)

end Go.Proofs.YtbakngbmfgnmcaaDoor

namespace Go.Proofs.YtbakngbmfgnmcaaDoor
open Go.RowKit Go.Sort
open Fx (Vl)
open Me

/-- What every law asks at its end: true. -/
theorem put_known : Ag.put 1 500000 [⟨true, 1000000⟩, ⟨false, 0⟩, ⟨true, 3000000⟩] = ⟨true, 2000000⟩ := by rfl

end Go.Proofs.YtbakngbmfgnmcaaDoor

namespace Go.Proofs.YtbakngbmfgnmcaaDoor
open Go.RowKit Go.Sort
open Fx (Vl)
open Me
open Wp

namespace Wp
theorem sm_cnt {l : List (Int × Int)} {i : Nat} : ∀ k, (∀ j, j < k → 1 ≤ (Wh.At l j).2) → i < k → 12 * (Wh.At l i).2 ≤ Wh.sm l k
  | 0, _, h => by omega
  | k + 1, hc, h => by
    unfold Wh.sm
    have h0 : 0 ≤ Wh.sm l k := by
      clear h
      have : ∀ m, m ≤ k → 0 ≤ Wh.sm l m := fun m => by
        induction m with
        | zero => intro _; exact Int.le_refl _
        | succ m ih => intro hm; unfold Wh.sm; have := ih (by omega); have := hc m (by omega); omega
      exact this k (Nat.le_refl _)
    by_cases e : i = k
    · subst e; omega
    · have := sm_cnt (l := l) (i := i) k (fun j hj => hc j (by omega)) (by omega)
      have := hc k (by omega)
      omega
theorem cnt_bd {h : Hd} (hv : h.val = true) (i : Nat) (hi : i < h.l.length) : h.cnt i ≤ 87381 := by
  obtain ⟨_, _, _, ha⟩ := Wh.val_t hv
  obtain ⟨a1, a2, a3, a4, a5⟩ := Wh.av_t ha
  have h1 := sm_cnt (l := h.l) (i := i) h.l.length (fun j hj => ((Wh.alls_num hj a3).2).1) hi
  have h2 : Wh.ends h.l h.l.length = 16 + 12 * (h.l.length : Int) + Wh.sm h.l h.l.length := rfl
  show (Wh.At h.l i).2 ≤ 87381
  omega
theorem many_bd {h : Hd} (hv : h.val = true) (i : Nat) (hi : i + 1 < h.l.length) : h.step (i + 1) / h.step i = (many h i : Int) ∧ many h i ≤ 87381 := by
  obtain ⟨_, _, _, ha⟩ := Wh.val_t hv
  obtain ⟨a1, a2, a3, a4, a5⟩ := Wh.av_t ha
  have hs := Wh.alls_stp hi a3
  have h0 : 0 ≤ h.step (i + 1) / h.step i := Int.ediv_nonneg (by have := (Hd.nums hv (i + 1) hi).1; omega) (by have := (Hd.nums hv i (by omega)).1; omega)
  have h1 : h.step (i + 1) / h.step i ≤ h.cnt i := by
    unfold Wh.stp Wh.fol at hs
    simp only [Bool.and_eq_true, Bool.or_eq_true, decide_eq_true_eq, Nat.add_sub_cancel] at hs
    rcases hs.2 with e | e
    · omega
    · exact e.2
  have h2 := cnt_bd hv i (by omega)
  unfold many
  omega
theorem vals_succ (fs : List Vf.Fl) (n : List UInt8) (h : Hd) (i : Nat) (t : Int) (k : Nat) : vals fs n h i t (k + 1) = vals fs n h i t k ++ [value fs n h i (Sl.al t (h.step (i + 1)) + (k : Int) * h.step i)] := by
  unfold vals; rw [List.range_succ, List.map_append]; rfl
theorem vals_len (fs : List Vf.Fl) (n : List UInt8) (h : Hd) (i : Nat) (t : Int) (k : Nat) : (vals fs n h i t k).length = k := by unfold vals; simp
theorem al_bd {t s : Int} (h0 : 0 ≤ t) (hs : 1 ≤ s) : 0 ≤ Sl.al t s ∧ Sl.al t s ≤ t := by
  rw [Sl.al_eq hs h0]
  have h1 := Int.emod_nonneg t (by omega : s ≠ 0)
  have h2 := Int.emod_lt_of_pos t (by omega : 0 < s)
  have h3 := Int.mul_nonneg (by omega : 0 ≤ s) (Int.ediv_nonneg h0 (by omega : 0 ≤ s))
  have h4 := Int.emod_add_mul_ediv t s
  omega
end Wp

theorem below_via {a b c : World} (h : Below b.heap.size b c) (k : Below a.heap.size a b) : Below a.heap.size a c := k.trans (h.mono k.size)
theorem keep2 {w : World} {x g i : Nat} {u v : Value} (h : x ≠ g) : ((w.setCell ⟨g, 0, none⟩ u).setCell ⟨g, 1, none⟩ v).cell? ⟨x, i, none⟩ = w.cell? ⟨x, i, none⟩ :=
  World.cell?_of_block ((Below.heap_setCell _ _ _ _ h).trans (Below.heap_setCell _ _ _ _ h))

end Go.Proofs.YtbakngbmfgnmcaaDoor

namespace Go.Proofs.YtbakngbmfgnmcaaDoor
open Go.RowKit Go.Sort
open Fx (Vl)
open Me
open Wp

namespace Wp
theorem passes_no {S : Vf.Sv} {n : List UInt8} {h : Hd} {i : Nat} {t : Int} (e : (passes S n h i t).2 = false) : (passes S n h i t).1 = S := by
  unfold passes at e ⊢
  dsimp only at e ⊢
  split at e
  · rename_i hh; rw [if_pos hh]
  · cases e
theorem climb_no {n : List UInt8} {h : Hd} {t : Int} {m : Nat} {S : Vf.Sv} {k : Nat} (e : (passes S n h k t).2 = false) : climb n h t m S k = S := by
  cases m with
  | zero => rfl
  | succ m => unfold climb; rw [if_neg (by rw [e]; exact Bool.false_ne_true)]
theorem climb_yes {n : List UInt8} {h : Hd} {t : Int} {m : Nat} {S : Vf.Sv} {k : Nat} (e : (passes S n h k t).2 = true) : climb n h t (m + 1) S k = climb n h t m (passes S n h k t).1 (k + 1) := by
  conv => lhs; unfold climb
  rw [if_pos e]
theorem first_yes {h : Hd} {d : Int} {m i : Nat} (e : d < h.step i * h.cnt i) : first h d (m + 1) i = some i := by unfold first; rw [if_pos e]
theorem first_no {h : Hd} {d : Int} {m i : Nat} (e : ¬ d < h.step i * h.cnt i) : first h d (m + 1) i = first h d m (i + 1) := by
  conv => lhs; unfold first
  rw [if_neg e]
theorem first_zero {h : Hd} {d : Int} {i : Nat} : first h d 0 i = none := rfl
theorem lays_bad {S : Vf.Sv} {n : List UInt8} {h : Hd} {now : Int} {p : Int × Int} (e : p.1 < 1 ∨ now < p.1 ∨ Fx.inR p.2 = false) : lays S n h now p = (S, false) := by unfold lays; rw [if_pos e]
theorem lays_none {S : Vf.Sv} {n : List UInt8} {h : Hd} {now : Int} {p : Int × Int} (e : ¬ (p.1 < 1 ∨ now < p.1 ∨ Fx.inR p.2 = false)) (hf : first h (now - p.1) h.l.length 0 = none) : lays S n h now p = (S, false) := by unfold lays; rw [if_neg e, hf]
theorem lays_zero {S : Vf.Sv} {n : List UInt8} {h : Hd} {now : Int} {p : Int × Int} {i : Nat} (e : ¬ (p.1 < 1 ∨ now < p.1 ∨ Fx.inR p.2 = false)) (hf : first h (now - p.1) h.l.length 0 = some i) (hz : Sl.al p.1 (h.step i) = 0) : lays S n h now p = (S, false) := by
  unfold lays; rw [if_neg e, hf]
  dsimp only
  rw [if_pos hz]
theorem lays_yes {S : Vf.Sv} {n : List UInt8} {h : Hd} {now : Int} {p : Int × Int} {i : Nat} (e : ¬ (p.1 < 1 ∨ now < p.1 ∨ Fx.inR p.2 = false)) (hf : first h (now - p.1) h.l.length 0 = some i) (hz : ¬ Sl.al p.1 (h.step i) = 0) : lays S n h now p = (climb n h p.1 (h.l.length - 1 - i) (write S n h i p.1 p.2) i, true) := by
  unfold lays; rw [if_neg e, hf]
  dsimp only
  rw [if_neg hz]
end Wp

end Go.Proofs.YtbakngbmfgnmcaaDoor
