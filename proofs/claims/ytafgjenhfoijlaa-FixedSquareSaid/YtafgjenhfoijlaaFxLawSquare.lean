/-
  FixedSquare: for any number the law's call returns true and leaves its argument as it was. No condition.
-/
import Derived.Test.YtafgjenhfoijlaaFxSqrt
import Derived.ProofKit
import Derived.OpenShut
import Derived.ChangeOld
import Derived.Below
import Derived.Lib.SmallJoins
import Derived.ChangeArms
namespace Go.Proofs.Ytafgjenhfoijlaa
open Go.RowKit Go.Sort

theorem square_md (n : Int) (h1 : -1000000 ≤ n) (h2 : n ≤ 1000000) :
    Fx.mdok (n * 1000000) (n * 1000000) 1000000 = true ∧ Fx.mdn (n * 1000000) (n * 1000000) 1000000 = ((n.natAbs * n.natAbs * 1000000 : Nat) : Int) ∧ n.natAbs * n.natAbs * 1000000 ≤ 1000000000000000000 := by
  have hN : n.natAbs ≤ 1000000 := by omega
  have hm : Fx.mag (n * 1000000) = n.natAbs * 1000000 := by unfold Fx.mag; rw [Int.natAbs_mul]; rfl
  have hb := Nat.mul_le_mul hN hN
  have hq : Fx.mdq (n * 1000000) (n * 1000000) 1000000 = n.natAbs * n.natAbs * 1000000 := by
    unfold Fx.mdq
    rw [hm, show Fx.mag 1000000 = 1000000 from rfl]
    have e : n.natAbs * 1000000 * (n.natAbs * 1000000) = 1000000 * (n.natAbs * n.natAbs * 1000000) := by
      rw [Nat.mul_mul_mul_comm, Nat.mul_comm 1000000 (n.natAbs * n.natAbs * 1000000), Nat.mul_assoc (n.natAbs * n.natAbs)]
    rw [e, Fx.rnd_down (by rw [Nat.mul_mod_right]; decide), Nat.mul_div_cancel_left _ (by decide)]
  have ho := Fx.mdok_yes (a := n * 1000000) (b := n * 1000000) (c := 1000000) (by decide) (by rw [hq]; omega)
  refine ⟨ho, ?_, by omega⟩
  rw [Fx.mdn_pos ho (by unfold Fx.neg3; cases decide (n * 1000000 < 0) <;> rfl), hq]

theorem square_rt (N : Nat) (h : N ≤ 1000000) : N * 1000000 = Fx.rt (N * N * 1000000 * 1000000) := by
  have hb := Nat.mul_le_mul h h
  have e : N * 1000000 * (N * 1000000) = N * N * 1000000 * 1000000 := by rw [Nat.mul_mul_mul_comm, Nat.mul_assoc (N * N)]
  apply Fx.rt_eq (by omega)
  refine ⟨by rw [e]; exact Nat.le_refl _, ?_⟩
  rw [Nat.add_mul, Nat.mul_add, e]
  omega

set_option maxHeartbeats 1000000 in
theorem square_in (n x S A : Int) (h1 : -1000000 ≤ n) (h2 : n ≤ 1000000)
    (HI : Hid (∀ W, Calls Try.prog 14 #[.int .i64 n] W fun e w' => e = .returned (.agg #[.bool true, .int .i64 x]) ∧ Below W.heap.size W w'))
    (HM : Hid (∀ W, Calls Try.prog 29 #[.agg #[.bool true, .int .i64 x], .agg #[.bool true, .int .i64 x]] W fun e w' => e = .returned (.agg #[.bool true, .int .i64 S]) ∧ Below W.heap.size W w'))
    (HS : Hid (∀ W, Calls Try.prog 33 #[.agg #[.bool true, .int .i64 S]] W fun e w' => e = .returned (.agg #[.bool true, .int .i64 A]) ∧ Below W.heap.size W w'))
    (HA : Hid (∀ W, Calls Try.prog 23 #[.agg #[.bool true, .int .i64 x]] W fun e w' => e = .returned (.agg #[.bool true, .int .i64 A]) ∧ Below W.heap.size W w')) (w : World) :
    Calls Try.prog 9 #[.int .i64 n] w fun e w' => e = .returned (.bool true) ∧ Below w.heap.size w w' := by
  go_enter Try.func9, Try.ntmps9
  go_wp2_with (go_at_call 14; go_must (refine (HI.out _).mono ?_; rintro e w' ⟨rfl, hb⟩; obtain ⟨hc, hf⟩ := bcell hb; (try have hz0 : w.heap.size < w'.heap.size := Nat.lt_of_lt_of_le (by first | assumption | (simp; done) | (simp; omega)) hb.size); (try have hz1 : w.heap.size + 1 < w'.heap.size := Nat.lt_of_lt_of_le (by first | assumption | (simp; done) | (simp; omega)) hb.size); (try have hz2 : w.heap.size + 1 + 1 < w'.heap.size := Nat.lt_of_lt_of_le (by first | assumption | (simp; done) | (simp; omega)) hb.size); have hz := hb.size; (try simp at hz)))
  obtain ⟨kc, kf⟩ := kgrown (w'.alloc (.cells #[.bool true, .int .i64 x] 23))
  refine wp_region_quiet_below (by kernel_rfl) (by kernel_rfl) ?_
  repeat (quiet_step (first
    | (go_at_call 29; exact Calls.regrown_of (HM.out _))
    | (go_at_call 33; exact Calls.regrown_of (HS.out _))
    | (go_at_call 23; exact Calls.regrown_of (HA.out _))
    | (go_at_call 18; exact Calls.regrown_of (known_any _))))
  refine wpQuiet_nil ?_
  intro _ hw'
  obtain ⟨⟨dq, osq⟩, hw''⟩ := hw'
  subst hw''
  go_wp2
  go_ret
  exact ⟨rfl, (hb.trans (((Below.refl _ _).alloc (Nat.le_refl _) _).mono hb.size)).trans ((below_regrown _ dq osq).mono (by simp; omega))⟩

set_option maxHeartbeats 1000000 in
theorem square_out (n : Int) (h : n < -1000000 ∨ 1000000 < n) (w : World) :
    Calls Try.prog 9 #[.int .i64 n] w fun e w' => e = .returned (.bool true) ∧ Below w.heap.size w w' := by
  go_enter Try.func9, Try.ntmps9
  go_wp2_with (go_at_call 18; go_must (refine (known_any _).mono ?_; rintro e w' ⟨rfl, hb⟩; obtain ⟨hc, hf⟩ := bcell hb; (try have hz0 : w.heap.size < w'.heap.size := Nat.lt_of_lt_of_le (by first | assumption | (simp; done) | (simp; omega)) hb.size); (try have hz1 : w.heap.size + 1 < w'.heap.size := Nat.lt_of_lt_of_le (by first | assumption | (simp; done) | (simp; omega)) hb.size); (try have hz2 : w.heap.size + 1 + 1 < w'.heap.size := Nat.lt_of_lt_of_le (by first | assumption | (simp; done) | (simp; omega)) hb.size); have hz := hb.size; (try simp at hz)))
  all_goals first | (exfalso; omega) | (go_ret; exact ⟨rfl, (by repeat (first | exact Below.refl _ _ | assumption | refine Below.setCell ?_ (by first | (simp; done) | omega | (simp; omega) | (simp at *; omega)) _ | refine Below.alloc ?_ (by first | (simp; done) | omega | (simp; omega) | (simp at *; omega)) _ | refine Below.drew ?_ | (refine Below.trans ?_ (Below.mono (by assumption) (by first | (simp; done) | omega | (simp; omega) | (simp at *; omega)))) | (refine Below.trans ?_ (Below.mono (below_regrown _ _ _) (by first | (simp; done) | omega | (simp; omega) | (simp at *; omega))))))⟩)

theorem lawSquare_any (n : Int) (w : World) :
    Calls Try.prog 9 #[.int .i64 n] w fun e w' => e = .returned (.bool true) ∧ Below w.heap.size w w' := by
  by_cases h : n < -1000000 ∨ 1000000 < n
  · exact square_out n h w
  · obtain ⟨ho, hn, hb⟩ := square_md n (by omega) (by omega)
    have hx := Fx.inR_yes (n := n * 1000000) (by omega) (by omega)
    have hS := Fx.inR_yes (n := ((n.natAbs * n.natAbs * 1000000 : Nat) : Int)) (by omega) (by omega)
    have hA := Fx.inR_yes (n := ((n.natAbs * 1000000 : Nat) : Int)) (by omega) (by omega)
    refine square_in n (n * 1000000) ((n.natAbs * n.natAbs * 1000000 : Nat) : Int) ((n.natAbs * 1000000 : Nat) : Int) (by omega) (by omega) (Lib.hid fun W => ?_) (Lib.hid fun W => ?_) (Lib.hid fun W => ?_) (Lib.hid fun W => ?_) w
    · have := int_any n W
      rw [Fx.of_yes hx] at this
      exact this
    · have := mul_any true (n * 1000000) true (n * 1000000) W
      rw [Fx.mul_yes (Fx.num_yes hx) (Fx.num_yes hx), show (Fx.Vl.mk true (n * 1000000)).n = n * 1000000 from rfl, Fx.mdv_yes ho, hn, Fx.of_yes hS] at this
      exact this
    · have := sqrt_any true ((n.natAbs * n.natAbs * 1000000 : Nat) : Int) W
      rw [Fx.sqrt_yes (Fx.num_yes hS) (Int.natCast_nonneg _), Int.toNat_natCast, ← square_rt n.natAbs (by omega), Fx.of_yes hA] at this
      exact this
    · have := abs_any true (n * 1000000) W
      by_cases h0 : 0 ≤ n
      · rw [Fx.abs_pos (Fx.num_yes hx) (by show 0 ≤ n * 1000000; omega), show (Fx.Vl.mk true (n * 1000000)).n = ((n.natAbs * 1000000 : Nat) : Int) by show n * 1000000 = _; omega, Fx.of_yes hA] at this
        exact this
      · rw [Fx.abs_neg (Fx.num_yes hx) (by show n * 1000000 < 0; omega), show -(Fx.Vl.mk true (n * 1000000)).n = ((n.natAbs * 1000000 : Nat) : Int) by show -(n * 1000000) = _; omega, Fx.of_yes hA] at this
        exact this

namespace RowFixedSquare
open Go.ChangeShapes Go.WideShapes Go.ChangeAt Go.RowKit Go.Joins
theorem own : ownKnob Try.prog.godebug = none := by kernel_rfl
theorem laidOut : laidOutB Try.prog = true := by kernel_rfl
set_option maxRecDepth 100000 in
theorem lifted (os : Os) (started : os.Started) (H : Type) (enc : TypeId × Value → H) :
    ReturnsInHanded {} Try.checked os 9 .any (Rows.fixedSquareSpec.pre6 enc Try.prog Try.f9 Rows.fixedSquareRow.domain false) (Rows.fixedSquareSpec.post enc Try.prog Try.f9 false true false false) := by
  refine returnsInHanded_of_change (C := Try.checked) own started (by kernel_rfl) Try.func9
    (ChangeSpec.witness6 (enc := enc) (C := Try.checked) false ⟨#[], #[.int .i64 0], []⟩ 8 (by kernel_rfl) (by kernel_rfl) (by kernel_rfl) (by kernel_rfl)) ?_
  intro W base args ds gs before hval0 hW hcnd _
  have hval : ∀ (j : Nat) t v, Try.f9.params[j]? = some t → args[j]? = some v → Value.okWide Try.prog W .any base t v := hval0
  have hW' := hW
  obtain ⟨p, q, hA0, hV, rfl, hfz, hnd⟩ := hW
  have hA : DataW.TrodAll enc Try.prog W 0 (fun _ => true) true Try.f9.params.toList args.toList ds p := hA0
  rw [Try.params9] at hA hval
  obtain ⟨v0, vs0, d0, ds0, p0, q0, hargs, rfl, rfl, h0, r0⟩ := trodAll_cons hA
  obtain ⟨rfl, rfl, rfl⟩ := trodAll_nil r0
  obtain rfl : args = #[v0] := by cases args; simp_all
  obtain ⟨rfl, rfl⟩ := trodVars_none hV
  have k0 := h0
  have lt0 : ∀ x ∈ p0, x.block < W.heap.size := by obtain ⟨m, hm⟩ := k0; exact DataW.trod_lt m _ _ _ hm
  obtain ⟨a0, rfl, rfl, rfl, w0⟩ := open_int Try.underlying3 (hval 0 3 v0 rfl rfl) h0
  clear hA0 hval0
  refine (lawSquare_any a0 W).mono fun e W' ⟨he, bel⟩ => ?_
  subst he
  exact ⟨_, rfl, _, _, _, [], _, [], hW', trodAll_mk1 (shut_bool Try.underlying4 _), (trodAll_cons_mk (Below.trod laidOut (by kernel_rfl) (of_decide_eq_true (by kernel_rfl)) k0 bel lt0) trodAll_mk0), rfl, bel.frame _, fun h => by cases h⟩
end RowFixedSquare

theorem fixedSquare_holds : Rows.FixedSquareSaid :=
  OpenClaim.holds_of_wide 9 Try.f9 rfl rfl rfl rfl rfl rfl rfl ⟨rfl, rfl, rfl, rfl, rfl⟩ rfl rfl rfl rfl rfl (by kernel_rfl) Try.func9 (by kernel_rfl)
    (of_decide_eq_true (by kernel_rfl)) (by unfold Func.isWrapper; first | (rw [if_pos (by decide +kernel)]; kernel_rfl) | (rw [if_neg (by decide +kernel)]; exact ⟨rfl, rfl⟩))
    (fun os started H enc _ => RowFixedSquare.lifted os started H enc)

#print axioms fixedSquare_holds
end Go.Proofs.Ytafgjenhfoijlaa
