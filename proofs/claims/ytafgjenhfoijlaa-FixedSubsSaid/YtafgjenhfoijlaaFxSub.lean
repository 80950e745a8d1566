/-
  CONTRACT: the document's Sub.
-/
import Derived.Test.YtafgjenhfoijlaaFxOps
import Derived.Test.YtafgjenhfoijlaaQtTail
namespace Go.Proofs.Ytafgjenhfoijlaa
open Go.RowKit Go.Sort

set_option maxHeartbeats 1000000 in
theorem refSub_any (a : Bool) (m : Int) (b : Bool) (n : Int) (w : World) :
    Calls Try.prog 22 #[.agg #[.bool a, .int .i64 m], .agg #[.bool b, .int .i64 n]] w fun e w' => e = .returned (.agg #[.bool (Fx.sub ⟨a, m⟩ ⟨b, n⟩).ok, .int .i64 (Fx.sub ⟨a, m⟩ ⟨b, n⟩).n]) ∧ Below w.heap.size w w' := by
  cases h : Fx.num ⟨a, m⟩
  · rw [Fx.sub_no1 h]
    go_enter Try.func22, Try.ntmps22
    go_wp2_with (go_at_call 39; go_must (refine (two_any _ _ _ _ _).mono ?_; rintro e w' ⟨rfl, hb⟩; obtain ⟨hc, hf⟩ := bcell hb; (try have hz0 : w.heap.size < w'.heap.size := Nat.lt_of_lt_of_le (by first | assumption | (simp; done) | (simp; omega)) hb.size); (try have hz1 : w.heap.size + 1 < w'.heap.size := Nat.lt_of_lt_of_le (by first | assumption | (simp; done) | (simp; omega)) hb.size); (try have hz2 : w.heap.size + 1 + 1 < w'.heap.size := Nat.lt_of_lt_of_le (by first | assumption | (simp; done) | (simp; omega)) hb.size); have hz := hb.size; (try simp at hz)))
    exact bodyPost_ret (v := .agg #[.bool false, .int .i64 0]) (by simp [results, Try.results22, go_sem, *]) rfl ⟨rfl, (by repeat (first | exact Below.refl _ _ | assumption | refine Below.setCell ?_ (by first | (simp; done) | omega | (simp; omega) | (simp at *; omega)) _ | refine Below.alloc ?_ (by first | (simp; done) | omega | (simp; omega) | (simp at *; omega)) _ | refine Below.drew ?_ | (refine Below.trans ?_ (Below.mono (by assumption) (by first | (simp; done) | omega | (simp; omega) | (simp at *; omega)))) | (refine Below.trans ?_ (Below.mono (below_regrown _ _ _) (by first | (simp; done) | omega | (simp; omega) | (simp at *; omega))))))⟩
  · cases h2 : Fx.num ⟨b, n⟩
    · rw [Fx.sub_no2 h2]
      go_enter Try.func22, Try.ntmps22
      go_wp2_with (go_at_call 39; go_must (refine (two_any _ _ _ _ _).mono ?_; rintro e w' ⟨rfl, hb⟩; obtain ⟨hc, hf⟩ := bcell hb; (try have hz0 : w.heap.size < w'.heap.size := Nat.lt_of_lt_of_le (by first | assumption | (simp; done) | (simp; omega)) hb.size); (try have hz1 : w.heap.size + 1 < w'.heap.size := Nat.lt_of_lt_of_le (by first | assumption | (simp; done) | (simp; omega)) hb.size); (try have hz2 : w.heap.size + 1 + 1 < w'.heap.size := Nat.lt_of_lt_of_le (by first | assumption | (simp; done) | (simp; omega)) hb.size); have hz := hb.size; (try simp at hz)))
      exact bodyPost_ret (v := .agg #[.bool false, .int .i64 0]) (by simp [results, Try.results22, go_sem, *]) rfl ⟨rfl, (by repeat (first | exact Below.refl _ _ | assumption | refine Below.setCell ?_ (by first | (simp; done) | omega | (simp; omega) | (simp at *; omega)) _ | refine Below.alloc ?_ (by first | (simp; done) | omega | (simp; omega) | (simp at *; omega)) _ | refine Below.drew ?_ | (refine Below.trans ?_ (Below.mono (by assumption) (by first | (simp; done) | omega | (simp; omega) | (simp at *; omega)))) | (refine Below.trans ?_ (Below.mono (below_regrown _ _ _) (by first | (simp; done) | omega | (simp; omega) | (simp at *; omega))))))⟩
    · rw [Fx.sub_yes h h2]
      obtain ⟨rfl, m1, m2⟩ := Fx.num_iff.1 h
      obtain ⟨rfl, n1, n2⟩ := Fx.num_iff.1 h2
      have HO : Hid (∀ W, Calls Try.prog 13 #[.int .i64 (-n)] W fun e w' => e = .returned (.agg #[.bool true, .int .i64 (-n)]) ∧ Below W.heap.size W w') := by
        apply Lib.hid; intro W
        have := refOf_any (-n) W
        rw [Fx.of_yes (Fx.inR_yes (by omega) (by omega))] at this
        exact this
      have hpl : Fx.plus ⟨true, m⟩ ⟨true, -n⟩ = Fx.of (m - n) := by
        rw [Fx.plus_yes h (Fx.num_yes (Fx.inR_yes (by omega) (by omega)))]
        congr 1
      have HP : Hid (∀ W, Calls Try.prog 37 #[.agg #[.bool true, .int .i64 m], .agg #[.bool true, .int .i64 (-n)]] W fun e w' => e = .returned (.agg #[.bool (Fx.of (m - n)).ok, .int .i64 (Fx.of (m - n)).n]) ∧ Below W.heap.size W w') := by
        apply Lib.hid; intro W
        have := refPlus_any true m true (-n) W
        rw [hpl] at this
        exact this
      clear hpl
      go_enter Try.func22, Try.ntmps22
      go_wp2_with (go_at_call 39; go_must (refine (two_any _ _ _ _ _).mono ?_; rintro e w' ⟨rfl, hb⟩; obtain ⟨hc, hf⟩ := bcell hb; (try have hz0 : w.heap.size < w'.heap.size := Nat.lt_of_lt_of_le (by first | assumption | (simp; done) | (simp; omega)) hb.size); (try have hz1 : w.heap.size + 1 < w'.heap.size := Nat.lt_of_lt_of_le (by first | assumption | (simp; done) | (simp; omega)) hb.size); (try have hz2 : w.heap.size + 1 + 1 < w'.heap.size := Nat.lt_of_lt_of_le (by first | assumption | (simp; done) | (simp; omega)) hb.size); have hz := hb.size; (try simp at hz)))
      go_wp2_with fail
      refine Qt.wp_region_below_tail_at 6 rfl (by kernel_rfl) (by kernel_rfl) (by kernel_rfl) ?_
      simp only [List.take_succ_cons, List.take_zero]
      obtain ⟨kc, kf⟩ := kgrown w'
      have hw : IntKind.i64.wrap (-n) = -n := by rw [IntKind.wrap_i64]; omega
      repeat (quiet_step (first
        | (go_at_call 13; exact Calls.regrown_of (HO.out _))
        | (go_at_call 37; exact Calls.regrown_of (HP.out _))))
      refine wpQuiet_nil ?_
      intro _ hw'
      obtain ⟨⟨dq, osq⟩, hw''⟩ := hw'
      subst hw''
      go_wp2_with fail
      exact bodyPost_ret (v := (.agg #[.bool (Fx.of (m - n)).ok, .int .i64 (Fx.of (m - n)).n])) (by simp [results, Try.results22, go_sem, *]) rfl ⟨rfl, (by repeat (first | exact Below.refl _ _ | assumption | refine Below.setCell ?_ (by first | (simp; done) | omega | (simp; omega) | (simp at *; omega)) _ | refine Below.alloc ?_ (by first | (simp; done) | omega | (simp; omega) | (simp at *; omega)) _ | refine Below.drew ?_ | (refine Below.trans ?_ (Below.mono (by assumption) (by first | (simp; done) | omega | (simp; omega) | (simp at *; omega)))) | (refine Below.trans ?_ (Below.mono (below_regrown _ _ _) (by first | (simp; done) | omega | (simp; omega) | (simp at *; omega))))))⟩
end Go.Proofs.Ytafgjenhfoijlaa
