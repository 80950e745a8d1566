/-
  DcPr: CONTRACTS: the program's fraction and Print.
-/
import Derived.Test.YtojmcndiooiehaaGreatDoorJ22

set_option linter.unusedSimpArgs false
set_option linter.unusedVariables false
namespace Go.Proofs.YtojmcndiooiehaaGreatDoor
set_option maxRecDepth 20000
open Go.RowKit

namespace Dc
theorem digits_nat (u : Nat) : digits (u : Int) = plain u := by unfold digits; rw [if_neg (by omega)]; rfl
theorem six_trim_len (n : Nat) : (trimZ (six n)).length ≤ 20 := by
  refine Nat.le_trans (trim_len _) ?_
  unfold six
  rw [List.length_drop]
  have := plain_length (1000000 + n)
  omega
theorem fracText_len (n : Nat) : (fracText n).length ≤ 21 := by
  unfold fracText
  split
  · simp
  · rw [List.length_cons]; have := six_trim_len n; omega
theorem knownB_num (b : Bool) (n : Int) : knownB b n = Fx.num ⟨b, n⟩ := rfl
end Dc

set_option maxHeartbeats 400000 in
theorem fraction_prog (n : Nat) (h1 : n < 1000000) (w : World) :
    Calls Tryz.prog 62 #[.int .i64 n] w fun e w' => e = .returned (.string ⟨(Dc.fracText n).toArray⟩) ∧ Below w.heap.size w w' := by
  by_cases h0 : n = 0
  · subst h0
    go_enter Tryz.func62, Tryz.ntmps62
    go_wp2
    go_ret
    exact ⟨rfl, Below.refl _ _⟩
  · have hf : Hid (Dc.fracText n = 46 :: Dc.trimZ (Dc.six n)) := Lib.hid (by unfold Dc.fracText; rw [if_neg h0])
    have hp := Dc.plain_len7 (u := 1000000 + n) (by omega) (by omega)
    have HD : Hid (∀ W, Calls Tryz.prog 61 #[.int .i64 (1000000 + (n : Int))] W fun e w' => e = .returned (.string ⟨(Dc.plain (1000000 + n)).toArray⟩) ∧ Below W.heap.size W w') := by
      apply Lib.hid; intro W
      have := digits_prog ((1000000 + n : Nat) : Int) (by omega) (by omega) W
      rw [Dc.digits_nat] at this
      have e : ((1000000 + n : Nat) : Int) = 1000000 + (n : Int) := by omega
      rw [e] at this
      exact this
    have hx : (⟨(Dc.plain (1000000 + n)).toArray⟩ : ByteArray).extract 1 7 = ⟨(Dc.six n).toArray⟩ := by
      rw [ext_from _ _ _ (by omega)]; rfl
    have hs : (Dc.six n).length = 6 := Dc.six_len h1
    have HT := Lib.hid (fun W => trimRight48 (Dc.six n) (by omega) W)
    have ht := Dc.six_trim_len n
    have h0' : 0 < n := by omega
    clear h0 hs
    generalize Dc.trimZ (Dc.six n) = t at *
    generalize Dc.six n = s at *
    generalize Dc.plain (1000000 + n) = p at *
    go_enter Tryz.func62, Tryz.ntmps62
    go_wp2_with (first | (go_at_call 61; go_must (refine (HD.out _).mono ?_; rintro e w' ⟨rfl, hb⟩)) | (go_at_call 87; go_must (refine (HT.out _).mono ?_; rintro e w' ⟨rfl, rfl⟩)))
    go_ret
    exact ⟨ret_str (by rw [hf.out]; exact cat_mk [46] t), hb⟩

set_option maxHeartbeats 400000 in
theorem print_prog (b : Bool) (n : Int) (w : World) :
    Calls Tryz.prog 39 #[.agg #[.bool b, .int .i64 n]] w fun e w' => e = .returned (.string ⟨(Dc.pr b n).toArray⟩) ∧ Below w.heap.size w w' := by
  cases b
  · have HN := Lib.hid (Dc.pr_not (b := false) (n := n) rfl)
    go_enter Tryz.func39, Tryz.ntmps39
    go_wp2
    go_ret
    exact ⟨ret_str (by rw [HN.out]; rfl), (by repeat (first | exact Below.refl _ _ | assumption | refine Below.setCell ?_ (by first | (simp; done) | omega | (simp; omega) | (simp at *; omega)) _ | refine Below.alloc ?_ (by first | (simp; done) | omega | (simp; omega) | (simp at *; omega)) _ | refine Below.drew ?_ | (refine Below.trans ?_ (Below.mono (by assumption) (by first | (simp; done) | omega | (simp; omega) | (simp at *; omega)))) | (refine Below.trans ?_ (Below.mono (below_regrown _ _ _) (by first | (simp; done) | omega | (simp; omega) | (simp at *; omega))))))⟩
  · cases hk : Fx.inR n
    · have HN := Lib.hid (Dc.pr_not (b := true) (n := n) (by rw [Dc.knownB_num]; exact Fx.num_no hk))
      have HI := Lib.hid (fun W => isV_any true n W)
      rw [Fx.isV_on, hk] at HI
      clear hk
      go_enter Tryz.func39, Tryz.ntmps39
      go_wp2_with (go_at_call 60; go_must (refine (HI.out _).mono ?_; rintro e w' ⟨rfl, hb⟩; obtain ⟨hc, hf⟩ := bcell hb; (try have hz0 : w.heap.size < w'.heap.size := Nat.lt_of_lt_of_le (by first | assumption | (simp; done) | (simp; omega)) hb.size); (try have hz1 : w.heap.size + 1 < w'.heap.size := Nat.lt_of_lt_of_le (by first | assumption | (simp; done) | (simp; omega)) hb.size); (try have hz2 : w.heap.size + 1 + 1 < w'.heap.size := Nat.lt_of_lt_of_le (by first | assumption | (simp; done) | (simp; omega)) hb.size); have hz := hb.size; (try simp at hz)))
      go_ret
      exact ⟨ret_str (by rw [HN.out]; rfl), (by repeat (first | exact Below.refl _ _ | assumption | refine Below.setCell ?_ (by first | (simp; done) | omega | (simp; omega) | (simp at *; omega)) _ | refine Below.alloc ?_ (by first | (simp; done) | omega | (simp; omega) | (simp at *; omega)) _ | refine Below.drew ?_ | (refine Below.trans ?_ (Below.mono (by assumption) (by first | (simp; done) | omega | (simp; omega) | (simp at *; omega)))) | (refine Below.trans ?_ (Below.mono (below_regrown _ _ _) (by first | (simp; done) | omega | (simp; omega) | (simp at *; omega))))))⟩
    · have HI := Lib.hid (fun W => isV_any true n W)
      rw [Fx.isV_on, hk] at HI
      obtain ⟨b0, b1⟩ := Fx.inR_iff.1 hk
      have hpr : Hid (Dc.pr true n = Dc.sgn n ++ (Dc.plain (n.natAbs / 1000000) ++ Dc.fracText (n.natAbs % 1000000))) := by
        apply Lib.hid
        unfold Dc.pr
        rw [if_pos (by rw [Dc.knownB_num]; exact Fx.num_yes hk)]
        rfl
      have l1 := Dc.plain_length (n.natAbs / 1000000)
      have l2 := Dc.fracText_len (n.natAbs % 1000000)
      have D1 := fun W => digits_prog ((n.natAbs / 1000000 : Nat) : Int) (by omega) (by omega) W
      have F1 := fun W => fraction_prog (n.natAbs % 1000000) (by omega) W
      clear hk
      by_cases hn : n < 0
      · obtain ⟨m, rfl⟩ : ∃ m : Int, n = -m := ⟨-n, by omega⟩
        have hm : 0 < m := by omega
        have e1 : (((-m).natAbs / 1000000 : Nat) : Int) = m / 1000000 := by omega
        have e2 : (((-m).natAbs % 1000000 : Nat) : Int) = m % 1000000 := by omega
        rw [Dc.digits_nat, e1] at D1
        rw [e2] at F1
        have HD := Lib.hid D1
        have HF := Lib.hid F1
        clear D1 F1 e1 e2
        generalize Dc.plain ((-m).natAbs / 1000000) = p at *
        generalize Dc.fracText ((-m).natAbs % 1000000) = q at *
        go_enter Tryz.func39, Tryz.ntmps39
        go_wp2_with (first | (go_at_call 60; go_must (refine (HI.out _).mono ?_; rintro e w' ⟨rfl, hb⟩; obtain ⟨hc, hf⟩ := bcell hb; (try have hz0 : w.heap.size < w'.heap.size := Nat.lt_of_lt_of_le (by first | assumption | (simp; done) | (simp; omega)) hb.size); (try have hz1 : w.heap.size + 1 < w'.heap.size := Nat.lt_of_lt_of_le (by first | assumption | (simp; done) | (simp; omega)) hb.size); (try have hz2 : w.heap.size + 1 + 1 < w'.heap.size := Nat.lt_of_lt_of_le (by first | assumption | (simp; done) | (simp; omega)) hb.size); have hz := hb.size; (try simp at hz))) | (go_at_call 61; (((with_reducible refine (HD.out _).mono ?_)); rintro e w' ⟨rfl, hb⟩; obtain ⟨hc, hf⟩ := bcell hb; (try have hz0 : w.heap.size < w'.heap.size := Nat.lt_of_lt_of_le (by first | assumption | (simp; done) | (simp; omega)) hb.size); (try have hz1 : w.heap.size + 1 < w'.heap.size := Nat.lt_of_lt_of_le (by first | assumption | (simp; done) | (simp; omega)) hb.size); (try have hz2 : w.heap.size + 1 + 1 < w'.heap.size := Nat.lt_of_lt_of_le (by first | assumption | (simp; done) | (simp; omega)) hb.size); have hz := hb.size; (try simp at hz))) | (go_at_call 62; (((with_reducible refine (HF.out _).mono ?_)); rintro e w' ⟨rfl, hb⟩; obtain ⟨hc, hf⟩ := bcell hb; (try have hz0 : w.heap.size < w'.heap.size := Nat.lt_of_lt_of_le (by first | assumption | (simp; done) | (simp; omega)) hb.size); (try have hz1 : w.heap.size + 1 < w'.heap.size := Nat.lt_of_lt_of_le (by first | assumption | (simp; done) | (simp; omega)) hb.size); (try have hz2 : w.heap.size + 1 + 1 < w'.heap.size := Nat.lt_of_lt_of_le (by first | assumption | (simp; done) | (simp; omega)) hb.size); have hz := hb.size; (try simp at hz))))
        go_ret
        exact ⟨ret_str (by rw [hpr.out]; unfold Dc.sgn; rw [if_pos hn]; rw [← cat_mk [45], ← cat_mk p]; simp [ByteArray.append_assoc]), (by repeat (first | exact Below.refl _ _ | assumption | refine Below.setCell ?_ (by first | (simp; done) | omega | (simp; omega) | (simp at *; omega)) _ | refine Below.alloc ?_ (by first | (simp; done) | omega | (simp; omega) | (simp at *; omega)) _ | refine Below.drew ?_ | (refine Below.trans ?_ (Below.mono (by assumption) (by first | (simp; done) | omega | (simp; omega) | (simp at *; omega)))) | (refine Below.trans ?_ (Below.mono (below_regrown _ _ _) (by first | (simp; done) | omega | (simp; omega) | (simp at *; omega))))))⟩
      · have e1 : ((n.natAbs / 1000000 : Nat) : Int) = n / 1000000 := by omega
        have e2 : ((n.natAbs % 1000000 : Nat) : Int) = n % 1000000 := by omega
        rw [Dc.digits_nat, e1] at D1
        rw [e2] at F1
        have HD := Lib.hid D1
        have HF := Lib.hid F1
        clear D1 F1 e1 e2
        generalize Dc.plain (n.natAbs / 1000000) = p at *
        generalize Dc.fracText (n.natAbs % 1000000) = q at *
        go_enter Tryz.func39, Tryz.ntmps39
        go_wp2_with (first | (go_at_call 60; go_must (refine (HI.out _).mono ?_; rintro e w' ⟨rfl, hb⟩; obtain ⟨hc, hf⟩ := bcell hb; (try have hz0 : w.heap.size < w'.heap.size := Nat.lt_of_lt_of_le (by first | assumption | (simp; done) | (simp; omega)) hb.size); (try have hz1 : w.heap.size + 1 < w'.heap.size := Nat.lt_of_lt_of_le (by first | assumption | (simp; done) | (simp; omega)) hb.size); (try have hz2 : w.heap.size + 1 + 1 < w'.heap.size := Nat.lt_of_lt_of_le (by first | assumption | (simp; done) | (simp; omega)) hb.size); have hz := hb.size; (try simp at hz))) | (go_at_call 61; (((with_reducible refine (HD.out _).mono ?_)); rintro e w' ⟨rfl, hb⟩; obtain ⟨hc, hf⟩ := bcell hb; (try have hz0 : w.heap.size < w'.heap.size := Nat.lt_of_lt_of_le (by first | assumption | (simp; done) | (simp; omega)) hb.size); (try have hz1 : w.heap.size + 1 < w'.heap.size := Nat.lt_of_lt_of_le (by first | assumption | (simp; done) | (simp; omega)) hb.size); (try have hz2 : w.heap.size + 1 + 1 < w'.heap.size := Nat.lt_of_lt_of_le (by first | assumption | (simp; done) | (simp; omega)) hb.size); have hz := hb.size; (try simp at hz))) | (go_at_call 62; (((with_reducible refine (HF.out _).mono ?_)); rintro e w' ⟨rfl, hb⟩; obtain ⟨hc, hf⟩ := bcell hb; (try have hz0 : w.heap.size < w'.heap.size := Nat.lt_of_lt_of_le (by first | assumption | (simp; done) | (simp; omega)) hb.size); (try have hz1 : w.heap.size + 1 < w'.heap.size := Nat.lt_of_lt_of_le (by first | assumption | (simp; done) | (simp; omega)) hb.size); (try have hz2 : w.heap.size + 1 + 1 < w'.heap.size := Nat.lt_of_lt_of_le (by first | assumption | (simp; done) | (simp; omega)) hb.size); have hz := hb.size; (try simp at hz))))
        go_ret
        exact ⟨ret_str (by rw [hpr.out]; unfold Dc.sgn; rw [if_neg (by omega)]; rw [cat_mk [] p, cat_mk]; rfl), (by repeat (first | exact Below.refl _ _ | assumption | refine Below.setCell ?_ (by first | (simp; done) | omega | (simp; omega) | (simp at *; omega)) _ | refine Below.alloc ?_ (by first | (simp; done) | omega | (simp; omega) | (simp at *; omega)) _ | refine Below.drew ?_ | (refine Below.trans ?_ (Below.mono (by assumption) (by first | (simp; done) | omega | (simp; omega) | (simp at *; omega)))) | (refine Below.trans ?_ (Below.mono (below_regrown _ _ _) (by first | (simp; done) | omega | (simp; omega) | (simp at *; omega))))))⟩

end Go.Proofs.YtojmcndiooiehaaGreatDoor
