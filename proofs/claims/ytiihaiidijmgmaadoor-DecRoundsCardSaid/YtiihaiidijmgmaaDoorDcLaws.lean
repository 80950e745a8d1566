/-
  CONTRACTS: the walks of DecPrints and DecWhole.
-/
import Derived.Test.YtiihaiidijmgmaaDoorDcKnown
namespace Go.Proofs.YtiihaiidijmgmaaDoor
open Go.RowKit

namespace Dc
theorem pbod_len (u : Nat) : (pbod u).length ≤ 41 := by
  unfold pbod
  rw [List.length_append]
  have := plain_length (u / 1000000)
  have := fracText_len (u % 1000000)
  omega
theorem pr_len (b : Bool) (n : Int) : (pr b n).length ≤ 42 := by
  unfold pr
  split
  · rw [List.length_append]
    have := pbod_len n.natAbs
    have : (sgn n).length ≤ 1 := by unfold sgn; split <;> simp
    omega
  · simp [noneText]
theorem digits_len (n : Int) : (digits n).length ≤ 21 := by
  unfold digits
  have := plain_length n.natAbs
  split
  · rw [List.length_cons]; omega
  · omega
end Dc

set_option maxHeartbeats 800000 in
theorem lawPrints_any (b : Bool) (n : Int) (_ : -9223372036854775808 ≤ n) (_ : n ≤ 9223372036854775807) (w : World) :
    Calls Tryd.prog 4 #[.agg #[.bool b, .int .i64 n]] w fun e w' => e = .returned (.bool true) ∧ Below w.heap.size w w' := by
  have hl := Dc.pr_len b n
  have P1 := fun W => print_prog b n W
  have P2 := fun W => refPrint_any b n W
  have P3 := fun W => parse_prog (Dc.pr b n) (by omega) W
  have P4 := fun W => known1_any b n W
  cases hk : Fx.num ⟨b, n⟩
  · have hp : Dc.pr b n = Dc.noneText := Dc.pr_not (by rw [Dc.knownB_num]; exact hk)
    rw [hp] at P1 P2 P3
    rw [hk] at P4
    have H1 : Hid (∀ W, Calls Tryd.prog 11 #[.agg #[.bool b, .int .i64 n]] W fun e w' => e = .returned (.string ⟨#[78, 111, 110, 101]⟩) ∧ Below W.heap.size W w') := Lib.hid P1
    have H2 : Hid (∀ W, Calls Tryd.prog 12 #[.agg #[.bool b, .int .i64 n]] W fun e w' => e = .returned (.string ⟨#[78, 111, 110, 101]⟩) ∧ Below W.heap.size W w') := Lib.hid P2
    have H3 : Hid (∀ W, Calls Tryd.prog 8 #[.string ⟨#[78, 111, 110, 101]⟩] W fun e w' => e = .returned (.tuple #[.agg #[.bool false, .int .i64 0], .bool false]) ∧ Below W.heap.size W w') := Lib.hid P3
    have H4 := Lib.hid P4
    clear hl hp hk P1 P2 P3 P4
    go_enter Tryd.func4, Tryd.ntmps4
    go_wp2_with (first | (go_at_call 11; (((with_reducible refine (H1.out _).mono ?_)); rintro e w1 ⟨rfl, hb1⟩; obtain ⟨hc1, hf1⟩ := bcell hb1; (try have hq1w : w.heap.size < w1.heap.size := Nat.lt_of_lt_of_le (by first | assumption | (simp; done) | (simp; omega)) hb1.size); have hs1 := hb1.size; (try simp at hs1))) | (go_at_call 12; (((with_reducible refine (H2.out _).mono ?_)); rintro e w2 ⟨rfl, hb2⟩; obtain ⟨hc2, hf2⟩ := bcell hb2; (try have hq2w : w.heap.size < w2.heap.size := Nat.lt_of_lt_of_le (by first | assumption | (simp; done) | (simp; omega)) hb2.size); (try have hq2w1 : w1.heap.size < w2.heap.size := Nat.lt_of_lt_of_le (by first | assumption | (simp; done) | (simp; omega)) hb2.size); have hs2 := hb2.size; (try simp at hs2))) | (go_at_call 8; (((with_reducible refine (H3.out _).mono ?_)); rintro e w3 ⟨rfl, hb3⟩; obtain ⟨hc3, hf3⟩ := bcell hb3; (try have hq3w : w.heap.size < w3.heap.size := Nat.lt_of_lt_of_le (by first | assumption | (simp; done) | (simp; omega)) hb3.size); (try have hq3w1 : w1.heap.size < w3.heap.size := Nat.lt_of_lt_of_le (by first | assumption | (simp; done) | (simp; omega)) hb3.size); (try have hq3w2 : w2.heap.size < w3.heap.size := Nat.lt_of_lt_of_le (by first | assumption | (simp; done) | (simp; omega)) hb3.size); have hs3 := hb3.size; (try simp at hs3))) | (go_at_call 13; (((with_reducible refine (H4.out _).mono ?_)); rintro e w4 ⟨rfl, hb4⟩; obtain ⟨hc4, hf4⟩ := bcell hb4; (try have hq4w : w.heap.size < w4.heap.size := Nat.lt_of_lt_of_le (by first | assumption | (simp; done) | (simp; omega)) hb4.size); (try have hq4w1 : w1.heap.size < w4.heap.size := Nat.lt_of_lt_of_le (by first | assumption | (simp; done) | (simp; omega)) hb4.size); (try have hq4w2 : w2.heap.size < w4.heap.size := Nat.lt_of_lt_of_le (by first | assumption | (simp; done) | (simp; omega)) hb4.size); (try have hq4w3 : w3.heap.size < w4.heap.size := Nat.lt_of_lt_of_le (by first | assumption | (simp; done) | (simp; omega)) hb4.size); have hs4 := hb4.size; (try simp at hs4))) | (go_at_call 10; (((with_reducible refine (known2_any _).mono ?_)); rintro e w5 ⟨rfl, hb5⟩; obtain ⟨hc5, hf5⟩ := bcell hb5; (try have hq5w : w.heap.size < w5.heap.size := Nat.lt_of_lt_of_le (by first | assumption | (simp; done) | (simp; omega)) hb5.size); have hs5 := hb5.size; (try simp at hs5))))
    go_ret
    exact ⟨rfl, (by repeat (first | exact Below.refl _ _ | assumption | refine Below.setCell ?_ (by first | (simp; done) | omega | (simp; omega) | (simp at *; omega)) _ | refine Below.alloc ?_ (by first | (simp; done) | omega | (simp; omega) | (simp at *; omega)) _ | refine Below.drew ?_ | (refine Below.trans ?_ (Below.mono (by assumption) (by first | (simp; done) | omega | (simp; omega) | (simp at *; omega)))) | (refine Below.trans ?_ (Below.mono (below_regrown _ _ _) (by first | (simp; done) | omega | (simp; omega) | (simp at *; omega))))))⟩
  · obtain ⟨o1, o2⟩ := Dc.parse_pr (b := b) (n := n) (by rw [Dc.knownB_num]; exact hk)
    rw [o1, o2] at P3
    rw [hk] at P4
    obtain ⟨rfl, b0, b1⟩ := Fx.num_iff.1 hk
    have H1 := Lib.hid P1
    have H2 := Lib.hid P2
    have H3 := Lib.hid P3
    have H4 := Lib.hid P4
    clear hk o1 o2 P1 P2 P3 P4
    generalize Dc.pr true n = q at *
    go_enter Tryd.func4, Tryd.ntmps4
    go_wp2_with (first | (go_at_call 11; (((with_reducible refine (H1.out _).mono ?_)); rintro e w1 ⟨rfl, hb1⟩; obtain ⟨hc1, hf1⟩ := bcell hb1; (try have hq1w : w.heap.size < w1.heap.size := Nat.lt_of_lt_of_le (by first | assumption | (simp; done) | (simp; omega)) hb1.size); have hs1 := hb1.size; (try simp at hs1))) | (go_at_call 12; (((with_reducible refine (H2.out _).mono ?_)); rintro e w2 ⟨rfl, hb2⟩; obtain ⟨hc2, hf2⟩ := bcell hb2; (try have hq2w : w.heap.size < w2.heap.size := Nat.lt_of_lt_of_le (by first | assumption | (simp; done) | (simp; omega)) hb2.size); (try have hq2w1 : w1.heap.size < w2.heap.size := Nat.lt_of_lt_of_le (by first | assumption | (simp; done) | (simp; omega)) hb2.size); have hs2 := hb2.size; (try simp at hs2))) | (go_at_call 8; (((with_reducible refine (H3.out _).mono ?_)); rintro e w3 ⟨rfl, hb3⟩; obtain ⟨hc3, hf3⟩ := bcell hb3; (try have hq3w : w.heap.size < w3.heap.size := Nat.lt_of_lt_of_le (by first | assumption | (simp; done) | (simp; omega)) hb3.size); (try have hq3w1 : w1.heap.size < w3.heap.size := Nat.lt_of_lt_of_le (by first | assumption | (simp; done) | (simp; omega)) hb3.size); (try have hq3w2 : w2.heap.size < w3.heap.size := Nat.lt_of_lt_of_le (by first | assumption | (simp; done) | (simp; omega)) hb3.size); have hs3 := hb3.size; (try simp at hs3))) | (go_at_call 13; (((with_reducible refine (H4.out _).mono ?_)); rintro e w4 ⟨rfl, hb4⟩; obtain ⟨hc4, hf4⟩ := bcell hb4; (try have hq4w : w.heap.size < w4.heap.size := Nat.lt_of_lt_of_le (by first | assumption | (simp; done) | (simp; omega)) hb4.size); (try have hq4w1 : w1.heap.size < w4.heap.size := Nat.lt_of_lt_of_le (by first | assumption | (simp; done) | (simp; omega)) hb4.size); (try have hq4w2 : w2.heap.size < w4.heap.size := Nat.lt_of_lt_of_le (by first | assumption | (simp; done) | (simp; omega)) hb4.size); (try have hq4w3 : w3.heap.size < w4.heap.size := Nat.lt_of_lt_of_le (by first | assumption | (simp; done) | (simp; omega)) hb4.size); have hs4 := hb4.size; (try simp at hs4))) | (go_at_call 10; (((with_reducible refine (known2_any _).mono ?_)); rintro e w5 ⟨rfl, hb5⟩; obtain ⟨hc5, hf5⟩ := bcell hb5; (try have hq5w : w.heap.size < w5.heap.size := Nat.lt_of_lt_of_le (by first | assumption | (simp; done) | (simp; omega)) hb5.size); have hs5 := hb5.size; (try simp at hs5))))
    go_ret
    exact ⟨rfl, (by repeat (first | exact Below.refl _ _ | assumption | refine Below.setCell ?_ (by first | (simp; done) | omega | (simp; omega) | (simp at *; omega)) _ | refine Below.alloc ?_ (by first | (simp; done) | omega | (simp; omega) | (simp at *; omega)) _ | refine Below.drew ?_ | (refine Below.trans ?_ (Below.mono (by assumption) (by first | (simp; done) | omega | (simp; omega) | (simp at *; omega)))) | (refine Below.trans ?_ (Below.mono (below_regrown _ _ _) (by first | (simp; done) | omega | (simp; omega) | (simp at *; omega))))))⟩

set_option maxHeartbeats 1600000 in
theorem lawWhole_any (l : List UInt8) (n : Int) (hl : (l.length : Int) ≤ 9223372036854775807) (n0 : -9223372036854775808 ≤ n) (n1 : n ≤ 9223372036854775807) (w : World) :
    Calls Tryd.prog 5 #[.string ⟨l.toArray⟩, .int .i64 n] w fun e w' => e = .returned (.bool true) ∧ Below w.heap.size w w' := by
  by_cases h4 : (400 : Int) < (l.length : Int)
  · go_enter Tryd.func5, Tryd.ntmps5
    go_wp2
    go_ret
    exact ⟨rfl, (by repeat (first | exact Below.refl _ _ | assumption | refine Below.setCell ?_ (by first | (simp; done) | omega | (simp; omega) | (simp at *; omega)) _ | refine Below.alloc ?_ (by first | (simp; done) | omega | (simp; omega) | (simp at *; omega)) _ | refine Below.drew ?_ | (refine Below.trans ?_ (Below.mono (by assumption) (by first | (simp; done) | omega | (simp; omega) | (simp at *; omega)))) | (refine Below.trans ?_ (Below.mono (below_regrown _ _ _) (by first | (simp; done) | omega | (simp; omega) | (simp at *; omega))))))⟩
  · have H1 := Lib.hid fun W => whole_prog l (by omega) W
    have H2 := Lib.hid fun W => refWhole_any l (by omega) W
    have H3 := Lib.hid fun W => digits_prog n n0 n1 W
    have H4 := Lib.hid fun W => digits_any n n0 n1 W
    have hdl := Dc.digits_len n
    have P5 := fun W => whole_prog (Dc.digits n) (by omega) W
    obtain ⟨g1, g2⟩ := Dc.wh_digits n0 n1
    generalize Dc.whN l = a at *
    generalize Dc.whOk l = ok at *
    by_cases hr : -4611686018427387904 ≤ n ∧ n ≤ 4611686018427387904
    · rw [decide_eq_true hr] at g1
      rw [g2 g1, g1] at P5
      have H5 := Lib.hid P5
      obtain ⟨r0, r1⟩ := hr
      clear g1 g2 P5
      generalize Dc.digits n = q at *
      go_enter Tryd.func5, Tryd.ntmps5
      go_wp2_with (first | (go_at_call 14; (((with_reducible refine (H1.out _).mono ?_)); rintro e w1 ⟨rfl, hb1⟩; obtain ⟨hc1, hf1⟩ := bcell hb1; (try have hq1w : w.heap.size < w1.heap.size := Nat.lt_of_lt_of_le (by first | assumption | (simp; done) | (simp; omega)) hb1.size); have hs1 := hb1.size; (try simp at hs1))) | (go_at_call 15; ((with_reducible refine (H2.out _).mono ?_); rintro e w' ⟨rfl, rfl⟩)) | (go_at_call 16; (((with_reducible refine (H3.out _).mono ?_)); rintro e w2 ⟨rfl, hb2⟩; obtain ⟨hc2, hf2⟩ := bcell hb2; (try have hq2w : w.heap.size < w2.heap.size := Nat.lt_of_lt_of_le (by first | assumption | (simp; done) | (simp; omega)) hb2.size); have hs2 := hb2.size; (try simp at hs2))) | (go_at_call 14; (((with_reducible refine (H5.out _).mono ?_)); rintro e w3 ⟨rfl, hb3⟩; obtain ⟨hc3, hf3⟩ := bcell hb3; (try have hq3w : w.heap.size < w3.heap.size := Nat.lt_of_lt_of_le (by first | assumption | (simp; done) | (simp; omega)) hb3.size); have hs3 := hb3.size; (try simp at hs3))) | (go_at_call 17; (((with_reducible refine (H4.out _).mono ?_)); rintro e w4 ⟨rfl, hb4⟩; obtain ⟨hc4, hf4⟩ := bcell hb4; (try have hq4w : w.heap.size < w4.heap.size := Nat.lt_of_lt_of_le (by first | assumption | (simp; done) | (simp; omega)) hb4.size); have hs4 := hb4.size; (try simp at hs4))) | (go_at_call 10; (((with_reducible refine (known2_any _).mono ?_)); rintro e w5 ⟨rfl, hb5⟩; obtain ⟨hc5, hf5⟩ := bcell hb5; (try have hq5w : w.heap.size < w5.heap.size := Nat.lt_of_lt_of_le (by first | assumption | (simp; done) | (simp; omega)) hb5.size); have hs5 := hb5.size; (try simp at hs5))))
      go_ret
      exact ⟨rfl, (by repeat (first | exact Below.refl _ _ | assumption | refine Below.setCell ?_ (by first | (simp; done) | omega | (simp; omega) | (simp at *; omega)) _ | refine Below.alloc ?_ (by first | (simp; done) | omega | (simp; omega) | (simp at *; omega)) _ | refine Below.drew ?_ | (refine Below.trans ?_ (Below.mono (by assumption) (by first | (simp; done) | omega | (simp; omega) | (simp at *; omega)))) | (refine Below.trans ?_ (Below.mono (below_regrown _ _ _) (by first | (simp; done) | omega | (simp; omega) | (simp at *; omega))))))⟩
    · rw [decide_eq_false hr] at g1
      have hw0 : Dc.whN (Dc.digits n) = 0 := by unfold Dc.whN; rw [g1]; rfl
      rw [hw0, g1] at P5
      have H5 := Lib.hid P5
      clear g1 g2 P5 hw0
      generalize Dc.digits n = q at *
      by_cases hr0 : -4611686018427387904 ≤ n
      · have hr1 : 4611686018427387904 < n := by omega
        clear hr
        go_enter Tryd.func5, Tryd.ntmps5
        go_wp2_with (first | (go_at_call 14; (((with_reducible refine (H1.out _).mono ?_)); rintro e w1 ⟨rfl, hb1⟩; obtain ⟨hc1, hf1⟩ := bcell hb1; (try have hq1w : w.heap.size < w1.heap.size := Nat.lt_of_lt_of_le (by first | assumption | (simp; done) | (simp; omega)) hb1.size); have hs1 := hb1.size; (try simp at hs1))) | (go_at_call 15; ((with_reducible refine (H2.out _).mono ?_); rintro e w' ⟨rfl, rfl⟩)) | (go_at_call 16; (((with_reducible refine (H3.out _).mono ?_)); rintro e w2 ⟨rfl, hb2⟩; obtain ⟨hc2, hf2⟩ := bcell hb2; (try have hq2w : w.heap.size < w2.heap.size := Nat.lt_of_lt_of_le (by first | assumption | (simp; done) | (simp; omega)) hb2.size); have hs2 := hb2.size; (try simp at hs2))) | (go_at_call 14; (((with_reducible refine (H5.out _).mono ?_)); rintro e w3 ⟨rfl, hb3⟩; obtain ⟨hc3, hf3⟩ := bcell hb3; (try have hq3w : w.heap.size < w3.heap.size := Nat.lt_of_lt_of_le (by first | assumption | (simp; done) | (simp; omega)) hb3.size); have hs3 := hb3.size; (try simp at hs3))) | (go_at_call 17; (((with_reducible refine (H4.out _).mono ?_)); rintro e w4 ⟨rfl, hb4⟩; obtain ⟨hc4, hf4⟩ := bcell hb4; (try have hq4w : w.heap.size < w4.heap.size := Nat.lt_of_lt_of_le (by first | assumption | (simp; done) | (simp; omega)) hb4.size); have hs4 := hb4.size; (try simp at hs4))) | (go_at_call 10; (((with_reducible refine (known2_any _).mono ?_)); rintro e w5 ⟨rfl, hb5⟩; obtain ⟨hc5, hf5⟩ := bcell hb5; (try have hq5w : w.heap.size < w5.heap.size := Nat.lt_of_lt_of_le (by first | assumption | (simp; done) | (simp; omega)) hb5.size); have hs5 := hb5.size; (try simp at hs5))))
        go_ret
        exact ⟨ret_bool (by simp; omega), (by repeat (first | exact Below.refl _ _ | assumption | refine Below.setCell ?_ (by first | (simp; done) | omega | (simp; omega) | (simp at *; omega)) _ | refine Below.alloc ?_ (by first | (simp; done) | omega | (simp; omega) | (simp at *; omega)) _ | refine Below.drew ?_ | (refine Below.trans ?_ (Below.mono (by assumption) (by first | (simp; done) | omega | (simp; omega) | (simp at *; omega)))) | (refine Below.trans ?_ (Below.mono (below_regrown _ _ _) (by first | (simp; done) | omega | (simp; omega) | (simp at *; omega))))))⟩
      · have hr1 : n < -4611686018427387904 := by omega
        clear hr hr0
        go_enter Tryd.func5, Tryd.ntmps5
        go_wp2_with (first | (go_at_call 14; (((with_reducible refine (H1.out _).mono ?_)); rintro e w1 ⟨rfl, hb1⟩; obtain ⟨hc1, hf1⟩ := bcell hb1; (try have hq1w : w.heap.size < w1.heap.size := Nat.lt_of_lt_of_le (by first | assumption | (simp; done) | (simp; omega)) hb1.size); have hs1 := hb1.size; (try simp at hs1))) | (go_at_call 15; ((with_reducible refine (H2.out _).mono ?_); rintro e w' ⟨rfl, rfl⟩)) | (go_at_call 16; (((with_reducible refine (H3.out _).mono ?_)); rintro e w2 ⟨rfl, hb2⟩; obtain ⟨hc2, hf2⟩ := bcell hb2; (try have hq2w : w.heap.size < w2.heap.size := Nat.lt_of_lt_of_le (by first | assumption | (simp; done) | (simp; omega)) hb2.size); have hs2 := hb2.size; (try simp at hs2))) | (go_at_call 14; (((with_reducible refine (H5.out _).mono ?_)); rintro e w3 ⟨rfl, hb3⟩; obtain ⟨hc3, hf3⟩ := bcell hb3; (try have hq3w : w.heap.size < w3.heap.size := Nat.lt_of_lt_of_le (by first | assumption | (simp; done) | (simp; omega)) hb3.size); have hs3 := hb3.size; (try simp at hs3))) | (go_at_call 17; (((with_reducible refine (H4.out _).mono ?_)); rintro e w4 ⟨rfl, hb4⟩; obtain ⟨hc4, hf4⟩ := bcell hb4; (try have hq4w : w.heap.size < w4.heap.size := Nat.lt_of_lt_of_le (by first | assumption | (simp; done) | (simp; omega)) hb4.size); have hs4 := hb4.size; (try simp at hs4))) | (go_at_call 10; (((with_reducible refine (known2_any _).mono ?_)); rintro e w5 ⟨rfl, hb5⟩; obtain ⟨hc5, hf5⟩ := bcell hb5; (try have hq5w : w.heap.size < w5.heap.size := Nat.lt_of_lt_of_le (by first | assumption | (simp; done) | (simp; omega)) hb5.size); have hs5 := hb5.size; (try simp at hs5))))
        go_ret
        exact ⟨rfl, (by repeat (first | exact Below.refl _ _ | assumption | refine Below.setCell ?_ (by first | (simp; done) | omega | (simp; omega) | (simp at *; omega)) _ | refine Below.alloc ?_ (by first | (simp; done) | omega | (simp; omega) | (simp at *; omega)) _ | refine Below.drew ?_ | (refine Below.trans ?_ (Below.mono (by assumption) (by first | (simp; done) | omega | (simp; omega) | (simp at *; omega)))) | (refine Below.trans ?_ (Below.mono (below_regrown _ _ _) (by first | (simp; done) | omega | (simp; omega) | (simp at *; omega))))))⟩

end Go.Proofs.YtiihaiidijmgmaaDoor
