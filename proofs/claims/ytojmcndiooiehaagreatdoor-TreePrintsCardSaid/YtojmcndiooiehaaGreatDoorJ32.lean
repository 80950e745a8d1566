/-
  DcRPa: CONTRACTS: the document's own Parse, for every text.
-/
import Derived.Test.YtojmcndiooiehaaGreatDoorJ29
import Derived.Test.YtojmcndiooiehaaGreatDoorJ30
import Derived.Test.YtojmcndiooiehaaGreatDoorJ31

set_option linter.unusedSimpArgs false
set_option linter.unusedVariables false
namespace Go.Proofs.YtojmcndiooiehaaGreatDoor
set_option maxRecDepth 20000
open Go.RowKit

namespace Dc
theorem wholeGo_spec (l : List UInt8) : ∀ n, allD l = true → (∀ m, wholeGo n l = some m → m = numFrom n l) ∧ (wholeGo n l = none → 461168601842738789 < numFrom n l) := by
  induction l with
  | nil => intro n _; exact ⟨fun m h => by injection h with h; exact h.symm, fun h => by cases h⟩
  | cons c r ih =>
    intro n h
    rw [allD_cons, Bool.and_eq_true] at h
    have e : numFrom n (c :: r) = numFrom (n * 10 + (c.toNat - 48)) r := rfl
    rw [wholeGo, e]
    by_cases hn : n ≤ 461168601842738789
    · rw [if_pos ⟨h.1, hn⟩]
      exact ih _ h.2
    · rw [if_neg (by rintro ⟨_, h⟩; exact hn h)]
      refine ⟨fun m h => by (cases h), fun _ => ?_⟩
      rw [numFrom_eq]
      have : 1 ≤ 10 ^ r.length := Nat.one_le_pow _ _ (by decide)
      have := Nat.mul_le_mul_left (n * 10 + (c.toNat - 48)) this
      omega
theorem whole_yes {a : List UInt8} (h : all a = true) (hb : wholeB (strip a) = true) : wholeN (strip a) = (num a : Int) := by
  obtain ⟨hd, hn⟩ := all_split h
  have hs := wholeGo_spec (strip a) 0 (allD_strip a hd)
  unfold wholeN
  unfold wholeB at hb
  cases hw : wholeGo 0 (strip a) with
  | none => rw [hw] at hb; cases hb
  | some m =>
    have := hs.1 m hw
    rw [num_ex, num_strip] at this
    rw [this]
theorem whole_no {a : List UInt8} (h : all a = true) (hb : wholeB (strip a) = false) : 461168601842738789 < num a := by
  obtain ⟨hd, hn⟩ := all_split h
  have hs := wholeGo_spec (strip a) 0 (allD_strip a hd)
  unfold wholeB at hb
  cases hw : wholeGo 0 (strip a) with
  | none =>
    have := hs.2 hw
    rwa [num_ex, num_strip] at this
  | some m => rw [hw] at hb; simp at hb; exact absurd hb (strip_ne a hn)
theorem wholeN_nonneg (l : List UInt8) : 0 ≤ wholeN l := by
  unfold wholeN
  split <;> omega
theorem frac_le {b : List UInt8} (h : allD b = true) : frac b ≤ 1000000 := by
  have := fr_lt h 6
  unfold frac
  split <;> omega
/-- The fraction, where there are digits. -/
def frD (b : List UInt8) : Int := if allD b then (frac b : Int) else 0
theorem frD_yes {b : List UInt8} (h : allD b = true) : frD b = (frac b : Int) := by unfold frD; rw [if_pos h]
theorem frD_le (b : List UInt8) : 0 ≤ frD b ∧ frD b ≤ 1000000 := by
  unfold frD
  split
  · rename_i h; have := frac_le h; omega
  · omega
theorem rp_pr (l u : List UInt8) (hu : unsign l = u) :
    rpOk (dotted u) (all (ahead u)) (all (behind u)) (wholeB (strip (ahead u))) (wholeN (strip (ahead u))) (frD (behind u)) = prOk l ∧
    rpV (minus l) (dotted u) (all (ahead u)) (all (behind u)) (wholeB (strip (ahead u))) (wholeN (strip (ahead u))) (frD (behind u)) = prV l := by
  subst hu
  have hfo : ∀ x y : Bool, (form (unsign l) = true → x = y) → (form (unsign l) && x) = (form (unsign l) && y) := by
    intro x y h
    cases hf : form (unsign l)
    · rfl
    · rw [h hf]
  have facts : form (unsign l) = true → all (ahead (unsign l)) = true ∧ allD (behind (unsign l)) = true := by
    intro h
    unfold form at h
    rw [Bool.and_eq_true] at h
    refine ⟨h.1, ?_⟩
    cases hd : dotted (unsign l)
    · rw [(undotted hd).2]; rfl
    · rw [hd] at h
      simp only [Bool.not_true, Bool.false_or] at h
      exact (all_split h.2).1
  have e1 : rpOk (dotted (unsign l)) (all (ahead (unsign l))) (all (behind (unsign l))) (wholeB (strip (ahead (unsign l)))) (wholeN (strip (ahead (unsign l)))) (frD (behind (unsign l))) = prOk l := by
    unfold prOk rpOk
    have : (all (ahead (unsign l)) && (!dotted (unsign l) || all (behind (unsign l)))) = form (unsign l) := rfl
    rw [this]
    apply hfo
    intro h
    obtain ⟨ha, hb⟩ := facts h
    rw [frD_yes hb]
    have hfl := frac_le hb
    unfold prN
    cases hw : wholeB (strip (ahead (unsign l)))
    · have := whole_no ha hw
      symm
      rw [Bool.false_and, Bool.false_and, decide_eq_false_iff_not]
      omega
    · rw [whole_yes ha hw, Bool.true_and, Bool.eq_iff_iff, Bool.and_eq_true, decide_eq_true_eq, decide_eq_true_eq, decide_eq_true_eq]
      omega
  refine ⟨e1, ?_⟩
  unfold rpV prV
  rw [e1]
  cases hok : prOk l
  · rfl
  · have hform : form (unsign l) = true := by unfold prOk at hok; rw [Bool.and_eq_true] at hok; exact hok.1
    obtain ⟨ha, hb⟩ := facts hform
    have hw : wholeB (strip (ahead (unsign l))) = true := by
      rw [← e1] at hok
      unfold rpOk at hok
      simp only [Bool.and_eq_true] at hok
      exact hok.2.1.1
    rw [frD_yes hb, whole_yes ha hw]
    unfold prN
    simp only [if_true]
    split <;> omega
end Dc

set_option maxHeartbeats 400000 in
theorem refParse_nil (w : World) :
    Calls Tryz.prog 47 #[.string ⟨[].toArray⟩] w fun e w' => e = .returned (.tuple #[.agg #[.bool false, .int .i64 0], .bool false]) ∧ Below w.heap.size w w' := by
  have HA : Hid (∀ W, Calls Tryz.prog 69 #[.string ⟨[].toArray⟩] W fun e w' => e = .returned (.bool false) ∧ W = w') := Lib.hid fun W => all_any [] (by simp) W
  go_enter Tryz.func47, Tryz.ntmps47
  go_wp2_with fail
  go_loop [5, 6, 7, 8] (fun x y z i => i = .int .i64 0 ∧ x = .string ⟨[].toArray⟩ ∧ y = .string ⟨[].toArray⟩ ∧ z = .bool false) (fun _ _ _ _ => 0)
  case atStart => exact ⟨rfl, rfl, rfl, rfl⟩
  case round =>
    obtain ⟨rfl, rfl, rfl, rfl⟩ := hrel
    go_wp2_with (go_at_call 69; ((with_reducible refine (HA.out _).mono ?_); rintro e w' ⟨rfl, rfl⟩))
    exact bodyPost_ret (v := .tuple #[.agg #[.bool false, .int .i64 0], .bool false]) (by simp [results, Tryz.results47, go_sem, *]) rfl ⟨rfl, (by repeat (first | exact Below.refl _ _ | assumption | refine Below.setCell ?_ (by first | (simp; done) | omega | (simp; omega) | (simp at *; omega)) _ | refine Below.alloc ?_ (by first | (simp; done) | omega | (simp; omega) | (simp at *; omega)) _ | refine Below.drew ?_ | (refine Below.trans ?_ (Below.mono (by assumption) (by first | (simp; done) | omega | (simp; omega) | (simp at *; omega)))) | (refine Below.trans ?_ (Below.mono (below_regrown _ _ _) (by first | (simp; done) | omega | (simp; omega) | (simp at *; omega))))))⟩

theorem byte_not {c d : UInt8} {r : List UInt8} (h : c ≠ d) : ((((⟨(c :: r).toArray⟩ : ByteArray)[0]'(by simp [ByteArray.size])).toNat : Int) == (d.toNat : Int)) = false := by
  show (((c.toNat : Int) == (d.toNat : Int))) = false
  rw [beq_eq_false_iff_ne]
  intro e
  exact h (UInt8.toNat_inj.1 (by exact_mod_cast e))

theorem refParse_any (l : List UInt8) (hl : l.length ≤ 4294967280) (w : World) :
    Calls Tryz.prog 47 #[.string ⟨l.toArray⟩] w fun e w' => e = .returned (.tuple #[.agg #[.bool (Dc.prOk l), .int .i64 (Dc.prV l)], .bool (Dc.prOk l)]) ∧ Below w.heap.size w w' := by
  by_cases hnil : l = []
  · subst hnil; exact refParse_nil w
  obtain ⟨u, hu⟩ : ∃ u, Dc.unsign l = u := ⟨_, rfl⟩
  obtain ⟨r1, r2⟩ := Dc.rp_pr l u hu
  have lu : u.length ≤ 4294967280 := by rw [← hu]; exact Nat.le_trans (Dc.unsign_len l) hl
  have la : (Dc.ahead u).length ≤ 4611686018427387904 := Nat.le_trans (Dc.ahead_len u) (by omega)
  have lb : (Dc.behind u).length ≤ 4611686018427387904 := Nat.le_trans (Dc.behind_len u) (by omega)
  have ls : (Dc.strip (Dc.ahead u)).length ≤ 4611686018427387904 := by
    have h : ∀ x : List UInt8, (Dc.strip x).length ≤ x.length := by
      intro x
      induction x with
      | nil => simp [Dc.strip]
      | cons c r ih =>
        cases r with
        | nil => simp [Dc.strip]
        | cons d r => rw [Dc.strip]; split; exact Nat.le_trans ih (by simp); exact Nat.le_refl _
    exact Nat.le_trans (h _) la
  have HA := Lib.hid (fun W => all_any (Dc.ahead u) la W)
  have HB := Lib.hid (fun W => all_any (Dc.behind u) lb W)
  have HS := Lib.hid (fun W => strip_any (Dc.ahead u) W)
  have HW := Lib.hid (fun W => whole_any (Dc.strip (Dc.ahead u)) ls W)
  have n0 := Dc.wholeN_nonneg (Dc.strip (Dc.ahead u))
  obtain ⟨f0, f1⟩ := Dc.frD_le (Dc.behind u)
  have HF : Dc.allD (Dc.behind u) = true → ∀ W, Calls Tryz.prog 73 #[.string ⟨(Dc.behind u).toArray⟩] W fun e w' => e = .returned (.int .i64 (Dc.frD (Dc.behind u))) ∧ W = w' := by
    intro h W
    rw [Dc.frD_yes h]
    exact fraction_any (Dc.behind u) lb (Lib.hid h) W
  have hna : Hid (∀ k (_ : k < (Dc.ahead u).length) (h : k < u.length), u[k] ≠ 46) := Lib.hid fun k h1 h2 => Dc.ahead_not h1 h2
  rw [← r1, ← r2]
  cases hd : Dc.dotted u
  · obtain ⟨d1, d2⟩ := Dc.undotted hd
    have hps : (Dc.ahead u).length = u.length := by rw [d1]
    have HF2 := Lib.hid (HF (by rw [d2]; rfl))
    by_cases hm : Dc.minus l = true
    · obtain ⟨c, r, rfl⟩ : ∃ c r, l = c :: r := by cases l with | nil => exact absurd rfl hnil | cons c r => exact ⟨c, r, rfl⟩
      have hc : c = 45 := by simpa [Dc.minus] using hm
      subst hc
      obtain rfl : r = u := hu
      exact refParse_minus_false r _ _ _ _ _ _ _ _ lu hna hps (Lib.hid d1.symm) (Lib.hid d2.symm) HA HS HW HF2 n0 f0 f1 w
    · have hm' : Dc.minus l = false := by simpa using hm
      obtain ⟨c, r, rfl⟩ : ∃ c r, l = c :: r := by cases l with | nil => exact absurd rfl hnil | cons c r => exact ⟨c, r, rfl⟩
      have hc : c ≠ 45 := by simpa [Dc.minus] using hm'
      rw [hm']
      by_cases h43 : c = 43
      · subst h43
        obtain rfl : r = u := hu
        exact refParse_plus_false r _ _ _ _ _ _ _ _ lu hna hps (Lib.hid d1.symm) (Lib.hid d2.symm) HA HS HW HF2 n0 f0 f1 w
      · have hu2 : c :: r = u := by rw [← hu]; unfold Dc.unsign; simp [hc, h43]
        subst hu2
        exact refParse_none_false (c :: r) _ _ _ _ _ _ _ _ lu (by simp) (byte_not hc) (byte_not h43) hna hps (Lib.hid d1.symm) (Lib.hid d2.symm) HA HS HW HF2 n0 f0 f1 w
  · have hps := Dc.dotted_len hd
    have hat := Lib.hid (Dc.dot_at hd (by omega))
    have hxa := Lib.hid (Dc.ahead_take u)
    have hxb := Lib.hid (Dc.behind_drop u)
    have HF2 := Lib.hid (fun h : Dc.all (Dc.behind u) = true => HF (Dc.all_split h).1)
    by_cases hm : Dc.minus l = true
    · obtain ⟨c, r, rfl⟩ : ∃ c r, l = c :: r := by cases l with | nil => exact absurd rfl hnil | cons c r => exact ⟨c, r, rfl⟩
      have hc : c = 45 := by simpa [Dc.minus] using hm
      subst hc
      obtain rfl : r = u := hu
      exact refParse_minus_true r _ _ _ _ _ _ _ _ lu hna (by omega) hat hxa hxb HA HB HS HW HF2 n0 f0 f1 w
    · have hm' : Dc.minus l = false := by simpa using hm
      obtain ⟨c, r, rfl⟩ : ∃ c r, l = c :: r := by cases l with | nil => exact absurd rfl hnil | cons c r => exact ⟨c, r, rfl⟩
      have hc : c ≠ 45 := by simpa [Dc.minus] using hm'
      rw [hm']
      by_cases h43 : c = 43
      · subst h43
        obtain rfl : r = u := hu
        exact refParse_plus_true r _ _ _ _ _ _ _ _ lu hna (by omega) hat hxa hxb HA HB HS HW HF2 n0 f0 f1 w
      · have hu2 : c :: r = u := by rw [← hu]; unfold Dc.unsign; simp [hc, h43]
        subst hu2
        exact refParse_none_true (c :: r) _ _ _ _ _ _ _ _ lu (by simp) (byte_not hc) (byte_not h43) hna (by omega) hat hxa hxb HA HB HS HW HF2 n0 f0 f1 w

end Go.Proofs.YtojmcndiooiehaaGreatDoor
