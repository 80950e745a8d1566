/-
  CONTRACTS: the document's Put; what the laws of agg ask beside it: two rows alike, a mean of what is known.
-/
import Derived.Test.YtjaclmhfagdfhaaAgTg
import Derived.Test.YtjaclmhfagdfhaaAgRef
namespace Go.Proofs.Ytjaclmhfagdfhaa
open Go.RowKit Go.Sort
open Fx (Vl)
open Me

set_option maxHeartbeats 1000000 in
theorem refPut_v (kind xff : Int) (l : List Vl) (hl : l.length ≤ 1000000) (v : Value) (w : World) (hv : Sl w v l) :
    Calls Try.prog 15 #[.int .i64 kind, .int .i64 xff, v] w fun e w' => e = .returned (.agg #[.bool (Ag.put kind xff l).ok, .int .i64 (Ag.put kind xff l).n]) ∧ Below w.heap.size w w' := by
  have HK : Hid (∀ W, Below w.heap.size w W → Calls Try.prog 12 #[v] W (Knew W (Ag.kn l))) := Lib.hid fun W hb => refKnown_v l hl v W (hv.below hb)
  have HT : Hid (∀ W, Below w.heap.size w W → Calls Try.prog 9 #[.int .i64 kind, v] W fun e w' => e = .returned (.agg #[.bool (Ag.tg kind (Ag.kn l)).ok, .int .i64 (Ag.tg kind (Ag.kn l)).n]) ∧ Below W.heap.size W w') := Lib.hid fun W hb => refOf_v kind l hl v W (hv.below hb)
  have HE : Hid (∀ W, Calls Try.prog 17 #[.int .i64 xff, .int .i64 ((Ag.kn l).length : Int), .int .i64 (l.length : Int)] W fun e w' => e = .returned (.bool (Ag.en xff ((Ag.kn l).length : Int) (l.length : Int))) ∧ W = w') := Lib.hid fun W => refEnough_any _ _ _ W
  have HQ : Hid (Ag.put kind xff l = if Ag.en xff ((Ag.kn l).length : Int) (l.length : Int) = true then Ag.tg kind (Ag.kn l) else Fx.none) := Lib.hid rfl
  obtain ⟨A, c, rfl⟩ := hv.form
  clear hv
  generalize Ag.en xff ((Ag.kn l).length : Int) (l.length : Int) = en at *
  generalize Ag.put kind xff l = p at *
  generalize Ag.tg kind (Ag.kn l) = q at *
  generalize Ag.kn l = m at *
  obtain ⟨qo, qn⟩ := q
  cases en
  · obtain rfl : p = Fx.none := HQ.out
    go_enter Try.func15, Try.ntmps15
    go_wp2_with first
      | (go_at_call 12; go_must (refine (HK.out _ (by repeat (first | exact Below.refl _ _ | assumption | refine Below.setCell ?_ (by first | (simp; done) | omega | (simp; omega) | (simp at *; omega)) _ | refine Below.alloc ?_ (by first | (simp; done) | omega | (simp; omega) | (simp at *; omega)) _ | refine Below.drew ?_ | (refine Below.trans ?_ (Below.mono (by assumption) (by first | (simp; done) | omega | (simp; omega) | (simp at *; omega)))) | (refine Below.trans ?_ (Below.mono (below_regrown _ _ _) (by first | (simp; done) | omega | (simp; omega) | (simp at *; omega))))))).mono ?_; rintro e w1 ⟨v1, rfl, ho1, hb1⟩; obtain ⟨hc1, hf1⟩ := bcell hb1; have hq1w : w.heap.size < w1.heap.size := Nat.lt_of_lt_of_le (by simp) hb1.size; obtain ⟨A1, c1, rfl⟩ := ho1.slice; clear ho1))
      | (go_at_call 17; go_must (refine (HE.out _).mono ?_; rintro e w' ⟨rfl, rfl⟩))
    exact bodyPost_ret (v := .agg #[.bool false, .int .i64 0]) (by simp [results, Try.results15, go_sem, *]) rfl ⟨rfl, (by repeat (first | exact Below.refl _ _ | assumption | refine Below.setCell ?_ (by first | (simp; done) | omega | (simp; omega) | (simp at *; omega)) _ | refine Below.alloc ?_ (by first | (simp; done) | omega | (simp; omega) | (simp at *; omega)) _ | refine Below.drew ?_ | (refine Below.trans ?_ (Below.mono (by assumption) (by first | (simp; done) | omega | (simp; omega) | (simp at *; omega)))) | (refine Below.trans ?_ (Below.mono (below_regrown _ _ _) (by first | (simp; done) | omega | (simp; omega) | (simp at *; omega))))))⟩
  · obtain rfl : p = ⟨qo, qn⟩ := HQ.out
    go_enter Try.func15, Try.ntmps15
    go_wp2_with first
      | (go_at_call 12; go_must (refine (HK.out _ (by repeat (first | exact Below.refl _ _ | assumption | refine Below.setCell ?_ (by first | (simp; done) | omega | (simp; omega) | (simp at *; omega)) _ | refine Below.alloc ?_ (by first | (simp; done) | omega | (simp; omega) | (simp at *; omega)) _ | refine Below.drew ?_ | (refine Below.trans ?_ (Below.mono (by assumption) (by first | (simp; done) | omega | (simp; omega) | (simp at *; omega)))) | (refine Below.trans ?_ (Below.mono (below_regrown _ _ _) (by first | (simp; done) | omega | (simp; omega) | (simp at *; omega))))))).mono ?_; rintro e w1 ⟨v1, rfl, ho1, hb1⟩; obtain ⟨hc1, hf1⟩ := bcell hb1; have hq1w : w.heap.size < w1.heap.size := Nat.lt_of_lt_of_le (by simp) hb1.size; have HW1 : Hid (Below w.heap.size w w1) := Lib.hid (lowBox' (hb1.mono (by simp))); obtain ⟨A1, c1, rfl⟩ := ho1.slice; clear ho1))
      | (go_at_call 17; go_must (refine (HE.out _).mono ?_; rintro e w' ⟨rfl, rfl⟩))
      | (go_at_call 9; (((with_reducible refine (HT.out _ HW1.out).mono ?_)); rintro e w2 ⟨rfl, hb2⟩; obtain ⟨hc2, hf2⟩ := bcell hb2; (try have hq2w : w.heap.size < w2.heap.size := Nat.lt_of_lt_of_le (by first | assumption | (simp; done) | (simp; omega)) hb2.size); (try have hq2w1 : w1.heap.size < w2.heap.size := Nat.lt_of_lt_of_le (by first | assumption | (simp; done) | (simp; omega)) hb2.size); have hs2 := hb2.size; (try simp at hs2)))
    exact bodyPost_ret (v := .agg #[.bool qo, .int .i64 qn]) (by simp [results, Try.results15, go_sem, *]) rfl ⟨rfl, (by repeat (first | exact Below.refl _ _ | assumption | refine Below.setCell ?_ (by first | (simp; done) | omega | (simp; omega) | (simp at *; omega)) _ | refine Below.alloc ?_ (by first | (simp; done) | omega | (simp; omega) | (simp at *; omega)) _ | refine Below.drew ?_ | (refine Below.trans ?_ (Below.mono (by assumption) (by first | (simp; done) | omega | (simp; omega) | (simp at *; omega)))) | (refine Below.trans ?_ (Below.mono (below_regrown _ _ _) (by first | (simp; done) | omega | (simp; omega) | (simp at *; omega))))))⟩

/-- What every law asks at its end: true. -/
theorem put_known : Ag.put 1 500000 [⟨true, 1000000⟩, ⟨false, 0⟩, ⟨true, 3000000⟩] = ⟨true, 2000000⟩ := by rfl
set_option maxHeartbeats 1000000 in
theorem known6_any (w : World) : Calls Try.prog 13 #[] w fun e w' => e = .returned (.bool true) ∧ Below w.heap.size w w' := by
  have HP : Hid (∀ W : World, Calls Try.prog 14 #[.int .i64 1, .int .i64 500000, .slice (some ⟨W.heap.size, 0, none⟩) 3 3] (W.alloc (.cells #[.bool true, .int .i64 1000000, .bool false, .int .i64 0, .bool true, .int .i64 3000000] 24)) fun e w' => e = .returned (.agg #[.bool true, .int .i64 2000000]) ∧ Below (W.alloc (.cells #[.bool true, .int .i64 1000000, .bool false, .int .i64 0, .bool true, .int .i64 3000000] 24)).heap.size (W.alloc (.cells #[.bool true, .int .i64 1000000, .bool false, .int .i64 0, .bool true, .int .i64 3000000] 24)) w') := Lib.hid fun W => by
    have hv : Vals (W.alloc (.cells #[.bool true, .int .i64 1000000, .bool false, .int .i64 0, .bool true, .int .i64 3000000] 24)) W.heap.size 0 [⟨true, 1000000⟩, ⟨false, 0⟩, ⟨true, 3000000⟩] := by
      refine ⟨by simp, ?_, ?_⟩
      all_goals
        intro i hi
        have : i = 0 ∨ i = 1 ∨ i = 2 := by simp at hi; omega
        rcases this with rfl | rfl | rfl <;> simp [go_sem]
    have h := put_v 1 500000 [⟨true, 1000000⟩, ⟨false, 0⟩, ⟨true, 3000000⟩] (by decide) _ _ (Sl.some (cap := 3) (by decide) hv)
    rw [put_known] at h
    exact h
  go_enter Try.func13, Try.ntmps13
  go_wp2_with (go_at_call 14; go_must (refine (HP.out _).mono ?_; rintro e w' ⟨rfl, hb⟩; obtain ⟨hc, hf⟩ := bcell hb; (try have hz0 : w.heap.size < w'.heap.size := Nat.lt_of_lt_of_le (by first | assumption | (simp; done) | (simp; omega)) hb.size); (try have hz1 : w.heap.size + 1 < w'.heap.size := Nat.lt_of_lt_of_le (by first | assumption | (simp; done) | (simp; omega)) hb.size); (try have hz2 : w.heap.size + 1 + 1 < w'.heap.size := Nat.lt_of_lt_of_le (by first | assumption | (simp; done) | (simp; omega)) hb.size); have hz := hb.size; (try simp at hz)))
  go_ret
  exact ⟨rfl, (by repeat (first | exact Below.refl _ _ | assumption | refine Below.setCell ?_ (by first | (simp; done) | omega | (simp; omega) | (simp at *; omega)) _ | refine Below.alloc ?_ (by first | (simp; done) | omega | (simp; omega) | (simp at *; omega)) _ | refine Below.drew ?_ | (refine Below.trans ?_ (Below.mono (by assumption) (by first | (simp; done) | omega | (simp; omega) | (simp at *; omega)))) | (refine Below.trans ?_ (Below.mono (below_regrown _ _ _) (by first | (simp; done) | omega | (simp; omega) | (simp at *; omega))))))⟩

set_option maxHeartbeats 1000000 in
theorem vals_some (l : List Vl) (hl : l.length ≤ 1000000) (b off cap b2 off2 cap2 : Nat) (w : World) (hv : Vals w b off l) (hv2 : Vals w b2 off2 l) :
    Calls Try.prog 10 #[.slice (some ⟨b, off, none⟩) l.length cap, .slice (some ⟨b2, off2, none⟩) l.length cap2] w fun e w' => e = .returned (.bool true) ∧ Below w.heap.size w w' := by
  go_enter Try.func10, Try.ntmps10
  go_wp2_with fail
  go_loopw [5] (fun i wr => ∃ k : Nat, k ≤ l.length ∧ i = .int .i64 k ∧ Below w.heap.size w wr) (fun i _ => l.length - (intOf i).toNat)
  case atStart => exact ⟨0, Nat.zero_le _, rfl, Below.refl _ _⟩
  case round =>
    obtain ⟨k, hk, rfl, hR⟩ := hrel
    by_cases hlt : k < l.length
    · have hvr := hv.below hR
      have hvs := hv2.below hR
      have ec0 := hvr.ok k hlt
      have ec1 := hvr.n k hlt
      have em0 := hvs.ok k hlt
      have em1 := hvs.n k hlt
      have HR := Lib.hid hR
      clear hR hvr hvs
      generalize l[k] = ek at *
      obtain ⟨eo, en⟩ := ek
      have hk0 : (0 : Int) ≤ (k : Int) := by omega
      have hkl : (k : Int) < (l.length : Int) := by omega
      go_wp2_with fail
      go_quiet (fail)
      go_wp2
      go_roundw
      case rel => exact ⟨k + 1, by omega, by go_num, HR.out.trans (below_drewN _ _ _)⟩
      case measure => simp [intOf]; omega
    · obtain rfl : k = l.length := by omega
      have HR := Lib.hid hR
      clear hR
      go_wp2
      go_ret
      exact ⟨rfl, HR.out⟩

set_option maxHeartbeats 1000000 in
theorem vals_zero (x : Option Addr) (cap : Nat) (x2 : Option Addr) (cap2 : Nat) (w : World) :
    Calls Try.prog 10 #[.slice x 0 cap, .slice x2 0 cap2] w fun e w' => e = .returned (.bool true) ∧ Below w.heap.size w w' := by
  go_enter Try.func10, Try.ntmps10
  go_wp2_with fail
  go_loopw [5] (fun i wr => i = .int .i64 0 ∧ Below w.heap.size w wr) (fun i _ => 0)
  case atStart => exact ⟨rfl, Below.refl _ _⟩
  case round =>
    obtain ⟨rfl, hR⟩ := hrel
    have HR := Lib.hid hR
    clear hR
    go_wp2
    go_ret
    exact ⟨rfl, HR.out⟩
/-- Two rows of the same values. -/
theorem vals_v (l : List Vl) (hl : l.length ≤ 1000000) (v v2 : Value) (w : World) (hv : Sl w v l) (hv2 : Sl w v2 l) :
    Calls Try.prog 10 #[v, v2] w fun e w' => e = .returned (.bool true) ∧ Below w.heap.size w w' := by
  rcases hv with ⟨rfl, x, cap, rfl⟩ | ⟨h0, b, off, cap, rfl, hv⟩
  · rcases hv2 with ⟨_, x2, cap2, rfl⟩ | ⟨h0, _⟩
    · exact vals_zero _ _ _ _ w
    · cases h0
  · rcases hv2 with ⟨rfl, _⟩ | ⟨_, b2, off2, cap2, rfl, hv2⟩
    · cases h0
    · exact vals_some l hl _ _ _ _ _ _ w hv hv2
end Go.Proofs.Ytjaclmhfagdfhaa
