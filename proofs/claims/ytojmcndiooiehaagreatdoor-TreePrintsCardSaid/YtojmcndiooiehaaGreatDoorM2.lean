/-
  DcRPr: CONTRACTS: the document's own Print.
-/
import Derived.Test.YtojmcndiooiehaaGreatDoorJ23

set_option linter.unusedSimpArgs false
set_option linter.unusedVariables false
namespace Go.Proofs.YtojmcndiooiehaaGreatDoor
set_option maxRecDepth 20000
open Go.RowKit

namespace Dc
theorem trimZ_pos {m : List UInt8} (h : trimZ m ≠ []) : 0 < m.length := by
  match m with
  | [] => exact absurd rfl h
  | _ :: _ => simp
theorem fracText_pos {n : Nat} (h : n ≠ 0) : fracText n = 46 :: trimZ (six n) := by unfold fracText; rw [if_neg h]
end Dc

set_option maxHeartbeats 800000 in
theorem refPrint_neg (n : Int) (h0 : 0 < n) (h1 : n ≤ 4611686018427387904) (w : World) :
    Calls Tryz.prog 42 #[.agg #[.bool true, .int .i64 (-n)]] w fun e w' => e = .returned (.string ⟨(Dc.pr true (-n)).toArray⟩) ∧ Below w.heap.size w w' := by
  have hk : Fx.inR (-n) = true := Fx.inR_yes (by omega) (by omega)
  have HI := Lib.hid (fun W => known1_any true (-n) W)
  rw [Fx.num_yes hk] at HI
  have hpr : Hid (Dc.pr true (-n) = [45] ++ (Dc.plain (n.toNat / 1000000) ++ Dc.fracText (n.toNat % 1000000))) := by
    apply Lib.hid
    unfold Dc.pr Dc.sgn
    rw [if_pos (by rw [Dc.knownB_num]; exact Fx.num_yes hk), if_pos (by omega), show (-n).natAbs = n.toNat by omega]
    rfl
  have l1 := Dc.plain_length (n.toNat / 1000000)
  have D1 := fun W => digits_any ((n.toNat / 1000000 : Nat) : Int) (by omega) (by omega) W
  have e1 : ((n.toNat / 1000000 : Nat) : Int) = n / 1000000 := by omega
  rw [Dc.digits_nat, e1] at D1
  have HD := Lib.hid D1
  clear D1 e1 hk
  by_cases hf0 : n.toNat % 1000000 = 0
  · have hm : n % 1000000 = 0 := by omega
    have hq0 : Hid (Dc.fracText (n.toNat % 1000000) = []) := Lib.hid (by rw [hf0]; rfl)
    have hb : ((n % 1000000) == 0) = true := by simpa using hm
    clear hf0 hm
    generalize Dc.fracText (n.toNat % 1000000) = q at *
    generalize Dc.plain (n.toNat / 1000000) = p at *
    go_enter Tryz.func42, Tryz.ntmps42
    go_wp2_with (first | (go_at_call 64; go_must (refine (HI.out _).mono ?_; rintro e w' ⟨rfl, hb⟩; obtain ⟨hc, hf⟩ := bcell hb; (try have hz0 : w.heap.size < w'.heap.size := Nat.lt_of_lt_of_le (by first | assumption | (simp; done) | (simp; omega)) hb.size); (try have hz1 : w.heap.size + 1 < w'.heap.size := Nat.lt_of_lt_of_le (by first | assumption | (simp; done) | (simp; omega)) hb.size); (try have hz2 : w.heap.size + 1 + 1 < w'.heap.size := Nat.lt_of_lt_of_le (by first | assumption | (simp; done) | (simp; omega)) hb.size); have hz := hb.size; (try simp at hz))) | (go_at_call 65; (((with_reducible refine (HD.out _).mono ?_)); rintro e w' ⟨rfl, hb⟩; obtain ⟨hc, hf⟩ := bcell hb; (try have hz0 : w.heap.size < w'.heap.size := Nat.lt_of_lt_of_le (by first | assumption | (simp; done) | (simp; omega)) hb.size); (try have hz1 : w.heap.size + 1 < w'.heap.size := Nat.lt_of_lt_of_le (by first | assumption | (simp; done) | (simp; omega)) hb.size); (try have hz2 : w.heap.size + 1 + 1 < w'.heap.size := Nat.lt_of_lt_of_le (by first | assumption | (simp; done) | (simp; omega)) hb.size); have hz := hb.size; (try simp at hz))))
    go_ret
    exact ⟨ret_str (by rw [hpr.out, hq0.out]; rw [List.append_nil, cat_mk [45] p]), (by repeat (first | exact Below.refl _ _ | assumption | refine Below.setCell ?_ (by first | (simp; done) | omega | (simp; omega) | (simp at *; omega)) _ | refine Below.alloc ?_ (by first | (simp; done) | omega | (simp; omega) | (simp at *; omega)) _ | refine Below.drew ?_ | (refine Below.trans ?_ (Below.mono (by assumption) (by first | (simp; done) | omega | (simp; omega) | (simp at *; omega)))) | (refine Below.trans ?_ (Below.mono (below_regrown _ _ _) (by first | (simp; done) | omega | (simp; omega) | (simp at *; omega))))))⟩
  · have hfr : Hid (Dc.fracText (n.toNat % 1000000) = 46 :: Dc.trimZ (Dc.six (n.toNat % 1000000))) := Lib.hid (Dc.fracText_pos hf0)
    have hb : ((n % 1000000) == 0) = false := by rw [beq_eq_false_iff_ne]; omega
    have hs6 := Dc.six_len (n := n.toNat % 1000000) (by omega)
    have hne := Lib.hid (Dc.trim_six_ne (n := n.toNat % 1000000) (by omega) hf0)
    have D2 := fun W => digits_any ((1000000 + n.toNat % 1000000 : Nat) : Int) (by omega) (by omega) W
    have e2 : ((1000000 + n.toNat % 1000000 : Nat) : Int) = 1000000 + n % 1000000 := by omega
    have l7 := Dc.plain_len7 (u := 1000000 + n.toNat % 1000000) (by omega) (by omega)
    have hx : (⟨(Dc.plain (1000000 + n.toNat % 1000000)).toArray⟩ : ByteArray).extract 1 7 = ⟨(Dc.six (n.toNat % 1000000)).toArray⟩ := by
      rw [ext_from _ _ _ (by omega)]; rfl
    rw [Dc.digits_nat, e2] at D2
    have HD2 := Lib.hid D2
    have hs6' : (Dc.six (n.toNat % 1000000)).length ≤ 6 := by omega
    clear D2 e2 hf0 hs6
    generalize Dc.fracText (n.toNat % 1000000) = q at *
    generalize Dc.plain (n.toNat / 1000000) = p at *
    generalize Dc.plain (1000000 + n.toNat % 1000000) = p7 at *
    generalize Dc.six (n.toNat % 1000000) = s6 at *
    go_enter Tryz.func42, Tryz.ntmps42
    go_wp2_with (first | (go_at_call 64; go_must (refine (HI.out _).mono ?_; rintro e w' ⟨rfl, hb⟩; obtain ⟨hc, hf⟩ := bcell hb; (try have hz0 : w.heap.size < w'.heap.size := Nat.lt_of_lt_of_le (by first | assumption | (simp; done) | (simp; omega)) hb.size); (try have hz1 : w.heap.size + 1 < w'.heap.size := Nat.lt_of_lt_of_le (by first | assumption | (simp; done) | (simp; omega)) hb.size); (try have hz2 : w.heap.size + 1 + 1 < w'.heap.size := Nat.lt_of_lt_of_le (by first | assumption | (simp; done) | (simp; omega)) hb.size); have hz := hb.size; (try simp at hz))) | (go_at_call 65; (((with_reducible refine (HD.out _).mono ?_)); rintro e w' ⟨rfl, hb⟩; obtain ⟨hc, hf⟩ := bcell hb; (try have hz0 : w.heap.size < w'.heap.size := Nat.lt_of_lt_of_le (by first | assumption | (simp; done) | (simp; omega)) hb.size); (try have hz1 : w.heap.size + 1 < w'.heap.size := Nat.lt_of_lt_of_le (by first | assumption | (simp; done) | (simp; omega)) hb.size); (try have hz2 : w.heap.size + 1 + 1 < w'.heap.size := Nat.lt_of_lt_of_le (by first | assumption | (simp; done) | (simp; omega)) hb.size); have hz := hb.size; (try simp at hz))) | (go_at_call 65; (((with_reducible refine (HD2.out _).mono ?_)); rintro e w' ⟨rfl, hb⟩; obtain ⟨hc, hf⟩ := bcell hb; (try have hz0 : w.heap.size < w'.heap.size := Nat.lt_of_lt_of_le (by first | assumption | (simp; done) | (simp; omega)) hb.size); (try have hz1 : w.heap.size + 1 < w'.heap.size := Nat.lt_of_lt_of_le (by first | assumption | (simp; done) | (simp; omega)) hb.size); (try have hz2 : w.heap.size + 1 + 1 < w'.heap.size := Nat.lt_of_lt_of_le (by first | assumption | (simp; done) | (simp; omega)) hb.size); have hz := hb.size; (try simp at hz))))
    go_loop [6] (fun s => ∃ m : List UInt8, m.length ≤ 6 ∧ s = .string ⟨m.toArray⟩ ∧ Hid (Dc.trimZ m = Dc.trimZ s6)) (fun s => strLen s)
    case atStart => exact ⟨s6, hs6', rfl, Lib.hid rfl⟩
    case round =>
      obtain ⟨m, hm, rfl, hs⟩ := hrel
      have h0 : 0 < m.length := Dc.trimZ_pos (by rw [hs.out]; exact hne.out)
      have hxx : m.length - 1 < m.length := by omega
      have h0' : (1 : Int) ≤ (m.length : Int) := by omega
      by_cases hc : m[m.length - 1] = 48
      · have hb : (((⟨m.toArray⟩ : ByteArray)[m.length - 1]'hxx).toNat == 48) = true := by
          show (m[m.length - 1].toNat == 48) = true
          rw [hc]; rfl
        have HT := Lib.hid (Dc.trimZ_last h0 hc)
        clear hc
        go_wp2
        go_round
        case rel =>
          refine ⟨m.take (m.length - 1), by simp; omega, ?_, Lib.hid (HT.out.trans hs.out)⟩
          rw [ext_mk]; rfl
        case measure => simp [strLen, ByteArray.size]; omega
      · have hb : (((⟨m.toArray⟩ : ByteArray)[m.length - 1]'hxx).toNat == 48) = false := by
          show (m[m.length - 1].toNat == 48) = false
          simp
          intro h
          exact hc (UInt8.toNat_inj.1 h)
        have HT := Lib.hid (Dc.trimZ_stop h0 hc)
        clear hc
        go_wp2
        go_ret
        exact ⟨ret_str (by rw [hpr.out, hfr.out, ← hs.out, HT.out]; rw [cat_mk [45] p, cat_mk _ [46], cat_mk]; simp), (by repeat (first | exact Below.refl _ _ | assumption | refine Below.setCell ?_ (by first | (simp; done) | omega | (simp; omega) | (simp at *; omega)) _ | refine Below.alloc ?_ (by first | (simp; done) | omega | (simp; omega) | (simp at *; omega)) _ | refine Below.drew ?_ | (refine Below.trans ?_ (Below.mono (by assumption) (by first | (simp; done) | omega | (simp; omega) | (simp at *; omega)))) | (refine Below.trans ?_ (Below.mono (below_regrown _ _ _) (by first | (simp; done) | omega | (simp; omega) | (simp at *; omega))))))⟩

set_option maxHeartbeats 800000 in
theorem refPrint_pos (n : Int) (h0 : 0 ≤ n) (h1 : n ≤ 4611686018427387904) (w : World) :
    Calls Tryz.prog 42 #[.agg #[.bool true, .int .i64 (n)]] w fun e w' => e = .returned (.string ⟨(Dc.pr true (n)).toArray⟩) ∧ Below w.heap.size w w' := by
  have hk : Fx.inR (n) = true := Fx.inR_yes (by omega) (by omega)
  have HI := Lib.hid (fun W => known1_any true (n) W)
  rw [Fx.num_yes hk] at HI
  have hpr : Hid (Dc.pr true (n) = (Dc.plain (n.toNat / 1000000) ++ Dc.fracText (n.toNat % 1000000))) := by
    apply Lib.hid
    unfold Dc.pr Dc.sgn
    rw [if_pos (by rw [Dc.knownB_num]; exact Fx.num_yes hk), if_neg (by omega), List.nil_append, show (n).natAbs = n.toNat by omega]
    rfl
  have l1 := Dc.plain_length (n.toNat / 1000000)
  have D1 := fun W => digits_any ((n.toNat / 1000000 : Nat) : Int) (by omega) (by omega) W
  have e1 : ((n.toNat / 1000000 : Nat) : Int) = n / 1000000 := by omega
  rw [Dc.digits_nat, e1] at D1
  have HD := Lib.hid D1
  clear D1 e1 hk
  by_cases hf0 : n.toNat % 1000000 = 0
  · have hm : n % 1000000 = 0 := by omega
    have hq0 : Hid (Dc.fracText (n.toNat % 1000000) = []) := Lib.hid (by rw [hf0]; rfl)
    have hb : ((n % 1000000) == 0) = true := by simpa using hm
    clear hf0 hm
    generalize Dc.fracText (n.toNat % 1000000) = q at *
    generalize Dc.plain (n.toNat / 1000000) = p at *
    go_enter Tryz.func42, Tryz.ntmps42
    go_wp2_with (first | (go_at_call 64; go_must (refine (HI.out _).mono ?_; rintro e w' ⟨rfl, hb⟩; obtain ⟨hc, hf⟩ := bcell hb; (try have hz0 : w.heap.size < w'.heap.size := Nat.lt_of_lt_of_le (by first | assumption | (simp; done) | (simp; omega)) hb.size); (try have hz1 : w.heap.size + 1 < w'.heap.size := Nat.lt_of_lt_of_le (by first | assumption | (simp; done) | (simp; omega)) hb.size); (try have hz2 : w.heap.size + 1 + 1 < w'.heap.size := Nat.lt_of_lt_of_le (by first | assumption | (simp; done) | (simp; omega)) hb.size); have hz := hb.size; (try simp at hz))) | (go_at_call 65; (((with_reducible refine (HD.out _).mono ?_)); rintro e w' ⟨rfl, hb⟩; obtain ⟨hc, hf⟩ := bcell hb; (try have hz0 : w.heap.size < w'.heap.size := Nat.lt_of_lt_of_le (by first | assumption | (simp; done) | (simp; omega)) hb.size); (try have hz1 : w.heap.size + 1 < w'.heap.size := Nat.lt_of_lt_of_le (by first | assumption | (simp; done) | (simp; omega)) hb.size); (try have hz2 : w.heap.size + 1 + 1 < w'.heap.size := Nat.lt_of_lt_of_le (by first | assumption | (simp; done) | (simp; omega)) hb.size); have hz := hb.size; (try simp at hz))))
    go_ret
    exact ⟨ret_str (by rw [hpr.out, hq0.out]; rw [List.append_nil, cat_mk [] p]; rfl), (by repeat (first | exact Below.refl _ _ | assumption | refine Below.setCell ?_ (by first | (simp; done) | omega | (simp; omega) | (simp at *; omega)) _ | refine Below.alloc ?_ (by first | (simp; done) | omega | (simp; omega) | (simp at *; omega)) _ | refine Below.drew ?_ | (refine Below.trans ?_ (Below.mono (by assumption) (by first | (simp; done) | omega | (simp; omega) | (simp at *; omega)))) | (refine Below.trans ?_ (Below.mono (below_regrown _ _ _) (by first | (simp; done) | omega | (simp; omega) | (simp at *; omega))))))⟩
  · have hfr : Hid (Dc.fracText (n.toNat % 1000000) = 46 :: Dc.trimZ (Dc.six (n.toNat % 1000000))) := Lib.hid (Dc.fracText_pos hf0)
    have hb : ((n % 1000000) == 0) = false := by rw [beq_eq_false_iff_ne]; omega
    have hs6 := Dc.six_len (n := n.toNat % 1000000) (by omega)
    have hne := Lib.hid (Dc.trim_six_ne (n := n.toNat % 1000000) (by omega) hf0)
    have D2 := fun W => digits_any ((1000000 + n.toNat % 1000000 : Nat) : Int) (by omega) (by omega) W
    have e2 : ((1000000 + n.toNat % 1000000 : Nat) : Int) = 1000000 + n % 1000000 := by omega
    have l7 := Dc.plain_len7 (u := 1000000 + n.toNat % 1000000) (by omega) (by omega)
    have hx : (⟨(Dc.plain (1000000 + n.toNat % 1000000)).toArray⟩ : ByteArray).extract 1 7 = ⟨(Dc.six (n.toNat % 1000000)).toArray⟩ := by
      rw [ext_from _ _ _ (by omega)]; rfl
    rw [Dc.digits_nat, e2] at D2
    have HD2 := Lib.hid D2
    have hs6' : (Dc.six (n.toNat % 1000000)).length ≤ 6 := by omega
    clear D2 e2 hf0 hs6
    generalize Dc.fracText (n.toNat % 1000000) = q at *
    generalize Dc.plain (n.toNat / 1000000) = p at *
    generalize Dc.plain (1000000 + n.toNat % 1000000) = p7 at *
    generalize Dc.six (n.toNat % 1000000) = s6 at *
    go_enter Tryz.func42, Tryz.ntmps42
    go_wp2_with (first | (go_at_call 64; go_must (refine (HI.out _).mono ?_; rintro e w' ⟨rfl, hb⟩; obtain ⟨hc, hf⟩ := bcell hb; (try have hz0 : w.heap.size < w'.heap.size := Nat.lt_of_lt_of_le (by first | assumption | (simp; done) | (simp; omega)) hb.size); (try have hz1 : w.heap.size + 1 < w'.heap.size := Nat.lt_of_lt_of_le (by first | assumption | (simp; done) | (simp; omega)) hb.size); (try have hz2 : w.heap.size + 1 + 1 < w'.heap.size := Nat.lt_of_lt_of_le (by first | assumption | (simp; done) | (simp; omega)) hb.size); have hz := hb.size; (try simp at hz))) | (go_at_call 65; (((with_reducible refine (HD.out _).mono ?_)); rintro e w' ⟨rfl, hb⟩; obtain ⟨hc, hf⟩ := bcell hb; (try have hz0 : w.heap.size < w'.heap.size := Nat.lt_of_lt_of_le (by first | assumption | (simp; done) | (simp; omega)) hb.size); (try have hz1 : w.heap.size + 1 < w'.heap.size := Nat.lt_of_lt_of_le (by first | assumption | (simp; done) | (simp; omega)) hb.size); (try have hz2 : w.heap.size + 1 + 1 < w'.heap.size := Nat.lt_of_lt_of_le (by first | assumption | (simp; done) | (simp; omega)) hb.size); have hz := hb.size; (try simp at hz))) | (go_at_call 65; (((with_reducible refine (HD2.out _).mono ?_)); rintro e w' ⟨rfl, hb⟩; obtain ⟨hc, hf⟩ := bcell hb; (try have hz0 : w.heap.size < w'.heap.size := Nat.lt_of_lt_of_le (by first | assumption | (simp; done) | (simp; omega)) hb.size); (try have hz1 : w.heap.size + 1 < w'.heap.size := Nat.lt_of_lt_of_le (by first | assumption | (simp; done) | (simp; omega)) hb.size); (try have hz2 : w.heap.size + 1 + 1 < w'.heap.size := Nat.lt_of_lt_of_le (by first | assumption | (simp; done) | (simp; omega)) hb.size); have hz := hb.size; (try simp at hz))))
    go_loop [6] (fun s => ∃ m : List UInt8, m.length ≤ 6 ∧ s = .string ⟨m.toArray⟩ ∧ Hid (Dc.trimZ m = Dc.trimZ s6)) (fun s => strLen s)
    case atStart => exact ⟨s6, hs6', rfl, Lib.hid rfl⟩
    case round =>
      obtain ⟨m, hm, rfl, hs⟩ := hrel
      have h0 : 0 < m.length := Dc.trimZ_pos (by rw [hs.out]; exact hne.out)
      have hxx : m.length - 1 < m.length := by omega
      have h0' : (1 : Int) ≤ (m.length : Int) := by omega
      by_cases hc : m[m.length - 1] = 48
      · have hb : (((⟨m.toArray⟩ : ByteArray)[m.length - 1]'hxx).toNat == 48) = true := by
          show (m[m.length - 1].toNat == 48) = true
          rw [hc]; rfl
        have HT := Lib.hid (Dc.trimZ_last h0 hc)
        clear hc
        go_wp2
        go_round
        case rel =>
          refine ⟨m.take (m.length - 1), by simp; omega, ?_, Lib.hid (HT.out.trans hs.out)⟩
          rw [ext_mk]; rfl
        case measure => simp [strLen, ByteArray.size]; omega
      · have hb : (((⟨m.toArray⟩ : ByteArray)[m.length - 1]'hxx).toNat == 48) = false := by
          show (m[m.length - 1].toNat == 48) = false
          simp
          intro h
          exact hc (UInt8.toNat_inj.1 h)
        have HT := Lib.hid (Dc.trimZ_stop h0 hc)
        clear hc
        go_wp2
        go_ret
        exact ⟨ret_str (by rw [hpr.out, hfr.out, ← hs.out, HT.out]; rw [cat_mk [] p, cat_mk _ [46], cat_mk]; simp), (by repeat (first | exact Below.refl _ _ | assumption | refine Below.setCell ?_ (by first | (simp; done) | omega | (simp; omega) | (simp at *; omega)) _ | refine Below.alloc ?_ (by first | (simp; done) | omega | (simp; omega) | (simp at *; omega)) _ | refine Below.drew ?_ | (refine Below.trans ?_ (Below.mono (by assumption) (by first | (simp; done) | omega | (simp; omega) | (simp at *; omega)))) | (refine Below.trans ?_ (Below.mono (below_regrown _ _ _) (by first | (simp; done) | omega | (simp; omega) | (simp at *; omega))))))⟩

set_option maxHeartbeats 400000 in
theorem refPrint_any (b : Bool) (n : Int) (w : World) :
    Calls Tryz.prog 42 #[.agg #[.bool b, .int .i64 n]] w fun e w' => e = .returned (.string ⟨(Dc.pr b n).toArray⟩) ∧ Below w.heap.size w w' := by
  cases hk : Fx.num ⟨b, n⟩
  · have HN := Lib.hid (Dc.pr_not (b := b) (n := n) (by rw [Dc.knownB_num]; exact hk))
    have HI := Lib.hid (fun W => known1_any b n W)
    rw [hk] at HI
    clear hk
    go_enter Tryz.func42, Tryz.ntmps42
    go_wp2_with (go_at_call 64; go_must (refine (HI.out _).mono ?_; rintro e w' ⟨rfl, hb⟩; obtain ⟨hc, hf⟩ := bcell hb; (try have hz0 : w.heap.size < w'.heap.size := Nat.lt_of_lt_of_le (by first | assumption | (simp; done) | (simp; omega)) hb.size); (try have hz1 : w.heap.size + 1 < w'.heap.size := Nat.lt_of_lt_of_le (by first | assumption | (simp; done) | (simp; omega)) hb.size); (try have hz2 : w.heap.size + 1 + 1 < w'.heap.size := Nat.lt_of_lt_of_le (by first | assumption | (simp; done) | (simp; omega)) hb.size); have hz := hb.size; (try simp at hz)))
    go_ret
    exact ⟨ret_str (by rw [HN.out]; rfl), (by repeat (first | exact Below.refl _ _ | assumption | refine Below.setCell ?_ (by first | (simp; done) | omega | (simp; omega) | (simp at *; omega)) _ | refine Below.alloc ?_ (by first | (simp; done) | omega | (simp; omega) | (simp at *; omega)) _ | refine Below.drew ?_ | (refine Below.trans ?_ (Below.mono (by assumption) (by first | (simp; done) | omega | (simp; omega) | (simp at *; omega)))) | (refine Below.trans ?_ (Below.mono (below_regrown _ _ _) (by first | (simp; done) | omega | (simp; omega) | (simp at *; omega))))))⟩
  · obtain ⟨rfl, b0, b1⟩ := Fx.num_iff.1 hk
    by_cases hn : n < 0
    · obtain ⟨m, rfl⟩ : ∃ m : Int, n = -m := ⟨-n, by omega⟩
      exact refPrint_neg m (by omega) (by omega) w
    · exact refPrint_pos n (by omega) b1 w

end Go.Proofs.YtojmcndiooiehaaGreatDoor
