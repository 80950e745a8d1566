/-
  WALKS: chapter 8's law of texts that are joined.
-/
import Derived.Test.YtfaekckenlkhnaaDoorNmLaw
namespace Go.Proofs.YtfaekckenlkhnaaDoor
open Go.RowKit
open Me

namespace Nm
theorem noDot_take (p : List UInt8) (q : Nat) (h : q < p.length) : noDot (p.take (q + 1)) = (noDot (p.take q) && p[q] != 46) := by
  unfold noDot
  rw [List.take_succ_eq_append_getElem h, List.all_append]; simp
/-- Has one of them a dot? -/
def dt (l : List (List UInt8)) : Bool := !(l.all noDot)
theorem dt_take (l : List (List UInt8)) (k : Nat) (h : k < l.length) : dt (l.take (k + 1)) = (dt (l.take k) || !noDot l[k]) := by
  unfold dt
  rw [List.take_succ_eq_append_getElem h, List.all_append]
  simp
theorem dt_none {l : List (List UInt8)} (h : dt l = false) : ∀ p ∈ l, noDot p = true := by
  unfold dt at h
  rw [Bool.not_eq_false'] at h
  exact List.all_eq_true.1 h
end Nm

set_option maxHeartbeats 2000000 in
theorem lawJoins8 (l : List (List UInt8)) (A : Option Addr) (c : Nat) (w : World) (hm : Mx w) (hr : Rd w (fun _ => True) A (byS l)) :
    Calls Tryd.prog 4 #[.slice A l.length c] w fun e w' => e = .returned (.bool true) ∧ Below w.heap.size w w' := by
  by_cases h1 : l.length < 1
  · have h1' : (l.length : Int) < 1 := by omega
    clear h1
    go_enter Tryd.func4, Tryd.ntmps4
    go_wp2_with fail
    go_ret
    exact ⟨rfl, Below.refl _ _⟩
  · have h1' : ¬ (l.length : Int) < 1 := by omega
    by_cases h2 : 40 < l.length
    · have h2' : (40 : Int) < (l.length : Int) := by omega
      clear h1 h2
      go_enter Tryd.func4, Tryd.ntmps4
      go_wp2_with fail
      go_ret
      exact ⟨rfl, Below.refl _ _⟩
    · have h2' : ¬ (40 : Int) < (l.length : Int) := by omega
      have hl0 : l ≠ [] := by rintro rfl; exact h1 (by simp)
      have hl40 : l.length ≤ 40 := by omega
      have HR := Lib.hid hr
      have HM := Lib.hid hm
      have HD := Lib.hid (fun k (h : k < l.length) => Nm.dt_take l k h)
      have HD0 := Lib.hid (show Nm.dt (l.take 0) = false from rfl)
      clear h1 h2 hr hm
      go_enter Tryd.func4, Tryd.ntmps4
      go_wp2_with fail
      go_loop [3, 4] (fun x i => ∃ k : Nat, k ≤ l.length ∧ i = .int .i64 k ∧ x = .bool (Nm.dt (l.take k)) ∧ Hid (∀ j (h : j < l.length), j < k → l[j].length ≤ 400)) (fun _ i => l.length - (intOf i).toNat)
      case atStart => exact ⟨0, Nat.zero_le _, rfl, by rw [HD0.out], Lib.hid fun j _ h => absurd h (by omega)⟩
      case round =>
        obtain ⟨k, hk, rfl, rfl, HB⟩ := hrel
        by_cases hlt : k < l.length
        · obtain ⟨lb, lo, rfl, hlb, _, hx⟩ := HR.out.lit k (by rw [byS_len]; omega)
          have ec := hx k _ (byS_get l k hlt)
          clear hx
          have hkl : (k : Int) < (l.length : Int) := by omega
          have hk0 : (0 : Int) ≤ (k : Int) := by omega
          have HDk := Lib.hid (HD.out k hlt)
          have HBn : Hid (l[k].length ≤ 400 → ∀ j (h : j < l.length), j < k + 1 → l[j].length ≤ 400) := Lib.hid fun hc j h hj => by
            by_cases e : j = k
            · subst e; exact hc
            · exact HB.out j h (by omega)
          generalize l[k] = p at *
          have hps : (⟨p.toArray⟩ : ByteArray).size = p.length := by show p.toArray.size = _; simp
          generalize Nm.dt (l.take k) = d at *
          by_cases hp : 400 < p.length
          · have hp' : (400 : Int) < (p.length : Int) := by omega
            clear hp
            go_wp2_with fail
            go_ret
            exact ⟨rfl, Below.refl _ _⟩
          · have hp' : ¬ (400 : Int) < (p.length : Int) := by omega
            have hp4 : p.length ≤ 400 := by omega
            clear hp
            go_wp2_with fail
            go_loop [3, 5] (fun x i => ∃ q : Nat, q ≤ p.length ∧ i = .int .i64 q ∧ x = .bool (d || !Nm.noDot (p.take q))) (fun _ i => p.length - (intOf i).toNat)
            case atStart => exact ⟨0, Nat.zero_le _, rfl, by rw [List.take_zero]; cases d <;> rfl⟩
            case round =>
              obtain ⟨q, hq, rfl, rfl⟩ := hrel
              by_cases hqt : q < p.length
              · have hql : (q : Int) < (p.length : Int) := by omega
                have hq0 : (0 : Int) ≤ (q : Int) := by omega
                have hnd := Nm.noDot_take p q hqt
                cases hb : (d || !Nm.noDot (p.take q))
                · obtain ⟨hd1, hd2⟩ : d = false ∧ Nm.noDot (p.take q) = true := by cases d <;> simp_all
                  rw [hd2, Bool.true_and] at hnd
                  have hx : (⟨p.toArray⟩ : ByteArray)[q]'hqt = p[q] := rfl
                  have HV : Hid ((d || !Nm.noDot (p.take (q + 1))) = (((((⟨p.toArray⟩ : ByteArray)[q]'hqt).toNat : Int)) == 46)) := Lib.hid (by
                    rw [hd1, hnd, hx, Bool.false_or]
                    by_cases e : p[q] = 46
                    · rw [e]; rfl
                    · have : ((p[q].toNat : Int) == 46) = false := by
                        simp only [beq_eq_false_iff_ne, ne_eq]
                        intro e2
                        exact e (UInt8.toNat_inj.1 (by have : p[q].toNat = 46 := by omega
                                                       rw [this]; rfl))
                      rw [this]; simpa using e)
                  clear hnd hx hd1 hd2
                  go_wp2_with fail
                  go_round
                  case rel => exact ⟨q + 1, by omega, by go_num, by rw [HV.out]⟩
                  case measure => simp [intOf]; omega
                · have HV : Hid ((d || !Nm.noDot (p.take (q + 1))) = true) := Lib.hid (by
                    cases d
                    · have hd2 : Nm.noDot (p.take q) = false := by simpa using hb
                      rw [hnd, hd2]; rfl
                    · rfl)
                  clear hnd
                  go_wp2_with fail
                  go_round
                  case rel => exact ⟨q + 1, by omega, by go_num, by rw [HV.out]⟩
                  case measure => simp [intOf]; omega
              · obtain rfl : q = p.length := by omega
                rw [List.take_length]
                have HE := Lib.hid HDk.out.symm
                have HBk := Lib.hid (HBn.out hp4)
                go_wp2_with fail
                go_round
                case rel => exact ⟨k + 1, by omega, by go_num, by rw [HE.out], HBk⟩
                case measure => simp [intOf]; omega
        · obtain rfl : k = l.length := by omega
          rw [List.take_length]
          have HJl : Hid ((Nm.jn l).length ≤ 16040) := Lib.hid (by
            have h1 := Nm.jn_len l 400 (fun p hp => by obtain ⟨j, hj, rfl⟩ := List.getElem_of_mem hp; exact HB.out j hj hj)
            have h2 : l.length * (400 + 1) ≤ 40 * 401 := Nat.mul_le_mul hl40 (Nat.le_refl _)
            omega)
          have HJ := Lib.hid (fun W h => join_any l A c W h (by have := HJl.out; omega) (by omega))
          have HRJ := Lib.hid (fun W h => refJoin_any l A c W h (by have := HJl.out; omega) (by omega))
          have HP := Lib.hid (fun W (h : Mx W) => parts_any (Nm.jn l) (by have := HJl.out; omega) W h)
          cases hd : Nm.dt l
          · have hpt := Nm.pt_jn l hl0 (Nm.dt_none hd)
            rw [hpt] at HP
            have HT := Lib.hid (fun A A' c c' => texts_same l A A' c c' (by omega))
            clear hpt hd
            generalize Nm.jn l = s at *
            have hself : (s == s) = true := by simp
            go_wp2_with first
              | (go_at_call 12; go_must (refine (HJ.out _ HR.out).mono ?_; rintro e w1 ⟨rfl, hb1⟩; have HR1 := Lib.hid (HR.out.below hb1)))
              | (go_at_call 16; go_must (refine (HRJ.out _ HR1.out).mono ?_; rintro e w2 ⟨rfl, hw2⟩; obtain rfl : w1 = w2 := hw2.symm))
              | (go_at_call 7; go_must (refine (HP.out _ (HM.out.below hb1)).mono ?_; rintro e w3 ⟨v3, rfl, ho3, hb3⟩; obtain ⟨A3, c3, rfl, hr3⟩ := rd_own ho3; have hB3 := hb1.trans (hb3.mono hb1.size); have HR3 := Lib.hid (HR1.out.below hb3); have HR3' := Lib.hid hr3; clear ho3 hr3))
              | (go_at_call 10; go_must (refine (HT.out _ _ _ _ _ HR3'.out HR3.out).mono ?_; rintro e w4 ⟨rfl, hb4⟩; have hB4 := hB3.trans (hb4.mono hB3.size)))
              | (go_at_call 15; go_must (refine (known8_any _ (HM.out.below hB4)).mono ?_; rintro e w5 ⟨rfl, hb5⟩; have hB5 := hB4.trans (hb5.mono hB4.size)))
            go_ret
            exact ⟨rfl, hB5⟩
          · clear hd
            generalize Nm.jn l = s at *
            have hself : (s == s) = true := by simp
            go_wp2_with first
              | (go_at_call 12; go_must (refine (HJ.out _ HR.out).mono ?_; rintro e w1 ⟨rfl, hb1⟩; have HR1 := Lib.hid (HR.out.below hb1)))
              | (go_at_call 16; go_must (refine (HRJ.out _ HR1.out).mono ?_; rintro e w2 ⟨rfl, hw2⟩; obtain rfl : w1 = w2 := hw2.symm))
              | (go_at_call 15; go_must (refine (known8_any _ (HM.out.below hb1)).mono ?_; rintro e w5 ⟨rfl, hb5⟩; have hB5 := hb1.trans (hb5.mono hb1.size)))
            go_ret
            exact ⟨rfl, hB5⟩
end Go.Proofs.YtfaekckenlkhnaaDoor
