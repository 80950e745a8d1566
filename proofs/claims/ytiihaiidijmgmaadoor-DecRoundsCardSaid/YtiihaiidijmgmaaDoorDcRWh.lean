/-
  CONTRACTS: the document's own Whole.
-/
import Derived.Test.YtiihaiidijmgmaaDoorDcProg
namespace Go.Proofs.YtiihaiidijmgmaaDoor
open Go.RowKit

namespace Dc
theorem wh_long {l : List UInt8} (h : all (body l) = true) (hl : 19 < (strip (body l)).length) : whOk l = false ∧ whN l = 0 := by
  have h1 := strip_long (body l) (all_split h).1 (by omega)
  have h2 : 10 ^ 19 ≤ 10 ^ ((strip (body l)).length - 1) := Nat.pow_le_pow_right (by decide) (by omega)
  have h3 : 4611686018427387904 < num (body l) := Nat.lt_of_lt_of_le (Nat.lt_of_lt_of_le (by decide : 4611686018427387904 < 10 ^ 19) h2) h1
  have h4 : whOk l = false := by
    unfold whOk
    rw [h]
    simp
    omega
  exact ⟨h4, by unfold whN; rw [h4]; rfl⟩
theorem wh_no2 {l : List UInt8} {k : Nat} (h : all (body l) = true) (hk : 4611686018427387904 < num ((strip (body l)).take k)) : whOk l = false ∧ whN l = 0 := by
  have h1 := num_take_le (strip (body l)) k
  rw [num_strip] at h1
  have h4 : whOk l = false := by
    unfold whOk
    rw [h]
    simp
    omega
  exact ⟨h4, by unfold whN; rw [h4]; rfl⟩
theorem wh_yes {l : List UInt8} {x : Int} (h : all (body l) = true) (hx : x = (num (strip (body l)) : Int)) (hle : x ≤ 4611686018427387904) : whOk l = true ∧ whN l = if minus l then -x else x := by
  rw [num_strip] at hx
  have h4 : whOk l = true := by
    unfold whOk
    rw [h]
    simp
    omega
  refine ⟨h4, ?_⟩
  unfold whN
  rw [h4, hx]
  rfl
end Dc

theorem tail_mk (c : UInt8) (r : List UInt8) : (⟨(c :: r).toArray⟩ : ByteArray).extract 1 (c :: r).length = ⟨r.toArray⟩ := by
  rw [ext_from _ _ _ (Nat.le_refl _)]; rfl

set_option maxHeartbeats 400000 in
theorem refWhole_nil (w : World) :
    Calls Tryd.prog 15 #[.string ⟨[].toArray⟩] w fun e w' => e = .returned (.tuple #[.int .i64 (Dc.whN []), .bool (Dc.whOk [])]) ∧ w = w' := by
  have HA : Hid (∀ W, Calls Tryd.prog 24 #[.string ⟨[].toArray⟩] W fun e w' => e = .returned (.bool false) ∧ W = w') := Lib.hid fun W => all_any [] (by simp) W
  go_enter Tryd.func15, Tryd.ntmps15
  go_wp2_with (go_at_call 24; go_must (refine (HA.out _).mono ?_; rintro e w' ⟨rfl, rfl⟩))
  go_ret2
  exact ⟨rfl, rfl⟩

set_option maxHeartbeats 800000 in
theorem refWhole_plus (c : UInt8) (r : List UInt8) (hl : (c :: r).length ≤ 4611686018427387904) (hc : c ≠ 45) (w : World) :
    Calls Tryd.prog 15 #[.string ⟨(c :: r).toArray⟩] w fun e w' => e = .returned (.tuple #[.int .i64 (Dc.whN (c :: r)), .bool (Dc.whOk (c :: r))]) ∧ w = w' := by
  have hh : (((⟨(c :: r).toArray⟩ : ByteArray)[0]'(by simp [ByteArray.size])).toNat == 45) = false := by rw [head_mk]; simpa using hc
  have hmi : Hid (Dc.minus (c :: r) = false) := Lib.hid (by simpa [Dc.minus] using hc)
  have hbd : Hid (c :: r = Dc.body (c :: r)) := Lib.hid (by unfold Dc.body; rw [hmi.out]; rfl)
  clear hc
  have hn : (1 : Int) ≤ ((c :: r).length : Int) := by simp only [List.length_cons]; omega
  have HA := Lib.hid (fun W => all_any (c :: r) hl W)
  have HS := Lib.hid (fun W => strip_any (c :: r) W)
  cases ha : Dc.all (c :: r)
  · have HR := Lib.hid (Dc.wh_no1 (l := c :: r) (by rw [← hbd.out]; exact ha))
    rw [ha] at HA
    clear ha
    go_enter Tryd.func15, Tryd.ntmps15
    go_wp2_with (go_at_call 24; go_must (refine (HA.out _).mono ?_; rintro e w' ⟨rfl, rfl⟩))
    go_ret2
    exact ⟨ret2_ib HR.out.2.symm HR.out.1.symm, rfl⟩
  · rw [ha] at HA
    have ha' : Dc.all (Dc.body (c :: r)) = true := by rw [← hbd.out]; exact ha
    have hD := Lib.hid (Dc.allD_strip (c :: r) (Dc.all_split ha).1)
    clear ha
    by_cases h19 : 19 < (Dc.strip (c :: r)).length
    · have HR := Lib.hid (Dc.wh_long ha' (by rw [← hbd.out]; exact h19))
      clear ha'
      generalize Dc.strip (c :: r) = t at *
      have h19' : (19 : Int) < (t.length : Int) := by omega
      go_enter Tryd.func15, Tryd.ntmps15
      go_wp2_with (first | (go_at_call 24; go_must (refine (HA.out _).mono ?_; rintro e w' ⟨rfl, rfl⟩)) | (go_at_call 26; go_must (refine (HS.out _).mono ?_; rintro e w' ⟨rfl, rfl⟩)))
      go_ret2
      exact ⟨ret2_ib HR.out.2.symm HR.out.1.symm, rfl⟩
    · have HNO : Hid (∀ k, 4611686018427387904 < Dc.num ((Dc.strip (c :: r)).take k) → Dc.whOk (c :: r) = false ∧ Dc.whN (c :: r) = 0) := Lib.hid fun k hk => Dc.wh_no2 ha' (by rw [← hbd.out]; exact hk)
      have HYES : Hid (∀ x : Int, x = (Dc.num (Dc.strip (c :: r)) : Int) → x ≤ 4611686018427387904 → Dc.whOk (c :: r) = true ∧ Dc.whN (c :: r) = x) := by
        apply Lib.hid; intro x hx hle
        have := Dc.wh_yes ha' (by rw [← hbd.out]; exact hx) hle
        rw [hmi.out] at this
        exact this
      clear ha'
      generalize Dc.strip (c :: r) = t at *
      have h19' : (t.length : Int) ≤ 19 := by omega
      go_enter Tryd.func15, Tryd.ntmps15
      go_wp2_with (first | (go_at_call 24; go_must (refine (HA.out _).mono ?_; rintro e w' ⟨rfl, rfl⟩)) | (go_at_call 26; go_must (refine (HS.out _).mono ?_; rintro e w' ⟨rfl, rfl⟩)))
      go_loop [5, 6] (fun n i => ∃ (k : Nat) (x : Int), k ≤ t.length ∧ i = .int .i64 k ∧ n = .int .i64 x ∧ 0 ≤ x ∧ x ≤ 4611686018427387904 ∧ Hid (x = (Dc.num (t.take k) : Int))) (fun _ i => t.length - (intOf i).toNat)
      case atStart => exact ⟨0, 0, Nat.zero_le _, rfl, rfl, by omega, by omega, Lib.hid rfl⟩
      case round =>
        obtain ⟨k, x, hk, rfl, rfl, x0, x1, hx⟩ := hrel
        by_cases hlt : k < t.length
        · have hs := Lib.hid (Dc.num_take_succ t k hlt)
          have hb := Dc.isD_iff.1 (Dc.isD_of_allD hD.out k hlt)
          have b0 : (48 : Int) ≤ (((⟨t.toArray⟩ : ByteArray)[k]'hlt).toNat : Int) := by have := hb.1; show (48 : Int) ≤ (t[k].toNat : Int); omega
          have b1 : (((⟨t.toArray⟩ : ByteArray)[k]'hlt).toNat : Int) ≤ 57 := by have := hb.2; show (t[k].toNat : Int) ≤ 57; omega
          have hd : Hid ((((⟨t.toArray⟩ : ByteArray)[k]'hlt).toNat : Int) = (t[k].toNat : Int)) := Lib.hid rfl
          clear hb
          by_cases hcap : x * 10 + ((((⟨t.toArray⟩ : ByteArray)[k]'hlt).toNat : Int) - 48) ≤ 4611686018427387904
          · have hcap' : x ≤ (4611686018427387904 - ((((⟨t.toArray⟩ : ByteArray)[k]'hlt).toNat : Int) - 48)) / 10 := by omega
            go_wp2
            go_round
            case rel =>
              refine ⟨k + 1, _, by omega, by go_num, rfl, by omega, by omega, Lib.hid ?_⟩
              rw [hs.out]
              have := hx.out
              have := hd.out
              omega
            case measure => simp [intOf]; omega
          · have hcap' : (4611686018427387904 - ((((⟨t.toArray⟩ : ByteArray)[k]'hlt).toNat : Int) - 48)) / 10 < x := by omega
            have hno : Hid (Dc.whOk (c :: r) = false ∧ Dc.whN (c :: r) = 0) := by
              apply Lib.hid
              apply HNO.out (k + 1)
              rw [hs.out]
              have := hx.out
              have := hd.out
              omega
            go_wp2
            go_ret2
            exact ⟨ret2_ib hno.out.2.symm hno.out.1.symm, rfl⟩
        · obtain rfl : k = t.length := by omega
          rw [List.take_length] at hx
          have hy := Lib.hid (HYES.out x hx.out x1)
          go_wp2
          go_ret2
          exact ⟨ret2_ib hy.out.2.symm hy.out.1.symm, rfl⟩

set_option maxHeartbeats 800000 in
theorem refWhole_minus (r : List UInt8) (hl : (45 :: r).length ≤ 4611686018427387904) (w : World) :
    Calls Tryd.prog 15 #[.string ⟨(45 :: r).toArray⟩] w fun e w' => e = .returned (.tuple #[.int .i64 (Dc.whN (45 :: r)), .bool (Dc.whOk (45 :: r))]) ∧ w = w' := by
  have hh : (((⟨(45 :: r).toArray⟩ : ByteArray)[0]'(by simp [ByteArray.size])).toNat == 45) = true := by rw [head_mk]; rfl
  have hmi : Hid (Dc.minus (45 :: r) = true) := Lib.hid rfl
  obtain ⟨b, rfl⟩ : ∃ b, b = r := ⟨_, rfl⟩
  have hbd : Hid (b = Dc.body (45 :: b)) := Lib.hid rfl
  have htl : (⟨(45 :: b).toArray⟩ : ByteArray).extract 1 (b.length + 1) = ⟨b.toArray⟩ := tail_mk 45 b
  have la : b.length ≤ 4611686018427387904 := by have hl' := hl; simp only [List.length_cons] at hl'; omega
  have hn : (1 : Int) ≤ ((45 :: b).length : Int) := by simp only [List.length_cons]; omega
  have HA := Lib.hid (fun W => all_any b la W)
  have HS := Lib.hid (fun W => strip_any b W)
  cases ha : Dc.all b
  · have HR := Lib.hid (Dc.wh_no1 (l := 45 :: b) (by rw [← hbd.out]; exact ha))
    rw [ha] at HA
    clear ha
    go_enter Tryd.func15, Tryd.ntmps15
    go_wp2_with (go_at_call 24; go_must (refine (HA.out _).mono ?_; rintro e w' ⟨rfl, rfl⟩))
    go_ret2
    exact ⟨ret2_ib HR.out.2.symm HR.out.1.symm, rfl⟩
  · rw [ha] at HA
    have ha' : Dc.all (Dc.body (45 :: b)) = true := by rw [← hbd.out]; exact ha
    have hD := Lib.hid (Dc.allD_strip b (Dc.all_split ha).1)
    clear ha
    by_cases h19 : 19 < (Dc.strip b).length
    · have HR := Lib.hid (Dc.wh_long ha' (by rw [← hbd.out]; exact h19))
      clear ha'
      generalize Dc.strip b = t at *
      have h19' : (19 : Int) < (t.length : Int) := by omega
      go_enter Tryd.func15, Tryd.ntmps15
      go_wp2_with (first | (go_at_call 24; go_must (refine (HA.out _).mono ?_; rintro e w' ⟨rfl, rfl⟩)) | (go_at_call 26; go_must (refine (HS.out _).mono ?_; rintro e w' ⟨rfl, rfl⟩)))
      go_ret2
      exact ⟨ret2_ib HR.out.2.symm HR.out.1.symm, rfl⟩
    · have HNO : Hid (∀ k, 4611686018427387904 < Dc.num ((Dc.strip b).take k) → Dc.whOk (45 :: b) = false ∧ Dc.whN (45 :: b) = 0) := Lib.hid fun k hk => Dc.wh_no2 ha' (by rw [← hbd.out]; exact hk)
      have HYES : Hid (∀ x : Int, x = (Dc.num (Dc.strip b) : Int) → x ≤ 4611686018427387904 → Dc.whOk (45 :: b) = true ∧ Dc.whN (45 :: b) = -x) := by
        apply Lib.hid; intro x hx hle
        have := Dc.wh_yes ha' (by rw [← hbd.out]; exact hx) hle
        rw [hmi.out] at this
        exact this
      clear ha'
      generalize Dc.strip b = t at *
      have h19' : (t.length : Int) ≤ 19 := by omega
      go_enter Tryd.func15, Tryd.ntmps15
      go_wp2_with (first | (go_at_call 24; go_must (refine (HA.out _).mono ?_; rintro e w' ⟨rfl, rfl⟩)) | (go_at_call 26; go_must (refine (HS.out _).mono ?_; rintro e w' ⟨rfl, rfl⟩)))
      go_loop [5, 6] (fun n i => ∃ (k : Nat) (x : Int), k ≤ t.length ∧ i = .int .i64 k ∧ n = .int .i64 x ∧ 0 ≤ x ∧ x ≤ 4611686018427387904 ∧ Hid (x = (Dc.num (t.take k) : Int))) (fun _ i => t.length - (intOf i).toNat)
      case atStart => exact ⟨0, 0, Nat.zero_le _, rfl, rfl, by omega, by omega, Lib.hid rfl⟩
      case round =>
        obtain ⟨k, x, hk, rfl, rfl, x0, x1, hx⟩ := hrel
        by_cases hlt : k < t.length
        · have hs := Lib.hid (Dc.num_take_succ t k hlt)
          have hb := Dc.isD_iff.1 (Dc.isD_of_allD hD.out k hlt)
          have b0 : (48 : Int) ≤ (((⟨t.toArray⟩ : ByteArray)[k]'hlt).toNat : Int) := by have := hb.1; show (48 : Int) ≤ (t[k].toNat : Int); omega
          have b1 : (((⟨t.toArray⟩ : ByteArray)[k]'hlt).toNat : Int) ≤ 57 := by have := hb.2; show (t[k].toNat : Int) ≤ 57; omega
          have hd : Hid ((((⟨t.toArray⟩ : ByteArray)[k]'hlt).toNat : Int) = (t[k].toNat : Int)) := Lib.hid rfl
          clear hb
          by_cases hcap : x * 10 + ((((⟨t.toArray⟩ : ByteArray)[k]'hlt).toNat : Int) - 48) ≤ 4611686018427387904
          · have hcap' : x ≤ (4611686018427387904 - ((((⟨t.toArray⟩ : ByteArray)[k]'hlt).toNat : Int) - 48)) / 10 := by omega
            go_wp2
            go_round
            case rel =>
              refine ⟨k + 1, _, by omega, by go_num, rfl, by omega, by omega, Lib.hid ?_⟩
              rw [hs.out]
              have := hx.out
              have := hd.out
              omega
            case measure => simp [intOf]; omega
          · have hcap' : (4611686018427387904 - ((((⟨t.toArray⟩ : ByteArray)[k]'hlt).toNat : Int) - 48)) / 10 < x := by omega
            have hno : Hid (Dc.whOk (45 :: b) = false ∧ Dc.whN (45 :: b) = 0) := by
              apply Lib.hid
              apply HNO.out (k + 1)
              rw [hs.out]
              have := hx.out
              have := hd.out
              omega
            go_wp2
            go_ret2
            exact ⟨ret2_ib hno.out.2.symm hno.out.1.symm, rfl⟩
        · obtain rfl : k = t.length := by omega
          rw [List.take_length] at hx
          have hy := Lib.hid (HYES.out x hx.out x1)
          go_wp2
          go_ret2
          exact ⟨ret2_ib hy.out.2.symm hy.out.1.symm, rfl⟩

theorem refWhole_any (l : List UInt8) (hl : l.length ≤ 4611686018427387904) (w : World) :
    Calls Tryd.prog 15 #[.string ⟨l.toArray⟩] w fun e w' => e = .returned (.tuple #[.int .i64 (Dc.whN l), .bool (Dc.whOk l)]) ∧ w = w' := by
  match l with
  | [] => exact refWhole_nil w
  | c :: r =>
    by_cases hc : c = 45
    · subst hc; exact refWhole_minus r hl w
    · exact refWhole_plus c r hl hc w

end Go.Proofs.YtiihaiidijmgmaaDoor
