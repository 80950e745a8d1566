/-
  CONTRACTS: package name: what may stand in a name, parts, joined, files, the part at a place.
-/
import Derived.Test.YtobkddekfcgclaaDoorNmLib
import Derived.RegionTactic
namespace Go.Proofs.YtobkddekfcgclaaDoor
open Go.RowKit
open Me

namespace Nm
theorem ret_bool {a b : Bool} (h : a = b) : Ending.returned (.bool a) = .returned (.bool b) := by rw [h]
theorem ret_str {a b : List UInt8} (h : a = b) : Ending.returned (.string ⟨a.toArray⟩) = .returned (.string ⟨b.toArray⟩) := by rw [h]
theorem okB_a {b : UInt8} (h1 : 97 ≤ b.toNat) (h2 : b.toNat ≤ 122) : okB b = true := by unfold okB; simp [h1, h2]
theorem okB_A {b : UInt8} (h1 : 65 ≤ b.toNat) (h2 : b.toNat ≤ 90) : okB b = true := by unfold okB; simp [h1, h2]
theorem okB_0 {b : UInt8} (h1 : 48 ≤ b.toNat) (h2 : b.toNat ≤ 57) : okB b = true := by unfold okB; simp [h1, h2]
theorem okB_else {b : UInt8} (h1 : ¬ (97 ≤ b.toNat ∧ b.toNat ≤ 122)) (h2 : ¬ (65 ≤ b.toNat ∧ b.toNat ≤ 90)) (h3 : ¬ (48 ≤ b.toNat ∧ b.toNat ≤ 57)) : okB b = [95, 45, 58, 35, 37, 64, 61].contains b := by
  unfold okB
  rw [decide_eq_false h1, decide_eq_false h2, decide_eq_false h3]
  rfl
theorem index_has (l : List UInt8) (b : UInt8) : decide (0 ≤ Lib.indexByte l b) = l.contains b := by
  induction l with
  | nil => rfl
  | cons c r ih =>
    unfold Lib.indexByte
    have hg := Lib.indexByte_ge r b
    by_cases hb : c = b
    · subst hb; simp
    · have h1 : (c == b) = false := by simpa using hb
      rw [h1, List.contains_cons, show (b == c) = false by simpa using fun e => hb e.symm, Bool.false_or, ← ih]
      simp only [Bool.false_eq_true, if_false]
      by_cases h2 : Lib.indexByte r b = -1
      · rw [h2]; rfl
      · rw [if_neg (by simpa using h2), decide_eq_true (by omega), decide_eq_true (by omega)]
/-- Every byte of the first k may stand. -/
theorem all_take (p : List UInt8) (k : Nat) (h : k < p.length) : (p.take (k + 1)).all okB = ((p.take k).all okB && okB p[k]) := by
  rw [List.take_succ_eq_append_getElem h, List.all_append]; simp
theorem all_false {p : List UInt8} {k : Nat} (h : k < p.length) (hb : okB p[k] = false) : p.all okB = false := by
  rw [List.all_eq_false]; exact ⟨p[k], List.getElem_mem h, by rw [hb]; simp⟩
theorem okP_bad {p : List UInt8} (h : p.all okB = false) : okP p = false := by unfold okP; rw [h, Bool.and_false]
theorem okP_good {p : List UInt8} (h : p.all okB = true) : okP p = !p.isEmpty := by unfold okP; rw [h, Bool.and_true]
theorem is_long {s : List UInt8} (h : 200 < s.length) : is s = false := by unfold is; rw [decide_eq_false (by omega)]; rfl
theorem is_bad {s : List UInt8} {k : Nat} (h : k < (pt s).length) (hb : okP (pt s)[k] = false) : is s = false := by
  unfold is
  rw [show (pt s).all okP = false from List.all_eq_false.2 ⟨(pt s)[k], List.getElem_mem h, by rw [hb]; simp⟩, Bool.and_false, Bool.false_and]
theorem is_good {s : List UInt8} (h : s.length ≤ 200) (hb : ∀ k (h : k < (pt s).length), okP (pt s)[k] = true) : is s = decide ((pt s).length ≤ 20) := by
  unfold is
  rw [decide_eq_true h, show (pt s).all okP = true from List.all_eq_true.2 fun p hp => by obtain ⟨k, hk, rfl⟩ := List.getElem_of_mem hp; exact hb k hk]
  rfl
theorem byS_same (l : List (List UInt8)) (k : Nat) (h : k < l.length) : (byS l).toArray.setIfInBounds k (.string ⟨(l[k]).toArray⟩) = (byS l).toArray := by
  apply Array.ext_getElem?
  intro j
  rw [List.setIfInBounds_toArray, List.getElem?_toArray, List.getElem?_toArray, List.getElem?_set]
  by_cases hj : k = j
  · subst hj; rw [if_pos rfl, byS_get l k h, if_pos (by rw [byS_len]; exact h)]
  · rw [if_neg hj]
end Nm

set_option maxHeartbeats 1000000 in
theorem stand_any (b : UInt8) (w : World) :
    Calls Tryd.prog 87 #[.int .u8 (b.toNat : Int)] w fun e w' => e = .returned (.bool (Nm.okB b)) ∧ w' = w := by
  have HX : Hid (∀ W, Calls Tryd.prog 80 #[.string ⟨#[95, 45, 58, 35, 37, 64, 61]⟩, .int .u8 (b.toNat : Int)] W fun e w' => e = .returned (.int .i64 (Lib.indexByte [95, 45, 58, 35, 37, 64, 61] b)) ∧ w' = W) := Lib.hid fun W => by
    refine (Tryd.strings_IndexByte ⟨#[95, 45, 58, 35, 37, 64, 61]⟩ (b.toNat : Int) W).mono ?_
    rintro e w' ⟨rfl, hw⟩
    refine ⟨?_, hw⟩
    rw [show ((b.toNat : Int).toNat.toUInt8) = b by rw [Int.toNat_natCast]; exact UInt8.ofNat_toNat]
  have HI := Lib.hid (Nm.index_has [95, 45, 58, 35, 37, 64, 61] b)
  have HA := Lib.hid (@Nm.okB_a b)
  have HB := Lib.hid (@Nm.okB_A b)
  have HC := Lib.hid (@Nm.okB_0 b)
  have HD := Lib.hid (@Nm.okB_else b)
  generalize Lib.indexByte [95, 45, 58, 35, 37, 64, 61] b = ix at *
  have HR := Lib.hid (rfl : Nm.okB b = Nm.okB b)
  generalize hn : b.toNat = n at *
  have hn2 : n < 256 := by rw [← hn]; exact UInt8.toNat_lt b
  generalize Nm.okB b = R at *
  clear hn HR
  by_cases h1 : 97 ≤ n
  · by_cases h2 : n ≤ 122
    · have HQ := Lib.hid (HA.out h1 h2)
      have g1 : (97 : Int) ≤ (n : Int) := by omega
      have g2 : (n : Int) ≤ 122 := by omega
      clear h1 h2
      go_enter Tryd.func87, Tryd.ntmps87
      go_wp2_with fail
      go_ret
      exact ⟨Nm.ret_bool HQ.out.symm, rfl⟩
    · have HQ := Lib.hid (HD.out (by omega) (by omega) (by omega))
      have g1 : (97 : Int) ≤ (n : Int) := by omega
      have g2 : ¬ (n : Int) ≤ 122 := by omega
      have g3 : (65 : Int) ≤ (n : Int) := by omega
      have g4 : ¬ (n : Int) ≤ 90 := by omega
      have g5 : (48 : Int) ≤ (n : Int) := by omega
      have g6 : ¬ (n : Int) ≤ 57 := by omega
      clear h1 h2
      go_enter Tryd.func87, Tryd.ntmps87
      go_wp2_with (go_at_call 80; go_must (refine (HX.out _).mono ?_; rintro e w' ⟨rfl, rfl⟩))
      go_ret
      exact ⟨Nm.ret_bool (by rw [HQ.out, ← HI.out]), rfl⟩
  · have g1 : ¬ (97 : Int) ≤ (n : Int) := by omega
    by_cases h3 : 65 ≤ n
    · have g3 : (65 : Int) ≤ (n : Int) := by omega
      by_cases h4 : n ≤ 90
      · have HQ := Lib.hid (HB.out h3 h4)
        have g4 : (n : Int) ≤ 90 := by omega
        clear h1 h3 h4
        go_enter Tryd.func87, Tryd.ntmps87
        go_wp2_with fail
        go_ret
        exact ⟨Nm.ret_bool HQ.out.symm, rfl⟩
      · have HQ := Lib.hid (HD.out (by omega) (by omega) (by omega))
        have g4 : ¬ (n : Int) ≤ 90 := by omega
        have g5 : (48 : Int) ≤ (n : Int) := by omega
        have g6 : ¬ (n : Int) ≤ 57 := by omega
        clear h1 h3 h4
        go_enter Tryd.func87, Tryd.ntmps87
        go_wp2_with (go_at_call 80; go_must (refine (HX.out _).mono ?_; rintro e w' ⟨rfl, rfl⟩))
        go_ret
        exact ⟨Nm.ret_bool (by rw [HQ.out, ← HI.out]), rfl⟩
    · have g3 : ¬ (65 : Int) ≤ (n : Int) := by omega
      by_cases h5 : 48 ≤ n
      · have g5 : (48 : Int) ≤ (n : Int) := by omega
        by_cases h6 : n ≤ 57
        · have HQ := Lib.hid (HC.out h5 h6)
          have g6 : (n : Int) ≤ 57 := by omega
          clear h1 h3 h5 h6
          go_enter Tryd.func87, Tryd.ntmps87
          go_wp2_with fail
          go_ret
          exact ⟨Nm.ret_bool HQ.out.symm, rfl⟩
        · have HQ := Lib.hid (HD.out (by omega) (by omega) (by omega))
          have g6 : ¬ (n : Int) ≤ 57 := by omega
          clear h1 h3 h5 h6
          go_enter Tryd.func87, Tryd.ntmps87
          go_wp2_with (go_at_call 80; go_must (refine (HX.out _).mono ?_; rintro e w' ⟨rfl, rfl⟩))
          go_ret
          exact ⟨Nm.ret_bool (by rw [HQ.out, ← HI.out]), rfl⟩
      · have HQ := Lib.hid (HD.out (by omega) (by omega) (by omega))
        have g5 : ¬ (48 : Int) ≤ (n : Int) := by omega
        clear h1 h3 h5
        go_enter Tryd.func87, Tryd.ntmps87
        go_wp2_with (go_at_call 80; go_must (refine (HX.out _).mono ?_; rintro e w' ⟨rfl, rfl⟩))
        go_ret
        exact ⟨Nm.ret_bool (by rw [HQ.out, ← HI.out]), rfl⟩

set_option maxHeartbeats 1000000 in
theorem isPart_any (p : List UInt8) (hl : p.length ≤ 4294967280) (w : World) :
    Calls Tryd.prog 75 #[.string ⟨p.toArray⟩] w fun e w' => e = .returned (.bool (Nm.okP p)) ∧ w' = w := by
  have hs : (⟨p.toArray⟩ : ByteArray).size = p.length := by show p.toArray.size = _; simp
  go_enter Tryd.func75, Tryd.ntmps75
  go_wp2_with fail
  go_loop [6] (fun i => ∃ k : Nat, k ≤ p.length ∧ i = .int .i64 k ∧ Hid ((p.take k).all Nm.okB = true)) (fun i => p.length - (intOf i).toNat)
  case atStart => exact ⟨0, Nat.zero_le _, rfl, Lib.hid rfl⟩
  case round =>
    obtain ⟨k, hk, rfl, HD⟩ := hrel
    by_cases hlt : k < p.length
    · have hn := Lib.hid (Nm.all_take p k hlt)
      have hx : (⟨p.toArray⟩ : ByteArray)[k]'hlt = p[k] := rfl
      cases hc : Nm.okB p[k]
      · have hf := Lib.hid (Nm.okP_bad (Nm.all_false hlt hc))
        have HC := Lib.hid hc
        clear hc
        have HDg : Hid (∀ W, Calls Tryd.prog 87 #[.int .u8 ((⟨p.toArray⟩ : ByteArray)[k]'hlt).toNat] W fun e w' => e = .returned (.bool false) ∧ w' = W) := by
          apply Lib.hid; intro W
          have := stand_any p[k] W
          rw [HC.out] at this
          exact this
        clear hx
        go_wp2_with (go_at_call 87; go_must (refine (HDg.out _).mono ?_; rintro e w' ⟨rfl, rfl⟩))
        go_ret
        exact ⟨Nm.ret_bool hf.out.symm, rfl⟩
      · have HC := Lib.hid hc
        clear hc
        have HDg : Hid (∀ W, Calls Tryd.prog 87 #[.int .u8 ((⟨p.toArray⟩ : ByteArray)[k]'hlt).toNat] W fun e w' => e = .returned (.bool true) ∧ w' = W) := by
          apply Lib.hid; intro W
          have := stand_any p[k] W
          rw [HC.out] at this
          exact this
        clear hx
        go_wp2_with (go_at_call 87; go_must (refine (HDg.out _).mono ?_; rintro e w' ⟨rfl, rfl⟩))
        go_round
        case rel => exact ⟨k + 1, by omega, by go_num, Lib.hid (by rw [hn.out, HD.out, HC.out]; rfl)⟩
        case measure => simp [intOf]; omega
    · obtain rfl : k = p.length := by omega
      rw [List.take_length] at HD
      have HG := Lib.hid (Nm.okP_good HD.out)
      go_wp2
      go_ret
      exact ⟨Nm.ret_bool (by rw [HG.out]), rfl⟩
end Go.Proofs.YtobkddekfcgclaaDoor
