/-
  CHAPTER 11: RexDeep's law.
-/
import Derived.Test.YtajijcnfhijanaaRxHas
import Derived.Test.YtajijcnfhijanaaRxWays
namespace Go.Proofs.Ytajijcnfhijanaa
open Go.RowKit
open Me

namespace Rx
theorem cat (a b : List UInt8) : (⟨a.toArray⟩ : ByteArray) ++ ⟨b.toArray⟩ = ⟨(a ++ b).toArray⟩ := by
  apply ByteArray.ext
  show (_ : ByteArray).data = _
  rw [ByteArray.data_append]
  simp
theorem nest_true (S : List UInt8) : (⟨#[40, 63, 58]⟩ : ByteArray) ++ ⟨S.toArray⟩ ++ ⟨#[41]⟩ = ⟨([40, 63, 58] ++ S ++ [41]).toArray⟩ := by
  exact (congrArg (· ++ (⟨[41].toArray⟩ : ByteArray)) (cat [40, 63, 58] S)).trans (cat _ _)
theorem nest_false (S : List UInt8) : (⟨#[40]⟩ : ByteArray) ++ ⟨S.toArray⟩ ++ ⟨#[41]⟩ = ⟨([40] ++ S ++ [41]).toArray⟩ := by
  exact (congrArg (· ++ (⟨[41].toArray⟩ : ByteArray)) (cat [40] S)).trans (cat _ _)
theorem nest_zero (p : Bool) : nest p 0 = [97] := rfl
theorem nest_succ_true (k : Nat) : nest true (k + 1) = [40, 63, 58] ++ nest true k ++ [41] := rfl
theorem nest_succ_false (k : Nat) : nest false (k + 1) = [40] ++ nest false k ++ [41] := rfl
theorem GaveP.got {w w' : World} {l : List In} {g : Nat} {e : Ending} (h : GaveP w (.ok (l, g)) e w') : ∃ A c, e = .returned (.tuple #[.agg #[.int .i64 (g : Nat), .slice A l.length c], .int .i64 0]) ∧ RdC w' w.heap.size (.slice A l.length c) l ∧ Below w.heap.size w w' := by
  obtain ⟨hb, ⟨l2, g2, A, c, h1, h2, h3⟩ | ⟨er, h1, _⟩⟩ := h
  · cases h1; exact ⟨A, c, h2, h3, hb⟩
  · cases h1
theorem GaveP.bad {w w' : World} {er : Int} {e : Ending} (h : GaveP w (.error er) e w') : e = .returned (.tuple #[.agg #[.int .i64 0, .slice none 0 0], .int .i64 er]) ∧ Below w.heap.size w w' := by
  obtain ⟨hb, ⟨l2, g2, A, c, h1, _⟩ | ⟨er2, h1, _, h3⟩⟩ := h
  · cases h1
  · cases h1; exact ⟨h3, hb⟩
end Rx

set_option maxRecDepth 100000 in
set_option maxHeartbeats 8000000 in
theorem lawDeep11 (n : Int) (p : Bool) (h1 : -9223372036854775808 ≤ n) (h2 : n ≤ 9223372036854775807) (w : World) :
    Calls Try.prog 6 #[.int .i64 n, .bool p] w fun e w' => e = .returned (.bool true) ∧ Below w.heap.size w w' := by
  have HK := Lib.hid fun W => known11_any W
  by_cases hn0 : n < 0
  · go_enter Try.func6, Try.ntmps6
    go_wp2_with (go_at_call 9; go_must (refine (HK.out _).mono ?_; rintro e w1 ⟨rfl, hb⟩))
    go_ret
    exact ⟨rfl, hb⟩
  by_cases hn1 : 100 < n
  · go_enter Try.func6, Try.ntmps6
    go_wp2_with (go_at_call 9; go_must (refine (HK.out _).mono ?_; rintro e w1 ⟨rfl, hb⟩))
    go_ret
    exact ⟨rfl, hb⟩
  obtain ⟨N, rfl⟩ : ∃ N : Nat, n = (N : Int) := ⟨n.toNat, by omega⟩
  have hN : N ≤ 100 := by omega
  have HC := Lib.hid (Rx.nest_comp p N hN)
  have HCo := Lib.hid fun W => compile_any (Rx.nest p N) W
  clear h1 h2
  go_enter Try.func6, Try.ntmps6
  go_wp2_with fail
  go_loopw [5, 6] (fun s i wr => ∃ k : Nat, s = .string ⟨(Rx.nest p k).toArray⟩ ∧ i = .int .i64 k ∧ k ≤ N ∧ Hid (w = wr)) (fun _ i _ => N - (intOf i).toNat)
  case atStart => exact ⟨0, rfl, rfl, Nat.zero_le _, Lib.hid rfl⟩
  case round =>
    obtain ⟨k, rfl, rfl, hk, HW⟩ := hrel
    by_cases hgo : k < N
    · have hkI : (k : Int) < (N : Int) := by omega
      have hL := Rx.nest_len p k
      have hS9 : ((Rx.nest p k).length : Int) ≤ 401 := by omega
      have hSs : (⟨(Rx.nest p k).toArray⟩ : ByteArray).size = (Rx.nest p k).length := by show (Rx.nest p k).toArray.size = _; simp
      cases p
      · have HA : Hid ((⟨#[40]⟩ : ByteArray) ++ ⟨(Rx.nest false k).toArray⟩ ++ ⟨#[41]⟩ = ⟨(Rx.nest false (k + 1)).toArray⟩) := Lib.hid (by rw [Rx.nest_false, Rx.nest_succ_false])
        generalize Rx.nest false k = S at *
        go_wp2_with fail
        go_roundw
        case rel => exact ⟨k + 1, congrArg Value.string HA.out, by go_num, by omega, HW⟩
        case measure => simp [intOf]; omega
      · have HA : Hid ((⟨#[40, 63, 58]⟩ : ByteArray) ++ ⟨(Rx.nest true k).toArray⟩ ++ ⟨#[41]⟩ = ⟨(Rx.nest true (k + 1)).toArray⟩) := Lib.hid (by rw [Rx.nest_true, Rx.nest_succ_true])
        generalize Rx.nest true k = S at *
        go_wp2_with fail
        go_roundw
        case rel => exact ⟨k + 1, congrArg Value.string HA.out, by go_num, by omega, HW⟩
        case measure => simp [intOf]; omega
    · obtain rfl : k = N := by omega
      obtain rfl := HW.out
      by_cases h64 : 64 < k
      · have h64I : (64 : Int) < (k : Int) := by omega
        have HR := Lib.hid (HC.out.2 h64)
        generalize Rx.nest p k = S at *
        clear hn0 hn1 h64
        go_wp2_with first
          | (go_at_call 10; go_must (refine (HCo.out _).mono ?_; rintro e w1 hq; rw [HR.out] at hq; obtain ⟨rfl, hb⟩ := hq.bad; have HB := Lib.hid hb; have hbz := hb.size; clear hb hq))
          | (go_at_call 9; go_must (refine (HK.out _).mono ?_; rintro e w2 ⟨rfl, hb2⟩; have HB2 := Lib.hid ((HB.out.alloc hbz _).trans (hb2.mono (Nat.le_trans hbz (by simp)))); clear hb2))
        go_ret
        exact ⟨rfl, HB2.out⟩
      · have h64I : ¬ (64 : Int) < (k : Int) := by omega
        obtain ⟨L, hR⟩ := HC.out.1 (by omega)
        have HR := Lib.hid hR
        clear hR hn0 hn1 h64
        cases p
        · have HR2 : Hid (Rx.comp (Rx.nest false k) = .ok (L, k)) := HR
          clear HR
          have HR := HR2
          generalize Rx.nest false k = S at *
          go_wp2_with first
            | (go_at_call 10; go_must (refine (HCo.out _).mono ?_; rintro e w1 hq; rw [HR.out] at hq; obtain ⟨A, cp, rfl, _, hb⟩ := hq.got; have HB := Lib.hid hb; have hbz := hb.size; clear hb hq))
            | (go_at_call 9; go_must (refine (HK.out _).mono ?_; rintro e w2 ⟨rfl, hb2⟩; have HB2 := Lib.hid ((HB.out.alloc hbz _).trans (hb2.mono (Nat.le_trans hbz (by simp)))); clear hb2))
          go_ret
          exact ⟨rfl, HB2.out⟩
        · have HR2 : Hid (Rx.comp (Rx.nest true k) = .ok (L, 0)) := HR
          clear HR
          have HR := HR2
          generalize Rx.nest true k = S at *
          go_wp2_with first
            | (go_at_call 10; go_must (refine (HCo.out _).mono ?_; rintro e w1 hq; rw [HR.out] at hq; obtain ⟨A, cp, rfl, _, hb⟩ := hq.got; have HB := Lib.hid hb; have hbz := hb.size; clear hb hq))
            | (go_at_call 9; go_must (refine (HK.out _).mono ?_; rintro e w2 ⟨rfl, hb2⟩; have HB2 := Lib.hid ((HB.out.alloc hbz _).trans (hb2.mono (Nat.le_trans hbz (by simp)))); clear hb2))
          go_ret
          exact ⟨rfl, HB2.out⟩
end Go.Proofs.Ytajijcnfhijanaa
