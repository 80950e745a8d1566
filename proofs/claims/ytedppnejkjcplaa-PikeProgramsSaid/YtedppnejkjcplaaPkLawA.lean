/-
  CHAPTER 12, LAWS: two rows of numbers; a program as the document's.
-/
import Derived.Test.YtedppnejkjcplaaPkWayP
import Derived.Laws.ResultCell
import Derived.RegionTactic
import Derived.Deep.RegionLaw
namespace Go.Proofs.Ytedppnejkjcplaa
open Go.RowKit Go.Sort
open Me
open Pk

set_option maxRecDepth 100000 in
set_option maxHeartbeats 2000000 in
theorem numbers_any {W : World} {G1 G2 : Nat → Prop} {A1 A2 : Option Addr} {c1 c2 : Nat} {l1 l2 : List Int} (h1 : Rd W G1 A1 (iv l1)) (h2 : Rd W G2 A2 (iv l2)) (hl : l1.length ≤ 1048576) :
    Calls Try.prog 16 #[.slice A1 l1.length c1, .slice A2 l2.length c2] W fun e W' => e = .returned (.bool (decide (l1 = l2))) ∧ Below W.heap.size W W' := by
  obtain ⟨R, hR⟩ : ∃ R, decide (l1 = l2) = R := ⟨_, rfl⟩
  rw [hR]
  by_cases hlen : l1.length = l2.length
  · have HE : Hid (∀ k, l1.getD k 0 ≠ l2.getD k 0 → false = R) := Lib.hid fun k hne => by
      rw [← hR]
      refine (decide_eq_false fun e => hne ?_).symm
      rw [e]
    have HT : Hid ((∀ k, k < l1.length → l1.getD k 0 = l2.getD k 0) → true = R) := Lib.hid fun h => by
      rw [← hR]
      refine (decide_eq_true (List.ext_getElem hlen fun k h1 h2 => ?_)).symm
      have := h k h1
      rwa [List.getD_eq_getElem?_getD, List.getD_eq_getElem?_getD, List.getElem?_eq_getElem h1, List.getElem?_eq_getElem h2] at this
    have HL := Lib.hid hlen
    have hlI : (l1.length : Int) = (l2.length : Int) := by omega
    have H1 := Lib.hid h1
    have H2 := Lib.hid h2
    obtain ⟨n, hn⟩ : ∃ n, n = l1.length := ⟨_, rfl⟩
    have HN := Lib.hid hn
    rw [← hlen, ← hn]
    have hnb : n ≤ 1048576 := by omega
    clear hR h1 h2 hlI hlen hn hl
    go_enter Try.func16, Try.ntmps16
    go_wp2_with fail
    go_loopw [5] (fun x wr => ∃ k : Nat, x = .int .i64 (k : Int) ∧ k ≤ n ∧ Hid (Below W.heap.size W wr) ∧ Hid (∀ i, i < k → l1.getD i 0 = l2.getD i 0)) (fun x _ => n - (intOf x).toNat)
    case atStart => exact ⟨0, rfl, Nat.zero_le _, Lib.hid (Below.refl _ _), Lib.hid fun i h0 => absurd h0 (Nat.not_lt_zero _)⟩
    case round =>
      obtain ⟨k, rfl, hk, HB, HA⟩ := hrel
      by_cases hlt : k < n
      · have hltI : (k : Int) < (n : Int) := by omega
        have hk1 : k < l1.length := by rw [← HN.out]; exact hlt
        have hk2 : k < l2.length := by rw [← HL.out]; exact hk1
        obtain ⟨b1, o1, rfl, hb1, _, q1⟩ := (H1.out.below HB.out).lit k (by rw [iv_len]; exact hk1)
        obtain ⟨b2, o2, rfl, hb2, _, q2⟩ := (H2.out.below HB.out).lit k (by rw [iv_len]; exact hk2)
        have r1 := q1 k _ (iv_get l1 k hk1)
        have r2 := q2 k _ (iv_get l2 k hk2)
        obtain ⟨x1, hx1⟩ : ∃ x, l1[k] = x := ⟨_, rfl⟩
        obtain ⟨x2, hx2⟩ : ∃ x, l2[k] = x := ⟨_, rfl⟩
        rw [hx1] at r1
        rw [hx2] at r2
        have HX1 : Hid (l1.getD k 0 = x1) := Lib.hid (by rw [List.getD_eq_getElem?_getD, List.getElem?_eq_getElem hk1, hx1]; rfl)
        have HX2 : Hid (l2.getD k 0 = x2) := Lib.hid (by rw [List.getD_eq_getElem?_getD, List.getElem?_eq_getElem hk2, hx2]; rfl)
        have hkI : (0 : Int) ≤ (k : Int) := by omega
        clear q1 q2 hx1 hx2
        by_cases he : x1 = x2
        · have hne : (x1 != x2) = false := by simp [he]
          have HA2 : Hid (∀ i, i < k + 1 → l1.getD i 0 = l2.getD i 0) := Lib.hid fun i hi => by
            by_cases e : i = k
            · subst e
              rw [HX1.out, HX2.out, he]
            · exact HA.out i (by omega)
          subst he
          clear hne
          go_wp2_with fail
          go_region_law (fail)
          all_goals
            try go_simp
            go_wp2_with fail
            go_roundw
            case rel => exact ⟨k + 1, by go_num, by omega, Lib.hid HB.out.drew, HA2⟩
            case measure => simp [intOf]; omega
        · have HQ : Hid (false = R) := Lib.hid (HE.out k (by rw [HX1.out, HX2.out]; exact he))
          have hne : (x1 != x2) = true := by simpa using he
          go_wp2_with fail
          go_region_law (fail)
          all_goals
            try go_simp
            try go_wp2_with fail
            go_ret
            exact ⟨by rw [← HQ.out]; rfl, HB.out.drew⟩
      · have hltI : ¬ (k : Int) < (n : Int) := by omega
        have HQ : Hid (true = R) := Lib.hid (HT.out fun i h => HA.out i (by have := HN.out; omega))
        go_wp2_with fail
        go_ret
        exact ⟨by rw [← HQ.out]; rfl, HB.out⟩
  · have hlI : ¬ (l1.length : Int) = (l2.length : Int) := by omega
    have HQ : Hid (false = R) := Lib.hid (by rw [← hR]; exact (decide_eq_false fun e => hlen (by rw [e])).symm)
    clear hR h1 h2
    go_enter Try.func16, Try.ntmps16
    go_wp2_with fail
    go_ret
    exact ⟨by rw [← HQ.out]; rfl, Below.refl _ _⟩
end Go.Proofs.Ytedppnejkjcplaa
