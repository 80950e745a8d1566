/-
  TrActs: CHAPTER 10: TriePlays' law: acts as a list, heavy, the start.
-/
import Derived.Test.YtfmbbhcjnidcbaaGreatDoorJ49
import Derived.Test.YtfmbbhcjnidcbaaGreatDoorJ43
import Derived.RegionTactic
import Derived.Test.YtfmbbhcjnidcbaaGreatDoorJ24

namespace Go.Proofs.YtfmbbhcjnidcbaaGreatDoor
open Go.RowKit Go.Sort
open Me

namespace Tr
/-- Acts as cells. -/
def avs (ys : List (Int × List UInt8)) : List Value := ys.flatMap fun a => [.int .i64 a.1, .string ⟨a.2.toArray⟩]
theorem avs_len (ys : List (Int × List UInt8)) : (avs ys).length = ys.length * 2 := by
  unfold avs
  induction ys with
  | nil => rfl
  | cons a r ih => rw [List.flatMap_cons, List.length_append, ih, List.length_cons]; simp; omega
theorem avs_get : ∀ (ys : List (Int × List UInt8)) (k : Nat) (h : k < ys.length), (avs ys)[k * 2]? = some (.int .i64 ys[k].1) ∧ (avs ys)[k * 2 + 1]? = some (.string ⟨ys[k].2.toArray⟩)
  | a :: r, 0, _ => ⟨rfl, rfl⟩
  | a :: r, k + 1, h => by
    obtain ⟨h1, h2⟩ := avs_get r k (by simpa using h)
    have e : avs (a :: r) = .int .i64 a.1 :: .string ⟨a.2.toArray⟩ :: avs r := rfl
    refine ⟨?_, ?_⟩
    · rw [e, show (k + 1) * 2 = k * 2 + 1 + 1 by omega, List.getElem?_cons_succ, List.getElem?_cons_succ, h1]; rfl
    · rw [e, show (k + 1) * 2 + 1 = k * 2 + 1 + 1 + 1 by omega, List.getElem?_cons_succ, List.getElem?_cons_succ, h2]; rfl
def hvB (ys : List (Int × List UInt8)) : Bool := (ys.take 100).any fun a => decide (250 < a.2.length)
theorem hvB_true {ys : List (Int × List UInt8)} (k : Nat) (h : k < ys.length) (h2 : k < 100) (h5 : 250 < ys[k].2.length) : hvB ys = true := by
  unfold hvB
  rw [List.any_eq_true]
  refine ⟨ys[k], ?_, decide_eq_true h5⟩
  have h3 : k < (ys.take 100).length := by rw [List.length_take]; omega
  have := List.getElem_mem h3
  rwa [List.getElem_take] at this
theorem hvB_false {ys : List (Int × List UInt8)} (hall : ∀ j (h : j < ys.length), j < 100 → ys[j].2.length ≤ 250) : hvB ys = false := by
  unfold hvB
  rw [List.any_eq_false]
  intro x hx
  obtain ⟨j, hj, rfl⟩ := List.getElem_of_mem hx
  rw [List.length_take] at hj
  rw [List.getElem_take]
  have := hall j (by omega) (by omega)
  simpa using this
theorem hvB_spec {ys : List (Int × List UInt8)} (h : hvB ys = false) (j : Nat) (hj : j < ys.length) (h1 : j < 100) : ys[j].2.length ≤ 250 := by
  rcases Nat.lt_or_ge 250 ys[j].2.length with h5 | h5
  · rw [hvB_true j hj h1 h5] at h; cases h
  · exact h5
theorem duo_start {w wa w1 : World} (hb : Below w.heap.size w wa) (ho : Own_ wa w1 wa.heap.size 0 []) : Duo w (w1.alloc (.cells #[.slice none 0 0] 29)) wa.heap.size w1.heap.size 0 [] [] := by
  obtain ⟨c, F, h1, h2, h3, h4⟩ := ho
  have hz := hb.size
  have hz1 := h4.size
  refine ⟨c, F, h1, h2.below ((Below.refl _ _).alloc (Nat.le_refl _) _), fun i hi => Nat.le_trans hz (h3 i hi), fun h => by have := h2.tree.lt h; omega, by omega, ⟨none, 0, RowAt.new _ _ _, Nat.le_refl _, Nat.zero_le _, Rd.none_ _ _ _⟩, (hb.trans (h4.mono hz)).alloc (Nat.le_trans hz hz1) _, Nat.zero_le _, Nat.zero_le _, fun _ h => by cases h⟩
end Tr

set_option maxRecDepth 100000 in
set_option maxHeartbeats 1000000 in
theorem heavy10_any (ys : List (Int × List UInt8)) (A : Option Addr) (c : Nat) (w : World) (hr : Rd w (fun _ => True) A (Tr.avs ys)) :
    Calls Tryz.prog 4 #[.slice A ys.length c] w fun e w' => e = .returned (.bool (Tr.hvB ys)) ∧ Below w.heap.size w w' := by
  have HR := Lib.hid hr
  clear hr
  go_enter Tryz.func4, Tryz.ntmps4
  go_wp2_with fail
  go_loopw [3] (fun i wr => ∃ k : Nat, k ≤ ys.length ∧ k ≤ 100 ∧ i = .int .i64 k ∧ Hid (Below w.heap.size w wr) ∧ Hid (∀ j (h : j < ys.length), j < k → ys[j].2.length ≤ 250)) (fun i _ => 100 - (intOf i).toNat)
  case atStart => exact ⟨0, Nat.zero_le _, Nat.zero_le _, rfl, Lib.hid (Below.refl _ _), Lib.hid fun _ _ h => absurd h (Nat.not_lt_zero _)⟩
  case round =>
    obtain ⟨k, hk, hk1, rfl, HW, HN⟩ := hrel
    have hk0 : (0 : Int) ≤ (k : Int) := by omega
    by_cases h1 : k < ys.length
    · have h1I : (k : Int) < (ys.length : Int) := by omega
      by_cases h2 : k < 100
      · have h2I : (k : Int) < (100 : Int) := by omega
        obtain ⟨lb, lo, rfl, hlb, _, hx⟩ := HR.out.lit (k * 2) (by rw [Tr.avs_len]; omega)
        have ec := (HW.out.cell (p := ⟨lb, lo + (k * 2 + 1), none⟩) hlb).trans (hx (k * 2 + 1) _ (Tr.avs_get ys k h1).2)
        rw [← Nat.add_assoc] at ec
        have hss : (⟨ys[k].2.toArray⟩ : ByteArray).size = ys[k].2.length := by show ys[k].2.toArray.size = _; simp
        clear hx
        by_cases h5 : 250 < ys[k].2.length
        · have h5I : (250 : Int) < (ys[k].2.length : Int) := by omega
          have HT := Lib.hid (Tr.hvB_true k h1 h2 h5)
          clear HN h5
          generalize ys[k].2 = s at *
          go_wp2_with fail
          go_ret
          exact ⟨by rw [HT.out]; rfl, HW.out⟩
        · have h5I : ¬ (250 : Int) < (ys[k].2.length : Int) := by omega
          have HN2 : Hid (∀ j (h : j < ys.length), j < k + 1 → ys[j].2.length ≤ 250) := Lib.hid fun j h hj => by
            by_cases e : j = k
            · subst e; omega
            · exact HN.out j h (by omega)
          clear HN h5
          generalize ys[k].2 = s at *
          go_wp2_with fail
          go_roundw
          case rel => exact ⟨k + 1, by omega, by omega, by go_num, HW, HN2⟩
          case measure => simp [intOf]; omega
      · have h2I : ¬ (k : Int) < (100 : Int) := by omega
        have HF := Lib.hid (Tr.hvB_false fun j (h : j < ys.length) (hj : j < 100) => HN.out j h (by omega))
        clear HN
        go_wp2_with fail
        go_ret
        exact ⟨by rw [HF.out]; rfl, HW.out⟩
    · have h1I : ¬ (k : Int) < (ys.length : Int) := by omega
      have HF := Lib.hid (Tr.hvB_false fun j (h : j < ys.length) (_ : j < 100) => HN.out j h (by omega))
      clear HN
      go_wp2_with fail
      go_ret
      exact ⟨by rw [HF.out]; rfl, HW.out⟩

end Go.Proofs.YtfmbbhcjnidcbaaGreatDoor
