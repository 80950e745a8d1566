/-
  CONTRACT: law4's headers, where the two are the same.
-/
import Derived.Test.YthjpodjfiajhaaaWhDecY
namespace Go.Proofs.Ythjpodjfiajhaaa
open Go.RowKit Go.Sort
open Wh (At)
open Me

set_option maxHeartbeats 2000000 in
theorem headers_nil (ag xf : Int) (A A' : Option Addr) (c c' : Nat) (w : World) :
    Calls Try.prog 6 #[.agg #[.int .i64 ag, .int .i64 xf, .slice A 0 c], .agg #[.int .i64 ag, .int .i64 xf, .slice A' 0 c']] w fun e w' => e = .returned (.bool true) ∧ Below w.heap.size w w' := by
  go_enter Try.func6, Try.ntmps6
  go_wp2_with fail
  go_loopw [5] (fun i wr => i = .int .i64 0 ∧ Below w.heap.size w wr ∧ (w.heap.size + 2 ≤ wr.heap.size ∧ wr.cell? ⟨w.heap.size, 2, none⟩ = some (.slice A 0 c))) (fun _ _ => 0)
  case atStart => exact ⟨rfl, (by repeat (first | exact Below.refl _ _ | assumption | refine Below.setCell ?_ (by first | (simp; done) | omega | (simp; omega) | (simp at *; omega)) _ | refine Below.alloc ?_ (by first | (simp; done) | omega | (simp; omega) | (simp at *; omega)) _ | refine Below.drew ?_ | (refine Below.trans ?_ (Below.mono (by assumption) (by first | (simp; done) | omega | (simp; omega) | (simp at *; omega)))) | (refine Below.trans ?_ (Below.mono (below_regrown _ _ _) (by first | (simp; done) | omega | (simp; omega) | (simp at *; omega)))))), by simp, by simp [go_sem]⟩
  case round =>
    obtain ⟨rfl, hR, hsz, hcl⟩ := hrel
    have hs : w.heap.size < wr.heap.size := by omega
    go_wp2
    go_ret
    exact ⟨rfl, hR⟩

set_option maxHeartbeats 2000000 in
theorem headers_some (ag xf : Int) (l : List (Int × Int)) (b off b' off' : Nat) (c c' : Nat) (w : World) (h : Ars w b off l) (h' : Ars w b' off' l) (h8 : l.length ≤ 8) :
    Calls Try.prog 6 #[.agg #[.int .i64 ag, .int .i64 xf, .slice (some ⟨b, off, none⟩) l.length c], .agg #[.int .i64 ag, .int .i64 xf, .slice (some ⟨b', off', none⟩) l.length c']] w fun e w' => e = .returned (.bool true) ∧ Below w.heap.size w w' := by
  have HA := Lib.hid h
  have HA' := Lib.hid h'
  clear h h'
  go_enter Try.func6, Try.ntmps6
  go_wp2_with fail
  go_loopw [5] (fun i wr => ∃ j : Nat, j ≤ l.length ∧ i = .int .i64 j ∧ Below w.heap.size w wr ∧ (w.heap.size + 2 ≤ wr.heap.size ∧ wr.cell? ⟨w.heap.size, 2, none⟩ = some (.slice (some ⟨b, off, none⟩) l.length c) ∧ wr.cell? ⟨w.heap.size + 1, 2, none⟩ = some (.slice (some ⟨b', off', none⟩) l.length c'))) (fun i _ => l.length - (intOf i).toNat)
  case atStart => exact ⟨0, Nat.zero_le _, rfl, (by repeat (first | exact Below.refl _ _ | assumption | refine Below.setCell ?_ (by first | (simp; done) | omega | (simp; omega) | (simp at *; omega)) _ | refine Below.alloc ?_ (by first | (simp; done) | omega | (simp; omega) | (simp at *; omega)) _ | refine Below.drew ?_ | (refine Below.trans ?_ (Below.mono (by assumption) (by first | (simp; done) | omega | (simp; omega) | (simp at *; omega)))) | (refine Below.trans ?_ (Below.mono (below_regrown _ _ _) (by first | (simp; done) | omega | (simp; omega) | (simp at *; omega)))))), by simp, by simp [go_sem], by simp [go_sem]⟩
  case round =>
    obtain ⟨j, hj, rfl, hR, hsz, hx, hy⟩ := hrel
    have hs1 : w.heap.size < wr.heap.size := by omega
    have hs2 : w.heap.size + 1 < wr.heap.size := by omega
    by_cases hlt : j < l.length
    · have a0 := (HA.out.below hR).st j hlt
      have a1 := (HA.out.below hR).ct j hlt
      have b0 := (HA'.out.below hR).st j hlt
      have b1 := (HA'.out.below hR).ct j hlt
      have hl1 := (HA.out.below hR).lt
      have hl2 := (HA'.out.below hR).lt
      have HR := Lib.hid hR
      clear hR HA HA'
      generalize At l j = a at *
      obtain ⟨s, t⟩ := a
      dsimp only at *
      have hjI : (j : Int) < (l.length : Int) := by omega
      go_wp2_with fail
      go_quiet (fail)
      go_wp2
      go_roundw
      case rel => exact ⟨j + 1, by omega, by go_num, bel_drewN HR.out _, hsz, hx, hy⟩
      case measure => simp [intOf]; omega
    · obtain rfl : j = l.length := by omega
      go_wp2
      go_ret
      exact ⟨rfl, hR⟩

theorem headers_any (ag xf : Int) (l : List (Int × Int)) (A A' : Option Addr) (c c' : Nat) (w : World) (h : Row w A l c) (h' : Row w A' l c') (h8 : l.length ≤ 8) :
    Calls Try.prog 6 #[.agg #[.int .i64 ag, .int .i64 xf, .slice A l.length c], .agg #[.int .i64 ag, .int .i64 xf, .slice A' l.length c']] w fun e w' => e = .returned (.bool true) ∧ Below w.heap.size w w' := by
  by_cases h0 : l.length = 0
  · rw [h0]; exact headers_nil ag xf A A' c c' w
  · obtain ⟨b, off, rfl, hA⟩ := h.2 (by omega)
    obtain ⟨b', off', rfl, hA'⟩ := h'.2 (by omega)
    exact headers_some ag xf l b off b' off' c c' w hA hA' h8
end Go.Proofs.Ythjpodjfiajhaaa
