/-
  CONTRACT: whead's Decode.
-/
import Derived.Test.YthjpodjfiajhaaaWhPre
import Derived.Test.YthjpodjfiajhaaaWhReadY
namespace Go.Proofs.Ythjpodjfiajhaaa
open Go.RowKit Go.Sort
open Wh (At)
open Me

namespace Wh
def rok (L : List UInt8) : Bool := decide (16 ≤ L.length) && decide (nm L 12 ≤ 8) && decide (16 + 12 * nm L 12 ≤ (L.length : Int))
def cand (L : List UInt8) : List (Int × Int) := archs L (nm L 12).toNat
def encL (L : List UInt8) : List UInt8 := enc (nm L 0) (nm L 8) (cand L)
def dok (L : List UInt8) : Bool := rok L && val (nm L 0) (nm L 8) (cand L) && decide ((encL L).length ≤ L.length ∧ L.take (encL L).length = encL L)
def dag (L : List UInt8) : Int := if dok L = true then nm L 0 else 0
def dxf (L : List UInt8) : Int := if dok L = true then nm L 8 else 0
def dl (L : List UInt8) : List (Int × Int) := if dok L = true then cand L else []
def derr (L : List UInt8) : Int := if dok L = true then 0 else 2
theorem rok_t {L : List UInt8} (h : rok L = true) : 16 ≤ L.length ∧ nm L 12 ≤ 8 ∧ 16 + 12 * nm L 12 ≤ (L.length : Int) := by
  unfold rok at h
  simp only [Bool.and_eq_true, decide_eq_true_eq] at h
  exact ⟨h.1.1, h.1.2, h.2⟩
theorem rok_f {L : List UInt8} (h : rok L = false) : L.length < 16 ∨ (16 ≤ L.length ∧ (8 < nm L 12 ∨ (L.length : Int) < 16 + nm L 12 * 12)) := by
  by_cases h1 : L.length < 16
  · exact .inl h1
  · refine .inr ⟨by omega, ?_⟩
    by_cases h2 : 8 < nm L 12
    · exact .inl h2
    · refine .inr ?_
      by_cases h3 : (L.length : Int) < 16 + nm L 12 * 12
      · exact h3
      · exfalso
        have : rok L = true := by
          unfold rok
          simp only [Bool.and_eq_true, decide_eq_true_eq]
          exact ⟨⟨by omega, by omega⟩, by omega⟩
        rw [h] at this
        cases this
theorem dok_f {L : List UInt8} (h : dok L = false) : dag L = 0 ∧ dxf L = 0 ∧ dl L = [] ∧ derr L = 2 := by unfold dag dxf dl derr; rw [h]; exact ⟨rfl, rfl, rfl, rfl⟩
theorem dok_t {L : List UInt8} (h : dok L = true) : dag L = nm L 0 ∧ dxf L = nm L 8 ∧ dl L = cand L ∧ derr L = 0 := by unfold dag dxf dl derr; rw [h]; exact ⟨rfl, rfl, rfl, rfl⟩
theorem dok_r {L : List UInt8} (h : rok L = false) : dok L = false := by unfold dok; rw [h, Bool.false_and, Bool.false_and]
theorem dok_v {L : List UInt8} (h : val (nm L 0) (nm L 8) (cand L) = false) : dok L = false := by unfold dok; rw [h]; simp
theorem dok_p {L : List UInt8} (h : rok L = true) (hv : val (nm L 0) (nm L 8) (cand L) = true) : dok L = decide ((encL L).length ≤ L.length ∧ L.take (encL L).length = encL L) := by unfold dok; rw [h, hv, Bool.true_and, Bool.true_and]
end Wh

/-- What Decode hands back. -/
def Decoded (w : World) (L : List UInt8) (e : Ending) (w' : World) : Prop :=
  ∃ A c, e = .returned (.tuple #[.agg #[.int .i64 (Wh.dag L), .int .i64 (Wh.dxf L), .slice A (Wh.dl L).length c], .int .i64 (Wh.derr L)]) ∧ Row w' A (Wh.dl L) c ∧ Below w.heap.size w w'
theorem Decoded.no {w w' : World} {L : List UInt8} {e : Ending} (h : Wh.dok L = false) (he : e = .returned (.tuple #[.agg #[.int .i64 0, .int .i64 0, .slice none 0 0], .int .i64 2])) (hb : Below w.heap.size w w') : Decoded w L e w' := by
  obtain ⟨e1, e2, e3, e4⟩ := Wh.dok_f h
  refine ⟨none, 0, ?_, ?_, hb⟩
  · rw [he, e1, e2, e3, e4]; rfl
  · rw [e3]; exact ⟨Nat.le_refl _, fun h => by cases h⟩
theorem Decoded.yes {w w' : World} {L : List UInt8} {e : Ending} {g c : Nat} (h : Wh.dok L = true) (he : e = .returned (.tuple #[.agg #[.int .i64 (Wh.nm L 0), .int .i64 (Wh.nm L 8), .slice (some ⟨g, 0, none⟩) (Wh.cand L).length c], .int .i64 0])) (hr : Row w' (some ⟨g, 0, none⟩) (Wh.cand L) c) (hb : Below w.heap.size w w') : Decoded w L e w' := by
  obtain ⟨e1, e2, e3, e4⟩ := Wh.dok_t h
  refine ⟨some ⟨g, 0, none⟩, c, ?_, ?_, hb⟩
  · rw [he, e1, e2, e3, e4]
  · rw [e3]; exact hr

set_option maxHeartbeats 1000000 in
theorem decode_bad (A : Option Addr) (L : List UInt8) (cap : Nat) (w : World) (hd : Wh.dok L = false)
    (HR : Hid (∀ W, Below w.heap.size w W → Calls Try.prog 9 #[.slice A L.length cap] W fun e w' => e = .returned (.tuple #[.agg #[.int .i64 0, .int .i64 0, .slice none 0 0], .bool false]) ∧ Below W.heap.size W w')) :
    Calls Try.prog 4 #[.slice A L.length cap] w (Decoded w L) := by
  have HD := Lib.hid hd
  clear hd
  go_enter Try.func4, Try.ntmps4
  go_wp2_with (go_at_call 9; (((with_reducible refine (HR.out _ ((Below.refl _ _).alloc (Nat.le_refl _) _)).mono ?_)); rintro e w1 ⟨rfl, hb1⟩; obtain ⟨hc1, hf1⟩ := bcell hb1; (try have hq1w : w.heap.size < w1.heap.size := Nat.lt_of_lt_of_le (by first | assumption | (simp; done) | (simp; omega)) hb1.size); have hs1 := hb1.size; (try simp at hs1)))
  refine bodyPost_ret (v := .tuple #[.agg #[.int .i64 0, .int .i64 0, .slice none 0 0], .int .i64 2]) ?_ rfl (Decoded.no HD.out rfl ?_)
  · simp [results, Try.results4, go_sem, hc1, hq1w]
  · exact (by repeat (first | exact Below.refl _ _ | assumption | refine Below.setCell ?_ (by first | (simp; done) | omega | (simp; omega) | (simp at *; omega)) _ | refine Below.alloc ?_ (by first | (simp; done) | omega | (simp; omega) | (simp at *; omega)) _ | refine Below.drew ?_ | (refine Below.trans ?_ (Below.mono (by assumption) (by first | (simp; done) | omega | (simp; omega) | (simp at *; omega)))) | (refine Below.trans ?_ (Below.mono (below_regrown _ _ _) (by first | (simp; done) | omega | (simp; omega) | (simp at *; omega))))))
end Go.Proofs.Ythjpodjfiajhaaa
