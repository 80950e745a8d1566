/-
  FxBase: THE FIRST CONTRACTS: what fixed's small functions come to, and the document's own.
  DcMill: CONTRACTS: the program's millionths and Parse.
-/
import Derived.Test.YtojmcndiooiehaaGreatDoorRows
import Derived.Test.YtojmcndiooiehaaGreatDoorJ14
import Derived.WalkKit
import Derived.WalkSpells
import Derived.WalkLawsBesides
import Derived.Deep.QuietTactic
import Derived.BigQuiet
import Derived.Lib.QuietBelow
import Derived.Lib.Hide

set_option linter.unusedSimpArgs false
set_option linter.unusedVariables false
namespace Go.Proofs.YtojmcndiooiehaaGreatDoor
open Go.RowKit
open Fx (Vl)

theorem bcell {W w1 : World} (hb : Below W.heap.size W w1) : (∀ b o, b < W.heap.size → w1.cell? ⟨b, o, none⟩ = W.cell? ⟨b, o, none⟩) ∧ (∀ b o, b < W.heap.size → w1.frozen? ⟨b, o, none⟩ = W.frozen? ⟨b, o, none⟩) :=
  ⟨fun b o h => hb.cell (p := ⟨b, o, none⟩) h, fun b o h => hb.frozen (p := ⟨b, o, none⟩) h⟩

/-- Old cells, and old marks, in a world of the class. -/
theorem kgrown (W : World) : (∀ d os b o, b < W.heap.size → (Go.Sort.grow (redrawn W d) os).cell? ⟨b, o, none⟩ = W.cell? ⟨b, o, none⟩) ∧ (∀ d os b o, b < W.heap.size → (Go.Sort.grow (redrawn W d) os).frozen? ⟨b, o, none⟩ = W.frozen? ⟨b, o, none⟩) :=
  ⟨fun d os b o h => (below_regrown W d os).cell (p := ⟨b, o, none⟩) h, fun d os b o h => (below_regrown W d os).frozen (p := ⟨b, o, none⟩) h⟩

set_option maxHeartbeats 400000 in
theorem inRange_any (n : Int) (w : World) :
    Calls Tryz.prog 86 #[.int .i64 n] w fun e w' => e = .returned (.bool (Fx.inR n)) ∧ w = w' := by
  by_cases h1 : -4611686018427387904 ≤ n
  · by_cases h2 : n ≤ 4611686018427387904
    · have H := Lib.hid (Fx.inR_yes h1 h2)
      go_enter Tryz.func86, Tryz.ntmps86
      go_wp2
      go_ret
      exact ⟨by rw [H.out]; rfl, rfl⟩
    · have H := Lib.hid (Fx.inR_high (by omega : 4611686018427387904 < n))
      go_enter Tryz.func86, Tryz.ntmps86
      go_wp2
      go_ret
      exact ⟨by rw [H.out]; rfl, rfl⟩
  · have H := Lib.hid (Fx.inR_low (by omega : n < -4611686018427387904))
    go_enter Tryz.func86, Tryz.ntmps86
    go_wp2
    go_ret
    exact ⟨by rw [H.out]; rfl, rfl⟩

set_option maxHeartbeats 400000 in
theorem of_any (n : Int) (w : World) :
    Calls Tryz.prog 101 #[.int .i64 n] w fun e w' => e = .returned (.agg #[.bool (Fx.of n).ok, .int .i64 (Fx.of n).n]) ∧ Below w.heap.size w w' := by
  cases h : Fx.inR n
  · rw [Fx.of_no h]
    go_enter Tryz.func101, Tryz.ntmps101
    go_wp2_with (go_at_call 86; go_must (refine (inRange_any _ _).mono ?_; rintro e w' ⟨rfl, rfl⟩))
    exact bodyPost_ret (v := .agg #[.bool false, .int .i64 0]) (by simp [results, Tryz.results101, go_sem, *]) rfl ⟨rfl, (by repeat (first | exact Below.refl _ _ | assumption | refine Below.setCell ?_ (by first | (simp; done) | omega | (simp; omega) | (simp at *; omega)) _ | refine Below.alloc ?_ (by first | (simp; done) | omega | (simp; omega) | (simp at *; omega)) _ | refine Below.drew ?_ | (refine Below.trans ?_ (Below.mono (by assumption) (by first | (simp; done) | omega | (simp; omega) | (simp at *; omega)))) | (refine Below.trans ?_ (Below.mono (below_regrown _ _ _) (by first | (simp; done) | omega | (simp; omega) | (simp at *; omega))))))⟩
  · rw [Fx.of_yes h]
    go_enter Tryz.func101, Tryz.ntmps101
    go_wp2_with (go_at_call 86; go_must (refine (inRange_any _ _).mono ?_; rintro e w' ⟨rfl, rfl⟩))
    exact bodyPost_ret (v := .agg #[.bool true, .int .i64 n]) (by simp [results, Tryz.results101, go_sem, *]) rfl ⟨rfl, (by repeat (first | exact Below.refl _ _ | assumption | refine Below.setCell ?_ (by first | (simp; done) | omega | (simp; omega) | (simp at *; omega)) _ | refine Below.alloc ?_ (by first | (simp; done) | omega | (simp; omega) | (simp at *; omega)) _ | refine Below.drew ?_ | (refine Below.trans ?_ (Below.mono (by assumption) (by first | (simp; done) | omega | (simp; omega) | (simp at *; omega)))) | (refine Below.trans ?_ (Below.mono (below_regrown _ _ _) (by first | (simp; done) | omega | (simp; omega) | (simp at *; omega))))))⟩

set_option maxHeartbeats 400000 in
theorem refOf_any (n : Int) (w : World) :
    Calls Tryz.prog 72 #[.int .i64 n] w fun e w' => e = .returned (.agg #[.bool (Fx.of n).ok, .int .i64 (Fx.of n).n]) ∧ Below w.heap.size w w' := by
  by_cases h1 : -4611686018427387904 ≤ n
  · by_cases h2 : n ≤ 4611686018427387904
    · rw [Fx.of_yes (Fx.inR_yes h1 h2)]
      go_enter Tryz.func72, Tryz.ntmps72
      go_wp2
      exact bodyPost_ret (v := .agg #[.bool true, .int .i64 n]) (by simp [results, Tryz.results72, go_sem, *]) rfl ⟨rfl, (by repeat (first | exact Below.refl _ _ | assumption | refine Below.setCell ?_ (by first | (simp; done) | omega | (simp; omega) | (simp at *; omega)) _ | refine Below.alloc ?_ (by first | (simp; done) | omega | (simp; omega) | (simp at *; omega)) _ | refine Below.drew ?_ | (refine Below.trans ?_ (Below.mono (by assumption) (by first | (simp; done) | omega | (simp; omega) | (simp at *; omega)))) | (refine Below.trans ?_ (Below.mono (below_regrown _ _ _) (by first | (simp; done) | omega | (simp; omega) | (simp at *; omega))))))⟩
    · rw [Fx.of_no (Fx.inR_high (by omega : 4611686018427387904 < n))]
      go_enter Tryz.func72, Tryz.ntmps72
      go_wp2
      exact bodyPost_ret (v := .agg #[.bool false, .int .i64 0]) (by simp [results, Tryz.results72, go_sem, *]) rfl ⟨rfl, (by repeat (first | exact Below.refl _ _ | assumption | refine Below.setCell ?_ (by first | (simp; done) | omega | (simp; omega) | (simp at *; omega)) _ | refine Below.alloc ?_ (by first | (simp; done) | omega | (simp; omega) | (simp at *; omega)) _ | refine Below.drew ?_ | (refine Below.trans ?_ (Below.mono (by assumption) (by first | (simp; done) | omega | (simp; omega) | (simp at *; omega)))) | (refine Below.trans ?_ (Below.mono (below_regrown _ _ _) (by first | (simp; done) | omega | (simp; omega) | (simp at *; omega))))))⟩
  · rw [Fx.of_no (Fx.inR_low (by omega : n < -4611686018427387904))]
    go_enter Tryz.func72, Tryz.ntmps72
    go_wp2
    exact bodyPost_ret (v := .agg #[.bool false, .int .i64 0]) (by simp [results, Tryz.results72, go_sem, *]) rfl ⟨rfl, (by repeat (first | exact Below.refl _ _ | assumption | refine Below.setCell ?_ (by first | (simp; done) | omega | (simp; omega) | (simp at *; omega)) _ | refine Below.alloc ?_ (by first | (simp; done) | omega | (simp; omega) | (simp at *; omega)) _ | refine Below.drew ?_ | (refine Below.trans ?_ (Below.mono (by assumption) (by first | (simp; done) | omega | (simp; omega) | (simp at *; omega)))) | (refine Below.trans ?_ (Below.mono (below_regrown _ _ _) (by first | (simp; done) | omega | (simp; omega) | (simp at *; omega))))))⟩

set_option maxHeartbeats 400000 in
theorem isV_any (b : Bool) (n : Int) (w : World) :
    Calls Tryz.prog 60 #[.agg #[.bool b, .int .i64 n]] w fun e w' => e = .returned (.bool (Fx.isV ⟨b, n⟩)) ∧ Below w.heap.size w w' := by
  cases b
  · rw [Fx.isV_off]
    go_enter Tryz.func60, Tryz.ntmps60
    go_wp2
    go_ret
    exact ⟨by first | rfl | simp, (by repeat (first | exact Below.refl _ _ | assumption | refine Below.setCell ?_ (by first | (simp; done) | omega | (simp; omega) | (simp at *; omega)) _ | refine Below.alloc ?_ (by first | (simp; done) | omega | (simp; omega) | (simp at *; omega)) _ | refine Below.drew ?_ | (refine Below.trans ?_ (Below.mono (by assumption) (by first | (simp; done) | omega | (simp; omega) | (simp at *; omega)))) | (refine Below.trans ?_ (Below.mono (below_regrown _ _ _) (by first | (simp; done) | omega | (simp; omega) | (simp at *; omega))))))⟩
  · rw [Fx.isV_on]
    go_enter Tryz.func60, Tryz.ntmps60
    go_wp2_with (go_at_call 86; go_must (refine (inRange_any _ _).mono ?_; rintro e w' ⟨rfl, rfl⟩))
    go_ret
    exact ⟨rfl, (by repeat (first | exact Below.refl _ _ | assumption | refine Below.setCell ?_ (by first | (simp; done) | omega | (simp; omega) | (simp at *; omega)) _ | refine Below.alloc ?_ (by first | (simp; done) | omega | (simp; omega) | (simp at *; omega)) _ | refine Below.drew ?_ | (refine Below.trans ?_ (Below.mono (by assumption) (by first | (simp; done) | omega | (simp; omega) | (simp at *; omega)))) | (refine Below.trans ?_ (Below.mono (below_regrown _ _ _) (by first | (simp; done) | omega | (simp; omega) | (simp at *; omega))))))⟩

set_option maxHeartbeats 400000 in
theorem refIsV_any (b : Bool) (n : Int) (w : World) :
    Calls Tryz.prog 49 #[.agg #[.bool b, .int .i64 n]] w fun e w' => e = .returned (.bool (Fx.isV ⟨b, n⟩)) ∧ Below w.heap.size w w' := by
  cases b
  · rw [Fx.isV_off]
    go_enter Tryz.func49, Tryz.ntmps49
    go_wp2
    go_ret
    exact ⟨by first | rfl | simp, (by repeat (first | exact Below.refl _ _ | assumption | refine Below.setCell ?_ (by first | (simp; done) | omega | (simp; omega) | (simp at *; omega)) _ | refine Below.alloc ?_ (by first | (simp; done) | omega | (simp; omega) | (simp at *; omega)) _ | refine Below.drew ?_ | (refine Below.trans ?_ (Below.mono (by assumption) (by first | (simp; done) | omega | (simp; omega) | (simp at *; omega)))) | (refine Below.trans ?_ (Below.mono (below_regrown _ _ _) (by first | (simp; done) | omega | (simp; omega) | (simp at *; omega))))))⟩
  · rw [Fx.isV_on]
    by_cases h1 : -4611686018427387904 ≤ n
    · by_cases h2 : n ≤ 4611686018427387904
      · have H := Lib.hid (Fx.inR_yes h1 h2)
        go_enter Tryz.func49, Tryz.ntmps49
        go_wp2
        go_ret
        exact ⟨by rw [H.out]; rfl, (by repeat (first | exact Below.refl _ _ | assumption | refine Below.setCell ?_ (by first | (simp; done) | omega | (simp; omega) | (simp at *; omega)) _ | refine Below.alloc ?_ (by first | (simp; done) | omega | (simp; omega) | (simp at *; omega)) _ | refine Below.drew ?_ | (refine Below.trans ?_ (Below.mono (by assumption) (by first | (simp; done) | omega | (simp; omega) | (simp at *; omega)))) | (refine Below.trans ?_ (Below.mono (below_regrown _ _ _) (by first | (simp; done) | omega | (simp; omega) | (simp at *; omega))))))⟩
      · have H := Lib.hid (Fx.inR_high (by omega : 4611686018427387904 < n))
        go_enter Tryz.func49, Tryz.ntmps49
        go_wp2
        go_ret
        exact ⟨by rw [H.out]; rfl, (by repeat (first | exact Below.refl _ _ | assumption | refine Below.setCell ?_ (by first | (simp; done) | omega | (simp; omega) | (simp at *; omega)) _ | refine Below.alloc ?_ (by first | (simp; done) | omega | (simp; omega) | (simp at *; omega)) _ | refine Below.drew ?_ | (refine Below.trans ?_ (Below.mono (by assumption) (by first | (simp; done) | omega | (simp; omega) | (simp at *; omega)))) | (refine Below.trans ?_ (Below.mono (below_regrown _ _ _) (by first | (simp; done) | omega | (simp; omega) | (simp at *; omega))))))⟩
    · have H := Lib.hid (Fx.inR_low (by omega : n < -4611686018427387904))
      go_enter Tryz.func49, Tryz.ntmps49
      go_wp2
      go_ret
      exact ⟨by rw [H.out]; rfl, (by repeat (first | exact Below.refl _ _ | assumption | refine Below.setCell ?_ (by first | (simp; done) | omega | (simp; omega) | (simp at *; omega)) _ | refine Below.alloc ?_ (by first | (simp; done) | omega | (simp; omega) | (simp at *; omega)) _ | refine Below.drew ?_ | (refine Below.trans ?_ (Below.mono (by assumption) (by first | (simp; done) | omega | (simp; omega) | (simp at *; omega)))) | (refine Below.trans ?_ (Below.mono (below_regrown _ _ _) (by first | (simp; done) | omega | (simp; omega) | (simp at *; omega))))))⟩

set_option maxHeartbeats 400000 in
theorem known1_any (b : Bool) (n : Int) (w : World) :
    Calls Tryz.prog 64 #[.agg #[.bool b, .int .i64 n]] w fun e w' => e = .returned (.bool (Fx.num ⟨b, n⟩)) ∧ Below w.heap.size w w' := by
  cases b
  · go_enter Tryz.func64, Tryz.ntmps64
    go_wp2
    go_ret
    exact ⟨rfl, (by repeat (first | exact Below.refl _ _ | assumption | refine Below.setCell ?_ (by first | (simp; done) | omega | (simp; omega) | (simp at *; omega)) _ | refine Below.alloc ?_ (by first | (simp; done) | omega | (simp; omega) | (simp at *; omega)) _ | refine Below.drew ?_ | (refine Below.trans ?_ (Below.mono (by assumption) (by first | (simp; done) | omega | (simp; omega) | (simp at *; omega)))) | (refine Below.trans ?_ (Below.mono (below_regrown _ _ _) (by first | (simp; done) | omega | (simp; omega) | (simp at *; omega))))))⟩
  · go_enter Tryz.func64, Tryz.ntmps64
    go_wp2_with (go_at_call 49; go_must (refine (refIsV_any _ _ _).mono ?_; rintro e w' ⟨rfl, hb⟩; obtain ⟨hc, hf⟩ := bcell hb; (try have hz0 : w.heap.size < w'.heap.size := Nat.lt_of_lt_of_le (by first | assumption | (simp; done) | (simp; omega)) hb.size); (try have hz1 : w.heap.size + 1 < w'.heap.size := Nat.lt_of_lt_of_le (by first | assumption | (simp; done) | (simp; omega)) hb.size); (try have hz2 : w.heap.size + 1 + 1 < w'.heap.size := Nat.lt_of_lt_of_le (by first | assumption | (simp; done) | (simp; omega)) hb.size); have hz := hb.size; (try simp at hz)))
    go_ret
    exact ⟨rfl, (by repeat (first | exact Below.refl _ _ | assumption | refine Below.setCell ?_ (by first | (simp; done) | omega | (simp; omega) | (simp at *; omega)) _ | refine Below.alloc ?_ (by first | (simp; done) | omega | (simp; omega) | (simp at *; omega)) _ | refine Below.drew ?_ | (refine Below.trans ?_ (Below.mono (by assumption) (by first | (simp; done) | omega | (simp; omega) | (simp at *; omega)))) | (refine Below.trans ?_ (Below.mono (below_regrown _ _ _) (by first | (simp; done) | omega | (simp; omega) | (simp at *; omega))))))⟩

end Go.Proofs.YtojmcndiooiehaaGreatDoor

namespace Go.Proofs.YtojmcndiooiehaaGreatDoor
set_option maxRecDepth 20000
open Go.RowKit

namespace Dc
/-- The millionths in the digits ahead of a dot and behind it. -/
def mlN (a b : List UInt8) : Nat := num a * 1000000 + frac b
def mlB (a b : List UInt8) : Bool := decide (mlN a b ≤ 4611686018427387904)
def mlV (a b : List UInt8) : Int := if mlB a b then (mlN a b : Int) else 0
/-- Six digits behind the dot, with noughts where there are none. -/
def pad (b : List UInt8) : List UInt8 := b.take 6 ++ List.replicate (6 - b.length) 48
theorem pad_all {b : List UInt8} (h : allD b = true) : allD (pad b) = true := by unfold pad; rw [allD_append, allD_take h, allD_zeros]; rfl
theorem pad_len (b : List UInt8) : (pad b).length = 6 := by unfold pad; rw [List.length_append, List.length_take, List.length_replicate]; omega
theorem fr_take (l : List UInt8) (j : Nat) : ∀ i, i ≤ j → fr (l.take j) i = fr l i
  | 0, _ => rfl
  | i + 1, h => by
    rw [fr, fr, fr_take l j i (by omega)]
    congr 1
    unfold dg
    rw [List.getElem?_take, if_pos (by omega)]
theorem pad_num (b : List UInt8) : num (pad b) = fr b 6 := by
  have h := fr_num (pad b) 6 (by rw [pad_len]; omega)
  rw [List.take_of_length_le (by rw [pad_len]; omega)] at h
  rw [← h]
  unfold pad
  rw [fr_zeros, fr_take b 6 6 (by omega)]
theorem numFrom_pad (n : Nat) (b : List UInt8) : numFrom n (pad b) = n * 1000000 + fr b 6 := by
  rw [numFrom_eq, pad_len, pad_num]
theorem frac_ge (b : List UInt8) : fr b 6 ≤ frac b := by unfold frac; split <;> omega
theorem ml_no {a b : List UInt8} (h : 4611686018427387904 < mlN a b) : mlB a b = false ∧ mlV a b = 0 := by
  have h2 : mlB a b = false := by unfold mlB; rw [decide_eq_false_iff_not]; omega
  exact ⟨h2, by unfold mlV; rw [h2]; rfl⟩
theorem ml_yes {a b : List UInt8} (h : mlN a b ≤ 4611686018427387904) : mlB a b = true ∧ mlV a b = mlN a b := by
  have h2 : mlB a b = true := by unfold mlB; rw [decide_eq_true_eq]; exact h
  exact ⟨h2, by unfold mlV; rw [h2]; rfl⟩
theorem ex_false {n : Nat} {l : List UInt8} (h : exB n l = false) : 4611686018427387904 < numFrom n l := by
  unfold exB at h; rw [decide_eq_false_iff_not] at h; omega
theorem ex_true {n : Nat} {l : List UInt8} (h : exB n l = true) : numFrom n l ≤ 4611686018427387904 ∧ exN n l = numFrom n l := by
  unfold exN; rw [h]; unfold exB at h; rw [decide_eq_true_eq] at h; exact ⟨h, rfl⟩
theorem ml_no1 {a b : List UInt8} (h : exB 0 a = false) : mlB a b = false ∧ mlV a b = 0 := by
  have h1 := ex_false h
  rw [num_ex] at h1
  apply ml_no
  unfold mlN
  omega
theorem ml_no2 {a b : List UInt8} (h : exB (num a) (pad b) = false) : mlB a b = false ∧ mlV a b = 0 := by
  have h1 := ex_false h
  rw [numFrom_pad] at h1
  apply ml_no
  unfold mlN
  have := frac_ge b
  omega
end Dc

/-- What the two calls of extend hand back, hidden from the walk. -/
theorem mill_calls (a b : List UInt8) (hA : Hid (Dc.allD a = true)) (hB : Hid (Dc.allD b = true)) (ha : Dc.exB 0 a = true) :
    (∀ W, Calls Tryz.prog 115 #[.int .i64 0, .string ⟨a.toArray⟩] W fun e w' => e = .returned (.tuple #[.int .i64 (Dc.num a : Int), .bool true]) ∧ Below W.heap.size W w') ∧
    (∀ W, Calls Tryz.prog 115 #[.int .i64 (Dc.num a : Int), .string ⟨(Dc.pad b).toArray⟩] W fun e w' => e = .returned (.tuple #[.int .i64 (Dc.exN (Dc.num a) (Dc.pad b)), .bool (Dc.exB (Dc.num a) (Dc.pad b))]) ∧ Below W.heap.size W w') := by
  obtain ⟨h1, h2⟩ := Dc.ex_true ha
  rw [Dc.num_ex] at h1 h2
  refine ⟨fun W => ?_, fun W => extend_any (Dc.num a) h1 (Dc.pad b) (Lib.hid (Dc.pad_all hB.out)) W⟩
  have := extend_any 0 (by omega) a hA W
  rw [ha, h2] at this
  exact this

set_option maxHeartbeats 800000 in
theorem mill_short (a b : List UInt8) (h6 : b.length ≤ 6) (hA : Hid (Dc.allD a = true)) (hB : Hid (Dc.allD b = true)) (w : World) :
    Calls Tryz.prog 100 #[.string ⟨a.toArray⟩, .string ⟨b.toArray⟩] w fun e w' => e = .returned (.tuple #[.int .i64 (Dc.mlV a b), .bool (Dc.mlB a b)]) ∧ Below w.heap.size w w' := by
  have h6' : (b.length : Int) ≤ 6 := by omega
  have hx : (⟨b.toArray⟩ : ByteArray).extract 0 b.length = ⟨b.toArray⟩ := by rw [ext_mk]; simp
  have hz : (⟨#[48, 48, 48, 48, 48, 48]⟩ : ByteArray).extract b.length 6 = ⟨(List.replicate (6 - b.length) 48).toArray⟩ := by
    have e : (⟨#[48, 48, 48, 48, 48, 48]⟩ : ByteArray) = ⟨(List.replicate 6 (48 : UInt8)).toArray⟩ := rfl
    rw [e, ext_mk, List.drop_replicate, List.take_replicate]
    simp
  have hcat : (⟨b.toArray⟩ : ByteArray) ++ ⟨(List.replicate (6 - b.length) 48).toArray⟩ = ⟨(Dc.pad b).toArray⟩ := by
    rw [cat_mk]; unfold Dc.pad; rw [List.take_of_length_le h6]
  have hzl : (List.replicate (6 - b.length) (48 : UInt8)).length ≤ 6 := by rw [List.length_replicate]; omega
  generalize List.replicate (6 - b.length) (48 : UInt8) = z at *
  have hdr : (⟨b.toArray⟩ : ByteArray).extract b.length b.length = ⟨[].toArray⟩ := by rw [ext_mk]; simp
  have hfr : Hid (Dc.frac b = Dc.fr b 6) := Lib.hid (Dc.frac_short b h6)
  cases ha : Dc.exB 0 a
  · obtain ⟨n1, n2⟩ := Dc.ml_no1 (b := b) ha
    have HN := Lib.hid n1
    have HM := Lib.hid n2
    have HE := Lib.hid (fun W => extend_any 0 (by omega) a hA W)
    rw [ha] at HE
    clear ha n1 n2
    go_enter Tryz.func100, Tryz.ntmps100
    go_wp2_with (go_at_call 115; go_must (refine (HE.out _).mono ?_; rintro e w' ⟨rfl, hb⟩))
    ((try simp only [Exit.inBlock, Exit.then]); refine bodyPost_ret (results_tmp2 rfl _ _ _) rfl ?_)
    exact ⟨ret2_ib HM.out.symm HN.out.symm, hb⟩
  · obtain ⟨c1, c2⟩ := mill_calls a b hA hB ha
    have x1 := (Dc.ex_true ha).1
    rw [Dc.num_ex] at x1
    clear ha
    cases hy : Dc.exB (Dc.num a) (Dc.pad b)
    · obtain ⟨n1, n2⟩ := Dc.ml_no2 (b := b) hy
      have HN := Lib.hid n1
      have HM := Lib.hid n2
      rw [hy] at c2
      have H1 := Lib.hid c1
      have H2 := Lib.hid c2
      clear n1 n2 hy c1 c2
      generalize Dc.exN (Dc.num a) (Dc.pad b) = y at *
      generalize Dc.num a = x at *
      generalize Dc.pad b = p at *
      go_enter Tryz.func100, Tryz.ntmps100
      go_wp2_with (first | (go_at_call 115; ((with_reducible refine (H1.out _).mono ?_); rintro e w' ⟨rfl, hb⟩)) | (go_at_call 115; ((with_reducible refine (H2.out _).mono ?_); rintro e w' ⟨rfl, hb2⟩)))
      ((try simp only [Exit.inBlock, Exit.then]); refine bodyPost_ret (results_tmp2 rfl _ _ _) rfl ?_)
      exact ⟨ret2_ib HM.out.symm HN.out.symm, hb.trans (hb2.mono hb.size)⟩
    · obtain ⟨y1, y2⟩ := Dc.ex_true hy
      rw [Dc.numFrom_pad] at y1 y2
      obtain ⟨n1, n2⟩ := Dc.ml_yes (a := a) (b := b) (by unfold Dc.mlN; rw [hfr.out]; exact y1)
      have HN := Lib.hid n1
      have HM : Hid (Dc.mlV a b = Dc.exN (Dc.num a) (Dc.pad b)) := Lib.hid (by rw [n2, y2]; unfold Dc.mlN; rw [hfr.out])
      rw [hy] at c2
      have H1 := Lib.hid c1
      have H2 := Lib.hid c2
      obtain ⟨z0, z1⟩ := Dc.exN_le (Dc.num a) (Dc.pad b)
      clear n1 n2 hy c1 c2 y1 y2
      generalize Dc.exN (Dc.num a) (Dc.pad b) = y at *
      generalize Dc.num a = x at *
      generalize Dc.pad b = p at *
      go_enter Tryz.func100, Tryz.ntmps100
      go_wp2_with (first | (go_at_call 115; ((with_reducible refine (H1.out _).mono ?_); rintro e w' ⟨rfl, hb⟩)) | (go_at_call 115; ((with_reducible refine (H2.out _).mono ?_); rintro e w' ⟨rfl, hb2⟩)))
      ((try simp only [Exit.inBlock, Exit.then]); refine bodyPost_ret (results_tmp2 rfl _ _ _) rfl ?_)
      exact ⟨ret2_ib HM.out.symm HN.out.symm, hb.trans (hb2.mono hb.size)⟩

namespace Dc
theorem pad_long {b : List UInt8} (h : 6 < b.length) : pad b = b.take 6 := by
  unfold pad
  rw [show 6 - b.length = 0 by omega]
  simp
theorem frac_up {b : List UInt8} (h : 6 < b.length) (hd : 53 ≤ b[6].toNat) : frac b = fr b 6 + 1 := by
  unfold frac; rw [if_pos ⟨h, by rw [dg_in h]; omega⟩]
theorem frac_down {b : List UInt8} (h : 6 < b.length) (hd : b[6].toNat < 53) : frac b = fr b 6 := by
  unfold frac; rw [if_neg (by rw [dg_in h]; omega)]
end Dc

set_option maxHeartbeats 800000 in
theorem mill_long (a b : List UInt8) (h6 : 6 < b.length) (hl : b.length ≤ 4611686018427387904) (hA : Hid (Dc.allD a = true)) (hB : Hid (Dc.allD b = true)) (w : World) :
    Calls Tryz.prog 100 #[.string ⟨a.toArray⟩, .string ⟨b.toArray⟩] w fun e w' => e = .returned (.tuple #[.int .i64 (Dc.mlV a b), .bool (Dc.mlB a b)]) ∧ Below w.heap.size w w' := by
  have h6' : (6 : Int) < (b.length : Int) := by omega
  have hx : (⟨b.toArray⟩ : ByteArray).extract 0 6 = ⟨(b.take 6).toArray⟩ := by rw [ext_mk]; simp
  have hkl : (b.take 6).length = 6 := by rw [List.length_take]; omega
  have hz : (⟨#[48, 48, 48, 48, 48, 48]⟩ : ByteArray).extract 6 6 = ⟨[].toArray⟩ := by decide
  have hcat : (⟨(b.take 6).toArray⟩ : ByteArray) ++ ⟨[].toArray⟩ = ⟨(b.take 6).toArray⟩ := by rw [cat_mk]; simp
  have hpad := Lib.hid (Dc.pad_long h6)
  obtain ⟨d, hd⟩ : ∃ d, d = b[6] := ⟨_, rfl⟩
  obtain ⟨r, hr⟩ : ∃ r, r = b.drop 7 := ⟨_, rfl⟩
  have hdr : (⟨b.toArray⟩ : ByteArray).extract 6 b.length = ⟨(d :: r).toArray⟩ := by
    rw [ext_from _ _ _ (Nat.le_refl _), hr, hd, List.drop_eq_getElem_cons h6]
  have hup : Hid (53 ≤ d.toNat → Dc.frac b = Dc.fr b 6 + 1) := Lib.hid (fun h => Dc.frac_up h6 (by rw [← hd]; exact h))
  have hdn : Hid (d.toNat < 53 → Dc.frac b = Dc.fr b 6) := Lib.hid (fun h => Dc.frac_down h6 (by rw [← hd]; exact h))
  clear hd hr
  cases ha : Dc.exB 0 a
  · obtain ⟨n1, n2⟩ := Dc.ml_no1 (b := b) ha
    have HN := Lib.hid n1
    have HM := Lib.hid n2
    have HE := Lib.hid (fun W => extend_any 0 (by omega) a hA W)
    rw [ha] at HE
    clear ha n1 n2
    generalize b.take 6 = kp at *
    go_enter Tryz.func100, Tryz.ntmps100
    go_wp2_with (go_at_call 115; go_must (refine (HE.out _).mono ?_; rintro e w' ⟨rfl, hb⟩))
    ((try simp only [Exit.inBlock, Exit.then]); refine bodyPost_ret (results_tmp2 rfl _ _ _) rfl ?_)
    exact ⟨ret2_ib HM.out.symm HN.out.symm, hb⟩
  · obtain ⟨c1, c2⟩ := mill_calls a b hA hB ha
    have x1 := (Dc.ex_true ha).1
    rw [Dc.num_ex] at x1
    clear ha
    cases hy : Dc.exB (Dc.num a) (Dc.pad b)
    · obtain ⟨n1, n2⟩ := Dc.ml_no2 (b := b) hy
      have HN := Lib.hid n1
      have HM := Lib.hid n2
      rw [hy, hpad.out] at c2
      have H1 := Lib.hid c1
      have H2 := Lib.hid c2
      clear n1 n2 hy c1 c2 hpad
      generalize Dc.exN (Dc.num a) (b.take 6) = y at *
      generalize Dc.num a = x at *
      generalize b.take 6 = kp at *
      go_enter Tryz.func100, Tryz.ntmps100
      go_wp2_with (first | (go_at_call 115; ((with_reducible refine (H1.out _).mono ?_); rintro e w' ⟨rfl, hb⟩)) | (go_at_call 115; ((with_reducible refine (H2.out _).mono ?_); rintro e w' ⟨rfl, hb2⟩)))
      ((try simp only [Exit.inBlock, Exit.then]); refine bodyPost_ret (results_tmp2 rfl _ _ _) rfl ?_)
      exact ⟨ret2_ib HM.out.symm HN.out.symm, hb.trans (hb2.mono hb.size)⟩
    · obtain ⟨y1, y2⟩ := Dc.ex_true hy
      rw [Dc.numFrom_pad] at y1 y2
      have HY : Hid (Dc.exN (Dc.num a) (b.take 6) = ((Dc.num a * 1000000 + Dc.fr b 6 : Nat) : Int)) := Lib.hid (by rw [← hpad.out]; exact y2)
      have HML : Hid (Dc.mlN a b = Dc.num a * 1000000 + Dc.frac b) := Lib.hid rfl
      rw [hy, hpad.out] at c2
      have H1 := Lib.hid c1
      have H2 := Lib.hid c2
      obtain ⟨z0, z1⟩ := Dc.exN_le (Dc.num a) (b.take 6)
      clear hy c1 c2 y1 y2 hpad
      generalize Dc.exN (Dc.num a) (b.take 6) = y at *
      generalize Dc.num a = x at *
      generalize b.take 6 = kp at *
      by_cases h5 : 53 ≤ d.toNat
      · have h5' : (53 : Int) ≤ (((⟨(d :: r).toArray⟩ : ByteArray)[0]'(by simp [ByteArray.size])).toNat : Int) := by show (53 : Int) ≤ (d.toNat : Int); omega
        have HF := Lib.hid (hup.out h5)
        clear hup hdn
        by_cases hm : y + 1 ≤ 4611686018427387904
        · have HR : Hid (Dc.mlB a b = true ∧ Dc.mlV a b = y + 1) := by
            apply Lib.hid
            obtain ⟨n1, n2⟩ := Dc.ml_yes (a := a) (b := b) (by rw [HML.out, HF.out]; have := HY.out; omega)
            exact ⟨n1, by rw [n2, HML.out, HF.out]; have := HY.out; omega⟩
          go_enter Tryz.func100, Tryz.ntmps100
          go_wp2_with (first | (go_at_call 115; ((with_reducible refine (H1.out _).mono ?_); rintro e w' ⟨rfl, hb⟩)) | (go_at_call 115; ((with_reducible refine (H2.out _).mono ?_); rintro e w' ⟨rfl, hb2⟩)))
          ((try simp only [Exit.inBlock, Exit.then]); refine bodyPost_ret (results_tmp2 rfl _ _ _) rfl ?_)
          exact ⟨ret2_ib HR.out.2.symm HR.out.1.symm, hb.trans (hb2.mono hb.size)⟩
        · have HR : Hid (Dc.mlB a b = false ∧ Dc.mlV a b = 0) := by
            apply Lib.hid
            exact Dc.ml_no (by rw [HML.out, HF.out]; have := HY.out; omega)
          go_enter Tryz.func100, Tryz.ntmps100
          go_wp2_with (first | (go_at_call 115; ((with_reducible refine (H1.out _).mono ?_); rintro e w' ⟨rfl, hb⟩)) | (go_at_call 115; ((with_reducible refine (H2.out _).mono ?_); rintro e w' ⟨rfl, hb2⟩)))
          ((try simp only [Exit.inBlock, Exit.then]); refine bodyPost_ret (results_tmp2 rfl _ _ _) rfl ?_)
          exact ⟨ret2_ib HR.out.2.symm HR.out.1.symm, hb.trans (hb2.mono hb.size)⟩
      · have h5' : (((⟨(d :: r).toArray⟩ : ByteArray)[0]'(by simp [ByteArray.size])).toNat : Int) < 53 := by show (d.toNat : Int) < 53; omega
        have HF := Lib.hid (hdn.out (by omega))
        clear hup hdn
        have HR : Hid (Dc.mlB a b = true ∧ Dc.mlV a b = y) := by
          apply Lib.hid
          obtain ⟨n1, n2⟩ := Dc.ml_yes (a := a) (b := b) (by rw [HML.out, HF.out]; have := HY.out; omega)
          exact ⟨n1, by rw [n2, HML.out, HF.out]; have := HY.out; omega⟩
        go_enter Tryz.func100, Tryz.ntmps100
        go_wp2_with (first | (go_at_call 115; ((with_reducible refine (H1.out _).mono ?_); rintro e w' ⟨rfl, hb⟩)) | (go_at_call 115; ((with_reducible refine (H2.out _).mono ?_); rintro e w' ⟨rfl, hb2⟩)))
        ((try simp only [Exit.inBlock, Exit.then]); refine bodyPost_ret (results_tmp2 rfl _ _ _) rfl ?_)
        exact ⟨ret2_ib HR.out.2.symm HR.out.1.symm, hb.trans (hb2.mono hb.size)⟩

theorem mill_any (a b : List UInt8) (hl : b.length ≤ 4611686018427387904) (hA : Hid (Dc.allD a = true)) (hB : Hid (Dc.allD b = true)) (w : World) :
    Calls Tryz.prog 100 #[.string ⟨a.toArray⟩, .string ⟨b.toArray⟩] w fun e w' => e = .returned (.tuple #[.int .i64 (Dc.mlV a b), .bool (Dc.mlB a b)]) ∧ Below w.heap.size w w' := by
  by_cases h6 : b.length ≤ 6
  · exact mill_short a b h6 hA hB w
  · exact mill_long a b (by omega) hl hA hB w

end Go.Proofs.YtojmcndiooiehaaGreatDoor
