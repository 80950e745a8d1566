/-
  CONTRACTS: chapter 5's Decode, on both sides: of any bytes.
-/
import Derived.Test.YtefegcmicnlphaaSlDec
namespace Go.Proofs.Ytefegcmicnlphaa
open Go.RowKit Go.Sort
open Me

namespace Sl
def okd (l : List UInt8) : Bool := decide (l.length = 12)
def dat (l : List UInt8) : Int := if l.length = 12 then Wh.nm l 0 else 0
def dnn (l : List UInt8) : Int := if l.length = 12 then dn l else 0
end Sl

set_option maxHeartbeats 1000000 in
theorem sdecode_12 (L : List UInt8) (hL : L.length = 12) (b off cap : Nat) (w : World) (h : By w b off L) (hc : 12 ≤ cap) :
    Calls Try.prog 13 #[.slice (some ⟨b, off, none⟩) 12 cap] w fun e w' => e = .returned (.tuple #[.agg #[.int .i64 (Wh.nm L 0), .int .i64 (Sl.dn L)], .bool true]) ∧ Below w.heap.size w w' := by
  have H4 : Hid (∀ W, Below w.heap.size w W → Calls Try.prog 22 #[.slice (some ⟨b, off, none⟩) 4 cap] W fun e w' => e = .returned (.int .i64 (Wh.nm L 0)) ∧ W = w') := Lib.hid fun W hb => by
    have := snumber_any (L.take 4) b off cap W ((h.below hb).take 4 (by omega)) (by rw [List.length_take]; omega)
    rw [Sl.acc_at hL, List.length_take, hL] at this
    exact this
  have H8 : Hid (∀ W, Below w.heap.size w W → Calls Try.prog 22 #[.slice (some ⟨b, off + 4, none⟩) 8 (cap - 4)] W fun e w' => e = .returned (.int .i64 (Sl.dn L)) ∧ W = w') := Lib.hid fun W hb => by
    have := snumber_any (L.drop 4) b (off + 4) (cap - 4) W ((h.below hb).drop 4) (by rw [List.length_drop]; omega)
    rw [Sl.acc_n hL, List.length_drop, hL] at this
    exact this
  generalize Wh.nm L 0 = p at *
  generalize Sl.dn L = q at *
  have hcI : (12 : Int) ≤ (cap : Int) := by omega
  have h4c : ¬ cap = 4 := by omega
  clear h hL
  go_enter Try.func13, Try.ntmps13
  go_wp2_with fail
  go_region_with (first
    | (go_at_call 22; (with_reducible refine (H4.out _ (by repeat (first | exact Below.refl _ _ | assumption | refine Below.setCell ?_ (by first | (simp; done) | omega | (simp; omega) | (simp at *; omega)) _ | refine Below.alloc ?_ (by first | (simp; done) | omega | (simp; omega) | (simp at *; omega)) _ | refine Below.drew ?_ | refine below_drewN ?_ _ | (refine Below.trans ?_ (Below.mono (by assumption) (by first | (simp; done) | omega | (simp; omega) | (simp at *; omega)))) | (refine Below.trans ?_ (Below.mono (below_regrown _ _ _) (by first | (simp; done) | omega | (simp; omega) | (simp at *; omega))))))).mono ?_); rintro e w1 ⟨rfl, rfl⟩)
    | (go_at_call 22; (with_reducible refine (H8.out _ (by repeat (first | exact Below.refl _ _ | assumption | refine Below.setCell ?_ (by first | (simp; done) | omega | (simp; omega) | (simp at *; omega)) _ | refine Below.alloc ?_ (by first | (simp; done) | omega | (simp; omega) | (simp at *; omega)) _ | refine Below.drew ?_ | refine below_drewN ?_ _ | (refine Below.trans ?_ (Below.mono (by assumption) (by first | (simp; done) | omega | (simp; omega) | (simp at *; omega)))) | (refine Below.trans ?_ (Below.mono (below_regrown _ _ _) (by first | (simp; done) | omega | (simp; omega) | (simp at *; omega))))))).mono ?_); rintro e w1 ⟨rfl, rfl⟩)
    | fail)
  all_goals
    go_wp2_with fail
    refine bodyPost_ret (v := .tuple #[.agg #[.int .i64 p, .int .i64 q], .bool true]) ?_ rfl ⟨rfl, (by repeat (first | exact Below.refl _ _ | assumption | refine Below.setCell ?_ (by first | (simp; done) | omega | (simp; omega) | (simp at *; omega)) _ | refine Below.alloc ?_ (by first | (simp; done) | omega | (simp; omega) | (simp at *; omega)) _ | refine Below.drew ?_ | refine below_drewN ?_ _ | (refine Below.trans ?_ (Below.mono (by assumption) (by first | (simp; done) | omega | (simp; omega) | (simp at *; omega)))) | (refine Below.trans ?_ (Below.mono (below_regrown _ _ _) (by first | (simp; done) | omega | (simp; omega) | (simp at *; omega))))))⟩
    simp [results, Try.results13, go_sem]

set_option maxHeartbeats 1000000 in
theorem sdecode_no (A : Option Addr) (n cap : Nat) (hn : n ≠ 12) (w : World) :
    Calls Try.prog 13 #[.slice A n cap] w fun e w' => e = .returned (.tuple #[.agg #[.int .i64 0, .int .i64 0], .bool false]) ∧ Below w.heap.size w w' := by
  have h1 : ((n : Int) == 12) = false := by simp; omega
  have h2 : ¬ (n : Int) = 12 := by omega
  go_enter Try.func13, Try.ntmps13
  go_wp2_with fail
  refine bodyPost_ret (v := .tuple #[.agg #[.int .i64 0, .int .i64 0], .bool false]) ?_ rfl ⟨rfl, (by repeat (first | exact Below.refl _ _ | assumption | refine Below.setCell ?_ (by first | (simp; done) | omega | (simp; omega) | (simp at *; omega)) _ | refine Below.alloc ?_ (by first | (simp; done) | omega | (simp; omega) | (simp at *; omega)) _ | refine Below.drew ?_ | refine below_drewN ?_ _ | (refine Below.trans ?_ (Below.mono (by assumption) (by first | (simp; done) | omega | (simp; omega) | (simp at *; omega)))) | (refine Below.trans ?_ (Below.mono (below_regrown _ _ _) (by first | (simp; done) | omega | (simp; omega) | (simp at *; omega))))))⟩
  simp [results, Try.results13, go_sem]

set_option maxHeartbeats 1000000 in
theorem rsdecode_no (A : Option Addr) (n cap : Nat) (hn : n ≠ 12) (w : World) :
    Calls Try.prog 14 #[.slice A n cap] w fun e w' => e = .returned (.tuple #[.agg #[.int .i64 0, .int .i64 0], .bool false]) ∧ Below w.heap.size w w' := by
  have h1 : ((n : Int) == 12) = false := by simp; omega
  have h2 : ¬ (n : Int) = 12 := by omega
  go_enter Try.func14, Try.ntmps14
  go_wp2_with fail
  refine bodyPost_ret (v := .tuple #[.agg #[.int .i64 0, .int .i64 0], .bool false]) ?_ rfl ⟨rfl, (by repeat (first | exact Below.refl _ _ | assumption | refine Below.setCell ?_ (by first | (simp; done) | omega | (simp; omega) | (simp at *; omega)) _ | refine Below.alloc ?_ (by first | (simp; done) | omega | (simp; omega) | (simp at *; omega)) _ | refine Below.drew ?_ | refine below_drewN ?_ _ | (refine Below.trans ?_ (Below.mono (by assumption) (by first | (simp; done) | omega | (simp; omega) | (simp at *; omega)))) | (refine Below.trans ?_ (Below.mono (below_regrown _ _ _) (by first | (simp; done) | omega | (simp; omega) | (simp at *; omega))))))⟩
  simp [results, Try.results14, go_sem]

set_option maxHeartbeats 1000000 in
theorem rsdecode_12 (L : List UInt8) (hL : L.length = 12) (b off cap : Nat) (w : World) (h : By w b off L) (hc : 12 ≤ cap) :
    Calls Try.prog 14 #[.slice (some ⟨b, off, none⟩) 12 cap] w fun e w' => e = .returned (.tuple #[.agg #[.int .i64 (Wh.nm L 0), .int .i64 (Sl.dn L)], .bool true]) ∧ Below w.heap.size w w' := by
  have H0 : Hid (∀ W n c, 4 ≤ n → Below w.heap.size w W → Calls Try.prog 23 #[.slice (some ⟨b, off, none⟩) n c] W fun e w' => e = .returned (.int .i64 (Wh.nm L 0)) ∧ ∃ m, w' = W.drewN m) := Lib.hid fun W n c hn hb => fromFour_dr L 0 b off n c W (h.below hb) (by omega) hn
  have H4 : Hid (∀ W n c, 4 ≤ n → Below w.heap.size w W → Calls Try.prog 23 #[.slice (some ⟨b, off + 4, none⟩) n c] W fun e w' => e = .returned (.int .i64 (Wh.nm L 4)) ∧ ∃ m, w' = W.drewN m) := Lib.hid fun W n c hn hb => fromFour_dr L 4 b off n c W (h.below hb) (by omega) hn
  have H8 : Hid (∀ W n c, 4 ≤ n → Below w.heap.size w W → Calls Try.prog 23 #[.slice (some ⟨b, off + 8, none⟩) n c] W fun e w' => e = .returned (.int .i64 (Wh.nm L 8)) ∧ ∃ m, w' = W.drewN m) := Lib.hid fun W n c hn hb => fromFour_dr L 8 b off n c W (h.below hb) (by omega) hn
  have b4 := Wh.nm_bd L 4
  have b8 := Wh.nm_bd L 8
  have hdn : Sl.dn L = Sl.wr64 (Wh.nm L 4 * 4294967296 + Wh.nm L 8) := rfl
  generalize Sl.dn L = q at *
  generalize Wh.nm L 4 = x at *
  generalize Wh.nm L 8 = y at *
  generalize Wh.nm L 0 = p at *
  obtain ⟨s, z, hw1, hw2, hw3, hw4, hor, hq⟩ : ∃ s z : Int, IntKind.u64.wrap x = x ∧ IntKind.u64.wrap y = y ∧ IntKind.u64.wrap (x * 4294967296) = s ∧ Op.shift .shl .u64 x .u64 32 = pure (.int .u64 s) ∧ bits .or .u64 s y = z ∧ IntKind.i64.wrap z = q := by
    have e1 : IntKind.u64.wrap (x * 4294967296) = x * 4294967296 := by rw [IntKind.wrap_u64]; omega
    refine ⟨x * 4294967296, x * 4294967296 + y, by rw [IntKind.wrap_u64]; omega, by rw [IntKind.wrap_u64]; omega, e1, ?_, ?_, ?_⟩
    · rw [shift_shl .u64 .u64 x 32 (by omega) (by show (32 : Int) ≤ 64; omega)]
      exact congrArg (fun z => pure (Value.int .u64 z)) e1
    · exact bits_join .u64 64 (by decide) (fun n h0 h1 => by rw [IntKind.wrap_u64]; omega) 32 _ _ (by omega) (by omega) (by omega) b8.1 (by omega) (by omega)
    · rw [IntKind.wrap_i64, hdn]; rfl
  have hcI : (12 : Int) ≤ (cap : Int) := by omega
  have h4c : ¬ cap = 4 := by omega
  have h8c : ¬ cap = 8 := by omega
  clear h hL hdn
  go_enter Try.func14, Try.ntmps14
  go_wp2_with fail
  go_region_with (first
    | (go_at_call 23; (with_reducible refine (H4.out _ _ _ (by omega) (by repeat (first | exact Below.refl _ _ | assumption | refine Below.setCell ?_ (by first | (simp; done) | omega | (simp; omega) | (simp at *; omega)) _ | refine Below.alloc ?_ (by first | (simp; done) | omega | (simp; omega) | (simp at *; omega)) _ | refine Below.drew ?_ | refine below_drewN ?_ _ | (refine Below.trans ?_ (Below.mono (by assumption) (by first | (simp; done) | omega | (simp; omega) | (simp at *; omega)))) | (refine Below.trans ?_ (Below.mono (below_regrown _ _ _) (by first | (simp; done) | omega | (simp; omega) | (simp at *; omega))))))).mono ?_); rintro e w1 ⟨rfl, m1, rfl⟩)
    | (go_at_call 23; (with_reducible refine (H8.out _ _ _ (by omega) (by repeat (first | exact Below.refl _ _ | assumption | refine Below.setCell ?_ (by first | (simp; done) | omega | (simp; omega) | (simp at *; omega)) _ | refine Below.alloc ?_ (by first | (simp; done) | omega | (simp; omega) | (simp at *; omega)) _ | refine Below.drew ?_ | refine below_drewN ?_ _ | (refine Below.trans ?_ (Below.mono (by assumption) (by first | (simp; done) | omega | (simp; omega) | (simp at *; omega)))) | (refine Below.trans ?_ (Below.mono (below_regrown _ _ _) (by first | (simp; done) | omega | (simp; omega) | (simp at *; omega))))))).mono ?_); rintro e w1 ⟨rfl, m2, rfl⟩)
    | fail)
  all_goals
    go_wp2_with (go_at_call 23; (with_reducible refine (H0.out _ _ _ (by omega) (by repeat (first | exact Below.refl _ _ | assumption | refine Below.setCell ?_ (by first | (simp; done) | omega | (simp; omega) | (simp at *; omega)) _ | refine Below.alloc ?_ (by first | (simp; done) | omega | (simp; omega) | (simp at *; omega)) _ | refine Below.drew ?_ | refine below_drewN ?_ _ | (refine Below.trans ?_ (Below.mono (by assumption) (by first | (simp; done) | omega | (simp; omega) | (simp at *; omega)))) | (refine Below.trans ?_ (Below.mono (below_regrown _ _ _) (by first | (simp; done) | omega | (simp; omega) | (simp at *; omega))))))).mono ?_); rintro e w1 ⟨rfl, m3, rfl⟩)
    refine bodyPost_ret (v := .tuple #[.agg #[.int .i64 p, .int .i64 q], .bool true]) ?_ rfl ⟨rfl, (by repeat (first | exact Below.refl _ _ | assumption | refine Below.setCell ?_ (by first | (simp; done) | omega | (simp; omega) | (simp at *; omega)) _ | refine Below.alloc ?_ (by first | (simp; done) | omega | (simp; omega) | (simp at *; omega)) _ | refine Below.drew ?_ | refine below_drewN ?_ _ | (refine Below.trans ?_ (Below.mono (by assumption) (by first | (simp; done) | omega | (simp; omega) | (simp at *; omega)))) | (refine Below.trans ?_ (Below.mono (below_regrown _ _ _) (by first | (simp; done) | omega | (simp; omega) | (simp at *; omega))))))⟩
    simp [results, Try.results14, go_sem]
end Go.Proofs.Ytefegcmicnlphaa
