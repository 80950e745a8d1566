/-
  CONTRACT: law4's known: sizes of one header.
-/
import Derived.Test.YthjpodjfiajhaaaWhRef
namespace Go.Proofs.Ythjpodjfiajhaaa
open Go.RowKit Go.Sort
open Wh (At)

theorem row_two (w W : World) (T : TypeId) (hb : Below (w.heap.size + 1) (w.alloc (.cells #[.int .i64 1, .int .i64 60, .int .i64 60, .int .i64 5] T)) W) :
    Row W (some ⟨w.heap.size, 0, none⟩) [(1, 60), (60, 5)] 2 := by
  refine ⟨Nat.le_refl _, fun _ => ⟨w.heap.size, 0, rfl, ?_, ?_, ?_⟩⟩
  · have := hb.size; simp at this; omega
  · intro i hi
    rw [hb.cell (p := ⟨w.heap.size, 0 + i * 2, none⟩) (Nat.lt_succ_self _)]
    match i, hi with
    | 0, _ => simp [go_sem]; rfl
    | 1, _ => simp [go_sem]; rfl
  · intro i hi
    rw [hb.cell (p := ⟨w.heap.size, 0 + i * 2 + 1, none⟩) (Nat.lt_succ_self _)]
    match i, hi with
    | 0, _ => simp [go_sem]; rfl
    | 1, _ => simp [go_sem]; rfl

set_option maxHeartbeats 1000000 in
theorem known_any (w : World) :
    Calls Try.prog 7 #[] w fun e w' => e = .returned (.bool true) ∧ Below w.heap.size w w' := by
  have H1 : Hid (∀ W, Below (w.heap.size + 1) (w.alloc (.cells #[.int .i64 1, .int .i64 60, .int .i64 60, .int .i64 5] 41)) W → Calls Try.prog 13 #[.agg #[.int .i64 2, .int .i64 0, .slice (some ⟨w.heap.size, 0, none⟩) 2 2]] W fun e w' => e = .returned (.int .i64 820) ∧ Below W.heap.size W w') := Lib.hid fun W hb => by
    have h := size_any 2 0 [(1, 60), (60, 5)] (some ⟨w.heap.size, 0, none⟩) 2 W (row_two w W _ hb)
    have e : Wh.size 2 0 [(1, 60), (60, 5)] = 820 := by decide
    rw [e] at h
    exact h
  have H2 : Hid (∀ W, Below (w.heap.size + 1) (w.alloc (.cells #[.int .i64 1, .int .i64 60, .int .i64 60, .int .i64 5] 41)) W → Calls Try.prog 14 #[.agg #[.int .i64 2, .int .i64 0, .slice (some ⟨w.heap.size, 0, none⟩) 2 2]] W fun e w' => e = .returned (.int .i64 300) ∧ Below W.heap.size W w') := Lib.hid fun W hb => by
    have h := spn_any 2 0 [(1, 60), (60, 5)] (some ⟨w.heap.size, 0, none⟩) 2 W (row_two w W _ hb)
    have e : Wh.spn 2 0 [(1, 60), (60, 5)] = 300 := by decide
    rw [e] at h
    exact h
  go_enter Try.func7, Try.ntmps7
  go_wp2_with first
    | (go_at_call 13; (((with_reducible refine (H1.out _ ((Below.refl _ _).alloc (by simp) _)).mono ?_)); rintro e w1 ⟨rfl, hb1⟩; obtain ⟨hc1, hf1⟩ := bcell hb1; (try have hq1w : w.heap.size < w1.heap.size := Nat.lt_of_lt_of_le (by first | assumption | (simp; done) | (simp; omega)) hb1.size); have hs1 := hb1.size; (try simp at hs1)))
    | (go_at_call 14; (((with_reducible refine (H2.out _ (((Below.refl _ _).alloc (by simp) _).trans (hb1.mono (by simp)))).mono ?_)); rintro e w2 ⟨rfl, hb2⟩; obtain ⟨hc2, hf2⟩ := bcell hb2; (try have hq2w : w.heap.size < w2.heap.size := Nat.lt_of_lt_of_le (by first | assumption | (simp; done) | (simp; omega)) hb2.size); have hs2 := hb2.size; (try simp at hs2)))
  go_ret
  exact ⟨rfl, (by repeat (first | exact Below.refl _ _ | assumption | refine Below.setCell ?_ (by first | (simp; done) | omega | (simp; omega) | (simp at *; omega)) _ | refine Below.alloc ?_ (by first | (simp; done) | omega | (simp; omega) | (simp at *; omega)) _ | refine Below.drew ?_ | (refine Below.trans ?_ (Below.mono (by assumption) (by first | (simp; done) | omega | (simp; omega) | (simp at *; omega)))) | (refine Below.trans ?_ (Below.mono (below_regrown _ _ _) (by first | (simp; done) | omega | (simp; omega) | (simp at *; omega))))))⟩
end Go.Proofs.Ythjpodjfiajhaaa
