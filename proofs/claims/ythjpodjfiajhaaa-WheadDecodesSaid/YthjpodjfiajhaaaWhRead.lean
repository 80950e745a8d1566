/-
  CONTRACT: whead's read: a header's own numbers out of its bytes.
-/
import Derived.Test.YthjpodjfiajhaaaWhNum
import Derived.Test.YthjpodjfiajhaaaWhEnc
import Derived.Deep.DeepCutAuto
namespace Go.Proofs.Ythjpodjfiajhaaa
open Go.RowKit Go.Sort
open Wh (At)
open Me

theorem arinfo : (Try.prog.info? 41).map (fun i => (i.zero, i.size, i.bytes)) = some (some (.agg #[.int .i64 0, .int .i64 0]), 2, 16) := by kernel_rfl
namespace Wh
/-- So many archives as the bytes tell. -/
def archs (L : List UInt8) (n : Nat) : List (Int × Int) := (List.range n).map fun i => (nm L (16 + 12 * i + 4), nm L (16 + 12 * i + 8))
theorem archs_len (L : List UInt8) (n : Nat) : (archs L n).length = n := by unfold archs; simp
theorem archs_at (L : List UInt8) (n i : Nat) (h : i < n) : At (archs L n) i = (nm L (16 + 12 * i + 4), nm L (16 + 12 * i + 8)) := by
  unfold At archs
  rw [List.getD_eq_getElem?_getD, List.getElem?_map, List.getElem?_range h]
  rfl
end Wh

set_option maxHeartbeats 1000000 in
theorem read_short (A : Option Addr) (n cap : Nat) (hn : n < 16) (w : World) :
    Calls Try.prog 9 #[.slice A n cap] w fun e w' => e = .returned (.tuple #[.agg #[.int .i64 0, .int .i64 0, .slice none 0 0], .bool false]) ∧ Below w.heap.size w w' := by
  go_enter Try.func9, Try.ntmps9
  go_wp2
  exact bodyPost_ret (v := .tuple #[.agg #[.int .i64 0, .int .i64 0, .slice none 0 0], .bool false]) (by simp [results, Try.results9, go_sem, *]) rfl ⟨rfl, (by repeat (first | exact Below.refl _ _ | assumption | refine Below.setCell ?_ (by first | (simp; done) | omega | (simp; omega) | (simp at *; omega)) _ | refine Below.alloc ?_ (by first | (simp; done) | omega | (simp; omega) | (simp at *; omega)) _ | refine Below.drew ?_ | (refine Below.trans ?_ (Below.mono (by assumption) (by first | (simp; done) | omega | (simp; omega) | (simp at *; omega)))) | (refine Below.trans ?_ (Below.mono (below_regrown _ _ _) (by first | (simp; done) | omega | (simp; omega) | (simp at *; omega))))))⟩

set_option maxHeartbeats 1000000 in
theorem read_no (L : List UInt8) (b off cap : Nat) (w : World) (h : By w b off L) (h16 : 16 ≤ L.length) (hc : L.length ≤ cap) (hno : 8 < Wh.nm L 12 ∨ (L.length : Int) < 16 + Wh.nm L 12 * 12) :
    Calls Try.prog 9 #[.slice (some ⟨b, off, none⟩) L.length cap] w fun e w' => e = .returned (.tuple #[.agg #[.int .i64 0, .int .i64 0, .slice none 0 0], .bool false]) ∧ Below w.heap.size w w' := by
  obtain ⟨z1, z2⟩ := Wh.nm_bd L 12
  have HN : Hid (∀ W n c, 4 ≤ n → Below w.heap.size w W → Calls Try.prog 19 #[.slice (some ⟨b, off + 12, none⟩) n c] W fun e w' => e = .returned (.int .i64 (Wh.nm L 12)) ∧ Below W.heap.size W w') := Lib.hid fun W n c hn hb => number_any L 12 b off n c W (h.below hb) (by omega) hn
  have HH := Lib.hid (headBytes_any (Wh.nm L 12) (by omega) (by omega))
  clear h z2
  generalize Wh.nm L 12 = N at *
  have hcn : ¬ cap = 12 := by omega
  by_cases h8 : 8 < N
  · go_enter Try.func9, Try.ntmps9
    go_wp2_with first | (go_at_call 19; (((with_reducible refine (HN.out _ _ _ (by omega) ((Below.refl _ _).alloc (Nat.le_refl _) _)).mono ?_)); rintro e w1 ⟨rfl, hb1⟩; obtain ⟨hc1, hf1⟩ := bcell hb1; (try have hq1w : w.heap.size < w1.heap.size := Nat.lt_of_lt_of_le (by first | assumption | (simp; done) | (simp; omega)) hb1.size); have hs1 := hb1.size; (try simp at hs1))) | (go_at_call 16; go_must (refine (HH.out _).mono ?_; rintro e w' ⟨rfl, rfl⟩))
    refine bodyPost_ret (v := .tuple #[.agg #[.int .i64 0, .int .i64 0, .slice none 0 0], .bool false]) ?_ rfl ⟨rfl, ?_⟩
    · simp [results, Try.results9, go_sem, hc1]
    · exact ((((((Below.refl _ _).alloc (Nat.le_refl _) _).trans (hb1.mono (by simp))).setCell (Nat.le_refl _) _).setCell (Nat.le_refl _) _).setCell (Nat.le_refl _) _)
  · obtain ⟨k, rfl⟩ : ∃ k : Nat, N = (k : Int) := ⟨N.toNat, by omega⟩
    have hno : (L.length : Int) < 16 + (k : Int) * 12 := by omega
    go_enter Try.func9, Try.ntmps9
    go_wp2_with first | (go_at_call 19; (((with_reducible refine (HN.out _ _ _ (by omega) ((Below.refl _ _).alloc (Nat.le_refl _) _)).mono ?_)); rintro e w1 ⟨rfl, hb1⟩; obtain ⟨hc1, hf1⟩ := bcell hb1; (try have hq1w : w.heap.size < w1.heap.size := Nat.lt_of_lt_of_le (by first | assumption | (simp; done) | (simp; omega)) hb1.size); have hs1 := hb1.size; (try simp at hs1))) | (go_at_call 16; go_must (refine (HH.out _).mono ?_; rintro e w' ⟨rfl, rfl⟩))
    refine bodyPost_ret (v := .tuple #[.agg #[.int .i64 0, .int .i64 0, .slice none 0 0], .bool false]) ?_ rfl ⟨rfl, ?_⟩
    · simp [results, Try.results9, go_sem, hc1]
    · exact ((((((Below.refl _ _).alloc (Nat.le_refl _) _).trans (hb1.mono (by simp))).setCell (Nat.le_refl _) _).setCell (Nat.le_refl _) _).setCell (Nat.le_refl _) _)
end Go.Proofs.Ythjpodjfiajhaaa
