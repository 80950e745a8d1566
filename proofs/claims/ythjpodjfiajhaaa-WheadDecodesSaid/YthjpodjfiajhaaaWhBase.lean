/-
  CONTRACTS: whead's small functions: numbers within range, spans, two archives side by side, where archives end.
-/
import Derived.Test.YthjpodjfiajhaaaRows
import Derived.Test.YthjpodjfiajhaaaWhPure
import Derived.WalkKit
import Derived.WalkSpells
import Derived.WalkLawsBesides
import Derived.Deep.QuietTactic
import Derived.BigQuiet
import Derived.Lib.QuietBelow
import Derived.Lib.Hide
import Derived.IntWalk
namespace Go.Proofs.Ythjpodjfiajhaaa
open Go.RowKit
open Wh (At)

theorem bcell {W w1 : World} (hb : Below W.heap.size W w1) : (∀ b o, b < W.heap.size → w1.cell? ⟨b, o, none⟩ = W.cell? ⟨b, o, none⟩) ∧ (∀ b o, b < W.heap.size → w1.frozen? ⟨b, o, none⟩ = W.frozen? ⟨b, o, none⟩) :=
  ⟨fun b o h => hb.cell (p := ⟨b, o, none⟩) h, fun b o h => hb.frozen (p := ⟨b, o, none⟩) h⟩

/-- Old cells, and old marks, in a world of the class. -/
theorem kgrown (W : World) : (∀ d os b o, b < W.heap.size → (Go.Sort.grow (redrawn W d) os).cell? ⟨b, o, none⟩ = W.cell? ⟨b, o, none⟩) ∧ (∀ d os b o, b < W.heap.size → (Go.Sort.grow (redrawn W d) os).frozen? ⟨b, o, none⟩ = W.frozen? ⟨b, o, none⟩) :=
  ⟨fun d os b o h => (below_regrown W d os).cell (p := ⟨b, o, none⟩) h, fun d os b o h => (below_regrown W d os).frozen (p := ⟨b, o, none⟩) h⟩

/-- The cells of a row of archives. -/
structure Ars (w : World) (b off : Nat) (l : List (Int × Int)) : Prop where
  lt : b < w.heap.size
  st : ∀ i, i < l.length → w.cell? ⟨b, off + i * 2, none⟩ = some (.int .i64 (At l i).1)
  ct : ∀ i, i < l.length → w.cell? ⟨b, off + i * 2 + 1, none⟩ = some (.int .i64 (At l i).2)
theorem Ars.below {w w' : World} {b off : Nat} {l : List (Int × Int)} (h : Ars w b off l) (hb : Below w.heap.size w w') : Ars w' b off l :=
  ⟨Nat.lt_of_lt_of_le h.lt hb.size, fun i hi => (hb.cell (p := ⟨b, off + i * 2, none⟩) h.lt).trans (h.st i hi), fun i hi => (hb.cell (p := ⟨b, off + i * 2 + 1, none⟩) h.lt).trans (h.ct i hi)⟩
theorem Ars.alloc {w : World} {b off : Nat} {l : List (Int × Int)} (h : Ars w b off l) (o : Obj) : Ars (w.alloc o) b off l := h.below ((Below.refl _ _).alloc (Nat.le_refl _) _)

set_option maxHeartbeats 400000 in
theorem isNum_any (n : Int) (w : World) :
    Calls Try.prog 30 #[.int .i64 n] w fun e w' => e = .returned (.bool (Wh.num n)) ∧ w = w' := by
  by_cases h1 : 1 ≤ n
  · by_cases h2 : n ≤ 16777216
    · have H := Lib.hid (Wh.num_t h1 h2)
      go_enter Try.func30, Try.ntmps30
      go_wp2
      go_ret
      exact ⟨by rw [H.out]; rfl, rfl⟩
    · have H := Lib.hid (show Wh.num n = false by unfold Wh.num; simp [h2])
      go_enter Try.func30, Try.ntmps30
      go_wp2
      go_ret
      exact ⟨by rw [H.out]; rfl, rfl⟩
  · have H := Lib.hid (show Wh.num n = false by unfold Wh.num; simp [h1])
    go_enter Try.func30, Try.ntmps30
    go_wp2
    go_ret
    exact ⟨by rw [H.out]; rfl, rfl⟩

set_option maxHeartbeats 400000 in
theorem isKind_any (n : Int) (w : World) :
    Calls Try.prog 26 #[.int .i64 n] w fun e w' => e = .returned (.bool (Wh.kind n)) ∧ w = w' := by
  by_cases h1 : n < 1 ∨ 5 < n
  · have H := Lib.hid (Wh.kind_f h1)
    have d1 : (n == 1) = false := by simp; omega
    have d2 : (n == 2) = false := by simp; omega
    have d3 : (n == 3) = false := by simp; omega
    have d4 : (n == 4) = false := by simp; omega
    have d5 : (n == 5) = false := by simp; omega
    clear h1
    go_enter Try.func26, Try.ntmps26
    go_wp2
    go_ret
    exact ⟨by rw [H.out]; rfl, rfl⟩
  · have H := Lib.hid (Wh.kind_t (ag := n) (by omega) (by omega))
    have hc : n = 1 ∨ n = 2 ∨ n = 3 ∨ n = 4 ∨ n = 5 := by omega
    clear h1
    rcases hc with rfl | rfl | rfl | rfl | rfl
    all_goals
      go_enter Try.func26, Try.ntmps26
      go_wp2
      go_ret
      exact ⟨by rw [H.out]; rfl, rfl⟩

set_option maxHeartbeats 400000 in
theorem headBytes_any (n : Int) (h1 : 0 ≤ n) (h2 : n ≤ 1000000000000) (w : World) :
    Calls Try.prog 16 #[.int .i64 n] w fun e w' => e = .returned (.int .i64 (16 + n * 12)) ∧ w = w' := by
  go_enter Try.func16, Try.ntmps16
  go_wp2
  go_ret
  exact ⟨rfl, rfl⟩

set_option maxHeartbeats 400000 in
theorem span_any (s c : Int) (h : IntKind.i64.wrap (s * c) = s * c) (w : World) :
    Calls Try.prog 28 #[.agg #[.int .i64 s, .int .i64 c]] w fun e w' => e = .returned (.int .i64 (s * c)) ∧ Below w.heap.size w w' := by
  generalize hq : s * c = q at h
  have HQ := Lib.hid hq
  clear hq
  have hw : IntKind.i64.wrap (s * c) = q := by rw [HQ.out]; exact h
  clear h
  go_enter Try.func28, Try.ntmps28
  go_wp2
  go_ret
  exact ⟨rfl, (by repeat (first | exact Below.refl _ _ | assumption | refine Below.setCell ?_ (by first | (simp; done) | omega | (simp; omega) | (simp at *; omega)) _ | refine Below.alloc ?_ (by first | (simp; done) | omega | (simp; omega) | (simp at *; omega)) _ | refine Below.drew ?_ | (refine Below.trans ?_ (Below.mono (by assumption) (by first | (simp; done) | omega | (simp; omega) | (simp at *; omega)))) | (refine Below.trans ?_ (Below.mono (below_regrown _ _ _) (by first | (simp; done) | omega | (simp; omega) | (simp at *; omega))))))⟩

set_option maxHeartbeats 400000 in
theorem lastSpan_any (l : List (Int × Int)) (b off cap : Nat) (w : World) (hA : Ars w b off l) (h1 : 1 ≤ l.length) (h8 : l.length ≤ 8) (hw : IntKind.i64.wrap (Wh.lsp l) = Wh.lsp l) :
    Calls Try.prog 18 #[.slice (some ⟨b, off, none⟩) l.length cap] w fun e w' => e = .returned (.int .i64 (Wh.lsp l)) ∧ Below w.heap.size w w' := by
  have HS := Lib.hid (span_any (At l (l.length - 1)).1 (At l (l.length - 1)).2 hw)
  have HE : Hid (Wh.lsp l = (At l (l.length - 1)).1 * (At l (l.length - 1)).2) := Lib.hid rfl
  obtain ⟨k, hk⟩ : ∃ k, l.length = k + 1 := ⟨l.length - 1, by omega⟩
  have c0 := hA.st k (by omega)
  have c1 := hA.ct k (by omega)
  have hlt := hA.lt
  rw [hk] at HS HE h8 ⊢
  simp only [Nat.add_sub_cancel] at HS HE
  clear hw hA h1 hk
  generalize (At l k) = a at *
  obtain ⟨s, c⟩ := a
  have hkn : (((k + 1 : Nat) : Int) - 1) = (k : Int) := by omega
  go_enter Try.func18, Try.ntmps18
  go_wp2_with (go_at_call 28; go_must (refine (HS.out _).mono ?_; rintro e w' ⟨rfl, hb⟩; obtain ⟨hc, hf⟩ := bcell hb; (try have hz0 : w.heap.size < w'.heap.size := Nat.lt_of_lt_of_le (by first | assumption | (simp; done) | (simp; omega)) hb.size); (try have hz1 : w.heap.size + 1 < w'.heap.size := Nat.lt_of_lt_of_le (by first | assumption | (simp; done) | (simp; omega)) hb.size); (try have hz2 : w.heap.size + 1 + 1 < w'.heap.size := Nat.lt_of_lt_of_le (by first | assumption | (simp; done) | (simp; omega)) hb.size); have hz := hb.size; (try simp at hz)))
  go_ret
  exact ⟨by rw [HE.out]; rfl, (by repeat (first | exact Below.refl _ _ | assumption | refine Below.setCell ?_ (by first | (simp; done) | omega | (simp; omega) | (simp at *; omega)) _ | refine Below.alloc ?_ (by first | (simp; done) | omega | (simp; omega) | (simp at *; omega)) _ | refine Below.drew ?_ | (refine Below.trans ?_ (Below.mono (by assumption) (by first | (simp; done) | omega | (simp; omega) | (simp at *; omega)))) | (refine Below.trans ?_ (Below.mono (below_regrown _ _ _) (by first | (simp; done) | omega | (simp; omega) | (simp at *; omega))))))⟩
end Go.Proofs.Ythjpodjfiajhaaa
