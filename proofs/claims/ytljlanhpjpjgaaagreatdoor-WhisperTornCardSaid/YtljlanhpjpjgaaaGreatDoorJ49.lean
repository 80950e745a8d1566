/- WhOpen WsOpen -/
import Derived.Test.YtljlanhpjpjgaaaGreatDoorJ1
import Derived.Test.YtljlanhpjpjgaaaGreatDoorJ6
import Derived.Deep.Slices
import Derived.ProofKit
import Derived.OpenShut
import Derived.ChangeOld
import Derived.Lib.SmallJoins
import Derived.ChangeArms
namespace Go.Proofs.YtljlanhpjpjgaaaGreatDoor
set_option maxRecDepth 100000
set_option maxHeartbeats 8000000
section
open Go.RowKit Go.Sort
open Wh (At)
namespace WhOpen
open Go.ChangeShapes Go.WideShapes Go.ChangeAt Go.RowKit Go.Deep Go.Joins
theorem own : ownKnob Tryz.prog.godebug = none := by kernel_rfl
theorem laidOut : laidOutB Tryz.prog = true := by kernel_rfl
theorem adN (b off j : Nat) : (⟨b, off, none⟩ : Addr).add j = ⟨b, off + j, none⟩ := by simp [Addr.add]
theorem archives {H : Type} {enc : TypeId × Value → H} {w : World} {base : Nat} {spare : Nat → Bool} {held : Bool} {fuel : Nat} {x : Option Addr} {len cap : Nat} {y : DataW H × List MemPlace}
 (h : DataW.trod enc Tryz.prog w base spare held fuel 22 [.slice x len cap] = some y) :
 len ≤ cap ∧ ((x = none ∧ len = 0 ∧ cap = 0) ∨ (∃ a : Addr, x = some a ∧ ∀ i, i < len → ∃ (s c : Int), w.cell? (a.add (i * 2)) = some (.int .i64 s) ∧ w.cell? (a.add (i * 2 + 1)) = some (.int .i64 c))) := by
 rcases open_slice Tryz.underlying22 h with ⟨hcs, _⟩ | ⟨a, len', cap', m, n, D, Pl, hcs, _, hl, _, hm, _, hi⟩
 ·simp at hcs
  obtain ⟨rfl, rfl, rfl⟩ := hcs
  exact ⟨Nat.le_refl _, .inl ⟨rfl, rfl, rfl⟩⟩
 ·simp at hcs
  obtain ⟨rfl, rfl, rfl⟩ := hcs
  refine ⟨hl, .inr ⟨a, rfl, fun i hil => ?_⟩⟩
  have him : i < m := by rw [hm]; split <;> omega
  obtain ⟨cs', h1, h2⟩ := hi i him
  have hC : Tryz.prog.cellsOf 56 = 2 := by kernel_rfl
  rw [hC] at h1
  obtain ⟨_, hlen, hat⟩ := World.cells?_some h1
  match cs', hlen with
  | [c0, c1], _ =>
    obtain ⟨xs, n', _, _, _, _, hf⟩ := DataW.trod_struct Tryz.underlying56 h2
    have g0 := hf 0 _ rfl
    have g1 := hf 1 _ rfl
    have hn : Tryz.prog.cellsOf 3 = 1 := by kernel_rfl
    have hx2 : xs.length = 2 := by assumption
    have g0' : DataW.trod enc Tryz.prog w base spare held n' 3 [c0] = some (xs[0]'(by omega)) := by
     have e : xs[0]? = some (xs[0]'(by omega)) := List.getElem?_eq_getElem (by omega)
     rw [← e, ← g0]
     show _ = DataW.trod enc Tryz.prog w base spare held n' 3 (List.take (Tryz.prog.cellsOf 3) (List.drop 0 [c0, c1]))
     rw [hn]
     rfl
    have g1' : DataW.trod enc Tryz.prog w base spare held n' 3 [c1] = some (xs[1]'(by omega)) := by
     have e : xs[1]? = some (xs[1]'(by omega)) := List.getElem?_eq_getElem (by omega)
     rw [← e, ← g1]
     show _ = DataW.trod enc Tryz.prog w base spare held n' 3 (List.take (Tryz.prog.cellsOf 3) (List.drop 1 [c0, c1]))
     rw [hn]
     rfl
    obtain ⟨s, e0, _, _⟩ := DataW.trod_int Tryz.underlying3 g0'
    obtain ⟨c, e1, _, _⟩ := DataW.trod_int Tryz.underlying3 g1'
    simp at e0 e1
    subst e0 e1
    refine ⟨s, c, ?_, ?_⟩
    ·have := hat 0 (by omega)
     simpa [Addr.add] using this
    ·have := hat 1 (by omega)
     rw [Go.Deep.add_add] at this
     simpa using this
theorem listed {w : World} {b off : Nat} {n : Nat} (hc : ∀ i, i < n → ∃ (s c : Int), w.cell? ⟨b, off + i * 2, none⟩ = some (.int .i64 s) ∧ w.cell? ⟨b, off + i * 2 + 1, none⟩ = some (.int .i64 c)) :
 ∃ l : List (Int × Int), l.length = n ∧ ∀ i, i < n → w.cell? ⟨b, off + i * 2, none⟩ = some (.int .i64 (At l i).1) ∧ w.cell? ⟨b, off + i * 2 + 1, none⟩ = some (.int .i64 (At l i).2) := by
 induction n with
 | zero => exact ⟨[], rfl, fun i h => by omega⟩
 | succ m ih =>
   obtain ⟨l, e, hi⟩ := ih fun i h => hc i (by omega)
   obtain ⟨s, c, c0, c1⟩ := hc m (by omega)
   refine ⟨l ++ [(s, c)], by simp [e], fun i h => ?_⟩
   by_cases him : i < m
   ·have ea : At (l ++ [(s, c)]) i = At l i := by unfold At; rw [List.getD_eq_getElem?_getD, List.getD_eq_getElem?_getD, List.getElem?_append_left (by omega)]
    rw [ea]; exact hi i him
   ·obtain rfl : i = m := by omega
    have ea : At (l ++ [(s, c)]) i = (s, c) := by unfold At; rw [List.getD_eq_getElem?_getD, List.getElem?_append_right (by omega), e]; simp
    rw [ea]; exact ⟨c0, c1⟩
theorem row_of {w : World} {x : Option Addr} {len cap : Nat} (hl : len ≤ cap) (h : (x = none ∧ len = 0 ∧ cap = 0) ∨ (∃ a : Addr, x = some a ∧ ∀ i, i < len → ∃ (s c : Int), w.cell? (a.add (i * 2)) = some (.int .i64 s) ∧ w.cell? (a.add (i * 2 + 1)) = some (.int .i64 c))) :
 ∃ l : List (Int × Int), l.length = len ∧ Row w x l cap := by
 rcases h with ⟨rfl, rfl, rfl⟩ | ⟨a, rfl, hc⟩
 ·exact ⟨[], rfl, Nat.le_refl _, fun h => by cases h⟩
 ·by_cases h0 : len = 0
  ·subst h0; exact ⟨[], rfl, Nat.zero_le _, fun h => by cases h⟩
  ·obtain ⟨b, off, spot⟩ := a
   obtain ⟨s0, n0, hk0, _⟩ := hc 0 (by omega)
   have hspot : spot = none := by simpa [Addr.add] using World.cell?_spot hk0
   subst hspot
   obtain ⟨l, e, hi⟩ := listed (w := w) (b := b) (off := off) (n := len) fun i hil => by
    obtain ⟨s, c, c0, c1⟩ := hc i hil
    rw [adN] at c0 c1
    exact ⟨s, c, c0, by rw [Nat.add_assoc]; exact c1⟩
   refine ⟨l, e, by omega, fun _ => ⟨b, off, rfl, World.block_lt_of_cell? w _ (hi 0 (by omega)).1, fun i h => (hi i (by omega)).1, fun i h => (hi i (by omega)).2⟩⟩
theorem header {H : Type} {enc : TypeId × Value → H} {w : World} {r : Reach} {b0 base : Nat} {spare : Nat → Bool} {held : Bool} {v : Value} {d : DataW H} {p : List MemPlace}
 (hv : Value.okWide Tryz.prog w r b0 24 v) (h : DataW.Trod enc Tryz.prog w base spare held 24 v d p) :
 ∃ (ag xf : Int) (l : List (Int × Int)) (A : Option Addr) (cap : Nat), v = .agg #[.int .i64 ag, .int .i64 xf, .slice A l.length cap] ∧ Row w A l cap := by
 obtain ⟨v0, v1, v2, y0, y1, y2, n, rfl, _, _, t0, t1, t2⟩ := open_agg3 Tryz.underlying24 (by kernel_rfl) (by kernel_rfl) hv h
 obtain ⟨ag, e0, _, _⟩ := DataW.trod_int Tryz.underlying3 t0
 obtain ⟨xf, e1, _, _⟩ := DataW.trod_int Tryz.underlying3 t1
 simp at e0 e1
 subst e0 e1
 have hs : ∃ a len cap, v2 = .slice a len cap := by
  rcases open_slice Tryz.underlying22 t2 with ⟨hcs, _⟩ | ⟨a, len', cap', m, n, D, Pl, hcs, _⟩
  ·simp at hcs; exact ⟨_, _, _, hcs⟩
  ·simp at hcs; exact ⟨_, _, _, hcs⟩
 obtain ⟨a, len, cap, rfl⟩ := hs
 obtain ⟨hl, ho⟩ := archives t2
 obtain ⟨l, rfl, hr⟩ := row_of hl ho
 exact ⟨ag, xf, l, a, cap, rfl, hr⟩
end WhOpen
end
section
open Go.RowKit Go.Sort
open Wh (At)
namespace WsOpen
open Go.ChangeShapes Go.WideShapes Go.ChangeAt Go.RowKit Go.Deep Go.Joins
theorem pointsAt {H : Type} {enc : TypeId × Value → H} {w : World} {base : Nat} {spare : Nat → Bool} {held : Bool} {fuel : Nat} {x : Option Addr} {len cap : Nat} {y : DataW H × List MemPlace}
 (h : DataW.trod enc Tryz.prog w base spare held fuel 25 [.slice x len cap] = some y) :
 len ≤ cap ∧ ((x = none ∧ len = 0 ∧ cap = 0) ∨ (∃ a : Addr, x = some a ∧ ∀ i, i < len → ∃ (s c : Int), w.cell? (a.add (i * 2)) = some (.int .i64 s) ∧ w.cell? (a.add (i * 2 + 1)) = some (.int .i64 c))) := by
 rcases open_slice Tryz.underlying25 h with ⟨hcs, _⟩ | ⟨a, len', cap', m, n, D, Pl, hcs, _, hl, _, hm, _, hi⟩
 ·simp at hcs
  obtain ⟨rfl, rfl, rfl⟩ := hcs
  exact ⟨Nat.le_refl _, .inl ⟨rfl, rfl, rfl⟩⟩
 ·simp at hcs
  obtain ⟨rfl, rfl, rfl⟩ := hcs
  refine ⟨hl, .inr ⟨a, rfl, fun i hil => ?_⟩⟩
  have him : i < m := by rw [hm]; split <;> omega
  obtain ⟨cs', h1, h2⟩ := hi i him
  have hC : Tryz.prog.cellsOf 27 = 2 := by kernel_rfl
  rw [hC] at h1
  obtain ⟨_, hlen, hat⟩ := World.cells?_some h1
  match cs', hlen with
  | [c0, c1], _ =>
    obtain ⟨xs, n', _, _, _, _, hf⟩ := DataW.trod_struct Tryz.underlying27 h2
    have g0 := hf 0 _ rfl
    have g1 := hf 1 _ rfl
    have hn : Tryz.prog.cellsOf 3 = 1 := by kernel_rfl
    have hx2 : xs.length = 2 := by assumption
    have g0' : DataW.trod enc Tryz.prog w base spare held n' 3 [c0] = some (xs[0]'(by omega)) := by
     have e : xs[0]? = some (xs[0]'(by omega)) := List.getElem?_eq_getElem (by omega)
     rw [← e, ← g0]
     show _ = DataW.trod enc Tryz.prog w base spare held n' 3 (List.take (Tryz.prog.cellsOf 3) (List.drop 0 [c0, c1]))
     rw [hn]
     rfl
    have g1' : DataW.trod enc Tryz.prog w base spare held n' 3 [c1] = some (xs[1]'(by omega)) := by
     have e : xs[1]? = some (xs[1]'(by omega)) := List.getElem?_eq_getElem (by omega)
     rw [← e, ← g1]
     show _ = DataW.trod enc Tryz.prog w base spare held n' 3 (List.take (Tryz.prog.cellsOf 3) (List.drop 1 [c0, c1]))
     rw [hn]
     rfl
    obtain ⟨s, e0, _, _⟩ := DataW.trod_int Tryz.underlying3 g0'
    obtain ⟨c, e1, _, _⟩ := DataW.trod_int Tryz.underlying3 g1'
    simp at e0 e1
    subst e0 e1
    refine ⟨s, c, ?_, ?_⟩
    ·have := hat 0 (by omega)
     simpa [Addr.add] using this
    ·have := hat 1 (by omega)
     rw [Go.Deep.add_add] at this
     simpa using this
theorem points {H : Type} {enc : TypeId × Value → H} {w : World} {base : Nat} {spare : Nat → Bool} {held : Bool} {v : Value} {d : DataW H} {p : List MemPlace} {r : Reach} {b0 : Nat}
 (hv : Value.okWide Tryz.prog w r b0 25 v) (h : DataW.Trod enc Tryz.prog w base spare held 25 v d p) : ∃ (l : List (Int × Int)) (A : Option Addr) (cap : Nat), v = .slice A l.length cap ∧ Row w A l cap := by
 obtain ⟨a0, len0, cap0, rfl⟩ := okWide_slice Tryz.underlying25 hv
 obtain ⟨fuel, hf⟩ := h
 obtain ⟨hl, ho⟩ := pointsAt (by simpa [Value.cells] using hf)
 obtain ⟨l, rfl, hr⟩ := WhOpen.row_of hl ho
 exact ⟨l, a0, cap0, rfl, hr⟩
theorem point {H : Type} {enc : TypeId × Value → H} {w : World} {r : Reach} {b0 base : Nat} {spare : Nat → Bool} {held : Bool} {v : Value} {d : DataW H} {p : List MemPlace}
 (hv : Value.okWide Tryz.prog w r b0 27 v) (h : DataW.Trod enc Tryz.prog w base spare held 27 v d p) :
 ∃ (a n : Int), v = .agg #[.int .i64 a, .int .i64 n] ∧ (-9223372036854775808 ≤ a ∧ a ≤ 9223372036854775807) ∧ (-9223372036854775808 ≤ n ∧ n ≤ 9223372036854775807) := by
 obtain ⟨v0, v1, y0, y1, n, rfl, _, _, t0, t1⟩ := open_agg2 Tryz.underlying27 (by kernel_rfl) (by kernel_rfl) hv h
 obtain ⟨a, e0, _, g0⟩ := DataW.trod_int Tryz.underlying3 t0
 obtain ⟨b, e1, _, g1⟩ := DataW.trod_int Tryz.underlying3 t1
 simp at e0 e1
 subst e0 e1
 refine ⟨a, b, rfl, ?_, ?_⟩
 ·simpa [Lit.wf, IntKind.min, IntKind.max, IntKind.signed, IntKind.bits] using g0
 ·simpa [Lit.wf, IntKind.min, IntKind.max, IntKind.signed, IntKind.bits] using g1
end WsOpen
end
end Go.Proofs.YtljlanhpjpjgaaaGreatDoor
