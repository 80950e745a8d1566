/-
  TeBld: CONTRACTS: chapter 15: a printer in memory: a block of two cells, a Builder; what the Builder's methods do to it.
-/
import Derived.Test.YtojmcndiooiehaaGreatDoorJ12
import Derived.Lib.Builder
import Derived.Lib.AppendStr
import Derived.Lib.UnsafeStr
import Derived.Laws.Externs
import Derived.Laws.IdiomCopy

set_option linter.unusedSimpArgs false
set_option linter.unusedVariables false
namespace Go.Proofs.YtojmcndiooiehaaGreatDoor
open Go.RowKit Go.Sort
open Me

namespace Tb
abbrev rT : TypeId := 56
abbrev u8T : TypeId := 5
/-- The block: what its address cell holds, its buffer, the room that is left, over. -/
def Bl (B r : Nat) (p v : Value) (l : List UInt8) (w : World) : Prop :=
  B ≤ r ∧ w.heap[r]? = some (.cells #[p, v] rT (0, 0)) ∧ w.ownsRow B u8T 1 v l.length (Lib.byteCells l)
theorem neT : rT ≠ u8T := by decide
theorem Bl.lt {B r : Nat} {p v : Value} {l : List UInt8} {w : World} (h : Bl B r p v l w) : r < w.heap.size := by
  obtain ⟨_, hb, _⟩ := h
  rcases Nat.lt_or_ge r w.heap.size with h' | h'
  · exact h'
  · simp [Array.getElem?_eq_none h'] at hb
theorem Bl.ne {B r : Nat} {p v : Value} {l : List UInt8} {w : World} (h : Bl B r p v l w) : v.ownBlock ≠ some r := Lib.ownBlock_ne h.2.2 h.2.1 neT
theorem Bl.cell {B r : Nat} {p v : Value} {l : List UInt8} {w : World} (h : Bl B r p v l w) : w.cell? ⟨r, 0, none⟩ = some p ∧ w.cell? ⟨r, 1, none⟩ = some v ∧ (∀ j, w.frozen? ⟨r, j, none⟩ = false) ∧ w.shape? r = some (rT, 2) := by
  obtain ⟨_, hb, _⟩ := h
  refine ⟨?_, ?_, ?_, ?_⟩
  · rw [Lib.cell_of_heap hb]; rfl
  · rw [Lib.cell_of_heap hb]; rfl
  · exact fun j => Lib.frozen_of_heap hb j
  · simp [World.shape?, hb]
/-- A cell of the block is written: the row stays. -/
theorem Bl.set {B r : Nat} {p v : Value} {l : List UInt8} {w : World} (h : Bl B r p v l w) (j : Nat) (x : Value) : (w.setCell ⟨r, j, none⟩ x).ownsRow B u8T 1 v l.length (Lib.byteCells l) ∧ (w.setCell ⟨r, j, none⟩ x).heap[r]? = some (.cells ((#[p, v] : Array Value).setIfInBounds j x) rT (0, 0)) := by
  have hne := h.ne
  obtain ⟨hB, hb, hown⟩ := h
  refine ⟨?_, ?_⟩
  · refine hown.kept (row := some r) ⟨rfl, rfl, rfl, by simp [World.setCell], fun k _ hk => Below.heap_setCell _ _ _ _ (fun e => hk (by simp [e]))⟩ (Or.inr hne)
  · simp [World.setCell, Array.getElem?_modify, hb]
theorem Bl.used {B r : Nat} {p v : Value} {l : List UInt8} {w : World} (h : Bl B r p v l w) (q : Value) : Bl B r q v l (w.setCell ⟨r, 0, none⟩ q) := ⟨h.1, (h.set 0 q).2, (h.set 0 q).1⟩
/-- It stays where nothing of it is touched. -/
theorem Bl.keep {B r : Nat} {p v : Value} {l : List UInt8} {w w' : World} (h : Bl B r p v l w) (hb : Below w.heap.size w w') : Bl B r p v l w' := by
  have hlt := h.lt
  obtain ⟨hB, hk, hown⟩ := h
  exact ⟨hB, (hb.block r hlt).trans hk, hown.kept (row := none) ⟨hb.os, hb.tape, hb.output, hb.size, fun k hk _ => hb.block k hk⟩ (by cases v.ownBlock <;> simp)⟩
theorem size71 : (Tryz.prog.info? 54).map (·.size) = some 2 := by kernel_rfl
theorem und68 : Tryz.prog.underlying 51 = some (.pointer 54) := by kernel_rfl
theorem und123 : Tryz.prog.underlying 116 = some .unsafePointer := by kernel_rfl
theorem lies71 : liesAt Tryz.prog Tryz.prog.depth rT (2 / Tryz.prog.cellsOf rT) 0 54 1 = true := by kernel_rfl
theorem infoU8 : (Tryz.prog.info? u8T).map (fun i => (i.zero, i.size, i.bytes)) = some (some (.int .u8 0), 1, 1) := by kernel_rfl
theorem cellsU8 : Tryz.prog.cellsOf u8T = 1 := by kernel_rfl
end Tb

set_option maxHeartbeats 1000000 in
set_option maxRecDepth 100000 in
theorem tbCheck_any {B r : Nat} {p v : Value} {l : List UInt8} {w : World} (h : Tb.Bl B r p v l w) (hp : p = .pointer none ∨ p = .pointer (some ⟨r, 0, none⟩)) :
    Calls Tryz.prog 59 #[.pointer (some ⟨r, 0, none⟩)] w fun e w' => e = .returned (.tuple #[]) ∧ Tb.Bl B r (.pointer (some ⟨r, 0, none⟩)) v l w' ∧ Below B w w' ∧ (w.heap.size ≤ w'.heap.size ∧ ∀ k, k < w.heap.size → k ≠ r → w'.heap[k]? = w.heap[k]?) := by
  obtain ⟨j, hj, hjs⟩ := Option.map_eq_some_iff.1 Tb.size71
  obtain ⟨c0, c1, cf, hsh⟩ := h.cell
  have f0 := cf 0
  rcases hp with rfl | rfl
  · have H := Lib.hid h
    go_enter Tryz.func59, Tryz.ntmps59
    go_wp2
    rw [Lib.run_to_unsafe w ⟨r, 0, none⟩ Tb.und68 Tb.und123 hj (by rw [hjs]; decide) hsh (Nat.zero_lt_succ 1)]
    simp only [Result.andThen]
    rw [Oper.upon_value]
    go_wp2
    rw [run_callFunc_extern Tryz.func85 (by kernel_rfl) (by kernel_rfl) (by kernel_rfl) (e := Extern.AbiNoEscape.same) (by kernel_rfl)]
    rw [Lib.run_noEscape]
    simp only [Result.andThen]
    rw [Oper.upon_value]
    go_wp2
    rw [Lib.run_from_unsafe w ⟨r, 0, none⟩ Tb.und123 Tb.und68 hj hsh Tb.lies71]
    simp only [Result.andThen]
    rw [Oper.upon_value]
    go_wp2
    go_end0
    exact ⟨rfl, H.out.used _, (Below.refl B w).setCell (p := ⟨r, 0, none⟩) H.out.1 _, by simp [World.setCell], fun k _ hk => Below.heap_setCell _ _ _ _ (fun e => hk (by simp [e]))⟩
  · have H := Lib.hid h
    go_enter Tryz.func59, Tryz.ntmps59
    go_wp2
    rw [Lib.run_neq_ptr_same w _ Tb.und68 hj]
    go_wp2
    go_end0
    exact ⟨rfl, H.out, Below.refl B _, Nat.le_refl _, fun _ _ _ => rfl⟩

set_option maxHeartbeats 2000000 in
set_option maxRecDepth 100000 in
theorem tbWrite_any {B r : Nat} {p v : Value} {l : List UInt8} {w : World} (h : Tb.Bl B r p v l w) (hp : p = .pointer none ∨ p = .pointer (some ⟨r, 0, none⟩)) (s : List UInt8) (hlen : l.length + s.length ≤ 1073741824) (hBw : B ≤ w.heap.size) :
    Calls Tryz.prog 38 #[.pointer (some ⟨r, 0, none⟩), .string ⟨s.toArray⟩] w fun e w' => e = .returned (.tuple #[.int .i64 s.length, .nilIface]) ∧ (∃ v', Tb.Bl B r (.pointer (some ⟨r, 0, none⟩)) v' (l ++ s) w') ∧ Below B w w' ∧ (w.heap.size ≤ w'.heap.size ∧ ∀ k, k < w.heap.size → k ≠ r → v.ownBlock ≠ some k → w'.heap[k]? = w.heap[k]?) := by
  obtain ⟨i0, hi, hz0, hz1, hz2⟩ := info_parts Tb.infoU8
  have HC := Lib.hid (tbCheck_any h hp)
  clear h hp
  go_enter Tryz.func38, Tryz.ntmps38
  go_wp2_with (go_at_call 59; refine HC.out.mono ?_)
  rintro e w1 ⟨rfl, h1, hb1, hs1, hk1⟩
  have hne := h1.ne
  have hlt := h1.lt
  obtain ⟨c0, c1, cf, hsh⟩ := h1.cell
  obtain ⟨hB, hbk, hown⟩ := h1
  have hsz : (⟨s.toArray⟩ : ByteArray).size = s.length := by show s.toArray.size = _; simp
  go_wp2_with (at_builtin; refine Lib.wpList_append_own_string _ rfl _ _ 52 9 rfl B Tb.u8T i0 (by kernel_rfl) (by kernel_rfl) hi hz0 hz1 hz2 _ _ _ rfl hown ⟨s.toArray⟩ rfl ?c3 ?c4 ?c5 ?_)
  case c3 => unfold maxLen; omega
  case c4 => omega
  case c5 => have := hb1.size; omega
  intro v' w2 hown' hgrow _
  have hb2 : w2.heap[r]? = some (.cells #[.pointer (some ⟨r, 0, none⟩), v] Tb.rT (0, 0)) := by
    rw [hgrow.block r hlt (fun e => hne e.symm)]
    exact hbk
  have d0 : w2.cell? ⟨r, 0, none⟩ = some (.pointer (some ⟨r, 0, none⟩)) := by rw [Lib.cell_of_heap hb2]; rfl
  have d1 : w2.cell? ⟨r, 1, none⟩ = some v := by rw [Lib.cell_of_heap hb2]; rfl
  have f1 : w2.frozen? ⟨r, 1, none⟩ = false := Lib.frozen_of_heap hb2 1
  obtain ⟨ao, n', cap, rfl⟩ : ∃ ao n' cap, v' = .slice ao n' cap := by
    rcases hown'.2 with ⟨hv, _⟩ | ⟨g, cap, cur, hv, _⟩
    · exact ⟨_, _, _, hv⟩
    · exact ⟨_, _, _, hv⟩
  have hcl : Lib.byteCells l ++ Lib.strCells ⟨s.toArray⟩ = Lib.byteCells (l ++ s) := by unfold Lib.byteCells Lib.strCells; simp
  have hown2 : w2.ownsRow B Tb.u8T 1 (.slice ao n' cap) (l ++ s).length (Lib.byteCells (l ++ s)) := by
    rw [← hcl, List.length_append, ← hsz]; exact hown'
  have hne2 := Lib.ownBlock_ne hown2 hb2 Tb.neT
  have HOWN := Lib.hid hown2
  have HNE := Lib.hid hne2
  have HGR := Lib.hid hgrow
  have HOW := Lib.hid hown
  clear hown' hown2 hne2 hcl hown hgrow
  go_wp2
  ((try simp only [Exit.inBlock, Exit.then]); refine bodyPost_ret (results_tmp2 rfl _ _ _) rfl ?_)
  refine ⟨rfl, ⟨.slice ao n' cap, hB, ?_, ?_⟩, ?_, ?_, ?_⟩
  · simp [World.setCell, Array.getElem?_modify, hb2]
  · exact HOWN.out.kept (row := some r) ⟨rfl, rfl, rfl, by simp [World.setCell], fun k _ hk => Below.heap_setCell _ _ _ _ (fun e => hk (by simp [e]))⟩ (Or.inr HNE.out)
  · exact (hb1.grown HGR.out (by have := hb1.size; omega) (fun k hk => (HOW.out.lt k hk).1)).setCell (p := ⟨r, 1, none⟩) hB _
  · have h9 := HGR.out.size
    simp [World.setCell]
    omega
  · intro k hk hkr hkv
    rw [Below.heap_setCell _ _ _ _ (fun e => hkr (by simp [e])), HGR.out.block k (by omega) (fun e => hkv e.symm), hk1 k hk hkr]

namespace Tb
theorem und98 : Tryz.prog.underlying 86 = some (.pointer u8T) := by kernel_rfl
end Tb

set_option maxHeartbeats 2000000 in
set_option maxRecDepth 100000 in
theorem tbString_some {B r : Nat} {p : Value} {l : List UInt8} {w : World} {g cap : Nat} {cur : Array Value} (hbk : w.heap[r]? = some (.cells #[p, .slice (some ⟨g, 0, none⟩) l.length cap] Tb.rT (0, 0))) (hown : w.ownsRow B Tb.u8T 1 (.slice (some ⟨g, 0, none⟩) l.length cap) l.length (Lib.byteCells l)) (h0 : l ≠ []) (hbg : B ≤ g) (hg : w.heap[g]? = some (.cells cur Tb.u8T (0, 0))) (hnc : l.length ≤ cap) (hcm : cap ≤ maxLen) (hcs : cur.size = cap * 1) :
    Calls Tryz.prog 25 #[.pointer (some ⟨r, 0, none⟩)] w fun e w' => e = .returned (.string ⟨l.toArray⟩) ∧ Below B w w' := by
  have hl0 : l.length ≠ 0 := by simpa using h0
  have c1 : w.drew.cell? ⟨r, 1, none⟩ = some (.slice (some ⟨g, 0, none⟩) l.length cap) := by
    have : w.drew.heap[r]? = some (.cells #[p, .slice (some ⟨g, 0, none⟩) l.length cap] Tb.rT (0, 0)) := hbk
    rw [Lib.cell_of_heap this]; rfl
  have hSD : (Builtin.unsafeSliceData_ #[52] 86 #[.slice (some ⟨g, 0, none⟩) l.length cap]).run Tryz.prog w.drew = .ok (.pointer (some ⟨g, 0, none⟩)) w.drew :=
    Lib.run_unsafeSliceData_row _ _ _ _ _ _ (by omega)
  have hUS : (Builtin.unsafeString_ #[86, 3] 9 #[.pointer (some ⟨g, 0, none⟩), .int .i64 l.length]).run Tryz.prog w.drew = .ok (.string ⟨l.toArray⟩) (w.drew.freeze ⟨g, 0, none⟩ l.length) := by
    refine Lib.run_unsafeString_row w.drew 86 3 9 Tb.u8T Tb.und98 Tb.cellsU8 g cur.size (by have hg' : w.drew.heap[g]? = some (.cells cur Tb.u8T (0, 0)) := hg; simp [World.shape?, hg']) l h0 (by omega) (by unfold maxLen at hcm; omega) ?_
    intro j x hx
    have := hown.cells (g := g) rfl j (.int .u8 x.toNat) (by simp [Lib.byteCells, hx])
    exact this
  clear hown
  go_enter Tryz.func25, Tryz.ntmps25
  go_wp2
  go_region
  all_goals (go_wp2; go_ret; exact ⟨rfl, Lib.below_freeze (Below.drew (Below.refl B w)) (p := ⟨g, 0, none⟩) hbg _⟩)

theorem tbUnsafe_none (W : World) (q : Option Addr) : (Builtin.unsafeString_ #[86, 3] 9 #[.pointer q, .int .i64 0]).run Tryz.prog W = .ok (.string .empty) W :=
  Lib.run_unsafeString_none W _ _ _ q

set_option maxHeartbeats 2000000 in
set_option maxRecDepth 100000 in
theorem tbString_nil (B : Nat) {r : Nat} {p : Value} {w : World} (hbk : w.heap[r]? = some (.cells #[p, .slice none 0 0] Tb.rT (0, 0))) :
    Calls Tryz.prog 25 #[.pointer (some ⟨r, 0, none⟩)] w fun e w' => e = .returned (.string ⟨#[]⟩) ∧ Below B w w' := by
  have hUS := tbUnsafe_none
  have c1 : w.drew.cell? ⟨r, 1, none⟩ = some (.slice none 0 0) := by
    have : w.drew.heap[r]? = some (.cells #[p, .slice none 0 0] Tb.rT (0, 0)) := hbk
    rw [Lib.cell_of_heap this]; rfl
  have hSD : (Builtin.unsafeSliceData_ #[52] 86 #[.slice none 0 0]).run Tryz.prog w.drew = .ok (.pointer none) w.drew := rfl
  go_enter Tryz.func25, Tryz.ntmps25
  go_wp2
  go_region
  all_goals (go_wp2; go_ret; exact ⟨rfl, Below.drew (Below.refl B w)⟩)

set_option maxHeartbeats 2000000 in
set_option maxRecDepth 100000 in
theorem tbString_noroom {B r g : Nat} {p : Value} {cur : Array Value} {w : World} (hBw : B ≤ w.heap.size) (hbk : w.heap[r]? = some (.cells #[p, .slice (some ⟨g, 0, none⟩) 0 0] Tb.rT (0, 0))) (hg : w.heap[g]? = some (.cells cur Tb.u8T (0, 0))) :
    Calls Tryz.prog 25 #[.pointer (some ⟨r, 0, none⟩)] w fun e w' => e = .returned (.string ⟨#[]⟩) ∧ Below B w w' := by
  have hUS := tbUnsafe_none
  have hlt : r < w.heap.size := by
    rcases Nat.lt_or_ge r w.heap.size with h' | h'
    · exact h'
    · simp [Array.getElem?_eq_none h'] at hbk
  have c1 : w.drew.cell? ⟨r, 1, none⟩ = some (.slice (some ⟨g, 0, none⟩) 0 0) := by
    have : w.drew.heap[r]? = some (.cells #[p, .slice (some ⟨g, 0, none⟩) 0 0] Tb.rT (0, 0)) := hbk
    rw [Lib.cell_of_heap this]; rfl
  have hSD : (Builtin.unsafeSliceData_ #[52] 86 #[.slice (some ⟨g, 0, none⟩) 0 0]).run Tryz.prog w.drew = .ok (.pointer (some ⟨w.drew.heap.size, 0, none⟩)) (w.drew.alloc (.view ⟨g, 0, none⟩ Tb.u8T)) :=
    Lib.run_unsafeSliceData_zero w.drew _ _ Tb.u8T Tb.und98 ⟨g, 0, none⟩ 0 (Tb.u8T, cur.size) (by have hg' : w.drew.heap[g]? = some (.cells cur Tb.u8T (0, 0)) := hg; simp [World.shape?, hg'])
  have c2 : (w.drew.alloc (.view ⟨g, 0, none⟩ Tb.u8T)).cell? ⟨r, 1, none⟩ = some (.slice (some ⟨g, 0, none⟩) 0 0) := by
    have : (w.drew.alloc (.view ⟨g, 0, none⟩ Tb.u8T)).heap[r]? = _ := (Lib.alloc_old w.drew _ r hlt).trans hbk
    rw [Lib.cell_of_heap this]; rfl
  have c3 : (w.alloc (.view ⟨g, 0, none⟩ Tb.u8T)).drew.cell? ⟨r, 1, none⟩ = some (.slice (some ⟨g, 0, none⟩) 0 0) := c2
  have c0 : w.cell? ⟨r, 1, none⟩ = some (.slice (some ⟨g, 0, none⟩) 0 0) := c1
  go_enter Tryz.func25, Tryz.ntmps25
  go_wp2
  go_region
  all_goals (go_wp2; go_ret; exact ⟨rfl, (Below.drew (Below.refl B w)).alloc hBw _⟩)

set_option maxHeartbeats 2000000 in
set_option maxRecDepth 100000 in
theorem tbString_room (B : Nat) {r g cap : Nat} {p : Value} {w : World} (hc0 : cap ≠ 0) (hbk : w.heap[r]? = some (.cells #[p, .slice (some ⟨g, 0, none⟩) 0 cap] Tb.rT (0, 0))) :
    Calls Tryz.prog 25 #[.pointer (some ⟨r, 0, none⟩)] w fun e w' => e = .returned (.string ⟨#[]⟩) ∧ Below B w w' := by
  have hUS := tbUnsafe_none
  have c1 : w.drew.cell? ⟨r, 1, none⟩ = some (.slice (some ⟨g, 0, none⟩) 0 cap) := by
    have : w.drew.heap[r]? = some (.cells #[p, .slice (some ⟨g, 0, none⟩) 0 cap] Tb.rT (0, 0)) := hbk
    rw [Lib.cell_of_heap this]; rfl
  have hSD : (Builtin.unsafeSliceData_ #[52] 86 #[.slice (some ⟨g, 0, none⟩) 0 cap]).run Tryz.prog w.drew = .ok (.pointer (some ⟨g, 0, none⟩)) w.drew :=
    Lib.run_unsafeSliceData_row _ _ _ _ _ _ hc0
  clear hc0
  go_enter Tryz.func25, Tryz.ntmps25
  go_wp2
  go_region
  all_goals (go_wp2; go_ret; exact ⟨rfl, Below.drew (Below.refl B w)⟩)

theorem tbString_any {B r : Nat} {p v : Value} {l : List UInt8} {w : World} (h : Tb.Bl B r p v l w) (hBw : B ≤ w.heap.size) :
    Calls Tryz.prog 25 #[.pointer (some ⟨r, 0, none⟩)] w fun e w' => e = .returned (.string ⟨l.toArray⟩) ∧ Below B w w' := by
  obtain ⟨hB, hbk, hown⟩ := h
  rcases hown.2 with ⟨rfl, hn⟩ | ⟨g, cap, cur, rfl, hbg, hg, hnc, hcm, hcs, _⟩
  · obtain rfl : l = [] := by simpa using hn
    exact tbString_nil B hbk
  · by_cases h0 : l = []
    · subst h0
      by_cases hc0 : cap = 0
      · subst hc0
        exact tbString_noroom hBw hbk hg
      · exact tbString_room B hc0 hbk
    · exact tbString_some hbk hown h0 hbg hg hnc hcm hcs
end Go.Proofs.YtojmcndiooiehaaGreatDoor
