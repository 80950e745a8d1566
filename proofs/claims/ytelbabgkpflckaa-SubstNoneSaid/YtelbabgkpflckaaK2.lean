/-
  SbMem: CONTRACTS: chapter 13: a result in memory: a block of four cells with a Builder at its start; what the Builder's methods do to it.
  SbAdd: CONTRACTS: chapter 13: add: parts behind what a result holds, as long as there is room.
-/
import Derived.Test.YtelbabgkpflckaaK1
import Derived.Lib.Builder
import Derived.Lib.AppendStr
import Derived.Lib.UnsafeStr
import Derived.Laws.Externs
import Derived.Laws.IdiomCopy

set_option linter.unusedSimpArgs false
set_option linter.unusedVariables false
namespace Go.Proofs.Ytelbabgkpflckaa
open Go.RowKit Go.Sort
open Me

namespace Sb
abbrev rT : TypeId := 73
abbrev u8T : TypeId := 5
/-- The block: what its address cell holds, its buffer, the room that is left, over. -/
def Bl (B r : Nat) (p v : Value) (m : Nat) (o : Bool) (l : List UInt8) (w : World) : Prop :=
  B ≤ r ∧ w.heap[r]? = some (.cells #[p, v, .int .i64 (m : Int), .bool o] rT (0, 0)) ∧ w.ownsRow B u8T 1 v l.length (Lib.byteCells l)
theorem neT : rT ≠ u8T := by decide
theorem Bl.lt {B r m : Nat} {p v : Value} {o : Bool} {l : List UInt8} {w : World} (h : Bl B r p v m o l w) : r < w.heap.size := by
  obtain ⟨_, hb, _⟩ := h
  rcases Nat.lt_or_ge r w.heap.size with h' | h'
  · exact h'
  · simp [Array.getElem?_eq_none h'] at hb
theorem Bl.ne {B r m : Nat} {p v : Value} {o : Bool} {l : List UInt8} {w : World} (h : Bl B r p v m o l w) : v.ownBlock ≠ some r := Lib.ownBlock_ne h.2.2 h.2.1 neT
theorem Bl.cell {B r m : Nat} {p v : Value} {o : Bool} {l : List UInt8} {w : World} (h : Bl B r p v m o l w) : w.cell? ⟨r, 0, none⟩ = some p ∧ w.cell? ⟨r, 1, none⟩ = some v ∧ w.cell? ⟨r, 2, none⟩ = some (.int .i64 (m : Int)) ∧ w.cell? ⟨r, 3, none⟩ = some (.bool o) ∧ (∀ j, w.frozen? ⟨r, j, none⟩ = false) ∧ w.shape? r = some (rT, 4) := by
  obtain ⟨_, hb, _⟩ := h
  refine ⟨?_, ?_, ?_, ?_, ?_, ?_⟩
  · rw [Lib.cell_of_heap hb]; rfl
  · rw [Lib.cell_of_heap hb]; rfl
  · rw [Lib.cell_of_heap hb]; rfl
  · rw [Lib.cell_of_heap hb]; rfl
  · exact fun j => Lib.frozen_of_heap hb j
  · simp [World.shape?, hb]
/-- A cell of the block is written: the row stays. -/
theorem Bl.set {B r m : Nat} {p v : Value} {o : Bool} {l : List UInt8} {w : World} (h : Bl B r p v m o l w) (j : Nat) (x : Value) : (w.setCell ⟨r, j, none⟩ x).ownsRow B u8T 1 v l.length (Lib.byteCells l) ∧ (w.setCell ⟨r, j, none⟩ x).heap[r]? = some (.cells ((#[p, v, .int .i64 (m : Int), .bool o] : Array Value).setIfInBounds j x) rT (0, 0)) := by
  have hne := h.ne
  obtain ⟨hB, hb, hown⟩ := h
  refine ⟨?_, ?_⟩
  · refine hown.kept (row := some r) ⟨rfl, rfl, rfl, by simp [World.setCell], fun k _ hk => Below.heap_setCell _ _ _ _ (fun e => hk (by simp [e]))⟩ (Or.inr hne)
  · simp [World.setCell, Array.getElem?_modify, hb]
theorem Bl.used {B r m : Nat} {p v : Value} {o : Bool} {l : List UInt8} {w : World} (h : Bl B r p v m o l w) (q : Value) : Bl B r q v m o l (w.setCell ⟨r, 0, none⟩ q) := ⟨h.1, (h.set 0 q).2, (h.set 0 q).1⟩
theorem Bl.room {B r m : Nat} {p v : Value} {o : Bool} {l : List UInt8} {w : World} (h : Bl B r p v m o l w) (n : Nat) : Bl B r p v n o l (w.setCell ⟨r, 2, none⟩ (.int .i64 (n : Int))) := ⟨h.1, (h.set 2 _).2, (h.set 2 _).1⟩
theorem Bl.over {B r m : Nat} {p v : Value} {o : Bool} {l : List UInt8} {w : World} (h : Bl B r p v m o l w) (q : Bool) : Bl B r p v m q l (w.setCell ⟨r, 3, none⟩ (.bool q)) := ⟨h.1, (h.set 3 _).2, (h.set 3 _).1⟩
/-- It stays where nothing of it is touched. -/
theorem Bl.keep {B r m : Nat} {p v : Value} {o : Bool} {l : List UInt8} {w w' : World} (h : Bl B r p v m o l w) (hb : Below w.heap.size w w') : Bl B r p v m o l w' := by
  have hlt := h.lt
  obtain ⟨hB, hk, hown⟩ := h
  exact ⟨hB, (hb.block r hlt).trans hk, hown.kept (row := none) ⟨hb.os, hb.tape, hb.output, hb.size, fun k hk _ => hb.block k hk⟩ (by cases v.ownBlock <;> simp)⟩
theorem size71 : (Try.prog.info? 71).map (·.size) = some 2 := by kernel_rfl
theorem und68 : Try.prog.underlying 68 = some (.pointer 71) := by kernel_rfl
theorem und123 : Try.prog.underlying 123 = some .unsafePointer := by kernel_rfl
theorem lies71 : liesAt Try.prog Try.prog.depth rT (4 / Try.prog.cellsOf rT) 0 71 1 = true := by kernel_rfl
theorem infoU8 : (Try.prog.info? u8T).map (fun i => (i.zero, i.size, i.bytes)) = some (some (.int .u8 0), 1, 1) := by kernel_rfl
theorem cellsU8 : Try.prog.cellsOf u8T = 1 := by kernel_rfl
end Sb

set_option maxHeartbeats 1000000 in
set_option maxRecDepth 100000 in
theorem sbCheck_any {B r m : Nat} {p v : Value} {o : Bool} {l : List UInt8} {w : World} (h : Sb.Bl B r p v m o l w) (hp : p = .pointer none ∨ p = .pointer (some ⟨r, 0, none⟩)) :
    Calls Try.prog 65 #[.pointer (some ⟨r, 0, none⟩)] w fun e w' => e = .returned (.tuple #[]) ∧ Sb.Bl B r (.pointer (some ⟨r, 0, none⟩)) v m o l w' ∧ Below B w w' ∧ (w.heap.size ≤ w'.heap.size ∧ ∀ k, k < w.heap.size → k ≠ r → w'.heap[k]? = w.heap[k]?) := by
  obtain ⟨j, hj, hjs⟩ := Option.map_eq_some_iff.1 Sb.size71
  obtain ⟨c0, c1, c2, c3, cf, hsh⟩ := h.cell
  have f0 := cf 0
  rcases hp with rfl | rfl
  · have H := Lib.hid h
    go_enter Try.func65, Try.ntmps65
    go_wp2
    rw [Lib.run_to_unsafe w ⟨r, 0, none⟩ Sb.und68 Sb.und123 hj (by rw [hjs]; decide) hsh (Nat.zero_lt_succ 3)]
    simp only [Result.andThen]
    rw [Oper.upon_value]
    go_wp2
    rw [run_callFunc_extern Try.func68 (by kernel_rfl) (by kernel_rfl) (by kernel_rfl) (e := Extern.AbiNoEscape.same) (by kernel_rfl)]
    rw [Lib.run_noEscape]
    simp only [Result.andThen]
    rw [Oper.upon_value]
    go_wp2
    rw [Lib.run_from_unsafe w ⟨r, 0, none⟩ Sb.und123 Sb.und68 hj hsh Sb.lies71]
    simp only [Result.andThen]
    rw [Oper.upon_value]
    go_wp2
    go_end0
    exact ⟨rfl, H.out.used _, (Below.refl B w).setCell (p := ⟨r, 0, none⟩) H.out.1 _, by simp [World.setCell], fun k _ hk => Below.heap_setCell _ _ _ _ (fun e => hk (by simp [e]))⟩
  · have H := Lib.hid h
    go_enter Try.func65, Try.ntmps65
    go_wp2
    rw [Lib.run_neq_ptr_same w _ Sb.und68 hj]
    go_wp2
    go_end0
    exact ⟨rfl, H.out, Below.refl B _, Nat.le_refl _, fun _ _ _ => rfl⟩

set_option maxHeartbeats 2000000 in
set_option maxRecDepth 100000 in
theorem sbWrite_any {B r m : Nat} {p v : Value} {o : Bool} {l : List UInt8} {w : World} (h : Sb.Bl B r p v m o l w) (hp : p = .pointer none ∨ p = .pointer (some ⟨r, 0, none⟩)) (s : List UInt8) (hlen : l.length + s.length ≤ 1073741824) (hBw : B ≤ w.heap.size) :
    Calls Try.prog 55 #[.pointer (some ⟨r, 0, none⟩), .string ⟨s.toArray⟩] w fun e w' => e = .returned (.tuple #[.int .i64 s.length, .nilIface]) ∧ (∃ v', Sb.Bl B r (.pointer (some ⟨r, 0, none⟩)) v' m o (l ++ s) w') ∧ Below B w w' ∧ (w.heap.size ≤ w'.heap.size ∧ ∀ k, k < w.heap.size → k ≠ r → v.ownBlock ≠ some k → w'.heap[k]? = w.heap[k]?) := by
  obtain ⟨i0, hi, hz0, hz1, hz2⟩ := info_parts Sb.infoU8
  have HC := Lib.hid (sbCheck_any h hp)
  clear h hp
  go_enter Try.func55, Try.ntmps55
  go_wp2_with (go_at_call 65; refine HC.out.mono ?_)
  rintro e w1 ⟨rfl, h1, hb1, hs1, hk1⟩
  have hne := h1.ne
  have hlt := h1.lt
  obtain ⟨c0, c1, c2, c3, cf, hsh⟩ := h1.cell
  obtain ⟨hB, hbk, hown⟩ := h1
  have hsz : (⟨s.toArray⟩ : ByteArray).size = s.length := by show s.toArray.size = _; simp
  go_wp2_with (at_builtin; refine Lib.wpList_append_own_string _ rfl _ _ 69 9 rfl B Sb.u8T i0 (by kernel_rfl) (by kernel_rfl) hi hz0 hz1 hz2 _ _ _ rfl hown ⟨s.toArray⟩ rfl ?c3 ?c4 ?c5 ?_)
  case c3 => unfold maxLen; omega
  case c4 => omega
  case c5 => have := hb1.size; omega
  intro v' w2 hown' hgrow _
  have hb2 : w2.heap[r]? = some (.cells #[.pointer (some ⟨r, 0, none⟩), v, .int .i64 (m : Int), .bool o] Sb.rT (0, 0)) := by
    rw [hgrow.block r hlt (fun e => hne e.symm)]
    exact hbk
  have d0 : w2.cell? ⟨r, 0, none⟩ = some (.pointer (some ⟨r, 0, none⟩)) := by rw [Lib.cell_of_heap hb2]; rfl
  have d1 : w2.cell? ⟨r, 1, none⟩ = some v := by rw [Lib.cell_of_heap hb2]; rfl
  have f1 : w2.frozen? ⟨r, 1, none⟩ = false := Lib.frozen_of_heap hb2 1
  obtain ⟨ao, n', cap, rfl⟩ : ∃ ao n' cap, v' = .slice ao n' cap := by
    rcases hown'.2 with ⟨hv, _⟩ | ⟨g, cap, cur, hv, _⟩
    · exact ⟨_, _, _, hv⟩
    · exact ⟨_, _, _, hv⟩
  have hcl : Lib.byteCells l ++ Lib.strCells ⟨s.toArray⟩ = Lib.byteCells (l ++ s) := by unfold Lib.byteCells Lib.strCells; simp
  have hown2 : w2.ownsRow B Sb.u8T 1 (.slice ao n' cap) (l ++ s).length (Lib.byteCells (l ++ s)) := by
    rw [← hcl, List.length_append, ← hsz]; exact hown'
  have hne2 := Lib.ownBlock_ne hown2 hb2 Sb.neT
  have HOWN := Lib.hid hown2
  have HNE := Lib.hid hne2
  have HGR := Lib.hid hgrow
  have HOW := Lib.hid hown
  clear hown' hown2 hne2 hcl hown hgrow
  go_wp2
  ((try simp only [Exit.inBlock, Exit.then]); refine bodyPost_ret (results_tmp2 rfl _ _ _) rfl ?_)
  refine ⟨rfl, ⟨.slice ao n' cap, hB, ?_, ?_⟩, ?_, ?_, ?_⟩
  · simp [World.setCell, Array.getElem?_modify, hb2]
  · exact HOWN.out.kept (row := some r) ⟨rfl, rfl, rfl, by simp [World.setCell], fun k _ hk => Below.heap_setCell _ _ _ _ (fun e => hk (by simp [e]))⟩ (Or.inr HNE.out)
  · exact (hb1.grown HGR.out (by have := hb1.size; omega) (fun k hk => (HOW.out.lt k hk).1)).setCell (p := ⟨r, 1, none⟩) hB _
  · have h9 := HGR.out.size
    simp [World.setCell]
    omega
  · intro k hk hkr hkv
    rw [Below.heap_setCell _ _ _ _ (fun e => hkr (by simp [e])), HGR.out.block k (by omega) (fun e => hkv e.symm), hk1 k hk hkr]

namespace Sb
theorem und98 : Try.prog.underlying 98 = some (.pointer u8T) := by kernel_rfl
end Sb

set_option maxHeartbeats 2000000 in
set_option maxRecDepth 100000 in
theorem sbString_some {B r m : Nat} {p : Value} {o : Bool} {l : List UInt8} {w : World} {g cap : Nat} {cur : Array Value} (hbk : w.heap[r]? = some (.cells #[p, .slice (some ⟨g, 0, none⟩) l.length cap, .int .i64 (m : Int), .bool o] Sb.rT (0, 0))) (hown : w.ownsRow B Sb.u8T 1 (.slice (some ⟨g, 0, none⟩) l.length cap) l.length (Lib.byteCells l)) (h0 : l ≠ []) (hbg : B ≤ g) (hg : w.heap[g]? = some (.cells cur Sb.u8T (0, 0))) (hnc : l.length ≤ cap) (hcm : cap ≤ maxLen) (hcs : cur.size = cap * 1) :
    Calls Try.prog 29 #[.pointer (some ⟨r, 0, none⟩)] w fun e w' => e = .returned (.string ⟨l.toArray⟩) ∧ Below B w w' := by
  have hl0 : l.length ≠ 0 := by simpa using h0
  have c1 : w.drew.cell? ⟨r, 1, none⟩ = some (.slice (some ⟨g, 0, none⟩) l.length cap) := by
    have : w.drew.heap[r]? = some (.cells #[p, .slice (some ⟨g, 0, none⟩) l.length cap, .int .i64 (m : Int), .bool o] Sb.rT (0, 0)) := hbk
    rw [Lib.cell_of_heap this]; rfl
  have hSD : (Builtin.unsafeSliceData_ #[69] 98 #[.slice (some ⟨g, 0, none⟩) l.length cap]).run Try.prog w.drew = .ok (.pointer (some ⟨g, 0, none⟩)) w.drew :=
    Lib.run_unsafeSliceData_row _ _ _ _ _ _ (by omega)
  have hUS : (Builtin.unsafeString_ #[98, 3] 9 #[.pointer (some ⟨g, 0, none⟩), .int .i64 l.length]).run Try.prog w.drew = .ok (.string ⟨l.toArray⟩) (w.drew.freeze ⟨g, 0, none⟩ l.length) := by
    refine Lib.run_unsafeString_row w.drew 98 3 9 Sb.u8T Sb.und98 Sb.cellsU8 g cur.size (by have hg' : w.drew.heap[g]? = some (.cells cur Sb.u8T (0, 0)) := hg; simp [World.shape?, hg']) l h0 (by omega) (by unfold maxLen at hcm; omega) ?_
    intro j x hx
    have := hown.cells (g := g) rfl j (.int .u8 x.toNat) (by simp [Lib.byteCells, hx])
    exact this
  clear hown
  go_enter Try.func29, Try.ntmps29
  go_wp2
  go_region
  all_goals (go_wp2; go_ret; exact ⟨rfl, Lib.below_freeze (Below.drew (Below.refl B w)) (p := ⟨g, 0, none⟩) hbg _⟩)

theorem sbUnsafe_none (W : World) (q : Option Addr) : (Builtin.unsafeString_ #[98, 3] 9 #[.pointer q, .int .i64 0]).run Try.prog W = .ok (.string .empty) W :=
  Lib.run_unsafeString_none W _ _ _ q

set_option maxHeartbeats 2000000 in
set_option maxRecDepth 100000 in
theorem sbString_nil (B : Nat) {r m : Nat} {p : Value} {o : Bool} {w : World} (hbk : w.heap[r]? = some (.cells #[p, .slice none 0 0, .int .i64 (m : Int), .bool o] Sb.rT (0, 0))) :
    Calls Try.prog 29 #[.pointer (some ⟨r, 0, none⟩)] w fun e w' => e = .returned (.string ⟨#[]⟩) ∧ Below B w w' := by
  have hUS := sbUnsafe_none
  have c1 : w.drew.cell? ⟨r, 1, none⟩ = some (.slice none 0 0) := by
    have : w.drew.heap[r]? = some (.cells #[p, .slice none 0 0, .int .i64 (m : Int), .bool o] Sb.rT (0, 0)) := hbk
    rw [Lib.cell_of_heap this]; rfl
  have hSD : (Builtin.unsafeSliceData_ #[69] 98 #[.slice none 0 0]).run Try.prog w.drew = .ok (.pointer none) w.drew := rfl
  go_enter Try.func29, Try.ntmps29
  go_wp2
  go_region
  all_goals (go_wp2; go_ret; exact ⟨rfl, Below.drew (Below.refl B w)⟩)

set_option maxHeartbeats 2000000 in
set_option maxRecDepth 100000 in
theorem sbString_noroom {B r m g : Nat} {p : Value} {o : Bool} {cur : Array Value} {w : World} (hBw : B ≤ w.heap.size) (hbk : w.heap[r]? = some (.cells #[p, .slice (some ⟨g, 0, none⟩) 0 0, .int .i64 (m : Int), .bool o] Sb.rT (0, 0))) (hg : w.heap[g]? = some (.cells cur Sb.u8T (0, 0))) :
    Calls Try.prog 29 #[.pointer (some ⟨r, 0, none⟩)] w fun e w' => e = .returned (.string ⟨#[]⟩) ∧ Below B w w' := by
  have hUS := sbUnsafe_none
  have hlt : r < w.heap.size := by
    rcases Nat.lt_or_ge r w.heap.size with h' | h'
    · exact h'
    · simp [Array.getElem?_eq_none h'] at hbk
  have c1 : w.drew.cell? ⟨r, 1, none⟩ = some (.slice (some ⟨g, 0, none⟩) 0 0) := by
    have : w.drew.heap[r]? = some (.cells #[p, .slice (some ⟨g, 0, none⟩) 0 0, .int .i64 (m : Int), .bool o] Sb.rT (0, 0)) := hbk
    rw [Lib.cell_of_heap this]; rfl
  have hSD : (Builtin.unsafeSliceData_ #[69] 98 #[.slice (some ⟨g, 0, none⟩) 0 0]).run Try.prog w.drew = .ok (.pointer (some ⟨w.drew.heap.size, 0, none⟩)) (w.drew.alloc (.view ⟨g, 0, none⟩ Sb.u8T)) :=
    Lib.run_unsafeSliceData_zero w.drew _ _ Sb.u8T Sb.und98 ⟨g, 0, none⟩ 0 (Sb.u8T, cur.size) (by have hg' : w.drew.heap[g]? = some (.cells cur Sb.u8T (0, 0)) := hg; simp [World.shape?, hg'])
  have c2 : (w.drew.alloc (.view ⟨g, 0, none⟩ Sb.u8T)).cell? ⟨r, 1, none⟩ = some (.slice (some ⟨g, 0, none⟩) 0 0) := by
    have : (w.drew.alloc (.view ⟨g, 0, none⟩ Sb.u8T)).heap[r]? = _ := (Lib.alloc_old w.drew _ r hlt).trans hbk
    rw [Lib.cell_of_heap this]; rfl
  have c3 : (w.alloc (.view ⟨g, 0, none⟩ Sb.u8T)).drew.cell? ⟨r, 1, none⟩ = some (.slice (some ⟨g, 0, none⟩) 0 0) := c2
  have c0 : w.cell? ⟨r, 1, none⟩ = some (.slice (some ⟨g, 0, none⟩) 0 0) := c1
  go_enter Try.func29, Try.ntmps29
  go_wp2
  go_region
  all_goals (go_wp2; go_ret; exact ⟨rfl, (Below.drew (Below.refl B w)).alloc hBw _⟩)

set_option maxHeartbeats 2000000 in
set_option maxRecDepth 100000 in
theorem sbString_room (B : Nat) {r m g cap : Nat} {p : Value} {o : Bool} {w : World} (hc0 : cap ≠ 0) (hbk : w.heap[r]? = some (.cells #[p, .slice (some ⟨g, 0, none⟩) 0 cap, .int .i64 (m : Int), .bool o] Sb.rT (0, 0))) :
    Calls Try.prog 29 #[.pointer (some ⟨r, 0, none⟩)] w fun e w' => e = .returned (.string ⟨#[]⟩) ∧ Below B w w' := by
  have hUS := sbUnsafe_none
  have c1 : w.drew.cell? ⟨r, 1, none⟩ = some (.slice (some ⟨g, 0, none⟩) 0 cap) := by
    have : w.drew.heap[r]? = some (.cells #[p, .slice (some ⟨g, 0, none⟩) 0 cap, .int .i64 (m : Int), .bool o] Sb.rT (0, 0)) := hbk
    rw [Lib.cell_of_heap this]; rfl
  have hSD : (Builtin.unsafeSliceData_ #[69] 98 #[.slice (some ⟨g, 0, none⟩) 0 cap]).run Try.prog w.drew = .ok (.pointer (some ⟨g, 0, none⟩)) w.drew :=
    Lib.run_unsafeSliceData_row _ _ _ _ _ _ hc0
  clear hc0
  go_enter Try.func29, Try.ntmps29
  go_wp2
  go_region
  all_goals (go_wp2; go_ret; exact ⟨rfl, Below.drew (Below.refl B w)⟩)

theorem sbString_any {B r m : Nat} {p v : Value} {o : Bool} {l : List UInt8} {w : World} (h : Sb.Bl B r p v m o l w) (hBw : B ≤ w.heap.size) :
    Calls Try.prog 29 #[.pointer (some ⟨r, 0, none⟩)] w fun e w' => e = .returned (.string ⟨l.toArray⟩) ∧ Below B w w' := by
  obtain ⟨hB, hbk, hown⟩ := h
  rcases hown.2 with ⟨rfl, hn⟩ | ⟨g, cap, cur, rfl, hbg, hg, hnc, hcm, hcs, _⟩
  · obtain rfl : l = [] := by simpa using hn
    exact sbString_nil B hbk
  · by_cases h0 : l = []
    · subst h0
      by_cases hc0 : cap = 0
      · subst hc0
        exact sbString_noroom hBw hbk hg
      · exact sbString_room B hc0 hbk
    · exact sbString_some hbk hown h0 hbg hg hnc hcm hcs
end Go.Proofs.Ytelbabgkpflckaa

namespace Go.Proofs.Ytelbabgkpflckaa
open Go.RowKit Go.Sort
open Me

namespace Sb
abbrev sT : TypeId := 9
def str (x : List UInt8) : Value := .string ⟨x.toArray⟩
/-- What a result holds of s, with room for R bytes in all: s as long as there is room; else it is over. -/
def Res (B r R : Nat) (s : List UInt8) (w : World) : Prop :=
  ∃ p v m l, Bl B r p v m (decide (R < s.length)) l w ∧ (p = .pointer none ∨ p = .pointer (some ⟨r, 0, none⟩)) ∧ l.length + m = R ∧ l.length ≤ s.length ∧ (s.length ≤ R → l = s)
theorem Res.keep {B r R : Nat} {s : List UInt8} {w w' : World} (h : Res B r R s w) (hb : Below w.heap.size w w') : Res B r R s w' := by
  obtain ⟨p, v, m, l, h1, h2⟩ := h
  exact ⟨p, v, m, l, h1.keep hb, h2⟩
/-- Parts in a block of their own. -/
def Pt (g : Nat) (ps : List (List UInt8)) (w : World) : Prop := w.heap[g]? = some (.cells (ps.map str).toArray sT (0, 0))
theorem Pt.lt {g : Nat} {ps : List (List UInt8)} {w : World} (h : Pt g ps w) : g < w.heap.size := by
  rcases Nat.lt_or_ge g w.heap.size with h' | h'
  · exact h'
  · simp [Pt, Array.getElem?_eq_none h'] at h
theorem Pt.cell {g k : Nat} {ps : List (List UInt8)} {x : List UInt8} {w : World} (h : Pt g ps w) (hx : ps[k]? = some x) : w.cell? ⟨g, k, none⟩ = some (.string ⟨x.toArray⟩) := by
  rw [Lib.cell_of_heap h]
  simp [hx, str]
theorem Bl.pne {B r m g : Nat} {p v : Value} {o : Bool} {l : List UInt8} {ps : List (List UInt8)} {w : World} (h : Bl B r p v m o l w) (hg : Pt g ps w) : g ≠ r ∧ v.ownBlock ≠ some g := by
  refine ⟨?_, Lib.ownBlock_ne h.2.2 hg (by decide)⟩
  rintro rfl
  have := h.2.1.symm.trans hg
  simp at this
  exact absurd this.2 (by decide)
theorem flat_take {ps : List (List UInt8)} {k : Nat} {x : List UInt8} (hx : ps[k]? = some x) : (ps.take (k + 1)).flatten = (ps.take k).flatten ++ x := by
  obtain ⟨h1, e1⟩ := List.getElem?_eq_some_iff.1 hx
  rw [List.take_succ_eq_append_getElem h1, e1]
  simp
theorem flat_le {ps : List (List UInt8)} {k : Nat} {x : List UInt8} (hx : ps[k]? = some x) : (ps.take k).flatten.length + x.length ≤ ps.flatten.length := by
  have h := List.take_append_drop (k + 1) ps
  have : ps.flatten.length = (ps.take (k + 1)).flatten.length + (ps.drop (k + 1)).flatten.length := by rw [← List.length_append, ← List.flatten_append, h]
  rw [this, flat_take hx, List.length_append]
  omega
/-- Blocks of other types than a result and its bytes are let be. -/
def Lets (w w' : World) : Prop := ∀ (k : Nat) (cs : Array Value) (T : TypeId) (fr : Nat × Nat), w.heap[k]? = some (Obj.cells cs T fr) → T ≠ rT → T ≠ u8T → w'.heap[k]? = some (Obj.cells cs T fr)
theorem Lets.refl (w : World) : Lets w w := fun _ _ _ _ h _ _ => h
theorem Lets.trans {a b c : World} (h : Lets a b) (h2 : Lets b c) : Lets a c := fun k cs T fr h9 h1 h3 => h2 k cs T fr (h k cs T fr h9 h1 h3) h1 h3
theorem lt_of_heap {w : World} {k : Nat} {o : Obj} (h : w.heap[k]? = some o) : k < w.heap.size := by
  rcases Nat.lt_or_ge k w.heap.size with h' | h'
  · exact h'
  · simp [Array.getElem?_eq_none h'] at h
theorem Lets.below {w w' : World} (h : Below w.heap.size w w') : Lets w w' := fun k _ _ _ h9 _ _ => (h.block k (lt_of_heap h9)).trans h9
theorem Lets.set {B r m : Nat} {p v : Value} {o : Bool} {l : List UInt8} {w : World} (h : Bl B r p v m o l w) (j : Nat) (x : Value) : Lets w (w.setCell ⟨r, j, none⟩ x) := fun k cs T fr h9 h1 _ => by
  have hkr : k ≠ r := by
    rintro rfl
    have := h.2.1.symm.trans h9
    simp at this
    exact h1 this.2.1.symm
  rw [Below.heap_setCell _ _ _ _ (fun e => hkr (by simp [e]))]
  exact h9
theorem Lets.write {B r m : Nat} {p v : Value} {o : Bool} {l : List UInt8} {w w' : World} (h : Bl B r p v m o l w) (hk : ∀ k, k < w.heap.size → k ≠ r → v.ownBlock ≠ some k → w'.heap[k]? = w.heap[k]?) : Lets w w' := fun k cs T fr h9 h1 h2 => by
  have hkr : k ≠ r := by
    rintro rfl
    have := h.2.1.symm.trans h9
    simp at this
    exact h1 this.2.1.symm
  rw [hk k (lt_of_heap h9) hkr (Lib.ownBlock_ne h.2.2 h9 h2)]
  exact h9
theorem Pt.lets {g : Nat} {ps : List (List UInt8)} {w w' : World} (h : Pt g ps w) (hl : Lets w w') : Pt g ps w' := hl g _ sT (0, 0) h (by decide) (by decide)
end Sb

set_option maxHeartbeats 4000000 in
set_option maxRecDepth 100000 in
theorem sbAdd_any {B r R g : Nat} {s : List UInt8} {ps : List (List UInt8)} {w : World} (h : Sb.Res B r R s w) (hg : Sb.Pt g ps w) (hps : ps.length ≤ 2) (hlen : s.length + ps.flatten.length ≤ 1073741824) (hBw : B ≤ w.heap.size) (hR : R ≤ 9223372036854775807) :
    Calls Try.prog 45 #[.pointer (some ⟨r, 0, none⟩), .slice (some ⟨g, 0, none⟩) ps.length ps.length] w fun e w' => e = .returned (.tuple #[]) ∧ Sb.Res B r R (s ++ ps.flatten) w' ∧ Below B w w' ∧ Sb.Lets w w' := by
  have H := Lib.hid h
  have HG := Lib.hid hg
  clear h hg
  go_enter Try.func45, Try.ntmps45
  go_wp2_with fail
  go_loopw [5, 8] (fun _ x wr => ∃ k : Nat, x = .int .i64 k ∧ k ≤ ps.length ∧ Hid (Sb.Res B r R (s ++ (ps.take k).flatten) wr) ∧ Hid (Sb.Pt g ps wr) ∧ Hid (Below B w wr) ∧ Hid (Sb.Lets w wr)) (fun _ x _ => ps.length - (intOf x).toNat)
  case atStart => exact ⟨0, rfl, by omega, Lib.hid (by simpa using H.out), HG, Lib.hid (Below.refl _ _), Lib.hid (Sb.Lets.refl _)⟩
  case round =>
    obtain ⟨k, rfl, hk, HS, HP, HW, HL⟩ := hrel
    by_cases hlt : k < ps.length
    · obtain ⟨x, hx⟩ : ∃ x, ps[k]? = some x := ⟨ps[k], List.getElem?_eq_getElem hlt⟩
      have hck := HP.out.cell hx
      have hkI : (k : Int) < (ps.length : Int) := by omega
      have hk0 : (0 : Int) ≤ (k : Int) := by omega
      have hft := Sb.flat_take hx
      have hfl := Sb.flat_le hx
      have HS1 := HS.out
      obtain ⟨y, hy⟩ : ∃ y, s ++ (ps.take k).flatten = y := ⟨_, rfl⟩
      rw [hy] at HS1
      have HFT : Hid (s ++ (ps.take (k + 1)).flatten = y ++ x) := Lib.hid (by rw [hft, ← List.append_assoc, hy])
      have hyl : y.length + x.length ≤ s.length + ps.flatten.length := by rw [← hy, List.length_append]; omega
      have hye : (y ++ x).length = y.length + x.length := List.length_append
      obtain ⟨p, v, m, l, hbl, hp, hlm, hls, hle⟩ := HS1
      obtain ⟨c0, c1, c2, c3, cf, hsh⟩ := hbl.cell
      have f2 := cf 2
      have f3 := cf 3
      obtain ⟨hgr, hgv⟩ := hbl.pne HP.out
      have HBL := Lib.hid hbl
      have HLE := Lib.hid hle
      have HPP := Lib.hid hp
      clear hx hft HS hbl hle hp hy hfl
      by_cases hfit : x.length ≤ m
      · have hfI : ¬ (m : Int) < (x.length : Int) := by omega
        have hw : IntKind.i64.wrap ((m : Int) - (x.length : Int)) = ((m - x.length : Nat) : Int) := by rw [IntKind.wrap_i64]; omega
        have HO : Hid (decide (R < y.length) = decide (R < (y ++ x).length)) := Lib.hid (by
          rw [hye]
          refine decide_eq_decide.2 ⟨fun h => by omega, fun h => ?_⟩
          rcases Nat.lt_or_ge R y.length with h1 | h1
          · exact h1
          · rw [← HLE.out h1] at h; omega)
        have HB1 := Lib.hid (HBL.out.room (m - x.length))
        have HWS := Lib.hid (sbWrite_any HB1.out HPP.out x (by omega) (by have := HW.out.size; simp [World.setCell]; omega))
        go_wp2_with (go_at_call 55; go_must (refine HWS.out.mono ?_; rintro e w2 ⟨rfl, ⟨v2, h2⟩, hb2, hs2, hk2⟩))
        go_roundw
        case rel => 
          have hl2 : Sb.Lets wr w2 := (Sb.Lets.set HBL.out 2 _).trans (Sb.Lets.write HB1.out hk2)
          refine ⟨k + 1, by go_num, by omega, Lib.hid ?_, Lib.hid (HP.out.lets hl2), Lib.hid ?_, Lib.hid (HL.out.trans hl2)⟩
          · rw [HO.out] at h2
            rw [HFT.out]
            refine ⟨_, v2, _, _, h2, .inr rfl, ?_, ?_, ?_⟩
            · rw [List.length_append]; omega
            · rw [List.length_append, hye]; omega
            · intro h9
              rw [HLE.out (by omega)]
          · exact HW.out.trans (((Below.refl B wr).setCell (p := ⟨r, 2, none⟩) HBL.out.1 _).trans hb2)
        case measure => simp [intOf]; omega
      · have hfI : (m : Int) < (x.length : Int) := by omega
        go_wp2_with fail
        ((try simp only [Exit.inBlock, Exit.then]); first | (refine bodyPost_ret (results_none rfl _ _ _) rfl ?_) | (refine bodyPost_end (results_none rfl _ _ _) rfl ?_))
        refine ⟨rfl, ?_, HW.out.trans ((Below.refl B wr).setCell (p := ⟨r, 3, none⟩) HBL.out.1 _), HL.out.trans (Sb.Lets.set HBL.out 3 _)⟩
        have hov : R < (s ++ ps.flatten).length := by
          rw [List.length_append]
          rcases Nat.lt_or_ge R y.length with h1 | h1
          · omega
          · have h3 : l.length = y.length := by rw [HLE.out h1]
            omega
        refine ⟨p, v, m, l, ?_, HPP.out, hlm, ?_, fun h9 => by omega⟩
        · rw [decide_eq_true hov]
          exact HBL.out.over true
        · rw [List.length_append]; omega
    · obtain rfl : k = ps.length := by omega
      have hkI : ¬ (ps.length : Int) < (ps.length : Int) := by omega
      have HS2 : Hid (Sb.Res B r R (s ++ ps.flatten) wr) := Lib.hid (by have := HS.out; rwa [List.take_length] at this)
      clear HS
      go_wp2_with fail
      ((try simp only [Exit.inBlock, Exit.then]); first | (refine bodyPost_ret (results_none rfl _ _ _) rfl ?_) | (refine bodyPost_end (results_none rfl _ _ _) rfl ?_))
      exact ⟨rfl, HS2.out, HW.out, HL.out⟩
end Go.Proofs.Ytelbabgkpflckaa
