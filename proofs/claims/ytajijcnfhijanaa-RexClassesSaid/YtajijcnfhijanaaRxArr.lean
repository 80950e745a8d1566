/-
  ARRAYS OF 256 BOOLS as values: stored, loaded, handed back.
-/
import Derived.Test.YtajijcnfhijanaaRxTxt
import Derived.Laws.Rows
import Derived.Deep.WholeRow
namespace Go.Proofs.Ytajijcnfhijanaa
open Go.RowKit
open Me

theorem setinfo : (Try.prog.info? 73).map (·.size) = some 256 := by kernel_rfl
theorem z_set : Try.zeroCells73 = Rx.cel Rx.none_ := by kernel_rfl

theorem z_size : Try.zeroCells73.size = 256 := by rw [z_set]; exact Rx.cel_size _

namespace Rx
theorem st_row {W : World} {n : Nat} {t : TypeId} {Y X : Array Value} (h : RowAt W n t Y) (hY : Y.size = 256) (hX : X.size = 256) (h1 : X.all (·.oneCell') = true) :
    (storeCells ⟨n, 0, none⟩ X.toList).run Try.prog W = .ok () (W.setRow n X) := by
  have := run_storeCells_from (P := Try.prog) n t X.toList 0 Y W h (by simp; omega) (fun v hv => (Array.all_eq_true_iff_forall_mem.1 h1) v (by simpa using hv))
  simpa using this
theorem setRow_alloc (W : World) (Y X : Array Value) (t : TypeId) : (W.alloc (.cells Y t)).setRow W.heap.size X = W.alloc (.cells X t) := by
  exact World.setRow_alloc_new W Y X t
theorem st_new (W : World) (Y : Array Value) (t : TypeId) (hY : Y.size = 256) {X : Array Value} (hX : X.size = 256) (h1 : X.all (·.oneCell') = true) :
    (storeCells ⟨W.heap.size, 0, none⟩ X.toList).run Try.prog (W.alloc (.cells Y t)) = .ok () (W.alloc (.cells X t)) := by
  rw [st_row (RowAt.new W Y t) hY hX h1, setRow_alloc]
theorem row_setRow {W : World} {n : Nat} {t : TypeId} {Y : Array Value} (h : RowAt W n t Y) (X : Array Value) : RowAt (W.setRow n X) n t X := setRow_heap W n Y X t (0, 0) h
theorem row_setRow_far {W : World} {n m : Nat} {t : TypeId} {Y : Array Value} (h : RowAt W m t Y) (hn : m ≠ n) (X : Array Value) : RowAt (W.setRow n X) m t Y := (setRow_other W n m X hn).trans h
theorem below_setRow {B n : Nat} {w W : World} (h : Below B w W) (hn : B ≤ n) (X : Array Value) : Below B w (W.setRow n X) :=
  ⟨h.os, h.tape, h.output, by simpa using h.size, fun i hi => (setRow_other W n i X (by omega)).trans (h.block i hi)⟩
theorem kp_setRow {O : Nat → Prop} {n : Nat} {w W : World} (h : Kp O w W) (hn : w.heap.size ≤ n ∨ O n) (X : Array Value) : Kp O w (W.setRow n X) :=
  ⟨h.os, h.tape, h.output, by simpa using h.size, fun i hi hO => (setRow_other W n i X (by
    rintro rfl
    rcases hn with h | h
    · omega
    · exact hO h)).trans (h.block i hi hO)⟩
theorem ld_row {W : World} {n : Nat} {t : TypeId} {X : Array Value} (h : RowAt W n t X) (hX : X.size = 256) : (loadVar 73 ⟨n, 0, none⟩).run Try.prog W = .ok (.agg X) W :=
  run_loadVar_row W n t 73 X (0, 0) _ h Try.underlying73 rfl (by rw [hX]; exact setinfo)
theorem ret_set {fn : Func} {p t : Tmp} (h : fn.results = #[.cell p 73, .tmp t]) (tmps : Array Value) {W : World} {n : Nat} {ty : TypeId} {X : Array Value} (hp : tmps.getD p undef = .pointer (some ⟨n, 0, none⟩))
    (hr : RowAt W n ty X) (hX : X.size = 256) : (results fn tmps).run Try.prog W = .ok (.tuple #[.agg X, tmps.getD t undef]) W := by
  have hp' : tmps[p]?.getD undef = .pointer (some ⟨n, 0, none⟩) := by simpa using hp
  simp [results, h, hp', asAddr, ld_row hr hX]
theorem ld_new (W : World) (t : TypeId) {X : Array Value} (hX : X.size = 256) : (loadCellsFrom ⟨W.heap.size, 0, none⟩ 0 256 #[]).run Try.prog (W.alloc (.cells X t)) = .ok X (W.alloc (.cells X t)) := run_loadCellsFrom_new W t X 256 hX
theorem ldAt {W : World} {n : Nat} {t : TypeId} {X : Array Value} (h : RowAt W n t X) (hX : X.size = 256) : (Instr.loadAt 73 (.pointer (some ⟨n, 0, none⟩))).run Try.prog W = .ok (.agg X) W := by
  simp only [Instr.loadAt, Instr.sureAddr, Sem.run_bind, Sem.run_pure, Result.andThen]
  exact ld_row h hX
theorem stAt {W : World} {n : Nat} {t : TypeId} {X Y : Array Value} (h : RowAt W n t Y) (hY : Y.size = 256) (hX : X.size = 256) (h1 : X.all (·.oneCell') = true) : (Instr.storeAt 73 (.pointer (some ⟨n, 0, none⟩)) (.agg X)).run Try.prog W = .ok () (W.setRow n X) := by
  simp only [Instr.storeAt, Instr.sureAddr, Sem.run_bind, Sem.run_pure, Result.andThen]
  exact run_storeVar_row W n t 73 Y X h (by rw [hX]; exact setinfo) (by omega) h1
theorem stAt_new (W : World) {X Y : Array Value} (t : TypeId) (hY : Y.size = 256) (hX : X.size = 256) (h1 : X.all (·.oneCell') = true) : (Instr.storeAt 73 (.pointer (some ⟨W.heap.size, 0, none⟩)) (.agg X)).run Try.prog (W.alloc (.cells Y t)) = .ok () (W.alloc (.cells X t)) := by
  rw [stAt (RowAt.new W Y t) hY hX h1, setRow_alloc]
/-- A load of a set. -/
theorem ldset {ops : Array Oper} {rest : List Oper} {d : Option Tmp} {x : Operand} {ty : TypeId} {pos : String} {after : Array Edge} {a : Act} {w : World} {Q : Exit → Act → World → Prop} {n : Nat} {t : TypeId} (X : Array Value) (hX : X.size = 256)
    (hx : a.eval x = .pointer (some ⟨n, 0, none⟩)) (hr : RowAt w n t X) (h : wpList Try.prog ops Q rest (a.put d (.agg X)) w) :
    wpList Try.prog ops Q ({ dst := d, op := .load 73 x, type := ty, pos := pos, after := after, guard := none } :: rest) a w :=
  wpList_load_row rfl 73 x rfl n hx t X (0, 0) _ hr Try.underlying73 rfl (by rw [hX]; exact setinfo) h
/-- A store of a set. -/
theorem stset {ops : Array Oper} {rest : List Oper} {d : Option Tmp} {x y : Operand} {ty : TypeId} {pos : String} {after : Array Edge} {a : Act} {w : World} {Q : Exit → Act → World → Prop} {n : Nat} {t : TypeId} (X Y : Array Value) (hX : X.size = 256) (h1 : X.all (·.oneCell') = true) (hY : Y.size = 256)
    (hx : a.eval x = .pointer (some ⟨n, 0, none⟩)) (hy : a.eval y = .agg X) (hr : RowAt w n t Y) (h : wpList Try.prog ops Q rest (a.put d undef) (w.setRow n X)) :
    wpList Try.prog ops Q ({ dst := d, op := .store 73 x y, type := ty, pos := pos, after := after, guard := none } :: rest) a w :=
  wpList_store_row rfl 73 x y rfl n X hx hy t Y hr (by rw [hX]; exact setinfo) (by omega) h1 h
/-- A store of a set into a block that was just laid. -/
theorem stset_new {ops : Array Oper} {rest : List Oper} {d : Option Tmp} {x y : Operand} {ty : TypeId} {pos : String} {after : Array Edge} {a : Act} {w : World} {Q : Exit → Act → World → Prop} {t : TypeId} (X Y : Array Value) (hX : X.size = 256) (h1 : X.all (·.oneCell') = true) (hY : Y.size = 256)
    (hx : a.eval x = .pointer (some ⟨w.heap.size, 0, none⟩)) (hy : a.eval y = .agg X) (h : wpList Try.prog ops Q rest (a.put d undef) (w.alloc (.cells X t))) :
    wpList Try.prog ops Q ({ dst := d, op := .store 73 x y, type := ty, pos := pos, after := after, guard := none } :: rest) a (w.alloc (.cells Y t)) :=
  stset X Y hX h1 hY hx hy (RowAt.new w Y t) (by rw [setRow_alloc]; exact h)
theorem none_size : (cel none_).size = 256 := cel_size _
end Rx
end Go.Proofs.Ytajijcnfhijanaa
