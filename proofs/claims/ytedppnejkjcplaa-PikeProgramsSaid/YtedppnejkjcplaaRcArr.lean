/-
  CHAPTER 12, THE DOCUMENT'S COMPILE: arrays of 256 bools as values: stored, loaded, compared.
-/
import Derived.Test.YtedppnejkjcplaaRxSet
import Derived.Laws.Rows
import Derived.Deep.WholeRow
import Derived.Laws.StructEq
namespace Go.Proofs.Ytedppnejkjcplaa
open Go.RowKit
open Me

theorem b256info : (Try.prog.info? 128).map (·.size) = some 256 := by kernel_rfl
theorem z_b256 : Try.zeroCells128 = Rx.cel Rx.none_ := by kernel_rfl

theorem z_bsize : Try.zeroCells128.size = 256 := by rw [z_b256]; exact Rx.cel_size _

namespace Rc
open Rx (cel cel_size cel_at cel_ext none_)
theorem st_row {W : World} {n : Nat} {t : TypeId} {Y X : Array Value} (h : RowAt W n t Y) (hY : Y.size = 256) (hX : X.size = 256) (h1 : X.all (·.oneCell') = true) :
    (storeCells ⟨n, 0, none⟩ X.toList).run Try.prog W = .ok () (W.setRow n X) := by
  have := run_storeCells_from (P := Try.prog) n t X.toList 0 Y W h (by simp; omega) (fun v hv => (Array.all_eq_true_iff_forall_mem.1 h1) v (by simpa using hv))
  simpa using this
theorem setRow_alloc (W : World) (Y X : Array Value) (t : TypeId) : (W.alloc (.cells Y t)).setRow W.heap.size X = W.alloc (.cells X t) := by
  exact World.setRow_alloc_new W Y X t
theorem st_new (W : World) (Y : Array Value) (t : TypeId) (hY : Y.size = 256) {X : Array Value} (hX : X.size = 256) (h1 : X.all (·.oneCell') = true) :
    (storeCells ⟨W.heap.size, 0, none⟩ X.toList).run Try.prog (W.alloc (.cells Y t)) = .ok () (W.alloc (.cells X t)) := by
  rw [st_row (RowAt.new W Y t) hY hX h1, setRow_alloc]
theorem row_setRow {W : World} {n : Nat} {t : TypeId} {Y : Array Value} (h : RowAt W n t Y) (X : Array Value) : RowAt (W.setRow n X) n t X := setRow_heap W n Y X t (0, 0) h
theorem row_setRow_far {W : World} {n m : Nat} {t : TypeId} {Y : Array Value} (h : RowAt W m t Y) (hn : m ≠ n) (X : Array Value) : RowAt (W.setRow n X) m t Y := (setRow_other W n m X hn).trans h
theorem below_setRow {B n : Nat} {w W : World} (h : Below B w W) (hn : B ≤ n) (X : Array Value) : Below B w (W.setRow n X) :=
  ⟨h.os, h.tape, h.output, by simpa using h.size, fun i hi => (setRow_other W n i X (by omega)).trans (h.block i hi)⟩
theorem kp_setRow {O : Nat → Prop} {n : Nat} {w W : World} (h : Kp O w W) (hn : w.heap.size ≤ n ∨ O n) (X : Array Value) : Kp O w (W.setRow n X) :=
  ⟨h.os, h.tape, h.output, by simpa using h.size, fun i hi hO => (setRow_other W n i X (by
    rintro rfl
    rcases hn with h | h
    · omega
    · exact hO h)).trans (h.block i hi hO)⟩
theorem ld_row {W : World} {n : Nat} {t : TypeId} {X : Array Value} (h : RowAt W n t X) (hX : X.size = 256) : (loadVar 128 ⟨n, 0, none⟩).run Try.prog W = .ok (.agg X) W :=
  run_loadVar_row W n t 128 X (0, 0) _ h Try.underlying128 rfl (by rw [hX]; exact b256info)
theorem ret_set2 {fn : Func} {p t : Tmp} (h : fn.results = #[.cell p 128, .tmp t]) (tmps : Array Value) {W : World} {n : Nat} {ty : TypeId} {X : Array Value} (hp : tmps.getD p undef = .pointer (some ⟨n, 0, none⟩))
    (hr : RowAt W n ty X) (hX : X.size = 256) : (results fn tmps).run Try.prog W = .ok (.tuple #[.agg X, tmps.getD t undef]) W := by
  have hp' : tmps[p]?.getD undef = .pointer (some ⟨n, 0, none⟩) := by simpa using hp
  simp [results, h, hp', asAddr, ld_row hr hX]
theorem ret_set3 {fn : Func} {q p t : Tmp} (h : fn.results = #[.tmp q, .cell p 128, .tmp t]) (tmps : Array Value) {W : World} {n : Nat} {ty : TypeId} {X : Array Value} (hp : tmps.getD p undef = .pointer (some ⟨n, 0, none⟩))
    (hr : RowAt W n ty X) (hX : X.size = 256) : (results fn tmps).run Try.prog W = .ok (.tuple #[tmps.getD q undef, .agg X, tmps.getD t undef]) W := by
  have hp' : tmps[p]?.getD undef = .pointer (some ⟨n, 0, none⟩) := by simpa using hp
  simp [results, h, hp', asAddr, ld_row hr hX]
theorem turned {W : World} {n : Nat} {t : TypeId} {s : Rx.St} (h : RowAt W n t (cel s)) (k : Nat) (v : Bool) : RowAt (W.setCell ⟨n, k, none⟩ (.bool v)) n t (cel fun j => if j = k then v else s j) := by
  have := h.set_ k (.bool v)
  rwa [Rx.cel_set] at this
theorem ld_new (W : World) (t : TypeId) {X : Array Value} (hX : X.size = 256) : (loadCellsFrom ⟨W.heap.size, 0, none⟩ 0 256 #[]).run Try.prog (W.alloc (.cells X t)) = .ok X (W.alloc (.cells X t)) := run_loadCellsFrom_new W t X 256 hX
theorem ldAt {W : World} {n : Nat} {t : TypeId} {X : Array Value} (h : RowAt W n t X) (hX : X.size = 256) : (Instr.loadAt 128 (.pointer (some ⟨n, 0, none⟩))).run Try.prog W = .ok (.agg X) W := by
  simp only [Instr.loadAt, Instr.sureAddr, Sem.run_bind, Sem.run_pure, Result.andThen]
  exact ld_row h hX
theorem stAt {W : World} {n : Nat} {t : TypeId} {X Y : Array Value} (h : RowAt W n t Y) (hY : Y.size = 256) (hX : X.size = 256) (h1 : X.all (·.oneCell') = true) : (Instr.storeAt 128 (.pointer (some ⟨n, 0, none⟩)) (.agg X)).run Try.prog W = .ok () (W.setRow n X) := by
  simp only [Instr.storeAt, Instr.sureAddr, Sem.run_bind, Sem.run_pure, Result.andThen]
  exact run_storeVar_row W n t 128 Y X h (by rw [hX]; exact b256info) (by omega) h1
theorem stAt_new (W : World) {X Y : Array Value} (t : TypeId) (hY : Y.size = 256) (hX : X.size = 256) (h1 : X.all (·.oneCell') = true) : (Instr.storeAt 128 (.pointer (some ⟨W.heap.size, 0, none⟩)) (.agg X)).run Try.prog (W.alloc (.cells Y t)) = .ok () (W.alloc (.cells X t)) := by
  rw [stAt (RowAt.new W Y t) hY hX h1, setRow_alloc]
/-- A load of a set. -/
theorem ldset {ops : Array Oper} {rest : List Oper} {d : Option Tmp} {x : Operand} {ty : TypeId} {pos : String} {after : Array Edge} {a : Act} {w : World} {Q : Exit → Act → World → Prop} {n : Nat} {t : TypeId} (X : Array Value) (hX : X.size = 256)
    (hx : a.eval x = .pointer (some ⟨n, 0, none⟩)) (hr : RowAt w n t X) (h : wpList Try.prog ops Q rest (a.put d (.agg X)) w) :
    wpList Try.prog ops Q ({ dst := d, op := .load 128 x, type := ty, pos := pos, after := after, guard := none } :: rest) a w :=
  wpList_load_row rfl 128 x rfl n hx t X (0, 0) _ hr Try.underlying128 rfl (by rw [hX]; exact b256info) h
/-- A store of a set. -/
theorem stset {ops : Array Oper} {rest : List Oper} {d : Option Tmp} {x y : Operand} {ty : TypeId} {pos : String} {after : Array Edge} {a : Act} {w : World} {Q : Exit → Act → World → Prop} {n : Nat} {t : TypeId} (X Y : Array Value) (hX : X.size = 256) (h1 : X.all (·.oneCell') = true) (hY : Y.size = 256)
    (hx : a.eval x = .pointer (some ⟨n, 0, none⟩)) (hy : a.eval y = .agg X) (hr : RowAt w n t Y) (h : wpList Try.prog ops Q rest (a.put d undef) (w.setRow n X)) :
    wpList Try.prog ops Q ({ dst := d, op := .store 128 x y, type := ty, pos := pos, after := after, guard := none } :: rest) a w :=
  wpList_store_row rfl 128 x y rfl n X hx hy t Y hr (by rw [hX]; exact b256info) (by omega) h1 h
/-- A store of a set into a block that was just laid. -/
theorem stset_new {ops : Array Oper} {rest : List Oper} {d : Option Tmp} {x y : Operand} {ty : TypeId} {pos : String} {after : Array Edge} {a : Act} {w : World} {Q : Exit → Act → World → Prop} {t : TypeId} (X Y : Array Value) (hX : X.size = 256) (h1 : X.all (·.oneCell') = true) (hY : Y.size = 256)
    (hx : a.eval x = .pointer (some ⟨w.heap.size, 0, none⟩)) (hy : a.eval y = .agg X) (h : wpList Try.prog ops Q rest (a.put d undef) (w.alloc (.cells X t))) :
    wpList Try.prog ops Q ({ dst := d, op := .store 128 x y, type := ty, pos := pos, after := after, guard := none } :: rest) a (w.alloc (.cells Y t)) :=
  stset X Y hX h1 hY hx hy (RowAt.new w Y t) (by rw [setRow_alloc]; exact h)
/-- A load and a store of a set, in a region that draws its order. -/
theorem step_ldset {ops : Array Oper} {o : Oper} {a : Act} {K : Act → World → Prop} {w : World} {Q : Exit → Act → World → Prop} {E : Prop} {x : Operand} {n : Nat} {t : TypeId} (X : Array Value) (hg : o.guard = none) (ho : o.op = .load 128 x) (hX : X.size = 256)
    (hx : a.eval x = .pointer (some ⟨n, 0, none⟩)) (hr : RowAt w n t X) (h : K (a.put o.dst (.agg X)) w) :
    if Region.wanted o (yielded ops a.tmps) = true then Oper.wp Try.prog o a w K Q else E := by
  have hw : Region.wanted o (yielded ops a.tmps) = true := by simp [Region.wanted, hg]
  rw [if_pos hw]
  unfold Oper.wp execOp
  simp only [ho, hx, ldAt hr hX, Sem.run_bind, Result.andThen_ok, Sem.run_pure]
  exact h
theorem step_stset {ops : Array Oper} {o : Oper} {a : Act} {K : Act → World → Prop} {w : World} {Q : Exit → Act → World → Prop} {E : Prop} {x y : Operand} {n : Nat} {t : TypeId} (X Y : Array Value) (hg : o.guard = none) (ho : o.op = .store 128 x y) (hX : X.size = 256) (h1 : X.all (·.oneCell') = true) (hY : Y.size = 256)
    (hx : a.eval x = .pointer (some ⟨n, 0, none⟩)) (hy : a.eval y = .agg X) (hr : RowAt w n t Y) (h : K (a.put o.dst undef) (w.setRow n X)) :
    if Region.wanted o (yielded ops a.tmps) = true then Oper.wp Try.prog o a w K Q else E := by
  have hw : Region.wanted o (yielded ops a.tmps) = true := by simp [Region.wanted, hg]
  rw [if_pos hw]
  unfold Oper.wp execOp
  simp only [ho, hx, hy, stAt hr hY hX h1, Sem.run_bind, Result.andThen_ok, Sem.run_pure]
  exact h
theorem none_size : (cel none_).size = 256 := cel_size _
end Rc
namespace Rc
open Rx (cel cel_size cel_at cel_ext none_ St)
/-- Are two sets one? -/
def alike (s t : St) : Bool := (List.range 256).all fun i => s i == t i
theorem bool_size : (Try.prog.info? 4).map (·.size) = some 1 := by kernel_rfl
theorem run_sizeBool (W : World) : (sizeOf 4).run Try.prog W = .ok 1 W := by
  simp [sizeOf]
  kernel_rfl
theorem run_equalIn_bools (w : World) (d : Nat) (s t : St) : (Op.equalIn (d + 2) 128 (.agg (cel s)) (.agg (cel t))).run Try.prog w = .ok (alike s t) w := by
  unfold alike
  rw [List.range_eq_range', Op.equalIn]
  simp only [Sem.run_bind, run_underlying Try.underlying128, Result.andThen_ok, run_sizeBool, Std.Legacy.Range.forIn_eq_forIn_range', Std.Legacy.Range.size, Nat.sub_zero, Nat.add_sub_cancel, Nat.div_one]
  have hl : ∀ i ∈ List.range' 0 256 1, i < 256 := fun i hi => by simpa using (List.mem_range'_1.1 hi).2
  generalize List.range' 0 256 1 = l at hl ⊢
  induction l with
  | nil => simp
  | cons i l ih =>
    have hi : i < 256 := hl i (by simp)
    have px : (part 4 (cel s) (i * 1)).run Try.prog w = .ok (.bool (s i)) w := by
      simp [part, isAgg, run_underlying Try.underlying4, cel_at s i hi]
    have py : (part 4 (cel t) (i * 1)).run Try.prog w = .ok (.bool (t i)) w := by
      simp [part, isAgg, run_underlying Try.underlying4, cel_at t i hi]
    have pe : (Op.equalIn (d + 1) 4 (.bool (s i)) (.bool (t i))).run Try.prog w = .ok (s i == t i) w := run_equalIn_bool' w d _ _ _ Try.underlying4
    simp only [List.forIn_cons, Sem.run_bind, px, py, pe, Result.andThen_ok, List.all_cons]
    cases hb : (s i == t i)
    · simp
    · simp only [Bool.not_true, Bool.false_eq_true, if_false, Sem.run_pure, Result.andThen_ok, Bool.true_and]
      exact ih fun j hj => hl j (by simp [hj])
theorem run_eql_bools (w : World) (s t : St) : (binOp .eql 128 (.agg (cel s)) (.agg (cel t))).run Try.prog w = .ok (.bool (alike s t)) w := by
  rw [run_eql_struct, run_equalIn_bools w 9998 s t]
  rfl
theorem run_neq_bools (w : World) (s t : St) : (binOp .neq 128 (.agg (cel s)) (.agg (cel t))).run Try.prog w = .ok (.bool (!alike s t)) w := by
  rw [run_neq_struct, run_equalIn_bools w 9998 s t]
  rfl
end Rc
end Go.Proofs.Ytedppnejkjcplaa
