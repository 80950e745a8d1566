/-
  RcArr: CHAPTER 12, THE DOCUMENT'S COMPILE: arrays of 256 bools as values: stored, loaded, compared.
  RcP: CHAPTER 12, PLAIN: the document's reader of expressions (graticuleref11.Compile) as functions of a state that mirror its text, for expressions without '.', '[' and a stroke; what of a state holds for every expression.
  RcMem: CHAPTER 12, MEMORY: the document's reader of expressions as an object; what a call leaves of it.
-/
import Derived.Test.YtelbabgkpflckaaJ8
import Derived.Laws.Rows
import Derived.Deep.WholeRow
import Derived.Laws.StructEq
import Derived.Test.YtelbabgkpflckaaJ1
import Derived.Test.YtelbabgkpflckaaJ6

set_option linter.unusedSimpArgs false
set_option linter.unusedVariables false
namespace Go.Proofs.Ytelbabgkpflckaa
open Go.RowKit
open Me

theorem b256info : (Try.prog.info? 125).map (·.size) = some 256 := by kernel_rfl
theorem z_b256 : Try.zeroCells125 = Rx.cel Rx.none_ := by kernel_rfl

theorem z_bsize : Try.zeroCells125.size = 256 := by rw [z_b256]; exact Rx.cel_size _

namespace Rc
open Rx (cel cel_size cel_at cel_ext none_)
theorem st_row {W : World} {n : Nat} {t : TypeId} {Y X : Array Value} (h : RowAt W n t Y) (hY : Y.size = 256) (hX : X.size = 256) (h1 : X.all (·.oneCell') = true) :
    (storeCells ⟨n, 0, none⟩ X.toList).run Try.prog W = .ok () (W.setRow n X) := by
  have := run_storeCells_from (P := Try.prog) n t X.toList 0 Y W h (by simp; omega) (fun v hv => (Array.all_eq_true_iff_forall_mem.1 h1) v (by simpa using hv))
  simpa using this
theorem setRow_alloc (W : World) (Y X : Array Value) (t : TypeId) : (W.alloc (.cells Y t)).setRow W.heap.size X = W.alloc (.cells X t) := by
  exact World.setRow_alloc_new W Y X t
theorem st_new (W : World) (Y : Array Value) (t : TypeId) (hY : Y.size = 256) {X : Array Value} (hX : X.size = 256) (h1 : X.all (·.oneCell') = true) :
    (storeCells ⟨W.heap.size, 0, none⟩ X.toList).run Try.prog (W.alloc (.cells Y t)) = .ok () (W.alloc (.cells X t)) := by
  rw [st_row (RowAt.new W Y t) hY hX h1, setRow_alloc]
theorem row_setRow {W : World} {n : Nat} {t : TypeId} {Y : Array Value} (h : RowAt W n t Y) (X : Array Value) : RowAt (W.setRow n X) n t X := setRow_heap W n Y X t (0, 0) h
theorem row_setRow_far {W : World} {n m : Nat} {t : TypeId} {Y : Array Value} (h : RowAt W m t Y) (hn : m ≠ n) (X : Array Value) : RowAt (W.setRow n X) m t Y := (setRow_other W n m X hn).trans h
theorem below_setRow {B n : Nat} {w W : World} (h : Below B w W) (hn : B ≤ n) (X : Array Value) : Below B w (W.setRow n X) :=
  ⟨h.os, h.tape, h.output, by simpa using h.size, fun i hi => (setRow_other W n i X (by omega)).trans (h.block i hi)⟩
theorem kp_setRow {O : Nat → Prop} {n : Nat} {w W : World} (h : Kp O w W) (hn : w.heap.size ≤ n ∨ O n) (X : Array Value) : Kp O w (W.setRow n X) :=
  ⟨h.os, h.tape, h.output, by simpa using h.size, fun i hi hO => (setRow_other W n i X (by
    rintro rfl
    rcases hn with h | h
    · omega
    · exact hO h)).trans (h.block i hi hO)⟩
theorem ld_row {W : World} {n : Nat} {t : TypeId} {X : Array Value} (h : RowAt W n t X) (hX : X.size = 256) : (loadVar 125 ⟨n, 0, none⟩).run Try.prog W = .ok (.agg X) W :=
  run_loadVar_row W n t 125 X (0, 0) _ h Try.underlying125 rfl (by rw [hX]; exact b256info)
theorem ret_set2 {fn : Func} {p t : Tmp} (h : fn.results = #[.cell p 125, .tmp t]) (tmps : Array Value) {W : World} {n : Nat} {ty : TypeId} {X : Array Value} (hp : tmps.getD p undef = .pointer (some ⟨n, 0, none⟩))
    (hr : RowAt W n ty X) (hX : X.size = 256) : (results fn tmps).run Try.prog W = .ok (.tuple #[.agg X, tmps.getD t undef]) W := by
  have hp' : tmps[p]?.getD undef = .pointer (some ⟨n, 0, none⟩) := by simpa using hp
  simp [results, h, hp', asAddr, ld_row hr hX]
theorem ret_set3 {fn : Func} {q p t : Tmp} (h : fn.results = #[.tmp q, .cell p 125, .tmp t]) (tmps : Array Value) {W : World} {n : Nat} {ty : TypeId} {X : Array Value} (hp : tmps.getD p undef = .pointer (some ⟨n, 0, none⟩))
    (hr : RowAt W n ty X) (hX : X.size = 256) : (results fn tmps).run Try.prog W = .ok (.tuple #[tmps.getD q undef, .agg X, tmps.getD t undef]) W := by
  have hp' : tmps[p]?.getD undef = .pointer (some ⟨n, 0, none⟩) := by simpa using hp
  simp [results, h, hp', asAddr, ld_row hr hX]
theorem turned {W : World} {n : Nat} {t : TypeId} {s : Rx.St} (h : RowAt W n t (cel s)) (k : Nat) (v : Bool) : RowAt (W.setCell ⟨n, k, none⟩ (.bool v)) n t (cel fun j => if j = k then v else s j) := by
  have := h.set_ k (.bool v)
  rwa [Rx.cel_set] at this
theorem ld_new (W : World) (t : TypeId) {X : Array Value} (hX : X.size = 256) : (loadCellsFrom ⟨W.heap.size, 0, none⟩ 0 256 #[]).run Try.prog (W.alloc (.cells X t)) = .ok X (W.alloc (.cells X t)) := run_loadCellsFrom_new W t X 256 hX
theorem ldAt {W : World} {n : Nat} {t : TypeId} {X : Array Value} (h : RowAt W n t X) (hX : X.size = 256) : (Instr.loadAt 125 (.pointer (some ⟨n, 0, none⟩))).run Try.prog W = .ok (.agg X) W := by
  simp only [Instr.loadAt, Instr.sureAddr, Sem.run_bind, Sem.run_pure, Result.andThen]
  exact ld_row h hX
theorem stAt {W : World} {n : Nat} {t : TypeId} {X Y : Array Value} (h : RowAt W n t Y) (hY : Y.size = 256) (hX : X.size = 256) (h1 : X.all (·.oneCell') = true) : (Instr.storeAt 125 (.pointer (some ⟨n, 0, none⟩)) (.agg X)).run Try.prog W = .ok () (W.setRow n X) := by
  simp only [Instr.storeAt, Instr.sureAddr, Sem.run_bind, Sem.run_pure, Result.andThen]
  exact run_storeVar_row W n t 125 Y X h (by rw [hX]; exact b256info) (by omega) h1
theorem stAt_new (W : World) {X Y : Array Value} (t : TypeId) (hY : Y.size = 256) (hX : X.size = 256) (h1 : X.all (·.oneCell') = true) : (Instr.storeAt 125 (.pointer (some ⟨W.heap.size, 0, none⟩)) (.agg X)).run Try.prog (W.alloc (.cells Y t)) = .ok () (W.alloc (.cells X t)) := by
  rw [stAt (RowAt.new W Y t) hY hX h1, setRow_alloc]
/-- A load of a set. -/
theorem ldset {ops : Array Oper} {rest : List Oper} {d : Option Tmp} {x : Operand} {ty : TypeId} {pos : String} {after : Array Edge} {a : Act} {w : World} {Q : Exit → Act → World → Prop} {n : Nat} {t : TypeId} (X : Array Value) (hX : X.size = 256)
    (hx : a.eval x = .pointer (some ⟨n, 0, none⟩)) (hr : RowAt w n t X) (h : wpList Try.prog ops Q rest (a.put d (.agg X)) w) :
    wpList Try.prog ops Q ({ dst := d, op := .load 125 x, type := ty, pos := pos, after := after, guard := none } :: rest) a w :=
  wpList_load_row rfl 125 x rfl n hx t X (0, 0) _ hr Try.underlying125 rfl (by rw [hX]; exact b256info) h
/-- A store of a set. -/
theorem stset {ops : Array Oper} {rest : List Oper} {d : Option Tmp} {x y : Operand} {ty : TypeId} {pos : String} {after : Array Edge} {a : Act} {w : World} {Q : Exit → Act → World → Prop} {n : Nat} {t : TypeId} (X Y : Array Value) (hX : X.size = 256) (h1 : X.all (·.oneCell') = true) (hY : Y.size = 256)
    (hx : a.eval x = .pointer (some ⟨n, 0, none⟩)) (hy : a.eval y = .agg X) (hr : RowAt w n t Y) (h : wpList Try.prog ops Q rest (a.put d undef) (w.setRow n X)) :
    wpList Try.prog ops Q ({ dst := d, op := .store 125 x y, type := ty, pos := pos, after := after, guard := none } :: rest) a w :=
  wpList_store_row rfl 125 x y rfl n X hx hy t Y hr (by rw [hX]; exact b256info) (by omega) h1 h
/-- A store of a set into a block that was just laid. -/
theorem stset_new {ops : Array Oper} {rest : List Oper} {d : Option Tmp} {x y : Operand} {ty : TypeId} {pos : String} {after : Array Edge} {a : Act} {w : World} {Q : Exit → Act → World → Prop} {t : TypeId} (X Y : Array Value) (hX : X.size = 256) (h1 : X.all (·.oneCell') = true) (hY : Y.size = 256)
    (hx : a.eval x = .pointer (some ⟨w.heap.size, 0, none⟩)) (hy : a.eval y = .agg X) (h : wpList Try.prog ops Q rest (a.put d undef) (w.alloc (.cells X t))) :
    wpList Try.prog ops Q ({ dst := d, op := .store 125 x y, type := ty, pos := pos, after := after, guard := none } :: rest) a (w.alloc (.cells Y t)) :=
  stset X Y hX h1 hY hx hy (RowAt.new w Y t) (by rw [setRow_alloc]; exact h)
/-- A load and a store of a set, in a region that draws its order. -/
theorem step_ldset {ops : Array Oper} {o : Oper} {a : Act} {K : Act → World → Prop} {w : World} {Q : Exit → Act → World → Prop} {E : Prop} {x : Operand} {n : Nat} {t : TypeId} (X : Array Value) (hg : o.guard = none) (ho : o.op = .load 125 x) (hX : X.size = 256)
    (hx : a.eval x = .pointer (some ⟨n, 0, none⟩)) (hr : RowAt w n t X) (h : K (a.put o.dst (.agg X)) w) :
    if Region.wanted o (yielded ops a.tmps) = true then Oper.wp Try.prog o a w K Q else E := by
  have hw : Region.wanted o (yielded ops a.tmps) = true := by simp [Region.wanted, hg]
  rw [if_pos hw]
  unfold Oper.wp execOp
  simp only [ho, hx, ldAt hr hX, Sem.run_bind, Result.andThen_ok, Sem.run_pure]
  exact h
theorem step_stset {ops : Array Oper} {o : Oper} {a : Act} {K : Act → World → Prop} {w : World} {Q : Exit → Act → World → Prop} {E : Prop} {x y : Operand} {n : Nat} {t : TypeId} (X Y : Array Value) (hg : o.guard = none) (ho : o.op = .store 125 x y) (hX : X.size = 256) (h1 : X.all (·.oneCell') = true) (hY : Y.size = 256)
    (hx : a.eval x = .pointer (some ⟨n, 0, none⟩)) (hy : a.eval y = .agg X) (hr : RowAt w n t Y) (h : K (a.put o.dst undef) (w.setRow n X)) :
    if Region.wanted o (yielded ops a.tmps) = true then Oper.wp Try.prog o a w K Q else E := by
  have hw : Region.wanted o (yielded ops a.tmps) = true := by simp [Region.wanted, hg]
  rw [if_pos hw]
  unfold Oper.wp execOp
  simp only [ho, hx, hy, stAt hr hY hX h1, Sem.run_bind, Result.andThen_ok, Sem.run_pure]
  exact h
theorem none_size : (cel none_).size = 256 := cel_size _
end Rc
namespace Rc
open Rx (cel cel_size cel_at cel_ext none_ St)
/-- Are two sets one? -/
def alike (s t : St) : Bool := (List.range 256).all fun i => s i == t i
theorem bool_size : (Try.prog.info? 4).map (·.size) = some 1 := by kernel_rfl
theorem run_sizeBool (W : World) : (sizeOf 4).run Try.prog W = .ok 1 W := by
  simp [sizeOf]
  kernel_rfl
theorem run_equalIn_bools (w : World) (d : Nat) (s t : St) : (Op.equalIn (d + 2) 125 (.agg (cel s)) (.agg (cel t))).run Try.prog w = .ok (alike s t) w := by
  unfold alike
  rw [List.range_eq_range', Op.equalIn]
  simp only [Sem.run_bind, run_underlying Try.underlying125, Result.andThen_ok, run_sizeBool, Std.Legacy.Range.forIn_eq_forIn_range', Std.Legacy.Range.size, Nat.sub_zero, Nat.add_sub_cancel, Nat.div_one]
  have hl : ∀ i ∈ List.range' 0 256 1, i < 256 := fun i hi => by simpa using (List.mem_range'_1.1 hi).2
  generalize List.range' 0 256 1 = l at hl ⊢
  induction l with
  | nil => simp
  | cons i l ih =>
    have hi : i < 256 := hl i (by simp)
    have px : (part 4 (cel s) (i * 1)).run Try.prog w = .ok (.bool (s i)) w := by
      simp [part, isAgg, run_underlying Try.underlying4, cel_at s i hi]
    have py : (part 4 (cel t) (i * 1)).run Try.prog w = .ok (.bool (t i)) w := by
      simp [part, isAgg, run_underlying Try.underlying4, cel_at t i hi]
    have pe : (Op.equalIn (d + 1) 4 (.bool (s i)) (.bool (t i))).run Try.prog w = .ok (s i == t i) w := run_equalIn_bool' w d _ _ _ Try.underlying4
    simp only [List.forIn_cons, Sem.run_bind, px, py, pe, Result.andThen_ok, List.all_cons]
    cases hb : (s i == t i)
    · simp
    · simp only [Bool.not_true, Bool.false_eq_true, if_false, Sem.run_pure, Result.andThen_ok, Bool.true_and]
      exact ih fun j hj => hl j (by simp [hj])
theorem run_eql_bools (w : World) (s t : St) : (binOp .eql 125 (.agg (cel s)) (.agg (cel t))).run Try.prog w = .ok (.bool (alike s t)) w := by
  rw [run_eql_struct, run_equalIn_bools w 9998 s t]
  rfl
theorem run_neq_bools (w : World) (s t : St) : (binOp .neq 125 (.agg (cel s)) (.agg (cel t))).run Try.prog w = .ok (.bool (!alike s t)) w := by
  rw [run_neq_struct, run_equalIn_bools w 9998 s t]
  rfl
end Rc
end Go.Proofs.Ytelbabgkpflckaa

namespace Go.Proofs.Ytelbabgkpflckaa
namespace Rc
open Rx (In St)
/-- The reader: the expression, how far it is read, how deep, an error; the groups, the program. -/
structure Rr where
  s : List UInt8
  at_ : Nat
  deep : Nat
  err : Int
  g : Nat
  L : List In
def more (r : Rr) (c : UInt8) : Bool := r.s[r.at_]? == some c
def step (r : Rr) (n : Nat) : Rr := { r with at_ := r.at_ + n }
def lay (r : Rr) (x : In) : Rr := { r with L := r.L ++ [x] }
def bad (r : Rr) (e : Int) : Rr := if r.err = 0 then { r with err := e } else r
def mv (by_ : Int) (x : In) : In := { x with x := if x.op = 2 ∨ x.op = 3 then Go.RowKit.wrap64 (x.x + by_) else x.x, y := if x.op = 2 then Go.RowKit.wrap64 (x.y + by_) else x.y }
def moved (l : List In) (by_ : Int) : List In := l.map (mv by_)
def put (r : Rr) (l : List In) : Rr := { r with L := r.L ++ moved l r.L.length }
def special (c : UInt8) : Bool := [92, 94, 36, 46, 124, 63, 42, 43, 40, 41, 91].contains c
section
variable (W : Rr → Rr)
/-- A group, behind its bracket; no: of the sort without a number. -/
def groupB (no : Bool) (r1 : Rr) : Rr :=
  let r2 := if no then step r1 2 else { r1 with g := r1.g + 1 }
  let r3 := { r2 with deep := r2.deep + 1 }
  if 64 < r3.deep then bad r3 12
  else
    let r4 := W (if no then r3 else lay r3 ⟨4, 2 * (r2.g : Int), 0, []⟩)
    if r4.err ≠ 0 then r4
    else if more r4 41 = false then bad r4 8
    else
      let r5 := { step r4 1 with deep := r4.deep - 1 }
      if no then r5 else lay r5 ⟨4, 2 * (r2.g : Int) + 1, 0, []⟩
def group (r0 : Rr) : Rr := groupB W (decide (r0.at_ + 1 + 1 < r0.s.length) && ((r0.s.drop (r0.at_ + 1)).take 2 == [63, 58])) (step r0 1)
def atom (r : Rr) : Rr := match r.s[r.at_]? with
  | none => r
  | some c =>
    if c = 40 then group W r
    else if c = 94 then lay (step r 1) ⟨5, 0, 0, []⟩
    else if c = 36 then lay (step r 1) ⟨6, 0, 0, []⟩
    else if special c = true then bad r 8
    else lay (step r 1) ⟨1, 0, 0, [c, c]⟩
/-- A repetition's instruction. -/
def splitOf (c : UInt8) (lazy : Bool) (fr n : Nat) : In :=
  let s0 : Int × Int := if c = 42 then (fr + 1, fr + 2 + n) else if c = 43 then (fr, fr + n + 1) else (fr + 1, fr + 1 + n)
  if lazy then ⟨2, s0.2, s0.1, []⟩ else ⟨2, s0.1, s0.2, []⟩
/-- What a sign behind an atom makes of the program. -/
def rep (r : Rr) (fr : Nat) (c : UInt8) (lazy : Bool) : Rr :=
  let x := moved (r.L.drop fr) (-(fr : Int))
  let r4 := { r with L := r.L.take fr }
  if c = 43 then lay (put r4 x) (splitOf c lazy fr x.length)
  else
    let r5 := put (lay r4 (splitOf c lazy fr x.length)) x
    if c = 42 then lay r5 ⟨3, fr, 0, []⟩ else r5
def piece (r : Rr) : Rr :=
  let r1 := atom W r
  if r1.err ≠ 0 then r1
  else match r1.s[r1.at_]? with
  | none => r1
  | some c =>
    if c ≠ 42 ∧ c ≠ 43 ∧ c ≠ 63 then r1
    else
      let r2 := step r1 1
      if more r2 63 = true then rep (step r2 1) r.L.length c true else rep r2 r.L.length c false
def row : Nat → Rr → Rr
  | 0, r => r
  | n + 1, r => if r.err ≠ 0 then r else match r.s[r.at_]? with
    | none => r
    | some c => if c = 124 ∨ c = 41 then r else row n (piece W r)
end
def ways : Nat → Rr → Rr
  | 0, r => r
  | n + 1, r =>
    let fr := r.L.length
    let r1 := row (ways n) (r.s.length + 1) r
    if r1.err ≠ 0 ∨ more r1 124 = false then r1
    else
      let r2 := step r1 1
      let a := moved (r2.L.drop fr) (-(fr : Int))
      let r3 := put (lay { r2 with L := r2.L.take fr } ⟨2, fr + 1, fr + 2 + a.length, []⟩) a
      let r4 := ways n (lay r3 ⟨3, 0, 0, []⟩)
      { r4 with L := r4.L.modify r3.L.length fun x => { x with x := r4.L.length } }
/-- What stands behind the whole. -/
def ended (r1 : Rr) : Rr :=
  let r2 := if r1.err = 0 ∧ r1.at_ < r1.s.length then bad r1 8 else r1
  lay (lay r2 ⟨4, 1, 0, []⟩) ⟨7, 0, 0, []⟩
def first_ (s : List UInt8) : Rr := lay ⟨s, 0, 0, 0, 0, []⟩ ⟨4, 0, 0, []⟩
def out (r3 : Rr) : Except Int (Nat × List In) := if r3.err ≠ 0 then .error r3.err else if 1024 < r3.L.length then .error 13 else .ok (r3.g, r3.L)
/-- Compile: an error, or the groups and the program. -/
def compile (s : List UInt8) : Except Int (Nat × List In) :=
  if 4096 < s.length then .error 13 else out (ended (ways (s.length + 1) (first_ s)))

/-! ## what holds of every state -/
structure Ok (r : Rr) : Prop where
  at_ : r.at_ ≤ r.s.length
  len : r.s.length ≤ 4096
  L : r.L.length ≤ 2 * r.at_ + 1
  g : r.g ≤ r.at_
  deep : r.deep ≤ r.at_
  p : ∀ x ∈ r.L, x.p.length ≤ 512
  pos : 0 < r.L.length
/-- Expressions without a class, a stroke, a dot. -/
def Sm (s : List UInt8) : Prop := ∀ c ∈ s, c ≠ 46 ∧ c ≠ 91 ∧ c ≠ 92
/-- A state and one behind it. -/
structure Nx (r r' : Rr) : Prop where
  s : r'.s = r.s
  ok : Ok r'
  at_ : r.at_ ≤ r'.at_
  deep : r'.err = 0 → r'.deep = r.deep
  grow : r.L.length ≤ r'.L.length
theorem Nx.trans {a b c : Rr} (h : Nx a b) (hb : b.err = 0) (k : Nx b c) : Nx a c := ⟨k.s.trans h.s, k.ok, Nat.le_trans h.at_ k.at_, fun e => (k.deep e).trans (h.deep hb), Nat.le_trans h.grow k.grow⟩
theorem Nx.refl {a : Rr} (h : Ok a) : Nx a a := ⟨rfl, h, Nat.le_refl _, fun _ => rfl, Nat.le_refl _⟩
theorem mv_p (b : Int) (x : In) : (mv b x).p = x.p := rfl
theorem moved_len (l : List In) (b : Int) : (moved l b).length = l.length := by unfold moved; simp
theorem moved_p {l : List In} {b : Int} (h : ∀ x ∈ l, x.p.length ≤ 512) : ∀ x ∈ moved l b, x.p.length ≤ 512 := by
  intro x hx
  unfold moved at hx
  obtain ⟨y, hy, rfl⟩ := List.mem_map.1 hx
  exact h y hy
theorem Ok.step {r : Rr} (h : Ok r) (n : Nat) (hn : r.at_ + n ≤ r.s.length) : Ok (step r n) :=
  ⟨hn, h.len, by have := h.L; show r.L.length ≤ 2 * (r.at_ + n) + 1; omega, by have := h.g; show r.g ≤ r.at_ + n; omega, by have := h.deep; show r.deep ≤ r.at_ + n; omega, h.p, h.pos⟩
theorem Ok.bad {r : Rr} (h : Ok r) (e : Int) : Ok (bad r e) := by
  unfold Rc.bad
  split
  · exact ⟨h.at_, h.len, h.L, h.g, h.deep, h.p, h.pos⟩
  · exact h
theorem bad_err {r : Rr} {e : Int} (he : e ≠ 0) : (bad r e).err ≠ 0 := by
  unfold bad
  split
  · exact he
  · assumption
theorem bad_s (r : Rr) (e : Int) : (bad r e).s = r.s := by unfold bad; split <;> rfl
theorem bad_at (r : Rr) (e : Int) : (bad r e).at_ = r.at_ := by unfold bad; split <;> rfl
theorem at_lt {r : Rr} {c : UInt8} (h : r.s[r.at_]? = some c) : r.at_ < r.s.length := (List.getElem?_eq_some_iff.1 h).1
theorem more_lt {r : Rr} {c : UInt8} (h : more r c = true) : r.at_ < r.s.length := by
  unfold more at h
  exact at_lt (by simpa using h)
theorem group_eq (F : Rr → Rr) (s : List UInt8) (i d g : Nat) (L : List In) : group F ⟨s, i, d, 0, g, L⟩ =
    (if (decide (i + 1 + 1 < s.length) && ((s.drop (i + 1)).take 2 == [63, 58])) = true then
      (if 64 < d + 1 then ⟨s, i + 1 + 2, d + 1, 12, g, L⟩ else
        (if (F ⟨s, i + 1 + 2, d + 1, 0, g, L⟩).err ≠ 0 then F ⟨s, i + 1 + 2, d + 1, 0, g, L⟩ else
          if more (F ⟨s, i + 1 + 2, d + 1, 0, g, L⟩) 41 = false then bad (F ⟨s, i + 1 + 2, d + 1, 0, g, L⟩) 8 else
            { F ⟨s, i + 1 + 2, d + 1, 0, g, L⟩ with at_ := (F ⟨s, i + 1 + 2, d + 1, 0, g, L⟩).at_ + 1, deep := (F ⟨s, i + 1 + 2, d + 1, 0, g, L⟩).deep - 1 }))
    else
      (if 64 < d + 1 then ⟨s, i + 1, d + 1, 12, g + 1, L⟩ else
        (if (F ⟨s, i + 1, d + 1, 0, g + 1, L ++ [⟨4, 2 * ((g + 1 : Nat) : Int), 0, []⟩]⟩).err ≠ 0 then F ⟨s, i + 1, d + 1, 0, g + 1, L ++ [⟨4, 2 * ((g + 1 : Nat) : Int), 0, []⟩]⟩ else
          if more (F ⟨s, i + 1, d + 1, 0, g + 1, L ++ [⟨4, 2 * ((g + 1 : Nat) : Int), 0, []⟩]⟩) 41 = false then bad (F ⟨s, i + 1, d + 1, 0, g + 1, L ++ [⟨4, 2 * ((g + 1 : Nat) : Int), 0, []⟩]⟩) 8 else
            lay { F ⟨s, i + 1, d + 1, 0, g + 1, L ++ [⟨4, 2 * ((g + 1 : Nat) : Int), 0, []⟩]⟩ with at_ := (F ⟨s, i + 1, d + 1, 0, g + 1, L ++ [⟨4, 2 * ((g + 1 : Nat) : Int), 0, []⟩]⟩).at_ + 1, deep := (F ⟨s, i + 1, d + 1, 0, g + 1, L ++ [⟨4, 2 * ((g + 1 : Nat) : Int), 0, []⟩]⟩).deep - 1 } ⟨4, 2 * ((g + 1 : Nat) : Int) + 1, 0, []⟩))) := by
  show groupB F _ ⟨s, i + 1, d, 0, g, L⟩ = _
  generalize (decide (i + 1 + 1 < s.length) && ((s.drop (i + 1)).take 2 == [63, 58])) = c
  cases c <;> simp [groupB, step, lay, bad]
theorem modify_len (l : List In) (j : Nat) (f : In → In) : (l.modify j f).length = l.length := List.length_modify ..
theorem modify_p {l : List In} {j : Nat} {n : Int} (h : ∀ x ∈ l, x.p.length ≤ 512) : ∀ x ∈ l.modify j fun x => { x with x := n }, x.p.length ≤ 512 := by
  intro x hx
  obtain ⟨i, hi, rfl⟩ := List.mem_iff_getElem.1 hx
  have hi2 : i < l.length := by rw [modify_len] at hi; exact hi
  rw [List.getElem_modify]
  split
  · exact h l[i] (List.getElem_mem _)
  · exact h l[i] (List.getElem_mem _)
end Rc
end Go.Proofs.Ytelbabgkpflckaa

namespace Go.Proofs.Ytelbabgkpflckaa
open Go.RowKit Go.Sort
open Me
open Pk

namespace Rc
open Rx (In)
/-- The reader in memory: b its block, v the program's slice. -/
structure At (W : World) (b : Nat) (v : Value) (r : Rr) : Prop where
  row : RowAt W b 84 #[.string ⟨r.s.toArray⟩, .int .i64 (r.at_ : Int), .int .i64 (r.deep : Int), .int .i64 r.err, .int .i64 (r.g : Int), v]
  own : W.ownsRow (b + 1) 57 4 v r.L.length (icells r.L)
section
variable {W W' : World} {b : Nat} {v : Value} {r : Rr}
theorem At.lt (h : At W b v r) : b < W.heap.size := h.row.lt
theorem At.c0 (h : At W b v r) : W.cell? ⟨b, 0, none⟩ = some (.string ⟨r.s.toArray⟩) := (h.row.cell 0).trans rfl
theorem At.c1 (h : At W b v r) : W.cell? ⟨b, 1, none⟩ = some (.int .i64 (r.at_ : Int)) := (h.row.cell 1).trans rfl
theorem At.c2 (h : At W b v r) : W.cell? ⟨b, 2, none⟩ = some (.int .i64 (r.deep : Int)) := (h.row.cell 2).trans rfl
theorem At.c3 (h : At W b v r) : W.cell? ⟨b, 3, none⟩ = some (.int .i64 r.err) := (h.row.cell 3).trans rfl
theorem At.c4 (h : At W b v r) : W.cell? ⟨b, 4, none⟩ = some (.int .i64 (r.g : Int)) := (h.row.cell 4).trans rfl
theorem At.c5 (h : At W b v r) : W.cell? ⟨b, 5, none⟩ = some v := (h.row.cell 5).trans rfl
theorem At.fz (h : At W b v r) (i : Nat) : W.frozen? ⟨b, i, none⟩ = false := h.row.frozen i
theorem At.olt (h : At W b v r) : ∀ g, v.ownBlock = some g → b + 1 ≤ g ∧ g < W.heap.size := fun g hg => World.ownsRow.lt h.own g hg
theorem At.one (h : At W b v r) : ∀ u ∈ icells r.L, u.oneCell' = true := by
  intro u hu
  obtain ⟨x, _, hx⟩ := List.mem_flatMap.1 hu
  unfold icell at hx
  simp at hx
  rcases hx with rfl | rfl | rfl | rfl <;> rfl
theorem At.form (h : At W b v r) : ∃ A c, v = .slice A r.L.length c := own_form h.own
theorem At.set1 (h : At W b v r) (n : Nat) : At (W.setCell ⟨b, 1, none⟩ (.int .i64 (n : Int))) b v { r with at_ := n } :=
  ⟨h.row.set_ 1 _, owns_keep h.own fun g hg => Below.heap_setCell W _ _ g (by have := (h.olt g hg).1; show g ≠ b; omega)⟩
theorem At.set2 (h : At W b v r) (n : Nat) : At (W.setCell ⟨b, 2, none⟩ (.int .i64 (n : Int))) b v { r with deep := n } :=
  ⟨h.row.set_ 2 _, owns_keep h.own fun g hg => Below.heap_setCell W _ _ g (by have := (h.olt g hg).1; show g ≠ b; omega)⟩
theorem At.set3 (h : At W b v r) (n : Int) : At (W.setCell ⟨b, 3, none⟩ (.int .i64 n)) b v { r with err := n } :=
  ⟨h.row.set_ 3 _, owns_keep h.own fun g hg => Below.heap_setCell W _ _ g (by have := (h.olt g hg).1; show g ≠ b; omega)⟩
theorem At.set4 (h : At W b v r) (n : Nat) : At (W.setCell ⟨b, 4, none⟩ (.int .i64 (n : Int))) b v { r with g := n } :=
  ⟨h.row.set_ 4 _, owns_keep h.own fun g hg => Below.heap_setCell W _ _ g (by have := (h.olt g hg).1; show g ≠ b; omega)⟩
theorem At.below (h : At W b v r) (k : Below W.heap.size W W') : At W' b v r :=
  ⟨h.row.below k h.lt, owns_keep h.own fun g hg => k.block g (h.olt g hg).2⟩
end
/-- What a call leaves: the reader and the program's row may have turned, and new blocks were laid. -/
structure Did (w : World) (b : Nat) (v : Value) (r' : Rr) (v' : Value) (w' : World) : Prop where
  at_ : At w' b v' r'
  kp : Kp (fun i => i = b ∨ v.ownBlock = some i) w w'
  new : ∀ g, v'.ownBlock = some g → v.ownBlock = some g ∨ w.heap.size ≤ g
section
variable {w w1 w2 : World} {b : Nat} {v v1 v2 : Value} {r r1 r2 : Rr}
theorem Did.refl (h : At w b v r) : Did w b v r v w := ⟨h, Kp.refl _ _, fun _ h => .inl h⟩
theorem Did.trans (h : Did w b v r1 v1 w1) (k : Did w1 b v1 r2 v2 w2) : Did w b v r2 v2 w2 :=
  ⟨k.at_, h.kp.trans k.kp fun i hi e => e.imp id fun e => (h.new i e).resolve_right (by omega), fun g hg => by
    rcases k.new g hg with e | e
    · exact h.new g e
    · exact .inr (Nat.le_trans h.kp.size e)⟩
theorem Did.on (h : Did w b v r1 v1 w1) (k : Below w1.heap.size w1 w2) : Did w b v r1 v1 w2 :=
  ⟨h.at_.below k, h.kp.trans (Kp.of_below (O := fun _ => False) k) fun _ _ e => e.elim, h.new⟩
theorem Did.size (h : Did w b v r1 v1 w1) : w.heap.size ≤ w1.heap.size := h.kp.size
theorem Did.set1 (h : Did w b v r1 v1 w1) (n : Nat) : Did w b v { r1 with at_ := n } v1 (w1.setCell ⟨b, 1, none⟩ (.int .i64 (n : Int))) := ⟨h.at_.set1 n, h.kp.setCell _ (.inr (.inl rfl)) _, h.new⟩
theorem Did.set2 (h : Did w b v r1 v1 w1) (n : Nat) : Did w b v { r1 with deep := n } v1 (w1.setCell ⟨b, 2, none⟩ (.int .i64 (n : Int))) := ⟨h.at_.set2 n, h.kp.setCell _ (.inr (.inl rfl)) _, h.new⟩
theorem Did.set3 (h : Did w b v r1 v1 w1) (n : Int) : Did w b v { r1 with err := n } v1 (w1.setCell ⟨b, 3, none⟩ (.int .i64 n)) := ⟨h.at_.set3 n, h.kp.setCell _ (.inr (.inl rfl)) _, h.new⟩
theorem Did.set4 (h : Did w b v r1 v1 w1) (n : Nat) : Did w b v { r1 with g := n } v1 (w1.setCell ⟨b, 4, none⟩ (.int .i64 (n : Int))) := ⟨h.at_.set4 n, h.kp.setCell _ (.inr (.inl rfl)) _, h.new⟩
theorem Did.drewN (h : Did w b v r1 v1 w1) (n : Nat) : Did w b v r1 v1 (w1.drewN n) := ⟨⟨h.at_.row, h.at_.own⟩, h.kp.drewN n, h.new⟩
/-- Blocks that lie behind the call's own start may turn, where the program's row is the caller's. -/
theorem Did.low (h0 : At w b v r) (h : Did w b v r1 v w1) (k : Below w.heap.size w1 w2) : Did w b v r1 v w2 :=
  ⟨⟨(k.block b h0.lt).trans h.at_.row, owns_keep h.at_.own fun g hg => k.block g (h0.olt g hg).2⟩, h.kp.trans (O' := fun i => w.heap.size ≤ i) ⟨k.os, k.tape, k.output, k.size, fun i _ hn => k.block i (by omega)⟩ fun i hi e => absurd hi (Nat.not_lt.2 e), h.new⟩
/-- A row beside the reader. -/
def Side (W : World) (b : Nat) (v : Value) (A : Option Addr) (xs : List Value) : Prop := Rd W (fun i => i ≠ b ∧ v.ownBlock ≠ some i) A xs
theorem Did.side (h : Did w b v r1 v1 w1) {A : Option Addr} {xs : List Value} (s : Side w b v A xs) : Side w1 b v1 A xs := fun hn => by
  obtain ⟨ad, e, hl, ⟨h1, h2⟩, hc⟩ := s hn
  refine ⟨ad, e, Nat.lt_of_lt_of_le hl h.size, ⟨h1, fun e => ?_⟩, fun j u hu => ?_⟩
  · rcases h.new _ e with e | e
    · exact h2 e
    · omega
  · exact (World.cell?_of_block (by rw [Me.block_add]; exact h.kp.block _ hl fun e => e.elim h1 h2)).trans (hc j u hu)
/-- A block that is neither the reader's nor the program's. -/
theorem Did.row (h : Did w b v r1 v1 w1) {n : Nat} {t : TypeId} {X : Array Value} (hr : RowAt w n t X) (h1 : n ≠ b) (h2 : v.ownBlock ≠ some n) : RowAt w1 n t X := (h.kp.block n hr.lt fun e => e.elim h1 h2).trans hr
/-- A block that a call laid stays apart from the program's row. -/
theorem Did.apart (h : Did w b v r1 v1 w1) {n : Nat} (hn : n < w.heap.size) (h2 : v.ownBlock ≠ some n) : v1.ownBlock ≠ some n := fun e => by
  rcases h.new _ e with e | e
  · exact h2 e
  · omega
end
end Rc
end Go.Proofs.Ytelbabgkpflckaa
