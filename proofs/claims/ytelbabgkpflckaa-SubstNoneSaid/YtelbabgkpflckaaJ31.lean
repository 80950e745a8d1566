/-
  RcClsA: CONTRACTS: chapter 12, the document's Compile: class (existential).
-/
import Derived.Test.YtelbabgkpflckaaJ30
import Derived.Laws.Tables
import Derived.BigQuiet
import Derived.Lib.QuietBelow

set_option linter.unusedSimpArgs false
set_option linter.unusedVariables false
namespace Go.Proofs.Ytelbabgkpflckaa
open Go.RowKit Go.Sort
open Me
open Pk

namespace Rc
open Rx (cel St)
/-- What class leaves. -/
def ClsR (w : World) (b : Nat) (v : Value) (r : Rr) (e : Ending) (w' : World) : Prop := ∃ (m : St) (ok : Bool) (n : Nat), e = .returned (.tuple #[.agg (cel m), .bool ok]) ∧ Did w b v { r with at_ := r.at_ + n } v w' ∧ r.at_ + n ≤ r.s.length ∧ (ok = true → 1 ≤ n)
/-- How far it is read. -/
def atOf (W : World) (b : Nat) : Nat := match W.cell? ⟨b, 1, none⟩ with
  | some (.int .i64 n) => n.toNat
  | _ => 0
theorem At.atOf {W : World} {b : Nat} {v : Value} {r : Rr} (h : At W b v r) : Rc.atOf W b = r.at_ := by
  unfold Rc.atOf
  rw [h.c1]
  exact Int.toNat_natCast _
/-- class under way: how far, its row. -/
structure ClsI (w : World) (b : Nat) (v : Value) (s : List UInt8) (i d : Nat) (er : Int) (g : Nat) (L : List Rx.In) (n0 j : Nat) (wr : World) : Prop where
  did : Did w b v ⟨s, j, d, er, g, L⟩ v wr
  res : RowAt wr n0 125 (cel Rx.none_)
  row : ∃ m, RowAt wr (n0 + 1) 125 (cel m)
  lo : i + 1 ≤ j
  hi : j ≤ s.length
theorem run_eqGuard_bools (w : World) (x y : Operand) (s u : Array Value) : (eqGuard .eql 125 x y (.agg s) (.agg u)).run Try.prog w = .ok () w := run_eqGuard_agg w _ _ _ _ _ _ (by kernel_rfl)
theorem built0 : Try.prog.built 125 [] = some (cel Rx.none_) := by kernel_rfl
theorem eqcells (w : World) (s u : St) : (Op.equalIn 10000 125 (.agg (cel s)) (.agg (cel u))).run Try.prog w = .ok (alike s u) w := run_equalIn_bools w 9998 s u
section
variable {C : World → Prop} {a : Act} {K : Act → Prop} {o : Oper} {x y : Operand} {n : Nat} {t : TypeId}
/-- An array in a region that only reads: loaded, made, held against another one. -/
theorem quiet_ldset (s : St) (ho : o.op = .load 125 x) (hx : a.eval x = .pointer (some ⟨n, 0, none⟩)) (hr : ∀ w, C w → RowAt w n t (cel s)) (hk : K (a.put o.dst (.agg (cel s)))) : o.quiet Try.prog a C K :=
  ⟨_, fun w hw => by
    unfold Oper.quietAt execOp
    simp only [ho, hx, ldAt (hr w hw) (Rx.cel_size _), Sem.run_bind, Result.andThen_ok, Sem.run_pure]
    exact ⟨rfl, rfl⟩, hk⟩
theorem quiet_built (ho : o.op = .build 125 #[]) (hk : K (a.put o.dst (.agg (cel Rx.none_)))) : o.quiet Try.prog a C K :=
  ⟨_, fun w _ => by
    unfold Oper.quietAt execOp
    simp only [ho, Array.map_empty, run_build w _ _ _ built0, Sem.run_bind, Result.andThen_ok, Sem.run_pure]
    exact ⟨rfl, rfl⟩, hk⟩
theorem quiet_eqlset (s u : St) (q : Bool) (ho : o.op = .binOp .eql 125 x y 125) (hx : a.eval x = .agg (cel s)) (hy : a.eval y = .agg (cel u)) (hq : alike s u = q) (hk : K (a.put o.dst (.bool q))) : o.quiet Try.prog a C K :=
  ⟨_, fun w _ => by
    unfold Oper.quietAt execOp
    simp only [ho, hx, hy, run_eqGuard_bools, run_eql_bools, hq, Sem.run_bind, Result.andThen_ok, Sem.run_pure]
    exact ⟨rfl, rfl⟩, hk⟩
end
section
variable {ops : Array Oper} {rest : List Oper} {o : Oper} {a : Act} {w : World} {Q : Exit → Act → World → Prop} {x y : Operand} {n : Nat} {t : TypeId}
/-- The same behind a guard, in the order of the text. -/
theorem ldset_g (hw : Region.wanted o (yielded ops a.tmps) = true) (s : St) (ho : o.op = .load 125 x) (hx : a.eval x = .pointer (some ⟨n, 0, none⟩)) (hr : RowAt w n t (cel s)) (h : wpList Try.prog ops Q rest (a.put o.dst (.agg (cel s))) w) : wpList Try.prog ops Q (o :: rest) a w :=
  wpList_step fun _ hK => by
    rw [if_pos hw]
    exact wp_load_row 125 x ho n hx t _ (0, 0) _ hr Try.underlying125 rfl (by rw [Rx.cel_size]; exact b256info) (hK _ _ h)
theorem built_g (hw : Region.wanted o (yielded ops a.tmps) = true) (ho : o.op = .build 125 #[]) (h : wpList Try.prog ops Q rest (a.put o.dst (.agg (cel Rx.none_))) w) : wpList Try.prog ops Q (o :: rest) a w :=
  wpList_step fun _ hK => by
    rw [if_pos hw]
    unfold Oper.wp execOp
    simp only [ho, Array.map_empty, run_build w _ _ _ built0, Sem.run_bind, Result.andThen_ok, Sem.run_pure]
    exact hK _ _ h
theorem eqlset_g (hw : Region.wanted o (yielded ops a.tmps) = true) (s u : St) (q : Bool) (ho : o.op = .binOp .eql 125 x y 125) (hx : a.eval x = .agg (cel s)) (hy : a.eval y = .agg (cel u)) (hq : alike s u = q) (h : wpList Try.prog ops Q rest (a.put o.dst (.bool q)) w) : wpList Try.prog ops Q (o :: rest) a w :=
  wpList_step fun _ hK => by
    rw [if_pos hw]
    unfold Oper.wp execOp
    simp only [ho, hx, hy, run_eqGuard_bools, run_eql_bools, hq, Sem.run_bind, Result.andThen_ok, Sem.run_pure]
    exact hK _ _ h
end
end Rc

namespace Rc
/-- The first loop of a text. -/
def firstLoop : Code → Option Code
  | .loop c => some c
  | .seq a b => match firstLoop a with
    | some c => some c
    | none => firstLoop b
  | .block _ c => firstLoop c
  | .scope c => firstLoop c
  | _ => none
noncomputable def cbody : Code := ((Try.f72.body.bind firstLoop).getD .skip)
set_option maxRecDepth 1000000 in
/-- What holds at the loop's head. -/
def CW (w : World) (b : Nat) (v : Value) (s : List UInt8) (i d : Nat) (er : Int) (g : Nat) (L : List Rx.In) (n0 : Nat) (k5 k13 k14 k15 k16 k17 k18 k19 k20 k21 k22 k23 k24 k25 k26 k27 k28 k29 : Value) (a' : Act) (w' : World) : Prop :=
  ∃ u3 u6 u7 u8 u9 u10 u11 u30 u31 u32 u33 u34 u35 u36 u37 u38 u39 u40 u41 u42 u43 u44 u45 u46 u47 u48 u49 u50 u51 u52 u53 u54 u55 u56 u57 u58 u59 u60 u61 u62 u63 u64 u65 u66 u67 u68 u69 u70 u71 u72 u73 u74 u75 u76 u77 u78 u79 u80 u81 u82 u83 u84 u85 u86 u87 u88 u89 u90 u91 u92 u93 u94 u95 u96 u97 u98 u99 u100 u101 u102 u103 u104 u105 u106 u107 u108 u109 u110 u111 u112 u113 u114 u115 u116 u117 u118 u119 u120 u121 u122 u123 u124 u125 u126 u127 u128 u129 u130 u131 u132 u133 u134 u135 u136 u137 u138 u139 u140 : Value, (∃ f : Bool, u6 = .bool f ∧ Hid (∃ j, Rc.ClsI w b v s i d er g L n0 j w')) ∧ a' = ⟨#[.pointer (some ⟨b, 0, none⟩), undef, .pointer (some ⟨n0, 0, none⟩), u3, .pointer (some ⟨n0 + 1, 0, none⟩), k5, u6, u7, u8, u9, u10, u11, undef, k13, k14, k15, k16, k17, k18, k19, k20, k21, k22, k23, k24, k25, k26, k27, k28, k29, u30, u31, u32, u33, u34, u35, u36, u37, u38, u39, u40, u41, u42, u43, u44, u45, u46, u47, u48, u49, u50, u51, u52, u53, u54, u55, u56, u57, u58, u59, u60, u61, u62, u63, u64, u65, u66, u67, u68, u69, u70, u71, u72, u73, u74, u75, u76, u77, u78, u79, u80, u81, u82, u83, u84, u85, u86, u87, u88, u89, u90, u91, u92, u93, u94, u95, u96, u97, u98, u99, u100, u101, u102, u103, u104, u105, u106, u107, u108, u109, u110, u111, u112, u113, u114, u115, u116, u117, u118, u119, u120, u121, u122, u123, u124, u125, u126, u127, u128, u129, u130, u131, u132, u133, u134, u135, u136, u137, u138, u139, u140, undef, undef, undef, undef, undef, undef, undef, undef, undef, undef, undef, undef, undef, undef, undef, undef, undef, undef, undef], []⟩
/-- What each round lessens. -/
def Cmu (s : List UInt8) (b : Nat) (_ : Act) (w' : World) : Nat := s.length - Rc.atOf w' b
end Rc
end Go.Proofs.Ytelbabgkpflckaa
