/-
  CONTRACTS: chapter 15: the program's printer: nodes without anything within.
-/
import Derived.Test.YtojmcndiooiehaaDoorTePw
namespace Go.Proofs.YtojmcndiooiehaaDoor
open Go.RowKit Go.Sort
open Me

set_option maxRecDepth 100000 in
set_option maxHeartbeats 8000000 in
theorem tnode_path {B r : Nat} {l : List UInt8} {w : World} (s : List UInt8) (n : Int) (A : Option Addr) (m c : Nat) (h : Tb.Pr B r l w) (hB : B ≤ w.heap.size) (hlen : l.length + (s).length ≤ 1073741824) :
    Calls Tryd.prog 12 #[.pointer (some ⟨r, 0, none⟩), .agg #[.int .i64 2, .string ⟨s.toArray⟩, .int .i64 n, .slice A m c]] w fun e w' => e = .returned (.tuple #[]) ∧ Tb.Pw B r (l ++ s) w w' := by
  have hrl := h.lt
  have HP0 := Lib.hid (Tb.Pw.refl h hB)
  obtain ⟨w0, hw0⟩ : ∃ w0, w0 = w.alloc (.cells #[.int .i64 2, .string ⟨s.toArray⟩, .int .i64 n, .slice A m c] 25) := ⟨_, rfl⟩
  have HP1 : Hid (Tb.Pw B r l w w0) := Lib.hid (by rw [hw0]; exact (Tb.Pw.refl h hB).alloc _)
  have hr0 : RowAt w0 w.heap.size 25 #[.int .i64 2, .string ⟨s.toArray⟩, .int .i64 n, .slice A m c] := by rw [hw0]; exact RowAt.new w _ _
  have x0 : w0.cell? ⟨w.heap.size, 0, none⟩ = some (.int .i64 2) := (hr0.cell 0).trans rfl
  have x1 : w0.cell? ⟨w.heap.size, 1, none⟩ = some (.string ⟨s.toArray⟩) := (hr0.cell 1).trans rfl
  have x2 : w0.cell? ⟨w.heap.size, 2, none⟩ = some (.int .i64 n) := (hr0.cell 2).trans rfl
  have HR0 := Lib.hid hr0
  have HWR : Hid (∀ W, Tb.Pw B r l w W → Calls Tryd.prog 19 #[.pointer (some ⟨r, 0, none⟩), .string ⟨(s).toArray⟩] W fun e w' => e = .returned (.tuple #[.int .i64 (s).length, .nilIface]) ∧ Tb.Pw B r (l ++ s) w w') := Lib.hid fun W hW => (bw_any hW.pr (Nat.le_trans hW.base hW.size) (s) hlen).mono fun e w' he => ⟨he.1, hW.trans he.2⟩
  clear h hr0
  go_enter Tryd.func12, Tryd.ntmps12
  go_wp2_with fail
  rw [← hw0]
  clear hw0
  go_wp2_with fail
  go_region_law (go_simp; (go_at_call 19; refine (HWR.out _ (by first | exact HP1.out | exact HP1.out.drew | exact HP2.out | exact HP2.out.drew)).mono ?_; rintro e w5 ⟨rfl, hw5⟩; have HW5 := Lib.hid hw5; clear hw5))
  all_goals
    try go_simp
    try go_wp2_with fail
    go_end0
    exact ⟨rfl, HW5.out⟩

set_option maxRecDepth 100000 in
set_option maxHeartbeats 8000000 in
theorem tnode_str {B r : Nat} {l : List UInt8} {w : World} (s : List UInt8) (n : Int) (A : Option Addr) (m c : Nat) (h : Tb.Pr B r l w) (hB : B ≤ w.heap.size) (hlen : l.length + (Te.quoted s).length ≤ 1073741824) :
    Calls Tryd.prog 12 #[.pointer (some ⟨r, 0, none⟩), .agg #[.int .i64 4, .string ⟨s.toArray⟩, .int .i64 n, .slice A m c]] w fun e w' => e = .returned (.tuple #[]) ∧ Tb.Pw B r (l ++ Te.quoted s) w w' := by
  have hrl := h.lt
  have HP0 := Lib.hid (Tb.Pw.refl h hB)
  obtain ⟨w0, hw0⟩ : ∃ w0, w0 = w.alloc (.cells #[.int .i64 4, .string ⟨s.toArray⟩, .int .i64 n, .slice A m c] 25) := ⟨_, rfl⟩
  have HP1 : Hid (Tb.Pw B r l w w0) := Lib.hid (by rw [hw0]; exact (Tb.Pw.refl h hB).alloc _)
  have hr0 : RowAt w0 w.heap.size 25 #[.int .i64 4, .string ⟨s.toArray⟩, .int .i64 n, .slice A m c] := by rw [hw0]; exact RowAt.new w _ _
  have x0 : w0.cell? ⟨w.heap.size, 0, none⟩ = some (.int .i64 4) := (hr0.cell 0).trans rfl
  have x1 : w0.cell? ⟨w.heap.size, 1, none⟩ = some (.string ⟨s.toArray⟩) := (hr0.cell 1).trans rfl
  have x2 : w0.cell? ⟨w.heap.size, 2, none⟩ = some (.int .i64 n) := (hr0.cell 2).trans rfl
  have HR0 := Lib.hid hr0
  have HM := Lib.hid fun W => tmark_any s W
  obtain ⟨out, ho⟩ : ∃ out, out = Te.quoted s := ⟨_, rfl⟩
  rw [← ho] at hlen ⊢
  have hq : out = Te.mark s :: (s ++ [Te.mark s]) := by rw [ho, Te.quoted_eq]
  have hsl : s.length + 2 = out.length := by rw [hq]; simp
  generalize Te.mark s = m0 at *
  obtain ⟨t1, ht1⟩ : ∃ t1, t1 = m0 :: s := ⟨_, rfl⟩
  have hc1 : (⟨#[m0]⟩ : ByteArray) ++ ⟨s.toArray⟩ = ⟨t1.toArray⟩ := by
    rw [ht1]; apply ByteArray.ext; simp
  have hc2 : (⟨t1.toArray⟩ : ByteArray) ++ ⟨#[m0]⟩ = ⟨out.toArray⟩ := by
    rw [hq, ht1]; apply ByteArray.ext; simp
  have hsi : (s.length : Int) + 2 ≤ 1073741824 := by omega
  have ht1l : t1.length = s.length + 1 := by rw [ht1]; simp
  have hA1 : ¬ 9223372036854775807 < 1 + s.length := by omega
  have hA2 : ¬ 9223372036854775807 < t1.length + 1 := by omega
  clear hsi ht1l hsl
  have HS : Hid (out = Te.quoted s) := Lib.hid ho
  clear ho hq ht1
  have HWR : Hid (∀ W, Tb.Pw B r l w W → Calls Tryd.prog 19 #[.pointer (some ⟨r, 0, none⟩), .string ⟨(out).toArray⟩] W fun e w' => e = .returned (.tuple #[.int .i64 (out).length, .nilIface]) ∧ Tb.Pw B r (l ++ out) w w') := Lib.hid fun W hW => (bw_any hW.pr (Nat.le_trans hW.base hW.size) (out) hlen).mono fun e w' he => ⟨he.1, hW.trans he.2⟩
  clear h hr0
  go_enter Tryd.func12, Tryd.ntmps12
  go_wp2_with fail
  rw [← hw0]
  clear hw0
  go_wp2_with (go_at_call 21; go_must (refine (HM.out _).mono ?_; rintro e w6 ⟨rfl, rfl⟩))
  go_region_law (go_simp; (go_at_call 19; refine (HWR.out _ (by first | exact HP1.out | exact HP1.out.drew | exact HP2.out | exact HP2.out.drew)).mono ?_; rintro e w5 ⟨rfl, hw5⟩; have HW5 := Lib.hid hw5; clear hw5))
  all_goals
    try go_simp
    try go_wp2_with fail
    go_end0
    exact ⟨rfl, HW5.out⟩

set_option maxRecDepth 100000 in
set_option maxHeartbeats 8000000 in
theorem tnode_num {B r : Nat} {l : List UInt8} {w : World} (s : List UInt8) (n : Int) (A : Option Addr) (m c : Nat) (h : Tb.Pr B r l w) (hB : B ≤ w.heap.size) (hlen : l.length + (Dc.pr true n).length ≤ 1073741824) :
    Calls Tryd.prog 12 #[.pointer (some ⟨r, 0, none⟩), .agg #[.int .i64 3, .string ⟨s.toArray⟩, .int .i64 n, .slice A m c]] w fun e w' => e = .returned (.tuple #[]) ∧ Tb.Pw B r (l ++ Dc.pr true n) w w' := by
  have hrl := h.lt
  have HP0 := Lib.hid (Tb.Pw.refl h hB)
  obtain ⟨w0, hw0⟩ : ∃ w0, w0 = w.alloc (.cells #[.int .i64 3, .string ⟨s.toArray⟩, .int .i64 n, .slice A m c] 25) := ⟨_, rfl⟩
  have HP1 : Hid (Tb.Pw B r l w w0) := Lib.hid (by rw [hw0]; exact (Tb.Pw.refl h hB).alloc _)
  have hr0 : RowAt w0 w.heap.size 25 #[.int .i64 3, .string ⟨s.toArray⟩, .int .i64 n, .slice A m c] := by rw [hw0]; exact RowAt.new w _ _
  have x0 : w0.cell? ⟨w.heap.size, 0, none⟩ = some (.int .i64 3) := (hr0.cell 0).trans rfl
  have x1 : w0.cell? ⟨w.heap.size, 1, none⟩ = some (.string ⟨s.toArray⟩) := (hr0.cell 1).trans rfl
  have x2 : w0.cell? ⟨w.heap.size, 2, none⟩ = some (.int .i64 n) := (hr0.cell 2).trans rfl
  have HR0 := Lib.hid hr0
  have HPR := Lib.hid fun W => print_prog true n W
  generalize Dc.pr true n = out at *
  have HWR : Hid (∀ W, Tb.Pw B r l w W → Calls Tryd.prog 19 #[.pointer (some ⟨r, 0, none⟩), .string ⟨(out).toArray⟩] W fun e w' => e = .returned (.tuple #[.int .i64 (out).length, .nilIface]) ∧ Tb.Pw B r (l ++ out) w w') := Lib.hid fun W hW => (bw_any hW.pr (Nat.le_trans hW.base hW.size) (out) hlen).mono fun e w' he => ⟨he.1, hW.trans he.2⟩
  clear h hr0
  go_enter Tryd.func12, Tryd.ntmps12
  go_wp2_with fail
  rw [← hw0]
  clear hw0
  go_wp2_with fail
  go_region_law (first | (go_simp; (go_at_call 20; refine (HPR.out _).mono ?_; rintro e w7 ⟨rfl, hb7⟩; have HP2 : Hid (Tb.Pw B r l w w7) := Lib.hid (by first | exact HP1.out.on hb7 | exact HP1.out.drew.on hb7); clear hb7)) | (go_simp; (go_at_call 19; refine (HWR.out _ (by first | exact HP1.out | exact HP1.out.drew | exact HP2.out | exact HP2.out.drew)).mono ?_; rintro e w5 ⟨rfl, hw5⟩; have HW5 := Lib.hid hw5; clear hw5)))
  all_goals
    try go_simp
    try go_wp2_with fail
    go_end0
    exact ⟨rfl, HW5.out⟩

set_option maxRecDepth 100000 in
set_option maxHeartbeats 8000000 in
theorem tnode_bool {B r : Nat} {l : List UInt8} {w : World} (s : List UInt8) (n : Int) (A : Option Addr) (m c : Nat) (h : Tb.Pr B r l w) (hB : B ≤ w.heap.size) (hlen : l.length + (Te.bword n).length ≤ 1073741824) :
    Calls Tryd.prog 12 #[.pointer (some ⟨r, 0, none⟩), .agg #[.int .i64 5, .string ⟨s.toArray⟩, .int .i64 n, .slice A m c]] w fun e w' => e = .returned (.tuple #[]) ∧ Tb.Pw B r (l ++ Te.bword n) w w' := by
  have hrl := h.lt
  have HP0 := Lib.hid (Tb.Pw.refl h hB)
  obtain ⟨w0, hw0⟩ : ∃ w0, w0 = w.alloc (.cells #[.int .i64 5, .string ⟨s.toArray⟩, .int .i64 n, .slice A m c] 25) := ⟨_, rfl⟩
  have HP1 : Hid (Tb.Pw B r l w w0) := Lib.hid (by rw [hw0]; exact (Tb.Pw.refl h hB).alloc _)
  have hr0 : RowAt w0 w.heap.size 25 #[.int .i64 5, .string ⟨s.toArray⟩, .int .i64 n, .slice A m c] := by rw [hw0]; exact RowAt.new w _ _
  have x0 : w0.cell? ⟨w.heap.size, 0, none⟩ = some (.int .i64 5) := (hr0.cell 0).trans rfl
  have x1 : w0.cell? ⟨w.heap.size, 1, none⟩ = some (.string ⟨s.toArray⟩) := (hr0.cell 1).trans rfl
  have x2 : w0.cell? ⟨w.heap.size, 2, none⟩ = some (.int .i64 n) := (hr0.cell 2).trans rfl
  have HR0 := Lib.hid hr0
  have HPR := Lib.hid fun W => tword_any n W
  generalize Te.bword n = out at *
  have HWR : Hid (∀ W, Tb.Pw B r l w W → Calls Tryd.prog 19 #[.pointer (some ⟨r, 0, none⟩), .string ⟨(out).toArray⟩] W fun e w' => e = .returned (.tuple #[.int .i64 (out).length, .nilIface]) ∧ Tb.Pw B r (l ++ out) w w') := Lib.hid fun W hW => (bw_any hW.pr (Nat.le_trans hW.base hW.size) (out) hlen).mono fun e w' he => ⟨he.1, hW.trans he.2⟩
  clear h hr0
  go_enter Tryd.func12, Tryd.ntmps12
  go_wp2_with fail
  rw [← hw0]
  clear hw0
  go_wp2_with fail
  go_region_law (first | (go_simp; (go_at_call 22; refine (HPR.out _).mono ?_; rintro e w7 ⟨rfl, rfl⟩)) | (go_simp; (go_at_call 19; refine (HWR.out _ (by first | exact HP1.out | exact HP1.out.drew | exact HP2.out | exact HP2.out.drew)).mono ?_; rintro e w5 ⟨rfl, hw5⟩; have HW5 := Lib.hid hw5; clear hw5)))
  all_goals
    try go_simp
    try go_wp2_with fail
    go_end0
    exact ⟨rfl, HW5.out⟩

end Go.Proofs.YtojmcndiooiehaaDoor
