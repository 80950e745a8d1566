/-
  TePw: CONTRACTS: chapter 15: printing under way; the mark around a string, the words of a bool.
  TePr: CONTRACTS: chapter 15: the program's printer: nodes without anything within.
  TePc: CONTRACTS: chapter 15: the program's printer: a call, and every node that may be.
-/
import Derived.Test.YtojmcndiooiehaaGreatDoorJ21
import Derived.Test.YtojmcndiooiehaaGreatDoorJ23
import Derived.Deep.RegionLaw

set_option linter.unusedSimpArgs false
set_option linter.unusedVariables false
namespace Go.Proofs.YtojmcndiooiehaaGreatDoor
open Go.RowKit Go.Sort
open Me

namespace Tb
/-- A printer: what it holds is l. -/
def Pr (B r : Nat) (l : List UInt8) (w : World) : Prop := ∃ p v, Bl B r p v l w ∧ (p = .pointer none ∨ p = .pointer (some ⟨r, 0, none⟩))
theorem Pr.lt {B r : Nat} {l : List UInt8} {w : World} (h : Pr B r l w) : r < w.heap.size := by obtain ⟨p, v, h, _⟩ := h; exact h.lt
theorem Pr.keep {B r : Nat} {l : List UInt8} {w w' : World} (h : Pr B r l w) (hb : Below w.heap.size w w') : Pr B r l w' := by
  obtain ⟨p, v, h, hp⟩ := h
  exact ⟨p, v, h.keep hb, hp⟩
/-- Blocks of nodes stay. -/
def Lets (w w' : World) : Prop := ∀ (k : Nat) (cs : Array Value), RowAt w k 24 cs → RowAt w' k 24 cs
/-- From one world on, printing: what is held is l. -/
structure Pw (B r : Nat) (l : List UInt8) (w W : World) : Prop where
  pr : Pr B r l W
  bel : Below B w W
  lets : Lets w W
  base : B ≤ w.heap.size
theorem Pw.refl {B r : Nat} {l : List UInt8} {w : World} (h : Pr B r l w) (hB : B ≤ w.heap.size) : Pw B r l w w := ⟨h, Below.refl _ _, fun _ _ h => h, hB⟩
theorem Pw.trans {B r : Nat} {l l2 : List UInt8} {w W W2 : World} (h : Pw B r l w W) (k : Pw B r l2 W W2) : Pw B r l2 w W2 := ⟨k.pr, h.bel.trans k.bel, fun g cs e => k.lets g cs (h.lets g cs e), h.base⟩
theorem Pw.on {B r : Nat} {l : List UInt8} {w W W2 : World} (h : Pw B r l w W) (k : Below W.heap.size W W2) : Pw B r l w W2 :=
  ⟨h.pr.keep k, h.bel.trans (k.mono (Nat.le_trans h.base h.bel.size)), fun g cs e => (h.lets g cs e).below k (h.lets g cs e).lt, h.base⟩
theorem Pw.drew {B r : Nat} {l : List UInt8} {w W : World} (h : Pw B r l w W) : Pw B r l w W.drew := h.on (Below.drew (Below.refl _ _))
theorem Pw.alloc {B r : Nat} {l : List UInt8} {w W : World} (h : Pw B r l w W) (o : Obj) : Pw B r l w (W.alloc o) := h.on ((Below.refl _ _).alloc (Nat.le_refl _) _)
theorem Pw.size {B r : Nat} {l : List UInt8} {w W : World} (h : Pw B r l w W) : w.heap.size ≤ W.heap.size := h.bel.size
theorem ndne : 24 ≠ u8T := by decide
theorem ndnr : 24 ≠ rT := by decide
end Tb

theorem bw_any {B r : Nat} {l : List UInt8} {w : World} (h : Tb.Pr B r l w) (hB : B ≤ w.heap.size) (s : List UInt8) (hlen : l.length + s.length ≤ 1073741824) :
    Calls Tryz.prog 38 #[.pointer (some ⟨r, 0, none⟩), .string ⟨s.toArray⟩] w fun e w' => e = .returned (.tuple #[.int .i64 s.length, .nilIface]) ∧ Tb.Pw B r (l ++ s) w w' := by
  obtain ⟨p, v, h, hp⟩ := h
  obtain ⟨_, h21, h22⟩ := id h
  refine (tbWrite_any h hp s hlen hB).mono ?_
  rintro e w' ⟨rfl, ⟨v', h'⟩, hb, hs, hk⟩
  refine ⟨rfl, ⟨_, v', h', .inr rfl⟩, hb, fun k cs hr => ?_, hB⟩
  refine (hk k hr.lt ?_ ?_).trans hr
  · rintro rfl
    have := Option.some.inj (h21.symm.trans hr)
    injection this with _ e1 _
    exact Tb.ndnr e1.symm
  · exact Lib.ownBlock_ne h22 hr Tb.ndne

namespace Te
def mark (s : List UInt8) : UInt8 := if s.contains 34 = true then 39 else 34
theorem quoted_eq (s : List UInt8) : quoted s = mark s :: (s ++ [mark s]) := by
  unfold quoted mark
  split <;> simp
end Te

set_option maxHeartbeats 1000000 in
theorem tmark_any (s : List UInt8) (w : World) :
    Calls Tryz.prog 40 #[.string ⟨s.toArray⟩] w fun e w' => e = .returned (.string ⟨#[Te.mark s]⟩) ∧ w = w' := by
  have HC := Lib.hid fun W => contains_one s 34 W
  have HM : Hid (Te.mark s = if s.contains 34 = true then 39 else 34) := Lib.hid rfl
  generalize Te.mark s = m at *
  generalize s.contains 34 = q at *
  cases q
  · obtain rfl : m = 34 := HM.out
    go_enter Tryz.func40, Tryz.ntmps40
    go_wp2_with (go_at_call 63; go_must (refine (HC.out _).mono ?_; rintro e w2 ⟨rfl, rfl⟩))
    go_ret
    exact ⟨rfl, rfl⟩
  · obtain rfl : m = 39 := HM.out
    go_enter Tryz.func40, Tryz.ntmps40
    go_wp2_with (go_at_call 63; go_must (refine (HC.out _).mono ?_; rintro e w2 ⟨rfl, rfl⟩))
    go_ret
    exact ⟨rfl, rfl⟩

namespace Te
def bword (n : Int) : List UInt8 := if n = 1 then trueT else falseT
end Te
set_option maxHeartbeats 1000000 in
theorem tword_any (n : Int) (w : World) :
    Calls Tryz.prog 41 #[.int .i64 n] w fun e w' => e = .returned (.string ⟨(Te.bword n).toArray⟩) ∧ w = w' := by
  by_cases h : n = 1
  · subst h
    go_enter Tryz.func41, Tryz.ntmps41
    go_wp2
    go_ret
    exact ⟨rfl, rfl⟩
  · have HM : Hid (Te.bword n = [102, 97, 108, 115, 101]) := Lib.hid (if_neg h)
    have hb : (n == 1) = false := by simpa using h
    generalize Te.bword n = m at *
    go_enter Tryz.func41, Tryz.ntmps41
    go_wp2
    go_ret
    exact ⟨by rw [HM.out]; rfl, rfl⟩
end Go.Proofs.YtojmcndiooiehaaGreatDoor

namespace Go.Proofs.YtojmcndiooiehaaGreatDoor
open Go.RowKit Go.Sort
open Me

set_option maxRecDepth 100000 in
set_option maxHeartbeats 8000000 in
theorem tnode_path {B r : Nat} {l : List UInt8} {w : World} (s : List UInt8) (n : Int) (A : Option Addr) (m c : Nat) (h : Tb.Pr B r l w) (hB : B ≤ w.heap.size) (hlen : l.length + (s).length ≤ 1073741824) :
    Calls Tryz.prog 24 #[.pointer (some ⟨r, 0, none⟩), .agg #[.int .i64 2, .string ⟨s.toArray⟩, .int .i64 n, .slice A m c]] w fun e w' => e = .returned (.tuple #[]) ∧ Tb.Pw B r (l ++ s) w w' := by
  have hrl := h.lt
  have HP0 := Lib.hid (Tb.Pw.refl h hB)
  obtain ⟨w0, hw0⟩ : ∃ w0, w0 = w.alloc (.cells #[.int .i64 2, .string ⟨s.toArray⟩, .int .i64 n, .slice A m c] 24) := ⟨_, rfl⟩
  have HP1 : Hid (Tb.Pw B r l w w0) := Lib.hid (by rw [hw0]; exact (Tb.Pw.refl h hB).alloc _)
  have hr0 : RowAt w0 w.heap.size 24 #[.int .i64 2, .string ⟨s.toArray⟩, .int .i64 n, .slice A m c] := by rw [hw0]; exact RowAt.new w _ _
  have x0 : w0.cell? ⟨w.heap.size, 0, none⟩ = some (.int .i64 2) := (hr0.cell 0).trans rfl
  have x1 : w0.cell? ⟨w.heap.size, 1, none⟩ = some (.string ⟨s.toArray⟩) := (hr0.cell 1).trans rfl
  have x2 : w0.cell? ⟨w.heap.size, 2, none⟩ = some (.int .i64 n) := (hr0.cell 2).trans rfl
  have HR0 := Lib.hid hr0
  have HWR : Hid (∀ W, Tb.Pw B r l w W → Calls Tryz.prog 38 #[.pointer (some ⟨r, 0, none⟩), .string ⟨(s).toArray⟩] W fun e w' => e = .returned (.tuple #[.int .i64 (s).length, .nilIface]) ∧ Tb.Pw B r (l ++ s) w w') := Lib.hid fun W hW => (bw_any hW.pr (Nat.le_trans hW.base hW.size) (s) hlen).mono fun e w' he => ⟨he.1, hW.trans he.2⟩
  clear h hr0
  go_enter Tryz.func24, Tryz.ntmps24
  go_wp2_with fail
  rw [← hw0]
  clear hw0
  go_wp2_with fail
  go_region_law (go_simp; (go_at_call 38; refine (HWR.out _ (by first | exact HP1.out | exact HP1.out.drew | exact HP2.out | exact HP2.out.drew)).mono ?_; rintro e w5 ⟨rfl, hw5⟩; have HW5 := Lib.hid hw5; clear hw5))
  all_goals
    try go_simp
    try go_wp2_with fail
    go_end0
    exact ⟨rfl, HW5.out⟩

set_option maxRecDepth 100000 in
set_option maxHeartbeats 8000000 in
theorem tnode_str {B r : Nat} {l : List UInt8} {w : World} (s : List UInt8) (n : Int) (A : Option Addr) (m c : Nat) (h : Tb.Pr B r l w) (hB : B ≤ w.heap.size) (hlen : l.length + (Te.quoted s).length ≤ 1073741824) :
    Calls Tryz.prog 24 #[.pointer (some ⟨r, 0, none⟩), .agg #[.int .i64 4, .string ⟨s.toArray⟩, .int .i64 n, .slice A m c]] w fun e w' => e = .returned (.tuple #[]) ∧ Tb.Pw B r (l ++ Te.quoted s) w w' := by
  have hrl := h.lt
  have HP0 := Lib.hid (Tb.Pw.refl h hB)
  obtain ⟨w0, hw0⟩ : ∃ w0, w0 = w.alloc (.cells #[.int .i64 4, .string ⟨s.toArray⟩, .int .i64 n, .slice A m c] 24) := ⟨_, rfl⟩
  have HP1 : Hid (Tb.Pw B r l w w0) := Lib.hid (by rw [hw0]; exact (Tb.Pw.refl h hB).alloc _)
  have hr0 : RowAt w0 w.heap.size 24 #[.int .i64 4, .string ⟨s.toArray⟩, .int .i64 n, .slice A m c] := by rw [hw0]; exact RowAt.new w _ _
  have x0 : w0.cell? ⟨w.heap.size, 0, none⟩ = some (.int .i64 4) := (hr0.cell 0).trans rfl
  have x1 : w0.cell? ⟨w.heap.size, 1, none⟩ = some (.string ⟨s.toArray⟩) := (hr0.cell 1).trans rfl
  have x2 : w0.cell? ⟨w.heap.size, 2, none⟩ = some (.int .i64 n) := (hr0.cell 2).trans rfl
  have HR0 := Lib.hid hr0
  have HM := Lib.hid fun W => tmark_any s W
  obtain ⟨out, ho⟩ : ∃ out, out = Te.quoted s := ⟨_, rfl⟩
  rw [← ho] at hlen ⊢
  have hq : out = Te.mark s :: (s ++ [Te.mark s]) := by rw [ho, Te.quoted_eq]
  have hsl : s.length + 2 = out.length := by rw [hq]; simp
  generalize Te.mark s = m0 at *
  obtain ⟨t1, ht1⟩ : ∃ t1, t1 = m0 :: s := ⟨_, rfl⟩
  have hc1 : (⟨#[m0]⟩ : ByteArray) ++ ⟨s.toArray⟩ = ⟨t1.toArray⟩ := by
    rw [ht1]; apply ByteArray.ext; simp
  have hc2 : (⟨t1.toArray⟩ : ByteArray) ++ ⟨#[m0]⟩ = ⟨out.toArray⟩ := by
    rw [hq, ht1]; apply ByteArray.ext; simp
  have hsi : (s.length : Int) + 2 ≤ 1073741824 := by omega
  have ht1l : t1.length = s.length + 1 := by rw [ht1]; simp
  have hA1 : ¬ 9223372036854775807 < 1 + s.length := by omega
  have hA2 : ¬ 9223372036854775807 < t1.length + 1 := by omega
  clear hsi ht1l hsl
  have HS : Hid (out = Te.quoted s) := Lib.hid ho
  clear ho hq ht1
  have HWR : Hid (∀ W, Tb.Pw B r l w W → Calls Tryz.prog 38 #[.pointer (some ⟨r, 0, none⟩), .string ⟨(out).toArray⟩] W fun e w' => e = .returned (.tuple #[.int .i64 (out).length, .nilIface]) ∧ Tb.Pw B r (l ++ out) w w') := Lib.hid fun W hW => (bw_any hW.pr (Nat.le_trans hW.base hW.size) (out) hlen).mono fun e w' he => ⟨he.1, hW.trans he.2⟩
  clear h hr0
  go_enter Tryz.func24, Tryz.ntmps24
  go_wp2_with fail
  rw [← hw0]
  clear hw0
  go_wp2_with (go_at_call 40; go_must (refine (HM.out _).mono ?_; rintro e w6 ⟨rfl, rfl⟩))
  go_region_law (go_simp; (go_at_call 38; refine (HWR.out _ (by first | exact HP1.out | exact HP1.out.drew | exact HP2.out | exact HP2.out.drew)).mono ?_; rintro e w5 ⟨rfl, hw5⟩; have HW5 := Lib.hid hw5; clear hw5))
  all_goals
    try go_simp
    try go_wp2_with fail
    go_end0
    exact ⟨rfl, HW5.out⟩

set_option maxRecDepth 100000 in
set_option maxHeartbeats 8000000 in
theorem tnode_num {B r : Nat} {l : List UInt8} {w : World} (s : List UInt8) (n : Int) (A : Option Addr) (m c : Nat) (h : Tb.Pr B r l w) (hB : B ≤ w.heap.size) (hlen : l.length + (Dc.pr true n).length ≤ 1073741824) :
    Calls Tryz.prog 24 #[.pointer (some ⟨r, 0, none⟩), .agg #[.int .i64 3, .string ⟨s.toArray⟩, .int .i64 n, .slice A m c]] w fun e w' => e = .returned (.tuple #[]) ∧ Tb.Pw B r (l ++ Dc.pr true n) w w' := by
  have hrl := h.lt
  have HP0 := Lib.hid (Tb.Pw.refl h hB)
  obtain ⟨w0, hw0⟩ : ∃ w0, w0 = w.alloc (.cells #[.int .i64 3, .string ⟨s.toArray⟩, .int .i64 n, .slice A m c] 24) := ⟨_, rfl⟩
  have HP1 : Hid (Tb.Pw B r l w w0) := Lib.hid (by rw [hw0]; exact (Tb.Pw.refl h hB).alloc _)
  have hr0 : RowAt w0 w.heap.size 24 #[.int .i64 3, .string ⟨s.toArray⟩, .int .i64 n, .slice A m c] := by rw [hw0]; exact RowAt.new w _ _
  have x0 : w0.cell? ⟨w.heap.size, 0, none⟩ = some (.int .i64 3) := (hr0.cell 0).trans rfl
  have x1 : w0.cell? ⟨w.heap.size, 1, none⟩ = some (.string ⟨s.toArray⟩) := (hr0.cell 1).trans rfl
  have x2 : w0.cell? ⟨w.heap.size, 2, none⟩ = some (.int .i64 n) := (hr0.cell 2).trans rfl
  have HR0 := Lib.hid hr0
  have HPR := Lib.hid fun W => print_prog true n W
  generalize Dc.pr true n = out at *
  have HWR : Hid (∀ W, Tb.Pw B r l w W → Calls Tryz.prog 38 #[.pointer (some ⟨r, 0, none⟩), .string ⟨(out).toArray⟩] W fun e w' => e = .returned (.tuple #[.int .i64 (out).length, .nilIface]) ∧ Tb.Pw B r (l ++ out) w w') := Lib.hid fun W hW => (bw_any hW.pr (Nat.le_trans hW.base hW.size) (out) hlen).mono fun e w' he => ⟨he.1, hW.trans he.2⟩
  clear h hr0
  go_enter Tryz.func24, Tryz.ntmps24
  go_wp2_with fail
  rw [← hw0]
  clear hw0
  go_wp2_with fail
  go_region_law (first | (go_simp; (go_at_call 39; refine (HPR.out _).mono ?_; rintro e w7 ⟨rfl, hb7⟩; have HP2 : Hid (Tb.Pw B r l w w7) := Lib.hid (by first | exact HP1.out.on hb7 | exact HP1.out.drew.on hb7); clear hb7)) | (go_simp; (go_at_call 38; refine (HWR.out _ (by first | exact HP1.out | exact HP1.out.drew | exact HP2.out | exact HP2.out.drew)).mono ?_; rintro e w5 ⟨rfl, hw5⟩; have HW5 := Lib.hid hw5; clear hw5)))
  all_goals
    try go_simp
    try go_wp2_with fail
    go_end0
    exact ⟨rfl, HW5.out⟩

set_option maxRecDepth 100000 in
set_option maxHeartbeats 8000000 in
theorem tnode_bool {B r : Nat} {l : List UInt8} {w : World} (s : List UInt8) (n : Int) (A : Option Addr) (m c : Nat) (h : Tb.Pr B r l w) (hB : B ≤ w.heap.size) (hlen : l.length + (Te.bword n).length ≤ 1073741824) :
    Calls Tryz.prog 24 #[.pointer (some ⟨r, 0, none⟩), .agg #[.int .i64 5, .string ⟨s.toArray⟩, .int .i64 n, .slice A m c]] w fun e w' => e = .returned (.tuple #[]) ∧ Tb.Pw B r (l ++ Te.bword n) w w' := by
  have hrl := h.lt
  have HP0 := Lib.hid (Tb.Pw.refl h hB)
  obtain ⟨w0, hw0⟩ : ∃ w0, w0 = w.alloc (.cells #[.int .i64 5, .string ⟨s.toArray⟩, .int .i64 n, .slice A m c] 24) := ⟨_, rfl⟩
  have HP1 : Hid (Tb.Pw B r l w w0) := Lib.hid (by rw [hw0]; exact (Tb.Pw.refl h hB).alloc _)
  have hr0 : RowAt w0 w.heap.size 24 #[.int .i64 5, .string ⟨s.toArray⟩, .int .i64 n, .slice A m c] := by rw [hw0]; exact RowAt.new w _ _
  have x0 : w0.cell? ⟨w.heap.size, 0, none⟩ = some (.int .i64 5) := (hr0.cell 0).trans rfl
  have x1 : w0.cell? ⟨w.heap.size, 1, none⟩ = some (.string ⟨s.toArray⟩) := (hr0.cell 1).trans rfl
  have x2 : w0.cell? ⟨w.heap.size, 2, none⟩ = some (.int .i64 n) := (hr0.cell 2).trans rfl
  have HR0 := Lib.hid hr0
  have HPR := Lib.hid fun W => tword_any n W
  generalize Te.bword n = out at *
  have HWR : Hid (∀ W, Tb.Pw B r l w W → Calls Tryz.prog 38 #[.pointer (some ⟨r, 0, none⟩), .string ⟨(out).toArray⟩] W fun e w' => e = .returned (.tuple #[.int .i64 (out).length, .nilIface]) ∧ Tb.Pw B r (l ++ out) w w') := Lib.hid fun W hW => (bw_any hW.pr (Nat.le_trans hW.base hW.size) (out) hlen).mono fun e w' he => ⟨he.1, hW.trans he.2⟩
  clear h hr0
  go_enter Tryz.func24, Tryz.ntmps24
  go_wp2_with fail
  rw [← hw0]
  clear hw0
  go_wp2_with fail
  go_region_law (first | (go_simp; (go_at_call 41; refine (HPR.out _).mono ?_; rintro e w7 ⟨rfl, rfl⟩)) | (go_simp; (go_at_call 38; refine (HWR.out _ (by first | exact HP1.out | exact HP1.out.drew | exact HP2.out | exact HP2.out.drew)).mono ?_; rintro e w5 ⟨rfl, hw5⟩; have HW5 := Lib.hid hw5; clear hw5)))
  all_goals
    try go_simp
    try go_wp2_with fail
    go_end0
    exact ⟨rfl, HW5.out⟩

end Go.Proofs.YtojmcndiooiehaaGreatDoor

namespace Go.Proofs.YtojmcndiooiehaaGreatDoor
open Go.RowKit Go.Sort
open Me

namespace Te
theorem rd_kid {w : World} {G : Nat → Prop} {A : Option Addr} {xs : List Value} {ks : List Nd} (hr : Rd w G A xs) (ha : Ats w G ks xs) {i : Nat} (hi : i < ks.length) :
    ∃ b o v, A = some ⟨b, o, none⟩ ∧ b < w.heap.size ∧ G b ∧ At w G ks[i] v ∧ w.cell? ⟨b, o + i * 4, none⟩ = some (.int .i64 ks[i].k) ∧ w.cell? ⟨b, o + i * 4 + 1, none⟩ = some (.string ⟨ks[i].s.toArray⟩) ∧ w.cell? ⟨b, o + i * 4 + 2, none⟩ = some (.int .i64 ks[i].n) ∧ w.cell? ⟨b, o + i * 4 + 3, none⟩ = some v := by
  obtain ⟨v, h0, h1, h2, h3, h4⟩ := ha.get ks xs i hi
  obtain ⟨b, o, hA, hb, hG, hc⟩ := hr.lit (i * 4) (by rw [ha.len]; omega)
  exact ⟨b, o, v, hA, hb, hG, h0, hc _ _ h1, by rw [Nat.add_assoc]; exact hc _ _ h2, by rw [Nat.add_assoc]; exact hc _ _ h3, by rw [Nat.add_assoc]; exact hc _ _ h4⟩
/-- The contract of the printer's node. -/
def NodeC (B r : Nat) (x : Nd) : Prop := ∀ (l : List UInt8) (w : World) (kv : Value), Tb.Pr B r l w → B ≤ w.heap.size → At w (fun i => i < B) x kv → l.length + (txt x).length ≤ 1073741824 →
  Calls Tryz.prog 24 #[.pointer (some ⟨r, 0, none⟩), val x kv] w fun e w' => e = .returned (.tuple #[]) ∧ Tb.Pw B r (l ++ txt x) w w'
theorem txts_at (ks : List Nd) (i : Nat) (h : i < ks.length) : txts (decide (i = 0)) (ks.drop i) = (if i = 0 then [] else [44]) ++ (txt ks[i] ++ txts (decide (i + 1 = 0)) (ks.drop (i + 1))) := by
  rw [List.drop_eq_getElem_cons h, txts]
  rw [decide_eq_false (by omega : ¬ i + 1 = 0)]
  by_cases h0 : i = 0
  · rw [if_pos h0, decide_eq_true h0, if_pos rfl]
  · rw [if_neg h0, decide_eq_false h0, if_neg (by decide)]
theorem txts_len : ∀ (ks : List Nd) (b : Bool), ks.length ≤ (txts b ks).length + (if b = true then 1 else 0)
  | [], b => Nat.zero_le _
  | x :: r, b => by
    rw [txts, List.length_append, List.length_append, List.length_cons]
    have := txts_len r false
    rw [if_neg (by decide)] at this
    cases b
    · show _ ≤ 1 + _ + 0; omega
    · show _ ≤ 0 + _ + 1; omega
end Te

set_option maxRecDepth 100000 in
set_option maxHeartbeats 8000000 in
theorem tpcall_any {B r : Nat} {l : List UInt8} {w : World} (s : List UInt8) (n : Int) (ks : List Te.Nd) (kv : Value) (hX : ∀ x ∈ ks, Te.NodeC B r x) (h : Tb.Pr B r l w) (hB : B ≤ w.heap.size)
    (hat : Te.At w (fun i => i < B) (.mk 1 s n ks) kv) (hlen : l.length + (Te.txt (.mk 1 s n ks)).length ≤ 1073741824) :
    Calls Tryz.prog 37 #[.pointer (some ⟨r, 0, none⟩), .agg #[.int .i64 1, .string ⟨s.toArray⟩, .int .i64 n, kv]] w fun e w' => e = .returned (.tuple #[]) ∧ Tb.Pw B r (l ++ Te.txt (.mk 1 s n ks)) w w' := by
  have hrl := h.lt
  have HX := Lib.hid hX
  rw [Te.At] at hat
  obtain ⟨A, c, xs, rfl, hrd, hks⟩ := hat
  have HRD := Lib.hid hrd
  have HKS := Lib.hid hks
  obtain ⟨w0, hw0⟩ : ∃ w0, w0 = w.alloc (.cells #[.int .i64 1, .string ⟨s.toArray⟩, .int .i64 n, .slice A ks.length c] 24) := ⟨_, rfl⟩
  have HP1 : Hid (Tb.Pw B r l w w0) := Lib.hid (by rw [hw0]; exact (Tb.Pw.refl h hB).alloc _)
  have hr0 : RowAt w0 w.heap.size 24 #[.int .i64 1, .string ⟨s.toArray⟩, .int .i64 n, .slice A ks.length c] := by rw [hw0]; exact RowAt.new w _ _
  have x1 : w0.cell? ⟨w.heap.size, 1, none⟩ = some (.string ⟨s.toArray⟩) := (hr0.cell 1).trans rfl
  have HR0 := Lib.hid hr0
  obtain ⟨out, ho⟩ : ∃ out, out = Te.txt (.mk 1 s n ks) := ⟨_, rfl⟩
  rw [← ho] at hlen ⊢
  have hoe : out = (s ++ [40]) ++ (Te.txts (decide (0 = 0)) (ks.drop 0) ++ [41]) := by rw [ho, Te.txt, if_pos rfl]; simp
  have HO := Lib.hid hoe
  have hkl : ks.length ≤ 1073741825 := by
    have h1 := Te.txts_len ks true
    have h2 : (Te.txts true ks).length ≤ out.length := by rw [hoe]; simp only [List.length_append]; show (Te.txts true ks).length ≤ _ + ((Te.txts true ks).length + _); omega
    rw [if_pos rfl] at h1
    omega
  obtain ⟨t1, ht1⟩ : ∃ t1, t1 = s ++ [40] := ⟨_, rfl⟩
  have hol : t1.length ≤ out.length := by rw [hoe, ht1]; simp only [List.length_append]; omega
  have hc1 : (⟨s.toArray⟩ : ByteArray) ++ ⟨#[40]⟩ = ⟨t1.toArray⟩ := by rw [ht1]; apply ByteArray.ext; simp
  have hsl : s.length + 1 = t1.length := by rw [ht1]; simp
  have hA1 : ¬ 9223372036854775807 < s.length + 1 := by omega
  have HT1 := Lib.hid ht1
  have HWR : Hid (∀ (a z : List UInt8) W, a.length + z.length ≤ 1073741824 → Tb.Pw B r a w W → Calls Tryz.prog 38 #[.pointer (some ⟨r, 0, none⟩), .string ⟨z.toArray⟩] W fun e w' => e = .returned (.tuple #[.int .i64 z.length, .nilIface]) ∧ Tb.Pw B r (a ++ z) w w' ∧ Tb.Lets W w') := Lib.hid fun a z W hl hW => (bw_any hW.pr (Nat.le_trans hW.base hW.size) z hl).mono fun e w' he => ⟨he.1, hW.trans he.2, he.2.lets⟩
  have HL1 : Hid (l.length + t1.length ≤ 1073741824) := Lib.hid (by omega)
  have HLN := Lib.hid hlen
  have hbw : B ≤ w.heap.size := hB
  clear h hr0 hX hrd hks ho hoe ht1 hol hsl hlen hB
  go_enter Tryz.func37, Tryz.ntmps37
  go_wp2_with fail
  rw [← hw0]
  clear hw0
  go_region_law (go_simp; (go_at_call 38; refine (HWR.out l t1 _ HL1.out (by first | exact HP1.out | exact HP1.out.drew)).mono ?_; rintro e w5 ⟨rfl, hw5, hl5⟩; have HW5 := Lib.hid hw5; have hr5 := hl5 _ _ (by first | exact RowAt.drew HR0.out | exact HR0.out); clear hw5 hl5; have HR5 := Lib.hid hr5; clear hr5))
  have x3 : w5.cell? ⟨w.heap.size, 3, none⟩ = some (.slice A ks.length c) := (HR5.out.cell 3).trans rfl
  go_wp2_with fail
  go_loopw [4, 5, 16] (fun _ _ x wr => ∃ k : Nat, x = .int .i64 k ∧ k ≤ ks.length ∧ Hid (∃ a, Tb.Pw B r a w wr ∧ l ++ out = a ++ (Te.txts (decide (k = 0)) (ks.drop k) ++ [41]))) (fun _ _ x _ => ks.length - (intOf x).toNat)
  case atStart => exact ⟨0, rfl, Nat.zero_le _, Lib.hid ⟨l ++ t1, HW5.out, by rw [HO.out, HT1.out]; simp only [List.append_assoc]⟩⟩
  case round =>
    obtain ⟨k, rfl, hk, HA⟩ := hrel
    obtain ⟨a, hp, he⟩ := HA.out
    have HP := Lib.hid hp
    have HE := Lib.hid he
    have hll : (l ++ out).length ≤ 1073741824 := by rw [List.length_append]; exact HLN.out
    by_cases hlt : k < ks.length
    · obtain ⟨b1, o1, v, rfl, hb, hG, hat, c0, c1, c2, c3⟩ := Te.rd_kid HRD.out HKS.out hlt
      have hE2 := Te.txts_at ks k hlt
      have hmem : ks[k] ∈ ks := List.getElem_mem hlt
      generalize ks[k] = x at hmem hat c0 c1 c2 c3 hE2
      have hNC := HX.out x hmem
      obtain ⟨kk, ss, nn, kks⟩ := x
      obtain ⟨Ak, ck, xk, rfl, _, _⟩ := hat.form
      have HNC : Hid (∀ (a : List UInt8) W, Tb.Pw B r a w W → a.length + (Te.txt (.mk kk ss nn kks)).length ≤ 1073741824 → Calls Tryz.prog 24 #[.pointer (some ⟨r, 0, none⟩), .agg #[.int .i64 kk, .string ⟨ss.toArray⟩, .int .i64 nn, .slice Ak kks.length ck]] W fun e w' => e = .returned (.tuple #[]) ∧ Tb.Pw B r (a ++ Te.txt (.mk kk ss nn kks)) w w') := Lib.hid fun a W hW hl => (hNC a W _ hW.pr (Nat.le_trans hW.base hW.size) (Te.At.keep hW.bel.size (fun _ _ h => h) (fun i _ hg => hW.bel.block i hg) _ _ hat) hl).mono fun e w' he => ⟨he.1, hW.trans he.2⟩
      have hG : b1 < B := hG
      have d0 : wr.cell? ⟨b1, o1 + k * 4, none⟩ = some (.int .i64 kk) := (hp.bel.cell (p := ⟨b1, _, none⟩) hG).trans c0
      have d1 : wr.cell? ⟨b1, o1 + k * 4 + 1, none⟩ = some (.string ⟨ss.toArray⟩) := (hp.bel.cell (p := ⟨b1, _, none⟩) hG).trans c1
      have d2 : wr.cell? ⟨b1, o1 + k * 4 + 2, none⟩ = some (.int .i64 nn) := (hp.bel.cell (p := ⟨b1, _, none⟩) hG).trans c2
      have d3 : wr.cell? ⟨b1, o1 + k * 4 + 3, none⟩ = some (.slice Ak kks.length ck) := (hp.bel.cell (p := ⟨b1, _, none⟩) hG).trans c3
      have d3 : wr.cell? ⟨b1, o1 + k * 4 + 3, none⟩ = some (.slice Ak kks.length ck) := d3
      have hkI : (k : Int) < (ks.length : Int) := by omega
      have hrw := hp.pr.lt
      by_cases hk0 : k = 0
      · subst hk0
        simp only [Nat.zero_mul, Nat.add_zero] at d0 d1 d2 d3
        have HE3 : Hid (l ++ out = (a ++ Te.txt (.mk kk ss nn kks)) ++ (Te.txts (decide (0 + 1 = 0)) (ks.drop (0 + 1)) ++ [41])) := Lib.hid (by rw [he, hE2, if_pos rfl]; simp only [List.append_assoc, List.nil_append])
        have HAL : Hid (a.length + (Te.txt (.mk kk ss nn kks)).length ≤ 1073741824) := Lib.hid (by
          have := HE3.out ▸ hll
          simp only [List.length_append] at this
          omega)
        clear hp he hat hNC hE2 c0 c1 c2 c3 HA hll hmem
        go_wp2_with (go_at_call 24; go_must (refine (HNC.out a _ (HP.out.alloc _) HAL.out).mono ?_; rintro e w6 ⟨rfl, hw6⟩; have HW6 := Lib.hid hw6; clear hw6))
        go_roundw
        case rel => exact ⟨0 + 1, by go_num, by omega, Lib.hid ⟨_, HW6.out, HE3.out⟩⟩
        case measure => simp [intOf]; omega
      · have HE3 : Hid (l ++ out = ((a ++ [44]) ++ Te.txt (.mk kk ss nn kks)) ++ (Te.txts (decide (k + 1 = 0)) (ks.drop (k + 1)) ++ [41])) := Lib.hid (by rw [he, hE2, if_neg hk0]; simp only [List.append_assoc])
        have HAL : Hid ((a ++ [44]).length + (Te.txt (.mk kk ss nn kks)).length ≤ 1073741824 ∧ a.length + [(44 : UInt8)].length ≤ 1073741824) := Lib.hid (by
          have := HE3.out ▸ hll
          simp only [List.length_append, List.length_singleton] at this ⊢
          omega)
        have hkp : (0 : Int) < (k : Int) := by omega
        clear hp he hat hNC hE2 c0 c1 c2 c3 HA hll hmem
        go_wp2_with first
          | (go_at_call 38; go_must (refine (HWR.out a [44] _ HAL.out.2 (HP.out.alloc _)).mono ?_; rintro e w7 ⟨rfl, hw7, hl7⟩; have HW7 := Lib.hid hw7; have hr7 := hl7 _ _ (RowAt.new wr _ _); have z0 : w7.cell? ⟨wr.heap.size, 0, none⟩ = some (.int .i64 kk) := (hr7.cell 0).trans rfl; have z1 : w7.cell? ⟨wr.heap.size, 1, none⟩ = some (.string ⟨ss.toArray⟩) := (hr7.cell 1).trans rfl; have z2 : w7.cell? ⟨wr.heap.size, 2, none⟩ = some (.int .i64 nn) := (hr7.cell 2).trans rfl; have z3 : w7.cell? ⟨wr.heap.size, 3, none⟩ = some (.slice Ak kks.length ck) := (hr7.cell 3).trans rfl; clear hw7 hl7 hr7))
          | (go_at_call 24; go_must (refine (HNC.out (a ++ [44]) _ HW7.out HAL.out.1).mono ?_; rintro e w6 ⟨rfl, hw6⟩; have HW6 := Lib.hid hw6; clear hw6))
        go_roundw
        case rel => exact ⟨k + 1, by go_num, by omega, Lib.hid ⟨_, HW6.out, HE3.out⟩⟩
        case measure => simp [intOf]; omega
    · have hke : k = ks.length := by omega
      have HE3 : Hid (l ++ out = a ++ [41]) := Lib.hid (by rw [he, List.drop_eq_nil_of_le (by omega), Te.txts, List.nil_append])
      have HAL : Hid (a.length + [(41 : UInt8)].length ≤ 1073741824) := Lib.hid (by
          have := HE3.out ▸ hll
          simp only [List.length_append] at this
          omega)
      have hkI : ¬ (k : Int) < (ks.length : Int) := by omega
      clear hp he HA hll
      go_wp2_with (go_at_call 38; go_must (refine (HWR.out a [41] _ HAL.out HP.out).mono ?_; rintro e w7 ⟨rfl, hw7, hl7⟩; have HW7 := Lib.hid hw7; clear hw7 hl7))
      go_end0
      exact ⟨rfl, by rw [HE3.out]; exact HW7.out⟩
end Go.Proofs.YtojmcndiooiehaaGreatDoor
