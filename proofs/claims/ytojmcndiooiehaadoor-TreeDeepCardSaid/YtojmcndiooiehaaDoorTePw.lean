/-
  CONTRACTS: chapter 15: printing under way; the mark around a string, the words of a bool.
-/
import Derived.Test.YtojmcndiooiehaaDoorTeBld
import Derived.Test.YtojmcndiooiehaaDoorDcPr
import Derived.Deep.RegionLaw
namespace Go.Proofs.YtojmcndiooiehaaDoor
open Go.RowKit Go.Sort
open Me

namespace Tb
/-- A printer: what it holds is l. -/
def Pr (B r : Nat) (l : List UInt8) (w : World) : Prop := ∃ p v, Bl B r p v l w ∧ (p = .pointer none ∨ p = .pointer (some ⟨r, 0, none⟩))
theorem Pr.lt {B r : Nat} {l : List UInt8} {w : World} (h : Pr B r l w) : r < w.heap.size := by obtain ⟨p, v, h, _⟩ := h; exact h.lt
theorem Pr.keep {B r : Nat} {l : List UInt8} {w w' : World} (h : Pr B r l w) (hb : Below w.heap.size w w') : Pr B r l w' := by
  obtain ⟨p, v, h, hp⟩ := h
  exact ⟨p, v, h.keep hb, hp⟩
/-- Blocks of nodes stay. -/
def Lets (w w' : World) : Prop := ∀ (k : Nat) (cs : Array Value), RowAt w k 25 cs → RowAt w' k 25 cs
/-- From one world on, printing: what is held is l. -/
structure Pw (B r : Nat) (l : List UInt8) (w W : World) : Prop where
  pr : Pr B r l W
  bel : Below B w W
  lets : Lets w W
  base : B ≤ w.heap.size
theorem Pw.refl {B r : Nat} {l : List UInt8} {w : World} (h : Pr B r l w) (hB : B ≤ w.heap.size) : Pw B r l w w := ⟨h, Below.refl _ _, fun _ _ h => h, hB⟩
theorem Pw.trans {B r : Nat} {l l2 : List UInt8} {w W W2 : World} (h : Pw B r l w W) (k : Pw B r l2 W W2) : Pw B r l2 w W2 := ⟨k.pr, h.bel.trans k.bel, fun g cs e => k.lets g cs (h.lets g cs e), h.base⟩
theorem Pw.on {B r : Nat} {l : List UInt8} {w W W2 : World} (h : Pw B r l w W) (k : Below W.heap.size W W2) : Pw B r l w W2 :=
  ⟨h.pr.keep k, h.bel.trans (k.mono (Nat.le_trans h.base h.bel.size)), fun g cs e => (h.lets g cs e).below k (h.lets g cs e).lt, h.base⟩
theorem Pw.drew {B r : Nat} {l : List UInt8} {w W : World} (h : Pw B r l w W) : Pw B r l w W.drew := h.on (Below.drew (Below.refl _ _))
theorem Pw.alloc {B r : Nat} {l : List UInt8} {w W : World} (h : Pw B r l w W) (o : Obj) : Pw B r l w (W.alloc o) := h.on ((Below.refl _ _).alloc (Nat.le_refl _) _)
theorem Pw.size {B r : Nat} {l : List UInt8} {w W : World} (h : Pw B r l w W) : w.heap.size ≤ W.heap.size := h.bel.size
theorem ndne : 25 ≠ u8T := by decide
theorem ndnr : 25 ≠ rT := by decide
end Tb

theorem bw_any {B r : Nat} {l : List UInt8} {w : World} (h : Tb.Pr B r l w) (hB : B ≤ w.heap.size) (s : List UInt8) (hlen : l.length + s.length ≤ 1073741824) :
    Calls Tryd.prog 19 #[.pointer (some ⟨r, 0, none⟩), .string ⟨s.toArray⟩] w fun e w' => e = .returned (.tuple #[.int .i64 s.length, .nilIface]) ∧ Tb.Pw B r (l ++ s) w w' := by
  obtain ⟨p, v, h, hp⟩ := h
  obtain ⟨_, h21, h22⟩ := id h
  refine (tbWrite_any h hp s hlen hB).mono ?_
  rintro e w' ⟨rfl, ⟨v', h'⟩, hb, hs, hk⟩
  refine ⟨rfl, ⟨_, v', h', .inr rfl⟩, hb, fun k cs hr => ?_, hB⟩
  refine (hk k hr.lt ?_ ?_).trans hr
  · rintro rfl
    have := Option.some.inj (h21.symm.trans hr)
    injection this with _ e1 _
    exact Tb.ndnr e1.symm
  · exact Lib.ownBlock_ne h22 hr Tb.ndne

namespace Te
def mark (s : List UInt8) : UInt8 := if s.contains 34 = true then 39 else 34
theorem quoted_eq (s : List UInt8) : quoted s = mark s :: (s ++ [mark s]) := by
  unfold quoted mark
  split <;> simp
end Te

set_option maxHeartbeats 1000000 in
theorem tmark_any (s : List UInt8) (w : World) :
    Calls Tryd.prog 21 #[.string ⟨s.toArray⟩] w fun e w' => e = .returned (.string ⟨#[Te.mark s]⟩) ∧ w = w' := by
  have HC := Lib.hid fun W => contains_one s 34 W
  have HM : Hid (Te.mark s = if s.contains 34 = true then 39 else 34) := Lib.hid rfl
  generalize Te.mark s = m at *
  generalize s.contains 34 = q at *
  cases q
  · obtain rfl : m = 34 := HM.out
    go_enter Tryd.func21, Tryd.ntmps21
    go_wp2_with (go_at_call 38; go_must (refine (HC.out _).mono ?_; rintro e w2 ⟨rfl, rfl⟩))
    go_ret
    exact ⟨rfl, rfl⟩
  · obtain rfl : m = 39 := HM.out
    go_enter Tryd.func21, Tryd.ntmps21
    go_wp2_with (go_at_call 38; go_must (refine (HC.out _).mono ?_; rintro e w2 ⟨rfl, rfl⟩))
    go_ret
    exact ⟨rfl, rfl⟩

namespace Te
def bword (n : Int) : List UInt8 := if n = 1 then trueT else falseT
end Te
set_option maxHeartbeats 1000000 in
theorem tword_any (n : Int) (w : World) :
    Calls Tryd.prog 22 #[.int .i64 n] w fun e w' => e = .returned (.string ⟨(Te.bword n).toArray⟩) ∧ w = w' := by
  by_cases h : n = 1
  · subst h
    go_enter Tryd.func22, Tryd.ntmps22
    go_wp2
    go_ret
    exact ⟨rfl, rfl⟩
  · have HM : Hid (Te.bword n = [102, 97, 108, 115, 101]) := Lib.hid (if_neg h)
    have hb : (n == 1) = false := by simpa using h
    generalize Te.bword n = m at *
    go_enter Tryd.func22, Tryd.ntmps22
    go_wp2
    go_ret
    exact ⟨by rw [HM.out]; rfl, rfl⟩
end Go.Proofs.YtojmcndiooiehaaDoor
