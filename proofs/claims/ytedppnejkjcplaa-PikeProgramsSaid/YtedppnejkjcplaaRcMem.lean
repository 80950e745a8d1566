/-
  CHAPTER 12, MEMORY: the document's reader of expressions as an object; what a call leaves of it.
-/
import Derived.Test.YtedppnejkjcplaaRcP
import Derived.Test.YtedppnejkjcplaaPkWayP
import Derived.Test.YtedppnejkjcplaaRxPairs
namespace Go.Proofs.Ytedppnejkjcplaa
open Go.RowKit Go.Sort
open Me
open Pk

namespace Rc
open Rx (In)
/-- The reader in memory: b its block, v the program's slice. -/
structure At (W : World) (b : Nat) (v : Value) (r : Rr) : Prop where
  row : RowAt W b 88 #[.string ⟨r.s.toArray⟩, .int .i64 (r.at_ : Int), .int .i64 (r.deep : Int), .int .i64 r.err, .int .i64 (r.g : Int), v]
  own : W.ownsRow (b + 1) 61 4 v r.L.length (icells r.L)
section
variable {W W' : World} {b : Nat} {v : Value} {r : Rr}
theorem At.lt (h : At W b v r) : b < W.heap.size := h.row.lt
theorem At.c0 (h : At W b v r) : W.cell? ⟨b, 0, none⟩ = some (.string ⟨r.s.toArray⟩) := (h.row.cell 0).trans rfl
theorem At.c1 (h : At W b v r) : W.cell? ⟨b, 1, none⟩ = some (.int .i64 (r.at_ : Int)) := (h.row.cell 1).trans rfl
theorem At.c2 (h : At W b v r) : W.cell? ⟨b, 2, none⟩ = some (.int .i64 (r.deep : Int)) := (h.row.cell 2).trans rfl
theorem At.c3 (h : At W b v r) : W.cell? ⟨b, 3, none⟩ = some (.int .i64 r.err) := (h.row.cell 3).trans rfl
theorem At.c4 (h : At W b v r) : W.cell? ⟨b, 4, none⟩ = some (.int .i64 (r.g : Int)) := (h.row.cell 4).trans rfl
theorem At.c5 (h : At W b v r) : W.cell? ⟨b, 5, none⟩ = some v := (h.row.cell 5).trans rfl
theorem At.fz (h : At W b v r) (i : Nat) : W.frozen? ⟨b, i, none⟩ = false := h.row.frozen i
theorem At.olt (h : At W b v r) : ∀ g, v.ownBlock = some g → b + 1 ≤ g ∧ g < W.heap.size := fun g hg => World.ownsRow.lt h.own g hg
theorem At.one (h : At W b v r) : ∀ u ∈ icells r.L, u.oneCell' = true := by
  intro u hu
  obtain ⟨x, _, hx⟩ := List.mem_flatMap.1 hu
  unfold icell at hx
  simp at hx
  rcases hx with rfl | rfl | rfl | rfl <;> rfl
theorem At.form (h : At W b v r) : ∃ A c, v = .slice A r.L.length c := own_form h.own
theorem At.set1 (h : At W b v r) (n : Nat) : At (W.setCell ⟨b, 1, none⟩ (.int .i64 (n : Int))) b v { r with at_ := n } :=
  ⟨h.row.set_ 1 _, owns_keep h.own fun g hg => Below.heap_setCell W _ _ g (by have := (h.olt g hg).1; show g ≠ b; omega)⟩
theorem At.set2 (h : At W b v r) (n : Nat) : At (W.setCell ⟨b, 2, none⟩ (.int .i64 (n : Int))) b v { r with deep := n } :=
  ⟨h.row.set_ 2 _, owns_keep h.own fun g hg => Below.heap_setCell W _ _ g (by have := (h.olt g hg).1; show g ≠ b; omega)⟩
theorem At.set3 (h : At W b v r) (n : Int) : At (W.setCell ⟨b, 3, none⟩ (.int .i64 n)) b v { r with err := n } :=
  ⟨h.row.set_ 3 _, owns_keep h.own fun g hg => Below.heap_setCell W _ _ g (by have := (h.olt g hg).1; show g ≠ b; omega)⟩
theorem At.set4 (h : At W b v r) (n : Nat) : At (W.setCell ⟨b, 4, none⟩ (.int .i64 (n : Int))) b v { r with g := n } :=
  ⟨h.row.set_ 4 _, owns_keep h.own fun g hg => Below.heap_setCell W _ _ g (by have := (h.olt g hg).1; show g ≠ b; omega)⟩
theorem At.below (h : At W b v r) (k : Below W.heap.size W W') : At W' b v r :=
  ⟨h.row.below k h.lt, owns_keep h.own fun g hg => k.block g (h.olt g hg).2⟩
end
/-- What a call leaves: the reader and the program's row may have turned, and new blocks were laid. -/
structure Did (w : World) (b : Nat) (v : Value) (r' : Rr) (v' : Value) (w' : World) : Prop where
  at_ : At w' b v' r'
  kp : Kp (fun i => i = b ∨ v.ownBlock = some i) w w'
  new : ∀ g, v'.ownBlock = some g → v.ownBlock = some g ∨ w.heap.size ≤ g
section
variable {w w1 w2 : World} {b : Nat} {v v1 v2 : Value} {r r1 r2 : Rr}
theorem Did.refl (h : At w b v r) : Did w b v r v w := ⟨h, Kp.refl _ _, fun _ h => .inl h⟩
theorem Did.trans (h : Did w b v r1 v1 w1) (k : Did w1 b v1 r2 v2 w2) : Did w b v r2 v2 w2 :=
  ⟨k.at_, h.kp.trans k.kp fun i hi e => e.imp id fun e => (h.new i e).resolve_right (by omega), fun g hg => by
    rcases k.new g hg with e | e
    · exact h.new g e
    · exact .inr (Nat.le_trans h.kp.size e)⟩
theorem Did.on (h : Did w b v r1 v1 w1) (k : Below w1.heap.size w1 w2) : Did w b v r1 v1 w2 :=
  ⟨h.at_.below k, h.kp.trans (Kp.of_below (O := fun _ => False) k) fun _ _ e => e.elim, h.new⟩
theorem Did.size (h : Did w b v r1 v1 w1) : w.heap.size ≤ w1.heap.size := h.kp.size
theorem Did.set1 (h : Did w b v r1 v1 w1) (n : Nat) : Did w b v { r1 with at_ := n } v1 (w1.setCell ⟨b, 1, none⟩ (.int .i64 (n : Int))) := ⟨h.at_.set1 n, h.kp.setCell _ (.inr (.inl rfl)) _, h.new⟩
theorem Did.set2 (h : Did w b v r1 v1 w1) (n : Nat) : Did w b v { r1 with deep := n } v1 (w1.setCell ⟨b, 2, none⟩ (.int .i64 (n : Int))) := ⟨h.at_.set2 n, h.kp.setCell _ (.inr (.inl rfl)) _, h.new⟩
theorem Did.set3 (h : Did w b v r1 v1 w1) (n : Int) : Did w b v { r1 with err := n } v1 (w1.setCell ⟨b, 3, none⟩ (.int .i64 n)) := ⟨h.at_.set3 n, h.kp.setCell _ (.inr (.inl rfl)) _, h.new⟩
theorem Did.set4 (h : Did w b v r1 v1 w1) (n : Nat) : Did w b v { r1 with g := n } v1 (w1.setCell ⟨b, 4, none⟩ (.int .i64 (n : Int))) := ⟨h.at_.set4 n, h.kp.setCell _ (.inr (.inl rfl)) _, h.new⟩
theorem Did.drewN (h : Did w b v r1 v1 w1) (n : Nat) : Did w b v r1 v1 (w1.drewN n) := ⟨⟨h.at_.row, h.at_.own⟩, h.kp.drewN n, h.new⟩
/-- Blocks that lie behind the call's own start may turn, where the program's row is the caller's. -/
theorem Did.low (h0 : At w b v r) (h : Did w b v r1 v w1) (k : Below w.heap.size w1 w2) : Did w b v r1 v w2 :=
  ⟨⟨(k.block b h0.lt).trans h.at_.row, owns_keep h.at_.own fun g hg => k.block g (h0.olt g hg).2⟩, h.kp.trans (O' := fun i => w.heap.size ≤ i) ⟨k.os, k.tape, k.output, k.size, fun i _ hn => k.block i (by omega)⟩ fun i hi e => absurd hi (Nat.not_lt.2 e), h.new⟩
/-- A row beside the reader. -/
def Side (W : World) (b : Nat) (v : Value) (A : Option Addr) (xs : List Value) : Prop := Rd W (fun i => i ≠ b ∧ v.ownBlock ≠ some i) A xs
theorem Did.side (h : Did w b v r1 v1 w1) {A : Option Addr} {xs : List Value} (s : Side w b v A xs) : Side w1 b v1 A xs := fun hn => by
  obtain ⟨ad, e, hl, ⟨h1, h2⟩, hc⟩ := s hn
  refine ⟨ad, e, Nat.lt_of_lt_of_le hl h.size, ⟨h1, fun e => ?_⟩, fun j u hu => ?_⟩
  · rcases h.new _ e with e | e
    · exact h2 e
    · omega
  · exact (World.cell?_of_block (by rw [Me.block_add]; exact h.kp.block _ hl fun e => e.elim h1 h2)).trans (hc j u hu)
/-- A block that is neither the reader's nor the program's. -/
theorem Did.row (h : Did w b v r1 v1 w1) {n : Nat} {t : TypeId} {X : Array Value} (hr : RowAt w n t X) (h1 : n ≠ b) (h2 : v.ownBlock ≠ some n) : RowAt w1 n t X := (h.kp.block n hr.lt fun e => e.elim h1 h2).trans hr
/-- A block that a call laid stays apart from the program's row. -/
theorem Did.apart (h : Did w b v r1 v1 w1) {n : Nat} (hn : n < w.heap.size) (h2 : v.ownBlock ≠ some n) : v1.ownBlock ≠ some n := fun e => by
  rcases h.new _ e with e | e
  · exact h2 e
  · omega
end
end Rc
end Go.Proofs.Ytedppnejkjcplaa
