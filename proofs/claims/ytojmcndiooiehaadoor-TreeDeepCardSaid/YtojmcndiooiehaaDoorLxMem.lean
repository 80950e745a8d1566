/-
  CHAPTER 14, MEMORY: tokens as rows; the text that is read; skip, takes, take.
-/
import Derived.Test.YtojmcndiooiehaaDoorLxByte
import Derived.Deep.RegionLaw
namespace Go.Proofs.YtojmcndiooiehaaDoor
open Go.RowKit
open Me

namespace Lx
theorem tokinfo : (Tryd.prog.info? 55).map (fun i => (i.zero, i.size, i.bytes)) = some (some (.agg #[.int .i64 0, .string ⟨#[]⟩]), 2, 24) := by kernel_rfl
/-- Tokens as cells. -/
def cellT (x : Tok) : List Value := [.int .i64 x.1, .string ⟨x.2.toArray⟩]
def cellsT (l : List Tok) : List Value := l.flatMap cellT
theorem cellsT_len (l : List Tok) : (cellsT l).length = l.length * 2 := by
  induction l with
  | nil => rfl
  | cons x l ih => unfold cellsT at *; rw [List.flatMap_cons, List.length_append, ih]; simp [cellT]; omega
theorem cellsT_append (l m : List Tok) : cellsT (l ++ m) = cellsT l ++ cellsT m := by unfold cellsT; rw [List.flatMap_append]
theorem cellsT_single (k : Int) (t : List UInt8) : cellsT [(k, t)] = [.int .i64 k, .string ⟨t.toArray⟩] := by unfold cellsT cellT; simp
theorem cellsT_one (l : List Tok) : ∀ u ∈ cellsT l, u.oneCell' = true := by
  intro u hu
  unfold cellsT at hu
  obtain ⟨x, _, hx⟩ := List.mem_flatMap.1 hu
  unfold cellT at hx
  simp at hx
  rcases hx with rfl | rfl <;> rfl
/-- A row of tokens of one's own. -/
def OwnT (e : TypeId) (base : Nat) (w : World) (v : Value) (l : List Tok) : Prop := w.ownsRow base e 2 v l.length (cellsT l)
section
variable {e : TypeId}
theorem OwnT.lt {base : Nat} {w : World} {v : Value} {l : List Tok} (h : OwnT e base w v l) : ∀ g, v.ownBlock = some g → base ≤ g ∧ g < w.heap.size := fun g hg => World.ownsRow.lt h g hg
theorem OwnT.nil (a : Nat) (w : World) : OwnT e a w (.slice none 0 0) [] := ⟨rfl, .inl ⟨rfl, rfl⟩⟩
theorem OwnT.kp {a : Nat} {w w' : World} {v : Value} {l : List Tok} {O : Nat → Prop} (h : OwnT e a w v l) (k : Kp O w w') (hO : ∀ g, v.ownBlock = some g → ¬ O g) : OwnT e a w' v l :=
  owns_keep h fun g hg => k.block g (h.lt g hg).2 (hO g hg)
theorem OwnT.below {a : Nat} {w w' : World} {v : Value} {l : List Tok} (h : OwnT e a w v l) (k : Below w.heap.size w w') : OwnT e a w' v l :=
  owns_keep h fun g hg => k.block g (h.lt g hg).2
theorem OwnT.base {a b : Nat} {w : World} {v : Value} {l : List Tok} (h : OwnT e b w v l) (hab : a ≤ b) : OwnT e a w v l := by
  refine ⟨h.1, ?_⟩
  rcases h.2 with hn | ⟨g, cap, cur, hv, hb, rest⟩
  · exact .inl hn
  · exact .inr ⟨g, cap, cur, hv, by omega, rest⟩
theorem OwnT.form {base : Nat} {w : World} {v : Value} {l : List Tok} (h : OwnT e base w v l) : ∃ A c, v = .slice A l.length c := by
  rcases h.2 with ⟨rfl, h0⟩ | ⟨g', cap, cur, rfl, _⟩
  · exact ⟨none, 0, by rw [h0]⟩
  · exact ⟨_, _, rfl⟩
theorem OwnT.more {base : Nat} {w : World} {v : Value} {l : List Tok} {k : Int} {t : List UInt8} {n : Nat} (hn : n = l.length) (h : w.ownsRow base e 2 v (n + 1) (cellsT l ++ [.int .i64 k, .string ⟨t.toArray⟩])) : OwnT e base w v (l ++ [(k, t)]) := by
  unfold OwnT
  rw [List.length_append, cellsT_append, cellsT_single, ← hn]
  exact h
end
/-- The lexer in memory: b its block, v its tokens. -/
def Tx (W : World) (b : Nat) (v : Value) (r : List UInt8) : Prop := RowAt W b 52 #[.string ⟨r.toArray⟩, v]
/-- What a call leaves of it: the text alone has turned. -/
structure TxD (w : World) (b : Nat) (v : Value) (r' : List UInt8) (w' : World) : Prop where
  row : Tx w' b v r'
  kp : Kp (fun i => i = b) w w'
section
variable {w w1 w2 : World} {b : Nat} {v : Value} {r r1 r2 : List UInt8}
theorem Tx.lt (h : Tx w b v r) : b < w.heap.size := RowAt.lt h
theorem Tx.c0 (h : Tx w b v r) : w.cell? ⟨b, 0, none⟩ = some (.string ⟨r.toArray⟩) := (RowAt.cell h 0).trans rfl
theorem Tx.c1 (h : Tx w b v r) : w.cell? ⟨b, 1, none⟩ = some v := (RowAt.cell h 1).trans rfl
theorem Tx.fz (h : Tx w b v r) (i : Nat) : w.frozen? ⟨b, i, none⟩ = false := RowAt.frozen h i
theorem TxD.refl (h : Tx w b v r) : TxD w b v r w := ⟨h, Kp.refl _ _⟩
theorem TxD.trans (h : TxD w b v r1 w1) (k : TxD w1 b v r2 w2) : TxD w b v r2 w2 := ⟨k.row, h.kp.trans k.kp fun _ _ e => e⟩
theorem TxD.on (h : TxD w b v r1 w1) (k : Below w1.heap.size w1 w2) : TxD w b v r1 w2 := ⟨RowAt.below h.row k (RowAt.lt h.row), h.kp.trans (Kp.of_below (O := fun _ => False) k) fun _ _ e => e.elim⟩
theorem TxD.set0 (h : TxD w b v r1 w1) (r2 : List UInt8) : TxD w b v r2 (w1.setCell ⟨b, 0, none⟩ (.string ⟨r2.toArray⟩)) := ⟨RowAt.set_ h.row 0 _, h.kp.setCell _ (.inr rfl) _⟩
theorem TxD.drewN (h : TxD w b v r1 w1) (n : Nat) : TxD w b v r1 (w1.drewN n) := ⟨h.row, h.kp.drewN n⟩
theorem TxD.size (h : TxD w b v r1 w1) : w.heap.size ≤ w1.heap.size := h.kp.size
end
end Lx

set_option maxHeartbeats 1000000 in
theorem lskip_any {w : World} {b : Nat} {v : Value} {r : List UInt8} (h : Lx.Tx w b v r) :
    Calls Tryd.prog 14 #[.pointer (some ⟨b, 0, none⟩), .string ⟨#[32, 9]⟩] w fun e w' => e = .returned (.tuple #[]) ∧ Lx.TxD w b v (Lx.skipB r) w' := by
  have c0 := h.c0
  have hbl := h.lt
  have HD0 := Lib.hid (Lx.TxD.refl h)
  have HT := Lib.hid fun W => trimLeft_blanks r W
  generalize Lx.skipB r = r2 at *
  clear h
  go_enter Tryd.func14, Tryd.ntmps14
  go_wp2_with (go_at_call 23; go_must (refine (HT.out _).mono ?_; rintro e w2 ⟨rfl, hb2⟩; have HD := Lib.hid (HD0.out.on hb2); have d0 := HD.out.row.c0; have f0 := HD.out.row.fz 0; clear hb2))
  ((try simp only [Exit.inBlock, Exit.then]); first | (refine bodyPost_ret (results_none rfl _ _ _) rfl ?_) | (refine bodyPost_end (results_none rfl _ _ _) rfl ?_))
  exact ⟨rfl, HD.out.set0 r2⟩

set_option maxHeartbeats 1000000 in
theorem ltakes_any {w : World} {b : Nat} {v : Value} {r : List UInt8} (h : Lx.Tx w b v r) (c : UInt8) :
    Calls Tryd.prog 24 #[.pointer (some ⟨b, 0, none⟩), .string ⟨#[c]⟩] w fun e w' => e = .returned (.bool (Lx.hdIs c r)) ∧ Lx.TxD w b v (Lx.cutH c r) w' := by
  have c0 := h.c0
  have f0 := h.fz 0
  have hbl := h.lt
  have HD0 := Lib.hid (Lx.TxD.refl h)
  have HT := Lib.hid fun W => cutPrefix_one r c W
  generalize Lx.cutH c r = r2 at *
  generalize Lx.hdIs c r = q at *
  clear h
  go_enter Tryd.func24, Tryd.ntmps24
  go_wp2_with (go_at_call 43; go_must (refine (HT.out _).mono ?_; rintro e w2 ⟨rfl, rfl⟩))
  go_ret
  exact ⟨rfl, HD0.out.set0 r2⟩

set_option maxHeartbeats 1000000 in
theorem ltake_any {w : World} {b : Nat} {v : Value} {r : List UInt8} (h : Lx.Tx w b v r) (hl : r.length ≤ 4294967280) (n : Nat) (hn : n ≤ r.length) :
    Calls Tryd.prog 45 #[.pointer (some ⟨b, 0, none⟩), .int .i64 (n : Int)] w fun e w' => e = .returned (.string ⟨(r.take n).toArray⟩) ∧ Lx.TxD w b v (r.drop n) w' := by
  have c0 := h.c0
  have hbl := h.lt
  have HD0 := Lib.hid (Lx.TxD.refl h)
  have HT := Lib.hid fun W => lclone_str (r.take n) (by simp; omega) W
  have hX : (⟨r.toArray⟩ : ByteArray).extract 0 n = ⟨(r.take n).toArray⟩ := by
    apply ByteArray.ext
    rw [ByteArray.data_extract]
    apply Array.toList_inj.1
    simp
  have hY : (⟨r.toArray⟩ : ByteArray).extract n r.length = ⟨(r.drop n).toArray⟩ := by
    apply ByteArray.ext
    rw [ByteArray.data_extract]
    apply Array.toList_inj.1
    simp [List.take_of_length_le]
  have hnI : (n : Int) ≤ (r.length : Int) := by omega
  have hn0 : (0 : Int) ≤ (n : Int) := by omega
  generalize r.take n = t at *
  generalize r.drop n = r2 at *
  clear h
  go_enter Tryd.func45, Tryd.ntmps45
  go_wp2_with (go_at_call 60; go_must (refine (HT.out _).mono ?_; rintro e w2 ⟨rfl, hb2⟩; have HD := Lib.hid (HD0.out.on hb2); have d0 := HD.out.row.c0; have f0 := HD.out.row.fz 0; clear hb2))
  go_ret
  exact ⟨rfl, HD.out.set0 r2⟩
end Go.Proofs.YtojmcndiooiehaaDoor
