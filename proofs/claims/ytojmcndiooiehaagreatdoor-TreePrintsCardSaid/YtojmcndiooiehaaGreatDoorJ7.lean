/-
  LxMem: CHAPTER 14, MEMORY: tokens as rows; the text that is read; skip, takes, take.
  LxTok: CONTRACTS: chapter 14: a quoted text.
-/
import Derived.Test.YtojmcndiooiehaaGreatDoorJ6
import Derived.Deep.RegionLaw
import Derived.Laws.ResultCell

set_option linter.unusedSimpArgs false
set_option linter.unusedVariables false
namespace Go.Proofs.YtojmcndiooiehaaGreatDoor
open Go.RowKit
open Me

namespace Lx
theorem tokinfo : (Tryz.prog.info? 67).map (fun i => (i.zero, i.size, i.bytes)) = some (some (.agg #[.int .i64 0, .string ⟨#[]⟩]), 2, 24) := by kernel_rfl
theorem reftokinfo : (Tryz.prog.info? 71).map (fun i => (i.zero, i.size, i.bytes)) = some (some (.agg #[.int .i64 0, .string ⟨#[]⟩]), 2, 24) := by kernel_rfl
/-- Tokens as cells. -/
def cellT (x : Tok) : List Value := [.int .i64 x.1, .string ⟨x.2.toArray⟩]
def cellsT (l : List Tok) : List Value := l.flatMap cellT
theorem cellsT_len (l : List Tok) : (cellsT l).length = l.length * 2 := by
  induction l with
  | nil => rfl
  | cons x l ih => unfold cellsT at *; rw [List.flatMap_cons, List.length_append, ih]; simp [cellT]; omega
theorem cellsT_append (l m : List Tok) : cellsT (l ++ m) = cellsT l ++ cellsT m := by unfold cellsT; rw [List.flatMap_append]
theorem cellsT_single (k : Int) (t : List UInt8) : cellsT [(k, t)] = [.int .i64 k, .string ⟨t.toArray⟩] := by unfold cellsT cellT; simp
theorem cellsT_one (l : List Tok) : ∀ u ∈ cellsT l, u.oneCell' = true := by
  intro u hu
  unfold cellsT at hu
  obtain ⟨x, _, hx⟩ := List.mem_flatMap.1 hu
  unfold cellT at hx
  simp at hx
  rcases hx with rfl | rfl <;> rfl
/-- A row of tokens of one's own. -/
def OwnT (e : TypeId) (base : Nat) (w : World) (v : Value) (l : List Tok) : Prop := w.ownsRow base e 2 v l.length (cellsT l)
section
variable {e : TypeId}
theorem OwnT.lt {base : Nat} {w : World} {v : Value} {l : List Tok} (h : OwnT e base w v l) : ∀ g, v.ownBlock = some g → base ≤ g ∧ g < w.heap.size := fun g hg => World.ownsRow.lt h g hg
theorem OwnT.nil (a : Nat) (w : World) : OwnT e a w (.slice none 0 0) [] := ⟨rfl, .inl ⟨rfl, rfl⟩⟩
theorem OwnT.kp {a : Nat} {w w' : World} {v : Value} {l : List Tok} {O : Nat → Prop} (h : OwnT e a w v l) (k : Kp O w w') (hO : ∀ g, v.ownBlock = some g → ¬ O g) : OwnT e a w' v l :=
  owns_keep h fun g hg => k.block g (h.lt g hg).2 (hO g hg)
theorem OwnT.below {a : Nat} {w w' : World} {v : Value} {l : List Tok} (h : OwnT e a w v l) (k : Below w.heap.size w w') : OwnT e a w' v l :=
  owns_keep h fun g hg => k.block g (h.lt g hg).2
theorem OwnT.base {a b : Nat} {w : World} {v : Value} {l : List Tok} (h : OwnT e b w v l) (hab : a ≤ b) : OwnT e a w v l := by
  refine ⟨h.1, ?_⟩
  rcases h.2 with hn | ⟨g, cap, cur, hv, hb, rest⟩
  · exact .inl hn
  · exact .inr ⟨g, cap, cur, hv, by omega, rest⟩
theorem OwnT.form {base : Nat} {w : World} {v : Value} {l : List Tok} (h : OwnT e base w v l) : ∃ A c, v = .slice A l.length c := by
  rcases h.2 with ⟨rfl, h0⟩ | ⟨g', cap, cur, rfl, _⟩
  · exact ⟨none, 0, by rw [h0]⟩
  · exact ⟨_, _, rfl⟩
theorem OwnT.more {base : Nat} {w : World} {v : Value} {l : List Tok} {k : Int} {t : List UInt8} {n : Nat} (hn : n = l.length) (h : w.ownsRow base e 2 v (n + 1) (cellsT l ++ [.int .i64 k, .string ⟨t.toArray⟩])) : OwnT e base w v (l ++ [(k, t)]) := by
  unfold OwnT
  rw [List.length_append, cellsT_append, cellsT_single, ← hn]
  exact h
end
/-- The lexer in memory: b its block, v its tokens. -/
def Tx (W : World) (b : Nat) (v : Value) (r : List UInt8) : Prop := RowAt W b 64 #[.string ⟨r.toArray⟩, v]
/-- What a call leaves of it: the text alone has turned. -/
structure TxD (w : World) (b : Nat) (v : Value) (r' : List UInt8) (w' : World) : Prop where
  row : Tx w' b v r'
  kp : Kp (fun i => i = b) w w'
section
variable {w w1 w2 : World} {b : Nat} {v : Value} {r r1 r2 : List UInt8}
theorem Tx.lt (h : Tx w b v r) : b < w.heap.size := RowAt.lt h
theorem Tx.c0 (h : Tx w b v r) : w.cell? ⟨b, 0, none⟩ = some (.string ⟨r.toArray⟩) := (RowAt.cell h 0).trans rfl
theorem Tx.c1 (h : Tx w b v r) : w.cell? ⟨b, 1, none⟩ = some v := (RowAt.cell h 1).trans rfl
theorem Tx.fz (h : Tx w b v r) (i : Nat) : w.frozen? ⟨b, i, none⟩ = false := RowAt.frozen h i
theorem TxD.refl (h : Tx w b v r) : TxD w b v r w := ⟨h, Kp.refl _ _⟩
theorem TxD.trans (h : TxD w b v r1 w1) (k : TxD w1 b v r2 w2) : TxD w b v r2 w2 := ⟨k.row, h.kp.trans k.kp fun _ _ e => e⟩
theorem TxD.on (h : TxD w b v r1 w1) (k : Below w1.heap.size w1 w2) : TxD w b v r1 w2 := ⟨RowAt.below h.row k (RowAt.lt h.row), h.kp.trans (Kp.of_below (O := fun _ => False) k) fun _ _ e => e.elim⟩
theorem TxD.set0 (h : TxD w b v r1 w1) (r2 : List UInt8) : TxD w b v r2 (w1.setCell ⟨b, 0, none⟩ (.string ⟨r2.toArray⟩)) := ⟨RowAt.set_ h.row 0 _, h.kp.setCell _ (.inr rfl) _⟩
theorem TxD.drewN (h : TxD w b v r1 w1) (n : Nat) : TxD w b v r1 (w1.drewN n) := ⟨h.row, h.kp.drewN n⟩
theorem TxD.size (h : TxD w b v r1 w1) : w.heap.size ≤ w1.heap.size := h.kp.size
end
end Lx

set_option maxHeartbeats 1000000 in
theorem lskip_any {w : World} {b : Nat} {v : Value} {r : List UInt8} (h : Lx.Tx w b v r) :
    Calls Tryz.prog 30 #[.pointer (some ⟨b, 0, none⟩), .string ⟨#[32, 9]⟩] w fun e w' => e = .returned (.tuple #[]) ∧ Lx.TxD w b v (Lx.skipB r) w' := by
  have c0 := h.c0
  have hbl := h.lt
  have HD0 := Lib.hid (Lx.TxD.refl h)
  have HT := Lib.hid fun W => trimLeft_blanks r W
  generalize Lx.skipB r = r2 at *
  clear h
  go_enter Tryz.func30, Tryz.ntmps30
  go_wp2_with (go_at_call 50; go_must (refine (HT.out _).mono ?_; rintro e w2 ⟨rfl, hb2⟩; have HD := Lib.hid (HD0.out.on hb2); have d0 := HD.out.row.c0; have f0 := HD.out.row.fz 0; clear hb2))
  ((try simp only [Exit.inBlock, Exit.then]); first | (refine bodyPost_ret (results_none rfl _ _ _) rfl ?_) | (refine bodyPost_end (results_none rfl _ _ _) rfl ?_))
  exact ⟨rfl, HD.out.set0 r2⟩

set_option maxHeartbeats 1000000 in
theorem ltakes_any {w : World} {b : Nat} {v : Value} {r : List UInt8} (h : Lx.Tx w b v r) (c : UInt8) :
    Calls Tryz.prog 51 #[.pointer (some ⟨b, 0, none⟩), .string ⟨#[c]⟩] w fun e w' => e = .returned (.bool (Lx.hdIs c r)) ∧ Lx.TxD w b v (Lx.cutH c r) w' := by
  have c0 := h.c0
  have f0 := h.fz 0
  have hbl := h.lt
  have HD0 := Lib.hid (Lx.TxD.refl h)
  have HT := Lib.hid fun W => cutPrefix_one r c W
  generalize Lx.cutH c r = r2 at *
  generalize Lx.hdIs c r = q at *
  clear h
  go_enter Tryz.func51, Tryz.ntmps51
  go_wp2_with (go_at_call 78; go_must (refine (HT.out _).mono ?_; rintro e w2 ⟨rfl, rfl⟩))
  go_ret
  exact ⟨rfl, HD0.out.set0 r2⟩

set_option maxHeartbeats 1000000 in
theorem ltake_any {w : World} {b : Nat} {v : Value} {r : List UInt8} (h : Lx.Tx w b v r) (hl : r.length ≤ 4294967280) (n : Nat) (hn : n ≤ r.length) :
    Calls Tryz.prog 80 #[.pointer (some ⟨b, 0, none⟩), .int .i64 (n : Int)] w fun e w' => e = .returned (.string ⟨(r.take n).toArray⟩) ∧ Lx.TxD w b v (r.drop n) w' := by
  have c0 := h.c0
  have hbl := h.lt
  have HD0 := Lib.hid (Lx.TxD.refl h)
  have HT := Lib.hid fun W => lclone_str (r.take n) (by simp; omega) W
  have hX : (⟨r.toArray⟩ : ByteArray).extract 0 n = ⟨(r.take n).toArray⟩ := by
    apply ByteArray.ext
    rw [ByteArray.data_extract]
    apply Array.toList_inj.1
    simp
  have hY : (⟨r.toArray⟩ : ByteArray).extract n r.length = ⟨(r.drop n).toArray⟩ := by
    apply ByteArray.ext
    rw [ByteArray.data_extract]
    apply Array.toList_inj.1
    simp [List.take_of_length_le]
  have hnI : (n : Int) ≤ (r.length : Int) := by omega
  have hn0 : (0 : Int) ≤ (n : Int) := by omega
  generalize r.take n = t at *
  generalize r.drop n = r2 at *
  clear h
  go_enter Tryz.func80, Tryz.ntmps80
  go_wp2_with (go_at_call 95; go_must (refine (HT.out _).mono ?_; rintro e w2 ⟨rfl, hb2⟩; have HD := Lib.hid (HD0.out.on hb2); have d0 := HD.out.row.c0; have f0 := HD.out.row.fz 0; clear hb2))
  go_ret
  exact ⟨rfl, HD.out.set0 r2⟩
end Go.Proofs.YtojmcndiooiehaaGreatDoor

namespace Go.Proofs.YtojmcndiooiehaaGreatDoor
open Go.RowKit
open Me

namespace Lx
/-- What a call that takes a token off leaves: the token and what is behind it, or that there is none. -/
def TokR (w : World) (b : Nat) (v : Value) (o : Option (Tok × List UInt8)) (e : Ending) (w' : World) : Prop :=
  ∃ (k : Int) (t r' : List UInt8) (ok : Bool), e = .returned (.tuple #[.agg #[.int .i64 k, .string ⟨t.toArray⟩], .bool ok]) ∧ TxD w b v r' w' ∧ o = if ok = true then some ((k, t), r') else none
/-- A quoted text, behind its first mark. -/
def qt (q : UInt8) (r : List UInt8) : Option (Tok × List UInt8) := if idx q r < r.length then some ((2, r.take (idx q r)), r.drop (idx q r + 1)) else none
theorem idx_get {q : UInt8} {r : List UInt8} (h : idx q r < r.length) : r.drop (idx q r) = q :: r.drop (idx q r + 1) := by
  induction r with
  | nil => cases h
  | cons a t ih =>
    by_cases e : a = q
    · subst e
      have : idx a (a :: t) = 0 := by unfold idx; rw [List.takeWhile_cons]; simp
      rw [this]; rfl
    · have e1 : idx q (a :: t) = idx q t + 1 := by unfold idx; rw [List.takeWhile_cons, if_pos (by simpa using e)]; rfl
      rw [e1] at h ⊢
      exact ih (by simpa using h)
section
variable {w w1 w2 : World} {b : Nat} {v : Value} {r r1 r2 : List UInt8}
theorem TxD.drew (h : TxD w b v r1 w1) : TxD w b v r1 w1.drew := ⟨h.row, h.kp.drew⟩
theorem TxD.alloc (h : TxD w b v r1 w1) (o : Obj) : TxD w b v r1 (w1.alloc o) := ⟨RowAt.alloc h.row o, h.kp.alloc o⟩
theorem TxD.far (h : TxD w b v r1 w1) (p : Addr) (hp : w.heap.size ≤ p.block) (hb : b ≠ p.block) (u : Value) : TxD w b v r1 (w1.setCell p u) := ⟨RowAt.far h.row hb u, h.kp.setCell p (.inl hp) u⟩
/-- A row beside it. -/
theorem TxD.beside (h : TxD w b v r1 w1) {n : Nat} {t : TypeId} {X : Array Value} (hr : RowAt w n t X) (hn : n ≠ b) : RowAt w1 n t X := (h.kp.block n (RowAt.lt hr) hn).trans hr
end
end Lx

set_option maxHeartbeats 2000000 in
theorem lquoted_any {w : World} {b : Nat} {v : Value} {r : List UInt8} (h : Lx.Tx w b v r) (hl : r.length ≤ 4294967280) (q : UInt8) :
    Calls Tryz.prog 52 #[.pointer (some ⟨b, 0, none⟩), .string ⟨#[q]⟩] w (Lx.TokR w b v (Lx.qt q r)) := by
  have hbl := h.lt
  have c0 := h.c0
  have hb0 : b ≠ w.heap.size := by omega
  have HD0 : Hid (Lx.TxD w b v r (w.alloc (.cells #[.int .i64 0, .string ⟨#[]⟩] 67))) := Lib.hid ((Lx.TxD.refl h).alloc _)
  have HR0 : Hid (RowAt (w.alloc (.cells #[.int .i64 0, .string ⟨#[]⟩] 67)) w.heap.size 67 #[.int .i64 0, .string ⟨#[]⟩]) := Lib.hid (RowAt.new w _ _)
  have HIX := Lib.hid fun W => index_one r q W
  clear h
  by_cases hi : Lx.idx q r < r.length
  · have HQ : Hid (Lx.qt q r = some ((2, r.take (Lx.idx q r)), r.drop (Lx.idx q r + 1))) := Lib.hid (by unfold Lx.qt; rw [if_pos hi])
    have HG := Lib.hid (Lx.idx_get hi)
    rw [if_pos hi] at HIX
    generalize Lx.idx q r = i at *
    have hi0 : (0 : Int) ≤ (i : Int) := by omega
    have HTA := Lib.hid (ltake_any HD0.out.row hl i (Nat.le_of_lt hi))
    have HTK : Hid (∀ W, Lx.TxD w b v (r.drop i) W → Calls Tryz.prog 51 #[.pointer (some ⟨b, 0, none⟩), .string ⟨#[q]⟩] W fun e w' => e = .returned (.bool true) ∧ Lx.TxD w b v (r.drop (i + 1)) w' ∧ Lx.TxD W b v (r.drop (i + 1)) w') := Lib.hid fun W hW => by
      refine (ltakes_any hW.row q).mono ?_
      rintro e w' ⟨rfl, hd⟩
      have e1 : Lx.hdIs q (r.drop i) = true := by rw [HG.out]; simp [Lx.hdIs]
      have e2 : Lx.cutH q (r.drop i) = r.drop (i + 1) := by unfold Lx.cutH; rw [e1, HG.out]; rfl
      rw [e2] at hd
      exact ⟨by rw [e1], hW.trans hd, hd⟩
    clear hi
    generalize Lx.qt q r = o at *
    generalize r.take i = t at *
    generalize r.drop i = r2 at *
    generalize r.drop (i + 1) = r3 at *
    clear HG
    go_enter Tryz.func52, Tryz.ntmps52
    go_wp2_with first
      | (go_at_call 79; go_must (refine (HIX.out _).mono ?_; rintro e w2 ⟨rfl, rfl⟩))
      | (go_at_call 80; go_must (refine HTA.out.mono ?_; rintro e w2 ⟨rfl, hd⟩; have HD2 := Lib.hid (HD0.out.trans hd); have HR2 := Lib.hid (hd.beside HR0.out (by omega)); have hs2 := hd.size; clear hd))
    have HD3 : Hid (Lx.TxD w b v r2 (w2.alloc (.cells #[.int .i64 2, .string ⟨t.toArray⟩] 67))) := Lib.hid (HD2.out.alloc _)
    have HR3 : Hid (RowAt (w2.alloc (.cells #[.int .i64 2, .string ⟨t.toArray⟩] 67)) w.heap.size 67 #[.int .i64 0, .string ⟨#[]⟩]) := Lib.hid (HR2.out.alloc _)
    have HT3 : Hid (RowAt (w2.alloc (.cells #[.int .i64 2, .string ⟨t.toArray⟩] 67)) w2.heap.size 67 #[.int .i64 2, .string ⟨t.toArray⟩]) := Lib.hid (RowAt.new w2 _ _)
    have hn2 : w.heap.size < w2.heap.size := by have := HR2.out.lt; exact this
    generalize w2.alloc (.cells #[.int .i64 2, .string ⟨t.toArray⟩] 67) = W2 at *
    obtain ⟨n2, hN2⟩ : ∃ n2, n2 = w2.heap.size := ⟨_, rfl⟩
    rw [← hN2] at HT3 hn2 ⊢
    clear hN2
    have t0 : W2.cell? ⟨n2, 0, none⟩ = some (.int .i64 2) := (HT3.out.cell 0).trans rfl
    have t1 : W2.cell? ⟨n2, 1, none⟩ = some (.string ⟨t.toArray⟩) := (HT3.out.cell 1).trans rfl
    have HN : Hid (w.heap.size < n2 ∧ b < w.heap.size) := Lib.hid ⟨hn2, hbl⟩
    go_region_law (go_simp; go_at_call 51; refine (HTK.out _ (by first | exact HD3.out | exact HD3.out.drew)).mono ?_; rintro e w3 ⟨rfl, hd, hk⟩; have HD4 := Lib.hid hd; have HK4 := Lib.hid hk; have u0 : w3.cell? ⟨n2, 0, none⟩ = some (.int .i64 2) := ((hk.beside (RowAt.drew HT3.out) (by have := HN.out; omega)).cell 0).trans rfl; have u1 : w3.cell? ⟨n2, 1, none⟩ = some (.string ⟨t.toArray⟩) := ((hk.beside (RowAt.drew HT3.out) (by have := HN.out; omega)).cell 1).trans rfl; have hR4 : RowAt w3 w.heap.size 67 #[.int .i64 0, .string ⟨#[]⟩] := hk.beside (RowAt.drew HR3.out) (by have := HN.out; omega); have HR4 := Lib.hid hR4; have x0 : w3.cell? ⟨w.heap.size, 0, none⟩ = some (.int .i64 0) := (hR4.cell 0).trans rfl; have x1 : w3.cell? ⟨w.heap.size, 1, none⟩ = some (.string ⟨#[]⟩) := (hR4.cell 1).trans rfl; have y0 := hR4.frozen 0; have y1 := hR4.frozen 1; clear hd hk hR4)
    all_goals
      try go_simp
      try go_wp2_with fail
      refine bodyPost_ret ((results_cell_tmp rfl _ _ _).trans (by simp [go_sem, *]; rfl)) rfl ?_
      exact ⟨2, t, r3, true, rfl, (HD4.out.far _ (Nat.le_refl _) (by have := HN.out; show b ≠ w.heap.size; omega) _).far _ (Nat.le_refl _) (by have := HN.out; show b ≠ w.heap.size; omega) _, HQ.out⟩
  · have HQ : Hid (Lx.qt q r = none) := Lib.hid (by unfold Lx.qt; rw [if_neg hi])
    rw [if_neg hi] at HIX
    clear hi
    generalize Lx.qt q r = o at *
    go_enter Tryz.func52, Tryz.ntmps52
    go_wp2_with first
      | (go_at_call 79; go_must (refine (HIX.out _).mono ?_; rintro e w2 ⟨rfl, rfl⟩))
    refine bodyPost_ret ((results_cell_tmp rfl _ _ _).trans (by simp [go_sem, *]; rfl)) rfl ?_
    exact ⟨0, [], r, false, rfl, HD0.out, HQ.out⟩
end Go.Proofs.YtojmcndiooiehaaGreatDoor
