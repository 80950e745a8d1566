/-
  CONTRACTS: chapter 14: a quoted text.
-/
import Derived.Test.YtojmcndiooiehaaDoorLxMem
import Derived.Laws.ResultCell
namespace Go.Proofs.YtojmcndiooiehaaDoor
open Go.RowKit
open Me

namespace Lx
/-- What a call that takes a token off leaves: the token and what is behind it, or that there is none. -/
def TokR (w : World) (b : Nat) (v : Value) (o : Option (Tok × List UInt8)) (e : Ending) (w' : World) : Prop :=
  ∃ (k : Int) (t r' : List UInt8) (ok : Bool), e = .returned (.tuple #[.agg #[.int .i64 k, .string ⟨t.toArray⟩], .bool ok]) ∧ TxD w b v r' w' ∧ o = if ok = true then some ((k, t), r') else none
/-- A quoted text, behind its first mark. -/
def qt (q : UInt8) (r : List UInt8) : Option (Tok × List UInt8) := if idx q r < r.length then some ((2, r.take (idx q r)), r.drop (idx q r + 1)) else none
theorem idx_get {q : UInt8} {r : List UInt8} (h : idx q r < r.length) : r.drop (idx q r) = q :: r.drop (idx q r + 1) := by
  induction r with
  | nil => cases h
  | cons a t ih =>
    by_cases e : a = q
    · subst e
      have : idx a (a :: t) = 0 := by unfold idx; rw [List.takeWhile_cons]; simp
      rw [this]; rfl
    · have e1 : idx q (a :: t) = idx q t + 1 := by unfold idx; rw [List.takeWhile_cons, if_pos (by simpa using e)]; rfl
      rw [e1] at h ⊢
      exact ih (by simpa using h)
section
variable {w w1 w2 : World} {b : Nat} {v : Value} {r r1 r2 : List UInt8}
theorem TxD.drew (h : TxD w b v r1 w1) : TxD w b v r1 w1.drew := ⟨h.row, h.kp.drew⟩
theorem TxD.alloc (h : TxD w b v r1 w1) (o : Obj) : TxD w b v r1 (w1.alloc o) := ⟨RowAt.alloc h.row o, h.kp.alloc o⟩
theorem TxD.far (h : TxD w b v r1 w1) (p : Addr) (hp : w.heap.size ≤ p.block) (hb : b ≠ p.block) (u : Value) : TxD w b v r1 (w1.setCell p u) := ⟨RowAt.far h.row hb u, h.kp.setCell p (.inl hp) u⟩
/-- A row beside it. -/
theorem TxD.beside (h : TxD w b v r1 w1) {n : Nat} {t : TypeId} {X : Array Value} (hr : RowAt w n t X) (hn : n ≠ b) : RowAt w1 n t X := (h.kp.block n (RowAt.lt hr) hn).trans hr
end
end Lx

set_option maxHeartbeats 2000000 in
theorem lquoted_any {w : World} {b : Nat} {v : Value} {r : List UInt8} (h : Lx.Tx w b v r) (hl : r.length ≤ 4294967280) (q : UInt8) :
    Calls Tryd.prog 25 #[.pointer (some ⟨b, 0, none⟩), .string ⟨#[q]⟩] w (Lx.TokR w b v (Lx.qt q r)) := by
  have hbl := h.lt
  have c0 := h.c0
  have hb0 : b ≠ w.heap.size := by omega
  have HD0 : Hid (Lx.TxD w b v r (w.alloc (.cells #[.int .i64 0, .string ⟨#[]⟩] 55))) := Lib.hid ((Lx.TxD.refl h).alloc _)
  have HR0 : Hid (RowAt (w.alloc (.cells #[.int .i64 0, .string ⟨#[]⟩] 55)) w.heap.size 55 #[.int .i64 0, .string ⟨#[]⟩]) := Lib.hid (RowAt.new w _ _)
  have HIX := Lib.hid fun W => index_one r q W
  clear h
  by_cases hi : Lx.idx q r < r.length
  · have HQ : Hid (Lx.qt q r = some ((2, r.take (Lx.idx q r)), r.drop (Lx.idx q r + 1))) := Lib.hid (by unfold Lx.qt; rw [if_pos hi])
    have HG := Lib.hid (Lx.idx_get hi)
    rw [if_pos hi] at HIX
    generalize Lx.idx q r = i at *
    have hi0 : (0 : Int) ≤ (i : Int) := by omega
    have HTA := Lib.hid (ltake_any HD0.out.row hl i (Nat.le_of_lt hi))
    have HTK : Hid (∀ W, Lx.TxD w b v (r.drop i) W → Calls Tryd.prog 24 #[.pointer (some ⟨b, 0, none⟩), .string ⟨#[q]⟩] W fun e w' => e = .returned (.bool true) ∧ Lx.TxD w b v (r.drop (i + 1)) w' ∧ Lx.TxD W b v (r.drop (i + 1)) w') := Lib.hid fun W hW => by
      refine (ltakes_any hW.row q).mono ?_
      rintro e w' ⟨rfl, hd⟩
      have e1 : Lx.hdIs q (r.drop i) = true := by rw [HG.out]; simp [Lx.hdIs]
      have e2 : Lx.cutH q (r.drop i) = r.drop (i + 1) := by unfold Lx.cutH; rw [e1, HG.out]; rfl
      rw [e2] at hd
      exact ⟨by rw [e1], hW.trans hd, hd⟩
    clear hi
    generalize Lx.qt q r = o at *
    generalize r.take i = t at *
    generalize r.drop i = r2 at *
    generalize r.drop (i + 1) = r3 at *
    clear HG
    go_enter Tryd.func25, Tryd.ntmps25
    go_wp2_with first
      | (go_at_call 44; go_must (refine (HIX.out _).mono ?_; rintro e w2 ⟨rfl, rfl⟩))
      | (go_at_call 45; go_must (refine HTA.out.mono ?_; rintro e w2 ⟨rfl, hd⟩; have HD2 := Lib.hid (HD0.out.trans hd); have HR2 := Lib.hid (hd.beside HR0.out (by omega)); have hs2 := hd.size; clear hd))
    have HD3 : Hid (Lx.TxD w b v r2 (w2.alloc (.cells #[.int .i64 2, .string ⟨t.toArray⟩] 55))) := Lib.hid (HD2.out.alloc _)
    have HR3 : Hid (RowAt (w2.alloc (.cells #[.int .i64 2, .string ⟨t.toArray⟩] 55)) w.heap.size 55 #[.int .i64 0, .string ⟨#[]⟩]) := Lib.hid (HR2.out.alloc _)
    have HT3 : Hid (RowAt (w2.alloc (.cells #[.int .i64 2, .string ⟨t.toArray⟩] 55)) w2.heap.size 55 #[.int .i64 2, .string ⟨t.toArray⟩]) := Lib.hid (RowAt.new w2 _ _)
    have hn2 : w.heap.size < w2.heap.size := by have := HR2.out.lt; exact this
    generalize w2.alloc (.cells #[.int .i64 2, .string ⟨t.toArray⟩] 55) = W2 at *
    obtain ⟨n2, hN2⟩ : ∃ n2, n2 = w2.heap.size := ⟨_, rfl⟩
    rw [← hN2] at HT3 hn2 ⊢
    clear hN2
    have t0 : W2.cell? ⟨n2, 0, none⟩ = some (.int .i64 2) := (HT3.out.cell 0).trans rfl
    have t1 : W2.cell? ⟨n2, 1, none⟩ = some (.string ⟨t.toArray⟩) := (HT3.out.cell 1).trans rfl
    have HN : Hid (w.heap.size < n2 ∧ b < w.heap.size) := Lib.hid ⟨hn2, hbl⟩
    go_region_law (go_simp; go_at_call 24; refine (HTK.out _ (by first | exact HD3.out | exact HD3.out.drew)).mono ?_; rintro e w3 ⟨rfl, hd, hk⟩; have HD4 := Lib.hid hd; have HK4 := Lib.hid hk; have u0 : w3.cell? ⟨n2, 0, none⟩ = some (.int .i64 2) := ((hk.beside (RowAt.drew HT3.out) (by have := HN.out; omega)).cell 0).trans rfl; have u1 : w3.cell? ⟨n2, 1, none⟩ = some (.string ⟨t.toArray⟩) := ((hk.beside (RowAt.drew HT3.out) (by have := HN.out; omega)).cell 1).trans rfl; have hR4 : RowAt w3 w.heap.size 55 #[.int .i64 0, .string ⟨#[]⟩] := hk.beside (RowAt.drew HR3.out) (by have := HN.out; omega); have HR4 := Lib.hid hR4; have x0 : w3.cell? ⟨w.heap.size, 0, none⟩ = some (.int .i64 0) := (hR4.cell 0).trans rfl; have x1 : w3.cell? ⟨w.heap.size, 1, none⟩ = some (.string ⟨#[]⟩) := (hR4.cell 1).trans rfl; have y0 := hR4.frozen 0; have y1 := hR4.frozen 1; clear hd hk hR4)
    all_goals
      try go_simp
      try go_wp2_with fail
      refine bodyPost_ret ((results_cell_tmp rfl _ _ _).trans (by simp [go_sem, *]; rfl)) rfl ?_
      exact ⟨2, t, r3, true, rfl, (HD4.out.far _ (Nat.le_refl _) (by have := HN.out; show b ≠ w.heap.size; omega) _).far _ (Nat.le_refl _) (by have := HN.out; show b ≠ w.heap.size; omega) _, HQ.out⟩
  · have HQ : Hid (Lx.qt q r = none) := Lib.hid (by unfold Lx.qt; rw [if_neg hi])
    rw [if_neg hi] at HIX
    clear hi
    generalize Lx.qt q r = o at *
    go_enter Tryd.func25, Tryd.ntmps25
    go_wp2_with first
      | (go_at_call 44; go_must (refine (HIX.out _).mono ?_; rintro e w2 ⟨rfl, rfl⟩))
    refine bodyPost_ret ((results_cell_tmp rfl _ _ _).trans (by simp [go_sem, *]; rfl)) rfl ?_
    exact ⟨0, [], r, false, rfl, HD0.out, HQ.out⟩
end Go.Proofs.YtojmcndiooiehaaDoor
