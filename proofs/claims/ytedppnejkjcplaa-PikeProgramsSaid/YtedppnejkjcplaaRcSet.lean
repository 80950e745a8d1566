/-
  CONTRACTS: chapter 12, the document's Compile: set, where the expression has no dot, class or stroke.
-/
import Derived.Test.YtedppnejkjcplaaRcSix
namespace Go.Proofs.Ytedppnejkjcplaa
open Go.RowKit Go.Sort
open Me
open Pk

namespace Rc
open Rx (cel St none_)
/-- The set of one byte. -/
def single (c : UInt8) : St := fun i => if i = c.toNat then true else none_ i
/-- What set leaves. -/
def SetR (w : World) (b : Nat) (v : Value) (r : Rr) (e : Ending) (w' : World) : Prop := ∃ (m : St) (ok : Bool) (n : Nat), e = .returned (.tuple #[.agg (cel m), .bool ok]) ∧ Did w b v { r with at_ := r.at_ + n } v w' ∧ r.at_ + n ≤ r.s.length ∧ (ok = true → 1 ≤ n) ∧
  ∀ c, r.s[r.at_]? = some c → c ≠ 46 → c ≠ 91 → c ≠ 92 → ok = !special c ∧ (special c = true → n = 0) ∧ (special c = false → n = 1 ∧ m = single c)
/-- set does so, where the expression is one of S. -/
def SetC (S : List UInt8 → Prop) : Prop := ∀ (w : World) (b : Nat) (v : Value) (r : Rr), At w b v r → r.s.length ≤ 4096 → r.at_ < r.s.length → S r.s →
  Calls Try.prog 74 #[.pointer (some ⟨b, 0, none⟩)] w (SetR w b v r)
theorem sp_46 : special 46 = true := by decide
end Rc

set_option maxRecDepth 100000 in
set_option maxHeartbeats 8000000 in
theorem set_plain {w : World} {b : Nat} {v : Value} {r : Rc.Rr} (h : Rc.At w b v r) (hl : r.s.length ≤ 4096) {c : UInt8} (hc : r.s[r.at_]? = some c) (n1 : c ≠ 46) (n2 : c ≠ 91) (n3 : c ≠ 92) :
    Calls Try.prog 74 #[.pointer (some ⟨b, 0, none⟩)] w (Rc.SetR w b v r) := by
  obtain ⟨w0, hw0⟩ : ∃ w0, w0 = (w.alloc (.cells Try.zeroCells128 128)).alloc (.cells Try.zeroCells128 128) := ⟨_, rfl⟩
  obtain ⟨n0, hn0⟩ : ∃ n0, n0 = w.heap.size := ⟨_, rfl⟩
  have hbl := h.lt
  have HB0 : Hid (Below w.heap.size w w0) := Lib.hid (by rw [hw0]; exact ((Below.refl _ _).alloc (Nat.le_refl _) _).alloc (by simp) _)
  have HR0 : Hid (RowAt w0 n0 128 (Rx.cel Rx.none_)) := Lib.hid (by rw [hw0, ← z_b256, hn0]; exact (RowAt.new w _ _).alloc _)
  have HR1 : Hid (RowAt w0 (n0 + 1) 128 (Rx.cel Rx.none_)) := Lib.hid (by rw [hw0, ← z_b256, hn0]; exact RowAt.new' (by simp))
  have HD0 := Lib.hid ((Rc.Did.refl h).on HB0.out)
  have HAT0 := Lib.hid h
  have HCC : Hid (r.s[r.at_]? = some c) := Lib.hid hc
  have HEQ : Hid (∀ x, r.s[r.at_]? = some x → x = c) := Lib.hid fun x hx => by rw [hc] at hx; exact (Option.some.inj hx).symm
  have hRP : ∀ (m : Rx.St) (ok : Bool) (n : Nat) (w' : World), Rc.Did w b v { r with at_ := r.at_ + n } v w' → r.at_ + n ≤ r.s.length → (ok = true → 1 ≤ n) → (ok = !Rc.special c) → (Rc.special c = true → n = 0) → (Rc.special c = false → n = 1 ∧ m = Rc.single c) → Rc.SetR w b v r (.returned (.tuple #[.agg (Rx.cel m), .bool ok])) w' := fun m ok n w' q1 q2 q3 q4 q5 q6 => ⟨m, ok, n, rfl, q1, q2, q3, fun x hx _ _ _ => by rw [HEQ.out x hx]; exact ⟨q4, q5, q6⟩⟩
  have HRP := Lib.hid hRP
  obtain ⟨s, i, d, er, g, L⟩ := r
  have c0 : w0.cell? ⟨b, 0, none⟩ = some (.string ⟨s.toArray⟩) := HD0.out.at_.c0
  have c1 : w0.cell? ⟨b, 1, none⟩ = some (.int .i64 (i : Int)) := HD0.out.at_.c1
  have f1 := HD0.out.at_.fz 1
  have hl : s.length ≤ 4096 := hl
  have hc : s[i]? = some c := hc
  have hil := (List.getElem?_eq_some_iff.1 hc).1
  have HIL := Lib.hid hil
  obtain ⟨z0, g0⟩ := Rc.byte_at hc
  have m1 : ¬ (c.toNat : Int) = 46 := fun e => n1 (UInt8.toNat_inj.1 (by show c.toNat = 46; omega))
  have m2 : ¬ (c.toNat : Int) = 91 := fun e => n2 (UInt8.toNat_inj.1 (by show c.toNat = 91; omega))
  have m3 : ¬ (c.toNat : Int) = 92 := fun e => n3 (UInt8.toNat_inj.1 (by show c.toNat = 92; omega))
  have m1b : ((c.toNat : Int) == 46) = false := by simpa using m1
  have m2b : ((c.toNat : Int) == 91) = false := by simpa using m2
  have m3b : ((c.toNat : Int) == 92) = false := by simpa using m3
  obtain ⟨i1, hi1⟩ : ∃ i1 : Nat, i1 = i + 1 := ⟨_, rfl⟩
  have hwi : IntKind.i64.wrap ((i : Int) + 1) = (i1 : Int) := by rw [IntKind.wrap_i64]; omega
  have hiI : (i : Int) < (s.length : Int) := by omega
  have hi0 : (0 : Int) ≤ (i : Int) := by omega
  have HI1 := Lib.hid hi1
  have HN0 := Lib.hid hn0
  have hc256 : (c.toNat : Int) < 256 := by have := UInt8.toNat_lt c; omega
  have hc256n : c.toNat < 256 := UInt8.toNat_lt c
  have hSP := fun W => refSpecial_any c W
  cases hsp : Rc.special c
  · have HSP : Hid (∀ W, Calls Try.prog 78 #[.int .u8 (c.toNat : Int)] W fun e w' => e = .returned (.bool false) ∧ W = w') := Lib.hid fun W => by have := hSP W; rw [hsp] at this; exact this
    have HSQ := Lib.hid hsp
    clear h hc hi1 hSP hsp n1 n2 n3 hRP hil
    go_enter Try.func74, Try.ntmps74
    go_wp2_with fail
    rw [← hw0, ← hn0]
    clear hw0 hn0
    go_quiet (fail)
    rename_i nq
    have HD1 := Lib.hid (HD0.out.drewN nq)
    have HR0q : Hid (RowAt (w0.drewN nq) n0 128 (Rx.cel Rx.none_)) := Lib.hid (HR0.out.drewN nq)
    have HR1q : Hid (RowAt (w0.drewN nq) (n0 + 1) 128 (Rx.cel Rx.none_)) := Lib.hid (HR1.out.drewN nq)
    generalize w0.drewN nq = wq at *
    have d1 : wq.cell? ⟨b, 1, none⟩ = some (.int .i64 (i : Int)) := HD1.out.at_.c1
    have e1 := HD1.out.at_.fz 1
    have k1 : wq.cell? ⟨n0 + 1, c.toNat, none⟩ = some (.bool false) := (HR1q.out.cell c.toNat).trans (Rx.cel_at _ _ hc256n)
    have k2 := HR1q.out.frozen c.toNat
    have hbn : ¬ b = n0 + 1 := by have := HN0.out; omega
    have hnb : ¬ n0 + 1 = b := by have := HN0.out; omega
    have hnb0 : n0 ≠ b := by have := HN0.out; omega
    have HRA : Hid (RowAt ((wq.setCell ⟨b, 1, none⟩ (.int .i64 (i1 : Int))).setCell ⟨n0 + 1, c.toNat, none⟩ (.bool true)) (n0 + 1) 128 (Rx.cel (Rc.single c))) := Lib.hid (Rc.turned (HR1q.out.far (by show n0 + 1 ≠ b; omega) _) c.toNat true)
    have HRB : Hid (RowAt ((wq.setCell ⟨b, 1, none⟩ (.int .i64 (i1 : Int))).setCell ⟨n0 + 1, c.toNat, none⟩ (.bool true)) n0 128 (Rx.cel Rx.none_)) := Lib.hid ((HR0q.out.far (by show n0 ≠ b; omega) _).far (by show n0 ≠ n0 + 1; omega) _)
    go_wp2_with first
      | (go_at_call 78; go_must (refine (HSP.out _).mono ?_; rintro e w2 ⟨rfl, rfl⟩))
      | ((with_reducible refine Rc.ldset (Rx.cel (Rc.single c)) (Rx.cel_size _) ?_ (HRA.out) ?_); (focus simp [Act.eval, Act.put]))
      | ((with_reducible refine Rc.stset (Rx.cel (Rc.single c)) (Rx.cel Rx.none_) (Rx.cel_size _) (Rx.cel_one _) (Rx.cel_size _) ?_ ?_ (HRB.out) ?_); (focus simp [Act.eval, Act.put]); (focus simp [Act.eval, Act.put]))
    ((try simp only [Exit.inBlock, Exit.then]); refine bodyPost_ret (Rc.ret_set2 rfl _ ?_ (Rc.row_setRow HRB.out _) (Rx.cel_size _)) rfl ?_; (focus simp); simp only [Array.getD_eq_getD_getElem?])
    have hnn := HN0.out
    have hsz := HD1.out.size
    refine HRP.out (Rc.single c) true 1 _ ?_ (by show i + 1 ≤ s.length; have := HIL.out; omega) (fun _ => Nat.le_refl _) (by rw [HSQ.out]; rfl) (by rw [HSQ.out]; intro e; cases e) (fun _ => ⟨rfl, rfl⟩)
    have hD2 := HD1.out.set1 i1
    show Rc.Did w b v ⟨s, i + 1, d, er, g, L⟩ v _
    rw [← HI1.out]
    refine Rc.Did.low HAT0.out hD2 (Rc.below_setRow ?_ (by omega) _)
    refine Below.setCell (Below.refl _ _) ?_ _
    show w.heap.size ≤ n0 + 1
    omega
  · have HSP : Hid (∀ W, Calls Try.prog 78 #[.int .u8 (c.toNat : Int)] W fun e w' => e = .returned (.bool true) ∧ W = w') := Lib.hid fun W => by have := hSP W; rw [hsp] at this; exact this
    have HSQ := Lib.hid hsp
    clear h hc hi1 hSP hsp n1 n2 n3 hRP hil
    go_enter Try.func74, Try.ntmps74
    go_wp2_with fail
    rw [← hw0, ← hn0]
    clear hw0 hn0
    go_quiet (fail)
    rename_i nq
    have HD1 := Lib.hid (HD0.out.drewN nq)
    have HR0q : Hid (RowAt (w0.drewN nq) n0 128 (Rx.cel Rx.none_)) := Lib.hid (HR0.out.drewN nq)
    have HR1q : Hid (RowAt (w0.drewN nq) (n0 + 1) 128 (Rx.cel Rx.none_)) := Lib.hid (HR1.out.drewN nq)
    generalize w0.drewN nq = wq at *
    go_wp2_with first
      | (go_at_call 78; go_must (refine (HSP.out _).mono ?_; rintro e w2 ⟨rfl, rfl⟩))
      | ((with_reducible refine Rc.ldset (Rx.cel Rx.none_) (Rx.cel_size _) ?_ (HR1q.out) ?_); (focus simp [Act.eval, Act.put]))
      | ((with_reducible refine Rc.stset (Rx.cel Rx.none_) (Rx.cel Rx.none_) (Rx.cel_size _) (Rx.cel_one _) (Rx.cel_size _) ?_ ?_ (HR0q.out) ?_); (focus simp [Act.eval, Act.put]); (focus simp [Act.eval, Act.put]))
    ((try simp only [Exit.inBlock, Exit.then]); refine bodyPost_ret (Rc.ret_set2 rfl _ ?_ (Rc.row_setRow HR0q.out _) (Rx.cel_size _)) rfl ?_; (focus simp); simp only [Array.getD_eq_getD_getElem?])
    have hnn := HN0.out
    refine HRP.out Rx.none_ false 0 _ ?_ (by show i + 0 ≤ s.length; have := HIL.out; omega) (fun e => by cases e) (by rw [HSQ.out]; rfl) (fun _ => rfl) (by rw [HSQ.out]; intro e; cases e)
    exact Rc.Did.low HAT0.out HD1.out (Rc.below_setRow (Below.refl _ _) (by omega) _)

theorem set_sm : Rc.SetC Rc.Sm := fun w b v r h hl ha hs => by
  have hc : r.s[r.at_]? = some r.s[r.at_] := List.getElem?_eq_getElem ha
  have hm := hs _ (List.getElem_mem ha)
  exact set_plain h hl hc hm.1 hm.2.1 hm.2.2
end Go.Proofs.Ytedppnejkjcplaa
