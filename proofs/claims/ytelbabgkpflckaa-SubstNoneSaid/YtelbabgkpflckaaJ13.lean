/-
  RcSet: CONTRACTS: chapter 12, the document's Compile: set, where the expression has no dot, class or stroke.
  RcMv: CONTRACTS: chapter 12, the document's Compile: moved, cut, put.
  RcCut: CONTRACTS: chapter 12, the document's Compile: cut, put.
-/
import Derived.Test.YtelbabgkpflckaaJ12
import Derived.Test.YtelbabgkpflckaaJ10

set_option linter.unusedSimpArgs false
set_option linter.unusedVariables false
namespace Go.Proofs.Ytelbabgkpflckaa
open Go.RowKit Go.Sort
open Me
open Pk

namespace Rc
open Rx (cel St none_)
/-- The set of one byte. -/
def single (c : UInt8) : St := fun i => if i = c.toNat then true else none_ i
/-- What set leaves. -/
def SetR (w : World) (b : Nat) (v : Value) (r : Rr) (e : Ending) (w' : World) : Prop := ∃ (m : St) (ok : Bool) (n : Nat), e = .returned (.tuple #[.agg (cel m), .bool ok]) ∧ Did w b v { r with at_ := r.at_ + n } v w' ∧ r.at_ + n ≤ r.s.length ∧ (ok = true → 1 ≤ n) ∧
  ∀ c, r.s[r.at_]? = some c → c ≠ 46 → c ≠ 91 → c ≠ 92 → ok = !special c ∧ (special c = true → n = 0) ∧ (special c = false → n = 1 ∧ m = single c)
/-- set does so, where the expression is one of S. -/
def SetC (S : List UInt8 → Prop) : Prop := ∀ (w : World) (b : Nat) (v : Value) (r : Rr), At w b v r → r.s.length ≤ 4096 → r.at_ < r.s.length → S r.s →
  Calls Try.prog 70 #[.pointer (some ⟨b, 0, none⟩)] w (SetR w b v r)
theorem sp_46 : special 46 = true := by decide
end Rc

set_option maxRecDepth 100000 in
set_option maxHeartbeats 8000000 in
theorem set_plain {w : World} {b : Nat} {v : Value} {r : Rc.Rr} (h : Rc.At w b v r) (hl : r.s.length ≤ 4096) {c : UInt8} (hc : r.s[r.at_]? = some c) (n1 : c ≠ 46) (n2 : c ≠ 91) (n3 : c ≠ 92) :
    Calls Try.prog 70 #[.pointer (some ⟨b, 0, none⟩)] w (Rc.SetR w b v r) := by
  obtain ⟨w0, hw0⟩ : ∃ w0, w0 = (w.alloc (.cells Try.zeroCells125 125)).alloc (.cells Try.zeroCells125 125) := ⟨_, rfl⟩
  obtain ⟨n0, hn0⟩ : ∃ n0, n0 = w.heap.size := ⟨_, rfl⟩
  have hbl := h.lt
  have HB0 : Hid (Below w.heap.size w w0) := Lib.hid (by rw [hw0]; exact ((Below.refl _ _).alloc (Nat.le_refl _) _).alloc (by simp) _)
  have HR0 : Hid (RowAt w0 n0 125 (Rx.cel Rx.none_)) := Lib.hid (by rw [hw0, ← z_b256, hn0]; exact (RowAt.new w _ _).alloc _)
  have HR1 : Hid (RowAt w0 (n0 + 1) 125 (Rx.cel Rx.none_)) := Lib.hid (by rw [hw0, ← z_b256, hn0]; exact RowAt.new' (by simp))
  have HD0 := Lib.hid ((Rc.Did.refl h).on HB0.out)
  have HAT0 := Lib.hid h
  have HCC : Hid (r.s[r.at_]? = some c) := Lib.hid hc
  have HEQ : Hid (∀ x, r.s[r.at_]? = some x → x = c) := Lib.hid fun x hx => by rw [hc] at hx; exact (Option.some.inj hx).symm
  have hRP : ∀ (m : Rx.St) (ok : Bool) (n : Nat) (w' : World), Rc.Did w b v { r with at_ := r.at_ + n } v w' → r.at_ + n ≤ r.s.length → (ok = true → 1 ≤ n) → (ok = !Rc.special c) → (Rc.special c = true → n = 0) → (Rc.special c = false → n = 1 ∧ m = Rc.single c) → Rc.SetR w b v r (.returned (.tuple #[.agg (Rx.cel m), .bool ok])) w' := fun m ok n w' q1 q2 q3 q4 q5 q6 => ⟨m, ok, n, rfl, q1, q2, q3, fun x hx _ _ _ => by rw [HEQ.out x hx]; exact ⟨q4, q5, q6⟩⟩
  have HRP := Lib.hid hRP
  obtain ⟨s, i, d, er, g, L⟩ := r
  have c0 : w0.cell? ⟨b, 0, none⟩ = some (.string ⟨s.toArray⟩) := HD0.out.at_.c0
  have c1 : w0.cell? ⟨b, 1, none⟩ = some (.int .i64 (i : Int)) := HD0.out.at_.c1
  have f1 := HD0.out.at_.fz 1
  have hl : s.length ≤ 4096 := hl
  have hc : s[i]? = some c := hc
  have hil := (List.getElem?_eq_some_iff.1 hc).1
  have HIL := Lib.hid hil
  obtain ⟨z0, g0⟩ := Rc.byte_at hc
  have m1 : ¬ (c.toNat : Int) = 46 := fun e => n1 (UInt8.toNat_inj.1 (by show c.toNat = 46; omega))
  have m2 : ¬ (c.toNat : Int) = 91 := fun e => n2 (UInt8.toNat_inj.1 (by show c.toNat = 91; omega))
  have m3 : ¬ (c.toNat : Int) = 92 := fun e => n3 (UInt8.toNat_inj.1 (by show c.toNat = 92; omega))
  have m1b : ((c.toNat : Int) == 46) = false := by simpa using m1
  have m2b : ((c.toNat : Int) == 91) = false := by simpa using m2
  have m3b : ((c.toNat : Int) == 92) = false := by simpa using m3
  obtain ⟨i1, hi1⟩ : ∃ i1 : Nat, i1 = i + 1 := ⟨_, rfl⟩
  have hwi : IntKind.i64.wrap ((i : Int) + 1) = (i1 : Int) := by rw [IntKind.wrap_i64]; omega
  have hiI : (i : Int) < (s.length : Int) := by omega
  have hi0 : (0 : Int) ≤ (i : Int) := by omega
  have HI1 := Lib.hid hi1
  have HN0 := Lib.hid hn0
  have hc256 : (c.toNat : Int) < 256 := by have := UInt8.toNat_lt c; omega
  have hc256n : c.toNat < 256 := UInt8.toNat_lt c
  have hSP := fun W => refSpecial_any c W
  cases hsp : Rc.special c
  · have HSP : Hid (∀ W, Calls Try.prog 74 #[.int .u8 (c.toNat : Int)] W fun e w' => e = .returned (.bool false) ∧ W = w') := Lib.hid fun W => by have := hSP W; rw [hsp] at this; exact this
    have HSQ := Lib.hid hsp
    clear h hc hi1 hSP hsp n1 n2 n3 hRP hil
    go_enter Try.func70, Try.ntmps70
    go_wp2_with fail
    rw [← hw0, ← hn0]
    clear hw0 hn0
    go_quiet (fail)
    rename_i nq
    have HD1 := Lib.hid (HD0.out.drewN nq)
    have HR0q : Hid (RowAt (w0.drewN nq) n0 125 (Rx.cel Rx.none_)) := Lib.hid (HR0.out.drewN nq)
    have HR1q : Hid (RowAt (w0.drewN nq) (n0 + 1) 125 (Rx.cel Rx.none_)) := Lib.hid (HR1.out.drewN nq)
    generalize w0.drewN nq = wq at *
    have d1 : wq.cell? ⟨b, 1, none⟩ = some (.int .i64 (i : Int)) := HD1.out.at_.c1
    have e1 := HD1.out.at_.fz 1
    have k1 : wq.cell? ⟨n0 + 1, c.toNat, none⟩ = some (.bool false) := (HR1q.out.cell c.toNat).trans (Rx.cel_at _ _ hc256n)
    have k2 := HR1q.out.frozen c.toNat
    have hbn : ¬ b = n0 + 1 := by have := HN0.out; omega
    have hnb : ¬ n0 + 1 = b := by have := HN0.out; omega
    have hnb0 : n0 ≠ b := by have := HN0.out; omega
    have HRA : Hid (RowAt ((wq.setCell ⟨b, 1, none⟩ (.int .i64 (i1 : Int))).setCell ⟨n0 + 1, c.toNat, none⟩ (.bool true)) (n0 + 1) 125 (Rx.cel (Rc.single c))) := Lib.hid (Rc.turned (HR1q.out.far (by show n0 + 1 ≠ b; omega) _) c.toNat true)
    have HRB : Hid (RowAt ((wq.setCell ⟨b, 1, none⟩ (.int .i64 (i1 : Int))).setCell ⟨n0 + 1, c.toNat, none⟩ (.bool true)) n0 125 (Rx.cel Rx.none_)) := Lib.hid ((HR0q.out.far (by show n0 ≠ b; omega) _).far (by show n0 ≠ n0 + 1; omega) _)
    go_wp2_with first
      | (go_at_call 74; go_must (refine (HSP.out _).mono ?_; rintro e w2 ⟨rfl, rfl⟩))
      | ((with_reducible refine Rc.ldset (Rx.cel (Rc.single c)) (Rx.cel_size _) ?_ (HRA.out) ?_); (focus simp [Act.eval, Act.put]))
      | ((with_reducible refine Rc.stset (Rx.cel (Rc.single c)) (Rx.cel Rx.none_) (Rx.cel_size _) (Rx.cel_one _) (Rx.cel_size _) ?_ ?_ (HRB.out) ?_); (focus simp [Act.eval, Act.put]); (focus simp [Act.eval, Act.put]))
    ((try simp only [Exit.inBlock, Exit.then]); refine bodyPost_ret (Rc.ret_set2 rfl _ ?_ (Rc.row_setRow HRB.out _) (Rx.cel_size _)) rfl ?_; (focus simp); simp only [Array.getD_eq_getD_getElem?])
    have hnn := HN0.out
    have hsz := HD1.out.size
    refine HRP.out (Rc.single c) true 1 _ ?_ (by show i + 1 ≤ s.length; have := HIL.out; omega) (fun _ => Nat.le_refl _) (by rw [HSQ.out]; rfl) (by rw [HSQ.out]; intro e; cases e) (fun _ => ⟨rfl, rfl⟩)
    have hD2 := HD1.out.set1 i1
    show Rc.Did w b v ⟨s, i + 1, d, er, g, L⟩ v _
    rw [← HI1.out]
    refine Rc.Did.low HAT0.out hD2 (Rc.below_setRow ?_ (by omega) _)
    refine Below.setCell (Below.refl _ _) ?_ _
    show w.heap.size ≤ n0 + 1
    omega
  · have HSP : Hid (∀ W, Calls Try.prog 74 #[.int .u8 (c.toNat : Int)] W fun e w' => e = .returned (.bool true) ∧ W = w') := Lib.hid fun W => by have := hSP W; rw [hsp] at this; exact this
    have HSQ := Lib.hid hsp
    clear h hc hi1 hSP hsp n1 n2 n3 hRP hil
    go_enter Try.func70, Try.ntmps70
    go_wp2_with fail
    rw [← hw0, ← hn0]
    clear hw0 hn0
    go_quiet (fail)
    rename_i nq
    have HD1 := Lib.hid (HD0.out.drewN nq)
    have HR0q : Hid (RowAt (w0.drewN nq) n0 125 (Rx.cel Rx.none_)) := Lib.hid (HR0.out.drewN nq)
    have HR1q : Hid (RowAt (w0.drewN nq) (n0 + 1) 125 (Rx.cel Rx.none_)) := Lib.hid (HR1.out.drewN nq)
    generalize w0.drewN nq = wq at *
    go_wp2_with first
      | (go_at_call 74; go_must (refine (HSP.out _).mono ?_; rintro e w2 ⟨rfl, rfl⟩))
      | ((with_reducible refine Rc.ldset (Rx.cel Rx.none_) (Rx.cel_size _) ?_ (HR1q.out) ?_); (focus simp [Act.eval, Act.put]))
      | ((with_reducible refine Rc.stset (Rx.cel Rx.none_) (Rx.cel Rx.none_) (Rx.cel_size _) (Rx.cel_one _) (Rx.cel_size _) ?_ ?_ (HR0q.out) ?_); (focus simp [Act.eval, Act.put]); (focus simp [Act.eval, Act.put]))
    ((try simp only [Exit.inBlock, Exit.then]); refine bodyPost_ret (Rc.ret_set2 rfl _ ?_ (Rc.row_setRow HR0q.out _) (Rx.cel_size _)) rfl ?_; (focus simp); simp only [Array.getD_eq_getD_getElem?])
    have hnn := HN0.out
    refine HRP.out Rx.none_ false 0 _ ?_ (by show i + 0 ≤ s.length; have := HIL.out; omega) (fun e => by cases e) (by rw [HSQ.out]; rfl) (fun _ => rfl) (by rw [HSQ.out]; intro e; cases e)
    exact Rc.Did.low HAT0.out HD1.out (Rc.below_setRow (Below.refl _ _) (by omega) _)

theorem set_sm : Rc.SetC Rc.Sm := fun w b v r h hl ha hs => by
  have hc : r.s[r.at_]? = some r.s[r.at_] := List.getElem?_eq_getElem ha
  have hm := hs _ (List.getElem_mem ha)
  exact set_plain h hl hc hm.1 hm.2.1 hm.2.2
end Go.Proofs.Ytelbabgkpflckaa

namespace Go.Proofs.Ytelbabgkpflckaa
open Go.RowKit Go.Sort
open Me
open Pk

set_option maxRecDepth 100000 in
set_option maxHeartbeats 4000000 in
theorem moved_any {W : World} {G : Nat → Prop} {A : Option Addr} {cp : Nat} {l : List Rx.In} (hp : Rd W G A (icells l)) (hL : l.length ≤ 1000000) (by_ : Int) :
    Calls Try.prog 59 #[.slice A l.length cp, .int .i64 by_] W fun e W' => ∃ v, e = .returned v ∧ Below W.heap.size W W' ∧ W'.ownsRow W.heap.size 57 4 v l.length (icells (Rc.moved l by_)) := by
  obtain ⟨i0, hi0, hz0, hz1, hz2⟩ := info_parts Rc.inst_info
  have HI := Lib.hid hi0
  have HZ := Lib.hid (And.intro hz0 (And.intro hz1 hz2))
  clear hi0 hz0 hz1 hz2
  have HP : Hid (Rd W (fun _ => True) A (icells l)) := Lib.hid (hp.mono fun _ _ _ => trivial)
  clear hp
  go_enter Try.func59, Try.ntmps59
  go_wp2_with fail
  go_loopw [5, 6, 7] (fun v x _ wr => ∃ i : Nat, x = .int .i64 (i : Int) ∧ i ≤ l.length ∧ (∃ A2 c2, v = .slice A2 i c2) ∧ Hid (Below W.heap.size W wr) ∧ Hid (wr.ownsRow W.heap.size 57 4 v i (icells (Rc.moved (l.take i) by_)))) (fun _ x _ _ => l.length - (intOf x).toNat)
  case atStart => exact ⟨0, rfl, Nat.zero_le _, ⟨none, 0, rfl⟩, Lib.hid (Below.refl _ _), Lib.hid ⟨by simp [icells, Rc.moved], .inl ⟨rfl, rfl⟩⟩⟩
  case round =>
    obtain ⟨i, rfl, hi, ⟨A2, c2, rfl⟩, HB, HO⟩ := hrel
    have hsr := HB.out.size
    by_cases hlt : i < l.length
    · have hltI : (i : Int) < (l.length : Int) := by omega
      have hi0 : (0 : Int) ≤ (i : Int) := by omega
      obtain ⟨x, hx⟩ : ∃ x, l[i] = x := ⟨_, rfl⟩
      have hfx : Pk.fetch l (i : Int) = some x := by unfold Pk.fetch; rw [if_pos hi0, Int.toNat_natCast, List.getElem?_eq_getElem hlt, hx]
      have hpw : Rd wr (fun _ => True) A (icells l) := HP.out.below HB.out
      obtain ⟨ib, io, hA, hil, j0, j1, j2, j3, _⟩ := Pk.prog_cells2 hpw hfx
      rw [Int.toNat_natCast] at j0 j1 j2 j3
      subst hA
      obtain ⟨xop, xx, xy, xp⟩ := x
      have HTK : Hid (∀ y, Rc.mv by_ ⟨xop, xx, xy, xp⟩ = y → icells (Rc.moved (l.take (i + 1)) by_) = icells (Rc.moved (l.take i) by_) ++ icell y) := Lib.hid (fun y hy => by
        rw [List.take_add_one, List.getElem?_eq_getElem hlt, hx]
        unfold Rc.moved
        rw [List.map_append, Rc.icells_append]
        show _ ++ icells [Rc.mv by_ ⟨xop, xx, xy, xp⟩] = _
        rw [Rc.icells_one, hy])
      have hlen : i + 1 ≤ maxLen := by unfold maxLen; omega
      clear hx hfx hpw
      by_cases h2 : xop = 2
      · subst h2
        have HY : Hid (Rc.mv by_ ⟨2, xx, xy, xp⟩ = ⟨2, wrap64 (xx + by_), wrap64 (xy + by_), xp⟩) := Lib.hid (by unfold Rc.mv; simp)
        have HOA : Hid (((wr.alloc (.cells #[.int .i64 2, .int .i64 (wrap64 (xx + by_)), .int .i64 (wrap64 (xy + by_)), .string ⟨xp.toArray⟩] 57)).alloc (.cells #[.int .i64 2, .int .i64 (wrap64 (xx + by_)), .int .i64 (wrap64 (xy + by_)), .string ⟨xp.toArray⟩] 57)).ownsRow W.heap.size 57 4 (.slice A2 i c2) i (icells (Rc.moved (l.take i) by_))) := Lib.hid ((HO.out.alloc _).alloc _)
        have HRD : Hid (Rd ((wr.alloc (.cells #[.int .i64 2, .int .i64 (wrap64 (xx + by_)), .int .i64 (wrap64 (xy + by_)), .string ⟨xp.toArray⟩] 57)).alloc (.cells #[.int .i64 2, .int .i64 (wrap64 (xx + by_)), .int .i64 (wrap64 (xy + by_)), .string ⟨xp.toArray⟩] 57)) (fun b => b = wr.heap.size + 1) (some ⟨wr.heap.size + 1, 0, none⟩) [.int .i64 2, .int .i64 (wrap64 (xx + by_)), .int .i64 (wrap64 (xy + by_)), .string ⟨xp.toArray⟩]) := Lib.hid (Rd.fresh (wr.alloc (.cells #[.int .i64 2, .int .i64 (wrap64 (xx + by_)), .int .i64 (wrap64 (xy + by_)), .string ⟨xp.toArray⟩] 57)) [.int .i64 2, .int .i64 (wrap64 (xx + by_)), .int .i64 (wrap64 (xy + by_)), .string ⟨xp.toArray⟩] 57 _ (by simp))
        go_wp2_with (at_builtin; go_must (refine wpList_app _ rfl (.tmp 39) (.tmp 41) 32 rfl W.heap.size 57 i0 _ 4 40 Try.underlying32 HI.out HZ.out.1 HZ.out.2.1 HZ.out.2.2 rfl (by decide) (.slice A2 i c2) i (icells (Rc.moved (l.take i) by_)) (by simp [Act.eval]) HOA.out (fun b => b = wr.heap.size + 1) (some ⟨wr.heap.size + 1, 0, none⟩) 1 1 [.int .i64 2, .int .i64 (wrap64 (xx + by_)), .int .i64 (wrap64 (xy + by_)), .string ⟨xp.toArray⟩] (by simp [Act.eval]) (by simp) HRD.out (by intro u hu; simp at hu; rcases hu with rfl | rfl | rfl | rfl <;> rfl) hlen (by omega) (by simp; omega) ?_; intro v2 w2 hown2 hg2 hat2 hnil2; have HO2 : Hid (w2.ownsRow W.heap.size 57 4 v2 (i + 1) (icells (Rc.moved (l.take (i + 1)) by_))) := Lib.hid (by rw [HTK.out _ HY.out]; exact hown2); have HB2 : Hid (Below W.heap.size W w2) := Lib.hid (((HB.out.alloc hsr (.cells #[.int .i64 2, .int .i64 (wrap64 (xx + by_)), .int .i64 (wrap64 (xy + by_)), .string ⟨xp.toArray⟩] 57)).alloc (by simp; omega) (.cells #[.int .i64 2, .int .i64 (wrap64 (xx + by_)), .int .i64 (wrap64 (xy + by_)), .string ⟨xp.toArray⟩] 57)).grown hg2 (by simp; omega) (fun g e => (World.ownsRow.lt HOA.out g e).1)); obtain ⟨A3, c3, rfl⟩ := own_form hown2; clear hown2 hg2 hat2 hnil2))
        go_roundw
        case rel => exact ⟨i + 1, by go_num, by omega, ⟨A3, c3, rfl⟩, HB2, HO2⟩
        case measure => simp [intOf]; omega
      · by_cases h3 : xop = 3
        · subst h3
          have HY : Hid (Rc.mv by_ ⟨3, xx, xy, xp⟩ = ⟨3, wrap64 (xx + by_), xy, xp⟩) := Lib.hid (by unfold Rc.mv; simp)
          have HOA : Hid (((wr.alloc (.cells #[.int .i64 3, .int .i64 (wrap64 (xx + by_)), .int .i64 xy, .string ⟨xp.toArray⟩] 57)).alloc (.cells #[.int .i64 3, .int .i64 (wrap64 (xx + by_)), .int .i64 xy, .string ⟨xp.toArray⟩] 57)).ownsRow W.heap.size 57 4 (.slice A2 i c2) i (icells (Rc.moved (l.take i) by_))) := Lib.hid ((HO.out.alloc _).alloc _)
          have HRD : Hid (Rd ((wr.alloc (.cells #[.int .i64 3, .int .i64 (wrap64 (xx + by_)), .int .i64 xy, .string ⟨xp.toArray⟩] 57)).alloc (.cells #[.int .i64 3, .int .i64 (wrap64 (xx + by_)), .int .i64 xy, .string ⟨xp.toArray⟩] 57)) (fun b => b = wr.heap.size + 1) (some ⟨wr.heap.size + 1, 0, none⟩) [.int .i64 3, .int .i64 (wrap64 (xx + by_)), .int .i64 xy, .string ⟨xp.toArray⟩]) := Lib.hid (Rd.fresh (wr.alloc (.cells #[.int .i64 3, .int .i64 (wrap64 (xx + by_)), .int .i64 xy, .string ⟨xp.toArray⟩] 57)) [.int .i64 3, .int .i64 (wrap64 (xx + by_)), .int .i64 xy, .string ⟨xp.toArray⟩] 57 _ (by simp))
          go_wp2_with (at_builtin; go_must (refine wpList_app _ rfl (.tmp 39) (.tmp 41) 32 rfl W.heap.size 57 i0 _ 4 40 Try.underlying32 HI.out HZ.out.1 HZ.out.2.1 HZ.out.2.2 rfl (by decide) (.slice A2 i c2) i (icells (Rc.moved (l.take i) by_)) (by simp [Act.eval]) HOA.out (fun b => b = wr.heap.size + 1) (some ⟨wr.heap.size + 1, 0, none⟩) 1 1 [.int .i64 3, .int .i64 (wrap64 (xx + by_)), .int .i64 xy, .string ⟨xp.toArray⟩] (by simp [Act.eval]) (by simp) HRD.out (by intro u hu; simp at hu; rcases hu with rfl | rfl | rfl | rfl <;> rfl) hlen (by omega) (by simp; omega) ?_; intro v2 w2 hown2 hg2 hat2 hnil2; have HO2 : Hid (w2.ownsRow W.heap.size 57 4 v2 (i + 1) (icells (Rc.moved (l.take (i + 1)) by_))) := Lib.hid (by rw [HTK.out _ HY.out]; exact hown2); have HB2 : Hid (Below W.heap.size W w2) := Lib.hid (((HB.out.alloc hsr (.cells #[.int .i64 3, .int .i64 (wrap64 (xx + by_)), .int .i64 xy, .string ⟨xp.toArray⟩] 57)).alloc (by simp; omega) (.cells #[.int .i64 3, .int .i64 (wrap64 (xx + by_)), .int .i64 xy, .string ⟨xp.toArray⟩] 57)).grown hg2 (by simp; omega) (fun g e => (World.ownsRow.lt HOA.out g e).1)); obtain ⟨A3, c3, rfl⟩ := own_form hown2; clear hown2 hg2 hat2 hnil2))
          go_roundw
          case rel => exact ⟨i + 1, by go_num, by omega, ⟨A3, c3, rfl⟩, HB2, HO2⟩
          case measure => simp [intOf]; omega
        · have HY : Hid (Rc.mv by_ ⟨xop, xx, xy, xp⟩ = ⟨xop, xx, xy, xp⟩) := Lib.hid (by unfold Rc.mv; simp [h2, h3])
          have h2b : (xop == 2) = false := by simpa using h2
          have h3b : (xop == 3) = false := by simpa using h3
          have HOA : Hid (((wr.alloc (.cells #[.int .i64 xop, .int .i64 xx, .int .i64 xy, .string ⟨xp.toArray⟩] 57)).alloc (.cells #[.int .i64 xop, .int .i64 xx, .int .i64 xy, .string ⟨xp.toArray⟩] 57)).ownsRow W.heap.size 57 4 (.slice A2 i c2) i (icells (Rc.moved (l.take i) by_))) := Lib.hid ((HO.out.alloc _).alloc _)
          have HRD : Hid (Rd ((wr.alloc (.cells #[.int .i64 xop, .int .i64 xx, .int .i64 xy, .string ⟨xp.toArray⟩] 57)).alloc (.cells #[.int .i64 xop, .int .i64 xx, .int .i64 xy, .string ⟨xp.toArray⟩] 57)) (fun b => b = wr.heap.size + 1) (some ⟨wr.heap.size + 1, 0, none⟩) [.int .i64 xop, .int .i64 xx, .int .i64 xy, .string ⟨xp.toArray⟩]) := Lib.hid (Rd.fresh (wr.alloc (.cells #[.int .i64 xop, .int .i64 xx, .int .i64 xy, .string ⟨xp.toArray⟩] 57)) [.int .i64 xop, .int .i64 xx, .int .i64 xy, .string ⟨xp.toArray⟩] 57 _ (by simp))
          go_wp2_with (at_builtin; go_must (refine wpList_app _ rfl (.tmp 39) (.tmp 41) 32 rfl W.heap.size 57 i0 _ 4 40 Try.underlying32 HI.out HZ.out.1 HZ.out.2.1 HZ.out.2.2 rfl (by decide) (.slice A2 i c2) i (icells (Rc.moved (l.take i) by_)) (by simp [Act.eval]) HOA.out (fun b => b = wr.heap.size + 1) (some ⟨wr.heap.size + 1, 0, none⟩) 1 1 [.int .i64 xop, .int .i64 xx, .int .i64 xy, .string ⟨xp.toArray⟩] (by simp [Act.eval]) (by simp) HRD.out (by intro u hu; simp at hu; rcases hu with rfl | rfl | rfl | rfl <;> rfl) hlen (by omega) (by simp; omega) ?_; intro v2 w2 hown2 hg2 hat2 hnil2; have HO2 : Hid (w2.ownsRow W.heap.size 57 4 v2 (i + 1) (icells (Rc.moved (l.take (i + 1)) by_))) := Lib.hid (by rw [HTK.out _ HY.out]; exact hown2); have HB2 : Hid (Below W.heap.size W w2) := Lib.hid (((HB.out.alloc hsr (.cells #[.int .i64 xop, .int .i64 xx, .int .i64 xy, .string ⟨xp.toArray⟩] 57)).alloc (by simp; omega) (.cells #[.int .i64 xop, .int .i64 xx, .int .i64 xy, .string ⟨xp.toArray⟩] 57)).grown hg2 (by simp; omega) (fun g e => (World.ownsRow.lt HOA.out g e).1)); obtain ⟨A3, c3, rfl⟩ := own_form hown2; clear hown2 hg2 hat2 hnil2))
          go_roundw
          case rel => exact ⟨i + 1, by go_num, by omega, ⟨A3, c3, rfl⟩, HB2, HO2⟩
          case measure => simp [intOf]; omega
    · have hltI : ¬ (i : Int) < (l.length : Int) := by omega
      obtain rfl : i = l.length := by omega
      go_wp2_with fail
      go_ret
      refine ⟨_, rfl, HB.out, ?_⟩
      have h := HO.out
      rw [List.take_length] at h
      exact h
end Go.Proofs.Ytelbabgkpflckaa

namespace Go.Proofs.Ytelbabgkpflckaa
open Go.RowKit Go.Sort
open Me
open Pk

namespace Rc
open Rx (In)
theorem icells_drop (l : List In) (k : Nat) : (icells l).drop (k * 4) = icells (l.drop k) := by
  induction k generalizing l with
  | zero => simp
  | succ k ih =>
    cases l with
    | nil => simp [icells]
    | cons x l =>
      have e : icells (x :: l) = icell x ++ icells l := rfl
      rw [e, List.drop_succ_cons, ← ih l, show (k + 1) * 4 = (icell x).length + k * 4 by show _ = 4 + k * 4; omega, List.drop_append]
      simp
theorem icells_take (l : List In) (k : Nat) : (icells l).take (k * 4) = icells (l.take k) := by
  induction k generalizing l with
  | zero => simp [icells]
  | succ k ih =>
    cases l with
    | nil => simp [icells]
    | cons x l =>
      have e : icells (x :: l) = icell x ++ icells l := rfl
      have e2 : icells ((x :: l).take (k + 1)) = icell x ++ icells (l.take k) := rfl
      rw [e, e2, ← ih l, show (k + 1) * 4 = (icell x).length + k * 4 by show _ = 4 + k * 4; omega, List.take_append, List.take_of_length_le (by omega)]
      simp
/-- The rest of a row, as the slice operation tells it. -/
theorem rd_rest {w : World} {G : Nat → Prop} {g : Nat} {l : List In} (h : Rd w G (some ⟨g, 0, none⟩) (icells l)) {fr cp : Nat} (hc : l.length ≤ cp) (hf : fr ≤ l.length) : Rd w G (if cp = fr then some ⟨g, 0, none⟩ else some ⟨g, fr * 4, none⟩) (icells (l.drop fr)) := by
  by_cases e : l.length = fr
  · have : l.drop fr = [] := List.drop_eq_nil_of_le (by omega)
    rw [this]
    exact Rd.none_ _ _ _
  · rw [if_neg (by omega)]
    have := h.sub (fr * 4) (icells l).length
    rw [icells_drop, List.take_of_length_le (by rw [icells_len, icells_len, List.length_drop]; omega)] at this
    rwa [Addr.add_lit, Nat.zero_add] at this
theorem rd_front {w : World} {G : Nat → Prop} {g : Nat} {l : List In} (h : Rd w G (some ⟨g, 0, none⟩) (icells l)) (fr : Nat) : Rd w G (some ⟨g, 0, none⟩) (icells (l.take fr)) := by
  have := h.sub 0 (fr * 4)
  rw [List.drop_zero, icells_take] at this
  rwa [Addr.add_lit] at this
theorem icells_cell (l : List In) : ∀ u ∈ icells l, u.oneCell' = true := by
  intro u hu
  obtain ⟨x, _, hx⟩ := List.mem_flatMap.1 hu
  unfold icell at hx
  simp at hx
  rcases hx with rfl | rfl | rfl | rfl <;> rfl
end Rc

set_option maxRecDepth 100000 in
set_option maxHeartbeats 4000000 in
theorem cut_any {w : World} {b : Nat} {v : Value} {r : Rc.Rr} (h : Rc.At w b v r) (hL : r.L.length ≤ 1000000) {fr : Nat} (h0 : 0 < r.L.length) (hf : fr ≤ r.L.length) :
    Calls Try.prog 51 #[.pointer (some ⟨b, 0, none⟩), .int .i64 (fr : Int)] w fun e w' => ∃ v' A c, e = .returned (.slice A (r.L.length - fr) c) ∧ Rc.Did w b v { r with L := r.L.take fr } v' w' ∧ Rc.Side w' b v' A (icells (Rc.moved (r.L.drop fr) (-(fr : Int)))) := by
  obtain ⟨i0, hi0, hz0, hz1, hz2⟩ := info_parts Rc.inst_info
  have HI := Lib.hid hi0
  have HZ := Lib.hid (And.intro hz0 (And.intro hz1 hz2))
  clear hi0 hz0 hz1 hz2
  obtain ⟨g, cp, rfl, hg1, hg2⟩ := own_some h.own h0
  have hbl := h.lt
  have c5 := h.c5
  have f5 := h.fz 5
  have HAT := Lib.hid h
  have hcap : r.L.length ≤ cp ∧ cp ≤ maxLen := by
    rcases h.own.2 with ⟨e, _⟩ | ⟨g', cap, cur, e, _, _, h3, h4, _⟩
    · cases e
    · cases e; exact ⟨h3, h4⟩
  obtain ⟨hc1, hc2⟩ := hcap
  have hrd : Rd w (fun i => i = g) (some ⟨g, 0, none⟩) (icells r.L) := (Rd.own h.own).mono fun i _ hi => (Option.some.inj (show some g = some i from hi)).symm
  have HFR := Lib.hid (Rc.rd_front hrd fr)
  have HM0 := Lib.hid (moved_any (Rc.rd_rest hrd hc1 hf) (cp := cp - fr) (by rw [List.length_drop]; omega) (-(fr : Int)))
  rw [List.length_drop] at HM0
  obtain ⟨AX, hAX⟩ : ∃ A : Option Addr, (if cp = fr then some ⟨g, 0, none⟩ else some ⟨g, fr * 4, none⟩) = A := ⟨_, rfl⟩
  rw [hAX] at HM0
  obtain ⟨n, hn⟩ : ∃ n, n = r.L.length := ⟨_, rfl⟩
  have HN := Lib.hid hn
  rw [← hn] at c5 hL hf h0 hc1 HM0 ⊢
  have hfI : (fr : Int) ≤ (n : Int) := by omega
  have hf0 : (0 : Int) ≤ (fr : Int) := by omega
  clear h hn hrd
  go_enter Try.func51, Try.ntmps51
  go_wp2_with first
    | (go_at_call 59; go_must (refine HM0.out.mono ?_; rintro e w1 ⟨v1, rfl, hb1, ho1⟩; have HB1 := Lib.hid hb1; have HO1 := Lib.hid ho1; have HA1 := Lib.hid (HAT.out.below hb1); have d5 := HA1.out.c5; have e5 := HA1.out.fz 5; have hb1l := HA1.out.lt; have hs1 := hb1.size; have HRE : Hid (Rd (w1.alloc (.cells #[] 57)) (fun i => i = g) (some ⟨g, 0, none⟩) (icells (r.L.take fr))) := Lib.hid ((HFR.out.below hb1).below ((Below.refl _ _).alloc (Nat.le_refl _) _)); have HOE : Hid ((w1.alloc (.cells #[] 57)).ownsRow (b + 1) 57 4 (.slice (some ⟨w1.heap.size, 0, none⟩) 0 0) 0 []) := Lib.hid ⟨by simp, .inr ⟨w1.heap.size, 0, #[], rfl, by omega, Pk.hnew2 rfl, Nat.le_refl _, Nat.zero_le _, rfl, rfl⟩⟩; clear hb1 ho1; obtain ⟨A1, c1, rfl⟩ := own_form HO1.out))
    | (at_builtin; go_must (refine wpList_app _ rfl (.tmp 17) (.tmp 24) 32 rfl (b + 1) 57 i0 _ 4 40 Try.underlying32 HI.out HZ.out.1 HZ.out.2.1 HZ.out.2.2 rfl (by decide) (.slice (some ⟨w1.heap.size, 0, none⟩) 0 0) 0 [] (by simp [Act.eval]) HOE.out (fun i => i = g) (some ⟨g, 0, none⟩) fr cp (icells (r.L.take fr)) (by simp [Act.eval]) (by rw [Rc.icells_len, List.length_take]; have := HN.out; omega) HRE.out (Rc.icells_cell _) (by unfold maxLen; omega) (by omega) (by simp; omega) ?_; intro v2 w2 hown2 hg2 hat2 hnil2; rw [Nat.zero_add, List.nil_append] at hown2; have HO2 := Lib.hid hown2; have HG2 := Lib.hid hg2; have HA2 := Lib.hid hat2; have k5 : w2.cell? ⟨b, 5, none⟩ = some (.slice (some ⟨g, 0, none⟩) n cp) := (hg2.cell_far ⟨b, 5, none⟩ (by show b < _; simp; omega) (fun e => by have e : some b = some w1.heap.size := e; have := Option.some.inj e; omega)).trans ((World.cell?_alloc_lt _ _ _ hb1l).trans (by have := HN.out; subst this; exact d5)); have kf5 : w2.frozen? ⟨b, 5, none⟩ = false := (hg2.frozen_far ⟨b, 5, none⟩ (by show b < _; simp; omega) (fun e => by have e : some b = some w1.heap.size := e; have := Option.some.inj e; omega)).trans ((World.frozen?_of_block (Below.heap_alloc _ _ b hb1l)).trans e5); obtain ⟨A2, c2, rfl⟩ := own_form hown2; clear hown2 hg2 hat2 hnil2))
  go_ret
  have hw2 : Below w1.heap.size w1 w2 := ((Below.refl _ _).alloc (Nat.le_refl _) (.cells #[] 57)).trans ⟨HG2.out.os, HG2.out.tape, HG2.out.output, HG2.out.size, fun i hi => HG2.out.block i (by simp; omega) (fun e => by have e : some i = some w1.heap.size := e; have := Option.some.inj e; omega)⟩
  have ht : ({ r with L := r.L.take fr } : Rc.Rr).L.length = fr := by show (r.L.take fr).length = fr; rw [List.length_take]; have := HN.out; omega
  have hnew : ∀ i, (Value.slice A2 fr c2).ownBlock = some i → w1.heap.size ≤ i := fun i hi => by
    rcases HA2.out with e | e
    · have e : some w1.heap.size = some i := e.symm.trans hi
      have := Option.some.inj e; omega
    · have := Option.some.inj (e.symm.trans hi)
      rw [← this]; simp
  have hbs := HAT.out.lt
  refine ⟨.slice A2 fr c2, A1, c1, rfl, ⟨⟨?_, ?_⟩, ?_, ?_⟩, ?_⟩
  · have hrow : RowAt w2 b 84 _ := HA1.out.row.below hw2 hb1l
    exact hrow.set_ 5 _
  · rw [ht]
    exact owns_keep HO2.out fun i hi => Below.heap_setCell _ _ _ i (by have := (World.ownsRow.lt HO2.out i hi).1; show i ≠ b; omega)
  · exact (((Kp.of_below (O := fun _ => False) HB1.out).trans (Kp.of_below (O := fun _ => False) hw2) fun _ _ e => e).mono fun _ _ e => e.elim).setCell _ (.inr (.inl rfl)) _
  · intro i hi
    exact .inr (Nat.le_trans HB1.out.size (hnew i hi))
  · intro hne
    obtain ⟨ad, e, hl, hge, hc⟩ := (Rd.own HO1.out) hne
    have h1 := World.ownsRow.lt HO1.out _ hge
    have hwk : (w2.setCell ⟨b, 5, none⟩ (.slice A2 fr c2)).heap[ad.block]? = w1.heap[ad.block]? := (Below.heap_setCell _ _ _ _ (by show ad.block ≠ b; omega)).trans (hw2.block _ h1.2)
    refine ⟨ad, e, by have := hw2.size; simp [World.setCell]; omega, ⟨by omega, fun e2 => by have := hnew _ e2; omega⟩, fun j u hu => ?_⟩
    exact (World.cell?_of_block (by rw [Me.block_add]; exact hwk)).trans (hc j u hu)
end Go.Proofs.Ytelbabgkpflckaa
