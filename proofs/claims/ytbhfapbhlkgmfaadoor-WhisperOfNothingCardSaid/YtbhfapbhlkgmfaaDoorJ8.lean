/-
  WpPO: THE PROGRAM's FILES AS AN OBJECT, among blocks that are to stay: what each of its functions does to it.
  WqOp: CONTRACTS: chapter 7, the program's open: a file that is there and is a header's.
  WqIn: CONTRACTS: chapter 7, the program's Info; the test of a now.
  WqCh: CONTRACTS: slices.Chunk of bytes, twelve at a time: its closure for every loop body.
  WqRg: CONTRACTS: chapter 7, the program's ring: an archive of a file.
  WpRi: CONTRACTS: chapter 7, the document's Ring.
  WqRd: CONTRACTS: chapter 7, the program's read: slots that lie side by side.
  WqPt: CONTRACTS: chapter 7, the program's points: slots round the ring; an archive's slots.
  WqVa: CONTRACTS: chapter 7, the program's values: what the slots hold for times a step apart.
-/
import Derived.Test.YtbhfapbhlkgmfaaDoorJ1
import Derived.Test.YtbhfapbhlkgmfaaDoorJ7
import Derived.Test.YtbhfapbhlkgmfaaDoorJ6
import Derived.Test.YtbhfapbhlkgmfaaDoorJ5
import Derived.RangeFuncNested
import Derived.RangeFuncBound
import Derived.RangeFuncCalls
import Derived.RangeFuncLeaves
import Derived.RangeFuncBox
import Derived.Shelf.Abstract
import Derived.Shelf.RegionOpen
import Derived.OwnWalkIn
import Derived.TacticsInMore
import Derived.LoopNIn
import Derived.LoopIn
import Derived.Maps.AppendAt
import Derived.Test.YtbhfapbhlkgmfaaDoorJ3
import Derived.Test.YtbhfapbhlkgmfaaDoorJ4
import Derived.Maps.OwnIn

namespace Go.Proofs.YtbhfapbhlkgmfaaDoor
open Go.RowKit
open Me Vf
namespace Wp

/-- The program's files at fs in the state S, when c acts were played at most; the blocks of V are none of its own. -/
def PO (w : World) (V : Nat → Prop) (fs c : Nat) (S : Sv) : Prop := ∃ M, Vp.Pg w M fs (2 * c) S ∧ Vf.Inv c S ∧ ∀ b, V b → b < w.heap.size ∧ ¬ M b
theorem PO.below {w w' : World} {V : Nat → Prop} {fs c : Nat} {S : Sv} (h : PO w V fs c S) (b : Below w.heap.size w w') : PO w' V fs c S := by
  obtain ⟨M, h1, h2, h3⟩ := h
  exact ⟨M, h1.below b, h2, fun i hi => ⟨Nat.lt_of_lt_of_le (h3 i hi).1 b.size, (h3 i hi).2⟩⟩
/-- Its blocks are laid. -/
theorem PO.tight {w : World} {M : Nat → Prop} {fs N : Nat} {S : Sv} (h : Vp.Pg w M fs N S) : Vp.Pg w (fun b => M b ∧ b < w.heap.size) fs N S := by
  obtain ⟨mb, lr, I, db, G, c, j, lv, mv, ys, h1, h2, h3, h4⟩ := h
  exact ⟨mb, lr, I, db, G, c, j, lv, mv, ys, h1, h2, h3, fun b hb => ⟨h4 b hb, h1.lt hb⟩⟩
/-- Blocks that were laid since are none of its own. -/
theorem PO.add {w w' : World} {V V' : Nat → Prop} {fs c : Nat} {S : Sv} (h : PO w V fs c S) (b : Below w.heap.size w w') (hV : ∀ i, V' i → V i ∨ (w.heap.size ≤ i ∧ i < w'.heap.size)) : PO w' V' fs c S := by
  obtain ⟨M, h1, h2, h3⟩ := h
  refine ⟨_, (PO.tight h1).below b, h2, fun i hi => ?_⟩
  rcases hV i hi with hv | ⟨ha, hb⟩
  · exact ⟨Nat.lt_of_lt_of_le (h3 i hv).1 b.size, fun hm => (h3 i hv).2 hm.1⟩
  · exact ⟨hb, fun hm => by have := hm.2; omega⟩
/-- What is changed in blocks of V changes nothing. -/
theorem PO.kp {w w' : World} {V O : Nat → Prop} {fs c : Nat} {S : Sv} (h : PO w V fs c S) (k : Kp O w w') (hO : ∀ i, O i → V i) : PO w' V fs c S := by
  obtain ⟨M, h1, h2, h3⟩ := h
  exact ⟨M, h1.kp k (fun i hi => (h3 i (hO i hi)).2), h2, fun i hi => ⟨Nat.lt_of_lt_of_le (h3 i hi).1 k.size, (h3 i hi).2⟩⟩
theorem PO.more {w : World} {V V' : Nat → Prop} {fs c c' : Nat} {S : Sv} (h : PO w V fs c S) (hc : c ≤ c') (hV : ∀ i, V' i → V i) : PO w V' fs c' S := by
  obtain ⟨M, h1, h2, h3⟩ := h
  exact ⟨M, h1.more (by omega), h2.mono hc, fun i hi => h3 i (hV i hi)⟩
theorem PO.vlt {w : World} {V : Nat → Prop} {fs c : Nat} {S : Sv} (h : PO w V fs c S) : ∀ i, V i → i < w.heap.size := by
  obtain ⟨M, h1, h2, h3⟩ := h
  exact fun i hi => (h3 i hi).1
theorem PO.inv {w : World} {V : Nat → Prop} {fs c : Nat} {S : Sv} (h : PO w V fs c S) : Vf.Inv c S := by
  obtain ⟨M, h1, h2, h3⟩ := h
  exact h2
theorem PO.of_next {w w' : World} {V M : Nat → Prop} {fs N c' : Nat} {S : Sv} {v : Value} {e : Ending} (h3 : ∀ b, V b → b < w.heap.size ∧ ¬ M b) (hN : N ≤ 2 * c') (hi : Vf.Inv c' S) (hn : Vp.PNext w M fs N S v e w') : e = .returned v ∧ PO w' V fs c' S ∧ Kp (fun b => ¬ V b) w w' := by
  obtain ⟨rfl, M', q1, q2, q3⟩ := hn
  refine ⟨rfl, ⟨M', q1.more hN, hi, fun b hb => ⟨Nat.lt_of_lt_of_le (h3 b hb).1 q2.size, fun hm => ?_⟩⟩, q2.mono fun b _ ho hv => (h3 b hv).2 ho⟩
  rcases q3 b hm with h | h
  · exact (h3 b hb).2 h
  · have := (h3 b hb).1; omega
end Wp
open Wp

section
variable {w : World} {V : Nat → Prop} {fs c : Nat} {S : Sv}
theorem posize (h : PO w V fs c S) (n : List UInt8) :
    Calls Tryd.prog 46 #[.pointer (some ⟨fs, 0, none⟩), .string ⟨n.toArray⟩] w fun e w' => e = .returned (.tuple #[.int .i64 (Vf.size S.now n).1, .int .i64 (Vf.size S.now n).2]) ∧ w = w' := by
  obtain ⟨M, h1, h2, h3⟩ := h
  exact psize_any h1 n
theorem poread (h : PO w V fs c S) (n : List UInt8) (t m : Int) (ht : t ≤ 9223372036854775807) :
    Calls Tryd.prog 47 #[.pointer (some ⟨fs, 0, none⟩), .string ⟨n.toArray⟩, .int .i64 t, .int .i64 m] w (Handed w (Vf.read S.now n t m)) := by
  obtain ⟨M, h1, h2, h3⟩ := h
  exact pread_any h1 n t m ht
/-- The bytes that are written lie in blocks of V, or in one that is none of the files'. -/
theorem powrite (h : PO w V fs c S) (hc : c ≤ 500000) (n : List UInt8) (t : Int) (ht : t ≤ 9223372036854775807) (ps : List (List UInt8)) (pv : Value) (hp : Vf.Ps w V pv ps) (hpl : ps.length ≤ 1048576) (hpt : ps.flatten.length ≤ 1048576) :
    Calls Tryd.prog 69 #[.pointer (some ⟨fs, 0, none⟩), .string ⟨n.toArray⟩, .int .i64 t, pv] w fun e w' => e = .returned (.int .i64 (Vf.write S n t ps.flatten).2) ∧ PO w' V fs (c + 1) (Vf.write S n t ps.flatten).1 ∧ Kp (fun b => ¬ V b) w w' := by
  obtain ⟨M, h1, h2, h3⟩ := h
  exact (pwrite_any h1 n t ps pv hp ht (by omega) hpl (by omega) h3).mono fun e w' hn => PO.of_next h3 (by omega) (h2.write _ _ _) hn
theorem pocreate (h : PO w V fs c S) (hc : c ≤ 500000) (n : List UInt8) (ps : List (List UInt8)) (pv : Value) {Gq : Nat → Prop} (hp : Vf.Ps w Gq pv ps) (hpl : ps.length ≤ 1048576) (hpt : ps.flatten.length ≤ 1073741824) (hGq : ∀ b, Gq b → b < w.heap.size) :
    Calls Tryd.prog 21 #[.pointer (some ⟨fs, 0, none⟩), .string ⟨n.toArray⟩, pv] w fun e w' => e = .returned (.int .i64 (Vf.create S n ps.flatten).2) ∧ PO w' V fs (c + 1) (Vf.create S n ps.flatten).1 ∧ Kp (fun b => ¬ V b) w w' := by
  obtain ⟨M, h1, h2, h3⟩ := h
  have i1 := h2.last
  have i0 := h2.room0
  have i2 := h2.room1
  exact (pcreate_any h1 n ps pv hp (by omega) (by omega) i0 i2 hpl hpt hGq).mono fun e w' hn => PO.of_next h3 (by omega) (h2.create _ _) hn
theorem posync (h : PO w V fs c S) :
    Calls Tryd.prog 23 #[.pointer (some ⟨fs, 0, none⟩)] w fun e w' => e = .returned (.tuple #[]) ∧ PO w' V fs c { S with was := S.now, l := [] } ∧ Kp (fun b => ¬ V b) w w' := by
  obtain ⟨M, h1, h2, h3⟩ := h
  exact (psync_any h1).mono fun e w' hn => PO.of_next h3 (Nat.le_refl _) h2.sync hn
end
end Go.Proofs.YtbhfapbhlkgmfaaDoor

namespace Go.Proofs.YtbhfapbhlkgmfaaDoor
open Go.RowKit Go.Sort
open Fx (Vl)
open Me
open Wp

/-- A file handed back with an error, its header in blocks of the call's own. -/
def Wp.Opened (w : World) (fs : Nat) (n : List UInt8) (R : Hd × Int) (e : Ending) (w' : World) : Prop :=
  ∃ A cap p s, e = .returned (.tuple #[.agg #[.int .i64 R.1.ag, .int .i64 R.1.xf, .slice A R.1.l.length cap, .pointer p, .string s], .int .i64 R.2]) ∧ (R.2 = 0 → p = some ⟨fs, 0, none⟩ ∧ s = ⟨n.toArray⟩) ∧ Row w' A R.1.l cap ∧ (∀ a, A = some a → w.heap.size ≤ a.block) ∧ Below w.heap.size w w'
theorem Wp.Opened.zero {w w' : World} {fs : Nat} {n : List UInt8} {R : Hd × Int} {k : Int} (hR : R = (Hd.zero, k)) (hk : k ≠ 0) (hb : Below w.heap.size w w') : Opened w fs n R (.returned (.tuple #[.agg #[.int .i64 0, .int .i64 0, .slice none 0 0, .pointer none, .string ⟨#[]⟩], .int .i64 k])) w' := by
  subst hR
  exact ⟨none, 0, none, ⟨#[]⟩, rfl, fun e => absurd e hk, ⟨Nat.le_refl _, fun h => (by cases h)⟩, fun a e => (by cases e), hb⟩

theorem row_kept {W W' : World} {A : Option Addr} {l : List (Int × Int)} {cap : Nat} (h : Row W A l cap) (hk : ∀ x, A = some x → W'.heap[x.block]? = W.heap[x.block]?) : Row W' A l cap := by
  refine ⟨h.1, fun h0 => ?_⟩
  obtain ⟨bb, off, e, ha⟩ := h.2 h0
  have hk' : W'.heap[bb]? = W.heap[bb]? := hk _ e
  have hw := ha.lt
  have hlt : bb < W'.heap.size := by
    have h1 : W'.heap[bb]? = some W.heap[bb] := hk'.trans (Array.getElem?_eq_getElem hw)
    exact (Array.getElem?_eq_some_iff.1 h1).1
  exact ⟨bb, off, e, hlt, fun i hi => (World.cell?_of_block hk').trans (ha.st i hi), fun i hi => (World.cell?_of_block hk').trans (ha.ct i hi)⟩
theorem heap_set5 {g i : Nat} {W : World} {a b c d z : Value} (hne : i ≠ g) : (((((W.setCell ⟨g, 0, none⟩ a).setCell ⟨g, 1, none⟩ b).setCell ⟨g, 2, none⟩ c).setCell ⟨g, 3, none⟩ d).setCell ⟨g, 4, none⟩ z).heap[i]? = W.heap[i]? := by
  rw [Below.heap_setCell _ _ _ _ hne, Below.heap_setCell _ _ _ _ hne, Below.heap_setCell _ _ _ _ hne, Below.heap_setCell _ _ _ _ hne, Below.heap_setCell _ _ _ _ hne]
theorem row_set5 {g : Nat} {W : World} {a b c d z : Value} {A : Option Addr} {l : List (Int × Int)} {cap : Nat} (h : Row W A l cap) (hg : ∀ x, A = some x → g < x.block) : Row (((((W.setCell ⟨g, 0, none⟩ a).setCell ⟨g, 1, none⟩ b).setCell ⟨g, 2, none⟩ c).setCell ⟨g, 3, none⟩ d).setCell ⟨g, 4, none⟩ z) A l cap :=
  row_kept h fun x e => heap_set5 (by have := hg x e; omega)

set_option maxHeartbeats 1000000 in
theorem open_nil (n : List UInt8) (w : World) : Calls Tryd.prog 24 #[.pointer none, .string ⟨n.toArray⟩] w (Opened w 0 n (Hd.zero, 1)) := by
  go_enter Tryd.func24, Tryd.ntmps24
  go_wp2_with fail
  refine bodyPost_ret (v := .tuple #[.agg #[.int .i64 0, .int .i64 0, .slice none 0 0, .pointer none, .string ⟨#[]⟩], .int .i64 1]) (by simp [results, Tryd.results24, go_sem]) rfl (Opened.zero rfl (by decide) (by repeat (first | exact Below.refl _ _ | assumption | refine Below.setCell ?_ (by first | (simp; done) | omega | (simp; omega) | (simp at *; omega)) _ | refine Below.alloc ?_ (by first | (simp; done) | omega | (simp; omega) | (simp at *; omega)) _ | refine Below.drew ?_ | (refine Below.trans ?_ (Below.mono (by assumption) (by first | (simp; done) | omega | (simp; omega) | (simp at *; omega)))) | (refine Below.trans ?_ (Below.mono (below_regrown _ _ _) (by first | (simp; done) | omega | (simp; omega) | (simp at *; omega)))))))

set_option maxRecDepth 100000 in
set_option maxHeartbeats 4000000 in
theorem open_any {w : World} {V : Nat → Prop} {c fs : Nat} {S : Vf.Sv} (ro : PO w V fs c S) (n : List UInt8) :
    Calls Tryd.prog 24 #[.pointer (some ⟨fs, 0, none⟩), .string ⟨n.toArray⟩] w (Opened w fs n (info S.now n)) := by
  have HSZ : Hid (∀ W, Below w.heap.size w W → Calls Tryd.prog 46 #[.pointer (some ⟨fs, 0, none⟩), .string ⟨n.toArray⟩] W fun e w' => e = .returned (.tuple #[.int .i64 (Vf.size S.now n).1, .int .i64 (Vf.size S.now n).2]) ∧ W = w') := Lib.hid fun W hb => posize (ro.below hb) n
  have HC : Hid (∀ W, Below (w.heap.size + 1) (w.alloc (.cells #[.int .i64 0, .int .i64 0, .slice none 0 0, .pointer none, .string ⟨#[]⟩] 70)) W → RowAt W w.heap.size 70 #[.int .i64 0, .int .i64 0, .slice none 0 0, .pointer none, .string ⟨#[]⟩]) := Lib.hid fun W hb => (RowAt.new w _ _).below hb (Nat.lt_succ_self _)
  by_cases he : (Vf.size S.now n).2 = 0
  · obtain ⟨L, hL, hz0, hq⟩ := info_short he
    have HRD : Hid (∀ W, Below w.heap.size w W → Calls Tryd.prog 47 #[.pointer (some ⟨fs, 0, none⟩), .string ⟨n.toArray⟩, .int .i64 0, .int .i64 (min (Vf.size S.now n).1 112)] W (Vf.Handed W (L, 0))) := Lib.hid fun W hb => by
      have h := poread (ro.below hb) n 0 (min (Vf.size S.now n).1 112) (by omega)
      rw [hL] at h
      exact h
    have HQ2 := Lib.hid hq
    clear hL hq ro
    generalize info S.now n = R at *
    generalize Vf.size S.now n = Z at *
    obtain ⟨z, ez⟩ := Z
    obtain rfl : ez = 0 := he
    generalize hmn : min (z, (0 : Int)).1 112 = mn at *
    have hmn' : min z 112 = mn := hmn
    clear hmn
    have HQ2' : Hid (R = if Wh.derr L ≠ 0 ∨ (hdOf L).size ≠ z then (Hd.zero, 2) else (hdOf L, 0)) := HQ2
    clear HQ2
    cases hd : Wh.dok L
    · obtain ⟨e1, e2, e3, e4⟩ := Wh.dok_f hd
      have HR : Hid (R = (Hd.zero, 2)) := Lib.hid (by rw [HQ2'.out, if_pos (.inl (by rw [e4]; decide))])
      have HDD := Lib.hid fun A c W h => decode_anyF A L c W h
      unfold DecodedF at HDD
      rw [e1, e2, e3, e4] at HDD
      clear HQ2' e1 e2 e3 e4 hd
      go_enter Tryd.func24, Tryd.ntmps24
      go_wp2_with first
        | (go_at_call 46; (with_reducible refine (HSZ.out _ ((Below.refl _ _).alloc (Nat.le_refl _) _)).mono ?_); rintro e w2 ⟨rfl, rfl⟩)
        | (go_at_call 47; (with_reducible refine (HRD.out _ ((Below.refl _ _).alloc (Nat.le_refl _) _)).mono ?_); rintro e w3 ⟨v3, rfl, hv3, hb3⟩; have hbb : Below (w.heap.size + 1) (w.alloc (.cells #[.int .i64 0, .int .i64 0, .slice none 0 0, .pointer none, .string ⟨#[]⟩] 70)) w3 := hb3.mono (by simp); have HB3 := Lib.hid hbb; have HV3 : Hid (Reads w3 v3 L) := Lib.hid (by obtain ⟨A', c', e', h1', _, h3'⟩ := hv3; exact ⟨A', c', e', h1', h3'.mono fun _ _ _ => trivial⟩); obtain ⟨A3, c3, rfl, _, _⟩ := HV3.out; have hs3 : w.heap.size < w3.heap.size := (HC.out w3 hbb).lt; clear hb3 hbb hv3)
        | (go_at_call 48; (with_reducible refine (HDD.out A3 c3 w3 HV3.out).mono ?_); rintro e w4 ⟨A4, c4, rfl, hrow, hb4, hfr⟩; have hbb : Below (w.heap.size + 1) (w.alloc (.cells #[.int .i64 0, .int .i64 0, .slice none 0 0, .pointer none, .string ⟨#[]⟩] 70)) w4 := HB3.out.trans (hb4.mono hs3); have HB4 := Lib.hid hbb; have HLB := Lib.hid (lowBox' hbb); have hs4 := (HC.out w4 hbb).lt; have r0 := (HC.out w4 hbb).cell 0; have r1 := (HC.out w4 hbb).cell 1; have r2 := (HC.out w4 hbb).cell 2; have r3 := (HC.out w4 hbb).cell 3; have r4 := (HC.out w4 hbb).cell 4; have f0 := (HC.out w4 hbb).frozen 0; have f1 := (HC.out w4 hbb).frozen 1; have f2 := (HC.out w4 hbb).frozen 2; have f3 := (HC.out w4 hbb).frozen 3; have f4 := (HC.out w4 hbb).frozen 4; simp only [List.getElem?_toArray, List.getElem?_cons_succ, List.getElem?_cons_zero] at r0 r1 r2 r3 r4; clear hb4 hbb hrow hfr)
      refine bodyPost_ret (v := .tuple #[.agg #[.int .i64 0, .int .i64 0, .slice none 0 0, .pointer none, .string ⟨#[]⟩], .int .i64 2]) (by simp [results, Tryd.results24, go_sem, *]) rfl (Opened.zero HR.out (by decide) ((below_set5 HLB.out (Nat.le_refl _)).alloc (by simp [World.setCell]; omega) _))
    · obtain ⟨_, _, _, e4⟩ := Wh.dok_t hd
      have HDD := Lib.hid fun A c W h => decode_anyF A L c W h
      unfold DecodedF at HDD
      rw [e4] at HDD HQ2'
      have HHS : Hid (∀ A4 c4 W, Row W A4 (Wh.dl L) c4 → Calls Tryd.prog 22 #[.agg #[.int .i64 (Wh.dag L), .int .i64 (Wh.dxf L), .slice A4 (Wh.dl L).length c4]] W fun e w' => e = .returned (.int .i64 (hdOf L).size) ∧ Below W.heap.size W w') := Lib.hid fun A4 c4 W h => wsize_any _ _ _ A4 c4 W h
      clear e4 hd
      obtain ⟨sz, hsz⟩ : ∃ sz, Hid (sz = (hdOf L).size) := ⟨_, Lib.hid rfl⟩
      rw [← hsz.out] at HHS HQ2'
      obtain ⟨H, hH⟩ : ∃ H, Hid (H = hdOf L) := ⟨_, Lib.hid rfl⟩
      rw [← hH.out] at HQ2'
      have e5 : Wh.dag L = H.ag := by rw [hH.out]; rfl
      have e6 : Wh.dxf L = H.xf := by rw [hH.out]; rfl
      have e7 : Wh.dl L = H.l := by rw [hH.out]; rfl
      rw [e5, e6, e7] at HDD HHS
      clear e5 e6 e7 hH hsz
      obtain ⟨ag, xf, l⟩ := H
      simp only at HDD HHS
      by_cases hz : sz = z
      · have HR : Hid (R = (⟨ag, xf, l⟩, 0)) := Lib.hid (by rw [HQ2'.out, if_neg (by rintro (e | e); exact e rfl; exact e hz)])
        have hzb : (sz == z) = true := by simpa using hz
        subst hz
        clear HQ2'
        go_enter Tryd.func24, Tryd.ntmps24
        go_wp2_with first
          | (go_at_call 46; (with_reducible refine (HSZ.out _ ((Below.refl _ _).alloc (Nat.le_refl _) _)).mono ?_); rintro e w2 ⟨rfl, rfl⟩)
          | (go_at_call 47; (with_reducible refine (HRD.out _ ((Below.refl _ _).alloc (Nat.le_refl _) _)).mono ?_); rintro e w3 ⟨v3, rfl, hv3, hb3⟩; have hbb : Below (w.heap.size + 1) (w.alloc (.cells #[.int .i64 0, .int .i64 0, .slice none 0 0, .pointer none, .string ⟨#[]⟩] 70)) w3 := hb3.mono (by simp); have HB3 := Lib.hid hbb; have HV3 : Hid (Reads w3 v3 L) := Lib.hid (by obtain ⟨A', c', e', h1', _, h3'⟩ := hv3; exact ⟨A', c', e', h1', h3'.mono fun _ _ _ => trivial⟩); obtain ⟨A3, c3, rfl, _, _⟩ := HV3.out; have hs3 : w.heap.size < w3.heap.size := (HC.out w3 hbb).lt; clear hb3 hbb hv3)
          | (go_at_call 48; (with_reducible refine (HDD.out A3 c3 w3 HV3.out).mono ?_); rintro e w4 ⟨A4, c4, rfl, hrow, hb4, hfr⟩; have hbb : Below (w.heap.size + 1) (w.alloc (.cells #[.int .i64 0, .int .i64 0, .slice none 0 0, .pointer none, .string ⟨#[]⟩] 70)) w4 := HB3.out.trans (hb4.mono hs3); have HB4 := Lib.hid hbb; have HROW := Lib.hid hrow; have HFR : Hid (∀ a, A4 = some a → w.heap.size < a.block) := Lib.hid (fun a e => Nat.lt_of_lt_of_le hs3 (hfr a e)); have hs4 := (HC.out w4 hbb).lt; clear hb4 hbb hrow hfr)
          | (go_at_call 22; (with_reducible refine (HHS.out _ _ _ (HROW.out.below ((Below.refl _ _).alloc (Nat.le_refl _) _))).mono ?_); rintro e w5 ⟨rfl, hb5⟩; have hbb : Below (w.heap.size + 1) (w.alloc (.cells #[.int .i64 0, .int .i64 0, .slice none 0 0, .pointer none, .string ⟨#[]⟩] 70)) w5 := (HB4.out.alloc (by omega) _).trans (hb5.mono (by simp; omega)); have HB5 := Lib.hid hbb; have HROW5 := Lib.hid (HROW.out.below (((Below.refl w4.heap.size w4).alloc (Nat.le_refl _) _).trans (hb5.mono (by simp)))); have r0 := (HC.out w5 hbb).cell 0; have r1 := (HC.out w5 hbb).cell 1; have r2 := (HC.out w5 hbb).cell 2; have r3 := (HC.out w5 hbb).cell 3; have r4 := (HC.out w5 hbb).cell 4; have f0 := (HC.out w5 hbb).frozen 0; have f1 := (HC.out w5 hbb).frozen 1; have f2 := (HC.out w5 hbb).frozen 2; have f3 := (HC.out w5 hbb).frozen 3; have f4 := (HC.out w5 hbb).frozen 4; simp only [List.getElem?_toArray, List.getElem?_cons_succ, List.getElem?_cons_zero] at r0 r1 r2 r3 r4; have hs5 := (HC.out w5 hbb).lt; obtain ⟨hc5, hf5⟩ := bcell hb5; have hz5 : w4.heap.size < w5.heap.size := Nat.lt_of_lt_of_le (by simp) hb5.size; clear hb5 hbb)
        refine bodyPost_ret (v := .tuple #[.agg #[.int .i64 ag, .int .i64 xf, .slice A4 l.length c4, .pointer (some ⟨fs, 0, none⟩), .string ⟨n.toArray⟩], .int .i64 0]) (by simp [results, Tryd.results24, go_sem, *]) rfl ⟨A4, c4, some ⟨fs, 0, none⟩, ⟨n.toArray⟩, by rw [HR.out], fun _ => ⟨rfl, rfl⟩, by rw [HR.out]; exact row_set5 HROW5.out HFR.out, fun a e => Nat.le_of_lt (HFR.out a e), below_set5 (lowBox' HB5.out) (Nat.le_refl _)⟩
      · have HR : Hid (R = (Hd.zero, 2)) := Lib.hid (by rw [HQ2'.out, if_pos (.inr hz)])
        have hzb : (sz == z) = false := by simpa using hz
        clear HQ2'
        go_enter Tryd.func24, Tryd.ntmps24
        go_wp2_with first
          | (go_at_call 46; (with_reducible refine (HSZ.out _ ((Below.refl _ _).alloc (Nat.le_refl _) _)).mono ?_); rintro e w2 ⟨rfl, rfl⟩)
          | (go_at_call 47; (with_reducible refine (HRD.out _ ((Below.refl _ _).alloc (Nat.le_refl _) _)).mono ?_); rintro e w3 ⟨v3, rfl, hv3, hb3⟩; have hbb : Below (w.heap.size + 1) (w.alloc (.cells #[.int .i64 0, .int .i64 0, .slice none 0 0, .pointer none, .string ⟨#[]⟩] 70)) w3 := hb3.mono (by simp); have HB3 := Lib.hid hbb; have HV3 : Hid (Reads w3 v3 L) := Lib.hid (by obtain ⟨A', c', e', h1', _, h3'⟩ := hv3; exact ⟨A', c', e', h1', h3'.mono fun _ _ _ => trivial⟩); obtain ⟨A3, c3, rfl, _, _⟩ := HV3.out; have hs3 : w.heap.size < w3.heap.size := (HC.out w3 hbb).lt; clear hb3 hbb hv3)
          | (go_at_call 48; (with_reducible refine (HDD.out A3 c3 w3 HV3.out).mono ?_); rintro e w4 ⟨A4, c4, rfl, hrow, hb4, hfr⟩; have hbb : Below (w.heap.size + 1) (w.alloc (.cells #[.int .i64 0, .int .i64 0, .slice none 0 0, .pointer none, .string ⟨#[]⟩] 70)) w4 := HB3.out.trans (hb4.mono hs3); have HB4 := Lib.hid hbb; have HROW := Lib.hid hrow; have HFR : Hid (∀ a, A4 = some a → w.heap.size < a.block) := Lib.hid (fun a e => Nat.lt_of_lt_of_le hs3 (hfr a e)); have hs4 := (HC.out w4 hbb).lt; clear hb4 hbb hrow hfr)
          | (go_at_call 22; (with_reducible refine (HHS.out _ _ _ (HROW.out.below ((Below.refl _ _).alloc (Nat.le_refl _) _))).mono ?_); rintro e w5 ⟨rfl, hb5⟩; have hbb : Below (w.heap.size + 1) (w.alloc (.cells #[.int .i64 0, .int .i64 0, .slice none 0 0, .pointer none, .string ⟨#[]⟩] 70)) w5 := (HB4.out.alloc (by omega) _).trans (hb5.mono (by simp; omega)); have HB5 := Lib.hid hbb; have HROW5 := Lib.hid (HROW.out.below (((Below.refl w4.heap.size w4).alloc (Nat.le_refl _) _).trans (hb5.mono (by simp)))); have r0 := (HC.out w5 hbb).cell 0; have r1 := (HC.out w5 hbb).cell 1; have r2 := (HC.out w5 hbb).cell 2; have r3 := (HC.out w5 hbb).cell 3; have r4 := (HC.out w5 hbb).cell 4; have f0 := (HC.out w5 hbb).frozen 0; have f1 := (HC.out w5 hbb).frozen 1; have f2 := (HC.out w5 hbb).frozen 2; have f3 := (HC.out w5 hbb).frozen 3; have f4 := (HC.out w5 hbb).frozen 4; simp only [List.getElem?_toArray, List.getElem?_cons_succ, List.getElem?_cons_zero] at r0 r1 r2 r3 r4; have hs5 := (HC.out w5 hbb).lt; obtain ⟨hc5, hf5⟩ := bcell hb5; have hz5 : w4.heap.size < w5.heap.size := Nat.lt_of_lt_of_le (by simp) hb5.size; clear hb5 hbb)
        refine bodyPost_ret (v := .tuple #[.agg #[.int .i64 0, .int .i64 0, .slice none 0 0, .pointer none, .string ⟨#[]⟩], .int .i64 2]) (by simp [results, Tryd.results24, go_sem, *]) rfl (Opened.zero HR.out (by decide) (below_set5 (lowBox' HB5.out) (Nat.le_refl _)))
  · have HR : Hid (info S.now n = (Hd.zero, (Vf.size S.now n).2)) := Lib.hid (by unfold info; rw [if_pos he])
    clear ro
    generalize info S.now n = R at *
    generalize Vf.size S.now n = Z at *
    obtain ⟨z, ez⟩ := Z
    have hez : (ez == 0) = false := by simpa using he
    go_enter Tryd.func24, Tryd.ntmps24
    go_wp2_with (go_at_call 46; (with_reducible refine (HSZ.out _ ((Below.refl _ _).alloc (Nat.le_refl _) _)).mono ?_); rintro e w2 ⟨rfl, rfl⟩)
    refine bodyPost_ret (v := .tuple #[.agg #[.int .i64 0, .int .i64 0, .slice none 0 0, .pointer none, .string ⟨#[]⟩], .int .i64 ez]) (by simp [results, Tryd.results24, go_sem]) rfl (Opened.zero HR.out he (by repeat (first | exact Below.refl _ _ | assumption | refine Below.setCell ?_ (by first | (simp; done) | omega | (simp; omega) | (simp at *; omega)) _ | refine Below.alloc ?_ (by first | (simp; done) | omega | (simp; omega) | (simp at *; omega)) _ | refine Below.drew ?_ | (refine Below.trans ?_ (Below.mono (by assumption) (by first | (simp; done) | omega | (simp; omega) | (simp at *; omega)))) | (refine Below.trans ?_ (Below.mono (below_regrown _ _ _) (by first | (simp; done) | omega | (simp; omega) | (simp at *; omega)))))))
end Go.Proofs.YtbhfapbhlkgmfaaDoor

namespace Go.Proofs.YtbhfapbhlkgmfaaDoor
open Go.RowKit Go.Sort
open Fx (Vl)
open Me
open Wp

set_option maxHeartbeats 400000 in
theorem isnow_any (now : Int) (w : World) : Calls Tryd.prog 25 #[.int .i64 now] w fun e w' => e = .returned (.bool (decide (1 ≤ now ∧ now ≤ 4294967295))) ∧ w = w' := by
  obtain ⟨b, hb⟩ : ∃ b, b = decide (1 ≤ now ∧ now ≤ 4294967295) := ⟨_, rfl⟩
  rw [← hb]
  by_cases h1 : 1 ≤ now
  · by_cases h2 : now ≤ 4294967295
    · have HB : Hid (b = true) := Lib.hid (by rw [hb]; exact decide_eq_true ⟨h1, h2⟩)
      clear hb
      go_enter Tryd.func25, Tryd.ntmps25
      go_wp2_with fail
      go_ret
      exact ⟨by rw [HB.out]; rfl, rfl⟩
    · have HB : Hid (b = false) := Lib.hid (by rw [hb]; exact decide_eq_false (fun e => h2 e.2))
      clear hb
      go_enter Tryd.func25, Tryd.ntmps25
      go_wp2_with fail
      go_ret
      exact ⟨by rw [HB.out]; rfl, rfl⟩
  · have HB : Hid (b = false) := Lib.hid (by rw [hb]; exact decide_eq_false (fun e => h1 e.1))
    clear hb
    go_enter Tryd.func25, Tryd.ntmps25
    go_wp2_with fail
    go_ret
    exact ⟨by rw [HB.out]; rfl, rfl⟩

theorem info_of_open {w : World} {fs : Nat} {n : List UInt8} {R : Hd × Int} {f : Value} (HO : Hid (∀ W, Below w.heap.size w W → Calls Tryd.prog 24 #[f, .string ⟨n.toArray⟩] W (Opened W fs n R))) :
    Calls Tryd.prog 15 #[f, .string ⟨n.toArray⟩] w (Informed w R) := by
  obtain ⟨nb, hnb⟩ : ∃ nb : ByteArray, nb = ⟨n.toArray⟩ := ⟨_, rfl⟩
  rw [← hnb] at HO ⊢
  clear hnb
  obtain ⟨⟨ag, xf, l⟩, er⟩ := R
  go_enter Tryd.func15, Tryd.ntmps15
  go_wp2_with (go_at_call 24; (with_reducible refine (HO.out _ ((Below.refl _ _).alloc (Nat.le_refl _) _)).mono ?_); rintro e w2 ⟨A, cap, p, s, rfl, hps, hrow, hfr, hb2⟩; have hbb : Below (w.heap.size + 1) (w.alloc (.cells #[.int .i64 0, .int .i64 0, .slice none 0 0] 24)) w2 := hb2.mono (by simp); have hr := (RowAt.new w #[.int .i64 0, .int .i64 0, .slice none 0 0] 24).below hbb (Nat.lt_succ_self _); have r0 := hr.cell 0; have r1 := hr.cell 1; have r2 := hr.cell 2; have f0 := hr.frozen 0; have f1 := hr.frozen 1; have f2 := hr.frozen 2; have hrl := hr.lt; simp only [List.getElem?_toArray, List.getElem?_cons_succ, List.getElem?_cons_zero] at r0 r1 r2; have HROW := Lib.hid hrow; have HFR := Lib.hid hfr; have HB2 := Lib.hid hbb; clear hb2 hbb hr hrow hfr hps)
  refine bodyPost_ret (v := .tuple #[.agg #[.int .i64 ag, .int .i64 xf, .slice A l.length cap], .int .i64 er]) (by simp [results, Tryd.results15, go_sem, *]) rfl ⟨A, cap, rfl, ?_, ?_, ?_⟩
  · exact (row_set3 HROW.out (fun x e => by have := HFR.out x e; simp at this; omega)).below ((Below.refl _ _).alloc (Nat.le_refl _) _)
  · exact fun a e => by have := HFR.out a e; simp at this; omega
  · exact (below_set3 (lowBox' HB2.out) (Nat.le_refl _)).alloc (by simp [World.setCell]; omega) _
theorem info_nil7 (n : List UInt8) (w : World) : Calls Tryd.prog 15 #[.pointer none, .string ⟨n.toArray⟩] w (Informed w (Hd.zero, 1)) := info_of_open (fs := 0) (Lib.hid fun _ _ => open_nil n _)
theorem info_any7 {w : World} {V : Nat → Prop} {c fs : Nat} {S : Vf.Sv} (ro : PO w V fs c S) (n : List UInt8) : Calls Tryd.prog 15 #[.pointer (some ⟨fs, 0, none⟩), .string ⟨n.toArray⟩] w (Informed w (info S.now n)) := info_of_open (Lib.hid fun W hb => open_any (ro.below hb) n)
end Go.Proofs.YtbhfapbhlkgmfaaDoor

namespace Go.Proofs.YtbhfapbhlkgmfaaDoor
open Go.RowKit Go.Shelf
open Me
open Wp

attribute [local go_sem] Oper.semAt_some

namespace Wp
/-- The two boxes lie as they lay. -/
def Boxes (p q : Nat) (W W' : World) : Prop := W'.cell? ⟨p, 0, none⟩ = W.cell? ⟨p, 0, none⟩ ∧ W'.cell? ⟨q, 0, none⟩ = W.cell? ⟨q, 0, none⟩
end Wp

theorem chunk_from (W : World) (b off l m cap : Nat) (hl : l < m) (hm : m ≤ cap) :
    (Instr.slice 65 (.slice (some ⟨b, off, none⟩) m cap) (some (.int .i64 (l : Int))) none none).run Tryd.prog W = .ok (.slice (some ⟨b, off + l, none⟩) (m - l) (cap - l)) W := by
  have h1 : ¬ (m : Int) < (l : Int) := by omega
  have h2 : ¬ m < l := by omega
  have h3 : (0 : Int) ≤ (l : Int) := by omega
  have h4 : ¬ cap = l := by omega
  have h5 : l ≤ m := by omega
  have h6 : (l : Int) ≤ (m : Int) := by omega
  simp [go_sem, *]
theorem chunk_window (W : World) (b off l m cap : Nat) (hl : l + 12 ≤ m) (hm : m ≤ cap) :
    (Instr.slice 65 (.slice (some ⟨b, off, none⟩) m cap) (some (.int .i64 (l : Int))) (some (.int .i64 ((l : Int) + 12))) (some (.int .i64 ((l : Int) + 12)))).run Tryd.prog W = .ok (.slice (some ⟨b, off + l, none⟩) 12 12) W := by
  have h1 : (l : Int) ≤ (l : Int) + 12 := by omega
  have h2 : (l : Int) + 12 ≤ (cap : Int) := by omega
  have h3 : (0 : Int) ≤ (l : Int) := by omega
  have h4 : (0 : Int) ≤ (l : Int) + 12 := by omega
  have h5 : ((l : Int) + 12).toNat = l + 12 := by omega
  have h6 : ¬ l + 12 = l := by omega
  simp [go_sem, *]

set_option maxRecDepth 100000 in
set_option maxHeartbeats 2000000 in
theorem chunk_in (n : Nat) (hn : 1 ≤ n) (l p q b off N cap : Nat) (A : Option Addr) (hA : 0 < N → A = some ⟨b, off, none⟩) (hcap : 12 * N ≤ cap) (hN : N ≤ 1000000) (J Jx : List (Fin N) → World → Prop) (w0 : Nat) (hJa : AbidesFrom w0 J)
    (hY : ∀ pre (x : Fin N) W, J pre W → pre.length < N → YieldAt Fence.wide (n - 1) Tryd.prog l #[.slice (some ⟨b, off + 12 * x.1, none⟩) 12 12] W fun e W' =>
      (e = .returned (.bool true) ∧ J (pre ++ [x]) W' ∧ Boxes p q W W') ∨ (e = .returned (.bool false) ∧ Jx (pre ++ [x]) W'))
    (W : World) (hp : W.cell? ⟨p, 0, none⟩ = some (.slice A (12 * N) cap)) (hq : W.cell? ⟨q, 0, none⟩ = some (.int .i64 12)) (h0 : J [] W) :
    CallsIn Fence.wide n Tryd.prog 86 #[.func (.yield l) #[] #[], .pointer (some ⟨p, 0, none⟩), .pointer (some ⟨q, 0, none⟩)] W fun e W' => (∃ v, e = .returned v) ∧
      ((∃ ys, ys = List.finRange N ∧ J ys W') ∨ (∃ pre, True ∧ Jx pre W')) := by
  refine callsIn_of_wp Tryd.func86 rfl trivial ?_ rfl
  simp only [Tryd.ntmps86, List.size_toArray, List.length_cons, List.length_nil, Nat.reduceAdd, Nat.reduceSub, Array.replicate_succ, Array.replicate_zero, List.push_toArray, List.append_toArray, List.nil_append, List.cons_append]
  gi_wp2
  gi_loopw [4, 5] (fun i _ wr => ∃ k : Nat, k ≤ N ∧ i = .int .i64 ((12 * k : Nat) : Int) ∧ J ((List.finRange N).take k) wr ∧ Boxes p q W wr)
    (fun i _ _ => 12 * N - (intOf i).toNat)
  case atStart => exact ⟨0, Nat.zero_le _, rfl, h0, rfl, rfl⟩
  case round =>
    obtain ⟨k, hk, rfl, hJ, hb1, hb2⟩ := hrel
    have HB : Hid (Boxes p q W wr) := Lib.hid ⟨hb1, hb2⟩
    have hp' : wr.cell? ⟨p, 0, none⟩ = some (.slice A (12 * N) cap) := hb1.trans hp
    have hq' : wr.cell? ⟨q, 0, none⟩ = some (.int .i64 12) := hb2.trans hq
    clear hb1 hb2
    by_cases hlt : k < N
    · obtain rfl := hA (by omega)
      have hi1 : ((12 * k : Nat) : Int) < ((12 * N : Nat) : Int) := by omega
      obtain ⟨L, hL⟩ : ∃ L, L = 12 * k := ⟨_, rfl⟩
      obtain ⟨M, hM⟩ : ∃ M, M = 12 * N := ⟨_, rfl⟩
      have hsl := chunk_from wr b off L M cap (by omega) (by omega)
      have hlm : L + 12 ≤ M := by omega
      have hmin : min (12 : Int) ((M - L : Nat) : Int) = 12 := by omega
      have hw1 : IntKind.i64.wrap ((L : Int) + 12) = (L : Int) + 12 := IntWalk.i64_in _ (by omega)
      rw [← hM] at hp' hi1
      rw [← hL] at hi1 ⊢
      have HL := Lib.hid hL
      have HM := Lib.hid hM
      clear hL hM hp hq
      gi_wp2
      refine wpIn_wide.2 ?_
      go_quiet (fail)
      obtain ⟨wd, hwd⟩ : ∃ wd, wd = wr.drewN nq := ⟨_, rfl⟩
      have hJd : J ((List.finRange N).take k) wd := by rw [hwd]; exact hJa _ _ _ none hJ ⟨rfl, rfl, rfl, Nat.le_refl _, fun _ _ _ => rfl⟩ (fun r e => by cases e)
      obtain ⟨fn, tmps, assign, body, hy, hR⟩ := hY _ ⟨k, hlt⟩ wd hJd (by rw [List.length_take, List.length_finRange]; omega)
      dsimp only at hy
      rw [← HL.out] at hy
      have hsw := chunk_window wd b off L M cap (by omega) (by have := HM.out; omega)
      have hpd : wd.cell? ⟨p, 0, none⟩ = some (.slice (some ⟨b, off, none⟩) M cap) := by rw [hwd]; exact hp'
      have HBD : Hid (Boxes p q W wd) := Lib.hid (by rw [hwd]; exact HB.out)
      have hqd : wd.cell? ⟨q, 0, none⟩ = some (.int .i64 12) := by rw [hwd]; exact hq'
      have hcl : ¬ cap = L := by have := HM.out; omega
      have hlb : (0 : Int) ≤ (L : Int) + 12 := by omega
      have hub : (L : Int) + 12 ≤ (cap : Int) := by have := HM.out; omega
      have hbb : (0 : Int) ≤ (L : Int) + 12 ∧ (L : Int) + 12 ≤ (cap : Int) := ⟨hlb, hub⟩
      rw [← hwd]
      clear hp' hq' hwd hsl
      gi_wp2
      refine hR.mono ?_
      rintro e W3 (⟨rfl, hJ3, hk3⟩ | ⟨rfl, hJx3⟩)
      · have hp3 : W3.cell? ⟨p, 0, none⟩ = some (.slice (some ⟨b, off, none⟩) M cap) := hk3.1.trans hpd
        have hq3 : W3.cell? ⟨q, 0, none⟩ = some (.int .i64 12) := hk3.2.trans hqd
        have HB3 : Hid (Boxes p q W W3) := Lib.hid ⟨hk3.1.trans HBD.out.1, hk3.2.trans HBD.out.2⟩
        clear hk3 hpd hqd
        gi_wp2
        go_roundw
        case rel => exact ⟨k + 1, by omega, by have h1 := HL.out; congr 1; omega, by rw [List.take_succ_eq_append_getElem (by rw [List.length_finRange]; exact hlt), List.getElem_finRange]; exact hJ3, HB3.out.1, HB3.out.2⟩
        case measure =>
          have h1 := HL.out
          simp only [intOf, List.getElem?_toArray, List.getElem?_cons_succ, List.getElem?_cons_zero, Option.getD_some]
          have h2 := HM.out
          omega
      · gi_wp2
        refine bodyPost_ret (results_none rfl _ _ _) rfl ?_
        exact ⟨⟨_, rfl⟩, .inr ⟨_, trivial, hJx3⟩⟩
    · obtain rfl : k = N := by omega
      gi_wp2
      go_end0
      exact ⟨⟨_, rfl⟩, .inl ⟨_, by rw [List.take_of_length_le (by simp)], hJ⟩⟩
end Go.Proofs.YtbhfapbhlkgmfaaDoor

namespace Go.Proofs.YtbhfapbhlkgmfaaDoor
open Go.RowKit Go.Sort
open Fx (Vl)
open Me
open Wp

namespace Wp
/-- An archive of a file as a value of the program. -/
def ringV (h : Hd) (i : Nat) (A : Option Addr) (cap fs : Nat) (n : List UInt8) : Value := .agg #[.int .i64 (h.step i), .int .i64 (h.cnt i), .int .i64 h.ag, .int .i64 h.xf, .slice A h.l.length cap, .pointer (some ⟨fs, 0, none⟩), .string ⟨n.toArray⟩, .int .i64 (h.offs (i : Int))]
end Wp
theorem row_set8 {W : World} {g : Nat} {t : TypeId} {a0 a1 a2 a3 a4 a5 a6 a7 b0 b1 b2 b3 b4 b5 b6 b7 : Value} (h : RowAt W g t #[a0, a1, a2, a3, a4, a5, a6, a7]) :
    RowAt ((((((((W.setCell ⟨g, 0, none⟩ b0).setCell ⟨g, 1, none⟩ b1).setCell ⟨g, 2, none⟩ b2).setCell ⟨g, 3, none⟩ b3).setCell ⟨g, 4, none⟩ b4).setCell ⟨g, 5, none⟩ b5).setCell ⟨g, 6, none⟩ b6).setCell ⟨g, 7, none⟩ b7) g t #[b0, b1, b2, b3, b4, b5, b6, b7] := by
  have := (((((((h.set_ 0 b0).set_ 1 b1).set_ 2 b2).set_ 3 b3).set_ 4 b4).set_ 5 b5).set_ 6 b6).set_ 7 b7
  simpa using this
theorem below_set8 {B g : Nat} {w W : World} {b0 b1 b2 b3 b4 b5 b6 b7 : Value} (h : Below B w W) (hg : B ≤ g) : Below B w ((((((((W.setCell ⟨g, 0, none⟩ b0).setCell ⟨g, 1, none⟩ b1).setCell ⟨g, 2, none⟩ b2).setCell ⟨g, 3, none⟩ b3).setCell ⟨g, 4, none⟩ b4).setCell ⟨g, 5, none⟩ b5).setCell ⟨g, 6, none⟩ b6).setCell ⟨g, 7, none⟩ b7) :=
  Below.setCell (Below.setCell (Below.setCell (Below.setCell (Below.setCell (Below.setCell (Below.setCell (Below.setCell h hg _) hg _) hg _) hg _) hg _) hg _) hg _) hg _

set_option maxRecDepth 100000 in
set_option maxHeartbeats 2000000 in
theorem ring_any {w : World} {fs : Nat} {n : List UInt8} {h : Hd} {A : Option Addr} {cap : Nat} (hr : Row w A h.l cap) (hv : h.val = true) (ix : Nat) (hi : ix < h.l.length) :
    Calls Tryd.prog 28 #[fileV h A cap fs n, .int .i64 (ix : Int)] w fun e w' => e = .returned (ringV h ix A cap fs n) ∧ Below w.heap.size w w' := by
  have HOF : Hid (∀ W, Below w.heap.size w W → Calls Tryd.prog 53 #[.agg #[.int .i64 h.ag, .int .i64 h.xf, .slice A h.l.length cap], .int .i64 (ix : Int)] W fun e w' => e = .returned (.int .i64 (h.offs (ix : Int))) ∧ Below W.heap.size W w') := Lib.hid fun W hb => offs_any h.ag h.xf h.l A cap ix W (hr.below hb)
  obtain ⟨b, off, rfl, ha⟩ := hr.2 (by omega)
  have s0 : w.cell? ⟨b, off + ix * 2, none⟩ = some (.int .i64 (h.step ix)) := ha.st ix hi
  have s1 : w.cell? ⟨b, off + ix * 2 + 1, none⟩ = some (.int .i64 (h.cnt ix)) := ha.ct ix hi
  have hbl := ha.lt
  have hil : (ix : Int) < (h.l.length : Int) := by omega
  have hi0 : (0 : Int) ≤ (ix : Int) := by omega
  clear hr ha hv
  unfold fileV ringV
  generalize h.offs (ix : Int) = o at *
  generalize h.step ix = s at *
  generalize h.cnt ix = k at *
  generalize h.l.length = L at *
  generalize h.ag = ag at *
  generalize h.xf = xf at *
  generalize (⟨n.toArray⟩ : ByteArray) = nb at *
  clear hi
  go_enter Tryd.func28, Tryd.ntmps28
  go_wp2_with fail
  have HX : Hid (Below w.heap.size w ((w.alloc (.cells #[.int .i64 ag, .int .i64 xf, .slice (some ⟨b, off, none⟩) L cap, .pointer (some ⟨fs, 0, none⟩), .string nb] 70)).alloc (.cells #[.int .i64 0, .int .i64 0, .int .i64 0, .int .i64 0, .slice none 0 0, .pointer none, .string ⟨#[]⟩, .int .i64 0] 76))) := Lib.hid (((Below.refl _ _).alloc (Nat.le_refl _) _).alloc (by simp) _)
  generalize hXe : (w.alloc (.cells #[.int .i64 ag, .int .i64 xf, .slice (some ⟨b, off, none⟩) L cap, .pointer (some ⟨fs, 0, none⟩), .string nb] 70)).alloc (.cells #[.int .i64 0, .int .i64 0, .int .i64 0, .int .i64 0, .slice none 0 0, .pointer none, .string ⟨#[]⟩, .int .i64 0] 76) = X at *
  have hXs : X.heap.size = w.heap.size + 2 := by rw [← hXe]; simp
  have hr1 : RowAt X w.heap.size 70 #[.int .i64 ag, .int .i64 xf, .slice (some ⟨b, off, none⟩) L cap, .pointer (some ⟨fs, 0, none⟩), .string nb] := by rw [← hXe]; exact (RowAt.new w _ _).alloc _
  have hr2 : RowAt X (w.heap.size + 1) 76 #[.int .i64 0, .int .i64 0, .int .i64 0, .int .i64 0, .slice none 0 0, .pointer none, .string ⟨#[]⟩, .int .i64 0] := by rw [← hXe]; exact RowAt.new' (by simp)
  obtain ⟨p, hp⟩ : ∃ p, p = w.heap.size := ⟨_, rfl⟩
  obtain ⟨q, hq⟩ : ∃ q, q = w.heap.size + 1 := ⟨_, rfl⟩
  have HP : Hid (w.heap.size ≤ q ∧ q < X.heap.size) := Lib.hid ⟨by omega, by omega⟩
  rw [← hq] at hr2 ⊢
  rw [← hp] at hr1
  rw [show Value.pointer (some (⟨w.heap.size, 0, none⟩ : Addr)) = .pointer (some ⟨p, 0, none⟩) by rw [hp]]
  have HF : Hid (∀ W, Below X.heap.size X W → (W.cell? ⟨p, 0, none⟩ = some (.int .i64 ag) ∧ W.cell? ⟨p, 1, none⟩ = some (.int .i64 xf) ∧ W.cell? ⟨p, 2, none⟩ = some (.slice (some ⟨b, off, none⟩) L cap) ∧ W.cell? ⟨p, 3, none⟩ = some (.pointer (some ⟨fs, 0, none⟩)) ∧ W.cell? ⟨p, 4, none⟩ = some (.string nb)) ∧ W.cell? ⟨b, off + ix * 2, none⟩ = some (.int .i64 s) ∧ W.cell? ⟨b, off + ix * 2 + 1, none⟩ = some (.int .i64 k)) := Lib.hid fun W hb => by
    have k1 := hr1.below hb (by omega)
    have hw := HX.out.trans (hb.mono HX.out.size)
    exact ⟨⟨k1.cell 0, k1.cell 1, k1.cell 2, k1.cell 3, k1.cell 4⟩, (hw.cell (p := ⟨b, off + ix * 2, none⟩) hbl).trans s0, (hw.cell (p := ⟨b, off + ix * 2 + 1, none⟩) hbl).trans s1⟩
  have HRR : Hid (RowAt X q 76 #[.int .i64 0, .int .i64 0, .int .i64 0, .int .i64 0, .slice none 0 0, .pointer none, .string ⟨#[]⟩, .int .i64 0]) := Lib.hid hr2
  clear s0 s1 hXe hr1 hr2 hXs hp hq hbl
  refine Inv.region_tail 12 8 (fun W W' => Below W.heap.size W W') (fun i v W => match i with
    | 0 => v = .pointer (some ⟨p, 0, none⟩)
    | 1 => v = .pointer (some ⟨p, 2, none⟩)
    | 2 => v = .slice (some ⟨b, off, none⟩) L cap
    | 3 => v = .int .i64 (ix : Int)
    | 4 => v = .pointer (some ⟨b, off + ix * 2, none⟩)
    | 5 => v = .agg #[.int .i64 s, .int .i64 k]
    | 6 => v = .agg #[.int .i64 ag, .int .i64 xf, .slice (some ⟨b, off, none⟩) L cap, .pointer (some ⟨fs, 0, none⟩), .string nb]
    | 7 => v = .pointer (some ⟨p, 0, none⟩)
    | 8 => v = .agg #[.int .i64 ag, .int .i64 xf, .slice (some ⟨b, off, none⟩) L cap]
    | 9 => v = .int .i64 (ix : Int)
    | 10 => v = .int .i64 o
    | 11 => v = .agg #[.int .i64 s, .int .i64 k, .int .i64 ag, .int .i64 xf, .slice (some ⟨b, off, none⟩) L cap, .pointer (some ⟨fs, 0, none⟩), .string nb, .int .i64 o]
    | _ => True) (by kernel_rfl) (by kernel_rfl) (by kernel_rfl) (by kernel_rfl) (fun W => Below.refl _ _) (fun a b c h k => h.trans (k.mono h.size)) (fun i v W W' h he => ?stab) ?obls ?fin
  case stab =>
    match i, h with
    | 0, h => exact h
    | 1, h => exact h
    | 2, h => exact h
    | 3, h => exact h
    | 4, h => exact h
    | 5, h => exact h
    | 6, h => exact h
    | 7, h => exact h
    | 8, h => exact h
    | 9, h => exact h
    | 10, h => exact h
    | 11, h => exact h
    | _ + 12, h => exact h
  case obls =>
    refine .cons ?_ (.cons ?_ (.cons ?_ (.cons ?_ (.cons ?_ (.cons ?_ (.cons ?_ (.cons ?_ (.cons ?_ (.cons ?_ (.cons ?_ (.cons ?_ .nil)))))))))))
    · intro ac wx hE hf hd
      have hB : Below X.heap.size X wx := ⟨hE.os, hE.tape, hE.output, hE.size, hE.block⟩
      rw [if_pos (Inv.want0 rfl _)]
      have h2 : ac.eval (.tmp 2) = .pointer (some ⟨p, 0, none⟩) := hf 2 (by kernel_rfl)
      clear hf hd
      refine Inv.val (.pointer (some ⟨p, 0, none⟩)) ?_ rfl rfl (Below.refl _ _)
      clear hE hB HF HOF HX
      generalize ac.eval = ev at *
      simp [execOp, go_sem, *]
    · intro ac wx hE hf hd
      have hB : Below X.heap.size X wx := ⟨hE.os, hE.tape, hE.output, hE.size, hE.block⟩
      rw [if_pos (Inv.want0 rfl _)]
      have h5 := hd 0 _ (by kernel_rfl) rfl
      change ac.eval (.tmp 5) = .pointer (some ⟨p, 0, none⟩) at h5
      clear hf hd
      refine Inv.val (.pointer (some ⟨p, 2, none⟩)) ?_ rfl rfl (Below.refl _ _)
      clear hE hB HF HOF HX
      generalize ac.eval = ev at *
      simp [execOp, go_sem, *]
    · intro ac wx hE hf hd
      have hB : Below X.heap.size X wx := ⟨hE.os, hE.tape, hE.output, hE.size, hE.block⟩
      rw [if_pos (Inv.want0 rfl _)]
      have h6 := hd 1 _ (by kernel_rfl) rfl
      change ac.eval (.tmp 6) = .pointer (some ⟨p, 2, none⟩) at h6
      clear hf hd
      obtain ⟨⟨a0, a1, a2, a3, a4⟩, b0, b1⟩ := HF.out wx hB
      refine Inv.val (.slice (some ⟨b, off, none⟩) L cap) ?_ rfl rfl (Below.refl _ _)
      clear hE hB HF HOF HX
      generalize ac.eval = ev at *
      simp [execOp, go_sem, *]
    · intro ac wx hE hf hd
      have hB : Below X.heap.size X wx := ⟨hE.os, hE.tape, hE.output, hE.size, hE.block⟩
      rw [if_pos (Inv.want0 rfl _)]
      have h1 : ac.eval (.tmp 1) = .int .i64 (ix : Int) := hf 1 (by kernel_rfl)
      clear hf hd
      refine Inv.val (.int .i64 (ix : Int)) ?_ rfl rfl (Below.refl _ _)
      clear hE hB
      generalize ac.eval = ev at *
      simp [execOp, go_sem, *]
    · intro ac wx hE hf hd
      have hB : Below X.heap.size X wx := ⟨hE.os, hE.tape, hE.output, hE.size, hE.block⟩
      rw [if_pos (Inv.want0 rfl _)]
      have h7 := hd 2 _ (by kernel_rfl) rfl
      change ac.eval (.tmp 7) = .slice (some ⟨b, off, none⟩) L cap at h7
      have h8 := hd 3 _ (by kernel_rfl) rfl
      change ac.eval (.tmp 8) = .int .i64 (ix : Int) at h8
      clear hf hd
      refine Inv.val (.pointer (some ⟨b, off + ix * 2, none⟩)) ?_ rfl rfl (Below.refl _ _)
      clear hE hB HF HOF HX
      generalize ac.eval = ev at *
      simp [execOp, go_sem, *]
    · intro ac wx hE hf hd
      have hB : Below X.heap.size X wx := ⟨hE.os, hE.tape, hE.output, hE.size, hE.block⟩
      rw [if_pos (Inv.want0 rfl _)]
      have h9 := hd 4 _ (by kernel_rfl) rfl
      change ac.eval (.tmp 9) = .pointer (some ⟨b, off + ix * 2, none⟩) at h9
      clear hf hd
      obtain ⟨⟨a0, a1, a2, a3, a4⟩, b0, b1⟩ := HF.out wx hB
      refine Inv.val (.agg #[.int .i64 s, .int .i64 k]) ?_ rfl rfl (Below.refl _ _)
      clear hE hB HF HOF HX
      generalize ac.eval = ev at *
      simp [execOp, go_sem, *]
    · intro ac wx hE hf hd
      have hB : Below X.heap.size X wx := ⟨hE.os, hE.tape, hE.output, hE.size, hE.block⟩
      rw [if_pos (Inv.want0 rfl _)]
      have h2 : ac.eval (.tmp 2) = .pointer (some ⟨p, 0, none⟩) := hf 2 (by kernel_rfl)
      clear hf hd
      obtain ⟨⟨a0, a1, a2, a3, a4⟩, b0, b1⟩ := HF.out wx hB
      refine Inv.val (.agg #[.int .i64 ag, .int .i64 xf, .slice (some ⟨b, off, none⟩) L cap, .pointer (some ⟨fs, 0, none⟩), .string nb]) ?_ rfl rfl (Below.refl _ _)
      clear hE hB HF HOF HX
      generalize ac.eval = ev at *
      simp [execOp, go_sem, *]
    · intro ac wx hE hf hd
      have hB : Below X.heap.size X wx := ⟨hE.os, hE.tape, hE.output, hE.size, hE.block⟩
      rw [if_pos (Inv.want0 rfl _)]
      have h2 : ac.eval (.tmp 2) = .pointer (some ⟨p, 0, none⟩) := hf 2 (by kernel_rfl)
      clear hf hd
      refine Inv.val (.pointer (some ⟨p, 0, none⟩)) ?_ rfl rfl (Below.refl _ _)
      clear hE hB HF HOF HX
      generalize ac.eval = ev at *
      simp [execOp, go_sem, *]
    · intro ac wx hE hf hd
      have hB : Below X.heap.size X wx := ⟨hE.os, hE.tape, hE.output, hE.size, hE.block⟩
      rw [if_pos (Inv.want0 rfl _)]
      have h12 := hd 7 _ (by kernel_rfl) rfl
      change ac.eval (.tmp 12) = .pointer (some ⟨p, 0, none⟩) at h12
      clear hf hd
      obtain ⟨⟨a0, a1, a2, a3, a4⟩, b0, b1⟩ := HF.out wx hB
      refine Inv.val (.agg #[.int .i64 ag, .int .i64 xf, .slice (some ⟨b, off, none⟩) L cap]) ?_ rfl rfl (Below.refl _ _)
      clear hE hB HF HOF HX
      generalize ac.eval = ev at *
      simp [execOp, go_sem, *]
    · intro ac wx hE hf hd
      have hB : Below X.heap.size X wx := ⟨hE.os, hE.tape, hE.output, hE.size, hE.block⟩
      rw [if_pos (Inv.want0 rfl _)]
      have h1 : ac.eval (.tmp 1) = .int .i64 (ix : Int) := hf 1 (by kernel_rfl)
      clear hf hd
      refine Inv.val (.int .i64 (ix : Int)) ?_ rfl rfl (Below.refl _ _)
      clear hE hB
      generalize ac.eval = ev at *
      simp [execOp, go_sem, *]
    · intro ac wx hE hf hd
      have hB : Below X.heap.size X wx := ⟨hE.os, hE.tape, hE.output, hE.size, hE.block⟩
      rw [if_pos (Inv.want0 rfl _)]
      have h13 := hd 8 _ (by kernel_rfl) rfl
      change ac.eval (.tmp 13) = .agg #[.int .i64 ag, .int .i64 xf, .slice (some ⟨b, off, none⟩) L cap] at h13
      have h14 := hd 9 _ (by kernel_rfl) rfl
      change ac.eval (.tmp 14) = .int .i64 (ix : Int) at h14
      clear hf hd
      refine Inv.go (f := 53) (xs := #[.agg #[.int .i64 ag, .int .i64 xf, .slice (some ⟨b, off, none⟩) L cap], .int .i64 (ix : Int)]) ?_ rfl ?_
      · clear hE hB HF HX HOF
        have hfn : ac.eval (.func 53) = .func (.func 53) #[] #[] := rfl
        generalize ac.eval = ev at *
        simp [execOp, go_sem, *]
      · exact (HOF.out wx (HX.out.trans (hB.mono HX.out.size))).mono fun e w' ⟨he, hb⟩ => ⟨_, he, rfl, hb⟩
    · intro ac wx hE hf hd
      have hB : Below X.heap.size X wx := ⟨hE.os, hE.tape, hE.output, hE.size, hE.block⟩
      rw [if_pos (Inv.want0 rfl _)]
      have h10 := hd 5 _ (by kernel_rfl) rfl
      change ac.eval (.tmp 10) = .agg #[.int .i64 s, .int .i64 k] at h10
      have h11 := hd 6 _ (by kernel_rfl) rfl
      change ac.eval (.tmp 11) = .agg #[.int .i64 ag, .int .i64 xf, .slice (some ⟨b, off, none⟩) L cap, .pointer (some ⟨fs, 0, none⟩), .string nb] at h11
      have h15 := hd 10 _ (by kernel_rfl) rfl
      change (fun v W => v = .int .i64 o) (ac.eval (.tmp 15)) wx at h15
      try dsimp only at h15
      clear hf hd
      refine Inv.val (.agg #[.int .i64 s, .int .i64 k, .int .i64 ag, .int .i64 xf, .slice (some ⟨b, off, none⟩) L cap, .pointer (some ⟨fs, 0, none⟩), .string nb, .int .i64 o]) ?_ rfl rfl (Below.refl _ _)
      clear hE hB HF HOF HX
      generalize ac.eval = ev at *
      simp [execOp, go_sem, *]
  case fin =>
    intro ac wx hE ha hall
    have hB : Below X.heap.size X wx := ⟨hE.os, hE.tape, hE.output, hE.size, hE.block⟩
    have h5 := hall 0 _ (by decide) rfl
    change ac.eval (.tmp 5) = .pointer (some ⟨p, 0, none⟩) at h5
    have h6 := hall 1 _ (by decide) rfl
    change ac.eval (.tmp 6) = .pointer (some ⟨p, 2, none⟩) at h6
    have h7 := hall 2 _ (by decide) rfl
    change ac.eval (.tmp 7) = .slice (some ⟨b, off, none⟩) L cap at h7
    have h8 := hall 3 _ (by decide) rfl
    change ac.eval (.tmp 8) = .int .i64 (ix : Int) at h8
    have h9 := hall 4 _ (by decide) rfl
    change ac.eval (.tmp 9) = .pointer (some ⟨b, off + ix * 2, none⟩) at h9
    have h10 := hall 5 _ (by decide) rfl
    change ac.eval (.tmp 10) = .agg #[.int .i64 s, .int .i64 k] at h10
    have h11 := hall 6 _ (by decide) rfl
    change ac.eval (.tmp 11) = .agg #[.int .i64 ag, .int .i64 xf, .slice (some ⟨b, off, none⟩) L cap, .pointer (some ⟨fs, 0, none⟩), .string nb] at h11
    have h12 := hall 7 _ (by decide) rfl
    change ac.eval (.tmp 12) = .pointer (some ⟨p, 0, none⟩) at h12
    have h13 := hall 8 _ (by decide) rfl
    change ac.eval (.tmp 13) = .agg #[.int .i64 ag, .int .i64 xf, .slice (some ⟨b, off, none⟩) L cap] at h13
    have h14 := hall 9 _ (by decide) rfl
    change ac.eval (.tmp 14) = .int .i64 (ix : Int) at h14
    have h15 := hall 10 _ (by decide) rfl
    change (fun v W => v = .int .i64 o) (ac.eval (.tmp 15)) wx at h15
    try dsimp only at h15
    generalize hv15 : ac.eval (.tmp 15) = v15 at *
    have h16 := hall 11 _ (by decide) rfl
    change ac.eval (.tmp 16) = .agg #[.int .i64 s, .int .i64 k, .int .i64 ag, .int .i64 xf, .slice (some ⟨b, off, none⟩) L cap, .pointer (some ⟨fs, 0, none⟩), .string nb, .int .i64 o] at h16
    simp only [List.take_succ_cons, List.take_zero, List.foldl, Inv.slot, Act.put] at ha
    change ac.tmps.getD 5 undef = _ at h5
    change ac.tmps.getD 6 undef = _ at h6
    change ac.tmps.getD 7 undef = _ at h7
    change ac.tmps.getD 8 undef = _ at h8
    change ac.tmps.getD 9 undef = _ at h9
    change ac.tmps.getD 10 undef = _ at h10
    change ac.tmps.getD 11 undef = _ at h11
    change ac.tmps.getD 12 undef = _ at h12
    change ac.tmps.getD 13 undef = _ at h13
    change ac.tmps.getD 14 undef = _ at h14
    change ac.tmps.getD 15 undef = _ at hv15
    change ac.tmps.getD 16 undef = _ at h16
    simp only [h5, h6, h7, h8, h9, h10, h11, h12, h13, h14, hv15, h16, List.setIfInBounds_toArray, List.set_cons_zero, List.set_cons_succ] at ha
    clear h5 h6 h7 h8 h9 h10 h11 h12 h13 h14 hv15 h16 hall hE
    subst ha
    simp only [List.drop_succ_cons, List.drop_zero]
    have hrr := HRR.out.below hB HP.out.2
    have hl2 := hrr.lt
    have q0 := hrr.frozen 0
    have q1 := hrr.frozen 1
    have q2 := hrr.frozen 2
    have q3 := hrr.frozen 3
    have q4 := hrr.frozen 4
    have q5 := hrr.frozen 5
    have q6 := hrr.frozen 6
    have q7 := hrr.frozen 7
    have y0 := hrr.cell 0
    have y1 := hrr.cell 1
    have y2 := hrr.cell 2
    have y3 := hrr.cell 3
    have y4 := hrr.cell 4
    have y5 := hrr.cell 5
    have y6 := hrr.cell 6
    have y7 := hrr.cell 7
    simp only [List.getElem?_toArray, List.getElem?_cons_succ, List.getElem?_cons_zero] at y0 y1 y2 y3 y4 y5 y6 y7
    have HB2 := Lib.hid (HX.out.trans (hB.mono HX.out.size))
    have HQ2 := Lib.hid HP.out.1
    have HR0 := Lib.hid hrr
    clear hB hrr HRR HF HOF HX HP
    go_wp2_with fail
    clear q0 q1 q2 q3 q4 q5 q6 q7 y0 y1 y2 y3 y4 y5 y6 y7
    have HZ : Hid (RowAt ((((((((wx.setCell ⟨q, 0, none⟩ (.int .i64 s)).setCell ⟨q, 1, none⟩ (.int .i64 k)).setCell ⟨q, 2, none⟩ (.int .i64 ag)).setCell ⟨q, 3, none⟩ (.int .i64 xf)).setCell ⟨q, 4, none⟩ (.slice (some ⟨b, off, none⟩) L cap)).setCell ⟨q, 5, none⟩ (.pointer (some ⟨fs, 0, none⟩))).setCell ⟨q, 6, none⟩ (.string nb)).setCell ⟨q, 7, none⟩ (.int .i64 o)) q 76 #[.int .i64 s, .int .i64 k, .int .i64 ag, .int .i64 xf, .slice (some ⟨b, off, none⟩) L cap, .pointer (some ⟨fs, 0, none⟩), .string nb, .int .i64 o]) := Lib.hid (row_set8 HR0.out)
    have HBZ : Hid (Below w.heap.size w ((((((((wx.setCell ⟨q, 0, none⟩ (.int .i64 s)).setCell ⟨q, 1, none⟩ (.int .i64 k)).setCell ⟨q, 2, none⟩ (.int .i64 ag)).setCell ⟨q, 3, none⟩ (.int .i64 xf)).setCell ⟨q, 4, none⟩ (.slice (some ⟨b, off, none⟩) L cap)).setCell ⟨q, 5, none⟩ (.pointer (some ⟨fs, 0, none⟩))).setCell ⟨q, 6, none⟩ (.string nb)).setCell ⟨q, 7, none⟩ (.int .i64 o))) := Lib.hid (below_set8 HB2.out HQ2.out)
    generalize ((((((((wx.setCell ⟨q, 0, none⟩ (.int .i64 s)).setCell ⟨q, 1, none⟩ (.int .i64 k)).setCell ⟨q, 2, none⟩ (.int .i64 ag)).setCell ⟨q, 3, none⟩ (.int .i64 xf)).setCell ⟨q, 4, none⟩ (.slice (some ⟨b, off, none⟩) L cap)).setCell ⟨q, 5, none⟩ (.pointer (some ⟨fs, 0, none⟩))).setCell ⟨q, 6, none⟩ (.string nb)).setCell ⟨q, 7, none⟩ (.int .i64 o)) = Y at *
    have y0 := HZ.out.cell 0
    have y1 := HZ.out.cell 1
    have y2 := HZ.out.cell 2
    have y3 := HZ.out.cell 3
    have y4 := HZ.out.cell 4
    have y5 := HZ.out.cell 5
    have y6 := HZ.out.cell 6
    have y7 := HZ.out.cell 7
    simp only [List.getElem?_toArray, List.getElem?_cons_succ, List.getElem?_cons_zero] at y0 y1 y2 y3 y4 y5 y6 y7
    refine bodyPost_ret (v := .agg #[.int .i64 s, .int .i64 k, .int .i64 ag, .int .i64 xf, .slice (some ⟨b, off, none⟩) L cap, .pointer (some ⟨fs, 0, none⟩), .string nb, .int .i64 o]) (by simp [results, Tryd.results28, go_sem, y0, y1, y2, y3, y4, y5, y6, y7]) rfl ⟨rfl, HBZ.out⟩
end Go.Proofs.YtbhfapbhlkgmfaaDoor

namespace Go.Proofs.YtbhfapbhlkgmfaaDoor
open Go.RowKit Go.Sort
open Fx (Vl)
open Me
open Wp

theorem infoPt : (Tryd.prog.info? 26).map (fun i => (i.zero, i.size, i.bytes)) = some (some (.agg #[.int .i64 0, .int .i64 0]), 2, 16) := by kernel_rfl
/-- A row of pairs of the call's own. -/
def OwnP (t : TypeId) (base : Nat) (w : World) (v : Value) (l : List (Int × Int)) : Prop := w.ownsRow base t 2 v l.length (Wh.cellsA l)
section
variable {t : TypeId}
theorem OwnP.nil (a : Nat) (w : World) : OwnP t a w (.slice none 0 0) [] := ⟨rfl, .inl ⟨rfl, rfl⟩⟩
theorem OwnP.lt {base : Nat} {w : World} {v : Value} {l : List (Int × Int)} (h : OwnP t base w v l) : ∀ g, v.ownBlock = some g → base ≤ g ∧ g < w.heap.size := by
  intro g hg
  rcases h.2 with ⟨rfl, _⟩ | ⟨g', cap, cur, rfl, hb, hh, _⟩
  · cases hg
  · have : g' = g := by simpa [Value.ownBlock] using hg
    subst this
    exact ⟨hb, (Array.getElem?_eq_some_iff.1 hh).1⟩
theorem OwnP.below {a : Nat} {w w' : World} {v : Value} {l : List (Int × Int)} (h : OwnP t a w v l) (k : Below w.heap.size w w') : OwnP t a w' v l := owns_keep h fun g hg => k.block g (h.lt g hg).2
theorem OwnP.slice {a : Nat} {w : World} {v : Value} {l : List (Int × Int)} (h : OwnP t a w v l) : ∃ A c, v = .slice A l.length c := by
  rcases h.2 with ⟨rfl, h0⟩ | ⟨g', cap, cur, rfl, _⟩
  · exact ⟨none, 0, by rw [h0]⟩
  · exact ⟨_, _, rfl⟩
theorem OwnP.more {base : Nat} {w : World} {v : Value} {l : List (Int × Int)} {a b : Int} (h : w.ownsRow base t 2 v (l.length + 1) (Wh.cellsA l ++ [.int .i64 a, .int .i64 b])) : OwnP t base w v (l ++ [(a, b)]) := by
  unfold OwnP
  rw [List.length_append]
  unfold Wh.cellsA at h ⊢
  rw [List.flatMap_append]
  exact h
end
namespace Wp
/-- The points of an archive, up to the k-th. -/
def pts (fs : List Vf.Fl) (n : List UInt8) (h : Hd) (i : Nat) (k : Nat) : List (Int × Int) := (List.range k).map fun (j : Nat) => pt (Vf.read fs n (h.offs (i : Int) + 12 * (j : Int)) 12).1
theorem pts_succ (fs : List Vf.Fl) (n : List UInt8) (h : Hd) (i : Nat) (k : Nat) : pts fs n h i (k + 1) = pts fs n h i k ++ [pt (Vf.read fs n (h.offs (i : Int) + 12 * (k : Int)) 12).1] := by unfold pts; rw [List.range_succ, List.map_append]; rfl
theorem pts_len (fs : List Vf.Fl) (n : List UInt8) (h : Hd) (i : Nat) (k : Nat) : (pts fs n h i k).length = k := by unfold pts; simp
theorem ring_err {fs : List Vf.Fl} {n : List UInt8} {i : Int} (h : (info fs n).2 ≠ 0) : ring fs n i = ([], (info fs n).2) := by unfold ring; dsimp only; rw [if_pos h]
theorem ring_no {fs : List Vf.Fl} {n : List UInt8} {i : Int} (h : (info fs n).2 = 0) (hi : i < 0 ∨ ((info fs n).1.l.length : Int) ≤ i) : ring fs n i = ([], 1) := by unfold ring; dsimp only; rw [if_neg (by rw [h]; simp), if_pos hi]
theorem ring_yes {fs : List Vf.Fl} {n : List UInt8} {i : Nat} (h : (info fs n).2 = 0) (hi : i < (info fs n).1.l.length) : ring fs n (i : Int) = (pts fs n (info fs n).1 i ((info fs n).1.cnt i).toNat, 0) := by
  unfold ring; dsimp only; rw [if_neg (by rw [h]; simp), if_neg (by omega)]; rfl
end Wp

/-- What Ring hands back. -/
def Wp.Ringed (w : World) (R : List (Int × Int) × Int) (e : Ending) (w' : World) : Prop := ∃ v, e = .returned (.tuple #[v, .int .i64 R.2]) ∧ OwnP 26 w.heap.size w' v R.1 ∧ Below w.heap.size w w'

theorem ownp_append {t : TypeId} {X W w2 : World} {v v2 : Value} {m : List (Int × Int)} {a b : Int} (hb : Below X.heap.size X W) (ho : OwnP t X.heap.size W v m)
    (hown : w2.ownsRow X.heap.size t 2 v2 (m.length + 1) (Wh.cellsA m ++ [.int .i64 a, .int .i64 b])) (hg : W.grownBy w2 v.ownBlock) : OwnP t X.heap.size w2 v2 (m ++ [(a, b)]) ∧ Below X.heap.size X w2 :=
  ⟨OwnP.more hown, hb.grown hg hb.size fun g e => (ho.lt g e).1⟩
theorem below_two {a w : World} {o o' : Obj} (h : Below a.heap.size a w) (hs : a.heap.size ≤ w.heap.size) : Below a.heap.size a ((w.alloc o).alloc o') := (h.alloc hs _).alloc (by simp; omega) _

end Go.Proofs.YtbhfapbhlkgmfaaDoor

namespace Go.Proofs.YtbhfapbhlkgmfaaDoor
open Go.RowKit Go.Shelf
open Me
open Wp

attribute [local go_sem] Oper.semAt_some

set_option maxHeartbeats 400000 in
theorem chunk_fn (A : Option Addr) (n c : Nat) (w : World) : Calls Tryd.prog 71 #[.slice A n c, .int .i64 12] w fun e w' => e = .returned (.func (.func 86) #[] #[.pointer (some ⟨w.heap.size, 0, none⟩), .pointer (some ⟨w.heap.size + 1, 0, none⟩)]) ∧ w' = (w.alloc (.cells #[.slice A n c] 65)).alloc (.cells #[.int .i64 12] 3) := by
  go_enter Tryd.func71, Tryd.ntmps71
  go_wp2_with fail
  go_ret
  exact ⟨by simp, rfl⟩

theorem chunk_stops (n : Nat) (hn : 1 ≤ n) (p q b off N cap : Nat) (A : Option Addr) (hA : 0 < N → A = some ⟨b, off, none⟩) (hcap : 12 * N ≤ cap) (hN : N ≤ 1000000) (w : World) (hpl : p < w.heap.size) (hql : q < w.heap.size) (hp : w.cell? ⟨p, 0, none⟩ = some (.slice A (12 * N) cap)) (hq : w.cell? ⟨q, 0, none⟩ = some (.int .i64 12)) :
    SeqStopsK Fence.wide n Tryd.prog 86 #[.pointer (some ⟨p, 0, none⟩), .pointer (some ⟨q, 0, none⟩)] (fun x : Fin N => #[Value.slice (some ⟨b, off + 12 * x.1, none⟩) 12 12]) (Boxes p q) (fun xs => xs = List.finRange N) (fun _ => True) N w := fun l J Jx W hW hJ _ hY h0 =>
  chunk_in n hn l p q b off N cap A hA hcap hN J Jx _ hJ hY W ((hW.cell (p := ⟨p, 0, none⟩) hpl).trans hp) ((hW.cell (p := ⟨q, 0, none⟩) hql).trans hq) h0

namespace Wp
theorem boxes_t {p q : Nat} {A B C : World} (h : Boxes p q A B) (k : Boxes p q B C) : Boxes p q A C := ⟨k.1.trans h.1, k.2.trans h.2⟩
theorem boxes_b {p q : Nat} {w : World} (hp : p < w.heap.size) (hq : q < w.heap.size) (W : World) (l : Nat) (o o' : Obj) (hl : w.heap.size ≤ l) (_ : W.heap[l]? = some o) (_ : o.isCells = false) (_ : o.isWalk = false) : Boxes p q W (W.putObj l o') := by
  have k : ∀ i, i ≠ l → (W.putObj l o').heap[i]? = W.heap[i]? := fun i hi => World.putObj_heap_other (by omega)
  exact ⟨World.cell?_of_block (k p (by omega)), World.cell?_of_block (k q (by omega))⟩
theorem boxes_keep {p q : Nat} {W W' : World} (h1 : W'.heap[p]? = W.heap[p]?) (h2 : W'.heap[q]? = W.heap[q]?) : Boxes p q W W' := ⟨World.cell?_of_block h1, World.cell?_of_block h2⟩
/-- A round of read: a point is appended, and the box of the row is written. -/
theorem read_step {W W3 w1 : World} {base B k m : Nat} {t e : TypeId} {v v' : Value} {xs ys : List Value} {s2 sx : Nat} (hv : Boxed W B t v) (hte : t ≠ e) (hrow : W.ownsRow base e 2 v k xs) (hG : ∀ g, v.ownBlock = some g → g < s2 ∨ sx ≤ g) (hB : base ≤ B) (hs : sx ≤ W.heap.size) (hbw : base ≤ W.heap.size)
    (hb : Below W.heap.size W W3) (hown : w1.ownsRow base e 2 v' m ys) (hg : W3.grownBy w1 v.ownBlock) (hat : v'.ownBlock = v.ownBlock ∨ v'.ownBlock = some W3.heap.size) :
    Boxed w1 B t v ∧ Boxed (w1.setCell ⟨B, 0, none⟩ v') B t v' ∧ (w1.setCell ⟨B, 0, none⟩ v').ownsRow base e 2 v' m ys ∧ KeepsOthers W (w1.setCell ⟨B, 0, none⟩ v') ∧ Below base W (w1.setCell ⟨B, 0, none⟩ v') ∧
      (∀ g, v'.ownBlock = some g → g < s2 ∨ sx ≤ g) ∧ (∀ j, j < W.heap.size → some j ≠ v.ownBlock → j ≠ B → (w1.setCell ⟨B, 0, none⟩ v').heap[j]? = W.heap[j]?) := by
  have hv3 : Boxed W3 B t v := (hb.block B hv.lt).trans hv
  have hr3 : W3.ownsRow base e 2 v k xs := owns_keep hrow fun g hgg => hb.block g (by
    rcases hrow.2 with ⟨rfl, _⟩ | ⟨g', cap, cur, rfl, _, hgb, _⟩
    · cases hgg
    · have : g' = g := by simpa [Value.ownBlock] using hgg
      subst this
      exact (Array.getElem?_eq_some_iff.1 hgb).1)
  have hv1 : Boxed w1 B t v := hv3.kept hg (hv3.not_row hte hr3)
  have hkeep : ∀ j, j < W.heap.size → some j ≠ v.ownBlock → j ≠ B → (w1.setCell ⟨B, 0, none⟩ v').heap[j]? = W.heap[j]? := fun j hj h1 h2 =>
    (Below.heap_setCell _ _ _ _ h2).trans ((hg.block j (Nat.lt_of_lt_of_le hj hb.size) h1).trans (hb.block j hj))
  refine ⟨hv1, hv1.set v', hown.kept (grownBy_setCell' w1 B v') (.inr (hv1.not_row hte hown).symm), ?_, ?_, ?_, hkeep⟩
  · refine ⟨?_, fun j o hj ho => ?_⟩
    · have h1 := hb.size
      have h2 := hg.size
      simp [World.setCell]; omega
    · have hjl := (Array.getElem?_eq_some_iff.1 hj).1
      refine (hkeep j hjl (fun e' => ?_) (fun e' => ?_)).trans hj
      · rcases hrow.2 with ⟨rfl, _⟩ | ⟨g, cap, cur, rfl, _, hgb, _⟩
        · simp [Value.ownBlock] at e'
        · obtain rfl : j = g := by simpa [Value.ownBlock] using e'
          rw [hgb] at hj; cases hj; cases ho
      · subst e'
        rw [show W.heap[j]? = _ from hv] at hj; cases hj; cases ho
  · refine ((hb.mono hbw).grown hg (Nat.le_trans hbw hb.size) fun j ej => ?_).setCell (p := ⟨B, 0, none⟩) hB v'
    rcases hrow.2 with ⟨rfl, _⟩ | ⟨g, cap, cur, rfl, hb', _, _⟩
    · simp [Value.ownBlock] at ej
    · obtain rfl : g = j := by simpa [Value.ownBlock] using ej
      exact hb'
  · intro g hgg
    rcases hat with h | h
    · exact hG g (h ▸ hgg)
    · rw [h] at hgg
      obtain rfl : W3.heap.size = g := by simpa using hgg
      exact .inr (Nat.le_trans hs hb.size)
theorem own_cells {β : Type} (b off m : Nat) (w3 : World) : Own (fun (_ : β) W => ∀ j u, j < m → w3.cell? ⟨b, off + j, none⟩ = some u → W.cell? ⟨b, off + j, none⟩ = some u) := fun s A B row hs hg hr j u hj hu => cell_kept (hs j u hj hu) hg hr
theorem own_size {β : Type} (k : Nat) : Own (fun (_ : β) W => k ≤ W.heap.size) := fun _ _ _ _ hs hg _ => Nat.le_trans hs hg.size
theorem two_cells_new (w : World) (a b : Int) : ∀ j u, [(.int .i64 a : Value), .int .i64 b][j]? = some u → ((w.alloc (.cells #[.int .i64 a, .int .i64 b] 26)).alloc (.cells #[.int .i64 a, .int .i64 b] 26)).cell? ((⟨w.heap.size + 1, 0, none⟩ : Addr).add j) = some u := by
  intro j u hj
  have hr : RowAt ((w.alloc (.cells #[.int .i64 a, .int .i64 b] 26)).alloc (.cells #[.int .i64 a, .int .i64 b] 26)) (w.heap.size + 1) 26 #[.int .i64 a, .int .i64 b] := RowAt.new' (by simp)
  rw [Addr.add_lit, Nat.zero_add, hr.cell]
  simpa using hj
/-- The points of slots, by number. -/
def ptsOf (B : List UInt8) (o N : Nat) (pre : List (Fin N)) : List (Int × Int) := pre.map fun x => slot B (o + 12 * x.1)
theorem ptsOf_all (B : List UInt8) (o N : Nat) : ptsOf B o N (List.finRange N) = side B o N := by
  unfold ptsOf side
  apply List.ext_getElem
  · simp
  · intro i h1 h2
    simp
theorem ptsOf_snoc (B : List UInt8) (o N : Nat) (pre : List (Fin N)) (x : Fin N) : ptsOf B o N (pre ++ [x]) = ptsOf B o N pre ++ [slot B (o + 12 * x.1)] := by unfold ptsOf; simp
theorem ptsOf_len (B : List UInt8) (o N : Nat) (pre : List (Fin N)) : (ptsOf B o N pre).length = pre.length := by unfold ptsOf; simp
end Wp

set_option maxRecDepth 100000 in
set_option maxHeartbeats 4000000 in
theorem read_any {w : World} {V : Nat → Prop} {c fs : Nat} {S : Vf.Sv} {n : List UInt8} {h : Hd} {B : List UInt8} {A : Option Addr} {cap : Nat} (ro : PO w V fs c S) (f : Fits S.now n h B) (ix : Nat) (hi : ix < h.l.length) (place m : Nat) (hpm : (place : Int) + (m : Int) ≤ h.cnt ix)
    (base : Nat) (v0 : Value) (l0 : List (Int × Int)) (hbase : base ≤ w.heap.size) (hrow : OwnP 26 base w v0 l0) (hl0 : l0.length + m ≤ 1000000) :
    Calls Tryd.prog 59 #[ringV h ix A cap fs n, v0, .int .i64 (place : Int), .int .i64 (m : Int)] w fun e w' => ∃ v, e = .returned v ∧ OwnP 26 base w' v (l0 ++ side B ((h.offs (ix : Int)).toNat + 12 * place) m) ∧ Below base w w' := by
  have hr := f.ring hi
  obtain ⟨⟨n1, n2⟩, n3, n4⟩ := Hd.nums f.val ix hi
  obtain ⟨o, ho⟩ : ∃ o : Nat, h.offs (ix : Int) = (o : Int) := ⟨(h.offs (ix : Int)).toNat, by omega⟩
  have hbl : o + 12 * (place + m) ≤ B.length := by omega
  have hB : B.length ≤ 4294967296 := by
    obtain ⟨_, _, _, ha⟩ := Wh.val_t f.val
    obtain ⟨a1, a2, a3, a4, a5⟩ := Wh.av_t ha
    have := size_eq f.val
    have := f.size
    omega
  have HRD : Hid (∀ W, Below w.heap.size w W → Calls Tryd.prog 47 #[.pointer (some ⟨fs, 0, none⟩), .string ⟨n.toArray⟩, .int .i64 ((o + 12 * place : Nat) : Int), .int .i64 ((12 * m : Nat) : Int)] W (Vf.Handed W (((B.drop (o + 12 * place)).take (12 * m)), 0))) := Lib.hid fun W hb => by
    have h := poread (ro.below hb) n ((o + 12 * place : Nat) : Int) ((12 * m : Nat) : Int) (by omega)
    rw [f.has.read_eq (by omega) (by omega) (by omega), Int.toNat_natCast, Int.toNat_natCast] at h
    exact h
  have HLEN : Hid (((B.drop (o + 12 * place)).take (12 * m)).length = 12 * m) := Lib.hid (by rw [List.length_take, List.length_drop]; omega)
  have HCUT : Hid (∀ k, k < m → (((B.drop (o + 12 * place)).take (12 * m)).drop (12 * k)).take 12 = (B.drop (o + 12 * place + 12 * k)).take 12) := Lib.hid fun k hk => slot_cut hk
  rw [ho]
  rw [Int.toNat_natCast]
  obtain ⟨a1, ha1⟩ : ∃ a1, 12 * (place : Int) = a1 := ⟨_, rfl⟩
  obtain ⟨a2, ha2⟩ : ∃ a2, (o : Int) + a1 = a2 := ⟨_, rfl⟩
  obtain ⟨a3, ha3⟩ : ∃ a3, 12 * (m : Int) = a3 := ⟨_, rfl⟩
  have hm1 : IntKind.i64.wrap a1 = a1 := IntWalk.i64_in _ (by omega)
  have hm2 : IntKind.i64.wrap a2 = a2 := IntWalk.i64_in _ (by omega)
  have hm3 : IntKind.i64.wrap a3 = a3 := IntWalk.i64_in _ (by omega)
  rw [show ((o + 12 * place : Nat) : Int) = a2 by omega, show ((12 * m : Nat) : Int) = a3 by omega] at HRD
  unfold ringV
  rw [ho]
  obtain ⟨A0, c0, rfl⟩ := hrow.slice
  have HROW := Lib.hid hrow
  clear hrow ro n1 n2 n3 n4 hr hpm hbl
  obtain ⟨L, hL⟩ : ∃ L, Hid (L = (B.drop (o + 12 * place)).take (12 * m)) := ⟨_, Lib.hid rfl⟩
  rw [← hL.out] at HRD HLEN
  have hlen := HLEN.out
  clear f ho
  generalize h.step ix = s at *
  generalize h.cnt ix = k at *
  generalize h.l.length = hln at *
  generalize h.ag = ag at *
  generalize h.xf = xf at *
  refine (callsIn_wide (n := 6)).1 ?_
  refine callsIn_of_wp_marks Tryd.func59 rfl trivial ?_ rfl
  simp only [Tryd.ntmps59, List.size_toArray, List.length_cons, List.length_nil, Nat.reduceAdd, Nat.reduceSub, Array.replicate_succ, Array.replicate_zero, List.push_toArray, List.append_toArray, List.nil_append, List.cons_append]
  obtain ⟨i0, hi0', hz0, hz1, hz2⟩ := info_parts infoPt
  have HI := Lib.hid hi0'
  have HZ := Lib.hid (And.intro hz0 (And.intro hz1 hz2))
  clear hi0' hz0 hz1 hz2
  have bO := (Boxed.new (w.alloc (.cells #[.int .i64 s, .int .i64 k, .int .i64 ag, .int .i64 xf, .slice A hln cap, .pointer (some ⟨fs, 0, none⟩), .string ⟨n.toArray⟩, .int .i64 (o : Int)] 76)) 27 (.slice A0 l0.length c0))
  rw [World.size_alloc] at bO
  have HX : Hid (Below w.heap.size w ((w.alloc (.cells #[.int .i64 s, .int .i64 k, .int .i64 ag, .int .i64 xf, .slice A hln cap, .pointer (some ⟨fs, 0, none⟩), .string ⟨n.toArray⟩, .int .i64 (o : Int)] 76)).alloc (.cells #[.slice A0 l0.length c0] 27))) := Lib.hid (((Below.refl _ _).alloc (Nat.le_refl _) _).alloc (by simp) _)
  gi_wp2_with (refine ⟨trivial, ?_⟩; first
    | (gi_at_call 47; (with_reducible refine (callsIn_wide.2 (HRD.out _ HX.out)).mono ?_); rintro e w3 ⟨v3, rfl, hv3, hb3⟩; have hs3 := hb3.size; obtain ⟨A3, c3, rfl, hc3, _, hrd3⟩ := hv3)
    | (gi_at_call 71; (with_reducible refine (callsIn_wide.2 (chunk_fn A3 (12 * m) c3 w3)).mono ?_); rintro e w4 ⟨rfl, rfl⟩))
  have hlc : 12 * m ≤ c3 := by rw [← hlen]; exact hc3
  obtain ⟨b, off, hA3, hb2, hb3', hby⟩ : ∃ b off, (0 < m → A3 = some ⟨b, off, none⟩) ∧ (0 < m → w.heap.size + 2 ≤ b) ∧ (0 < m → b < w3.heap.size) ∧ (0 < m → By w3 b off L) := by
    by_cases h0 : m = 0
    · exact ⟨0, 0, fun h => by omega, fun h => by omega, fun h => by omega, fun h => by omega⟩
    · obtain ⟨b, off, e, hby⟩ := By.of hrd3 (by omega)
      obtain ⟨ad, e2, hl, hg, _⟩ := hrd3 (by rw [Ne, ← List.length_eq_zero_iff, by8_len]; omega)
      rw [e] at e2
      cases e2
      simp at hg
      exact ⟨b, off, fun _ => e, fun _ => by omega, fun _ => hl, fun _ => hby⟩
  have hv3 : Boxed w3 (w.heap.size + 1) 27 (.slice A0 l0.length c0) := (hb3.block _ (by simp)).trans bO
  have hs3' : w.heap.size + 2 ≤ w3.heap.size := by simp at hs3; omega
  have hBw3 : Below w.heap.size w w3 := HX.out.trans (hb3.mono (by simp; omega))
  have hrow3 := HROW.out.below hBw3
  have hlt0 := HROW.out.lt
  obtain ⟨s2, hs2⟩ : ∃ s2, s2 = w.heap.size := ⟨_, rfl⟩
  clear hrd3 HRD bO hc3 hs3
  refine wpIn_rangeFunc_ownG rfl (by omega) (gf := 86) (lb := #[.pointer (some ⟨w3.heap.size, 0, none⟩), .pointer (some ⟨w3.heap.size + 1, 0, none⟩)]) rfl trivial (enters_of Tryd.func86 (by kernel_rfl) rfl)
    (chunk_stops _ (by omega) w3.heap.size (w3.heap.size + 1) b off m c3 A3 hA3 hlc (by omega) _ (by simp; omega) (by simp) ((Boxed.new w3 _ _).alloc _).cell (by simpa using (Boxed.new (w3.alloc (.cells #[.slice A3 (12 * m) c3] 65)) 3 (.int .i64 12)).cell)) boxes_t (boxes_b (by simp; omega) (by simp)) (Below.refl _ _) (fun _ => rfl)
    (fun pre W => (∃ v, Boxed W (w.heap.size + 1) 27 v ∧ W.ownsRow base 26 2 v (l0 ++ ptsOf B (o + 12 * place) m pre).length (Wh.cellsA (l0 ++ ptsOf B (o + 12 * place) m pre)) ∧ (∀ g, v.ownBlock = some g → g < w.heap.size ∨ w3.heap.size + 2 ≤ g)) ∧ (Below base w W ∧ (∀ j u, j < 12 * m → w3.cell? ⟨b, off + j, none⟩ = some u → W.cell? ⟨b, off + j, none⟩ = some u) ∧ w3.heap.size + 2 ≤ W.heap.size))
    (fun _ _ _ => False)
    (OwnFrom.and (Own.from (holdsRow_own base (w.heap.size + 1) 27 26 2 (fun pre => (l0 ++ ptsOf B (o + 12 * place) m pre).length) (fun pre => Wh.cellsA (l0 ++ ptsOf B (o + 12 * place) m pre)) (fun pre v => ∀ g, v.ownBlock = some g → g < w.heap.size ∨ w3.heap.size + 2 ≤ g)) _) (OwnFrom.and (ownFrom_below hbase (by simp; omega)) (OwnFrom.and (Own.from (own_cells b off (12 * m) w3) _) (Own.from (own_size (w3.heap.size + 2)) _))))
    (fun _ _ _ _ _ hs _ _ => hs)
    ?start
    (fun x => { tmps := #[.agg #[.int .i64 s, .int .i64 k, .int .i64 ag, .int .i64 xf, .slice A hln cap, .pointer (some ⟨fs, 0, none⟩), .string ⟨n.toArray⟩, .int .i64 (o : Int)], .slice A0 l0.length c0, .int .i64 (place : Int), .int .i64 (m : Int), .pointer (some ⟨w.heap.size, 0, none⟩), .pointer (some ⟨w.heap.size + 1, 0, none⟩), undef, undef, .slice none 0 0, .slice A3 (12 * m) c3, .int .i64 0, .slice (some ⟨b, off + 12 * x.1, none⟩) 12 12, undef, undef, .tuple #[.slice A3 (12 * m) c3, .int .i64 0], .pointer (some ⟨w.heap.size, 2, none⟩), .pointer (some ⟨w.heap.size, 5, none⟩), .pointer (some ⟨fs, 0, none⟩), .pointer (some ⟨w.heap.size, 2, none⟩), .pointer (some ⟨w.heap.size, 6, none⟩), .string ⟨n.toArray⟩, .pointer (some ⟨w.heap.size, 7, none⟩), .int .i64 (o : Int), .int .i64 (place : Int), .int .i64 a1, .int .i64 a2, .int .i64 (m : Int), .int .i64 a3, .tuple #[.slice A3 (12 * m) c3, .int .i64 0], .slice A3 (12 * m) c3, .int .i64 0, .slice A3 (12 * m) c3, .func (.func 86) #[] #[.pointer (some ⟨w3.heap.size, 0, none⟩), .pointer (some ⟨w3.heap.size + 1, 0, none⟩)], .slice (some ⟨b, off + 12 * x.1, none⟩) 12 12, undef, undef, undef, undef, undef, undef, undef, undef, undef, undef], defers := [] }) ?assign ?body ?done ?stop
  case start => exact ⟨⟨_, (hv3.alloc _).alloc _, (by
      have h := hrow3.below (((Below.refl w3.heap.size w3).alloc (Nat.le_refl _) (.cells #[.slice A3 (12 * m) c3] 65)).alloc (by simp) (.cells #[.int .i64 12] 3))
      unfold OwnP at h
      simpa [ptsOf] using h), fun g hg => .inl (hlt0 g hg).2⟩, (hBw3.mono hbase).alloc (by omega) _ |>.alloc (by simp; omega) _, fun j u hj hu => by
        have hbl : b < w3.heap.size := hb3' (by omega)
        exact ((((Below.refl w3.heap.size w3).alloc (Nat.le_refl _) _).alloc (by simp) _).cell (p := ⟨b, off + j, none⟩) hbl).trans hu, by simp⟩
  case assign =>
    intro l x W K hK
    gi_wp2
    exact hK
  case body =>
    rintro l pre x W ⟨⟨v, hv, hrow, hG⟩, hBW, hcells, hWs⟩ hlt
    have hx := x.2
    have hA := hA3 (by omega)
    have hby' := hby (by omega)
    have hbW : b < W.heap.size := by
      obtain ⟨u, hu⟩ : ∃ u, w3.cell? ⟨b, off + 0, none⟩ = some u := ⟨_, hby'.at_ 0 (by omega)⟩
      have h1 := hcells 0 u (by omega) hu
      have h2 : W.heap[b]? ≠ none := by
        intro e
        unfold World.cell? at h1
        rw [e] at h1
        cases h1
      exact Nat.lt_of_not_le fun e => h2 (by rw [Array.getElem?_eq_none_iff]; exact e)
    have hbyW : By W b off L := ⟨hbW, fun j hj => hcells j _ (by omega) (hby'.at_ j hj)⟩
    have hdec := sdecode_12 ((L.drop (12 * x.1)).take 12) (by rw [List.length_take, List.length_drop]; omega) b (off + 12 * x.1) 12 W ((hbyW.drop (12 * x.1)).take 12 (by rw [List.length_drop]; omega)) (Nat.le_refl _)
    have hKl : (l0 ++ ptsOf B (o + 12 * place) m pre).length ≤ 1000000 := by rw [List.length_append, ptsOf_len]; omega
    have HSN := Lib.hid (ptsOf_snoc B (o + 12 * place) m pre x)
    have HSL : Hid (slot B (o + 12 * place + 12 * x.1) = (Wh.nm ((L.drop (12 * x.1)).take 12) 0, Sl.dn ((L.drop (12 * x.1)).take 12))) := Lib.hid (by
      have hl12 : ((L.drop (12 * x.1)).take 12).length = 12 := by rw [List.length_take, List.length_drop]; omega
      unfold slot pt
      rw [← HCUT.out x.1 hx, ← hL.out]
      unfold Sl.dat Sl.dnn
      rw [if_pos hl12, if_pos hl12])
    generalize Wh.nm ((L.drop (12 * x.1)).take 12) 0 = pa at *
    generalize Sl.dn ((L.drop (12 * x.1)).take 12) = pn at *
    generalize hK : l0 ++ ptsOf B (o + 12 * place) m pre = K at *
    obtain ⟨Av, cv, rfl⟩ := OwnP.slice (t := 26) (l := K) hrow
    have hvc := hv.cell
    have hvl := hv.lt
    have HO : Hid (OwnP 26 base W (.slice Av K.length cv) K) := Lib.hid hrow
    have hbase2 : base ≤ W.heap.size := by omega
    gi_wp2_with first
      | (refine ⟨trivial, ?_⟩; gi_at_call 72; refine (CallsIn.inRound l (callsIn_wide.2 hdec)).mono ?_; rintro e w5 ⟨rfl, hb5⟩; have HB5 := Lib.hid hb5; have hv6 : (w5.alloc (.cells #[.int .i64 pa, .int .i64 pn] 26)).cell? ⟨w.heap.size + 1, 0, none⟩ = some (.slice Av K.length cv) := ((hb5.alloc hb5.size (.cells #[.int .i64 pa, .int .i64 pn] 26)).cell (p := ⟨w.heap.size + 1, 0, none⟩) hvl).trans hvc; have hs5 := hb5.size; clear hb5)
      | (gi_at_builtin; go_loud (have HW3 : Hid (Below W.heap.size W ((w5.alloc (.cells #[.int .i64 pa, .int .i64 pn] 26)).alloc (.cells #[.int .i64 pa, .int .i64 pn] 26))) := Lib.hid ((HB5.out.alloc hs5 _).alloc (by simp; omega) _); refine wpListIn_append_own_at _ rfl _ _ 27 rfl base 26 i0 (.agg #[.int .i64 0, .int .i64 0]) 2 16 Tryd.underlying27 HI.out HZ.out.1 HZ.out.2.1 HZ.out.2.2 rfl (by decide) (.slice Av K.length cv) K.length (Wh.cellsA K) rfl (HO.out.below HW3.out) ⟨w5.heap.size + 1, 0, none⟩ 1 1 [.int .i64 pa, .int .i64 pn] rfl rfl (two_cells_new w5 pa pn) (by intro u hu; simp at hu; rcases hu with rfl | rfl <;> rfl) (by unfold maxLen; omega) (by omega) (by have := HW3.out.size; omega) ?_; intro v' w7 hown7 hg7 hnil7 hat7; obtain ⟨g7, cap7, rfl⟩ := ownsRow_succ hown7; obtain ⟨q1, q2, q3, q4, q5, q6, q7⟩ := read_step hv (by decide) hrow hG (by omega) hWs hbase2 HW3.out hown7 hg7 hat7; have hc7 := q1.cell; have hf7 := q1.frozen))
    have hob : ∀ j, w.heap.size ≤ j → j < w3.heap.size + 2 → some j ≠ (Value.slice Av K.length cv).ownBlock := fun j h1 h2 e => by
      rcases hG j e.symm with h | h <;> omega
    have hKK : l0 ++ ptsOf B (o + 12 * place) m (pre ++ [x]) = K ++ [(pa, pn)] := by rw [HSN.out, HSL.out, ← List.append_assoc, hK]
    have hbs := hb2 (by omega)
    have hbs' := hb3' (by omega)
    refine ⟨q4.from _, boxes_keep (q7 _ (by omega) (hob _ (by omega) (by omega)) (by omega)) (q7 _ (by omega) (hob _ (by omega) (by omega)) (by omega)), ⟨_, q2, ?_, q6⟩, hBW.trans q5, fun j u hj hu => ?_, by have := q4.size; omega⟩
    · rw [hKK]
      have h := OwnP.more (t := 26) (l := K) q3
      unfold OwnP at h
      exact h
    · exact (World.cell?_of_block (q7 b (by omega) (hob b (by omega) (by omega)) (by omega))).trans (hcells j u hj hu)
  case done =>
    rintro D ys W hD rfl ⟨⟨v, hv, hrow, hG⟩, hBW, hcells, hWs⟩ hK
    rw [ptsOf_all] at hrow
    generalize hKe : l0 ++ side B (o + 12 * place) m = K at hrow
    have HKE := Lib.hid hKe
    clear hKe
    obtain ⟨Av, cv, rfl⟩ := OwnP.slice (t := 26) (l := K) hrow
    have hc := hv.cell
    gi_wp2
    refine ⟨by simp, .inl ⟨_, _, rfl, run_takeDeferred hK, ?_⟩⟩
    refine ⟨_, results_tmp rfl _ _ _, .slice Av K.length cv, rfl, ?_, ?_⟩
    · rw [HKE.out]; exact ownsRow_putObj hrow (.deferred none) hK rfl
    · exact hBW.trans (belowK_b (w := w) hbase W D _ _ (by simp at hD; omega) hK rfl rfl)
  case stop =>
    rintro D c pre W _ _ h _
    exact h.elim
end Go.Proofs.YtbhfapbhlkgmfaaDoor

namespace Go.Proofs.YtbhfapbhlkgmfaaDoor
open Go.RowKit Go.Sort
open Fx (Vl)
open Me
open Wp

/-- An empty row of one's own, with room. -/
theorem own_room {w : World} {base k : Nat} {t : TypeId} {CS : Array Value} (hb : base ≤ w.heap.size) (hk : k ≤ maxLen) (hcs : CS.size = k * 2) : OwnP t base (w.alloc (.cells CS t)) (.slice (some ⟨w.heap.size, 0, none⟩) 0 k) [] :=
  ⟨rfl, .inr ⟨w.heap.size, k, CS, rfl, hb, World.alloc_heap_new w _, Nat.zero_le _, hk, by omega, by simp [Wh.cellsA]⟩⟩

theorem own_weak {w : World} {a b : Nat} {t : TypeId} {v : Value} {l : List (Int × Int)} (h : OwnP t b w v l) (hab : a ≤ b) : OwnP t a w v l := by
  refine ⟨h.1, ?_⟩
  rcases h.2 with h | ⟨g, cap, cur, e, hb, rest⟩
  · exact .inl h
  · exact .inr ⟨g, cap, cur, e, Nat.le_trans hab hb, rest⟩

set_option maxRecDepth 100000 in
set_option maxHeartbeats 2000000 in
theorem points_any {w : World} {V : Nat → Prop} {c fs : Nat} {S : Vf.Sv} {n : List UInt8} {h : Hd} {B : List UInt8} {A : Option Addr} {cap : Nat} (ro : PO w V fs c S) (f : Fits S.now n h B) (ix : Nat) (hi : ix < h.l.length) (place m C : Nat) (hC : h.cnt ix = (C : Int)) (hp : place < C) (hm : m ≤ C) :
    Calls Tryd.prog 33 #[ringV h ix A cap fs n, .int .i64 (place : Int), .int .i64 (m : Int)] w fun e w' => ∃ v, e = .returned v ∧ OwnP 26 w.heap.size w' v (round B (h.offs (ix : Int)).toNat C place m) ∧ Below w.heap.size w w' := by
  have hcb := cnt_bd f.val ix hi
  have HRD : Hid (∀ W v0 l0 (pl k : Nat), Below w.heap.size w W → w.heap.size + 1 ≤ W.heap.size → OwnP 26 (w.heap.size + 1) W v0 l0 → pl + k ≤ C → l0.length + k ≤ 1000000 → Calls Tryd.prog 59 #[ringV h ix A cap fs n, v0, .int .i64 (pl : Int), .int .i64 (k : Int)] W fun e w' => ∃ v, e = .returned v ∧ OwnP 26 (w.heap.size + 1) w' v (l0 ++ side B ((h.offs (ix : Int)).toNat + 12 * pl) k) ∧ Below (w.heap.size + 1) W w') := Lib.hid fun W v0 l0 pl k hb hs ho h1 h2 =>
    read_any (ro.below hb) f ix hi pl k (by omega) (w.heap.size + 1) v0 l0 hs ho h2
  obtain ⟨i0, hi0, hz0, hz1, hz2⟩ := info_parts infoPt
  obtain ⟨CS, hmk, hcs⟩ : ∃ (CS : Array Value), (∀ W : World, (Instr.makeSlice 27 (.int .i64 0) (.int .i64 (m : Int))).run Tryd.prog W = .ok (.slice (some ⟨W.heap.size, 0, none⟩) 0 m) (W.alloc (.cells CS 26))) ∧ CS.size = m * 2 := by
    refine ⟨madeCells #[.int .i64 0, .int .i64 0] (m * 2), fun W => ?_, by rw [size_madeCells]⟩
    have h := run_make (P := Tryd.prog) W 27 26 i0 (.agg #[.int .i64 0, .int .i64 0]) Tryd.underlying27 hi0 hz0 .i64 .i64 0 (m : Int) (by omega) (by omega) (by rw [hz2]; omega) (by omega)
    have e : (Value.agg #[.int .i64 0, .int .i64 0]).cells = #[.int .i64 0, .int .i64 0] := by simp [Value.cells]
    rw [hz1, Int.toNat_natCast, e] at h
    exact h
  clear hi0 hz0 hz1 hz2 ro
  unfold ringV at *
  rw [hC] at HRD ⊢
  obtain ⟨o, ho⟩ : ∃ o : Nat, (h.offs (ix : Int)).toNat = o := ⟨_, rfl⟩
  rw [ho] at HRD ⊢
  obtain ⟨k1, hk1⟩ : ∃ k1 : Nat, k1 = min m (C - place) := ⟨_, rfl⟩
  have HRN : Hid (round B o C place m = (([] : List (Int × Int)) ++ side B (o + 12 * place) k1) ++ side B (o + 12 * 0) (m - k1)) := Lib.hid (by rw [hk1]; rfl)
  obtain ⟨LG, hLG⟩ : ∃ LG, LG = round B o C place m := ⟨_, rfl⟩
  rw [← hLG]
  have HLG : Hid (LG = (([] : List (Int × Int)) ++ side B (o + 12 * place) k1) ++ side B (o + 12 * 0) (m - k1)) := Lib.hid (by rw [hLG, HRN.out])
  clear hLG
  have hmin : min (m : Int) ((C : Int) - (place : Int)) = (k1 : Int) := by omega
  obtain ⟨d1, hd1⟩ : ∃ d1, (C : Int) - (place : Int) = d1 := ⟨_, rfl⟩
  rw [hd1] at hmin
  have hwd : IntKind.i64.wrap d1 = d1 := IntWalk.i64_in _ (by omega)
  obtain ⟨k2, hk2⟩ : ∃ k2 : Nat, k2 = m - k1 := ⟨_, rfl⟩
  rw [← hk2] at HLG
  have hsub : (m : Int) - (k1 : Int) = (k2 : Int) := by omega
  have hw2 : IntKind.i64.wrap (k2 : Int) = (k2 : Int) := IntWalk.i64_in _ (by omega)
  have HK1 : Hid (place + k1 ≤ C ∧ k1 ≤ 1000000 ∧ k1 + k2 ≤ 1000000 ∧ 0 + k2 ≤ C) := Lib.hid ⟨by omega, by omega, by omega, by omega⟩
  clear f HRN ho hk1 hk2
  generalize h.step ix = s at *
  generalize h.offs (ix : Int) = of_ at *
  generalize h.l.length = hln at *
  generalize h.ag = ag at *
  generalize h.xf = xf at *
  have HR0 : Hid (OwnP 26 (w.heap.size + 1) ((w.alloc (.cells #[.int .i64 s, .int .i64 (C : Int), .int .i64 ag, .int .i64 xf, .slice A hln cap, .pointer (some ⟨fs, 0, none⟩), .string ⟨n.toArray⟩, .int .i64 of_] 76)).alloc (.cells CS 26)) (.slice (some ⟨w.heap.size + 1, 0, none⟩) 0 m) []) := Lib.hid (by
    have h := own_room (w := w.alloc (.cells #[.int .i64 s, .int .i64 (C : Int), .int .i64 ag, .int .i64 xf, .slice A hln cap, .pointer (some ⟨fs, 0, none⟩), .string ⟨n.toArray⟩, .int .i64 of_] 76)) (base := w.heap.size + 1) (t := 26) (by simp) (by unfold maxLen; omega) hcs
    rw [World.size_alloc] at h
    exact h)
  have HB0 : Hid (Below w.heap.size w ((w.alloc (.cells #[.int .i64 s, .int .i64 (C : Int), .int .i64 ag, .int .i64 xf, .slice A hln cap, .pointer (some ⟨fs, 0, none⟩), .string ⟨n.toArray⟩, .int .i64 of_] 76)).alloc (.cells CS 26))) := Lib.hid (((Below.refl _ _).alloc (Nat.le_refl _) _).alloc (by simp) _)
  have HBX : Hid (∀ W, Below (w.heap.size + 1) ((w.alloc (.cells #[.int .i64 s, .int .i64 (C : Int), .int .i64 ag, .int .i64 xf, .slice A hln cap, .pointer (some ⟨fs, 0, none⟩), .string ⟨n.toArray⟩, .int .i64 of_] 76)).alloc (.cells CS 26)) W → RowAt W w.heap.size 76 #[.int .i64 s, .int .i64 (C : Int), .int .i64 ag, .int .i64 xf, .slice A hln cap, .pointer (some ⟨fs, 0, none⟩), .string ⟨n.toArray⟩, .int .i64 of_]) := Lib.hid fun W hb => ((RowAt.new w _ _).alloc _).below hb (Nat.lt_succ_self _)
  have HRD2 : Hid (∀ W v0 l0 (k : Nat), Below w.heap.size w W → w.heap.size + 1 ≤ W.heap.size → OwnP 26 (w.heap.size + 1) W v0 l0 → k ≤ C → l0.length + k ≤ 1000000 → Calls Tryd.prog 59 #[.agg #[.int .i64 s, .int .i64 (C : Int), .int .i64 ag, .int .i64 xf, .slice A hln cap, .pointer (some ⟨fs, 0, none⟩), .string ⟨n.toArray⟩, .int .i64 of_], v0, .int .i64 0, .int .i64 (k : Int)] W fun e w' => ∃ v, e = .returned v ∧ OwnP 26 (w.heap.size + 1) w' v (l0 ++ side B (o + 12 * 0) k) ∧ Below (w.heap.size + 1) W w') := Lib.hid fun W v0 l0 k hb hs ho h1 h2 => HRD.out W v0 l0 0 k hb hs ho (by omega) h2
  go_enter Tryd.func33, Tryd.ntmps33
  go_wp2_with first
    | (go_at_call 59; (with_reducible refine (HRD.out _ _ [] place k1 HB0.out (by simp) HR0.out HK1.out.1 (by simpa using HK1.out.2.1)).mono ?_); rintro e w1 ⟨v1, rfl, ho1, hb1⟩; obtain ⟨A1, c1, rfl⟩ := ho1.slice; have hl1 : (([] : List (Int × Int)) ++ side B (o + 12 * place) k1).length = k1 := (by simp [side_len]); have HO1 := Lib.hid ho1; rw [hl1] at *; have HB1 : Hid (Below w.heap.size w w1) := Lib.hid (HB0.out.trans (hb1.mono (Nat.le_succ _))); have hs1 := hb1.size; simp at hs1; have hrw := HBX.out w1 hb1; have hrl := hrw.lt; have y0 := hrw.cell 0; have y1 := hrw.cell 1; have y2 := hrw.cell 2; have y3 := hrw.cell 3; have y4 := hrw.cell 4; have y5 := hrw.cell 5; have y6 := hrw.cell 6; have y7 := hrw.cell 7; simp only [List.getElem?_toArray, List.getElem?_cons_succ, List.getElem?_cons_zero] at y0 y1 y2 y3 y4 y5 y6 y7; clear hb1 ho1 hrw)
    | (go_at_call 59; (with_reducible refine (HRD2.out w1 _ _ k2 HB1.out (by omega) HO1.out (by omega) (by simp only [List.nil_append, side_len]; omega)).mono ?_); rintro e w2 ⟨v2, rfl, ho2, hb2⟩; obtain ⟨LL, hLL⟩ : ∃ LL, LL = ([] ++ side B (o + 12 * place) k1) ++ side B (o + 12 * 0) k2 := ⟨_, rfl⟩; rw [← hLL] at ho2; have HLL := Lib.hid hLL; clear hLL; obtain ⟨A2, c2, rfl⟩ := ho2.slice; have HO2 := Lib.hid ho2; have HB2 : Hid (Below w.heap.size w w2) := Lib.hid (HB1.out.trans (hb2.mono (Nat.le_succ _))); clear hb2 ho2)
  go_ret
  have hE : LG = LL := by rw [HLL.out, HLG.out]
  rw [hE]
  exact ⟨_, rfl, own_weak HO2.out (Nat.le_succ _), HB2.out⟩
end Go.Proofs.YtbhfapbhlkgmfaaDoor

namespace Go.Proofs.YtbhfapbhlkgmfaaDoor
open Go.RowKit Go.Sort
open Fx (Vl)
open Me
open Wp

theorem cells_rep (m : Nat) (v : Vl) : ∀ i, i < m * 2 → (cellsOf (List.replicate m v))[i]? = some (if i % 2 = 0 then .bool v.ok else .int .i64 v.n) := by
  induction m with
  | zero => intro i hi; omega
  | succ m ih =>
    intro i hi
    have e : cellsOf (List.replicate (m + 1) v) = .bool v.ok :: .int .i64 v.n :: cellsOf (List.replicate m v) := by
      rw [List.replicate_succ]; rfl
    rw [e]
    match i, hi with
    | 0, _ => rfl
    | 1, _ => rfl
    | i + 2, hi =>
      rw [List.getElem?_cons_succ, List.getElem?_cons_succ, ih i (by omega)]
      congr 2
      simp
theorem made_vals (m : Nat) : madeCells #[.bool false, .int .i64 0] (m * 2) = (cellsOf (List.replicate m Fx.none)).toArray := by
  apply Array.ext
  · rw [size_madeCells]; simp [cellsOf_length]
  · intro i h1 h2
    have hi : i < m * 2 := by rw [size_madeCells] at h1; exact h1
    have h := cells_rep m Fx.none i hi
    rw [List.getElem?_eq_getElem (by rw [cellsOf_length, List.length_replicate]; exact hi)] at h
    have e2 : (cellsOf (List.replicate m Fx.none)).toArray[i] = (if i % 2 = 0 then Value.bool Fx.none.ok else .int .i64 Fx.none.n) := by rw [List.getElem_toArray]; exact Option.some.inj h
    rw [e2]
    simp only [madeCells, Array.getElem_map, Array.getElem_range]
    by_cases e : i % 2 = 0
    · rw [if_pos e]; simp [e]; rfl
    · rw [if_neg e]
      have : i % 2 = 1 := by omega
      simp [this]; rfl
theorem cellsOf_set : ∀ (l : List Vl) (i : Nat) (v : Vl), i < l.length → ((cellsOf l).set (i * 2) (.bool v.ok)).set (i * 2 + 1) (.int .i64 v.n) = cellsOf (l.set i v)
  | [], _, _, h => by simp at h
  | x :: l, 0, v, _ => rfl
  | x :: l, i + 1, v, h => by
    have e : ∀ (y : Vl) (r : List Vl), cellsOf (y :: r) = .bool y.ok :: .int .i64 y.n :: cellsOf r := fun _ _ => rfl
    rw [List.set_cons_succ, e, e, ← cellsOf_set l i v (by simpa using h), show (i + 1) * 2 = i * 2 + 1 + 1 by omega]
    rfl
/-- A row of Vals at a block. -/
def ValsAt (w : World) (r : Nat) (l : List Vl) : Prop := RowAt w r 47 (cellsOf l).toArray
theorem ValsAt.put {w : World} {r : Nat} {l : List Vl} (h : ValsAt w r l) (i : Nat) (v : Vl) (hi : i < l.length) : ValsAt ((w.setCell ⟨r, i * 2, none⟩ (.bool v.ok)).setCell ⟨r, i * 2 + 1, none⟩ (.int .i64 v.n)) r (l.set i v) := by
  have h1 := (RowAt.set_ h (i * 2) (.bool v.ok)).set_ (i * 2 + 1) (.int .i64 v.n)
  unfold ValsAt
  rw [← cellsOf_set l i v hi]
  simpa using h1
theorem ValsAt.own {w : World} {r base : Nat} {l : List Vl} (h : ValsAt w r l) (hb : base ≤ r) (hm : l.length ≤ maxLen) : OwnV base w (.slice (some ⟨r, 0, none⟩) l.length l.length) l :=
  ⟨cellsOf_length l, .inr ⟨r, l.length, _, rfl, hb, h, Nat.le_refl _, hm, by simp [cellsOf_length], by rw [List.take_of_length_le (by simp [cellsOf_length])]⟩⟩
theorem ValsAt.cells {w : World} {r : Nat} {l : List Vl} (h : ValsAt w r l) (i : Nat) (hi : i < l.length) : (∃ a, w.cell? ⟨r, i * 2, none⟩ = some a) ∧ (∃ a, w.cell? ⟨r, i * 2 + 1, none⟩ = some a) ∧ w.frozen? ⟨r, i * 2, none⟩ = false ∧ w.frozen? ⟨r, i * 2 + 1, none⟩ = false ∧ r < w.heap.size := by
  have hl := cellsOf_length l
  refine ⟨⟨_, (RowAt.cell h (i * 2)).trans (Array.getElem?_eq_getElem (by simp; omega))⟩, ⟨_, (RowAt.cell h (i * 2 + 1)).trans (Array.getElem?_eq_getElem (by simp; omega))⟩, RowAt.frozen h _, RowAt.frozen h _, RowAt.lt h⟩
/-- The cells of a row of points. -/
theorem own_at {t : TypeId} {base : Nat} {w : World} {A : Option Addr} {n c : Nat} {l : List (Int × Int)} (h : OwnP t base w (.slice A n c) l) (h0 : 0 < l.length) : ∃ g, A = some ⟨g, 0, none⟩ ∧ base ≤ g ∧ g < w.heap.size ∧ ∀ j, j < l.length → w.cell? ⟨g, j * 2, none⟩ = some (.int .i64 (l.getD j (0, 0)).1) ∧ w.cell? ⟨g, j * 2 + 1, none⟩ = some (.int .i64 (l.getD j (0, 0)).2) := by
  rcases h.2 with ⟨e, h1⟩ | ⟨g, cap, cur, e, hb, hg, hle, hm, hs, hx⟩
  · omega
  · injection e with e1 e2 e3
    refine ⟨g, e1, hb, (Array.getElem?_eq_some_iff.1 hg).1, fun j hj => ?_⟩
    have hcell : ∀ i, i < l.length * 2 → w.cell? ⟨g, i, none⟩ = (Wh.cellsA l)[i]? := fun i hi => by
      rw [cell_of_row w g i cur t (0, 0) hg, ← hx, List.getElem?_take_of_lt hi]
      simp
    have hA : ∀ (l : List (Int × Int)) (j : Nat), j < l.length → (Wh.cellsA l)[j * 2]? = some (.int .i64 (l.getD j (0, 0)).1) ∧ (Wh.cellsA l)[j * 2 + 1]? = some (.int .i64 (l.getD j (0, 0)).2) := by
      intro l
      induction l with
      | nil => intro j hj; simp at hj
      | cons x l ih =>
        intro j hj
        have ec : Wh.cellsA (x :: l) = .int .i64 x.1 :: .int .i64 x.2 :: Wh.cellsA l := rfl
        match j, hj with
        | 0, _ => exact ⟨rfl, rfl⟩
        | j + 1, hj =>
          obtain ⟨i1, i2⟩ := ih j (by simpa using hj)
          rw [ec, show (j + 1) * 2 = j * 2 + 1 + 1 by omega]
          exact ⟨i1, i2⟩
    obtain ⟨i1, i2⟩ := hA l j hj
    exact ⟨(hcell _ (by omega)).trans i1, (hcell _ (by omega)).trans i2⟩
namespace Wp
/-- What is told when k of the slots have been looked at. -/
def told (s st : Int) (ps : List (Int × Int)) (n k : Nat) : List Vl := (List.range n).map fun j => if j < k then holds s st ps j else Fx.none
theorem told_len (s st : Int) (ps : List (Int × Int)) (n k : Nat) : (told s st ps n k).length = n := by unfold told; simp
theorem told_zero (s st : Int) (ps : List (Int × Int)) (n : Nat) : told s st ps n 0 = List.replicate n Fx.none := by
  unfold told
  apply List.ext_getElem
  · simp
  · intro i h1 h2; simp
theorem told_all (s st : Int) (ps : List (Int × Int)) (n : Nat) : told s st ps n n = held s st ps n := by
  unfold told held
  apply List.map_congr_left
  intro j hj
  rw [if_pos (List.mem_range.1 hj)]
theorem told_succ (s st : Int) (ps : List (Int × Int)) (n k : Nat) : told s st ps n (k + 1) = (told s st ps n k).set k (holds s st ps k) := by
  unfold told
  apply List.ext_getElem
  · simp
  · intro i h1 h2
    rw [List.getElem_set]
    simp only [List.getElem_map, List.getElem_range]
    by_cases e : k = i
    · subst e; simp
    · rw [if_neg e]
      by_cases h : i < k
      · rw [if_pos h, if_pos (by omega)]
      · rw [if_neg h, if_neg (by omega)]
theorem told_same {s st : Int} {ps : List (Int × Int)} {n k : Nat} (h : holds s st ps k = Fx.none) : told s st ps n (k + 1) = told s st ps n k := by
  unfold told
  apply List.map_congr_left
  intro j _
  by_cases e : j = k
  · subst e; rw [if_pos (by omega), if_neg (by omega), h]
  · by_cases h : j < k
    · rw [if_pos h, if_pos (by omega)]
    · rw [if_neg h, if_neg (by omega)]
end Wp

set_option maxRecDepth 100000 in
set_option maxHeartbeats 4000000 in
theorem values_any {w : World} {V : Nat → Prop} {c fs : Nat} {S : Vf.Sv} {n : List UInt8} {h : Hd} {B : List UInt8} {A : Option Addr} {cap : Nat} (ro : PO w V fs c S) (f : Fits S.now n h B) (ix : Nat) (hi : ix < h.l.length) (st : Int) (hst0 : 0 ≤ st) (hst1 : st ≤ 4611686018427387904) (m C P : Nat) (hC : h.cnt ix = (C : Int)) (hP : Sl.pl (h.step ix) (h.cnt ix) st = (P : Int)) (hm : m ≤ C) :
    Calls Tryd.prog 32 #[ringV h ix A cap fs n, .int .i64 st, .int .i64 (m : Int)] w fun e w' => ∃ v, e = .returned v ∧ OwnV w.heap.size w' v (held (h.step ix) st (round B (h.offs (ix : Int)).toNat C P m) m) ∧ Below w.heap.size w w' := by
  have hcb := cnt_bd f.val ix hi
  obtain ⟨⟨n1, n2⟩, n3, n4⟩ := Hd.nums f.val ix hi
  have hPC : P < C := by have := Sl.pl_bd n1 n3 hst0; omega
  have HPT : Hid (∀ W, Below w.heap.size w W → w.heap.size + 2 ≤ W.heap.size → Calls Tryd.prog 33 #[ringV h ix A cap fs n, .int .i64 (P : Int), .int .i64 (m : Int)] W fun e w' => ∃ v, e = .returned v ∧ OwnP 26 (w.heap.size + 2) w' v (round B (h.offs (ix : Int)).toNat C P m) ∧ Below W.heap.size W w') := Lib.hid fun W hb hs => (points_any (ro.below hb) f ix hi P m C hC hPC hm).mono fun e w' ⟨v, he, ho, hbb⟩ => ⟨v, he, own_weak ho hs, hbb⟩
  have HPL : Hid (∀ W, Calls Tryd.prog 58 #[.agg #[.int .i64 (h.step ix), .int .i64 (h.cnt ix)], .int .i64 st] W fun e w' => e = .returned (.int .i64 (P : Int)) ∧ Below W.heap.size W w') := Lib.hid fun W => by
    have h := place_any (h.step ix) (h.cnt ix) st (by omega) W
    rw [hP] at h
    exact h
  obtain ⟨i0, hi0, hz0, hz1, hz2⟩ := info_parts infoVal
  have hmk : ∀ W : World, (Instr.makeSlice 41 (.int .i64 (m : Int)) (.int .i64 (m : Int))).run Tryd.prog W = .ok (.slice (some ⟨W.heap.size, 0, none⟩) m m) (W.alloc (.cells (cellsOf (List.replicate m Fx.none)).toArray 47)) := fun W => by
    have h := run_make (P := Tryd.prog) W 41 47 i0 (.agg #[.bool false, .int .i64 0]) Tryd.underlying41 hi0 hz0 .i64 .i64 (m : Int) (m : Int) (by omega) (by omega) (by rw [hz2]; omega) (by omega)
    have e : (Value.agg #[.bool false, .int .i64 0]).cells = #[.bool false, .int .i64 0] := by simp [Value.cells]
    rw [hz1, Int.toNat_natCast, e, made_vals] at h
    exact h
  have hmb : m ≤ 87381 := by omega
  have HPLN : Hid ((round B (h.offs (ix : Int)).toNat C P m).length = m) := Lib.hid (round_len _ _ _ _ _)
  clear hi0 hz0 hz1 hz2 ro f hP hC hPC
  unfold ringV at *
  have hsb : 1 ≤ h.step ix ∧ h.step ix ≤ 16777216 := ⟨n1, n2⟩
  clear n1 n2 n3 n4 hcb hi
  generalize round B (h.offs (ix : Int)).toNat C P m = ps at *
  generalize h.step ix = s at *
  generalize h.cnt ix = k at *
  generalize h.offs (ix : Int) = of_ at *
  generalize h.l.length = hln at *
  generalize h.ag = ag at *
  generalize h.xf = xf at *
  generalize (⟨n.toArray⟩ : ByteArray) = nb at *
  obtain ⟨X, hXe⟩ : ∃ X, X = (w.alloc (.cells #[.int .i64 s, .int .i64 k, .int .i64 ag, .int .i64 xf, .slice A hln cap, .pointer (some ⟨fs, 0, none⟩), .string nb, .int .i64 of_] 76)).alloc (.cells (cellsOf (List.replicate m Fx.none)).toArray 47) := ⟨_, rfl⟩
  have HX : Hid (Below w.heap.size w X) := Lib.hid (by rw [hXe]; exact ((Below.refl _ _).alloc (Nat.le_refl _) _).alloc (by simp) _)
  have HXS : Hid (w.heap.size + 2 ≤ X.heap.size) := Lib.hid (by rw [hXe]; simp)
  obtain ⟨p, hp⟩ : ∃ p, p = w.heap.size := ⟨_, rfl⟩
  obtain ⟨r, hr⟩ : ∃ r, r = w.heap.size + 1 := ⟨_, rfl⟩
  have HPR : Hid (p = w.heap.size ∧ r = w.heap.size + 1) := Lib.hid ⟨hp, hr⟩
  have HV0 : Hid (ValsAt X r (told s st ps m 0)) := Lib.hid (by rw [told_zero, hXe, hr]; exact RowAt.new' (by simp))
  have HRW : Hid (RowAt X p 76 #[.int .i64 s, .int .i64 k, .int .i64 ag, .int .i64 xf, .slice A hln cap, .pointer (some ⟨fs, 0, none⟩), .string nb, .int .i64 of_]) := Lib.hid (by rw [hXe, hp]; exact (RowAt.new w _ _).alloc _)
  have HF : Hid (∀ W, Below X.heap.size X W → W.cell? ⟨p, 0, none⟩ = some (.int .i64 s) ∧ W.cell? ⟨p, 1, none⟩ = some (.int .i64 k) ∧ W.cell? ⟨p, 2, none⟩ = some (.int .i64 ag) ∧ W.cell? ⟨p, 3, none⟩ = some (.int .i64 xf) ∧ W.cell? ⟨p, 4, none⟩ = some (.slice A hln cap) ∧ W.cell? ⟨p, 5, none⟩ = some (.pointer (some ⟨fs, 0, none⟩)) ∧ W.cell? ⟨p, 6, none⟩ = some (.string nb) ∧ W.cell? ⟨p, 7, none⟩ = some (.int .i64 of_)) := Lib.hid fun W hb => by
    have k1 := HRW.out.below hb HRW.out.lt
    exact ⟨k1.cell 0, k1.cell 1, k1.cell 2, k1.cell 3, k1.cell 4, k1.cell 5, k1.cell 6, k1.cell 7⟩
  have HXE := Lib.hid hXe
  clear hXe hp hr
  go_enter Tryd.func32, Tryd.ntmps32
  go_wp2_with fail
  rw [← HXE.out, ← HPR.out.2, ← HPR.out.1]
  clear HXE hmk
  refine Inv.region (fun W W' => Below W.heap.size W W') (fun i v W => match i with
    | 0 => v = .agg #[.int .i64 s, .int .i64 k, .int .i64 ag, .int .i64 xf, .slice A hln cap, .pointer (some ⟨fs, 0, none⟩), .string nb, .int .i64 of_]
    | 1 => v = .pointer (some ⟨p, 0, none⟩)
    | 2 => v = .agg #[.int .i64 s, .int .i64 k]
    | 3 => v = .int .i64 st
    | 4 => v = .int .i64 (P : Int)
    | 5 => v = .int .i64 (m : Int)
    | 6 => OwnP 26 (w.heap.size + 2) W v ps
    | 7 => v = .int .i64 (m : Int)
    | 8 => v = (.int .i64 0)
    | _ => True) (by kernel_rfl) (by kernel_rfl) (by kernel_rfl) (fun W => Below.refl _ _) (fun a b c h k => h.trans (k.mono h.size)) (fun i v W W' h he => ?stab) ?obls ?fin
  case stab =>
    match i, h with
    | 0, h => exact h
    | 1, h => exact h
    | 2, h => exact h
    | 3, h => exact h
    | 4, h => exact h
    | 5, h => exact h
    | 6, h => exact OwnP.below h (by simpa using ⟨he.os, he.tape, he.output, he.size, he.block⟩)
    | 7, h => exact h
    | 8, h => exact h
    | _ + 9, h => exact h
  case obls =>
    refine .cons ?_ (.cons ?_ (.cons ?_ (.cons ?_ (.cons ?_ (.cons ?_ (.cons ?_ (.cons ?_ (.cons ?_ .nil))))))))
    · intro ac wx hE hf hd
      have hB : Below X.heap.size X wx := ⟨hE.os, hE.tape, hE.output, hE.size, hE.block⟩
      rw [if_pos (Inv.want0 rfl _)]
      have h3 : ac.eval (.tmp 3) = .pointer (some ⟨p, 0, none⟩) := hf 3 (by kernel_rfl)
      clear hf hd
      obtain ⟨a0, a1, a2, a3, a4, a5, a6, a7⟩ := HF.out wx hB
      refine Inv.val (.agg #[.int .i64 s, .int .i64 k, .int .i64 ag, .int .i64 xf, .slice A hln cap, .pointer (some ⟨fs, 0, none⟩), .string nb, .int .i64 of_]) ?_ rfl rfl (Below.refl _ _)
      clear hE hB HF HPL HPT
      generalize ac.eval = ev at *
      simp [execOp, go_sem, *]
    · intro ac wx hE hf hd
      have hB : Below X.heap.size X wx := ⟨hE.os, hE.tape, hE.output, hE.size, hE.block⟩
      rw [if_pos (Inv.want0 rfl _)]
      have h3 : ac.eval (.tmp 3) = .pointer (some ⟨p, 0, none⟩) := hf 3 (by kernel_rfl)
      clear hf hd
      refine Inv.val (.pointer (some ⟨p, 0, none⟩)) ?_ rfl rfl (Below.refl _ _)
      clear hE hB HF HPL HPT
      generalize ac.eval = ev at *
      simp [execOp, go_sem, *]
    · intro ac wx hE hf hd
      have hB : Below X.heap.size X wx := ⟨hE.os, hE.tape, hE.output, hE.size, hE.block⟩
      rw [if_pos (Inv.want0 rfl _)]
      have h13 := hd 1 _ (by kernel_rfl) rfl
      change ac.eval (.tmp 13) = .pointer (some ⟨p, 0, none⟩) at h13
      clear hf hd
      obtain ⟨a0, a1, a2, a3, a4, a5, a6, a7⟩ := HF.out wx hB
      refine Inv.val (.agg #[.int .i64 s, .int .i64 k]) ?_ rfl rfl (Below.refl _ _)
      clear hE hB HF HPL HPT
      generalize ac.eval = ev at *
      simp [execOp, go_sem, *]
    · intro ac wx hE hf hd
      have hB : Below X.heap.size X wx := ⟨hE.os, hE.tape, hE.output, hE.size, hE.block⟩
      rw [if_pos (Inv.want0 rfl _)]
      have h1 : ac.eval (.tmp 1) = .int .i64 st := hf 1 (by kernel_rfl)
      clear hf hd
      refine Inv.val (.int .i64 st) ?_ rfl rfl (Below.refl _ _)
      clear hE hB
      generalize ac.eval = ev at *
      simp [execOp, go_sem, *]
    · intro ac wx hE hf hd
      have hB : Below X.heap.size X wx := ⟨hE.os, hE.tape, hE.output, hE.size, hE.block⟩
      rw [if_pos (Inv.want0 rfl _)]
      have h14 := hd 2 _ (by kernel_rfl) rfl
      change ac.eval (.tmp 14) = .agg #[.int .i64 s, .int .i64 k] at h14
      have h15 := hd 3 _ (by kernel_rfl) rfl
      change ac.eval (.tmp 15) = .int .i64 st at h15
      clear hf hd
      refine Inv.go (f := 58) (xs := #[.agg #[.int .i64 s, .int .i64 k], .int .i64 st]) ?_ rfl ?_
      · clear hE hB HF HPL HPT
        have hfn : ac.eval (.func 58) = .func (.func 58) #[] #[] := rfl
        generalize ac.eval = ev at *
        simp [execOp, go_sem, *]
      · exact (HPL.out wx).mono fun e w' ⟨he, hb⟩ => ⟨_, he, rfl, hb⟩
    · intro ac wx hE hf hd
      have hB : Below X.heap.size X wx := ⟨hE.os, hE.tape, hE.output, hE.size, hE.block⟩
      rw [if_pos (Inv.want0 rfl _)]
      have h2 : ac.eval (.tmp 2) = .int .i64 (m : Int) := hf 2 (by kernel_rfl)
      clear hf hd
      refine Inv.val (.int .i64 (m : Int)) ?_ rfl rfl (Below.refl _ _)
      clear hE hB
      generalize ac.eval = ev at *
      simp [execOp, go_sem, *]
    · intro ac wx hE hf hd
      have hB : Below X.heap.size X wx := ⟨hE.os, hE.tape, hE.output, hE.size, hE.block⟩
      rw [if_pos (Inv.want0 rfl _)]
      have h12 := hd 0 _ (by kernel_rfl) rfl
      change ac.eval (.tmp 12) = .agg #[.int .i64 s, .int .i64 k, .int .i64 ag, .int .i64 xf, .slice A hln cap, .pointer (some ⟨fs, 0, none⟩), .string nb, .int .i64 of_] at h12
      have h16 := hd 4 _ (by kernel_rfl) rfl
      change (fun v W => v = .int .i64 (P : Int)) (ac.eval (.tmp 16)) wx at h16
      try dsimp only at h16
      have h17 := hd 5 _ (by kernel_rfl) rfl
      change ac.eval (.tmp 17) = .int .i64 (m : Int) at h17
      clear hf hd
      refine Inv.go (f := 33) (xs := #[.agg #[.int .i64 s, .int .i64 k, .int .i64 ag, .int .i64 xf, .slice A hln cap, .pointer (some ⟨fs, 0, none⟩), .string nb, .int .i64 of_], .int .i64 (P : Int), .int .i64 (m : Int)]) ?_ rfl ?_
      · clear hE hB HF HPL HPT
        have hfn : ac.eval (.func 33) = .func (.func 33) #[] #[] := rfl
        generalize ac.eval = ev at *
        simp [execOp, go_sem, *]
      · exact (HPT.out wx (HX.out.trans (hB.mono HX.out.size)) (Nat.le_trans HXS.out hB.size)).mono fun e w' ⟨u, he, ho, hb⟩ => ⟨u, he, ho, hb⟩
    · intro ac wx hE hf hd
      have hB : Below X.heap.size X wx := ⟨hE.os, hE.tape, hE.output, hE.size, hE.block⟩
      rw [if_pos (Inv.want0 rfl _)]
      have h18 := hd 6 _ (by kernel_rfl) rfl
      change (fun v W => OwnP 26 (w.heap.size + 2) W v ps) (ac.eval (.tmp 18)) wx at h18
      try dsimp only at h18
      clear hf hd
      obtain ⟨u18, hu18⟩ : ∃ u, u = ac.eval (.tmp 18) := ⟨_, rfl⟩
      rw [← hu18] at h18
      obtain ⟨A18, c18, hq18⟩ := h18.slice
      rw [HPLN.out] at hq18
      have h18' : ac.eval (.tmp 18) = .slice A18 m c18 := by rw [← hu18]; exact hq18
      refine Inv.val (.int .i64 (m : Int)) ?_ rfl rfl (Below.refl _ _)
      clear hE hB HF HPL HPT h18 hu18 hq18
      generalize ac.eval = ev at *
      simp [go_sem, *]
    · intro ac wx hE hf hd
      have hB : Below X.heap.size X wx := ⟨hE.os, hE.tape, hE.output, hE.size, hE.block⟩
      rw [if_pos (Inv.want0 rfl _)]
      clear hf hd
      refine Inv.val ((.int .i64 0)) ?_ rfl rfl (Below.refl _ _)
      clear hE hB
      have hcst : ∀ v, ac.eval (.const v) = v := fun _ => rfl
      generalize ac.eval = ev at *
      simp [execOp, go_sem, *]
  case fin =>
    intro ac wx hE ha hall
    have hB : Below X.heap.size X wx := ⟨hE.os, hE.tape, hE.output, hE.size, hE.block⟩
    have h12 := hall 0 _ rfl
    change ac.eval (.tmp 12) = .agg #[.int .i64 s, .int .i64 k, .int .i64 ag, .int .i64 xf, .slice A hln cap, .pointer (some ⟨fs, 0, none⟩), .string nb, .int .i64 of_] at h12
    have h13 := hall 1 _ rfl
    change ac.eval (.tmp 13) = .pointer (some ⟨p, 0, none⟩) at h13
    have h14 := hall 2 _ rfl
    change ac.eval (.tmp 14) = .agg #[.int .i64 s, .int .i64 k] at h14
    have h15 := hall 3 _ rfl
    change ac.eval (.tmp 15) = .int .i64 st at h15
    have h16 := hall 4 _ rfl
    change (fun v W => v = .int .i64 (P : Int)) (ac.eval (.tmp 16)) wx at h16
    try dsimp only at h16
    generalize hv16 : ac.eval (.tmp 16) = v16 at *
    have h17 := hall 5 _ rfl
    change ac.eval (.tmp 17) = .int .i64 (m : Int) at h17
    have h18 := hall 6 _ rfl
    change (fun v W => OwnP 26 (w.heap.size + 2) W v ps) (ac.eval (.tmp 18)) wx at h18
    try dsimp only at h18
    generalize hv18 : ac.eval (.tmp 18) = v18 at *
    have h19 := hall 7 _ rfl
    change ac.eval (.tmp 19) = .int .i64 (m : Int) at h19
    have h20 := hall 8 _ rfl
    change ac.eval (.tmp 20) = (.int .i64 0) at h20
    simp only [List.foldl, Inv.slot, Act.put] at ha
    change ac.tmps.getD 12 undef = _ at h12
    change ac.tmps.getD 13 undef = _ at h13
    change ac.tmps.getD 14 undef = _ at h14
    change ac.tmps.getD 15 undef = _ at h15
    change ac.tmps.getD 16 undef = _ at hv16
    change ac.tmps.getD 17 undef = _ at h17
    change ac.tmps.getD 18 undef = _ at hv18
    change ac.tmps.getD 19 undef = _ at h19
    change ac.tmps.getD 20 undef = _ at h20
    simp only [h12, h13, h14, h15, hv16, h17, hv18, h19, h20, List.setIfInBounds_toArray, List.set_cons_zero, List.set_cons_succ] at ha
    clear h12 h13 h14 h15 hv16 h17 hv18 h19 h20 hall hE
    subst ha
    subst h16
    obtain ⟨A18, c18, rfl⟩ := h18.slice
    have HPS := Lib.hid h18
    have HBX := Lib.hid hB
    have HXW : Hid (Below w.heap.size w wx) := Lib.hid (HX.out.trans (hB.mono HX.out.size))
    have hxs : w.heap.size + 2 ≤ wx.heap.size := Nat.le_trans HXS.out hB.size
    have hrlt : r < X.heap.size := by have := HPR.out.2; have := HXS.out; omega
    have HVX : Hid (ValsAt wx r (told s st ps m 0)) := Lib.hid (HV0.out.below hB hrlt)
    have HRX := Lib.hid (HRW.out.below hB HRW.out.lt)
    rw [HPLN.out]
    clear h18 hB HF HPL HPT HV0 HRW hrlt
    have HN : Hid (p ≠ r ∧ w.heap.size ≤ r ∧ r < wx.heap.size ∧ p < wx.heap.size) := Lib.hid (by have := HPR.out; omega)
    go_wp2_with fail
    go_loopw [8, 9, 20] (fun _ _ u wr => ∃ kk : Nat, kk ≤ m ∧ u = .int .i64 kk ∧ Hid (ValsAt wr r (told s st ps m kk)) ∧ Hid (Below w.heap.size w wr) ∧ Hid (wx.heap.size ≤ wr.heap.size ∧ ∀ b, b ≠ r → b < wx.heap.size → wr.heap[b]? = wx.heap[b]?)) (fun _ _ u _ => m - (intOf u).toNat)
    case atStart => exact ⟨0, Nat.zero_le _, rfl, HVX, HXW, Lib.hid ⟨Nat.le_refl _, fun _ _ _ => rfl⟩⟩
    case round =>
      obtain ⟨kk, hkk, rfl, HVk, HBk, HKk⟩ := hrel
      by_cases hlt : kk < m
      · have hkI : (kk : Int) < (m : Int) := by omega
        have hk0 : (0 : Int) ≤ (kk : Int) := by omega
        have hplen : kk < ps.length := by rw [HPLN.out]; exact hlt
        obtain ⟨g, rfl, hg1, hg2, hgc⟩ := own_at HPS.out (by rw [HPLN.out]; omega)
        obtain ⟨c1, c2⟩ := hgc kk hplen
        have hgr : g ≠ r := by have := HPR.out; omega
        have d1 : wr.cell? ⟨g, kk * 2, none⟩ = some (.int .i64 (ps.getD kk (0, 0)).1) := (World.cell?_of_block (HKk.out.2 g hgr hg2)).trans c1
        have d2 : wr.cell? ⟨g, kk * 2 + 1, none⟩ = some (.int .i64 (ps.getD kk (0, 0)).2) := (World.cell?_of_block (HKk.out.2 g hgr hg2)).trans c2
        have hgw : g < wr.heap.size := Nat.lt_of_lt_of_le hg2 HKk.out.1
        have hpr : RowAt wr p 76 #[.int .i64 s, .int .i64 k, .int .i64 ag, .int .i64 xf, .slice A hln cap, .pointer (some ⟨fs, 0, none⟩), .string nb, .int .i64 of_] := (HKk.out.2 p HN.out.1 HN.out.2.2.2).trans HRX.out
        have e0 : wr.cell? ⟨p, 0, none⟩ = some (.int .i64 s) := hpr.cell 0
        have hpl := hpr.lt
        have HH : Hid (∀ b : Bool, b = decide ((ps.getD kk (0, 0)).1 > 0 ∧ (ps.getD kk (0, 0)).1 = st + (kk : Int) * s) → holds s st ps kk = if b = true then Fx.of (ps.getD kk (0, 0)).2 else Fx.none) := Lib.hid fun b hb => by
          unfold holds
          dsimp only
          by_cases e : (ps.getD kk (0, 0)).1 > 0 ∧ (ps.getD kk (0, 0)).1 = st + (kk : Int) * s
          · rw [if_pos e, if_pos (by rw [hb]; simpa using e)]
          · rw [if_neg e, if_neg (by rw [hb]; simpa using e)]
        have HTS := Lib.hid (told_succ s st ps m kk)
        have HTM := Lib.hid (told_same (s := s) (st := st) (ps := ps) (n := m) (k := kk))
        have HTL := Lib.hid (told_len s st ps m kk)
        generalize holds s st ps kk = hv at *
        generalize ps.getD kk (0, 0) = pt at *
        obtain ⟨pa, pn⟩ := pt
        dsimp only at d1 d2 HH
        clear hpr c1 c2 hgc
        have h1 : (kk : Int) * s ≤ 87381 * 16777216 := Int.mul_le_mul (by omega) (by omega) (by omega) (by omega)
        have h2 : 0 ≤ (kk : Int) * s := Int.mul_nonneg (by omega) (by omega)
        obtain ⟨mm, hmm⟩ : ∃ mm, (kk : Int) * s = mm := ⟨_, rfl⟩
        rw [hmm] at h1 h2 HH
        obtain ⟨tt, htt⟩ : ∃ tt, st + mm = tt := ⟨_, rfl⟩
        rw [htt] at HH
        have hwm : IntKind.i64.wrap mm = mm := IntWalk.i64_in _ (by omega)
        have hwt : IntKind.i64.wrap tt = tt := IntWalk.i64_in _ (by omega)
        have HOF : Hid (∀ W, Calls Tryd.prog 49 #[.int .i64 pn] W fun e w' => e = .returned (.agg #[.bool (Fx.of pn).ok, .int .i64 (Fx.of pn).n]) ∧ Below W.heap.size W w') := Lib.hid fun W => of_any pn W
        by_cases hp0 : pa > 0
        · by_cases hpt : pa = tt
          · have HHV : Hid (hv = Fx.of pn) := Lib.hid (by rw [HH.out true (by rw [eq_comm]; exact decide_eq_true ⟨hp0, hpt⟩), if_pos rfl])
            have hptb : (pa == tt) = true := by simpa using hpt
            clear HH hpt
            generalize Fx.of pn = ov at *
            obtain ⟨oo, on⟩ := ov
            go_wp2_with (go_at_call 49; (with_reducible refine (HOF.out _).mono ?_); rintro e w5 ⟨rfl, hb5⟩; have hB5 : Below wr.heap.size wr w5 := below_via hb5 (by repeat (first | exact Below.refl _ _ | assumption | refine Below.setCell ?_ (by first | (simp; done) | omega | (simp; omega) | (simp at *; omega)) _ | refine Below.alloc ?_ (by first | (simp; done) | omega | (simp; omega) | (simp at *; omega)) _ | refine Below.drew ?_ | (refine Below.trans ?_ (Below.mono (by assumption) (by first | (simp; done) | omega | (simp; omega) | (simp at *; omega)))) | (refine Below.trans ?_ (Below.mono (below_regrown _ _ _) (by first | (simp; done) | omega | (simp; omega) | (simp at *; omega)))))); have hs5 := hB5.size; have hv5 : ValsAt w5 r (told s st ps m kk) := RowAt.below HVk.out hB5 (Nat.lt_of_lt_of_le HN.out.2.2.1 HKk.out.1); obtain ⟨⟨x0, y0⟩, ⟨x1, y1⟩, y2, y3, y4⟩ := hv5.cells kk (by rw [HTL.out]; exact hlt); have HB5 := Lib.hid hB5; have HV5 := Lib.hid hv5; clear hb5 hB5 hv5)
            go_roundw
            case rel => exact ⟨kk + 1, by omega, by go_num, Lib.hid (by rw [HTS.out, HHV.out]; exact HV5.out.put kk ⟨oo, on⟩ (by rw [HTL.out]; exact hlt)), Lib.hid (((HBk.out.trans (HB5.out.mono HBk.out.size)).setCell HN.out.2.1 _).setCell HN.out.2.1 _), Lib.hid ⟨by have := HKk.out.1; simp [World.setCell]; omega, fun b hb1 hb2 => (Below.heap_setCell _ _ _ _ hb1).trans ((Below.heap_setCell _ _ _ _ hb1).trans ((HB5.out.block b (Nat.lt_of_lt_of_le hb2 HKk.out.1)).trans (HKk.out.2 b hb1 hb2)))⟩⟩
            case measure => simp [intOf]; omega
          · have HHV : Hid (hv = Fx.none) := Lib.hid (by rw [HH.out false (by simp [hpt]), if_neg (by simp)])
            have hptb : (pa == tt) = false := by simpa using hpt
            clear HH hpt
            go_wp2_with fail
            go_roundw
            case rel => exact ⟨kk + 1, by omega, by go_num, Lib.hid (by rw [HTM.out HHV.out]; exact RowAt.alloc HVk.out _), Lib.hid (HBk.out.alloc HBk.out.size _), Lib.hid ⟨by have := HKk.out.1; simp; omega, fun b hb1 hb2 => (Below.heap_alloc _ _ _ (Nat.lt_of_lt_of_le hb2 HKk.out.1)).trans (HKk.out.2 b hb1 hb2)⟩⟩
            case measure => simp [intOf]; omega
        · have HHV : Hid (hv = Fx.none) := Lib.hid (by rw [HH.out false (by simp [hp0]), if_neg (by simp)])
          have hp1 : ¬ (0 : Int) < pa := by omega
          clear HH hp0
          go_wp2_with fail
          go_roundw
          case rel => exact ⟨kk + 1, by omega, by go_num, Lib.hid (by rw [HTM.out HHV.out]; exact RowAt.alloc HVk.out _), Lib.hid (HBk.out.alloc HBk.out.size _), Lib.hid ⟨by have := HKk.out.1; simp; omega, fun b hb1 hb2 => (Below.heap_alloc _ _ _ (Nat.lt_of_lt_of_le hb2 HKk.out.1)).trans (HKk.out.2 b hb1 hb2)⟩⟩
          case measure => simp [intOf]; omega
      · have hkm : kk = m := by omega
        have hkI : ¬ (kk : Int) < (m : Int) := by omega
        have HE : Hid (OwnV w.heap.size wr (.slice (some ⟨r, 0, none⟩) m m) (held s st ps m)) := Lib.hid (by
          have h := HVk.out
          rw [hkm, told_all] at h
          have h2 := ValsAt.own (base := w.heap.size) h HN.out.2.1 (by rw [held_len]; unfold maxLen; omega)
          rw [held_len] at h2
          exact h2)
        go_wp2_with fail
        go_ret
        exact ⟨_, rfl, HE.out, HBk.out⟩
end Go.Proofs.YtbhfapbhlkgmfaaDoor
