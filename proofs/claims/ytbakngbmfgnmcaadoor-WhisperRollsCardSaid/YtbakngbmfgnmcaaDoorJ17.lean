/-
  WqOp: CONTRACTS: chapter 7, the program's open: a file that is there and is a header's.
  WqIn: CONTRACTS: chapter 7, the program's Info; the test of a now.
  WqCh: CONTRACTS: slices.Chunk of bytes, twelve at a time: its closure for every loop body.
  WqRg: CONTRACTS: chapter 7, the program's ring: an archive of a file.
  WpRi: CONTRACTS: chapter 7, the document's Ring.
-/
import Derived.Test.YtbakngbmfgnmcaaDoorJ13
import Derived.Test.YtbakngbmfgnmcaaDoorJ16
import Derived.Test.YtbakngbmfgnmcaaDoorJ12
import Derived.RangeFuncNested
import Derived.RangeFuncBound
import Derived.RangeFuncCalls
import Derived.RangeFuncLeaves
import Derived.RangeFuncBox
import Derived.Shelf.Abstract
import Derived.Shelf.RegionOpen
import Derived.OwnWalkIn
import Derived.TacticsInMore
import Derived.LoopNIn
import Derived.LoopIn
import Derived.Maps.AppendAt
import Derived.Test.YtbakngbmfgnmcaaDoorJ5
import Derived.Test.YtbakngbmfgnmcaaDoorJ7
import Derived.Test.YtbakngbmfgnmcaaDoorJ6

namespace Go.Proofs.YtbakngbmfgnmcaaDoor
open Go.RowKit Go.Sort
open Fx (Vl)
open Me
open Wp

/-- A file handed back with an error, its header in blocks of the call's own. -/
def Wp.Opened (w : World) (fs : Nat) (n : List UInt8) (R : Hd × Int) (e : Ending) (w' : World) : Prop :=
  ∃ A cap p s, e = .returned (.tuple #[.agg #[.int .i64 R.1.ag, .int .i64 R.1.xf, .slice A R.1.l.length cap, .pointer p, .string s], .int .i64 R.2]) ∧ (R.2 = 0 → p = some ⟨fs, 0, none⟩ ∧ s = ⟨n.toArray⟩) ∧ Row w' A R.1.l cap ∧ (∀ a, A = some a → w.heap.size ≤ a.block) ∧ Below w.heap.size w w'
theorem Wp.Opened.zero {w w' : World} {fs : Nat} {n : List UInt8} {R : Hd × Int} {k : Int} (hR : R = (Hd.zero, k)) (hk : k ≠ 0) (hb : Below w.heap.size w w') : Opened w fs n R (.returned (.tuple #[.agg #[.int .i64 0, .int .i64 0, .slice none 0 0, .pointer none, .string ⟨#[]⟩], .int .i64 k])) w' := by
  subst hR
  exact ⟨none, 0, none, ⟨#[]⟩, rfl, fun e => absurd e hk, ⟨Nat.le_refl _, fun h => (by cases h)⟩, fun a e => (by cases e), hb⟩

theorem row_kept {W W' : World} {A : Option Addr} {l : List (Int × Int)} {cap : Nat} (h : Row W A l cap) (hk : ∀ x, A = some x → W'.heap[x.block]? = W.heap[x.block]?) : Row W' A l cap := by
  refine ⟨h.1, fun h0 => ?_⟩
  obtain ⟨bb, off, e, ha⟩ := h.2 h0
  have hk' : W'.heap[bb]? = W.heap[bb]? := hk _ e
  have hw := ha.lt
  have hlt : bb < W'.heap.size := by
    have h1 : W'.heap[bb]? = some W.heap[bb] := hk'.trans (Array.getElem?_eq_getElem hw)
    exact (Array.getElem?_eq_some_iff.1 h1).1
  exact ⟨bb, off, e, hlt, fun i hi => (World.cell?_of_block hk').trans (ha.st i hi), fun i hi => (World.cell?_of_block hk').trans (ha.ct i hi)⟩
theorem heap_set5 {g i : Nat} {W : World} {a b c d z : Value} (hne : i ≠ g) : (((((W.setCell ⟨g, 0, none⟩ a).setCell ⟨g, 1, none⟩ b).setCell ⟨g, 2, none⟩ c).setCell ⟨g, 3, none⟩ d).setCell ⟨g, 4, none⟩ z).heap[i]? = W.heap[i]? := by
  rw [Below.heap_setCell _ _ _ _ hne, Below.heap_setCell _ _ _ _ hne, Below.heap_setCell _ _ _ _ hne, Below.heap_setCell _ _ _ _ hne, Below.heap_setCell _ _ _ _ hne]
theorem row_set5 {g : Nat} {W : World} {a b c d z : Value} {A : Option Addr} {l : List (Int × Int)} {cap : Nat} (h : Row W A l cap) (hg : ∀ x, A = some x → g < x.block) : Row (((((W.setCell ⟨g, 0, none⟩ a).setCell ⟨g, 1, none⟩ b).setCell ⟨g, 2, none⟩ c).setCell ⟨g, 3, none⟩ d).setCell ⟨g, 4, none⟩ z) A l cap :=
  row_kept h fun x e => heap_set5 (by have := hg x e; omega)

set_option maxHeartbeats 1000000 in
theorem open_nil (n : List UInt8) (w : World) : Calls Tryd.prog 13 #[.pointer none, .string ⟨n.toArray⟩] w (Opened w 0 n (Hd.zero, 1)) := by
  go_enter Tryd.func13, Tryd.ntmps13
  go_wp2_with fail
  refine bodyPost_ret (v := .tuple #[.agg #[.int .i64 0, .int .i64 0, .slice none 0 0, .pointer none, .string ⟨#[]⟩], .int .i64 1]) (by simp [results, Tryd.results13, go_sem]) rfl (Opened.zero rfl (by decide) (by repeat (first | exact Below.refl _ _ | assumption | refine Below.setCell ?_ (by first | (simp; done) | omega | (simp; omega) | (simp at *; omega)) _ | refine Below.alloc ?_ (by first | (simp; done) | omega | (simp; omega) | (simp at *; omega)) _ | refine Below.drew ?_ | (refine Below.trans ?_ (Below.mono (by assumption) (by first | (simp; done) | omega | (simp; omega) | (simp at *; omega)))) | (refine Below.trans ?_ (Below.mono (below_regrown _ _ _) (by first | (simp; done) | omega | (simp; omega) | (simp at *; omega)))))))

set_option maxRecDepth 100000 in
set_option maxHeartbeats 4000000 in
theorem open_any {w : World} {V : Nat → Prop} {c fs : Nat} {S : Vf.Sv} (ro : PO w V fs c S) (n : List UInt8) :
    Calls Tryd.prog 13 #[.pointer (some ⟨fs, 0, none⟩), .string ⟨n.toArray⟩] w (Opened w fs n (info S.now n)) := by
  have HSZ : Hid (∀ W, Below w.heap.size w W → Calls Tryd.prog 33 #[.pointer (some ⟨fs, 0, none⟩), .string ⟨n.toArray⟩] W fun e w' => e = .returned (.tuple #[.int .i64 (Vf.size S.now n).1, .int .i64 (Vf.size S.now n).2]) ∧ W = w') := Lib.hid fun W hb => posize (ro.below hb) n
  have HC : Hid (∀ W, Below (w.heap.size + 1) (w.alloc (.cells #[.int .i64 0, .int .i64 0, .slice none 0 0, .pointer none, .string ⟨#[]⟩] 59)) W → RowAt W w.heap.size 59 #[.int .i64 0, .int .i64 0, .slice none 0 0, .pointer none, .string ⟨#[]⟩]) := Lib.hid fun W hb => (RowAt.new w _ _).below hb (Nat.lt_succ_self _)
  by_cases he : (Vf.size S.now n).2 = 0
  · obtain ⟨L, hL, hz0, hq⟩ := info_short he
    have HRD : Hid (∀ W, Below w.heap.size w W → Calls Tryd.prog 34 #[.pointer (some ⟨fs, 0, none⟩), .string ⟨n.toArray⟩, .int .i64 0, .int .i64 (min (Vf.size S.now n).1 112)] W (Vf.Handed W (L, 0))) := Lib.hid fun W hb => by
      have h := poread (ro.below hb) n 0 (min (Vf.size S.now n).1 112) (by omega)
      rw [hL] at h
      exact h
    have HQ2 := Lib.hid hq
    clear hL hq ro
    generalize info S.now n = R at *
    generalize Vf.size S.now n = Z at *
    obtain ⟨z, ez⟩ := Z
    obtain rfl : ez = 0 := he
    generalize hmn : min (z, (0 : Int)).1 112 = mn at *
    have hmn' : min z 112 = mn := hmn
    clear hmn
    have HQ2' : Hid (R = if Wh.derr L ≠ 0 ∨ (hdOf L).size ≠ z then (Hd.zero, 2) else (hdOf L, 0)) := HQ2
    clear HQ2
    cases hd : Wh.dok L
    · obtain ⟨e1, e2, e3, e4⟩ := Wh.dok_f hd
      have HR : Hid (R = (Hd.zero, 2)) := Lib.hid (by rw [HQ2'.out, if_pos (.inl (by rw [e4]; decide))])
      have HDD := Lib.hid fun A c W h => decode_anyF A L c W h
      unfold DecodedF at HDD
      rw [e1, e2, e3, e4] at HDD
      clear HQ2' e1 e2 e3 e4 hd
      go_enter Tryd.func13, Tryd.ntmps13
      go_wp2_with first
        | (go_at_call 33; (with_reducible refine (HSZ.out _ ((Below.refl _ _).alloc (Nat.le_refl _) _)).mono ?_); rintro e w2 ⟨rfl, rfl⟩)
        | (go_at_call 34; (with_reducible refine (HRD.out _ ((Below.refl _ _).alloc (Nat.le_refl _) _)).mono ?_); rintro e w3 ⟨v3, rfl, hv3, hb3⟩; have hbb : Below (w.heap.size + 1) (w.alloc (.cells #[.int .i64 0, .int .i64 0, .slice none 0 0, .pointer none, .string ⟨#[]⟩] 59)) w3 := hb3.mono (by simp); have HB3 := Lib.hid hbb; have HV3 : Hid (Reads w3 v3 L) := Lib.hid (by obtain ⟨A', c', e', h1', _, h3'⟩ := hv3; exact ⟨A', c', e', h1', h3'.mono fun _ _ _ => trivial⟩); obtain ⟨A3, c3, rfl, _, _⟩ := HV3.out; have hs3 : w.heap.size < w3.heap.size := (HC.out w3 hbb).lt; clear hb3 hbb hv3)
        | (go_at_call 35; (with_reducible refine (HDD.out A3 c3 w3 HV3.out).mono ?_); rintro e w4 ⟨A4, c4, rfl, hrow, hb4, hfr⟩; have hbb : Below (w.heap.size + 1) (w.alloc (.cells #[.int .i64 0, .int .i64 0, .slice none 0 0, .pointer none, .string ⟨#[]⟩] 59)) w4 := HB3.out.trans (hb4.mono hs3); have HB4 := Lib.hid hbb; have HLB := Lib.hid (lowBox' hbb); have hs4 := (HC.out w4 hbb).lt; have r0 := (HC.out w4 hbb).cell 0; have r1 := (HC.out w4 hbb).cell 1; have r2 := (HC.out w4 hbb).cell 2; have r3 := (HC.out w4 hbb).cell 3; have r4 := (HC.out w4 hbb).cell 4; have f0 := (HC.out w4 hbb).frozen 0; have f1 := (HC.out w4 hbb).frozen 1; have f2 := (HC.out w4 hbb).frozen 2; have f3 := (HC.out w4 hbb).frozen 3; have f4 := (HC.out w4 hbb).frozen 4; simp only [List.getElem?_toArray, List.getElem?_cons_succ, List.getElem?_cons_zero] at r0 r1 r2 r3 r4; clear hb4 hbb hrow hfr)
      refine bodyPost_ret (v := .tuple #[.agg #[.int .i64 0, .int .i64 0, .slice none 0 0, .pointer none, .string ⟨#[]⟩], .int .i64 2]) (by simp [results, Tryd.results13, go_sem, *]) rfl (Opened.zero HR.out (by decide) ((below_set5 HLB.out (Nat.le_refl _)).alloc (by simp [World.setCell]; omega) _))
    · obtain ⟨_, _, _, e4⟩ := Wh.dok_t hd
      have HDD := Lib.hid fun A c W h => decode_anyF A L c W h
      unfold DecodedF at HDD
      rw [e4] at HDD HQ2'
      have HHS : Hid (∀ A4 c4 W, Row W A4 (Wh.dl L) c4 → Calls Tryd.prog 11 #[.agg #[.int .i64 (Wh.dag L), .int .i64 (Wh.dxf L), .slice A4 (Wh.dl L).length c4]] W fun e w' => e = .returned (.int .i64 (hdOf L).size) ∧ Below W.heap.size W w') := Lib.hid fun A4 c4 W h => wsize_any _ _ _ A4 c4 W h
      clear e4 hd
      obtain ⟨sz, hsz⟩ : ∃ sz, Hid (sz = (hdOf L).size) := ⟨_, Lib.hid rfl⟩
      rw [← hsz.out] at HHS HQ2'
      obtain ⟨H, hH⟩ : ∃ H, Hid (H = hdOf L) := ⟨_, Lib.hid rfl⟩
      rw [← hH.out] at HQ2'
      have e5 : Wh.dag L = H.ag := by rw [hH.out]; rfl
      have e6 : Wh.dxf L = H.xf := by rw [hH.out]; rfl
      have e7 : Wh.dl L = H.l := by rw [hH.out]; rfl
      rw [e5, e6, e7] at HDD HHS
      clear e5 e6 e7 hH hsz
      obtain ⟨ag, xf, l⟩ := H
      simp only at HDD HHS
      by_cases hz : sz = z
      · have HR : Hid (R = (⟨ag, xf, l⟩, 0)) := Lib.hid (by rw [HQ2'.out, if_neg (by rintro (e | e); exact e rfl; exact e hz)])
        have hzb : (sz == z) = true := by simpa using hz
        subst hz
        clear HQ2'
        go_enter Tryd.func13, Tryd.ntmps13
        go_wp2_with first
          | (go_at_call 33; (with_reducible refine (HSZ.out _ ((Below.refl _ _).alloc (Nat.le_refl _) _)).mono ?_); rintro e w2 ⟨rfl, rfl⟩)
          | (go_at_call 34; (with_reducible refine (HRD.out _ ((Below.refl _ _).alloc (Nat.le_refl _) _)).mono ?_); rintro e w3 ⟨v3, rfl, hv3, hb3⟩; have hbb : Below (w.heap.size + 1) (w.alloc (.cells #[.int .i64 0, .int .i64 0, .slice none 0 0, .pointer none, .string ⟨#[]⟩] 59)) w3 := hb3.mono (by simp); have HB3 := Lib.hid hbb; have HV3 : Hid (Reads w3 v3 L) := Lib.hid (by obtain ⟨A', c', e', h1', _, h3'⟩ := hv3; exact ⟨A', c', e', h1', h3'.mono fun _ _ _ => trivial⟩); obtain ⟨A3, c3, rfl, _, _⟩ := HV3.out; have hs3 : w.heap.size < w3.heap.size := (HC.out w3 hbb).lt; clear hb3 hbb hv3)
          | (go_at_call 35; (with_reducible refine (HDD.out A3 c3 w3 HV3.out).mono ?_); rintro e w4 ⟨A4, c4, rfl, hrow, hb4, hfr⟩; have hbb : Below (w.heap.size + 1) (w.alloc (.cells #[.int .i64 0, .int .i64 0, .slice none 0 0, .pointer none, .string ⟨#[]⟩] 59)) w4 := HB3.out.trans (hb4.mono hs3); have HB4 := Lib.hid hbb; have HROW := Lib.hid hrow; have HFR : Hid (∀ a, A4 = some a → w.heap.size < a.block) := Lib.hid (fun a e => Nat.lt_of_lt_of_le hs3 (hfr a e)); have hs4 := (HC.out w4 hbb).lt; clear hb4 hbb hrow hfr)
          | (go_at_call 11; (with_reducible refine (HHS.out _ _ _ (HROW.out.below ((Below.refl _ _).alloc (Nat.le_refl _) _))).mono ?_); rintro e w5 ⟨rfl, hb5⟩; have hbb : Below (w.heap.size + 1) (w.alloc (.cells #[.int .i64 0, .int .i64 0, .slice none 0 0, .pointer none, .string ⟨#[]⟩] 59)) w5 := (HB4.out.alloc (by omega) _).trans (hb5.mono (by simp; omega)); have HB5 := Lib.hid hbb; have HROW5 := Lib.hid (HROW.out.below (((Below.refl w4.heap.size w4).alloc (Nat.le_refl _) _).trans (hb5.mono (by simp)))); have r0 := (HC.out w5 hbb).cell 0; have r1 := (HC.out w5 hbb).cell 1; have r2 := (HC.out w5 hbb).cell 2; have r3 := (HC.out w5 hbb).cell 3; have r4 := (HC.out w5 hbb).cell 4; have f0 := (HC.out w5 hbb).frozen 0; have f1 := (HC.out w5 hbb).frozen 1; have f2 := (HC.out w5 hbb).frozen 2; have f3 := (HC.out w5 hbb).frozen 3; have f4 := (HC.out w5 hbb).frozen 4; simp only [List.getElem?_toArray, List.getElem?_cons_succ, List.getElem?_cons_zero] at r0 r1 r2 r3 r4; have hs5 := (HC.out w5 hbb).lt; obtain ⟨hc5, hf5⟩ := bcell hb5; have hz5 : w4.heap.size < w5.heap.size := Nat.lt_of_lt_of_le (by simp) hb5.size; clear hb5 hbb)
        refine bodyPost_ret (v := .tuple #[.agg #[.int .i64 ag, .int .i64 xf, .slice A4 l.length c4, .pointer (some ⟨fs, 0, none⟩), .string ⟨n.toArray⟩], .int .i64 0]) (by simp [results, Tryd.results13, go_sem, *]) rfl ⟨A4, c4, some ⟨fs, 0, none⟩, ⟨n.toArray⟩, by rw [HR.out], fun _ => ⟨rfl, rfl⟩, by rw [HR.out]; exact row_set5 HROW5.out HFR.out, fun a e => Nat.le_of_lt (HFR.out a e), below_set5 (lowBox' HB5.out) (Nat.le_refl _)⟩
      · have HR : Hid (R = (Hd.zero, 2)) := Lib.hid (by rw [HQ2'.out, if_pos (.inr hz)])
        have hzb : (sz == z) = false := by simpa using hz
        clear HQ2'
        go_enter Tryd.func13, Tryd.ntmps13
        go_wp2_with first
          | (go_at_call 33; (with_reducible refine (HSZ.out _ ((Below.refl _ _).alloc (Nat.le_refl _) _)).mono ?_); rintro e w2 ⟨rfl, rfl⟩)
          | (go_at_call 34; (with_reducible refine (HRD.out _ ((Below.refl _ _).alloc (Nat.le_refl _) _)).mono ?_); rintro e w3 ⟨v3, rfl, hv3, hb3⟩; have hbb : Below (w.heap.size + 1) (w.alloc (.cells #[.int .i64 0, .int .i64 0, .slice none 0 0, .pointer none, .string ⟨#[]⟩] 59)) w3 := hb3.mono (by simp); have HB3 := Lib.hid hbb; have HV3 : Hid (Reads w3 v3 L) := Lib.hid (by obtain ⟨A', c', e', h1', _, h3'⟩ := hv3; exact ⟨A', c', e', h1', h3'.mono fun _ _ _ => trivial⟩); obtain ⟨A3, c3, rfl, _, _⟩ := HV3.out; have hs3 : w.heap.size < w3.heap.size := (HC.out w3 hbb).lt; clear hb3 hbb hv3)
          | (go_at_call 35; (with_reducible refine (HDD.out A3 c3 w3 HV3.out).mono ?_); rintro e w4 ⟨A4, c4, rfl, hrow, hb4, hfr⟩; have hbb : Below (w.heap.size + 1) (w.alloc (.cells #[.int .i64 0, .int .i64 0, .slice none 0 0, .pointer none, .string ⟨#[]⟩] 59)) w4 := HB3.out.trans (hb4.mono hs3); have HB4 := Lib.hid hbb; have HROW := Lib.hid hrow; have HFR : Hid (∀ a, A4 = some a → w.heap.size < a.block) := Lib.hid (fun a e => Nat.lt_of_lt_of_le hs3 (hfr a e)); have hs4 := (HC.out w4 hbb).lt; clear hb4 hbb hrow hfr)
          | (go_at_call 11; (with_reducible refine (HHS.out _ _ _ (HROW.out.below ((Below.refl _ _).alloc (Nat.le_refl _) _))).mono ?_); rintro e w5 ⟨rfl, hb5⟩; have hbb : Below (w.heap.size + 1) (w.alloc (.cells #[.int .i64 0, .int .i64 0, .slice none 0 0, .pointer none, .string ⟨#[]⟩] 59)) w5 := (HB4.out.alloc (by omega) _).trans (hb5.mono (by simp; omega)); have HB5 := Lib.hid hbb; have HROW5 := Lib.hid (HROW.out.below (((Below.refl w4.heap.size w4).alloc (Nat.le_refl _) _).trans (hb5.mono (by simp)))); have r0 := (HC.out w5 hbb).cell 0; have r1 := (HC.out w5 hbb).cell 1; have r2 := (HC.out w5 hbb).cell 2; have r3 := (HC.out w5 hbb).cell 3; have r4 := (HC.out w5 hbb).cell 4; have f0 := (HC.out w5 hbb).frozen 0; have f1 := (HC.out w5 hbb).frozen 1; have f2 := (HC.out w5 hbb).frozen 2; have f3 := (HC.out w5 hbb).frozen 3; have f4 := (HC.out w5 hbb).frozen 4; simp only [List.getElem?_toArray, List.getElem?_cons_succ, List.getElem?_cons_zero] at r0 r1 r2 r3 r4; have hs5 := (HC.out w5 hbb).lt; obtain ⟨hc5, hf5⟩ := bcell hb5; have hz5 : w4.heap.size < w5.heap.size := Nat.lt_of_lt_of_le (by simp) hb5.size; clear hb5 hbb)
        refine bodyPost_ret (v := .tuple #[.agg #[.int .i64 0, .int .i64 0, .slice none 0 0, .pointer none, .string ⟨#[]⟩], .int .i64 2]) (by simp [results, Tryd.results13, go_sem, *]) rfl (Opened.zero HR.out (by decide) (below_set5 (lowBox' HB5.out) (Nat.le_refl _)))
  · have HR : Hid (info S.now n = (Hd.zero, (Vf.size S.now n).2)) := Lib.hid (by unfold info; rw [if_pos he])
    clear ro
    generalize info S.now n = R at *
    generalize Vf.size S.now n = Z at *
    obtain ⟨z, ez⟩ := Z
    have hez : (ez == 0) = false := by simpa using he
    go_enter Tryd.func13, Tryd.ntmps13
    go_wp2_with (go_at_call 33; (with_reducible refine (HSZ.out _ ((Below.refl _ _).alloc (Nat.le_refl _) _)).mono ?_); rintro e w2 ⟨rfl, rfl⟩)
    refine bodyPost_ret (v := .tuple #[.agg #[.int .i64 0, .int .i64 0, .slice none 0 0, .pointer none, .string ⟨#[]⟩], .int .i64 ez]) (by simp [results, Tryd.results13, go_sem]) rfl (Opened.zero HR.out he (by repeat (first | exact Below.refl _ _ | assumption | refine Below.setCell ?_ (by first | (simp; done) | omega | (simp; omega) | (simp at *; omega)) _ | refine Below.alloc ?_ (by first | (simp; done) | omega | (simp; omega) | (simp at *; omega)) _ | refine Below.drew ?_ | (refine Below.trans ?_ (Below.mono (by assumption) (by first | (simp; done) | omega | (simp; omega) | (simp at *; omega)))) | (refine Below.trans ?_ (Below.mono (below_regrown _ _ _) (by first | (simp; done) | omega | (simp; omega) | (simp at *; omega)))))))
end Go.Proofs.YtbakngbmfgnmcaaDoor

namespace Go.Proofs.YtbakngbmfgnmcaaDoor
open Go.RowKit Go.Sort
open Fx (Vl)
open Me
open Wp

set_option maxHeartbeats 400000 in
theorem isnow_any (now : Int) (w : World) : Calls Tryd.prog 14 #[.int .i64 now] w fun e w' => e = .returned (.bool (decide (1 ≤ now ∧ now ≤ 4294967295))) ∧ w = w' := by
  obtain ⟨b, hb⟩ : ∃ b, b = decide (1 ≤ now ∧ now ≤ 4294967295) := ⟨_, rfl⟩
  rw [← hb]
  by_cases h1 : 1 ≤ now
  · by_cases h2 : now ≤ 4294967295
    · have HB : Hid (b = true) := Lib.hid (by rw [hb]; exact decide_eq_true ⟨h1, h2⟩)
      clear hb
      go_enter Tryd.func14, Tryd.ntmps14
      go_wp2_with fail
      go_ret
      exact ⟨by rw [HB.out]; rfl, rfl⟩
    · have HB : Hid (b = false) := Lib.hid (by rw [hb]; exact decide_eq_false (fun e => h2 e.2))
      clear hb
      go_enter Tryd.func14, Tryd.ntmps14
      go_wp2_with fail
      go_ret
      exact ⟨by rw [HB.out]; rfl, rfl⟩
  · have HB : Hid (b = false) := Lib.hid (by rw [hb]; exact decide_eq_false (fun e => h1 e.1))
    clear hb
    go_enter Tryd.func14, Tryd.ntmps14
    go_wp2_with fail
    go_ret
    exact ⟨by rw [HB.out]; rfl, rfl⟩

end Go.Proofs.YtbakngbmfgnmcaaDoor

namespace Go.Proofs.YtbakngbmfgnmcaaDoor
open Go.RowKit Go.Shelf
open Me
open Wp

attribute [local go_sem] Oper.semAt_some

namespace Wp
/-- The two boxes lie as they lay. -/
def Boxes (p q : Nat) (W W' : World) : Prop := W'.cell? ⟨p, 0, none⟩ = W.cell? ⟨p, 0, none⟩ ∧ W'.cell? ⟨q, 0, none⟩ = W.cell? ⟨q, 0, none⟩
end Wp

theorem chunk_from (W : World) (b off l m cap : Nat) (hl : l < m) (hm : m ≤ cap) :
    (Instr.slice 52 (.slice (some ⟨b, off, none⟩) m cap) (some (.int .i64 (l : Int))) none none).run Tryd.prog W = .ok (.slice (some ⟨b, off + l, none⟩) (m - l) (cap - l)) W := by
  have h1 : ¬ (m : Int) < (l : Int) := by omega
  have h2 : ¬ m < l := by omega
  have h3 : (0 : Int) ≤ (l : Int) := by omega
  have h4 : ¬ cap = l := by omega
  have h5 : l ≤ m := by omega
  have h6 : (l : Int) ≤ (m : Int) := by omega
  simp [go_sem, *]
theorem chunk_window (W : World) (b off l m cap : Nat) (hl : l + 12 ≤ m) (hm : m ≤ cap) :
    (Instr.slice 52 (.slice (some ⟨b, off, none⟩) m cap) (some (.int .i64 (l : Int))) (some (.int .i64 ((l : Int) + 12))) (some (.int .i64 ((l : Int) + 12)))).run Tryd.prog W = .ok (.slice (some ⟨b, off + l, none⟩) 12 12) W := by
  have h1 : (l : Int) ≤ (l : Int) + 12 := by omega
  have h2 : (l : Int) + 12 ≤ (cap : Int) := by omega
  have h3 : (0 : Int) ≤ (l : Int) := by omega
  have h4 : (0 : Int) ≤ (l : Int) + 12 := by omega
  have h5 : ((l : Int) + 12).toNat = l + 12 := by omega
  have h6 : ¬ l + 12 = l := by omega
  simp [go_sem, *]

set_option maxRecDepth 100000 in
set_option maxHeartbeats 2000000 in
theorem chunk_in (n : Nat) (hn : 1 ≤ n) (l p q b off N cap : Nat) (A : Option Addr) (hA : 0 < N → A = some ⟨b, off, none⟩) (hcap : 12 * N ≤ cap) (hN : N ≤ 1000000) (J Jx : List (Fin N) → World → Prop) (w0 : Nat) (hJa : AbidesFrom w0 J)
    (hY : ∀ pre (x : Fin N) W, J pre W → pre.length < N → YieldAt Fence.wide (n - 1) Tryd.prog l #[.slice (some ⟨b, off + 12 * x.1, none⟩) 12 12] W fun e W' =>
      (e = .returned (.bool true) ∧ J (pre ++ [x]) W' ∧ Boxes p q W W') ∨ (e = .returned (.bool false) ∧ Jx (pre ++ [x]) W'))
    (W : World) (hp : W.cell? ⟨p, 0, none⟩ = some (.slice A (12 * N) cap)) (hq : W.cell? ⟨q, 0, none⟩ = some (.int .i64 12)) (h0 : J [] W) :
    CallsIn Fence.wide n Tryd.prog 82 #[.func (.yield l) #[] #[], .pointer (some ⟨p, 0, none⟩), .pointer (some ⟨q, 0, none⟩)] W fun e W' => (∃ v, e = .returned v) ∧
      ((∃ ys, ys = List.finRange N ∧ J ys W') ∨ (∃ pre, True ∧ Jx pre W')) := by
  refine callsIn_of_wp Tryd.func82 rfl trivial ?_ rfl
  simp only [Tryd.ntmps82, List.size_toArray, List.length_cons, List.length_nil, Nat.reduceAdd, Nat.reduceSub, Array.replicate_succ, Array.replicate_zero, List.push_toArray, List.append_toArray, List.nil_append, List.cons_append]
  gi_wp2
  gi_loopw [4, 5] (fun i _ wr => ∃ k : Nat, k ≤ N ∧ i = .int .i64 ((12 * k : Nat) : Int) ∧ J ((List.finRange N).take k) wr ∧ Boxes p q W wr)
    (fun i _ _ => 12 * N - (intOf i).toNat)
  case atStart => exact ⟨0, Nat.zero_le _, rfl, h0, rfl, rfl⟩
  case round =>
    obtain ⟨k, hk, rfl, hJ, hb1, hb2⟩ := hrel
    have HB : Hid (Boxes p q W wr) := Lib.hid ⟨hb1, hb2⟩
    have hp' : wr.cell? ⟨p, 0, none⟩ = some (.slice A (12 * N) cap) := hb1.trans hp
    have hq' : wr.cell? ⟨q, 0, none⟩ = some (.int .i64 12) := hb2.trans hq
    clear hb1 hb2
    by_cases hlt : k < N
    · obtain rfl := hA (by omega)
      have hi1 : ((12 * k : Nat) : Int) < ((12 * N : Nat) : Int) := by omega
      obtain ⟨L, hL⟩ : ∃ L, L = 12 * k := ⟨_, rfl⟩
      obtain ⟨M, hM⟩ : ∃ M, M = 12 * N := ⟨_, rfl⟩
      have hsl := chunk_from wr b off L M cap (by omega) (by omega)
      have hlm : L + 12 ≤ M := by omega
      have hmin : min (12 : Int) ((M - L : Nat) : Int) = 12 := by omega
      have hw1 : IntKind.i64.wrap ((L : Int) + 12) = (L : Int) + 12 := IntWalk.i64_in _ (by omega)
      rw [← hM] at hp' hi1
      rw [← hL] at hi1 ⊢
      have HL := Lib.hid hL
      have HM := Lib.hid hM
      clear hL hM hp hq
      gi_wp2
      refine wpIn_wide.2 ?_
      go_quiet (fail)
      obtain ⟨wd, hwd⟩ : ∃ wd, wd = wr.drewN nq := ⟨_, rfl⟩
      have hJd : J ((List.finRange N).take k) wd := by rw [hwd]; exact hJa _ _ _ none hJ ⟨rfl, rfl, rfl, Nat.le_refl _, fun _ _ _ => rfl⟩ (fun r e => by cases e)
      obtain ⟨fn, tmps, assign, body, hy, hR⟩ := hY _ ⟨k, hlt⟩ wd hJd (by rw [List.length_take, List.length_finRange]; omega)
      dsimp only at hy
      rw [← HL.out] at hy
      have hsw := chunk_window wd b off L M cap (by omega) (by have := HM.out; omega)
      have hpd : wd.cell? ⟨p, 0, none⟩ = some (.slice (some ⟨b, off, none⟩) M cap) := by rw [hwd]; exact hp'
      have HBD : Hid (Boxes p q W wd) := Lib.hid (by rw [hwd]; exact HB.out)
      have hqd : wd.cell? ⟨q, 0, none⟩ = some (.int .i64 12) := by rw [hwd]; exact hq'
      have hcl : ¬ cap = L := by have := HM.out; omega
      have hlb : (0 : Int) ≤ (L : Int) + 12 := by omega
      have hub : (L : Int) + 12 ≤ (cap : Int) := by have := HM.out; omega
      have hbb : (0 : Int) ≤ (L : Int) + 12 ∧ (L : Int) + 12 ≤ (cap : Int) := ⟨hlb, hub⟩
      rw [← hwd]
      clear hp' hq' hwd hsl
      gi_wp2
      refine hR.mono ?_
      rintro e W3 (⟨rfl, hJ3, hk3⟩ | ⟨rfl, hJx3⟩)
      · have hp3 : W3.cell? ⟨p, 0, none⟩ = some (.slice (some ⟨b, off, none⟩) M cap) := hk3.1.trans hpd
        have hq3 : W3.cell? ⟨q, 0, none⟩ = some (.int .i64 12) := hk3.2.trans hqd
        have HB3 : Hid (Boxes p q W W3) := Lib.hid ⟨hk3.1.trans HBD.out.1, hk3.2.trans HBD.out.2⟩
        clear hk3 hpd hqd
        gi_wp2
        go_roundw
        case rel => exact ⟨k + 1, by omega, by have h1 := HL.out; congr 1; omega, by rw [List.take_succ_eq_append_getElem (by rw [List.length_finRange]; exact hlt), List.getElem_finRange]; exact hJ3, HB3.out.1, HB3.out.2⟩
        case measure =>
          have h1 := HL.out
          simp only [intOf]
          have h2 := HM.out
          omega
      · gi_wp2
        refine bodyPost_ret (results_none rfl _ _ _) rfl ?_
        exact ⟨⟨_, rfl⟩, .inr ⟨_, trivial, hJx3⟩⟩
    · obtain rfl : k = N := by omega
      gi_wp2
      go_end0
      exact ⟨⟨_, rfl⟩, .inl ⟨_, by rw [List.take_of_length_le (by simp)], hJ⟩⟩
end Go.Proofs.YtbakngbmfgnmcaaDoor

namespace Go.Proofs.YtbakngbmfgnmcaaDoor
open Go.RowKit Go.Sort
open Fx (Vl)
open Me
open Wp

namespace Wp
/-- An archive of a file as a value of the program. -/
def ringV (h : Hd) (i : Nat) (A : Option Addr) (cap fs : Nat) (n : List UInt8) : Value := .agg #[.int .i64 (h.step i), .int .i64 (h.cnt i), .int .i64 h.ag, .int .i64 h.xf, .slice A h.l.length cap, .pointer (some ⟨fs, 0, none⟩), .string ⟨n.toArray⟩, .int .i64 (h.offs (i : Int))]
end Wp
theorem row_set8 {W : World} {g : Nat} {t : TypeId} {a0 a1 a2 a3 a4 a5 a6 a7 b0 b1 b2 b3 b4 b5 b6 b7 : Value} (h : RowAt W g t #[a0, a1, a2, a3, a4, a5, a6, a7]) :
    RowAt ((((((((W.setCell ⟨g, 0, none⟩ b0).setCell ⟨g, 1, none⟩ b1).setCell ⟨g, 2, none⟩ b2).setCell ⟨g, 3, none⟩ b3).setCell ⟨g, 4, none⟩ b4).setCell ⟨g, 5, none⟩ b5).setCell ⟨g, 6, none⟩ b6).setCell ⟨g, 7, none⟩ b7) g t #[b0, b1, b2, b3, b4, b5, b6, b7] := by
  have := (((((((h.set_ 0 b0).set_ 1 b1).set_ 2 b2).set_ 3 b3).set_ 4 b4).set_ 5 b5).set_ 6 b6).set_ 7 b7
  simpa using this
theorem below_set8 {B g : Nat} {w W : World} {b0 b1 b2 b3 b4 b5 b6 b7 : Value} (h : Below B w W) (hg : B ≤ g) : Below B w ((((((((W.setCell ⟨g, 0, none⟩ b0).setCell ⟨g, 1, none⟩ b1).setCell ⟨g, 2, none⟩ b2).setCell ⟨g, 3, none⟩ b3).setCell ⟨g, 4, none⟩ b4).setCell ⟨g, 5, none⟩ b5).setCell ⟨g, 6, none⟩ b6).setCell ⟨g, 7, none⟩ b7) :=
  Below.setCell (Below.setCell (Below.setCell (Below.setCell (Below.setCell (Below.setCell (Below.setCell (Below.setCell h hg _) hg _) hg _) hg _) hg _) hg _) hg _) hg _

set_option maxRecDepth 100000 in
set_option maxHeartbeats 2000000 in
theorem ring_any {w : World} {fs : Nat} {n : List UInt8} {h : Hd} {A : Option Addr} {cap : Nat} (hr : Row w A h.l cap) (_hv : h.val = true) (ix : Nat) (hi : ix < h.l.length) :
    Calls Tryd.prog 17 #[fileV h A cap fs n, .int .i64 (ix : Int)] w fun e w' => e = .returned (ringV h ix A cap fs n) ∧ Below w.heap.size w w' := by
  have HOF : Hid (∀ W, Below w.heap.size w W → Calls Tryd.prog 40 #[.agg #[.int .i64 h.ag, .int .i64 h.xf, .slice A h.l.length cap], .int .i64 (ix : Int)] W fun e w' => e = .returned (.int .i64 (h.offs (ix : Int))) ∧ Below W.heap.size W w') := Lib.hid fun W hb => offs_any h.ag h.xf h.l A cap ix W (hr.below hb)
  obtain ⟨b, off, rfl, ha⟩ := hr.2 (by omega)
  have s0 : w.cell? ⟨b, off + ix * 2, none⟩ = some (.int .i64 (h.step ix)) := ha.st ix hi
  have s1 : w.cell? ⟨b, off + ix * 2 + 1, none⟩ = some (.int .i64 (h.cnt ix)) := ha.ct ix hi
  have hbl := ha.lt
  have hil : (ix : Int) < (h.l.length : Int) := by omega
  have hi0 : (0 : Int) ≤ (ix : Int) := by omega
  clear hr ha _hv
  unfold fileV ringV
  generalize h.offs (ix : Int) = o at *
  generalize h.step ix = s at *
  generalize h.cnt ix = k at *
  generalize h.l.length = L at *
  generalize h.ag = ag at *
  generalize h.xf = xf at *
  generalize (⟨n.toArray⟩ : ByteArray) = nb at *
  clear hi
  go_enter Tryd.func17, Tryd.ntmps17
  go_wp2_with fail
  have HX : Hid (Below w.heap.size w ((w.alloc (.cells #[.int .i64 ag, .int .i64 xf, .slice (some ⟨b, off, none⟩) L cap, .pointer (some ⟨fs, 0, none⟩), .string nb] 59)).alloc (.cells #[.int .i64 0, .int .i64 0, .int .i64 0, .int .i64 0, .slice none 0 0, .pointer none, .string ⟨#[]⟩, .int .i64 0] 65))) := Lib.hid (((Below.refl _ _).alloc (Nat.le_refl _) _).alloc (by simp) _)
  generalize hXe : (w.alloc (.cells #[.int .i64 ag, .int .i64 xf, .slice (some ⟨b, off, none⟩) L cap, .pointer (some ⟨fs, 0, none⟩), .string nb] 59)).alloc (.cells #[.int .i64 0, .int .i64 0, .int .i64 0, .int .i64 0, .slice none 0 0, .pointer none, .string ⟨#[]⟩, .int .i64 0] 65) = X at *
  have hXs : X.heap.size = w.heap.size + 2 := by rw [← hXe]; simp
  have hr1 : RowAt X w.heap.size 59 #[.int .i64 ag, .int .i64 xf, .slice (some ⟨b, off, none⟩) L cap, .pointer (some ⟨fs, 0, none⟩), .string nb] := by rw [← hXe]; exact (RowAt.new w _ _).alloc _
  have hr2 : RowAt X (w.heap.size + 1) 65 #[.int .i64 0, .int .i64 0, .int .i64 0, .int .i64 0, .slice none 0 0, .pointer none, .string ⟨#[]⟩, .int .i64 0] := by rw [← hXe]; exact RowAt.new' (by simp)
  obtain ⟨p, hp⟩ : ∃ p, p = w.heap.size := ⟨_, rfl⟩
  obtain ⟨q, hq⟩ : ∃ q, q = w.heap.size + 1 := ⟨_, rfl⟩
  have HP : Hid (w.heap.size ≤ q ∧ q < X.heap.size) := Lib.hid ⟨by omega, by omega⟩
  rw [← hq] at hr2 ⊢
  rw [← hp] at hr1
  rw [show Value.pointer (some (⟨w.heap.size, 0, none⟩ : Addr)) = .pointer (some ⟨p, 0, none⟩) by rw [hp]]
  have HF : Hid (∀ W, Below X.heap.size X W → (W.cell? ⟨p, 0, none⟩ = some (.int .i64 ag) ∧ W.cell? ⟨p, 1, none⟩ = some (.int .i64 xf) ∧ W.cell? ⟨p, 2, none⟩ = some (.slice (some ⟨b, off, none⟩) L cap) ∧ W.cell? ⟨p, 3, none⟩ = some (.pointer (some ⟨fs, 0, none⟩)) ∧ W.cell? ⟨p, 4, none⟩ = some (.string nb)) ∧ W.cell? ⟨b, off + ix * 2, none⟩ = some (.int .i64 s) ∧ W.cell? ⟨b, off + ix * 2 + 1, none⟩ = some (.int .i64 k)) := Lib.hid fun W hb => by
    have k1 := hr1.below hb (by omega)
    have hw := HX.out.trans (hb.mono HX.out.size)
    exact ⟨⟨k1.cell 0, k1.cell 1, k1.cell 2, k1.cell 3, k1.cell 4⟩, (hw.cell (p := ⟨b, off + ix * 2, none⟩) hbl).trans s0, (hw.cell (p := ⟨b, off + ix * 2 + 1, none⟩) hbl).trans s1⟩
  have HRR : Hid (RowAt X q 65 #[.int .i64 0, .int .i64 0, .int .i64 0, .int .i64 0, .slice none 0 0, .pointer none, .string ⟨#[]⟩, .int .i64 0]) := Lib.hid hr2
  clear s0 s1 hXe hr1 hr2 hXs hp hq hbl
  refine Inv.region_tail 12 8 (fun W W' => Below W.heap.size W W') (fun i v W => match i with
    | 0 => v = .pointer (some ⟨p, 0, none⟩)
    | 1 => v = .pointer (some ⟨p, 2, none⟩)
    | 2 => v = .slice (some ⟨b, off, none⟩) L cap
    | 3 => v = .int .i64 (ix : Int)
    | 4 => v = .pointer (some ⟨b, off + ix * 2, none⟩)
    | 5 => v = .agg #[.int .i64 s, .int .i64 k]
    | 6 => v = .agg #[.int .i64 ag, .int .i64 xf, .slice (some ⟨b, off, none⟩) L cap, .pointer (some ⟨fs, 0, none⟩), .string nb]
    | 7 => v = .pointer (some ⟨p, 0, none⟩)
    | 8 => v = .agg #[.int .i64 ag, .int .i64 xf, .slice (some ⟨b, off, none⟩) L cap]
    | 9 => v = .int .i64 (ix : Int)
    | 10 => v = .int .i64 o
    | 11 => v = .agg #[.int .i64 s, .int .i64 k, .int .i64 ag, .int .i64 xf, .slice (some ⟨b, off, none⟩) L cap, .pointer (some ⟨fs, 0, none⟩), .string nb, .int .i64 o]
    | _ => True) (by kernel_rfl) (by kernel_rfl) (by kernel_rfl) (by kernel_rfl) (fun W => Below.refl _ _) (fun a b c h k => h.trans (k.mono h.size)) (fun i v W W' h he => ?stab) ?obls ?fin
  case stab =>
    match i, h with
    | 0, h => exact h
    | 1, h => exact h
    | 2, h => exact h
    | 3, h => exact h
    | 4, h => exact h
    | 5, h => exact h
    | 6, h => exact h
    | 7, h => exact h
    | 8, h => exact h
    | 9, h => exact h
    | 10, h => exact h
    | 11, h => exact h
    | _ + 12, h => exact h
  case obls =>
    refine .cons ?_ (.cons ?_ (.cons ?_ (.cons ?_ (.cons ?_ (.cons ?_ (.cons ?_ (.cons ?_ (.cons ?_ (.cons ?_ (.cons ?_ (.cons ?_ .nil)))))))))))
    · intro ac wx hE hf hd
      have hB : Below X.heap.size X wx := ⟨hE.os, hE.tape, hE.output, hE.size, hE.block⟩
      rw [if_pos (Inv.want0 rfl _)]
      have h2 : ac.eval (.tmp 2) = .pointer (some ⟨p, 0, none⟩) := hf 2 (by kernel_rfl)
      clear hf hd
      refine Inv.val (.pointer (some ⟨p, 0, none⟩)) ?_ rfl rfl (Below.refl _ _)
      clear hE hB HF HOF HX
      generalize ac.eval = ev at *
      simp [execOp, go_sem, *]
    · intro ac wx hE hf hd
      have hB : Below X.heap.size X wx := ⟨hE.os, hE.tape, hE.output, hE.size, hE.block⟩
      rw [if_pos (Inv.want0 rfl _)]
      have h5 := hd 0 _ (by kernel_rfl) rfl
      change ac.eval (.tmp 5) = .pointer (some ⟨p, 0, none⟩) at h5
      clear hf hd
      refine Inv.val (.pointer (some ⟨p, 2, none⟩)) ?_ rfl rfl (Below.refl _ _)
      clear hE hB HF HOF HX
      generalize ac.eval = ev at *
      simp [execOp, go_sem, *]
    · intro ac wx hE hf hd
      have hB : Below X.heap.size X wx := ⟨hE.os, hE.tape, hE.output, hE.size, hE.block⟩
      rw [if_pos (Inv.want0 rfl _)]
      have h6 := hd 1 _ (by kernel_rfl) rfl
      change ac.eval (.tmp 6) = .pointer (some ⟨p, 2, none⟩) at h6
      clear hf hd
      obtain ⟨⟨a0, a1, a2, a3, a4⟩, b0, b1⟩ := HF.out wx hB
      refine Inv.val (.slice (some ⟨b, off, none⟩) L cap) ?_ rfl rfl (Below.refl _ _)
      clear hE hB HF HOF HX
      generalize ac.eval = ev at *
      simp [execOp, go_sem, *]
    · intro ac wx hE hf hd
      have hB : Below X.heap.size X wx := ⟨hE.os, hE.tape, hE.output, hE.size, hE.block⟩
      rw [if_pos (Inv.want0 rfl _)]
      have h1 : ac.eval (.tmp 1) = .int .i64 (ix : Int) := hf 1 (by kernel_rfl)
      clear hf hd
      refine Inv.val (.int .i64 (ix : Int)) ?_ rfl rfl (Below.refl _ _)
      clear hE hB
      generalize ac.eval = ev at *
      simp [execOp, go_sem, *]
    · intro ac wx hE hf hd
      have hB : Below X.heap.size X wx := ⟨hE.os, hE.tape, hE.output, hE.size, hE.block⟩
      rw [if_pos (Inv.want0 rfl _)]
      have h7 := hd 2 _ (by kernel_rfl) rfl
      change ac.eval (.tmp 7) = .slice (some ⟨b, off, none⟩) L cap at h7
      have h8 := hd 3 _ (by kernel_rfl) rfl
      change ac.eval (.tmp 8) = .int .i64 (ix : Int) at h8
      clear hf hd
      refine Inv.val (.pointer (some ⟨b, off + ix * 2, none⟩)) ?_ rfl rfl (Below.refl _ _)
      clear hE hB HF HOF HX
      generalize ac.eval = ev at *
      simp [execOp, go_sem, *]
    · intro ac wx hE hf hd
      have hB : Below X.heap.size X wx := ⟨hE.os, hE.tape, hE.output, hE.size, hE.block⟩
      rw [if_pos (Inv.want0 rfl _)]
      have h9 := hd 4 _ (by kernel_rfl) rfl
      change ac.eval (.tmp 9) = .pointer (some ⟨b, off + ix * 2, none⟩) at h9
      clear hf hd
      obtain ⟨⟨a0, a1, a2, a3, a4⟩, b0, b1⟩ := HF.out wx hB
      refine Inv.val (.agg #[.int .i64 s, .int .i64 k]) ?_ rfl rfl (Below.refl _ _)
      clear hE hB HF HOF HX
      generalize ac.eval = ev at *
      simp [execOp, go_sem, *]
    · intro ac wx hE hf hd
      have hB : Below X.heap.size X wx := ⟨hE.os, hE.tape, hE.output, hE.size, hE.block⟩
      rw [if_pos (Inv.want0 rfl _)]
      have h2 : ac.eval (.tmp 2) = .pointer (some ⟨p, 0, none⟩) := hf 2 (by kernel_rfl)
      clear hf hd
      obtain ⟨⟨a0, a1, a2, a3, a4⟩, b0, b1⟩ := HF.out wx hB
      refine Inv.val (.agg #[.int .i64 ag, .int .i64 xf, .slice (some ⟨b, off, none⟩) L cap, .pointer (some ⟨fs, 0, none⟩), .string nb]) ?_ rfl rfl (Below.refl _ _)
      clear hE hB HF HOF HX
      generalize ac.eval = ev at *
      simp [execOp, go_sem, *]
    · intro ac wx hE hf hd
      have hB : Below X.heap.size X wx := ⟨hE.os, hE.tape, hE.output, hE.size, hE.block⟩
      rw [if_pos (Inv.want0 rfl _)]
      have h2 : ac.eval (.tmp 2) = .pointer (some ⟨p, 0, none⟩) := hf 2 (by kernel_rfl)
      clear hf hd
      refine Inv.val (.pointer (some ⟨p, 0, none⟩)) ?_ rfl rfl (Below.refl _ _)
      clear hE hB HF HOF HX
      generalize ac.eval = ev at *
      simp [execOp, go_sem, *]
    · intro ac wx hE hf hd
      have hB : Below X.heap.size X wx := ⟨hE.os, hE.tape, hE.output, hE.size, hE.block⟩
      rw [if_pos (Inv.want0 rfl _)]
      have h12 := hd 7 _ (by kernel_rfl) rfl
      change ac.eval (.tmp 12) = .pointer (some ⟨p, 0, none⟩) at h12
      clear hf hd
      obtain ⟨⟨a0, a1, a2, a3, a4⟩, b0, b1⟩ := HF.out wx hB
      refine Inv.val (.agg #[.int .i64 ag, .int .i64 xf, .slice (some ⟨b, off, none⟩) L cap]) ?_ rfl rfl (Below.refl _ _)
      clear hE hB HF HOF HX
      generalize ac.eval = ev at *
      simp [execOp, go_sem, *]
    · intro ac wx hE hf hd
      have hB : Below X.heap.size X wx := ⟨hE.os, hE.tape, hE.output, hE.size, hE.block⟩
      rw [if_pos (Inv.want0 rfl _)]
      have h1 : ac.eval (.tmp 1) = .int .i64 (ix : Int) := hf 1 (by kernel_rfl)
      clear hf hd
      refine Inv.val (.int .i64 (ix : Int)) ?_ rfl rfl (Below.refl _ _)
      clear hE hB
      generalize ac.eval = ev at *
      simp [execOp, go_sem, *]
    · intro ac wx hE hf hd
      have hB : Below X.heap.size X wx := ⟨hE.os, hE.tape, hE.output, hE.size, hE.block⟩
      rw [if_pos (Inv.want0 rfl _)]
      have h13 := hd 8 _ (by kernel_rfl) rfl
      change ac.eval (.tmp 13) = .agg #[.int .i64 ag, .int .i64 xf, .slice (some ⟨b, off, none⟩) L cap] at h13
      have h14 := hd 9 _ (by kernel_rfl) rfl
      change ac.eval (.tmp 14) = .int .i64 (ix : Int) at h14
      clear hf hd
      refine Inv.go (f := 40) (xs := #[.agg #[.int .i64 ag, .int .i64 xf, .slice (some ⟨b, off, none⟩) L cap], .int .i64 (ix : Int)]) ?_ rfl ?_
      · clear hE hB HF HX HOF
        have hfn : ac.eval (.func 40) = .func (.func 40) #[] #[] := rfl
        generalize ac.eval = ev at *
        simp [execOp, go_sem, *]
      · exact (HOF.out wx (HX.out.trans (hB.mono HX.out.size))).mono fun e w' ⟨he, hb⟩ => ⟨_, he, rfl, hb⟩
    · intro ac wx hE hf hd
      have hB : Below X.heap.size X wx := ⟨hE.os, hE.tape, hE.output, hE.size, hE.block⟩
      rw [if_pos (Inv.want0 rfl _)]
      have h10 := hd 5 _ (by kernel_rfl) rfl
      change ac.eval (.tmp 10) = .agg #[.int .i64 s, .int .i64 k] at h10
      have h11 := hd 6 _ (by kernel_rfl) rfl
      change ac.eval (.tmp 11) = .agg #[.int .i64 ag, .int .i64 xf, .slice (some ⟨b, off, none⟩) L cap, .pointer (some ⟨fs, 0, none⟩), .string nb] at h11
      have h15 := hd 10 _ (by kernel_rfl) rfl
      change (fun v W => v = .int .i64 o) (ac.eval (.tmp 15)) wx at h15
      try dsimp only at h15
      clear hf hd
      refine Inv.val (.agg #[.int .i64 s, .int .i64 k, .int .i64 ag, .int .i64 xf, .slice (some ⟨b, off, none⟩) L cap, .pointer (some ⟨fs, 0, none⟩), .string nb, .int .i64 o]) ?_ rfl rfl (Below.refl _ _)
      clear hE hB HF HOF HX
      generalize ac.eval = ev at *
      simp [execOp, go_sem, *]
  case fin =>
    intro ac wx hE ha hall
    have hB : Below X.heap.size X wx := ⟨hE.os, hE.tape, hE.output, hE.size, hE.block⟩
    have h5 := hall 0 _ (by decide) rfl
    change ac.eval (.tmp 5) = .pointer (some ⟨p, 0, none⟩) at h5
    have h6 := hall 1 _ (by decide) rfl
    change ac.eval (.tmp 6) = .pointer (some ⟨p, 2, none⟩) at h6
    have h7 := hall 2 _ (by decide) rfl
    change ac.eval (.tmp 7) = .slice (some ⟨b, off, none⟩) L cap at h7
    have h8 := hall 3 _ (by decide) rfl
    change ac.eval (.tmp 8) = .int .i64 (ix : Int) at h8
    have h9 := hall 4 _ (by decide) rfl
    change ac.eval (.tmp 9) = .pointer (some ⟨b, off + ix * 2, none⟩) at h9
    have h10 := hall 5 _ (by decide) rfl
    change ac.eval (.tmp 10) = .agg #[.int .i64 s, .int .i64 k] at h10
    have h11 := hall 6 _ (by decide) rfl
    change ac.eval (.tmp 11) = .agg #[.int .i64 ag, .int .i64 xf, .slice (some ⟨b, off, none⟩) L cap, .pointer (some ⟨fs, 0, none⟩), .string nb] at h11
    have h12 := hall 7 _ (by decide) rfl
    change ac.eval (.tmp 12) = .pointer (some ⟨p, 0, none⟩) at h12
    have h13 := hall 8 _ (by decide) rfl
    change ac.eval (.tmp 13) = .agg #[.int .i64 ag, .int .i64 xf, .slice (some ⟨b, off, none⟩) L cap] at h13
    have h14 := hall 9 _ (by decide) rfl
    change ac.eval (.tmp 14) = .int .i64 (ix : Int) at h14
    have h15 := hall 10 _ (by decide) rfl
    change (fun v W => v = .int .i64 o) (ac.eval (.tmp 15)) wx at h15
    try dsimp only at h15
    generalize hv15 : ac.eval (.tmp 15) = v15 at *
    have h16 := hall 11 _ (by decide) rfl
    change ac.eval (.tmp 16) = .agg #[.int .i64 s, .int .i64 k, .int .i64 ag, .int .i64 xf, .slice (some ⟨b, off, none⟩) L cap, .pointer (some ⟨fs, 0, none⟩), .string nb, .int .i64 o] at h16
    simp only [List.take_succ_cons, List.take_zero, List.foldl, Inv.slot, Act.put] at ha
    change ac.tmps.getD 5 undef = _ at h5
    change ac.tmps.getD 6 undef = _ at h6
    change ac.tmps.getD 7 undef = _ at h7
    change ac.tmps.getD 8 undef = _ at h8
    change ac.tmps.getD 9 undef = _ at h9
    change ac.tmps.getD 10 undef = _ at h10
    change ac.tmps.getD 11 undef = _ at h11
    change ac.tmps.getD 12 undef = _ at h12
    change ac.tmps.getD 13 undef = _ at h13
    change ac.tmps.getD 14 undef = _ at h14
    change ac.tmps.getD 15 undef = _ at hv15
    change ac.tmps.getD 16 undef = _ at h16
    simp only [h5, h6, h7, h8, h9, h10, h11, h12, h13, h14, hv15, h16, List.setIfInBounds_toArray, List.set_cons_zero, List.set_cons_succ] at ha
    clear h5 h6 h7 h8 h9 h10 h11 h12 h13 h14 hv15 h16 hall hE
    subst ha
    simp only [List.drop_succ_cons, List.drop_zero]
    have hrr := HRR.out.below hB HP.out.2
    have hl2 := hrr.lt
    have q0 := hrr.frozen 0
    have q1 := hrr.frozen 1
    have q2 := hrr.frozen 2
    have q3 := hrr.frozen 3
    have q4 := hrr.frozen 4
    have q5 := hrr.frozen 5
    have q6 := hrr.frozen 6
    have q7 := hrr.frozen 7
    have y0 := hrr.cell 0
    have y1 := hrr.cell 1
    have y2 := hrr.cell 2
    have y3 := hrr.cell 3
    have y4 := hrr.cell 4
    have y5 := hrr.cell 5
    have y6 := hrr.cell 6
    have y7 := hrr.cell 7
    simp only [List.getElem?_toArray, List.getElem?_cons_succ, List.getElem?_cons_zero] at y0 y1 y2 y3 y4 y5 y6 y7
    have HB2 := Lib.hid (HX.out.trans (hB.mono HX.out.size))
    have HQ2 := Lib.hid HP.out.1
    have HR0 := Lib.hid hrr
    clear hB hrr HRR HF HOF HX HP
    go_wp2_with fail
    clear q0 q1 q2 q3 q4 q5 q6 q7 y0 y1 y2 y3 y4 y5 y6 y7
    have HZ : Hid (RowAt ((((((((wx.setCell ⟨q, 0, none⟩ (.int .i64 s)).setCell ⟨q, 1, none⟩ (.int .i64 k)).setCell ⟨q, 2, none⟩ (.int .i64 ag)).setCell ⟨q, 3, none⟩ (.int .i64 xf)).setCell ⟨q, 4, none⟩ (.slice (some ⟨b, off, none⟩) L cap)).setCell ⟨q, 5, none⟩ (.pointer (some ⟨fs, 0, none⟩))).setCell ⟨q, 6, none⟩ (.string nb)).setCell ⟨q, 7, none⟩ (.int .i64 o)) q 65 #[.int .i64 s, .int .i64 k, .int .i64 ag, .int .i64 xf, .slice (some ⟨b, off, none⟩) L cap, .pointer (some ⟨fs, 0, none⟩), .string nb, .int .i64 o]) := Lib.hid (row_set8 HR0.out)
    have HBZ : Hid (Below w.heap.size w ((((((((wx.setCell ⟨q, 0, none⟩ (.int .i64 s)).setCell ⟨q, 1, none⟩ (.int .i64 k)).setCell ⟨q, 2, none⟩ (.int .i64 ag)).setCell ⟨q, 3, none⟩ (.int .i64 xf)).setCell ⟨q, 4, none⟩ (.slice (some ⟨b, off, none⟩) L cap)).setCell ⟨q, 5, none⟩ (.pointer (some ⟨fs, 0, none⟩))).setCell ⟨q, 6, none⟩ (.string nb)).setCell ⟨q, 7, none⟩ (.int .i64 o))) := Lib.hid (below_set8 HB2.out HQ2.out)
    generalize ((((((((wx.setCell ⟨q, 0, none⟩ (.int .i64 s)).setCell ⟨q, 1, none⟩ (.int .i64 k)).setCell ⟨q, 2, none⟩ (.int .i64 ag)).setCell ⟨q, 3, none⟩ (.int .i64 xf)).setCell ⟨q, 4, none⟩ (.slice (some ⟨b, off, none⟩) L cap)).setCell ⟨q, 5, none⟩ (.pointer (some ⟨fs, 0, none⟩))).setCell ⟨q, 6, none⟩ (.string nb)).setCell ⟨q, 7, none⟩ (.int .i64 o)) = Y at *
    have y0 := HZ.out.cell 0
    have y1 := HZ.out.cell 1
    have y2 := HZ.out.cell 2
    have y3 := HZ.out.cell 3
    have y4 := HZ.out.cell 4
    have y5 := HZ.out.cell 5
    have y6 := HZ.out.cell 6
    have y7 := HZ.out.cell 7
    simp only [List.getElem?_toArray, List.getElem?_cons_succ, List.getElem?_cons_zero] at y0 y1 y2 y3 y4 y5 y6 y7
    refine bodyPost_ret (v := .agg #[.int .i64 s, .int .i64 k, .int .i64 ag, .int .i64 xf, .slice (some ⟨b, off, none⟩) L cap, .pointer (some ⟨fs, 0, none⟩), .string nb, .int .i64 o]) (by simp [results, Tryd.results17, go_sem, y0, y1, y2, y3, y4, y5, y6, y7]) rfl ⟨rfl, HBZ.out⟩
end Go.Proofs.YtbakngbmfgnmcaaDoor

namespace Go.Proofs.YtbakngbmfgnmcaaDoor
open Go.RowKit Go.Sort
open Fx (Vl)
open Me
open Wp

theorem infoPt : (Tryd.prog.info? 36).map (fun i => (i.zero, i.size, i.bytes)) = some (some (.agg #[.int .i64 0, .int .i64 0]), 2, 16) := by kernel_rfl
/-- A row of pairs of the call's own. -/
def OwnP (t : TypeId) (base : Nat) (w : World) (v : Value) (l : List (Int × Int)) : Prop := w.ownsRow base t 2 v l.length (Wh.cellsA l)
section
variable {t : TypeId}
theorem OwnP.nil (a : Nat) (w : World) : OwnP t a w (.slice none 0 0) [] := ⟨rfl, .inl ⟨rfl, rfl⟩⟩
theorem OwnP.lt {base : Nat} {w : World} {v : Value} {l : List (Int × Int)} (h : OwnP t base w v l) : ∀ g, v.ownBlock = some g → base ≤ g ∧ g < w.heap.size := by
  intro g hg
  rcases h.2 with ⟨rfl, _⟩ | ⟨g', cap, cur, rfl, hb, hh, _⟩
  · cases hg
  · have : g' = g := by simpa [Value.ownBlock] using hg
    subst this
    exact ⟨hb, (Array.getElem?_eq_some_iff.1 hh).1⟩
theorem OwnP.below {a : Nat} {w w' : World} {v : Value} {l : List (Int × Int)} (h : OwnP t a w v l) (k : Below w.heap.size w w') : OwnP t a w' v l := owns_keep h fun g hg => k.block g (h.lt g hg).2
theorem OwnP.slice {a : Nat} {w : World} {v : Value} {l : List (Int × Int)} (h : OwnP t a w v l) : ∃ A c, v = .slice A l.length c := by
  rcases h.2 with ⟨rfl, h0⟩ | ⟨g', cap, cur, rfl, _⟩
  · exact ⟨none, 0, by rw [h0]⟩
  · exact ⟨_, _, rfl⟩
theorem OwnP.more {base : Nat} {w : World} {v : Value} {l : List (Int × Int)} {a b : Int} (h : w.ownsRow base t 2 v (l.length + 1) (Wh.cellsA l ++ [.int .i64 a, .int .i64 b])) : OwnP t base w v (l ++ [(a, b)]) := by
  unfold OwnP
  rw [List.length_append]
  unfold Wh.cellsA at h ⊢
  rw [List.flatMap_append]
  exact h
end
namespace Wp
/-- The points of an archive, up to the k-th. -/
def pts (fs : List Vf.Fl) (n : List UInt8) (h : Hd) (i : Nat) (k : Nat) : List (Int × Int) := (List.range k).map fun (j : Nat) => pt (Vf.read fs n (h.offs (i : Int) + 12 * (j : Int)) 12).1
theorem pts_succ (fs : List Vf.Fl) (n : List UInt8) (h : Hd) (i : Nat) (k : Nat) : pts fs n h i (k + 1) = pts fs n h i k ++ [pt (Vf.read fs n (h.offs (i : Int) + 12 * (k : Int)) 12).1] := by unfold pts; rw [List.range_succ, List.map_append]; rfl
theorem pts_len (fs : List Vf.Fl) (n : List UInt8) (h : Hd) (i : Nat) (k : Nat) : (pts fs n h i k).length = k := by unfold pts; simp
theorem ring_err {fs : List Vf.Fl} {n : List UInt8} {i : Int} (h : (info fs n).2 ≠ 0) : ring fs n i = ([], (info fs n).2) := by unfold ring; dsimp only; rw [if_pos h]
theorem ring_no {fs : List Vf.Fl} {n : List UInt8} {i : Int} (h : (info fs n).2 = 0) (hi : i < 0 ∨ ((info fs n).1.l.length : Int) ≤ i) : ring fs n i = ([], 1) := by unfold ring; dsimp only; rw [if_neg (by rw [h]; simp), if_pos hi]
theorem ring_yes {fs : List Vf.Fl} {n : List UInt8} {i : Nat} (h : (info fs n).2 = 0) (hi : i < (info fs n).1.l.length) : ring fs n (i : Int) = (pts fs n (info fs n).1 i ((info fs n).1.cnt i).toNat, 0) := by
  unfold ring; dsimp only; rw [if_neg (by rw [h]; simp), if_neg (by omega)]; rfl
end Wp

/-- What Ring hands back. -/
def Wp.Ringed (w : World) (R : List (Int × Int) × Int) (e : Ending) (w' : World) : Prop := ∃ v, e = .returned (.tuple #[v, .int .i64 R.2]) ∧ OwnP 36 w.heap.size w' v R.1 ∧ Below w.heap.size w w'

theorem ownp_append {t : TypeId} {X W w2 : World} {v v2 : Value} {m : List (Int × Int)} {a b : Int} (hb : Below X.heap.size X W) (ho : OwnP t X.heap.size W v m)
    (hown : w2.ownsRow X.heap.size t 2 v2 (m.length + 1) (Wh.cellsA m ++ [.int .i64 a, .int .i64 b])) (hg : W.grownBy w2 v.ownBlock) : OwnP t X.heap.size w2 v2 (m ++ [(a, b)]) ∧ Below X.heap.size X w2 :=
  ⟨OwnP.more hown, hb.grown hg hb.size fun g e => (ho.lt g e).1⟩
theorem below_two {a w : World} {o o' : Obj} (h : Below a.heap.size a w) (hs : a.heap.size ≤ w.heap.size) : Below a.heap.size a ((w.alloc o).alloc o') := (h.alloc hs _).alloc (by simp; omega) _

end Go.Proofs.YtbakngbmfgnmcaaDoor
