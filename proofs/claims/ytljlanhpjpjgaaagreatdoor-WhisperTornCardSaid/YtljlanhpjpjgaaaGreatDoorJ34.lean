/- WqOp WqIn WqCh -/
import Derived.Test.YtljlanhpjpjgaaaGreatDoorJ1
import Derived.Test.YtljlanhpjpjgaaaGreatDoorJ29
import Derived.Test.YtljlanhpjpjgaaaGreatDoorJ26
import Derived.Test.YtljlanhpjpjgaaaGreatDoorJ33
import Derived.Test.YtljlanhpjpjgaaaGreatDoorJ23
import Derived.RangeFuncNested
import Derived.RangeFuncBound
import Derived.RangeFuncCalls
import Derived.RangeFuncLeaves
import Derived.RangeFuncBox
import Derived.Shelf.Abstract
import Derived.Shelf.RegionOpen
import Derived.OwnWalkIn
import Derived.TacticsInMore
import Derived.LoopNIn
import Derived.LoopIn
import Derived.Maps.AppendAt
import Derived.Test.YtljlanhpjpjgaaaGreatDoorJ22
import Derived.Test.YtljlanhpjpjgaaaGreatDoorJ10
import Derived.Test.YtljlanhpjpjgaaaGreatDoorJ14
namespace Go.Proofs.YtljlanhpjpjgaaaGreatDoor
set_option maxRecDepth 100000
set_option maxHeartbeats 8000000
section
open Go.RowKit Go.Sort
open Fx (Vl)
open Me
open Wp
def Wp.Opened (w : World) (fs : Nat) (n : List UInt8) (R : Hd × Int) (e : Ending) (w' : World) : Prop :=
 ∃ A cap p s, e = .returned (.tuple #[.agg #[.int .i64 R.1.ag, .int .i64 R.1.xf, .slice A R.1.l.length cap, .pointer p, .string s], .int .i64 R.2]) ∧ (R.2 = 0 → p = some ⟨fs, 0, none⟩ ∧ s = ⟨n.toArray⟩) ∧ Row w' A R.1.l cap ∧ (∀ a, A = some a → w.heap.size ≤ a.block) ∧ Below w.heap.size w w'
theorem Wp.Opened.zero {w w' : World} {fs : Nat} {n : List UInt8} {R : Hd × Int} {k : Int} (hR : R = (Hd.zero, k)) (hk : k ≠ 0) (hb : Below w.heap.size w w') : Opened w fs n R (.returned (.tuple #[.agg #[.int .i64 0, .int .i64 0, .slice none 0 0, .pointer none, .string ⟨#[]⟩], .int .i64 k])) w' := by
 subst hR
 exact ⟨none, 0, none, ⟨#[]⟩, rfl, fun e => absurd e hk, ⟨Nat.le_refl _, fun h => (by cases h)⟩, fun a e => (by cases e), hb⟩
theorem row_kept {W W' : World} {A : Option Addr} {l : List (Int × Int)} {cap : Nat} (h : Row W A l cap) (hk : ∀ x, A = some x → W'.heap[x.block]? = W.heap[x.block]?) : Row W' A l cap := by
 refine ⟨h.1, fun h0 => ?_⟩
 obtain ⟨bb, off, e, ha⟩ := h.2 h0
 have hk' : W'.heap[bb]? = W.heap[bb]? := hk _ e
 have hw := ha.lt
 have hlt : bb < W'.heap.size := by
  have h1 : W'.heap[bb]? = some W.heap[bb] := hk'.trans (Array.getElem?_eq_getElem hw)
  exact (Array.getElem?_eq_some_iff.1 h1).1
 exact ⟨bb, off, e, hlt, fun i hi => (World.cell?_of_block hk').trans (ha.st i hi), fun i hi => (World.cell?_of_block hk').trans (ha.ct i hi)⟩
theorem heap_set5 {g i : Nat} {W : World} {a b c d z : Value} (hne : i ≠ g) : (((((W.setCell ⟨g, 0, none⟩ a).setCell ⟨g, 1, none⟩ b).setCell ⟨g, 2, none⟩ c).setCell ⟨g, 3, none⟩ d).setCell ⟨g, 4, none⟩ z).heap[i]? = W.heap[i]? := by
 rw [Below.heap_setCell _ _ _ _ hne, Below.heap_setCell _ _ _ _ hne, Below.heap_setCell _ _ _ _ hne, Below.heap_setCell _ _ _ _ hne, Below.heap_setCell _ _ _ _ hne]
theorem row_set5 {g : Nat} {W : World} {a b c d z : Value} {A : Option Addr} {l : List (Int × Int)} {cap : Nat} (h : Row W A l cap) (hg : ∀ x, A = some x → g < x.block) : Row (((((W.setCell ⟨g, 0, none⟩ a).setCell ⟨g, 1, none⟩ b).setCell ⟨g, 2, none⟩ c).setCell ⟨g, 3, none⟩ d).setCell ⟨g, 4, none⟩ z) A l cap :=
 row_kept h fun x e => heap_set5 (by have := hg x e; omega)
theorem open_any {w : World} {V : Nat → Prop} {c fs : Nat} {S : Vf.Sv} (ro : PO w V fs c S) (n : List UInt8) :
 Calls Tryz.prog 32 #[.pointer (some ⟨fs, 0, none⟩), .string ⟨n.toArray⟩] w (Opened w fs n (info S.now n)) := by
 have HSZ : Hid (∀ W, Below w.heap.size w W → Calls Tryz.prog 69 #[.pointer (some ⟨fs, 0, none⟩), .string ⟨n.toArray⟩] W fun e w' => e = .returned (.tuple #[.int .i64 (Vf.size S.now n).1, .int .i64 (Vf.size S.now n).2]) ∧ W = w') := Lib.hid fun W hb => posize (ro.below hb) n
 have HC : Hid (∀ W, Below (w.heap.size + 1) (w.alloc (.cells #[.int .i64 0, .int .i64 0, .slice none 0 0, .pointer none, .string ⟨#[]⟩] 84)) W → RowAt W w.heap.size 84 #[.int .i64 0, .int .i64 0, .slice none 0 0, .pointer none, .string ⟨#[]⟩]) := Lib.hid fun W hb => (RowAt.new w _ _).below hb (Nat.lt_succ_self _)
 by_cases he : (Vf.size S.now n).2 = 0
 ·obtain ⟨L, hL, hz0, hq⟩ := info_short he
  have HRD : Hid (∀ W, Below w.heap.size w W → Calls Tryz.prog 70 #[.pointer (some ⟨fs, 0, none⟩), .string ⟨n.toArray⟩, .int .i64 0, .int .i64 (min (Vf.size S.now n).1 112)] W (Vf.Handed W (L, 0))) := Lib.hid fun W hb => by
   have h := poread (ro.below hb) n 0 (min (Vf.size S.now n).1 112) (by omega)
   rw [hL] at h
   exact h
  have HQ2 := Lib.hid hq
  clear hL hq ro
  generalize info S.now n = R at *
  generalize Vf.size S.now n = Z at *
  obtain ⟨z, ez⟩ := Z
  obtain rfl : ez = 0 := he
  generalize hmn : min (z, (0 : Int)).1 112 = mn at *
  have hmn' : min z 112 = mn := hmn
  clear hmn
  have HQ2' : Hid (R = if Wh.derr L ≠ 0 ∨ (hdOf L).size ≠ z then (Hd.zero, 2) else (hdOf L, 0)) := HQ2
  clear HQ2
  cases hd : Wh.dok L
  ·obtain ⟨e1, e2, e3, e4⟩ := Wh.dok_f hd
   have HR : Hid (R = (Hd.zero, 2)) := Lib.hid (by rw [HQ2'.out, if_pos (.inl (by rw [e4]; decide))])
   have HDD := Lib.hid fun A c W h => decode_anyF A L c W h
   unfold DecodedF at HDD
   rw [e1, e2, e3, e4] at HDD
   clear HQ2' e1 e2 e3 e4 hd
   go_enter Tryz.func32, Tryz.ntmps32
   go_wp2_with first
    | (go_at_call 69; (with_reducible refine (HSZ.out _ ((Below.refl _ _).alloc (Nat.le_refl _) _)).mono ?_); rintro e w2 ⟨rfl, rfl⟩)
    | (go_at_call 70; (with_reducible refine (HRD.out _ ((Below.refl _ _).alloc (Nat.le_refl _) _)).mono ?_); rintro e w3 ⟨v3, rfl, hv3, hb3⟩; have hbb : Below (w.heap.size + 1) (w.alloc (.cells #[.int .i64 0, .int .i64 0, .slice none 0 0, .pointer none, .string ⟨#[]⟩] 84)) w3 := hb3.mono (by simp); have HB3 := Lib.hid hbb; have HV3 : Hid (Reads w3 v3 L) := Lib.hid (by obtain ⟨A', c', e', h1', _, h3'⟩ := hv3; exact ⟨A', c', e', h1', h3'.mono fun _ _ _ => trivial⟩); obtain ⟨A3, c3, rfl, _, _⟩ := HV3.out; have hs3 : w.heap.size < w3.heap.size := (HC.out w3 hbb).lt; clear hb3 hbb hv3)
    | (go_at_call 71; (with_reducible refine (HDD.out A3 c3 w3 HV3.out).mono ?_); rintro e w4 ⟨A4, c4, rfl, hrow, hb4, hfr⟩; have hbb : Below (w.heap.size + 1) (w.alloc (.cells #[.int .i64 0, .int .i64 0, .slice none 0 0, .pointer none, .string ⟨#[]⟩] 84)) w4 := HB3.out.trans (hb4.mono hs3); have HB4 := Lib.hid hbb; have HLB := Lib.hid (lowBox' hbb); have hs4 := (HC.out w4 hbb).lt; have r0 := (HC.out w4 hbb).cell 0; have r1 := (HC.out w4 hbb).cell 1; have r2 := (HC.out w4 hbb).cell 2; have r3 := (HC.out w4 hbb).cell 3; have r4 := (HC.out w4 hbb).cell 4; have f0 := (HC.out w4 hbb).frozen 0; have f1 := (HC.out w4 hbb).frozen 1; have f2 := (HC.out w4 hbb).frozen 2; have f3 := (HC.out w4 hbb).frozen 3; have f4 := (HC.out w4 hbb).frozen 4; simp only [List.getElem?_toArray, List.getElem?_cons_succ, List.getElem?_cons_zero] at r0 r1 r2 r3 r4; clear hb4 hbb hrow hfr)
   refine bodyPost_ret (v := .tuple #[.agg #[.int .i64 0, .int .i64 0, .slice none 0 0, .pointer none, .string ⟨#[]⟩], .int .i64 2]) (by simp [results, Tryz.results32, go_sem, *]) rfl (Opened.zero HR.out (by decide) ((below_set5 HLB.out (Nat.le_refl _)).alloc (by simp [World.setCell]; omega) _))
  ·obtain ⟨_, _, _, e4⟩ := Wh.dok_t hd
   have HDD := Lib.hid fun A c W h => decode_anyF A L c W h
   unfold DecodedF at HDD
   rw [e4] at HDD HQ2'
   have HHS : Hid (∀ A4 c4 W, Row W A4 (Wh.dl L) c4 → Calls Tryz.prog 30 #[.agg #[.int .i64 (Wh.dag L), .int .i64 (Wh.dxf L), .slice A4 (Wh.dl L).length c4]] W fun e w' => e = .returned (.int .i64 (hdOf L).size) ∧ Below W.heap.size W w') := Lib.hid fun A4 c4 W h => wsize_any _ _ _ A4 c4 W h
   clear e4 hd
   obtain ⟨sz, hsz⟩ : ∃ sz, Hid (sz = (hdOf L).size) := ⟨_, Lib.hid rfl⟩
   rw [← hsz.out] at HHS HQ2'
   obtain ⟨H, hH⟩ : ∃ H, Hid (H = hdOf L) := ⟨_, Lib.hid rfl⟩
   rw [← hH.out] at HQ2'
   have e5 : Wh.dag L = H.ag := by rw [hH.out]; rfl
   have e6 : Wh.dxf L = H.xf := by rw [hH.out]; rfl
   have e7 : Wh.dl L = H.l := by rw [hH.out]; rfl
   rw [e5, e6, e7] at HDD HHS
   clear e5 e6 e7 hH hsz
   obtain ⟨ag, xf, l⟩ := H
   simp only at HDD HHS
   by_cases hz : sz = z
   ·have HR : Hid (R = (⟨ag, xf, l⟩, 0)) := Lib.hid (by rw [HQ2'.out, if_neg (by rintro (e | e); exact e rfl; exact e hz)])
    have hzb : (sz == z) = true := by simpa using hz
    subst hz
    clear HQ2'
    go_enter Tryz.func32, Tryz.ntmps32
    go_wp2_with first
     | (go_at_call 69; (with_reducible refine (HSZ.out _ ((Below.refl _ _).alloc (Nat.le_refl _) _)).mono ?_); rintro e w2 ⟨rfl, rfl⟩)
     | (go_at_call 70; (with_reducible refine (HRD.out _ ((Below.refl _ _).alloc (Nat.le_refl _) _)).mono ?_); rintro e w3 ⟨v3, rfl, hv3, hb3⟩; have hbb : Below (w.heap.size + 1) (w.alloc (.cells #[.int .i64 0, .int .i64 0, .slice none 0 0, .pointer none, .string ⟨#[]⟩] 84)) w3 := hb3.mono (by simp); have HB3 := Lib.hid hbb; have HV3 : Hid (Reads w3 v3 L) := Lib.hid (by obtain ⟨A', c', e', h1', _, h3'⟩ := hv3; exact ⟨A', c', e', h1', h3'.mono fun _ _ _ => trivial⟩); obtain ⟨A3, c3, rfl, _, _⟩ := HV3.out; have hs3 : w.heap.size < w3.heap.size := (HC.out w3 hbb).lt; clear hb3 hbb hv3)
     | (go_at_call 71; (with_reducible refine (HDD.out A3 c3 w3 HV3.out).mono ?_); rintro e w4 ⟨A4, c4, rfl, hrow, hb4, hfr⟩; have hbb : Below (w.heap.size + 1) (w.alloc (.cells #[.int .i64 0, .int .i64 0, .slice none 0 0, .pointer none, .string ⟨#[]⟩] 84)) w4 := HB3.out.trans (hb4.mono hs3); have HB4 := Lib.hid hbb; have HROW := Lib.hid hrow; have HFR : Hid (∀ a, A4 = some a → w.heap.size < a.block) := Lib.hid (fun a e => Nat.lt_of_lt_of_le hs3 (hfr a e)); have hs4 := (HC.out w4 hbb).lt; clear hb4 hbb hrow hfr)
     | (go_at_call 30; (with_reducible refine (HHS.out _ _ _ (HROW.out.below ((Below.refl _ _).alloc (Nat.le_refl _) _))).mono ?_); rintro e w5 ⟨rfl, hb5⟩; have hbb : Below (w.heap.size + 1) (w.alloc (.cells #[.int .i64 0, .int .i64 0, .slice none 0 0, .pointer none, .string ⟨#[]⟩] 84)) w5 := (HB4.out.alloc (by omega) _).trans (hb5.mono (by simp; omega)); have HB5 := Lib.hid hbb; have HROW5 := Lib.hid (HROW.out.below (((Below.refl w4.heap.size w4).alloc (Nat.le_refl _) _).trans (hb5.mono (by simp)))); have r0 := (HC.out w5 hbb).cell 0; have r1 := (HC.out w5 hbb).cell 1; have r2 := (HC.out w5 hbb).cell 2; have r3 := (HC.out w5 hbb).cell 3; have r4 := (HC.out w5 hbb).cell 4; have f0 := (HC.out w5 hbb).frozen 0; have f1 := (HC.out w5 hbb).frozen 1; have f2 := (HC.out w5 hbb).frozen 2; have f3 := (HC.out w5 hbb).frozen 3; have f4 := (HC.out w5 hbb).frozen 4; simp only [List.getElem?_toArray, List.getElem?_cons_succ, List.getElem?_cons_zero] at r0 r1 r2 r3 r4; have hs5 := (HC.out w5 hbb).lt; obtain ⟨hc5, hf5⟩ := bcell hb5; have hz5 : w4.heap.size < w5.heap.size := Nat.lt_of_lt_of_le (by simp) hb5.size; clear hb5 hbb)
    refine bodyPost_ret (v := .tuple #[.agg #[.int .i64 ag, .int .i64 xf, .slice A4 l.length c4, .pointer (some ⟨fs, 0, none⟩), .string ⟨n.toArray⟩], .int .i64 0]) (by simp [results, Tryz.results32, go_sem, *]) rfl ⟨A4, c4, some ⟨fs, 0, none⟩, ⟨n.toArray⟩, by rw [HR.out], fun _ => ⟨rfl, rfl⟩, by rw [HR.out]; exact row_set5 HROW5.out HFR.out, fun a e => Nat.le_of_lt (HFR.out a e), below_set5 (lowBox' HB5.out) (Nat.le_refl _)⟩
   ·have HR : Hid (R = (Hd.zero, 2)) := Lib.hid (by rw [HQ2'.out, if_pos (.inr hz)])
    have hzb : (sz == z) = false := by simpa using hz
    clear HQ2'
    go_enter Tryz.func32, Tryz.ntmps32
    go_wp2_with first
     | (go_at_call 69; (with_reducible refine (HSZ.out _ ((Below.refl _ _).alloc (Nat.le_refl _) _)).mono ?_); rintro e w2 ⟨rfl, rfl⟩)
     | (go_at_call 70; (with_reducible refine (HRD.out _ ((Below.refl _ _).alloc (Nat.le_refl _) _)).mono ?_); rintro e w3 ⟨v3, rfl, hv3, hb3⟩; have hbb : Below (w.heap.size + 1) (w.alloc (.cells #[.int .i64 0, .int .i64 0, .slice none 0 0, .pointer none, .string ⟨#[]⟩] 84)) w3 := hb3.mono (by simp); have HB3 := Lib.hid hbb; have HV3 : Hid (Reads w3 v3 L) := Lib.hid (by obtain ⟨A', c', e', h1', _, h3'⟩ := hv3; exact ⟨A', c', e', h1', h3'.mono fun _ _ _ => trivial⟩); obtain ⟨A3, c3, rfl, _, _⟩ := HV3.out; have hs3 : w.heap.size < w3.heap.size := (HC.out w3 hbb).lt; clear hb3 hbb hv3)
     | (go_at_call 71; (with_reducible refine (HDD.out A3 c3 w3 HV3.out).mono ?_); rintro e w4 ⟨A4, c4, rfl, hrow, hb4, hfr⟩; have hbb : Below (w.heap.size + 1) (w.alloc (.cells #[.int .i64 0, .int .i64 0, .slice none 0 0, .pointer none, .string ⟨#[]⟩] 84)) w4 := HB3.out.trans (hb4.mono hs3); have HB4 := Lib.hid hbb; have HROW := Lib.hid hrow; have HFR : Hid (∀ a, A4 = some a → w.heap.size < a.block) := Lib.hid (fun a e => Nat.lt_of_lt_of_le hs3 (hfr a e)); have hs4 := (HC.out w4 hbb).lt; clear hb4 hbb hrow hfr)
     | (go_at_call 30; (with_reducible refine (HHS.out _ _ _ (HROW.out.below ((Below.refl _ _).alloc (Nat.le_refl _) _))).mono ?_); rintro e w5 ⟨rfl, hb5⟩; have hbb : Below (w.heap.size + 1) (w.alloc (.cells #[.int .i64 0, .int .i64 0, .slice none 0 0, .pointer none, .string ⟨#[]⟩] 84)) w5 := (HB4.out.alloc (by omega) _).trans (hb5.mono (by simp; omega)); have HB5 := Lib.hid hbb; have HROW5 := Lib.hid (HROW.out.below (((Below.refl w4.heap.size w4).alloc (Nat.le_refl _) _).trans (hb5.mono (by simp)))); have r0 := (HC.out w5 hbb).cell 0; have r1 := (HC.out w5 hbb).cell 1; have r2 := (HC.out w5 hbb).cell 2; have r3 := (HC.out w5 hbb).cell 3; have r4 := (HC.out w5 hbb).cell 4; have f0 := (HC.out w5 hbb).frozen 0; have f1 := (HC.out w5 hbb).frozen 1; have f2 := (HC.out w5 hbb).frozen 2; have f3 := (HC.out w5 hbb).frozen 3; have f4 := (HC.out w5 hbb).frozen 4; simp only [List.getElem?_toArray, List.getElem?_cons_succ, List.getElem?_cons_zero] at r0 r1 r2 r3 r4; have hs5 := (HC.out w5 hbb).lt; obtain ⟨hc5, hf5⟩ := bcell hb5; have hz5 : w4.heap.size < w5.heap.size := Nat.lt_of_lt_of_le (by simp) hb5.size; clear hb5 hbb)
    refine bodyPost_ret (v := .tuple #[.agg #[.int .i64 0, .int .i64 0, .slice none 0 0, .pointer none, .string ⟨#[]⟩], .int .i64 2]) (by simp [results, Tryz.results32, go_sem, *]) rfl (Opened.zero HR.out (by decide) (below_set5 (lowBox' HB5.out) (Nat.le_refl _)))
 ·have HR : Hid (info S.now n = (Hd.zero, (Vf.size S.now n).2)) := Lib.hid (by unfold info; rw [if_pos he])
  clear ro
  generalize info S.now n = R at *
  generalize Vf.size S.now n = Z at *
  obtain ⟨z, ez⟩ := Z
  have hez : (ez == 0) = false := by simpa using he
  go_enter Tryz.func32, Tryz.ntmps32
  go_wp2_with (go_at_call 69; (with_reducible refine (HSZ.out _ ((Below.refl _ _).alloc (Nat.le_refl _) _)).mono ?_); rintro e w2 ⟨rfl, rfl⟩)
  refine bodyPost_ret (v := .tuple #[.agg #[.int .i64 0, .int .i64 0, .slice none 0 0, .pointer none, .string ⟨#[]⟩], .int .i64 ez]) (by simp [results, Tryz.results32, go_sem]) rfl (Opened.zero HR.out he Bq)
end
section
open Go.RowKit Go.Sort
open Fx (Vl)
open Me
open Wp
theorem isnow_any (now : Int) (w : World) : Calls Tryz.prog 33 #[.int .i64 now] w fun e w' => e = .returned (.bool (decide (1 ≤ now ∧ now ≤ 4294967295))) ∧ w = w' := by
 obtain ⟨b, hb⟩ : ∃ b, b = decide (1 ≤ now ∧ now ≤ 4294967295) := ⟨_, rfl⟩
 rw [← hb]
 by_cases h1 : 1 ≤ now
 ·by_cases h2 : now ≤ 4294967295
  ·have HB : Hid (b = true) := Lib.hid (by rw [hb]; exact decide_eq_true ⟨h1, h2⟩)
   clear hb
   go_enter Tryz.func33, Tryz.ntmps33
   go_wp2_with fail
   go_ret
   exact ⟨by rw [HB.out]; rfl, rfl⟩
  ·have HB : Hid (b = false) := Lib.hid (by rw [hb]; exact decide_eq_false (fun e => h2 e.2))
   clear hb
   go_enter Tryz.func33, Tryz.ntmps33
   go_wp2_with fail
   go_ret
   exact ⟨by rw [HB.out]; rfl, rfl⟩
 ·have HB : Hid (b = false) := Lib.hid (by rw [hb]; exact decide_eq_false (fun e => h1 e.1))
  clear hb
  go_enter Tryz.func33, Tryz.ntmps33
  go_wp2_with fail
  go_ret
  exact ⟨by rw [HB.out]; rfl, rfl⟩
theorem info_of_open {w : World} {fs : Nat} {n : List UInt8} {R : Hd × Int} {f : Value} (HO : Hid (∀ W, Below w.heap.size w W → Calls Tryz.prog 32 #[f, .string ⟨n.toArray⟩] W (Opened W fs n R))) :
 Calls Tryz.prog 15 #[f, .string ⟨n.toArray⟩] w (Informed w R) := by
 obtain ⟨nb, hnb⟩ : ∃ nb : ByteArray, nb = ⟨n.toArray⟩ := ⟨_, rfl⟩
 rw [← hnb] at HO ⊢
 clear hnb
 obtain ⟨⟨ag, xf, l⟩, er⟩ := R
 go_enter Tryz.func15, Tryz.ntmps15
 go_wp2_with (go_at_call 32; (with_reducible refine (HO.out _ ((Below.refl _ _).alloc (Nat.le_refl _) _)).mono ?_); rintro e w2 ⟨A, cap, p, s, rfl, hps, hrow, hfr, hb2⟩; have hbb : Below (w.heap.size + 1) (w.alloc (.cells #[.int .i64 0, .int .i64 0, .slice none 0 0] 24)) w2 := hb2.mono (by simp); have hr := (RowAt.new w #[.int .i64 0, .int .i64 0, .slice none 0 0] 24).below hbb (Nat.lt_succ_self _); have r0 := hr.cell 0; have r1 := hr.cell 1; have r2 := hr.cell 2; have f0 := hr.frozen 0; have f1 := hr.frozen 1; have f2 := hr.frozen 2; have hrl := hr.lt; simp only [List.getElem?_toArray, List.getElem?_cons_succ, List.getElem?_cons_zero] at r0 r1 r2; have HROW := Lib.hid hrow; have HFR := Lib.hid hfr; have HB2 := Lib.hid hbb; clear hb2 hbb hr hrow hfr hps)
 refine bodyPost_ret (v := .tuple #[.agg #[.int .i64 ag, .int .i64 xf, .slice A l.length cap], .int .i64 er]) (by simp [results, Tryz.results15, go_sem, *]) rfl ⟨A, cap, rfl, ?_, ?_, ?_⟩
 ·exact (row_set3 HROW.out (fun x e => by have := HFR.out x e; simp at this; omega)).below ((Below.refl _ _).alloc (Nat.le_refl _) _)
 ·exact fun a e => by have := HFR.out a e; simp at this; omega
 ·exact (below_set3 (lowBox' HB2.out) (Nat.le_refl _)).alloc (by simp [World.setCell]; omega) _
theorem info_any7 {w : World} {V : Nat → Prop} {c fs : Nat} {S : Vf.Sv} (ro : PO w V fs c S) (n : List UInt8) : Calls Tryz.prog 15 #[.pointer (some ⟨fs, 0, none⟩), .string ⟨n.toArray⟩] w (Informed w (info S.now n)) := info_of_open (Lib.hid fun _ hb => open_any (ro.below hb) n)
end
section
open Go.RowKit Go.Shelf
open Me
open Wp
attribute [local go_sem] Oper.semAt_some
namespace Wp
def Boxes (p q : Nat) (W W' : World) : Prop := W'.cell? ⟨p, 0, none⟩ = W.cell? ⟨p, 0, none⟩ ∧ W'.cell? ⟨q, 0, none⟩ = W.cell? ⟨q, 0, none⟩
end Wp
theorem chunk_from (W : World) (b off l m cap : Nat) (hl : l < m) (hm : m ≤ cap) :
 (Instr.slice 45 (.slice (some ⟨b, off, none⟩) m cap) (some (.int .i64 (l : Int))) none none).run Tryz.prog W = .ok (.slice (some ⟨b, off + l, none⟩) (m - l) (cap - l)) W := by
 have h1 : ¬ (m : Int) < (l : Int) := by omega
 have h2 : ¬ m < l := by omega
 have h3 : (0 : Int) ≤ (l : Int) := by omega
 have h4 : ¬ cap = l := by omega
 have h5 : l ≤ m := by omega
 have h6 : (l : Int) ≤ (m : Int) := by omega
 simp [go_sem, *]
theorem chunk_window (W : World) (b off l m cap : Nat) (hl : l + 12 ≤ m) (hm : m ≤ cap) :
 (Instr.slice 45 (.slice (some ⟨b, off, none⟩) m cap) (some (.int .i64 (l : Int))) (some (.int .i64 ((l : Int) + 12))) (some (.int .i64 ((l : Int) + 12)))).run Tryz.prog W = .ok (.slice (some ⟨b, off + l, none⟩) 12 12) W := by
 have h1 : (l : Int) ≤ (l : Int) + 12 := by omega
 have h2 : (l : Int) + 12 ≤ (cap : Int) := by omega
 have h3 : (0 : Int) ≤ (l : Int) := by omega
 have h4 : (0 : Int) ≤ (l : Int) + 12 := by omega
 have h5 : ((l : Int) + 12).toNat = l + 12 := by omega
 have h6 : ¬ l + 12 = l := by omega
 simp [go_sem, *]
theorem chunk_in (n : Nat) (hn : 1 ≤ n) (l p q b off N cap : Nat) (A : Option Addr) (hA : 0 < N → A = some ⟨b, off, none⟩) (hcap : 12 * N ≤ cap) (hN : N ≤ 1000000) (J Jx : List (Fin N) → World → Prop) (w0 : Nat) (hJa : AbidesFrom w0 J)
 (hY : ∀ pre (x : Fin N) W, J pre W → pre.length < N → YieldAt Fence.wide (n - 1) Tryz.prog l #[.slice (some ⟨b, off + 12 * x.1, none⟩) 12 12] W fun e W' =>
  (e = .returned (.bool true) ∧ J (pre ++ [x]) W' ∧ Boxes p q W W') ∨ (e = .returned (.bool false) ∧ Jx (pre ++ [x]) W'))
 (W : World) (hp : W.cell? ⟨p, 0, none⟩ = some (.slice A (12 * N) cap)) (hq : W.cell? ⟨q, 0, none⟩ = some (.int .i64 12)) (h0 : J [] W) :
 CallsIn Fence.wide n Tryz.prog 127 #[.func (.yield l) #[] #[], .pointer (some ⟨p, 0, none⟩), .pointer (some ⟨q, 0, none⟩)] W fun e W' => (∃ v, e = .returned v) ∧
  ((∃ ys, ys = List.finRange N ∧ J ys W') ∨ (∃ pre, True ∧ Jx pre W')) := by
 refine callsIn_of_wp Tryz.func127 rfl trivial ?_ rfl
 simp only [Tryz.ntmps127, List.size_toArray, List.length_cons, List.length_nil, Nat.reduceAdd, Nat.reduceSub, Array.replicate_succ, Array.replicate_zero, List.push_toArray, List.append_toArray, List.nil_append, List.cons_append]
 gi_wp2
 gi_loopw [4, 5] (fun i _ wr => ∃ k : Nat, k ≤ N ∧ i = .int .i64 ((12 * k : Nat) : Int) ∧ J ((List.finRange N).take k) wr ∧ Boxes p q W wr)
  (fun i _ _ => 12 * N - (intOf i).toNat)
 case atStart => exact ⟨0, Nat.zero_le _, rfl, h0, rfl, rfl⟩
 case round =>
  obtain ⟨k, hk, rfl, hJ, hb1, hb2⟩ := hrel
  have HB : Hid (Boxes p q W wr) := Lib.hid ⟨hb1, hb2⟩
  have hp' : wr.cell? ⟨p, 0, none⟩ = some (.slice A (12 * N) cap) := hb1.trans hp
  have hq' : wr.cell? ⟨q, 0, none⟩ = some (.int .i64 12) := hb2.trans hq
  clear hb1 hb2
  by_cases hlt : k < N
  ·obtain rfl := hA (by omega)
   have hi1 : ((12 * k : Nat) : Int) < ((12 * N : Nat) : Int) := by omega
   obtain ⟨L, hL⟩ : ∃ L, L = 12 * k := ⟨_, rfl⟩
   obtain ⟨M, hM⟩ : ∃ M, M = 12 * N := ⟨_, rfl⟩
   have hsl := chunk_from wr b off L M cap (by omega) (by omega)
   have hlm : L + 12 ≤ M := by omega
   have hmin : min (12 : Int) ((M - L : Nat) : Int) = 12 := by omega
   have hw1 : IntKind.i64.wrap ((L : Int) + 12) = (L : Int) + 12 := IntWalk.i64_in _ (by omega)
   rw [← hM] at hp' hi1
   rw [← hL] at hi1 ⊢
   have HL := Lib.hid hL
   have HM := Lib.hid hM
   clear hL hM hp hq
   gi_wp2
   refine wpIn_wide.2 ?_
   go_quiet (fail)
   obtain ⟨wd, hwd⟩ : ∃ wd, wd = wr.drewN nq := ⟨_, rfl⟩
   have hJd : J ((List.finRange N).take k) wd := by rw [hwd]; exact hJa _ _ _ none hJ ⟨rfl, rfl, rfl, Nat.le_refl _, fun _ _ _ => rfl⟩ (fun r e => by cases e)
   obtain ⟨fn, tmps, assign, body, hy, hR⟩ := hY _ ⟨k, hlt⟩ wd hJd (by rw [List.length_take, List.length_finRange]; omega)
   dsimp only at hy
   rw [← HL.out] at hy
   have hsw := chunk_window wd b off L M cap (by omega) (by have := HM.out; omega)
   have hpd : wd.cell? ⟨p, 0, none⟩ = some (.slice (some ⟨b, off, none⟩) M cap) := by rw [hwd]; exact hp'
   have HBD : Hid (Boxes p q W wd) := Lib.hid (by rw [hwd]; exact HB.out)
   have hqd : wd.cell? ⟨q, 0, none⟩ = some (.int .i64 12) := by rw [hwd]; exact hq'
   have hcl : ¬ cap = L := by have := HM.out; omega
   have hlb : (0 : Int) ≤ (L : Int) + 12 := by omega
   have hub : (L : Int) + 12 ≤ (cap : Int) := by have := HM.out; omega
   have hbb : (0 : Int) ≤ (L : Int) + 12 ∧ (L : Int) + 12 ≤ (cap : Int) := ⟨hlb, hub⟩
   rw [← hwd]
   clear hp' hq' hwd hsl
   gi_wp2
   refine hR.mono ?_
   rintro e W3 (⟨rfl, hJ3, hk3⟩ | ⟨rfl, hJx3⟩)
   ·have hp3 : W3.cell? ⟨p, 0, none⟩ = some (.slice (some ⟨b, off, none⟩) M cap) := hk3.1.trans hpd
    have hq3 : W3.cell? ⟨q, 0, none⟩ = some (.int .i64 12) := hk3.2.trans hqd
    have HB3 : Hid (Boxes p q W W3) := Lib.hid ⟨hk3.1.trans HBD.out.1, hk3.2.trans HBD.out.2⟩
    clear hk3 hpd hqd
    gi_wp2
    go_roundw
    case rel => exact ⟨k + 1, by omega, by have h1 := HL.out; congr 1; omega, by rw [List.take_succ_eq_append_getElem (by rw [List.length_finRange]; exact hlt), List.getElem_finRange]; exact hJ3, HB3.out.1, HB3.out.2⟩
    case measure =>
     have h1 := HL.out
     simp only [intOf]
     have h2 := HM.out
     omega
   ·gi_wp2
    refine bodyPost_ret (results_none rfl _ _ _) rfl ?_
    exact ⟨⟨_, rfl⟩, .inr ⟨_, trivial, hJx3⟩⟩
  ·obtain rfl : k = N := by omega
   gi_wp2
   go_end0
   exact ⟨⟨_, rfl⟩, .inl ⟨_, by rw [List.take_of_length_le (by simp)], hJ⟩⟩
end
end Go.Proofs.YtljlanhpjpjgaaaGreatDoor
