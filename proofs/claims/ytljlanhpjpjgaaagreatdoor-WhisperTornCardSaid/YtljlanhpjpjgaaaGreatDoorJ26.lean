/- WpDec WpInf WpUp WpFe WqTm -/
import Derived.Test.YtljlanhpjpjgaaaGreatDoorJ1
import Derived.Test.YtljlanhpjpjgaaaGreatDoorJ25
import Derived.Test.YtljlanhpjpjgaaaGreatDoorJ9
import Derived.Test.YtljlanhpjpjgaaaGreatDoorJ14
import Derived.Test.YtljlanhpjpjgaaaGreatDoorJ22
import Derived.Test.YtljlanhpjpjgaaaGreatDoorJ15
namespace Go.Proofs.YtljlanhpjpjgaaaGreatDoor
set_option maxRecDepth 100000
set_option maxHeartbeats 8000000
section
open Go.RowKit
open Me
theorem rdecode_anyF (A : Option Addr) (L : List UInt8) (cap : Nat) (w : World) (h : Reads w (.slice A L.length cap) L) : Calls Tryz.prog 52 #[.slice A L.length cap] w (DecodedF w L) := by
 by_cases h16 : L.length < 16
 ·exact rdecode_short A L cap w h16
 ·obtain ⟨A', c', e, hc, hr⟩ := h
  injection e with e1 e2 e3
  subst e1 e3
  obtain ⟨b, off, rfl, hb⟩ := By.of hr (by omega)
  exact rdecode_long L b off cap w hb hc (by omega)
end
section
open Go.RowKit Go.Sort
open Fx (Vl)
open Me
open Wp
def Wp.Informed (w : World) (R : Hd × Int) (e : Ending) (w' : World) : Prop :=
 ∃ A cap, e = .returned (.tuple #[.agg #[.int .i64 R.1.ag, .int .i64 R.1.xf, .slice A R.1.l.length cap], .int .i64 R.2]) ∧ Row w' A R.1.l cap ∧ (∀ a, A = some a → w.heap.size ≤ a.block) ∧ Below w.heap.size w w'
theorem Wp.Informed.zero {w w' : World} {R : Hd × Int} {k : Int} (hR : R = (Hd.zero, k)) (hb : Below w.heap.size w w') : Informed w R (.returned (.tuple #[.agg #[.int .i64 0, .int .i64 0, .slice none 0 0], .int .i64 k])) w' := by
 subst hR
 exact ⟨none, 0, rfl, ⟨Nat.le_refl _, fun h => (by cases h)⟩, fun a e => (by cases e), hb⟩
theorem below_set3 {B g : Nat} {w W : World} {a b c : Value} (h : Below B w W) (hg : B ≤ g) : Below B w (((W.setCell ⟨g, 0, none⟩ a).setCell ⟨g, 1, none⟩ b).setCell ⟨g, 2, none⟩ c) :=
 Below.setCell (Below.setCell (Below.setCell h hg _) hg _) hg _
theorem row_set3 {g : Nat} {W : World} {a b c : Value} {A : Option Addr} {l : List (Int × Int)} {cap : Nat} (h : Row W A l cap) (hg : ∀ x, A = some x → g < x.block) : Row (((W.setCell ⟨g, 0, none⟩ a).setCell ⟨g, 1, none⟩ b).setCell ⟨g, 2, none⟩ c) A l cap := by
 refine ⟨h.1, fun h0 => ?_⟩
 obtain ⟨bb, off, e, ha⟩ := h.2 h0
 have hlt := hg _ e
 have hne : bb ≠ g := fun e => by subst e; exact Nat.lt_irrefl _ hlt
 have hk : (((W.setCell ⟨g, 0, none⟩ a).setCell ⟨g, 1, none⟩ b).setCell ⟨g, 2, none⟩ c).heap[bb]? = W.heap[bb]? := (Below.heap_setCell _ _ _ _ hne).trans ((Below.heap_setCell _ _ _ _ hne).trans (Below.heap_setCell _ _ _ _ hne))
 exact ⟨bb, off, e, by simpa [World.setCell] using ha.lt, fun i hi => (World.cell?_of_block hk).trans (ha.st i hi), fun i hi => (World.cell?_of_block hk).trans (ha.ct i hi)⟩
theorem rinfo_any {w : World} {V : Nat → Prop} {c fs : Nat} {S : Vf.Sv} (ro : RO w V fs c S) (hc : c ≤ 1000000) (n : List UInt8) :
 Calls Tryz.prog 25 #[.pointer (some ⟨fs, 0, none⟩), .string ⟨n.toArray⟩] w (Informed w (info S.now n)) := by
 have HSZ : Hid (∀ W, Below w.heap.size w W → Calls Tryz.prog 12 #[.pointer (some ⟨fs, 0, none⟩), .string ⟨n.toArray⟩] W fun e w' => e = .returned (.tuple #[.int .i64 (Vf.size S.now n).1, .int .i64 (Vf.size S.now n).2]) ∧ W = w') := Lib.hid fun W hb => rosize (ro.below hb) hc n
 have HRD : Hid (∀ W, Below w.heap.size w W → Calls Tryz.prog 13 #[.pointer (some ⟨fs, 0, none⟩), .string ⟨n.toArray⟩, .int .i64 0, .int .i64 (Vf.size S.now n).1] W (Vf.Handed W (Vf.read S.now n 0 (Vf.size S.now n).1))) := Lib.hid fun W hb => roread (ro.below hb) hc n _ _
 have HQ : Hid (info S.now n = if (Vf.size S.now n).2 ≠ 0 then (Hd.zero, (Vf.size S.now n).2) else if Wh.derr (Vf.read S.now n 0 (Vf.size S.now n).1).1 ≠ 0 ∨ (hdOf (Vf.read S.now n 0 (Vf.size S.now n).1).1).size ≠ (Vf.size S.now n).1 then (Hd.zero, 2) else (hdOf (Vf.read S.now n 0 (Vf.size S.now n).1).1, 0)) := Lib.hid rfl
 have HC : Hid (∀ W, Below (w.heap.size + 1) (w.alloc (.cells #[.int .i64 0, .int .i64 0, .slice none 0 0] 24)) W → (W.cell? ⟨w.heap.size, 0, none⟩ = some (.int .i64 0) ∧ W.cell? ⟨w.heap.size, 1, none⟩ = some (.int .i64 0) ∧ W.cell? ⟨w.heap.size, 2, none⟩ = some (.slice none 0 0)) ∧ (W.frozen? ⟨w.heap.size, 0, none⟩ = false ∧ W.frozen? ⟨w.heap.size, 1, none⟩ = false ∧ W.frozen? ⟨w.heap.size, 2, none⟩ = false) ∧ w.heap.size < W.heap.size) := Lib.hid fun W hb =>
  ⟨⟨(hb.cell (p := ⟨w.heap.size, 0, none⟩) (Nat.lt_succ_self _)).trans (by simp [go_sem]), (hb.cell (p := ⟨w.heap.size, 1, none⟩) (Nat.lt_succ_self _)).trans (by simp [go_sem]), (hb.cell (p := ⟨w.heap.size, 2, none⟩) (Nat.lt_succ_self _)).trans (by simp [go_sem])⟩,
    ⟨(hb.frozen (p := ⟨w.heap.size, 0, none⟩) (Nat.lt_succ_self _)).trans (by simp [go_sem]), (hb.frozen (p := ⟨w.heap.size, 1, none⟩) (Nat.lt_succ_self _)).trans (by simp [go_sem]), (hb.frozen (p := ⟨w.heap.size, 2, none⟩) (Nat.lt_succ_self _)).trans (by simp [go_sem])⟩, Nat.lt_of_lt_of_le (by simp) hb.size⟩
 clear ro
 generalize info S.now n = R at *
 generalize Vf.size S.now n = Z at *
 obtain ⟨z, ez⟩ := Z
 generalize Vf.read S.now n 0 z = RR at *
 obtain ⟨L, er⟩ := RR
 have HQ' : Hid (R = if ez ≠ 0 then (Hd.zero, ez) else if Wh.derr L ≠ 0 ∨ (hdOf L).size ≠ z then (Hd.zero, 2) else (hdOf L, 0)) := HQ
 clear HQ
 by_cases he : ez = 0
 ·subst he
  have HQ2 : Hid (R = if Wh.derr L ≠ 0 ∨ (hdOf L).size ≠ z then (Hd.zero, 2) else (hdOf L, 0)) := Lib.hid (by rw [HQ'.out, if_neg (by simp)])
  clear HQ'
  cases hd : Wh.dok L
  ·obtain ⟨e1, e2, e3, e4⟩ := Wh.dok_f hd
   have HR : Hid (R = (Hd.zero, 2)) := Lib.hid (by rw [HQ2.out, if_pos (.inl (by rw [e4]; decide))])
   have HDD := Lib.hid (rdecode_anyF (L := L))
   unfold DecodedF at HDD
   rw [e1, e2, e3, e4] at HDD
   clear HQ2 e1 e2 e3 e4 hd
   go_enter Tryz.func25, Tryz.ntmps25
   go_wp2_with first
    | (go_at_call 12; (with_reducible refine (HSZ.out _ ((Below.refl _ _).alloc (Nat.le_refl _) _)).mono ?_); rintro e w2 ⟨rfl, rfl⟩)
    | (go_at_call 13; (with_reducible refine (HRD.out _ ((Below.refl _ _).alloc (Nat.le_refl _) _)).mono ?_); rintro e w3 ⟨v3, rfl, hv3, hb3⟩; have hbb : Below (w.heap.size + 1) (w.alloc (.cells #[.int .i64 0, .int .i64 0, .slice none 0 0] 24)) w3 := hb3.mono (by simp); have HB3 := Lib.hid hbb; have HV3 : Hid (Reads w3 v3 L) := Lib.hid (by obtain ⟨A', c', e', h1', _, h3'⟩ := hv3; exact ⟨A', c', e', h1', h3'.mono fun _ _ _ => trivial⟩); obtain ⟨A3, c3, rfl, _, _⟩ := HV3.out; have hs3 : w.heap.size < w3.heap.size := (HC.out w3 hbb).2.2; clear hb3 hbb hv3)
    | (go_at_call 52; (with_reducible refine (HDD.out A3 c3 w3 HV3.out).mono ?_); rintro e w4 ⟨A4, c4, rfl, hrow, hb4, hfr⟩; have hbb : Below (w.heap.size + 1) (w.alloc (.cells #[.int .i64 0, .int .i64 0, .slice none 0 0] 24)) w4 := HB3.out.trans (hb4.mono hs3); have HB4 := Lib.hid hbb; have HROW := Lib.hid hrow; have HFR : Hid (∀ a, A4 = some a → w.heap.size < a.block) := Lib.hid (fun a e => Nat.lt_of_lt_of_le hs3 (hfr a e)); obtain ⟨⟨r0, r1, r2⟩, ⟨f0, f1, f2⟩, hs4⟩ := HC.out w4 hbb; have HLB := Lib.hid (lowBox' hbb); clear hb4 hbb hrow hfr)
   refine bodyPost_ret (v := .tuple #[.agg #[.int .i64 0, .int .i64 0, .slice none 0 0], .int .i64 2]) (by simp [results, Tryz.results25, go_sem, *]) rfl (Informed.zero HR.out ((below_set3 HLB.out (Nat.le_refl _)).alloc (by simp [World.setCell]; omega) _))
  ·obtain ⟨_, _, _, e4⟩ := Wh.dok_t hd
   have HDD := Lib.hid (rdecode_anyF (L := L))
   unfold DecodedF at HDD
   rw [e4] at HDD HQ2
   have HHS : Hid (∀ A4 c4 W, Row W A4 (Wh.dl L) c4 → Calls Tryz.prog 21 #[.agg #[.int .i64 (Wh.dag L), .int .i64 (Wh.dxf L), .slice A4 (Wh.dl L).length c4]] W fun e w' => e = .returned (.int .i64 (hdOf L).size) ∧ Below W.heap.size W w') := Lib.hid fun A4 c4 W h => rsize_any _ _ _ A4 c4 W h
   clear e4 hd
   obtain ⟨sz, hsz⟩ : ∃ sz, Hid (sz = (hdOf L).size) := ⟨_, Lib.hid rfl⟩
   rw [← hsz.out] at HHS HQ2
   obtain ⟨H, hH⟩ : ∃ H, Hid (H = hdOf L) := ⟨_, Lib.hid rfl⟩
   rw [← hH.out] at HQ2
   have e5 : Wh.dag L = H.ag := by rw [hH.out]; rfl
   have e6 : Wh.dxf L = H.xf := by rw [hH.out]; rfl
   have e7 : Wh.dl L = H.l := by rw [hH.out]; rfl
   rw [e5, e6, e7] at HDD HHS
   clear e5 e6 e7 hH hsz
   obtain ⟨ag, xf, l⟩ := H
   simp only at HDD HHS
   by_cases hz : sz = z
   ·have HR : Hid (R = (⟨ag, xf, l⟩, 0)) := Lib.hid (by rw [HQ2.out, if_neg (by rintro (e | e); exact e rfl; exact e hz)])
    have hzb : (sz == z) = true := by simpa using hz
    subst hz
    clear HQ2
    go_enter Tryz.func25, Tryz.ntmps25
    go_wp2_with first
     | (go_at_call 12; (with_reducible refine (HSZ.out _ ((Below.refl _ _).alloc (Nat.le_refl _) _)).mono ?_); rintro e w2 ⟨rfl, rfl⟩)
     | (go_at_call 13; (with_reducible refine (HRD.out _ ((Below.refl _ _).alloc (Nat.le_refl _) _)).mono ?_); rintro e w3 ⟨v3, rfl, hv3, hb3⟩; have hbb : Below (w.heap.size + 1) (w.alloc (.cells #[.int .i64 0, .int .i64 0, .slice none 0 0] 24)) w3 := hb3.mono (by simp); have HB3 := Lib.hid hbb; have HV3 : Hid (Reads w3 v3 L) := Lib.hid (by obtain ⟨A', c', e', h1', _, h3'⟩ := hv3; exact ⟨A', c', e', h1', h3'.mono fun _ _ _ => trivial⟩); obtain ⟨A3, c3, rfl, _, _⟩ := HV3.out; have hs3 : w.heap.size < w3.heap.size := (HC.out w3 hbb).2.2; clear hb3 hbb hv3)
     | (go_at_call 52; (with_reducible refine (HDD.out A3 c3 w3 HV3.out).mono ?_); rintro e w4 ⟨A4, c4, rfl, hrow, hb4, hfr⟩; have hbb : Below (w.heap.size + 1) (w.alloc (.cells #[.int .i64 0, .int .i64 0, .slice none 0 0] 24)) w4 := HB3.out.trans (hb4.mono hs3); have HB4 := Lib.hid hbb; have HROW := Lib.hid hrow; have HFR : Hid (∀ a, A4 = some a → w.heap.size < a.block) := Lib.hid (fun a e => Nat.lt_of_lt_of_le hs3 (hfr a e)); obtain ⟨⟨r0, r1, r2⟩, ⟨f0, f1, f2⟩, hs4⟩ := HC.out w4 hbb; have HLB := Lib.hid (lowBox' hbb); clear hb4 hbb hrow hfr)
     | (go_at_call 21; (with_reducible refine (HHS.out _ _ _ (HROW.out.below ((Below.refl _ _).alloc (Nat.le_refl _) _))).mono ?_); rintro e w5 ⟨rfl, hb5⟩; have hbb : Below (w.heap.size + 1) (w.alloc (.cells #[.int .i64 0, .int .i64 0, .slice none 0 0] 24)) w5 := (HB4.out.alloc (by omega) _).trans (hb5.mono (by simp; omega)); have HB5 := Lib.hid hbb; have HROW5 := Lib.hid (HROW.out.below (((Below.refl w4.heap.size w4).alloc (Nat.le_refl _) _).trans (hb5.mono (by simp)))); obtain ⟨⟨q0, q1, q2⟩, ⟨g0, g1, g2⟩, hs5⟩ := HC.out w5 hbb; obtain ⟨hc5, hf5⟩ := bcell hb5; have hz5 : w4.heap.size < w5.heap.size := Nat.lt_of_lt_of_le (by simp) hb5.size; clear hb5 hbb)
    refine bodyPost_ret (v := .tuple #[.agg #[.int .i64 ag, .int .i64 xf, .slice A4 l.length c4], .int .i64 0]) (by simp [results, Tryz.results25, go_sem, *]) rfl ⟨A4, c4, by rw [HR.out], by rw [HR.out]; exact row_set3 HROW5.out HFR.out, fun a e => Nat.le_of_lt (HFR.out a e), below_set3 (lowBox' HB5.out) (Nat.le_refl _)⟩
   ·have HR : Hid (R = (Hd.zero, 2)) := Lib.hid (by rw [HQ2.out, if_pos (.inr hz)])
    have hzb : (sz == z) = false := by simpa using hz
    clear HQ2
    go_enter Tryz.func25, Tryz.ntmps25
    go_wp2_with first
     | (go_at_call 12; (with_reducible refine (HSZ.out _ ((Below.refl _ _).alloc (Nat.le_refl _) _)).mono ?_); rintro e w2 ⟨rfl, rfl⟩)
     | (go_at_call 13; (with_reducible refine (HRD.out _ ((Below.refl _ _).alloc (Nat.le_refl _) _)).mono ?_); rintro e w3 ⟨v3, rfl, hv3, hb3⟩; have hbb : Below (w.heap.size + 1) (w.alloc (.cells #[.int .i64 0, .int .i64 0, .slice none 0 0] 24)) w3 := hb3.mono (by simp); have HB3 := Lib.hid hbb; have HV3 : Hid (Reads w3 v3 L) := Lib.hid (by obtain ⟨A', c', e', h1', _, h3'⟩ := hv3; exact ⟨A', c', e', h1', h3'.mono fun _ _ _ => trivial⟩); obtain ⟨A3, c3, rfl, _, _⟩ := HV3.out; have hs3 : w.heap.size < w3.heap.size := (HC.out w3 hbb).2.2; clear hb3 hbb hv3)
     | (go_at_call 52; (with_reducible refine (HDD.out A3 c3 w3 HV3.out).mono ?_); rintro e w4 ⟨A4, c4, rfl, hrow, hb4, hfr⟩; have hbb : Below (w.heap.size + 1) (w.alloc (.cells #[.int .i64 0, .int .i64 0, .slice none 0 0] 24)) w4 := HB3.out.trans (hb4.mono hs3); have HB4 := Lib.hid hbb; have HROW := Lib.hid hrow; have HFR : Hid (∀ a, A4 = some a → w.heap.size < a.block) := Lib.hid (fun a e => Nat.lt_of_lt_of_le hs3 (hfr a e)); obtain ⟨⟨r0, r1, r2⟩, ⟨f0, f1, f2⟩, hs4⟩ := HC.out w4 hbb; have HLB := Lib.hid (lowBox' hbb); clear hb4 hbb hrow hfr)
     | (go_at_call 21; (with_reducible refine (HHS.out _ _ _ (HROW.out.below ((Below.refl _ _).alloc (Nat.le_refl _) _))).mono ?_); rintro e w5 ⟨rfl, hb5⟩; have hbb : Below (w.heap.size + 1) (w.alloc (.cells #[.int .i64 0, .int .i64 0, .slice none 0 0] 24)) w5 := (HB4.out.alloc (by omega) _).trans (hb5.mono (by simp; omega)); have HB5 := Lib.hid hbb; have HROW5 := Lib.hid (HROW.out.below (((Below.refl w4.heap.size w4).alloc (Nat.le_refl _) _).trans (hb5.mono (by simp)))); obtain ⟨⟨q0, q1, q2⟩, ⟨g0, g1, g2⟩, hs5⟩ := HC.out w5 hbb; obtain ⟨hc5, hf5⟩ := bcell hb5; have hz5 : w4.heap.size < w5.heap.size := Nat.lt_of_lt_of_le (by simp) hb5.size; clear hb5 hbb)
    refine bodyPost_ret (v := .tuple #[.agg #[.int .i64 0, .int .i64 0, .slice none 0 0], .int .i64 2]) (by simp [results, Tryz.results25, go_sem, *]) rfl (Informed.zero HR.out (below_set3 (lowBox' HB5.out) (Nat.le_refl _)))
 ·have HR : Hid (R = (Hd.zero, ez)) := Lib.hid (by rw [HQ'.out, if_pos he])
  have hez : (ez == 0) = false := by simpa using he
  clear HQ'
  go_enter Tryz.func25, Tryz.ntmps25
  go_wp2_with (go_at_call 12; (with_reducible refine (HSZ.out _ ((Below.refl _ _).alloc (Nat.le_refl _) _)).mono ?_); rintro e w2 ⟨rfl, rfl⟩)
  refine bodyPost_ret (v := .tuple #[.agg #[.int .i64 0, .int .i64 0, .slice none 0 0], .int .i64 ez]) (by simp [results, Tryz.results25, go_sem]) rfl (Informed.zero HR.out Bq)
end
section
open Go.RowKit Go.Sort
open Fx (Vl)
open Me
open Wp
namespace Wp
theorem info_val {fs : List Vf.Fl} {n : List UInt8} (h : (info fs n).2 = 0) : (info fs n).1.val = true := by
 unfold info at h ⊢
 split at h
 ·rename_i hh; exact absurd h hh
 ·rename_i hh
  rw [if_neg hh]
  dsimp only at h ⊢
  split at h
  ·cases h
  ·rename_i h2
   rw [if_neg h2]
   cases hd : Wh.dok (Vf.read fs n 0 (Vf.size fs n).1).1
   ·exfalso
    apply h2
    left
    rw [(Wh.dok_f hd).2.2.2]; decide
   ·obtain ⟨e1, e2, e3, _⟩ := Wh.dok_t hd
    unfold Hd.val hdOf
    dsimp only
    rw [e1, e2, e3]
    unfold Wh.dok at hd
    simp only [Bool.and_eq_true] at hd
    exact hd.1.2
theorem layAll_step {n : List UInt8} {h : Hd} {now : Int} {l : List (Int × Int)} {i : Nat} (hi : i < l.length) {S : Vf.Sv} {k : Int} :
 layAll n h now (l.drop i) S k = layAll n h now (l.drop (i + 1)) (lays S n h now l[i]).1 (if (lays S n h now l[i]).2 = true then k + 1 else k) := by
 rw [List.drop_eq_getElem_cons hi]
 conv => lhs; unfold layAll
theorem update_err {S : Vf.Sv} {n : List UInt8} {now : Int} {l : List (Int × Int)} (h : (info S.now n).2 ≠ 0) : update S n now l = (S, 0, (info S.now n).2) := by unfold update; dsimp only; rw [if_pos h]
theorem update_now {S : Vf.Sv} {n : List UInt8} {now : Int} {l : List (Int × Int)} (h : (info S.now n).2 = 0) (ht : now < 1 ∨ 4294967295 < now) : update S n now l = (S, 0, 1) := by
 unfold update; dsimp only; rw [if_neg (by rw [h]; simp), if_pos (by unfold time; simp; omega)]
theorem update_yes {S : Vf.Sv} {n : List UInt8} {now : Int} {l : List (Int × Int)} (h : (info S.now n).2 = 0) (h1 : 1 ≤ now) (h2 : now ≤ 4294967295) : update S n now l = ({ (layAll n (info S.now n).1 now l S 0).1 with was := (layAll n (info S.now n).1 now l S 0).1.now, l := [] }, (layAll n (info S.now n).1 now l S 0).2, 0) := by
 unfold update; dsimp only; rw [if_neg (by rw [h]; simp), if_neg (by unfold time; simp; omega)]
end Wp
theorem rupdate_any {w : World} {V : Nat → Prop} {c fs : Nat} {S : Vf.Sv} (ro : RO w V fs c S) (n : List UInt8) (now : Int) (l : List (Int × Int)) (Ap : Option Addr) (capp : Nat) (hp : Row w Ap l capp) (hVp : 0 < l.length → ∀ a, Ap = some a → V a.block) (hc : c + 27 * l.length ≤ 999900) :
 Calls Tryz.prog 7 #[.pointer (some ⟨fs, 0, none⟩), .string ⟨n.toArray⟩, .int .i64 now, .slice Ap l.length capp] w fun e w' => e = .returned (.tuple #[.int .i64 (update S n now l).2.1, .int .i64 (update S n now l).2.2]) ∧ RO w' V fs (c + 27 * l.length) (update S n now l).1 ∧ Kp (fun b => ¬ V b) w w' := by
 have HIN : Hid (∀ W, Below w.heap.size w W → Calls Tryz.prog 25 #[.pointer (some ⟨fs, 0, none⟩), .string ⟨n.toArray⟩] W (Informed W (info S.now n))) := Lib.hid fun W hb => rinfo_any (ro.below hb) (by omega) n
 have HRO := Lib.hid ro
 have HP := Lib.hid hp
 have HE1 := Lib.hid (update_err (S := S) (n := n) (now := now) (l := l))
 have HE2 := Lib.hid (update_now (S := S) (n := n) (now := now) (l := l))
 have HE3 := Lib.hid (update_yes (S := S) (n := n) (now := now) (l := l))
 have HVL := Lib.hid (info_val (fs := S.now) (n := n))
 clear ro hp
 generalize info S.now n = R at *
 generalize update S n now l = Q at *
 obtain ⟨⟨ag, xf, hl⟩, er⟩ := R
 by_cases he : er = 0
 ·subst he
  have hv := HVL.out rfl
  have hlen := Hd.len hv
  by_cases ht : now < 1 ∨ 4294967295 < now
  ·have HQ := Lib.hid (HE2.out rfl ht)
   clear HE1 HE2 HE3 HVL
   by_cases ht1 : now < 1
   ·clear ht
    go_enter Tryz.func7, Tryz.ntmps7
    go_wp2_with (go_at_call 25; (with_reducible refine (HIN.out _ (Below.refl _ _)).mono ?_); rintro e w1 ⟨A1, c1, rfl, hrow, hfr, hb1⟩; have HB1 := Lib.hid hb1; clear hb1 hrow hfr)
    ((try simp only [Exit.inBlock, Exit.then]); refine bodyPost_ret (results_tmp2 rfl _ _ _) rfl ?_)
    exact ⟨by rw [HQ.out]; rfl, by rw [HQ.out]; exact ((HRO.out.below HB1.out).below ((Below.refl _ _).alloc (Nat.le_refl _) _)).more (by omega) (fun _ h => h), Kp.of_below (HB1.out.alloc HB1.out.size _)⟩
   ·have ht2 : 4294967295 < now := by omega
    clear ht
    go_enter Tryz.func7, Tryz.ntmps7
    go_wp2_with (go_at_call 25; (with_reducible refine (HIN.out _ (Below.refl _ _)).mono ?_); rintro e w1 ⟨A1, c1, rfl, hrow, hfr, hb1⟩; have HB1 := Lib.hid hb1; clear hb1 hrow hfr)
    ((try simp only [Exit.inBlock, Exit.then]); refine bodyPost_ret (results_tmp2 rfl _ _ _) rfl ?_)
    exact ⟨by rw [HQ.out]; rfl, by rw [HQ.out]; exact ((HRO.out.below HB1.out).below ((Below.refl _ _).alloc (Nat.le_refl _) _)).more (by omega) (fun _ h => h), Kp.of_below (HB1.out.alloc HB1.out.size _)⟩
  ·have hn1 : 1 ≤ now := by omega
   have hn2 : now ≤ 4294967295 := by omega
   have HQ := Lib.hid (HE3.out rfl hn1 hn2)
   clear HE1 HE2 HE3 HVL ht
   go_enter Tryz.func7, Tryz.ntmps7
   go_wp2_with (go_at_call 25; (with_reducible refine (HIN.out _ (Below.refl _ _)).mono ?_); rintro e w1 ⟨A1, c1, rfl, hrow, hfr, hb1⟩; have HB1 := Lib.hid hb1; have HROW := Lib.hid hrow; have HFR := Lib.hid hfr; have hs1 := hb1.size; clear hb1 hrow hfr)
   have hX : Below w.heap.size w ((w1.alloc (.cells #[.int .i64 ag, .int .i64 xf, .slice A1 hl.length c1] 24)).alloc (.cells #[.pointer (some ⟨fs, 0, none⟩), .string ⟨n.toArray⟩, .int .i64 ag, .int .i64 xf, .slice A1 hl.length c1] 70)) := (HB1.out.alloc hs1 _).alloc (by simp; omega) _
   have hXs : ((w1.alloc (.cells #[.int .i64 ag, .int .i64 xf, .slice A1 hl.length c1] 24)).alloc (.cells #[.pointer (some ⟨fs, 0, none⟩), .string ⟨n.toArray⟩, .int .i64 ag, .int .i64 xf, .slice A1 hl.length c1] 70)).heap.size = w1.heap.size + 2 := by simp
   have hrx : RowAt ((w1.alloc (.cells #[.int .i64 ag, .int .i64 xf, .slice A1 hl.length c1] 24)).alloc (.cells #[.pointer (some ⟨fs, 0, none⟩), .string ⟨n.toArray⟩, .int .i64 ag, .int .i64 xf, .slice A1 hl.length c1] 70)) (w1.heap.size + 1) 70 #[.pointer (some ⟨fs, 0, none⟩), .string ⟨n.toArray⟩, .int .i64 ag, .int .i64 xf, .slice A1 hl.length c1] := by
    rw [show w1.heap.size + 1 = (w1.alloc (.cells #[.int .i64 ag, .int .i64 xf, .slice A1 hl.length c1] 24)).heap.size by simp]
    exact RowAt.new _ _ _
   have hra : Row ((w1.alloc (.cells #[.int .i64 ag, .int .i64 xf, .slice A1 hl.length c1] 24)).alloc (.cells #[.pointer (some ⟨fs, 0, none⟩), .string ⟨n.toArray⟩, .int .i64 ag, .int .i64 xf, .slice A1 hl.length c1] 70)) A1 hl c1 := HROW.out.below (((Below.refl _ _).alloc (Nat.le_refl _) _).alloc (by simp) _)
   generalize (w1.alloc (.cells #[.int .i64 ag, .int .i64 xf, .slice A1 hl.length c1] 24)).alloc (.cells #[.pointer (some ⟨fs, 0, none⟩), .string ⟨n.toArray⟩, .int .i64 ag, .int .i64 xf, .slice A1 hl.length c1] 70) = X at *
   obtain ⟨x, hx⟩ : ∃ x, x = w1.heap.size + 1 := ⟨_, rfl⟩
   rw [← hx] at hrx ⊢
   have HX := Lib.hid hX
   have HFX : Hid (FileR X x fs n ⟨ag, xf, hl⟩ A1 c1) := Lib.hid ⟨hrx, hra⟩
   obtain ⟨V', hV'⟩ : ∃ V' : Nat → Prop, ∀ i, V' i ↔ (V i ∨ (w.heap.size ≤ i ∧ i < X.heap.size)) := ⟨_, fun _ => Iff.rfl⟩
   have HV := Lib.hid hV'
   have HROX : Hid (RO X V' fs c S) := Lib.hid (HRO.out.add hX fun i hi => (hV' i).1 hi)
   have hVx : V' x := (hV' x).2 (.inr ⟨by omega, by omega⟩)
   have HVA : Hid (∀ a, A1 = some a → V' a.block) := Lib.hid fun a e => (hV' _).2 (.inr ⟨HFR.out a e, by
    obtain ⟨b, off, e2, ha⟩ := hra.2 (by omega)
    rw [e] at e2
    cases e2
    exact ha.lt⟩)
   have HVP : Hid (0 < l.length → ∀ a, Ap = some a → V' a.block) := Lib.hid fun h0 a e => (hV' _).2 (.inl (hVp h0 a e))
   have HPX := Lib.hid (HP.out.below hX)
   clear hX hXs hrx hra hx hV'
   generalize decide (now < 1) = bb1 at *
   generalize decide (4294967295 < now) = bb2 at *
   obtain ⟨H, hH⟩ : ∃ H, Hid (H = (⟨ag, xf, hl⟩ : Hd)) := ⟨_, Lib.hid rfl⟩
   rw [← hH.out] at HQ HFX hv
   go_loopw [13, 14] (fun u v wr => ∃ (i : Nat) (Si : Vf.Sv) (k : Int), i ≤ l.length ∧ v = .int .i64 i ∧ u = .int .i64 k ∧ 0 ≤ k ∧ k ≤ i ∧ Hid (RO wr V' fs (c + 27 * i) Si) ∧ Hid (Kp (fun b => ¬ V' b) X wr) ∧ Hid (layAll n H now l S 0 = layAll n H now (l.drop i) Si k)) (fun _ v _ => l.length - (intOf v).toNat)
   case atStart => exact ⟨0, S, 0, Nat.zero_le _, rfl, rfl, Int.le_refl _, Int.le_refl _, HROX, Lib.hid (Kp.refl _ _), Lib.hid rfl⟩
   case round =>
    obtain ⟨i, Si, k, hi, rfl, rfl, k0, k1, HRi, HKi, HLi⟩ := hrel
    by_cases hlt : i < l.length
    ·have hpr : Row wr Ap l capp := by
      refine ⟨HPX.out.1, fun h0 => ?_⟩
      obtain ⟨b, off, e, ha⟩ := HPX.out.2 h0
      have hb := HVP.out h0 _ e
      exact ⟨b, off, e, Nat.lt_of_lt_of_le ha.lt HKi.out.size, fun i hi => (HKi.out.cell (p := ⟨b, off + i * 2, none⟩) ha.lt (fun o => o hb)).trans (ha.st i hi), fun i hi => (HKi.out.cell (p := ⟨b, off + i * 2 + 1, none⟩) ha.lt (fun o => o hb)).trans (ha.ct i hi)⟩
     obtain ⟨b, off, rfl, ha⟩ := hpr.2 (by omega)
     have c0 := ha.st i hlt
     have c1 := ha.ct i hlt
     have hbl := ha.lt
     have e1 : Wh.At l i = l[i] := by unfold Wh.At; rw [List.getD_eq_getElem?_getD, List.getElem?_eq_getElem hlt]; rfl
     rw [e1] at c0 c1
     have HST := Lib.hid (layAll_step (n := n) (h := H) (now := now) hlt (S := Si) (k := k))
     have hil : (i : Int) < (l.length : Int) := by omega
     have hi0 : (0 : Int) ≤ (i : Int) := by omega
     have HLY : Hid (∀ pa pn, Calls Tryz.prog 26 #[.pointer (some ⟨x, 0, none⟩), .int .i64 now, .agg #[.int .i64 pa, .int .i64 pn]] wr fun e w' => e = .returned (.bool (lays Si n H now (pa, pn)).2) ∧ RO w' V' fs (c + 27 * i + 27) (lays Si n H now (pa, pn)).1 ∧ Kp (fun b => ¬ V' b) wr w') := Lib.hid fun pa pn => rlays_any HRi.out (by omega) (HFX.out.keep HKi.out hVx HVA.out) hVx HVA.out hv now hn1 hn2 pa pn
     clear hpr ha e1
     generalize l[i] = pt at *
     obtain ⟨pa, pn⟩ := pt
     have HL1 := Lib.hid (HLY.out pa pn)
     clear HLY
     generalize hgl : lays Si n H now (pa, pn) = R at *
     clear hgl
     obtain ⟨R1, R2⟩ := R
     cases R2
     ·go_wp2_with (go_at_call 26; (with_reducible refine (HL1.out).mono ?_); rintro e w5 ⟨rfl, hro5, hk5⟩; have HRO5 := Lib.hid hro5; have HK5 := Lib.hid hk5; clear hro5 hk5)
      go_roundw
      case rel => exact ⟨i + 1, R1, k, by omega, by go_num, rfl, k0, by omega, Lib.hid (HRO5.out.more (by omega) (fun _ h => h)), Lib.hid (HKi.out.trans HK5.out (fun _ _ h => h)), Lib.hid (by rw [HLi.out, HST.out]; rfl)⟩
      case measure => simp [intOf]; omega
     ·obtain ⟨k', hk'⟩ : ∃ k', k + 1 = k' := ⟨_, rfl⟩
      have HK' := Lib.hid hk'
      have hwk : IntKind.i64.wrap k' = k' := IntWalk.i64_in _ (by omega)
      go_wp2_with (go_at_call 26; (with_reducible refine (HL1.out).mono ?_); rintro e w5 ⟨rfl, hro5, hk5⟩; have HRO5 := Lib.hid hro5; have HK5 := Lib.hid hk5; clear hro5 hk5)
      go_roundw
      case rel => exact ⟨i + 1, R1, k', by omega, by go_num, rfl, by omega, by omega, Lib.hid (HRO5.out.more (by omega) (fun _ h => h)), Lib.hid (HKi.out.trans HK5.out (fun _ _ h => h)), Lib.hid (by rw [HLi.out, HST.out, ← HK'.out]; rfl)⟩
      case measure => simp [intOf]; omega
    ·have hil : i = l.length := by omega
     have HLE : Hid (layAll n H now l S 0 = (Si, k)) := Lib.hid (by rw [HLi.out, List.drop_of_length_le (by omega)]; rfl)
     have hiI : ¬ (i : Int) < (l.length : Int) := by omega
     have HSY := Lib.hid (rosync HRi.out)
     go_wp2_with (go_at_call 24; (with_reducible refine (HSY.out).mono ?_); rintro e w5 ⟨rfl, hro5, hk5⟩; have HRO5 := Lib.hid hro5; have HK5 := Lib.hid hk5; clear hro5 hk5)
     ((try simp only [Exit.inBlock, Exit.then]); refine bodyPost_ret (results_tmp2 rfl _ _ _) rfl ?_)
     exact ⟨by rw [HQ.out, HLE.out]; rfl, by rw [HQ.out, HLE.out]; exact HRO5.out.more (by omega) (fun i hi => (HV.out i).2 (.inl hi)), (Kp.of_below HX.out).trans ((HKi.out.trans HK5.out (fun _ _ h => h)).mono (fun i _ ho hv => ho ((HV.out i).2 (.inl hv)))) (fun _ _ h => h)⟩
 ·have HQ := Lib.hid (HE1.out he)
  have heb : (er == 0) = false := by simpa using he
  clear HE1 HE2 HE3 HVL
  go_enter Tryz.func7, Tryz.ntmps7
  go_wp2_with (go_at_call 25; (with_reducible refine (HIN.out _ (Below.refl _ _)).mono ?_); rintro e w1 ⟨A1, c1, rfl, hrow, hfr, hb1⟩; have HB1 := Lib.hid hb1; clear hb1 hrow hfr)
  ((try simp only [Exit.inBlock, Exit.then]); refine bodyPost_ret (results_tmp2 rfl _ _ _) rfl ?_)
  exact ⟨by rw [HQ.out]; rfl, by rw [HQ.out]; exact ((HRO.out.below HB1.out).below ((Below.refl _ _).alloc (Nat.le_refl _) _)).more (by omega) (fun _ h => h), Kp.of_below (HB1.out.alloc HB1.out.size _)⟩
end
section
open Go.RowKit Go.Sort
open Fx (Vl)
open Me
open Wp
namespace Wp
def fin_ (u s a : Int) : Int := if Sl.al u s + s ≤ a then a + s else Sl.al u s + s
def seq (fs : List Vf.Fl) (n : List UInt8) (h : Hd) (i : Nat) (a : Int) (k : Nat) : List Vl := (List.range k).map fun (j : Nat) => value fs n h i (a + (j : Int) * h.step i)
theorem seq_len (fs : List Vf.Fl) (n : List UInt8) (h : Hd) (i : Nat) (a : Int) (k : Nat) : (seq fs n h i a k).length = k := by unfold seq; simp
theorem fetch_yes {fs : List Vf.Fl} {n : List UInt8} {now a b : Int} {i : Nat} (h : (info fs n).2 = 0) (h1 : 1 ≤ now) (h2 : now ≤ 4294967295) (ht : ¬ (b < a ∨ now < a ∨ b < 0 ∨ b < now - (info fs n).1.span)) {f u : Int} (hf : clip (info fs n).1 now a = f) (hu : min b now = u)
 (hi : first (info fs n).1 (now - f - 1) (info fs n).1.l.length 0 = some i) {p e : Int} (hp : Sl.al f ((info fs n).1.step i) + (info fs n).1.step i = p) (he : fin_ u ((info fs n).1.step i) p = e) {K : Nat} (hK : ((e - p) / (info fs n).1.step i).toNat = K) :
 fetch fs n now a b = (some ⟨p, (info fs n).1.step i, seq fs n (info fs n).1 i p K⟩, 0) := by
 unfold fetch; dsimp only
 rw [if_neg (by rw [h]; simp), if_neg (by unfold time; simp; omega), if_neg ht, hf, hu, hi]
 dsimp only
 rw [hp]
 unfold fin_ at he
 rw [he, hK]
 rfl
theorem times_of {f u s : Int} (hs : 1 ≤ s) (hs2 : s ≤ 16777216) (hf : 0 ≤ f) (hfu : f ≤ u) (hu : u ≤ 4294967295) :
 ∃ (K : Nat) (p q e : Int), Sl.al f s = q ∧ q + s = p ∧ fin_ u s p = e ∧ e = p + (K : Int) * s ∧ ((e - p) / s).toNat = K ∧ 1 ≤ K ∧ K ≤ 4294967296 ∧ 0 ≤ q ∧ q ≤ 4294967295 ∧ e ≤ 4328521728 ∧ 0 ≤ Sl.al u s ∧ Sl.al u s ≤ 4294967295 := by
 have e1 := Sl.al_mul hs hf
 have e2 := Sl.al_mul hs (by omega : 0 ≤ u)
 have m1 : 0 ≤ f / s := Int.ediv_nonneg hf (by omega)
 have m2 : f / s ≤ u / s := Int.ediv_le_ediv (by omega) hfu
 have m3 : u / s ≤ u := Int.ediv_le_self _ (by omega)
 have b1 : Sl.al f s ≤ f := by rw [Sl.al_eq hs hf]; have := Int.emod_nonneg f (by omega : s ≠ 0); omega
 have b2 : Sl.al u s ≤ u := by rw [Sl.al_eq hs (by omega)]; have := Int.emod_nonneg u (by omega : s ≠ 0); omega
 have c1 : 0 ≤ Sl.al f s := by rw [e1]; exact Int.mul_nonneg (by omega) m1
 have c2 : 0 ≤ Sl.al u s := by rw [e2]; exact Int.mul_nonneg (by omega) (by omega)
 by_cases hc : Sl.al u s + s ≤ Sl.al f s + s
 ·refine ⟨1, _, _, _, rfl, rfl, rfl, ?_, ?_, by omega, by omega, c1, by omega, ?_, c2, by omega⟩
  ·unfold fin_; rw [if_pos hc]; simp
  ·unfold fin_; rw [if_pos hc, show Sl.al f s + s + s - (Sl.al f s + s) = s by omega, Int.ediv_self (by omega)]; rfl
  ·unfold fin_; rw [if_pos hc]; omega
 ·have hlt : f / s < u / s := by
   apply Int.lt_of_not_ge
   intro hge
   have : u / s = f / s := by omega
   rw [e1, e2, this] at hc
   omega
  have hd : Sl.al u s + s - (Sl.al f s + s) = s * (u / s - f / s) := by rw [e1, e2, Int.mul_sub]; omega
  refine ⟨(u / s - f / s).toNat, _, _, _, rfl, rfl, rfl, ?_, ?_, by omega, by omega, c1, by omega, ?_, c2, by omega⟩
  ·unfold fin_; rw [if_neg hc, Int.toNat_of_nonneg (by omega), Int.mul_comm]; omega
  ·unfold fin_; rw [if_neg hc, hd, Int.mul_ediv_cancel_left _ (by omega)]
  ·unfold fin_; rw [if_neg hc]; omega
theorem Hd.span_eq {h : Hd} (hv : h.val = true) : h.span = h.step (h.l.length - 1) * h.cnt (h.l.length - 1) := by
 have hv' : Wh.val h.ag h.xf h.l = true := hv
 unfold Hd.span Wh.spn
 rw [if_pos hv']
 rfl
theorem Hd.span_bd {h : Hd} (hv : h.val = true) : 1 ≤ h.span ∧ h.span ≤ 4294967295 := by
 have hl := Hd.len hv
 obtain ⟨⟨n1, _⟩, n3, _⟩ := Hd.nums hv (h.l.length - 1) (by omega)
 have e := Hd.span_eq hv
 constructor
 ·rw [e]
  have := Int.mul_le_mul n1 n3 (by omega) (by omega)
  omega
 ·obtain ⟨_, _, _, ha⟩ := Wh.val_t hv
  obtain ⟨a1, a2, a3, a4, a5⟩ := Wh.av_t ha
  rw [e]
  exact a5
theorem clip_bd {h : Hd} {now a b : Int} (hv : h.val = true) (h1 : 1 ≤ now) (ht : ¬ (b < a ∨ now < a ∨ b < 0 ∨ b < now - h.span)) : 0 ≤ clip h now a ∧ clip h now a ≤ min b now ∧ now - h.span ≤ clip h now a := by
 have := Hd.span_bd hv
 unfold clip
 omega
end Wp
def Wp.Fetched (w : World) (n : List UInt8) (R : Option Se × Int) (e : Ending) (w' : World) : Prop :=
 ∃ v, e = .returned (.tuple #[v, .int .i64 R.2]) ∧ (R.1 = none → v = .agg #[.string ⟨#[]⟩, .int .i64 0, .int .i64 0, .slice none 0 0, .int .i64 0]) ∧ (∀ s, R.1 = some s → ∃ x, v = .agg #[.string ⟨n.toArray⟩, .int .i64 s.start, .int .i64 s.step, x, .int .i64 0] ∧ OwnV w.heap.size w' x s.vals) ∧ Below w.heap.size w w'
theorem below_set5 {B g : Nat} {w W : World} {a b c d e : Value} (h : Below B w W) (hg : B ≤ g) : Below B w (((((W.setCell ⟨g, 0, none⟩ a).setCell ⟨g, 1, none⟩ b).setCell ⟨g, 2, none⟩ c).setCell ⟨g, 3, none⟩ d).setCell ⟨g, 4, none⟩ e) :=
 Below.setCell (Below.setCell (Below.setCell (Below.setCell (Below.setCell h hg _) hg _) hg _) hg _) hg _
theorem serCell (w : World) : Hid (∀ W, Below (w.heap.size + 1) (w.alloc (.cells #[.string ⟨#[]⟩, .int .i64 0, .int .i64 0, .slice none 0 0, .int .i64 0] 106)) W →
 (W.cell? ⟨w.heap.size, 0, none⟩ = some (.string ⟨#[]⟩) ∧ W.cell? ⟨w.heap.size, 1, none⟩ = some (.int .i64 0) ∧ W.cell? ⟨w.heap.size, 2, none⟩ = some (.int .i64 0) ∧ W.cell? ⟨w.heap.size, 3, none⟩ = some (.slice none 0 0) ∧ W.cell? ⟨w.heap.size, 4, none⟩ = some (.int .i64 0)) ∧
 (W.frozen? ⟨w.heap.size, 0, none⟩ = false ∧ W.frozen? ⟨w.heap.size, 1, none⟩ = false ∧ W.frozen? ⟨w.heap.size, 2, none⟩ = false ∧ W.frozen? ⟨w.heap.size, 3, none⟩ = false ∧ W.frozen? ⟨w.heap.size, 4, none⟩ = false) ∧ w.heap.size < W.heap.size) := Lib.hid fun W hb =>
 ⟨⟨(hb.cell (p := ⟨w.heap.size, 0, none⟩) (Nat.lt_succ_self _)).trans (by simp [go_sem]), (hb.cell (p := ⟨w.heap.size, 1, none⟩) (Nat.lt_succ_self _)).trans (by simp [go_sem]), (hb.cell (p := ⟨w.heap.size, 2, none⟩) (Nat.lt_succ_self _)).trans (by simp [go_sem]), (hb.cell (p := ⟨w.heap.size, 3, none⟩) (Nat.lt_succ_self _)).trans (by simp [go_sem]), (hb.cell (p := ⟨w.heap.size, 4, none⟩) (Nat.lt_succ_self _)).trans (by simp [go_sem])⟩,
   ⟨(hb.frozen (p := ⟨w.heap.size, 0, none⟩) (Nat.lt_succ_self _)).trans (by simp [go_sem]), (hb.frozen (p := ⟨w.heap.size, 1, none⟩) (Nat.lt_succ_self _)).trans (by simp [go_sem]), (hb.frozen (p := ⟨w.heap.size, 2, none⟩) (Nat.lt_succ_self _)).trans (by simp [go_sem]), (hb.frozen (p := ⟨w.heap.size, 3, none⟩) (Nat.lt_succ_self _)).trans (by simp [go_sem]), (hb.frozen (p := ⟨w.heap.size, 4, none⟩) (Nat.lt_succ_self _)).trans (by simp [go_sem])⟩, Nat.lt_of_lt_of_le (by simp) hb.size⟩
end
section
open Go.RowKit
open Fx (Vl)
namespace Wp
theorem times_max {f u s now c : Int} (hs : 1 ≤ s) (hf : 0 ≤ f) (hfu : f ≤ u) (hu : u ≤ now) (hc : 1 ≤ c) (hsp : now - f ≤ s * c) :
 max ((Sl.al u s + s - (Sl.al f s + s)) / s) 1 = ((((fin_ u s (Sl.al f s + s) - (Sl.al f s + s)) / s).toNat : Nat) : Int) ∧ ((((fin_ u s (Sl.al f s + s) - (Sl.al f s + s)) / s).toNat : Nat) : Int) ≤ c := by
 have e1 := Sl.al_mul hs hf
 have e2 := Sl.al_mul hs (by omega : 0 ≤ u)
 have m2 : f / s ≤ u / s := Int.ediv_le_ediv (by omega) hfu
 have hd : Sl.al u s + s - (Sl.al f s + s) = s * (u / s - f / s) := by rw [e1, e2, Int.mul_sub]; omega
 have hq : (Sl.al u s + s - (Sl.al f s + s)) / s = u / s - f / s := by rw [hd, Int.mul_ediv_cancel_left _ (by omega)]
 have hm : u / s - f / s ≤ c := by
  have h1 : u / s ≤ (f + s * c) / s := Int.ediv_le_ediv (by omega) (by omega)
  rw [Int.add_mul_ediv_left _ _ (by omega : s ≠ 0)] at h1
  omega
 unfold fin_
 by_cases hcc : Sl.al u s + s ≤ Sl.al f s + s
 ·rw [if_pos hcc, show Sl.al f s + s + s - (Sl.al f s + s) = s by omega, Int.ediv_self (by omega), hq]
  have : u / s ≤ f / s := by
   apply Int.not_lt.1
   intro hlt
   have := Int.mul_lt_mul_of_pos_left hlt (by omega : 0 < s)
   omega
  constructor
  ·show max _ 1 = (1 : Int); omega
  ·show (1 : Int) ≤ c; omega
 ·have hlt : f / s < u / s := by
   apply Int.lt_of_not_ge
   intro hge
   have : u / s = f / s := by omega
   rw [e1, e2, this] at hcc
   omega
  rw [if_neg hcc, hq, Int.toNat_of_nonneg (by omega)]
  omega
def find (h : Hd) (d : Int) : Int := match first h d h.l.length 0 with | none => -1 | some i => (i : Int)
theorem info_file {l : List Vf.Fl} {n : List UInt8} (h : (info l n).2 = 0) : ∃ B, Fits l n (info l n).1 B := by
 have hv := info_val h
 unfold info at h hv ⊢
 by_cases e : (Vf.size l n).2 ≠ 0
 ·rw [if_pos e] at h; exact absurd h e
 rw [if_neg e] at h hv ⊢
 dsimp only at h hv ⊢
 obtain ⟨B, hB, hz⟩ := Vf.Has.of_size (by omega : (Vf.size l n).2 = 0)
 by_cases e2 : Wh.derr (Vf.read l n 0 (Vf.size l n).1).1 ≠ 0 ∨ (hdOf (Vf.read l n 0 (Vf.size l n).1).1).size ≠ (Vf.size l n).1
 ·rw [if_pos e2] at h; cases h
 rw [if_neg e2] at hv ⊢
 refine ⟨B, hB, hv, ?_⟩
 rw [← hz]
 exact (Decidable.not_not.1 (fun e => e2 (.inr e))).symm
theorem info_short {l : List Vf.Fl} {n : List UInt8} (h : (Vf.size l n).2 = 0) : ∃ L, Vf.read l n 0 (min (Vf.size l n).1 112) = (L, 0) ∧ 0 ≤ (Vf.size l n).1 ∧ info l n = if Wh.derr L ≠ 0 ∨ (hdOf L).size ≠ (Vf.size l n).1 then (Hd.zero, 2) else (hdOf L, 0) := by
 obtain ⟨B, hB, hz⟩ := Vf.Has.of_size h
 refine ⟨B.take (min (Vf.size l n).1 112).toNat, ?_, by omega, ?_⟩
 ·rw [hB.read_eq (by omega) (by omega) (by omega)]; rfl
 ·have e : (Vf.read l n 0 (Vf.size l n).1).1 = B := by
   rw [hB.read_eq (by omega) (by omega) (by omega), hz]
   show (B.drop 0).take _ = B
   rw [List.drop_zero, Int.toNat_natCast, List.take_length]
  unfold info
  rw [if_neg (by omega)]
  dsimp only
  rw [e]
  by_cases hl : B.length ≤ 112
  ·rw [show (min (Vf.size l n).1 112).toNat = B.length by omega, List.take_length]
  ·rw [show (min (Vf.size l n).1 112).toNat = 112 by omega]
   obtain ⟨h1, h2, h3, h4⟩ := Wh.heads_take (L := B) (k := 112) (Nat.le_refl _)
   unfold hdOf
   rw [h1, h2, h3, h4]
end Wp
end
end Go.Proofs.YtljlanhpjpjgaaaGreatDoor
