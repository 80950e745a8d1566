/- WtFn WtRi WtKr -/
import Derived.Test.YtljlanhpjpjgaaaGreatDoorJ1
import Derived.Test.YtljlanhpjpjgaaaGreatDoorJ45
import Derived.Test.YtljlanhpjpjgaaaGreatDoorJ14
import Derived.Deep.RegionHeld3
import Derived.Test.YtljlanhpjpjgaaaGreatDoorJ35
import Derived.Test.YtljlanhpjpjgaaaGreatDoorJ44
import Derived.Test.YtljlanhpjpjgaaaGreatDoorJ43
namespace Go.Proofs.YtljlanhpjpjgaaaGreatDoor
set_option maxRecDepth 100000
set_option maxHeartbeats 8000000
section
open Go.RowKit Go.Sort
open Fx (Vl)
open Me
open Wp
open Ws
theorem torn_any {w0 W : World} {fs xs c1 c2 : Nat} {S1 S2 : Vf.Sv} {Q : Nat → Prop} (h : Dx w0 fs xs c1 c2 S1 S2 Q W) (hd : Hd) (A : Option Addr) (cap : Nat) (hrow : Row W A hd.l cap) (O N : List UInt8) (Ao : Option Addr) (oc : Nat) (hO : Bs W (fun i => i < w0.heap.size ∨ Q i) (.slice Ao O.length oc) O) (hN : Vf.Has S2.now [97] N) (hlen : N.length = O.length) (a cnt : Nat) (ha : hd.offs ((0 : Nat) : Int) = (a : Int)) (h1c : 1 ≤ cnt) (hcnt : a + 12 * cnt = O.length) (hmx : O.length ≤ 3000) (n m : Int) (hc : c1 ≤ 100000) (hc2 : c2 ≤ 100000) :
 Calls Tryz.prog 14 #[.pointer (some ⟨fs, 0, none⟩), .slice Ao O.length oc, .pointer (some ⟨xs, 0, none⟩), .agg #[.int .i64 hd.ag, .int .i64 hd.xf, .slice A hd.l.length cap], .int .i64 n, .int .i64 m] W fun e w' => e = .returned (.pointer (some ⟨fs, 0, none⟩)) ∧ Hid (Dx w0 fs xs (c1 + 3 * cnt + 1) c2 ⟨(tear [97] O N a cnt S1).room, Vf.crash (tear [97] O N a cnt S1) n m, Vf.crash (tear [97] O N a cnt S1) n m, []⟩ S2 Q w') ∧ Hid (Kp (fun b => ¬ (b < w0.heap.size ∨ Q b)) W w') := by
 obtain ⟨X, hX⟩ : ∃ X, X = W.alloc (.cells #[.int .i64 hd.ag, .int .i64 hd.xf, .slice A hd.l.length cap] 24) := ⟨_, rfl⟩
 have hbX : Below W.heap.size W X := by rw [hX]; exact (Below.refl _ _).alloc (Nat.le_refl _) _
 obtain ⟨p, hpw⟩ : ∃ p, p = W.heap.size := ⟨_, rfl⟩
 have hrp : RowAt X p 24 #[.int .i64 hd.ag, .int .i64 hd.xf, .slice A hd.l.length cap] := by rw [hX, hpw]; exact RowAt.new W _ _
 have HX := Lib.hid hbX
 have HRX := Lib.hid hrp
 have HD := Lib.hid h
 have er : Vf.read S2.now [97] 0 (O.length : Int) = (N, 0) := by
  rw [hN.read_eq (t := 0) (m := (O.length : Int)) (by omega) (by omega) (by omega)]
  rw [show ((0 : Int)).toNat = 0 from rfl, List.drop_zero, Int.toNat_natCast, ← hlen, List.take_length]
 have HRD : Hid (Calls Tryz.prog 13 #[.pointer (some ⟨xs, 0, none⟩), .string ⟨#[97]⟩, .int .i64 0, .int .i64 (O.length : Int)] X (Vf.Handed X (N, 0))) := Lib.hid (by obtain ⟨V, ro⟩ := (h.below hbX).ro; rw [← er]; exact roread ro (by omega) [97] 0 _)
 have HOF : Hid (∀ V, Below X.heap.size X V → Calls Tryz.prog 37 #[.agg #[.int .i64 hd.ag, .int .i64 hd.xf, .slice A hd.l.length cap], .int .i64 0] V fun e w' => e = .returned (.int .i64 (a : Int)) ∧ Below V.heap.size V w') := Lib.hid fun V hb => by
  have := roffs_any hd.ag hd.xf hd.l A cap 0 V ((hrow.below hbX).below hb)
  rw [← ha]
  exact this
 have HOB : Hid (Bs W (fun i => i < w0.heap.size ∨ Q i) (.slice Ao O.length oc) O) := Lib.hid hO
 have y0 := hrp.cell 0
 have y1 := hrp.cell 1
 have y2 := hrp.cell 2
 change X.cell? ⟨p, 0, none⟩ = some (.int .i64 hd.ag) at y0
 change X.cell? ⟨p, 1, none⟩ = some (.int .i64 hd.xf) at y1
 change X.cell? ⟨p, 2, none⟩ = some (.slice A hd.l.length cap) at y2
 have HLN := Lib.hid hlen
 have HHN := Lib.hid hN
 clear hbX hrp h er hO hN hlen hrow ha
 go_enter Tryz.func14, Tryz.ntmps14
 go_wp2_with fail
 rw [← hX, ← hpw]
 have HPW := Lib.hid hpw
 clear hX hpw
 go_wp2_with first
  | (go_at_call 13; (with_reducible refine (HRD.out).mono ?_); (rintro e w1 ⟨v1, rfl, hs1, hb1⟩; have HB1 := Lib.hid hb1; have HS1 := Lib.hid hs1; have hr1 := HRX.out.below hb1 HRX.out.lt; have z0 := hr1.cell 0; have z1 := hr1.cell 1; have z2 := hr1.cell 2; obtain ⟨A1, n1, rfl⟩ : ∃ A n, v1 = .slice A N.length n := (by obtain ⟨A, c, e, _⟩ := hs1; exact ⟨A, c, e⟩); clear hs1 hb1 hr1))
  | (go_at_call 37; (with_reducible refine (HOF.out _ HB1.out).mono ?_); (rintro e Y ⟨rfl, hb2⟩; have HB2 := Lib.hid hb2; clear hb2))
 have hlN := HLN.out
 have HWY : Hid (Below W.heap.size W Y) := Lib.hid (HX.out.trans ((HB1.out.trans (HB2.out.mono HB1.out.size)).mono HX.out.size))
 obtain ⟨QY, hQY⟩ : ∃ QY : Nat → Prop, ∀ i, QY i ↔ (Q i ∨ (W.heap.size ≤ i ∧ i < Y.heap.size)) := ⟨_, fun _ => Iff.rfl⟩
 have HQY := Lib.hid hQY
 have HDY : Hid (Dx w0 fs xs c1 c2 S1 S2 QY Y) := Lib.hid (HD.out.laid HWY.out (fun i hi => (hQY i).1 hi))
 clear hQY
 have HRN : Hid (∀ V, Kp (fun b => ¬ (b < w0.heap.size ∨ QY b)) Y V → Reads V (.slice A1 N.length n1) N) := Lib.hid fun V hk => by
  have h0 : Bs Y (fun i => X.heap.size ≤ i ∧ i < Y.heap.size) (.slice A1 N.length n1) N := by
   have h1 := Bs.below HS1.out HB2.out
   obtain ⟨A', c', e, b1, b2, b3⟩ := h1
   exact ⟨A', c', e, b1, b2, b3.mono fun i hi hg => ⟨hg, hi⟩⟩
  have h2 : Bs V _ (.slice A1 N.length n1) N := h0.keep hk.size (fun i hi hg => hk.block i hi (fun ho => ho (.inr ((HQY.out i).2 (.inr ⟨Nat.le_trans HX.out.size hg.1, hg.2⟩)))))
  obtain ⟨A', c', e, b1, b2, b3⟩ := h2
  exact ⟨A', c', e, b1, b3.mono fun _ _ _ => trivial⟩
 have HRO : Hid (∀ V, Kp (fun b => ¬ (b < w0.heap.size ∨ QY b)) Y V → Reads V (.slice Ao O.length oc) O) := Lib.hid fun V hk => by
  have h0 : Bs Y (fun i => i < w0.heap.size ∨ Q i) (.slice Ao O.length oc) O := Bs.below HOB.out HWY.out
  have h2 : Bs V _ (.slice Ao O.length oc) O := h0.keep hk.size (fun i hi hg => hk.block i hi (fun ho => ho (hg.imp id (fun q => (HQY.out i).2 (.inl q)))))
  obtain ⟨A', c', e, b1, b2, b3⟩ := h2
  exact ⟨A', c', e, b1, b3.mono fun _ _ _ => trivial⟩
 obtain ⟨bN, oN, rfl, _, hcN⟩ := tw_reads (HRN.out Y (Kp.refl _ _)) (i := a) (by omega)
 obtain ⟨bO, oO, rfl, _, hcO⟩ := tw_reads (HRO.out Y (Kp.refl _ _)) (i := a) (by omega)
 have HWN : Hid (∀ i, i + 12 ≤ O.length → ∀ V, Kp (fun b => ¬ (b < w0.heap.size ∨ QY b)) Y V → By V bN (oN + i) (tw N i)) := Lib.hid fun i hi V hk => by
  obtain ⟨b, o, e, hb, _⟩ := tw_reads (HRN.out V hk) (i := i) (by omega)
  injection e with e
  injection e with e1 e2
  subst e1 e2
  exact hb
 have HWO : Hid (∀ i, i + 12 ≤ O.length → ∀ V, Kp (fun b => ¬ (b < w0.heap.size ∨ QY b)) Y V → By V bO (oO + i) (tw O i)) := Lib.hid fun i hi V hk => by
  obtain ⟨b, o, e, hb, _⟩ := tw_reads (HRO.out V hk) (i := i) (by omega)
  injection e with e
  injection e with e1 e2
  subst e1 e2
  exact hb
 rw [hlN]
 rw [hlN] at hcN
 clear hlN y0 y1 y2 z0 z1 z2
 go_wp2_with fail
 go_loopw [16, 17, 18, 19] (fun x _ _ _ wr => ∃ j : Nat, j ≤ cnt ∧ x = .int .i64 ((a + 12 * j : Nat) : Int) ∧ Hid (Dx w0 fs xs (c1 + 3 * j) c2 (tear [97] O N a j S1) S2 QY wr) ∧ Hid (Kp (fun b => ¬ (b < w0.heap.size ∨ QY b)) Y wr)) (fun x _ _ _ _ => O.length + 12 - (intOf x).toNat)
 case atStart => exact ⟨0, Nat.zero_le _, by simp, HDY, Lib.hid (Kp.refl _ _)⟩
 case round =>
  obtain ⟨j, hj, rfl, HDj, HKj⟩ := hrel
  by_cases hlt : j < cnt
  ·obtain ⟨i, hi⟩ : ∃ i, i = a + 12 * j := ⟨_, rfl⟩
   have HI := Lib.hid hi
   have hi12 : i + 12 ≤ O.length := by omega
   have hBN := HWN.out i hi12 wr HKj.out
   have hBO := HWO.out i hi12 wr HKj.out
   have htn : (tw N i).length = 12 := tw_len (by have := HLN.out; omega)
   have hto : (tw O i).length = 12 := tw_len (by omega)
   rw [← hi]
   have hwr : IntKind.i64.wrap ((i : Int) + 12) = (i : Int) + 12 := IntWalk.i64_in _ (by omega)
   have kw1 := fun V => window12 V bN oN i O.length n1 (by omega) hcN (i : Int) ((i : Int) + 12) rfl rfl
   have kw2 := fun V => window12 V bO oO i O.length oc (by omega) hcO (i : Int) ((i : Int) + 12) rfl rfl
   have cv1 := (by_reads hBN (show (tw N i).length ≤ n1 - i by omega)).conv
   have cv2 := (by_reads hBO (show (tw O i).length ≤ oc - i by omega)).conv
   have cw1 := (by_reads (hBN.below (Below.refl _ _).drew) (show (tw N i).length ≤ n1 - i by omega)).conv
   have cw2 := (by_reads (hBO.below (Below.refl _ _).drew) (show (tw O i).length ≤ oc - i by omega)).conv
   rw [htn] at cv1 cw1
   rw [hto] at cv2 cw2
   have hle : (i : Int) + 12 ≤ (O.length : Int) := by omega
   have HDR : Hid (Dx w0 fs xs (c1 + 3 * j) c2 (tear [97] O N a j S1) S2 QY wr.drew) := Lib.hid (HDj.out.below (Below.refl _ _).drew)
   have HKR : Hid (Kp (fun b => ¬ (b < w0.heap.size ∨ QY b)) Y wr.drew) := Lib.hid HKj.out.drew
   by_cases e : tw N i = tw O i
   ·have hq : (tw N i == tw O i) = true := by simpa using e
    have HT : Hid (tear [97] O N a (j + 1) S1 = tear [97] O N a j S1) := Lib.hid (by
     show (if tw N (a + 12 * j) = tw O (a + 12 * j) then _ else _) = _
     rw [if_pos (by rw [← hi]; exact e)])
    clear hi e
    generalize tw N i = tn at *
    generalize tw O i = to_ at *
    go_wp2_with fail
    go_region
    all_goals
     go_wp2_with fail
     go_roundw
     case rel => exact ⟨j + 1, by omega, by have := HI.out; go_num, by rw [HT.out]; exact Lib.hid (HDR.out.more (by omega) (Nat.le_refl _)), HKR⟩
     case measure => simp [intOf]; omega
   ·have hq : (tw N i == tw O i) = false := by simpa using e
    have HT : Hid (tear [97] O N a (j + 1) S1 = laid (tear [97] O N a j S1) [97] i (Wh.nm (tw N i) 0, Sl.dn (tw N i))) := Lib.hid (by
     show (if tw N (a + 12 * j) = tw O (a + 12 * j) then _ else _) = _
     rw [if_neg (by rw [← hi]; exact e), ← hi]
     have : slot N i = (Wh.nm (tw N i) 0, Sl.dn (tw N i)) := by
      rw [slot_tw]; unfold pt Sl.dat Sl.dnn; rw [if_pos htn, if_pos htn]
     rw [this])
    have HDC : Hid (∀ V, Below wr.heap.size wr V → Calls Tryz.prog 38 #[.slice (some ⟨bN, oN + i, none⟩) 12 (n1 - i)] V fun e w' => e = .returned (.tuple #[.agg #[.int .i64 (Wh.nm (tw N i) 0), .int .i64 (Sl.dn (tw N i))], .bool true]) ∧ Below wr.heap.size wr w') := Lib.hid fun V hb => (rsdecode_12 (tw N i) htn bN (oN + i) (n1 - i) V (hBN.below hb) (by omega)).mono fun e w' h => ⟨h.1, hb.trans (h.2.mono hb.size)⟩
    have HWS : Hid (∀ V, Below wr.heap.size wr V → Calls Tryz.prog 39 #[.agg #[.int .i64 (Wh.nm (tw N i) 0), .int .i64 (Sl.dn (tw N i))]] V fun e w' => ∃ v, e = .returned v ∧ Wr3M wr.heap.size w' v (Sl.beb (Sl.dn (tw N i)) 8) (Sl.beb (Sl.lim (Wh.nm (tw N i) 0)) 4) ∧ Below wr.heap.size wr w') := Lib.hid fun V hb => (rswrites_anyM _ _ V).mono fun e w' ⟨v, e1, ⟨g, v1, v2, v3, ev, hg, hr, b1, b2, b3⟩, hb2⟩ => ⟨v, e1, ⟨g, v1, v2, v3, ev, Nat.le_trans hb.size hg, hr, Bs.mono b1 fun i _ h => Nat.le_trans hb.size h, Bs.mono b2 fun i _ h => Nat.le_trans hb.size h, Bs.mono b3 fun i _ h => Nat.le_trans hb.size h⟩, hb.trans (hb2.mono hb.size)⟩
    have hl8 : (Sl.beb (Sl.dn (tw N i)) 8).length = 8 := Sl.beb_len _ _
    have hl4 : (Sl.beb (Sl.lim (Wh.nm (tw N i) 0)) 4).length = 4 := Sl.beb_len _ _
    have HL : Hid (laid (tear [97] O N a j S1) [97] i (Wh.nm (tw N i) 0, Sl.dn (tw N i)) = (Vf.write (Vf.write (Vf.write (tear [97] O N a j S1) [97] (i : Int) [0, 0, 0, 0]).1 [97] ((i : Int) + 4) (Sl.beb (Sl.dn (tw N i)) 8)).1 [97] (i : Int) (Sl.beb (Sl.lim (Wh.nm (tw N i) 0)) 4)).1) := Lib.hid rfl
    clear hi e hBN hBO
    generalize Sl.beb (Sl.dn (tw N i)) 8 = L2 at *
    generalize Sl.beb (Sl.lim (Wh.nm (tw N i) 0)) 4 = L3 at *
    generalize Wh.nm (tw N i) 0 = pt_ at *
    generalize Sl.dn (tw N i) = pn_ at *
    generalize tw N i = tn at *
    generalize tw O i = to_ at *
    obtain ⟨i4, hi4⟩ : ∃ i4, i4 = (i : Int) + 4 := ⟨_, rfl⟩
    have hw4 : IntKind.i64.wrap ((i : Int) + 4) = (i : Int) + 4 := IntWalk.i64_in _ (by omega)
    have HI4 := Lib.hid hi4
    clear hi4
    go_wp2_with fail
    go_region
    all_goals
     go_wp2_with first
      | (go_at_call 38; (with_reducible refine (HDC.out _ (by first | exact Below.refl _ _ | exact (Below.refl _ _).drew)).mono ?_); (rintro e w2 ⟨rfl, hb2⟩; have HBd := Lib.hid hb2; clear hb2))
      | (go_at_call 39; (with_reducible refine (HWS.out _ (HBd.out.alloc HBd.out.size _)).mono ?_); (rintro e w5 ⟨v5, rfl, ⟨g, v1, v2, v3, rfl, hg, hr, b1, b2, b3⟩, hb5⟩; have HB5 := Lib.hid hb5; have HG := Lib.hid hg; have HR5 := Lib.hid hr; have hc0 := hr.cell 0; have hc1 := hr.cell 1; have hc2 := hr.cell 2; (change w5.cell? ⟨g, 0, none⟩ = some v1 at hc0); (change w5.cell? ⟨g, 1, none⟩ = some v2 at hc1); (change w5.cell? ⟨g, 2, none⟩ = some v3 at hc2); have HT1 := Lib.hid b1; have HT2 := Lib.hid b2; have HT3 := Lib.hid b3; (obtain ⟨A1, n1', q1, rfl⟩ : ∃ A n q, v1 = .slice A n q := (by obtain ⟨A, c, e, _⟩ := b1; exact ⟨A, _, c, e⟩)); (obtain ⟨A2, n2, q2, rfl⟩ : ∃ A n q, v2 = .slice A n q := (by obtain ⟨A, c, e, _⟩ := b2; exact ⟨A, _, c, e⟩)); (obtain ⟨A3, n3, q3, rfl⟩ : ∃ A n q, v3 = .slice A n q := (by obtain ⟨A, c, e, _⟩ := b3; exact ⟨A, _, c, e⟩)); clear hb5 hg hr b1 b2 b3))
     obtain ⟨Q5, hQ5⟩ : ∃ Q5 : Nat → Prop, ∀ i, Q5 i ↔ (QY i ∨ (wr.heap.size ≤ i ∧ i < w5.heap.size)) := ⟨_, fun _ => Iff.rfl⟩
     have HQ5 := Lib.hid hQ5
     have HD5 : Hid (Dx w0 fs xs (c1 + 3 * j) c2 (tear [97] O N a j S1) S2 Q5 w5) := Lib.hid (HDj.out.laid HB5.out (fun i hi => (hQ5 i).1 hi))
     clear hQ5
     have HK5 : Hid (Kp (fun b => ¬ (b < w0.heap.size ∨ QY b)) Y w5) := Lib.hid (HKj.out.trans (Kp.of_below HB5.out) (fun _ _ h => h))
     have HBS : Hid (∀ V v L, Kp (fun b => ¬ (b < w0.heap.size ∨ Q5 b)) w5 V → Bs w5 (fun i => wr.heap.size ≤ i) v L → Bs V (fun i => i < w0.heap.size ∨ Q5 i) v L) := Lib.hid fun V v L hk hb => by
      have h0 : Bs w5 (fun i => i < w0.heap.size ∨ Q5 i) v L := by
       obtain ⟨A', c', e, b1, b2, b3⟩ := hb
       exact ⟨A', c', e, b1, b2, b3.mono fun i hi hg => .inr ((HQ5.out i).2 (.inr ⟨hg, hi⟩))⟩
      exact h0.keep hk.size (fun i hi hg => hk.block i hi (fun ho => ho hg))
     have HCL : Hid (∀ V, Kp (fun b => ¬ (b < w0.heap.size ∨ Q5 b)) w5 V → V.cell? ⟨g, 0, none⟩ = some (.slice A1 n1' q1) ∧ V.cell? ⟨g, 1, none⟩ = some (.slice A2 n2 q2) ∧ V.cell? ⟨g, 2, none⟩ = some (.slice A3 n3 q3)) := Lib.hid fun V hk => by
      have k2 : RowAt V g 45 #[.slice A1 n1' q1, .slice A2 n2 q2, .slice A3 n3 q3] := (hk.block g HR5.out.lt (fun o => o (.inr ((HQ5.out g).2 (.inr ⟨HG.out, HR5.out.lt⟩))))).trans HR5.out
      exact ⟨k2.cell 0, k2.cell 1, k2.cell 2⟩
     have HW1 := Lib.hid (dx_write HD5.out (by omega) (i : Int) (by omega) [0, 0, 0, 0] (.slice A1 n1' q1) (HBS.out _ _ _ (Kp.refl _ _) HT1.out) (by simp))
     generalize (Vf.write (tear [97] O N a j S1) [97] (i : Int) [0, 0, 0, 0]).1 = T1 at *
     have HW2 : Hid (∀ w6, Dx w0 fs xs (c1 + 3 * j + 1) c2 T1 S2 Q5 w6 → Kp (fun b => ¬ (b < w0.heap.size ∨ Q5 b)) w5 w6 → Calls Tryz.prog 40 #[.pointer (some ⟨fs, 0, none⟩), .string ⟨#[97]⟩, .int .i64 ((i : Int) + 4), .slice (some ⟨w6.heap.size, 0, none⟩) 1 1] (w6.alloc (.cells #[.slice A2 n2 q2] 45)) fun e w' => (∃ r, e = .returned (.int .i64 r)) ∧ Hid (Dx w0 fs xs (c1 + 3 * j + 1 + 1) c2 (Vf.write T1 [97] i4 L2).1 S2 Q5 w') ∧ Hid (Kp (fun b => ¬ (b < w0.heap.size ∨ Q5 b)) w6 w')) := Lib.hid fun w6 hd hk => by rw [← HI4.out]; exact dx_write hd (by omega) i4 (by have := HI4.out; omega) L2 (.slice A2 n2 q2) (HBS.out _ _ _ hk HT2.out) (by omega)
     rw [← HI4.out] at HL
     generalize (Vf.write T1 [97] i4 L2).1 = T2 at *
     have HW3 : Hid (∀ w6, Dx w0 fs xs (c1 + 3 * j + 1 + 1) c2 T2 S2 Q5 w6 → Kp (fun b => ¬ (b < w0.heap.size ∨ Q5 b)) w5 w6 → Calls Tryz.prog 40 #[.pointer (some ⟨fs, 0, none⟩), .string ⟨#[97]⟩, .int .i64 (i : Int), .slice (some ⟨w6.heap.size, 0, none⟩) 1 1] (w6.alloc (.cells #[.slice A3 n3 q3] 45)) fun e w' => (∃ r, e = .returned (.int .i64 r)) ∧ Hid (Dx w0 fs xs (c1 + 3 * j + 1 + 1 + 1) c2 (Vf.write T2 [97] (i : Int) L3).1 S2 Q5 w') ∧ Hid (Kp (fun b => ¬ (b < w0.heap.size ∨ Q5 b)) w6 w')) := Lib.hid fun w6 hd hk => dx_write hd (by omega) (i : Int) (by omega) L3 (.slice A3 n3 q3) (HBS.out _ _ _ hk HT3.out) (by omega)
     generalize (Vf.write T2 [97] (i : Int) L3).1 = T3 at *
     have HTT : Hid (tear [97] O N a (j + 1) S1 = T3) := Lib.hid (HT.out.trans HL.out)
     go_wp2_with first
      | (go_at_call 40; (with_reducible refine (HW3.out _ HD7.out HK7.out).mono ?_); (rintro e w8 ⟨⟨r8, rfl⟩, hd8, hk8⟩; have HD8 := Lib.hid hd8.out; have HK8 := Lib.hid (HK7.out.trans hk8.out (fun _ _ h => h)); clear hd8 hk8))
      | (go_at_call 40; (with_reducible refine (HW2.out _ HD6.out HK6.out).mono ?_); (rintro e w7 ⟨⟨r7, rfl⟩, hd7, hk7⟩; have HD7 := Lib.hid hd7.out; have HK7 := Lib.hid (HK6.out.trans hk7.out (fun _ _ h => h)); obtain ⟨d0, d1, d2⟩ := HCL.out _ HK7.out; clear hd7 hk7))
      | (go_at_call 40; (with_reducible refine (HW1.out).mono ?_); (rintro e w6 ⟨⟨r6, rfl⟩, hd6, hk6⟩; have HD6 := Lib.hid hd6.out; have HK6 := Lib.hid hk6.out; obtain ⟨f0, f1, f2⟩ := HCL.out _ HK6.out; clear hd6 hk6))
     go_roundw
     case rel => exact ⟨j + 1, by omega, by have := HI.out; go_num, by rw [HTT.out]; exact Lib.hid ((HD8.out.less fun q hq => (HQ5.out q).2 (.inl hq)).more (by omega) (Nat.le_refl _)), Lib.hid (HK5.out.trans HK8.out (fun q _ ho hq => ho (Or.imp id (fun z => (HQ5.out q).2 (Or.inl z)) hq)))⟩
     case measure => simp [intOf]; omega
  ·obtain rfl : j = cnt := by omega
   have hge : ¬ (((a + 12 * j : Nat) : Int) + 12 ≤ (O.length : Int)) := by omega
   have hwr : IntKind.i64.wrap (((a + 12 * j : Nat) : Int) + 12) = ((a + 12 * j : Nat) : Int) + 12 := IntWalk.i64_in _ (by omega)
   have HCR := Lib.hid (dx_crash HDj.out (by omega) n m)
   generalize a + 12 * j = aj at *
   go_wp2_with first
    | (go_at_call 41; (with_reducible refine (HCR.out).mono ?_); (rintro e w8 ⟨rfl, hd8, hk8⟩; have HD8 := Lib.hid hd8.out; have HK8 := Lib.hid (HKj.out.trans hk8.out (fun _ _ h => h)); clear hd8 hk8))
   go_ret
   exact ⟨rfl, Lib.hid (HD8.out.less fun q hq => (HQY.out q).2 (.inl hq)), Lib.hid ((Kp.of_below HWY.out).trans HK8.out (fun q _ ho hq => ho (Or.imp id (fun z => (HQY.out q).2 (Or.inl z)) hq)))⟩
end
section
open Go.RowKit Go.Sort
open Fx (Vl)
open Me
open Wp
open Ws
theorem OwnP.base7 {t : TypeId} {a b : Nat} {w : World} {v : Value} {l : List (Int × Int)} (h : OwnP t b w v l) (hab : a ≤ b) : OwnP t a w v l := by
 refine ⟨h.1, ?_⟩
 rcases h.2 with hn | ⟨g, cap, cur, hv, hb, rest⟩
 ·exact .inl hn
 ·exact .inr ⟨g, cap, cur, hv, by omega, rest⟩
theorem OwnP.kp7 {t : TypeId} {a : Nat} {w w' : World} {v : Value} {l : List (Int × Int)} {O : Nat → Prop} (h : OwnP t a w v l) (k : Kp O w w') (hO : ∀ g, v.ownBlock = some g → ¬ O g) : OwnP t a w' v l :=
 owns_keep h fun g hg => k.block g (h.lt g hg).2 (hO g hg)
structure Wp.RingsV (B : Nat) (W : World) (v : Value) (vs : List Value) (L : List (List (Int × Int))) : Prop where
 own : W.ownsRow B 25 1 v vs.length vs
 len : vs.length = L.length
 each : ∀ i (h : i < vs.length) (h2 : i < L.length), OwnP 27 B W vs[i] L[i] ∧ ∀ g, vs[i].ownBlock = some g → v.ownBlock ≠ some g
theorem Wp.RingsV.below {B : Nat} {W W' : World} {v : Value} {vs : List Value} {L : List (List (Int × Int))} (h : RingsV B W v vs L) (b : Below W.heap.size W W') : RingsV B W' v vs L :=
 ⟨owns_keep h.own fun g hg => b.block g (World.ownsRow.lt h.own g hg).2, h.len, fun i h1 h2 => ⟨(h.each i h1 h2).1.below b, (h.each i h1 h2).2⟩⟩
theorem Wp.RingsV.nil (B : Nat) (W : World) : RingsV B W (.slice none 0 0) [] [] := ⟨⟨rfl, .inl ⟨rfl, rfl⟩⟩, rfl, fun i h => by cases h⟩
theorem Wp.RingsV.slice {B : Nat} {W : World} {v : Value} {vs : List Value} {L : List (List (Int × Int))} (h : RingsV B W v vs L) : ∃ A c, v = .slice A vs.length c := by
 rcases h.own.2 with ⟨rfl, h0⟩ | ⟨g', cap, cur, rfl, _⟩
 ·exact ⟨none, 0, by rw [h0]⟩
 ·exact ⟨_, _, rfl⟩
theorem Wp.RingsV.snoc {B : Nat} {w1 w2 : World} {v v2 u : Value} {vs : List Value} {L : List (List (Int × Int))} {r : List (Int × Int)} (h : RingsV B w1 v vs L) (hu : OwnP 27 B w1 u r) (hn : ∀ g, u.ownBlock = some g → v.ownBlock ≠ some g) (hown : w2.ownsRow B 25 1 v2 (vs.length + 1) (vs ++ [u])) (hk : Kp (fun b => v.ownBlock = some b) w1 w2) (hat : v2.ownBlock = v.ownBlock ∨ ∃ g, v2.ownBlock = some g ∧ w1.heap.size ≤ g) : RingsV B w2 v2 (vs ++ [u]) (L ++ [r]) := by
 have key : ∀ (x : Value) (l : List (Int × Int)), OwnP 27 B w1 x l → (∀ g, x.ownBlock = some g → v.ownBlock ≠ some g) → OwnP 27 B w2 x l ∧ ∀ g, x.ownBlock = some g → v2.ownBlock ≠ some g := fun x l ho hx => by
  refine ⟨ho.kp7 hk hx, fun g hg e => ?_⟩
  rcases hat with h1 | ⟨g', h1, h2⟩
  ·exact hx g hg (h1 ▸ e)
  ·rw [h1] at e
   injection e with e
   have := (ho.lt g hg).2
   omega
 refine ⟨by rw [List.length_append, List.length_singleton]; exact hown, by rw [List.length_append, List.length_append, h.len]; rfl, fun i h1 h2 => ?_⟩
 by_cases hl : i < vs.length
 ·have hl2 : i < L.length := by rw [← h.len]; exact hl
  rw [List.getElem_append_left hl, List.getElem_append_left hl2]
  exact key _ _ (h.each i hl hl2).1 (h.each i hl hl2).2
 ·have e : i = vs.length := by rw [List.length_append, List.length_singleton] at h1; omega
  subst e
  have e2 : (L ++ [r])[vs.length] = r := by
   rw [List.getElem_append_right (by rw [h.len]; exact Nat.le_refl _)]
   simp [h.len]
  rw [e2]
  simp only [List.getElem_concat_length]
  exact key _ _ hu hn
theorem infoRow : (Tryz.prog.info? 25).map (fun i => (i.zero, i.size, i.bytes)) = some (some (.slice none 0 0), 1, 24) := by kernel_rfl
def Wp.rings7 (fs : List Vf.Fl) (n : Nat) : List (List (Int × Int)) := (List.range n).map fun (i : Nat) => (ring fs [97] (i : Int)).1
theorem Wp.rings7_len (fs : List Vf.Fl) (n : Nat) : (rings7 fs n).length = n := by unfold rings7; simp
theorem Wp.rings7_succ (fs : List Vf.Fl) (n : Nat) : rings7 fs (n + 1) = rings7 fs n ++ [(ring fs [97] (n : Int)).1] := by unfold rings7; rw [List.range_succ, List.map_append]; rfl
theorem rings_any {w : World} {V : Nat → Prop} {c xs : Nat} {S : Vf.Sv} (ro : RO w V xs c S) (hc : c ≤ 1000000) (ag xf : Int) (l : List (Int × Int)) (A : Option Addr) (cap : Nat) (hl : l.length ≤ 100) :
 Calls Tryz.prog 8 #[.pointer (some ⟨xs, 0, none⟩), .agg #[.int .i64 ag, .int .i64 xf, .slice A l.length cap]] w fun e w' => ∃ v vs, e = .returned v ∧ RingsV w.heap.size w' v vs (rings7 S.now l.length) ∧ Below w.heap.size w w' := by
 obtain ⟨i0, hi, hz0, hz1, hz2⟩ := info_parts infoRow
 have HI := Lib.hid hi
 have HZ := Lib.hid (And.intro hz0 (And.intro hz1 hz2))
 clear hi hz0 hz1 hz2
 obtain ⟨X, hX⟩ : ∃ X, X = w.alloc (.cells #[.int .i64 ag, .int .i64 xf, .slice A l.length cap] 24) := ⟨_, rfl⟩
 have hbX : Below w.heap.size w X := by rw [hX]; exact (Below.refl _ _).alloc (Nat.le_refl _) _
 obtain ⟨p, hpw⟩ : ∃ p, p = w.heap.size := ⟨_, rfl⟩
 have hrp : RowAt X p 24 #[.int .i64 ag, .int .i64 xf, .slice A l.length cap] := by rw [hX, hpw]; exact RowAt.new w _ _
 have HX := Lib.hid hbX
 have HXL : Hid (w.heap.size < X.heap.size) := Lib.hid (by rw [hX]; simp)
 have HRX := Lib.hid hrp
 have HRG : Hid (∀ W (k : Nat), Below X.heap.size X W → Calls Tryz.prog 27 #[.pointer (some ⟨xs, 0, none⟩), .string ⟨#[97]⟩, .int .i64 (k : Int)] W (Ringed W (ring S.now [97] (k : Int)))) := Lib.hid fun W k hb => rring_any ((ro.below hbX).below hb) hc [97] (k : Int)
 have y2 := hrp.cell 2
 change X.cell? ⟨p, 2, none⟩ = some (.slice A l.length cap) at y2
 clear hbX hrp ro
 go_enter Tryz.func8, Tryz.ntmps8
 go_wp2_with fail
 rw [← hX, ← hpw]
 clear hX hpw y2
 go_loopw [5, 6, 7, 8] (fun v x _ _ wr => ∃ (j : Nat) (vs : List Value), j ≤ l.length ∧ x = .int .i64 j ∧ Hid (Below X.heap.size X wr) ∧ Hid (RingsV X.heap.size wr v vs (rings7 S.now j))) (fun _ x _ _ _ => l.length - (intOf x).toNat)
 case atStart => exact ⟨0, [], Nat.zero_le _, rfl, Lib.hid (Below.refl _ _), Lib.hid (RingsV.nil _ _)⟩
 case round =>
  obtain ⟨j, vs, hj, rfl, HB, HR⟩ := hrel
  have hrw := HRX.out.below HB.out HRX.out.lt
  have z2 : wr.cell? ⟨p, 2, none⟩ = some (.slice A l.length cap) := hrw.cell 2
  clear hrw
  obtain ⟨Av, cv, rfl⟩ := HR.out.slice
  have hvl : vs.length = j := HR.out.len.trans (rings7_len _ _)
  by_cases hlt : j < l.length
  ·have hil : (j : Int) < (l.length : Int) := by omega
   have HC := Lib.hid (HRG.out wr j HB.out)
   have HS := Lib.hid (rings7_succ S.now j)
   generalize ring S.now [97] (j : Int) = R at *
   generalize rings7 S.now j = L at *
   obtain ⟨r, re⟩ := R
   subst hvl
   go_wp2_with first
    | (go_at_call 27; (with_reducible refine (HC.out).mono ?_); (rintro e w1 ⟨u, rfl, ho1, hb1⟩; (obtain ⟨Au, cu, rfl⟩ := ho1.slice); have HB1 := Lib.hid hb1; have HO1 := Lib.hid ho1; have HR1 := Lib.hid (HR.out.below hb1); have HR2 := Lib.hid (((HR.out.below hb1).below ((Below.refl _ _).alloc (Nat.le_refl _) (.cells #[.slice Au r.length cu] 25))).own); have hxw := (HB.out.trans (hb1.mono HB.out.size)).size; clear hb1 ho1))
    | (at_builtin; go_must (refine wpList_app _ rfl (.tmp 22) (.tmp 24) 35 rfl X.heap.size 25 i0 (.slice none 0 0) 1 24 Tryz.underlying35 HI.out HZ.out.1 HZ.out.2.1 HZ.out.2.2 rfl (by decide) (.slice Av vs.length cv) vs.length vs rfl HR2.out (fun b => b = w1.heap.size) (some ⟨w1.heap.size, 0, none⟩) 1 1 [.slice Au r.length cu] rfl rfl (Rd.fresh _ _ _ _ rfl) (by intro u' hu; simp at hu; subst hu; rfl) (by unfold maxLen; omega) (by omega) (by simp; omega) ?_; intro v2 w4 hown2 hg2 hat2 hnil2))
   have HO2 : Hid (OwnP 27 X.heap.size w1 (.slice Au r.length cu) r) := Lib.hid (OwnP.base7 HO1.out HB.out.size)
   have hkp : Kp (fun b => (Value.slice Av vs.length cv).ownBlock = some b) w1 w4 := ((Kp.refl _ w1).alloc _).grown hg2 (fun g e => .inr e)
   have HR3 : Hid (RingsV X.heap.size w4 v2 (vs ++ [.slice Au r.length cu]) (L ++ [r])) := Lib.hid (HR1.out.snoc HO2.out (fun g hg e => by
    have h1 := (World.ownsRow.lt HR.out.own g e).2
    have h2 := (HO1.out.lt g hg).1
    omega) hown2 hkp (hat2.imp id fun e => ⟨_, e, by simp⟩))
   have HB4 : Hid (Below X.heap.size X w4) := Lib.hid (((HB.out.trans (HB1.out.mono HB.out.size)).alloc hxw _).grown hg2 (by simp; omega) (fun g e => (World.ownsRow.lt HR.out.own g e).1))
   clear hown2 hg2 hat2 hnil2 hkp
   go_wp2_with fail
   go_roundw
   case rel => exact ⟨vs.length + 1, vs ++ [.slice Au r.length cu], by omega, by go_num, HB4, by rw [HS.out]; exact HR3⟩
   case measure => simp [intOf]; omega
  ·obtain rfl : j = l.length := by omega
   go_wp2_with fail
   go_ret
   have hB := HX.out.trans (HB.out.mono HX.out.size)
   refine ⟨_, vs, rfl, ⟨?_, HR.out.len, fun i h1 h2 => ⟨(HR.out.each i h1 h2).1.base7 HX.out.size, (HR.out.each i h1 h2).2⟩⟩, hB⟩
   have h := HR.out.own
   refine ⟨h.1, ?_⟩
   rcases h.2 with hn | ⟨g, cap, cur, hv, hb, rest⟩
   ·exact .inl hn
   ·exact .inr ⟨g, cap, cur, hv, by have := HX.out.size; omega, rest⟩
end
section
open Go.RowKit Go.Sort
open Fx (Vl)
open Me
open Wp
open Ws
def Ws.Kr (w0 : World) (xs c : Nat) (S : Vf.Sv) (Q : Nat → Prop) (W : World) : Prop := Below w0.heap.size w0 W ∧ ∃ V, RO W V xs c S ∧ ∀ b, b < w0.heap.size ∨ Q b → V b
section
variable {w0 W W' : World} {xs c : Nat} {S : Vf.Sv} {Q Q' : Nat → Prop}
theorem Ws.Kr.base (h : Kr w0 xs c S Q W) : Below w0.heap.size w0 W := by
 obtain ⟨h1, _⟩ := h
 exact h1
theorem Ws.Kr.ro (h : Kr w0 xs c S Q W) : ∃ V, RO W V xs c S := by
 obtain ⟨_, V, h2, _⟩ := h
 exact ⟨V, h2⟩
theorem Ws.Kr.laid (h : Kr w0 xs c S Q W) (hb : Below W.heap.size W W') (hQ : ∀ i, Q' i → Q i ∨ (W.heap.size ≤ i ∧ i < W'.heap.size)) : Kr w0 xs c S Q' W' := by
 obtain ⟨h1, V, h2, h3⟩ := h
 refine ⟨h1.trans (hb.mono h1.size), fun i => V i ∨ (W.heap.size ≤ i ∧ i < W'.heap.size), h2.add hb (fun i hi => hi), fun b hb' => ?_⟩
 rcases hb' with hb' | hb'
 ·exact .inl (h3 b (.inl hb'))
 ·rcases hQ b hb' with hq | hq
  ·exact .inl (h3 b (.inr hq))
  ·exact .inr hq
theorem Ws.Kr.doc {f : Nat} {args : Array Value} {P : Ending → Prop} {c' : Nat} {S' : Vf.Sv} (h : Kr w0 xs c S Q W)
 (hC : ∀ V, RO W V xs c S → (∀ b, b < w0.heap.size ∨ Q b → V b) → Calls Tryz.prog f args W fun e w' => P e ∧ RO w' V xs c' S' ∧ Kp (fun b => ¬ V b) W w') :
 Calls Tryz.prog f args W fun e w' => P e ∧ Hid (Kr w0 xs c' S' Q w') ∧ Hid (Kp (fun b => ¬ (b < w0.heap.size ∨ Q b)) W w') := by
 obtain ⟨h1, V, h2, h3⟩ := h
 refine (hC V h2 h3).mono ?_
 rintro e w' ⟨hp, p, k⟩
 exact ⟨hp, Lib.hid ⟨h1.trans (k.below h1.size (fun i hi ho => ho (h3 i (.inl hi)))), V, p, h3⟩, Lib.hid (k.mono fun i _ ho hq => ho (h3 i hq))⟩
theorem Ws.Kr.beside {fs : Nat} {s0 : Vf.Sv} (h : Kr w0 xs c S Q W) (hQ : ∀ b, Q b → b < W.heap.size) (h2 : Kw W fs 0 s0 W') : Dx w0 fs xs 0 c s0 S Q W' := by
 obtain ⟨h1, V, r, hV⟩ := h
 obtain ⟨k1, V1, p, hV1⟩ := h2
 refine ⟨h1.trans (k1.mono h1.size), V1, fun i => V i ∨ (W.heap.size ≤ i ∧ i < W'.heap.size), p, r.add k1 (fun i hi => hi), fun b hb => ?_, fun b hb => ?_⟩
 ·by_cases hlt : b < W.heap.size
  ·exact .inl (hV1 b hlt)
  ·exact .inr (.inr ⟨by omega, hb⟩)
 ·refine ⟨hV1 b ?_, .inl (hV b hb)⟩
  rcases hb with hb | hb
  ·exact Nat.lt_of_lt_of_le hb h1.size
  ·exact hQ b hb
theorem Ws.kr_new {w : World} {s0 : Vf.Sv} (h : ∃ nv wv lv ys, Vf.At W (fun _ => False) w.heap.size none s0 nv wv lv ys) (hb : Below w.heap.size w W) (hi : Vf.Inv 0 s0) : Kr w w.heap.size 0 s0 (fun _ => False) W := by
 obtain ⟨nv, wv, lv, ys, ha⟩ := h
 refine ⟨hb, fun i => i < w.heap.size, ⟨_, _, nv, wv, lv, ys, ha, hi, fun b hb' => ⟨Nat.lt_of_lt_of_le hb' hb.size, id, by omega, by simp⟩⟩, fun b hb' => ?_⟩
 rcases hb' with hb' | hb'
 ·exact hb'
 ·cases hb'
end
namespace Wp
theorem create_new_placed {h : Hd} {now : Int} (hv : h.val = true) (hs : h.size ≤ 3000) : ∃ B, Stands (create Kt.s0 [97] h).1.now [97] h B ∧ Placed h now B := by
 have key : ∀ b : List UInt8, (b.length : Int) ≤ 65536 → Vf.create Kt.s0 [97] b = (Kt.s0.act ⟨1, [97], 0, b⟩, 0) := fun b hb => by
  unfold Vf.create
  simp [Kt.s0, Vf.ix, Vf.ixFrom, Vf.used, Vf.is, hb]
 have hh : ∀ b : List UInt8, (Vf.create Kt.s0 [97] b).2 = 0 → Vf.Has (Vf.create Kt.s0 [97] b).1.now [97] b := fun b h0 => by
  by_cases hb : (b.length : Int) ≤ 65536
  ·rw [key b hb]
   exact ⟨by decide, 0, [97], by rfl, by rfl⟩
  ·exfalso
   revert h0
   unfold Vf.create
   simp [Kt.s0, Vf.ix, Vf.ixFrom, Vf.used, Vf.is]
   rw [if_pos (by omega)]
   simp
 exact create_placed hv (create_new7 hv hs).1 hh
theorem side_get {B : List UInt8} {o n k : Nat} (hk : k < n) : (side B o n)[k]? = some (slot B (o + 12 * k)) := by
 unfold side
 rw [List.getElem?_map, List.getElem?_range hk]
 rfl
theorem torn_story {h : Hd} {now : Int} {before : List (Int × Int)} {p : Int × Int} (hv : h.val = true) (hs : h.size ≤ 3000) (h1 : 1 ≤ now) (h2 : now ≤ 4294967295) (n m : Int) (S2 S3 : Vf.Sv) (e2 : S2 = (update (create Kt.s0 [97] h).1 [97] now before).1) (e3 : S3 = (update S2 [97] now [p]).1) :
 ∃ (O N : List UInt8) (a cnt : Nat), Vf.Has S2.now [97] O ∧ Vf.Has S3.now [97] N ∧ N.length = O.length ∧ h.offs ((0 : Nat) : Int) = (a : Int) ∧ 1 ≤ cnt ∧ a + 12 * cnt = O.length ∧ O.length ≤ 3000 ∧ info (Vf.crash (tear [97] O N a cnt S2) n m) [97] = (h, 0) ∧
  ∀ i, i < h.l.length → ∃ r w s : List (Int × Int), ring (Vf.crash (tear [97] O N a cnt S2) n m) [97] (i : Int) = (r, 0) ∧ ring S2.now [97] (i : Int) = (w, 0) ∧ ring S3.now [97] (i : Int) = (s, 0) ∧ r.length = w.length ∧ s.length = w.length ∧ (w.length : Int) = h.cnt i ∧
   ∀ k x y z, r[k]? = some x → w[k]? = some y → s[k]? = some z → x = y ∨ x = z ∨ ¬ Asked (h.step i) (h.cnt i) now x.1 k := by
 obtain ⟨B0, f0, p0⟩ := create_new_placed (now := now) hv hs
 obtain ⟨O, fO, pO, hw, hl⟩ := update_placed f0 p0 h1 h2 before
 rw [← e2] at fO hw hl
 obtain ⟨N, fN, pN, _, _⟩ := update_placed fO pO h1 h2 [p]
 rw [← e3] at fN
 have hlen := Hd.len hv
 have hOs := fO.fits.size
 have hNs := fN.fits.size
 obtain ⟨q, hq⟩ := sm_12 h.l h.l.length
 have e0 := offs_eq hv (by omega : 0 < h.l.length)
 have e00 : Wh.sm h.l 0 = 0 := rfl
 have esz := size_eq hv
 unfold Wh.ends at e0 esz
 rw [e00] at e0
 rw [hq] at esz
 have hr0 := ring_in hv (by omega : 0 < h.l.length)
 obtain ⟨⟨n1, n2⟩, n3, n4⟩ := Hd.nums hv 0 (by omega)
 have hlN : N.length = O.length := by omega
 obtain ⟨B, wy, _⟩ := tear_way (n := [97]) (a := (h.offs ((0 : Nat) : Int)).toNat) (N := N) fO.fits.has hw hl hlN q.toNat (by omega)
 obtain ⟨B', hB', ok⟩ := wy.left n m
 obtain ⟨fB, hsl⟩ := torn_left fO pO fN pN ok hB'
 refine ⟨O, N, (h.offs ((0 : Nat) : Int)).toNat, q.toNat, fO.fits.has, fN.fits.has, hlN, by omega, by omega, by omega, by omega, fB.info, fun i hi => ⟨_, _, _, fB.ring hi, fO.ring hi, fN.ring hi, ?_, ?_, ?_, fun k x y z hx hy hz => ?_⟩⟩
 ·rw [side_len, side_len]
 ·rw [side_len, side_len]
 ·obtain ⟨_, m3, _⟩ := Hd.nums hv i hi
  rw [side_len]; omega
 ·have hk : k < (h.cnt i).toNat := by
   have := (List.getElem?_eq_some_iff.1 hx).1
   rwa [side_len] at this
  rw [side_get hk] at hx hy hz
  obtain rfl := Option.some.inj hx
  obtain rfl := Option.some.inj hy
  obtain rfl := Option.some.inj hz
  exact hsl i hi k (by omega)
end Wp
end
end Go.Proofs.YtljlanhpjpjgaaaGreatDoor
