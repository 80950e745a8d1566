/- WtLw WtE -/
import Derived.Test.YtljlanhpjpjgaaaGreatDoorJ1
import Derived.Test.YtljlanhpjpjgaaaGreatDoorJ47
import Derived.Lib.QuietBelow
import Derived.Test.YtljlanhpjpjgaaaGreatDoorJ44
namespace Go.Proofs.YtljlanhpjpjgaaaGreatDoor
set_option maxRecDepth 100000
set_option maxHeartbeats 8000000
section
open Go.RowKit Go.Sort
open Fx (Vl)
open Me
open Wp
open Ws
theorem Wp.RingsV.form {B : Nat} {W : World} {v : Value} {vs : List Value} {L : List (List (Int × Int))} (h : RingsV B W v vs L) (hl : 0 < vs.length) : ∃ g c, v = .slice (some ⟨g, 0, none⟩) vs.length c := by
 rcases h.own.2 with ⟨_, h0⟩ | ⟨g', cap, cur, rfl, _⟩
 ·omega
 ·exact ⟨_, _, rfl⟩
theorem Wp.RingsV.cell {B : Nat} {W : World} {g n c : Nat} {vs : List Value} {L : List (List (Int × Int))} (h : RingsV B W (.slice (some ⟨g, 0, none⟩) n c) vs L) (k : Nat) (hk : k < vs.length) : W.cell? ⟨g, k, none⟩ = some vs[k] := by
 obtain ⟨h1, h2⟩ := h.own
 rcases h2 with ⟨h', _⟩ | ⟨g', cap', cur, h', hb, hg, hnc, hcm, hcs, ht⟩
 ·simp at h'
 ·simp only [Value.slice.injEq, Option.some.injEq, Addr.mk.injEq, and_true] at h'
  obtain ⟨rfl, rfl, rfl⟩ := h'
  have e : vs[k]? = some vs[k] := List.getElem?_eq_getElem hk
  rw [cell_of_row W g k cur 25 (0, 0) hg, ← e]
  conv => rhs; rw [show vs = _ from ht.symm]
  rw [List.getElem?_take, if_pos (by omega)]
  simp
theorem Wp.RingsV.at_ {B : Nat} {W : World} {g n c k : Nat} {vs : List Value} {fs : List Vf.Fl} {l : List (Int × Int)} {e : Int} (h : RingsV B W (.slice (some ⟨g, 0, none⟩) vs.length c) vs (rings7 fs n)) (hk : k < n) (hr : ring fs [97] (k : Int) = (l, e)) : ∃ A' c', W.cell? ⟨g, k, none⟩ = some (.slice A' l.length c') ∧ Row W A' l c' := by
 have hl : vs.length = n := h.len.trans (rings7_len _ _)
 have hk2 : k < vs.length := by omega
 have e1 : (rings7 fs n)[k]'(by rw [rings7_len]; exact hk) = l := by
  unfold rings7
  simp [hr]
 have h1 := (h.each k hk2 (by rw [rings7_len]; exact hk)).1
 rw [e1] at h1
 obtain ⟨A', c', ev, hrow⟩ := ownp_row h1
 exact ⟨A', c', by rw [h.cell k hk2, ev], hrow⟩
theorem At_some {l : List (Int × Int)} {k : Nat} (h : k < l.length) : l[k]? = some (Wh.At l k) := by
 unfold Wh.At
 rw [List.getD_eq_getElem?_getD, List.getElem?_eq_getElem h]
 rfl
theorem Wp.pt_bd1 (b : List UInt8) : 0 ≤ (pt b).1 ∧ (pt b).1 ≤ 4294967295 := by
 by_cases h : b.length = 12
 ·have := pt_bd b h; omega
 ·have e : (pt b).1 = 0 := by unfold pt Sl.dat; rw [if_neg h]
  omega
theorem Wp.ring_bd {fs : List Vf.Fl} {n : List UInt8} {i : Int} {r : List (Int × Int)} {e : Int} (h : ring fs n i = (r, e)) {k : Nat} {x : Int × Int} (hx : r[k]? = some x) : 0 ≤ x.1 ∧ x.1 ≤ 4294967295 := by
 have hr : r = (ring fs n i).1 := by rw [h]
 subst hr
 unfold Wp.ring at hx
 dsimp only at hx
 split at hx
 ·simp at hx
 ·split at hx
  ·simp at hx
  ·simp only [List.getElem?_map, Option.map_eq_some_iff] at hx
   obtain ⟨j, _, rfl⟩ := hx
   exact pt_bd1 _
theorem torn_newx (Y : World) : Calls Tryz.prog 5 #[.int .i64 65536] Y fun e w' => e = .returned (.tuple #[.pointer (some ⟨Y.heap.size, 0, none⟩), .int .i64 0]) ∧ Hid (Kr Y Y.heap.size 0 Kt.s0 (fun _ => False) w') := by
 refine (new_any 65536 Y (by decide) (by decide)).mono ?_
 rintro e w' ⟨rfl, ha, hb⟩
 exact ⟨rfl, Lib.hid (kr_new ⟨_, _, _, _, ha⟩ hb (Vf.Inv.new (by decide) (by decide)))⟩
theorem torn_main (hd : Hd) (A : Option Addr) (cap : Nat) (now : Int) (before : List (Int × Int)) (Ab : Option Addr) (cb : Nat) (pa pn n m : Int) (w : World) (hg : Gv w) (hr : Row w A hd.l cap) (hb : Row w Ab before cb) (hv : hd.val = true) (hs : hd.size ≤ 3000) (t1 : ¬ now < 1) (t2 : ¬ 4294967295 < now) (t3 : ¬ 20 < (before.length : Int)) (t4 : ¬ n < 0) (t5 : ¬ m < 0) (t6 : ¬ 100 < n) (t7 : ¬ 12 < m) :
 Calls Tryz.prog 3 #[.agg #[.int .i64 hd.ag, .int .i64 hd.xf, .slice A hd.l.length cap], .int .i64 now, .slice Ab before.length cb, .agg #[.int .i64 pa, .int .i64 pn], .int .i64 n, .int .i64 m] w fun e w' => e = .returned (.bool true) ∧ Below w.heap.size w w' := by
 obtain ⟨X, hX⟩ : ∃ X, X = (w.alloc (.cells #[.int .i64 hd.ag, .int .i64 hd.xf, .slice A hd.l.length cap] 24)).alloc (.cells #[.int .i64 pa, .int .i64 pn] 27) := ⟨_, rfl⟩
 have hbX : Below w.heap.size w X := by rw [hX]; exact ((Below.refl _ _).alloc (Nat.le_refl _) _).alloc (by simp) _
 obtain ⟨p, hpw⟩ : ∃ p, p = w.heap.size := ⟨_, rfl⟩
 obtain ⟨q, hqw⟩ : ∃ q, q = w.heap.size + 1 := ⟨_, rfl⟩
 have hrp : RowAt X p 24 #[.int .i64 hd.ag, .int .i64 hd.xf, .slice A hd.l.length cap] := by rw [hX, hpw]; exact (RowAt.new w _ _).below ((Below.refl _ _).alloc (Nat.le_refl _) _) (by simp)
 have hrq : RowAt X q 27 #[.int .i64 pa, .int .i64 pn] := by rw [hX, hqw]; exact two_row w _ _
 have HX := Lib.hid hbX
 obtain rfl : q = p + 1 := by omega
 have HGX : Hid (∀ W, Below X.heap.size X W → Gv W) := Lib.hid fun W hb => (hg.below hbX).below hb
 have HPX : Hid (p < X.heap.size ∧ p + 1 < X.heap.size ∧ 0 < X.heap.size) := Lib.hid ⟨hrp.lt, hrq.lt, Nat.lt_of_le_of_lt (Nat.zero_le _) hrp.lt⟩
 have HCELL : Hid (∀ W, Below X.heap.size X W → (W.cell? ⟨p, 0, none⟩ = some (.int .i64 hd.ag) ∧ W.cell? ⟨p, 1, none⟩ = some (.int .i64 hd.xf) ∧ W.cell? ⟨p, 2, none⟩ = some (.slice A hd.l.length cap)) ∧ (W.cell? ⟨p + 1, 0, none⟩ = some (.int .i64 pa) ∧ W.cell? ⟨p + 1, 1, none⟩ = some (.int .i64 pn))) := Lib.hid fun W hb => by
  have h1 := hrp.below hb hrp.lt
  have h2 := hrq.below hb hrq.lt
  exact ⟨⟨h1.cell 0, h1.cell 1, h1.cell 2⟩, ⟨h2.cell 0, h2.cell 1⟩⟩
 have HROW : Hid (∀ W, Below X.heap.size X W → Row W A hd.l cap ∧ Row W Ab before cb) := Lib.hid fun W hb2 => ⟨(hr.below hbX).below hb2, (hb.below hbX).below hb2⟩
 have HSM : Hid (Calls Tryz.prog 4 #[.agg #[.int .i64 hd.ag, .int .i64 hd.xf, .slice A hd.l.length cap]] X fun e w' => e = .returned (.bool true) ∧ Below X.heap.size X w') := Lib.hid ((small_any hd.ag hd.xf hd.l A cap X (hr.below hbX)).mono fun e w' h => ⟨h.1.trans (congrArg (fun b => Ending.returned (Value.bool b)) (show (hd.val && decide (hd.size ≤ 3000)) = true by rw [hv]; simp [hs])), h.2⟩)
 have HNS : Hid (∀ i, i < hd.l.length → (1 ≤ hd.step i ∧ hd.step i ≤ 16777216) ∧ 1 ≤ hd.cnt i ∧ hd.cnt i ≤ 16777216) := Lib.hid fun i hi => Hd.nums hv i hi
 have HTN : Hid (1 ≤ now ∧ now ≤ 4294967295) := Lib.hid (by omega)
 have HHL : Hid (1 ≤ hd.l.length ∧ hd.l.length ≤ 8) := Lib.hid (Hd.len hv)
 have hc0 := (create_new7 hv hs).1
 obtain ⟨S1, hS1⟩ : ∃ S1, S1 = (create Kt.s0 [97] hd).1 := ⟨_, rfl⟩
 obtain ⟨S2, hS2⟩ : ∃ S2, S2 = (update S1 [97] now before).1 := ⟨_, rfl⟩
 obtain ⟨S3, hS3⟩ : ∃ S3, S3 = (update S2 [97] now [(pa, pn)]).1 := ⟨_, rfl⟩
 obtain ⟨O, N, a, cnt, hO, hN, hlN, ha, h1c, hcnt, hmx, hinfo, hring⟩ := (torn_story (p := (pa, pn)) hv hs (by omega) (by omega) n m S2 S3 (by rw [hS2, hS1]) hS3)
 have HO := Lib.hid hO
 have HN := Lib.hid hN
 have HA := Lib.hid ha
 have HINFO := Lib.hid hinfo
 have HRING := Lib.hid hring
 have HNUM : Hid (N.length = O.length ∧ 1 ≤ cnt ∧ a + 12 * cnt = O.length ∧ O.length ≤ 3000) := Lib.hid ⟨hlN, h1c, hcnt, hmx⟩
 have hsz : Vf.size S2.now [97] = ((O.length : Int), 0) := hO.size_eq
 have hrd : Vf.read S2.now [97] 0 (O.length : Int) = (O, 0) := by
  rw [hO.read_eq (t := 0) (m := (O.length : Int)) (by omega) (by omega) (by omega)]
  rw [show ((0 : Int)).toNat = 0 from rfl, List.drop_zero, Int.toNat_natCast, List.take_length]
 have HSZ : Hid (∀ Y fs xs c1 c2 Sf Q W, Dx Y fs xs c1 c2 Sf S2 Q W → c2 ≤ 490000 → Calls Tryz.prog 12 #[.pointer (some ⟨xs, 0, none⟩), .string ⟨#[97]⟩] W fun e w' => e = .returned (.tuple #[.int .i64 (O.length : Int), .int .i64 0]) ∧ W = w') := Lib.hid fun Y fs xs c1 c2 Sf Q W h hc => by
  obtain ⟨V, ro⟩ := h.ro
  have := rosize ro (by omega) [97]
  rw [hsz] at this
  exact this
 have HRD : Hid (∀ Y fs xs c1 c2 Sf Q W, Dx Y fs xs c1 c2 Sf S2 Q W → c2 ≤ 490000 → Calls Tryz.prog 13 #[.pointer (some ⟨xs, 0, none⟩), .string ⟨#[97]⟩, .int .i64 0, .int .i64 (O.length : Int)] W (Vf.Handed W (O, 0))) := Lib.hid fun Y fs xs c1 c2 Sf Q W h hc => by
  obtain ⟨V, ro⟩ := h.ro
  have := roread ro (by omega) [97] 0 (O.length : Int)
  rw [hrd] at this
  exact this
 clear hO hN ha hinfo hring hsz hrd hlN h1c hcnt hmx
 have HBA : Hid (∀ Y, Below X.heap.size X Y → 0 < before.length → ∀ a, Ab = some a → a.block < Y.heap.size) := Lib.hid fun Y hY h0 a e => by
  obtain ⟨b, off, e2, ha⟩ := (hb.below hbX).2 h0
  rw [e] at e2
  cases e2
  exact Nat.lt_of_lt_of_le ha.lt hY.size
 have HCX : Hid (∀ Y xs W, Kr Y xs 0 Kt.s0 (fun _ => False) W → Below X.heap.size X W → Calls Tryz.prog 6 #[.pointer (some ⟨xs, 0, none⟩), .string ⟨#[97]⟩, .agg #[.int .i64 hd.ag, .int .i64 hd.xf, .slice A hd.l.length cap]] W fun e w' => e = .returned (.int .i64 0) ∧ Hid (Kr Y xs 1 S1 (fun _ => False) w')) := Lib.hid fun Y xs W h hb2 => by
  have := kr_create h (by decide) hd A cap ((hr.below hbX).below hb2)
  rw [hc0, ← hS1] at this
  exact this
 have HUX : Hid (∀ Y xs W, Kr Y xs 1 S1 (fun _ => False) W → Below X.heap.size X Y → Below X.heap.size X W → Calls Tryz.prog 7 #[.pointer (some ⟨xs, 0, none⟩), .string ⟨#[97]⟩, .int .i64 now, .slice Ab before.length cb] W fun e w' => (∃ v, e = .returned v) ∧ Hid (Kr Y xs (1 + 27 * before.length) S2 (fun _ => False) w')) := Lib.hid fun Y xs W h hY hb2 => by
  have := kr_update h now before Ab cb ((hb.below hbX).below hb2) (HBA.out Y hY) (by omega)
  rw [← hS2] at this
  exact this
 have HCF : Hid (∀ Y fs xs c2 Q W, Dx Y fs xs 0 c2 Kt.s0 S2 Q W → Below X.heap.size X W → Calls Tryz.prog 10 #[.pointer (some ⟨fs, 0, none⟩), .string ⟨#[97]⟩, .agg #[.int .i64 hd.ag, .int .i64 hd.xf, .slice A hd.l.length cap]] W fun e w' => e = .returned (.int .i64 0) ∧ Hid (Dx Y fs xs 1 c2 S1 S2 Q w') ∧ Hid (Kp (fun b => ¬ (b < Y.heap.size ∨ Q b)) W w')) := Lib.hid fun Y fs xs c2 Q W h hb2 => by
  have := dx_create h (by decide) hd A cap ((hr.below hbX).below hb2)
  rw [hc0, ← hS1] at this
  exact this
 have HUF : Hid (∀ Y fs xs c2 Q W, Dx Y fs xs 1 c2 S1 S2 Q W → Below X.heap.size X Y → Below X.heap.size X W → Calls Tryz.prog 11 #[.pointer (some ⟨fs, 0, none⟩), .string ⟨#[97]⟩, .int .i64 now, .slice Ab before.length cb] W fun e w' => (∃ v, e = .returned v) ∧ Hid (Dx Y fs xs (1 + 27 * before.length) c2 S2 S2 Q w') ∧ Hid (Kp (fun b => ¬ (b < Y.heap.size ∨ Q b)) W w')) := Lib.hid fun Y fs xs c2 Q W h hY hb2 => by
  have := dx_update h ((hg.below hbX).below hY) now before Ab cb ((hb.below hbX).below hb2) (HBA.out Y hY) (by omega) (Nat.lt_of_lt_of_le HPX.out.2.2 hY.size)
  rw [← hS2] at this
  exact this
 have HU2 : Hid (∀ Y fs xs c1 c2 Q W, Dx Y fs xs c1 c2 S2 S2 Q W → c2 ≤ 490000 → Calls Tryz.prog 7 #[.pointer (some ⟨xs, 0, none⟩), .string ⟨#[97]⟩, .int .i64 now, .slice (some ⟨W.heap.size, 0, none⟩) 1 1] (W.alloc (.cells #[.int .i64 pa, .int .i64 pn] 27)) fun e w' => (∃ v, e = .returned v) ∧ Hid (Dx Y fs xs c1 (c2 + 27) S2 S3 Q w') ∧ Hid (Kp (fun b => ¬ (b < Y.heap.size ∨ Q b)) W w')) := Lib.hid fun Y fs xs c1 c2 Q W h hc => by
  have := dx_one h now pa pn hc
  rw [← hS3] at this
  exact this
 have HNEW := Lib.hid torn_newx
 have HNF : Hid (∀ Y, Calls Tryz.prog 9 #[.int .i64 65536] Y fun e w' => e = .returned (.tuple #[.pointer (some ⟨Y.heap.size, 0, none⟩), .int .i64 0]) ∧ Hid (Kw Y Y.heap.size 0 Kt.s0 w')) := Lib.hid fun Y => Ws.new_any Y
 have HBL : Hid (before.length ≤ 20) := Lib.hid (by omega)
 clear hbX hrp hrq hg hr hb hv hs hS1 hS2 hS3 hc0
 generalize Kt.s0 = s0 at *
 go_enter Tryz.func3, Tryz.ntmps3
 go_wp2_with fail
 rw [← hX, ← hpw]
 obtain ⟨⟨c0, c1, c2⟩, ⟨q0, q1⟩⟩ := HCELL.out X (Below.refl _ _)
 clear hX hpw hqw
 go_wp2_with first
  | (go_at_call 4; (with_reducible refine (HSM.out).mono ?_); (rintro e Y ⟨rfl, hb1⟩; obtain ⟨⟨a0, a1, a2⟩, ⟨a3, a4⟩⟩ := HCELL.out _ hb1; have HBY := Lib.hid hb1; clear hb1))
  | (go_at_call 5; (with_reducible refine (HNEW.out Y).mono ?_); (rintro e w1 ⟨rfl, h1⟩; have HK1 := Lib.hid h1.out; have HB1 := Lib.hid (HBY.out.trans (h1.out.base.mono HBY.out.size)); obtain ⟨⟨a0, a1, a2⟩, ⟨a3, a4⟩⟩ := HCELL.out _ HB1.out; clear h1))
  | (go_at_call 6; (with_reducible refine (HCX.out _ _ _ HK1.out HB1.out).mono ?_); (rintro e w2 ⟨rfl, h2⟩; have HK2 := Lib.hid h2.out; have HB2 := Lib.hid (HBY.out.trans (h2.out.base.mono HBY.out.size)); obtain ⟨⟨a0, a1, a2⟩, ⟨a3, a4⟩⟩ := HCELL.out _ HB2.out; clear h2))
  | (go_at_call 7; (with_reducible refine (HU2.out _ _ _ _ _ _ _ HD8.out (by have := HBL.out; omega)).mono ?_); (rintro e w9 ⟨⟨v9, rfl⟩, h9, k9⟩; have HD9 := Lib.hid h9.out; have HK49 := Lib.hid (HK48.out.trans k9.out (fun i _ ho hq => ho (Or.imp id (fun z => (HQ8.out i).2 (Or.inl z)) hq))); have HO9 : Hid (Bs w9 (fun i => i < Y.heap.size ∨ Q8 i) (.slice Ao O.length oc) O) := (by obtain ⟨A', c', e, b1, b2, b3⟩ := HO8.out; exact Lib.hid (Bs.keep (G := fun i => i < Y.heap.size ∨ Q8 i) ⟨A', c', e, b1, b2, b3.mono fun i hi hg => .inr ((HQ8.out i).2 (.inr ⟨hg, hi⟩))⟩ k9.out.size (fun i hi hg => k9.out.block i hi (fun ho => ho hg)))); have HB9 := Lib.hid (HBY.out.trans (HD9.out.base.mono HBY.out.size)); obtain ⟨⟨a0, a1, a2⟩, ⟨a3, a4⟩⟩ := HCELL.out _ HB9.out; clear h9 k9))
  | (go_at_call 8; (with_reducible refine (dx_rings HD9.out (by have := HBL.out; omega) hd A cap (by have := HHL.out; omega)).mono ?_); (rintro e w10 ⟨vi, vis, rfl, hW10, hb10, h10⟩; obtain ⟨Q10, hQ10⟩ : ∃ Q10 : Nat → Prop, ∀ i, Q10 i ↔ (Q8 i ∨ (w9.heap.size ≤ i ∧ i < w10.heap.size)) := ⟨_, fun _ => Iff.rfl⟩; have HQ10 := Lib.hid hQ10; have HD10 := Lib.hid (h10.out.less (Q' := Q10) (fun i hi => (hQ10 i).1 hi)); have HI10 := Lib.hid hW10; have HK410 := Lib.hid (HK49.out.trans (Kp.of_below hb10) (fun _ _ h => h)); have HO10 : Hid (Bs w10 (fun i => i < Y.heap.size ∨ Q10 i) (.slice Ao O.length oc) O) := (by obtain ⟨A', c', e, b1, b2, b3⟩ := Bs.below HO9.out hb10; exact Lib.hid ⟨A', c', e, b1, b2, b3.mono fun i hi hg => hg.imp id (fun z => (hQ10 i).2 (.inl z))⟩); have HB10 := Lib.hid (HBY.out.trans (HD10.out.base.mono HBY.out.size)); obtain ⟨⟨a0, a1, a2⟩, ⟨a3, a4⟩⟩ := HCELL.out _ HB10.out; clear hb10 h10 hW10 hQ10))
  | (go_at_call 14; (with_reducible refine (torn_any HD10.out hd A cap (HROW.out _ HB10.out).1 O N Ao oc HO10.out HN.out HNUM.out.1 a cnt HA.out HNUM.out.2.1 HNUM.out.2.2.1 HNUM.out.2.2.2 n m (by have := HBL.out; omega) (by have := HBL.out; omega)).mono ?_); (rintro e w11 ⟨rfl, h11, k11⟩; have HD11 := Lib.hid h11.out; have HK411 := Lib.hid (HK410.out.trans k11.out (fun i _ ho hq => ho (Or.imp id (fun z => (HQ10.out i).2 (.inl ((HQ8.out i).2 (Or.inl z)))) hq))); have HK1011 := Lib.hid k11.out; have HB11 := Lib.hid (HBY.out.trans (HD11.out.base.mono HBY.out.size)); obtain ⟨⟨a0, a1, a2⟩, ⟨a3, a4⟩⟩ := HCELL.out _ HB11.out; clear h11 k11))
  | (go_at_call 7; (with_reducible refine (HUX.out _ _ _ HK2.out HBY.out HB2.out).mono ?_); (rintro e w3 ⟨⟨v3, rfl⟩, h3⟩; have HK3 := Lib.hid h3.out; have HB3 := Lib.hid (HBY.out.trans (h3.out.base.mono HBY.out.size)); obtain ⟨⟨a0, a1, a2⟩, ⟨a3, a4⟩⟩ := HCELL.out _ HB3.out; clear h3))
  | (go_at_call 8; (with_reducible refine (kr_rings HK3.out (by have := HBL.out; omega) hd A cap (by have := HHL.out; omega)).mono ?_); (rintro e w4 ⟨vw, vws, rfl, hW4, h4⟩; have HK4 := Lib.hid h4.out; have HW4 := Lib.hid hW4; have HB4 := Lib.hid (HBY.out.trans (h4.out.base.mono HBY.out.size)); obtain ⟨⟨a0, a1, a2⟩, ⟨a3, a4⟩⟩ := HCELL.out _ HB4.out; clear h4 hW4))
  | (go_at_call 9; (with_reducible refine (HNF.out w4).mono ?_); (rintro e w5 ⟨rfl, h5⟩; have hb5 : Below w4.heap.size w4 w5 := (by obtain ⟨k1, _⟩ := h5.out; exact k1); have HD5 := Lib.hid (HK4.out.beside (fun b hb => Or.elim hb (fun h => False.elim h) (fun h => h.2)) h5.out); have HK45 : Hid (Kp (fun b => ¬ (b < Y.heap.size ∨ (False ∨ w3.heap.size ≤ b ∧ b < w4.heap.size))) w4 w5) := Lib.hid (Kp.of_below hb5); have HB5 := Lib.hid (HBY.out.trans (HD5.out.base.mono HBY.out.size)); obtain ⟨⟨a0, a1, a2⟩, ⟨a3, a4⟩⟩ := HCELL.out _ HB5.out; clear h5 hb5))
  | (go_at_call 10; (with_reducible refine (HCF.out _ _ _ _ _ _ HD5.out HB5.out).mono ?_); (rintro e w6 ⟨rfl, h6, k6⟩; have HD6 := Lib.hid h6.out; have HK46 := Lib.hid (HK45.out.trans k6.out (fun _ _ h => h)); have HB6 := Lib.hid (HBY.out.trans (HD6.out.base.mono HBY.out.size)); obtain ⟨⟨a0, a1, a2⟩, ⟨a3, a4⟩⟩ := HCELL.out _ HB6.out; clear h6 k6))
  | (go_at_call 11; (with_reducible refine (HUF.out _ _ _ _ _ _ HD6.out HBY.out HB6.out).mono ?_); (rintro e w7 ⟨⟨v7, rfl⟩, h7, k7⟩; have HD7 := Lib.hid h7.out; have HK47 := Lib.hid (HK46.out.trans k7.out (fun _ _ h => h)); have HB7 := Lib.hid (HBY.out.trans (HD7.out.base.mono HBY.out.size)); obtain ⟨⟨a0, a1, a2⟩, ⟨a3, a4⟩⟩ := HCELL.out _ HB7.out; clear h7 k7))
  | (go_at_call 12; (with_reducible refine (HSZ.out _ _ _ _ _ _ _ _ HD7.out (by have := HBL.out; omega)).mono ?_); (rintro e w7' ⟨rfl, hw⟩; obtain rfl : w7 = w7' := hw))
  | (go_at_call 13; (with_reducible refine (HRD.out _ _ _ _ _ _ _ _ HD7.out (by have := HBL.out; omega)).mono ?_); (rintro e w8 ⟨v8, rfl, hs8, hb8⟩; obtain ⟨Ao, oc, rfl⟩ : ∃ A c, v8 = .slice A O.length c := (by obtain ⟨A, c, e, _⟩ := hs8; exact ⟨A, c, e⟩); obtain ⟨Q8, hQ8⟩ : ∃ Q8 : Nat → Prop, ∀ i, Q8 i ↔ ((False ∨ w3.heap.size ≤ i ∧ i < w4.heap.size) ∨ (w7.heap.size ≤ i ∧ i < w8.heap.size)) := ⟨_, fun _ => Iff.rfl⟩; have HQ8 := Lib.hid hQ8; have HD8 := Lib.hid (HD7.out.laid (Q' := Q8) hb8 (fun i hi => (hQ8 i).1 hi)); have HK48 := Lib.hid (HK47.out.trans (Kp.of_below hb8) (fun _ _ h => h)); have HO8 := Lib.hid hs8; have HB8 := Lib.hid (HBY.out.trans (HD8.out.base.mono HBY.out.size)); obtain ⟨⟨a0, a1, a2⟩, ⟨a3, a4⟩⟩ := HCELL.out _ HB8.out; clear hs8 hb8 hQ8))
 have HIF : Hid (Calls Tryz.prog 15 #[.pointer (some ⟨w4.heap.size, 0, none⟩), .string ⟨#[97]⟩] w11 (Informed w11 (hd, 0))) := Lib.hid (by obtain ⟨V, ro⟩ := HD11.out.po; have := info_any7 ro [97]; rw [← HINFO.out]; exact this)
 have HRG : Hid (∀ W (i : Nat), Below w11.heap.size w11 W → Calls Tryz.prog 17 #[.pointer (some ⟨w4.heap.size, 0, none⟩), .string ⟨#[97]⟩, .int .i64 (i : Int)] W (Ringed W (ring (Vf.crash (tear [97] O N a cnt S2) n m) [97] (i : Int)))) := Lib.hid fun W i hb => by obtain ⟨V, ro⟩ := (HD11.out.below hb).po; exact ring_any7 ro [97] (i : Int)
 have HVW : Hid (∀ W, Below w11.heap.size w11 W → RingsV w3.heap.size W vw vws (rings7 S2.now hd.l.length)) := Lib.hid fun W hb => (HW4.out.kp HK411.out (fun b h1 h2 ho => ho (.inr (.inr ⟨h1, h2⟩)))).below hb
 have HVI : Hid (∀ W, Below w11.heap.size w11 W → RingsV w9.heap.size W vi vis (rings7 S3.now hd.l.length)) := Lib.hid fun W hb => (HI10.out.kp HK1011.out (fun b h1 h2 ho => ho (.inr ((HQ10.out b).2 (.inr ⟨h1, h2⟩))))).below hb
 clear HK45 HK46 HK47 HK48 HK49 HK410 HK411 HK1011 HD5 HD6 HD7 HD8 HD9 HD10 HK1 HK2 HK3 HK4 HW4 HI10 HO8 HO9 HO10 HQ8 HQ10 HINFO HO HN HSZ HRD HU2 HUF HCF HUX HCX HNF HNEW HSM
 generalize Vf.crash (tear [97] O N a cnt S2) n m = Fc at *
 generalize w4.heap.size = fs at *
 go_wp2_with first
  | (go_at_call 15; (with_reducible refine (HIF.out).mono ?_); (rintro e w12 ⟨A1, c1', rfl, hrow1, hfr1, hb12⟩; have hbZ : Below w11.heap.size w11 (w12.alloc (.cells #[.int .i64 hd.ag, .int .i64 hd.xf, .slice A1 hd.l.length c1'] 24)) := hb12.alloc hb12.size _; have HBZ := Lib.hid hbZ; have HBXZ := Lib.hid (HB11.out.trans (hbZ.mono HB11.out.size)); (obtain ⟨⟨z0, z1, z2⟩, ⟨z3, z4⟩⟩ := HCELL.out _ HBXZ.out); have hrZ := RowAt.new w12 #[.int .i64 hd.ag, .int .i64 hd.xf, .slice A1 hd.l.length c1'] 24; have x0 := hrZ.cell 0; have x1 := hrZ.cell 1; have x2 := hrZ.cell 2; have HROW1 := Lib.hid (hrow1.below ((Below.refl _ _).alloc (Nat.le_refl _) (.cells #[.int .i64 hd.ag, .int .i64 hd.xf, .slice A1 hd.l.length c1'] 24))); clear hb12 hrow1 hfr1 hbZ hrZ))
  | (go_at_call 16; (with_reducible refine (headers_any7 hd.ag hd.xf hd.l A1 A c1' cap (by have := HHL.out; omega) _ HROW1.out (HROW.out _ HBXZ.out).1).mono ?_); (rintro e w13 ⟨rfl, hb13⟩; have HB13 := Lib.hid (HBZ.out.trans (hb13.mono HBZ.out.size)); have HBX13 := Lib.hid (HBXZ.out.trans (hb13.mono HBXZ.out.size)); obtain ⟨⟨e0, e1, e2⟩, ⟨e3, e4⟩⟩ := HCELL.out _ HBX13.out; clear hb13))
 have hvl : vws.length = hd.l.length := (HVW.out _ (Below.refl _ _)).len.trans (rings7_len _ _)
 have hil : vis.length = hd.l.length := (HVI.out _ (Below.refl _ _)).len.trans (rings7_len _ _)
 obtain ⟨gw, cw, rfl⟩ := (HVW.out _ (Below.refl _ _)).form (by have := HHL.out; omega)
 obtain ⟨gi, ci, rfl⟩ := (HVI.out _ (Below.refl _ _)).form (by have := HHL.out; omega)
 rw [hvl, hil]
 rw [hvl] at HVW
 rw [hil] at HVI
 go_loopw [26, 27, 28, 29] (fun x _ _ _ wr => ∃ i : Nat, i ≤ hd.l.length ∧ x = .int .i64 i ∧ Hid (Below w13.heap.size w13 wr)) (fun x _ _ _ _ => hd.l.length - (intOf x).toNat)
 case atStart => exact ⟨0, Nat.zero_le _, rfl, Lib.hid (Below.refl _ _)⟩
 case round =>
  obtain ⟨i, hi, rfl, HB⟩ := hrel
  have HBX : Hid (Below X.heap.size X wr) := Lib.hid (HBX13.out.trans (HB.out.mono HBX13.out.size))
  have HB11' : Hid (Below w11.heap.size w11 wr) := Lib.hid (HB13.out.trans (HB.out.mono HB13.out.size))
  obtain ⟨⟨g0, g1, g2⟩, _⟩ := HCELL.out _ HBX.out
  by_cases hlt : i < hd.l.length
  ·obtain ⟨r, wl, sl, hr1, hr2, hr3, l1, l2, l3, hxy⟩ := HRING.out i hlt
   have hii : (i : Int) < (hd.l.length : Int) := by omega
   have hi0 : (0 : Int) ≤ (i : Int) := by omega
   have HRi := Lib.hid (HRG.out wr i HB11'.out)
   rw [hr1] at HRi
   have HVWi : Hid (∀ W, Below w11.heap.size w11 W → ∃ A' c', W.cell? ⟨gw, i, none⟩ = some (.slice A' wl.length c') ∧ Row W A' wl c') := Lib.hid fun W hb => by
    have h := HVW.out W hb
    rw [← hvl] at h
    exact RingsV.at_ h (by omega) hr2
   have HVIi : Hid (∀ W, Below w11.heap.size w11 W → ∃ A' c', W.cell? ⟨gi, i, none⟩ = some (.slice A' sl.length c') ∧ Row W A' sl c') := Lib.hid fun W hb => by
    have h := HVI.out W hb
    rw [← hil] at h
    exact RingsV.at_ h (by omega) hr3
   obtain ⟨L, hL⟩ : ∃ L, L = wl.length := ⟨_, rfl⟩
   have HL1 : Hid (r.length = L) := Lib.hid (by rw [hL]; exact l1)
   have HL2 : Hid (sl.length = L) := Lib.hid (by rw [hL]; exact l2)
   have HL3 : Hid (wl.length = L) := Lib.hid hL.symm
   have HXY := Lib.hid hxy
   have HBD : Hid (∀ (k : Nat) (x : Int × Int), r[k]? = some x → x.1 ≤ 4294967295) := Lib.hid fun k x hx => (ring_bd hr1 hx).2
   rw [← hL] at l3
   rw [HL3.out] at HVWi
   rw [HL2.out] at HVIi
   have HCN := Lib.hid l3
   clear hxy l1 l2 l3 hL hr1 hr2 hr3
   go_wp2_with first
    | (go_at_call 17; (with_reducible refine (HRi.out).mono ?_); (rintro e w14 ⟨v14, rfl, ho14, hb14⟩; obtain ⟨Ar, cr, rfl, hrr⟩ := ownp_row ho14; rw [HL1.out]; have HB14 := Lib.hid (HB.out.trans (hb14.mono HB.out.size)); have HR14 := Lib.hid hrr; have HW14 := Lib.hid (HB11'.out.trans (hb14.mono HB11'.out.size)); (obtain ⟨⟨d0, d1, d2⟩, _⟩ := HCELL.out _ (HBX.out.trans (hb14.mono HBX.out.size))); (obtain ⟨A5, c5, k5, _⟩ := HVWi.out _ HW14.out); clear hb14 ho14 hrr))
   go_loopw [29] (fun y wz => ∃ j : Nat, j ≤ L ∧ y = .int .i64 j ∧ Hid (Below w14.heap.size w14 wz)) (fun y _ => L - (intOf y).toNat)
   case atStart => exact ⟨0, Nat.zero_le _, rfl, Lib.hid (Below.refl _ _)⟩
   case round =>
    obtain ⟨j, hj, rfl, HBz⟩ := hrel
    have HWz : Hid (Below w11.heap.size w11 wr) := Lib.hid (HW14.out.trans (HBz.out.mono HW14.out.size))
    have HXz : Hid (Below X.heap.size X wr) := Lib.hid (HB11.out.trans (HWz.out.mono HB11.out.size))
    by_cases hjt : j < L
    ·obtain ⟨⟨d0, d1, d2⟩, _⟩ := HCELL.out _ HXz.out
     obtain ⟨A5', c5, k5, hw5⟩ := HVWi.out _ HWz.out
     obtain ⟨A6', c6, k6, hw6⟩ := HVIi.out _ HWz.out
     have hr5 := HR14.out.below HBz.out
     have hrA := (HROW.out _ HXz.out).1
     have e1 := HL1.out
     have e2 := HL2.out
     have e3 := HL3.out
     obtain ⟨b5, o5, rfl, q5⟩ := hw5.2 (by omega)
     obtain ⟨b6, o6, rfl, q6⟩ := hw6.2 (by omega)
     obtain ⟨br, or_, rfl, qr⟩ := hr5.2 (by omega)
     obtain ⟨bA, oA, rfl, qA⟩ := hrA.2 (by omega)
     have x0 := qr.st j (by omega)
     have x1' := qr.ct j (by omega)
     have y0 := q5.st j (by omega)
     have y1' := q5.ct j (by omega)
     have z0 := q6.st j (by omega)
     have z1' := q6.ct j (by omega)
     have s0' := qA.st i hlt
     have s1' := qA.ct i hlt
     have hcase := HXY.out j _ _ _ (At_some (l := r) (by omega)) (At_some (l := wl) (by omega)) (At_some (l := sl) (by omega))
     have hbd := HBD.out j _ (At_some (l := r) (by omega))
     have hns := HNS.out i hlt
     have htn := HTN.out
     have hjL : (j : Int) < (L : Int) := by omega
     have hj0 : (0 : Int) ≤ (j : Int) := by omega
     have hjc : (j : Int) ≤ 16777216 := by have := HCN.out; omega
     obtain ⟨st, hst⟩ : ∃ st, st = hd.step i := ⟨_, rfl⟩
     obtain ⟨ct, hct⟩ : ∃ ct, ct = hd.cnt i := ⟨_, rfl⟩
     have HRE : Hid (∀ W, Calls Tryz.prog 18 #[.agg #[.int .i64 st, .int .i64 ct], .int .i64 (Wh.At r j).1, .int .i64 (j : Int), .int .i64 now] W fun e w' => Asks st ct now (Wh.At r j).1 j e ∧ Below W.heap.size W w') := Lib.hid fun W => reached_any st ct now (Wh.At r j).1 j (by rw [hst]; exact hns.1.1) (by rw [hst]; exact hns.1.2) (by rw [hct]; exact hns.2.1) (by rw [hct]; exact hns.2.2) hbd htn.2 (by omega) hjc W
     rw [← hst, ← hct] at hcase
     change wr.cell? ⟨bA, oA + i * 2, none⟩ = some (.int .i64 (hd.step i)) at s0'
     change wr.cell? ⟨bA, oA + i * 2 + 1, none⟩ = some (.int .i64 (hd.cnt i)) at s1'
     rw [← hst] at s0'
     rw [← hct] at s1'
     clear hst hct hns htn hbd hw5 hw6 hr5 hrA q5 q6 qr qA
     generalize Wh.At r j = x at *
     generalize Wh.At wl j = y at *
     generalize Wh.At sl j = z at *
     obtain ⟨x1, x2⟩ := x
     obtain ⟨y1, y2⟩ := y
     obtain ⟨z1, z2⟩ := z
     dsimp only at *
     have HCS := Lib.hid hcase
     clear hcase e1 e2 e3
     have HNA : Hid (¬ (x1 = y1 ∧ x2 = y2) → ¬ (x1 = z1 ∧ x2 = z2) → ¬ Asked st ct now x1 j) := Lib.hid fun h1 h2 => by
      rcases HCS.out with h | h | h
      ·exact absurd ⟨(Prod.mk.inj h).1, (Prod.mk.inj h).2⟩ h1
      ·exact absurd ⟨(Prod.mk.inj h).1, (Prod.mk.inj h).2⟩ h2
      ·exact h
     have K0 := Lib.hid (show (fun W => W.cell? ⟨p, 2, none⟩ = some (.slice (some ⟨bA, oA, none⟩) hd.l.length cap) ∧ W.cell? ⟨gw, i, none⟩ = some (.slice (some ⟨b5, o5, none⟩) L c5) ∧ W.cell? ⟨gi, i, none⟩ = some (.slice (some ⟨b6, o6, none⟩) L c6) ∧ W.cell? ⟨br, or_ + j * 2, none⟩ = some (.int .i64 x1) ∧ W.cell? ⟨br, or_ + j * 2 + 1, none⟩ = some (.int .i64 x2) ∧ W.cell? ⟨b5, o5 + j * 2, none⟩ = some (.int .i64 y1) ∧ W.cell? ⟨b5, o5 + j * 2 + 1, none⟩ = some (.int .i64 y2) ∧ W.cell? ⟨b6, o6 + j * 2, none⟩ = some (.int .i64 z1) ∧ W.cell? ⟨b6, o6 + j * 2 + 1, none⟩ = some (.int .i64 z2) ∧ W.cell? ⟨bA, oA + i * 2, none⟩ = some (.int .i64 st) ∧ W.cell? ⟨bA, oA + i * 2 + 1, none⟩ = some (.int .i64 ct)) wr from ⟨d2, k5, k6, x0, x1', y0, y1', z0, z1', s0', s1'⟩)
     have g0 := fun d os => cell_regrown d2 d os
     have g1 := fun d os => cell_regrown k5 d os
     have g2 := fun d os => cell_regrown k6 d os
     have g3 := fun d os => cell_regrown x0 d os
     have g4 := fun d os => cell_regrown x1' d os
     have g5 := fun d os => cell_regrown y0 d os
     have g6 := fun d os => cell_regrown y1' d os
     have g7 := fun d os => cell_regrown z0 d os
     have g8 := fun d os => cell_regrown z1' d os
     have g9 := fun d os => cell_regrown s0' d os
     have g10 := fun d os => cell_regrown s1' d os
     clear d0 d1 d2 k5 k6 x0 x1' y0 y1' z0 z1' s0' s1' K0 HCS
     have hil : (i : Int) < (hd.l.length : Int) := by omega
     have hi0 : (0 : Int) ≤ (i : Int) := by omega
     by_cases hxy : x1 = y1 ∧ x2 = y2
     ·obtain ⟨rfl, rfl⟩ := hxy
      clear HNA HRE
      go_wp2_with fail
      refine wp_region_quiet_below (by kernel_rfl) (by kernel_rfl) ?_
      repeat (go_big_quiet_step (fail))
      refine wpQuiet_nil ?_
      intro _ hw'
      obtain ⟨⟨dq, osq⟩, hw''⟩ := hw'
      subst hw''
      have HBq := Lib.hid (HBz.out.trans ((below_regrown wr dq osq).mono HBz.out.size))
      clear g0 g1 g2 g3 g4 g5 g6 g7 g8 g9 g10
      generalize grow (redrawn wr dq) osq = wq at *
      go_wp2_with fail
      go_roundw
      case rel => exact ⟨j + 1, by omega, by go_num, HBq⟩
      case measure => simp [intOf]; omega
     have kxy : ¬ x1 = y1 ∨ (x1 = y1 ∧ ¬ x2 = y2) := by
      by_cases h : x1 = y1
      ·exact .inr ⟨h, fun h2 => hxy ⟨h, h2⟩⟩
      ·exact .inl h
     by_cases hxz : x1 = z1 ∧ x2 = z2
     ·obtain ⟨rfl, rfl⟩ := hxz
      clear HNA HRE hxy
      rcases kxy with kxy | ⟨rfl, kxy⟩
      all_goals
       go_wp2_with fail
       refine wp_region_quiet_below (by kernel_rfl) (by kernel_rfl) ?_
       repeat (go_big_quiet_step (fail))
       refine wpQuiet_nil ?_
       intro _ hw'
       obtain ⟨⟨dq, osq⟩, hw''⟩ := hw'
       subst hw''
       have HBq := Lib.hid (HBz.out.trans ((below_regrown wr dq osq).mono HBz.out.size))
       clear g0 g1 g2 g3 g4 g5 g6 g7 g8 g9 g10
       generalize grow (redrawn wr dq) osq = wq at *
       go_wp2_with fail
       go_roundw
       case rel => exact ⟨j + 1, by omega, by go_num, HBq⟩
       case measure => simp [intOf]; omega
     have HRF : Hid (∀ W, Calls Tryz.prog 18 #[.agg #[.int .i64 st, .int .i64 ct], .int .i64 x1, .int .i64 (j : Int), .int .i64 now] W fun e w' => e = .returned (.bool false) ∧ Below W.heap.size W w') := Lib.hid fun W => (HRE.out W).mono fun e w' ⟨⟨r, he, ha⟩, hb⟩ => by
      refine ⟨?_, hb⟩
      cases r
      ·exact he
      ·exact absurd (ha rfl) (HNA.out hxy hxz)
     have kxz : ¬ x1 = z1 ∨ (x1 = z1 ∧ ¬ x2 = z2) := by
      by_cases h : x1 = z1
      ·exact .inr ⟨h, fun h2 => hxz ⟨h, h2⟩⟩
      ·exact .inl h
     clear HRE HNA hxy hxz
     rcases kxy with kxy | ⟨rfl, kxy⟩
     all_goals
      rcases kxz with kxz | ⟨rfl, kxz⟩
     all_goals
      go_wp2_with fail
      refine wp_region_quiet_below (by kernel_rfl) (by kernel_rfl) ?_
      repeat (go_big_quiet_step ((go_at_call 18; exact Calls.regrown_of (HRF.out _))))
      refine wpQuiet_nil ?_
      intro _ hw'
      obtain ⟨⟨dq, osq⟩, hw''⟩ := hw'
      subst hw''
      have HBq := Lib.hid (HBz.out.trans ((below_regrown wr dq osq).mono HBz.out.size))
      clear g0 g1 g2 g3 g4 g5 g6 g7 g8 g9 g10
      generalize grow (redrawn wr dq) osq = wq at *
      go_wp2_with fail
      go_roundw
      case rel => exact ⟨j + 1, by omega, by go_num, HBq⟩
      case measure => simp [intOf]; omega
    ·obtain rfl : j = L := by omega
     have hh := HHL.out
     go_wp2_with fail
     go_roundw
     case rel => exact ⟨i + 1, by omega, by go_num, Lib.hid (HB14.out.trans (HBz.out.mono HB14.out.size))⟩
     case measure => simp [intOf]; omega
  ·obtain rfl : i = hd.l.length := by omega
   have HGW := Lib.hid (HGX.out _ HBX.out)
   go_wp2_with first
    | (go_at_call 19; (with_reducible refine (known7_any _ HGW.out).mono ?_); (rintro e w15 ⟨rfl, hb15⟩))
   go_ret
   exact ⟨rfl, HX.out.trans ((HBX.out.trans (hb15.mono HBX.out.size)).mono HX.out.size)⟩
end
section
open Go.RowKit Go.Sort
open Fx (Vl)
open Me
open Wp
theorem lawTorn7 (ag xf : Int) (l : List (Int × Int)) (A : Option Addr) (cap : Nat) (now : Int) (before : List (Int × Int)) (Ab : Option Addr) (cb : Nat) (pa pn n m : Int) (w : World) (hg : Gv w) (hr : Row w A l cap) (hp : Row w Ab before cb) :
 Calls Tryz.prog 3 #[.agg #[.int .i64 ag, .int .i64 xf, .slice A l.length cap], .int .i64 now, .slice Ab before.length cb, .agg #[.int .i64 pa, .int .i64 pn], .int .i64 n, .int .i64 m] w fun e w' => e = .returned (.bool true) ∧ Below w.heap.size w w' := by
 obtain ⟨X, hX⟩ : ∃ X, X = (w.alloc (.cells #[.int .i64 ag, .int .i64 xf, .slice A l.length cap] 24)).alloc (.cells #[.int .i64 pa, .int .i64 pn] 27) := ⟨_, rfl⟩
 have hbX : Below w.heap.size w X := by rw [hX]; exact ((Below.refl _ _).alloc (Nat.le_refl _) _).alloc (by simp) _
 have HX := Lib.hid hbX
 obtain ⟨p, hpw⟩ : ∃ p, p = w.heap.size := ⟨_, rfl⟩
 obtain ⟨q, hqw⟩ : ∃ q, q = w.heap.size + 1 := ⟨_, rfl⟩
 have hrx : RowAt X p 24 #[.int .i64 ag, .int .i64 xf, .slice A l.length cap] := by rw [hX, hpw]; exact (RowAt.new w _ _).below ((Below.refl _ _).alloc (Nat.le_refl _) _) (by simp)
 have HSM : Hid (∀ W, Below X.heap.size X W → Calls Tryz.prog 4 #[.agg #[.int .i64 ag, .int .i64 xf, .slice A l.length cap]] W fun e w' => e = .returned (.bool (Wh.val ag xf l && decide (Wh.size ag xf l ≤ 3000))) ∧ Below W.heap.size W w') := Lib.hid fun W hb => small_any ag xf l A cap W ((hr.below hbX).below hb)
 obtain ⟨b, hb⟩ : ∃ b, b = (Wh.val ag xf l && decide (Wh.size ag xf l ≤ 3000)) := ⟨_, rfl⟩
 rw [← hb] at HSM
 have HB := Lib.hid hb
 have HP := Lib.hid hp
 have HR := Lib.hid hr
 have HG := Lib.hid hg
 have y0 : X.cell? ⟨p, 0, none⟩ = some (.int .i64 ag) := hrx.cell 0
 have y1 : X.cell? ⟨p, 1, none⟩ = some (.int .i64 xf) := hrx.cell 1
 have y2 : X.cell? ⟨p, 2, none⟩ = some (.slice A l.length cap) := hrx.cell 2
 clear hb hbX hrx hg hr hp
 cases b
 ·clear HP HR HG
  go_enter Tryz.func3, Tryz.ntmps3
  go_wp2_with fail
  rw [← hX, ← hqw, ← hpw]
  clear hX hqw hpw
  go_wp2_with first
   | (go_at_call 4; (with_reducible refine (HSM.out _ (Below.refl _ _)).mono ?_); rintro e w1 ⟨rfl, hb1⟩; have HB1 := Lib.hid hb1; clear hb1)
  go_ret
  exact ⟨rfl, HX.out.trans (HB1.out.mono HX.out.size)⟩
 ·by_cases t1 : now < 1
  ·clear HP HR HG
   go_enter Tryz.func3, Tryz.ntmps3
   go_wp2_with fail
   rw [← hX, ← hqw, ← hpw]
   clear hX hqw hpw
   go_wp2_with first
    | (go_at_call 4; (with_reducible refine (HSM.out _ (Below.refl _ _)).mono ?_); rintro e w1 ⟨rfl, hb1⟩; have HB1 := Lib.hid hb1; clear hb1)
   go_ret
   exact ⟨rfl, HX.out.trans (HB1.out.mono HX.out.size)⟩
  by_cases t2 : 4294967295 < now
  ·clear HP HR HG
   go_enter Tryz.func3, Tryz.ntmps3
   go_wp2_with fail
   rw [← hX, ← hqw, ← hpw]
   clear hX hqw hpw
   go_wp2_with first
    | (go_at_call 4; (with_reducible refine (HSM.out _ (Below.refl _ _)).mono ?_); rintro e w1 ⟨rfl, hb1⟩; have HB1 := Lib.hid hb1; clear hb1)
   go_ret
   exact ⟨rfl, HX.out.trans (HB1.out.mono HX.out.size)⟩
  by_cases t3 : 20 < (before.length : Int)
  ·clear HP HR HG
   go_enter Tryz.func3, Tryz.ntmps3
   go_wp2_with fail
   rw [← hX, ← hqw, ← hpw]
   clear hX hqw hpw
   go_wp2_with first
    | (go_at_call 4; (with_reducible refine (HSM.out _ (Below.refl _ _)).mono ?_); rintro e w1 ⟨rfl, hb1⟩; have HB1 := Lib.hid hb1; clear hb1)
   go_ret
   exact ⟨rfl, HX.out.trans (HB1.out.mono HX.out.size)⟩
  by_cases t4 : n < 0
  ·clear HP HR HG
   go_enter Tryz.func3, Tryz.ntmps3
   go_wp2_with fail
   rw [← hX, ← hqw, ← hpw]
   clear hX hqw hpw
   go_wp2_with first
    | (go_at_call 4; (with_reducible refine (HSM.out _ (Below.refl _ _)).mono ?_); rintro e w1 ⟨rfl, hb1⟩; have HB1 := Lib.hid hb1; clear hb1)
   go_ret
   exact ⟨rfl, HX.out.trans (HB1.out.mono HX.out.size)⟩
  by_cases t5 : m < 0
  ·clear HP HR HG
   go_enter Tryz.func3, Tryz.ntmps3
   go_wp2_with fail
   rw [← hX, ← hqw, ← hpw]
   clear hX hqw hpw
   go_wp2_with first
    | (go_at_call 4; (with_reducible refine (HSM.out _ (Below.refl _ _)).mono ?_); rintro e w1 ⟨rfl, hb1⟩; have HB1 := Lib.hid hb1; clear hb1)
   go_ret
   exact ⟨rfl, HX.out.trans (HB1.out.mono HX.out.size)⟩
  by_cases t6 : 100 < n
  ·clear HP HR HG
   go_enter Tryz.func3, Tryz.ntmps3
   go_wp2_with fail
   rw [← hX, ← hqw, ← hpw]
   clear hX hqw hpw
   go_wp2_with first
    | (go_at_call 4; (with_reducible refine (HSM.out _ (Below.refl _ _)).mono ?_); rintro e w1 ⟨rfl, hb1⟩; have HB1 := Lib.hid hb1; clear hb1)
   go_ret
   exact ⟨rfl, HX.out.trans (HB1.out.mono HX.out.size)⟩
  by_cases t7 : 12 < m
  ·clear HP HR HG
   go_enter Tryz.func3, Tryz.ntmps3
   go_wp2_with fail
   rw [← hX, ← hqw, ← hpw]
   clear hX hqw hpw
   go_wp2_with first
    | (go_at_call 4; (with_reducible refine (HSM.out _ (Below.refl _ _)).mono ?_); rintro e w1 ⟨rfl, hb1⟩; have HB1 := Lib.hid hb1; clear hb1)
   go_ret
   exact ⟨rfl, HX.out.trans (HB1.out.mono HX.out.size)⟩
  have hv := HB.out.symm
  rw [Bool.and_eq_true] at hv
  exact torn_main ⟨ag, xf, l⟩ A cap now before Ab cb pa pn n m w HG.out HR.out HP.out hv.1 (of_decide_eq_true hv.2) t1 t2 t3 t4 t5 t6 t7
end
end Go.Proofs.YtljlanhpjpjgaaaGreatDoor
