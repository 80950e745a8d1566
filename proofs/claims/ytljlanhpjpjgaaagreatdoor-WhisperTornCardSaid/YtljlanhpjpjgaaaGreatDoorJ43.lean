/- WqUp WpCr WqCr -/
import Derived.Test.YtljlanhpjpjgaaaGreatDoorJ1
import Derived.Test.YtljlanhpjpjgaaaGreatDoorJ41
import Derived.Test.YtljlanhpjpjgaaaGreatDoorJ34
import Derived.Test.YtljlanhpjpjgaaaGreatDoorJ26
import Derived.Test.YtljlanhpjpjgaaaGreatDoorJ15
import Derived.Test.YtljlanhpjpjgaaaGreatDoorJ21
import Derived.Test.YtljlanhpjpjgaaaGreatDoorJ23
import Derived.Test.YtljlanhpjpjgaaaGreatDoorJ33
import Derived.Test.YtljlanhpjpjgaaaGreatDoorJ7
import Derived.Test.YtljlanhpjpjgaaaGreatDoorJ6
namespace Go.Proofs.YtljlanhpjpjgaaaGreatDoor
set_option maxRecDepth 100000
set_option maxHeartbeats 8000000
section
open Go.RowKit Go.Sort
open Fx (Vl)
open Me
open Wp
theorem update_any7 {w : World} {V : Nat → Prop} {c fs : Nat} {S : Vf.Sv} (ro : PO w V fs c S) (hg : Gv w) (hV0 : V 0) (n : List UInt8) (now : Int) (l : List (Int × Int)) (Ap : Option Addr) (capp : Nat) (hp : Row w Ap l capp) (hVp : 0 < l.length → ∀ a, Ap = some a → V a.block) (hc : c + 27 * l.length ≤ 497000) :
 Calls Tryz.prog 11 #[.pointer (some ⟨fs, 0, none⟩), .string ⟨n.toArray⟩, .int .i64 now, .slice Ap l.length capp] w fun e w' => e = .returned (.tuple #[.int .i64 (update S n now l).2.1, .int .i64 (update S n now l).2.2]) ∧ PO w' V fs (c + 27 * l.length) (update S n now l).1 ∧ Kp (fun b => ¬ V b) w w' := by
 have HIN := Lib.hid (open_any ro n)
 have HNW : Hid (∀ W, Calls Tryz.prog 33 #[.int .i64 now] W fun e w' => e = .returned (.bool (decide (1 ≤ now ∧ now ≤ 4294967295))) ∧ W = w') := Lib.hid fun W => isnow_any now W
 have HRO := Lib.hid ro
 have HP := Lib.hid hp
 have HG := Lib.hid hg
 have HE1 := Lib.hid (update_err (S := S) (n := n) (now := now) (l := l))
 have HE2 := Lib.hid (update_now (S := S) (n := n) (now := now) (l := l))
 have HE3 := Lib.hid (update_yes (S := S) (n := n) (now := now) (l := l))
 have HVL := Lib.hid (info_file (l := S.now) (n := n))
 clear ro hp hg
 generalize info S.now n = R at *
 generalize update S n now l = Q at *
 obtain ⟨⟨ag, xf, hl⟩, er⟩ := R
 by_cases he : er = 0
 ·subst he
  obtain ⟨B0, hB0⟩ := HVL.out rfl
  have hv := hB0.val
  have hlen := Hd.len hv
  by_cases ht : now < 1 ∨ 4294967295 < now
  ·have HQ := Lib.hid (HE2.out rfl ht)
   have hnb : decide (1 ≤ now ∧ now ≤ 4294967295) = false := decide_eq_false (by omega)
   rw [hnb] at HNW
   clear HE1 HE2 HE3 HVL ht hnb
   go_enter Tryz.func11, Tryz.ntmps11
   go_wp2_with first
    | (go_at_call 32; (with_reducible refine (HIN.out).mono ?_); rintro e w1 ⟨A1, c1, p1, s1, rfl, hps, hrow, hfr, hb1⟩; have HB1 := Lib.hid hb1; clear hb1 hrow hfr hps)
    | (go_at_call 33; ((with_reducible refine (HNW.out _).mono ?_); rintro e w' ⟨rfl, rfl⟩))
   ((try simp only [Exit.inBlock, Exit.then]); refine bodyPost_ret (results_tmp2 rfl _ _ _) rfl ?_)
   exact ⟨by rw [HQ.out]; rfl, by rw [HQ.out]; exact ((HRO.out.below HB1.out).below ((Below.refl _ _).alloc (Nat.le_refl _) _)).more (by omega) (fun _ h => h), Kp.of_below (HB1.out.alloc HB1.out.size _)⟩
  ·have hn1 : 1 ≤ now := by omega
   have hn2 : now ≤ 4294967295 := by omega
   have HQ := Lib.hid (HE3.out rfl hn1 hn2)
   have hnb : decide (1 ≤ now ∧ now ≤ 4294967295) = true := decide_eq_true ⟨hn1, hn2⟩
   rw [hnb] at HNW
   clear HE1 HE2 HE3 HVL ht hnb
   go_enter Tryz.func11, Tryz.ntmps11
   go_wp2_with first
    | (go_at_call 32; (with_reducible refine (HIN.out).mono ?_); rintro e w1 ⟨A1, c1, p1, s1, rfl, hps, hrow, hfr, hb1⟩; obtain ⟨rfl, rfl⟩ := hps rfl; have HB1 := Lib.hid hb1; have HROW := Lib.hid hrow; have HFR := Lib.hid hfr; have hs1 := hb1.size; clear hb1 hrow hfr)
    | (go_at_call 33; ((with_reducible refine (HNW.out _).mono ?_); rintro e w' ⟨rfl, rfl⟩))
   obtain ⟨X, hXe⟩ : ∃ X, X = w1.alloc (.cells #[.int .i64 ag, .int .i64 xf, .slice A1 hl.length c1, .pointer (some ⟨fs, 0, none⟩), .string ⟨n.toArray⟩] 84) := ⟨_, rfl⟩
   obtain ⟨x, hx⟩ : ∃ x, x = w1.heap.size := ⟨_, rfl⟩
   have HX : Hid (Below w.heap.size w X) := Lib.hid (by rw [hXe]; exact HB1.out.alloc hs1 _)
   have HRX : Hid (RowAt X x 84 #[.int .i64 ag, .int .i64 xf, .slice A1 hl.length c1, .pointer (some ⟨fs, 0, none⟩), .string ⟨n.toArray⟩]) := Lib.hid (by rw [hXe, hx]; exact RowAt.new _ _ _)
   have HRAX : Hid (Row X A1 hl c1) := Lib.hid (by rw [hXe]; exact HROW.out.below ((Below.refl _ _).alloc (Nat.le_refl _) _))
   have hxs : w.heap.size ≤ x ∧ x < X.heap.size := ⟨by omega, HRX.out.lt⟩
   rw [← hXe, ← hx]
   clear hXe hx
   obtain ⟨V', hV'⟩ : ∃ V' : Nat → Prop, ∀ i, V' i ↔ (V i ∨ (w.heap.size ≤ i ∧ i < X.heap.size)) := ⟨_, fun _ => Iff.rfl⟩
   have HV := Lib.hid hV'
   have HROX : Hid (PO X V' fs c S) := Lib.hid (HRO.out.add HX.out fun i hi => (hV' i).1 hi)
   have HVx : Hid (V' x ∧ V' 0) := Lib.hid ⟨(hV' x).2 (.inr hxs), (hV' 0).2 (.inl hV0)⟩
   have HVA : Hid (∀ a, A1 = some a → V' a.block) := Lib.hid fun a e => (hV' _).2 (.inr ⟨HFR.out a e, by
    obtain ⟨b, off, e2, ha⟩ := HRAX.out.2 (by omega)
    rw [e] at e2
    cases e2
    exact ha.lt⟩)
   have HVP : Hid (0 < l.length → ∀ a, Ap = some a → V' a.block) := Lib.hid fun h0 a e => (hV' _).2 (.inl (hVp h0 a e))
   have HPX := Lib.hid (HP.out.below HX.out)
   have HGX := Lib.hid (HG.out.below HX.out)
   clear hV' hs1
   obtain ⟨H, hH⟩ : ∃ H, Hid (H = (⟨ag, xf, hl⟩ : Hd)) := ⟨_, Lib.hid rfl⟩
   have hB0' : Fits S.now n H B0 := by rw [hH.out]; exact hB0
   have HB00 := Lib.hid hB0'
   rw [← hH.out] at HQ
   have HFV : Hid (fileV H A1 c1 fs n = .agg #[.int .i64 ag, .int .i64 xf, .slice A1 hl.length c1, .pointer (some ⟨fs, 0, none⟩), .string ⟨n.toArray⟩]) := Lib.hid (by rw [hH.out]; rfl)
   have HHL : Hid (H.l = hl) := Lib.hid (by rw [hH.out])
   clear hB0 hB0' hv HB1 HROW HFR HIN HRO HG HP hVp
   have hKB : Hid (∀ W, Kp (fun b => ¬ V' b) X W → RowAt W x 84 #[.int .i64 ag, .int .i64 xf, .slice A1 hl.length c1, .pointer (some ⟨fs, 0, none⟩), .string ⟨n.toArray⟩] ∧ Row W A1 H.l c1 ∧ Row W Ap l capp ∧ Gv W) := Lib.hid fun W hk => by
    refine ⟨(hk.block x HRX.out.lt (fun o => o HVx.out.1)).trans HRX.out, ?_, ?_, HGX.out.keep HVx.out.2 hk⟩
    ·rw [HHL.out]
     refine row_kept HRAX.out fun a e => hk.block _ ?_ (fun o => o (HVA.out a e))
     obtain ⟨b, off, e2, ha⟩ := HRAX.out.2 (by omega)
     rw [e] at e2
     cases e2
     exact ha.lt
    ·by_cases h0 : 0 < l.length
     ·refine row_kept HPX.out fun a e => hk.block _ ?_ (fun o => o (HVP.out h0 a e))
      obtain ⟨b, off, e2, ha⟩ := HPX.out.2 h0
      rw [e] at e2
      cases e2
      exact ha.lt
     ·exact ⟨HPX.out.1, fun h => absurd h h0⟩
   go_wp2_with fail
   go_loopw [12, 14, 29] (fun u _ v wr => ∃ (i : Nat) (Si : Vf.Sv) (k : Int) (Bi : List UInt8), i ≤ l.length ∧ v = .int .i64 i ∧ u = .int .i64 k ∧ 0 ≤ k ∧ k ≤ i ∧ Hid (PO wr V' fs (c + 27 * i) Si) ∧ Hid (Kp (fun b => ¬ V' b) X wr) ∧ Hid (layAll n H now l S 0 = layAll n H now (l.drop i) Si k) ∧ Hid (Fits Si.now n H Bi)) (fun _ _ v _ => l.length - (intOf v).toNat)
   case atStart => exact ⟨0, S, 0, B0, Nat.zero_le _, rfl, rfl, Int.le_refl _, Int.le_refl _, HROX, Lib.hid (Kp.refl _ _), Lib.hid rfl, HB00⟩
   case round =>
    obtain ⟨i, Si, k, Bi, hi, rfl, rfl, k0, k1, HRi, HKi, HLi, HFi⟩ := hrel
    obtain ⟨hrx, hra, hrp, hgv⟩ := hKB.out wr HKi.out
    have hll : (l.length : Int) ≤ 20000 := by omega
    by_cases hlt : i < l.length
    ·obtain ⟨b, off, rfl, har⟩ := hrp.2 (by omega)
     have c0 := har.st i hlt
     have c1' := har.ct i hlt
     have hbl := har.lt
     have e1 : Wh.At l i = l[i] := by unfold Wh.At; rw [List.getD_eq_getElem?_getD, List.getElem?_eq_getElem hlt]; rfl
     rw [e1] at c0 c1'
     have HST := Lib.hid (layAll_step (n := n) (h := H) (now := now) hlt (S := Si) (k := k))
     have hil : (i : Int) < (l.length : Int) := by omega
     have hi0 : (0 : Int) ≤ (i : Int) := by omega
     have HLY : Hid (∀ pa pn W, Below wr.heap.size wr W → Calls Tryz.prog 34 #[.agg #[.int .i64 ag, .int .i64 xf, .slice A1 hl.length c1, .pointer (some ⟨fs, 0, none⟩), .string ⟨n.toArray⟩], .int .i64 now, .agg #[.int .i64 pa, .int .i64 pn]] W fun e w' => e = .returned (.bool (lays Si n H now (pa, pn)).2) ∧ PO w' V' fs (c + 27 * i + 27) (lays Si n H now (pa, pn)).1 ∧ Kp (fun b => ¬ V' b) W w') := Lib.hid fun pa pn W hb => by
      have h := store_any (cap := c1) (HRi.out.below hb) (by omega) (hgv.below hb) HVx.out.2 HFi.out (hra.below hb) HVA.out now hn1 hn2 pa pn
      rw [HFV.out] at h
      exact h
     have HFN : Hid (∀ p, ∃ B', Fits (lays Si n H now p).1.now n H B') := Lib.hid fun p => HFi.out.lays now p
     have y0 : wr.cell? ⟨x, 0, none⟩ = some (.int .i64 ag) := hrx.cell 0
     have y1 : wr.cell? ⟨x, 1, none⟩ = some (.int .i64 xf) := hrx.cell 1
     have y2 : wr.cell? ⟨x, 2, none⟩ = some (.slice A1 hl.length c1) := hrx.cell 2
     have y3 : wr.cell? ⟨x, 3, none⟩ = some (.pointer (some ⟨fs, 0, none⟩)) := hrx.cell 3
     have y4 : wr.cell? ⟨x, 4, none⟩ = some (.string ⟨n.toArray⟩) := hrx.cell 4
     have hxl := hrx.lt
     clear hrx hra hrp hgv har e1
     generalize l[i] = pt at *
     obtain ⟨pa, pn⟩ := pt
     have HL1 := Lib.hid (HLY.out pa pn)
     obtain ⟨Bn, hBn⟩ := HFN.out (pa, pn)
     have HBN := Lib.hid hBn
     clear HLY HFN hBn
     generalize hgl : lays Si n H now (pa, pn) = R at *
     clear hgl
     obtain ⟨R1, R2⟩ := R
     have hwk : IntKind.i64.wrap (k + 1) = k + 1 := IntWalk.i64_in _ (by omega)
     have hwi : IntKind.i64.wrap ((i : Int) + 1) = (i : Int) + 1 := IntWalk.i64_in _ (by omega)
     cases R2
     ·go_wp2_with (go_at_call 34; (with_reducible refine (HL1.out _ ((Below.refl _ _).alloc (Nat.le_refl _) _)).mono ?_); rintro e w5 ⟨rfl, hro5, hk5⟩; have HRO5 := Lib.hid hro5; have HK5 : Hid (Kp (fun b => ¬ V' b) wr w5) := Lib.hid ((Kp.of_below ((Below.refl _ _).alloc (Nat.le_refl _) _)).trans hk5 (fun _ _ h => h)); clear hro5 hk5)
      go_roundw
      case rel => exact ⟨i + 1, R1, k, Bn, by omega, by go_num, rfl, k0, by omega, Lib.hid (HRO5.out.more (by omega) (fun _ h => h)), Lib.hid (HKi.out.trans HK5.out (fun _ _ h => h)), Lib.hid (by rw [HLi.out, HST.out]; rfl), HBN⟩
      case measure => simp [intOf]; omega
     ·go_wp2_with (go_at_call 34; (with_reducible refine (HL1.out _ ((Below.refl _ _).alloc (Nat.le_refl _) _)).mono ?_); rintro e w5 ⟨rfl, hro5, hk5⟩; have HRO5 := Lib.hid hro5; have HK5 : Hid (Kp (fun b => ¬ V' b) wr w5) := Lib.hid ((Kp.of_below ((Below.refl _ _).alloc (Nat.le_refl _) _)).trans hk5 (fun _ _ h => h)); clear hro5 hk5)
      go_roundw
      case rel => exact ⟨i + 1, R1, k + 1, Bn, by omega, by go_num, rfl, by omega, by omega, Lib.hid (HRO5.out.more (by omega) (fun _ h => h)), Lib.hid (HKi.out.trans HK5.out (fun _ _ h => h)), Lib.hid (by rw [HLi.out, HST.out]; rfl), HBN⟩
      case measure => simp [intOf]; omega
    ·have hil : i = l.length := by omega
     have HLE : Hid (layAll n H now l S 0 = (Si, k)) := Lib.hid (by rw [HLi.out, List.drop_of_length_le (by omega)]; rfl)
     have hiI : ¬ (i : Int) < (l.length : Int) := by omega
     have HSY := Lib.hid (posync HRi.out)
     clear hrx hra hrp hgv
     go_wp2_with (go_at_call 31; (with_reducible refine (HSY.out).mono ?_); rintro e w5 ⟨rfl, hro5, hk5⟩; have HRO5 := Lib.hid hro5; have HK5 := Lib.hid hk5; clear hro5 hk5)
     ((try simp only [Exit.inBlock, Exit.then]); refine bodyPost_ret (results_tmp2 rfl _ _ _) rfl ?_)
     exact ⟨by rw [HQ.out, HLE.out]; rfl, by rw [HQ.out, HLE.out]; exact HRO5.out.more (by omega) (fun i hi => (HV.out i).2 (.inl hi)), (Kp.of_below HX.out).trans ((HKi.out.trans HK5.out (fun _ _ h => h)).mono (fun i _ ho hv => ho ((HV.out i).2 (.inl hv)))) (fun _ _ h => h)⟩
 ·have HQ := Lib.hid (HE1.out he)
  have heb : (er == 0) = false := by simpa using he
  clear HE1 HE2 HE3 HVL
  go_enter Tryz.func11, Tryz.ntmps11
  go_wp2_with (go_at_call 32; (with_reducible refine (HIN.out).mono ?_); rintro e w1 ⟨A1, c1, p1, s1, rfl, hps, hrow, hfr, hb1⟩; have HB1 := Lib.hid hb1; clear hb1 hrow hfr hps)
  ((try simp only [Exit.inBlock, Exit.then]); refine bodyPost_ret (results_tmp2 rfl _ _ _) rfl ?_)
  exact ⟨by rw [HQ.out]; rfl, by rw [HQ.out]; exact ((HRO.out.below HB1.out).below ((Below.refl _ _).alloc (Nat.le_refl _) _)).more (by omega) (fun _ h => h), Kp.of_below (HB1.out.alloc HB1.out.size _)⟩
end
section
open Go.RowKit Go.Sort
open Fx (Vl)
open Me
open Wp
theorem zeros_made (n : Nat) : madeCells #[.int .u8 0] n = (by8 (List.replicate n 0)).toArray := by
 apply Array.ext
 ·rw [size_madeCells]; simp [by8_len]
 ·intro i h1 h2
  simp [madeCells, by8, Nat.mod_one]
theorem zeros_make (n : Nat) (hn : n ≤ 4294967296) (W : World) : (Instr.makeSlice 45 (.int .i64 (n : Int)) (.int .i64 (n : Int))).run Tryz.prog W = .ok (.slice (some ⟨W.heap.size, 0, none⟩) n n) (W.alloc (.cells (by8 (List.replicate n 0)).toArray 5)) := by
 obtain ⟨i0, hi0, hz0, hz1, hz2⟩ := info_parts u8info
 have h := run_make (P := Tryz.prog) W 45 5 i0 (.int .u8 0) Tryz.underlying45 hi0 hz0 .i64 .i64 (n : Int) (n : Int) (by omega) (by omega) (by rw [hz2]; omega) (by omega)
 rw [hz1, show (Value.int .u8 0).cells = #[.int .u8 0] from rfl, Nat.mul_one, Int.toNat_natCast, zeros_made] at h
 exact h
theorem ps_two {base base2 g : Nat} {w : World} {v v2 : Value} {L L2 : List UInt8} (h : BsT base w v L) (h2 : BsT base2 w v2 L2) (hg : RowAt w g 45 #[v, v2]) : Vf.Ps w (fun _ => True) (.slice (some ⟨g, 0, none⟩) 2 2) [L, L2] := by
 obtain ⟨A, c, e, k1, k2, hr⟩ := h
 obtain ⟨A', c', e', k1', k2', hr'⟩ := h2
 refine ⟨some ⟨g, 0, none⟩, 2, [v, v2], rfl, Nat.le_refl _, by unfold maxLen; omega, fun _ => ⟨_, rfl, hg.lt, trivial, fun j u hu => ?_⟩, ⟨[v], [v2], rfl, ⟨v, rfl, A, c, e, k1, k2, hr.mono fun _ _ _ => trivial⟩, [v2], [], rfl, ⟨v2, rfl, A', c', e', k1', k2', hr'.mono fun _ _ _ => trivial⟩, rfl⟩⟩
 rw [Addr.add_lit, Nat.zero_add, hg.cell]
 simpa using hu
theorem Wp.enc_size {h : Hd} (hv : h.val = true) : ∃ k : Nat, h.size = ((Wh.enc h.ag h.xf h.l).length : Int) + k ∧ k ≤ 1048576 ∧ (Wh.enc h.ag h.xf h.l).length ≤ 1048576 := by
 obtain ⟨_, _, _, ha⟩ := Wh.val_t hv
 obtain ⟨a1, a2, a3, a4, a5⟩ := Wh.av_t ha
 have he : (Wh.enc h.ag h.xf h.l).length = 16 + 12 * h.l.length := by
  unfold Wh.enc; rw [if_pos (show Wh.val h.ag h.xf h.l = true from hv), Wh.fours_len, Wh.ints_len]; omega
 have hs : h.size = Wh.ends h.l h.l.length := by unfold Hd.size Wh.size; rw [if_pos (show Wh.val h.ag h.xf h.l = true from hv)]
 have hsm := Wh.sm_bd (Wh.alls_cnt a3) h.l.length (Nat.le_refl _)
 have hen : Wh.ends h.l h.l.length = 16 + 12 * (h.l.length : Int) + Wh.sm h.l h.l.length := rfl
 refine ⟨(Wh.sm h.l h.l.length).toNat, ?_, by omega, by omega⟩
 rw [hs, he, hen]
 omega
theorem Wp.create_no {S : Vf.Sv} {n : List UInt8} {h : Hd} (hv : h.val = false) : Wp.create S n h = (S, 1) := by unfold Wp.create; rw [if_pos hv]
theorem Wp.create_yes {S : Vf.Sv} {n : List UInt8} {h : Hd} {k : Nat} (hv : h.val = true) (hk : h.size = ((Wh.enc h.ag h.xf h.l).length : Int) + k) :
 Wp.create S n h = if (Vf.create S n (Wh.enc h.ag h.xf h.l ++ List.replicate k 0)).2 = 0 then ({ (Vf.create S n (Wh.enc h.ag h.xf h.l ++ List.replicate k 0)).1 with was := (Vf.create S n (Wh.enc h.ag h.xf h.l ++ List.replicate k 0)).1.now, l := [] }, 0) else ((Vf.create S n (Wh.enc h.ag h.xf h.l ++ List.replicate k 0)).1, (Vf.create S n (Wh.enc h.ag h.xf h.l ++ List.replicate k 0)).2) := by
 have e : (h.size - ((Wh.enc h.ag h.xf h.l).length : Int)).toNat = k := by omega
 unfold Wp.create
 rw [if_neg (by rw [hv]; simp)]
 dsimp only
 rw [e]
theorem two_below {B : Nat} (w : World) (o o' : Obj) (hB : B ≤ w.heap.size) : Below B w ((w.alloc o).alloc o') := ((Below.refl _ _).alloc hB _).alloc (by simp; omega) _
theorem two_row (w : World) (o : Obj) (cs : Array Value) {t : TypeId} : RowAt ((w.alloc o).alloc (.cells cs t)) (w.heap.size + 1) t cs := by
 rw [show w.heap.size + 1 = (w.alloc o).heap.size by simp]
 exact RowAt.new _ _ _
theorem two_zero (w : World) (k : Nat) (hk : k ≤ 1048576) (o : Obj) : BsT 0 ((w.alloc (.cells (by8 (List.replicate k 0)).toArray 5)).alloc o) (.slice (some ⟨w.heap.size, 0, none⟩) k k) (List.replicate k 0) := by
 have h := OwnB.fresh w (List.replicate k 0) 0 (Nat.zero_le _) (by rw [List.length_replicate]; exact hk)
 rw [List.length_replicate] at h
 exact BsT.own (h.below ((Below.refl _ _).alloc (Nat.le_refl _) _)) (Nat.zero_le _)
theorem rcreate_any {w : World} {V : Nat → Prop} {c fs : Nat} {S : Vf.Sv} (ro : RO w V fs c S) (hc : c ≤ 999900) (n : List UInt8) (h : Hd) (A : Option Addr) (cap : Nat) (hrow : Row w A h.l cap) :
 Calls Tryz.prog 6 #[.pointer (some ⟨fs, 0, none⟩), .string ⟨n.toArray⟩, .agg #[.int .i64 h.ag, .int .i64 h.xf, .slice A h.l.length cap]] w fun e w' => e = .returned (.int .i64 (Wp.create S n h).2) ∧ RO w' V fs (c + 1) (Wp.create S n h).1 ∧ Kp (fun b => ¬ V b) w w' := by
 have HEN : Hid (∀ W, Below w.heap.size w W → Calls Tryz.prog 22 #[.agg #[.int .i64 h.ag, .int .i64 h.xf, .slice A h.l.length cap]] W (Coded W (Wh.enc h.ag h.xf h.l) (if Wh.val h.ag h.xf h.l = true then 0 else 1))) := Lib.hid fun W hb => rencode_any _ _ _ A cap W (hrow.below hb)
 have HSZ : Hid (∀ W, Below w.heap.size w W → Calls Tryz.prog 21 #[.agg #[.int .i64 h.ag, .int .i64 h.xf, .slice A h.l.length cap]] W fun e w' => e = .returned (.int .i64 h.size) ∧ Below W.heap.size W w') := Lib.hid fun W hb => rsize_any _ _ _ A cap W (hrow.below hb)
 have HRO := Lib.hid ro
 clear ro hrow
 have hX : Below w.heap.size w (w.alloc (.cells #[.int .i64 h.ag, .int .i64 h.xf, .slice A h.l.length cap] 24)) := (Below.refl _ _).alloc (Nat.le_refl _) _
 cases hv : h.val
 ·have HQ := Lib.hid (create_no (S := S) (n := n) hv)
  rw [show Wh.val h.ag h.xf h.l = false from hv] at HEN
  simp only [Bool.false_eq_true, if_false] at HEN
  clear hv HSZ
  generalize Wp.create S n h = Q at *
  generalize Wh.enc h.ag h.xf h.l = E at *
  generalize h.ag = ag at *
  generalize h.xf = xf at *
  go_enter Tryz.func6, Tryz.ntmps6
  go_wp2_with (go_at_call 22; (with_reducible refine (HEN.out _ hX).mono ?_); rintro e w1 ⟨v1, rfl, ho1, hb1⟩; have HB1 := Lib.hid (hX.trans (hb1.mono hX.size)); clear hb1 ho1)
  go_ret
  exact ⟨by rw [HQ.out]; rfl, by rw [HQ.out]; exact (HRO.out.below HB1.out).more (by omega) (fun _ h => h), Kp.of_below HB1.out⟩
 ·obtain ⟨k, hk, k1, k2⟩ := enc_size hv
  have HQ := Lib.hid (create_yes (S := S) (n := n) hv hk)
  rw [show Wh.val h.ag h.xf h.l = true from hv] at HEN
  simp only [if_true] at HEN
  rw [hk] at HSZ
  clear hv hk
  generalize Wp.create S n h = Q at *
  generalize hE : Wh.enc h.ag h.xf h.l = E at *
  clear hE
  have hmk := zeros_make k (by omega)
  generalize hCR : Vf.create S n (E ++ List.replicate k 0) = R at *
  have HCR := Lib.hid hCR
  clear hCR
  obtain ⟨m, hm⟩ : ∃ m, Hid (m = E.length) := ⟨_, Lib.hid rfl⟩
  rw [← hm.out] at HSZ k2
  have hsub : ((m : Int) + (k : Int)) - (m : Int) = (k : Int) := by omega
  have hwk : IntKind.i64.wrap (k : Int) = (k : Int) := IntWalk.i64_in _ (by omega)
  generalize h.ag = ag at *
  generalize h.xf = xf at *
  obtain ⟨sz, hsz⟩ : ∃ sz, (m : Int) + (k : Int) = sz := ⟨_, rfl⟩
  rw [hsz] at HSZ hsub
  have HFC : Hid (∀ W b0 v1 v2, Below w.heap.size w W → BsT 0 W v1 E → BsT 0 W v2 (List.replicate k 0) → RowAt W b0 45 #[v1, v2] → Calls Tryz.prog 23 #[.pointer (some ⟨fs, 0, none⟩), .string ⟨n.toArray⟩, .slice (some ⟨b0, 0, none⟩) 2 2] W fun e w' => e = .returned (.int .i64 R.2) ∧ RO w' V fs (c + 1) R.1 ∧ Kp (fun b => ¬ V b) W w') := Lib.hid fun W b0 v1 v2 hb h1 h2 hg => by
   have hfl : [E, List.replicate k 0].flatten = E ++ List.replicate k 0 := by simp
   have h := rocreate (HRO.out.below hb) (by omega) n [E, List.replicate k 0] _ (ps_two h1 h2 hg) (by simp) (by rw [hfl, List.length_append, List.length_replicate]; have := hm.out; omega)
   rw [hfl, HCR.out] at h
   exact h
  by_cases hr0 : R.2 = 0
  ·have HQ2 : Hid (Q = ({ R.1 with was := R.1.now, l := [] }, 0)) := Lib.hid (by rw [HQ.out, if_pos hr0])
   rw [hr0] at HFC
   clear HQ hr0
   go_enter Tryz.func6, Tryz.ntmps6
   go_wp2_with first
    | (go_at_call 22; (with_reducible refine (HEN.out _ hX).mono ?_); rintro e w1 ⟨v1, rfl, ho1, hb1⟩; have hbx := hb1; have HB1 := Lib.hid (hX.trans (hb1.mono hX.size)); have HO1 := Lib.hid ho1; obtain ⟨hc1, hf1⟩ := bcell hb1; have hq1 : w.heap.size < w1.heap.size := Nat.lt_of_lt_of_le (by simp) hb1.size; obtain ⟨A1, c1, rfl, _⟩ := ho1.lit; rw [← hm.out] at *; clear hb1 ho1 hbx)
    | (go_at_call 21; (with_reducible refine (HSZ.out _ HB1.out).mono ?_); rintro e w2 ⟨rfl, hb2⟩; have HB2 := Lib.hid (HB1.out.trans (hb2.mono HB1.out.size)); have HO2 := Lib.hid (HO1.out.below hb2); have hs2 := hb2.size; clear hb2)
    | (go_at_call 23; (with_reducible refine (HFC.out _ _ _ _ (HB2.out.trans (two_below w2 _ _ HB2.out.size)) (BsT.own (HO2.out.below (two_below w2 _ _ (Nat.le_refl _))) (Nat.zero_le _)) (two_zero w2 k (by omega) _) (two_row w2 _ _)).mono ?_); rintro e w3 ⟨rfl, hro3, hk3⟩; have HRO3 := Lib.hid hro3; have HK3 : Hid (Kp (fun b => ¬ V b) w w3) := Lib.hid ((Kp.of_below (HB2.out.trans (two_below w2 _ _ HB2.out.size))).trans hk3 (fun _ _ h => h)); clear hro3 hk3)
    | (go_at_call 24; (with_reducible refine (rosync HRO3.out).mono ?_); rintro e w4 ⟨rfl, hro4, hk4⟩)
   go_ret
   exact ⟨by rw [HQ2.out]; rfl, by rw [HQ2.out]; exact hro4, HK3.out.trans hk4 (fun _ _ h => h)⟩
  ·have HQ2 : Hid (Q = (R.1, R.2)) := Lib.hid (by rw [HQ.out, if_neg hr0])
   obtain ⟨R1, r⟩ := R
   have hrb : (r == 0) = false := by simpa using hr0
   clear HQ hr0
   go_enter Tryz.func6, Tryz.ntmps6
   go_wp2_with first
    | (go_at_call 22; (with_reducible refine (HEN.out _ hX).mono ?_); rintro e w1 ⟨v1, rfl, ho1, hb1⟩; have hbx := hb1; have HB1 := Lib.hid (hX.trans (hb1.mono hX.size)); have HO1 := Lib.hid ho1; obtain ⟨hc1, hf1⟩ := bcell hb1; have hq1 : w.heap.size < w1.heap.size := Nat.lt_of_lt_of_le (by simp) hb1.size; obtain ⟨A1, c1, rfl, _⟩ := ho1.lit; rw [← hm.out] at *; clear hb1 ho1 hbx)
    | (go_at_call 21; (with_reducible refine (HSZ.out _ HB1.out).mono ?_); rintro e w2 ⟨rfl, hb2⟩; have HB2 := Lib.hid (HB1.out.trans (hb2.mono HB1.out.size)); have HO2 := Lib.hid (HO1.out.below hb2); have hs2 := hb2.size; clear hb2)
    | (go_at_call 23; (with_reducible refine (HFC.out _ _ _ _ (HB2.out.trans (two_below w2 _ _ HB2.out.size)) (BsT.own (HO2.out.below (two_below w2 _ _ (Nat.le_refl _))) (Nat.zero_le _)) (two_zero w2 k (by omega) _) (two_row w2 _ _)).mono ?_); rintro e w3 ⟨rfl, hro3, hk3⟩; have HRO3 := Lib.hid hro3; have HK3 : Hid (Kp (fun b => ¬ V b) w w3) := Lib.hid ((Kp.of_below (HB2.out.trans (two_below w2 _ _ HB2.out.size))).trans hk3 (fun _ _ h => h)); clear hro3 hk3)
   go_ret
   exact ⟨by rw [HQ2.out]; rfl, by rw [HQ2.out]; exact HRO3.out, HK3.out⟩
end
section
open Go.RowKit Go.Sort
open Fx (Vl)
open Me
open Wp
theorem Wp.Ps.laid {w : World} {G : Nat → Prop} {v : Value} {ps : List (List UInt8)} (h : Vf.Ps w G v ps) : Vf.Ps w (fun b => b < w.heap.size) v ps := by
 obtain ⟨A, c, xs, e, h1, h2, h3, h4⟩ := h
 exact ⟨A, c, xs, e, h1, h2, h3.mono fun i hi _ => hi, h4.mono fun l cs hc => by
  obtain ⟨v, rfl, A', c', e', k1, k2, k3⟩ := hc
  exact ⟨v, rfl, A', c', e', k1, k2, k3.mono fun i hi _ => hi⟩⟩
theorem create_yes_any {w : World} {V : Nat → Prop} {c fs : Nat} {S : Vf.Sv} (ro : PO w V fs c S) (hc : c ≤ 499000) (n : List UInt8) (h : Hd) (A : Option Addr) (cap : Nat) (hrow : Row w A h.l cap) :
 Calls Tryz.prog 10 #[.pointer (some ⟨fs, 0, none⟩), .string ⟨n.toArray⟩, .agg #[.int .i64 h.ag, .int .i64 h.xf, .slice A h.l.length cap]] w fun e w' => e = .returned (.int .i64 (Wp.create S n h).2) ∧ PO w' V fs (c + 1) (Wp.create S n h).1 ∧ Kp (fun b => ¬ V b) w w' := by
 have HEN : Hid (∀ W, Below w.heap.size w W → Calls Tryz.prog 28 #[.agg #[.int .i64 h.ag, .int .i64 h.xf, .slice A h.l.length cap]] W (Coded W (Wh.enc h.ag h.xf h.l) (if Wh.val h.ag h.xf h.l = true then 0 else 1))) := Lib.hid fun W hb => encode_any _ _ _ A cap W (hrow.below hb)
 have HSZ : Hid (∀ W, Below w.heap.size w W → Calls Tryz.prog 30 #[.agg #[.int .i64 h.ag, .int .i64 h.xf, .slice A h.l.length cap]] W fun e w' => e = .returned (.int .i64 h.size) ∧ Below W.heap.size W w') := Lib.hid fun W hb => wsize_any _ _ _ A cap W (hrow.below hb)
 have HRO := Lib.hid ro
 clear ro hrow
 have hX : Below w.heap.size w (w.alloc (.cells #[.int .i64 h.ag, .int .i64 h.xf, .slice A h.l.length cap] 24)) := (Below.refl _ _).alloc (Nat.le_refl _) _
 cases hv : h.val
 ·have HQ := Lib.hid (create_no (S := S) (n := n) hv)
  rw [show Wh.val h.ag h.xf h.l = false from hv] at HEN
  simp only [Bool.false_eq_true, if_false] at HEN
  clear hv HSZ
  generalize Wp.create S n h = Q at *
  generalize Wh.enc h.ag h.xf h.l = E at *
  generalize h.ag = ag at *
  generalize h.xf = xf at *
  go_enter Tryz.func10, Tryz.ntmps10
  go_wp2_with (go_at_call 28; (with_reducible refine (HEN.out _ hX).mono ?_); rintro e w1 ⟨v1, rfl, ho1, hb1⟩; have HB1 := Lib.hid (hX.trans (hb1.mono hX.size)); clear hb1 ho1)
  go_ret
  exact ⟨by rw [HQ.out]; rfl, by rw [HQ.out]; exact (HRO.out.below HB1.out).more (by omega) (fun _ h => h), Kp.of_below HB1.out⟩
 ·obtain ⟨k, hk, k1, k2⟩ := enc_size hv
  have HQ := Lib.hid (create_yes (S := S) (n := n) hv hk)
  rw [show Wh.val h.ag h.xf h.l = true from hv] at HEN
  simp only [if_true] at HEN
  rw [hk] at HSZ
  clear hv hk
  generalize Wp.create S n h = Q at *
  generalize hE : Wh.enc h.ag h.xf h.l = E at *
  clear hE
  have hmk := zeros_make k (by omega)
  generalize hCR : Vf.create S n (E ++ List.replicate k 0) = R at *
  have HCR := Lib.hid hCR
  clear hCR
  obtain ⟨m, hm⟩ : ∃ m, Hid (m = E.length) := ⟨_, Lib.hid rfl⟩
  rw [← hm.out] at HSZ k2
  have hsub : ((m : Int) + (k : Int)) - (m : Int) = (k : Int) := by omega
  have hwk : IntKind.i64.wrap (k : Int) = (k : Int) := IntWalk.i64_in _ (by omega)
  generalize h.ag = ag at *
  generalize h.xf = xf at *
  obtain ⟨sz, hsz⟩ : ∃ sz, (m : Int) + (k : Int) = sz := ⟨_, rfl⟩
  rw [hsz] at HSZ hsub
  have HFC : Hid (∀ W b0 v1 v2, Below w.heap.size w W → BsT 0 W v1 E → BsT 0 W v2 (List.replicate k 0) → RowAt W b0 45 #[v1, v2] → Calls Tryz.prog 29 #[.pointer (some ⟨fs, 0, none⟩), .string ⟨n.toArray⟩, .slice (some ⟨b0, 0, none⟩) 2 2] W fun e w' => e = .returned (.int .i64 R.2) ∧ PO w' V fs (c + 1) R.1 ∧ Kp (fun b => ¬ V b) W w') := Lib.hid fun W b0 v1 v2 hb h1 h2 hg => by
   have hfl : [E, List.replicate k 0].flatten = E ++ List.replicate k 0 := by simp
   have h := pocreate (HRO.out.below hb) (by omega) n [E, List.replicate k 0] _ (Wp.Ps.laid (ps_two h1 h2 hg)) (by simp) (by rw [hfl, List.length_append, List.length_replicate]; have := hm.out; omega) (fun _ h => h)
   rw [hfl, HCR.out] at h
   exact h
  by_cases hr0 : R.2 = 0
  ·have HQ2 : Hid (Q = ({ R.1 with was := R.1.now, l := [] }, 0)) := Lib.hid (by rw [HQ.out, if_pos hr0])
   rw [hr0] at HFC
   clear HQ hr0
   go_enter Tryz.func10, Tryz.ntmps10
   go_wp2_with first
    | (go_at_call 28; (with_reducible refine (HEN.out _ hX).mono ?_); rintro e w1 ⟨v1, rfl, ho1, hb1⟩; have hbx := hb1; have HB1 := Lib.hid (hX.trans (hb1.mono hX.size)); have HO1 := Lib.hid ho1; obtain ⟨hc1, hf1⟩ := bcell hb1; have hq1 : w.heap.size < w1.heap.size := Nat.lt_of_lt_of_le (by simp) hb1.size; obtain ⟨A1, c1, rfl, _⟩ := ho1.lit; rw [← hm.out] at *; clear hb1 ho1 hbx)
    | (go_at_call 30; (with_reducible refine (HSZ.out _ HB1.out).mono ?_); rintro e w2 ⟨rfl, hb2⟩; have HB2 := Lib.hid (HB1.out.trans (hb2.mono HB1.out.size)); have HO2 := Lib.hid (HO1.out.below hb2); have hs2 := hb2.size; clear hb2)
    | (go_at_call 29; (with_reducible refine (HFC.out _ _ _ _ (HB2.out.trans (two_below w2 _ _ HB2.out.size)) (BsT.own (HO2.out.below (two_below w2 _ _ (Nat.le_refl _))) (Nat.zero_le _)) (two_zero w2 k (by omega) _) (two_row w2 _ _)).mono ?_); rintro e w3 ⟨rfl, hro3, hk3⟩; have HRO3 := Lib.hid hro3; have HK3 : Hid (Kp (fun b => ¬ V b) w w3) := Lib.hid ((Kp.of_below (HB2.out.trans (two_below w2 _ _ HB2.out.size))).trans hk3 (fun _ _ h => h)); clear hro3 hk3)
    | (go_at_call 31; (with_reducible refine (posync HRO3.out).mono ?_); rintro e w4 ⟨rfl, hro4, hk4⟩)
   go_ret
   exact ⟨by rw [HQ2.out]; rfl, by rw [HQ2.out]; exact hro4, HK3.out.trans hk4 (fun _ _ h => h)⟩
  ·have HQ2 : Hid (Q = (R.1, R.2)) := Lib.hid (by rw [HQ.out, if_neg hr0])
   obtain ⟨R1, r⟩ := R
   have hrb : (r == 0) = false := by simpa using hr0
   clear HQ hr0
   go_enter Tryz.func10, Tryz.ntmps10
   go_wp2_with first
    | (go_at_call 28; (with_reducible refine (HEN.out _ hX).mono ?_); rintro e w1 ⟨v1, rfl, ho1, hb1⟩; have hbx := hb1; have HB1 := Lib.hid (hX.trans (hb1.mono hX.size)); have HO1 := Lib.hid ho1; obtain ⟨hc1, hf1⟩ := bcell hb1; have hq1 : w.heap.size < w1.heap.size := Nat.lt_of_lt_of_le (by simp) hb1.size; obtain ⟨A1, c1, rfl, _⟩ := ho1.lit; rw [← hm.out] at *; clear hb1 ho1 hbx)
    | (go_at_call 30; (with_reducible refine (HSZ.out _ HB1.out).mono ?_); rintro e w2 ⟨rfl, hb2⟩; have HB2 := Lib.hid (HB1.out.trans (hb2.mono HB1.out.size)); have HO2 := Lib.hid (HO1.out.below hb2); have hs2 := hb2.size; clear hb2)
    | (go_at_call 29; (with_reducible refine (HFC.out _ _ _ _ (HB2.out.trans (two_below w2 _ _ HB2.out.size)) (BsT.own (HO2.out.below (two_below w2 _ _ (Nat.le_refl _))) (Nat.zero_le _)) (two_zero w2 k (by omega) _) (two_row w2 _ _)).mono ?_); rintro e w3 ⟨rfl, hro3, hk3⟩; have HRO3 := Lib.hid hro3; have HK3 : Hid (Kp (fun b => ¬ V b) w w3) := Lib.hid ((Kp.of_below (HB2.out.trans (two_below w2 _ _ HB2.out.size))).trans hk3 (fun _ _ h => h)); clear hro3 hk3)
   go_ret
   exact ⟨by rw [HQ2.out]; rfl, by rw [HQ2.out]; exact HRO3.out, HK3.out⟩
end
end Go.Proofs.YtljlanhpjpjgaaaGreatDoor
