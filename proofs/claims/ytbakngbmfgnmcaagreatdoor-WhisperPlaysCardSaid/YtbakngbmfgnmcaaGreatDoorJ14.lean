/- WpUp WpFe WqTm WqIx WqCv VpPure VpHist -/
import Derived.Test.YtbakngbmfgnmcaaGreatDoorJ1
import Derived.Test.YtbakngbmfgnmcaaGreatDoorJ11
import Derived.Test.YtbakngbmfgnmcaaGreatDoorJ13
import Derived.Test.YtbakngbmfgnmcaaGreatDoorJ7
import Derived.Test.YtbakngbmfgnmcaaGreatDoorJ12
import Derived.Test.YtbakngbmfgnmcaaGreatDoorJ3
import Derived.Test.YtbakngbmfgnmcaaGreatDoorJ5
import Derived.Test.YtbakngbmfgnmcaaGreatDoorJ2
namespace Go.Proofs.YtbakngbmfgnmcaaGreatDoor
set_option maxRecDepth 100000
set_option maxHeartbeats 8000000
section
open Go.RowKit Go.Sort
open Fx (Vl)
open Me
open Wp
namespace Wp
theorem info_val {fs : List Vf.Fl} {n : List UInt8} (h : (info fs n).2 = 0) : (info fs n).1.val = true := by
 unfold info at h ⊢
 split at h
 ·rename_i hh; exact absurd h hh
 ·rename_i hh
  rw [if_neg hh]
  dsimp only at h ⊢
  split at h
  ·cases h
  ·rename_i h2
   rw [if_neg h2]
   cases hd : Wh.dok (Vf.read fs n 0 (Vf.size fs n).1).1
   ·exfalso
    apply h2
    left
    rw [(Wh.dok_f hd).2.2.2]; decide
   ·obtain ⟨e1, e2, e3, _⟩ := Wh.dok_t hd
    unfold Hd.val hdOf
    dsimp only
    rw [e1, e2, e3]
    unfold Wh.dok at hd
    simp only [Bool.and_eq_true] at hd
    exact hd.1.2
theorem layAll_step {n : List UInt8} {h : Hd} {now : Int} {l : List (Int × Int)} {i : Nat} (hi : i < l.length) {S : Vf.Sv} {k : Int} :
 layAll n h now (l.drop i) S k = layAll n h now (l.drop (i + 1)) (lays S n h now l[i]).1 (if (lays S n h now l[i]).2 = true then k + 1 else k) := by
 rw [List.drop_eq_getElem_cons hi]
 conv => lhs; unfold layAll
theorem update_err {S : Vf.Sv} {n : List UInt8} {now : Int} {l : List (Int × Int)} (h : (info S.now n).2 ≠ 0) : update S n now l = (S, 0, (info S.now n).2) := by unfold update; dsimp only; rw [if_pos h]
theorem update_now {S : Vf.Sv} {n : List UInt8} {now : Int} {l : List (Int × Int)} (h : (info S.now n).2 = 0) (ht : now < 1 ∨ 4294967295 < now) : update S n now l = (S, 0, 1) := by
 unfold update; dsimp only; rw [if_neg (by rw [h]; simp), if_pos (by unfold time; simp; omega)]
theorem update_yes {S : Vf.Sv} {n : List UInt8} {now : Int} {l : List (Int × Int)} (h : (info S.now n).2 = 0) (h1 : 1 ≤ now) (h2 : now ≤ 4294967295) : update S n now l = ({ (layAll n (info S.now n).1 now l S 0).1 with was := (layAll n (info S.now n).1 now l S 0).1.now, l := [] }, (layAll n (info S.now n).1 now l S 0).2, 0) := by
 unfold update; dsimp only; rw [if_neg (by rw [h]; simp), if_neg (by unfold time; simp; omega)]
end Wp
theorem rupdate_any {w : World} {V : Nat → Prop} {c fs : Nat} {S : Vf.Sv} (ro : RO w V fs c S) (n : List UInt8) (now : Int) (l : List (Int × Int)) (Ap : Option Addr) (capp : Nat) (hp : Row w Ap l capp) (hVp : 0 < l.length → ∀ a, Ap = some a → V a.block) (hc : c + 27 * l.length ≤ 999900) :
 Calls Tryz.prog 21 #[.pointer (some ⟨fs, 0, none⟩), .string ⟨n.toArray⟩, .int .i64 now, .slice Ap l.length capp] w fun e w' => e = .returned (.tuple #[.int .i64 (update S n now l).2.1, .int .i64 (update S n now l).2.2]) ∧ RO w' V fs (c + 27 * l.length) (update S n now l).1 ∧ Kp (fun b => ¬ V b) w w' := by
 have HIN : Hid (∀ W, Below w.heap.size w W → Calls Tryz.prog 16 #[.pointer (some ⟨fs, 0, none⟩), .string ⟨n.toArray⟩] W (Informed W (info S.now n))) := Lib.hid fun W hb => rinfo_any (ro.below hb) (by omega) n
 have HRO := Lib.hid ro
 have HP := Lib.hid hp
 have HE1 := Lib.hid (update_err (S := S) (n := n) (now := now) (l := l))
 have HE2 := Lib.hid (update_now (S := S) (n := n) (now := now) (l := l))
 have HE3 := Lib.hid (update_yes (S := S) (n := n) (now := now) (l := l))
 have HVL := Lib.hid (info_val (fs := S.now) (n := n))
 clear ro hp
 generalize info S.now n = R at *
 generalize update S n now l = Q at *
 obtain ⟨⟨ag, xf, hl⟩, er⟩ := R
 by_cases he : er = 0
 ·subst he
  have hv := HVL.out rfl
  have hlen := Hd.len hv
  by_cases ht : now < 1 ∨ 4294967295 < now
  ·have HQ := Lib.hid (HE2.out rfl ht)
   clear HE1 HE2 HE3 HVL
   by_cases ht1 : now < 1
   ·clear ht
    go_enter Tryz.func21, Tryz.ntmps21
    go_wp2_with (go_at_call 16; (with_reducible refine (HIN.out _ (Below.refl _ _)).mono ?_); rintro e w1 ⟨A1, c1, rfl, hrow, hfr, hb1⟩; have HB1 := Lib.hid hb1; clear hb1 hrow hfr)
    ((try simp only [Exit.inBlock, Exit.then]); refine bodyPost_ret (results_tmp2 rfl _ _ _) rfl ?_)
    exact ⟨by rw [HQ.out]; rfl, by rw [HQ.out]; exact ((HRO.out.below HB1.out).below ((Below.refl _ _).alloc (Nat.le_refl _) _)).more (by omega) (fun _ h => h), Kp.of_below (HB1.out.alloc HB1.out.size _)⟩
   ·have ht2 : 4294967295 < now := by omega
    clear ht
    go_enter Tryz.func21, Tryz.ntmps21
    go_wp2_with (go_at_call 16; (with_reducible refine (HIN.out _ (Below.refl _ _)).mono ?_); rintro e w1 ⟨A1, c1, rfl, hrow, hfr, hb1⟩; have HB1 := Lib.hid hb1; clear hb1 hrow hfr)
    ((try simp only [Exit.inBlock, Exit.then]); refine bodyPost_ret (results_tmp2 rfl _ _ _) rfl ?_)
    exact ⟨by rw [HQ.out]; rfl, by rw [HQ.out]; exact ((HRO.out.below HB1.out).below ((Below.refl _ _).alloc (Nat.le_refl _) _)).more (by omega) (fun _ h => h), Kp.of_below (HB1.out.alloc HB1.out.size _)⟩
  ·have hn1 : 1 ≤ now := by omega
   have hn2 : now ≤ 4294967295 := by omega
   have HQ := Lib.hid (HE3.out rfl hn1 hn2)
   clear HE1 HE2 HE3 HVL ht
   go_enter Tryz.func21, Tryz.ntmps21
   go_wp2_with (go_at_call 16; (with_reducible refine (HIN.out _ (Below.refl _ _)).mono ?_); rintro e w1 ⟨A1, c1, rfl, hrow, hfr, hb1⟩; have HB1 := Lib.hid hb1; have HROW := Lib.hid hrow; have HFR := Lib.hid hfr; have hs1 := hb1.size; clear hb1 hrow hfr)
   have hX : Below w.heap.size w ((w1.alloc (.cells #[.int .i64 ag, .int .i64 xf, .slice A1 hl.length c1] 24)).alloc (.cells #[.pointer (some ⟨fs, 0, none⟩), .string ⟨n.toArray⟩, .int .i64 ag, .int .i64 xf, .slice A1 hl.length c1] 125)) := (HB1.out.alloc hs1 _).alloc (by simp; omega) _
   have hXs : ((w1.alloc (.cells #[.int .i64 ag, .int .i64 xf, .slice A1 hl.length c1] 24)).alloc (.cells #[.pointer (some ⟨fs, 0, none⟩), .string ⟨n.toArray⟩, .int .i64 ag, .int .i64 xf, .slice A1 hl.length c1] 125)).heap.size = w1.heap.size + 2 := by simp
   have hrx : RowAt ((w1.alloc (.cells #[.int .i64 ag, .int .i64 xf, .slice A1 hl.length c1] 24)).alloc (.cells #[.pointer (some ⟨fs, 0, none⟩), .string ⟨n.toArray⟩, .int .i64 ag, .int .i64 xf, .slice A1 hl.length c1] 125)) (w1.heap.size + 1) 125 #[.pointer (some ⟨fs, 0, none⟩), .string ⟨n.toArray⟩, .int .i64 ag, .int .i64 xf, .slice A1 hl.length c1] := by
    rw [show w1.heap.size + 1 = (w1.alloc (.cells #[.int .i64 ag, .int .i64 xf, .slice A1 hl.length c1] 24)).heap.size by simp]
    exact RowAt.new _ _ _
   have hra : Row ((w1.alloc (.cells #[.int .i64 ag, .int .i64 xf, .slice A1 hl.length c1] 24)).alloc (.cells #[.pointer (some ⟨fs, 0, none⟩), .string ⟨n.toArray⟩, .int .i64 ag, .int .i64 xf, .slice A1 hl.length c1] 125)) A1 hl c1 := HROW.out.below (((Below.refl _ _).alloc (Nat.le_refl _) _).alloc (by simp) _)
   generalize (w1.alloc (.cells #[.int .i64 ag, .int .i64 xf, .slice A1 hl.length c1] 24)).alloc (.cells #[.pointer (some ⟨fs, 0, none⟩), .string ⟨n.toArray⟩, .int .i64 ag, .int .i64 xf, .slice A1 hl.length c1] 125) = X at *
   obtain ⟨x, hx⟩ : ∃ x, x = w1.heap.size + 1 := ⟨_, rfl⟩
   rw [← hx] at hrx ⊢
   have HX := Lib.hid hX
   have HFX : Hid (FileR X x fs n ⟨ag, xf, hl⟩ A1 c1) := Lib.hid ⟨hrx, hra⟩
   obtain ⟨V', hV'⟩ : ∃ V' : Nat → Prop, ∀ i, V' i ↔ (V i ∨ (w.heap.size ≤ i ∧ i < X.heap.size)) := ⟨_, fun _ => Iff.rfl⟩
   have HV := Lib.hid hV'
   have HROX : Hid (RO X V' fs c S) := Lib.hid (HRO.out.add hX fun i hi => (hV' i).1 hi)
   have hVx : V' x := (hV' x).2 (.inr ⟨by omega, by omega⟩)
   have HVA : Hid (∀ a, A1 = some a → V' a.block) := Lib.hid fun a e => (hV' _).2 (.inr ⟨HFR.out a e, by
    obtain ⟨b, off, e2, ha⟩ := hra.2 (by omega)
    rw [e] at e2
    cases e2
    exact ha.lt⟩)
   have HVP : Hid (0 < l.length → ∀ a, Ap = some a → V' a.block) := Lib.hid fun h0 a e => (hV' _).2 (.inl (hVp h0 a e))
   have HPX := Lib.hid (HP.out.below hX)
   clear hX hXs hrx hra hx hV'
   generalize decide (now < 1) = bb1 at *
   generalize decide (4294967295 < now) = bb2 at *
   obtain ⟨H, hH⟩ : ∃ H, Hid (H = (⟨ag, xf, hl⟩ : Hd)) := ⟨_, Lib.hid rfl⟩
   rw [← hH.out] at HQ HFX hv
   go_loopw [13, 14] (fun u v wr => ∃ (i : Nat) (Si : Vf.Sv) (k : Int), i ≤ l.length ∧ v = .int .i64 i ∧ u = .int .i64 k ∧ 0 ≤ k ∧ k ≤ i ∧ Hid (RO wr V' fs (c + 27 * i) Si) ∧ Hid (Kp (fun b => ¬ V' b) X wr) ∧ Hid (layAll n H now l S 0 = layAll n H now (l.drop i) Si k)) (fun _ v _ => l.length - (intOf v).toNat)
   case atStart => exact ⟨0, S, 0, Nat.zero_le _, rfl, rfl, Int.le_refl _, Int.le_refl _, HROX, Lib.hid (Kp.refl _ _), Lib.hid rfl⟩
   case round =>
    obtain ⟨i, Si, k, hi, rfl, rfl, k0, k1, HRi, HKi, HLi⟩ := hrel
    by_cases hlt : i < l.length
    ·have hpr : Row wr Ap l capp := by
      refine ⟨HPX.out.1, fun h0 => ?_⟩
      obtain ⟨b, off, e, ha⟩ := HPX.out.2 h0
      have hb := HVP.out h0 _ e
      exact ⟨b, off, e, Nat.lt_of_lt_of_le ha.lt HKi.out.size, fun i hi => (HKi.out.cell (p := ⟨b, off + i * 2, none⟩) ha.lt (fun o => o hb)).trans (ha.st i hi), fun i hi => (HKi.out.cell (p := ⟨b, off + i * 2 + 1, none⟩) ha.lt (fun o => o hb)).trans (ha.ct i hi)⟩
     obtain ⟨b, off, rfl, ha⟩ := hpr.2 (by omega)
     have c0 := ha.st i hlt
     have c1 := ha.ct i hlt
     have hbl := ha.lt
     have e1 : Wh.At l i = l[i] := by unfold Wh.At; rw [List.getD_eq_getElem?_getD, List.getElem?_eq_getElem hlt]; rfl
     rw [e1] at c0 c1
     have HST := Lib.hid (layAll_step (n := n) (h := H) (now := now) hlt (S := Si) (k := k))
     have hil : (i : Int) < (l.length : Int) := by omega
     have hi0 : (0 : Int) ≤ (i : Int) := by omega
     have HLY : Hid (∀ pa pn, Calls Tryz.prog 57 #[.pointer (some ⟨x, 0, none⟩), .int .i64 now, .agg #[.int .i64 pa, .int .i64 pn]] wr fun e w' => e = .returned (.bool (lays Si n H now (pa, pn)).2) ∧ RO w' V' fs (c + 27 * i + 27) (lays Si n H now (pa, pn)).1 ∧ Kp (fun b => ¬ V' b) wr w') := Lib.hid fun pa pn => rlays_any HRi.out (by omega) (HFX.out.keep HKi.out hVx HVA.out) hVx HVA.out hv now hn1 hn2 pa pn
     clear hpr ha e1
     generalize l[i] = pt at *
     obtain ⟨pa, pn⟩ := pt
     have HL1 := Lib.hid (HLY.out pa pn)
     clear HLY
     generalize hgl : lays Si n H now (pa, pn) = R at *
     clear hgl
     obtain ⟨R1, R2⟩ := R
     cases R2
     ·go_wp2_with (go_at_call 57; (with_reducible refine (HL1.out).mono ?_); rintro e w5 ⟨rfl, hro5, hk5⟩; have HRO5 := Lib.hid hro5; have HK5 := Lib.hid hk5; clear hro5 hk5)
      go_roundw
      case rel => exact ⟨i + 1, R1, k, by omega, by go_num, rfl, k0, by omega, Lib.hid (HRO5.out.more (by omega) (fun _ h => h)), Lib.hid (HKi.out.trans HK5.out (fun _ _ h => h)), Lib.hid (by rw [HLi.out, HST.out]; rfl)⟩
      case measure => simp [intOf]; omega
     ·obtain ⟨k', hk'⟩ : ∃ k', k + 1 = k' := ⟨_, rfl⟩
      have HK' := Lib.hid hk'
      have hwk : IntKind.i64.wrap k' = k' := IntWalk.i64_in _ (by omega)
      go_wp2_with (go_at_call 57; (with_reducible refine (HL1.out).mono ?_); rintro e w5 ⟨rfl, hro5, hk5⟩; have HRO5 := Lib.hid hro5; have HK5 := Lib.hid hk5; clear hro5 hk5)
      go_roundw
      case rel => exact ⟨i + 1, R1, k', by omega, by go_num, rfl, by omega, by omega, Lib.hid (HRO5.out.more (by omega) (fun _ h => h)), Lib.hid (HKi.out.trans HK5.out (fun _ _ h => h)), Lib.hid (by rw [HLi.out, HST.out, ← HK'.out]; rfl)⟩
      case measure => simp [intOf]; omega
    ·have hil : i = l.length := by omega
     have HLE : Hid (layAll n H now l S 0 = (Si, k)) := Lib.hid (by rw [HLi.out, List.drop_of_length_le (by omega)]; rfl)
     have hiI : ¬ (i : Int) < (l.length : Int) := by omega
     have HSY := Lib.hid (rosync HRi.out)
     go_wp2_with (go_at_call 35; (with_reducible refine (HSY.out).mono ?_); rintro e w5 ⟨rfl, hro5, hk5⟩; have HRO5 := Lib.hid hro5; have HK5 := Lib.hid hk5; clear hro5 hk5)
     ((try simp only [Exit.inBlock, Exit.then]); refine bodyPost_ret (results_tmp2 rfl _ _ _) rfl ?_)
     exact ⟨by rw [HQ.out, HLE.out]; rfl, by rw [HQ.out, HLE.out]; exact HRO5.out.more (by omega) (fun i hi => (HV.out i).2 (.inl hi)), (Kp.of_below HX.out).trans ((HKi.out.trans HK5.out (fun _ _ h => h)).mono (fun i _ ho hv => ho ((HV.out i).2 (.inl hv)))) (fun _ _ h => h)⟩
 ·have HQ := Lib.hid (HE1.out he)
  have heb : (er == 0) = false := by simpa using he
  clear HE1 HE2 HE3 HVL
  go_enter Tryz.func21, Tryz.ntmps21
  go_wp2_with (go_at_call 16; (with_reducible refine (HIN.out _ (Below.refl _ _)).mono ?_); rintro e w1 ⟨A1, c1, rfl, hrow, hfr, hb1⟩; have HB1 := Lib.hid hb1; clear hb1 hrow hfr)
  ((try simp only [Exit.inBlock, Exit.then]); refine bodyPost_ret (results_tmp2 rfl _ _ _) rfl ?_)
  exact ⟨by rw [HQ.out]; rfl, by rw [HQ.out]; exact ((HRO.out.below HB1.out).below ((Below.refl _ _).alloc (Nat.le_refl _) _)).more (by omega) (fun _ h => h), Kp.of_below (HB1.out.alloc HB1.out.size _)⟩
end
section
open Go.RowKit Go.Sort
open Fx (Vl)
open Me
open Wp
namespace Wp
theorem fetch_err {fs : List Vf.Fl} {n : List UInt8} {now a b : Int} (h : (info fs n).2 ≠ 0) : fetch fs n now a b = (none, (info fs n).2) := by unfold fetch; dsimp only; rw [if_pos h]
theorem fetch_now {fs : List Vf.Fl} {n : List UInt8} {now a b : Int} (h : (info fs n).2 = 0) (ht : now < 1 ∨ 4294967295 < now) : fetch fs n now a b = (none, 1) := by
 unfold fetch; dsimp only; rw [if_neg (by rw [h]; simp), if_pos (by unfold time; simp; omega)]
theorem fetch_time {fs : List Vf.Fl} {n : List UInt8} {now a b : Int} (h : (info fs n).2 = 0) (h1 : 1 ≤ now) (h2 : now ≤ 4294967295) (ht : b < a ∨ now < a ∨ b < 0 ∨ b < now - (info fs n).1.span) : fetch fs n now a b = (none, 7) := by
 unfold fetch; dsimp only; rw [if_neg (by rw [h]; simp), if_neg (by unfold time; simp; omega), if_pos ht]
def fin_ (u s a : Int) : Int := if Sl.al u s + s ≤ a then a + s else Sl.al u s + s
def seq (fs : List Vf.Fl) (n : List UInt8) (h : Hd) (i : Nat) (a : Int) (k : Nat) : List Vl := (List.range k).map fun (j : Nat) => value fs n h i (a + (j : Int) * h.step i)
theorem seq_succ (fs : List Vf.Fl) (n : List UInt8) (h : Hd) (i : Nat) (a : Int) (k : Nat) : seq fs n h i a (k + 1) = seq fs n h i a k ++ [value fs n h i (a + (k : Int) * h.step i)] := by unfold seq; rw [List.range_succ, List.map_append]; rfl
theorem seq_len (fs : List Vf.Fl) (n : List UInt8) (h : Hd) (i : Nat) (a : Int) (k : Nat) : (seq fs n h i a k).length = k := by unfold seq; simp
theorem fetch_yes {fs : List Vf.Fl} {n : List UInt8} {now a b : Int} {i : Nat} (h : (info fs n).2 = 0) (h1 : 1 ≤ now) (h2 : now ≤ 4294967295) (ht : ¬ (b < a ∨ now < a ∨ b < 0 ∨ b < now - (info fs n).1.span)) {f u : Int} (hf : clip (info fs n).1 now a = f) (hu : min b now = u)
 (hi : first (info fs n).1 (now - f - 1) (info fs n).1.l.length 0 = some i) {p e : Int} (hp : Sl.al f ((info fs n).1.step i) + (info fs n).1.step i = p) (he : fin_ u ((info fs n).1.step i) p = e) {K : Nat} (hK : ((e - p) / (info fs n).1.step i).toNat = K) :
 fetch fs n now a b = (some ⟨p, (info fs n).1.step i, seq fs n (info fs n).1 i p K⟩, 0) := by
 unfold fetch; dsimp only
 rw [if_neg (by rw [h]; simp), if_neg (by unfold time; simp; omega), if_neg ht, hf, hu, hi]
 dsimp only
 rw [hp]
 unfold fin_ at he
 rw [he, hK]
 rfl
theorem times_of {f u s : Int} (hs : 1 ≤ s) (hs2 : s ≤ 16777216) (hf : 0 ≤ f) (hfu : f ≤ u) (hu : u ≤ 4294967295) :
 ∃ (K : Nat) (p q e : Int), Sl.al f s = q ∧ q + s = p ∧ fin_ u s p = e ∧ e = p + (K : Int) * s ∧ ((e - p) / s).toNat = K ∧ 1 ≤ K ∧ K ≤ 4294967296 ∧ 0 ≤ q ∧ q ≤ 4294967295 ∧ e ≤ 4328521728 ∧ 0 ≤ Sl.al u s ∧ Sl.al u s ≤ 4294967295 := by
 have e1 := Sl.al_mul hs hf
 have e2 := Sl.al_mul hs (by omega : 0 ≤ u)
 have m1 : 0 ≤ f / s := Int.ediv_nonneg hf (by omega)
 have m2 : f / s ≤ u / s := Int.ediv_le_ediv (by omega) hfu
 have m3 : u / s ≤ u := Int.ediv_le_self _ (by omega)
 have b1 : Sl.al f s ≤ f := by rw [Sl.al_eq hs hf]; have := Int.emod_nonneg f (by omega : s ≠ 0); omega
 have b2 : Sl.al u s ≤ u := by rw [Sl.al_eq hs (by omega)]; have := Int.emod_nonneg u (by omega : s ≠ 0); omega
 have c1 : 0 ≤ Sl.al f s := by rw [e1]; exact Int.mul_nonneg (by omega) m1
 have c2 : 0 ≤ Sl.al u s := by rw [e2]; exact Int.mul_nonneg (by omega) (by omega)
 by_cases hc : Sl.al u s + s ≤ Sl.al f s + s
 ·refine ⟨1, _, _, _, rfl, rfl, rfl, ?_, ?_, by omega, by omega, c1, by omega, ?_, c2, by omega⟩
  ·unfold fin_; rw [if_pos hc]; simp
  ·unfold fin_; rw [if_pos hc, show Sl.al f s + s + s - (Sl.al f s + s) = s by omega, Int.ediv_self (by omega)]; rfl
  ·unfold fin_; rw [if_pos hc]; omega
 ·have hlt : f / s < u / s := by
   apply Int.lt_of_not_ge
   intro hge
   have : u / s = f / s := by omega
   rw [e1, e2, this] at hc
   omega
  have hd : Sl.al u s + s - (Sl.al f s + s) = s * (u / s - f / s) := by rw [e1, e2, Int.mul_sub]; omega
  refine ⟨(u / s - f / s).toNat, _, _, _, rfl, rfl, rfl, ?_, ?_, by omega, by omega, c1, by omega, ?_, c2, by omega⟩
  ·unfold fin_; rw [if_neg hc, Int.toNat_of_nonneg (by omega), Int.mul_comm]; omega
  ·unfold fin_; rw [if_neg hc, hd, Int.mul_ediv_cancel_left _ (by omega)]
  ·unfold fin_; rw [if_neg hc]; omega
theorem Hd.span_eq {h : Hd} (hv : h.val = true) : h.span = h.step (h.l.length - 1) * h.cnt (h.l.length - 1) := by
 have hv' : Wh.val h.ag h.xf h.l = true := hv
 unfold Hd.span Wh.spn
 rw [if_pos hv']
 rfl
theorem Hd.span_bd {h : Hd} (hv : h.val = true) : 1 ≤ h.span ∧ h.span ≤ 4294967295 := by
 have hl := Hd.len hv
 obtain ⟨⟨n1, _⟩, n3, _⟩ := Hd.nums hv (h.l.length - 1) (by omega)
 have e := Hd.span_eq hv
 constructor
 ·rw [e]
  have := Int.mul_le_mul n1 n3 (by omega) (by omega)
  omega
 ·obtain ⟨_, _, _, ha⟩ := Wh.val_t hv
  obtain ⟨a1, a2, a3, a4, a5⟩ := Wh.av_t ha
  rw [e]
  exact a5
theorem clip_bd {h : Hd} {now a b : Int} (hv : h.val = true) (h1 : 1 ≤ now) (ht : ¬ (b < a ∨ now < a ∨ b < 0 ∨ b < now - h.span)) : 0 ≤ clip h now a ∧ clip h now a ≤ min b now ∧ now - h.span ≤ clip h now a := by
 have := Hd.span_bd hv
 unfold clip
 omega
end Wp
def Wp.Fetched (w : World) (n : List UInt8) (R : Option Se × Int) (e : Ending) (w' : World) : Prop :=
 ∃ v, e = .returned (.tuple #[v, .int .i64 R.2]) ∧ (R.1 = none → v = .agg #[.string ⟨#[]⟩, .int .i64 0, .int .i64 0, .slice none 0 0, .int .i64 0]) ∧ (∀ s, R.1 = some s → ∃ x, v = .agg #[.string ⟨n.toArray⟩, .int .i64 s.start, .int .i64 s.step, x, .int .i64 0] ∧ OwnV w.heap.size w' x s.vals) ∧ Below w.heap.size w w'
theorem Wp.Fetched.no {w w' : World} {n : List UInt8} {R : Option Se × Int} {k : Int} (hR : R = (none, k)) (hb : Below w.heap.size w w') : Fetched w n R (.returned (.tuple #[.agg #[.string ⟨#[]⟩, .int .i64 0, .int .i64 0, .slice none 0 0, .int .i64 0], .int .i64 k])) w' := by
 subst hR
 exact ⟨_, rfl, fun _ => rfl, fun s e => (by cases e), hb⟩
theorem below_set5 {B g : Nat} {w W : World} {a b c d e : Value} (h : Below B w W) (hg : B ≤ g) : Below B w (((((W.setCell ⟨g, 0, none⟩ a).setCell ⟨g, 1, none⟩ b).setCell ⟨g, 2, none⟩ c).setCell ⟨g, 3, none⟩ d).setCell ⟨g, 4, none⟩ e) :=
 Below.setCell (Below.setCell (Below.setCell (Below.setCell (Below.setCell h hg _) hg _) hg _) hg _) hg _
theorem serCell (w : World) : Hid (∀ W, Below (w.heap.size + 1) (w.alloc (.cells #[.string ⟨#[]⟩, .int .i64 0, .int .i64 0, .slice none 0 0, .int .i64 0] 88)) W →
 (W.cell? ⟨w.heap.size, 0, none⟩ = some (.string ⟨#[]⟩) ∧ W.cell? ⟨w.heap.size, 1, none⟩ = some (.int .i64 0) ∧ W.cell? ⟨w.heap.size, 2, none⟩ = some (.int .i64 0) ∧ W.cell? ⟨w.heap.size, 3, none⟩ = some (.slice none 0 0) ∧ W.cell? ⟨w.heap.size, 4, none⟩ = some (.int .i64 0)) ∧
 (W.frozen? ⟨w.heap.size, 0, none⟩ = false ∧ W.frozen? ⟨w.heap.size, 1, none⟩ = false ∧ W.frozen? ⟨w.heap.size, 2, none⟩ = false ∧ W.frozen? ⟨w.heap.size, 3, none⟩ = false ∧ W.frozen? ⟨w.heap.size, 4, none⟩ = false) ∧ w.heap.size < W.heap.size) := Lib.hid fun W hb =>
 ⟨⟨(hb.cell (p := ⟨w.heap.size, 0, none⟩) (Nat.lt_succ_self _)).trans (by simp [go_sem]), (hb.cell (p := ⟨w.heap.size, 1, none⟩) (Nat.lt_succ_self _)).trans (by simp [go_sem]), (hb.cell (p := ⟨w.heap.size, 2, none⟩) (Nat.lt_succ_self _)).trans (by simp [go_sem]), (hb.cell (p := ⟨w.heap.size, 3, none⟩) (Nat.lt_succ_self _)).trans (by simp [go_sem]), (hb.cell (p := ⟨w.heap.size, 4, none⟩) (Nat.lt_succ_self _)).trans (by simp [go_sem])⟩,
   ⟨(hb.frozen (p := ⟨w.heap.size, 0, none⟩) (Nat.lt_succ_self _)).trans (by simp [go_sem]), (hb.frozen (p := ⟨w.heap.size, 1, none⟩) (Nat.lt_succ_self _)).trans (by simp [go_sem]), (hb.frozen (p := ⟨w.heap.size, 2, none⟩) (Nat.lt_succ_self _)).trans (by simp [go_sem]), (hb.frozen (p := ⟨w.heap.size, 3, none⟩) (Nat.lt_succ_self _)).trans (by simp [go_sem]), (hb.frozen (p := ⟨w.heap.size, 4, none⟩) (Nat.lt_succ_self _)).trans (by simp [go_sem])⟩, Nat.lt_of_lt_of_le (by simp) hb.size⟩
end
section
open Go.RowKit
open Fx (Vl)
namespace Wp
theorem times_max {f u s now c : Int} (hs : 1 ≤ s) (hf : 0 ≤ f) (hfu : f ≤ u) (hu : u ≤ now) (hc : 1 ≤ c) (hsp : now - f ≤ s * c) :
 max ((Sl.al u s + s - (Sl.al f s + s)) / s) 1 = ((((fin_ u s (Sl.al f s + s) - (Sl.al f s + s)) / s).toNat : Nat) : Int) ∧ ((((fin_ u s (Sl.al f s + s) - (Sl.al f s + s)) / s).toNat : Nat) : Int) ≤ c := by
 have e1 := Sl.al_mul hs hf
 have e2 := Sl.al_mul hs (by omega : 0 ≤ u)
 have m2 : f / s ≤ u / s := Int.ediv_le_ediv (by omega) hfu
 have hd : Sl.al u s + s - (Sl.al f s + s) = s * (u / s - f / s) := by rw [e1, e2, Int.mul_sub]; omega
 have hq : (Sl.al u s + s - (Sl.al f s + s)) / s = u / s - f / s := by rw [hd, Int.mul_ediv_cancel_left _ (by omega)]
 have hm : u / s - f / s ≤ c := by
  have h1 : u / s ≤ (f + s * c) / s := Int.ediv_le_ediv (by omega) (by omega)
  rw [Int.add_mul_ediv_left _ _ (by omega : s ≠ 0)] at h1
  omega
 unfold fin_
 by_cases hcc : Sl.al u s + s ≤ Sl.al f s + s
 ·rw [if_pos hcc, show Sl.al f s + s + s - (Sl.al f s + s) = s by omega, Int.ediv_self (by omega), hq]
  have : u / s ≤ f / s := by
   apply Int.not_lt.1
   intro hlt
   have := Int.mul_lt_mul_of_pos_left hlt (by omega : 0 < s)
   omega
  constructor
  ·show max _ 1 = (1 : Int); omega
  ·show (1 : Int) ≤ c; omega
 ·have hlt : f / s < u / s := by
   apply Int.lt_of_not_ge
   intro hge
   have : u / s = f / s := by omega
   rw [e1, e2, this] at hcc
   omega
  rw [if_neg hcc, hq, Int.toNat_of_nonneg (by omega)]
  omega
def find (h : Hd) (d : Int) : Int := match first h d h.l.length 0 with | none => -1 | some i => (i : Int)
theorem info_file {l : List Vf.Fl} {n : List UInt8} (h : (info l n).2 = 0) : ∃ B, Fits l n (info l n).1 B := by
 have hv := info_val h
 unfold info at h hv ⊢
 by_cases e : (Vf.size l n).2 ≠ 0
 ·rw [if_pos e] at h; exact absurd h e
 rw [if_neg e] at h hv ⊢
 dsimp only at h hv ⊢
 obtain ⟨B, hB, hz⟩ := Vf.Has.of_size (by omega : (Vf.size l n).2 = 0)
 by_cases e2 : Wh.derr (Vf.read l n 0 (Vf.size l n).1).1 ≠ 0 ∨ (hdOf (Vf.read l n 0 (Vf.size l n).1).1).size ≠ (Vf.size l n).1
 ·rw [if_pos e2] at h; cases h
 rw [if_neg e2] at hv ⊢
 refine ⟨B, hB, hv, ?_⟩
 rw [← hz]
 exact (Decidable.not_not.1 (fun e => e2 (.inr e))).symm
theorem info_short {l : List Vf.Fl} {n : List UInt8} (h : (Vf.size l n).2 = 0) : ∃ L, Vf.read l n 0 (min (Vf.size l n).1 112) = (L, 0) ∧ 0 ≤ (Vf.size l n).1 ∧ info l n = if Wh.derr L ≠ 0 ∨ (hdOf L).size ≠ (Vf.size l n).1 then (Hd.zero, 2) else (hdOf L, 0) := by
 obtain ⟨B, hB, hz⟩ := Vf.Has.of_size h
 refine ⟨B.take (min (Vf.size l n).1 112).toNat, ?_, by omega, ?_⟩
 ·rw [hB.read_eq (by omega) (by omega) (by omega)]; rfl
 ·have e : (Vf.read l n 0 (Vf.size l n).1).1 = B := by
   rw [hB.read_eq (by omega) (by omega) (by omega), hz]
   show (B.drop 0).take _ = B
   rw [List.drop_zero, Int.toNat_natCast, List.take_length]
  unfold info
  rw [if_neg (by omega)]
  dsimp only
  rw [e]
  by_cases hl : B.length ≤ 112
  ·rw [show (min (Vf.size l n).1 112).toNat = B.length by omega, List.take_length]
  ·rw [show (min (Vf.size l n).1 112).toNat = 112 by omega]
   obtain ⟨h1, h2, h3, h4⟩ := Wh.heads_take (L := B) (k := 112) (Nat.le_refl _)
   unfold hdOf
   rw [h1, h2, h3, h4]
end Wp
end
section
open Go.RowKit Go.Sort
open Fx (Vl)
open Me
open Wp
namespace Wp
def seek (p : Nat → Bool) : Nat → Nat → Int
 | 0, _ => -1
 | m + 1, i => if p i = true then (i : Int) else seek p m (i + 1)
theorem seek_yes {p : Nat → Bool} {m i : Nat} (h : p i = true) : seek p (m + 1) i = (i : Int) := by unfold seek; rw [if_pos h]
theorem seek_no {p : Nat → Bool} {m i : Nat} (h : p i = false) : seek p (m + 1) i = seek p m (i + 1) := by
 conv => lhs; unfold seek
 rw [if_neg (by rw [h]; exact Bool.false_ne_true)]
theorem seek_none {p : Nat → Bool} : ∀ (m i : Nat), (∀ k, p k = false) → seek p m i = -1
 | 0, _, _ => rfl
 | m + 1, i, h => by rw [seek_no (h i)]; exact seek_none m (i + 1) h
theorem seek_first {h : Hd} {d : Int} : ∀ (m i : Nat), seek (fun k => decide (d < h.step k * h.cnt k)) m i = match first h d m i with | none => -1 | some j => (j : Int)
 | 0, _ => rfl
 | m + 1, i => by
   by_cases e : d < h.step i * h.cnt i
   ·rw [seek_yes (by simpa using e), first_yes e]
   ·rw [seek_no (by simpa using e), first_no e]
    exact seek_first m (i + 1)
end Wp
theorem span_prog (s c m : Int) (hm : s * c = m) (hw : IntKind.i64.wrap m = m) (w : World) :
 Calls Tryz.prog 106 #[.agg #[.int .i64 s, .int .i64 c]] w fun e w' => e = .returned (.int .i64 m) ∧ Below w.heap.size w w' := by
 go_enter Tryz.func106, Tryz.ntmps106
 go_wp2_with fail
 go_ret
 exact ⟨by first | rfl | simp [hm, hw], Bq⟩
theorem reach_fn (sec s c m : Int) (hm : s * c = m) (hw : IntKind.i64.wrap m = m) (p : Nat) (w : World) (hp : w.cell? ⟨p, 0, none⟩ = some (.int .i64 sec)) (hpl : p < w.heap.size) :
 Calls Tryz.prog 105 #[.agg #[.int .i64 s, .int .i64 c], .pointer (some ⟨p, 0, none⟩)] w fun e w' => e = .returned (.bool (decide (sec ≤ m))) ∧ Below w.heap.size w w' := by
 have HS : Hid (∀ W, Calls Tryz.prog 106 #[.agg #[.int .i64 s, .int .i64 c]] W fun e w' => e = .returned (.int .i64 m) ∧ Below W.heap.size W w') := Lib.hid fun W => span_prog s c m hm hw W
 have hne : p ≠ w.heap.size := by omega
 have e1 : (w.alloc (.cells #[.int .i64 s, .int .i64 c] 69)).cell? ⟨p, 0, none⟩ = some (.int .i64 sec) := (((Below.refl _ w).alloc (Nat.le_refl _) _).cell (p := ⟨p, 0, none⟩) hpl).trans hp
 have e3 : (w.alloc (.cells #[.int .i64 s, .int .i64 c] 69)).cell? ⟨w.heap.size, 0, none⟩ = some (.int .i64 s) := (RowAt.new w _ _).cell 0
 have e4 : (w.alloc (.cells #[.int .i64 s, .int .i64 c] 69)).cell? ⟨w.heap.size, 1, none⟩ = some (.int .i64 c) := (RowAt.new w _ _).cell 1
 clear hm hp
 obtain ⟨q, hq⟩ : ∃ q, q = decide (sec ≤ m) := ⟨_, rfl⟩
 have HQ := Lib.hid hq
 rw [← hq]
 clear hq
 go_enter Tryz.func105, Tryz.ntmps105
 go_wp2_with fail
 go_region_held3 (fun W => W.cell? ⟨p, 0, none⟩ = some (.int .i64 sec) ∧ W.cell? ⟨w.heap.size, 0, none⟩ = some (.int .i64 s) ∧ W.cell? ⟨w.heap.size, 1, none⟩ = some (.int .i64 c)) (first | exact ⟨e1, e3, e4⟩ | exact ⟨f1, f3, f4⟩ | go_keep)
  (first | (go_at_call 106; (with_reducible refine (HS.out _).mono ?_); rintro e w2 ⟨rfl, hb2⟩; have f1 : w2.cell? ⟨p, 0, none⟩ = some (.int .i64 sec) := (hb2.cell (p := ⟨p, 0, none⟩) (by simp; omega)).trans e1; have f3 : w2.cell? ⟨w.heap.size, 0, none⟩ = some (.int .i64 s) := (hb2.cell (p := ⟨w.heap.size, 0, none⟩) (by simp)).trans e3; have f4 : w2.cell? ⟨w.heap.size, 1, none⟩ = some (.int .i64 c) := (hb2.cell (p := ⟨w.heap.size, 1, none⟩) (by simp)).trans e4; have HB2 : Hid (Below w.heap.size w w2) := Lib.hid (below_via hb2 Bqn); clear hb2))
 all_goals go_wp2_with fail
 all_goals go_ret
 all_goals exact ⟨by rw [HQ.out]; rfl, HB2.out⟩
theorem cover_fn (at_ now s c m : Int) (hm : s * c = m) (hw : IntKind.i64.wrap m = m) (d : Int) (hd : now - at_ = d) (hwd : at_ ≤ now → IntKind.i64.wrap d = d) (p1 p2 : Nat) (w : World) (h1 : w.cell? ⟨p1, 0, none⟩ = some (.int .i64 at_)) (hl1 : p1 < w.heap.size) (h2 : w.cell? ⟨p2, 0, none⟩ = some (.int .i64 now)) (hl2 : p2 < w.heap.size) :
 Calls Tryz.prog 115 #[.agg #[.int .i64 s, .int .i64 c], .pointer (some ⟨p1, 0, none⟩), .pointer (some ⟨p2, 0, none⟩)] w fun e w' => e = .returned (.bool (decide (at_ ≤ now) && decide (d < m))) ∧ Below w.heap.size w w' := by
 have HS : Hid (∀ W, Calls Tryz.prog 106 #[.agg #[.int .i64 s, .int .i64 c]] W fun e w' => e = .returned (.int .i64 m) ∧ Below W.heap.size W w') := Lib.hid fun W => span_prog s c m hm hw W
 have hne1 : p1 ≠ w.heap.size := by omega
 have hne2 : p2 ≠ w.heap.size := by omega
 have hB : Below w.heap.size w (w.alloc (.cells #[.int .i64 s, .int .i64 c] 69)) := (Below.refl _ w).alloc (Nat.le_refl _) _
 have e1 : (w.alloc (.cells #[.int .i64 s, .int .i64 c] 69)).cell? ⟨p1, 0, none⟩ = some (.int .i64 at_) := (hB.cell (p := ⟨p1, 0, none⟩) hl1).trans h1
 have e2 : (w.alloc (.cells #[.int .i64 s, .int .i64 c] 69)).cell? ⟨p2, 0, none⟩ = some (.int .i64 now) := (hB.cell (p := ⟨p2, 0, none⟩) hl2).trans h2
 have e3 : (w.alloc (.cells #[.int .i64 s, .int .i64 c] 69)).cell? ⟨w.heap.size, 0, none⟩ = some (.int .i64 s) := (RowAt.new w _ _).cell 0
 have e4 : (w.alloc (.cells #[.int .i64 s, .int .i64 c] 69)).cell? ⟨w.heap.size, 1, none⟩ = some (.int .i64 c) := (RowAt.new w _ _).cell 1
 clear hm h1 h2
 by_cases hle : at_ ≤ now
 ·have hwd' := hwd hle
  obtain ⟨q, hq⟩ : ∃ q, q = (decide (at_ ≤ now) && decide (d < m)) := ⟨_, rfl⟩
  have HQ : Hid (q = decide (d < m)) := Lib.hid (by rw [hq, decide_eq_true hle, Bool.true_and])
  rw [← hq]
  clear hq hwd
  go_enter Tryz.func115, Tryz.ntmps115
  go_wp2_with fail
  go_region_held3 (fun W => W.cell? ⟨p1, 0, none⟩ = some (.int .i64 at_) ∧ W.cell? ⟨p2, 0, none⟩ = some (.int .i64 now) ∧ W.cell? ⟨w.heap.size, 0, none⟩ = some (.int .i64 s) ∧ W.cell? ⟨w.heap.size, 1, none⟩ = some (.int .i64 c)) (first | exact ⟨e1, e2, e3, e4⟩ | exact ⟨f1, f2, f3, f4⟩ | go_keep)
   (first | (go_at_call 106; (with_reducible refine (HS.out _).mono ?_); rintro e w2 ⟨rfl, hb2⟩; have f1 : w2.cell? ⟨p1, 0, none⟩ = some (.int .i64 at_) := (hb2.cell (p := ⟨p1, 0, none⟩) (by simp; omega)).trans e1; have f2 : w2.cell? ⟨p2, 0, none⟩ = some (.int .i64 now) := (hb2.cell (p := ⟨p2, 0, none⟩) (by simp; omega)).trans e2; have f3 : w2.cell? ⟨w.heap.size, 0, none⟩ = some (.int .i64 s) := (hb2.cell (p := ⟨w.heap.size, 0, none⟩) (by simp)).trans e3; have f4 : w2.cell? ⟨w.heap.size, 1, none⟩ = some (.int .i64 c) := (hb2.cell (p := ⟨w.heap.size, 1, none⟩) (by simp)).trans e4; have HB2 : Hid (Below w.heap.size w w2) := Lib.hid (below_via hb2 Bqn); clear hb2))
  all_goals go_wp2_with fail
  all_goals go_ret
  all_goals exact ⟨by rw [HQ.out]; rfl, HB2.out⟩
 ·obtain ⟨q, hq⟩ : ∃ q, q = (decide (at_ ≤ now) && decide (d < m)) := ⟨_, rfl⟩
  have HQ : Hid (q = false) := Lib.hid (by rw [hq, decide_eq_false hle, Bool.false_and])
  rw [← hq]
  have hleb : decide (at_ ≤ now) = false := decide_eq_false hle
  have hXl1 : p1 < (w.alloc (.cells #[.int .i64 s, .int .i64 c] 69)).heap.size := by simp; omega
  have hXl2 : p2 < (w.alloc (.cells #[.int .i64 s, .int .i64 c] 69)).heap.size := by simp; omega
  have hB0 := hB
  clear hq hwd hB e3 e4
  go_enter Tryz.func115, Tryz.ntmps115
  go_wp2_with fail
  generalize w.alloc (.cells #[.int .i64 s, .int .i64 c] 69) = X at *
  refine Inv.region (fun W W' => Below W.heap.size W W') (fun i v W => match i with
   | 0 => v = .int .i64 at_
   | 1 => v = .int .i64 now
   | 2 => v = .bool false
   | 3 => v = .bool false
   | 4 => v = undef
   | 5 => v = undef
   | 6 => v = undef
   | 7 => v = undef
   | 8 => v = undef
   | 9 => v = undef
   | 10 => v = .bool false
   | 11 => v = .bool false
   | _ => True) (by kernel_rfl) (by kernel_rfl) (by kernel_rfl) (fun W => Below.refl _ _) (fun a b c h k => h.trans (k.mono h.size)) (fun i v W W' h he => ?stab) ?obls ?fin
  case stab =>
   match i, h with
   | 0, h => exact h
   | 1, h => exact h
   | 2, h => exact h
   | 3, h => exact h
   | 4, h => exact h
   | 5, h => exact h
   | 6, h => exact h
   | 7, h => exact h
   | 8, h => exact h
   | 9, h => exact h
   | 10, h => exact h
   | 11, h => exact h
   | _ + 12, h => exact h
  case obls =>
   refine .cons ?_ (.cons ?_ (.cons ?_ (.cons ?_ (.cons ?_ (.cons ?_ (.cons ?_ (.cons ?_ (.cons ?_ (.cons ?_ (.cons ?_ (.cons ?_ .nil)))))))))))
   ·intro ac wx hE hf hd
    have hB : Below X.heap.size X wx := ⟨hE.1,hE.2,hE.3,hE.4,hE.5⟩
    rw [if_pos (Inv.want0 rfl _)]
    have h1 : ac.eval (.tmp 1) = .pointer (some ⟨p1, 0, none⟩) := hf 1 (by kernel_rfl)
    clear hf hd
    have k1 := (hB.cell (p := ⟨p1, 0, none⟩) hXl1).trans e1
    have k2 := (hB.cell (p := ⟨p2, 0, none⟩) hXl2).trans e2
    refine Inv.val (.int .i64 at_) ?_ rfl rfl (Below.refl _ _)
    clear hE hB
    generalize ac.eval = ev at *
    simp [execOp, go_sem, *]
   ·intro ac wx hE hf hd
    have hB : Below X.heap.size X wx := ⟨hE.1,hE.2,hE.3,hE.4,hE.5⟩
    rw [if_pos (Inv.want0 rfl _)]
    have h2 : ac.eval (.tmp 2) = .pointer (some ⟨p2, 0, none⟩) := hf 2 (by kernel_rfl)
    clear hf hd
    have k1 := (hB.cell (p := ⟨p1, 0, none⟩) hXl1).trans e1
    have k2 := (hB.cell (p := ⟨p2, 0, none⟩) hXl2).trans e2
    refine Inv.val (.int .i64 now) ?_ rfl rfl (Below.refl _ _)
    clear hE hB
    generalize ac.eval = ev at *
    simp [execOp, go_sem, *]
   ·intro ac wx hE hf hd
    have hB : Below X.heap.size X wx := ⟨hE.1,hE.2,hE.3,hE.4,hE.5⟩
    rw [if_pos (Inv.want0 rfl _)]
    have h5 := hd 0 _ (by kernel_rfl) rfl
    change ac.eval (.tmp 5) = .int .i64 at_ at h5
    have h6 := hd 1 _ (by kernel_rfl) rfl
    change ac.eval (.tmp 6) = .int .i64 now at h6
    clear hf hd
    refine Inv.val (.bool false) ?_ rfl rfl (Below.refl _ _)
    clear hE hB
    generalize ac.eval = ev at *
    simp [execOp, go_sem, *]
   ·intro ac wx hE hf hd
    have hB : Below X.heap.size X wx := ⟨hE.1,hE.2,hE.3,hE.4,hE.5⟩
    rw [if_pos (Inv.want0 rfl _)]
    have h7 := hd 2 _ (by kernel_rfl) rfl
    change ac.eval (.tmp 7) = .bool false at h7
    clear hf hd
    have k1 := (hB.cell (p := ⟨p1, 0, none⟩) hXl1).trans e1
    have k2 := (hB.cell (p := ⟨p2, 0, none⟩) hXl2).trans e2
    refine Inv.val (.bool false) ?_ rfl rfl (Below.refl _ _)
    clear hE hB
    generalize ac.eval = ev at *
    simp [execOp, go_sem, *]
   ·intro ac wx hE hf hd
    have hB : Below X.heap.size X wx := ⟨hE.1,hE.2,hE.3,hE.4,hE.5⟩
    have hg := hd 3 _ (by kernel_rfl) rfl
    change ac.eval (.tmp 8) = .bool false at hg
    rw [if_neg (Inv.unwant (j := 3) (b := true) (c := false) (d := 8) rfl rfl rfl hg rfl)]
    all_goals exact rfl
   ·intro ac wx hE hf hd
    have hB : Below X.heap.size X wx := ⟨hE.1,hE.2,hE.3,hE.4,hE.5⟩
    have hg := hd 3 _ (by kernel_rfl) rfl
    change ac.eval (.tmp 8) = .bool false at hg
    rw [if_neg (Inv.unwant (j := 3) (b := true) (c := false) (d := 8) rfl rfl rfl hg rfl)]
    all_goals exact rfl
   ·intro ac wx hE hf hd
    have hB : Below X.heap.size X wx := ⟨hE.1,hE.2,hE.3,hE.4,hE.5⟩
    have hg := hd 3 _ (by kernel_rfl) rfl
    change ac.eval (.tmp 8) = .bool false at hg
    rw [if_neg (Inv.unwant (j := 3) (b := true) (c := false) (d := 8) rfl rfl rfl hg rfl)]
    all_goals exact rfl
   ·intro ac wx hE hf hd
    have hB : Below X.heap.size X wx := ⟨hE.1,hE.2,hE.3,hE.4,hE.5⟩
    have hg := hd 3 _ (by kernel_rfl) rfl
    change ac.eval (.tmp 8) = .bool false at hg
    rw [if_neg (Inv.unwant (j := 3) (b := true) (c := false) (d := 8) rfl rfl rfl hg rfl)]
    all_goals exact rfl
   ·intro ac wx hE hf hd
    have hB : Below X.heap.size X wx := ⟨hE.1,hE.2,hE.3,hE.4,hE.5⟩
    have hg := hd 3 _ (by kernel_rfl) rfl
    change ac.eval (.tmp 8) = .bool false at hg
    rw [if_neg (Inv.unwant (j := 3) (b := true) (c := false) (d := 8) rfl rfl rfl hg rfl)]
    all_goals exact rfl
   ·intro ac wx hE hf hd
    have hB : Below X.heap.size X wx := ⟨hE.1,hE.2,hE.3,hE.4,hE.5⟩
    have hg := hd 3 _ (by kernel_rfl) rfl
    change ac.eval (.tmp 8) = .bool false at hg
    rw [if_neg (Inv.unwant (j := 3) (b := true) (c := false) (d := 8) rfl rfl rfl hg rfl)]
    all_goals exact rfl
   ·intro ac wx hE hf hd
    have hB : Below X.heap.size X wx := ⟨hE.1,hE.2,hE.3,hE.4,hE.5⟩
    rw [if_pos (Inv.want0 rfl _)]
    have h8 := hd 3 _ (by kernel_rfl) rfl
    change ac.eval (.tmp 8) = .bool false at h8
    have h14 := hd 9 _ (by kernel_rfl) rfl
    change ac.eval (.tmp 14) = undef at h14
    clear hf hd
    have k1 := (hB.cell (p := ⟨p1, 0, none⟩) hXl1).trans e1
    have k2 := (hB.cell (p := ⟨p2, 0, none⟩) hXl2).trans e2
    refine Inv.val (.bool false) ?_ rfl rfl (Below.refl _ _)
    clear hE hB
    have hcst : ∀ v, ac.eval (.const v) = v := fun _ => rfl
    generalize ac.eval = ev at *
    simp [execOp, go_sem, *]
   ·intro ac wx hE hf hd
    have hB : Below X.heap.size X wx := ⟨hE.1,hE.2,hE.3,hE.4,hE.5⟩
    rw [if_pos (Inv.want0 rfl _)]
    have h15 := hd 10 _ (by kernel_rfl) rfl
    change ac.eval (.tmp 15) = .bool false at h15
    clear hf hd
    have k1 := (hB.cell (p := ⟨p1, 0, none⟩) hXl1).trans e1
    have k2 := (hB.cell (p := ⟨p2, 0, none⟩) hXl2).trans e2
    refine Inv.val (.bool false) ?_ rfl rfl (Below.refl _ _)
    clear hE hB
    generalize ac.eval = ev at *
    simp [execOp, go_sem, *]
  case fin =>
   intro ac wx hE ha hall
   have hB : Below X.heap.size X wx := ⟨hE.1,hE.2,hE.3,hE.4,hE.5⟩
   have h5 := hall 0 _ rfl
   change ac.eval (.tmp 5) = .int .i64 at_ at h5
   have h6 := hall 1 _ rfl
   change ac.eval (.tmp 6) = .int .i64 now at h6
   have h7 := hall 2 _ rfl
   change ac.eval (.tmp 7) = .bool false at h7
   have h8 := hall 3 _ rfl
   change ac.eval (.tmp 8) = .bool false at h8
   have h9 := hall 4 _ rfl
   change ac.eval (.tmp 9) = undef at h9
   have h10 := hall 5 _ rfl
   change ac.eval (.tmp 10) = undef at h10
   have h11 := hall 6 _ rfl
   change ac.eval (.tmp 11) = undef at h11
   have h12 := hall 7 _ rfl
   change ac.eval (.tmp 12) = undef at h12
   have h13 := hall 8 _ rfl
   change ac.eval (.tmp 13) = undef at h13
   have h14 := hall 9 _ rfl
   change ac.eval (.tmp 14) = undef at h14
   have h15 := hall 10 _ rfl
   change ac.eval (.tmp 15) = .bool false at h15
   have h4 := hall 11 _ rfl
   change ac.eval (.tmp 4) = .bool false at h4
   simp only [List.foldl, Inv.slot, Act.put] at ha
   change ac.tmps.getD 5 undef = _ at h5
   change ac.tmps.getD 6 undef = _ at h6
   change ac.tmps.getD 7 undef = _ at h7
   change ac.tmps.getD 8 undef = _ at h8
   change ac.tmps.getD 9 undef = _ at h9
   change ac.tmps.getD 10 undef = _ at h10
   change ac.tmps.getD 11 undef = _ at h11
   change ac.tmps.getD 12 undef = _ at h12
   change ac.tmps.getD 13 undef = _ at h13
   change ac.tmps.getD 14 undef = _ at h14
   change ac.tmps.getD 15 undef = _ at h15
   change ac.tmps.getD 4 undef = _ at h4
   simp only [h5, h6, h7, h8, h9, h10, h11, h12, h13, h14, h15, h4, List.setIfInBounds_toArray, List.set_cons_zero, List.set_cons_succ] at ha
   clear h5 h6 h7 h8 h9 h10 h11 h12 h13 h14 h15 h4 hall hE
   subst ha
   go_wp2_with fail
   go_ret
   exact ⟨by rw [HQ.out]; rfl, hB0.trans (hB.mono hB0.size)⟩
end
section
open Go.RowKit Go.Sort
open Fx (Vl)
open Me
open Wp
theorem index_cover (l : List (Int × Int)) (A : Option Addr) (cap : Nat) (p1 p2 : Nat) (pr : Nat → Bool) (w : World) (hr : Row w A l cap) (h0 : 0 < l.length) (h8 : l.length ≤ 8)
 (hc : ∀ W i, i < l.length → Below w.heap.size w W → Calls Tryz.prog 115 #[.agg #[.int .i64 (Wh.At l i).1, .int .i64 (Wh.At l i).2], .pointer (some ⟨p1, 0, none⟩), .pointer (some ⟨p2, 0, none⟩)] W fun e w' => e = .returned (.bool (pr i)) ∧ Below W.heap.size W w') :
 Calls Tryz.prog 104 #[.slice A l.length cap, .func (.func 115) #[] #[.pointer (some ⟨p1, 0, none⟩), .pointer (some ⟨p2, 0, none⟩)]] w fun e w' => e = .returned (.int .i64 (seek pr l.length 0)) ∧ Below w.heap.size w w' := by
 have HR := Lib.hid hr
 have HC := Lib.hid hc
 have hlen : l.length ≤ cap := hr.1
 clear hr hc
 obtain ⟨N, hN⟩ : ∃ N, Hid (N = l.length) := ⟨_, Lib.hid rfl⟩
 have hN8 : N ≤ 8 := by rw [hN.out]; exact h8
 rw [← hN.out] at hlen ⊢
 obtain ⟨b, off, rfl, ha⟩ := HR.out.2 (by omega)
 have hbl := ha.lt
 have HA : Hid (∀ W i, i < N → Below w.heap.size w W → W.cell? ⟨b, off + i * 2, none⟩ = some (.int .i64 (Wh.At l i).1) ∧ W.cell? ⟨b, off + i * 2 + 1, none⟩ = some (.int .i64 (Wh.At l i).2) ∧ b < W.heap.size) := Lib.hid fun W i hi hb =>
  ⟨(hb.cell (p := ⟨b, off + i * 2, none⟩) hbl).trans (ha.st i (by rw [← hN.out]; exact hi)), (hb.cell (p := ⟨b, off + i * 2 + 1, none⟩) hbl).trans (ha.ct i (by rw [← hN.out]; exact hi)), Nat.lt_of_lt_of_le hbl hb.size⟩
 clear ha
 go_enter Tryz.func104, Tryz.ntmps104
 go_wp2_with fail
 go_loopw [5, 8] (fun _ u wr => ∃ i : Nat, i ≤ N ∧ u = .int .i64 i ∧ Hid (seek pr N 0 = seek pr (N - i) i) ∧ Below w.heap.size w wr) (fun _ u _ => N - (intOf u).toNat)
 case atStart => exact ⟨0, Nat.zero_le _, rfl, Lib.hid rfl, Below.refl _ _⟩
 case round =>
  obtain ⟨i, hi, rfl, HS, hbel⟩ := hrel
  have HB := Lib.hid hbel
  clear hbel
  by_cases hlt : i < N
  ·have hiI : (i : Int) < (N : Int) := by omega
   have hi0 : (0 : Int) ≤ (i : Int) := by omega
   obtain ⟨s0, s1, hbw⟩ := HA.out wr i hlt HB.out
   have HCi := Lib.hid (HC.out wr i (by rw [← hN.out]; exact hlt) HB.out)
   obtain ⟨m, hm⟩ : ∃ m, N - i = m + 1 := ⟨N - i - 1, by omega⟩
   rw [hm] at HS
   have HM := Lib.hid hm
   clear hm
   generalize Wh.At l i = x at *
   obtain ⟨x1, x2⟩ := x
   cases hq : pr i with
   | true =>
     rw [hq] at HCi
     have HQ : Hid (seek pr N 0 = (i : Int)) := Lib.hid (by rw [HS.out, seek_yes hq])
     clear hq
     go_wp2_with (go_at_call 115; (with_reducible refine (HCi.out).mono ?_); rintro e w2 ⟨rfl, hb2⟩; have HB2 : Hid (Below w.heap.size w w2) := Lib.hid (below_via hb2 HB.out); clear hb2)
     go_ret
     exact ⟨by rw [HQ.out]; rfl, HB2.out⟩
   | false =>
     rw [hq] at HCi
     have HQ : Hid (seek pr N 0 = seek pr (N - (i + 1)) (i + 1)) := Lib.hid (by rw [HS.out, seek_no hq]; congr 1; have := HM.out; omega)
     clear hq
     go_wp2_with (go_at_call 115; (with_reducible refine (HCi.out).mono ?_); rintro e w2 ⟨rfl, hb2⟩; have HB2 : Hid (Below w.heap.size w w2) := Lib.hid (below_via hb2 HB.out); clear hb2)
     go_roundw
     case rel => exact ⟨i + 1, by omega, by go_num, HQ, HB2.out⟩
     case measure => simp [intOf]; omega
  ·have hiN : i = N := by omega
   have hiI : ¬ (i : Int) < (N : Int) := by omega
   have HQ : Hid (seek pr N 0 = -1) := Lib.hid (by rw [HS.out, hiN, Nat.sub_self]; rfl)
   go_wp2_with fail
   go_ret
   exact ⟨by rw [HQ.out]; rfl, HB.out⟩
theorem index_reach (l : List (Int × Int)) (A : Option Addr) (cap : Nat) (p1 : Nat) (pr : Nat → Bool) (w : World) (hr : Row w A l cap) (h0 : 0 < l.length) (h8 : l.length ≤ 8)
 (hc : ∀ W i, i < l.length → Below w.heap.size w W → Calls Tryz.prog 105 #[.agg #[.int .i64 (Wh.At l i).1, .int .i64 (Wh.At l i).2], .pointer (some ⟨p1, 0, none⟩)] W fun e w' => e = .returned (.bool (pr i)) ∧ Below W.heap.size W w') :
 Calls Tryz.prog 104 #[.slice A l.length cap, .func (.func 105) #[] #[.pointer (some ⟨p1, 0, none⟩)]] w fun e w' => e = .returned (.int .i64 (seek pr l.length 0)) ∧ Below w.heap.size w w' := by
 have HR := Lib.hid hr
 have HC := Lib.hid hc
 have hlen : l.length ≤ cap := hr.1
 clear hr hc
 obtain ⟨N, hN⟩ : ∃ N, Hid (N = l.length) := ⟨_, Lib.hid rfl⟩
 have hN8 : N ≤ 8 := by rw [hN.out]; exact h8
 rw [← hN.out] at hlen ⊢
 obtain ⟨b, off, rfl, ha⟩ := HR.out.2 (by omega)
 have hbl := ha.lt
 have HA : Hid (∀ W i, i < N → Below w.heap.size w W → W.cell? ⟨b, off + i * 2, none⟩ = some (.int .i64 (Wh.At l i).1) ∧ W.cell? ⟨b, off + i * 2 + 1, none⟩ = some (.int .i64 (Wh.At l i).2) ∧ b < W.heap.size) := Lib.hid fun W i hi hb =>
  ⟨(hb.cell (p := ⟨b, off + i * 2, none⟩) hbl).trans (ha.st i (by rw [← hN.out]; exact hi)), (hb.cell (p := ⟨b, off + i * 2 + 1, none⟩) hbl).trans (ha.ct i (by rw [← hN.out]; exact hi)), Nat.lt_of_lt_of_le hbl hb.size⟩
 clear ha
 go_enter Tryz.func104, Tryz.ntmps104
 go_wp2_with fail
 go_loopw [5, 8] (fun _ u wr => ∃ i : Nat, i ≤ N ∧ u = .int .i64 i ∧ Hid (seek pr N 0 = seek pr (N - i) i) ∧ Below w.heap.size w wr) (fun _ u _ => N - (intOf u).toNat)
 case atStart => exact ⟨0, Nat.zero_le _, rfl, Lib.hid rfl, Below.refl _ _⟩
 case round =>
  obtain ⟨i, hi, rfl, HS, hbel⟩ := hrel
  have HB := Lib.hid hbel
  clear hbel
  by_cases hlt : i < N
  ·have hiI : (i : Int) < (N : Int) := by omega
   have hi0 : (0 : Int) ≤ (i : Int) := by omega
   obtain ⟨s0, s1, hbw⟩ := HA.out wr i hlt HB.out
   have HCi := Lib.hid (HC.out wr i (by rw [← hN.out]; exact hlt) HB.out)
   obtain ⟨m, hm⟩ : ∃ m, N - i = m + 1 := ⟨N - i - 1, by omega⟩
   rw [hm] at HS
   have HM := Lib.hid hm
   clear hm
   generalize Wh.At l i = x at *
   obtain ⟨x1, x2⟩ := x
   cases hq : pr i with
   | true =>
     rw [hq] at HCi
     have HQ : Hid (seek pr N 0 = (i : Int)) := Lib.hid (by rw [HS.out, seek_yes hq])
     clear hq
     go_wp2_with (go_at_call 105; (with_reducible refine (HCi.out).mono ?_); rintro e w2 ⟨rfl, hb2⟩; have HB2 : Hid (Below w.heap.size w w2) := Lib.hid (below_via hb2 HB.out); clear hb2)
     go_ret
     exact ⟨by rw [HQ.out]; rfl, HB2.out⟩
   | false =>
     rw [hq] at HCi
     have HQ : Hid (seek pr N 0 = seek pr (N - (i + 1)) (i + 1)) := Lib.hid (by rw [HS.out, seek_no hq]; congr 1; have := HM.out; omega)
     clear hq
     go_wp2_with (go_at_call 105; (with_reducible refine (HCi.out).mono ?_); rintro e w2 ⟨rfl, hb2⟩; have HB2 : Hid (Below w.heap.size w w2) := Lib.hid (below_via hb2 HB.out); clear hb2)
     go_roundw
     case rel => exact ⟨i + 1, by omega, by go_num, HQ, HB2.out⟩
     case measure => simp [intOf]; omega
  ·have hiN : i = N := by omega
   have hiI : ¬ (i : Int) < (N : Int) := by omega
   have HQ : Hid (seek pr N 0 = -1) := Lib.hid (by rw [HS.out, hiN, Nat.sub_self]; rfl)
   go_wp2_with fail
   go_ret
   exact ⟨by rw [HQ.out]; rfl, HB.out⟩
namespace Wp
def fileV (h : Hd) (A : Option Addr) (cap fs : Nat) (n : List UInt8) : Value := .agg #[.int .i64 h.ag, .int .i64 h.xf, .slice A h.l.length cap, .pointer (some ⟨fs, 0, none⟩), .string ⟨n.toArray⟩]
theorem span_num {h : Hd} (hv : h.val = true) {i : Nat} (hi : i < h.l.length) : 0 ≤ h.step i * h.cnt i ∧ IntKind.i64.wrap (h.step i * h.cnt i) = h.step i * h.cnt i := by
 obtain ⟨⟨n1, n2⟩, n3, n4⟩ := Hd.nums hv i hi
 have h1 : 0 ≤ h.step i * h.cnt i := Int.mul_nonneg (by omega) (by omega)
 have h2 := Int.mul_le_mul n2 n4 (by omega) (by omega)
 exact ⟨h1, IntWalk.i64_in _ (by omega)⟩
end Wp
theorem covering_any {w : World} {fs : Nat} {n : List UInt8} {h : Hd} {A : Option Addr} {cap : Nat} (hr : Row w A h.l cap) (hv : h.val = true) (now t d : Int) (h1 : 1 ≤ t) (h2 : now ≤ 4294967295) (hd : now - t = d) :
 Calls Tryz.prog 92 #[fileV h A cap fs n, .int .i64 now, .int .i64 t] w fun e w' => e = .returned (.int .i64 (if t ≤ now then find h d else -1)) ∧ Below w.heap.size w w' := by
 have HIX : Hid (∀ (W : World) (p1 p2 : Nat), Below w.heap.size w W → W.cell? ⟨p1, 0, none⟩ = some (.int .i64 t) → p1 < W.heap.size → W.cell? ⟨p2, 0, none⟩ = some (.int .i64 now) → p2 < W.heap.size → Calls Tryz.prog 104 #[.slice A h.l.length cap, .func (.func 115) #[] #[.pointer (some ⟨p1, 0, none⟩), .pointer (some ⟨p2, 0, none⟩)]] W fun e w' => e = .returned (.int .i64 (seek (fun i => decide (t ≤ now) && decide (d < h.step i * h.cnt i)) h.l.length 0)) ∧ Below W.heap.size W w') := Lib.hid fun W p1 p2 hb c1 l1 c2 l2 =>
  index_cover h.l A cap p1 p2 _ W (hr.below hb) (by have := Hd.len hv; omega) (by have := Hd.len hv; omega) fun X i hi hbx => cover_fn t now _ _ _ rfl (span_num hv hi).2 d hd (fun hle => IntWalk.i64_in _ (by omega)) p1 p2 X ((hbx.cell (p := ⟨p1, 0, none⟩) l1).trans c1) (Nat.lt_of_lt_of_le l1 hbx.size) ((hbx.cell (p := ⟨p2, 0, none⟩) l2).trans c2) (Nat.lt_of_lt_of_le l2 hbx.size)
 obtain ⟨q, hq⟩ : ∃ q, q = seek (fun i => decide (t ≤ now) && decide (d < h.step i * h.cnt i)) h.l.length 0 := ⟨_, rfl⟩
 rw [← hq] at HIX
 have HQ : Hid (q = if t ≤ now then find h d else -1) := Lib.hid (by
  rw [hq]
  by_cases hle : t ≤ now
  ·rw [if_pos hle, decide_eq_true hle]
   simp only [Bool.true_and]
   exact seek_first _ _
  ·rw [if_neg hle, decide_eq_false hle]
   exact seek_none _ _ fun _ => by simp)
 clear hq hr
 rw [← HQ.out]
 unfold fileV
 generalize h.l.length = N at *
 generalize h.ag = ag at *
 generalize h.xf = xf at *
 go_enter Tryz.func92, Tryz.ntmps92
 go_wp2_with (go_at_call 104; (with_reducible refine (HIX.out _ _ _ Bq (by simp [go_sem]) (by simp) (by simp [go_sem]) (by simp)).mono ?_); rintro e w2 ⟨rfl, hb2⟩)
 go_ret
 exact ⟨rfl, Bq⟩
theorem reaching_any {w : World} {fs : Nat} {n : List UInt8} {h : Hd} {A : Option Addr} {cap : Nat} (hr : Row w A h.l cap) (hv : h.val = true) (sec : Int) :
 Calls Tryz.prog 77 #[fileV h A cap fs n, .int .i64 sec] w fun e w' => e = .returned (.int .i64 (find h (sec - 1))) ∧ Below w.heap.size w w' := by
 have HIX : Hid (∀ (W : World) (p1 : Nat), Below w.heap.size w W → W.cell? ⟨p1, 0, none⟩ = some (.int .i64 sec) → p1 < W.heap.size → Calls Tryz.prog 104 #[.slice A h.l.length cap, .func (.func 105) #[] #[.pointer (some ⟨p1, 0, none⟩)]] W fun e w' => e = .returned (.int .i64 (seek (fun i => decide (sec ≤ h.step i * h.cnt i)) h.l.length 0)) ∧ Below W.heap.size W w') := Lib.hid fun W p1 hb c1 l1 =>
  index_reach h.l A cap p1 _ W (hr.below hb) (by have := Hd.len hv; omega) (by have := Hd.len hv; omega) fun X i hi hbx => reach_fn sec _ _ _ rfl (span_num hv hi).2 p1 X ((hbx.cell (p := ⟨p1, 0, none⟩) l1).trans c1) (Nat.lt_of_lt_of_le l1 hbx.size)
 obtain ⟨q, hq⟩ : ∃ q, q = seek (fun i => decide (sec ≤ h.step i * h.cnt i)) h.l.length 0 := ⟨_, rfl⟩
 rw [← hq] at HIX
 have HQ : Hid (q = find h (sec - 1)) := Lib.hid (by
  rw [hq]
  have e : (fun i => decide (sec ≤ h.step i * h.cnt i)) = fun i => decide (sec - 1 < h.step i * h.cnt i) := funext fun i => by
   rw [Bool.eq_iff_iff]; simp only [decide_eq_true_eq]; omega
  rw [e]
  exact seek_first _ _)
 clear hq hr
 rw [← HQ.out]
 unfold fileV
 generalize h.l.length = N at *
 generalize h.ag = ag at *
 generalize h.xf = xf at *
 go_enter Tryz.func77, Tryz.ntmps77
 go_wp2_with (go_at_call 104; (with_reducible refine (HIX.out _ _ Bq (by simp [go_sem]) (by simp)).mono ?_); rintro e w2 ⟨rfl, hb2⟩)
 go_ret
 exact ⟨rfl, Bq⟩
end
section
namespace Vp
open Vf
def look : List Fl → List UInt8 → Option (List UInt8)
 | [], _ => none
 | f :: r, n => if f.name = n then some f.b else look r n
def Uniq (l : List Fl) : Prop := l.Pairwise (fun f g => f.name ≠ g.name)
theorem ixFrom_look (n : List UInt8) : ∀ (l : List Fl) (k : Nat), (look l n = none ∧ ixFrom n k l = -1) ∨ ∃ j, ∃ h : j < l.length, ixFrom n k l = ((k + j : Nat) : Int) ∧ look l n = some l[j].b ∧ l[j].name = n
 | [], _ => .inl ⟨rfl, rfl⟩
 | f :: r, k => by
   by_cases e : f.name = n
   ·refine .inr ⟨0, by simp, ?_, ?_, e⟩
    ·rw [ixFrom, if_pos (by simpa using e)]; simp
    ·rw [look, if_pos e]; rfl
   ·have e1 : ixFrom n k (f :: r) = ixFrom n (k + 1) r := by rw [ixFrom, if_neg (by simpa using e)]
    have e2 : look (f :: r) n = look r n := by rw [look, if_neg e]
    rw [e1, e2]
    rcases ixFrom_look n r (k + 1) with h | ⟨j, hj, h1, h2, h3⟩
    ·exact .inl h
    ·exact .inr ⟨j + 1, by simpa using hj, by rw [h1]; congr 1; omega, by simpa using h2, by simpa using h3⟩
theorem ix_none {l : List Fl} {n : List UInt8} (h : look l n = none) : ix l n = -1 := by
 rcases ixFrom_look n l 0 with h1 | ⟨j, hj, h1, h2, h3⟩
 ·exact h1.2
 ·rw [h] at h2; cases h2
theorem ix_some {l : List Fl} {n b : List UInt8} (h : look l n = some b) : ¬ ix l n < 0 ∧ bytesAt l n = b := by
 rcases ixFrom_look n l 0 with h1 | ⟨j, hj, h1, h2, h3⟩
 ·rw [h] at h1; cases h1.1
 ·have e : ix l n = (j : Int) := by rw [ix, h1]; congr 1; omega
  rw [h] at h2
  refine ⟨by omega, ?_⟩
  unfold bytesAt
  rw [e]
  simp [hj]
  exact (Option.some.inj h2).symm
theorem look_append (l m : List Fl) (n : List UInt8) : look (l ++ m) n = (look l n).or (look m n) := by
 induction l with
 | nil => simp [look]
 | cons f r ih =>
   rw [List.cons_append, look, look]
   split
   ·simp
   ·exact ih
def wr (n : List UInt8) (o : Nat) (b : List UInt8) (f : Fl) : Fl := if f.name = n then ⟨f.name, upd f.b o b⟩ else f
theorem wr_name (n : List UInt8) (o : Nat) (b : List UInt8) (f : Fl) : (wr n o b f).name = f.name := by unfold wr; split <;> rfl
theorem look_wr (n : List UInt8) (o : Nat) (b : List UInt8) (l : List Fl) (m : List UInt8) : look (l.map (wr n o b)) m = if m = n then (look l m).map (fun x => upd x o b) else look l m := by
 induction l with
 | nil => simp [look]
 | cons f r ih =>
   rw [List.map_cons, look, look, wr_name]
   by_cases e : f.name = m
   ·rw [if_pos e, if_pos e]
    by_cases e2 : m = n
    ·subst e; subst e2; simp [wr]
    ·rw [if_neg e2]; unfold wr; rw [if_neg (by rw [e]; exact e2)]
   ·rw [if_neg e, if_neg e, ih]
theorem look_none_mem {l : List Fl} {n : List UInt8} (h : look l n = none) : ∀ f ∈ l, f.name ≠ n := by
 induction l with
 | nil => intro f hf; cases hf
 | cons g r ih =>
   by_cases e : g.name = n
   ·rw [look, if_pos e] at h; cases h
   ·rw [look, if_neg e] at h
    intro f hf
    rcases List.mem_cons.1 hf with rfl | hf
    ·exact e
    ·exact ih h f hf
theorem goes_past (a : Ac) (i : Int) : ∀ (l : List Fl) (k : Nat), i < (k : Int) → goes a i k l = l
 | [], _, _ => rfl
 | x :: r, k, h => by
   rw [goes, goes_past a i r (k + 1) (by omega)]
   unfold one
   rw [if_neg (fun hh => by omega), if_neg (fun hh => by omega)]
   rfl
theorem goes_one (a : Ac) (h1 : a.kind ≠ 2) (h2 : a.kind ≠ 3) (i : Int) : ∀ (l : List Fl) (k : Nat), goes a i k l = l
 | [], _ => rfl
 | x :: r, k => by
   rw [goes, goes_one a h1 h2 i r (k + 1)]
   unfold one
   rw [if_neg (fun hh => h1 hh.2), if_neg (fun hh => h2 hh.2)]
   rfl
theorem ixFrom_ge (n : List UInt8) (l : List Fl) (k : Nat) : ixFrom n k l = -1 ∨ (k : Int) ≤ ixFrom n k l := by
 rcases ixFrom_look n l k with h | ⟨j, _, h, _⟩
 ·exact .inl h.2
 ·exact .inr (by omega)
theorem goes_two (a : Ac) (h2 : a.kind = 2) : ∀ (l : List Fl) (k : Nat), Uniq l → goes a (ixFrom a.name k l) k l = l.map (wr a.name a.off a.p)
 | [], _, _ => rfl
 | x :: r, k, hu => by
   obtain ⟨hx, hr⟩ := List.pairwise_cons.1 hu
   by_cases e : x.name = a.name
   ·have e1 : ixFrom a.name k (x :: r) = (k : Int) := by rw [ixFrom, if_pos (by simpa using e)]
    rw [e1, goes, goes_past a _ r (k + 1) (by omega), List.map_cons]
    have er : r.map (wr a.name a.off a.p) = r := by
     conv => rhs; rw [← List.map_id r]
     apply List.map_congr_left
     intro f hf
     unfold wr
     rw [if_neg (fun h => hx f hf (by rw [e, h]))]
     rfl
    rw [er]
    unfold one wr
    rw [if_pos ⟨rfl, h2⟩, if_pos e]
    rfl
   ·have e1 : ixFrom a.name k (x :: r) = ixFrom a.name (k + 1) r := by rw [ixFrom, if_neg (by simpa using e)]
    have hg := ixFrom_ge a.name r (k + 1)
    rw [e1, goes, goes_two a h2 r (k + 1) hr, List.map_cons]
    unfold one
    rw [if_neg (fun hh => by omega), if_neg (fun hh => by omega)]
    unfold wr
    rw [if_neg e]
    rfl
theorem does_one (l : List Fl) (n : List UInt8) (o : Nat) (b : List UInt8) : does l ⟨1, n, o, b⟩ = l ++ [⟨n, b⟩] := by
 unfold does
 rw [goes_one _ (show (1 : Int) ≠ 2 by decide) (show (1 : Int) ≠ 3 by decide)]
 rfl
theorem does_two (l : List Fl) (hu : Uniq l) (n : List UInt8) (o : Nat) (b : List UInt8) : does l ⟨2, n, o, b⟩ = l.map (wr n o b) := by
 unfold does ix
 rw [goes_two ⟨2, n, o, b⟩ rfl l 0 hu]
 simp
theorem uniq_one {l : List Fl} (hu : Uniq l) {n b : List UInt8} (h : look l n = none) : Uniq (l ++ [⟨n, b⟩]) := by
 refine List.pairwise_append.2 ⟨hu, by simp, fun f hf g hg => ?_⟩
 rw [List.mem_singleton] at hg
 subst hg
 exact look_none_mem h f hf
theorem uniq_two {l : List Fl} (hu : Uniq l) (n : List UInt8) (o : Nat) (b : List UInt8) : Uniq (l.map (wr n o b)) := by
 refine List.pairwise_map.2 (hu.imp fun {f g} h => ?_)
 rw [wr_name, wr_name]
 exact h
theorem used_two (n : List UInt8) (o : Nat) (b : List UInt8) : ∀ (l : List Fl), Uniq l → (∀ x, look l n = some x → o + b.length ≤ x.length) → Vf.used (l.map (wr n o b)) = Vf.used l
 | [], _, _ => rfl
 | f :: r, hu, h => by
   obtain ⟨hx, hr⟩ := List.pairwise_cons.1 hu
   rw [List.map_cons, used_cons, used_cons]
   by_cases e : f.name = n
   ·have h1 := h f.b (by rw [look, if_pos e])
    have er : r.map (wr n o b) = r := by
     conv => rhs; rw [← List.map_id r]
     apply List.map_congr_left
     intro g hg
     unfold wr
     rw [if_neg (fun h => hx g hg (by rw [e, h]))]
     rfl
    rw [er]
    unfold wr
    rw [if_pos e]
    show (upd f.b o b).length + _ = _
    rw [upd_len h1]
   ·rw [used_two n o b r hr (fun x hx => h x (by rw [look, if_neg e]; exact hx))]
    unfold wr
    rw [if_neg e]
structure Op where
 kind : Int
 on : Nat
 at_ : Nat
 old : List UInt8
structure Co where
 map : List UInt8 → Option Nat
 sto : Nat → Fl
 used : Int
def setM (m : List UInt8 → Option Nat) (n : List UInt8) (v : Option Nat) : List UInt8 → Option Nat := fun x => if x = n then v else m x
def setS (s : Nat → Fl) (i : Nat) (f : Fl) : Nat → Fl := fun x => if x = i then f else s x
theorem setM_same (m : List UInt8 → Option Nat) (n : List UInt8) (v : Option Nat) : setM m n v n = v := by simp [setM]
theorem setM_back (m : List UInt8 → Option Nat) (n : List UInt8) (v u : Option Nat) (h : m n = u) : setM (setM m n v) n u = m := by
 funext x
 unfold setM
 by_cases e : x = n
 ·rw [if_pos e, e, h]
 ·rw [if_neg e, if_neg e]
theorem setS_same (s : Nat → Fl) (i : Nat) (f : Fl) : setS s i f i = f := by simp [setS]
theorem setS_twice (s : Nat → Fl) (i : Nat) (f g : Fl) : setS (setS s i f) i g = setS s i g := by
 funext x
 unfold setS
 by_cases e : x = i
 ·rw [if_pos e, if_pos e]
 ·rw [if_neg e, if_neg e, if_neg e]
def Co.put (c : Co) (id : Nat) : Co := ⟨setM c.map (c.sto id).name (some id), c.sto, c.used + (c.sto id).b.length⟩
def Co.drop (c : Co) (id : Nat) : Co := ⟨setM c.map (c.sto id).name none, c.sto, c.used - (c.sto id).b.length⟩
def Co.lay (c : Co) (id : Nat) (f : Fl) : Co := ⟨c.map, setS c.sto id f, c.used⟩
def Co.over (c : Co) (id : Nat) (o : Nat) (b : List UInt8) : Co := c.lay id ⟨(c.sto id).name, upd (c.sto id).b o b⟩
def stay (o : Op) (m : Int) : Nat := (min (max m 0) (o.old.length : Int)).toNat
def Co.undo (c : Co) (o : Op) (m : Int) : Co := if o.kind = 1 then c.drop o.on else if o.kind = 2 then c.over o.on (o.at_ + stay o m) (o.old.drop (stay o m)) else c.put o.on
structure View (c : Co) (l : List Fl) : Prop where
 look : ∀ n, (c.map n).map (fun id => (c.sto id).b) = look l n
 name : ∀ n id, c.map n = some id → (c.sto id).name = n
 used : c.used = (Vf.used l : Int)
 uniq : Uniq l
theorem View.agree {c : Co} {l : List Fl} (h : View c l) {I : Nat → Prop} (hI : ∀ n id, c.map n = some id → I id) {s : Nat → Fl} (hs : ∀ id, I id → s id = c.sto id) : View ⟨c.map, s, c.used⟩ l := by
 refine ⟨fun n => ?_, fun n id e => ?_, h.used, h.uniq⟩
 ·rw [← h.look n]
  show (c.map n).map (fun id => (s id).b) = _
  cases e : c.map n with
  | none => rfl
  | some id => simp [hs id (hI n id e)]
 ·show (s id).name = n
  rw [hs id (hI n id e)]
  exact h.name n id e
theorem View.none_ {c : Co} {l : List Fl} (h : View c l) {n : List UInt8} (e : c.map n = none) : Vp.look l n = none := by rw [← h.look n, e]; rfl
theorem View.some_ {c : Co} {l : List Fl} (h : View c l) {n : List UInt8} {id : Nat} (e : c.map n = some id) : Vp.look l n = some (c.sto id).b := by rw [← h.look n, e]; rfl
theorem View.make {c : Co} {l : List Fl} (h : View c l) {n b : List UInt8} {id : Nat} (hn : c.map n = none) (hid : ∀ m i, c.map m = some i → i ≠ id) : View ((c.lay id ⟨n, b⟩).put id) (does l ⟨1, n, 0, b⟩) := by
 have e0 : (c.lay id ⟨n, b⟩).sto id = ⟨n, b⟩ := setS_same _ _ _
 have hl := h.none_ hn
 rw [does_one]
 refine ⟨fun m => ?_, fun m i e => ?_, ?_, uniq_one h.uniq hl⟩
 ·rw [look_append]
  show (setM c.map ((c.lay id ⟨n, b⟩).sto id).name (some id) m).map (fun i => ((c.lay id ⟨n, b⟩).sto i).b) = _
  rw [e0]
  unfold setM
  by_cases e : m = n
  ·subst e
   simp [e0, hl, Vp.look]
  ·simp only [e, if_false]
   have e2 : Vp.look [⟨n, b⟩] m = none := by rw [Vp.look, if_neg (fun h => e h.symm)]; rfl
   rw [e2, Option.or_none, ← h.look m]
   cases e3 : c.map m with
   | none => rfl
   | some i =>
     have : (c.lay id ⟨n, b⟩).sto i = c.sto i := by show setS c.sto id ⟨n, b⟩ i = _; unfold setS; rw [if_neg (hid m i e3)]
     simp [this]
 ·have e : setM c.map ((c.lay id ⟨n, b⟩).sto id).name (some id) m = some i := e
  show ((c.lay id ⟨n, b⟩).sto i).name = m
  rw [e0] at e
  unfold setM at e
  by_cases e1 : m = n
  ·subst e1
   simp at e
   subst e
   rw [e0]
  ·simp only [e1, if_false] at e
   have : (c.lay id ⟨n, b⟩).sto i = c.sto i := by show setS c.sto id ⟨n, b⟩ i = _; unfold setS; rw [if_neg (hid m i e)]
   rw [this]
   exact h.name m i e
 ·rw [used_append]
  show c.used + (((c.lay id ⟨n, b⟩).sto id).b.length : Int) = _
  rw [e0, h.used]
  simp [Vf.used]
theorem View.inj {c : Co} {l : List Fl} (h : View c l) {m n : List UInt8} {id : Nat} (e : c.map m = some id) (e2 : c.map n = some id) : m = n := (h.name m id e).symm.trans (h.name n id e2)
theorem View.over {c : Co} {l : List Fl} (h : View c l) {n b : List UInt8} {o id : Nat} (hn : c.map n = some id) (hf : o + b.length ≤ (c.sto id).b.length) : View (c.over id o b) (does l ⟨2, n, o, b⟩) := by
 rw [does_two l h.uniq]
 have hs : ∀ i, i ≠ id → (c.over id o b).sto i = c.sto i := fun i hi => by show setS c.sto id _ i = _; unfold setS; rw [if_neg hi]
 have h0 : (c.over id o b).sto id = ⟨(c.sto id).name, upd (c.sto id).b o b⟩ := setS_same _ _ _
 refine ⟨fun m => ?_, fun m i e => ?_, ?_, uniq_two h.uniq _ _ _⟩
 ·rw [look_wr, ← h.look m]
  show (c.map m).map (fun i => ((c.over id o b).sto i).b) = _
  cases e : c.map m with
  | none => simp
  | some i =>
    by_cases e1 : m = n
    ·subst e1
     rw [hn] at e
     obtain rfl := Option.some.inj e
     simp [h0]
    ·have hi : i ≠ id := fun e2 => e1 (h.inj (e2 ▸ e) hn)
     simp [hs i hi, e1]
 ·have e : c.map m = some i := e
  by_cases hi : i = id
  ·subst hi
   rw [h0]
   exact h.name m i e
  ·rw [hs i hi]
   exact h.name m i e
 ·show c.used = _
  rw [h.used, used_two n o b l h.uniq (fun x hx => by rw [h.some_ hn] at hx; obtain rfl := Option.some.inj hx; exact hf)]
inductive Hist (was : List Fl) : Co → List Op → List Ac → Prop
 | nil {c : Co} : View c was → Hist was c [] []
 | snoc {c : Co} {j : List Op} {l : List Ac} {o : Op} {a : Ac} : View c (rep was (l.reverse ++ [a])) → Hist was (c.undo o 0) j l → o.kind = a.kind → (o.kind = 1 ∨ o.kind = 2 ∨ o.kind = 3) →
  (o.kind = 2 → o.at_ + o.old.length ≤ (c.sto o.on).b.length ∧ o.old.length = a.p.length) → (o.kind = 2 → ∀ m, View (c.undo o m) (does (rep was l.reverse) (cut a m))) → Hist was c (o :: j) (a :: l)
theorem Hist.view {was : List Fl} {c : Co} {j : List Op} {l : List Ac} (h : Hist was c j l) : View c (rep was l.reverse) := by
 cases h with
 | nil h => exact h
 | snoc h _ _ _ _ _ => rw [List.reverse_cons]; exact h
theorem Hist.len {was : List Fl} {c : Co} {j : List Op} {l : List Ac} (h : Hist was c j l) : j.length = l.length := by
 induction h with
 | nil _ => rfl
 | snoc _ _ _ _ _ _ ih => simp [ih]
def Live (I : Nat → Prop) (c : Co) (j : List Op) : Prop := (∀ n id, c.map n = some id → I id) ∧ ∀ o ∈ j, I o.on
theorem Live.undo {I : Nat → Prop} {c : Co} {o : Op} {j : List Op} (h : Live I c (o :: j)) (m : Int) : Live I (c.undo o m) j := by
 refine ⟨fun n id e => ?_, fun o' ho => h.2 o' (by simp [ho])⟩
 unfold Co.undo at e
 split at e
 ·have e : setM c.map (c.sto o.on).name none n = some id := e
  unfold setM at e
  split at e
  ·cases e
  ·exact h.1 n id e
 ·split at e
  ·exact h.1 n id e
  ·have e : setM c.map (c.sto o.on).name (some o.on) n = some id := e
   unfold setM at e
   split at e
   ·obtain rfl := Option.some.inj e
    exact h.2 o (by simp)
   ·exact h.1 n id e
theorem Co.undo_agree {I : Nat → Prop} {c : Co} {o : Op} {s : Nat → Fl} (ho : I o.on) (hs : ∀ id, I id → s id = c.sto id) (m : Int) :
 ∃ s', (Co.undo ⟨c.map, s, c.used⟩ o m) = ⟨(c.undo o m).map, s', (c.undo o m).used⟩ ∧ ∀ id, I id → s' id = (c.undo o m).sto id := by
 have e := hs o.on ho
 unfold Co.undo
 split
 ·exact ⟨s, by simp only [Co.drop, e], hs⟩
 ·split
  ·refine ⟨setS s o.on ⟨(s o.on).name, upd (s o.on).b (o.at_ + stay o m) (o.old.drop (stay o m))⟩, rfl, fun id hid => ?_⟩
   show setS s o.on _ id = setS c.sto o.on _ id
   unfold setS
   by_cases e2 : id = o.on
   ·rw [if_pos e2, if_pos e2, e]
   ·rw [if_neg e2, if_neg e2, hs id hid]
  ·exact ⟨s, by simp only [Co.put, e], hs⟩
theorem Hist.agree {was : List Fl} {I : Nat → Prop} {c : Co} {j : List Op} {l : List Ac} (h : Hist was c j l) (hL : Live I c j) : ∀ {s : Nat → Fl}, (∀ id, I id → s id = c.sto id) → Hist was ⟨c.map, s, c.used⟩ j l := by
 induction h with
 | nil h => intro s hs; exact .nil (h.agree hL.1 hs)
 | @snoc c j l o a h1 h2 h3 h4 h5 h6 ih =>
   intro s hs
   have ho := hL.2 o (by simp)
   obtain ⟨s', e', hs'⟩ := Co.undo_agree ho hs 0
   refine .snoc (h1.agree hL.1 hs) ?_ h3 h4 (fun hk => ?_) (fun hk m => ?_)
   ·rw [e']
    exact ih (hL.undo 0) hs'
   ·show o.at_ + o.old.length ≤ (s o.on).b.length ∧ _
    rw [hs o.on ho]
    exact h5 hk
   ·obtain ⟨s2, e2, hs2⟩ := Co.undo_agree ho hs m
    rw [e2]
    exact (h6 hk m).agree (hL.undo m).1 hs2
theorem upd_back {b p : List UInt8} {o s : Nat} (h : o + p.length ≤ b.length) (hs : s ≤ p.length) : upd (upd b o p) (o + s) (((b.drop o).take p.length).drop s) = upd b o (p.take s) := by
 have hl : (upd b o p).length = b.length := upd_len h
 have hd : (((b.drop o).take p.length).drop s).length = p.length - s := by simp; omega
 apply List.ext_getElem?
 intro i
 unfold upd at *
 simp only [List.getElem?_append, List.length_append, List.length_take, List.length_drop, List.getElem?_take, List.getElem?_drop]
 rcases Nat.lt_or_ge i o with h1 | h1
 ·simp (disch := omega) only [if_pos]
  repeat (first | rw [if_pos (by omega)] | rfl)
 ·rcases Nat.lt_or_ge i (o + s) with h2 | h2
  ·have e1 : i < min (o + s) (min o b.length + p.length + (b.length - (o + p.length))) := by omega
   repeat (first | rw [if_pos (by omega)] | rw [if_neg (by omega)] | rfl)
  ·rcases Nat.lt_or_ge i (o + p.length) with h3 | h3
   ·repeat (first | rw [if_pos (by omega)] | rw [if_neg (by omega)] | rfl | (congr 1; omega))
   ·repeat (first | rw [if_pos (by omega)] | rw [if_neg (by omega)] | rfl | (congr 1; omega))
theorem upd_nil (b : List UInt8) (o : Nat) : upd b o [] = b := by unfold upd; simp
end Vp
end
section
namespace Vp
open Vf
theorem undo_one {c : Co} {o : Op} (h : o.kind = 1) (m : Int) : c.undo o m = c.drop o.on := by unfold Co.undo; rw [if_pos h]
theorem undo_two {c : Co} {o : Op} (h : o.kind = 2) (m : Int) : c.undo o m = c.over o.on (o.at_ + stay o m) (o.old.drop (stay o m)) := by
 unfold Co.undo
 rw [if_neg (by omega), if_pos h]
theorem Hist.create {was : List Fl} {I : Nat → Prop} {c : Co} {j : List Op} {l : List Ac} (h : Hist was c j l) (hL : Live I c j) {n b : List UInt8} {id : Nat} (hn : c.map n = none) (hid : ¬ I id) :
 Hist was ((c.lay id ⟨n, b⟩).put id) (⟨1, id, 0, []⟩ :: j) (⟨1, n, 0, b⟩ :: l) := by
 refine .snoc ?_ ?_ rfl (.inl rfl) (fun hk => absurd (show (1 : Int) = 2 from hk) (by decide)) (fun hk => absurd (show (1 : Int) = 2 from hk) (by decide))
 ·rw [rep_append]
  exact h.view.make hn (fun m i e e2 => hid (e2 ▸ hL.1 m i e))
 ·rw [undo_one rfl]
  have e : ((c.lay id ⟨n, b⟩).put id).drop id = ⟨c.map, setS c.sto id ⟨n, b⟩, c.used⟩ := by
   have e0 : (c.lay id ⟨n, b⟩).sto id = ⟨n, b⟩ := setS_same _ _ _
   have e1 : ((c.lay id ⟨n, b⟩).put id).sto id = ⟨n, b⟩ := e0
   unfold Co.drop
   rw [e1]
   have e2 : ((c.lay id ⟨n, b⟩).put id).map = setM c.map n (some id) := by show setM c.map ((c.lay id ⟨n, b⟩).sto id).name (some id) = _; rw [e0]
   have e3 : ((c.lay id ⟨n, b⟩).put id).used = c.used + (b.length : Int) := by show c.used + (((c.lay id ⟨n, b⟩).sto id).b.length : Int) = _; rw [e0]
   rw [e2, e3]
   have e4 : setM (setM c.map n (some id)) n none = c.map := setM_back _ _ _ _ hn
   show (⟨setM (setM c.map n (some id)) n none, _, _⟩ : Co) = _
   rw [e4]
   congr 1
   show c.used + (b.length : Int) - (b.length : Int) = _
   omega
  show Hist was (((c.lay id ⟨n, b⟩).put id).drop id) j l
  rw [e]
  refine h.agree hL (fun i hi => ?_)
  unfold setS
  rw [if_neg (show ¬ i = id from fun e2 => hid (e2 ▸ hi))]
theorem take_drop_len {b : List UInt8} {o n : Nat} (h : o + n ≤ b.length) : ((b.drop o).take n).length = n := by rw [List.length_take, List.length_drop]; omega
theorem over_over (c : Co) (id o : Nat) (b : List UInt8) (o2 : Nat) (b2 : List UInt8) : (c.over id o b).over id o2 b2 = c.lay id ⟨(c.sto id).name, upd (upd (c.sto id).b o b) o2 b2⟩ := by
 have h0 : (c.over id o b).sto id = ⟨(c.sto id).name, upd (c.sto id).b o b⟩ := setS_same _ _ _
 unfold Co.over at h0 ⊢
 rw [h0]
 unfold Co.lay
 simp only
 rw [setS_twice]
theorem lay_same (c : Co) (id : Nat) : c.lay id ⟨(c.sto id).name, (c.sto id).b⟩ = c := by
 unfold Co.lay
 have : setS c.sto id ⟨(c.sto id).name, (c.sto id).b⟩ = c.sto := by
  funext x
  unfold setS
  by_cases e : x = id
  ·rw [if_pos e, e]
  ·rw [if_neg e]
 rw [this]
theorem Hist.write {was : List Fl} {c : Co} {j : List Op} {l : List Ac} (h : Hist was c j l) {n b : List UInt8} {o id : Nat} (hn : c.map n = some id) (hf : o + b.length ≤ (c.sto id).b.length) :
 Hist was (c.over id o b) (⟨2, id, o, ((c.sto id).b.drop o).take b.length⟩ :: j) (⟨2, n, o, b⟩ :: l) := by
 have hlen := take_drop_len hf
 have h0 : (c.over id o b).sto id = ⟨(c.sto id).name, upd (c.sto id).b o b⟩ := setS_same _ _ _
 have key : ∀ m : Int, (c.over id o b).undo ⟨2, id, o, ((c.sto id).b.drop o).take b.length⟩ m = c.over id o (b.take (stay ⟨2, id, o, ((c.sto id).b.drop o).take b.length⟩ m)) := fun m => by
  rw [undo_two rfl]
  have hs : stay ⟨2, id, o, ((c.sto id).b.drop o).take b.length⟩ m ≤ b.length := by unfold stay; simp only [hlen]; omega
  show (c.over id o b).over id (o + _) ((((c.sto id).b.drop o).take b.length).drop _) = _
  rw [over_over, upd_back hf hs]
  rfl
 refine .snoc ?_ ?_ rfl (.inr (.inl rfl)) (fun _ => ⟨?_, hlen⟩) (fun _ m => ?_)
 ·rw [rep_append]
  exact h.view.over hn hf
 ·rw [key 0]
  have e : stay ⟨2, id, o, ((c.sto id).b.drop o).take b.length⟩ 0 = 0 := by unfold stay; omega
  rw [e, List.take_zero]
  have e2 : c.over id o [] = c := by unfold Co.over; rw [upd_nil, lay_same]
  rw [e2]
  exact h
 ·show o + (((c.sto id).b.drop o).take b.length).length ≤ ((c.over id o b).sto id).b.length
  rw [h0, hlen]
  show _ ≤ (upd (c.sto id).b o b).length
  rw [upd_len hf]
  exact hf
 ·rw [key m]
  have e : stay ⟨2, id, o, ((c.sto id).b.drop o).take b.length⟩ m = torn ⟨2, n, o, b⟩ m := by unfold stay torn; simp only [hlen]; omega
  rw [e]
  have hl : (b.take (torn ⟨2, n, o, b⟩ m)).length ≤ b.length := by rw [List.length_take]; omega
  exact h.view.over hn (by omega)
theorem create_bad {S : Sv} {n b : List UInt8} (hi : is n = false) : Vf.create S n b = (S, 1) := by unfold Vf.create; rw [if_pos hi]
theorem create_has {S : Sv} {c : Co} {n b : List UInt8} {id : Nat} (hv : View c S.now) (hi : is n = true) (hn : c.map n = some id) : Vf.create S n b = (S, 6) := by
 have := (ix_some (hv.some_ hn)).1
 unfold Vf.create
 rw [if_neg (by simp [hi]), if_pos (by omega)]
theorem create_full {S : Sv} {c : Co} {n b : List UInt8} (hv : View c S.now) (hi : is n = true) (hn : c.map n = none) (hb : S.room - c.used < b.length) : Vf.create S n b = (S, 4) := by
 have := ix_none (hv.none_ hn)
 unfold Vf.create
 rw [if_neg (by simp [hi]), if_neg (by omega), if_pos (by rw [← hv.used]; exact hb)]
theorem create_ok {S : Sv} {c : Co} {n b : List UInt8} (hv : View c S.now) (hi : is n = true) (hn : c.map n = none) (hb : ¬ S.room - c.used < b.length) : Vf.create S n b = (S.act ⟨1, n, 0, b⟩, 0) := by
 have := ix_none (hv.none_ hn)
 unfold Vf.create
 rw [if_neg (by simp [hi]), if_neg (by omega), if_neg (by rw [← hv.used]; exact hb)]
theorem lenAt_some {l : List Fl} {n b : List UInt8} (h : look l n = some b) : lenAt l n = b.length := by
 have := (ix_some h).2
 unfold bytesAt at this
 unfold lenAt
 rw [this]
theorem write_bad {S : Sv} {n b : List UInt8} {t : Int} (hi : is n = false) : Vf.write S n t b = (S, 1) := by unfold Vf.write; rw [if_pos hi]
theorem write_none {S : Sv} {c : Co} {n b : List UInt8} {t : Int} (hv : View c S.now) (hi : is n = true) (hn : c.map n = none) : Vf.write S n t b = (S, 5) := by
 have := ix_none (hv.none_ hn)
 unfold Vf.write
 rw [if_neg (by simp [hi]), if_pos (by omega)]
theorem write_off {S : Sv} {c : Co} {n b : List UInt8} {t : Int} {id : Nat} (hv : View c S.now) (hi : is n = true) (hn : c.map n = some id) (hb : t < 0 ∨ ((c.sto id).b.length : Int) - t < b.length) : Vf.write S n t b = (S, 1) := by
 have h1 := (ix_some (hv.some_ hn)).1
 have h2 := lenAt_some (hv.some_ hn)
 unfold Vf.write
 rw [if_neg (by simp [hi]), if_neg h1, if_pos (by rw [h2]; omega)]
theorem write_ok {S : Sv} {c : Co} {n b : List UInt8} {t : Nat} {id : Nat} (hv : View c S.now) (hi : is n = true) (hn : c.map n = some id) (hb : t + b.length ≤ (c.sto id).b.length) : Vf.write S n (t : Int) b = (S.act ⟨2, n, t, b⟩, 0) := by
 have h1 := (ix_some (hv.some_ hn)).1
 have h2 := lenAt_some (hv.some_ hn)
 unfold Vf.write
 rw [if_neg (by simp [hi]), if_neg h1, if_neg (by rw [h2]; omega)]
 simp
theorem read_bad {l : List Fl} {n : List UInt8} {t m : Int} (hi : is n = false) : Vf.read l n t m = ([], 1) := by unfold Vf.read; rw [if_pos hi]
theorem read_none {l : List Fl} {c : Co} {n : List UInt8} {t m : Int} (hv : View c l) (hi : is n = true) (hn : c.map n = none) : Vf.read l n t m = ([], 5) := by
 have := ix_none (hv.none_ hn)
 unfold Vf.read
 rw [if_neg (by simp [hi]), if_pos (by omega)]
theorem read_off {l : List Fl} {c : Co} {n : List UInt8} {t m : Int} {id : Nat} (hv : View c l) (hi : is n = true) (hn : c.map n = some id) (hb : t < 0 ∨ m < 0 ∨ ((c.sto id).b.length : Int) - t < m) : Vf.read l n t m = ([], 1) := by
 obtain ⟨h1, h2⟩ := ix_some (hv.some_ hn)
 unfold Vf.read
 rw [if_neg (by simp [hi]), if_neg h1, if_pos (by rw [h2]; omega)]
theorem read_ok {l : List Fl} {c : Co} {n : List UInt8} {t m : Nat} {id : Nat} (hv : View c l) (hi : is n = true) (hn : c.map n = some id) (hb : t + m ≤ (c.sto id).b.length) : Vf.read l n (t : Int) (m : Int) = ((((c.sto id).b).drop t).take m, 0) := by
 obtain ⟨h1, h2⟩ := ix_some (hv.some_ hn)
 unfold Vf.read
 rw [if_neg (by simp [hi]), if_neg h1, if_neg (by rw [h2]; omega), h2]
 simp
theorem size_bad {l : List Fl} {n : List UInt8} (hi : is n = false) : Vf.size l n = (0, 1) := by unfold Vf.size; rw [if_pos hi]
theorem size_none {l : List Fl} {c : Co} {n : List UInt8} (hv : View c l) (hi : is n = true) (hn : c.map n = none) : Vf.size l n = (0, 5) := by
 have := ix_none (hv.none_ hn)
 unfold Vf.size
 rw [if_neg (by simp [hi]), if_pos (by omega)]
theorem size_ok {l : List Fl} {c : Co} {n : List UInt8} {id : Nat} (hv : View c l) (hi : is n = true) (hn : c.map n = some id) : Vf.size l n = (((c.sto id).b.length : Int), 0) := by
 obtain ⟨h1, h2⟩ := ix_some (hv.some_ hn)
 unfold bytesAt at h2
 unfold Vf.size
 rw [if_neg (by simp [hi]), if_neg h1, h2]
end Vp
end
end Go.Proofs.YtbakngbmfgnmcaaGreatDoor
