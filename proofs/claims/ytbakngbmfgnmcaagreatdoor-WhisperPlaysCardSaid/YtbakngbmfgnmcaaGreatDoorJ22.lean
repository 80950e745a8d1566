/- WpFeY WsDx WsAc WsAc1 WsAc2 WsAc3 WsAc4 -/
import Derived.Test.YtbakngbmfgnmcaaGreatDoorJ1
import Derived.Test.YtbakngbmfgnmcaaGreatDoorJ21
import Derived.Test.YtbakngbmfgnmcaaGreatDoorJ12
import Derived.Test.YtbakngbmfgnmcaaGreatDoorJ13
import Derived.Test.YtbakngbmfgnmcaaGreatDoorJ14
import Derived.Test.YtbakngbmfgnmcaaGreatDoorJ20
import Derived.Test.YtbakngbmfgnmcaaGreatDoorJ17
import Derived.Test.YtbakngbmfgnmcaaGreatDoorJ16
import Derived.RegionTactic
import Derived.Deep.RegionHeld3
namespace Go.Proofs.YtbakngbmfgnmcaaGreatDoor
set_option maxRecDepth 100000
set_option maxHeartbeats 8000000
section
open Go.RowKit Go.Sort
open Fx (Vl)
open Me
open Wp
theorem rfetch_in {w : World} {V : Nat → Prop} {c fs : Nat} {S : Vf.Sv} (ro : RO w V fs c S) (hc : c ≤ 1000000) (n : List UInt8) (now from_ until_ : Int) (h0 : (info S.now n).2 = 0) (hn1 : 1 ≤ now) (hn2 : now ≤ 4294967295) (ht : ¬ (until_ < from_ ∨ now < from_ ∨ until_ < 0 ∨ until_ < now - (info S.now n).1.span)) :
 Calls Tryz.prog 37 #[.pointer (some ⟨fs, 0, none⟩), .string ⟨n.toArray⟩, .int .i64 now, .int .i64 from_, .int .i64 until_] w (Fetched w n (fetch S.now n now from_ until_)) := by
 have HIN : Hid (∀ W, Below w.heap.size w W → Calls Tryz.prog 16 #[.pointer (some ⟨fs, 0, none⟩), .string ⟨n.toArray⟩] W (Informed W (info S.now n))) := Lib.hid fun W hb => rinfo_any (ro.below hb) (by omega) n
 have HRO := Lib.hid ro
 have HC := serCell w
 have HE1 := Lib.hid (fetch_err (fs := S.now) (n := n) (now := now) (a := from_) (b := until_))
 have HE2 := Lib.hid (fetch_now (fs := S.now) (n := n) (now := now) (a := from_) (b := until_))
 have HE3 := Lib.hid (fetch_time (fs := S.now) (n := n) (now := now) (a := from_) (b := until_))
 have HE4 := Lib.hid (fun i h h1 h2 ht f u hf hu hi p e hp he K hK => fetch_yes (fs := S.now) (n := n) (now := now) (a := from_) (b := until_) (i := i) (f := f) (u := u) h h1 h2 ht hf hu hi (p := p) (e := e) hp he (K := K) hK)
 have HVL := Lib.hid (info_val (fs := S.now) (n := n))
 clear ro
 have HZ := Lib.hid h0
 have HT0 := Lib.hid ht
 clear h0 ht
 generalize info S.now n = R at *
 generalize fetch S.now n now from_ until_ = Q at *
 obtain ⟨⟨ag, xf, hl⟩, er⟩ := R
 have h0 := HZ.out
 have ht := HT0.out
 clear HZ HT0
 dsimp only at h0 ht
 obtain rfl : er = 0 := h0
 have hv := HVL.out rfl
 have hlen := Hd.len hv
 obtain ⟨H, hH⟩ : ∃ H, Hid (H = (⟨ag, xf, hl⟩ : Hd)) := ⟨_, Lib.hid rfl⟩
 have HE3' := Lib.hid (HE3.out rfl hn1 hn2)
 have HE4' := Lib.hid (fun i => HE4.out i rfl hn1 hn2)
 rw [← hH.out] at HE3' HE4' hv ht
 clear HE1 HE2 HE3 HE4 HVL
 have HSP : Hid (∀ A c W, Row W A hl c → Calls Tryz.prog 74 #[.agg #[.int .i64 ag, .int .i64 xf, .slice A hl.length c]] W fun e w' => e = .returned (.int .i64 H.span) ∧ Below W.heap.size W w') := Lib.hid fun A c W h => by
  have := rspn_any ag xf hl A c W h
  rw [show Wh.spn ag xf hl = H.span by rw [hH.out]; rfl] at this
  exact this
 have hsb := Hd.span_bd hv
 have HCB := Lib.hid (fun ht => clip_bd (now := now) (a := from_) (b := until_) hv hn1 ht)
 have HCL : Hid (clip H now from_ = max (max 0 from_) (now - H.span)) := Lib.hid rfl
 have HLS := Lib.hid (Hd.span_eq hv)
 obtain ⟨sp, hsp⟩ : ∃ sp, Hid (sp = H.span) := ⟨_, Lib.hid rfl⟩
 rw [← hsp.out] at HSP hsb HE3' HE4' HCB HCL HLS ht
 obtain ⟨lo, hlo⟩ : ∃ lo, now - sp = lo := ⟨_, rfl⟩
 have hwl : IntKind.i64.wrap lo = lo := IntWalk.i64_in _ (by omega)
 rw [hlo] at ht
 obtain ⟨cb1, cb2, cb3⟩ := HCB.out (by rw [hlo]; exact ht)
 obtain ⟨t1, t2, t3, t4⟩ : ¬ until_ < from_ ∧ ¬ now < from_ ∧ ¬ until_ < 0 ∧ ¬ until_ < lo := ⟨fun e => ht (.inl e), fun e => ht (.inr (.inl e)), fun e => ht (.inr (.inr (.inl e))), fun e => ht (.inr (.inr (.inr e)))⟩
 have HT : Hid (¬ (until_ < from_ ∨ now < from_ ∨ until_ < 0 ∨ until_ < now - sp)) := Lib.hid (by rw [hlo]; exact ht)
 obtain ⟨m, hm⟩ : ∃ m, (if 0 < from_ then from_ else 0) = m := ⟨_, rfl⟩
 obtain ⟨f, hf⟩ : ∃ f, (if m < lo then lo else m) = f := ⟨_, rfl⟩
 obtain ⟨u, hu⟩ : ∃ u, min until_ now = u := ⟨_, rfl⟩
 have HF : Hid (clip H now from_ = f) := Lib.hid (by rw [HCL.out, hlo, ← hf, ← hm]; split <;> split <;> omega)
 have HU := Lib.hid hu
 rw [HF.out] at cb1 cb2 cb3
 rw [hu] at cb2
 have hun : u ≤ now := by omega
 obtain ⟨d, hd⟩ : ∃ d, now - f = d := ⟨_, rfl⟩
 have hd0 : 0 ≤ d ∧ d ≤ sp := by omega
 have hwd : IntKind.i64.wrap d = d := IntWalk.i64_in _ (by omega)
 clear ht HE3' HCB HCL
 have hc0 := hc
 obtain ⟨j0, hj0, hj1, hj2, hj3⟩ := info_parts infoVal
 have HJ := Lib.hid hj0
 have HY := Lib.hid (And.intro hj1 (And.intro hj2 hj3))
 clear hj0 hj1 hj2 hj3
 go_enter Tryz.func37, Tryz.ntmps37
 go_wp2_with first
  | (go_at_call 16; (with_reducible refine (HIN.out _ ((Below.refl _ _).alloc (Nat.le_refl _) _)).mono ?_); rintro e w1 ⟨A1, c1, rfl, hrow, hfr, hb1⟩; have hbb : Below (w.heap.size + 1) (w.alloc (.cells #[.string ⟨#[]⟩, .int .i64 0, .int .i64 0, .slice none 0 0, .int .i64 0] 88)) w1 := hb1.mono (by simp); obtain ⟨⟨q0, q1, q2, q3, q4⟩, ⟨g0, g1, g2, g3, g4⟩, hs1⟩ := HC.out w1 hbb; have HLB := Lib.hid (lowBox' hbb); have HBB := Lib.hid hbb; have HROW := Lib.hid hrow; have HFR : Hid (∀ a, A1 = some a → w.heap.size < a.block) := Lib.hid (fun a e => Nat.lt_of_lt_of_le (by simp) (hfr a e)); clear hb1 hbb hrow hfr)
  | (go_at_call 74; (with_reducible refine (HSP.out _ _ _ (HROW.out.below ((Below.refl _ _).alloc (Nat.le_refl _) _))).mono ?_); rintro e w2 ⟨rfl, hb2⟩; have hbb : Below (w.heap.size + 1) (w.alloc (.cells #[.string ⟨#[]⟩, .int .i64 0, .int .i64 0, .slice none 0 0, .int .i64 0] 88)) w2 := (HBB.out.alloc (by omega) _).trans (hb2.mono (by simp; omega)); obtain ⟨⟨r0, r1, r2, r3, r4⟩, ⟨f0, f1, f2, f3, f4⟩, hs2⟩ := HC.out w2 hbb; have HLB2 := Lib.hid (lowBox' hbb); have HBB2 := Lib.hid hbb; have HROW2 : Hid (Row w2 A1 hl c1) := Lib.hid (HROW.out.below (((Below.refl w1.heap.size w1).alloc (Nat.le_refl _) _).trans (hb2.mono (by simp)))); have HRH2 : Hid (RowAt w2 w1.heap.size 24 #[.int .i64 ag, .int .i64 xf, .slice A1 hl.length c1]) := Lib.hid ((RowAt.new w1 _ _).below hb2 (by simp)); clear hb2 hbb)
 clear q0 q1 q2 q3 q4 g0 g1 g2 g3 g4 HLB hm hf
 generalize decide (now < 1) = bb1 at *
 generalize decide (4294967295 < now) = bb2 at *
 generalize decide (until_ < from_) = bb3 at *
 generalize decide (now < from_) = bb4 at *
 generalize decide (until_ < 0) = bb5 at *
 generalize decide (until_ < lo) = bb6 at *
 obtain ⟨N, hN⟩ : ∃ N, Hid (N = H.l.length) := ⟨_, Lib.hid rfl⟩
 have hlN : hl.length = N := by rw [hN.out, hH.out]
 rw [← hN.out] at HLS
 obtain ⟨b, off, rfl, ha⟩ := HROW2.out.2 (by omega)
 obtain ⟨hb, hhb⟩ : ∃ hb, w1.heap.size = hb := ⟨_, rfl⟩
 rw [hhb] at HRH2
 have HNM := Lib.hid (Hd.nums hv)
 have HBA : Hid (∀ W, Below w2.heap.size w2 W → Ars W b off hl) := Lib.hid fun W h => ha.below h
 clear ha
 go_loopw [15] (fun u15 wr => ∃ i : Nat, i < N ∧ u15 = .int .i64 i ∧ Hid (first H (d - 1) N 0 = first H (d - 1) (N - i) i) ∧ Below w2.heap.size w2 wr) (fun u15 _ => N - (intOf u15).toNat)
 case atStart => exact ⟨0, by omega, rfl, Lib.hid rfl, Below.refl _ _⟩
 case round =>
  obtain ⟨i, hlt, rfl, HFI, hbel⟩ := hrel
  have HB := Lib.hid hbel
  have hws := hbel.size
  have HBR := Lib.hid (HRH2.out.below hbel HRH2.out.lt)
  have HAR := Lib.hid (HBA.out wr hbel)
  have y2 : wr.cell? ⟨hb, 2, none⟩ = some (.slice (some ⟨b, off, none⟩) hl.length c1) := HBR.out.cell 2
  have hhl := HBR.out.lt
  have hil : i < hl.length := by omega
  have s0 : wr.cell? ⟨b, off + i * 2, none⟩ = some (.int .i64 (H.step i)) := (HAR.out.st i hil).trans (by rw [hH.out]; rfl)
  have s1 : wr.cell? ⟨b, off + i * 2 + 1, none⟩ = some (.int .i64 (H.cnt i)) := (HAR.out.ct i hil).trans (by rw [hH.out]; rfl)
  have hbl := HAR.out.lt
  obtain ⟨⟨n1, n2⟩, n3, n4⟩ := HNM.out i (by rw [← hN.out]; exact hlt)
  have hsc : 0 ≤ H.step i * H.cnt i ∧ H.step i * H.cnt i ≤ 281474976710656 := ⟨Int.mul_nonneg (by omega) (by omega), by have := Int.mul_le_mul n2 n4 (by omega) (by omega); omega⟩
  obtain ⟨sc, hsce⟩ : ∃ sc, H.step i * H.cnt i = sc := ⟨_, rfl⟩
  have HSC := Lib.hid hsce
  rw [hsce] at hsc
  obtain ⟨s, hs⟩ : ∃ u, Hid (u = H.step i) := ⟨_, Lib.hid rfl⟩
  obtain ⟨q1, hq1⟩ : ∃ u, Hid (u = H.cnt i) := ⟨_, Lib.hid rfl⟩
  rw [← hs.out, ← hq1.out] at hsce
  rw [← hs.out] at s0 n1 n2
  rw [← hq1.out] at s1 n3 n4
  have hwsc : IntKind.i64.wrap sc = sc := IntWalk.i64_in _ (by omega)
  have hiN : (i : Int) < (hl.length : Int) := by omega
  have hi0 : (0 : Int) ≤ (i : Int) := by omega
  clear hbel
  by_cases hcov : sc < d
  ·have hi1 : i + 1 < N := by
    apply Nat.lt_of_le_of_ne hlt
    intro e
    have e2 : H.step i * H.cnt i = sp := by rw [show i = N - 1 by omega, HLS.out]
    rw [HSC.out] at e2
    omega
   have HFN : Hid (first H (d - 1) N 0 = first H (d - 1) (N - (i + 1)) (i + 1)) := Lib.hid (by rw [HFI.out, show N - i = (N - (i + 1)) + 1 by omega, first_no (by rw [HSC.out]; omega)])
   go_wp2_with fail
   go_quiet (fail)
   go_wp2_with fail
   go_roundw
   case rel => exact ⟨i + 1, hi1, by go_num, HFN, HB.out.trans (below_drewN _ _ _)⟩
   case measure => simp [intOf]; omega
  ·have HFS : Hid (first H (now - f - 1) H.l.length 0 = some i) := Lib.hid (by rw [hd, ← hN.out, HFI.out, show N - i = (N - (i + 1)) + 1 by omega, first_yes (by rw [HSC.out]; omega)])
   obtain ⟨K, p, q, e, z1, z2, z3, z4, z5, z6, z7, z8, z9, z10, z11, z12⟩ := times_of n1 n2 cb1 cb2 (by omega)
   have HQ : Hid (Q = (some ⟨p, s, seq S.now n H i p K⟩, 0)) := Lib.hid (by rw [hs.out]; exact HE4'.out i HT.out f u HF.out HU.out HFS.out p e (by rw [← hs.out, z1]; exact z2) (by rw [← hs.out]; exact z3) K (by rw [← hs.out]; exact z5))
   have HA1 : Hid (∀ W, Calls Tryz.prog 80 #[.int .i64 f, .int .i64 s] W fun e w' => e = .returned (.int .i64 q) ∧ W = w') := Lib.hid fun W => by have := ralign_any f s (by omega) W; rw [z1] at this; exact this
   have HA2 : Hid (∀ W, Calls Tryz.prog 80 #[.int .i64 u, .int .i64 s] W fun e w' => e = .returned (.int .i64 (Sl.al u s)) ∧ W = w') := Lib.hid fun W => ralign_any u s (by omega) W
   unfold fin_ at z3
   have Z3 := Lib.hid z3
   clear z1 z3 z5
   generalize Sl.al u s = g at *
   have z3' : (if g + s ≤ p then p + s else g + s) = e := Z3.out
   have hwp : IntKind.i64.wrap p = p := IntWalk.i64_in _ (by omega)
   obtain ⟨g2, hg2⟩ : ∃ g2, g + s = g2 := ⟨_, rfl⟩
   rw [hg2] at z3'
   have hwg : IntKind.i64.wrap g2 = g2 := IntWalk.i64_in _ (by omega)
   have hcv : d ≤ sc := by omega
   go_wp2_with fail
   go_quiet (fail)
   have hBq : Below wr.heap.size wr (wr.drewN nq) := below_drewN _ _ _
   generalize wr.drewN nq = wc at *
   have hBC : Below w2.heap.size w2 wc := HB.out.trans (hBq.mono hws)
   clear y2 hhl s0 s1 hbl HB hws HBR HAR
   have HRC := Lib.hid (HRH2.out.below hBC HRH2.out.lt)
   have HAC := Lib.hid (HBA.out wc hBC)
   have y0 : wc.cell? ⟨hb, 0, none⟩ = some (.int .i64 ag) := HRC.out.cell 0
   have y1 : wc.cell? ⟨hb, 1, none⟩ = some (.int .i64 xf) := HRC.out.cell 1
   have y2 : wc.cell? ⟨hb, 2, none⟩ = some (.slice (some ⟨b, off, none⟩) hl.length c1) := HRC.out.cell 2
   have s0 : wc.cell? ⟨b, off + i * 2, none⟩ = some (.int .i64 s) := (HAC.out.st i hil).trans (by rw [hs.out, hH.out]; rfl)
   have hhl := HRC.out.lt
   have hbl := HAC.out.lt
   have HBC := Lib.hid hBC
   have hws := hBC.size
   clear hBC hBq
   by_cases hc : g2 ≤ p
   ·rw [if_pos hc] at z3'
    have hwe : IntKind.i64.wrap e = e := IntWalk.i64_in _ (by omega)
    have Z4 := Lib.hid z4
    clear z4
    go_wp2_with first
     | (go_at_call 80; (with_reducible refine (HA1.out _).mono ?_); rintro e w' ⟨rfl, rfl⟩)
     | (go_at_call 80; (with_reducible refine (HA2.out _).mono ?_); rintro e w' ⟨rfl, rfl⟩)
    obtain ⟨ix, hix⟩ : ∃ ix, ix = i := ⟨_, rfl⟩
    subst hix
    obtain ⟨Y, hYe⟩ : ∃ Y, wc.alloc (.cells #[.pointer (some ⟨fs, 0, none⟩), .string ⟨n.toArray⟩, .int .i64 ag, .int .i64 xf, .slice (some ⟨b, off, none⟩) N c1] 125) = Y := ⟨_, rfl⟩
    have hys : wc.heap.size + 1 = Y.heap.size := by rw [← hYe]; simp
    have hYb : Below w2.heap.size w2 Y := by rw [← hYe]; exact HBC.out.alloc hws _
    have hFY : FileR Y wc.heap.size fs n H (some ⟨b, off, none⟩) c1 := by
     rw [← hYe, hH.out, ← hlN]
     exact ⟨RowAt.new _ _ _, (HROW2.out.below HBC.out).below ((Below.refl _ _).alloc (Nat.le_refl _) _)⟩
    have HYB := Lib.hid hYb
    have hyw := hYb.size
    have HVA : Hid (∀ k : Nat, k < K → ∀ W, Below Y.heap.size Y W → Calls Tryz.prog 81 #[.pointer (some ⟨wc.heap.size, 0, none⟩), .int .i64 (ix : Int), .int .i64 (p + (k : Int) * s)] W fun e w' => e = .returned (.agg #[.bool (value S.now n H ix (p + (k : Int) * s)).ok, .int .i64 (value S.now n H ix (p + (k : Int) * s)).n]) ∧ Below W.heap.size W w') := Lib.hid fun k hk W hb =>
     rvalue_any ((HRO.out.below (HLB2.out.trans (hYb.mono (Nat.le_of_lt hs2)))).below hb) hc0 (hFY.below hb) hv ix (by rw [← hN.out]; exact hlt) _ (by
      have : (k : Int) * s ≤ (K : Int) * s := Int.mul_le_mul_of_nonneg_right (by omega) (by omega)
      have := Z4.out
      omega)
    rw [hYe, hys]
    generalize wc.heap.size = x at *
    clear hYe hYb hFY hys y0 y1 y2 s0 hhl hbl hws
    obtain ⟨wo, hwo⟩ : ∃ wo, wo = wr := ⟨_, rfl⟩
    subst hwo
    go_loopw [20] (fun u20 wr => ∃ (k : Nat) (x : Value), k ≤ K ∧ u20 = .int .i64 (p + (k : Int) * s) ∧ Hid (Ser Y n p s wr x (seq S.now n H ix p k))) (fun u20 _ => (e - intOf u20).toNat)
    case atStart => exact ⟨0, _, Nat.zero_le _, by simp, Lib.hid (Ser.start _ _ _ _)⟩
    case round =>
     obtain ⟨k, v, hk, rfl, HS⟩ := hrel
     have hml := seq_len S.now n H ix p k
     have HPS := Lib.hid (seq_succ S.now n H ix p k)
     rw [← hs.out] at HPS
     generalize hm : seq S.now n H ix p k = m at *
     have HM := Lib.hid hm
     clear hm
     obtain ⟨A3, c3, hv3⟩ := HS.out.2.2.slice
     rw [hml] at hv3
     subst hv3
     have HT4 : Hid (k < K → p + (k : Int) * s + s ≤ e ∧ p + (k : Int) * s + s = p + ((k + 1 : Nat) : Int) * s) := Lib.hid fun h => by
      have h1 : ((k + 1 : Nat) : Int) * s ≤ (K : Int) * s := Int.mul_le_mul_of_nonneg_right (by omega) (by omega)
      have h2 : ((k + 1 : Nat) : Int) * s = (k : Int) * s + s := by rw [Int.natCast_succ, Int.add_mul, Int.one_mul]
      have := Z4.out
      omega
     have HT0 : Hid (0 ≤ (k : Int) * s) := Lib.hid (Int.mul_nonneg (by omega) (by omega))
     have HVK := Lib.hid (HVA.out k)
     have HK0 : Hid (k = K → p + (k : Int) * s = e) := Lib.hid fun h => by rw [Z4.out, h]
     have ht0 := HT0.out
     obtain ⟨t, ht⟩ : ∃ t, p + (k : Int) * s = t := ⟨_, rfl⟩
     have htp : p ≤ t := by omega
     rw [ht] at HVK HPS HT4 HK0
     rw [ht]
     have y3 : wr.cell? ⟨Y.heap.size, 3, none⟩ = some (.slice A3 k c3) := HS.out.2.1.cell 3
     have yn0 : wr.cell? ⟨Y.heap.size, 0, none⟩ = some (.string ⟨n.toArray⟩) := HS.out.2.1.cell 0
     have yn1 : wr.cell? ⟨Y.heap.size, 1, none⟩ = some (.int .i64 p) := HS.out.2.1.cell 1
     have yn2 : wr.cell? ⟨Y.heap.size, 2, none⟩ = some (.int .i64 s) := HS.out.2.1.cell 2
     have yn4 : wr.cell? ⟨Y.heap.size, 4, none⟩ = some (.int .i64 0) := HS.out.2.1.cell 4
     have hgl := HS.out.2.1.lt
     have hbW := Lib.hid HS.out.1
     clear ht ht0
     by_cases hkK : k < K
     ·obtain ⟨te, tn⟩ := HT4.out hkK
      have HTN := Lib.hid tn
      have hte : t < e := by omega
      have hwt : IntKind.i64.wrap (t + s) = t + s := IntWalk.i64_in _ (by omega)
      have HVA := Lib.hid (HVK.out hkK)
      clear HVK tn
      generalize value S.now n H ix t = vv at *
      obtain ⟨vo, vn⟩ := vv
      have HOX0 : Hid (∀ W, Ser Y n p s W (.slice A3 k c3) m → W.ownsRow (Y.heap.size + 1) 105 2 (.slice A3 k c3) k (cellsOf m)) := Lib.hid fun W h => by
       have := h.2.2
       unfold OwnV at this
       rw [hml] at this
       exact this
      have HSX0 : Hid (∀ W, Ser Y n p s W (.slice A3 k c3) m → ∀ w4 v4, W.grownBy w4 (Value.slice A3 k c3).ownBlock → w4.ownsRow (Y.heap.size + 1) 105 2 v4 (k + 1) (cellsOf m ++ [.bool vo, .int .i64 vn]) →
       w4.cell? ⟨Y.heap.size, 3, none⟩ = some (.slice A3 k c3) ∧ w4.frozen? ⟨Y.heap.size, 3, none⟩ = false ∧ Ser Y n p s (w4.setCell ⟨Y.heap.size, 3, none⟩ v4) v4 (m ++ [⟨vo, vn⟩])) := Lib.hid fun W h w4 v4 hg ho => h.step hg (by rw [hml]; exact ho)
      clear yn0 yn1 yn2 yn4
      go_wp2_with fail
      refine Inv.region_tail 7 12 (fun W W' => Below W.heap.size W W') (fun i v W => match i with
       | 0 => v = .pointer (some ⟨Y.heap.size, 3, none⟩)
       | 1 => v = .slice A3 k c3
       | 2 => v = .pointer (some ⟨x, 0, none⟩)
       | 3 => v = .int .i64 (ix : Int)
       | 4 => v = .int .i64 t
       | 5 => v = .agg #[.bool vo, .int .i64 vn]
       | 6 => ∃ q : Nat, v = .slice (some ⟨q, 0, none⟩) 1 1 ∧ RowAt W q 105 #[.bool vo, .int .i64 vn]
       | _ => True) (by kernel_rfl) (by kernel_rfl) (by kernel_rfl) (by kernel_rfl) (fun W => Below.refl _ _) (fun a b c h k => h.trans (k.mono h.size)) (fun i v W W' h he => ?stab) ?obls ?fin
      case stab =>
       match i, h with
       | 0, h => exact h
       | 1, h => exact h
       | 2, h => exact h
       | 3, h => exact h
       | 4, h => exact h
       | 5, h => exact h
       | 6, h => exact (by obtain ⟨q, e, hr⟩ := h; exact ⟨q, e, hr.below he hr.lt⟩)
       | _ + 7, h => exact h
      case obls =>
       refine .cons ?_ (.cons ?_ (.cons ?_ (.cons ?_ (.cons ?_ (.cons ?_ (.cons ?_ .nil))))))
       ·intro ac wx hE hf hd
        have hB : Below wr.heap.size wr wx := ⟨hE.1,hE.2,hE.3,hE.4,hE.5⟩
        rw [if_pos (Inv.want0 rfl _)]
        have h18 : ac.eval (.tmp 18) = .pointer (some ⟨Y.heap.size, 0, none⟩) := hf 18 (by kernel_rfl)
        clear hf hd
        refine Inv.val (.pointer (some ⟨Y.heap.size, 3, none⟩)) ?_ rfl rfl (Below.refl _ _)
        clear hE hB
        generalize ac.eval = ev at *
        simp [execOp, go_sem, *]
       ·intro ac wx hE hf hd
        have hB : Below wr.heap.size wr wx := ⟨hE.1,hE.2,hE.3,hE.4,hE.5⟩
        rw [if_pos (Inv.want0 rfl _)]
        have h127 := hd 0 _ (by kernel_rfl) rfl
        change ac.eval (.tmp 127) = .pointer (some ⟨Y.heap.size, 3, none⟩) at h127
        clear hf hd
        have xw : wx.cell? ⟨Y.heap.size, 3, none⟩ = some (.slice A3 k c3) := (hB.cell (p := ⟨Y.heap.size, 3, none⟩) hgl).trans y3
        refine Inv.val (.slice A3 k c3) ?_ rfl rfl (Below.refl _ _)
        clear hE hB
        have hcst : ∀ v, ac.eval (.const v) = v := fun _ => rfl
        generalize ac.eval = ev at *
        simp [execOp, go_sem, *]
       ·intro ac wx hE hf hd
        have hB : Below wr.heap.size wr wx := ⟨hE.1,hE.2,hE.3,hE.4,hE.5⟩
        rw [if_pos (Inv.want0 rfl _)]
        have h16 : ac.eval (.tmp 16) = .pointer (some ⟨x, 0, none⟩) := hf 16 (by kernel_rfl)
        clear hf hd
        refine Inv.val (.pointer (some ⟨x, 0, none⟩)) ?_ rfl rfl (Below.refl _ _)
        clear hE hB
        generalize ac.eval = ev at *
        simp [execOp, go_sem, *]
       ·intro ac wx hE hf hd
        have hB : Below wr.heap.size wr wx := ⟨hE.1,hE.2,hE.3,hE.4,hE.5⟩
        rw [if_pos (Inv.want0 rfl _)]
        have h15 : ac.eval (.tmp 15) = .int .i64 (ix : Int) := hf 15 (by kernel_rfl)
        clear hf hd
        refine Inv.val (.int .i64 (ix : Int)) ?_ rfl rfl (Below.refl _ _)
        clear hE hB
        generalize ac.eval = ev at *
        simp [execOp, go_sem, *]
       ·intro ac wx hE hf hd
        have hB : Below wr.heap.size wr wx := ⟨hE.1,hE.2,hE.3,hE.4,hE.5⟩
        rw [if_pos (Inv.want0 rfl _)]
        have h20 : ac.eval (.tmp 20) = .int .i64 t := hf 20 (by kernel_rfl)
        clear hf hd
        refine Inv.val (.int .i64 t) ?_ rfl rfl (Below.refl _ _)
        clear hE hB
        generalize ac.eval = ev at *
        simp [execOp, go_sem, *]
       ·intro ac wx hE hf hd
        have hB : Below wr.heap.size wr wx := ⟨hE.1,hE.2,hE.3,hE.4,hE.5⟩
        rw [if_pos (Inv.want0 rfl _)]
        have h129 := hd 2 _ (by kernel_rfl) rfl
        change ac.eval (.tmp 129) = .pointer (some ⟨x, 0, none⟩) at h129
        have h130 := hd 3 _ (by kernel_rfl) rfl
        change ac.eval (.tmp 130) = .int .i64 (ix : Int) at h130
        have h131 := hd 4 _ (by kernel_rfl) rfl
        change ac.eval (.tmp 131) = .int .i64 t at h131
        clear hf hd
        refine Inv.go (f := 81) (xs := #[.pointer (some ⟨x, 0, none⟩), .int .i64 (ix : Int), .int .i64 t]) ?_ rfl ?_
        ·clear hE hB
         have hfn : ac.eval (.func 81) = .func (.func 81) #[] #[] := rfl
         generalize ac.eval = ev at *
         simp [execOp, go_sem, *]
        ·exact (HVA.out wx (hbW.out.trans (hB.mono hbW.out.size))).mono fun e w' ⟨he, hb⟩ => ⟨_, he, rfl, hb⟩
       ·intro ac wx hE hf hd
        have hB : Below wr.heap.size wr wx := ⟨hE.1,hE.2,hE.3,hE.4,hE.5⟩
        rw [if_pos (Inv.want0 rfl _)]
        have h132 := hd 5 _ (by kernel_rfl) rfl
        change ac.eval (.tmp 132) = .agg #[.bool vo, .int .i64 vn] at h132
        clear hf hd
        refine Inv.val (.slice (some ⟨wx.heap.size, 0, none⟩) 1 1) (w' := wx.alloc (.cells #[.bool vo, .int .i64 vn] 105)) ?_ rfl ⟨_, rfl, RowAt.new wx _ _⟩ ((Below.refl _ _).alloc (Nat.le_refl _) _)
        clear hE hB
        generalize ac.eval = ev at *
        simp [execOp, go_sem, *]
      case fin =>
       intro ac wx hE ha hall
       have hB : Below wr.heap.size wr wx := ⟨hE.1,hE.2,hE.3,hE.4,hE.5⟩
       have h127 := hall 0 _ (by decide) rfl
       change ac.eval (.tmp 127) = .pointer (some ⟨Y.heap.size, 3, none⟩) at h127
       have h128 := hall 1 _ (by decide) rfl
       change ac.eval (.tmp 128) = .slice A3 k c3 at h128
       have h129 := hall 2 _ (by decide) rfl
       change ac.eval (.tmp 129) = .pointer (some ⟨x, 0, none⟩) at h129
       have h130 := hall 3 _ (by decide) rfl
       change ac.eval (.tmp 130) = .int .i64 (ix : Int) at h130
       have h131 := hall 4 _ (by decide) rfl
       change ac.eval (.tmp 131) = .int .i64 t at h131
       have h132 := hall 5 _ (by decide) rfl
       change ac.eval (.tmp 132) = .agg #[.bool vo, .int .i64 vn] at h132
       have h133 := hall 6 _ (by decide) rfl
       change (fun v W => ∃ q : Nat, v = .slice (some ⟨q, 0, none⟩) 1 1 ∧ RowAt W q 105 #[.bool vo, .int .i64 vn]) (ac.eval (.tmp 133)) wx at h133
       try dsimp only at h133
       generalize hv133 : ac.eval (.tmp 133) = v133 at *
       simp only [List.take_succ_cons, List.take_zero, List.foldl, Inv.slot, Act.put] at ha
       change ac.tmps.getD 127 undef = _ at h127
       change ac.tmps.getD 128 undef = _ at h128
       change ac.tmps.getD 129 undef = _ at h129
       change ac.tmps.getD 130 undef = _ at h130
       change ac.tmps.getD 131 undef = _ at h131
       change ac.tmps.getD 132 undef = _ at h132
       change ac.tmps.getD 133 undef = _ at hv133
       simp only [h127, h128, h129, h130, h131, h132, hv133, List.setIfInBounds_toArray, List.set_cons_zero, List.set_cons_succ] at ha
       clear h127 h128 h129 h130 h131 h132 hv133 hall hE
       subst ha
       simp only [List.drop_succ_cons, List.drop_zero]
       obtain ⟨q', rfl, hrow⟩ := h133
       have hMx := HS.out.below hB
       have HRX : Hid (Rd wx (fun _ => True) (some ⟨q', 0, none⟩) [.bool vo, .int .i64 vn]) := Lib.hid (rd_row hrow)
       have hsx : Y.heap.size + 1 ≤ wx.heap.size := Nat.le_trans hgl hB.size
       have HOX := Lib.hid (HOX0.out wx hMx)
       have HSX := Lib.hid (HSX0.out wx hMx)
       have y3' : wx.cell? ⟨Y.heap.size, 3, none⟩ = some (.slice A3 k c3) := hMx.2.1.cell 3
       have hgx := hrow.lt
       clear hMx hB hrow y3
       go_wp2_with (at_builtin; refine wpList_app _ rfl (.tmp 128) (.tmp 133) 86 rfl (Y.heap.size + 1) 105 j0 (.agg #[.bool false, .int .i64 0]) 2 16 Tryz.underlying86 HJ.out HY.out.1 HY.out.2.1 HY.out.2.2 rfl (by decide) (.slice A3 k c3) k (cellsOf m) rfl HOX.out (fun _ => True) (some ⟨q', 0, none⟩) 1 1 [.bool vo, .int .i64 vn] rfl rfl HRX.out (by simp [Value.oneCell']) (by unfold maxLen; omega) (by omega) hsx ?_; intro v4 w4 hown4 hg4w hat4 hnil4; obtain ⟨A4, n4, c4, rfl⟩ := own_slice hown4; obtain ⟨z2, z3, hM4⟩ := HSX.out w4 _ hg4w hown4; have HM4 := Lib.hid hM4; have hs4 : Y.heap.size < w4.heap.size := Nat.lt_of_lt_of_le (by omega) hg4w.size; clear hown4 hg4w hat4 hnil4 hM4)
       go_roundw
       case rel => exact ⟨k + 1, _, by omega, by rw [← HTN.out], Lib.hid (by rw [HPS.out]; exact HM4.out)⟩
       case measure => simp [intOf]; omega
     ·have hkE : k = K := by omega
      have hte : t = e := HK0.out hkE
      have hbb : Below (w.heap.size + 1) (w.alloc (.cells #[.string ⟨#[]⟩, .int .i64 0, .int .i64 0, .slice none 0 0, .int .i64 0] 88)) wr := HBB2.out.trans ((HYB.out.trans (hbW.out.mono hyw)).mono hs2)
      obtain ⟨⟨r0, r1, r2, r3, r4⟩, ⟨f0, f1, f2, f3, f4⟩, hs3⟩ := HC.out wr hbb
      have HLB3 := Lib.hid (lowBox' hbb)
      have hwy : w.heap.size < Y.heap.size + 1 := by omega
      have HQ2 : Hid (Q = (some ⟨p, s, m⟩, 0)) := Lib.hid (by rw [HQ.out, ← HM.out, hkE])
      clear hbb
      go_wp2_with fail
      exact bodyPost_ret (v := .tuple #[.agg #[.string ⟨n.toArray⟩, .int .i64 p, .int .i64 s, .slice A3 k c3, .int .i64 0], .int .i64 0]) (by simp [results, Tryz.results37, go_sem, *]) rfl (Fetched.yes (se := ⟨p, s, m⟩) HQ2.out (ser_back HS.out.2.2 hwy) (below_set5 HLB3.out (Nat.le_refl _)))
   ·rw [if_neg hc] at z3'
    obtain rfl : e = g2 := z3'.symm
    have Z4 := Lib.hid z4
    clear z4
    go_wp2_with first
     | (go_at_call 80; (with_reducible refine (HA1.out _).mono ?_); rintro e w' ⟨rfl, rfl⟩)
     | (go_at_call 80; (with_reducible refine (HA2.out _).mono ?_); rintro e w' ⟨rfl, rfl⟩)
    obtain ⟨ix, hix⟩ : ∃ ix, ix = i := ⟨_, rfl⟩
    subst hix
    obtain ⟨Y, hYe⟩ : ∃ Y, wc.alloc (.cells #[.pointer (some ⟨fs, 0, none⟩), .string ⟨n.toArray⟩, .int .i64 ag, .int .i64 xf, .slice (some ⟨b, off, none⟩) N c1] 125) = Y := ⟨_, rfl⟩
    have hys : wc.heap.size + 1 = Y.heap.size := by rw [← hYe]; simp
    have hYb : Below w2.heap.size w2 Y := by rw [← hYe]; exact HBC.out.alloc hws _
    have hFY : FileR Y wc.heap.size fs n H (some ⟨b, off, none⟩) c1 := by
     rw [← hYe, hH.out, ← hlN]
     exact ⟨RowAt.new _ _ _, (HROW2.out.below HBC.out).below ((Below.refl _ _).alloc (Nat.le_refl _) _)⟩
    have HYB := Lib.hid hYb
    have hyw := hYb.size
    have HVA : Hid (∀ k : Nat, k < K → ∀ W, Below Y.heap.size Y W → Calls Tryz.prog 81 #[.pointer (some ⟨wc.heap.size, 0, none⟩), .int .i64 (ix : Int), .int .i64 (p + (k : Int) * s)] W fun e w' => e = .returned (.agg #[.bool (value S.now n H ix (p + (k : Int) * s)).ok, .int .i64 (value S.now n H ix (p + (k : Int) * s)).n]) ∧ Below W.heap.size W w') := Lib.hid fun k hk W hb =>
     rvalue_any ((HRO.out.below (HLB2.out.trans (hYb.mono (Nat.le_of_lt hs2)))).below hb) hc0 (hFY.below hb) hv ix (by rw [← hN.out]; exact hlt) _ (by
      have : (k : Int) * s ≤ (K : Int) * s := Int.mul_le_mul_of_nonneg_right (by omega) (by omega)
      have := Z4.out
      omega)
    rw [hYe, hys]
    generalize wc.heap.size = x at *
    clear hYe hYb hFY hys y0 y1 y2 s0 hhl hbl hws
    obtain ⟨wo, hwo⟩ : ∃ wo, wo = wr := ⟨_, rfl⟩
    subst hwo
    go_loopw [20] (fun u20 wr => ∃ (k : Nat) (x : Value), k ≤ K ∧ u20 = .int .i64 (p + (k : Int) * s) ∧ Hid (Ser Y n p s wr x (seq S.now n H ix p k))) (fun u20 _ => (e - intOf u20).toNat)
    case atStart => exact ⟨0, _, Nat.zero_le _, by simp, Lib.hid (Ser.start _ _ _ _)⟩
    case round =>
     obtain ⟨k, v, hk, rfl, HS⟩ := hrel
     have hml := seq_len S.now n H ix p k
     have HPS := Lib.hid (seq_succ S.now n H ix p k)
     rw [← hs.out] at HPS
     generalize hm : seq S.now n H ix p k = m at *
     have HM := Lib.hid hm
     clear hm
     obtain ⟨A3, c3, hv3⟩ := HS.out.2.2.slice
     rw [hml] at hv3
     subst hv3
     have HT4 : Hid (k < K → p + (k : Int) * s + s ≤ e ∧ p + (k : Int) * s + s = p + ((k + 1 : Nat) : Int) * s) := Lib.hid fun h => by
      have h1 : ((k + 1 : Nat) : Int) * s ≤ (K : Int) * s := Int.mul_le_mul_of_nonneg_right (by omega) (by omega)
      have h2 : ((k + 1 : Nat) : Int) * s = (k : Int) * s + s := by rw [Int.natCast_succ, Int.add_mul, Int.one_mul]
      have := Z4.out
      omega
     have HT0 : Hid (0 ≤ (k : Int) * s) := Lib.hid (Int.mul_nonneg (by omega) (by omega))
     have HVK := Lib.hid (HVA.out k)
     have HK0 : Hid (k = K → p + (k : Int) * s = e) := Lib.hid fun h => by rw [Z4.out, h]
     have ht0 := HT0.out
     obtain ⟨t, ht⟩ : ∃ t, p + (k : Int) * s = t := ⟨_, rfl⟩
     have htp : p ≤ t := by omega
     rw [ht] at HVK HPS HT4 HK0
     rw [ht]
     have y3 : wr.cell? ⟨Y.heap.size, 3, none⟩ = some (.slice A3 k c3) := HS.out.2.1.cell 3
     have yn0 : wr.cell? ⟨Y.heap.size, 0, none⟩ = some (.string ⟨n.toArray⟩) := HS.out.2.1.cell 0
     have yn1 : wr.cell? ⟨Y.heap.size, 1, none⟩ = some (.int .i64 p) := HS.out.2.1.cell 1
     have yn2 : wr.cell? ⟨Y.heap.size, 2, none⟩ = some (.int .i64 s) := HS.out.2.1.cell 2
     have yn4 : wr.cell? ⟨Y.heap.size, 4, none⟩ = some (.int .i64 0) := HS.out.2.1.cell 4
     have hgl := HS.out.2.1.lt
     have hbW := Lib.hid HS.out.1
     clear ht ht0
     by_cases hkK : k < K
     ·obtain ⟨te, tn⟩ := HT4.out hkK
      have HTN := Lib.hid tn
      have hte : t < e := by omega
      have hwt : IntKind.i64.wrap (t + s) = t + s := IntWalk.i64_in _ (by omega)
      have HVA := Lib.hid (HVK.out hkK)
      clear HVK tn
      generalize value S.now n H ix t = vv at *
      obtain ⟨vo, vn⟩ := vv
      have HOX0 : Hid (∀ W, Ser Y n p s W (.slice A3 k c3) m → W.ownsRow (Y.heap.size + 1) 105 2 (.slice A3 k c3) k (cellsOf m)) := Lib.hid fun W h => by
       have := h.2.2
       unfold OwnV at this
       rw [hml] at this
       exact this
      have HSX0 : Hid (∀ W, Ser Y n p s W (.slice A3 k c3) m → ∀ w4 v4, W.grownBy w4 (Value.slice A3 k c3).ownBlock → w4.ownsRow (Y.heap.size + 1) 105 2 v4 (k + 1) (cellsOf m ++ [.bool vo, .int .i64 vn]) →
       w4.cell? ⟨Y.heap.size, 3, none⟩ = some (.slice A3 k c3) ∧ w4.frozen? ⟨Y.heap.size, 3, none⟩ = false ∧ Ser Y n p s (w4.setCell ⟨Y.heap.size, 3, none⟩ v4) v4 (m ++ [⟨vo, vn⟩])) := Lib.hid fun W h w4 v4 hg ho => h.step hg (by rw [hml]; exact ho)
      clear yn0 yn1 yn2 yn4
      go_wp2_with fail
      refine Inv.region_tail 7 12 (fun W W' => Below W.heap.size W W') (fun i v W => match i with
       | 0 => v = .pointer (some ⟨Y.heap.size, 3, none⟩)
       | 1 => v = .slice A3 k c3
       | 2 => v = .pointer (some ⟨x, 0, none⟩)
       | 3 => v = .int .i64 (ix : Int)
       | 4 => v = .int .i64 t
       | 5 => v = .agg #[.bool vo, .int .i64 vn]
       | 6 => ∃ q : Nat, v = .slice (some ⟨q, 0, none⟩) 1 1 ∧ RowAt W q 105 #[.bool vo, .int .i64 vn]
       | _ => True) (by kernel_rfl) (by kernel_rfl) (by kernel_rfl) (by kernel_rfl) (fun W => Below.refl _ _) (fun a b c h k => h.trans (k.mono h.size)) (fun i v W W' h he => ?stab) ?obls ?fin
      case stab =>
       match i, h with
       | 0, h => exact h
       | 1, h => exact h
       | 2, h => exact h
       | 3, h => exact h
       | 4, h => exact h
       | 5, h => exact h
       | 6, h => exact (by obtain ⟨q, e, hr⟩ := h; exact ⟨q, e, hr.below he hr.lt⟩)
       | _ + 7, h => exact h
      case obls =>
       refine .cons ?_ (.cons ?_ (.cons ?_ (.cons ?_ (.cons ?_ (.cons ?_ (.cons ?_ .nil))))))
       ·intro ac wx hE hf hd
        have hB : Below wr.heap.size wr wx := ⟨hE.1,hE.2,hE.3,hE.4,hE.5⟩
        rw [if_pos (Inv.want0 rfl _)]
        have h18 : ac.eval (.tmp 18) = .pointer (some ⟨Y.heap.size, 0, none⟩) := hf 18 (by kernel_rfl)
        clear hf hd
        refine Inv.val (.pointer (some ⟨Y.heap.size, 3, none⟩)) ?_ rfl rfl (Below.refl _ _)
        clear hE hB
        generalize ac.eval = ev at *
        simp [execOp, go_sem, *]
       ·intro ac wx hE hf hd
        have hB : Below wr.heap.size wr wx := ⟨hE.1,hE.2,hE.3,hE.4,hE.5⟩
        rw [if_pos (Inv.want0 rfl _)]
        have h127 := hd 0 _ (by kernel_rfl) rfl
        change ac.eval (.tmp 127) = .pointer (some ⟨Y.heap.size, 3, none⟩) at h127
        clear hf hd
        have xw : wx.cell? ⟨Y.heap.size, 3, none⟩ = some (.slice A3 k c3) := (hB.cell (p := ⟨Y.heap.size, 3, none⟩) hgl).trans y3
        refine Inv.val (.slice A3 k c3) ?_ rfl rfl (Below.refl _ _)
        clear hE hB
        have hcst : ∀ v, ac.eval (.const v) = v := fun _ => rfl
        generalize ac.eval = ev at *
        simp [execOp, go_sem, *]
       ·intro ac wx hE hf hd
        have hB : Below wr.heap.size wr wx := ⟨hE.1,hE.2,hE.3,hE.4,hE.5⟩
        rw [if_pos (Inv.want0 rfl _)]
        have h16 : ac.eval (.tmp 16) = .pointer (some ⟨x, 0, none⟩) := hf 16 (by kernel_rfl)
        clear hf hd
        refine Inv.val (.pointer (some ⟨x, 0, none⟩)) ?_ rfl rfl (Below.refl _ _)
        clear hE hB
        generalize ac.eval = ev at *
        simp [execOp, go_sem, *]
       ·intro ac wx hE hf hd
        have hB : Below wr.heap.size wr wx := ⟨hE.1,hE.2,hE.3,hE.4,hE.5⟩
        rw [if_pos (Inv.want0 rfl _)]
        have h15 : ac.eval (.tmp 15) = .int .i64 (ix : Int) := hf 15 (by kernel_rfl)
        clear hf hd
        refine Inv.val (.int .i64 (ix : Int)) ?_ rfl rfl (Below.refl _ _)
        clear hE hB
        generalize ac.eval = ev at *
        simp [execOp, go_sem, *]
       ·intro ac wx hE hf hd
        have hB : Below wr.heap.size wr wx := ⟨hE.1,hE.2,hE.3,hE.4,hE.5⟩
        rw [if_pos (Inv.want0 rfl _)]
        have h20 : ac.eval (.tmp 20) = .int .i64 t := hf 20 (by kernel_rfl)
        clear hf hd
        refine Inv.val (.int .i64 t) ?_ rfl rfl (Below.refl _ _)
        clear hE hB
        generalize ac.eval = ev at *
        simp [execOp, go_sem, *]
       ·intro ac wx hE hf hd
        have hB : Below wr.heap.size wr wx := ⟨hE.1,hE.2,hE.3,hE.4,hE.5⟩
        rw [if_pos (Inv.want0 rfl _)]
        have h129 := hd 2 _ (by kernel_rfl) rfl
        change ac.eval (.tmp 129) = .pointer (some ⟨x, 0, none⟩) at h129
        have h130 := hd 3 _ (by kernel_rfl) rfl
        change ac.eval (.tmp 130) = .int .i64 (ix : Int) at h130
        have h131 := hd 4 _ (by kernel_rfl) rfl
        change ac.eval (.tmp 131) = .int .i64 t at h131
        clear hf hd
        refine Inv.go (f := 81) (xs := #[.pointer (some ⟨x, 0, none⟩), .int .i64 (ix : Int), .int .i64 t]) ?_ rfl ?_
        ·clear hE hB
         have hfn : ac.eval (.func 81) = .func (.func 81) #[] #[] := rfl
         generalize ac.eval = ev at *
         simp [execOp, go_sem, *]
        ·exact (HVA.out wx (hbW.out.trans (hB.mono hbW.out.size))).mono fun e w' ⟨he, hb⟩ => ⟨_, he, rfl, hb⟩
       ·intro ac wx hE hf hd
        have hB : Below wr.heap.size wr wx := ⟨hE.1,hE.2,hE.3,hE.4,hE.5⟩
        rw [if_pos (Inv.want0 rfl _)]
        have h132 := hd 5 _ (by kernel_rfl) rfl
        change ac.eval (.tmp 132) = .agg #[.bool vo, .int .i64 vn] at h132
        clear hf hd
        refine Inv.val (.slice (some ⟨wx.heap.size, 0, none⟩) 1 1) (w' := wx.alloc (.cells #[.bool vo, .int .i64 vn] 105)) ?_ rfl ⟨_, rfl, RowAt.new wx _ _⟩ ((Below.refl _ _).alloc (Nat.le_refl _) _)
        clear hE hB
        generalize ac.eval = ev at *
        simp [execOp, go_sem, *]
      case fin =>
       intro ac wx hE ha hall
       have hB : Below wr.heap.size wr wx := ⟨hE.1,hE.2,hE.3,hE.4,hE.5⟩
       have h127 := hall 0 _ (by decide) rfl
       change ac.eval (.tmp 127) = .pointer (some ⟨Y.heap.size, 3, none⟩) at h127
       have h128 := hall 1 _ (by decide) rfl
       change ac.eval (.tmp 128) = .slice A3 k c3 at h128
       have h129 := hall 2 _ (by decide) rfl
       change ac.eval (.tmp 129) = .pointer (some ⟨x, 0, none⟩) at h129
       have h130 := hall 3 _ (by decide) rfl
       change ac.eval (.tmp 130) = .int .i64 (ix : Int) at h130
       have h131 := hall 4 _ (by decide) rfl
       change ac.eval (.tmp 131) = .int .i64 t at h131
       have h132 := hall 5 _ (by decide) rfl
       change ac.eval (.tmp 132) = .agg #[.bool vo, .int .i64 vn] at h132
       have h133 := hall 6 _ (by decide) rfl
       change (fun v W => ∃ q : Nat, v = .slice (some ⟨q, 0, none⟩) 1 1 ∧ RowAt W q 105 #[.bool vo, .int .i64 vn]) (ac.eval (.tmp 133)) wx at h133
       try dsimp only at h133
       generalize hv133 : ac.eval (.tmp 133) = v133 at *
       simp only [List.take_succ_cons, List.take_zero, List.foldl, Inv.slot, Act.put] at ha
       change ac.tmps.getD 127 undef = _ at h127
       change ac.tmps.getD 128 undef = _ at h128
       change ac.tmps.getD 129 undef = _ at h129
       change ac.tmps.getD 130 undef = _ at h130
       change ac.tmps.getD 131 undef = _ at h131
       change ac.tmps.getD 132 undef = _ at h132
       change ac.tmps.getD 133 undef = _ at hv133
       simp only [h127, h128, h129, h130, h131, h132, hv133, List.setIfInBounds_toArray, List.set_cons_zero, List.set_cons_succ] at ha
       clear h127 h128 h129 h130 h131 h132 hv133 hall hE
       subst ha
       simp only [List.drop_succ_cons, List.drop_zero]
       obtain ⟨q', rfl, hrow⟩ := h133
       have hMx := HS.out.below hB
       have HRX : Hid (Rd wx (fun _ => True) (some ⟨q', 0, none⟩) [.bool vo, .int .i64 vn]) := Lib.hid (rd_row hrow)
       have hsx : Y.heap.size + 1 ≤ wx.heap.size := Nat.le_trans hgl hB.size
       have HOX := Lib.hid (HOX0.out wx hMx)
       have HSX := Lib.hid (HSX0.out wx hMx)
       have y3' : wx.cell? ⟨Y.heap.size, 3, none⟩ = some (.slice A3 k c3) := hMx.2.1.cell 3
       have hgx := hrow.lt
       clear hMx hB hrow y3
       go_wp2_with (at_builtin; refine wpList_app _ rfl (.tmp 128) (.tmp 133) 86 rfl (Y.heap.size + 1) 105 j0 (.agg #[.bool false, .int .i64 0]) 2 16 Tryz.underlying86 HJ.out HY.out.1 HY.out.2.1 HY.out.2.2 rfl (by decide) (.slice A3 k c3) k (cellsOf m) rfl HOX.out (fun _ => True) (some ⟨q', 0, none⟩) 1 1 [.bool vo, .int .i64 vn] rfl rfl HRX.out (by simp [Value.oneCell']) (by unfold maxLen; omega) (by omega) hsx ?_; intro v4 w4 hown4 hg4w hat4 hnil4; obtain ⟨A4, n4, c4, rfl⟩ := own_slice hown4; obtain ⟨z2, z3, hM4⟩ := HSX.out w4 _ hg4w hown4; have HM4 := Lib.hid hM4; have hs4 : Y.heap.size < w4.heap.size := Nat.lt_of_lt_of_le (by omega) hg4w.size; clear hown4 hg4w hat4 hnil4 hM4)
       go_roundw
       case rel => exact ⟨k + 1, _, by omega, by rw [← HTN.out], Lib.hid (by rw [HPS.out]; exact HM4.out)⟩
       case measure => simp [intOf]; omega
     ·have hkE : k = K := by omega
      have hte : t = e := HK0.out hkE
      have hbb : Below (w.heap.size + 1) (w.alloc (.cells #[.string ⟨#[]⟩, .int .i64 0, .int .i64 0, .slice none 0 0, .int .i64 0] 88)) wr := HBB2.out.trans ((HYB.out.trans (hbW.out.mono hyw)).mono hs2)
      obtain ⟨⟨r0, r1, r2, r3, r4⟩, ⟨f0, f1, f2, f3, f4⟩, hs3⟩ := HC.out wr hbb
      have HLB3 := Lib.hid (lowBox' hbb)
      have hwy : w.heap.size < Y.heap.size + 1 := by omega
      have HQ2 : Hid (Q = (some ⟨p, s, m⟩, 0)) := Lib.hid (by rw [HQ.out, ← HM.out, hkE])
      clear hbb
      go_wp2_with fail
      exact bodyPost_ret (v := .tuple #[.agg #[.string ⟨n.toArray⟩, .int .i64 p, .int .i64 s, .slice A3 k c3, .int .i64 0], .int .i64 0]) (by simp [results, Tryz.results37, go_sem, *]) rfl (Fetched.yes (se := ⟨p, s, m⟩) HQ2.out (ser_back HS.out.2.2 hwy) (below_set5 HLB3.out (Nat.le_refl _)))
theorem rfetch_any {w : World} {V : Nat → Prop} {c fs : Nat} {S : Vf.Sv} (ro : RO w V fs c S) (hc : c ≤ 1000000) (n : List UInt8) (now from_ until_ : Int) :
 Calls Tryz.prog 37 #[.pointer (some ⟨fs, 0, none⟩), .string ⟨n.toArray⟩, .int .i64 now, .int .i64 from_, .int .i64 until_] w (Fetched w n (fetch S.now n now from_ until_)) := by
 by_cases hbad : (info S.now n).2 ≠ 0 ∨ now < 1 ∨ 4294967295 < now
 ·exact rfetch_bad ro hc n now from_ until_ hbad
 ·have h0 : (info S.now n).2 = 0 := Decidable.byContradiction fun e => hbad (.inl e)
  have h1 : ¬ (now < 1 ∨ 4294967295 < now) := fun e => hbad (.inr e)
  by_cases ht : until_ < from_ ∨ now < from_ ∨ until_ < 0 ∨ until_ < now - (info S.now n).1.span
  ·exact rfetch_out ro hc n now from_ until_ h0 (by omega) (by omega) ht
  ·exact rfetch_in ro hc n now from_ until_ h0 (by omega) (by omega) ht
end
section
open Go.RowKit Go.Sort
open Fx (Vl)
open Me
open Wp
theorem ownp_row {t : TypeId} {base : Nat} {w : World} {v : Value} {l : List (Int × Int)} (h : OwnP t base w v l) : ∃ A c, v = .slice A l.length c ∧ Row w A l c := by
 rcases h.2 with ⟨rfl, h0⟩ | ⟨g, cap, cur, rfl, hb, hg, hnc, hcm, hcs, ht⟩
 ·exact ⟨none, 0, by rw [h0], by omega, fun hl => by omega⟩
 ·refine ⟨some ⟨g, 0, none⟩, cap, rfl, hnc, fun hl => ⟨g, 0, rfl, (Array.getElem?_eq_some_iff.1 hg).1, fun i hi => ?_, fun i hi => ?_⟩⟩
  ·rw [Nat.zero_add, cell_of_row w g _ cur t (0, 0) hg, ← (Wh.cellsA_at l i hi).1, show Wh.cellsA l = _ from ht.symm, List.getElem?_take, if_pos (by omega)]
   simp
  ·rw [Nat.zero_add, cell_of_row w g _ cur t (0, 0) hg, ← (Wh.cellsA_at l i hi).2, show Wh.cellsA l = _ from ht.symm, List.getElem?_take, if_pos (by omega)]
   simp
theorem ownp_len {t : TypeId} {base : Nat} {w : World} {v : Value} {l : List (Int × Int)} (h : OwnP t base w v l) : l.length ≤ maxLen := by
 rcases h.2 with ⟨_, h0⟩ | ⟨g, cap, cur, _, _, _, hnc, hcm, _⟩
 ·rw [h0]; exact Nat.zero_le _
 ·exact Nat.le_trans hnc hcm
theorem same_any7 (nm : ByteArray) (st sp : Int) (l : List Vl) (A A' : Option Addr) (c c' : Nat) (hl : l.length ≤ maxLen) (w : World) (hx : Sl w (.slice A l.length c) l) (hx' : Sl w (.slice A' l.length c') l) :
 Calls Tryz.prog 38 #[.agg #[.string nm, .int .i64 st, .int .i64 sp, .slice A l.length c, .int .i64 0], .agg #[.string nm, .int .i64 st, .int .i64 sp, .slice A' l.length c', .int .i64 0]] w fun e w' => e = .returned (.bool true) ∧ Below w.heap.size w w' := by
 obtain ⟨X, hX⟩ : ∃ X, X = ((w.alloc (.cells #[.string nm, .int .i64 st, .int .i64 sp, .slice A l.length c, .int .i64 0] 88)).alloc (.cells #[.string nm, .int .i64 st, .int .i64 sp, .slice A' l.length c', .int .i64 0] 88)) := ⟨_, rfl⟩
 have HX : Hid (Below w.heap.size w X) := Lib.hid (by rw [hX]; exact ((Below.refl _ _).alloc (Nat.le_refl _) _).alloc (by simp) _)
 have HC : Hid (∀ W, Below X.heap.size X W → W.cell? ⟨w.heap.size, 3, none⟩ = some (.slice A l.length c) ∧ W.cell? ⟨w.heap.size + 1, 3, none⟩ = some (.slice A' l.length c')) := Lib.hid fun W hb => by
  have h1 : RowAt X w.heap.size 88 #[.string nm, .int .i64 st, .int .i64 sp, .slice A l.length c, .int .i64 0] := by rw [hX]; exact (RowAt.new w _ _).below ((Below.refl _ _).alloc (Nat.le_refl _) _) (by simp)
  have h2 : RowAt X (w.heap.size + 1) 88 #[.string nm, .int .i64 st, .int .i64 sp, .slice A' l.length c', .int .i64 0] := by rw [hX]; exact two_row w _ _
  exact ⟨(h1.below hb h1.lt).cell 3, (h2.below hb h2.lt).cell 3⟩
 have HS := Lib.hid (hx.below HX.out)
 have HS' := Lib.hid (hx'.below HX.out)
 have hnl : (l.length : Int) ≤ 9223372036854775807 := by unfold maxLen at hl; omega
 clear hx hx'
 go_enter Tryz.func38, Tryz.ntmps38
 go_wp2_with fail
 rw [← hX]
 clear hX
 go_loopw [5] (fun u wr => ∃ k : Nat, k ≤ l.length ∧ u = .int .i64 k ∧ Hid (Below X.heap.size X wr)) (fun u _ => l.length - (intOf u).toNat)
 case atStart => exact ⟨0, Nat.zero_le _, rfl, Lib.hid (Below.refl _ _)⟩
 case round =>
  obtain ⟨k, hk, rfl, HB⟩ := hrel
  obtain ⟨y3, y3'⟩ := HC.out _ HB.out
  by_cases hlt : k < l.length
  ·rcases HS.out with ⟨e, _⟩ | ⟨h0, b, off, cp, e, hv⟩
   ·rw [e] at hlt; exact absurd hlt (by simp)
   ·rcases HS'.out with ⟨e', _⟩ | ⟨_, b', off', cp', e', hv'⟩
    ·rw [e'] at hlt; exact absurd hlt (by simp)
    ·injection e with e1 e2 e3
     injection e' with e1' e2' e3'
     subst e1 e3 e1' e3'
     have g0 := (hv.below HB.out).ok k hlt
     have g1 := (hv.below HB.out).n k hlt
     have g0' := (hv'.below HB.out).ok k hlt
     have g1' := (hv'.below HB.out).n k hlt
     have hkl : (k : Int) < (l.length : Int) := by omega
     have hk0 : (0 : Int) ≤ (k : Int) := by omega
     clear hv hv' e2 e2'
     generalize l[k] = ek at *
     obtain ⟨eo, en⟩ := ek
     have HB' : Hid (Below X.heap.size X wr.drew) := Lib.hid HB.out.drew
     cases eo
     ·go_wp2_with fail
      go_region
      all_goals
       go_wp2_with fail
       go_roundw
       case rel => exact ⟨k + 1, by omega, by go_num, HB'⟩
       case measure => simp [intOf]; omega
     ·go_wp2_with fail
      go_region
      all_goals
       go_wp2_with fail
       go_roundw
       case rel => exact ⟨k + 1, by omega, by go_num, HB'⟩
       case measure => simp [intOf]; omega
  ·obtain rfl : k = l.length := by omega
   go_wp2_with fail
   go_ret
   exact ⟨rfl, HX.out.trans (HB.out.mono HX.out.size)⟩
theorem headers_any7 (ag xf : Int) (l : List (Int × Int)) (A A' : Option Addr) (c c' : Nat) (hl : l.length ≤ 16777216) (w : World) (hx : Row w A l c) (hx' : Row w A' l c') :
 Calls Tryz.prog 17 #[.agg #[.int .i64 ag, .int .i64 xf, .slice A l.length c], .agg #[.int .i64 ag, .int .i64 xf, .slice A' l.length c']] w fun e w' => e = .returned (.bool true) ∧ Below w.heap.size w w' := by
 obtain ⟨X, hX⟩ : ∃ X, X = ((w.alloc (.cells #[.int .i64 ag, .int .i64 xf, .slice A l.length c] 24)).alloc (.cells #[.int .i64 ag, .int .i64 xf, .slice A' l.length c'] 24)) := ⟨_, rfl⟩
 have HX : Hid (Below w.heap.size w X) := Lib.hid (by rw [hX]; exact ((Below.refl _ _).alloc (Nat.le_refl _) _).alloc (by simp) _)
 have HC : Hid (∀ W, Below X.heap.size X W → W.cell? ⟨w.heap.size, 2, none⟩ = some (.slice A l.length c) ∧ W.cell? ⟨w.heap.size + 1, 2, none⟩ = some (.slice A' l.length c')) := Lib.hid fun W hb => by
  have h1 : RowAt X w.heap.size 24 #[.int .i64 ag, .int .i64 xf, .slice A l.length c] := by rw [hX]; exact (RowAt.new w _ _).below ((Below.refl _ _).alloc (Nat.le_refl _) _) (by simp)
  have h2 : RowAt X (w.heap.size + 1) 24 #[.int .i64 ag, .int .i64 xf, .slice A' l.length c'] := by rw [hX]; exact two_row w _ _
  exact ⟨(h1.below hb h1.lt).cell 2, (h2.below hb h2.lt).cell 2⟩
 have HS := Lib.hid (hx.below HX.out)
 have HS' := Lib.hid (hx'.below HX.out)
 have hnl : (l.length : Int) ≤ 16777216 := by omega
 clear hx hx'
 go_enter Tryz.func17, Tryz.ntmps17
 go_wp2_with fail
 rw [← hX]
 clear hX
 go_loopw [5] (fun u wr => ∃ k : Nat, k ≤ l.length ∧ u = .int .i64 k ∧ Hid (Below X.heap.size X wr)) (fun u _ => l.length - (intOf u).toNat)
 case atStart => exact ⟨0, Nat.zero_le _, rfl, Lib.hid (Below.refl _ _)⟩
 case round =>
  obtain ⟨k, hk, rfl, HB⟩ := hrel
  obtain ⟨y3, y3'⟩ := HC.out _ HB.out
  by_cases hlt : k < l.length
  ·obtain ⟨b, off, rfl, hv⟩ := HS.out.2 (by omega)
   obtain ⟨b', off', rfl, hv'⟩ := HS'.out.2 (by omega)
   have g0 := (hv.below HB.out).st k hlt
   have g1 := (hv.below HB.out).ct k hlt
   have g0' := (hv'.below HB.out).st k hlt
   have g1' := (hv'.below HB.out).ct k hlt
   have hkl : (k : Int) < (l.length : Int) := by omega
   have hk0 : (0 : Int) ≤ (k : Int) := by omega
   clear hv hv'
   generalize (Wh.At l k).1 = ea at *
   generalize (Wh.At l k).2 = eb at *
   have HB' : Hid (Below X.heap.size X wr.drew) := Lib.hid HB.out.drew
   go_wp2_with fail
   go_region
   all_goals
    go_wp2_with fail
    go_roundw
    case rel => exact ⟨k + 1, by omega, by go_num, HB'⟩
    case measure => simp [intOf]; omega
  ·obtain rfl : k = l.length := by omega
   go_wp2_with fail
   go_ret
   exact ⟨rfl, HX.out.trans (HB.out.mono HX.out.size)⟩
theorem Wp.RO.kpadd {w w' : World} {V V' O : Nat → Prop} {fs c : Nat} {S : Vf.Sv} (h : RO w V fs c S) (k : Kp O w w') (hO : ∀ i, O i → V i) (hV : ∀ i, V' i → V i ∨ (w.heap.size ≤ i ∧ i < w'.heap.size)) : RO w' V' fs c S := by
 obtain ⟨G, lr, nv, wv, lv, ys, h1, h2, h3⟩ := h
 have hlr : ∀ g, lr = some g → g < w.heap.size := fun g hg => (h1.own.lt g (h1.row.trans hg)).2
 have hfs := h1.fsLt
 refine ⟨G, lr, nv, wv, lv, ys, h1.kp k (fun i hi => (h3 i (hO i hi)).2), h2, fun i hi => ?_⟩
 rcases hV i hi with hv | ⟨ha, hb⟩
 ·exact ⟨Nat.lt_of_lt_of_le (h3 i hv).1 k.size, (h3 i hv).2⟩
 ·exact ⟨hb, fun hg => by have := h1.lt i hg; omega, fun e => by omega, fun e => by have := hlr i e; omega⟩
def Ws.Dx (w0 : World) (fs xs c1 c2 : Nat) (S1 S2 : Vf.Sv) (Q : Nat → Prop) (W : World) : Prop :=
 Below w0.heap.size w0 W ∧ ∃ V1 V2, PO W V1 fs c1 S1 ∧ RO W V2 xs c2 S2 ∧ (∀ b, b < W.heap.size → V1 b ∨ V2 b) ∧ ∀ b, b < w0.heap.size ∨ Q b → V1 b ∧ V2 b
open Ws
section
variable {w0 W W' : World} {fs xs c1 c2 : Nat} {S1 S2 : Vf.Sv} {Q Q' : Nat → Prop}
theorem Ws.Dx.base (h : Dx w0 fs xs c1 c2 S1 S2 Q W) : Below w0.heap.size w0 W := by
 obtain ⟨h1, _⟩ := h
 exact h1
theorem Ws.Dx.laid (h : Dx w0 fs xs c1 c2 S1 S2 Q W) (hb : Below W.heap.size W W') (hQ : ∀ i, Q' i → Q i ∨ (W.heap.size ≤ i ∧ i < W'.heap.size)) : Dx w0 fs xs c1 c2 S1 S2 Q' W' := by
 obtain ⟨h1, V1, V2, h2, h3, h4, h5⟩ := h
 refine ⟨h1.trans (hb.mono h1.size), fun i => V1 i ∨ (W.heap.size ≤ i ∧ i < W'.heap.size), fun i => V2 i ∨ (W.heap.size ≤ i ∧ i < W'.heap.size), h2.add hb (fun i hi => hi), h3.add hb (fun i hi => hi), fun b hb' => ?_, fun b hb' => ?_⟩
 ·by_cases hlt : b < W.heap.size
  ·exact (h4 b hlt).imp .inl .inl
  ·exact .inl (.inr ⟨by omega, hb'⟩)
 ·rcases hb' with hb' | hb'
  ·exact ⟨.inl (h5 b (.inl hb')).1, .inl (h5 b (.inl hb')).2⟩
  ·rcases hQ b hb' with hq | hq
   ·exact ⟨.inl (h5 b (.inr hq)).1, .inl (h5 b (.inr hq)).2⟩
   ·exact ⟨.inr hq, .inr hq⟩
theorem Ws.Dx.below (h : Dx w0 fs xs c1 c2 S1 S2 Q W) (hb : Below W.heap.size W W') : Dx w0 fs xs c1 c2 S1 S2 Q W' := h.laid hb (fun _ => .inl)
theorem Ws.Dx.less (h : Dx w0 fs xs c1 c2 S1 S2 Q W) (hQ : ∀ i, Q' i → Q i) : Dx w0 fs xs c1 c2 S1 S2 Q' W := h.laid (Below.refl _ _) (fun i hi => .inl (hQ i hi))
theorem Ws.Dx.prog {f : Nat} {args : Array Value} {P : Ending → Prop} {c1' : Nat} {S1' : Vf.Sv} (h : Dx w0 fs xs c1 c2 S1 S2 Q W)
 (hC : ∀ V, PO W V fs c1 S1 → (∀ b, b < w0.heap.size ∨ Q b → V b) → Calls Tryz.prog f args W fun e w' => P e ∧ PO w' V fs c1' S1' ∧ Kp (fun b => ¬ V b) W w') :
 Calls Tryz.prog f args W fun e w' => P e ∧ Hid (Dx w0 fs xs c1' c2 S1' S2 Q w') ∧ Hid (Kp (fun b => ¬ (b < w0.heap.size ∨ Q b)) W w') := by
 obtain ⟨h1, V1, V2, h2, h3, h4, h5⟩ := h
 refine (hC V1 h2 (fun b hb => (h5 b hb).1)).mono ?_
 rintro e w' ⟨hp, p, k⟩
 have k2 : Kp (fun b => b < W.heap.size ∧ ¬ V1 b) W w' := k.mono fun i hi ho => ⟨hi, ho⟩
 refine ⟨hp, Lib.hid ⟨h1.trans (k.below h1.size (fun i hi ho => ho (h5 i (.inl hi)).1)), V1, fun i => V2 i ∨ (W.heap.size ≤ i ∧ i < w'.heap.size), p, h3.kpadd k2 (fun i hi => (h4 i hi.1).resolve_left hi.2) (fun i hi => hi), fun b hb => ?_, fun b hb => ⟨(h5 b hb).1, .inl (h5 b hb).2⟩⟩, Lib.hid (k.mono fun i _ ho hq => ho (h5 i hq).1)⟩
 by_cases hlt : b < W.heap.size
 ·exact (h4 b hlt).imp id .inl
 ·exact .inr (.inr ⟨by omega, hb⟩)
theorem Ws.Dx.doc {f : Nat} {args : Array Value} {P : Ending → Prop} {c2' : Nat} {S2' : Vf.Sv} (h : Dx w0 fs xs c1 c2 S1 S2 Q W)
 (hC : ∀ V, RO W V xs c2 S2 → (∀ b, b < w0.heap.size ∨ Q b → V b) → Calls Tryz.prog f args W fun e w' => P e ∧ RO w' V xs c2' S2' ∧ Kp (fun b => ¬ V b) W w') :
 Calls Tryz.prog f args W fun e w' => P e ∧ Hid (Dx w0 fs xs c1 c2' S1 S2' Q w') ∧ Hid (Kp (fun b => ¬ (b < w0.heap.size ∨ Q b)) W w') := by
 obtain ⟨h1, V1, V2, h2, h3, h4, h5⟩ := h
 refine (hC V2 h3 (fun b hb => (h5 b hb).2)).mono ?_
 rintro e w' ⟨hp, p, k⟩
 have k2 : Kp (fun b => b < W.heap.size ∧ ¬ V2 b) W w' := k.mono fun i hi ho => ⟨hi, ho⟩
 refine ⟨hp, Lib.hid ⟨h1.trans (k.below h1.size (fun i hi ho => ho (h5 i (.inl hi)).2)), fun i => V1 i ∨ (W.heap.size ≤ i ∧ i < w'.heap.size), V2, h2.kpadd k2 (fun i hi => (h4 i hi.1).resolve_right hi.2) (fun i hi => hi), p, fun b hb => ?_, fun b hb => ⟨.inl (h5 b hb).1, (h5 b hb).2⟩⟩, Lib.hid (k.mono fun i _ ho hq => ho (h5 i hq).2)⟩
 by_cases hlt : b < W.heap.size
 ·exact (h4 b hlt).imp .inl id
 ·exact .inl (.inr ⟨by omega, hb⟩)
theorem Ws.Dx.po (h : Dx w0 fs xs c1 c2 S1 S2 Q W) : ∃ V, PO W V fs c1 S1 := by
 obtain ⟨_, V1, V2, h2, _⟩ := h
 exact ⟨V1, h2⟩
theorem Ws.Dx.ro (h : Dx w0 fs xs c1 c2 S1 S2 Q W) : ∃ V, RO W V xs c2 S2 := by
 obtain ⟨_, V1, V2, _, h3, _⟩ := h
 exact ⟨V2, h3⟩
theorem Ws.dx_new {w w1 w2 : World} {fs xs : Nat} {S : Vf.Sv} (h : Kw w fs 0 S w1) (h2 : ∃ nv wv lv ys, Vf.At w2 (fun _ => False) xs none S nv wv lv ys) (hx : w1.heap.size ≤ xs) (hb : Below w1.heap.size w1 w2) (hi : Vf.Inv 0 S) : Dx w fs xs 0 0 S S (fun _ => False) w2 := by
 obtain ⟨h1, V, p, hV⟩ := h
 obtain ⟨nv, wv, lv, ys, ha⟩ := h2
 refine ⟨h1.trans (hb.mono h1.size), fun i => V i ∨ (w1.heap.size ≤ i ∧ i < w2.heap.size), fun i => i < w1.heap.size, p.add hb (fun i hi => hi), ⟨_, _, nv, wv, lv, ys, ha, hi, fun b hb' => ⟨Nat.lt_of_lt_of_le hb' hb.size, id, by omega, by simp⟩⟩, fun b hb' => ?_, fun b hb' => ?_⟩
 ·by_cases hlt : b < w1.heap.size
  ·exact .inr hlt
  ·exact .inl (.inr ⟨by omega, hb'⟩)
 ·rcases hb' with hb' | hb'
  ·exact ⟨.inl (hV b hb'), Nat.lt_of_lt_of_le hb' h1.size⟩
  ·exact hb'.elim
end
end
section
open Go.RowKit Go.Sort
open Fx (Vl)
open Me
open Wp
open Ws
theorem Row.kp {w w' : World} {O : Nat → Prop} {A : Option Addr} {l : List (Int × Int)} {cap : Nat} (h : Row w A l cap) (k : Kp O w w') (hA : 0 < l.length → ∀ a, A = some a → ¬ O a.block) : Row w' A l cap :=
 ⟨h.1, fun h0 => by
  obtain ⟨b, off, e, ha⟩ := h.2 h0
  have hn : ¬ O b := hA h0 _ e
  exact ⟨b, off, e, Nat.lt_of_lt_of_le ha.lt k.size, fun i hi => (k.cell (p := ⟨b, off + i * 2, none⟩) ha.lt hn).trans (ha.st i hi), fun i hi => (k.cell (p := ⟨b, off + i * 2 + 1, none⟩) ha.lt hn).trans (ha.ct i hi)⟩⟩
structure Ws.Acting (w0 : World) (Q2 : Nat → Prop) (X : World) (p q : Nat) (k now fr un ix : Int) (hd : Hd) (A : Option Addr) (cap : Nat) (l : List (Int × Int)) (Ap : Option Addr) (capp : Nat) : Prop where
 hdr : RowAt X p 24 #[.int .i64 hd.ag, .int .i64 hd.xf, .slice A hd.l.length cap]
 act : RowAt X q 40 #[.int .i64 k, .int .i64 now, .int .i64 fr, .int .i64 un, .int .i64 ix, .slice Ap l.length capp]
 qp : Q2 p
 qq : Q2 q
 row : Row X A hd.l cap
 pts : Row X Ap l capp
 hA : 0 < hd.l.length → ∀ a, A = some a → a.block < w0.heap.size ∨ Q2 a.block
 hAp : 0 < l.length → ∀ a, Ap = some a → a.block < w0.heap.size ∨ Q2 a.block
theorem Ws.Acting.kp {w0 : World} {Q2 : Nat → Prop} {X W' : World} {p q : Nat} {k now fr un ix : Int} {hd : Hd} {A : Option Addr} {cap : Nat} {l : List (Int × Int)} {Ap : Option Addr} {capp : Nat} (h : Acting w0 Q2 X p q k now fr un ix hd A cap l Ap capp) (kp : Kp (fun b => ¬ (b < w0.heap.size ∨ Q2 b)) X W') : Acting w0 Q2 W' p q k now fr un ix hd A cap l Ap capp :=
 ⟨(kp.block p h.hdr.lt (fun ho => ho (.inr h.qp))).trans h.hdr, (kp.block q h.act.lt (fun ho => ho (.inr h.qq))).trans h.act, h.qp, h.qq, h.row.kp kp (fun h0 a e ho => ho (h.hA h0 a e)), h.pts.kp kp (fun h0 a e ho => ho (h.hAp h0 a e)), h.hA, h.hAp⟩
theorem Ws.Acting.below {w0 : World} {Q2 : Nat → Prop} {X W' : World} {p q : Nat} {k now fr un ix : Int} {hd : Hd} {A : Option Addr} {cap : Nat} {l : List (Int × Int)} {Ap : Option Addr} {capp : Nat} (h : Acting w0 Q2 X p q k now fr un ix hd A cap l Ap capp) (b : Below X.heap.size X W') : Acting w0 Q2 W' p q k now fr un ix hd A cap l Ap capp := h.kp (Kp.of_below b)
theorem Ws.Acting.cells {w0 : World} {Q2 : Nat → Prop} {X : World} {p q : Nat} {k now fr un ix : Int} {hd : Hd} {A : Option Addr} {cap : Nat} {l : List (Int × Int)} {Ap : Option Addr} {capp : Nat} (h : Acting w0 Q2 X p q k now fr un ix hd A cap l Ap capp) :
 X.cell? ⟨q, 0, none⟩ = some (.int .i64 k) ∧ X.cell? ⟨q, 1, none⟩ = some (.int .i64 now) ∧ X.cell? ⟨q, 2, none⟩ = some (.int .i64 fr) ∧ X.cell? ⟨q, 3, none⟩ = some (.int .i64 un) ∧ X.cell? ⟨q, 4, none⟩ = some (.int .i64 ix) ∧ X.cell? ⟨q, 5, none⟩ = some (.slice Ap l.length capp) ∧ X.cell? ⟨p, 0, none⟩ = some (.int .i64 hd.ag) ∧ X.cell? ⟨p, 1, none⟩ = some (.int .i64 hd.xf) ∧ X.cell? ⟨p, 2, none⟩ = some (.slice A hd.l.length cap) :=
 ⟨h.act.cell 0, h.act.cell 1, h.act.cell 2, h.act.cell 3, h.act.cell 4, h.act.cell 5, h.hdr.cell 0, h.hdr.cell 1, h.hdr.cell 2⟩
theorem Ws.Dx.acting {w0 W : World} {fs xs c1 c2 : Nat} {S1 S2 : Vf.Sv} {Q : Nat → Prop} (h : Dx w0 fs xs c1 c2 S1 S2 Q W) (k now fr un ix : Int) (hd : Hd) (A : Option Addr) (cap : Nat) (hrow : Row W A hd.l cap) (hA : 0 < hd.l.length → ∀ a, A = some a → a.block < w0.heap.size ∨ Q a.block) (l : List (Int × Int)) (Ap : Option Addr) (capp : Nat) (hp : Row W Ap l capp) (hAp : 0 < l.length → ∀ a, Ap = some a → a.block < w0.heap.size ∨ Q a.block)
 (X : World) (hX : X = (W.alloc (.cells #[.int .i64 hd.ag, .int .i64 hd.xf, .slice A hd.l.length cap] 24)).alloc (.cells #[.int .i64 k, .int .i64 now, .int .i64 fr, .int .i64 un, .int .i64 ix, .slice Ap l.length capp] 40)) :
 ∃ Q2, Dx w0 fs xs c1 c2 S1 S2 Q2 X ∧ Acting w0 Q2 X W.heap.size (W.heap.size + 1) k now fr un ix hd A cap l Ap capp ∧ ∀ b, Q b → Q2 b := by
 have hb : Below W.heap.size W X := by rw [hX]; exact ((Below.refl _ _).alloc (Nat.le_refl _) _).alloc (by simp) _
 have hs : X.heap.size = W.heap.size + 2 := by rw [hX]; simp
 refine ⟨fun b => Q b ∨ (W.heap.size ≤ b ∧ b < X.heap.size), h.laid hb (fun i hi => hi), ⟨?_, ?_, .inr ⟨Nat.le_refl _, by omega⟩, .inr ⟨by omega, by omega⟩, hrow.below hb, hp.below hb, fun h0 a e => (hA h0 a e).imp id .inl, fun h0 a e => (hAp h0 a e).imp id .inl⟩, fun b => .inl⟩
 ·rw [hX]; exact (RowAt.new W _ _).below ((Below.refl _ _).alloc (Nat.le_refl _) _) (by simp)
 ·rw [hX]; exact two_row W _ _
end
section
open Go.RowKit Go.Sort
open Fx (Vl)
open Me
open Wp
open Ws
theorem act_one {w0 W : World} {fs xs c : Nat} {S : Vf.Sv} {Q : Nat → Prop} (h : Dx w0 fs xs c c S S Q W) (hg : Gv w0) (hd : Hd) (A : Option Addr) (cap : Nat) (hrow : Row W A hd.l cap) (hA : 0 < hd.l.length → ∀ a, A = some a → a.block < w0.heap.size ∨ Q a.block) (now fr un ix : Int) (l : List (Int × Int)) (Ap : Option Addr) (capp : Nat) (hp : Row W Ap l capp) (hAp : 0 < l.length → ∀ a, Ap = some a → a.block < w0.heap.size ∨ Q a.block) (hc : c + 27 * l.length ≤ 490000) :
 Calls Tryz.prog 13 #[.pointer (some ⟨fs, 0, none⟩), .pointer (some ⟨xs, 0, none⟩), .agg #[.int .i64 hd.ag, .int .i64 hd.xf, .slice A hd.l.length cap], .agg #[.int .i64 1, .int .i64 now, .int .i64 fr, .int .i64 un, .int .i64 ix, .slice Ap l.length capp]] W fun e w' => e = .returned (.bool true) ∧ Hid (Dx w0 fs xs (c + 27 * l.length) (c + 27 * l.length) (update S [97] now l).1 (update S [97] now l).1 Q w') := by
 obtain ⟨X, hX⟩ : ∃ X, X = (W.alloc (.cells #[.int .i64 hd.ag, .int .i64 hd.xf, .slice A hd.l.length cap] 24)).alloc (.cells #[.int .i64 1, .int .i64 now, .int .i64 fr, .int .i64 un, .int .i64 ix, .slice Ap l.length capp] 40) := ⟨_, rfl⟩
 obtain ⟨Q2, hD, hAc, hQ⟩ := h.acting 1 now fr un ix hd A cap hrow hA l Ap capp hp hAp X hX
 have HD := Lib.hid hD
 have HAc := Lib.hid hAc
 have HQ := Lib.hid hQ
 obtain ⟨p, hpw⟩ : ∃ p, p = W.heap.size := ⟨_, rfl⟩
 obtain ⟨q, hqw⟩ : ∃ q, q = W.heap.size + 1 := ⟨_, rfl⟩
 rw [← hqw, ← hpw] at HAc
 obtain ⟨y0, y1, y2, y3, y4, y5, y6, y7, y8⟩ := HAc.out.cells
 have HGX : Hid (∀ V : Nat → Prop, (∀ b, b < w0.heap.size ∨ Q2 b → V b) → V 0) := Lib.hid fun V hV => hV 0 (.inl hg.lt)
 have HG : Hid (∀ W', Below w0.heap.size w0 W' → Gv W') := Lib.hid fun W' hb => hg.below hb
 clear hD hAc hQ h hrow hp
 have HP := Lib.hid (HD.out.prog (c1' := c + 27 * l.length) (S1' := (update S [97] now l).1) (P := fun e => e = .returned (.tuple #[.int .i64 (update S [97] now l).2.1, .int .i64 (update S [97] now l).2.2])) (fun V ro hV => update_any7 ro (HG.out _ HD.out.base) (HGX.out V hV) [97] now l Ap capp HAc.out.pts (fun h0 a e => hV _ (HAc.out.hAp h0 a e)) (by omega)))
 have HX2 : Hid (∀ W', Dx w0 fs xs (c + 27 * l.length) c (update S [97] now l).1 S Q2 W' → Acting w0 Q2 W' p q 1 now fr un ix hd A cap l Ap capp → Calls Tryz.prog 21 #[.pointer (some ⟨xs, 0, none⟩), .string ⟨#[97]⟩, .int .i64 now, .slice Ap l.length capp] W' fun e w' => e = .returned (.tuple #[.int .i64 (update S [97] now l).2.1, .int .i64 (update S [97] now l).2.2]) ∧ Hid (Dx w0 fs xs (c + 27 * l.length) (c + 27 * l.length) (update S [97] now l).1 (update S [97] now l).1 Q2 w')) := Lib.hid fun W' hd2 ha => by
  refine (hd2.doc (c2' := c + 27 * l.length) (S2' := (update S [97] now l).1) (P := fun e => e = .returned (.tuple #[.int .i64 (update S [97] now l).2.1, .int .i64 (update S [97] now l).2.2])) (fun V ro hV => rupdate_any ro [97] now l Ap capp ha.pts (fun h0 a e => hV _ (ha.hAp h0 a e)) (by omega))).mono ?_
  rintro e w' ⟨rfl, h1, _⟩
  exact ⟨rfl, h1⟩
 generalize (update S [97] now l).2.1 = n1 at *
 generalize (update S [97] now l).2.2 = n2 at *
 generalize (update S [97] now l).1 = S' at *
 go_enter Tryz.func13, Tryz.ntmps13
 go_wp2_with fail
 rw [← hX, ← hqw, ← hpw]
 clear hX hqw hpw
 go_wp2_with first
  | (go_at_call 23; go_must (refine (HP.out).mono ?_; rintro e w1 ⟨rfl, hd1, hk1⟩; have ha1 := Lib.hid (HAc.out.kp hk1.out); obtain ⟨z0, z1, z2, z3, z4, z5, z6, z7, z8⟩ := ha1.out.cells))
  | (go_at_call 21; go_must (refine (HX2.out _ hd1.out ha1.out).mono ?_; rintro e w2 ⟨rfl, hd2⟩))
 go_ret
 exact ⟨rfl, Lib.hid (hd2.out.less HQ.out)⟩
end
section
open Go.RowKit Go.Sort
open Fx (Vl)
open Me
open Wp
open Ws
def Wp.fnm (R : Option Se × Int) (n : List UInt8) : List UInt8 := match R.1 with | none => [] | some _ => n
def Wp.fst_ (R : Option Se × Int) : Int := match R.1 with | none => 0 | some s => s.start
def Wp.fsp (R : Option Se × Int) : Int := match R.1 with | none => 0 | some s => s.step
def Wp.fvl (R : Option Se × Int) : List Vl := match R.1 with | none => [] | some s => s.vals
theorem fetched_u {w w' : World} {n : List UInt8} {R : Option Se × Int} {e : Ending} (h : Fetched w n R e w') : ∃ A c, e = .returned (.tuple #[.agg #[.string ⟨(fnm R n).toArray⟩, .int .i64 (fst_ R), .int .i64 (fsp R), .slice A (fvl R).length c, .int .i64 0], .int .i64 R.2]) ∧ Sl w' (.slice A (fvl R).length c) (fvl R) ∧ (fvl R).length ≤ maxLen ∧ Below w.heap.size w w' := by
 obtain ⟨v, rfl, h1, h2, h3⟩ := h
 obtain ⟨R1, R2⟩ := R
 cases R1 with
 | none =>
   rw [h1 rfl]
   exact ⟨none, 0, rfl, Sl.nil _ _ _, Nat.zero_le _, h3⟩
 | some s =>
   obtain ⟨x, rfl, ho⟩ := h2 s rfl
   obtain ⟨A, c, rfl⟩ := ho.slice
   refine ⟨A, c, rfl, ho.sl, ?_, h3⟩
   rcases ho.2 with ⟨_, h0⟩ | ⟨g, cap, cur, _, _, _, hnc, hcm, _⟩
   ·show s.vals.length ≤ _; rw [h0]; exact Nat.zero_le _
   ·exact Nat.le_trans hnc hcm
theorem act_two {w0 W : World} {fs xs c : Nat} {S : Vf.Sv} {Q : Nat → Prop} (h : Dx w0 fs xs c c S S Q W) (hg : Gv w0) (hd : Hd) (A : Option Addr) (cap : Nat) (hrow : Row W A hd.l cap) (hA : 0 < hd.l.length → ∀ a, A = some a → a.block < w0.heap.size ∨ Q a.block) (now fr un ix : Int) (l : List (Int × Int)) (Ap : Option Addr) (capp : Nat) (hp : Row W Ap l capp) (hAp : 0 < l.length → ∀ a, Ap = some a → a.block < w0.heap.size ∨ Q a.block) (hc : c + 27 * l.length ≤ 490000) :
 Calls Tryz.prog 13 #[.pointer (some ⟨fs, 0, none⟩), .pointer (some ⟨xs, 0, none⟩), .agg #[.int .i64 hd.ag, .int .i64 hd.xf, .slice A hd.l.length cap], .agg #[.int .i64 2, .int .i64 now, .int .i64 fr, .int .i64 un, .int .i64 ix, .slice Ap l.length capp]] W fun e w' => e = .returned (.bool true) ∧ Hid (Dx w0 fs xs c c S S Q w') := by
 obtain ⟨X, hX⟩ : ∃ X, X = (W.alloc (.cells #[.int .i64 hd.ag, .int .i64 hd.xf, .slice A hd.l.length cap] 24)).alloc (.cells #[.int .i64 2, .int .i64 now, .int .i64 fr, .int .i64 un, .int .i64 ix, .slice Ap l.length capp] 40) := ⟨_, rfl⟩
 obtain ⟨Q2, hD, hAc, hQ⟩ := h.acting 2 now fr un ix hd A cap hrow hA l Ap capp hp hAp X hX
 have HD := Lib.hid hD
 have HAc := Lib.hid hAc
 have HQ := Lib.hid hQ
 obtain ⟨p, hpw⟩ : ∃ p, p = W.heap.size := ⟨_, rfl⟩
 obtain ⟨q, hqw⟩ : ∃ q, q = W.heap.size + 1 := ⟨_, rfl⟩
 rw [← hqw, ← hpw] at HAc
 obtain ⟨y0, y1, y2, y3, y4, y5, y6, y7, y8⟩ := HAc.out.cells
 have HGX : Hid (∀ V : Nat → Prop, (∀ b, b < w0.heap.size ∨ Q2 b → V b) → V 0) := Lib.hid fun V hV => hV 0 (.inl hg.lt)
 have HG : Hid (∀ W', Below w0.heap.size w0 W' → Gv W') := Lib.hid fun W' hb => hg.below hb
 clear hD hAc hQ h hrow hp
 have HP : Hid (Calls Tryz.prog 36 #[.pointer (some ⟨fs, 0, none⟩), .string ⟨#[97]⟩, .int .i64 now, .int .i64 fr, .int .i64 un] X fun e w' => ∃ A c, e = .returned (.tuple #[.agg #[.string ⟨(fnm (fetch S.now [97] now fr un) [97]).toArray⟩, .int .i64 (fst_ (fetch S.now [97] now fr un)), .int .i64 (fsp (fetch S.now [97] now fr un)), .slice A (fvl (fetch S.now [97] now fr un)).length c, .int .i64 0], .int .i64 (fetch S.now [97] now fr un).2]) ∧ Sl w' (.slice A (fvl (fetch S.now [97] now fr un)).length c) (fvl (fetch S.now [97] now fr un)) ∧ (fvl (fetch S.now [97] now fr un)).length ≤ maxLen ∧ Below X.heap.size X w') := Lib.hid (by obtain ⟨V, ro⟩ := HD.out.po; exact (fetch_any7 ro [97] (by decide) now fr un).mono fun e w' h => fetched_u h)
 have HR : Hid (∀ W', Below X.heap.size X W' → Calls Tryz.prog 37 #[.pointer (some ⟨xs, 0, none⟩), .string ⟨#[97]⟩, .int .i64 now, .int .i64 fr, .int .i64 un] W' fun e w' => ∃ A c, e = .returned (.tuple #[.agg #[.string ⟨(fnm (fetch S.now [97] now fr un) [97]).toArray⟩, .int .i64 (fst_ (fetch S.now [97] now fr un)), .int .i64 (fsp (fetch S.now [97] now fr un)), .slice A (fvl (fetch S.now [97] now fr un)).length c, .int .i64 0], .int .i64 (fetch S.now [97] now fr un).2]) ∧ Sl w' (.slice A (fvl (fetch S.now [97] now fr un)).length c) (fvl (fetch S.now [97] now fr un)) ∧ (fvl (fetch S.now [97] now fr un)).length ≤ maxLen ∧ Below W'.heap.size W' w') := Lib.hid fun W' hb => by obtain ⟨V, ro⟩ := HD.out.ro; exact (rfetch_any (ro.below hb) (by omega) [97] now fr un).mono fun e w' h => fetched_u h
 generalize (fetch S.now [97] now fr un).2 = R2 at *
 generalize fnm (fetch S.now [97] now fr un) [97] = nm at *
 generalize fst_ (fetch S.now [97] now fr un) = st at *
 generalize fsp (fetch S.now [97] now fr un) = sp at *
 generalize fvl (fetch S.now [97] now fr un) = lv at *
 go_enter Tryz.func13, Tryz.ntmps13
 go_wp2_with fail
 rw [← hX, ← hqw, ← hpw]
 clear hX hqw hpw
 go_wp2_with (go_at_call 36; go_must (refine (HP.out).mono ?_; rintro e w1 ⟨A1, c1, rfl, hs1, hl1, hb1⟩; obtain ⟨z0, z1, z2, z3, z4, z5, z6, z7, z8⟩ := (HAc.out.below (hb1.alloc hb1.size (.cells #[.string ⟨nm.toArray⟩, .int .i64 st, .int .i64 sp, .slice A1 lv.length c1, .int .i64 0] 88))).cells))
 obtain ⟨Y, hY⟩ : ∃ Y, Y = w1.alloc (.cells #[.string ⟨nm.toArray⟩, .int .i64 st, .int .i64 sp, .slice A1 lv.length c1, .int .i64 0] 88) := ⟨_, rfl⟩
 obtain ⟨s1, hs1e⟩ : ∃ s1, s1 = w1.heap.size := ⟨_, rfl⟩
 have hbY : Below X.heap.size X Y := by rw [hY]; exact hb1.alloc hb1.size _
 have hrY : RowAt Y s1 88 #[.string ⟨nm.toArray⟩, .int .i64 st, .int .i64 sp, .slice A1 lv.length c1, .int .i64 0] := by rw [hY, hs1e]; exact RowAt.new w1 _ _
 have hsY : Sl Y (.slice A1 lv.length c1) lv := by rw [hY]; exact hs1.below ((Below.refl _ _).alloc (Nat.le_refl _) _)
 rw [← hY] at z0 z1 z2 z3 z4 z5 z6 z7 z8
 rw [← hY, ← hs1e]
 clear hY hs1e hs1 hb1 HP
 have HRY := Lib.hid hrY
 have HBY := Lib.hid hbY
 have HSY := Lib.hid hsY
 clear hrY hbY hsY
 go_wp2_with first
  | (go_at_call 37; go_must (refine (HR.out _ HBY.out).mono ?_; rintro e w2 ⟨A2, c2, rfl, hs2, hl2, hb2⟩; have hb3 : Below Y.heap.size Y (w2.alloc (.cells #[.string ⟨nm.toArray⟩, .int .i64 st, .int .i64 sp, .slice A2 lv.length c2, .int .i64 0] 88)) := hb2.alloc hb2.size _; have HB3 := Lib.hid hb3; have hr3 := HRY.out.below hb3 HRY.out.lt; have x0 := hr3.cell 0; have x1 := hr3.cell 1; have x2 := hr3.cell 2; have x3 := hr3.cell 3; have x4 := hr3.cell 4; have HS2 := Lib.hid (hs2.below ((Below.refl _ _).alloc (Nat.le_refl _) (.cells #[.string ⟨nm.toArray⟩, .int .i64 st, .int .i64 sp, .slice A2 lv.length c2, .int .i64 0] 88))); have HS1 := Lib.hid (HSY.out.below hb3); clear hb2 hb3 hr3 hs2))
  | (go_at_call 38; go_must (refine (same_any7 ⟨nm.toArray⟩ st sp lv _ _ _ _ hl2 _ HS1.out HS2.out).mono ?_; rintro e w3 ⟨rfl, hb4⟩))
 go_ret
 exact ⟨rfl, Lib.hid ((((HD.out.below HBY.out).below HB3.out).below hb4).less HQ.out)⟩
end
section
open Go.RowKit Go.Sort
open Fx (Vl)
open Me
open Wp
open Ws
theorem act_three {w0 W : World} {fs xs c : Nat} {S : Vf.Sv} {Q : Nat → Prop} (h : Dx w0 fs xs c c S S Q W) (hg : Gv w0) (hd : Hd) (A : Option Addr) (cap : Nat) (hrow : Row W A hd.l cap) (hA : 0 < hd.l.length → ∀ a, A = some a → a.block < w0.heap.size ∨ Q a.block) (now fr un ix : Int) (l : List (Int × Int)) (Ap : Option Addr) (capp : Nat) (hp : Row W Ap l capp) (hAp : 0 < l.length → ∀ a, Ap = some a → a.block < w0.heap.size ∨ Q a.block) (hc : c + 27 * l.length ≤ 490000) :
 Calls Tryz.prog 13 #[.pointer (some ⟨fs, 0, none⟩), .pointer (some ⟨xs, 0, none⟩), .agg #[.int .i64 hd.ag, .int .i64 hd.xf, .slice A hd.l.length cap], .agg #[.int .i64 3, .int .i64 now, .int .i64 fr, .int .i64 un, .int .i64 ix, .slice Ap l.length capp]] W fun e w' => e = .returned (.bool true) ∧ Hid (Dx w0 fs xs c c S S Q w') := by
 obtain ⟨X, hX⟩ : ∃ X, X = (W.alloc (.cells #[.int .i64 hd.ag, .int .i64 hd.xf, .slice A hd.l.length cap] 24)).alloc (.cells #[.int .i64 3, .int .i64 now, .int .i64 fr, .int .i64 un, .int .i64 ix, .slice Ap l.length capp] 40) := ⟨_, rfl⟩
 obtain ⟨Q2, hD, hAc, hQ⟩ := h.acting 3 now fr un ix hd A cap hrow hA l Ap capp hp hAp X hX
 have HD := Lib.hid hD
 have HAc := Lib.hid hAc
 have HQ := Lib.hid hQ
 obtain ⟨p, hpw⟩ : ∃ p, p = W.heap.size := ⟨_, rfl⟩
 obtain ⟨q, hqw⟩ : ∃ q, q = W.heap.size + 1 := ⟨_, rfl⟩
 rw [← hqw, ← hpw] at HAc
 obtain ⟨y0, y1, y2, y3, y4, y5, y6, y7, y8⟩ := HAc.out.cells
 have HGX : Hid (∀ V : Nat → Prop, (∀ b, b < w0.heap.size ∨ Q2 b → V b) → V 0) := Lib.hid fun V hV => hV 0 (.inl hg.lt)
 have HG : Hid (∀ W', Below w0.heap.size w0 W' → Gv W') := Lib.hid fun W' hb => hg.below hb
 clear hD hAc hQ h hrow hp
 have HP : Hid (Calls Tryz.prog 27 #[.pointer (some ⟨fs, 0, none⟩), .string ⟨#[97]⟩, .int .i64 ix] X (Ringed X (ring S.now [97] ix))) := Lib.hid (by obtain ⟨V, ro⟩ := HD.out.po; exact ring_any7 ro [97] ix)
 have HR : Hid (∀ W', Below X.heap.size X W' → Calls Tryz.prog 39 #[.pointer (some ⟨xs, 0, none⟩), .string ⟨#[97]⟩, .int .i64 ix] W' (Ringed W' (ring S.now [97] ix))) := Lib.hid fun W' hb => by obtain ⟨V, ro⟩ := HD.out.ro; exact rring_any (ro.below hb) (by omega) [97] ix
 generalize ring S.now [97] ix = R at *
 obtain ⟨rl, r2⟩ := R
 go_enter Tryz.func13, Tryz.ntmps13
 go_wp2_with fail
 rw [← hX, ← hqw, ← hpw]
 clear hX hqw hpw
 go_wp2_with first
  | (go_at_call 27; go_must (refine (HP.out).mono ?_; rintro e w1 ⟨v1, rfl, ho1, hb1⟩; obtain ⟨A1, c1, rfl, hr1⟩ := ownp_row ho1; obtain ⟨z0, z1, z2, z3, z4, z5, z6, z7, z8⟩ := (HAc.out.below hb1).cells; have HB1 := Lib.hid hb1; have HR1 := Lib.hid hr1; have HL1 := Lib.hid (ownp_len ho1); clear hb1 hr1 ho1))
  | (go_at_call 39; go_must (refine (HR.out _ HB1.out).mono ?_; rintro e w2 ⟨v2, rfl, ho2, hb2⟩; obtain ⟨A2, c2, rfl, hr2⟩ := ownp_row ho2; have HB2 := Lib.hid hb2; have HR2 := Lib.hid hr2; have HR1' := Lib.hid (HR1.out.below hb2); clear hb2 hr2 ho2))
 have hnl : (rl.length : Int) ≤ 9223372036854775807 := by have := HL1.out; unfold maxLen at this; omega
 go_loopw [21] (fun u wr => ∃ k : Nat, k ≤ rl.length ∧ u = .int .i64 k ∧ Hid (Below w2.heap.size w2 wr)) (fun u _ => rl.length - (intOf u).toNat)
 case atStart => exact ⟨0, Nat.zero_le _, rfl, Lib.hid (Below.refl _ _)⟩
 case round =>
  obtain ⟨k, hk, rfl, HB⟩ := hrel
  by_cases hlt : k < rl.length
  ·obtain ⟨b, off, rfl, hv⟩ := HR1'.out.2 (by omega)
   obtain ⟨b', off', rfl, hv'⟩ := HR2.out.2 (by omega)
   have g0 := (hv.below HB.out).st k hlt
   have g1 := (hv.below HB.out).ct k hlt
   have g0' := (hv'.below HB.out).st k hlt
   have g1' := (hv'.below HB.out).ct k hlt
   have hkl : (k : Int) < (rl.length : Int) := by omega
   have hk0 : (0 : Int) ≤ (k : Int) := by omega
   clear hv hv'
   generalize (Wh.At rl k).1 = ea at *
   generalize (Wh.At rl k).2 = eb at *
   have HB' : Hid (Below w2.heap.size w2 wr.drew) := Lib.hid HB.out.drew
   go_wp2_with fail
   go_region
   all_goals
    go_wp2_with fail
    go_roundw
    case rel => exact ⟨k + 1, by omega, by go_num, HB'⟩
    case measure => simp [intOf]; omega
  ·obtain rfl : k = rl.length := by omega
   go_wp2_with fail
   go_ret
   exact ⟨rfl, Lib.hid ((((HD.out.below HB1.out).below HB2.out).below HB.out).less HQ.out)⟩
end
section
open Go.RowKit Go.Sort
open Fx (Vl)
open Me
open Wp
open Ws
theorem act_four {w0 W : World} {fs xs c : Nat} {S : Vf.Sv} {Q : Nat → Prop} (h : Dx w0 fs xs c c S S Q W) (hg : Gv w0) (hd : Hd) (A : Option Addr) (cap : Nat) (hrow : Row W A hd.l cap) (hA : 0 < hd.l.length → ∀ a, A = some a → a.block < w0.heap.size ∨ Q a.block) (now fr un ix : Int) (l : List (Int × Int)) (Ap : Option Addr) (capp : Nat) (hp : Row W Ap l capp) (hAp : 0 < l.length → ∀ a, Ap = some a → a.block < w0.heap.size ∨ Q a.block) (hc : c + 27 * l.length ≤ 490000) :
 Calls Tryz.prog 13 #[.pointer (some ⟨fs, 0, none⟩), .pointer (some ⟨xs, 0, none⟩), .agg #[.int .i64 hd.ag, .int .i64 hd.xf, .slice A hd.l.length cap], .agg #[.int .i64 4, .int .i64 now, .int .i64 fr, .int .i64 un, .int .i64 ix, .slice Ap l.length capp]] W fun e w' => e = .returned (.bool true) ∧ Hid (Dx w0 fs xs (c + 1) (c + 1) (create S [97] hd).1 (create S [97] hd).1 Q w') := by
 obtain ⟨X, hX⟩ : ∃ X, X = (W.alloc (.cells #[.int .i64 hd.ag, .int .i64 hd.xf, .slice A hd.l.length cap] 24)).alloc (.cells #[.int .i64 4, .int .i64 now, .int .i64 fr, .int .i64 un, .int .i64 ix, .slice Ap l.length capp] 40) := ⟨_, rfl⟩
 obtain ⟨Q2, hD, hAc, hQ⟩ := h.acting 4 now fr un ix hd A cap hrow hA l Ap capp hp hAp X hX
 have HD := Lib.hid hD
 have HAc := Lib.hid hAc
 have HQ := Lib.hid hQ
 obtain ⟨p, hpw⟩ : ∃ p, p = W.heap.size := ⟨_, rfl⟩
 obtain ⟨q, hqw⟩ : ∃ q, q = W.heap.size + 1 := ⟨_, rfl⟩
 rw [← hqw, ← hpw] at HAc
 obtain ⟨y0, y1, y2, y3, y4, y5, y6, y7, y8⟩ := HAc.out.cells
 have HGX : Hid (∀ V : Nat → Prop, (∀ b, b < w0.heap.size ∨ Q2 b → V b) → V 0) := Lib.hid fun V hV => hV 0 (.inl hg.lt)
 have HG : Hid (∀ W', Below w0.heap.size w0 W' → Gv W') := Lib.hid fun W' hb => hg.below hb
 clear hD hAc hQ h hrow hp
 have HP : Hid (∀ W', Dx w0 fs xs c c S S Q2 W' → Acting w0 Q2 W' p q 4 now fr un ix hd A cap l Ap capp → Calls Tryz.prog 11 #[.pointer (some ⟨fs, 0, none⟩), .string ⟨#[97]⟩, .agg #[.int .i64 hd.ag, .int .i64 hd.xf, .slice A hd.l.length cap]] W' fun e w' => e = .returned (.int .i64 (create S [97] hd).2) ∧ Hid (Dx w0 fs xs (c + 1) c (create S [97] hd).1 S Q2 w') ∧ Hid (Kp (fun b => ¬ (b < w0.heap.size ∨ Q2 b)) W' w')) := Lib.hid fun W' hd2 ha =>
  hd2.prog (c1' := c + 1) (S1' := (create S [97] hd).1) (P := fun e => e = .returned (.int .i64 (create S [97] hd).2)) (fun V ro hV => create_yes_any ro (by omega) [97] hd A cap ha.row)
 have HX2 : Hid (∀ W', Dx w0 fs xs (c + 1) c (create S [97] hd).1 S Q2 W' → Acting w0 Q2 W' p q 4 now fr un ix hd A cap l Ap capp → Calls Tryz.prog 12 #[.pointer (some ⟨xs, 0, none⟩), .string ⟨#[97]⟩, .agg #[.int .i64 hd.ag, .int .i64 hd.xf, .slice A hd.l.length cap]] W' fun e w' => e = .returned (.int .i64 (create S [97] hd).2) ∧ Hid (Dx w0 fs xs (c + 1) (c + 1) (create S [97] hd).1 (create S [97] hd).1 Q2 w') ∧ Hid (Kp (fun b => ¬ (b < w0.heap.size ∨ Q2 b)) W' w')) := Lib.hid fun W' hd2 ha =>
  hd2.doc (c2' := c + 1) (S2' := (create S [97] hd).1) (P := fun e => e = .returned (.int .i64 (create S [97] hd).2)) (fun V ro hV => rcreate_any ro (by omega) [97] hd A cap ha.row)
 have HDd : Hid (Dx w0 fs xs c c S S Q2 X.drew) := Lib.hid (HD.out.below (Below.refl _ _).drew)
 have HAd : Hid (Acting w0 Q2 X.drew p q 4 now fr un ix hd A cap l Ap capp) := Lib.hid (HAc.out.below (Below.refl _ _).drew)
 generalize (create S [97] hd).2 = n2 at *
 generalize (create S [97] hd).1 = S' at *
 have b6 := y6
 have b7 := y7
 have b8 := y8
 go_enter Tryz.func13, Tryz.ntmps13
 go_wp2_with fail
 rw [← hX, ← hqw, ← hpw]
 clear hX hqw hpw
 go_region_held3 (fun w' => w'.cell? ⟨p, 0, none⟩ = some (.int .i64 hd.ag) ∧ w'.cell? ⟨p, 1, none⟩ = some (.int .i64 hd.xf) ∧ w'.cell? ⟨p, 2, none⟩ = some (.slice A hd.l.length cap)) (first | exact ⟨b6, b7, b8⟩ | exact ⟨f6, f7, f8⟩ | exact ⟨d6, d7, d8⟩ | go_keep) (first
  | (go_at_call 11; (with_reducible refine (HP.out _ HDd.out HAd.out).mono ?_); rintro e w1 ⟨rfl, hd1, hk1⟩; have HA1 := Lib.hid (HAd.out.kp hk1.out); obtain ⟨d0, d1, d2, d3, d4, d5, d6, d7, d8⟩ := HA1.out.cells; have HD1 := Lib.hid hd1.out; clear hd1 hk1)
  | (go_at_call 12; (with_reducible refine (HX2.out w1 HD1.out HA1.out).mono ?_); rintro e w2 ⟨rfl, hd2, hk2⟩; obtain ⟨f0, f1, f2, f3, f4, f5, f6, f7, f8⟩ := (HA1.out.kp hk2.out).cells; have HD2 := Lib.hid hd2.out; clear hd2 hk2))
 all_goals
  go_wp2_with fail
  go_ret
  exact ⟨rfl, Lib.hid (HD2.out.less HQ.out)⟩
theorem act_else {w0 W : World} {fs xs c : Nat} {S : Vf.Sv} {Q : Nat → Prop} (h : Dx w0 fs xs c c S S Q W) (hg : Gv w0) (hd : Hd) (A : Option Addr) (cap : Nat) (hrow : Row W A hd.l cap) (hA : 0 < hd.l.length → ∀ a, A = some a → a.block < w0.heap.size ∨ Q a.block) (k now fr un ix : Int) (l : List (Int × Int)) (Ap : Option Addr) (capp : Nat) (hp : Row W Ap l capp) (hAp : 0 < l.length → ∀ a, Ap = some a → a.block < w0.heap.size ∨ Q a.block) (_hc : c + 27 * l.length ≤ 490000) (h1 : k ≠ 1) (h2 : k ≠ 2) (h3 : k ≠ 3) (h4 : k ≠ 4) :
 Calls Tryz.prog 13 #[.pointer (some ⟨fs, 0, none⟩), .pointer (some ⟨xs, 0, none⟩), .agg #[.int .i64 hd.ag, .int .i64 hd.xf, .slice A hd.l.length cap], .agg #[.int .i64 k, .int .i64 now, .int .i64 fr, .int .i64 un, .int .i64 ix, .slice Ap l.length capp]] W fun e w' => e = .returned (.bool true) ∧ Hid (Dx w0 fs xs c c S S Q w') := by
 obtain ⟨X, hX⟩ : ∃ X, X = (W.alloc (.cells #[.int .i64 hd.ag, .int .i64 hd.xf, .slice A hd.l.length cap] 24)).alloc (.cells #[.int .i64 k, .int .i64 now, .int .i64 fr, .int .i64 un, .int .i64 ix, .slice Ap l.length capp] 40) := ⟨_, rfl⟩
 obtain ⟨Q2, hD, hAc, hQ⟩ := h.acting k now fr un ix hd A cap hrow hA l Ap capp hp hAp X hX
 have HD := Lib.hid hD
 have HAc := Lib.hid hAc
 have HQ := Lib.hid hQ
 obtain ⟨p, hpw⟩ : ∃ p, p = W.heap.size := ⟨_, rfl⟩
 obtain ⟨q, hqw⟩ : ∃ q, q = W.heap.size + 1 := ⟨_, rfl⟩
 rw [← hqw, ← hpw] at HAc
 obtain ⟨y0, y1, y2, y3, y4, y5, y6, y7, y8⟩ := HAc.out.cells
 have HGX : Hid (∀ V : Nat → Prop, (∀ b, b < w0.heap.size ∨ Q2 b → V b) → V 0) := Lib.hid fun V hV => hV 0 (.inl hg.lt)
 have HG : Hid (∀ W', Below w0.heap.size w0 W' → Gv W') := Lib.hid fun W' hb => hg.below hb
 clear hD hAc hQ h hrow hp
 go_enter Tryz.func13, Tryz.ntmps13
 go_wp2_with fail
 rw [← hX, ← hqw, ← hpw]
 clear hX hqw hpw
 go_ret
 exact ⟨rfl, Lib.hid (HD.out.less HQ.out)⟩
end
end Go.Proofs.YtbakngbmfgnmcaaGreatDoor
