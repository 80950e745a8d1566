/- AgRef AgLaw WpPa -/
import Derived.Test.YtljlanhpjpjgaaaGreatDoorJ1
import Derived.Test.YtljlanhpjpjgaaaGreatDoorJ15
import Derived.Test.YtljlanhpjpjgaaaGreatDoorJ18
import Derived.Test.YtljlanhpjpjgaaaGreatDoorJ20
namespace Go.Proofs.YtljlanhpjpjgaaaGreatDoor
set_option maxRecDepth 100000
set_option maxHeartbeats 8000000
section
open Go.RowKit Go.Sort
open Fx (Vl)
open Me
def Ag.run (kind : Int) (m : List Vl) (k : Nat) : Vl := if kind = 4 then Ag.mx (m.take k) else if kind = 5 then Ag.mn (m.take k) else m.getD 0 Fx.none
theorem Ag.run_one (kind : Int) (m : List Vl) (h : 0 < m.length) : Ag.run kind m 1 = m[0] := by
 unfold Ag.run
 split
 ·exact Ag.mx_one m h
 ·split
  ·exact Ag.mn_one m h
  ·rw [List.getD_eq_getElem?_getD, List.getElem?_eq_getElem h]; rfl
def Ag.best (kind : Int) (a b : Vl) : Vl := if kind = 4 then Ag.mx1 a b else if kind = 5 then Ag.mn1 a b else a
theorem Ag.run_step (kind : Int) (m : List Vl) (k : Nat) (h1 : 1 ≤ k) (h : k < m.length) : Ag.run kind m (k + 1) = Ag.best kind (Ag.run kind m k) m[k] := by
 unfold Ag.run Ag.best
 split
 ·exact Ag.mx_take m k h1 h
 ·split
  ·exact Ag.mn_take m k h1 h
  ·rfl
theorem Ag.best_4 {a b : Vl} (h : a.n < b.n) : Ag.best 4 a b = b := Ag.mx1_yes h
theorem Ag.best_4n {a b : Vl} (h : ¬ a.n < b.n) : Ag.best 4 a b = a := Ag.mx1_no h
theorem Ag.best_5 {a b : Vl} (h : b.n < a.n) : Ag.best 5 a b = b := Ag.mn1_yes h
theorem Ag.best_5n {a b : Vl} (h : ¬ b.n < a.n) : Ag.best 5 a b = a := Ag.mn1_no h
theorem Ag.best_no {kind : Int} {a b : Vl} (h4 : kind ≠ 4) (h5 : kind ≠ 5) : Ag.best kind a b = a := by unfold Ag.best; rw [if_neg h4, if_neg h5]
theorem Ag.run_4 (m : List Vl) : Ag.run 4 m m.length = Ag.mx m := by unfold Ag.run; rw [if_pos rfl, List.take_length]
theorem Ag.run_5 (m : List Vl) : Ag.run 5 m m.length = Ag.mn m := by unfold Ag.run; rw [if_neg (by decide), if_pos rfl, List.take_length]
theorem OwnV.vals {base : Nat} {w : World} {v : Value} {l : List Vl} (h : OwnV base w v l) (h0 : 0 < l.length) : ∃ b off cap, v = .slice (some ⟨b, off, none⟩) l.length cap ∧ Vals w b off l := by
 rcases h.sl with ⟨e, _⟩ | ⟨_, h⟩
 ·rw [e] at h0; exact absurd h0 (Nat.lt_irrefl _)
 ·exact h
theorem BestRel.start2 {w w' : World} {T : TypeId} (ok : Bool) (n : Int) (hb : Below (w.alloc (.cells #[.bool false, .int .i64 0] T)).heap.size (w.alloc (.cells #[.bool false, .int .i64 0] T)) w') :
 BestRel w (w'.alloc (.cells #[.bool ok, .int .i64 n] T)) w.heap.size w'.heap.size ⟨ok, n⟩ := by
 have hz := hb.size
 have hsz : (w.alloc (.cells #[.bool false, .int .i64 0] T)).heap.size = w.heap.size + 1 := by simp
 rw [hsz] at hz
 have hc : ∀ f, w'.cell? ⟨w.heap.size, f, none⟩ = (w.alloc (.cells #[.bool false, .int .i64 0] T)).cell? ⟨w.heap.size, f, none⟩ := fun f => hb.cell (p := ⟨w.heap.size, f, none⟩) (by rw [hsz]; show w.heap.size < _; omega)
 have hf : ∀ f, w'.frozen? ⟨w.heap.size, f, none⟩ = (w.alloc (.cells #[.bool false, .int .i64 0] T)).frozen? ⟨w.heap.size, f, none⟩ := fun f => hb.frozen (p := ⟨w.heap.size, f, none⟩) (by rw [hsz]; show w.heap.size < _; omega)
 have hlt : w.heap.size < w'.heap.size := by omega
 refine ⟨?_, Nat.le_refl _, by omega, by simp, ?_, ?_, ?_, ?_, ?_, ?_, ?_, ?_⟩
 ·exact (((Below.refl w.heap.size w).alloc (Nat.le_refl _) _).trans (hb.mono (by omega))).alloc (by omega) _
 all_goals simp [go_sem, *]
theorem BestRel.drewN {w wr : World} {r s : Nat} {v : Vl} (h : BestRel w wr r s v) (n : Nat) : BestRel w (wr.drewN n) r s v := h.step (below_drewN _ _ _)
theorem refOf_v (kind : Int) (l : List Vl) (hl : l.length ≤ 1000000) (v : Value) (w : World) (hv : Sl w v l) :
 Calls Tryz.prog 114 #[.int .i64 kind, v] w fun e w' => e = .returned (.agg #[.bool (Ag.tg kind (Ag.kn l)).ok, .int .i64 (Ag.tg kind (Ag.kn l)).n]) ∧ Below w.heap.size w w' := by
 have HK : Hid (∀ W, Below w.heap.size w W → Calls Tryz.prog 113 #[v] W (Knew W (Ag.kn l))) := Lib.hid fun W hb => refKnown_v l hl v W (hv.below hb)
 have hkl : (Ag.kn l).length ≤ 1000000 := Nat.le_trans (Ag.kn_len l) hl
 obtain ⟨A, c, rfl⟩ := hv.form
 clear hv
 generalize Ag.kn l = m at *
 by_cases hz : m.length = 0
 ·rw [show Ag.tg kind m = Fx.none from if_pos hz]
  have hzi : (m.length : Int) = 0 := by omega
  go_enter Tryz.func114, Tryz.ntmps114
  go_wp2_with (go_at_call 113; go_must (refine (HK.out _ Bq).mono ?_; rintro e w1 ⟨v1, rfl, ho1, hb1⟩; obtain ⟨hc1, hf1⟩ := bcell hb1; have hq1w : w.heap.size < w1.heap.size := Nat.lt_of_lt_of_le (by simp) hb1.size; obtain ⟨A1, c1, rfl⟩ := ho1.slice; clear ho1))
  exact bodyPost_ret (v := .agg #[.bool false, .int .i64 0]) (by simp [results, Tryz.results114, go_sem, *]) rfl ⟨rfl, Bq⟩
 have hz0 : 0 < m.length := by omega
 have hzi : ¬ ((m.length : Int) = 0) := by omega
 by_cases hlo : kind < 1
 ·rw [Ag.tg_no (by omega) (by omega) (by omega) (by omega) (by omega)]
  go_enter Tryz.func114, Tryz.ntmps114
  go_wp2_with (go_at_call 113; go_must (refine (HK.out _ Bq).mono ?_; rintro e w1 ⟨v1, rfl, ho1, hb1⟩; obtain ⟨hc1, hf1⟩ := bcell hb1; have hq1w : w.heap.size < w1.heap.size := Nat.lt_of_lt_of_le (by simp) hb1.size; obtain ⟨A1, c1, rfl⟩ := ho1.slice; clear ho1))
  exact bodyPost_ret (v := .agg #[.bool false, .int .i64 0]) (by simp [results, Tryz.results114, go_sem, *]) rfl ⟨rfl, Bq⟩
 by_cases hhi : 5 < kind
 ·rw [Ag.tg_no (by omega) (by omega) (by omega) (by omega) (by omega)]
  go_enter Tryz.func114, Tryz.ntmps114
  go_wp2_with (go_at_call 113; go_must (refine (HK.out _ Bq).mono ?_; rintro e w1 ⟨v1, rfl, ho1, hb1⟩; obtain ⟨hc1, hf1⟩ := bcell hb1; have hq1w : w.heap.size < w1.heap.size := Nat.lt_of_lt_of_le (by simp) hb1.size; obtain ⟨A1, c1, rfl⟩ := ho1.slice; clear ho1))
  exact bodyPost_ret (v := .agg #[.bool false, .int .i64 0]) (by simp [results, Tryz.results114, go_sem, *]) rfl ⟨rfl, Bq⟩
 generalize hQ : Ag.tg kind m = q
 have HQ := Lib.hid hQ
 clear hQ
 have hzb : ((m.length : Int) == 0) = false := by simpa using hz
 have hlo2 : 1 ≤ kind := by omega
 have hhi2 : kind ≤ 5 := by omega
 have hcond : ¬ (((((m.length : Int) == 0) = true ∨ kind < 1)) ∨ 5 < kind) := by
  rintro ((h | h) | h)
  ·rw [hzb] at h; cases h
  ·omega
  ·omega
 have HRO := Lib.hid (Ag.run_one kind m hz0)
 have HRS := Lib.hid (Ag.run_step kind m)
 go_enter Tryz.func114, Tryz.ntmps114
 go_wp2_with (go_at_call 113; go_must (refine (HK.out _ Bq).mono ?_; rintro e w1 ⟨v1, rfl, ho1, hb1⟩; obtain ⟨hc1, hf1⟩ := bcell hb1; have hq1w : w.heap.size < w1.heap.size := Nat.lt_of_lt_of_le (by simp) hb1.size; obtain ⟨b, off, cap, rfl, hv1⟩ := ho1.vals hz0; have x0 := hv1.ok 0 hz0; have x1 := hv1.n 0 hz0; rw [Nat.zero_mul, Nat.add_zero] at x0 x1; have hbr0 := hv1.lt; have HV1 := Lib.hid hv1; have HB1 := Lib.hid hb1; clear ho1 hv1; generalize m[0] = e0 at *; obtain ⟨fo, fn⟩ := e0))
 have HBR := Lib.hid (BestRel.start2 (T := 110) fo fn HB1.out)
 clear hc1 hf1 x0 x1
 go_loopw [7] (fun i wr => ∃ k : Nat, 1 ≤ k ∧ k ≤ m.length ∧ i = .int .i64 k ∧ BestRel w wr w.heap.size w1.heap.size (Ag.run kind m k) ∧ Below w1.heap.size w1 wr) (fun i _ => m.length - (intOf i).toNat)
 case atStart => exact ⟨1, Nat.le_refl _, hz0, rfl, by rw [HRO.out]; exact HBR.out, (Below.refl _ _).alloc (Nat.le_refl _) _⟩
 case round =>
  obtain ⟨k, hk1, hk, rfl, hR, hbb1⟩ := hrel
  have hvr := HV1.out.below hbb1
  have HBB := Lib.hid hbb1
  clear hbb1
  have hsz := hR.sz
  have rc0 := hR.rc0
  have rc1 := hR.rc1
  have rf0 := hR.rf0
  have rf1 := hR.rf1
  have sc0 := hR.sc0
  have sc1 := hR.sc1
  have sf0 := hR.sf0
  have sf1 := hR.sf1
  by_cases hlt : k < m.length
  ·have ec0 := hvr.ok k hlt
   have ec1 := hvr.n k hlt
   have hbr := hvr.lt
   have hst := Lib.hid (HRS.out k hk1 hlt)
   have HR := Lib.hid hR
   clear hR hvr
   generalize m[k] = ek at *
   generalize Ag.run kind m k = sk at *
   obtain ⟨eo, en⟩ := ek
   obtain ⟨so, sn⟩ := sk
   have hkl : (k : Int) < (m.length : Int) := by omega
   have hk0 : (0 : Int) ≤ (k : Int) := by omega
   have stay : Hid (∀ n, Ag.best kind ⟨so, sn⟩ ⟨eo, en⟩ = ⟨so, sn⟩ → ∃ k' : Nat, 1 ≤ k' ∧ k' ≤ m.length ∧ (Value.int .i64 ((k : Int) + 1)) = .int .i64 k' ∧ BestRel w (wr.drewN n) w.heap.size w1.heap.size (Ag.run kind m k') ∧ Below w1.heap.size w1 (wr.drewN n)) :=
    Lib.hid fun n e => ⟨k + 1, by omega, by omega, by go_num, by rw [hst.out, e]; exact HR.out.drewN n, HBB.out.trans (below_drewN _ _ _)⟩
   have turn : Hid (∀ n, Ag.best kind ⟨so, sn⟩ ⟨eo, en⟩ = ⟨eo, en⟩ → ∃ k' : Nat, 1 ≤ k' ∧ k' ≤ m.length ∧ (Value.int .i64 ((k : Int) + 1)) = .int .i64 k' ∧ BestRel w (((wr.drewN n).setCell ⟨w1.heap.size, 0, none⟩ (.bool eo)).setCell ⟨w1.heap.size, 1, none⟩ (.int .i64 en)) w.heap.size w1.heap.size (Ag.run kind m k') ∧ Below w1.heap.size w1 (((wr.drewN n).setCell ⟨w1.heap.size, 0, none⟩ (.bool eo)).setCell ⟨w1.heap.size, 1, none⟩ (.int .i64 en))) :=
    Lib.hid fun n e => ⟨k + 1, by omega, by omega, by go_num, by rw [hst.out, e]; exact (HR.out.drewN n).set_ _ _, Below.setCell (Below.setCell (HBB.out.trans (below_drewN _ _ _)) (Nat.le_refl _) _) (Nat.le_refl _) _⟩
   by_cases h4 : kind = 4
   ·have d4 : (kind == 4) = true := by simpa using h4
    have d5 : (kind == 5) = false := by rw [h4]; rfl
    have H4 := Lib.hid h4
    clear h4
    by_cases hc : sn < en
    ·have hd : decide (sn < en) = true := by simpa using hc
     go_wp2_with fail
     go_quiet (fail)
     go_wp2_with fail
     go_roundw
     case rel => exact turn.out _ (by rw [H4.out]; exact Ag.best_4 hc)
     case measure => simp [intOf]; omega
    ·have hd : decide (sn < en) = false := by simpa using hc
     go_wp2_with fail
     go_quiet (fail)
     go_wp2_with fail
     go_roundw
     case rel => exact stay.out _ (by rw [H4.out]; exact Ag.best_4n (Int.not_lt.2 hc))
     case measure => simp [intOf]; omega
   by_cases h5 : kind = 5
   ·have d4 : (kind == 4) = false := by simpa using h4
    have d5 : (kind == 5) = true := by simpa using h5
    have H5 := Lib.hid h5
    clear h5 h4
    by_cases hc : en < sn
    ·have hd : decide (en < sn) = true := by simpa using hc
     go_wp2_with fail
     go_quiet (fail)
     go_wp2_with fail
     go_roundw
     case rel => exact turn.out _ (by rw [H5.out]; exact Ag.best_5 hc)
     case measure => simp [intOf]; omega
    ·have hd : decide (en < sn) = false := by simpa using hc
     go_wp2_with fail
     go_quiet (fail)
     go_wp2_with fail
     go_roundw
     case rel => exact stay.out _ (by rw [H5.out]; exact Ag.best_5n (Int.not_lt.2 hc))
     case measure => simp [intOf]; omega
   have d4 : (kind == 4) = false := by simpa using h4
   have d5 : (kind == 5) = false := by simpa using h5
   go_wp2_with fail
   go_quiet (fail)
   go_wp2_with fail
   go_roundw
   case rel => exact stay.out _ (Ag.best_no h4 h5)
   case measure => simp [intOf]; omega
  ·obtain rfl : k = m.length := by omega
   have HBL := Lib.hid hR.below
   have hr0 := hR.r0
   have hrs := hR.rs
   have hqw : w.heap.size < wr.heap.size := Nat.lt_trans hrs hsz
   have HVR := Lib.hid hvr
   have HA : Hid (∀ W, Below wr.heap.size wr W → Calls Tryz.prog 131 #[.slice (some ⟨b, off, none⟩) m.length cap] W fun e w' => e = .returned (.agg #[.bool (sum m).ok, .int .i64 (sum m).n]) ∧ Below W.heap.size W w') := Lib.hid fun W hb => refAdd_some m (by omega) b off cap W (hvr.below hb)
   have hlast0 := hvr.ok (m.length - 1) (by omega)
   have hlast1 := hvr.n (m.length - 1) (by omega)
   have hbr := hvr.lt
   clear hR hvr HRS HRO HBR
   by_cases h1 : kind = 1
   ·subst h1
    have HI : Hid (∀ W, Calls Tryz.prog 133 #[.int .i64 (m.length : Int)] W fun e w' => e = .returned (.agg #[.bool (Fx.of ((m.length : Int) * 1000000)).ok, .int .i64 (Fx.of ((m.length : Int) * 1000000)).n]) ∧ Below W.heap.size W w') := Lib.hid fun W => refInt_any _ W
    have HD : Hid (∀ s d W, Calls Tryz.prog 132 #[(.agg #[.bool s.ok, .int .i64 s.n]), (.agg #[.bool d.ok, .int .i64 d.n])] W fun e w' => e = .returned (.agg #[.bool (Fx.div s d).ok, .int .i64 (Fx.div s d).n]) ∧ Below W.heap.size W w') := Lib.hid fun s d W => refDiv_any s.ok s.n d.ok d.n W
    replace HD := Lib.hid (HD.out (sum m) (Fx.of ((m.length : Int) * 1000000)))
    have hq := HQ.out.symm.trans (Ag.tg_1 hz0)
    clear hlast0 hlast1 sc0 sc1
    generalize Fx.div (sum m) (Fx.of ((m.length : Int) * 1000000)) = q' at *
    generalize Fx.of ((m.length : Int) * 1000000) = d at *
    generalize sum m = s at *
    obtain ⟨qo, qn⟩ := q'
    subst hq
    obtain ⟨do_, dn⟩ := d
    obtain ⟨so, sn⟩ := s
    go_wp2_with first | (go_at_call 131; (((with_reducible refine (HA.out _ (Below.refl _ _)).mono ?_)); rintro e w5 ⟨rfl, hb5⟩; obtain ⟨hc5, hf5⟩ := bcell hb5; (try have hq5w : w.heap.size < w5.heap.size := Bz hb5); (try have hq5wr : wr.heap.size < w5.heap.size := Bz hb5); have hs5 := hb5.size; (try simp at hs5))) | (go_at_call 133; (((with_reducible refine (HI.out _).mono ?_)); rintro e w6 ⟨rfl, hb6⟩; obtain ⟨hc6, hf6⟩ := bcell hb6; (try have hq6w : w.heap.size < w6.heap.size := Bz hb6); (try have hq6w5 : w5.heap.size < w6.heap.size := Bz hb6); have hs6 := hb6.size; (try simp at hs6))) | (go_at_call 132; (((with_reducible refine (HD.out _).mono ?_)); rintro e w7 ⟨rfl, hb7⟩; obtain ⟨hc7, hf7⟩ := bcell hb7; (try have hq7w : w.heap.size < w7.heap.size := Bz hb7); (try have hq7w6 : w6.heap.size < w7.heap.size := Bz hb7); have hs7 := hb7.size; (try simp at hs7)))
    have HBX : Hid (Below wr.heap.size wr w7) := Lib.hid Bq
    exact bodyPost_ret (v := .agg #[.bool qo, .int .i64 qn]) (by simp [results, Tryz.results114, go_sem, *]) rfl ⟨rfl, Below.setCell (Below.setCell (HBL.out.trans (HBX.out.mono (Nat.le_of_lt hqw))) (Nat.le_refl _) _) (Nat.le_refl _) _⟩
   by_cases h2 : kind = 2
   ·subst h2
    have hq := HQ.out.symm.trans (Ag.tg_2 hz0)
    clear hlast0 hlast1 sc0 sc1
    generalize sum m = s at *
    obtain ⟨so, sn⟩ := s
    subst hq
    go_wp2_with (go_at_call 131; (((with_reducible refine (HA.out _ (Below.refl _ _)).mono ?_)); rintro e w5 ⟨rfl, hb5⟩; obtain ⟨hc5, hf5⟩ := bcell hb5; (try have hq5w : w.heap.size < w5.heap.size := Bz hb5); (try have hq5wr : wr.heap.size < w5.heap.size := Bz hb5); have hs5 := hb5.size; (try simp at hs5)))
    have HBX : Hid (Below wr.heap.size wr w5) := Lib.hid Bq
    exact bodyPost_ret (v := .agg #[.bool so, .int .i64 sn]) (by simp [results, Tryz.results114, go_sem, *]) rfl ⟨rfl, Below.setCell (Below.setCell (HBL.out.trans (HBX.out.mono (Nat.le_of_lt hqw))) (Nat.le_refl _) _) (Nat.le_refl _) _⟩
   clear HA
   by_cases h3 : kind = 3
   ·subst h3
    have hq := HQ.out.symm.trans (Ag.tg_3 hz0)
    generalize m[m.length - 1]'(by omega) = e at *
    obtain ⟨eo, en⟩ := e
    subst hq
    clear HV1 HVR HK HQ
    generalize m.length = n at *
    obtain ⟨p, rfl⟩ : ∃ p, n = p + 1 := ⟨n - 1, by omega⟩
    simp only [Nat.add_sub_cancel] at hlast0 hlast1
    go_wp2_with fail
    exact bodyPost_ret (v := .agg #[.bool eo, .int .i64 en]) (by simp [results, Tryz.results114, go_sem, *]) rfl ⟨rfl, Below.setCell (Below.setCell HBL.out (Nat.le_refl _) _) (Nat.le_refl _) _⟩
   by_cases h4 : kind = 4
   ·subst h4
    have hq := HQ.out.symm.trans ((Ag.tg_4 hz0).trans (Ag.run_4 m).symm)
    clear hlast0 hlast1
    generalize Ag.run 4 m m.length = s at *
    obtain ⟨so, sn⟩ := s
    subst hq
    go_wp2_with fail
    exact bodyPost_ret (v := .agg #[.bool so, .int .i64 sn]) (by simp [results, Tryz.results114, go_sem, *]) rfl ⟨rfl, Below.setCell (Below.setCell HBL.out (Nat.le_refl _) _) (Nat.le_refl _) _⟩
   obtain rfl : kind = 5 := by omega
   have hq := HQ.out.symm.trans ((Ag.tg_5 hz0).trans (Ag.run_5 m).symm)
   clear hlast0 hlast1
   generalize Ag.run 5 m m.length = s at *
   obtain ⟨so, sn⟩ := s
   subst hq
   go_wp2_with fail
   exact bodyPost_ret (v := .agg #[.bool so, .int .i64 sn]) (by simp [results, Tryz.results114, go_sem, *]) rfl ⟨rfl, Below.setCell (Below.setCell HBL.out (Nat.le_refl _) _) (Nat.le_refl _) _⟩
end
section
open Go.RowKit Go.Sort
open Fx (Vl)
open Me
theorem refPut_v (kind xff : Int) (l : List Vl) (hl : l.length ≤ 1000000) (v : Value) (w : World) (hv : Sl w v l) :
 Calls Tryz.prog 93 #[.int .i64 kind, .int .i64 xff, v] w fun e w' => e = .returned (.agg #[.bool (Ag.put kind xff l).ok, .int .i64 (Ag.put kind xff l).n]) ∧ Below w.heap.size w w' := by
 have HK : Hid (∀ W, Below w.heap.size w W → Calls Tryz.prog 113 #[v] W (Knew W (Ag.kn l))) := Lib.hid fun W hb => refKnown_v l hl v W (hv.below hb)
 have HT : Hid (∀ W, Below w.heap.size w W → Calls Tryz.prog 114 #[.int .i64 kind, v] W fun e w' => e = .returned (.agg #[.bool (Ag.tg kind (Ag.kn l)).ok, .int .i64 (Ag.tg kind (Ag.kn l)).n]) ∧ Below W.heap.size W w') := Lib.hid fun W hb => refOf_v kind l hl v W (hv.below hb)
 have HE : Hid (∀ W, Calls Tryz.prog 112 #[.int .i64 xff, .int .i64 ((Ag.kn l).length : Int), .int .i64 (l.length : Int)] W fun e w' => e = .returned (.bool (Ag.en xff ((Ag.kn l).length : Int) (l.length : Int))) ∧ W = w') := Lib.hid fun W => refEnough_any _ _ _ W
 have HQ : Hid (Ag.put kind xff l = if Ag.en xff ((Ag.kn l).length : Int) (l.length : Int) = true then Ag.tg kind (Ag.kn l) else Fx.none) := Lib.hid rfl
 obtain ⟨A, c, rfl⟩ := hv.form
 clear hv
 generalize Ag.en xff ((Ag.kn l).length : Int) (l.length : Int) = en at *
 generalize Ag.put kind xff l = p at *
 generalize Ag.tg kind (Ag.kn l) = q at *
 generalize Ag.kn l = m at *
 obtain ⟨qo, qn⟩ := q
 cases en
 ·obtain rfl : p = Fx.none := HQ.out
  go_enter Tryz.func93, Tryz.ntmps93
  go_wp2_with first
   | (go_at_call 113; go_must (refine (HK.out _ Bq).mono ?_; rintro e w1 ⟨v1, rfl, ho1, hb1⟩; obtain ⟨hc1, hf1⟩ := bcell hb1; have hq1w : w.heap.size < w1.heap.size := Nat.lt_of_lt_of_le (by simp) hb1.size; obtain ⟨A1, c1, rfl⟩ := ho1.slice; clear ho1))
   | (go_at_call 112; go_must (refine (HE.out _).mono ?_; rintro e w' ⟨rfl, rfl⟩))
  exact bodyPost_ret (v := .agg #[.bool false, .int .i64 0]) (by simp [results, Tryz.results93, go_sem, *]) rfl ⟨rfl, Bq⟩
 ·obtain rfl : p = ⟨qo, qn⟩ := HQ.out
  go_enter Tryz.func93, Tryz.ntmps93
  go_wp2_with first
   | (go_at_call 113; go_must (refine (HK.out _ Bq).mono ?_; rintro e w1 ⟨v1, rfl, ho1, hb1⟩; obtain ⟨hc1, hf1⟩ := bcell hb1; have hq1w : w.heap.size < w1.heap.size := Nat.lt_of_lt_of_le (by simp) hb1.size; have HW1 : Hid (Below w.heap.size w w1) := Lib.hid (lowBox' (hb1.mono (by simp))); obtain ⟨A1, c1, rfl⟩ := ho1.slice; clear ho1))
   | (go_at_call 112; go_must (refine (HE.out _).mono ?_; rintro e w' ⟨rfl, rfl⟩))
   | (go_at_call 114; (((with_reducible refine (HT.out _ HW1.out).mono ?_)); rintro e w2 ⟨rfl, hb2⟩; obtain ⟨hc2, hf2⟩ := bcell hb2; (try have hq2w : w.heap.size < w2.heap.size := Bz hb2); (try have hq2w1 : w1.heap.size < w2.heap.size := Bz hb2); have hs2 := hb2.size; (try simp at hs2)))
  exact bodyPost_ret (v := .agg #[.bool qo, .int .i64 qn]) (by simp [results, Tryz.results93, go_sem, *]) rfl ⟨rfl, Bq⟩
end
section
open Go.RowKit Go.Sort
open Fx (Vl)
open Me
open Wp
namespace Wp
theorem sm_cnt {l : List (Int × Int)} {i : Nat} : ∀ k, (∀ j, j < k → 1 ≤ (Wh.At l j).2) → i < k → 12 * (Wh.At l i).2 ≤ Wh.sm l k
 | 0, _, h => by omega
 | k + 1, hc, h => by
   unfold Wh.sm
   have h0 : 0 ≤ Wh.sm l k := by
    clear h
    have : ∀ m, m ≤ k → 0 ≤ Wh.sm l m := fun m => by
     induction m with
     | zero => intro _; exact Int.le_refl _
     | succ m ih => intro hm; unfold Wh.sm; have := ih (by omega); have := hc m (by omega); omega
    exact this k (Nat.le_refl _)
   by_cases e : i = k
   ·subst e; omega
   ·have := sm_cnt (l := l) (i := i) k (fun j hj => hc j (by omega)) (by omega)
    have := hc k (by omega)
    omega
theorem cnt_bd {h : Hd} (hv : h.val = true) (i : Nat) (hi : i < h.l.length) : h.cnt i ≤ 87381 := by
 obtain ⟨_, _, _, ha⟩ := Wh.val_t hv
 obtain ⟨a1, a2, a3, a4, a5⟩ := Wh.av_t ha
 have h1 := sm_cnt (l := h.l) (i := i) h.l.length (fun j hj => ((Wh.alls_num hj a3).2).1) hi
 have h2 : Wh.ends h.l h.l.length = 16 + 12 * (h.l.length : Int) + Wh.sm h.l h.l.length := rfl
 show (Wh.At h.l i).2 ≤ 87381
 omega
theorem many_bd {h : Hd} (hv : h.val = true) (i : Nat) (hi : i + 1 < h.l.length) : h.step (i + 1) / h.step i = (many h i : Int) ∧ many h i ≤ 87381 := by
 obtain ⟨_, _, _, ha⟩ := Wh.val_t hv
 obtain ⟨a1, a2, a3, a4, a5⟩ := Wh.av_t ha
 have hs := Wh.alls_stp hi a3
 have h0 : 0 ≤ h.step (i + 1) / h.step i := Int.ediv_nonneg (by have := (Hd.nums hv (i + 1) hi).1; omega) (by have := (Hd.nums hv i (by omega)).1; omega)
 have h1 : h.step (i + 1) / h.step i ≤ h.cnt i := by
  unfold Wh.stp Wh.fol at hs
  simp only [Bool.and_eq_true, Bool.or_eq_true, decide_eq_true_eq, Nat.add_sub_cancel] at hs
  rcases hs.2 with e | e
  ·omega
  ·exact e.2
 have h2 := cnt_bd hv i (by omega)
 unfold many
 omega
theorem vals_succ (fs : List Vf.Fl) (n : List UInt8) (h : Hd) (i : Nat) (t : Int) (k : Nat) : vals fs n h i t (k + 1) = vals fs n h i t k ++ [value fs n h i (Sl.al t (h.step (i + 1)) + (k : Int) * h.step i)] := by
 unfold vals; rw [List.range_succ, List.map_append]; rfl
theorem vals_len (fs : List Vf.Fl) (n : List UInt8) (h : Hd) (i : Nat) (t : Int) (k : Nat) : (vals fs n h i t k).length = k := by unfold vals; simp
theorem al_bd {t s : Int} (h0 : 0 ≤ t) (hs : 1 ≤ s) : 0 ≤ Sl.al t s ∧ Sl.al t s ≤ t := by
 rw [Sl.al_eq hs h0]
 have h1 := Int.emod_nonneg t (by omega : s ≠ 0)
 have h2 := Int.emod_lt_of_pos t (by omega : 0 < s)
 have h3 := Int.mul_nonneg (by omega : 0 ≤ s) (Int.ediv_nonneg h0 (by omega : 0 ≤ s))
 have h4 := Int.emod_add_mul_ediv t s
 omega
end Wp
theorem below_via {a b c : World} (h : Below b.heap.size b c) (k : Below a.heap.size a b) : Below a.heap.size a c := k.trans (h.mono k.size)
theorem keep2 {w : World} {x g i : Nat} {u v : Value} (h : x ≠ g) : ((w.setCell ⟨g, 0, none⟩ u).setCell ⟨g, 1, none⟩ v).cell? ⟨x, i, none⟩ = w.cell? ⟨x, i, none⟩ :=
 World.cell?_of_block ((Below.heap_setCell _ _ _ _ h).trans (Below.heap_setCell _ _ _ _ h))
theorem rpasses_any {w : World} {V : Nat → Prop} {c x fs : Nat} {S : Vf.Sv} {n : List UInt8} {h : Hd} {A : Option Addr} {cap : Nat} (ro : RO w V fs c S) (hc : c ≤ 999990) (f : FileR w x fs n h A cap) (hx : V x) (hA : ∀ a, A = some a → V a.block) (hv : h.val = true) (i : Nat) (hi : i + 1 < h.l.length) (t : Int) (ht0 : 0 ≤ t) (ht : t ≤ 4294967295) :
 Calls Tryz.prog 56 #[.pointer (some ⟨x, 0, none⟩), .int .i64 (i : Int), .int .i64 t] w fun e w' => e = .returned (.bool (passes S n h i t).2) ∧ RO w' V fs (c + 3) (passes S n h i t).1 ∧ Kp (fun b => ¬ V b) w w' := by
 obtain ⟨b, off, rfl, ha⟩ := f.ars.2 (by omega)
 have hVb : V b := hA _ rfl
 have c2 : w.cell? ⟨x, 2, none⟩ = some (.int .i64 h.ag) := f.row.cell 2
 have c3 : w.cell? ⟨x, 3, none⟩ = some (.int .i64 h.xf) := f.row.cell 3
 have c4 : w.cell? ⟨x, 4, none⟩ = some (.slice (some ⟨b, off, none⟩) h.l.length cap) := f.row.cell 4
 have s0 : w.cell? ⟨b, off + i * 2, none⟩ = some (.int .i64 (h.step i)) := ha.st i (by omega)
 have s1 : w.cell? ⟨b, off + i * 2 + 1, none⟩ = some (.int .i64 (h.cnt i)) := ha.ct i (by omega)
 have s2 : w.cell? ⟨b, off + (i + 1) * 2, none⟩ = some (.int .i64 (h.step (i + 1))) := ha.st (i + 1) (by omega)
 have s3 : w.cell? ⟨b, off + (i + 1) * 2 + 1, none⟩ = some (.int .i64 (h.cnt (i + 1))) := ha.ct (i + 1) (by omega)
 have hxl := f.row.lt
 have hbl := ha.lt
 obtain ⟨⟨a1, a2⟩, _⟩ := Hd.nums hv i (by omega)
 obtain ⟨⟨b1, b2⟩, _⟩ := Hd.nums hv (i + 1) (by omega)
 have HF := Lib.hid f
 have HRO := Lib.hid ro
 have hil : (i : Int) < (h.l.length : Int) := by omega
 obtain ⟨j, hj⟩ : ∃ j, Hid (j = i + 1) := ⟨_, Lib.hid rfl⟩
 have hij : (i : Int) + 1 = (j : Int) := by rw [hj.out]; rfl
 have hil1 : (j : Int) < (h.l.length : Int) := by omega
 have hi0 : (0 : Int) ≤ (i : Int) := by omega
 have hj0 : (0 : Int) ≤ (j : Int) := by omega
 have hwj : IntKind.i64.wrap (j : Int) = (j : Int) := IntWalk.i64_in _ (by have := (Hd.len hv).2; omega)
 rw [← hj.out] at s2 s3 b1 b2
 clear f ha ro
 obtain ⟨u0, hu0⟩ : ∃ u, Hid (u = h.step i) := ⟨_, Lib.hid rfl⟩
 obtain ⟨u1, hu1⟩ : ∃ u, Hid (u = h.cnt i) := ⟨_, Lib.hid rfl⟩
 obtain ⟨u2, hu2⟩ : ∃ u, Hid (u = h.step j) := ⟨_, Lib.hid rfl⟩
 obtain ⟨u3, hu3⟩ : ∃ u, Hid (u = h.cnt j) := ⟨_, Lib.hid rfl⟩
 obtain ⟨N, hN⟩ : ∃ N, Hid (N = h.l.length) := ⟨_, Lib.hid rfl⟩
 rw [← hu0.out] at s0 a1 a2
 rw [← hu1.out] at s1
 rw [← hu2.out] at s2 b1 b2
 rw [← hu3.out] at s3
 rw [← hN.out] at c4 hil hil1
 go_enter Tryz.func56, Tryz.ntmps56
 go_wp2_with fail
 go_cut [7, 8] (fun s7 s8 wx => ∃ p q : Nat, s7 = .pointer (some ⟨p, 0, none⟩) ∧ s8 = .pointer (some ⟨q, 0, none⟩) ∧ w.heap.size ≤ p ∧ w.heap.size ≤ q ∧ Hid (RowAt wx p 56 #[.int .i64 u0, .int .i64 u1]) ∧ Hid (RowAt wx q 56 #[.int .i64 u2, .int .i64 u3]) ∧ Below w.heap.size w wx)
 case first =>
  go_region_held3 (fun W => W.cell? ⟨x, 4, none⟩ = some (.slice (some ⟨b, off, none⟩) N cap) ∧ W.cell? ⟨b, off + i * 2, none⟩ = some (.int .i64 u0) ∧ W.cell? ⟨b, off + i * 2 + 1, none⟩ = some (.int .i64 u1) ∧ W.cell? ⟨b, off + j * 2, none⟩ = some (.int .i64 u2) ∧ W.cell? ⟨b, off + j * 2 + 1, none⟩ = some (.int .i64 u3)) (first | exact ⟨c4, s0, s1, s2, s3⟩ | go_keep) (fail)
  all_goals go_wp2_with fail
  all_goals go_meet
  all_goals
   first
    | refine ⟨w.heap.size, w.heap.size + 1, rfl, rfl, Nat.le_refl _, by omega, ?_, ?_, ?_⟩
    | refine ⟨w.heap.size + 1, w.heap.size, rfl, rfl, by omega, Nat.le_refl _, ?_, ?_, ?_⟩
  ·exact Lib.hid (((RowAt.new w _ _).alloc _).drew)
  ·exact Lib.hid (by rw [show w.heap.size + 1 = (w.alloc (.cells #[.int .i64 u0, .int .i64 u1] 56)).heap.size by simp]; exact (RowAt.new _ _ _).drew)
  ·exact Bq
  ·exact Lib.hid (by rw [show w.heap.size + 1 = (w.alloc (.cells #[.int .i64 u2, .int .i64 u3] 56)).heap.size by simp]; exact (RowAt.new _ _ _).drew)
  ·exact Lib.hid (((RowAt.new w _ _).alloc _).drew)
  ·exact Bq
 case rest =>
  obtain ⟨p, q, rfl, rfl, hp, hq, HP, HQ2, hbc⟩ := hcut
  have HBC := Lib.hid hbc
  have hcs := hbc.size
  have p0 : wc.cell? ⟨p, 0, none⟩ = some (.int .i64 u0) := HP.out.cell 0
  have q0 : wc.cell? ⟨q, 0, none⟩ = some (.int .i64 u2) := HQ2.out.cell 0
  have hpl := HP.out.lt
  have hql := HQ2.out.lt
  have HAL : Hid (∀ W, Calls Tryz.prog 54 #[.int .i64 t, .int .i64 u2] W fun e w' => e = .returned (.int .i64 (Sl.al t u2)) ∧ W = w') := Lib.hid fun W => ralign_any t _ (by omega) W
  clear hbc s0 s1 s2 s3 c4
  obtain ⟨g, hg⟩ : ∃ g, Hid (g = Sl.al t u2) := ⟨_, Lib.hid rfl⟩
  rw [← hg.out] at HAL
  go_wp2_with (go_at_call 54; ((with_reducible refine (HAL.out _).mono ?_); rintro e w' ⟨rfl, rfl⟩))
  obtain ⟨hK0, hM⟩ := many_bd hv i hi
  obtain ⟨M, HM⟩ : ∃ M, Hid (M = many h i) := ⟨_, Lib.hid rfl⟩
  have hK : u2 / u0 = (M : Int) := by rw [hu2.out, hu0.out, hj.out, HM.out]; exact hK0
  have hM' : M ≤ 87381 := by rw [HM.out]; exact hM
  have hwM : IntKind.i64.wrap (M : Int) = (M : Int) := IntWalk.i64_in _ (by omega)
  have hMu : (M : Int) * u0 ≤ u2 := by rw [← hK]; exact Int.ediv_mul_le _ (by omega)
  have hgb : 0 ≤ g ∧ g ≤ t := by rw [hg.out]; exact al_bd ht0 (by omega)
  have hu0' : 0 < u0 := by omega
  clear hK0 hM
  obtain ⟨i0, hi0', hz0, hz1, hz2⟩ := info_parts infoVal
  have HI := Lib.hid hi0'
  have HZ := Lib.hid (And.intro hz0 (And.intro hz1 hz2))
  clear hi0' hz0 hz1 hz2
  have HVL : Hid (∀ (k : Nat) W, k < M → Below w.heap.size w W → Calls Tryz.prog 92 #[.pointer (some ⟨x, 0, none⟩), .int .i64 (i : Int), .int .i64 (g + (k : Int) * u0)] W fun e w' => e = .returned (.agg #[.bool (value S.now n h i (g + (k : Int) * u0)).ok, .int .i64 (value S.now n h i (g + (k : Int) * u0)).n]) ∧ Below W.heap.size W w') := Lib.hid fun k W hk hb => by
   have h1 : (k : Int) * u0 ≤ (M : Int) * u0 := Int.mul_le_mul_of_nonneg_right (by omega) (by omega)
   exact rvalue_any (HRO.out.below hb) (by omega) (HF.out.below hb) hv i (by omega) _ (by omega)
  go_loopw [10, 11] (fun v u wr => ∃ k : Nat, k ≤ M ∧ u = .int .i64 k ∧ OwnV wc.heap.size wr v (vals S.now n h i t k) ∧ Below wc.heap.size wc wr) (fun _ u _ => M - (intOf u).toNat)
  case atStart => exact ⟨0, Nat.zero_le _, rfl, OwnV.nil _ _, Below.refl _ _⟩
  case round =>
   obtain ⟨k, hk, rfl, hown, hbel⟩ := hrel
   have hvl := vals_len S.now n h i t k
   have HVS := Lib.hid (vals_succ S.now n h i t k)
   generalize hml : vals S.now n h i t k = m at *
   have HML := Lib.hid hml
   clear hml
   obtain ⟨A3, c3', rfl⟩ := hown.slice
   have HO := Lib.hid hown
   have HB := Lib.hid hbel
   have hws := hbel.size
   have HWB : Hid (Below w.heap.size w wr) := Lib.hid (HBC.out.trans (hbel.mono hcs))
   have p0r : wr.cell? ⟨p, 0, none⟩ = some (.int .i64 u0) := ((bcell hbel).1 _ _ hpl).trans p0
   have q0r : wr.cell? ⟨q, 0, none⟩ = some (.int .i64 u2) := ((bcell hbel).1 _ _ hql).trans q0
   have hpr : p < wr.heap.size := Nat.lt_of_lt_of_le hpl hws
   have hqr : q < wr.heap.size := Nat.lt_of_lt_of_le hql hws
   clear hown hbel p0 q0
   rw [hvl] at HO
   by_cases hlt : k < M
   ·have h1 : (k : Int) * u0 ≤ (M : Int) * u0 := Int.mul_le_mul_of_nonneg_right (by omega) (by omega)
    have h2 : 0 ≤ (k : Int) * u0 := Int.mul_nonneg (by omega) (by omega)
    have HVk := Lib.hid (HVL.out k · hlt)
    rw [← hj.out, ← hu2.out, ← hu0.out, ← hg.out] at HVS
    generalize value S.now n h i (g + (k : Int) * u0) = qv at *
    obtain ⟨qo, qn⟩ := qv
    obtain ⟨mm, hmm⟩ : ∃ mm, (k : Int) * u0 = mm := ⟨_, rfl⟩
    rw [hmm] at h1 h2
    obtain ⟨r, hr⟩ : ∃ r, g + mm = r := ⟨_, rfl⟩
    rw [hmm, hr] at HVk
    have hwm : IntKind.i64.wrap mm = mm := IntWalk.i64_in _ (by omega)
    have hwr : IntKind.i64.wrap r = r := IntWalk.i64_in _ (by omega)
    have hkM : (k : Int) < (M : Int) := by omega
    have HOX : Hid (∀ W, Below wr.heap.size wr W → W.ownsRow wc.heap.size 110 2 (.slice A3 k c3') k (cellsOf m)) := Lib.hid fun W hb => by
     have h := HO.out.below hb
     unfold OwnV at h
     rw [hvl] at h
     exact h
    go_wp2_with first
     | (go_at_call 92; (with_reducible refine (HVk.out _ HWB.out).mono ?_); rintro e w4 ⟨rfl, hb4⟩; have HB4 := Lib.hid hb4; have hs4 := hb4.size; clear hb4)
     | (at_builtin; refine wpList_app _ rfl (.tmp 43) (.tmp 53) 104 rfl wc.heap.size 110 i0 (.agg #[.bool false, .int .i64 0]) 2 16 Tryz.underlying104 HI.out HZ.out.1 HZ.out.2.1 HZ.out.2.2 rfl (by decide) (.slice A3 k c3') k (cellsOf m) rfl (HOX.out _ (HB4.out.alloc hs4 _)) (fun b => b = w4.heap.size) (some ⟨w4.heap.size, 0, none⟩) 1 1 [.bool qo, .int .i64 qn] rfl rfl (Rd.fresh _ _ _ _ rfl) (by intro u hu; simp at hu; rcases hu with rfl | rfl <;> rfl) (by unfold maxLen; omega) (by omega) (by simp; omega) ?_; intro v5 w5 hown5 hg5 hat5 hnil5)
    have HN := Lib.hid (own_append (v := .slice A3 k c3') (m := m) (HB.out.trans ((HB4.out.alloc hs4 _).mono hws)) (HO.out.below (HB4.out.alloc hs4 _)) (by rw [hvl]; exact hown5) hg5)
    obtain ⟨A5, n5, c5, rfl⟩ := own_slice hown5
    clear hown5 hg5 hat5 hnil5
    go_wp2_with fail
    go_roundw
    case rel => exact ⟨k + 1, by omega, by go_num, by rw [HVS.out]; exact HN.out.1, HN.out.2⟩
    case measure => simp [intOf]; omega
   ·have hkM : k = M := by omega
    have HQ : Hid (passes S n h i t = if (Ag.put h.ag h.xf m).ok = false ∨ g = 0 then (S, false) else (write S n h j t (Ag.put h.ag h.xf m).n, true)) := Lib.hid (by
     unfold passes
     rw [← HM.out, ← hkM, HML.out, ← hj.out, ← hu2.out, ← hg.out])
    subst hkM
    have y2 : wr.cell? ⟨x, 2, none⟩ = some (.int .i64 h.ag) := ((bcell HWB.out).1 _ _ hxl).trans c2
    have y3 : wr.cell? ⟨x, 3, none⟩ = some (.int .i64 h.xf) := ((bcell HWB.out).1 _ _ hxl).trans c3
    have hxr : x < wr.heap.size := Nat.lt_of_lt_of_le hxl HWB.out.size
    have HPU : Hid (∀ W, Below wr.heap.size wr W → Calls Tryz.prog 93 #[.int .i64 h.ag, .int .i64 h.xf, .slice A3 m.length c3'] W fun e w' => e = .returned (.agg #[.bool (Ag.put h.ag h.xf m).ok, .int .i64 (Ag.put h.ag h.xf m).n]) ∧ Below W.heap.size W w') := Lib.hid fun W hb => refPut_v h.ag h.xf m (by omega) _ W (by have h := HO.out.sl.below hb; rw [← hvl] at h; exact h)
    have HRW : Hid (∀ W u, Below w.heap.size w W → Calls Tryz.prog 55 #[.pointer (some ⟨x, 0, none⟩), .int .i64 (j : Int), .int .i64 t, .int .i64 u] W (Wrote W V fs (c + 3) (write S n h j t u))) := Lib.hid fun W u hb => rwrite_any (HRO.out.below hb) hc (HF.out.below hb) hx hA hv j (by rw [hj.out]; exact hi) t u (by omega)
    clear HVL HVS HO HB HML c2 c3 hvl
    generalize Ag.put h.ag h.xf m = P at *
    generalize h.ag = ag at *
    generalize h.xf = xf at *
    obtain ⟨po, pn⟩ := P
    go_wp2_with fail
    go_cut [12] (fun s12 wx => ∃ g' : Nat, s12 = .pointer (some ⟨g', 0, none⟩) ∧ Hid (RowAt wx g' 110 #[.bool po, .int .i64 pn]) ∧ Below w.heap.size w wx)
    case first =>
     clear a1 a2 b1 b2 hMu hgb hu0' hwM hK hM' p0r q0r hpr hqr hpl hql hws hp hq hcs
     have hxn : x ≠ wr.heap.size := by omega
     go_region_held3 (fun W => W.cell? ⟨x, 2, none⟩ = some (.int .i64 ag) ∧ W.cell? ⟨x, 3, none⟩ = some (.int .i64 xf)) (first | exact ⟨y2, y3⟩ | exact ⟨z2, z3⟩ | exact ⟨(keep2 hxn).trans z2, (keep2 hxn).trans z3⟩ | go_keep)
      (first | (go_at_call 93; (with_reducible refine (HPU.out _ (by first | exact Below.refl _ _ | exact (Below.refl _ _).drew | exact ((Below.refl _ _).alloc (Nat.le_refl _) _) | exact ((Below.refl _ _).alloc (Nat.le_refl _) _).drew | exact ((Below.refl _ _).drew).alloc (Nat.le_refl _) _)).mono ?_); rintro e w6 ⟨rfl, hb6⟩; obtain ⟨hc6, hf6⟩ := bcell hb6; (try have hz6 : wr.heap.size < w6.heap.size := Bz hb6); (try have hrw6 : RowAt w6 wr.heap.size 110 #[.bool false, .int .i64 0] := RowAt.below (by first | exact RowAt.new _ _ _ | exact (RowAt.new _ _ _).drew) hb6 (by first | assumption | (simp; done) | (simp; omega))); have HB6 : Hid (Below wr.heap.size wr w6) := Lib.hid (below_via hb6 (by first | exact Below.refl _ _ | exact (Below.refl _ _).drew | exact ((Below.refl _ _).alloc (Nat.le_refl _) _) | exact ((Below.refl _ _).alloc (Nat.le_refl _) _).drew | exact ((Below.refl _ _).drew).alloc (Nat.le_refl _) _)); have z2 := ((bcell HB6.out).1 _ _ hxr).trans y2; have z3 := ((bcell HB6.out).1 _ _ hxr).trans y3))
     all_goals go_wp2_with fail
     all_goals go_meet
     ·have hw6 := HWB.out.trans (HB6.out.mono HWB.out.size)
      exact ⟨w6.heap.size, rfl, Lib.hid (RowAt.new _ _ _), hw6.alloc hw6.size _⟩
     ·have hw6 := HWB.out.trans (HB6.out.mono HWB.out.size)
      exact ⟨wr.heap.size, rfl, Lib.hid (by have h := (hrw6.set_ 0 (.bool po)).set_ 1 (.int .i64 pn); simpa using h), Below.setCell (Below.setCell hw6 HWB.out.size _) HWB.out.size _⟩
    case rest =>
     obtain ⟨g', rfl, HG, hbx⟩ := hcut
     have v0 : wc.cell? ⟨g', 0, none⟩ = some (.bool po) := HG.out.cell 0
     have v1 : wc.cell? ⟨g', 1, none⟩ = some (.int .i64 pn) := HG.out.cell 1
     have hgl := HG.out.lt
     have HBX := Lib.hid hbx
     clear hbx HPU y2 y3
     have stay : Hid (po = false ∨ g = 0 → (Value.bool (passes S n h i t).2) = .bool false ∧ RO wc V fs (c + 3) (passes S n h i t).1 ∧ Kp (fun b => ¬ V b) w wc) := Lib.hid fun e => by
      rw [HQ.out, if_pos e]
      exact ⟨rfl, (HRO.out.below HBX.out).more (by omega) (fun _ h => h), Kp.of_below HBX.out⟩
     cases po
     ·obtain ⟨k1, k2, k3⟩ := stay.out (.inl rfl)
      clear stay HRW
      go_wp2_with fail
      go_ret
      exact ⟨by first | rfl | (rw [k1]; rfl), k2, k3⟩
     ·by_cases hg0 : g = 0
      ·obtain ⟨k1, k2, k3⟩ := stay.out (.inr hg0)
       have hgz : (g == 0) = true := by simpa using hg0
       have HG0 := Lib.hid hg0
       clear stay HRW hg0
       go_wp2_with fail
       go_ret
       exact ⟨by first | rfl | (rw [k1]; rfl), k2, k3⟩
      ·have hgz : (g == 0) = false := by simpa using hg0
       have HQ' : Hid (passes S n h i t = (write S n h j t pn, true)) := Lib.hid (by rw [HQ.out, if_neg (by rintro (h | h); cases h; exact hg0 h)])
       clear stay HQ hg0
       go_wp2_with (go_at_call 55; (with_reducible refine (HRW.out _ _ HBX.out).mono ?_); rintro e w7 ⟨rfl, hro7, hk7⟩)
       go_ret
       exact ⟨by rw [HQ'.out]; rfl, by rw [HQ'.out]; exact hro7, (Kp.of_below HBX.out).trans hk7 (fun _ _ h => h)⟩
end
end Go.Proofs.YtljlanhpjpjgaaaGreatDoor
