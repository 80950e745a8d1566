/-
  CONTRACTS: values as one: the document's Of and Put.
-/
import Derived.Test.YtjaclmhfagdfhaaAgKn
import Derived.Test.YtjaclmhfagdfhaaAgEn
import Derived.Test.YtjaclmhfagdfhaaAgCmp
import Derived.Test.YtjaclmhfagdfhaaFxRmul
namespace Go.Proofs.Ytjaclmhfagdfhaa
open Go.RowKit Go.Sort
open Fx (Vl)
open Me

/-- What the document keeps on its way: for kind 4 the greatest so far, for kind 5 the least, else the first. -/
def Ag.run (kind : Int) (m : List Vl) (k : Nat) : Vl := if kind = 4 then Ag.mx (m.take k) else if kind = 5 then Ag.mn (m.take k) else m.getD 0 Fx.none
theorem Ag.run_one (kind : Int) (m : List Vl) (h : 0 < m.length) : Ag.run kind m 1 = m[0] := by
  unfold Ag.run
  split
  · exact Ag.mx_one m h
  · split
    · exact Ag.mn_one m h
    · rw [List.getD_eq_getElem?_getD, List.getElem?_eq_getElem h]; rfl
def Ag.best (kind : Int) (a b : Vl) : Vl := if kind = 4 then Ag.mx1 a b else if kind = 5 then Ag.mn1 a b else a
theorem Ag.run_step (kind : Int) (m : List Vl) (k : Nat) (h1 : 1 ≤ k) (h : k < m.length) : Ag.run kind m (k + 1) = Ag.best kind (Ag.run kind m k) m[k] := by
  unfold Ag.run Ag.best
  split
  · exact Ag.mx_take m k h1 h
  · split
    · exact Ag.mn_take m k h1 h
    · rfl
theorem Ag.best_4 {a b : Vl} (h : a.n < b.n) : Ag.best 4 a b = b := Ag.mx1_yes h
theorem Ag.best_4n {a b : Vl} (h : ¬ a.n < b.n) : Ag.best 4 a b = a := Ag.mx1_no h
theorem Ag.best_5 {a b : Vl} (h : b.n < a.n) : Ag.best 5 a b = b := Ag.mn1_yes h
theorem Ag.best_5n {a b : Vl} (h : ¬ b.n < a.n) : Ag.best 5 a b = a := Ag.mn1_no h
theorem Ag.best_no {kind : Int} {a b : Vl} (h4 : kind ≠ 4) (h5 : kind ≠ 5) : Ag.best kind a b = a := by unfold Ag.best; rw [if_neg h4, if_neg h5]
theorem Ag.run_4 (m : List Vl) : Ag.run 4 m m.length = Ag.mx m := by unfold Ag.run; rw [if_pos rfl, List.take_length]
theorem Ag.run_5 (m : List Vl) : Ag.run 5 m m.length = Ag.mn m := by unfold Ag.run; rw [if_neg (by decide), if_pos rfl, List.take_length]

theorem OwnV.vals {base : Nat} {w : World} {v : Value} {l : List Vl} (h : OwnV base w v l) (h0 : 0 < l.length) : ∃ b off cap, v = .slice (some ⟨b, off, none⟩) l.length cap ∧ Vals w b off l := by
  rcases h.sl with ⟨e, _⟩ | ⟨_, h⟩
  · rw [e] at h0; exact absurd h0 (Nat.lt_irrefl _)
  · exact h
theorem BestRel.start2 {w w' : World} {T : TypeId} (ok : Bool) (n : Int) (hb : Below (w.alloc (.cells #[.bool false, .int .i64 0] T)).heap.size (w.alloc (.cells #[.bool false, .int .i64 0] T)) w') :
    BestRel w (w'.alloc (.cells #[.bool ok, .int .i64 n] T)) w.heap.size w'.heap.size ⟨ok, n⟩ := by
  have hz := hb.size
  have hsz : (w.alloc (.cells #[.bool false, .int .i64 0] T)).heap.size = w.heap.size + 1 := by simp
  rw [hsz] at hz
  have hc : ∀ f, w'.cell? ⟨w.heap.size, f, none⟩ = (w.alloc (.cells #[.bool false, .int .i64 0] T)).cell? ⟨w.heap.size, f, none⟩ := fun f => hb.cell (p := ⟨w.heap.size, f, none⟩) (by rw [hsz]; show w.heap.size < _; omega)
  have hf : ∀ f, w'.frozen? ⟨w.heap.size, f, none⟩ = (w.alloc (.cells #[.bool false, .int .i64 0] T)).frozen? ⟨w.heap.size, f, none⟩ := fun f => hb.frozen (p := ⟨w.heap.size, f, none⟩) (by rw [hsz]; show w.heap.size < _; omega)
  have hlt : w.heap.size < w'.heap.size := by omega
  refine ⟨?_, Nat.le_refl _, by omega, by simp, ?_, ?_, ?_, ?_, ?_, ?_, ?_, ?_⟩
  · exact (((Below.refl w.heap.size w).alloc (Nat.le_refl _) _).trans (hb.mono (by omega))).alloc (by omega) _
  all_goals simp [go_sem, *]
theorem BestRel.drewN {w wr : World} {r s : Nat} {v : Vl} (h : BestRel w wr r s v) (n : Nat) : BestRel w (wr.drewN n) r s v := h.step (below_drewN _ _ _)

set_option maxRecDepth 100000 in
set_option maxHeartbeats 4000000 in
theorem refOf_v (kind : Int) (l : List Vl) (hl : l.length ≤ 1000000) (v : Value) (w : World) (hv : Sl w v l) :
    Calls Try.prog 9 #[.int .i64 kind, v] w fun e w' => e = .returned (.agg #[.bool (Ag.tg kind (Ag.kn l)).ok, .int .i64 (Ag.tg kind (Ag.kn l)).n]) ∧ Below w.heap.size w w' := by
  have HK : Hid (∀ W, Below w.heap.size w W → Calls Try.prog 12 #[v] W (Knew W (Ag.kn l))) := Lib.hid fun W hb => refKnown_v l hl v W (hv.below hb)
  have hkl : (Ag.kn l).length ≤ 1000000 := Nat.le_trans (Ag.kn_len l) hl
  obtain ⟨A, c, rfl⟩ := hv.form
  clear hv
  generalize Ag.kn l = m at *
  by_cases hz : m.length = 0
  · rw [show Ag.tg kind m = Fx.none from if_pos hz]
    have hzi : (m.length : Int) = 0 := by omega
    go_enter Try.func9, Try.ntmps9
    go_wp2_with (go_at_call 12; go_must (refine (HK.out _ (by repeat (first | exact Below.refl _ _ | assumption | refine Below.setCell ?_ (by first | (simp; done) | omega | (simp; omega) | (simp at *; omega)) _ | refine Below.alloc ?_ (by first | (simp; done) | omega | (simp; omega) | (simp at *; omega)) _ | refine Below.drew ?_ | (refine Below.trans ?_ (Below.mono (by assumption) (by first | (simp; done) | omega | (simp; omega) | (simp at *; omega)))) | (refine Below.trans ?_ (Below.mono (below_regrown _ _ _) (by first | (simp; done) | omega | (simp; omega) | (simp at *; omega))))))).mono ?_; rintro e w1 ⟨v1, rfl, ho1, hb1⟩; obtain ⟨hc1, hf1⟩ := bcell hb1; have hq1w : w.heap.size < w1.heap.size := Nat.lt_of_lt_of_le (by simp) hb1.size; obtain ⟨A1, c1, rfl⟩ := ho1.slice; clear ho1))
    exact bodyPost_ret (v := .agg #[.bool false, .int .i64 0]) (by simp [results, Try.results9, go_sem, *]) rfl ⟨rfl, (by repeat (first | exact Below.refl _ _ | assumption | refine Below.setCell ?_ (by first | (simp; done) | omega | (simp; omega) | (simp at *; omega)) _ | refine Below.alloc ?_ (by first | (simp; done) | omega | (simp; omega) | (simp at *; omega)) _ | refine Below.drew ?_ | (refine Below.trans ?_ (Below.mono (by assumption) (by first | (simp; done) | omega | (simp; omega) | (simp at *; omega)))) | (refine Below.trans ?_ (Below.mono (below_regrown _ _ _) (by first | (simp; done) | omega | (simp; omega) | (simp at *; omega))))))⟩
  have hz0 : 0 < m.length := by omega
  have hzi : ¬ ((m.length : Int) = 0) := by omega
  by_cases hlo : kind < 1
  · rw [Ag.tg_no (by omega) (by omega) (by omega) (by omega) (by omega)]
    go_enter Try.func9, Try.ntmps9
    go_wp2_with (go_at_call 12; go_must (refine (HK.out _ (by repeat (first | exact Below.refl _ _ | assumption | refine Below.setCell ?_ (by first | (simp; done) | omega | (simp; omega) | (simp at *; omega)) _ | refine Below.alloc ?_ (by first | (simp; done) | omega | (simp; omega) | (simp at *; omega)) _ | refine Below.drew ?_ | (refine Below.trans ?_ (Below.mono (by assumption) (by first | (simp; done) | omega | (simp; omega) | (simp at *; omega)))) | (refine Below.trans ?_ (Below.mono (below_regrown _ _ _) (by first | (simp; done) | omega | (simp; omega) | (simp at *; omega))))))).mono ?_; rintro e w1 ⟨v1, rfl, ho1, hb1⟩; obtain ⟨hc1, hf1⟩ := bcell hb1; have hq1w : w.heap.size < w1.heap.size := Nat.lt_of_lt_of_le (by simp) hb1.size; obtain ⟨A1, c1, rfl⟩ := ho1.slice; clear ho1))
    exact bodyPost_ret (v := .agg #[.bool false, .int .i64 0]) (by simp [results, Try.results9, go_sem, *]) rfl ⟨rfl, (by repeat (first | exact Below.refl _ _ | assumption | refine Below.setCell ?_ (by first | (simp; done) | omega | (simp; omega) | (simp at *; omega)) _ | refine Below.alloc ?_ (by first | (simp; done) | omega | (simp; omega) | (simp at *; omega)) _ | refine Below.drew ?_ | (refine Below.trans ?_ (Below.mono (by assumption) (by first | (simp; done) | omega | (simp; omega) | (simp at *; omega)))) | (refine Below.trans ?_ (Below.mono (below_regrown _ _ _) (by first | (simp; done) | omega | (simp; omega) | (simp at *; omega))))))⟩
  by_cases hhi : 5 < kind
  · rw [Ag.tg_no (by omega) (by omega) (by omega) (by omega) (by omega)]
    go_enter Try.func9, Try.ntmps9
    go_wp2_with (go_at_call 12; go_must (refine (HK.out _ (by repeat (first | exact Below.refl _ _ | assumption | refine Below.setCell ?_ (by first | (simp; done) | omega | (simp; omega) | (simp at *; omega)) _ | refine Below.alloc ?_ (by first | (simp; done) | omega | (simp; omega) | (simp at *; omega)) _ | refine Below.drew ?_ | (refine Below.trans ?_ (Below.mono (by assumption) (by first | (simp; done) | omega | (simp; omega) | (simp at *; omega)))) | (refine Below.trans ?_ (Below.mono (below_regrown _ _ _) (by first | (simp; done) | omega | (simp; omega) | (simp at *; omega))))))).mono ?_; rintro e w1 ⟨v1, rfl, ho1, hb1⟩; obtain ⟨hc1, hf1⟩ := bcell hb1; have hq1w : w.heap.size < w1.heap.size := Nat.lt_of_lt_of_le (by simp) hb1.size; obtain ⟨A1, c1, rfl⟩ := ho1.slice; clear ho1))
    exact bodyPost_ret (v := .agg #[.bool false, .int .i64 0]) (by simp [results, Try.results9, go_sem, *]) rfl ⟨rfl, (by repeat (first | exact Below.refl _ _ | assumption | refine Below.setCell ?_ (by first | (simp; done) | omega | (simp; omega) | (simp at *; omega)) _ | refine Below.alloc ?_ (by first | (simp; done) | omega | (simp; omega) | (simp at *; omega)) _ | refine Below.drew ?_ | (refine Below.trans ?_ (Below.mono (by assumption) (by first | (simp; done) | omega | (simp; omega) | (simp at *; omega)))) | (refine Below.trans ?_ (Below.mono (below_regrown _ _ _) (by first | (simp; done) | omega | (simp; omega) | (simp at *; omega))))))⟩
  generalize hQ : Ag.tg kind m = q
  have HQ := Lib.hid hQ
  clear hQ
  have hzb : ((m.length : Int) == 0) = false := by simpa using hz
  have hlo2 : 1 ≤ kind := by omega
  have hhi2 : kind ≤ 5 := by omega
  have hcond : ¬ (((((m.length : Int) == 0) = true ∨ kind < 1)) ∨ 5 < kind) := by
    rintro ((h | h) | h)
    · rw [hzb] at h; cases h
    · omega
    · omega
  have HRO := Lib.hid (Ag.run_one kind m hz0)
  have HRS := Lib.hid (Ag.run_step kind m)
  go_enter Try.func9, Try.ntmps9
  go_wp2_with (go_at_call 12; go_must (refine (HK.out _ (by repeat (first | exact Below.refl _ _ | assumption | refine Below.setCell ?_ (by first | (simp; done) | omega | (simp; omega) | (simp at *; omega)) _ | refine Below.alloc ?_ (by first | (simp; done) | omega | (simp; omega) | (simp at *; omega)) _ | refine Below.drew ?_ | (refine Below.trans ?_ (Below.mono (by assumption) (by first | (simp; done) | omega | (simp; omega) | (simp at *; omega)))) | (refine Below.trans ?_ (Below.mono (below_regrown _ _ _) (by first | (simp; done) | omega | (simp; omega) | (simp at *; omega))))))).mono ?_; rintro e w1 ⟨v1, rfl, ho1, hb1⟩; obtain ⟨hc1, hf1⟩ := bcell hb1; have hq1w : w.heap.size < w1.heap.size := Nat.lt_of_lt_of_le (by simp) hb1.size; obtain ⟨b, off, cap, rfl, hv1⟩ := ho1.vals hz0; have x0 := hv1.ok 0 hz0; have x1 := hv1.n 0 hz0; rw [Nat.zero_mul, Nat.add_zero] at x0 x1; have hbr0 := hv1.lt; have HV1 := Lib.hid hv1; have HB1 := Lib.hid hb1; clear ho1 hv1; generalize m[0] = e0 at *; obtain ⟨fo, fn⟩ := e0))
  have HBR := Lib.hid (BestRel.start2 (T := 24) fo fn HB1.out)
  clear hc1 hf1 x0 x1
  go_loopw [7] (fun i wr => ∃ k : Nat, 1 ≤ k ∧ k ≤ m.length ∧ i = .int .i64 k ∧ BestRel w wr w.heap.size w1.heap.size (Ag.run kind m k) ∧ Below w1.heap.size w1 wr) (fun i _ => m.length - (intOf i).toNat)
  case atStart => exact ⟨1, Nat.le_refl _, hz0, rfl, by rw [HRO.out]; exact HBR.out, (Below.refl _ _).alloc (Nat.le_refl _) _⟩
  case round =>
    obtain ⟨k, hk1, hk, rfl, hR, hbb1⟩ := hrel
    have hvr := HV1.out.below hbb1
    have HBB := Lib.hid hbb1
    clear hbb1
    have hsz := hR.sz
    have rc0 := hR.rc0
    have rc1 := hR.rc1
    have rf0 := hR.rf0
    have rf1 := hR.rf1
    have sc0 := hR.sc0
    have sc1 := hR.sc1
    have sf0 := hR.sf0
    have sf1 := hR.sf1
    by_cases hlt : k < m.length
    · have ec0 := hvr.ok k hlt
      have ec1 := hvr.n k hlt
      have hbr := hvr.lt
      have hst := Lib.hid (HRS.out k hk1 hlt)
      have HR := Lib.hid hR
      clear hR hvr
      generalize m[k] = ek at *
      generalize Ag.run kind m k = sk at *
      obtain ⟨eo, en⟩ := ek
      obtain ⟨so, sn⟩ := sk
      have hkl : (k : Int) < (m.length : Int) := by omega
      have hk0 : (0 : Int) ≤ (k : Int) := by omega
      have stay : Hid (∀ n, Ag.best kind ⟨so, sn⟩ ⟨eo, en⟩ = ⟨so, sn⟩ → ∃ k' : Nat, 1 ≤ k' ∧ k' ≤ m.length ∧ (Value.int .i64 ((k : Int) + 1)) = .int .i64 k' ∧ BestRel w (wr.drewN n) w.heap.size w1.heap.size (Ag.run kind m k') ∧ Below w1.heap.size w1 (wr.drewN n)) :=
        Lib.hid fun n e => ⟨k + 1, by omega, by omega, by go_num, by rw [hst.out, e]; exact HR.out.drewN n, HBB.out.trans (below_drewN _ _ _)⟩
      have turn : Hid (∀ n, Ag.best kind ⟨so, sn⟩ ⟨eo, en⟩ = ⟨eo, en⟩ → ∃ k' : Nat, 1 ≤ k' ∧ k' ≤ m.length ∧ (Value.int .i64 ((k : Int) + 1)) = .int .i64 k' ∧ BestRel w (((wr.drewN n).setCell ⟨w1.heap.size, 0, none⟩ (.bool eo)).setCell ⟨w1.heap.size, 1, none⟩ (.int .i64 en)) w.heap.size w1.heap.size (Ag.run kind m k') ∧ Below w1.heap.size w1 (((wr.drewN n).setCell ⟨w1.heap.size, 0, none⟩ (.bool eo)).setCell ⟨w1.heap.size, 1, none⟩ (.int .i64 en))) :=
        Lib.hid fun n e => ⟨k + 1, by omega, by omega, by go_num, by rw [hst.out, e]; exact (HR.out.drewN n).set_ _ _, Below.setCell (Below.setCell (HBB.out.trans (below_drewN _ _ _)) (Nat.le_refl _) _) (Nat.le_refl _) _⟩
      by_cases h4 : kind = 4
      · have d4 : (kind == 4) = true := by simpa using h4
        have d5 : (kind == 5) = false := by rw [h4]; rfl
        have H4 := Lib.hid h4
        clear h4
        by_cases hc : sn < en
        · have hd : decide (sn < en) = true := by simpa using hc
          go_wp2_with fail
          go_quiet (fail)
          go_wp2_with fail
          go_roundw
          case rel => exact turn.out _ (by rw [H4.out]; exact Ag.best_4 hc)
          case measure => simp [intOf]; omega
        · have hd : decide (sn < en) = false := by simpa using hc
          go_wp2_with fail
          go_quiet (fail)
          go_wp2_with fail
          go_roundw
          case rel => exact stay.out _ (by rw [H4.out]; exact Ag.best_4n (Int.not_lt.2 hc))
          case measure => simp [intOf]; omega
      by_cases h5 : kind = 5
      · have d4 : (kind == 4) = false := by simpa using h4
        have d5 : (kind == 5) = true := by simpa using h5
        have H5 := Lib.hid h5
        clear h5 h4
        by_cases hc : en < sn
        · have hd : decide (en < sn) = true := by simpa using hc
          go_wp2_with fail
          go_quiet (fail)
          go_wp2_with fail
          go_roundw
          case rel => exact turn.out _ (by rw [H5.out]; exact Ag.best_5 hc)
          case measure => simp [intOf]; omega
        · have hd : decide (en < sn) = false := by simpa using hc
          go_wp2_with fail
          go_quiet (fail)
          go_wp2_with fail
          go_roundw
          case rel => exact stay.out _ (by rw [H5.out]; exact Ag.best_5n (Int.not_lt.2 hc))
          case measure => simp [intOf]; omega
      have d4 : (kind == 4) = false := by simpa using h4
      have d5 : (kind == 5) = false := by simpa using h5
      go_wp2_with fail
      go_quiet (fail)
      go_wp2_with fail
      go_roundw
      case rel => exact stay.out _ (Ag.best_no h4 h5)
      case measure => simp [intOf]; omega
    · obtain rfl : k = m.length := by omega
      have HBL := Lib.hid hR.below
      have hr0 := hR.r0
      have hrs := hR.rs
      have hqw : w.heap.size < wr.heap.size := Nat.lt_trans hrs hsz
      have HVR := Lib.hid hvr
      have HA : Hid (∀ W, Below wr.heap.size wr W → Calls Try.prog 24 #[.slice (some ⟨b, off, none⟩) m.length cap] W fun e w' => e = .returned (.agg #[.bool (sum m).ok, .int .i64 (sum m).n]) ∧ Below W.heap.size W w') := Lib.hid fun W hb => refAdd_some m (by omega) b off cap W (hvr.below hb)
      have hlast0 := hvr.ok (m.length - 1) (by omega)
      have hlast1 := hvr.n (m.length - 1) (by omega)
      have hbr := hvr.lt
      clear hR hvr HRS HRO HBR
      by_cases h1 : kind = 1
      · subst h1
        have HI : Hid (∀ W, Calls Try.prog 26 #[.int .i64 (m.length : Int)] W fun e w' => e = .returned (.agg #[.bool (Fx.of ((m.length : Int) * 1000000)).ok, .int .i64 (Fx.of ((m.length : Int) * 1000000)).n]) ∧ Below W.heap.size W w') := Lib.hid fun W => refInt_any _ W
        have HD : Hid (∀ s d W, Calls Try.prog 25 #[(.agg #[.bool s.ok, .int .i64 s.n]), (.agg #[.bool d.ok, .int .i64 d.n])] W fun e w' => e = .returned (.agg #[.bool (Fx.div s d).ok, .int .i64 (Fx.div s d).n]) ∧ Below W.heap.size W w') := Lib.hid fun s d W => refDiv_any s.ok s.n d.ok d.n W
        replace HD := Lib.hid (HD.out (sum m) (Fx.of ((m.length : Int) * 1000000)))
        have hq := HQ.out.symm.trans (Ag.tg_1 hz0)
        clear hlast0 hlast1 sc0 sc1
        generalize Fx.div (sum m) (Fx.of ((m.length : Int) * 1000000)) = q' at *
        generalize Fx.of ((m.length : Int) * 1000000) = d at *
        generalize sum m = s at *
        obtain ⟨qo, qn⟩ := q'
        subst hq
        obtain ⟨do_, dn⟩ := d
        obtain ⟨so, sn⟩ := s
        go_wp2_with first | (go_at_call 24; (((with_reducible refine (HA.out _ (Below.refl _ _)).mono ?_)); rintro e w5 ⟨rfl, hb5⟩; obtain ⟨hc5, hf5⟩ := bcell hb5; (try have hq5w : w.heap.size < w5.heap.size := Nat.lt_of_lt_of_le (by first | assumption | (simp; done) | (simp; omega)) hb5.size); (try have hq5wr : wr.heap.size < w5.heap.size := Nat.lt_of_lt_of_le (by first | assumption | (simp; done) | (simp; omega)) hb5.size); have hs5 := hb5.size; (try simp at hs5))) | (go_at_call 26; (((with_reducible refine (HI.out _).mono ?_)); rintro e w6 ⟨rfl, hb6⟩; obtain ⟨hc6, hf6⟩ := bcell hb6; (try have hq6w : w.heap.size < w6.heap.size := Nat.lt_of_lt_of_le (by first | assumption | (simp; done) | (simp; omega)) hb6.size); (try have hq6w5 : w5.heap.size < w6.heap.size := Nat.lt_of_lt_of_le (by first | assumption | (simp; done) | (simp; omega)) hb6.size); have hs6 := hb6.size; (try simp at hs6))) | (go_at_call 25; (((with_reducible refine (HD.out _).mono ?_)); rintro e w7 ⟨rfl, hb7⟩; obtain ⟨hc7, hf7⟩ := bcell hb7; (try have hq7w : w.heap.size < w7.heap.size := Nat.lt_of_lt_of_le (by first | assumption | (simp; done) | (simp; omega)) hb7.size); (try have hq7w6 : w6.heap.size < w7.heap.size := Nat.lt_of_lt_of_le (by first | assumption | (simp; done) | (simp; omega)) hb7.size); have hs7 := hb7.size; (try simp at hs7)))
        have HBX : Hid (Below wr.heap.size wr w7) := Lib.hid (by repeat (first | exact Below.refl _ _ | assumption | refine Below.setCell ?_ (by first | (simp; done) | omega | (simp; omega) | (simp at *; omega)) _ | refine Below.alloc ?_ (by first | (simp; done) | omega | (simp; omega) | (simp at *; omega)) _ | refine Below.drew ?_ | (refine Below.trans ?_ (Below.mono (by assumption) (by first | (simp; done) | omega | (simp; omega) | (simp at *; omega)))) | (refine Below.trans ?_ (Below.mono (below_regrown _ _ _) (by first | (simp; done) | omega | (simp; omega) | (simp at *; omega))))))
        exact bodyPost_ret (v := .agg #[.bool qo, .int .i64 qn]) (by simp [results, Try.results9, go_sem, *]) rfl ⟨rfl, Below.setCell (Below.setCell (HBL.out.trans (HBX.out.mono (Nat.le_of_lt hqw))) (Nat.le_refl _) _) (Nat.le_refl _) _⟩
      by_cases h2 : kind = 2
      · subst h2
        have hq := HQ.out.symm.trans (Ag.tg_2 hz0)
        clear hlast0 hlast1 sc0 sc1
        generalize sum m = s at *
        obtain ⟨so, sn⟩ := s
        subst hq
        go_wp2_with (go_at_call 24; (((with_reducible refine (HA.out _ (Below.refl _ _)).mono ?_)); rintro e w5 ⟨rfl, hb5⟩; obtain ⟨hc5, hf5⟩ := bcell hb5; (try have hq5w : w.heap.size < w5.heap.size := Nat.lt_of_lt_of_le (by first | assumption | (simp; done) | (simp; omega)) hb5.size); (try have hq5wr : wr.heap.size < w5.heap.size := Nat.lt_of_lt_of_le (by first | assumption | (simp; done) | (simp; omega)) hb5.size); have hs5 := hb5.size; (try simp at hs5)))
        have HBX : Hid (Below wr.heap.size wr w5) := Lib.hid (by repeat (first | exact Below.refl _ _ | assumption | refine Below.setCell ?_ (by first | (simp; done) | omega | (simp; omega) | (simp at *; omega)) _ | refine Below.alloc ?_ (by first | (simp; done) | omega | (simp; omega) | (simp at *; omega)) _ | refine Below.drew ?_ | (refine Below.trans ?_ (Below.mono (by assumption) (by first | (simp; done) | omega | (simp; omega) | (simp at *; omega)))) | (refine Below.trans ?_ (Below.mono (below_regrown _ _ _) (by first | (simp; done) | omega | (simp; omega) | (simp at *; omega))))))
        exact bodyPost_ret (v := .agg #[.bool so, .int .i64 sn]) (by simp [results, Try.results9, go_sem, *]) rfl ⟨rfl, Below.setCell (Below.setCell (HBL.out.trans (HBX.out.mono (Nat.le_of_lt hqw))) (Nat.le_refl _) _) (Nat.le_refl _) _⟩
      clear HA
      by_cases h3 : kind = 3
      · subst h3
        have hq := HQ.out.symm.trans (Ag.tg_3 hz0)
        generalize m[m.length - 1]'(by omega) = e at *
        obtain ⟨eo, en⟩ := e
        subst hq
        clear HV1 HVR HK HQ
        generalize m.length = n at *
        obtain ⟨p, rfl⟩ : ∃ p, n = p + 1 := ⟨n - 1, by omega⟩
        simp only [Nat.add_sub_cancel] at hlast0 hlast1
        go_wp2_with fail
        exact bodyPost_ret (v := .agg #[.bool eo, .int .i64 en]) (by simp [results, Try.results9, go_sem, *]) rfl ⟨rfl, Below.setCell (Below.setCell HBL.out (Nat.le_refl _) _) (Nat.le_refl _) _⟩
      by_cases h4 : kind = 4
      · subst h4
        have hq := HQ.out.symm.trans ((Ag.tg_4 hz0).trans (Ag.run_4 m).symm)
        clear hlast0 hlast1
        generalize Ag.run 4 m m.length = s at *
        obtain ⟨so, sn⟩ := s
        subst hq
        go_wp2_with fail
        exact bodyPost_ret (v := .agg #[.bool so, .int .i64 sn]) (by simp [results, Try.results9, go_sem, *]) rfl ⟨rfl, Below.setCell (Below.setCell HBL.out (Nat.le_refl _) _) (Nat.le_refl _) _⟩
      obtain rfl : kind = 5 := by omega
      have hq := HQ.out.symm.trans ((Ag.tg_5 hz0).trans (Ag.run_5 m).symm)
      clear hlast0 hlast1
      generalize Ag.run 5 m m.length = s at *
      obtain ⟨so, sn⟩ := s
      subst hq
      go_wp2_with fail
      exact bodyPost_ret (v := .agg #[.bool so, .int .i64 sn]) (by simp [results, Try.results9, go_sem, *]) rfl ⟨rfl, Below.setCell (Below.setCell HBL.out (Nat.le_refl _) _) (Nat.le_refl _) _⟩
end Go.Proofs.Ytjaclmhfagdfhaa
