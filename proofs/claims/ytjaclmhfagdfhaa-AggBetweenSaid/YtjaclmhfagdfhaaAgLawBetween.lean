/-
  AggBetween: for every slice of Vals (nil too, of whatever length) the law's call returns true and leaves its argument as it was. No condition.
-/
import Derived.Test.YtjaclmhfagdfhaaAgLaw
import Derived.Test.YtjaclmhfagdfhaaAgBet
import Derived.Test.YtjaclmhfagdfhaaAgOp
import Derived.ProofKit
import Derived.OpenShut
import Derived.ChangeOld
import Derived.Below
import Derived.Lib.SmallJoins
import Derived.ChangeArms
namespace Go.Proofs.Ytjaclmhfagdfhaa
open Go.RowKit Go.Sort
open Fx (Vl)
open Me

/-- Two cells that hold a value. -/
structure At2 (W : World) (p : Nat) (v : Vl) : Prop where
  lt : p < W.heap.size
  c0 : W.cell? ⟨p, 0, none⟩ = some (.bool v.ok)
  c1 : W.cell? ⟨p, 1, none⟩ = some (.int .i64 v.n)
theorem At2.below {W W' : World} {p : Nat} {v : Vl} (h : At2 W p v) (hb : Below W.heap.size W W') : At2 W' p v :=
  ⟨Nat.lt_of_lt_of_le h.lt hb.size, ((bcell hb).1 _ _ h.lt).trans h.c0, ((bcell hb).1 _ _ h.lt).trans h.c1⟩
theorem four_at {w w' : World} {T : TypeId} {a b c d : Vl}
    (hb : Below ((((w.alloc (.cells #[.bool a.ok, .int .i64 a.n] T)).alloc (.cells #[.bool b.ok, .int .i64 b.n] T)).alloc (.cells #[.bool c.ok, .int .i64 c.n] T)).alloc (.cells #[.bool d.ok, .int .i64 d.n] T)).heap.size ((((w.alloc (.cells #[.bool a.ok, .int .i64 a.n] T)).alloc (.cells #[.bool b.ok, .int .i64 b.n] T)).alloc (.cells #[.bool c.ok, .int .i64 c.n] T)).alloc (.cells #[.bool d.ok, .int .i64 d.n] T)) w') :
    At2 w' w.heap.size a ∧ At2 w' (w.heap.size + 1) b ∧ At2 w' (w.heap.size + 1 + 1) c ∧ At2 w' (w.heap.size + 1 + 1 + 1) d := by
  refine ⟨At2.below ⟨?_, ?_, ?_⟩ hb, At2.below ⟨?_, ?_, ?_⟩ hb, At2.below ⟨?_, ?_, ?_⟩ hb, At2.below ⟨?_, ?_, ?_⟩ hb⟩
  all_goals first | (simp [go_sem]; done) | (simp [go_sem]; omega)
theorem four_below {w w' : World} {T : TypeId} {a b c d : Array Value} (hb : Below ((((w.alloc (.cells a T)).alloc (.cells b T)).alloc (.cells c T)).alloc (.cells d T)).heap.size ((((w.alloc (.cells a T)).alloc (.cells b T)).alloc (.cells c T)).alloc (.cells d T)) w') : Below w.heap.size w w' :=
  ((((((Below.refl _ _).alloc (Nat.le_refl _) _).alloc (by simp) _).alloc (by simp; omega) _).alloc (by simp; omega) _)).trans (hb.mono (by simp; omega))
theorem less_no1 {a b : Vl} (h : b.n ≤ a.n) : Fx.less a b = false := by unfold Fx.less; simp; omega

set_option maxRecDepth 100000 in
set_option maxHeartbeats 4000000 in
theorem between_any (l : List Vl) (A : Option Addr) (c : Nat) (w : World) (hv : Sl w (.slice A l.length c) l) :
    Calls Try.prog 6 #[.slice A l.length c] w fun e w' => e = .returned (.bool true) ∧ Below w.heap.size w w' := by
  by_cases hlong : 200 < (l.length : Int)
  · clear hv
    go_enter Try.func6, Try.ntmps6
    go_wp2
    go_ret
    exact ⟨rfl, Below.refl _ _⟩
  have hl : l.length ≤ 200 := by omega
  have hkl : (Ag.kn l).length ≤ 200 := Nat.le_trans (Ag.kn_len l) hl
  have HS := Lib.hid (fun W (hb : Below w.heap.size w W) => hv.below hb)
  have OF : Hid (∀ kind W, Below w.heap.size w W → Calls Try.prog 8 #[.int .i64 kind, .slice A l.length c] W fun e w' => e = .returned (.agg #[.bool (Ag.tg kind (Ag.kn l)).ok, .int .i64 (Ag.tg kind (Ag.kn l)).n]) ∧ Below W.heap.size W w') := Lib.hid fun kind W hb => of_v kind l (by omega) _ W (HS.out W hb)
  have KN : Hid (∀ W, Below w.heap.size w W → Calls Try.prog 12 #[.slice A l.length c] W (Knew W (Ag.kn l))) := Lib.hid fun W hb => refKnown_v l (by omega) _ W (HS.out W hb)
  have hnum := Ag.kn_num l
  clear hv
  generalize Ag.kn l = m at *
  by_cases hz : m.length = 0
  · have E : ∀ kind, Ag.tg kind m = Fx.none := fun kind => if_pos hz
    have OF0 : Hid (∀ kind W, Below w.heap.size w W → Calls Try.prog 8 #[.int .i64 kind, .slice A l.length c] W fun e w' => e = .returned (.agg #[.bool false, .int .i64 0]) ∧ Below W.heap.size W w') := Lib.hid fun kind W hb => by
      have h := OF.out kind W hb
      rw [E kind] at h
      exact h
    have hzi : (m.length : Int) = 0 := by omega
    clear OF E hnum
    go_enter Try.func6, Try.ntmps6
    go_wp2_with first | (go_at_call 8; ((with_reducible refine (OF0.out 5 _ (Below.refl _ _)).mono ?_); rintro e w1 ⟨rfl, hb1⟩; have hs1 := hb1.size; have HB1 : Hid (Below w.heap.size w w1) := Lib.hid (hb1))) | (go_at_call 8; ((with_reducible refine (OF0.out 4 _ HB1.out).mono ?_); rintro e w2 ⟨rfl, hb2⟩; have hs2 := hb2.size; have HB2 : Hid (Below w.heap.size w w2) := Lib.hid (HB1.out.trans (hb2.mono HB1.out.size)))) | (go_at_call 8; ((with_reducible refine (OF0.out 1 _ HB2.out).mono ?_); rintro e w3 ⟨rfl, hb3⟩; have hs3 := hb3.size; have HB3 : Hid (Below w.heap.size w w3) := Lib.hid (HB2.out.trans (hb3.mono HB2.out.size)))) | (go_at_call 8; ((with_reducible refine (OF0.out 3 _ HB3.out).mono ?_); rintro e w4 ⟨rfl, hb4⟩; have hs4 := hb4.size; have HB4 : Hid (Below w.heap.size w w4) := Lib.hid (HB3.out.trans (hb4.mono HB3.out.size)))) | (go_at_call 12; ((refine (KN.out _ (by repeat (first | exact Below.refl _ _ | assumption | refine Below.setCell ?_ (by first | (simp; done) | omega | (simp; omega) | (simp at *; omega)) _ | refine Below.alloc ?_ (by first | (simp; done) | omega | (simp; omega) | (simp at *; omega)) _ | refine Below.drew ?_ | (refine Below.trans ?_ (Below.mono (by assumption) (by first | (simp; done) | omega | (simp; omega) | (simp at *; omega)))) | (refine Below.trans ?_ (Below.mono (below_regrown _ _ _) (by first | (simp; done) | omega | (simp; omega) | (simp at *; omega))))))).mono ?_); rintro e w5 ⟨v5, rfl, ho5, hb5⟩; obtain ⟨A5, c5, rfl⟩ := ho5.slice; obtain ⟨⟨p1, x10, x11⟩, ⟨p2, x20, x21⟩, ⟨p3, x30, x31⟩, ⟨p4, x40, x41⟩⟩ := four_at (a := ⟨false, 0⟩) (b := ⟨false, 0⟩) (c := ⟨false, 0⟩) (d := ⟨false, 0⟩) hb5; have y10 : w5.cell? ⟨w4.heap.size, 0, none⟩ = some (.bool false) := x10; have y11 : w5.cell? ⟨w4.heap.size, 1, none⟩ = some (.int .i64 0) := x11; have y20 : w5.cell? ⟨w4.heap.size + 1, 0, none⟩ = some (.bool false) := x20; have y21 : w5.cell? ⟨w4.heap.size + 1, 1, none⟩ = some (.int .i64 0) := x21; have y30 : w5.cell? ⟨w4.heap.size + 1 + 1, 0, none⟩ = some (.bool false) := x30; have y31 : w5.cell? ⟨w4.heap.size + 1 + 1, 1, none⟩ = some (.int .i64 0) := x31; have y40 : w5.cell? ⟨w4.heap.size + 1 + 1 + 1, 0, none⟩ = some (.bool false) := x40; have y41 : w5.cell? ⟨w4.heap.size + 1 + 1 + 1, 1, none⟩ = some (.int .i64 0) := x41; have HB5 : Hid (Below w.heap.size w w5) := Lib.hid (HB4.out.trans ((four_below hb5).mono HB4.out.size)); clear x10 x11 x20 x21 x30 x31 x40 x41 hb5 ho5)) | (go_at_call 13; (((with_reducible refine (known6_any _).mono ?_)); rintro e w6 ⟨rfl, hb6⟩; obtain ⟨hc6, hf6⟩ := bcell hb6; (try have hq6w : w.heap.size < w6.heap.size := Nat.lt_of_lt_of_le (by first | assumption | (simp; done) | (simp; omega)) hb6.size); have hs6 := hb6.size; (try simp at hs6)))
    go_ret
    exact ⟨rfl, HB5.out.trans (hb6.mono HB5.out.size)⟩
  have h0 : 0 < m.length := by omega
  have hlo : ∀ i (h : i < m.length), (Ag.mn m).n ≤ m[i].n := fun i h => Ag.mn_le _ (List.getElem_mem h)
  have hhi : ∀ i (h : i < m.length), m[i].n ≤ (Ag.mx m).n := fun i h => Ag.mx_ge _ (List.getElem_mem h)
  have HME := Ag.between m hnum h0 (by omega)
  have HLA := Lib.hid (Ag.tg_3 h0)
  have OL : Hid (∀ W, Below w.heap.size w W → Calls Try.prog 8 #[.int .i64 5, .slice A l.length c] W fun e w' => e = .returned (.agg #[.bool (Ag.mn m).ok, .int .i64 (Ag.mn m).n]) ∧ Below W.heap.size W w') := Lib.hid fun W hb => by
    have h := OF.out 5 W hb
    rw [Ag.tg_5 h0] at h
    exact h
  have OH : Hid (∀ W, Below w.heap.size w W → Calls Try.prog 8 #[.int .i64 4, .slice A l.length c] W fun e w' => e = .returned (.agg #[.bool (Ag.mx m).ok, .int .i64 (Ag.mx m).n]) ∧ Below W.heap.size W w') := Lib.hid fun W hb => by
    have h := OF.out 4 W hb
    rw [Ag.tg_4 h0] at h
    exact h
  have OM := Lib.hid (OF.out 1)
  have OE := Lib.hid (OF.out 3)
  clear OF hnum
  generalize Ag.mn m = lo at *
  generalize Ag.mx m = hi at *
  generalize Ag.tg 1 m = me at *
  generalize Ag.tg 3 m = la at *
  obtain ⟨loo, lon⟩ := lo
  obtain ⟨hio, hin⟩ := hi
  obtain ⟨meo, men⟩ := me
  obtain ⟨lao, lan⟩ := la
  have HLO : Hid (∀ i (h : i < m.length), lon ≤ m[i].n) := Lib.hid hlo
  have HHI : Hid (∀ i (h : i < m.length), m[i].n ≤ hin) := Lib.hid hhi
  have hme : meo = true → lon ≤ men ∧ men ≤ hin := fun e => by
    rcases HME with h | h
    · injection h with h1 h2; rw [h1] at e; cases e
    · exact h
  have HMM := Lib.hid hme
  clear hlo hhi HME hme
  have hzi : ¬ ((m.length : Int) = 0) := by omega
  have hzb : ((m.length : Int) == 0) = false := by simpa using hz
  go_enter Try.func6, Try.ntmps6
  go_wp2_with first | (go_at_call 8; ((with_reducible refine (OL.out _ (Below.refl _ _)).mono ?_); rintro e w1 ⟨rfl, hb1⟩; have hs1 := hb1.size; have HB1 : Hid (Below w.heap.size w w1) := Lib.hid (hb1))) | (go_at_call 8; ((with_reducible refine (OH.out _ HB1.out).mono ?_); rintro e w2 ⟨rfl, hb2⟩; have hs2 := hb2.size; have HB2 : Hid (Below w.heap.size w w2) := Lib.hid (HB1.out.trans (hb2.mono HB1.out.size)))) | (go_at_call 8; ((with_reducible refine (OM.out _ HB2.out).mono ?_); rintro e w3 ⟨rfl, hb3⟩; have hs3 := hb3.size; have HB3 : Hid (Below w.heap.size w w3) := Lib.hid (HB2.out.trans (hb3.mono HB2.out.size)))) | (go_at_call 8; ((with_reducible refine (OE.out _ HB3.out).mono ?_); rintro e w4 ⟨rfl, hb4⟩; have hs4 := hb4.size; have HB4 : Hid (Below w.heap.size w w4) := Lib.hid (HB3.out.trans (hb4.mono HB3.out.size)))) | (go_at_call 12; ((refine (KN.out _ (by repeat (first | exact Below.refl _ _ | assumption | refine Below.setCell ?_ (by first | (simp; done) | omega | (simp; omega) | (simp at *; omega)) _ | refine Below.alloc ?_ (by first | (simp; done) | omega | (simp; omega) | (simp at *; omega)) _ | refine Below.drew ?_ | (refine Below.trans ?_ (Below.mono (by assumption) (by first | (simp; done) | omega | (simp; omega) | (simp at *; omega)))) | (refine Below.trans ?_ (Below.mono (below_regrown _ _ _) (by first | (simp; done) | omega | (simp; omega) | (simp at *; omega))))))).mono ?_); rintro e w5 ⟨v5, rfl, ho5, hb5⟩; obtain ⟨b, off, cap, rfl, hv5⟩ := ho5.vals h0; have H4 := Lib.hid (four_at (a := ⟨loo, lon⟩) (b := ⟨hio, hin⟩) (c := ⟨meo, men⟩) (d := ⟨lao, lan⟩) hb5); have HB5 : Hid (Below w.heap.size w w5) := Lib.hid (HB4.out.trans ((four_below hb5).mono HB4.out.size)); have HV5 := Lib.hid hv5; have hs5 := HB5.out.size; clear hb5 ho5 hv5 hs1 hs2 hs3 hs4 HB1 HB2 HB3 HB4 hb1 hb2 hb3 hb4; generalize w4.heap.size + 1 + 1 + 1 = g4 at *; generalize w4.heap.size + 1 + 1 = g3 at *; generalize w4.heap.size + 1 = g2 at *; generalize w4.heap.size = g1 at *))
  go_loopw [8, 9] (fun u i wr => ∃ (k : Nat) (bb : Bool), k ≤ m.length ∧ u = .bool bb ∧ i = .int .i64 k ∧ (k = m.length → bb = true) ∧ Below w5.heap.size w5 wr) (fun _ i _ => m.length - (intOf i).toNat)
  case atStart => exact ⟨0, false, Nat.zero_le _, rfl, rfl, fun e => by omega, Below.refl _ _⟩
  case round =>
    obtain ⟨k, bb, hk, rfl, rfl, hbb, hbel⟩ := hrel
    have HR := Lib.hid hbel
    have hws := hbel.size
    obtain ⟨⟨q1, c10, c11⟩, ⟨q2, c20, c21⟩, ⟨q3, c30, c31⟩, ⟨q4, c40, c41⟩⟩ : At2 wr g1 ⟨loo, lon⟩ ∧ At2 wr g2 ⟨hio, hin⟩ ∧ At2 wr g3 ⟨meo, men⟩ ∧ At2 wr g4 ⟨lao, lan⟩ := ⟨H4.out.1.below hbel, H4.out.2.1.below hbel, H4.out.2.2.1.below hbel, H4.out.2.2.2.below hbel⟩
    have hvr := HV5.out.below hbel
    by_cases hlt : k < m.length
    · have ec0 := hvr.ok k hlt
      have ec1 := hvr.n k hlt
      have hbr := hvr.lt
      have hge := HLO.out k hlt
      have hle := HHI.out k hlt
      have hkl : (k : Int) < (m.length : Int) := by omega
      have hk0 : (0 : Int) ≤ (k : Int) := by omega
      have hend : Hid (k + 1 = m.length → m[k] = ⟨lao, lan⟩) := Lib.hid fun e => by
        rw [HLA.out]
        congr 1
        omega
      clear hbel hvr
      generalize m[k] = ek at *
      obtain ⟨eo, en⟩ := ek
      simp only at hge hle ec0 ec1 c10 c11 c20 c21 c40 c41
      clear c30 c31
      have L1 : Hid (∀ W, Calls Try.prog 22 #[.agg #[.bool eo, .int .i64 en], .agg #[.bool loo, .int .i64 lon]] W fun e w' => e = .returned (.bool false) ∧ Below W.heap.size W w') := Lib.hid fun W => by
        have h := refLess_any eo en loo lon W
        rw [less_no1 (a := ⟨eo, en⟩) (b := ⟨loo, lon⟩) hge] at h
        exact h
      have L2 : Hid (∀ W, Calls Try.prog 22 #[.agg #[.bool hio, .int .i64 hin], .agg #[.bool eo, .int .i64 en]] W fun e w' => e = .returned (.bool false) ∧ Below W.heap.size W w') := Lib.hid fun W => by
        have h := refLess_any hio hin eo en W
        rw [less_no1 (a := ⟨hio, hin⟩) (b := ⟨eo, en⟩) hle] at h
        exact h
      obtain ⟨kc, kf⟩ := kgrown wr
      cases bb
      · by_cases h1 : eo = lao
        · subst h1
          by_cases h2 : en = lan
          · subst h2
            go_wp2_with fail
            refine wp_region_quiet_below (by kernel_rfl) (by kernel_rfl) ?_
            repeat (go_big_quiet_step (fail))
            refine wpQuiet_nil ?_
            intro _ hw'
            obtain ⟨⟨dq, osq⟩, hw''⟩ := hw'
            subst hw''
            have hbx := below_regrown wr dq osq
            have hxs := hbx.size
            obtain ⟨xc, xf⟩ := bcell hbx
            have x10 := (xc g1 0 q1).trans c10
            have x11 := (xc g1 1 q1).trans c11
            have x20 := (xc g2 0 q2).trans c20
            have x21 := (xc g2 1 q2).trans c21
            have xe0 := (xc b _ hbr).trans ec0
            have xe1 := (xc b _ hbr).trans ec1
            have p1 := Nat.lt_of_lt_of_le q1 hxs
            have p2 := Nat.lt_of_lt_of_le q2 hxs
            have pb := Nat.lt_of_lt_of_le hbr hxs
            clear xc xf kc kf
            generalize grow (redrawn wr dq) osq = wx at *
            obtain ⟨kc, kf⟩ := kgrown wx
            go_wp2_with fail
            refine wp_region_quiet_below (by kernel_rfl) (by kernel_rfl) ?_
            repeat (go_big_quiet_step (first | (go_at_call 22; with_reducible exact Calls.regrown_of (L1.out _)) | (go_at_call 22; with_reducible exact Calls.regrown_of (L2.out _))))
            refine wpQuiet_nil ?_
            intro _ hw'
            obtain ⟨⟨dq2, osq2⟩, hw''⟩ := hw'
            subst hw''
            have hby := below_regrown wx dq2 osq2
            go_wp2_with fail
            go_roundw
            case rel => exact ⟨k + 1, true, by omega, rfl, by go_num, fun _ => rfl, HR.out.trans ((hbx.trans (hby.mono hxs)).mono hws)⟩
            case measure => simp [intOf]; omega
          · have HNO : Hid (k + 1 = m.length → False) := Lib.hid fun e => by
              have h := hend.out e
              injection h with _ h3
              exact h2 h3
            go_wp2_with fail
            refine wp_region_quiet_below (by kernel_rfl) (by kernel_rfl) ?_
            repeat (go_big_quiet_step (fail))
            refine wpQuiet_nil ?_
            intro _ hw'
            obtain ⟨⟨dq, osq⟩, hw''⟩ := hw'
            subst hw''
            have hbx := below_regrown wr dq osq
            have hxs := hbx.size
            obtain ⟨xc, xf⟩ := bcell hbx
            have x10 := (xc g1 0 q1).trans c10
            have x11 := (xc g1 1 q1).trans c11
            have x20 := (xc g2 0 q2).trans c20
            have x21 := (xc g2 1 q2).trans c21
            have xe0 := (xc b _ hbr).trans ec0
            have xe1 := (xc b _ hbr).trans ec1
            have p1 := Nat.lt_of_lt_of_le q1 hxs
            have p2 := Nat.lt_of_lt_of_le q2 hxs
            have pb := Nat.lt_of_lt_of_le hbr hxs
            clear xc xf kc kf
            generalize grow (redrawn wr dq) osq = wx at *
            obtain ⟨kc, kf⟩ := kgrown wx
            go_wp2_with fail
            refine wp_region_quiet_below (by kernel_rfl) (by kernel_rfl) ?_
            repeat (go_big_quiet_step (first | (go_at_call 22; with_reducible exact Calls.regrown_of (L1.out _)) | (go_at_call 22; with_reducible exact Calls.regrown_of (L2.out _))))
            refine wpQuiet_nil ?_
            intro _ hw'
            obtain ⟨⟨dq2, osq2⟩, hw''⟩ := hw'
            subst hw''
            have hby := below_regrown wx dq2 osq2
            go_wp2_with fail
            go_roundw
            case rel => exact ⟨k + 1, false, by omega, rfl, by go_num, fun e => (HNO.out e).elim, HR.out.trans ((hbx.trans (hby.mono hxs)).mono hws)⟩
            case measure => simp [intOf]; omega
        · have HNO : Hid (k + 1 = m.length → False) := Lib.hid fun e => by
            have h := hend.out e
            injection h with h3 _
            exact h1 h3
          clear hend
          cases eo
          · cases lao
            · exact absurd rfl h1
            · clear h1
              go_wp2_with fail
              refine wp_region_quiet_below (by kernel_rfl) (by kernel_rfl) ?_
              repeat (go_big_quiet_step (fail))
              refine wpQuiet_nil ?_
              intro _ hw'
              obtain ⟨⟨dq, osq⟩, hw''⟩ := hw'
              subst hw''
              have hbx := below_regrown wr dq osq
              have hxs := hbx.size
              obtain ⟨xc, xf⟩ := bcell hbx
              have x10 := (xc g1 0 q1).trans c10
              have x11 := (xc g1 1 q1).trans c11
              have x20 := (xc g2 0 q2).trans c20
              have x21 := (xc g2 1 q2).trans c21
              have xe0 := (xc b _ hbr).trans ec0
              have xe1 := (xc b _ hbr).trans ec1
              have p1 := Nat.lt_of_lt_of_le q1 hxs
              have p2 := Nat.lt_of_lt_of_le q2 hxs
              have pb := Nat.lt_of_lt_of_le hbr hxs
              clear xc xf kc kf
              generalize grow (redrawn wr dq) osq = wx at *
              obtain ⟨kc, kf⟩ := kgrown wx
              go_wp2_with fail
              refine wp_region_quiet_below (by kernel_rfl) (by kernel_rfl) ?_
              repeat (go_big_quiet_step (first | (go_at_call 22; with_reducible exact Calls.regrown_of (L1.out _)) | (go_at_call 22; with_reducible exact Calls.regrown_of (L2.out _))))
              refine wpQuiet_nil ?_
              intro _ hw'
              obtain ⟨⟨dq2, osq2⟩, hw''⟩ := hw'
              subst hw''
              have hby := below_regrown wx dq2 osq2
              go_wp2_with fail
              go_roundw
              case rel => exact ⟨k + 1, false, by omega, rfl, by go_num, fun e => (HNO.out e).elim, HR.out.trans ((hbx.trans (hby.mono hxs)).mono hws)⟩
              case measure => simp [intOf]; omega
          · cases lao
            · clear h1
              go_wp2_with fail
              refine wp_region_quiet_below (by kernel_rfl) (by kernel_rfl) ?_
              repeat (go_big_quiet_step (fail))
              refine wpQuiet_nil ?_
              intro _ hw'
              obtain ⟨⟨dq, osq⟩, hw''⟩ := hw'
              subst hw''
              have hbx := below_regrown wr dq osq
              have hxs := hbx.size
              obtain ⟨xc, xf⟩ := bcell hbx
              have x10 := (xc g1 0 q1).trans c10
              have x11 := (xc g1 1 q1).trans c11
              have x20 := (xc g2 0 q2).trans c20
              have x21 := (xc g2 1 q2).trans c21
              have xe0 := (xc b _ hbr).trans ec0
              have xe1 := (xc b _ hbr).trans ec1
              have p1 := Nat.lt_of_lt_of_le q1 hxs
              have p2 := Nat.lt_of_lt_of_le q2 hxs
              have pb := Nat.lt_of_lt_of_le hbr hxs
              clear xc xf kc kf
              generalize grow (redrawn wr dq) osq = wx at *
              obtain ⟨kc, kf⟩ := kgrown wx
              go_wp2_with fail
              refine wp_region_quiet_below (by kernel_rfl) (by kernel_rfl) ?_
              repeat (go_big_quiet_step (first | (go_at_call 22; with_reducible exact Calls.regrown_of (L1.out _)) | (go_at_call 22; with_reducible exact Calls.regrown_of (L2.out _))))
              refine wpQuiet_nil ?_
              intro _ hw'
              obtain ⟨⟨dq2, osq2⟩, hw''⟩ := hw'
              subst hw''
              have hby := below_regrown wx dq2 osq2
              go_wp2_with fail
              go_roundw
              case rel => exact ⟨k + 1, false, by omega, rfl, by go_num, fun e => (HNO.out e).elim, HR.out.trans ((hbx.trans (hby.mono hxs)).mono hws)⟩
              case measure => simp [intOf]; omega
            · exact absurd rfl h1
      · go_wp2_with fail
        refine wp_region_quiet_below (by kernel_rfl) (by kernel_rfl) ?_
        repeat (go_big_quiet_step (fail))
        refine wpQuiet_nil ?_
        intro _ hw'
        obtain ⟨⟨dq, osq⟩, hw''⟩ := hw'
        subst hw''
        have hbx := below_regrown wr dq osq
        have hxs := hbx.size
        obtain ⟨xc, xf⟩ := bcell hbx
        have x10 := (xc g1 0 q1).trans c10
        have x11 := (xc g1 1 q1).trans c11
        have x20 := (xc g2 0 q2).trans c20
        have x21 := (xc g2 1 q2).trans c21
        have xe0 := (xc b _ hbr).trans ec0
        have xe1 := (xc b _ hbr).trans ec1
        have p1 := Nat.lt_of_lt_of_le q1 hxs
        have p2 := Nat.lt_of_lt_of_le q2 hxs
        have pb := Nat.lt_of_lt_of_le hbr hxs
        clear xc xf kc kf
        generalize grow (redrawn wr dq) osq = wx at *
        obtain ⟨kc, kf⟩ := kgrown wx
        go_wp2_with fail
        refine wp_region_quiet_below (by kernel_rfl) (by kernel_rfl) ?_
        repeat (go_big_quiet_step (first | (go_at_call 22; with_reducible exact Calls.regrown_of (L1.out _)) | (go_at_call 22; with_reducible exact Calls.regrown_of (L2.out _))))
        refine wpQuiet_nil ?_
        intro _ hw'
        obtain ⟨⟨dq2, osq2⟩, hw''⟩ := hw'
        subst hw''
        have hby := below_regrown wx dq2 osq2
        go_wp2_with fail
        go_roundw
        case rel => exact ⟨k + 1, true, by omega, rfl, by go_num, fun _ => rfl, HR.out.trans ((hbx.trans (hby.mono hxs)).mono hws)⟩
        case measure => simp [intOf]; omega
    · obtain rfl : k = m.length := by omega
      obtain rfl : bb = true := hbb rfl
      have hbr := hvr.lt
      clear hbel hvr
      simp only at c10 c11 c20 c21 c30 c31 c40 c41
      cases meo
      · go_wp2_with (go_at_call 13; (((with_reducible refine (known6_any _).mono ?_)); rintro e w8 ⟨rfl, hb8⟩; obtain ⟨hc8, hf8⟩ := bcell hb8; (try have hq8w : w.heap.size < w8.heap.size := Nat.lt_of_lt_of_le (by first | assumption | (simp; done) | (simp; omega)) hb8.size); have hs8 := hb8.size; (try simp at hs8)))
        go_ret
        exact ⟨rfl, HB5.out.trans ((HR.out.trans (hb8.mono hws)).mono hs5)⟩
      · obtain ⟨m1, m2⟩ := HMM.out rfl
        have L1 : Hid (∀ W, Calls Try.prog 22 #[.agg #[.bool true, .int .i64 men], .agg #[.bool loo, .int .i64 lon]] W fun e w' => e = .returned (.bool false) ∧ Below W.heap.size W w') := Lib.hid fun W => by
          have h := refLess_any true men loo lon W
          rw [less_no1 (a := ⟨true, men⟩) (b := ⟨loo, lon⟩) m1] at h
          exact h
        have L2 : Hid (∀ W, Calls Try.prog 22 #[.agg #[.bool hio, .int .i64 hin], .agg #[.bool true, .int .i64 men]] W fun e w' => e = .returned (.bool false) ∧ Below W.heap.size W w') := Lib.hid fun W => by
          have h := refLess_any hio hin true men W
          rw [less_no1 (a := ⟨hio, hin⟩) (b := ⟨true, men⟩) m2] at h
          exact h
        go_wp2_with first
          | (go_at_call 22; ((with_reducible refine (L1.out _).mono ?_); rintro e w6 ⟨rfl, hb6⟩; have hs6 := hb6.size; obtain ⟨kc6, kf6⟩ := bcell hb6; have d20 := (kc6 g2 0 q2).trans c20; have d21 := (kc6 g2 1 q2).trans c21; have d30 := (kc6 g3 0 q3).trans c30; have d31 := (kc6 g3 1 q3).trans c31; have z2 := Nat.lt_of_lt_of_le q2 hs6; have z3 := Nat.lt_of_lt_of_le q3 hs6))
          | (go_at_call 22; ((with_reducible refine (L2.out _).mono ?_); rintro e w7 ⟨rfl, hb7⟩; have hs7 := hb7.size))
          | (go_at_call 13; (((with_reducible refine (known6_any _).mono ?_)); rintro e w8 ⟨rfl, hb8⟩; obtain ⟨hc8, hf8⟩ := bcell hb8; (try have hq8w : w.heap.size < w8.heap.size := Nat.lt_of_lt_of_le (by first | assumption | (simp; done) | (simp; omega)) hb8.size); have hs8 := hb8.size; (try simp at hs8)))
        go_ret
        exact ⟨rfl, HB5.out.trans ((HR.out.trans ((hb6.trans ((hb7.trans (hb8.mono hs7)).mono hs6)).mono hws)).mono hs5)⟩


namespace RowAggBetween
open Go.ChangeShapes Go.WideShapes Go.ChangeAt Go.RowKit Go.Joins
theorem own : ownKnob Try.prog.godebug = none := by kernel_rfl
theorem laidOut : laidOutB Try.prog = true := by kernel_rfl
set_option maxRecDepth 100000 in
theorem lifted (os : Os) (started : os.Started) (H : Type) (enc : TypeId × Value → H) :
    ReturnsInHanded {} Try.checked os 6 .any (Rows.aggBetweenSpec.pre6 enc Try.prog Try.f6 Rows.aggBetweenRow.domain false) (Rows.aggBetweenSpec.post enc Try.prog Try.f6 false true false false) := by
  refine returnsInHanded_of_change (C := Try.checked) own started (by kernel_rfl) Try.func6
    (ChangeSpec.witness6 (enc := enc) (C := Try.checked) false ⟨#[], #[.slice none 0 0], []⟩ 8 (by kernel_rfl) (by kernel_rfl) (by kernel_rfl) (by kernel_rfl)) ?_
  intro W base args ds gs before hval0 hW hcnd _
  have hval : ∀ (j : Nat) t v, Try.f6.params[j]? = some t → args[j]? = some v → Value.okWide Try.prog W .any base t v := hval0
  have hW' := hW
  obtain ⟨p, q, hA0, hV, rfl, hfz, hnd⟩ := hW
  have hA : DataW.TrodAll enc Try.prog W 0 (fun _ => true) true Try.f6.params.toList args.toList ds p := hA0
  rw [Try.params6] at hA hval
  obtain ⟨v0, vs0, d0, ds0, p0, q0, hargs, rfl, rfl, h0, r0⟩ := trodAll_cons hA
  obtain ⟨rfl, rfl, rfl⟩ := trodAll_nil r0
  obtain rfl : args = #[v0] := by cases args; simp_all
  obtain ⟨rfl, rfl⟩ := trodVars_none hV
  have k0 := h0
  have lt0 : ∀ x ∈ p0, x.block < W.heap.size := by obtain ⟨m, hm⟩ := k0; exact DataW.trod_lt m _ _ _ hm
  obtain ⟨A0, cp0, M0, e0, hm0⟩ := OpV.valsV (hval 0 22 v0 rfl rfl) h0
  subst e0
  clear hA0 hval0
  refine (between_any M0 A0 cp0 W hm0).mono fun e W' ⟨he, bel⟩ => ?_
  subst he
  exact ⟨_, rfl, _, _, _, [], _, [], hW', trodAll_mk1 (shut_bool Try.underlying4 _), (trodAll_cons_mk (Below.trod laidOut (by kernel_rfl) (of_decide_eq_true (by kernel_rfl)) k0 bel lt0) trodAll_mk0), rfl, bel.frame _, fun h => by cases h⟩
end RowAggBetween

theorem aggBetween_holds : Rows.AggBetweenSaid :=
  OpenClaim.holds_of_wide 6 Try.f6 rfl rfl rfl rfl rfl rfl rfl ⟨rfl, rfl, rfl, rfl, rfl⟩ rfl rfl rfl rfl rfl (by kernel_rfl) Try.func6 (by kernel_rfl)
    (of_decide_eq_true (by kernel_rfl)) (by unfold Func.isWrapper; first | (rw [if_pos (by decide +kernel)]; kernel_rfl) | (rw [if_neg (by decide +kernel)]; exact ⟨rfl, rfl⟩))
    (fun os started H enc _ => RowAggBetween.lifted os started H enc)

#print axioms aggBetween_holds
end Go.Proofs.Ytjaclmhfagdfhaa
