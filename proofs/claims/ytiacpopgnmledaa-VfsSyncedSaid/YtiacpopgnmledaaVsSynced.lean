/-
  VfsSynced: for every two rows of acts and two numbers the law's call returns true and leaves its arguments as they were. No condition.
-/
import Derived.Test.YtiacpopgnmledaaVsSyn
import Derived.ProofKit
import Derived.OpenShut
import Derived.ChangeOld
import Derived.Below
import Derived.Lib.SmallJoins
import Derived.ChangeArms
namespace Go.Proofs.Ytiacpopgnmledaa
open Go.RowKit
open Me Vf

set_option maxRecDepth 100000 in
set_option maxHeartbeats 4000000 in
theorem lawSynced_any (l more : List Vs.A) (v v2 : Value) (n m : Int) (w : World) (h : Vs.Acts w (Vs.Old w) v l) (h2 : Vs.Acts w (Vs.Old w) v2 more) :
    Calls Try.prog 4 #[v, v2, .int .i64 n, .int .i64 m] w fun e w' => e = .returned (.bool true) ∧ Below w.heap.size w w' := by
  have H := Lib.hid h
  have H2 := Lib.hid h2
  have HH := Lib.hid (heavy_any l v _ w h)
  have HH2 := Lib.hid (heavy_any more v2 _ w h2)
  have HK := Lib.hid known_any
  obtain ⟨A, c, xs, rfl, hc, hcm, _⟩ := h
  obtain ⟨A', c', xs', rfl, hc', hcm', _⟩ := h2
  unfold maxLen at hcm hcm'
  have HN := Lib.hid (pnew_any 1048576 w (by omega) (by omega))
  have HX := Lib.hid (fun w1 : World => new_any 1048576 w1 (by omega) (by omega))
  go_enter Try.func4, Try.ntmps4
  go_wp2_with (first
    | (go_at_call 6; (with_reducible refine (HH.out).mono ?_); rintro e w' ⟨⟨r, rfl, hr⟩, rfl⟩; have HR := Lib.hid hr; clear hr)
    | (go_at_call 6; (with_reducible refine (HH2.out).mono ?_); rintro e w' ⟨⟨r2, rfl, hr2⟩, rfl⟩; have HR2 := Lib.hid hr2; clear hr2)
    | (go_at_call 7; (with_reducible refine (HN.out).mono ?_); rintro e w1 ⟨rfl, hp, hb1⟩; have HP := Lib.hid hp; have HB1 := Lib.hid hb1; clear hp hb1)
    | (go_at_call 8; (with_reducible refine (HX.out w1).mono ?_); rintro e w2 ⟨rfl, ha, hb2⟩; have HD := Lib.hid (Vs.duo_new HP.out HB1.out ha hb2 (by omega) (by omega)); clear ha hb2))
  all_goals try (go_ret; exact ⟨rfl, Below.refl _ _⟩)
  have HLI := Lib.hid (HR.out (by simpa using (show ¬ r = true by assumption)))
  have HLI2 := Lib.hid (HR2.out (by simpa using (show ¬ r2 = true by assumption)))
  have HNM : Hid (n ≤ 0 ∧ m ≤ 0) := Lib.hid (by assumption)
  obtain ⟨fs, hfs⟩ : ∃ fs, fs = w.heap.size := ⟨_, rfl⟩
  obtain ⟨xs, hxs⟩ : ∃ xs, xs = w1.heap.size := ⟨_, rfl⟩
  rw [← hfs, ← hxs] at HD ⊢
  clear hfs hxs HP HB1 HN HR HR2 HH HH2
  go_loopw [13] (fun i wr => ∃ (k : Nat) (S : Vf.Sv), k ≤ l.length ∧ k ≤ 100 ∧ i = .int .i64 k ∧ Hid (Vs.Run w fs xs k S S wr) ∧ Hid (Vf.Gd S)) (fun i _ => l.length - (intOf i).toNat)
  case atStart => exact ⟨0, _, Nat.zero_le _, Nat.zero_le _, rfl, HD, Lib.hid ⟨(fun f hf => nomatch hf), (fun f hf => nomatch hf), (fun a ha => nomatch ha)⟩⟩
  case round =>
    obtain ⟨k, S, hk, hk2, rfl, hrun, hgd⟩ := hrel
    have hk' : (k : Int) ≤ (l.length : Int) := by omega
    by_cases hlt : k < l.length ∧ k < 100
    · obtain ⟨rb, ro, c'', A2, c2, he, d0, d1, d2, d3, d4, hact⟩ := hrun.out.act H.out HLI.out k hlt.1 hlt.2 (by omega)
      injection he with he1 he2 he3
      subst he1 he3
      have HA := Lib.hid hact
      have HG2 := Lib.hid (Vs.step_gd hgd.out (l[k]'hlt.1))
      have hk3 : (k : Int) < (l.length : Int) := by omega
      have hk4 : (k : Int) < 100 := by omega
      have hk5 := hlt.1
      have hk6 := hlt.2
      obtain ⟨q, hq⟩ : ∃ q : Vs.A, q = l[k]'hlt.1 := ⟨_, rfl⟩
      rw [← hq] at d0 d1 d2 d3 d4 HA HG2
      clear hact hrun hgd hlt hq
      generalize q.kind = akind at *
      generalize q.off = aoff at *
      generalize q.n = an at *
      generalize q.name = aname at *
      generalize q.b.length = blen at *
      go_wp2_with (go_at_call 9; (with_reducible refine (HA.out).mono ?_); rintro e w3 ⟨r3, rfl, hr3⟩; have HR3 := Lib.hid hr3.out.2; clear hr3)
      go_roundw
      case rel => exact ⟨k + 1, _, by omega, by omega, by go_num, HR3, HG2⟩
      case measure => simp [intOf]; omega
    · have HSY := Lib.hid hrun.out.sync
      have HI := Lib.hid hrun.out.inv
      have HGS : Hid (Vf.Gd (Vs.syn S)) := Lib.hid ⟨hgd.out.now, hgd.out.now, (fun a ha => nomatch ha)⟩
      have hcase : (¬ (k : Int) < (l.length : Int)) ∨ ((k : Int) < (l.length : Int) ∧ ¬ (k : Int) < 100) := by omega
      clear hrun hgd hlt HD H HLI
      rcases hcase with hq1 | ⟨hq1, hq2⟩
      all_goals
        go_wp2_with (first
          | (go_at_call 12; (with_reducible refine (HSY.out).mono ?_); rintro e wa ⟨rfl, hsa⟩)
          | (go_at_call 13; (with_reducible refine (hsa.out).mono ?_); rintro e wb ⟨rfl, hrb⟩)
          | (go_at_call 8; (with_reducible refine (HX.out wb).mono ?_); rintro e wc ⟨rfl, ha, hbc⟩; have HTR := Lib.hid (Vs.trio_start hrb.out ha hbc); have HIS := Lib.hid hrb.out.inv; clear ha hbc))
        obtain ⟨yy, hyy⟩ : ∃ yy, yy = wb.heap.size := ⟨_, rfl⟩
        rw [← hyy] at HTR ⊢
        clear hyy hsa hrb HSY HX
        go_loopw [16] (fun i wr => ∃ (j : Nat) (Sf Sy : Vf.Sv), j ≤ more.length ∧ j ≤ 100 ∧ i = .int .i64 j ∧ Hid (Vs.Trio w fs xs yy (2 * (k + 1) + 2 * j) (k + 1 + j) (Vs.syn S) Sf Sy wr)) (fun i _ => more.length - (intOf i).toNat)
        case atStart => exact ⟨0, _, _, Nat.zero_le _, Nat.zero_le _, rfl, HTR⟩
        case round =>
          obtain ⟨j, Sf, Sy, hj, hj2, rfl, htr⟩ := hrel
          have hj' : (j : Int) ≤ (more.length : Int) := by omega
          by_cases hjlt : j < more.length ∧ j < 100
          · obtain ⟨rb, ro, c'', A2, c2, he, d0, d1, d2, d3, d4, hact⟩ := htr.out.act H2.out HLI2.out j hjlt.1 hjlt.2 (by omega) (by omega)
            injection he with he1 he2 he3
            subst he1 he3
            have HMO : Hid (Vs.Trio w fs xs yy (2 * (k + 1) + 2 * (j + 1)) (k + 1 + (j + 1)) (Vs.syn S) Sf Sy wr) := Lib.hid (htr.out.more (by omega) (by omega))
            have HA := Lib.hid hact
            have hj3 : (j : Int) < (more.length : Int) := by omega
            have hj4 : (j : Int) < 100 := by omega
            have hj5 := hjlt.1
            have hj6 := hjlt.2
            obtain ⟨q, hq⟩ : ∃ q : Vs.A, q = more[j]'hjlt.1 := ⟨_, rfl⟩
            rw [← hq] at d0 d1 d2 d3 d4 HA
            clear hact htr hjlt hq
            by_cases hk3 : q.kind ≤ 3
            · have HA3 := Lib.hid (HA.out hk3)
              clear HA
              generalize q.kind = akind at *
              generalize q.off = aoff at *
              generalize q.n = an at *
              generalize q.name = aname at *
              generalize q.b.length = blen at *
              go_wp2_with (go_at_call 9; (with_reducible refine (HA3.out).mono ?_); rintro e w3 ⟨r3, rfl, hr3⟩)
              go_roundw
              case rel => exact ⟨j + 1, _, _, by omega, by omega, by go_num, hr3⟩
              case measure => simp [intOf]; omega
            · clear HA
              generalize q.kind = akind at *
              go_wp2_with fail
              go_roundw
              case rel => exact ⟨j + 1, _, _, by omega, by omega, by go_num, HMO⟩
              case measure => simp [intOf]; omega
          · have HCR := Lib.hid (htr.out.crash (HIS.out.mono (Nat.le_add_right _ _)) n m HNM.out.1 HNM.out.2 (by omega))
            have hcase : (¬ (j : Int) < (more.length : Int)) ∨ ((j : Int) < (more.length : Int) ∧ ¬ (j : Int) < 100) := by omega
            clear htr hjlt HTR H2 HLI2
            rcases hcase with hp1 | ⟨hp1, hp2⟩
            all_goals
              go_wp2_with (first
                | (go_at_call 14; (with_reducible refine (HCR.out).mono ?_); rintro e w5 ⟨rfl, hcr⟩; have HAL := Lib.hid (alike_any hcr.out.2 (by omega) (by omega) HGS.out.now))
                | (go_at_call 10; (with_reducible refine (HAL.out).mono ?_); rintro e w6 ⟨rfl, hb6⟩; have HB6 := Lib.hid (hcr.out.1.trans (hb6.mono hcr.out.1.size)); clear hb6)
                | (go_at_call 11; (with_reducible refine (HK.out _).mono ?_); rintro e w7 ⟨rfl, hb7⟩))
              go_ret
              exact ⟨rfl, HB6.out.trans (hb7.mono HB6.out.size)⟩

namespace RowVfsSynced
open Go.ChangeShapes Go.WideShapes Go.ChangeAt Go.RowKit Go.Joins
theorem own : ownKnob Try.prog.godebug = none := by kernel_rfl
theorem laidOut : laidOutB Try.prog = true := by kernel_rfl
set_option maxRecDepth 100000 in
theorem lifted (os : Os) (started : os.Started) (H : Type) (enc : TypeId × Value → H) :
    ReturnsInHanded {} Try.checked os 4 .any (Rows.vfsSyncedSpec.pre6 enc Try.prog Try.f4 Rows.vfsSyncedRow.domain false) (Rows.vfsSyncedSpec.post enc Try.prog Try.f4 false true false false) := by
  refine returnsInHanded_of_change (C := Try.checked) own started (by kernel_rfl) Try.func4
    (ChangeSpec.witness6 (enc := enc) (C := Try.checked) false ⟨#[], #[.slice none 0 0, .slice none 0 0, .int .i64 0, .int .i64 0], []⟩ 8 (by kernel_rfl) (by kernel_rfl) (by kernel_rfl) (by kernel_rfl)) ?_
  intro W base args ds gs before hval0 hW hcnd _
  have hval : ∀ (j : Nat) t v, Try.f4.params[j]? = some t → args[j]? = some v → Value.okWide Try.prog W .any base t v := hval0
  have hW' := hW
  obtain ⟨p, q, hA0, hV, rfl, hfz, hnd⟩ := hW
  have hA : DataW.TrodAll enc Try.prog W 0 (fun _ => true) true Try.f4.params.toList args.toList ds p := hA0
  rw [Try.params4] at hA hval
  obtain ⟨v0, vs0, d0, ds0, p0, q0, hargs, rfl, rfl, h0, r0⟩ := trodAll_cons hA
  obtain ⟨v1, vs1, d1, ds1, p1, q1, rfl, rfl, rfl, h1, r1⟩ := trodAll_cons r0
  obtain ⟨v2, vs2, d2, ds2, p2, q2, rfl, rfl, rfl, h2, r2⟩ := trodAll_cons r1
  obtain ⟨v3, vs3, d3, ds3, p3, q3, rfl, rfl, rfl, h3, r3⟩ := trodAll_cons r2
  obtain ⟨rfl, rfl, rfl⟩ := trodAll_nil r3
  obtain rfl : args = #[v0, v1, v2, v3] := by cases args; simp_all
  obtain ⟨rfl, rfl⟩ := trodVars_none hV
  have k0 := h0
  have lt0 : ∀ x ∈ p0, x.block < W.heap.size := by obtain ⟨m, hm⟩ := k0; exact DataW.trod_lt m _ _ _ hm
  obtain ⟨A0, len0, cap0, rfl⟩ := okWide_slice Try.underlying22 (hval 0 22 v0 rfl rfl)
  obtain ⟨fuel0, hf0⟩ := h0
  obtain ⟨u0, l0, hv0, hacts0⟩ := Vs.acts_open (by simpa [Value.cells] using hf0)
  obtain rfl : Value.slice A0 len0 cap0 = u0 := by simpa using hv0
  have k1 := h1
  have lt1 : ∀ x ∈ p1, x.block < W.heap.size := by obtain ⟨m, hm⟩ := k1; exact DataW.trod_lt m _ _ _ hm
  obtain ⟨A1, len1, cap1, rfl⟩ := okWide_slice Try.underlying22 (hval 1 22 v1 rfl rfl)
  obtain ⟨fuel1, hf1⟩ := h1
  obtain ⟨u1, l1, hv1, hacts1⟩ := Vs.acts_open (by simpa [Value.cells] using hf1)
  obtain rfl : Value.slice A1 len1 cap1 = u1 := by simpa using hv1
  have k2 := h2
  have lt2 : ∀ x ∈ p2, x.block < W.heap.size := by obtain ⟨m, hm⟩ := k2; exact DataW.trod_lt m _ _ _ hm
  obtain ⟨a2, rfl, rfl, rfl, w2⟩ := open_int Try.underlying3 (hval 2 3 v2 rfl rfl) h2
  have k3 := h3
  have lt3 : ∀ x ∈ p3, x.block < W.heap.size := by obtain ⟨m, hm⟩ := k3; exact DataW.trod_lt m _ _ _ hm
  obtain ⟨a3, rfl, rfl, rfl, w3⟩ := open_int Try.underlying3 (hval 3 3 v3 rfl rfl) h3
  clear hA0 hval0 hv0 hv1 hf0 hf1
  refine (lawSynced_any l0 l1 _ _ a2 a3 W hacts0 hacts1).mono fun e W' ⟨he, bel⟩ => ?_
  subst he
  exact ⟨_, rfl, _, _, _, [], _, [], hW', trodAll_mk1 (shut_bool Try.underlying4 _), (trodAll_cons_mk (Below.trod laidOut (by kernel_rfl) (of_decide_eq_true (by kernel_rfl)) k0 bel lt0) (trodAll_cons_mk (Below.trod laidOut (by kernel_rfl) (of_decide_eq_true (by kernel_rfl)) k1 bel lt1) (trodAll_cons_mk (Below.trod laidOut (by kernel_rfl) (of_decide_eq_true (by kernel_rfl)) k2 bel lt2) (trodAll_cons_mk (Below.trod laidOut (by kernel_rfl) (of_decide_eq_true (by kernel_rfl)) k3 bel lt3) trodAll_mk0)))), rfl, bel.frame _, fun h => by cases h⟩
end RowVfsSynced

theorem vfsSynced_holds : Rows.VfsSyncedSaid :=
  OpenClaim.holds_of_wide 4 Try.f4 rfl rfl rfl rfl rfl rfl rfl ⟨rfl, rfl, rfl, rfl, rfl⟩ rfl rfl rfl rfl rfl (by kernel_rfl) Try.func4 (by kernel_rfl)
    (of_decide_eq_true (by kernel_rfl)) (by unfold Func.isWrapper; first | (rw [if_pos (by decide +kernel)]; kernel_rfl) | (rw [if_neg (by decide +kernel)]; exact ⟨rfl, rfl⟩))
    (fun os started H enc _ => RowVfsSynced.lifted os started H enc)

#print axioms vfsSynced_holds
end Go.Proofs.Ytiacpopgnmledaa
