/-
  FixedBack: for any two Vals the law's call returns true and leaves its arguments as they were. No condition.
-/
import Derived.Test.YtafgjenhfoijlaaFxMul
import Derived.Test.YtafgjenhfoijlaaFxAdd
import Derived.Deep.RegionHeld3
import Derived.ProofKit
import Derived.OpenShut
import Derived.ChangeOld
import Derived.Below
import Derived.Lib.SmallJoins
import Derived.ChangeArms
namespace Go.Proofs.Ytafgjenhfoijlaa
open Go.RowKit Go.Sort
open Fx (Vl)

theorem vals2 {W : World} {g : Nat} {a b : Bool} {m n : Int} (hlt : g < W.heap.size) (c0 : W.cell? ⟨g, 0, none⟩ = some (.bool a)) (c1 : W.cell? ⟨g, 1, none⟩ = some (.int .i64 m)) (c2 : W.cell? ⟨g, 2, none⟩ = some (.bool b)) (c3 : W.cell? ⟨g, 3, none⟩ = some (.int .i64 n)) :
    Vals W g 0 [⟨a, m⟩, ⟨b, n⟩] := by
  refine ⟨hlt, fun i h => ?_, fun i h => ?_⟩
  · match i, h with
    | 0, _ => exact c0
    | 1, _ => exact c2
  · match i, h with
    | 0, _ => exact c1
    | 1, _ => exact c3

theorem add_two (a : Bool) (m : Int) (b : Bool) (n : Int) (sv : Vl) (h : Hid (sum [⟨a, m⟩, ⟨b, n⟩] = sv)) (g : Nat) (W : World) (hv : Vals W g 0 [⟨a, m⟩, ⟨b, n⟩]) :
    Calls Try.prog 19 #[.slice (some ⟨g, 0, none⟩) 2 2] W fun e w' => e = .returned (.agg #[.bool sv.ok, .int .i64 sv.n]) ∧ Below W.heap.size W w' := by
  have := add_some [⟨a, m⟩, ⟨b, n⟩] (by simp) g 0 2 W hv
  rw [h.out] at this
  exact this

set_option maxHeartbeats 1000000 in
theorem back_core (a : Bool) (m : Int) (b : Bool) (n : Int) (w : World) (so : Bool) (sn : Int) (h1 : sum [⟨a, m⟩, ⟨b, n⟩] = ⟨so, sn⟩) (h2 : sum [⟨b, n⟩, ⟨a, m⟩] = ⟨so, sn⟩) (hF : so = false → sn = 0)
    (hT : so = true → Hid (∀ W, Calls Try.prog 21 #[.agg #[.bool true, .int .i64 sn], .agg #[.bool b, .int .i64 n]] W fun e w' => e = .returned (.agg #[.bool a, .int .i64 m]) ∧ Below W.heap.size W w')) :
    Calls Try.prog 10 #[.agg #[.bool a, .int .i64 m], .agg #[.bool b, .int .i64 n]] w fun e w' => e = .returned (.bool true) ∧ Below w.heap.size w w' := by
  have H1 := Lib.hid h1
  have H2 := Lib.hid h2
  clear h1 h2
  go_enter Try.func10, Try.ntmps10
  go_wp2_with fail
  refine (add_two a m b n ⟨so, sn⟩ H1 _ _ (vals2 (by simp) (by simp [go_sem]) (by simp [go_sem]) (by simp [go_sem]) (by simp [go_sem]))).mono ?_
  rintro e w' ⟨rfl, hb⟩
  obtain ⟨hc, hf⟩ := bcell hb
  have hz := hb.size
  simp at hz
  have hz0 : w.heap.size < w'.heap.size := by omega
  have hz1 : w.heap.size + 1 < w'.heap.size := by omega
  have c0 : w'.cell? ⟨w.heap.size, 0, none⟩ = some (.bool a) := by rw [hc _ _ (by simp <;> omega)]; simp [go_sem]
  have c1 : w'.cell? ⟨w.heap.size, 1, none⟩ = some (.int .i64 m) := by rw [hc _ _ (by simp <;> omega)]; simp [go_sem]
  have d0 : w'.cell? ⟨w.heap.size + 1, 0, none⟩ = some (.bool b) := by rw [hc _ _ (by simp <;> omega)]; simp [go_sem]
  have d1 : w'.cell? ⟨w.heap.size + 1, 1, none⟩ = some (.int .i64 n) := by rw [hc _ _ (by simp <;> omega)]; simp [go_sem]
  clear hc hf
  go_wp2_with fail
  go_region_held3 (fun W => W.cell? ⟨w.heap.size, 0, none⟩ = some (.bool a) ∧ W.cell? ⟨w.heap.size, 1, none⟩ = some (.int .i64 m) ∧ W.cell? ⟨w.heap.size + 1, 0, none⟩ = some (.bool b) ∧ W.cell? ⟨w.heap.size + 1, 1, none⟩ = some (.int .i64 n) ∧
      W.cell? ⟨w'.heap.size, 0, none⟩ = some (.bool so) ∧ W.cell? ⟨w'.heap.size, 1, none⟩ = some (.int .i64 sn))
    (go_keep)
    (first | (go_at_call 19; refine (add_two b n a m ⟨so, sn⟩ H2 _ _ ?_).mono ?_; exact vals2 (by simp) (by simp [go_sem]) (by simp [go_sem]) (by simp [go_sem]) (by simp [go_sem]); rintro e w2 ⟨rfl, hb2⟩; have hz2 := hb2.size; have k1 := (hb2.cell (p := ⟨w.heap.size, 0, none⟩) (by simp <;> omega)).trans (show _ = some (.bool a) by simp [go_sem, *]); have k2 := (hb2.cell (p := ⟨w.heap.size, 1, none⟩) (by simp <;> omega)).trans (show _ = some (.int .i64 m) by simp [go_sem, *]); have k3 := (hb2.cell (p := ⟨w.heap.size + 1, 0, none⟩) (by simp <;> omega)).trans (show _ = some (.bool b) by simp [go_sem, *]); have k4 := (hb2.cell (p := ⟨w.heap.size + 1, 1, none⟩) (by simp <;> omega)).trans (show _ = some (.int .i64 n) by simp [go_sem, *]); have k5 := (hb2.cell (p := ⟨w'.heap.size, 0, none⟩) (by simp <;> omega)).trans (show _ = some (.bool so) by simp [go_sem, *]); have k6 := (hb2.cell (p := ⟨w'.heap.size, 1, none⟩) (by simp <;> omega)).trans (show _ = some (.int .i64 sn) by simp [go_sem, *])))
  cases so
  · obtain rfl := hF rfl
    clear hT hF
    go_wp2_with (go_at_call 18; go_must (refine (known_any _).mono ?_; rintro e w' ⟨rfl, hb⟩; obtain ⟨hc, hf⟩ := bcell hb; (try have hz0 : w.heap.size < w'.heap.size := Nat.lt_of_lt_of_le (by first | assumption | (simp; done) | (simp; omega)) hb.size); (try have hz1 : w.heap.size + 1 < w'.heap.size := Nat.lt_of_lt_of_le (by first | assumption | (simp; done) | (simp; omega)) hb.size); (try have hz2 : w.heap.size + 1 + 1 < w'.heap.size := Nat.lt_of_lt_of_le (by first | assumption | (simp; done) | (simp; omega)) hb.size); have hz := hb.size; (try simp at hz)))
    go_ret
    exact ⟨rfl, (by repeat (first | exact Below.refl _ _ | assumption | refine Below.setCell ?_ (by first | (simp; done) | omega | (simp; omega) | (simp at *; omega)) _ | refine Below.alloc ?_ (by first | (simp; done) | omega | (simp; omega) | (simp at *; omega)) _ | refine Below.drew ?_ | (refine Below.trans ?_ (Below.mono (by assumption) (by first | (simp; done) | omega | (simp; omega) | (simp at *; omega)))) | (refine Below.trans ?_ (Below.mono (below_regrown _ _ _) (by first | (simp; done) | omega | (simp; omega) | (simp at *; omega))))))⟩
  · have HS := hT rfl
    clear hT hF
    go_wp2_with fail
    obtain ⟨kc, kf⟩ := kgrown w2
    have z0 := World.block_lt_of_cell? w2 _ k1
    have z1 := World.block_lt_of_cell? w2 _ k3
    have z2 := World.block_lt_of_cell? w2 _ k5
    refine wp_region_quiet_below (by kernel_rfl) (by kernel_rfl) ?_
    repeat (quiet_step (first
      | (go_at_call 21; exact Calls.regrown_of (HS.out _))
      | (go_at_call 18; exact Calls.regrown_of (known_any _))))
    refine wpQuiet_nil ?_
    intro _ hw'
    obtain ⟨⟨dq, osq⟩, hw''⟩ := hw'
    subst hw''
    go_wp2
    go_ret
    exact ⟨rfl, (by repeat (first | exact Below.refl _ _ | assumption | refine Below.setCell ?_ (by first | (simp; done) | omega | (simp; omega) | (simp at *; omega)) _ | refine Below.alloc ?_ (by first | (simp; done) | omega | (simp; omega) | (simp at *; omega)) _ | refine Below.drew ?_ | (refine Below.trans ?_ (Below.mono (by assumption) (by first | (simp; done) | omega | (simp; omega) | (simp at *; omega)))) | (refine Below.trans ?_ (Below.mono (below_regrown _ _ _) (by first | (simp; done) | omega | (simp; omega) | (simp at *; omega))))))⟩

theorem sum_two (x y : Vl) : sum [x, y] = if Fx.num x && Fx.num y then Fx.of (x.n + y.n) else Fx.none := by
  obtain ⟨a, m⟩ := x
  obtain ⟨b, n⟩ := y
  show Fx.plus (Fx.plus ⟨true, 0⟩ ⟨a, m⟩) ⟨b, n⟩ = _
  cases h : Fx.num ⟨a, m⟩
  · rw [Fx.plus_no2 h, Fx.plus_no1 rfl]; rfl
  · obtain ⟨rfl, m1, m2⟩ := Fx.num_iff.1 h
    have hm := Fx.inR_yes m1 m2
    have h0 : Fx.num ⟨true, 0⟩ = true := rfl
    rw [Fx.plus_yes h0 h, show (Fx.Vl.mk true 0).n + (Fx.Vl.mk true m).n = m by show 0 + m = m; omega, Fx.of_yes hm]
    cases h2 : Fx.num ⟨b, n⟩
    · rw [Fx.plus_no2 h2]; rfl
    · rw [Fx.plus_yes h h2]; rfl

theorem lawBack_any (a : Bool) (m : Int) (b : Bool) (n : Int) (w : World) :
    Calls Try.prog 10 #[.agg #[.bool a, .int .i64 m], .agg #[.bool b, .int .i64 n]] w fun e w' => e = .returned (.bool true) ∧ Below w.heap.size w w' := by
  have h1 := sum_two ⟨a, m⟩ ⟨b, n⟩
  have h2 := sum_two ⟨b, n⟩ ⟨a, m⟩
  by_cases h : (Fx.num ⟨a, m⟩ && Fx.num ⟨b, n⟩) = true
  · rw [if_pos h] at h1
    rw [Bool.and_comm] at h
    rw [if_pos h] at h2
    obtain ⟨hb, ha⟩ := Bool.and_eq_true_iff.1 h
    obtain ⟨rfl, m1, m2⟩ := Fx.num_iff.1 ha
    obtain ⟨rfl, n1, n2⟩ := Fx.num_iff.1 hb
    have hcomm : n + m = m + n := Int.add_comm n m
    rw [show (Fx.Vl.mk true n).n + (Fx.Vl.mk true m).n = m + n from hcomm] at h2
    rw [show (Fx.Vl.mk true m).n + (Fx.Vl.mk true n).n = m + n from rfl] at h1
    cases hr : Fx.inR (m + n)
    · rw [Fx.of_no hr] at h1 h2
      exact back_core true m true n w false 0 h1 h2 (fun _ => rfl) (fun h => by cases h)
    · rw [Fx.of_yes hr] at h1 h2
      refine back_core true m true n w true (m + n) h1 h2 (fun h => by cases h) (fun _ => Lib.hid fun W => ?_)
      have := sub_any true (m + n) true n W
      rw [Fx.sub_yes (Fx.num_yes hr) hb, show (Fx.Vl.mk true (m + n)).n - (Fx.Vl.mk true n).n = m by show m + n - n = m; omega, Fx.of_yes (Fx.inR_yes m1 m2)] at this
      exact this
  · rw [if_neg h] at h1
    rw [Bool.and_comm] at h
    rw [if_neg h] at h2
    exact back_core a m b n w false 0 h1 h2 (fun _ => rfl) (fun h => by cases h)

namespace RowFixedBack
open Go.ChangeShapes Go.WideShapes Go.ChangeAt Go.RowKit Go.Joins
theorem own : ownKnob Try.prog.godebug = none := by kernel_rfl
theorem laidOut : laidOutB Try.prog = true := by kernel_rfl
set_option maxRecDepth 100000 in
theorem lifted (os : Os) (started : os.Started) (H : Type) (enc : TypeId × Value → H) :
    ReturnsInHanded {} Try.checked os 10 .any (Rows.fixedBackSpec.pre6 enc Try.prog Try.f10 Rows.fixedBackRow.domain false) (Rows.fixedBackSpec.post enc Try.prog Try.f10 false true false false) := by
  refine returnsInHanded_of_change (C := Try.checked) own started (by kernel_rfl) Try.func10
    (ChangeSpec.witness6 (enc := enc) (C := Try.checked) false ⟨#[], #[.agg #[.bool false, .int .i64 0], .agg #[.bool false, .int .i64 0]], []⟩ 8 (by kernel_rfl) (by kernel_rfl) (by kernel_rfl) (by kernel_rfl)) ?_
  intro W base args ds gs before hval0 hW hcnd _
  have hval : ∀ (j : Nat) t v, Try.f10.params[j]? = some t → args[j]? = some v → Value.okWide Try.prog W .any base t v := hval0
  have hW' := hW
  obtain ⟨p, q, hA0, hV, rfl, hfz, hnd⟩ := hW
  have hA : DataW.TrodAll enc Try.prog W 0 (fun _ => true) true Try.f10.params.toList args.toList ds p := hA0
  rw [Try.params10] at hA hval
  obtain ⟨v0, vs0, d0, ds0, p0, q0, hargs, rfl, rfl, h0, r0⟩ := trodAll_cons hA
  obtain ⟨v1, vs1, d1, ds1, p1, q1, rfl, rfl, rfl, h1, r1⟩ := trodAll_cons r0
  obtain ⟨rfl, rfl, rfl⟩ := trodAll_nil r1
  obtain rfl : args = #[v0, v1] := by cases args; simp_all
  obtain ⟨rfl, rfl⟩ := trodVars_none hV
  have k0 := h0
  have lt0 : ∀ x ∈ p0, x.block < W.heap.size := by obtain ⟨m, hm⟩ := k0; exact DataW.trod_lt m _ _ _ hm
  obtain ⟨c0, e0, y0, z0, m0, rfl, rfl, rfl, hy0, hz0⟩ := open_agg2 Try.underlying23 (by kernel_rfl) (by kernel_rfl) (hval 0 23 v0 rfl rfl) h0
  obtain ⟨b0, u0, rfl⟩ := DataW.trod_bool Try.underlying4 hy0
  obtain ⟨n0, x0, rfl, w0⟩ := DataW.trod_int Try.underlying3 hz0
  simp at u0 x0
  subst u0 x0
  have k1 := h1
  have lt1 : ∀ x ∈ p1, x.block < W.heap.size := by obtain ⟨m, hm⟩ := k1; exact DataW.trod_lt m _ _ _ hm
  obtain ⟨c1, e1, y1, z1, m1, rfl, rfl, rfl, hy1, hz1⟩ := open_agg2 Try.underlying23 (by kernel_rfl) (by kernel_rfl) (hval 1 23 v1 rfl rfl) h1
  obtain ⟨b1, u1, rfl⟩ := DataW.trod_bool Try.underlying4 hy1
  obtain ⟨n1, x1, rfl, w1⟩ := DataW.trod_int Try.underlying3 hz1
  simp at u1 x1
  subst u1 x1
  clear hA0 hval0
  refine (lawBack_any b0 n0 b1 n1 W).mono fun e W' ⟨he, bel⟩ => ?_
  subst he
  exact ⟨_, rfl, _, _, _, [], _, [], hW', trodAll_mk1 (shut_bool Try.underlying4 _), (trodAll_cons_mk (Below.trod laidOut (by kernel_rfl) (of_decide_eq_true (by kernel_rfl)) k0 bel lt0) (trodAll_cons_mk (Below.trod laidOut (by kernel_rfl) (of_decide_eq_true (by kernel_rfl)) k1 bel lt1) trodAll_mk0)), rfl, bel.frame _, fun h => by cases h⟩
end RowFixedBack

theorem fixedBack_holds : Rows.FixedBackSaid :=
  OpenClaim.holds_of_wide 10 Try.f10 rfl rfl rfl rfl rfl rfl rfl ⟨rfl, rfl, rfl, rfl, rfl⟩ rfl rfl rfl rfl rfl (by kernel_rfl) Try.func10 (by kernel_rfl)
    (of_decide_eq_true (by kernel_rfl)) (by unfold Func.isWrapper; first | (rw [if_pos (by decide +kernel)]; kernel_rfl) | (rw [if_neg (by decide +kernel)]; exact ⟨rfl, rfl⟩))
    (fun os started H enc _ => RowFixedBack.lifted os started H enc)

#print axioms fixedBack_holds
end Go.Proofs.Ytafgjenhfoijlaa
