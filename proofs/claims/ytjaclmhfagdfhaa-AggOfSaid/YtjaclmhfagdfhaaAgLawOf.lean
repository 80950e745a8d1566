/-
  AggOf: for every kind and slice of Vals (nil too, of whatever length) the law's call returns true and leaves its arguments as they were. No condition.
-/
import Derived.Test.YtjaclmhfagdfhaaAgLaw
import Derived.Test.YtjaclmhfagdfhaaAgOp
import Derived.ProofKit
import Derived.OpenShut
import Derived.ChangeOld
import Derived.Below
import Derived.Lib.SmallJoins
import Derived.ChangeArms
namespace Go.Proofs.Ytjaclmhfagdfhaa
open Go.RowKit Go.Sort
open Fx (Vl)
open Me

set_option maxHeartbeats 2000000 in
theorem lawOf_any (kind : Int) (l : List Vl) (A : Option Addr) (c : Nat) (w : World) (hv : Sl w (.slice A l.length c) l) :
    Calls Try.prog 3 #[.int .i64 kind, .slice A l.length c] w fun e w' => e = .returned (.bool true) ∧ Below w.heap.size w w' := by
  by_cases hlong : 200 < (l.length : Int)
  · clear hv
    go_enter Try.func3, Try.ntmps3
    go_wp2
    go_ret
    exact ⟨rfl, Below.refl _ _⟩
  have hl : l.length ≤ 200 := by omega
  obtain ⟨j0, hj0, hy0, hy1, hy2⟩ := info_parts infoVal
  have HJ := Lib.hid hj0
  have HY := Lib.hid (And.intro hy0 (And.intro hy1 hy2))
  have HS := Lib.hid (fun W (hb : Below w.heap.size w W) => hv.below hb)
  have HR := Lib.hid (HS.out _ ((Below.refl _ _).alloc (Nat.le_refl _) (.cells #[] 24))).rd.2
  have O1 : Hid (∀ v W, Sl W v l → Calls Try.prog 8 #[.int .i64 kind, v] W fun e w' => e = .returned (.agg #[.bool (Ag.tg kind (Ag.kn l)).ok, .int .i64 (Ag.tg kind (Ag.kn l)).n]) ∧ Below W.heap.size W w') := Lib.hid fun v W h => of_v kind l (by omega) v W h
  have O2 : Hid (∀ v W, Sl W v l → Calls Try.prog 9 #[.int .i64 kind, v] W fun e w' => e = .returned (.agg #[.bool (Ag.tg kind (Ag.kn l)).ok, .int .i64 (Ag.tg kind (Ag.kn l)).n]) ∧ Below W.heap.size W w') := Lib.hid fun v W h => refOf_v kind l (by omega) v W h
  have V1 : Hid (∀ v v2 W, Sl W v l → Sl W v2 l → Calls Try.prog 10 #[v, v2] W fun e w' => e = .returned (.bool true) ∧ Below W.heap.size W w') := Lib.hid fun v v2 W h h2 => vals_v l (by omega) v v2 W h h2
  have V2 : Hid (∀ v v2 W, Sl W v (Ag.kn l) → Sl W v2 (Ag.kn l) → Calls Try.prog 10 #[v, v2] W fun e w' => e = .returned (.bool true) ∧ Below W.heap.size W w') := Lib.hid fun v v2 W h h2 => vals_v _ (Nat.le_trans (Ag.kn_len l) (by omega)) v v2 W h h2
  have K1 : Hid (∀ v W, Sl W v l → Calls Try.prog 11 #[v] W (Knew W (Ag.kn l))) := Lib.hid fun v W h => known_v l (by omega) v W h
  have K2 : Hid (∀ v W, Sl W v l → Calls Try.prog 12 #[v] W (Knew W (Ag.kn l))) := Lib.hid fun v W h => refKnown_v l (by omega) v W h
  clear hv hj0 hy0 hy1 hy2
  generalize Ag.tg kind (Ag.kn l) = q at *
  generalize Ag.kn l = m at *
  obtain ⟨qo, qn⟩ := q
  go_enter Try.func3, Try.ntmps3
  go_wp2_with first
    | (at_builtin; refine wpList_app _ rfl (.tmp 9) (.tmp 10) 22 rfl w.heap.size 24 j0 (.agg #[.bool false, .int .i64 0]) 2 16 Try.underlying22 HJ.out HY.out.1 HY.out.2.1 HY.out.2.2 rfl (by decide) (.slice (some ⟨w.heap.size, 0, none⟩) 0 0) 0 [] rfl (World.ownsRow_made w #[] 0 (Nat.le_refl _) (Nat.zero_le _) rfl) (fun _ => True) A l.length c (cellsOf l) rfl (cellsOf_length l) HR.out (cellsOf_one l) (by unfold maxLen; omega) (by omega) (by simp) ?_; intro v1 w1 hown1 hg1 hat1 hnil1; have hb1 : Below w.heap.size w w1 := ((Below.refl _ _).alloc (Nat.le_refl _) _).grown hg1 (by simp) (fun g e => by simp [Value.ownBlock] at e; omega); have HM : Hid (∀ W, Below w1.heap.size w1 W → Sl W v1 l) := Lib.hid (fun W hb => (OwnV.sl (base := w.heap.size) (by unfold OwnV; rw [Nat.zero_add] at hown1; exact hown1)).below hb); have HL : Hid (∀ W, Below w1.heap.size w1 W → Sl W (.slice A l.length c) l) := Lib.hid (fun W hb => HS.out W (hb1.trans (hb.mono hb1.size))); have HB1 := Lib.hid hb1; obtain ⟨A1, n1, c1, rfl⟩ := own_slice hown1; clear hown1 hg1 hat1 hnil1 hb1)
    | (go_at_call 8; ((with_reducible refine (O1.out _ _ (HM.out _ (Below.refl _ _))).mono ?_); rintro e w2 ⟨rfl, hb2⟩; have hs2 := hb2.size; have HB2 : Hid (Below w1.heap.size w1 w2) := Lib.hid (hb2)))
    | (go_at_call 9; ((with_reducible refine (O2.out _ _ (HL.out _ HB2.out)).mono ?_); rintro e w3 ⟨rfl, hb3⟩; have hs3 := hb3.size; have HB3 : Hid (Below w1.heap.size w1 w3) := Lib.hid (HB2.out.trans (hb3.mono HB2.out.size))))
    | (go_at_call 10; ((with_reducible refine (V1.out _ _ _ (HM.out _ HB3.out) (HL.out _ HB3.out)).mono ?_); rintro e w4 ⟨rfl, hb4⟩; have hs4 := hb4.size; have HB4 : Hid (Below w1.heap.size w1 w4) := Lib.hid (HB3.out.trans (hb4.mono HB3.out.size))))
    | (go_at_call 11; ((with_reducible refine (K1.out _ _ (HM.out _ HB4.out)).mono ?_); rintro e w5 ⟨v5, rfl, ho5, hb5⟩; have hs5 := hb5.size; have HS5 := Lib.hid ho5.sl; have HB5 : Hid (Below w1.heap.size w1 w5) := Lib.hid (HB4.out.trans (hb5.mono HB4.out.size)); clear ho5))
    | (go_at_call 12; ((with_reducible refine (K2.out _ _ (HL.out _ HB5.out)).mono ?_); rintro e w6 ⟨v6, rfl, ho6, hb6⟩; have hs6 := hb6.size; have HS6 := Lib.hid ho6.sl; have HB6 : Hid (Below w1.heap.size w1 w6) := Lib.hid (HB5.out.trans (hb6.mono HB5.out.size)); clear ho6))
    | (go_at_call 10; ((with_reducible refine (V2.out _ _ _ (HS5.out.below hb6) HS6.out).mono ?_); rintro e w7 ⟨rfl, hb7⟩; have hs7 := hb7.size; have HB7 : Hid (Below w1.heap.size w1 w7) := Lib.hid (HB6.out.trans (hb7.mono HB6.out.size))))
    | (go_at_call 13; ((with_reducible refine (known6_any _).mono ?_); rintro e w8 ⟨rfl, hb8⟩; have hs8 := hb8.size))
  go_ret
  exact ⟨rfl, HB1.out.trans ((HB7.out.trans (hb8.mono HB7.out.size)).mono HB1.out.size)⟩


namespace RowAggOf
open Go.ChangeShapes Go.WideShapes Go.ChangeAt Go.RowKit Go.Joins
theorem own : ownKnob Try.prog.godebug = none := by kernel_rfl
theorem laidOut : laidOutB Try.prog = true := by kernel_rfl
set_option maxRecDepth 100000 in
theorem lifted (os : Os) (started : os.Started) (H : Type) (enc : TypeId × Value → H) :
    ReturnsInHanded {} Try.checked os 3 .any (Rows.aggOfSpec.pre6 enc Try.prog Try.f3 Rows.aggOfRow.domain false) (Rows.aggOfSpec.post enc Try.prog Try.f3 false true false false) := by
  refine returnsInHanded_of_change (C := Try.checked) own started (by kernel_rfl) Try.func3
    (ChangeSpec.witness6 (enc := enc) (C := Try.checked) false ⟨#[], #[.int .i64 0, .slice none 0 0], []⟩ 8 (by kernel_rfl) (by kernel_rfl) (by kernel_rfl) (by kernel_rfl)) ?_
  intro W base args ds gs before hval0 hW hcnd _
  have hval : ∀ (j : Nat) t v, Try.f3.params[j]? = some t → args[j]? = some v → Value.okWide Try.prog W .any base t v := hval0
  have hW' := hW
  obtain ⟨p, q, hA0, hV, rfl, hfz, hnd⟩ := hW
  have hA : DataW.TrodAll enc Try.prog W 0 (fun _ => true) true Try.f3.params.toList args.toList ds p := hA0
  rw [Try.params3] at hA hval
  obtain ⟨v0, vs0, d0, ds0, p0, q0, hargs, rfl, rfl, h0, r0⟩ := trodAll_cons hA
  obtain ⟨v1, vs1, d1, ds1, p1, q1, rfl, rfl, rfl, h1, r1⟩ := trodAll_cons r0
  obtain ⟨rfl, rfl, rfl⟩ := trodAll_nil r1
  obtain rfl : args = #[v0, v1] := by cases args; simp_all
  obtain ⟨rfl, rfl⟩ := trodVars_none hV
  have k0 := h0
  have lt0 : ∀ x ∈ p0, x.block < W.heap.size := by obtain ⟨m, hm⟩ := k0; exact DataW.trod_lt m _ _ _ hm
  obtain ⟨a0, rfl, rfl, rfl, w0⟩ := open_int Try.underlying3 (hval 0 3 v0 rfl rfl) h0
  have k1 := h1
  have lt1 : ∀ x ∈ p1, x.block < W.heap.size := by obtain ⟨m, hm⟩ := k1; exact DataW.trod_lt m _ _ _ hm
  obtain ⟨A1, cp1, M1, e1, hm1⟩ := OpV.valsV (hval 1 22 v1 rfl rfl) h1
  subst e1
  clear hA0 hval0
  refine (lawOf_any a0 M1 A1 cp1 W hm1).mono fun e W' ⟨he, bel⟩ => ?_
  subst he
  exact ⟨_, rfl, _, _, _, [], _, [], hW', trodAll_mk1 (shut_bool Try.underlying4 _), (trodAll_cons_mk (Below.trod laidOut (by kernel_rfl) (of_decide_eq_true (by kernel_rfl)) k0 bel lt0) (trodAll_cons_mk (Below.trod laidOut (by kernel_rfl) (of_decide_eq_true (by kernel_rfl)) k1 bel lt1) trodAll_mk0)), rfl, bel.frame _, fun h => by cases h⟩
end RowAggOf

theorem aggOf_holds : Rows.AggOfSaid :=
  OpenClaim.holds_of_wide 3 Try.f3 rfl rfl rfl rfl rfl rfl rfl ⟨rfl, rfl, rfl, rfl, rfl⟩ rfl rfl rfl rfl rfl (by kernel_rfl) Try.func3 (by kernel_rfl)
    (of_decide_eq_true (by kernel_rfl)) (by unfold Func.isWrapper; first | (rw [if_pos (by decide +kernel)]; kernel_rfl) | (rw [if_neg (by decide +kernel)]; exact ⟨rfl, rfl⟩))
    (fun os started H enc _ => RowAggOf.lifted os started H enc)

#print axioms aggOf_holds
end Go.Proofs.Ytjaclmhfagdfhaa
