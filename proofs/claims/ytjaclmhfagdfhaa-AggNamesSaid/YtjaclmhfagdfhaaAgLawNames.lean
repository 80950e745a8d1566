/-
  AggNames: for every number as a kind and every text as a name the law's call returns true and leaves its arguments as they were. No condition.
-/
import Derived.Test.YtjaclmhfagdfhaaAgNm
import Derived.Test.YtjaclmhfagdfhaaAgLaw
import Derived.Test.YtjaclmhfagdfhaaAgOp
import Derived.ProofKit
import Derived.OpenShut
import Derived.ChangeOld
import Derived.Below
import Derived.Lib.SmallJoins
import Derived.ChangeArms
namespace Go.Proofs.Ytjaclmhfagdfhaa
open Go.RowKit Go.Sort
open Fx (Vl)
open Me

set_option maxHeartbeats 2000000 in
theorem names_any (kind : Int) (name : List UInt8) (w : World) :
    Calls Try.prog 5 #[.int .i64 kind, .string ⟨name.toArray⟩] w fun e w' => e = .returned (.bool true) ∧ Below w.heap.size w w' := by
  have N1 : Hid (∀ W, Calls Try.prog 18 #[.int .i64 kind] W fun e w' => e = .returned (.string ⟨(Ag.nm kind).toArray⟩) ∧ W = w') := Lib.hid fun W => name_any _ W
  have N2 : Hid (∀ W, Calls Try.prog 19 #[.int .i64 kind] W fun e w' => e = .returned (.string ⟨(Ag.nm kind).toArray⟩) ∧ W = w') := Lib.hid fun W => refName_any _ W
  have K1 : Hid (∀ W, Calls Try.prog 20 #[.string ⟨name.toArray⟩] W fun e w' => e = .returned (.int .i64 (Ag.kd name)) ∧ W = w') := Lib.hid fun W => kind_any _ W
  have K2 : Hid (∀ W, Calls Try.prog 21 #[.string ⟨name.toArray⟩] W fun e w' => e = .returned (.int .i64 (Ag.kd name)) ∧ W = w') := Lib.hid fun W => refKind_any _ W
  have K3 : Hid (1 ≤ kind → kind ≤ 5 → ∀ W, Calls Try.prog 20 #[.string ⟨(Ag.nm kind).toArray⟩] W fun e w' => e = .returned (.int .i64 kind) ∧ W = w') := Lib.hid fun h1 h2 W => by
    have h := kind_any (Ag.nm kind) W
    rw [Ag.kd_nm h1 h2] at h
    exact h
  have HS : Hid ((⟨name.toArray⟩ : ByteArray).size = name.length) := Lib.hid (by simp [ByteArray.size])
  obtain ⟨t, hte⟩ : ∃ t : ByteArray, Hid (t = ⟨(Ag.nm kind).toArray⟩) := ⟨_, Lib.hid rfl⟩
  obtain ⟨s, hse⟩ : ∃ s : ByteArray, Hid (s = ⟨name.toArray⟩) := ⟨_, Lib.hid rfl⟩
  rw [← hte.out] at N1 N2 K3
  rw [← hse.out] at K1 K2 HS ⊢
  generalize Ag.kd name = kd at *
  by_cases hlong : 200 < (s.size : Int)
  · go_enter Try.func5, Try.ntmps5
    go_wp2
    go_ret
    exact ⟨rfl, Below.refl _ _⟩
  by_cases h1 : kind < 1
  · clear K3
    go_enter Try.func5, Try.ntmps5
    go_wp2_with first | (go_at_call 18; ((with_reducible refine (N1.out _).mono ?_); rintro e w' ⟨rfl, rfl⟩)) | (go_at_call 19; ((with_reducible refine (N2.out _).mono ?_); rintro e w' ⟨rfl, rfl⟩)) | (go_at_call 20; ((with_reducible refine (K1.out _).mono ?_); rintro e w' ⟨rfl, rfl⟩)) | (go_at_call 21; ((with_reducible refine (K2.out _).mono ?_); rintro e w' ⟨rfl, rfl⟩)) | (go_at_call 13; go_must (refine (known6_any _).mono ?_; rintro e w' ⟨rfl, hb⟩))
    go_ret
    exact ⟨rfl, hb⟩
  by_cases h5 : 5 < kind
  · clear K3
    go_enter Try.func5, Try.ntmps5
    go_wp2_with first | (go_at_call 18; ((with_reducible refine (N1.out _).mono ?_); rintro e w' ⟨rfl, rfl⟩)) | (go_at_call 19; ((with_reducible refine (N2.out _).mono ?_); rintro e w' ⟨rfl, rfl⟩)) | (go_at_call 20; ((with_reducible refine (K1.out _).mono ?_); rintro e w' ⟨rfl, rfl⟩)) | (go_at_call 21; ((with_reducible refine (K2.out _).mono ?_); rintro e w' ⟨rfl, rfl⟩)) | (go_at_call 13; go_must (refine (known6_any _).mono ?_; rintro e w' ⟨rfl, hb⟩))
    go_ret
    exact ⟨rfl, hb⟩
  have K4 := Lib.hid (K3.out (by omega) (by omega))
  clear K3
  go_enter Try.func5, Try.ntmps5
  go_wp2_with first | (go_at_call 18; ((with_reducible refine (N1.out _).mono ?_); rintro e w' ⟨rfl, rfl⟩)) | (go_at_call 19; ((with_reducible refine (N2.out _).mono ?_); rintro e w' ⟨rfl, rfl⟩)) | (go_at_call 20; ((with_reducible refine (K1.out _).mono ?_); rintro e w' ⟨rfl, rfl⟩)) | (go_at_call 20; ((with_reducible refine (K4.out _).mono ?_); rintro e w' ⟨rfl, rfl⟩)) | (go_at_call 21; ((with_reducible refine (K2.out _).mono ?_); rintro e w' ⟨rfl, rfl⟩)) | (go_at_call 13; go_must (refine (known6_any _).mono ?_; rintro e w' ⟨rfl, hb⟩))
  go_ret
  exact ⟨rfl, hb⟩


namespace RowAggNames
open Go.ChangeShapes Go.WideShapes Go.ChangeAt Go.RowKit Go.Joins
theorem own : ownKnob Try.prog.godebug = none := by kernel_rfl
theorem laidOut : laidOutB Try.prog = true := by kernel_rfl
set_option maxRecDepth 100000 in
theorem lifted (os : Os) (started : os.Started) (H : Type) (enc : TypeId × Value → H) :
    ReturnsInHanded {} Try.checked os 5 .any (Rows.aggNamesSpec.pre6 enc Try.prog Try.f5 Rows.aggNamesRow.domain false) (Rows.aggNamesSpec.post enc Try.prog Try.f5 false true false false) := by
  refine returnsInHanded_of_change (C := Try.checked) own started (by kernel_rfl) Try.func5
    (ChangeSpec.witness6 (enc := enc) (C := Try.checked) false ⟨#[], #[.int .i64 0, .string ⟨#[]⟩], []⟩ 8 (by kernel_rfl) (by kernel_rfl) (by kernel_rfl) (by kernel_rfl)) ?_
  intro W base args ds gs before hval0 hW hcnd _
  have hval : ∀ (j : Nat) t v, Try.f5.params[j]? = some t → args[j]? = some v → Value.okWide Try.prog W .any base t v := hval0
  have hW' := hW
  obtain ⟨p, q, hA0, hV, rfl, hfz, hnd⟩ := hW
  have hA : DataW.TrodAll enc Try.prog W 0 (fun _ => true) true Try.f5.params.toList args.toList ds p := hA0
  rw [Try.params5] at hA hval
  obtain ⟨v0, vs0, d0, ds0, p0, q0, hargs, rfl, rfl, h0, r0⟩ := trodAll_cons hA
  obtain ⟨v1, vs1, d1, ds1, p1, q1, rfl, rfl, rfl, h1, r1⟩ := trodAll_cons r0
  obtain ⟨rfl, rfl, rfl⟩ := trodAll_nil r1
  obtain rfl : args = #[v0, v1] := by cases args; simp_all
  obtain ⟨rfl, rfl⟩ := trodVars_none hV
  have k0 := h0
  have lt0 : ∀ x ∈ p0, x.block < W.heap.size := by obtain ⟨m, hm⟩ := k0; exact DataW.trod_lt m _ _ _ hm
  obtain ⟨a0, rfl, rfl, rfl, w0⟩ := open_int Try.underlying3 (hval 0 3 v0 rfl rfl) h0
  have k1 := h1
  have lt1 : ∀ x ∈ p1, x.block < W.heap.size := by obtain ⟨m, hm⟩ := k1; exact DataW.trod_lt m _ _ _ hm
  obtain ⟨s1, rfl, rfl, rfl, w1⟩ := _root_.Go.ChangeMaps.open_string Try.underlying9 (hval 1 9 v1 rfl rfl) h1
  obtain ⟨l1, rfl⟩ : ∃ l : List UInt8, s1 = ⟨l.toArray⟩ := ⟨s1.data.toList, (Lib.mk_data s1).symm⟩
  clear hA0 hval0
  refine (names_any a0 l1 W).mono fun e W' ⟨he, bel⟩ => ?_
  subst he
  exact ⟨_, rfl, _, _, _, [], _, [], hW', trodAll_mk1 (shut_bool Try.underlying4 _), (trodAll_cons_mk (Below.trod laidOut (by kernel_rfl) (of_decide_eq_true (by kernel_rfl)) k0 bel lt0) (trodAll_cons_mk (Below.trod laidOut (by kernel_rfl) (of_decide_eq_true (by kernel_rfl)) k1 bel lt1) trodAll_mk0)), rfl, bel.frame _, fun h => by cases h⟩
end RowAggNames

theorem aggNames_holds : Rows.AggNamesSaid :=
  OpenClaim.holds_of_wide 5 Try.f5 rfl rfl rfl rfl rfl rfl rfl ⟨rfl, rfl, rfl, rfl, rfl⟩ rfl rfl rfl rfl rfl (by kernel_rfl) Try.func5 (by kernel_rfl)
    (of_decide_eq_true (by kernel_rfl)) (by unfold Func.isWrapper; first | (rw [if_pos (by decide +kernel)]; kernel_rfl) | (rw [if_neg (by decide +kernel)]; exact ⟨rfl, rfl⟩))
    (fun os started H enc _ => RowAggNames.lifted os started H enc)

#print axioms aggNames_holds
end Go.Proofs.Ytjaclmhfagdfhaa
