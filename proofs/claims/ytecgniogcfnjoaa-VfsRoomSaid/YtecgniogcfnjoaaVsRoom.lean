/-
  VfsRoom: for every number and every row of acts the law's call returns true and leaves its arguments as they were. No condition.
-/
import Derived.Test.YtecgniogcfnjoaaVsPlay
import Derived.ProofKit
import Derived.OpenShut
import Derived.ChangeOld
import Derived.Below
import Derived.Lib.SmallJoins
import Derived.ChangeArms
namespace Go.Proofs.Ytecgniogcfnjoaa
open Go.RowKit
open Me Vf

set_option maxRecDepth 100000 in
set_option maxHeartbeats 4000000 in
theorem lawRoom_any (room : Int) (l : List Vs.A) (v : Value) (w : World) (h : Vs.Acts w (Vs.Old w) v l) :
    Calls Try.prog 6 #[.int .i64 room, v] w fun e w' => e = .returned (.bool true) ∧ Below w.heap.size w w' := by
  have H := Lib.hid h
  have HH := Lib.hid (heavy_any l v _ w h)
  have HK := Lib.hid known_any
  obtain ⟨A, c, xs, rfl, hc, hcm, _⟩ := h
  unfold maxLen at hcm
  by_cases h0 : room < 0
  · go_enter Try.func6, Try.ntmps6
    go_wp2_with (go_at_call 8; (with_reducible refine (HH.out).mono ?_); rintro e w' ⟨⟨r, rfl, hr⟩, rfl⟩)
    all_goals
      go_ret
      exact ⟨rfl, Below.refl _ _⟩
  · by_cases h1 : 1048576 < room
    · go_enter Try.func6, Try.ntmps6
      go_wp2_with (go_at_call 8; (with_reducible refine (HH.out).mono ?_); rintro e w' ⟨⟨r, rfl, hr⟩, rfl⟩)
      all_goals
        go_ret
        exact ⟨rfl, Below.refl _ _⟩
    · have HN := Lib.hid (pnew_any room w (by omega) (by omega))
      have HX := Lib.hid (fun w1 : World => new_any room w1 (by omega) (by omega))
      go_enter Try.func6, Try.ntmps6
      go_wp2_with (first | (go_at_call 8; (with_reducible refine (HH.out).mono ?_); rintro e w' ⟨⟨r, rfl, hr⟩, rfl⟩; have HR := Lib.hid hr; clear hr) | (go_at_call 9; (with_reducible refine (HN.out).mono ?_); rintro e w1 ⟨rfl, hp, hb1⟩; have HP := Lib.hid hp; have HB1 := Lib.hid hb1; clear hp hb1) | (go_at_call 10; (with_reducible refine (HX.out w1).mono ?_); rintro e w2 ⟨rfl, ha, hb2⟩; have HD := Lib.hid (Vs.duo_new HP.out HB1.out ha hb2 (by omega) (by omega)); clear ha hb2))
      · go_ret
        exact ⟨rfl, Below.refl _ _⟩
      · have HLI := Lib.hid (HR.out (by simpa using (show ¬ r = true by assumption)))
        obtain ⟨fs, hfs⟩ : ∃ fs, fs = w.heap.size := ⟨_, rfl⟩
        obtain ⟨xs, hxs⟩ : ∃ xs, xs = w1.heap.size := ⟨_, rfl⟩
        rw [← hfs, ← hxs] at HD ⊢
        clear hfs hxs HP HB1 HN HX
        go_loopw [9] (fun i wr => ∃ (k : Nat) (S : Vf.Sv), k ≤ l.length ∧ k ≤ 100 ∧ i = .int .i64 k ∧ Hid (Vs.Run w fs xs k S S wr) ∧ Hid (S.room = room)) (fun i _ => l.length - (intOf i).toNat)
        case atStart => exact ⟨0, _, Nat.zero_le _, Nat.zero_le _, rfl, HD, Lib.hid rfl⟩
        case round =>
          obtain ⟨k, S, hk, hk2, rfl, hrun, hroom⟩ := hrel
          have hk' : (k : Int) ≤ (l.length : Int) := by omega
          by_cases hlt : k < l.length
          · by_cases h100 : k < 100
            · obtain ⟨rb, ro, c', A2, c2, he, d0, d1, d2, d3, d4, hact⟩ := hrun.out.act H.out HLI.out k hlt h100 (by omega)
              injection he with he1 he2 he3
              subst he1 he3
              have HA := Lib.hid hact
              have HU : Hid (∀ w', Vs.Run w fs xs (k + 1) (Vs.step S l[k]) (Vs.step S l[k]) w' → ∃ u : Int, u ≤ room ∧ Calls Try.prog 24 #[.pointer (some ⟨fs, 0, none⟩)] w' fun e w2 => e = .returned (.int .i64 u) ∧ w' = w2) := Lib.hid fun w' hr => by
                obtain ⟨u1, u2⟩ := hr.used
                rw [Vs.step_room, hroom.out] at u2
                exact ⟨_, u2, u1⟩
              have HRM : Hid ((Vs.step S l[k]).room = room) := Lib.hid (by rw [Vs.step_room, hroom.out])
              have hk3 : (k : Int) < (l.length : Int) := by omega
              have hk4 : (k : Int) < 100 := by omega
              clear hact hrun hroom
              generalize l[k].kind = akind at *
              generalize l[k].off = aoff at *
              generalize l[k].n = an at *
              generalize l[k].name = aname at *
              generalize l[k].b.length = blen at *
              go_wp2_with (first | (go_at_call 11; (with_reducible refine (HA.out).mono ?_); rintro e w3 ⟨r3, rfl, hr3⟩; have HR3 := Lib.hid hr3.out.2; obtain ⟨u, hu, hcu⟩ := HU.out w3 HR3.out; have HCU := Lib.hid hcu; clear hr3 hcu) | (go_at_call 24; ((with_reducible refine (HCU.out).mono ?_); rintro e w' ⟨rfl, rfl⟩)))
              go_roundw
              case rel => exact ⟨k + 1, _, by omega, by omega, by go_num, HR3, HRM⟩
              case measure => simp [intOf]; omega
            · obtain rfl : k = 100 := by omega
              have HB := Lib.hid hrun.out.1
              clear hrun
              go_wp2_with (go_at_call 13; (with_reducible refine (HK.out _).mono ?_); rintro e w3 ⟨rfl, hb⟩)
              all_goals
                go_ret
                exact ⟨rfl, HB.out.trans (hb.mono HB.out.size)⟩
          · obtain rfl : k = l.length := by omega
            have HB := Lib.hid hrun.out.1
            clear hrun
            go_wp2_with (go_at_call 13; (with_reducible refine (HK.out _).mono ?_); rintro e w3 ⟨rfl, hb⟩)
            all_goals
              go_ret
              exact ⟨rfl, HB.out.trans (hb.mono HB.out.size)⟩

namespace RowVfsRoom
open Go.ChangeShapes Go.WideShapes Go.ChangeAt Go.RowKit Go.Joins
theorem own : ownKnob Try.prog.godebug = none := by kernel_rfl
theorem laidOut : laidOutB Try.prog = true := by kernel_rfl
set_option maxRecDepth 100000 in
theorem lifted (os : Os) (started : os.Started) (H : Type) (enc : TypeId × Value → H) :
    ReturnsInHanded {} Try.checked os 6 .any (Rows.vfsRoomSpec.pre6 enc Try.prog Try.f6 Rows.vfsRoomRow.domain false) (Rows.vfsRoomSpec.post enc Try.prog Try.f6 false true false false) := by
  refine returnsInHanded_of_change (C := Try.checked) own started (by kernel_rfl) Try.func6
    (ChangeSpec.witness6 (enc := enc) (C := Try.checked) false ⟨#[], #[.int .i64 0, .slice none 0 0], []⟩ 8 (by kernel_rfl) (by kernel_rfl) (by kernel_rfl) (by kernel_rfl)) ?_
  intro W base args ds gs before hval0 hW hcnd _
  have hval : ∀ (j : Nat) t v, Try.f6.params[j]? = some t → args[j]? = some v → Value.okWide Try.prog W .any base t v := hval0
  have hW' := hW
  obtain ⟨p, q, hA0, hV, rfl, hfz, hnd⟩ := hW
  have hA : DataW.TrodAll enc Try.prog W 0 (fun _ => true) true Try.f6.params.toList args.toList ds p := hA0
  rw [Try.params6] at hA hval
  obtain ⟨v0, vs0, d0, ds0, p0, q0, hargs, rfl, rfl, h0, r0⟩ := trodAll_cons hA
  obtain ⟨v1, vs1, d1, ds1, p1, q1, rfl, rfl, rfl, h1, r1⟩ := trodAll_cons r0
  obtain ⟨rfl, rfl, rfl⟩ := trodAll_nil r1
  obtain rfl : args = #[v0, v1] := by cases args; simp_all
  obtain ⟨rfl, rfl⟩ := trodVars_none hV
  have k0 := h0
  have lt0 : ∀ x ∈ p0, x.block < W.heap.size := by obtain ⟨m, hm⟩ := k0; exact DataW.trod_lt m _ _ _ hm
  obtain ⟨a0, rfl, rfl, rfl, w0⟩ := open_int Try.underlying3 (hval 0 3 v0 rfl rfl) h0
  have k1 := h1
  have lt1 : ∀ x ∈ p1, x.block < W.heap.size := by obtain ⟨m, hm⟩ := k1; exact DataW.trod_lt m _ _ _ hm
  obtain ⟨A1, len1, cap1, rfl⟩ := okWide_slice Try.underlying22 (hval 1 22 v1 rfl rfl)
  obtain ⟨fuel, hf⟩ := h1
  obtain ⟨v, l, hv, hacts⟩ := Vs.acts_open (by simpa [Value.cells] using hf)
  obtain rfl : Value.slice A1 len1 cap1 = v := by simpa using hv
  clear hA0 hval0 hv hf
  refine (lawRoom_any a0 l _ W hacts).mono fun e W' ⟨he, bel⟩ => ?_
  subst he
  exact ⟨_, rfl, _, _, _, [], _, [], hW', trodAll_mk1 (shut_bool Try.underlying4 _), (trodAll_cons_mk (Below.trod laidOut (by kernel_rfl) (of_decide_eq_true (by kernel_rfl)) k0 bel lt0) (trodAll_cons_mk (Below.trod laidOut (by kernel_rfl) (of_decide_eq_true (by kernel_rfl)) k1 bel lt1) trodAll_mk0)), rfl, bel.frame _, fun h => by cases h⟩
end RowVfsRoom

theorem vfsRoom_holds : Rows.VfsRoomSaid :=
  OpenClaim.holds_of_wide 6 Try.f6 rfl rfl rfl rfl rfl rfl rfl ⟨rfl, rfl, rfl, rfl, rfl⟩ rfl rfl rfl rfl rfl (by kernel_rfl) Try.func6 (by kernel_rfl)
    (of_decide_eq_true (by kernel_rfl)) (by unfold Func.isWrapper; first | (rw [if_pos (by decide +kernel)]; kernel_rfl) | (rw [if_neg (by decide +kernel)]; exact ⟨rfl, rfl⟩))
    (fun os started H enc _ => RowVfsRoom.lifted os started H enc)

#print axioms vfsRoom_holds
end Go.Proofs.Ytecgniogcfnjoaa
