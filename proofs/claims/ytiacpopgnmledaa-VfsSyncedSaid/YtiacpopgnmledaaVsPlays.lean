/-
  VfsPlays: for every number and every row of acts the law's call returns true and leaves its arguments as they were. No condition.
-/
import Derived.Test.YtiacpopgnmledaaVsPlay
import Derived.Test.YtiacpopgnmledaaVsAlike
import Derived.ProofKit
import Derived.OpenShut
import Derived.ChangeOld
import Derived.Below
import Derived.Lib.SmallJoins
import Derived.ChangeArms
namespace Go.Proofs.Ytiacpopgnmledaa
open Go.RowKit
open Me Vf
namespace Vf
def Nm (l : List Fl) : Prop := ∀ f ∈ l, is f.name = true
theorem one_nm {a : Ac} {i : Int} {k : Nat} {x : Fl} (h : is x.name = true) : Nm (one a i k x) := by
  intro f hf
  unfold one at hf
  split at hf
  · simp only [List.mem_singleton] at hf
    subst hf
    exact h
  · split at hf
    · cases hf
    · simp only [List.mem_singleton] at hf
      subst hf
      exact h
theorem goes_nm (a : Ac) (i : Int) : ∀ (l : List Fl) (k : Nat), Nm l → Nm (goes a i k l)
  | [], _, _ => fun f hf => nomatch hf
  | x :: r, k, h => fun f hf => by
    unfold goes at hf
    rcases List.mem_append.1 hf with hf | hf
    · exact one_nm (h x (by simp)) f hf
    · exact goes_nm a i r (k + 1) (fun g hg => h g (by simp [hg])) f hf
theorem does_nm {l : List Fl} {a : Ac} (h : Nm l) (ha : a.kind = 1 → is a.name = true) : Nm (does l a) := by
  intro f hf
  unfold does at hf
  rcases List.mem_append.1 hf with hf | hf
  · exact goes_nm _ _ _ _ h f hf
  · split at hf
    · rename_i hk
      simp only [List.mem_singleton] at hf
      subst hf
      exact ha hk
    · cases hf
theorem rep_nm : ∀ (l : List Ac) (was : List Fl), Nm was → (∀ a ∈ l, a.kind = 1 → is a.name = true) → Nm (rep was l)
  | [], _, h, _ => h
  | a :: r, was, h, ha => rep_nm r (does was a) (does_nm h (ha a (by simp))) (fun b hb => ha b (by simp [hb]))
/-- Every name is one. -/
structure Gd (S : Sv) : Prop where
  now : Nm S.now
  was : Nm S.was
  acts : ∀ a ∈ S.l, a.kind = 1 → is a.name = true
theorem Gd.act {S : Sv} (h : Gd S) {a : Ac} (ha : a.kind = 1 → is a.name = true) : Gd (S.act a) := by
  refine ⟨does_nm h.now ha, h.was, fun b hb => ?_⟩
  rcases List.mem_append.1 hb with hb | hb
  · exact h.acts b hb
  · simp only [List.mem_singleton] at hb
    subst hb
    exact ha
theorem Gd.crash {S : Sv} (h : Gd S) (n m : Int) : Nm (Vf.crash S n m) := by
  have ht : ∀ k, ∀ a ∈ S.l.take k, a.kind = 1 → is a.name = true := fun k a ha => h.acts a (List.mem_of_mem_take ha)
  unfold Vf.crash
  split
  · rename_i a e
    split
    · refine does_nm (rep_nm _ _ h.was (ht _)) (fun hk => ?_)
      exact h.acts a (List.mem_of_getElem? e) hk
    · exact rep_nm _ _ h.was (ht _)
  · exact rep_nm _ _ h.was h.acts
end Vf
theorem Vs.step_gd {S : Sv} (h : Vf.Gd S) (a : Vs.A) : Vf.Gd (Vs.step S a) := by
  unfold Vs.step
  split
  · unfold Vf.create
    split
    · exact h
    · rename_i hi
      split
      · exact h
      · split
        · exact h
        · exact h.act (fun _ => by simpa using hi)
  · split
    · unfold Vf.write
      split
      · exact h
      · split
        · exact h
        · split
          · exact h
          · exact h.act (fun e => by simp at e)
    · split
      · unfold Vf.remove
        split
        · exact h
        · split
          · exact h
          · exact h.act (fun e => by simp at e)
      · split
        · exact ⟨h.now, h.now, fun a ha => nomatch ha⟩
        · split
          · exact ⟨h.crash _ _, h.crash _ _, fun a ha => nomatch ha⟩
          · exact h
theorem Vs.Run.alike {w wr : World} {fs xs k : Nat} {S : Sv} (h : Vs.Run w fs xs k S S wr) (hk : k ≤ 1000) (hg : Vf.Gd S) :
    Calls Try.prog 10 #[.pointer (some ⟨fs, 0, none⟩), .pointer (some ⟨xs, 0, none⟩)] wr (fun e w' => e = .returned (.bool true) ∧ Hid (Vs.Run w fs xs k S S w')) := by
  obtain ⟨hB, U, hd, hU⟩ := h
  refine (alike_any hd (by omega) (by omega) hg.now).mono ?_
  rintro e w' ⟨rfl, hb⟩
  exact ⟨rfl, Lib.hid ⟨hB.trans (hb.mono hB.size), U, hd.below hb, hU⟩⟩

set_option maxRecDepth 100000 in
set_option maxHeartbeats 4000000 in
theorem lawPlays_any (room : Int) (l : List Vs.A) (v : Value) (w : World) (h : Vs.Acts w (Vs.Old w) v l) :
    Calls Try.prog 3 #[.int .i64 room, v] w fun e w' => e = .returned (.bool true) ∧ Below w.heap.size w w' := by
  have H := Lib.hid h
  have HH := Lib.hid (heavy_any l v _ w h)
  have HK := Lib.hid known_any
  obtain ⟨A, c, xs, rfl, hc, hcm, _⟩ := h
  unfold maxLen at hcm
  by_cases h0 : room < 0 ∨ 1073741824 < room
  · have HN := Lib.hid (pnew_no room w h0)
    have HX := Lib.hid (new_no room w h0)
    clear h0
    go_enter Try.func3, Try.ntmps3
    go_wp2_with (first | (go_at_call 6; (with_reducible refine (HH.out).mono ?_); rintro e w' ⟨⟨r, rfl, hr⟩, rfl⟩; clear hr) | (go_at_call 7; (with_reducible refine (HN.out).mono ?_); rintro e w1 ⟨rfl, rfl⟩) | (go_at_call 8; (with_reducible refine (HX.out).mono ?_); rintro e w2 ⟨rfl, rfl⟩))
    · go_ret
      exact ⟨rfl, Below.refl _ _⟩
    · go_loopw [9] (fun i wr => i = .int .i64 0 ∧ w = wr) (fun i _ => 0)
      case atStart => exact ⟨rfl, rfl⟩
      case round =>
        obtain ⟨rfl, rfl⟩ := hrel
        go_wp2_with (go_at_call 11; (with_reducible refine (HK.out _).mono ?_); rintro e w3 ⟨rfl, hb⟩)
        all_goals
          go_ret
          exact ⟨rfl, hb⟩
  · have HN := Lib.hid (pnew_any room w (by omega) (by omega))
    have HX := Lib.hid (fun w1 : World => new_any room w1 (by omega) (by omega))
    have HRO := Lib.hid h0
    clear h0
    go_enter Try.func3, Try.ntmps3
    go_wp2_with (first | (go_at_call 6; (with_reducible refine (HH.out).mono ?_); rintro e w' ⟨⟨r, rfl, hr⟩, rfl⟩; have HR := Lib.hid hr; clear hr) | (go_at_call 7; (with_reducible refine (HN.out).mono ?_); rintro e w1 ⟨rfl, hp, hb1⟩; have HP := Lib.hid hp; have HB1 := Lib.hid hb1; clear hp hb1) | (go_at_call 8; (with_reducible refine (HX.out w1).mono ?_); rintro e w2 ⟨rfl, ha, hb2⟩; have HD := Lib.hid (Vs.duo_new HP.out HB1.out ha hb2 (by have := HRO.out; omega) (by have := HRO.out; omega)); clear ha hb2))
    · go_ret
      exact ⟨rfl, Below.refl _ _⟩
    · have HLI := Lib.hid (HR.out (by assumption))
      obtain ⟨fs, hfs⟩ : ∃ fs, fs = w.heap.size := ⟨_, rfl⟩
      obtain ⟨xs, hxs⟩ : ∃ xs, xs = w1.heap.size := ⟨_, rfl⟩
      rw [← hfs, ← hxs] at HD ⊢
      clear hfs hxs HP HB1 HN HX
      go_loopw [9] (fun i wr => ∃ (k : Nat) (S : Vf.Sv), k ≤ l.length ∧ k ≤ 100 ∧ i = .int .i64 k ∧ Hid (Vs.Run w fs xs k S S wr) ∧ Hid (Vf.Gd S)) (fun i _ => l.length - (intOf i).toNat)
      case atStart => exact ⟨0, _, Nat.zero_le _, Nat.zero_le _, rfl, HD, Lib.hid ⟨(fun f hf => nomatch hf), (fun f hf => nomatch hf), (fun a ha => nomatch ha)⟩⟩
      case round =>
        obtain ⟨k, S, hk, hk2, rfl, hrun, hgd⟩ := hrel
        have hk' : (k : Int) ≤ (l.length : Int) := by omega
        by_cases hlt : k < l.length
        · by_cases h100 : k < 100
          · obtain ⟨rb, ro, c', A2, c2, he, d0, d1, d2, d3, d4, hact⟩ := hrun.out.act H.out HLI.out k hlt h100 (by omega)
            injection he with he1 he2 he3
            subst he1 he3
            have HA := Lib.hid hact
            have HG2 := Lib.hid (Vs.step_gd hgd.out l[k])
            have HU : Hid (∀ w', Vs.Run w fs xs (k + 1) (Vs.step S l[k]) (Vs.step S l[k]) w' → Calls Try.prog 10 #[.pointer (some ⟨fs, 0, none⟩), .pointer (some ⟨xs, 0, none⟩)] w' fun e w2 => e = .returned (.bool true) ∧ Hid (Vs.Run w fs xs (k + 1) (Vs.step S l[k]) (Vs.step S l[k]) w2)) := Lib.hid fun w' hr => hr.alike (by omega) HG2.out
            have hk3 : (k : Int) < (l.length : Int) := by omega
            have hk4 : (k : Int) < 100 := by omega
            clear hact hrun hgd
            generalize l[k].kind = akind at *
            generalize l[k].off = aoff at *
            generalize l[k].n = an at *
            generalize l[k].name = aname at *
            generalize l[k].b.length = blen at *
            go_wp2_with (first | (go_at_call 9; (with_reducible refine (HA.out).mono ?_); rintro e w3 ⟨r3, rfl, hr3⟩; obtain rfl : r3 = true := hr3.out.1 rfl; have HR3 := Lib.hid hr3.out.2; clear hr3) | (go_at_call 10; (with_reducible refine (HU.out w3 HR3.out).mono ?_); rintro e w4 ⟨rfl, hr4⟩))
            go_roundw
            case rel => exact ⟨k + 1, _, by omega, by omega, by go_num, hr4, HG2⟩
            case measure => simp [intOf]; omega
          · obtain rfl : k = 100 := by omega
            have HB := Lib.hid hrun.out.1
            clear hrun
            go_wp2_with (go_at_call 11; (with_reducible refine (HK.out _).mono ?_); rintro e w3 ⟨rfl, hb⟩)
            all_goals
              go_ret
              exact ⟨rfl, HB.out.trans (hb.mono HB.out.size)⟩
        · obtain rfl : k = l.length := by omega
          have HB := Lib.hid hrun.out.1
          clear hrun
          go_wp2_with (go_at_call 11; (with_reducible refine (HK.out _).mono ?_); rintro e w3 ⟨rfl, hb⟩)
          all_goals
            go_ret
            exact ⟨rfl, HB.out.trans (hb.mono HB.out.size)⟩

namespace RowVfsPlays
open Go.ChangeShapes Go.WideShapes Go.ChangeAt Go.RowKit Go.Joins
theorem own : ownKnob Try.prog.godebug = none := by kernel_rfl
theorem laidOut : laidOutB Try.prog = true := by kernel_rfl
set_option maxRecDepth 100000 in
theorem lifted (os : Os) (started : os.Started) (H : Type) (enc : TypeId × Value → H) :
    ReturnsInHanded {} Try.checked os 3 .any (Rows.vfsPlaysSpec.pre6 enc Try.prog Try.f3 Rows.vfsPlaysRow.domain false) (Rows.vfsPlaysSpec.post enc Try.prog Try.f3 false true false false) := by
  refine returnsInHanded_of_change (C := Try.checked) own started (by kernel_rfl) Try.func3
    (ChangeSpec.witness6 (enc := enc) (C := Try.checked) false ⟨#[], #[.int .i64 0, .slice none 0 0], []⟩ 8 (by kernel_rfl) (by kernel_rfl) (by kernel_rfl) (by kernel_rfl)) ?_
  intro W base args ds gs before hval0 hW hcnd _
  have hval : ∀ (j : Nat) t v, Try.f3.params[j]? = some t → args[j]? = some v → Value.okWide Try.prog W .any base t v := hval0
  have hW' := hW
  obtain ⟨p, q, hA0, hV, rfl, hfz, hnd⟩ := hW
  have hA : DataW.TrodAll enc Try.prog W 0 (fun _ => true) true Try.f3.params.toList args.toList ds p := hA0
  rw [Try.params3] at hA hval
  obtain ⟨v0, vs0, d0, ds0, p0, q0, hargs, rfl, rfl, h0, r0⟩ := trodAll_cons hA
  obtain ⟨v1, vs1, d1, ds1, p1, q1, rfl, rfl, rfl, h1, r1⟩ := trodAll_cons r0
  obtain ⟨rfl, rfl, rfl⟩ := trodAll_nil r1
  obtain rfl : args = #[v0, v1] := by cases args; simp_all
  obtain ⟨rfl, rfl⟩ := trodVars_none hV
  have k0 := h0
  have lt0 : ∀ x ∈ p0, x.block < W.heap.size := by obtain ⟨m, hm⟩ := k0; exact DataW.trod_lt m _ _ _ hm
  obtain ⟨a0, rfl, rfl, rfl, w0⟩ := open_int Try.underlying3 (hval 0 3 v0 rfl rfl) h0
  have k1 := h1
  have lt1 : ∀ x ∈ p1, x.block < W.heap.size := by obtain ⟨m, hm⟩ := k1; exact DataW.trod_lt m _ _ _ hm
  obtain ⟨A1, len1, cap1, rfl⟩ := okWide_slice Try.underlying22 (hval 1 22 v1 rfl rfl)
  obtain ⟨fuel, hf⟩ := h1
  obtain ⟨v, l, hv, hacts⟩ := Vs.acts_open (by simpa [Value.cells] using hf)
  obtain rfl : Value.slice A1 len1 cap1 = v := by simpa using hv
  clear hA0 hval0 hv hf
  refine (lawPlays_any a0 l _ W hacts).mono fun e W' ⟨he, bel⟩ => ?_
  subst he
  exact ⟨_, rfl, _, _, _, [], _, [], hW', trodAll_mk1 (shut_bool Try.underlying4 _), (trodAll_cons_mk (Below.trod laidOut (by kernel_rfl) (of_decide_eq_true (by kernel_rfl)) k0 bel lt0) (trodAll_cons_mk (Below.trod laidOut (by kernel_rfl) (of_decide_eq_true (by kernel_rfl)) k1 bel lt1) trodAll_mk0)), rfl, bel.frame _, fun h => by cases h⟩
end RowVfsPlays

theorem vfsPlays_holds : Rows.VfsPlaysSaid :=
  OpenClaim.holds_of_wide 3 Try.f3 rfl rfl rfl rfl rfl rfl rfl ⟨rfl, rfl, rfl, rfl, rfl⟩ rfl rfl rfl rfl rfl (by kernel_rfl) Try.func3 (by kernel_rfl)
    (of_decide_eq_true (by kernel_rfl)) (by unfold Func.isWrapper; first | (rw [if_pos (by decide +kernel)]; kernel_rfl) | (rw [if_neg (by decide +kernel)]; exact ⟨rfl, rfl⟩))
    (fun os started H enc _ => RowVfsPlays.lifted os started H enc)

#print axioms vfsPlays_holds
end Go.Proofs.Ytiacpopgnmledaa
