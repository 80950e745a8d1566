/-
  WALKS: chapter 9's laws: the statement on stars.
-/
import Derived.Test.YtobkddekfcgclaaDoorGlLaw
import Derived.SizedLaws
namespace Go.Proofs.YtobkddekfcgclaaDoor
open Go.RowKit
open Me

namespace Gl
def PlIs (x : List UInt8) (v : Bool) : Prop := x.length ≤ 200 ∧ x.all Nm.okB = v
def MtIs (x : ByteArray) (s : List UInt8) (v : Bool) : Prop := ∃ p : List UInt8, x = ⟨p.toArray⟩ ∧ p.length ≤ 300 ∧ gm p s = v
end Gl
theorem plain_is (x : List UInt8) (v : Bool) (h : Hid (Gl.PlIs x v)) (W : World) : Calls Tryd.prog 19 #[.string ⟨x.toArray⟩] W fun e w' => e = .returned (.bool v) ∧ w' = W := by
  have := lawPlain_any x (by have := h.out.1; omega) W
  rw [h.out.2] at this
  exact this
theorem match_is (x : ByteArray) (s : List UInt8) (v : Bool) (hs : s.length ≤ 200) (h : Hid (Gl.MtIs x s v)) (W : World) (hm : Mx W) : Calls Tryd.prog 13 #[.string x, .string ⟨s.toArray⟩] W fun e w' => e = .returned (.bool v) ∧ Below W.heap.size W w' := by
  obtain ⟨p, rfl, hp, hv⟩ := h.out
  have := match_any p s (by omega) (by omega) W hm
  rw [hv] at this
  exact this

set_option maxRecDepth 100000 in
set_option maxHeartbeats 1000000 in
theorem lawStars9_big (a b s : List UInt8) (za : (a.length : Int) ≤ 140737488351232) (zb : (b.length : Int) ≤ 140737488351232) (zs : (s.length : Int) ≤ 140737488351232) (h3 : (200 : Int) < (a.length : Int) + (b.length : Int) + (s.length : Int)) (w : World) :
    Calls Tryd.prog 7 #[.string ⟨a.toArray⟩, .string ⟨b.toArray⟩, .string ⟨s.toArray⟩] w fun e w' => e = .returned (.bool true) ∧ Below w.heap.size w w' := by
  have hs : (⟨s.toArray⟩ : ByteArray).size = s.length := by show s.toArray.size = _; simp
  have ha : (⟨a.toArray⟩ : ByteArray).size = a.length := by show a.toArray.size = _; simp
  have hb : (⟨b.toArray⟩ : ByteArray).size = b.length := by show b.toArray.size = _; simp
  go_enter Tryd.func7, Tryd.ntmps7
  go_wp2_with fail
  go_ret
  exact ⟨rfl, Below.refl _ _⟩

set_option maxRecDepth 100000 in
set_option maxHeartbeats 1000000 in
theorem lawStars9_pa (a b s : List UInt8) (h3 : ¬ (200 : Int) < (a.length : Int) + (b.length : Int) + (s.length : Int)) (HA : Hid (Gl.PlIs a false)) (w : World) :
    Calls Tryd.prog 7 #[.string ⟨a.toArray⟩, .string ⟨b.toArray⟩, .string ⟨s.toArray⟩] w fun e w' => e = .returned (.bool true) ∧ Below w.heap.size w w' := by
  have hs : (⟨s.toArray⟩ : ByteArray).size = s.length := by show s.toArray.size = _; simp
  have ha : (⟨a.toArray⟩ : ByteArray).size = a.length := by show a.toArray.size = _; simp
  have hb : (⟨b.toArray⟩ : ByteArray).size = b.length := by show b.toArray.size = _; simp
  have za : (a.length : Int) ≤ 200 := by omega
  have zb : (b.length : Int) ≤ 200 := by omega
  have zs : (s.length : Int) ≤ 200 := by omega
  go_enter Tryd.func7, Tryd.ntmps7
  go_wp2_with (go_at_call 19; go_must (refine (plain_is _ _ (by assumption) _).mono ?_; rintro e w1 ⟨rfl, hw1⟩; subst hw1))
  go_ret
  exact ⟨rfl, Below.refl _ _⟩

set_option maxRecDepth 100000 in
set_option maxHeartbeats 1000000 in
theorem lawStars9_pb (a b s : List UInt8) (h3 : ¬ (200 : Int) < (a.length : Int) + (b.length : Int) + (s.length : Int)) (HA : Hid (Gl.PlIs a true)) (HB : Hid (Gl.PlIs b false)) (w : World) :
    Calls Tryd.prog 7 #[.string ⟨a.toArray⟩, .string ⟨b.toArray⟩, .string ⟨s.toArray⟩] w fun e w' => e = .returned (.bool true) ∧ Below w.heap.size w w' := by
  have hs : (⟨s.toArray⟩ : ByteArray).size = s.length := by show s.toArray.size = _; simp
  have ha : (⟨a.toArray⟩ : ByteArray).size = a.length := by show a.toArray.size = _; simp
  have hb : (⟨b.toArray⟩ : ByteArray).size = b.length := by show b.toArray.size = _; simp
  have za : (a.length : Int) ≤ 200 := by omega
  have zb : (b.length : Int) ≤ 200 := by omega
  have zs : (s.length : Int) ≤ 200 := by omega
  go_enter Tryd.func7, Tryd.ntmps7
  go_wp2_with (go_at_call 19; go_must (refine (plain_is _ _ (by assumption) _).mono ?_; rintro e w1 ⟨rfl, hw1⟩; subst hw1))
  go_ret
  exact ⟨rfl, Below.refl _ _⟩

set_option maxRecDepth 100000 in
set_option maxHeartbeats 1000000 in
theorem lawStars9_short (a b s : List UInt8) (h3 : ¬ (200 : Int) < (a.length : Int) + (b.length : Int) + (s.length : Int)) (HA : Hid (Gl.PlIs a true)) (HB : Hid (Gl.PlIs b true)) (hge : ¬ (a.length : Int) + (b.length : Int) ≤ (s.length : Int))
    (P1 P2 : ByteArray) (c1 : (⟨a.toArray⟩ : ByteArray) ++ ⟨#[42]⟩ ++ ⟨b.toArray⟩ = P1) (c2 : (⟨a.toArray⟩ : ByteArray) ++ ⟨#[42, 42]⟩ ++ ⟨b.toArray⟩ = P2) (HV1 : Hid (Gl.MtIs P1 s false)) (HV2 : Hid (Gl.MtIs P2 s false)) (w : World) (hm : Mx w) :
    Calls Tryd.prog 7 #[.string ⟨a.toArray⟩, .string ⟨b.toArray⟩, .string ⟨s.toArray⟩] w fun e w' => e = .returned (.bool true) ∧ Below w.heap.size w w' := by
  have hs : (⟨s.toArray⟩ : ByteArray).size = s.length := by show s.toArray.size = _; simp
  have ha : (⟨a.toArray⟩ : ByteArray).size = a.length := by show a.toArray.size = _; simp
  have hb : (⟨b.toArray⟩ : ByteArray).size = b.length := by show b.toArray.size = _; simp
  have za : (a.length : Int) ≤ 200 := by omega
  have zb : (b.length : Int) ≤ 200 := by omega
  have zs : (s.length : Int) ≤ 200 := by omega
  have HS : Hid (s.length ≤ 200) := Lib.hid (by omega)
  have HM : Hid (∀ W, Below w.heap.size w W → Mx W) := Lib.hid fun W h => hm.below h
  have HM0 := Lib.hid hm

  clear hm
  go_enter Tryd.func7, Tryd.ntmps7
  go_wp2_with (go_at_call 19; go_must (refine (plain_is _ _ (by assumption) _).mono ?_; rintro e w1 ⟨rfl, hw1⟩; subst hw1))
  refine (match_is _ _ _ HS.out HV1 _ HM0.out).mono ?_
  rintro e w2 ⟨rfl, hb2⟩
  clear c1 HV1
  go_wp2_with fail
  refine (match_is _ _ _ HS.out HV2 _ (HM.out _ hb2)).mono ?_
  rintro e w3 ⟨rfl, hb3⟩
  have hB3 := hb2.trans (hb3.mono hb2.size)
  clear c2 HV2
  go_wp2_with (go_at_call 12; go_must (refine (known9_any _ (HM.out _ hB3)).mono ?_; rintro e w9 ⟨rfl, hb9⟩; have hB9 := hB3.trans (hb9.mono hB3.size)))
  go_ret
  exact ⟨rfl, hB9⟩

set_option maxRecDepth 100000 in
set_option maxHeartbeats 1000000 in
theorem lawStars9_head (a b s : List UInt8) (h3 : ¬ (200 : Int) < (a.length : Int) + (b.length : Int) + (s.length : Int)) (HA : Hid (Gl.PlIs a true)) (HB : Hid (Gl.PlIs b true)) (hge : (a.length : Int) + (b.length : Int) ≤ (s.length : Int)) (hc1 : (s.take a.length == a) = false)
    (P1 P2 : ByteArray) (c1 : (⟨a.toArray⟩ : ByteArray) ++ ⟨#[42]⟩ ++ ⟨b.toArray⟩ = P1) (c2 : (⟨a.toArray⟩ : ByteArray) ++ ⟨#[42, 42]⟩ ++ ⟨b.toArray⟩ = P2) (HV1 : Hid (Gl.MtIs P1 s false)) (HV2 : Hid (Gl.MtIs P2 s false)) (w : World) (hm : Mx w) :
    Calls Tryd.prog 7 #[.string ⟨a.toArray⟩, .string ⟨b.toArray⟩, .string ⟨s.toArray⟩] w fun e w' => e = .returned (.bool true) ∧ Below w.heap.size w w' := by
  have hs : (⟨s.toArray⟩ : ByteArray).size = s.length := by show s.toArray.size = _; simp
  have ha : (⟨a.toArray⟩ : ByteArray).size = a.length := by show a.toArray.size = _; simp
  have hb : (⟨b.toArray⟩ : ByteArray).size = b.length := by show b.toArray.size = _; simp
  have za : (a.length : Int) ≤ 200 := by omega
  have zb : (b.length : Int) ≤ 200 := by omega
  have zs : (s.length : Int) ≤ 200 := by omega
  have HS : Hid (s.length ≤ 200) := Lib.hid (by omega)
  have HM : Hid (∀ W, Below w.heap.size w W → Mx W) := Lib.hid fun W h => hm.below h
  have HM0 := Lib.hid hm
  have hal : (a.length : Int) ≤ (s.length : Int) := by omega
  have d1 := Gl.takeB s a.length
  generalize s.take a.length = x at *

  clear hm
  go_enter Tryd.func7, Tryd.ntmps7
  go_wp2_with (go_at_call 19; go_must (refine (plain_is _ _ (by assumption) _).mono ?_; rintro e w1 ⟨rfl, hw1⟩; subst hw1))
  refine (match_is _ _ _ HS.out HV1 _ HM0.out).mono ?_
  rintro e w2 ⟨rfl, hb2⟩
  clear c1 HV1
  go_wp2_with fail
  refine (match_is _ _ _ HS.out HV2 _ (HM.out _ hb2)).mono ?_
  rintro e w3 ⟨rfl, hb3⟩
  have hB3 := hb2.trans (hb3.mono hb2.size)
  clear c2 HV2
  go_wp2_with (go_at_call 12; go_must (refine (known9_any _ (HM.out _ hB3)).mono ?_; rintro e w9 ⟨rfl, hb9⟩; have hB9 := hB3.trans (hb9.mono hB3.size)))
  go_ret
  exact ⟨rfl, hB9⟩

set_option maxRecDepth 100000 in
set_option maxHeartbeats 1000000 in
theorem lawStars9_tail (a b s : List UInt8) (h3 : ¬ (200 : Int) < (a.length : Int) + (b.length : Int) + (s.length : Int)) (HA : Hid (Gl.PlIs a true)) (HB : Hid (Gl.PlIs b true)) (hge : (a.length : Int) + (b.length : Int) ≤ (s.length : Int)) (hc1 : (s.take a.length == a) = true) (hc2 : (s.drop (s.length - b.length) == b) = false)
    (P1 P2 : ByteArray) (c1 : (⟨a.toArray⟩ : ByteArray) ++ ⟨#[42]⟩ ++ ⟨b.toArray⟩ = P1) (c2 : (⟨a.toArray⟩ : ByteArray) ++ ⟨#[42, 42]⟩ ++ ⟨b.toArray⟩ = P2) (HV1 : Hid (Gl.MtIs P1 s false)) (HV2 : Hid (Gl.MtIs P2 s false)) (w : World) (hm : Mx w) :
    Calls Tryd.prog 7 #[.string ⟨a.toArray⟩, .string ⟨b.toArray⟩, .string ⟨s.toArray⟩] w fun e w' => e = .returned (.bool true) ∧ Below w.heap.size w w' := by
  have hs : (⟨s.toArray⟩ : ByteArray).size = s.length := by show s.toArray.size = _; simp
  have ha : (⟨a.toArray⟩ : ByteArray).size = a.length := by show a.toArray.size = _; simp
  have hb : (⟨b.toArray⟩ : ByteArray).size = b.length := by show b.toArray.size = _; simp
  have za : (a.length : Int) ≤ 200 := by omega
  have zb : (b.length : Int) ≤ 200 := by omega
  have zs : (s.length : Int) ≤ 200 := by omega
  have HS : Hid (s.length ≤ 200) := Lib.hid (by omega)
  have HM : Hid (∀ W, Below w.heap.size w W → Mx W) := Lib.hid fun W h => hm.below h
  have HM0 := Lib.hid hm
  have hal : (a.length : Int) ≤ (s.length : Int) := by omega
  have d1 := Gl.takeB s a.length
  generalize s.take a.length = x at *
  obtain ⟨k, hk⟩ : ∃ k, k = s.length - b.length := ⟨_, rfl⟩
  have hkk : (s.length : Int) - (b.length : Int) = (k : Int) := by omega
  have hks : (k : Int) ≤ (s.length : Int) := by omega
  have hk0 : (0 : Int) ≤ (k : Int) := by omega
  have d2 := Gl.dropB s k
  rw [← hk] at hc2
  generalize s.drop k = y at *
  clear hk

  clear hm
  go_enter Tryd.func7, Tryd.ntmps7
  go_wp2_with (go_at_call 19; go_must (refine (plain_is _ _ (by assumption) _).mono ?_; rintro e w1 ⟨rfl, hw1⟩; subst hw1))
  refine (match_is _ _ _ HS.out HV1 _ HM0.out).mono ?_
  rintro e w2 ⟨rfl, hb2⟩
  clear c1 HV1
  go_wp2_with fail
  refine (match_is _ _ _ HS.out HV2 _ (HM.out _ hb2)).mono ?_
  rintro e w3 ⟨rfl, hb3⟩
  have hB3 := hb2.trans (hb3.mono hb2.size)
  clear c2 HV2
  go_wp2_with (go_at_call 12; go_must (refine (known9_any _ (HM.out _ hB3)).mono ?_; rintro e w9 ⟨rfl, hb9⟩; have hB9 := hB3.trans (hb9.mono hB3.size)))
  go_ret
  exact ⟨rfl, hB9⟩

set_option maxRecDepth 100000 in
set_option maxHeartbeats 1000000 in
theorem lawStars9_fits (a b s : List UInt8) (h3 : ¬ (200 : Int) < (a.length : Int) + (b.length : Int) + (s.length : Int)) (HA : Hid (Gl.PlIs a true)) (HB : Hid (Gl.PlIs b true)) (hge : (a.length : Int) + (b.length : Int) ≤ (s.length : Int)) (hc1 : (s.take a.length == a) = true) (hc2 : (s.drop (s.length - b.length) == b) = true)
    (P1 P2 : ByteArray) (c1 : (⟨a.toArray⟩ : ByteArray) ++ ⟨#[42]⟩ ++ ⟨b.toArray⟩ = P1) (c2 : (⟨a.toArray⟩ : ByteArray) ++ ⟨#[42, 42]⟩ ++ ⟨b.toArray⟩ = P2) (HV1 : Hid (Gl.MtIs P1 s true)) (HV2 : Hid (Gl.MtIs P2 s true)) (w : World) (hm : Mx w) :
    Calls Tryd.prog 7 #[.string ⟨a.toArray⟩, .string ⟨b.toArray⟩, .string ⟨s.toArray⟩] w fun e w' => e = .returned (.bool true) ∧ Below w.heap.size w w' := by
  have hs : (⟨s.toArray⟩ : ByteArray).size = s.length := by show s.toArray.size = _; simp
  have ha : (⟨a.toArray⟩ : ByteArray).size = a.length := by show a.toArray.size = _; simp
  have hb : (⟨b.toArray⟩ : ByteArray).size = b.length := by show b.toArray.size = _; simp
  have za : (a.length : Int) ≤ 200 := by omega
  have zb : (b.length : Int) ≤ 200 := by omega
  have zs : (s.length : Int) ≤ 200 := by omega
  have HS : Hid (s.length ≤ 200) := Lib.hid (by omega)
  have HM : Hid (∀ W, Below w.heap.size w W → Mx W) := Lib.hid fun W h => hm.below h
  have HM0 := Lib.hid hm
  have hal : (a.length : Int) ≤ (s.length : Int) := by omega
  have d1 := Gl.takeB s a.length
  generalize s.take a.length = x at *
  obtain ⟨k, hk⟩ : ∃ k, k = s.length - b.length := ⟨_, rfl⟩
  have hkk : (s.length : Int) - (b.length : Int) = (k : Int) := by omega
  have hks : (k : Int) ≤ (s.length : Int) := by omega
  have hk0 : (0 : Int) ≤ (k : Int) := by omega
  have d2 := Gl.dropB s k
  rw [← hk] at hc2
  generalize s.drop k = y at *
  clear hk

  clear hm
  go_enter Tryd.func7, Tryd.ntmps7
  go_wp2_with (go_at_call 19; go_must (refine (plain_is _ _ (by assumption) _).mono ?_; rintro e w1 ⟨rfl, hw1⟩; subst hw1))
  refine (match_is _ _ _ HS.out HV1 _ HM0.out).mono ?_
  rintro e w2 ⟨rfl, hb2⟩
  clear c1 HV1
  go_wp2_with fail
  refine (match_is _ _ _ HS.out HV2 _ (HM.out _ hb2)).mono ?_
  rintro e w3 ⟨rfl, hb3⟩
  have hB3 := hb2.trans (hb3.mono hb2.size)
  clear c2 HV2
  go_wp2_with (go_at_call 12; go_must (refine (known9_any _ (HM.out _ hB3)).mono ?_; rintro e w9 ⟨rfl, hb9⟩; have hB9 := hB3.trans (hb9.mono hB3.size)))
  go_ret
  exact ⟨rfl, hB9⟩

theorem lawStars9 (a b s : List UInt8) (za : a.length ≤ reachBytes) (zb : b.length ≤ reachBytes) (zs : s.length ≤ reachBytes) (w : World) (hm : Mx w) :
    Calls Tryd.prog 7 #[.string ⟨a.toArray⟩, .string ⟨b.toArray⟩, .string ⟨s.toArray⟩] w fun e w' => e = .returned (.bool true) ∧ Below w.heap.size w w' := by
  by_cases h3 : (200 : Int) < (a.length : Int) + (b.length : Int) + (s.length : Int)
  · exact lawStars9_big a b s (by unfold reachBytes at za; omega) (by unfold reachBytes at zb; omega) (by unfold reachBytes at zs; omega) h3 w
  cases hpa : a.all Nm.okB
  · exact lawStars9_pa a b s h3 (Lib.hid ⟨by omega, hpa⟩) w
  cases hpb : b.all Nm.okB
  · exact lawStars9_pb a b s h3 (Lib.hid ⟨by omega, hpa⟩) (Lib.hid ⟨by omega, hpb⟩) w
  have HA : Hid (Gl.PlIs a true) := Lib.hid ⟨by omega, hpa⟩
  have HB : Hid (Gl.PlIs b true) := Lib.hid ⟨by omega, hpb⟩
  have g1 := Gl.gm_star1 a b s hpa hpb
  have g2 := Gl.gm_star2 a b s hpa hpb
  have m1 : ∀ v, Gl.stars a b s = v → Hid (Gl.MtIs ((⟨a.toArray⟩ : ByteArray) ++ ⟨#[42]⟩ ++ ⟨b.toArray⟩) s v) := fun v e => Lib.hid ⟨a ++ 42 :: b, by apply ByteArray.ext; simp, by simp; omega, by rw [g1, e]⟩
  have m2 : ∀ v, Gl.stars a b s = v → Hid (Gl.MtIs ((⟨a.toArray⟩ : ByteArray) ++ ⟨#[42, 42]⟩ ++ ⟨b.toArray⟩) s v) := fun v e => Lib.hid ⟨a ++ 42 :: 42 :: b, by apply ByteArray.ext; simp, by simp; omega, by rw [g2, e]⟩
  by_cases hge : a.length + b.length ≤ s.length
  · have hge' : (a.length : Int) + (b.length : Int) ≤ (s.length : Int) := by omega
    by_cases e1 : s.take a.length = a
    · by_cases e2 : s.drop (s.length - b.length) = b
      · have hv : Gl.stars a b s = true := by unfold Gl.stars; rw [decide_eq_true hge, decide_eq_true e1, decide_eq_true e2]; rfl
        exact lawStars9_fits a b s h3 HA HB hge' (by simpa using e1) (by simpa using e2) _ _ rfl rfl (m1 _ hv) (m2 _ hv) w hm
      · have hv : Gl.stars a b s = false := by unfold Gl.stars; rw [decide_eq_true hge, decide_eq_true e1, decide_eq_false e2]; rfl
        exact lawStars9_tail a b s h3 HA HB hge' (by simpa using e1) (by simpa using e2) _ _ rfl rfl (m1 _ hv) (m2 _ hv) w hm
    · have hv : Gl.stars a b s = false := by unfold Gl.stars; rw [decide_eq_true hge, decide_eq_false e1]; rfl
      exact lawStars9_head a b s h3 HA HB hge' (by simpa using e1) _ _ rfl rfl (m1 _ hv) (m2 _ hv) w hm
  · have hv : Gl.stars a b s = false := by unfold Gl.stars; rw [decide_eq_false hge]; rfl
    exact lawStars9_short a b s h3 HA HB (by omega) _ _ rfl rfl (m1 _ hv) (m2 _ hv) w hm
end Go.Proofs.YtobkddekfcgclaaDoor
