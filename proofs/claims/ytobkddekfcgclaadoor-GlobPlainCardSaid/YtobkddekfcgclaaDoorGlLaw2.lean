/-
  WALKS: chapter 9's laws: the statements on plain patterns and on stars.
-/
import Derived.Test.YtobkddekfcgclaaDoorGlLaw
namespace Go.Proofs.YtobkddekfcgclaaDoor
open Go.RowKit
open Me

set_option maxHeartbeats 4000000 in
theorem lawPlain9 (p s : List UInt8) (w : World) (hm : Mx w) :
    Calls Tryd.prog 6 #[.string ⟨p.toArray⟩, .string ⟨s.toArray⟩] w fun e w' => e = .returned (.bool true) ∧ Below w.heap.size w w' := by
  have hs : (⟨s.toArray⟩ : ByteArray).size = s.length := by show s.toArray.size = _; simp
  have hp : (⟨p.toArray⟩ : ByteArray).size = p.length := by show p.toArray.size = _; simp
  by_cases h3 : p.length < 1
  · have h3' : (p.length : Int) < 1 := by omega
    clear h3
    go_enter Tryd.func6, Tryd.ntmps6
    go_wp2_with fail
    go_ret
    exact ⟨rfl, Below.refl _ _⟩
  have h3' : ¬ (p.length : Int) < 1 := by omega
  by_cases h4 : 200 < p.length
  · have h4' : (200 : Int) < (p.length : Int) := by omega
    clear h4 h3
    go_enter Tryd.func6, Tryd.ntmps6
    go_wp2_with fail
    go_ret
    exact ⟨rfl, Below.refl _ _⟩
  have h4' : ¬ (200 : Int) < (p.length : Int) := by omega
  by_cases h5 : 200 < s.length
  · have h5' : (200 : Int) < (s.length : Int) := by omega
    clear h4 h5 h3
    go_enter Tryd.func6, Tryd.ntmps6
    go_wp2_with fail
    go_ret
    exact ⟨rfl, Below.refl _ _⟩
  have h5' : ¬ (200 : Int) < (s.length : Int) := by omega
  have HRP := Lib.hid (fun W => refPlain_any p (by omega) W)
  cases hpl : Gl.plainB p
  · rw [hpl] at HRP
    clear hpl h3 h4 h5
    go_enter Tryd.func6, Tryd.ntmps6
    go_wp2_with (go_at_call 16; go_must (refine (HRP.out _).mono ?_; rintro e w1 ⟨rfl, hw1⟩; subst hw1))
    go_ret
    exact ⟨rfl, Below.refl _ _⟩
  rw [hpl] at HRP
  have HM : Hid (∀ W, Below w.heap.size w W → Mx W) := Lib.hid fun W h => hm.below h
  have HE := Lib.hid ((expand_any p [p] (fun _ => Gl.Gr.plain (Gl.noSp_plain p hpl)) (by omega) w hm).mono fun e w' h => h.both)
  rw [Gl.expErr_plain p hpl (by omega) (by omega), if_pos rfl] at HE
  have HMt := Lib.hid (fun (hd : p.any (· == 46) = false) W (h : Mx W) => by
    have h2 := match_any p s (by omega) (by omega) W h
    rw [Gl.gm_plain p s (by rw [Gl.allOk, hd, hpl]; rfl)] at h2
    exact h2)
  have HT := Lib.hid (fun A A' c c' => texts_same [p] A A' c c' (by simp))
  have HRd := Lib.hid (fun base W v => @rd_own base W v [p])
  have HF := Lib.hid (fun (W : World) => Rd.fresh W (byS [p]) 9 _ rfl)
  have HN : Hid ((∀ i (h : i < p.length), p[i] ≠ 46) → p.any (· == 46) = false) := Lib.hid fun h => List.any_eq_false.2 fun x hx => by
    obtain ⟨i, hi, rfl⟩ := List.getElem_of_mem hx
    simpa using h i hi
  have hp9 : (p.length : Int) ≤ 200 := by omega
  clear hm hpl h3 h4 h5
  go_enter Tryd.func6, Tryd.ntmps6
  go_wp2_with first
    | (go_at_call 16; go_must (refine (HRP.out _).mono ?_; rintro e w1 ⟨rfl, hw1⟩; subst hw1))
    | (go_at_call 9; go_must (refine (HE.out).mono ?_; rintro e w2 ⟨v, rfl, ho, hb2⟩; obtain ⟨A, c, rfl, hr⟩ := HRd.out _ _ _ ho))
  have HR := Lib.hid hr
  clear ho hr HE
  go_loop [7] (fun x => ∃ i : Nat, i ≤ p.length ∧ x = .int .i64 i ∧ Hid (∀ j (h : j < p.length), j < i → p[j] ≠ 46)) (fun x => p.length - (intOf x).toNat)
  case atStart => exact ⟨0, Nat.zero_le _, rfl, Lib.hid fun j _ h => absurd h (by omega)⟩
  case round =>
    obtain ⟨i, hi, rfl, HD⟩ := hrel
    have hi0 : (0 : Int) ≤ (i : Int) := by omega
    by_cases hlt : i < p.length
    · have hil : (i : Int) < (p.length : Int) := by omega
      have e1 : ((((⟨p.toArray⟩ : ByteArray)[i]'hlt).toNat : Int) == 46) = decide (p[i] = 46) := Gl.byteEq p[i] 46
      have e0 : ((((⟨p.toArray⟩ : ByteArray)[i]'hlt).toNat) == 46) = decide (p[i] = 46) := Gl.byteEqN p[i] 46
      by_cases b1 : p[i] = 46
      · rw [decide_eq_true b1] at e1 e0
        clear b1 HD
        go_wp2_with first
          | (go_at_call 11; go_must (refine (HT.out _ _ _ _ _ (HR.out.below ((Below.refl _ _).alloc (Nat.le_refl _) _)) ((HF.out _).mono fun _ _ _ => trivial)).mono ?_; rintro e w3 ⟨rfl, hb3⟩; have hB2 := hb2.alloc hb2.size (.cells (byS [p]).toArray 9); have hB3 := hB2.trans (hb3.mono hB2.size)))
          | (go_at_call 12; go_must (refine (known9_any _ (HM.out _ hB3)).mono ?_; rintro e w9 ⟨rfl, hb9⟩; have hB9 := hB3.trans (hb9.mono hB3.size)))
        go_ret
        exact ⟨rfl, hB9⟩
      · rw [decide_eq_false b1] at e1 e0
        have HD2 : Hid (∀ j (h : j < p.length), j < i + 1 → p[j] ≠ 46) := Lib.hid fun j h hj => by
          by_cases e : j = i
          · subst e; exact b1
          · exact HD.out j h (by omega)
        clear b1
        go_wp2_with fail
        go_round
        case rel => exact ⟨i + 1, by omega, by go_num, HD2⟩
        case measure => simp [intOf]; omega
    · obtain rfl : i = p.length := by omega
      have HMt2 := Lib.hid (HMt.out (HN.out fun j h => HD.out j h h))
      have hself : (decide (s = p) == decide (s = p)) = true := by simp
      clear HMt HN HD
      by_cases esp : s = p
      · subst esp
        have hss : (s == s) = true := by simp
        have HMt3 : Hid (∀ (W : World), Mx W → Calls Tryd.prog 13 #[.string ⟨s.toArray⟩, .string ⟨s.toArray⟩] W fun e w' => e = .returned (.bool true) ∧ Below W.heap.size W w') := Lib.hid fun W h => by
          have := HMt2.out W h
          rw [decide_eq_true rfl] at this
          exact this
        clear HMt2 hself
        go_wp2_with first
          | (go_at_call 11; go_must (refine (HT.out _ _ _ _ _ (HR.out.below ((Below.refl _ _).alloc (Nat.le_refl _) _)) ((HF.out _).mono fun _ _ _ => trivial)).mono ?_; rintro e w3 ⟨rfl, hb3⟩; have hB2 := hb2.alloc hb2.size (.cells (byS [s]).toArray 9); have hB3 := hB2.trans (hb3.mono hB2.size)))
          | (go_at_call 13; go_must (refine (HMt3.out _ (HM.out _ hB3)).mono ?_; rintro e w4 ⟨rfl, hb4⟩; have hB4 := hB3.trans (hb4.mono hB3.size)))
          | (go_at_call 12; go_must (refine (known9_any _ (HM.out _ hB4)).mono ?_; rintro e w9 ⟨rfl, hb9⟩; have hB9 := hB4.trans (hb9.mono hB4.size)))
        go_ret
        exact ⟨rfl, hB9⟩
      · have hss : (s == p) = false := by simpa using esp
        have HMt3 : Hid (∀ (W : World), Mx W → Calls Tryd.prog 13 #[.string ⟨p.toArray⟩, .string ⟨s.toArray⟩] W fun e w' => e = .returned (.bool false) ∧ Below W.heap.size W w') := Lib.hid fun W h => by
          have := HMt2.out W h
          rw [decide_eq_false esp] at this
          exact this
        clear HMt2 hself
        go_wp2_with first
          | (go_at_call 11; go_must (refine (HT.out _ _ _ _ _ (HR.out.below ((Below.refl _ _).alloc (Nat.le_refl _) _)) ((HF.out _).mono fun _ _ _ => trivial)).mono ?_; rintro e w3 ⟨rfl, hb3⟩; have hB2 := hb2.alloc hb2.size (.cells (byS [p]).toArray 9); have hB3 := hB2.trans (hb3.mono hB2.size)))
          | (go_at_call 13; go_must (refine (HMt3.out _ (HM.out _ hB3)).mono ?_; rintro e w4 ⟨rfl, hb4⟩; have hB4 := hB3.trans (hb4.mono hB3.size)))
          | (go_at_call 12; go_must (refine (known9_any _ (HM.out _ hB4)).mono ?_; rintro e w9 ⟨rfl, hb9⟩; have hB9 := hB4.trans (hb9.mono hB4.size)))
        go_ret
        exact ⟨rfl, hB9⟩
end Go.Proofs.YtobkddekfcgclaaDoor
