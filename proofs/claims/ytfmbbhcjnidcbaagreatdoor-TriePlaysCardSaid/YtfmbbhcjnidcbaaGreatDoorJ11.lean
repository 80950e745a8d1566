/-
  GlRef: CONTRACTS: chapter 9's own answers (ref9): class, in, simple, Plain; the law's plain.
  GlRef2: CONTRACTS: chapter 9's own answers (ref9): simple, Plain; the law's plain.
-/
import Derived.Test.YtfmbbhcjnidcbaaGreatDoorJ10
import Derived.Test.YtfmbbhcjnidcbaaGreatDoorJ8

namespace Go.Proofs.YtfmbbhcjnidcbaaGreatDoor
open Go.RowKit
open Me

namespace Gl
/-- A text from a place on, up to another one. -/
def seg (s : List UInt8) (i e : Nat) : List UInt8 := (s.take e).drop i
theorem seg_len (s : List UInt8) (i e : Nat) (he : e ≤ s.length) : (seg s i e).length = e - i := by
  unfold seg; rw [List.length_drop, List.length_take]; omega
theorem seg_get (s : List UInt8) (i e k : Nat) (he : e ≤ s.length) (hk : i + k < e) (h : k < (seg s i e).length) : (seg s i e)[k] = s[i + k]'(by omega) := by
  have e : (seg s i e)[k]? = s[i + k]? := by
    unfold seg; rw [List.getElem?_drop, List.getElem?_take, if_pos hk]
  rw [List.getElem?_eq_getElem h, List.getElem?_eq_getElem (by omega)] at e
  exact Option.some.inj e
theorem seg_drop (s : List UInt8) (i e k : Nat) : (seg s i e).drop k = seg s (i + k) e := by
  unfold seg; rw [List.drop_drop]
theorem seg_nil (s : List UInt8) (e : Nat) : seg s e e = [] := by
  unfold seg; rw [List.drop_eq_nil_iff, List.length_take]; omega
theorem seg_ne (s : List UInt8) (i e : Nat) (he : e ≤ s.length) (h : i < e) : seg s i e ≠ [] := by
  intro h0
  have := seg_len s i e he
  rw [h0] at this
  have h1 : ([] : List UInt8).length = 0 := rfl
  omega
theorem seg_lo (s : List UInt8) (i e : Nat) (he : e ≤ s.length) (h : i < e) : lo (seg s i e) = s[i]'(by omega) := by
  have hl := seg_len s i e he
  rw [lo_eq _ (by omega), seg_get s i e 0 he (by omega)]; rfl
theorem seg_short (s : List UInt8) (i e : Nat) (he : e ≤ s.length) (h : ¬ i + 2 < e) : ranged (seg s i e) = false :=
  ranged_short _ (by rw [seg_len s i e he]; omega)
theorem seg_ranged (s : List UInt8) (i e : Nat) (he : e ≤ s.length) (h : i + 2 < e) : ranged (seg s i e) = decide (s[i + 1]'(by omega) = 45) := by
  have hl := seg_len s i e he
  rw [ranged_iff _ (by omega), seg_get s i e 1 he (by omega)]
theorem seg_hi (s : List UInt8) (i e : Nat) (he : e ≤ s.length) (h : i + 2 < e) (hr : ranged (seg s i e) = true) : hi (seg s i e) = s[i + 2]'(by omega) := by
  have hl := seg_len s i e he
  rw [hi_yes _ (by omega) hr, seg_get s i e 2 he (by omega)]
theorem seg_hi_no (s : List UInt8) (i e : Nat) (he : e ≤ s.length) (h : i < e) (hr : ranged (seg s i e) = false) : hi (seg s i e) = s[i]'(by omega) := by
  have hl := seg_len s i e he
  rw [hi_no _ (by omega) hr, seg_get s i e 0 he (by omega)]; rfl
/-- One round over a class. -/
theorem okR_no (s : List UInt8) (i e : Nat) (he : e ≤ s.length) (h : i < e) (hr : ranged (seg s i e) = false) : okR (seg s i e) = okR (seg s (i + 1) e) := by
  rw [okR_step _ (seg_ne s i e he h), seg_hi_no s i e he h hr, seg_lo s i e he h]
  unfold re; rw [hr, if_neg (by decide), seg_drop]
  simp
theorem okR_yes (s : List UInt8) (i e : Nat) (he : e ≤ s.length) (h : i + 2 < e) (hr : ranged (seg s i e) = true) : okR (seg s i e) = (!decide ((s[i + 2]'(by omega)).toNat < (s[i]'(by omega)).toNat) && okR (seg s (i + 3) e)) := by
  rw [okR_step _ (seg_ne s i e he (by omega)), seg_hi s i e he h hr, seg_lo s i e he (by omega)]
  unfold re; rw [hr, if_pos rfl, seg_drop]
theorem inR_no (c : UInt8) (s : List UInt8) (i e : Nat) (he : e ≤ s.length) (h : i < e) (hr : ranged (seg s i e) = false) : inR c (seg s i e) = (decide (s[i]'(by omega) = c) || inR c (seg s (i + 1) e)) := by
  rw [inR_step _ _ (seg_ne s i e he h), seg_hi_no s i e he h hr, seg_lo s i e he h]
  unfold re; rw [hr, if_neg (by decide), seg_drop]
  congr 1
  generalize s[i] = a
  by_cases h : a = c
  · subst h; simp
  · rw [decide_eq_false h]
    by_cases h1 : a.toNat ≤ c.toNat
    · have h2 : ¬ c.toNat ≤ a.toNat := fun h2 => h (UInt8.toNat_inj.1 (by omega))
      simp [h2]
    · simp [h1]
theorem inR_yes (c : UInt8) (s : List UInt8) (i e : Nat) (he : e ≤ s.length) (h : i + 2 < e) (hr : ranged (seg s i e) = true) : inR c (seg s i e) = ((decide ((s[i]'(by omega)).toNat ≤ c.toNat) && decide (c.toNat ≤ (s[i + 2]'(by omega)).toNat)) || inR c (seg s (i + 3) e)) := by
  rw [inR_step _ _ (seg_ne s i e he (by omega)), seg_hi s i e he h hr, seg_lo s i e he (by omega)]
  unfold re; rw [hr, if_pos rfl, seg_drop]
/-- Where a class that begins at a place ends. -/
def clsAt (s : List UInt8) (i : Nat) : Nat := i + 1 + (ah (s.drop (i + 1))).length
def clsOk (s : List UInt8) (i : Nat) : Bool := has93 (s.drop (i + 1)) && (!(ah (s.drop (i + 1))).isEmpty && okR (ah (s.drop (i + 1))))
theorem ah_len (s : List UInt8) : (ah s).length ≤ s.length := by
  unfold ah; exact (List.takeWhile_prefix _).length_le
theorem ah_full (s : List UInt8) (h : has93 s = false) : ah s = s := by
  induction s with
  | nil => rfl
  | cons b r ih =>
    have h1 : b ≠ 93 ∧ has93 r = false := by simpa [has93, none93] using h
    unfold ah
    rw [List.takeWhile_cons, if_pos (by simpa using h1.1)]
    exact congrArg (b :: ·) (ih h1.2)
theorem at93 (r : List UInt8) (h : has93 r = true) : r[(ah r).length]? = some 93 := by
  have e := cut93 r h
  generalize ah r = x at *
  generalize bh r = y at *
  rw [e]; simp
theorem drop93 (r : List UInt8) (h : has93 r = true) : r.drop ((ah r).length + 1) = bh r := by
  have e := cut93 r h
  generalize ah r = x at *
  generalize bh r = y at *
  rw [e]; simp
theorem clsAt_le (s : List UInt8) (i : Nat) (hi : i < s.length) : clsAt s i ≤ s.length := by
  have := ah_len (s.drop (i + 1))
  rw [List.length_drop] at this
  unfold clsAt; omega
theorem clsAt_in (s : List UInt8) (i j : Nat) (h1 : i + 1 ≤ j) (h2 : j < clsAt s i) (hj : j < s.length) : s[j] ≠ 93 := by
  have h3 : j - (i + 1) < (ah (s.drop (i + 1))).length := by unfold clsAt at h2; omega
  have h4 : (ah (s.drop (i + 1)))[j - (i + 1)] = s[j] := by
    have h5 : (ah (s.drop (i + 1))) <+: s.drop (i + 1) := List.takeWhile_prefix _
    rw [List.IsPrefix.getElem h5 h3, List.getElem_drop]
    congr 1; omega
  have h6 := List.all_eq_true.1 (ah_none (s.drop (i + 1))) _ (List.getElem_mem h3)
  rw [h4] at h6
  simpa using h6
theorem clsAt_has (s : List UInt8) (i : Nat) (h : has93 (s.drop (i + 1)) = true) : ∃ hl : clsAt s i < s.length, s[clsAt s i] = 93 := by
  have e := cut93 _ h
  have hlen := congrArg List.length e
  rw [List.length_drop, List.length_append, List.length_cons] at hlen
  have hl : clsAt s i < s.length := by unfold clsAt; omega
  refine ⟨hl, ?_⟩
  have h1 := at93 _ h
  rw [List.getElem?_drop] at h1
  have h2 : s[clsAt s i]? = some 93 := h1
  rw [List.getElem?_eq_getElem hl] at h2
  exact Option.some.inj h2
theorem clsAt_not (s : List UInt8) (i : Nat) (hi : i < s.length) (h : has93 (s.drop (i + 1)) = false) : clsAt s i = s.length := by
  unfold clsAt
  rw [ah_full _ h, List.length_drop]
  omega
theorem cls_seg (s : List UInt8) (i : Nat) : ah (s.drop (i + 1)) = seg s (i + 1) (clsAt s i) := by
  unfold seg clsAt
  rw [← List.take_drop]
  have h5 : (ah (s.drop (i + 1))) <+: s.drop (i + 1) := List.takeWhile_prefix _
  exact List.prefix_iff_eq_take.1 h5
theorem bh_drop (s : List UInt8) (i : Nat) (h : has93 (s.drop (i + 1)) = true) : bh (s.drop (i + 1)) = s.drop (clsAt s i + 1) := by
  rw [← drop93 _ h, List.drop_drop]
  unfold clsAt
  rfl
def plainB (s : List UInt8) : Bool := s.all fun b => b == 46 || Nm.okB b
theorem ret_int {a b : Int} (h : a = b) : Ending.returned (.int .i64 a) = .returned (.int .i64 b) := by rw [h]
end Gl

set_option maxHeartbeats 2000000 in
theorem refClass_any (s : List UInt8) (hl : s.length ≤ 4294967270) (at' : Nat) (hat : at' < s.length) (w : World) :
    Calls Tryz.prog 76 #[.string ⟨s.toArray⟩, .int .i64 at'] w fun e w' => e = .returned (.int .i64 (if Gl.clsOk s at' then (Gl.clsAt s at' : Int) else -1)) ∧ Below w.heap.size w w' := by
  have hs : (⟨s.toArray⟩ : ByteArray).size = s.length := by show s.toArray.size = _; simp
  have HIn := Lib.hid (fun j h1 h2 h3 => Gl.clsAt_in s at' j h1 h2 h3)
  have HLe := Lib.hid (Gl.clsAt_le s at' hat)
  have HHas := Lib.hid (Gl.clsAt_has s at')
  have HNot := Lib.hid (Gl.clsAt_not s at' hat)
  have HSeg := Lib.hid (Gl.cls_seg s at')
  have HGe : Hid (at' + 1 ≤ Gl.clsAt s at') := Lib.hid (by unfold Gl.clsAt; omega)
  have HLen : Hid ((Gl.ah (s.drop (at' + 1))).isEmpty = decide (Gl.clsAt s at' = at' + 1)) := Lib.hid (by
    have := Gl.ah_len (s.drop (at' + 1))
    unfold Gl.clsAt
    cases h : Gl.ah (s.drop (at' + 1)) with
    | nil => simp
    | cons a r => simp)
  have HOk : Hid (Gl.clsOk s at' = (Gl.has93 (s.drop (at' + 1)) && (!(Gl.ah (s.drop (at' + 1))).isEmpty && Gl.okR (Gl.ah (s.drop (at' + 1)))))) := Lib.hid rfl
  rw [HLen.out, HSeg.out] at HOk
  clear HSeg HLen
  have HR1 : Hid (Gl.clsOk s at' = true → (if Gl.clsOk s at' then (Gl.clsAt s at' : Int) else -1) = (Gl.clsAt s at' : Int)) := Lib.hid fun h => by rw [if_pos h]
  have HR0 : Hid (Gl.clsOk s at' = false → (if Gl.clsOk s at' then (Gl.clsAt s at' : Int) else -1) = -1) := Lib.hid fun h => by rw [h]; rfl
  generalize (if Gl.clsOk s at' then (Gl.clsAt s at' : Int) else -1) = R at *
  generalize Gl.clsAt s at' = e at *
  generalize Gl.clsOk s at' = ok at *
  generalize Gl.has93 (s.drop (at' + 1)) = has at *
  have ha9 : (at' : Int) ≤ 4294967270 := by omega
  have he9 : (e : Int) ≤ 4294967270 := by have := HLe.out; omega
  go_enter Tryz.func76, Tryz.ntmps76
  go_wp2_with fail
  go_loop [5] (fun x => ∃ j : Nat, at' + 1 ≤ j ∧ j ≤ e ∧ x = .int .i64 j) (fun x => e - (intOf x).toNat)
  case atStart => exact ⟨at' + 1, Nat.le_refl _, HGe.out, by go_num⟩
  case round =>
    obtain ⟨j, hj1, hj2, rfl⟩ := hrel
    have hj0 : (0 : Int) ≤ (j : Int) := by omega
    have hj9 : (j : Int) ≤ 4294967270 := by omega
    by_cases hje : j < e
    · have hlt : j < s.length := by have := HLe.out; omega
      have hjl : (j : Int) < (s.length : Int) := by omega
      have e1 : ((((⟨s.toArray⟩ : ByteArray)[j]'hlt).toNat : Int) == 93) = false := (Gl.byteEq s[j] 93).trans (decide_eq_false (HIn.out j hj1 hje hlt))
      go_wp2_with fail
      go_round
      case rel => exact ⟨j + 1, by omega, by omega, by go_num⟩
      case measure => simp [intOf]; omega
    obtain rfl : j = e := by omega
    cases has with
    | false =>
      have hne := HNot.out rfl
      have hjl : ¬ (j : Int) < (s.length : Int) := by omega
      have hgl : (s.length : Int) ≤ (j : Int) := by omega
      have HQ : Hid (ok = false) := HOk
      go_wp2_with fail
      go_ret
      exact ⟨Gl.ret_int (HR0.out HQ.out).symm, Below.refl _ _⟩
    | true =>
      obtain ⟨hlt, h93⟩ := HHas.out rfl
      have hjl : (j : Int) < (s.length : Int) := by omega
      have hgl : ¬ (s.length : Int) ≤ (j : Int) := by omega
      have e1 : ((((⟨s.toArray⟩ : ByteArray)[j]'hlt).toNat : Int) == 93) = true := (Gl.byteEq s[j] 93).trans (decide_eq_true h93)
      clear h93 HIn HHas HNot
      by_cases hem : j = at' + 1
      · have hemi : ((j : Int) == (at' : Int) + 1) = true := by simp; omega
        have HQ : Hid (ok = false) := Lib.hid (by rw [HOk.out, decide_eq_true hem]; rfl)
        clear hem
        go_wp2_with fail
        go_ret
        exact ⟨Gl.ret_int (HR0.out HQ.out).symm, Below.refl _ _⟩
      · have hemi : ((j : Int) == (at' : Int) + 1) = false := by simp; omega
        have HQ : Hid (Gl.okR (Gl.seg s (at' + 1) j) = ok) := Lib.hid (by rw [HOk.out, decide_eq_false hem]; rfl)
        clear hem HOk HGe
        go_wp2_with fail
        go_loopw [6] (fun x wr => ∃ i : Nat, at' + 1 ≤ i ∧ i ≤ j ∧ x = .int .i64 i ∧ Hid (Gl.okR (Gl.seg s i j) = ok) ∧ Below w.heap.size w wr) (fun x _ => j - (intOf x).toNat)
        case atStart => exact ⟨at' + 1, Nat.le_refl _, hj1, by go_num, HQ, Below.refl _ _⟩
        case round =>
          obtain ⟨i, hi1, hi2, rfl, HD, hbel⟩ := hrel
          have hi0 : (0 : Int) ≤ (i : Int) := by omega
          have hi9 : (i : Int) ≤ 4294967270 := by omega
          by_cases hij : i < j
          · have hij' : (i : Int) < (j : Int) := by omega
            have hil : (i : Int) < (s.length : Int) := by omega
            by_cases h2 : i + 2 < j
            · have h2' : (i : Int) + 2 < (j : Int) := by omega
              have hi1l : (i : Int) + 1 < (s.length : Int) := by omega
              have hi2l : (i : Int) + 2 < (s.length : Int) := by omega
              have g1 : i + 1 < s.length := by omega
              have g2 : i + 2 < s.length := by omega
              have g0 : i < s.length := by omega
              have hx1 : ((((⟨s.toArray⟩ : ByteArray)[i + 1]'g1).toNat : Int) == 45) = decide (s[i + 1] = 45) := Gl.byteEq s[i + 1] 45
              rw [← Gl.seg_ranged s i j (by omega) h2] at hx1
              cases hr : Gl.ranged (Gl.seg s i j)
              · rw [hr] at hx1
                rw [Gl.okR_no s i j (by omega) hij hr] at HD
                clear hr
                go_wp2_with fail
                go_roundw
                case rel => exact ⟨i + 1, by omega, by omega, by go_num, HD, hbel⟩
                case measure => simp [intOf]; omega
              · rw [hr] at hx1
                rw [Gl.okR_yes s i j (by omega) h2 hr] at HD
                have hwr : IntKind.i64.wrap ((i : Int) + 2) = (i : Int) + 2 := IntWalk.i64_in _ (by omega)
                have hz2 : (0 : Int) ≤ (i : Int) + 2 := by omega
                have htn : ((i : Int) + 2).toNat = i + 2 := by omega
                have hx2 := Gl.byteLt s[i + 2] s[i]
                clear hr
                cases hd : decide (s[i + 2].toNat < s[i].toNat)
                · rw [hd] at HD hx2
                  have hx3 : ¬ (((⟨s.toArray⟩ : ByteArray)[i + 2]'g2).toNat : Int) < (((⟨s.toArray⟩ : ByteArray)[i]'g0).toNat : Int) := of_decide_eq_false hx2
                  clear hd hx2
                  go_wp2_with fail
                  go_region
                  all_goals
                    go_wp2_with fail
                    go_roundw
                    case rel => exact ⟨i + 3, by omega, by omega, by go_num, HD, hbel.drew⟩
                    case measure => simp [intOf]; omega
                · rw [hd] at HD hx2
                  have hx3 : (((⟨s.toArray⟩ : ByteArray)[i + 2]'g2).toNat : Int) < (((⟨s.toArray⟩ : ByteArray)[i]'g0).toNat : Int) := of_decide_eq_true hx2
                  have HQ2 : Hid (ok = false) := Lib.hid HD.out.symm
                  clear hd hx2
                  go_wp2_with fail
                  go_region
                  all_goals
                    go_wp2_with fail
                    go_ret
                    exact ⟨Gl.ret_int (HR0.out HQ2.out).symm, hbel.drew⟩
            · have h2' : ¬ (i : Int) + 2 < (j : Int) := by omega
              rw [Gl.okR_no s i j (by omega) hij (Gl.seg_short s i j (by omega) h2)] at HD
              go_wp2_with fail
              go_roundw
              case rel => exact ⟨i + 1, by omega, by omega, by go_num, HD, hbel⟩
              case measure => simp [intOf]; omega
          · obtain rfl : i = j := by omega
            rw [Gl.seg_nil] at HD
            have HQ2 : Hid (ok = true) := Lib.hid HD.out.symm
            go_wp2
            go_ret
            exact ⟨Gl.ret_int (HR1.out HQ2.out).symm, hbel⟩

set_option maxHeartbeats 2000000 in
theorem refIn_any (s : List UInt8) (hl : s.length ≤ 4294967270) (at' e : Nat) (hat : at' + 1 ≤ e) (he : e ≤ s.length) (c : UInt8) (w : World) :
    Calls Tryz.prog 109 #[.string ⟨s.toArray⟩, .int .i64 at', .int .i64 e, .int .u8 (c.toNat : Int)] w fun r w' => r = .returned (.bool (Gl.inR c (Gl.seg s (at' + 1) e))) ∧ Below w.heap.size w w' := by
  have hs : (⟨s.toArray⟩ : ByteArray).size = s.length := by show s.toArray.size = _; simp
  generalize hR : Gl.inR c (Gl.seg s (at' + 1) e) = R
  have HR : Hid (Gl.inR c (Gl.seg s (at' + 1) e) = R) := Lib.hid hR
  clear hR
  have ha9 : (at' : Int) ≤ 4294967270 := by omega
  go_enter Tryz.func109, Tryz.ntmps109
  go_wp2_with fail
  go_loopw [9] (fun x wr => ∃ i : Nat, at' + 1 ≤ i ∧ i ≤ e ∧ x = .int .i64 i ∧ Hid (Gl.inR c (Gl.seg s i e) = R) ∧ Below w.heap.size w wr) (fun x _ => e - (intOf x).toNat)
  case atStart => exact ⟨at' + 1, Nat.le_refl _, hat, by go_num, HR, Below.refl _ _⟩
  case round =>
    obtain ⟨i, hi1, hi2, rfl, HD, hbel⟩ := hrel
    have hi0 : (0 : Int) ≤ (i : Int) := by omega
    have hi9 : (i : Int) ≤ 4294967270 := by omega
    by_cases hij : i < e
    · have hij' : (i : Int) < (e : Int) := by omega
      have hil : (i : Int) < (s.length : Int) := by omega
      have g0 : i < s.length := by omega
      have hx0 : (((((⟨s.toArray⟩ : ByteArray)[i]'g0).toNat : Int)) == (c.toNat : Int)) = decide (s[i] = c) := Gl.byteEq s[i] c
      by_cases h2 : i + 2 < e
      · have h2' : (i : Int) + 2 < (e : Int) := by omega
        have hi1l : (i : Int) + 1 < (s.length : Int) := by omega
        have hi2l : (i : Int) + 2 < (s.length : Int) := by omega
        have g1 : i + 1 < s.length := by omega
        have g2 : i + 2 < s.length := by omega
        have hx1 : ((((⟨s.toArray⟩ : ByteArray)[i + 1]'g1).toNat : Int) == 45) = decide (s[i + 1] = 45) := Gl.byteEq s[i + 1] 45
        rw [← Gl.seg_ranged s i e he h2] at hx1
        cases hr : Gl.ranged (Gl.seg s i e)
        · rw [hr] at hx1
          rw [Gl.inR_no c s i e he hij hr] at HD
          clear hr
          cases hd : decide (s[i] = c)
          · rw [hd] at HD hx0
            clear hd
            go_wp2_with fail
            go_roundw
            case rel => exact ⟨i + 1, by omega, by omega, by go_num, HD, hbel⟩
            case measure => simp [intOf]; omega
          · rw [hd] at HD hx0
            clear hd
            have HQ2 : Hid (true = R) := HD
            go_wp2_with fail
            go_ret
            exact ⟨Gl.ret_bool HQ2.out, hbel⟩
        · rw [hr] at hx1
          rw [Gl.inR_yes c s i e he h2 hr] at HD
          clear hr hx0
          by_cases h3 : s[i].toNat ≤ c.toNat
          · rw [decide_eq_true h3] at HD
            have g3 : (((⟨s.toArray⟩ : ByteArray)[i]'g0).toNat : Int) ≤ (c.toNat : Int) := by have : (s[i].toNat : Int) ≤ (c.toNat : Int) := by omega
                                                                                              exact this
            by_cases h4 : c.toNat ≤ s[i + 2].toNat
            · rw [decide_eq_true h4] at HD
              have g4 : (c.toNat : Int) ≤ (((⟨s.toArray⟩ : ByteArray)[i + 2]'g2).toNat : Int) := by have : (c.toNat : Int) ≤ (s[i + 2].toNat : Int) := by omega
                                                                                                    exact this
              clear h3 h4
              have HQ2 : Hid (true = R) := HD
              go_wp2_with fail
              go_ret
              exact ⟨Gl.ret_bool HQ2.out, hbel⟩
            · rw [decide_eq_false h4] at HD
              have g4 : ¬ (c.toNat : Int) ≤ (((⟨s.toArray⟩ : ByteArray)[i + 2]'g2).toNat : Int) := by have : ¬ (c.toNat : Int) ≤ (s[i + 2].toNat : Int) := by omega
                                                                                                      exact this
              clear h3 h4
              have HD2 : Hid (Gl.inR c (Gl.seg s (i + 3) e) = R) := HD
              go_wp2_with fail
              go_roundw
              case rel => exact ⟨i + 3, by omega, by omega, by go_num, HD2, hbel⟩
              case measure => simp [intOf]; omega
          · rw [decide_eq_false h3] at HD
            have g3 : ¬ (((⟨s.toArray⟩ : ByteArray)[i]'g0).toNat : Int) ≤ (c.toNat : Int) := by have : ¬ (s[i].toNat : Int) ≤ (c.toNat : Int) := by omega
                                                                                                exact this
            clear h3
            have HD2 : Hid (Gl.inR c (Gl.seg s (i + 3) e) = R) := HD
            go_wp2_with fail
            go_roundw
            case rel => exact ⟨i + 3, by omega, by omega, by go_num, HD2, hbel⟩
            case measure => simp [intOf]; omega
      · have h2' : ¬ (i : Int) + 2 < (e : Int) := by omega
        rw [Gl.inR_no c s i e he hij (Gl.seg_short s i e he h2)] at HD
        cases hd : decide (s[i] = c)
        · rw [hd] at HD hx0
          clear hd
          go_wp2_with fail
          go_roundw
          case rel => exact ⟨i + 1, by omega, by omega, by go_num, HD, hbel⟩
          case measure => simp [intOf]; omega
        · rw [hd] at HD hx0
          clear hd
          have HQ2 : Hid (true = R) := HD
          go_wp2_with fail
          go_ret
          exact ⟨Gl.ret_bool HQ2.out, hbel⟩
    · obtain rfl : i = e := by omega
      rw [Gl.seg_nil] at HD
      have HQ2 : Hid (false = R) := HD
      go_wp2
      go_ret
      exact ⟨Gl.ret_bool HQ2.out, hbel⟩
end Go.Proofs.YtfmbbhcjnidcbaaGreatDoor

namespace Go.Proofs.YtfmbbhcjnidcbaaGreatDoor
open Go.RowKit
open Me

namespace Gl
theorem byteEqN (b c : UInt8) : (b.toNat == c.toNat) = decide (b = c) := by
  by_cases h : b = c
  · subst h; simp
  · rw [decide_eq_false h]
    simp only [beq_eq_false_iff_ne, ne_eq]
    intro e
    exact h (UInt8.toNat_inj.1 e)
theorem byteNe (b c : UInt8) : ((b.toNat : Int) != (c.toNat : Int)) = !decide (b = c) := by
  rw [← byteEq]; rfl
theorem simple_at_cls (s : List UInt8) (i : Nat) (h : i < s.length) (hb : s[i] = 91) : simple (s.drop i) = (clsOk s i && simple (s.drop (clsAt s i + 1))) := by
  rw [List.drop_eq_getElem_cons h, hb]
  unfold clsOk
  cases hn : has93 (s.drop (i + 1)) with
  | false =>
    rw [simple_open _ (by simpa [has93] using hn)]; rfl
  | true =>
    have e := cut93 _ hn
    rw [← bh_drop s i hn]
    conv => lhs; rw [e]
    rw [simple_cls _ _ (ah_none _), Bool.true_and]
theorem simple_at_star (s : List UInt8) (i : Nat) (h : i < s.length) (hb : s[i] = 42 ∨ s[i] = 63) : simple (s.drop i) = simple (s.drop (i + 1)) := by
  rw [List.drop_eq_getElem_cons h, simple_star _ hb]
theorem simple_at_lit (s : List UInt8) (i : Nat) (h : i < s.length) (hb : s[i] ≠ 42 ∧ s[i] ≠ 63 ∧ s[i] ≠ 91) : simple (s.drop i) = (Nm.okB s[i] && simple (s.drop (i + 1))) := by
  rw [List.drop_eq_getElem_cons h, simple_lit hb]
theorem plain_at (s : List UInt8) (i : Nat) (h : i < s.length) : plainB (s.drop i) = ((s[i] == 46 || Nm.okB s[i]) && plainB (s.drop (i + 1))) := by
  rw [List.drop_eq_getElem_cons h]; rfl
end Gl

set_option maxHeartbeats 2000000 in
theorem refSimple_any (s : List UInt8) (hl : s.length ≤ 4294967270) (w : World) :
    Calls Tryz.prog 53 #[.string ⟨s.toArray⟩] w fun e w' => e = .returned (.bool (Gl.simple s)) ∧ Below w.heap.size w w' := by
  have hs : (⟨s.toArray⟩ : ByteArray).size = s.length := by show s.toArray.size = _; simp
  generalize hR : Gl.simple s = R
  have HR : Hid (Gl.simple (s.drop 0) = R) := Lib.hid hR
  clear hR
  go_enter Tryz.func53, Tryz.ntmps53
  go_wp2_with fail
  go_loopw [3] (fun x wr => ∃ i : Nat, i ≤ s.length ∧ x = .int .i64 i ∧ Hid (Gl.simple (s.drop i) = R) ∧ Below w.heap.size w wr) (fun x _ => s.length - (intOf x).toNat)
  case atStart => exact ⟨0, Nat.zero_le _, rfl, HR, Below.refl _ _⟩
  case round =>
    obtain ⟨i, hi, rfl, HD, hbel⟩ := hrel
    have hi0 : (0 : Int) ≤ (i : Int) := by omega
    have hi9 : (i : Int) ≤ 4294967270 := by omega
    by_cases hlt : i < s.length
    · have hil : (i : Int) < (s.length : Int) := by omega
      have e1 : ((((⟨s.toArray⟩ : ByteArray)[i]'hlt).toNat : Int) == 91) = decide (s[i] = 91) := Gl.byteEq s[i] 91
      have e2 : ((((⟨s.toArray⟩ : ByteArray)[i]'hlt).toNat : Int) == 42) = decide (s[i] = 42) := Gl.byteEq s[i] 42
      have e3 : ((((⟨s.toArray⟩ : ByteArray)[i]'hlt).toNat : Int) == 63) = decide (s[i] = 63) := Gl.byteEq s[i] 63
      by_cases b1 : s[i] = 91
      · rw [decide_eq_true b1] at e1
        have HC := Lib.hid (refClass_any s hl i hlt)
        have HS := Lib.hid (Gl.simple_at_cls s i hlt b1)
        have HLe := Lib.hid (Gl.clsAt_le s i hlt)
        have HHas := Lib.hid (Gl.clsAt_has s i)
        have HOk : Hid (Gl.clsOk s i = true → Gl.has93 (s.drop (i + 1)) = true) := Lib.hid fun h => by
          unfold Gl.clsOk at h; rw [Bool.and_eq_true] at h; exact h.1
        have HGe : Hid (i + 1 ≤ Gl.clsAt s i) := Lib.hid (by unfold Gl.clsAt; omega)
        rw [HS.out] at HD
        clear HS b1 e2 e3
        generalize Gl.clsAt s i = e at *
        cases hok : Gl.clsOk s i
        · rw [hok] at HD HC
          clear hok
          have HD2 : Hid (false = R) := HD
          have HC2 : Hid (∀ w : World, Calls Tryz.prog 76 #[.string ⟨s.toArray⟩, .int .i64 i] w fun e w' => e = .returned (.int .i64 (-1)) ∧ Below w.heap.size w w') := HC
          clear HC
          go_wp2_with (go_at_call 76; go_must (refine (HC2.out _).mono ?_; rintro e w1 ⟨rfl, hb1⟩))
          go_ret
          exact ⟨Gl.ret_bool HD2.out, hbel.trans (hb1.mono hbel.size)⟩
        · rw [hok] at HD HC
          obtain ⟨hel, _⟩ := HHas.out (HOk.out hok)
          clear hok
          have HD2 : Hid (Gl.simple (s.drop (e + 1)) = R) := HD
          have HC2 : Hid (∀ w : World, Calls Tryz.prog 76 #[.string ⟨s.toArray⟩, .int .i64 i] w fun e' w' => e' = .returned (.int .i64 e) ∧ Below w.heap.size w w') := HC
          have he0 : ¬ (e : Int) < 0 := by omega
          have he9 : (e : Int) ≤ 4294967270 := by omega
          clear HC
          go_wp2_with (go_at_call 76; go_must (refine (HC2.out _).mono ?_; rintro e w1 ⟨rfl, hb1⟩))
          go_roundw
          case rel => exact ⟨e + 1, by omega, by go_num, HD2, hbel.trans (hb1.mono hbel.size)⟩
          case measure => have := HGe.out; simp [intOf]; omega
      rw [decide_eq_false b1] at e1
      by_cases b2 : s[i] = 42
      · rw [decide_eq_true b2] at e2
        rw [Gl.simple_at_star s i hlt (.inl b2)] at HD
        clear e3 b1 b2
        go_wp2_with fail
        go_roundw
        case rel => exact ⟨i + 1, by omega, by go_num, HD, hbel⟩
        case measure => simp [intOf]; omega
      rw [decide_eq_false b2] at e2
      by_cases b3 : s[i] = 63
      · rw [decide_eq_true b3] at e3
        rw [Gl.simple_at_star s i hlt (.inr b3)] at HD
        clear b1 b2 b3
        go_wp2_with fail
        go_roundw
        case rel => exact ⟨i + 1, by omega, by go_num, HD, hbel⟩
        case measure => simp [intOf]; omega
      rw [decide_eq_false b3] at e3
      rw [Gl.simple_at_lit s i hlt ⟨b2, b3, b1⟩] at HD
      have HB : Hid (∀ w : World, Calls Tryz.prog 38 #[.int .u8 (((⟨s.toArray⟩ : ByteArray)[i]'hlt).toNat : Int)] w fun e w' => e = .returned (.bool (Nm.okB s[i])) ∧ w' = w) := Lib.hid fun w => refByte_any s[i] w
      clear b1 b2 b3
      cases hok : Nm.okB s[i]
      · rw [hok] at HD HB
        clear hok
        have HD2 : Hid (false = R) := HD
        go_wp2_with (go_at_call 38; go_must (refine (HB.out _).mono ?_; rintro e w1 ⟨rfl, rfl⟩))
        go_ret
        exact ⟨Gl.ret_bool HD2.out, hbel⟩
      · rw [hok] at HD HB
        clear hok
        have HD2 : Hid (Gl.simple (s.drop (i + 1)) = R) := HD
        go_wp2_with (go_at_call 38; go_must (refine (HB.out _).mono ?_; rintro e w1 ⟨rfl, rfl⟩))
        go_roundw
        case rel => exact ⟨i + 1, by omega, by go_num, HD2, hbel⟩
        case measure => simp [intOf]; omega
    · obtain rfl : i = s.length := by omega
      rw [List.drop_length] at HD
      have HD2 : Hid (true = R) := HD
      go_wp2
      go_ret
      exact ⟨Gl.ret_bool HD2.out, hbel⟩

namespace Gl
/-- Bytes of a part alone. -/
theorem allOk (s : List UInt8) : s.all Nm.okB = (!(s.any (· == 46)) && plainB s) := by
  induction s with
  | nil => rfl
  | cons b r ih =>
    unfold plainB at *
    rw [List.all_cons, List.any_cons, List.all_cons, ih]
    by_cases hb : b = 46
    · subst hb; rw [show Nm.okB 46 = false by decide]; simp
    · rw [show (b == 46) = false by simpa using hb, Bool.false_or, Bool.false_or]
      cases Nm.okB b <;> simp
end Gl

end Go.Proofs.YtfmbbhcjnidcbaaGreatDoor
