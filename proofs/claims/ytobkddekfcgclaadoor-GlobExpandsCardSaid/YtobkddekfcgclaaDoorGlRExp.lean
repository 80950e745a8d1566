/-
  CONTRACTS: chapter 9: the document's own Expand.
-/
import Derived.Test.YtobkddekfcgclaaDoorGlAll
import Derived.Test.YtobkddekfcgclaaDoorGlOne
namespace Go.Proofs.YtobkddekfcgclaaDoor
open Go.RowKit
open Me

set_option maxRecDepth 100000 in
set_option maxHeartbeats 4000000 in
theorem refExpand_any (s : List UInt8) (L : List (List UInt8)) (hgr : Gl.bal 0 s = true → Gl.Gr false s L) (hl : s.length ≤ 4294967270) (w : World) :
    Calls Tryd.prog 10 #[.string ⟨s.toArray⟩] w (Gl.GaveE w (Gl.expErr s L) L) := by
  have hs : (⟨s.toArray⟩ : ByteArray).size = s.length := by show s.toArray.size = _; simp
  have HBal := Lib.hid (refBraces_any s hl)
  by_cases h4 : 4096 < s.length
  · have h4' : (4096 : Int) < (s.length : Int) := by omega
    have HE : Hid (Gl.expErr s L = 8) := Lib.hid (by unfold Gl.expErr; rw [if_pos (.inl h4)])
    clear h4
    go_enter Tryd.func10, Tryd.ntmps10
    go_wp2_with fail
    ((try simp only [Exit.inBlock, Exit.then]); refine bodyPost_ret (results_tmp2 rfl _ _ _) rfl ?_)
    exact Gl.GaveE.no (Below.refl _ _) HE.out (by decide)
  have h4' : ¬ (4096 : Int) < (s.length : Int) := by omega
  cases hbal : Gl.bal 0 s
  · have HE : Hid (Gl.expErr s L = 8) := Lib.hid (by unfold Gl.expErr; rw [if_pos (.inr hbal)])
    rw [hbal] at HBal
    clear h4 hbal hgr
    go_enter Tryd.func10, Tryd.ntmps10
    go_wp2_with (go_at_call 25; go_must (refine (HBal.out _).mono ?_; rintro e w1 ⟨rfl, hw1⟩; rw [hw1]))
    ((try simp only [Exit.inBlock, Exit.then]); refine bodyPost_ret (results_tmp2 rfl _ _ _) rfl ?_)
    exact Gl.GaveE.no (Below.refl _ _) HE.out (by decide)
  have hg := hgr hbal
  rw [hbal] at HBal
  have HAl := Lib.hid fun W => all_any s.length s L (Nat.le_refl _) hl hg W
  by_cases h5 : 512 < L.length
  · have HE : Hid (Gl.expErr s L = 13) := Lib.hid (by unfold Gl.expErr; rw [if_neg (by rw [hbal]; rintro (h | h); exact h4 h; cases h), if_pos h5])
    have HAn : Hid (∀ W, Calls Tryd.prog 26 #[.string ⟨s.toArray⟩] W fun x w' => ∃ v, x = .returned (.tuple #[v, .bool false]) ∧ Below W.heap.size W w') := Lib.hid fun W => (HAl.out W).mono fun x w' h => by
      obtain ⟨v, h1, _, h3⟩ := h
      rw [decide_eq_false (by omega)] at h1
      exact ⟨v, h1, h3⟩
    clear h4 hbal hgr hg h5 HAl
    go_enter Tryd.func10, Tryd.ntmps10
    go_wp2_with first
      | (go_at_call 25; go_must (refine (HBal.out _).mono ?_; rintro e w1 ⟨rfl, hw1⟩; rw [hw1]))
      | (go_at_call 26; go_must (refine (HAn.out _).mono ?_; rintro e w2 ⟨v2, rfl, hb2⟩))
    ((try simp only [Exit.inBlock, Exit.then]); refine bodyPost_ret (results_tmp2 rfl _ _ _) rfl ?_)
    exact Gl.GaveE.no hb2 HE.out (by decide)
  have HAy : Hid (∀ W, Calls Tryd.prog 26 #[.string ⟨s.toArray⟩] W fun x w' => ∃ v, x = .returned (.tuple #[v, .bool true]) ∧ OwnS W.heap.size w' v L ∧ Below W.heap.size W w') := Lib.hid fun W => (HAl.out W).mono fun x w' h => by
    obtain ⟨v, h1, h2, h3⟩ := h
    rw [decide_eq_true (by omega)] at h1
    rw [if_pos (by omega)] at h2
    exact ⟨v, h1, h2, h3⟩
  have HE : Hid (Gl.expErr s L = if L.all Gl.resOk then 0 else 8) := Lib.hid (by unfold Gl.expErr; rw [if_neg (by rw [hbal]; rintro (h | h); exact h4 h; cases h), if_neg h5])
  have HBad : Hid (∀ i (h : i < L.length), Gl.resOk L[i] = false → Gl.expErr s L = 8) := Lib.hid fun i h hb => by rw [HE.out, Gl.all_bad h hb]; rfl
  have HGood : Hid ((∀ i (h : i < L.length), Gl.resOk L[i] = true) → Gl.expErr s L = 0) := Lib.hid fun h => by rw [HE.out, Gl.all_good h]; rfl
  have HLen : Hid (∀ i (h : i < L.length), L[i].length ≤ 4294967270) := Lib.hid fun i h => Nat.le_trans (hg.len _ (List.getElem_mem h)) hl
  have hL9 : (L.length : Int) ≤ 512 := by omega
  have hLp := hg.pos
  generalize Gl.expErr s L = err at *
  clear h4 hbal hgr hg h5 HE HAl
  go_enter Tryd.func10, Tryd.ntmps10
  go_wp2_with first
    | (go_at_call 25; go_must (refine (HBal.out _).mono ?_; rintro e w1 ⟨rfl, hw1⟩; rw [hw1]))
    | (go_at_call 26; go_must (refine (HAy.out _).mono ?_; rintro e w2 ⟨v2, rfl, ho2, hb2⟩; obtain ⟨g, c, rfl⟩ := ho2.form hLp))
  have HO := Lib.hid ho2
  have HB2 := Lib.hid hb2
  have hlt2 := ho2.lt.2
  have hsz2 := hb2.size
  clear ho2 hb2 HBal HAy
  go_loopw [6] (fun x wr => ∃ i : Nat, i ≤ L.length ∧ x = .int .i64 i ∧ Hid (∀ j (h : j < L.length), j < i → Gl.resOk L[j] = true) ∧ Hid (Below w2.heap.size w2 wr)) (fun x _ => L.length - (intOf x).toNat)
  case atStart => exact ⟨0, Nat.zero_le _, rfl, Lib.hid fun j _ h => absurd h (by omega), Lib.hid (Below.refl _ _)⟩
  case round =>
    obtain ⟨i, hi, rfl, HD, HB⟩ := hrel
    have hi0 : (0 : Int) ≤ (i : Int) := by omega
    have HBw : Hid (Below w.heap.size w wr) := Lib.hid (HB2.out.trans (HB.out.mono hsz2))
    by_cases hlt : i < L.length
    · have hil : (i : Int) < (L.length : Int) := by omega
      have ec := (HB.out.cell (p := ⟨g, i, none⟩) hlt2).trans (HO.out.cell i hlt)
      have HDn : Hid (Gl.resOk L[i] = true → ∀ j (h : j < L.length), j < i + 1 → Gl.resOk L[j] = true) := Lib.hid fun hc j h hj => by
        by_cases e : j = i
        · subst e; exact hc
        · exact HD.out j h (by omega)
      have HC := Lib.hid (HBad.out i hlt)
      have hxl := HLen.out i hlt
      clear HBad HGood HD
      generalize L[i] = x at *
      by_cases hx0 : x = []
      · have HQ : Hid (err = 8) := Lib.hid (HC.out (by rw [hx0]; rfl))
        clear HC HDn
        subst hx0
        go_wp2_with fail
        ((try simp only [Exit.inBlock, Exit.then]); refine bodyPost_ret (results_tmp2 rfl _ _ _) rfl ?_)
        exact Gl.GaveE.no HBw.out HQ.out (by decide)
      have HRs : Hid (Gl.resOk x = (Nm.pt x).all Gl.simple) := Lib.hid (by
        unfold Gl.resOk
        rw [show x.isEmpty = false by simpa using hx0]; rfl)
      have HBd := Lib.hid (fun k (h : k < (Nm.pt x).length) (hb : Gl.simple (Nm.pt x)[k] = false) => Gl.all_bad h hb)
      have HGd := Lib.hid (fun h => Gl.all_good (f := Gl.simple) (l := Nm.pt x) h)
      have HPl := Lib.hid (fun k (h : k < (Nm.pt x).length) => Nat.le_trans (Nm.pt_part_len x _ (List.getElem_mem h)) hxl)
      have hPn : ((Nm.pt x).length : Int) ≤ 4294967281 := by have := Nm.pt_len x; omega
      have hpos : 0 < (Nm.pt x).length := List.length_pos_iff.2 (Nm.pt_ne x)
      have HPt := Lib.hid (refParts_any x hxl)
      have hemp : x.isEmpty = false := by simpa using hx0
      clear hx0
      generalize Gl.resOk x = Rx at *
      generalize (Nm.pt x).all Gl.simple = al at *
      generalize Nm.pt x = Q at *
      go_wp2_with (go_at_call 27; go_must (refine (HPt.out _).mono ?_; rintro e w3 ⟨v3, rfl, ho3, hb3⟩; obtain ⟨g3, c3, rfl⟩ := ho3.form hpos))
      have HO3 := Lib.hid ho3
      have hlt3 := ho3.lt.2
      have HB3 := Lib.hid (HB.out.trans (hb3.mono HB.out.size))
      have HB3w := Lib.hid (HBw.out.trans (hb3.mono HBw.out.size))
      clear ho3 hb3 ec HPt
      go_loopw [8] (fun y wr => ∃ k : Nat, k ≤ Q.length ∧ y = .int .i64 k ∧ Hid (∀ j (h : j < Q.length), j < k → Gl.simple Q[j] = true) ∧ Hid (Below w3.heap.size w3 wr)) (fun y _ => Q.length - (intOf y).toNat)
      case atStart => exact ⟨0, Nat.zero_le _, rfl, Lib.hid fun j _ h => absurd h (by omega), Lib.hid (Below.refl _ _)⟩
      case round =>
        obtain ⟨k, hk, rfl, HK, HBk⟩ := hrel
        have hk0 : (0 : Int) ≤ (k : Int) := by omega
        by_cases hkt : k < Q.length
        · have hkl : (k : Int) < (Q.length : Int) := by omega
          have ec := (HBk.out.cell (p := ⟨g3, k, none⟩) hlt3).trans (HO3.out.cell k hkt)
          have HKn : Hid (Gl.simple Q[k] = true → ∀ j (h : j < Q.length), j < k + 1 → Gl.simple Q[j] = true) := Lib.hid fun hc j h hj => by
            by_cases e : j = k
            · subst e; exact hc
            · exact HK.out j h (by omega)
          have HKb := Lib.hid (HBd.out k hkt)
          have hql := HPl.out k hkt
          clear HK HBd HGd
          generalize Q[k] = q at *
          have HS := Lib.hid (refSimple_any q hql)
          cases hc : Gl.simple q
          · rw [hc] at HS
            have HQ : Hid (err = 8) := Lib.hid (HC.out (by rw [HRs.out]; exact HKb.out hc))
            clear hc
            go_wp2_with (go_at_call 28; go_must (refine (HS.out _).mono ?_; rintro e w4 ⟨rfl, hb4⟩))
            ((try simp only [Exit.inBlock, Exit.then]); refine bodyPost_ret (results_tmp2 rfl _ _ _) rfl ?_)
            exact Gl.GaveE.no (HB3w.out.trans ((HBk.out.trans (hb4.mono HBk.out.size)).mono HB3w.out.size)) HQ.out (by decide)
          · rw [hc] at HS
            have HQ := Lib.hid (HKn.out hc)
            clear hc
            go_wp2_with (go_at_call 28; go_must (refine (HS.out _).mono ?_; rintro e w4 ⟨rfl, hb4⟩))
            go_roundw
            case rel => exact ⟨k + 1, by omega, by go_num, HQ, Lib.hid (HBk.out.trans (hb4.mono HBk.out.size))⟩
            case measure => simp [intOf]; omega
        · obtain rfl : k = Q.length := by omega
          have HQ := Lib.hid (HDn.out (by rw [HRs.out]; exact HGd.out fun j h => HK.out j h h))
          have HBn := Lib.hid (HB3.out.trans (HBk.out.mono HB3.out.size))
          go_wp2_with fail
          go_roundw
          case rel => exact ⟨i + 1, by omega, by go_num, HQ, HBn⟩
          case measure => simp [intOf]; omega
    · obtain rfl : i = L.length := by omega
      have HQ := Lib.hid (HGood.out fun j h => HD.out j h h)
      go_wp2_with fail
      ((try simp only [Exit.inBlock, Exit.then]); refine bodyPost_ret (results_tmp2 rfl _ _ _) rfl ?_)
      exact Gl.GaveE.yes HBw.out HQ.out (HO.out.below HB.out)
end Go.Proofs.YtobkddekfcgclaaDoor
