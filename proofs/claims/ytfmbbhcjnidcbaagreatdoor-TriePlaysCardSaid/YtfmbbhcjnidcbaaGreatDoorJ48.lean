/-
  GlRExp: CONTRACTS: chapter 9: the document's own Expand.
  TrLaw5: WALKS: chapter 10's laws: the statement on a nil Trie.
-/
import Derived.Test.YtfmbbhcjnidcbaaGreatDoorJ47
import Derived.Test.YtfmbbhcjnidcbaaGreatDoorJ9
import Derived.Test.YtfmbbhcjnidcbaaGreatDoorJ43

namespace Go.Proofs.YtfmbbhcjnidcbaaGreatDoor
open Go.RowKit
open Me

set_option maxRecDepth 100000 in
set_option maxHeartbeats 4000000 in
theorem refExpand_any (s : List UInt8) (L : List (List UInt8)) (hgr : Gl.bal 0 s = true → Gl.Gr false s L) (hl : s.length ≤ 4294967270) (w : World) :
    Calls Tryz.prog 28 #[.string ⟨s.toArray⟩] w (Gl.GaveE w (Gl.expErr s L) L) := by
  have hs : (⟨s.toArray⟩ : ByteArray).size = s.length := by show s.toArray.size = _; simp
  have HBal := Lib.hid (refBraces_any s hl)
  by_cases h4 : 4096 < s.length
  · have h4' : (4096 : Int) < (s.length : Int) := by omega
    have HE : Hid (Gl.expErr s L = 8) := Lib.hid (by unfold Gl.expErr; rw [if_pos (.inl h4)])
    clear h4
    go_enter Tryz.func28, Tryz.ntmps28
    go_wp2_with fail
    ((try simp only [Exit.inBlock, Exit.then]); refine bodyPost_ret (results_tmp2 rfl _ _ _) rfl ?_)
    exact Gl.GaveE.no (Below.refl _ _) HE.out (by decide)
  have h4' : ¬ (4096 : Int) < (s.length : Int) := by omega
  cases hbal : Gl.bal 0 s
  · have HE : Hid (Gl.expErr s L = 8) := Lib.hid (by unfold Gl.expErr; rw [if_pos (.inr hbal)])
    rw [hbal] at HBal
    clear h4 hbal hgr
    go_enter Tryz.func28, Tryz.ntmps28
    go_wp2_with (go_at_call 51; go_must (refine (HBal.out _).mono ?_; rintro e w1 ⟨rfl, hw1⟩; rw [hw1]))
    ((try simp only [Exit.inBlock, Exit.then]); refine bodyPost_ret (results_tmp2 rfl _ _ _) rfl ?_)
    exact Gl.GaveE.no (Below.refl _ _) HE.out (by decide)
  have hg := hgr hbal
  rw [hbal] at HBal
  have HAl := Lib.hid fun W => all_any s.length s L (Nat.le_refl _) hl hg W
  by_cases h5 : 512 < L.length
  · have HE : Hid (Gl.expErr s L = 13) := Lib.hid (by unfold Gl.expErr; rw [if_neg (by rw [hbal]; rintro (h | h); exact h4 h; cases h), if_pos h5])
    have HAn : Hid (∀ W, Calls Tryz.prog 52 #[.string ⟨s.toArray⟩] W fun x w' => ∃ v, x = .returned (.tuple #[v, .bool false]) ∧ Below W.heap.size W w') := Lib.hid fun W => (HAl.out W).mono fun x w' h => by
      obtain ⟨v, h1, _, h3⟩ := h
      rw [decide_eq_false (by omega)] at h1
      exact ⟨v, h1, h3⟩
    clear h4 hbal hgr hg h5 HAl
    go_enter Tryz.func28, Tryz.ntmps28
    go_wp2_with first
      | (go_at_call 51; go_must (refine (HBal.out _).mono ?_; rintro e w1 ⟨rfl, hw1⟩; rw [hw1]))
      | (go_at_call 52; go_must (refine (HAn.out _).mono ?_; rintro e w2 ⟨v2, rfl, hb2⟩))
    ((try simp only [Exit.inBlock, Exit.then]); refine bodyPost_ret (results_tmp2 rfl _ _ _) rfl ?_)
    exact Gl.GaveE.no hb2 HE.out (by decide)
  have HAy : Hid (∀ W, Calls Tryz.prog 52 #[.string ⟨s.toArray⟩] W fun x w' => ∃ v, x = .returned (.tuple #[v, .bool true]) ∧ OwnS W.heap.size w' v L ∧ Below W.heap.size W w') := Lib.hid fun W => (HAl.out W).mono fun x w' h => by
    obtain ⟨v, h1, h2, h3⟩ := h
    rw [decide_eq_true (by omega)] at h1
    rw [if_pos (by omega)] at h2
    exact ⟨v, h1, h2, h3⟩
  have HE : Hid (Gl.expErr s L = if L.all Gl.resOk then 0 else 8) := Lib.hid (by unfold Gl.expErr; rw [if_neg (by rw [hbal]; rintro (h | h); exact h4 h; cases h), if_neg h5])
  have HBad : Hid (∀ i (h : i < L.length), Gl.resOk L[i] = false → Gl.expErr s L = 8) := Lib.hid fun i h hb => by rw [HE.out, Gl.all_bad h hb]; rfl
  have HGood : Hid ((∀ i (h : i < L.length), Gl.resOk L[i] = true) → Gl.expErr s L = 0) := Lib.hid fun h => by rw [HE.out, Gl.all_good h]; rfl
  have HLen : Hid (∀ i (h : i < L.length), L[i].length ≤ 4294967270) := Lib.hid fun i h => Nat.le_trans (hg.len _ (List.getElem_mem h)) hl
  have hL9 : (L.length : Int) ≤ 512 := by omega
  have hLp := hg.pos
  generalize Gl.expErr s L = err at *
  clear h4 hbal hgr hg h5 HE HAl
  go_enter Tryz.func28, Tryz.ntmps28
  go_wp2_with first
    | (go_at_call 51; go_must (refine (HBal.out _).mono ?_; rintro e w1 ⟨rfl, hw1⟩; rw [hw1]))
    | (go_at_call 52; go_must (refine (HAy.out _).mono ?_; rintro e w2 ⟨v2, rfl, ho2, hb2⟩; obtain ⟨g, c, rfl⟩ := ho2.form hLp))
  have HO := Lib.hid ho2
  have HB2 := Lib.hid hb2
  have hlt2 := ho2.lt.2
  have hsz2 := hb2.size
  clear ho2 hb2 HBal HAy
  go_loopw [6] (fun x wr => ∃ i : Nat, i ≤ L.length ∧ x = .int .i64 i ∧ Hid (∀ j (h : j < L.length), j < i → Gl.resOk L[j] = true) ∧ Hid (Below w2.heap.size w2 wr)) (fun x _ => L.length - (intOf x).toNat)
  case atStart => exact ⟨0, Nat.zero_le _, rfl, Lib.hid fun j _ h => absurd h (by omega), Lib.hid (Below.refl _ _)⟩
  case round =>
    obtain ⟨i, hi, rfl, HD, HB⟩ := hrel
    have hi0 : (0 : Int) ≤ (i : Int) := by omega
    have HBw : Hid (Below w.heap.size w wr) := Lib.hid (HB2.out.trans (HB.out.mono hsz2))
    by_cases hlt : i < L.length
    · have hil : (i : Int) < (L.length : Int) := by omega
      have ec := (HB.out.cell (p := ⟨g, i, none⟩) hlt2).trans (HO.out.cell i hlt)
      have HDn : Hid (Gl.resOk L[i] = true → ∀ j (h : j < L.length), j < i + 1 → Gl.resOk L[j] = true) := Lib.hid fun hc j h hj => by
        by_cases e : j = i
        · subst e; exact hc
        · exact HD.out j h (by omega)
      have HC := Lib.hid (HBad.out i hlt)
      have hxl := HLen.out i hlt
      clear HBad HGood HD
      generalize L[i] = x at *
      by_cases hx0 : x = []
      · have HQ : Hid (err = 8) := Lib.hid (HC.out (by rw [hx0]; rfl))
        clear HC HDn
        subst hx0
        go_wp2_with fail
        ((try simp only [Exit.inBlock, Exit.then]); refine bodyPost_ret (results_tmp2 rfl _ _ _) rfl ?_)
        exact Gl.GaveE.no HBw.out HQ.out (by decide)
      have HRs : Hid (Gl.resOk x = (Nm.pt x).all Gl.simple) := Lib.hid (by
        unfold Gl.resOk
        rw [show x.isEmpty = false by simpa using hx0]; rfl)
      have HBd := Lib.hid (fun k (h : k < (Nm.pt x).length) (hb : Gl.simple (Nm.pt x)[k] = false) => Gl.all_bad h hb)
      have HGd := Lib.hid (fun h => Gl.all_good (f := Gl.simple) (l := Nm.pt x) h)
      have HPl := Lib.hid (fun k (h : k < (Nm.pt x).length) => Nat.le_trans (Nm.pt_part_len x _ (List.getElem_mem h)) hxl)
      have hPn : ((Nm.pt x).length : Int) ≤ 4294967281 := by have := Nm.pt_len x; omega
      have hpos : 0 < (Nm.pt x).length := List.length_pos_iff.2 (Nm.pt_ne x)
      have HPt := Lib.hid (refParts_any x hxl)
      have hemp : x.isEmpty = false := by simpa using hx0
      clear hx0
      generalize Gl.resOk x = Rx at *
      generalize (Nm.pt x).all Gl.simple = al at *
      generalize Nm.pt x = Q at *
      go_wp2_with (go_at_call 37; go_must (refine (HPt.out _).mono ?_; rintro e w3 ⟨v3, rfl, ho3, hb3⟩; obtain ⟨g3, c3, rfl⟩ := ho3.form hpos))
      have HO3 := Lib.hid ho3
      have hlt3 := ho3.lt.2
      have HB3 := Lib.hid (HB.out.trans (hb3.mono HB.out.size))
      have HB3w := Lib.hid (HBw.out.trans (hb3.mono HBw.out.size))
      clear ho3 hb3 ec HPt
      go_loopw [8] (fun y wr => ∃ k : Nat, k ≤ Q.length ∧ y = .int .i64 k ∧ Hid (∀ j (h : j < Q.length), j < k → Gl.simple Q[j] = true) ∧ Hid (Below w3.heap.size w3 wr)) (fun y _ => Q.length - (intOf y).toNat)
      case atStart => exact ⟨0, Nat.zero_le _, rfl, Lib.hid fun j _ h => absurd h (by omega), Lib.hid (Below.refl _ _)⟩
      case round =>
        obtain ⟨k, hk, rfl, HK, HBk⟩ := hrel
        have hk0 : (0 : Int) ≤ (k : Int) := by omega
        by_cases hkt : k < Q.length
        · have hkl : (k : Int) < (Q.length : Int) := by omega
          have ec := (HBk.out.cell (p := ⟨g3, k, none⟩) hlt3).trans (HO3.out.cell k hkt)
          have HKn : Hid (Gl.simple Q[k] = true → ∀ j (h : j < Q.length), j < k + 1 → Gl.simple Q[j] = true) := Lib.hid fun hc j h hj => by
            by_cases e : j = k
            · subst e; exact hc
            · exact HK.out j h (by omega)
          have HKb := Lib.hid (HBd.out k hkt)
          have hql := HPl.out k hkt
          clear HK HBd HGd
          generalize Q[k] = q at *
          have HS := Lib.hid (refSimple_any q hql)
          cases hc : Gl.simple q
          · rw [hc] at HS
            have HQ : Hid (err = 8) := Lib.hid (HC.out (by rw [HRs.out]; exact HKb.out hc))
            clear hc
            go_wp2_with (go_at_call 53; go_must (refine (HS.out _).mono ?_; rintro e w4 ⟨rfl, hb4⟩))
            ((try simp only [Exit.inBlock, Exit.then]); refine bodyPost_ret (results_tmp2 rfl _ _ _) rfl ?_)
            exact Gl.GaveE.no (HB3w.out.trans ((HBk.out.trans (hb4.mono HBk.out.size)).mono HB3w.out.size)) HQ.out (by decide)
          · rw [hc] at HS
            have HQ := Lib.hid (HKn.out hc)
            clear hc
            go_wp2_with (go_at_call 53; go_must (refine (HS.out _).mono ?_; rintro e w4 ⟨rfl, hb4⟩))
            go_roundw
            case rel => exact ⟨k + 1, by omega, by go_num, HQ, Lib.hid (HBk.out.trans (hb4.mono HBk.out.size))⟩
            case measure => simp [intOf]; omega
        · obtain rfl : k = Q.length := by omega
          have HQ := Lib.hid (HDn.out (by rw [HRs.out]; exact HGd.out fun j h => HK.out j h h))
          have HBn := Lib.hid (HB3.out.trans (HBk.out.mono HB3.out.size))
          go_wp2_with fail
          go_roundw
          case rel => exact ⟨i + 1, by omega, by go_num, HQ, HBn⟩
          case measure => simp [intOf]; omega
    · obtain rfl : i = L.length := by omega
      have HQ := Lib.hid (HGood.out fun j h => HD.out j h h)
      go_wp2_with fail
      ((try simp only [Exit.inBlock, Exit.then]); refine bodyPost_ret (results_tmp2 rfl _ _ _) rfl ?_)
      exact Gl.GaveE.yes HBw.out HQ.out (HO.out.below HB.out)
end Go.Proofs.YtfmbbhcjnidcbaaGreatDoor

namespace Go.Proofs.YtfmbbhcjnidcbaaGreatDoor
open Go.RowKit
open Me
namespace Tr
theorem rd_nil (w : World) : Rd w (fun _ => True) none (hvs []) := fun hn => absurd rfl hn
theorem readErr_bad {s : List UInt8} {T : List (List UInt8)} (h : Gl.expErr s T ≠ 0) : readErr s T = Gl.expErr s T := by unfold readErr; rw [if_pos h]
theorem readErr_good {s : List UInt8} {T : List (List UInt8)} (h : Gl.expErr s T = 0) : readErr s T = if T.all Gl.partsOk = true then 0 else 8 := by unfold readErr; rw [if_neg (fun h1 => h1 h)]
end Tr

set_option maxRecDepth 100000 in
set_option maxHeartbeats 1000000 in
/-- The document's Find among no names. -/
theorem refFind0 (s : List UInt8) (T : List (List UInt8)) (hgr : Gl.bal 0 s = true → Gl.Gr false s T) (hl : s.length ≤ 4294967270) (xb : Nat) (w : World) (hc : w.cell? ⟨xb, 0, none⟩ = some (.slice none 0 0)) (hx : xb < w.heap.size) :
    Calls Tryz.prog 11 #[.pointer (some ⟨xb, 0, none⟩), .string ⟨s.toArray⟩] w fun e w' => e = .returned (.tuple #[.slice none 0 0, .int .i64 (Tr.readErr s T)]) ∧ Below w.heap.size w w' := by
  have HE := Lib.hid ((refExpand_any s T hgr hl w).mono fun e w' h => h.both)
  by_cases h0 : Gl.expErr s T = 0
  · obtain ⟨hs4, hbal, hT5⟩ := Tr.expErr_zero h0
    have HLt := Lib.hid (fun t (ht : t ∈ T) => Nat.le_trans ((hgr hbal).len t ht) hs4)
    have HRE := Lib.hid (Tr.readErr_good h0)
    rw [h0] at HE
    have HE2 : Hid (Calls Tryz.prog 28 #[.string ⟨s.toArray⟩] w fun e w' => ∃ v, e = .returned (.tuple #[v, .int .i64 0]) ∧ OwnS w.heap.size w' v T ∧ Below w.heap.size w w') := Lib.hid (by simpa using HE.out)
    have hTn : (T.length : Int) ≤ 512 := by omega
    clear HE hgr hbal h0
    generalize Tr.readErr s T = re at *
    go_enter Tryz.func11, Tryz.ntmps11
    go_wp2_with (go_at_call 28; go_must (refine HE2.out.mono ?_; rintro e w1 ⟨v, rfl, ho1, hb1⟩; obtain ⟨A, cap, rfl, hr1⟩ := rd_own ho1))
    have HR := Lib.hid hr1
    have HB1 := Lib.hid hb1
    clear ho1 hr1 hb1 HE2
    go_loopw [8, 9] (fun ov i wr => ∃ k : Nat, ov = .slice none 0 0 ∧ k ≤ T.length ∧ i = .int .i64 k ∧ Hid (Below w1.heap.size w1 wr) ∧ Hid (∀ j (h : j < T.length), j < k → Gl.partsOk T[j] = true)) (fun _ i _ => T.length - (intOf i).toNat)
    case atStart => exact ⟨0, rfl, Nat.zero_le _, rfl, Lib.hid (Below.refl _ _), Lib.hid fun _ _ h => absurd h (Nat.not_lt_zero _)⟩
    case round =>
      obtain ⟨k, rfl, hk, rfl, HB, HD⟩ := hrel
      have hk0 : (0 : Int) ≤ (k : Int) := by omega
      by_cases hlt : k < T.length
      · obtain ⟨lb, lo, rfl, hlb, _, hxx⟩ := HR.out.lit k (by rw [byS_len]; exact hlt)
        have ec := (HB.out.cell (p := ⟨lb, lo + k, none⟩) hlb).trans (hxx k _ (byS_get T k hlt))
        have hkl : (k : Int) < (T.length : Int) := by omega
        have htl := HLt.out T[k] (List.getElem_mem hlt)
        have HP := Lib.hid ((ref9Parts_any T[k] (by omega) wr).mono fun e w' h => h.both)
        have HBw := Lib.hid (HB1.out.trans (HB.out.mono HB1.out.size))
        cases hp : Gl.partsOk T[k]
        · have hbad : (T.all Gl.partsOk) = false := by rw [List.all_eq_false]; exact ⟨T[k], List.getElem_mem hlt, by rw [hp]; simp⟩
          have HRE8 : Hid (re = 8) := Lib.hid (by rw [HRE.out, hbad]; rfl)
          rw [hp] at HP
          simp only [Bool.false_eq_true, if_false] at HP
          clear hxx hbad hp HD
          generalize T[k] = t at *
          go_wp2_with (go_at_call 29; go_must (refine HP.out.mono ?_; rintro e w2 ⟨v, rfl, ho2, hb2⟩))
          ((try simp only [Exit.inBlock, Exit.then]); refine bodyPost_ret (results_tmp2 rfl _ _ _) rfl ?_)
          exact ⟨by rw [HRE8.out]; rfl, HBw.out.trans (hb2.mono HBw.out.size)⟩
        · have HDn : Hid (∀ j (h : j < T.length), j < k + 1 → Gl.partsOk T[j] = true) := Lib.hid fun j h hj => by
            by_cases e : j = k
            · subst e; exact hp
            · exact HD.out j h (by omega)
          rw [hp] at HP
          simp only [if_true] at HP
          clear hxx hp HD
          generalize T[k] = t at *
          go_wp2_with (go_at_call 29; go_must (refine HP.out.mono ?_; rintro e w2 ⟨v, rfl, ho2, hb2⟩))
          have hc2 : w2.cell? ⟨xb, 0, none⟩ = some (.slice none 0 0) := ((HBw.out.trans (hb2.mono HBw.out.size)).cell (p := ⟨xb, 0, none⟩) hx).trans hc
          have HB2 := Lib.hid (HB.out.trans (hb2.mono HB.out.size))
          clear ho2
          go_loopw [8, 12] (fun ov i wq => ov = .slice none 0 0 ∧ i = .int .i64 0 ∧ wq = w2) (fun _ _ _ => 0)
          case atStart => exact ⟨rfl, rfl, rfl⟩
          case round =>
            obtain ⟨rfl, rfl, rfl⟩ := hrel
            go_wp2_with fail
            go_roundw
            case rel => exact ⟨k + 1, rfl, by omega, by go_num, HB2, HDn⟩
            case measure => first | (simp [intOf]; done) | (simp [intOf]; omega)
      · obtain rfl : k = T.length := by omega
        have HRE0 : Hid (re = 0) := Lib.hid (by
          rw [HRE.out, if_pos]
          exact List.all_eq_true.2 fun t ht => by obtain ⟨j, hj, rfl⟩ := List.getElem_of_mem ht; exact HD.out j hj hj)
        have HBw := Lib.hid (HB1.out.trans (HB.out.mono HB1.out.size))
        clear HD
        go_wp2
        ((try simp only [Exit.inBlock, Exit.then]); refine bodyPost_ret (results_tmp2 rfl _ _ _) rfl ?_)
        exact ⟨by rw [HRE0.out]; rfl, HBw.out⟩
  · have HRE := Lib.hid (Tr.readErr_bad h0)
    have hne : (Gl.expErr s T == 0) = false := by simpa using h0
    clear hgr
    generalize Tr.readErr s T = re at *
    generalize Gl.expErr s T = er at *
    go_enter Tryz.func11, Tryz.ntmps11
    go_wp2_with (go_at_call 28; go_must (refine HE.out.mono ?_; rintro e w1 ⟨v, rfl, ho1, hb1⟩))
    ((try simp only [Exit.inBlock, Exit.then]); refine bodyPost_ret (results_tmp2 rfl _ _ _) rfl ?_)
    exact ⟨by rw [HRE.out]; rfl, hb1⟩

set_option maxHeartbeats 1000000 in
theorem findNil (s : List UInt8) (T : List (List UInt8)) (hgr : Gl.bal 0 s = true → Gl.Gr false s T) (hl : s.length ≤ 4294967270) (w : World) (hm : Mx w) :
    Calls Tryz.prog 10 #[.pointer none, .string ⟨s.toArray⟩] w fun e w' => e = .returned (.tuple #[.slice none 0 0, .int .i64 (Tr.readErr s T)]) ∧ Below w.heap.size w w' := by
  have HRd : Hid (Calls Tryz.prog 25 #[.string ⟨s.toArray⟩] w fun e w' => (∃ x, e = .returned (.tuple #[.pointer x, .int .i64 (Tr.readErr s T)])) ∧ Below w.heap.size w w') := Lib.hid ((read_any s T hgr hl w hm).mono fun e w' hp => by
    rcases hp with ⟨hb, ⟨rb, he, h0, _⟩ | ⟨he, _⟩⟩
    · exact ⟨⟨_, by rw [he, h0]⟩, hb⟩
    · exact ⟨⟨_, he⟩, hb⟩)
  clear hgr hm
  generalize Tr.readErr s T = re at *
  by_cases h0 : re = 0
  · subst h0
    go_enter Tryz.func10, Tryz.ntmps10
    go_wp2_with (go_at_call 25; go_must (refine HRd.out.mono ?_; rintro e w1 ⟨⟨x, rfl⟩, hb1⟩))
    ((try simp only [Exit.inBlock, Exit.then]); refine bodyPost_ret (results_tmp2 rfl _ _ _) rfl ?_)
    exact ⟨rfl, hb1⟩
  · have hne : (re == 0) = false := by simpa using h0
    go_enter Tryz.func10, Tryz.ntmps10
    go_wp2_with (go_at_call 25; go_must (refine HRd.out.mono ?_; rintro e w1 ⟨⟨x, rfl⟩, hb1⟩))
    ((try simp only [Exit.inBlock, Exit.then]); refine bodyPost_ret (results_tmp2 rfl _ _ _) rfl ?_)
    exact ⟨rfl, hb1⟩
theorem insertNil (s : List UInt8) (w : World) : Calls Tryz.prog 6 #[.pointer none, .string ⟨s.toArray⟩] w fun e w' => e = .returned (.int .i64 14) ∧ Below w.heap.size w w' := by
  go_enter Tryz.func6, Tryz.ntmps6
  go_wp2_with fail
  go_ret
  exact ⟨rfl, Below.refl _ _⟩
theorem hasNil (s : List UInt8) (w : World) : Calls Tryz.prog 13 #[.pointer none, .string ⟨s.toArray⟩] w fun e w' => e = .returned (.bool false) ∧ Below w.heap.size w w' := by
  go_enter Tryz.func13, Tryz.ntmps13
  go_wp2_with fail
  go_ret
  exact ⟨rfl, Below.refl _ _⟩
theorem removeNil (s : List UInt8) (w : World) : Calls Tryz.prog 8 #[.pointer none, .string ⟨s.toArray⟩] w fun e w' => e = .returned (.bool false) ∧ Below w.heap.size w w' := by
  have HH := Lib.hid (fun W => hasNil s W)
  go_enter Tryz.func8, Tryz.ntmps8
  go_wp2_with (go_at_call 13; go_must (refine (HH.out _).mono ?_; rintro e w1 ⟨rfl, hb1⟩))
  go_ret
  exact ⟨rfl, hb1⟩
theorem namesNil (w : World) : Calls Tryz.prog 17 #[.pointer none] w fun e w' => e = .returned (.slice none 0 0) ∧ Below w.heap.size w w' := by
  go_enter Tryz.func17, Tryz.ntmps17
  go_wp2_with fail
  go_ret
  exact ⟨rfl, Below.refl _ _⟩
theorem lenNil (w : World) : Calls Tryz.prog 15 #[.pointer none] w fun e w' => e = .returned (.int .i64 0) ∧ Below w.heap.size w w' := by
  go_enter Tryz.func15, Tryz.ntmps15
  go_wp2_with fail
  go_ret
  exact ⟨rfl, Below.refl _ _⟩

end Go.Proofs.YtfmbbhcjnidcbaaGreatDoor
