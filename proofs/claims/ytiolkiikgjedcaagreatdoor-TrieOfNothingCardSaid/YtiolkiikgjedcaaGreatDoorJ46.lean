/-
  GlRExp: CONTRACTS: chapter 9: the document's own Expand.
  TrLaw5: WALKS: chapter 10's laws: the statement on a nil Trie.
  MxRow: ROWS WHOSE CALLS READ A VARIABLE OF THE LIBRARY's OWN: the wrap that keeps both what is laid and the world's shape; internal/bytealg.MaxLen's cell out of the shape.
-/
import Derived.Test.YtiolkiikgjedcaaGreatDoorJ45
import Derived.Test.YtiolkiikgjedcaaGreatDoorJ19
import Derived.Test.YtiolkiikgjedcaaGreatDoorJ43
import Derived.Test.YtiolkiikgjedcaaGreatDoorJ11
import Derived.Handed
import Derived.HandedShaped
import Derived.Shelf.Vars
import Derived.ProofKit

namespace Go.Proofs.YtiolkiikgjedcaaGreatDoor
open Go.RowKit
open Me

set_option maxRecDepth 100000 in
set_option maxHeartbeats 4000000 in
theorem refExpand_any (s : List UInt8) (L : List (List UInt8)) (hgr : Gl.bal 0 s = true → Gl.Gr false s L) (hl : s.length ≤ 4294967270) (w : World) :
    Calls Tryz.prog 31 #[.string ⟨s.toArray⟩] w (Gl.GaveE w (Gl.expErr s L) L) := by
  have hs : (⟨s.toArray⟩ : ByteArray).size = s.length := by show s.toArray.size = _; simp
  have HBal := Lib.hid (refBraces_any s hl)
  by_cases h4 : 4096 < s.length
  · have h4' : (4096 : Int) < (s.length : Int) := by omega
    have HE : Hid (Gl.expErr s L = 8) := Lib.hid (by unfold Gl.expErr; rw [if_pos (.inl h4)])
    clear h4
    go_enter Tryz.func31, Tryz.ntmps31
    go_wp2_with fail
    ((try simp only [Exit.inBlock, Exit.then]); refine bodyPost_ret (results_tmp2 rfl _ _ _) rfl ?_)
    exact Gl.GaveE.no (Below.refl _ _) HE.out (by decide)
  have h4' : ¬ (4096 : Int) < (s.length : Int) := by omega
  cases hbal : Gl.bal 0 s
  · have HE : Hid (Gl.expErr s L = 8) := Lib.hid (by unfold Gl.expErr; rw [if_pos (.inr hbal)])
    rw [hbal] at HBal
    clear h4 hbal hgr
    go_enter Tryz.func31, Tryz.ntmps31
    go_wp2_with (go_at_call 54; go_must (refine (HBal.out _).mono ?_; rintro e w1 ⟨rfl, hw1⟩; rw [hw1]))
    ((try simp only [Exit.inBlock, Exit.then]); refine bodyPost_ret (results_tmp2 rfl _ _ _) rfl ?_)
    exact Gl.GaveE.no (Below.refl _ _) HE.out (by decide)
  have hg := hgr hbal
  rw [hbal] at HBal
  have HAl := Lib.hid fun W => all_any s.length s L (Nat.le_refl _) hl hg W
  by_cases h5 : 512 < L.length
  · have HE : Hid (Gl.expErr s L = 13) := Lib.hid (by unfold Gl.expErr; rw [if_neg (by rw [hbal]; rintro (h | h); exact h4 h; cases h), if_pos h5])
    have HAn : Hid (∀ W, Calls Tryz.prog 55 #[.string ⟨s.toArray⟩] W fun x w' => ∃ v, x = .returned (.tuple #[v, .bool false]) ∧ Below W.heap.size W w') := Lib.hid fun W => (HAl.out W).mono fun x w' h => by
      obtain ⟨v, h1, _, h3⟩ := h
      rw [decide_eq_false (by omega)] at h1
      exact ⟨v, h1, h3⟩
    clear h4 hbal hgr hg h5 HAl
    go_enter Tryz.func31, Tryz.ntmps31
    go_wp2_with first
      | (go_at_call 54; go_must (refine (HBal.out _).mono ?_; rintro e w1 ⟨rfl, hw1⟩; rw [hw1]))
      | (go_at_call 55; go_must (refine (HAn.out _).mono ?_; rintro e w2 ⟨v2, rfl, hb2⟩))
    ((try simp only [Exit.inBlock, Exit.then]); refine bodyPost_ret (results_tmp2 rfl _ _ _) rfl ?_)
    exact Gl.GaveE.no hb2 HE.out (by decide)
  have HAy : Hid (∀ W, Calls Tryz.prog 55 #[.string ⟨s.toArray⟩] W fun x w' => ∃ v, x = .returned (.tuple #[v, .bool true]) ∧ OwnS W.heap.size w' v L ∧ Below W.heap.size W w') := Lib.hid fun W => (HAl.out W).mono fun x w' h => by
    obtain ⟨v, h1, h2, h3⟩ := h
    rw [decide_eq_true (by omega)] at h1
    rw [if_pos (by omega)] at h2
    exact ⟨v, h1, h2, h3⟩
  have HE : Hid (Gl.expErr s L = if L.all Gl.resOk then 0 else 8) := Lib.hid (by unfold Gl.expErr; rw [if_neg (by rw [hbal]; rintro (h | h); exact h4 h; cases h), if_neg h5])
  have HBad : Hid (∀ i (h : i < L.length), Gl.resOk L[i] = false → Gl.expErr s L = 8) := Lib.hid fun i h hb => by rw [HE.out, Gl.all_bad h hb]; rfl
  have HGood : Hid ((∀ i (h : i < L.length), Gl.resOk L[i] = true) → Gl.expErr s L = 0) := Lib.hid fun h => by rw [HE.out, Gl.all_good h]; rfl
  have HLen : Hid (∀ i (h : i < L.length), L[i].length ≤ 4294967270) := Lib.hid fun i h => Nat.le_trans (hg.len _ (List.getElem_mem h)) hl
  have hL9 : (L.length : Int) ≤ 512 := by omega
  have hLp := hg.pos
  generalize Gl.expErr s L = err at *
  clear h4 hbal hgr hg h5 HE HAl
  go_enter Tryz.func31, Tryz.ntmps31
  go_wp2_with first
    | (go_at_call 54; go_must (refine (HBal.out _).mono ?_; rintro e w1 ⟨rfl, hw1⟩; rw [hw1]))
    | (go_at_call 55; go_must (refine (HAy.out _).mono ?_; rintro e w2 ⟨v2, rfl, ho2, hb2⟩; obtain ⟨g, c, rfl⟩ := ho2.form hLp))
  have HO := Lib.hid ho2
  have HB2 := Lib.hid hb2
  have hlt2 := ho2.lt.2
  have hsz2 := hb2.size
  clear ho2 hb2 HBal HAy
  go_loopw [6] (fun x wr => ∃ i : Nat, i ≤ L.length ∧ x = .int .i64 i ∧ Hid (∀ j (h : j < L.length), j < i → Gl.resOk L[j] = true) ∧ Hid (Below w2.heap.size w2 wr)) (fun x _ => L.length - (intOf x).toNat)
  case atStart => exact ⟨0, Nat.zero_le _, rfl, Lib.hid fun j _ h => absurd h (by omega), Lib.hid (Below.refl _ _)⟩
  case round =>
    obtain ⟨i, hi, rfl, HD, HB⟩ := hrel
    have hi0 : (0 : Int) ≤ (i : Int) := by omega
    have HBw : Hid (Below w.heap.size w wr) := Lib.hid (HB2.out.trans (HB.out.mono hsz2))
    by_cases hlt : i < L.length
    · have hil : (i : Int) < (L.length : Int) := by omega
      have ec := (HB.out.cell (p := ⟨g, i, none⟩) hlt2).trans (HO.out.cell i hlt)
      have HDn : Hid (Gl.resOk L[i] = true → ∀ j (h : j < L.length), j < i + 1 → Gl.resOk L[j] = true) := Lib.hid fun hc j h hj => by
        by_cases e : j = i
        · subst e; exact hc
        · exact HD.out j h (by omega)
      have HC := Lib.hid (HBad.out i hlt)
      have hxl := HLen.out i hlt
      clear HBad HGood HD
      generalize L[i] = x at *
      by_cases hx0 : x = []
      · have HQ : Hid (err = 8) := Lib.hid (HC.out (by rw [hx0]; rfl))
        clear HC HDn
        subst hx0
        go_wp2_with fail
        ((try simp only [Exit.inBlock, Exit.then]); refine bodyPost_ret (results_tmp2 rfl _ _ _) rfl ?_)
        exact Gl.GaveE.no HBw.out HQ.out (by decide)
      have HRs : Hid (Gl.resOk x = (Nm.pt x).all Gl.simple) := Lib.hid (by
        unfold Gl.resOk
        rw [show x.isEmpty = false by simpa using hx0]; rfl)
      have HBd := Lib.hid (fun k (h : k < (Nm.pt x).length) (hb : Gl.simple (Nm.pt x)[k] = false) => Gl.all_bad h hb)
      have HGd := Lib.hid (fun h => Gl.all_good (f := Gl.simple) (l := Nm.pt x) h)
      have HPl := Lib.hid (fun k (h : k < (Nm.pt x).length) => Nat.le_trans (Nm.pt_part_len x _ (List.getElem_mem h)) hxl)
      have hPn : ((Nm.pt x).length : Int) ≤ 4294967281 := by have := Nm.pt_len x; omega
      have hpos : 0 < (Nm.pt x).length := List.length_pos_iff.2 (Nm.pt_ne x)
      have HPt := Lib.hid (refParts_any x hxl)
      have hemp : x.isEmpty = false := by simpa using hx0
      clear hx0
      generalize Gl.resOk x = Rx at *
      generalize (Nm.pt x).all Gl.simple = al at *
      generalize Nm.pt x = Q at *
      go_wp2_with (go_at_call 37; go_must (refine (HPt.out _).mono ?_; rintro e w3 ⟨v3, rfl, ho3, hb3⟩; obtain ⟨g3, c3, rfl⟩ := ho3.form hpos))
      have HO3 := Lib.hid ho3
      have hlt3 := ho3.lt.2
      have HB3 := Lib.hid (HB.out.trans (hb3.mono HB.out.size))
      have HB3w := Lib.hid (HBw.out.trans (hb3.mono HBw.out.size))
      clear ho3 hb3 ec HPt
      go_loopw [8] (fun y wr => ∃ k : Nat, k ≤ Q.length ∧ y = .int .i64 k ∧ Hid (∀ j (h : j < Q.length), j < k → Gl.simple Q[j] = true) ∧ Hid (Below w3.heap.size w3 wr)) (fun y _ => Q.length - (intOf y).toNat)
      case atStart => exact ⟨0, Nat.zero_le _, rfl, Lib.hid fun j _ h => absurd h (by omega), Lib.hid (Below.refl _ _)⟩
      case round =>
        obtain ⟨k, hk, rfl, HK, HBk⟩ := hrel
        have hk0 : (0 : Int) ≤ (k : Int) := by omega
        by_cases hkt : k < Q.length
        · have hkl : (k : Int) < (Q.length : Int) := by omega
          have ec := (HBk.out.cell (p := ⟨g3, k, none⟩) hlt3).trans (HO3.out.cell k hkt)
          have HKn : Hid (Gl.simple Q[k] = true → ∀ j (h : j < Q.length), j < k + 1 → Gl.simple Q[j] = true) := Lib.hid fun hc j h hj => by
            by_cases e : j = k
            · subst e; exact hc
            · exact HK.out j h (by omega)
          have HKb := Lib.hid (HBd.out k hkt)
          have hql := HPl.out k hkt
          clear HK HBd HGd
          generalize Q[k] = q at *
          have HS := Lib.hid (refSimple_any q hql)
          cases hc : Gl.simple q
          · rw [hc] at HS
            have HQ : Hid (err = 8) := Lib.hid (HC.out (by rw [HRs.out]; exact HKb.out hc))
            clear hc
            go_wp2_with (go_at_call 56; go_must (refine (HS.out _).mono ?_; rintro e w4 ⟨rfl, hb4⟩))
            ((try simp only [Exit.inBlock, Exit.then]); refine bodyPost_ret (results_tmp2 rfl _ _ _) rfl ?_)
            exact Gl.GaveE.no (HB3w.out.trans ((HBk.out.trans (hb4.mono HBk.out.size)).mono HB3w.out.size)) HQ.out (by decide)
          · rw [hc] at HS
            have HQ := Lib.hid (HKn.out hc)
            clear hc
            go_wp2_with (go_at_call 56; go_must (refine (HS.out _).mono ?_; rintro e w4 ⟨rfl, hb4⟩))
            go_roundw
            case rel => exact ⟨k + 1, by omega, by go_num, HQ, Lib.hid (HBk.out.trans (hb4.mono HBk.out.size))⟩
            case measure => simp [intOf]; omega
        · obtain rfl : k = Q.length := by omega
          have HQ := Lib.hid (HDn.out (by rw [HRs.out]; exact HGd.out fun j h => HK.out j h h))
          have HBn := Lib.hid (HB3.out.trans (HBk.out.mono HB3.out.size))
          go_wp2_with fail
          go_roundw
          case rel => exact ⟨i + 1, by omega, by go_num, HQ, HBn⟩
          case measure => simp [intOf]; omega
    · obtain rfl : i = L.length := by omega
      have HQ := Lib.hid (HGood.out fun j h => HD.out j h h)
      go_wp2_with fail
      ((try simp only [Exit.inBlock, Exit.then]); refine bodyPost_ret (results_tmp2 rfl _ _ _) rfl ?_)
      exact Gl.GaveE.yes HBw.out HQ.out (HO.out.below HB.out)
end Go.Proofs.YtiolkiikgjedcaaGreatDoor

namespace Go.Proofs.YtiolkiikgjedcaaGreatDoor
open Go.RowKit
open Me
namespace Tr
theorem rd_nil (w : World) : Rd w (fun _ => True) none (hvs []) := fun hn => absurd rfl hn
theorem readErr_bad {s : List UInt8} {T : List (List UInt8)} (h : Gl.expErr s T ≠ 0) : readErr s T = Gl.expErr s T := by unfold readErr; rw [if_pos h]
theorem readErr_good {s : List UInt8} {T : List (List UInt8)} (h : Gl.expErr s T = 0) : readErr s T = if T.all Gl.partsOk = true then 0 else 8 := by unfold readErr; rw [if_neg (fun h1 => h1 h)]
end Tr

set_option maxRecDepth 100000 in
set_option maxHeartbeats 1000000 in
/-- The document's Find among no names. -/
theorem refFind0 (s : List UInt8) (T : List (List UInt8)) (hgr : Gl.bal 0 s = true → Gl.Gr false s T) (hl : s.length ≤ 4294967270) (xb : Nat) (w : World) (hc : w.cell? ⟨xb, 0, none⟩ = some (.slice none 0 0)) (hx : xb < w.heap.size) :
    Calls Tryz.prog 14 #[.pointer (some ⟨xb, 0, none⟩), .string ⟨s.toArray⟩] w fun e w' => e = .returned (.tuple #[.slice none 0 0, .int .i64 (Tr.readErr s T)]) ∧ Below w.heap.size w w' := by
  have HE := Lib.hid ((refExpand_any s T hgr hl w).mono fun e w' h => h.both)
  by_cases h0 : Gl.expErr s T = 0
  · obtain ⟨hs4, hbal, hT5⟩ := Tr.expErr_zero h0
    have HLt := Lib.hid (fun t (ht : t ∈ T) => Nat.le_trans ((hgr hbal).len t ht) hs4)
    have HRE := Lib.hid (Tr.readErr_good h0)
    rw [h0] at HE
    have HE2 : Hid (Calls Tryz.prog 31 #[.string ⟨s.toArray⟩] w fun e w' => ∃ v, e = .returned (.tuple #[v, .int .i64 0]) ∧ OwnS w.heap.size w' v T ∧ Below w.heap.size w w') := Lib.hid (by simpa using HE.out)
    have hTn : (T.length : Int) ≤ 512 := by omega
    clear HE hgr hbal h0
    generalize Tr.readErr s T = re at *
    go_enter Tryz.func14, Tryz.ntmps14
    go_wp2_with (go_at_call 31; go_must (refine HE2.out.mono ?_; rintro e w1 ⟨v, rfl, ho1, hb1⟩; obtain ⟨A, cap, rfl, hr1⟩ := rd_own ho1))
    have HR := Lib.hid hr1
    have HB1 := Lib.hid hb1
    clear ho1 hr1 hb1 HE2
    go_loopw [8, 9] (fun ov i wr => ∃ k : Nat, ov = .slice none 0 0 ∧ k ≤ T.length ∧ i = .int .i64 k ∧ Hid (Below w1.heap.size w1 wr) ∧ Hid (∀ j (h : j < T.length), j < k → Gl.partsOk T[j] = true)) (fun _ i _ => T.length - (intOf i).toNat)
    case atStart => exact ⟨0, rfl, Nat.zero_le _, rfl, Lib.hid (Below.refl _ _), Lib.hid fun _ _ h => absurd h (Nat.not_lt_zero _)⟩
    case round =>
      obtain ⟨k, rfl, hk, rfl, HB, HD⟩ := hrel
      have hk0 : (0 : Int) ≤ (k : Int) := by omega
      by_cases hlt : k < T.length
      · obtain ⟨lb, lo, rfl, hlb, _, hxx⟩ := HR.out.lit k (by rw [byS_len]; exact hlt)
        have ec := (HB.out.cell (p := ⟨lb, lo + k, none⟩) hlb).trans (hxx k _ (byS_get T k hlt))
        have hkl : (k : Int) < (T.length : Int) := by omega
        have htl := HLt.out T[k] (List.getElem_mem hlt)
        have HP := Lib.hid ((ref9Parts_any T[k] (by omega) wr).mono fun e w' h => h.both)
        have HBw := Lib.hid (HB1.out.trans (HB.out.mono HB1.out.size))
        cases hp : Gl.partsOk T[k]
        · have hbad : (T.all Gl.partsOk) = false := by rw [List.all_eq_false]; exact ⟨T[k], List.getElem_mem hlt, by rw [hp]; simp⟩
          have HRE8 : Hid (re = 8) := Lib.hid (by rw [HRE.out, hbad]; rfl)
          rw [hp] at HP
          simp only [Bool.false_eq_true, if_false] at HP
          clear hxx hbad hp HD
          generalize T[k] = t at *
          go_wp2_with (go_at_call 32; go_must (refine HP.out.mono ?_; rintro e w2 ⟨v, rfl, ho2, hb2⟩))
          ((try simp only [Exit.inBlock, Exit.then]); refine bodyPost_ret (results_tmp2 rfl _ _ _) rfl ?_)
          exact ⟨by rw [HRE8.out]; rfl, HBw.out.trans (hb2.mono HBw.out.size)⟩
        · have HDn : Hid (∀ j (h : j < T.length), j < k + 1 → Gl.partsOk T[j] = true) := Lib.hid fun j h hj => by
            by_cases e : j = k
            · subst e; exact hp
            · exact HD.out j h (by omega)
          rw [hp] at HP
          simp only [if_true] at HP
          clear hxx hp HD
          generalize T[k] = t at *
          go_wp2_with (go_at_call 32; go_must (refine HP.out.mono ?_; rintro e w2 ⟨v, rfl, ho2, hb2⟩))
          have hc2 : w2.cell? ⟨xb, 0, none⟩ = some (.slice none 0 0) := ((HBw.out.trans (hb2.mono HBw.out.size)).cell (p := ⟨xb, 0, none⟩) hx).trans hc
          have HB2 := Lib.hid (HB.out.trans (hb2.mono HB.out.size))
          clear ho2
          go_loopw [8, 12] (fun ov i wq => ov = .slice none 0 0 ∧ i = .int .i64 0 ∧ wq = w2) (fun _ _ _ => 0)
          case atStart => exact ⟨rfl, rfl, rfl⟩
          case round =>
            obtain ⟨rfl, rfl, rfl⟩ := hrel
            go_wp2_with fail
            go_roundw
            case rel => exact ⟨k + 1, rfl, by omega, by go_num, HB2, HDn⟩
            case measure => first | (simp [intOf]; done) | (simp [intOf]; omega)
      · obtain rfl : k = T.length := by omega
        have HRE0 : Hid (re = 0) := Lib.hid (by
          rw [HRE.out, if_pos]
          exact List.all_eq_true.2 fun t ht => by obtain ⟨j, hj, rfl⟩ := List.getElem_of_mem ht; exact HD.out j hj hj)
        have HBw := Lib.hid (HB1.out.trans (HB.out.mono HB1.out.size))
        clear HD
        go_wp2
        ((try simp only [Exit.inBlock, Exit.then]); refine bodyPost_ret (results_tmp2 rfl _ _ _) rfl ?_)
        exact ⟨by rw [HRE0.out]; rfl, HBw.out⟩
  · have HRE := Lib.hid (Tr.readErr_bad h0)
    have hne : (Gl.expErr s T == 0) = false := by simpa using h0
    clear hgr
    generalize Tr.readErr s T = re at *
    generalize Gl.expErr s T = er at *
    go_enter Tryz.func14, Tryz.ntmps14
    go_wp2_with (go_at_call 31; go_must (refine HE.out.mono ?_; rintro e w1 ⟨v, rfl, ho1, hb1⟩))
    ((try simp only [Exit.inBlock, Exit.then]); refine bodyPost_ret (results_tmp2 rfl _ _ _) rfl ?_)
    exact ⟨by rw [HRE.out]; rfl, hb1⟩

set_option maxHeartbeats 1000000 in
theorem findNil (s : List UInt8) (T : List (List UInt8)) (hgr : Gl.bal 0 s = true → Gl.Gr false s T) (hl : s.length ≤ 4294967270) (w : World) (hm : Mx w) :
    Calls Tryz.prog 13 #[.pointer none, .string ⟨s.toArray⟩] w fun e w' => e = .returned (.tuple #[.slice none 0 0, .int .i64 (Tr.readErr s T)]) ∧ Below w.heap.size w w' := by
  have HRd : Hid (Calls Tryz.prog 28 #[.string ⟨s.toArray⟩] w fun e w' => (∃ x, e = .returned (.tuple #[.pointer x, .int .i64 (Tr.readErr s T)])) ∧ Below w.heap.size w w') := Lib.hid ((read_any s T hgr hl w hm).mono fun e w' hp => by
    rcases hp with ⟨hb, ⟨rb, he, h0, _⟩ | ⟨he, _⟩⟩
    · exact ⟨⟨_, by rw [he, h0]⟩, hb⟩
    · exact ⟨⟨_, he⟩, hb⟩)
  clear hgr hm
  generalize Tr.readErr s T = re at *
  by_cases h0 : re = 0
  · subst h0
    go_enter Tryz.func13, Tryz.ntmps13
    go_wp2_with (go_at_call 28; go_must (refine HRd.out.mono ?_; rintro e w1 ⟨⟨x, rfl⟩, hb1⟩))
    ((try simp only [Exit.inBlock, Exit.then]); refine bodyPost_ret (results_tmp2 rfl _ _ _) rfl ?_)
    exact ⟨rfl, hb1⟩
  · have hne : (re == 0) = false := by simpa using h0
    go_enter Tryz.func13, Tryz.ntmps13
    go_wp2_with (go_at_call 28; go_must (refine HRd.out.mono ?_; rintro e w1 ⟨⟨x, rfl⟩, hb1⟩))
    ((try simp only [Exit.inBlock, Exit.then]); refine bodyPost_ret (results_tmp2 rfl _ _ _) rfl ?_)
    exact ⟨rfl, hb1⟩
theorem insertNil (s : List UInt8) (w : World) : Calls Tryz.prog 9 #[.pointer none, .string ⟨s.toArray⟩] w fun e w' => e = .returned (.int .i64 14) ∧ Below w.heap.size w w' := by
  go_enter Tryz.func9, Tryz.ntmps9
  go_wp2_with fail
  go_ret
  exact ⟨rfl, Below.refl _ _⟩
theorem hasNil (s : List UInt8) (w : World) : Calls Tryz.prog 16 #[.pointer none, .string ⟨s.toArray⟩] w fun e w' => e = .returned (.bool false) ∧ Below w.heap.size w w' := by
  go_enter Tryz.func16, Tryz.ntmps16
  go_wp2_with fail
  go_ret
  exact ⟨rfl, Below.refl _ _⟩
theorem removeNil (s : List UInt8) (w : World) : Calls Tryz.prog 11 #[.pointer none, .string ⟨s.toArray⟩] w fun e w' => e = .returned (.bool false) ∧ Below w.heap.size w w' := by
  have HH := Lib.hid (fun W => hasNil s W)
  go_enter Tryz.func11, Tryz.ntmps11
  go_wp2_with (go_at_call 16; go_must (refine (HH.out _).mono ?_; rintro e w1 ⟨rfl, hb1⟩))
  go_ret
  exact ⟨rfl, hb1⟩
theorem namesNil (w : World) : Calls Tryz.prog 20 #[.pointer none] w fun e w' => e = .returned (.slice none 0 0) ∧ Below w.heap.size w w' := by
  go_enter Tryz.func20, Tryz.ntmps20
  go_wp2_with fail
  go_ret
  exact ⟨rfl, Below.refl _ _⟩
theorem lenNil (w : World) : Calls Tryz.prog 18 #[.pointer none] w fun e w' => e = .returned (.int .i64 0) ∧ Below w.heap.size w w' := by
  go_enter Tryz.func18, Tryz.ntmps18
  go_wp2_with fail
  go_ret
  exact ⟨rfl, Below.refl _ _⟩

set_option maxRecDepth 100000 in
set_option maxHeartbeats 2000000 in
theorem lawNothing10 (s : List UInt8) (w : World) (hm : Mx w) :
    Calls Tryz.prog 6 #[.string ⟨s.toArray⟩] w fun e w' => e = .returned (.bool true) ∧ Below w.heap.size w w' := by
  have hs : (⟨s.toArray⟩ : ByteArray).size = s.length := by show s.toArray.size = _; simp
  by_cases h2 : 250 < s.length
  · have h2' : (250 : Int) < (s.length : Int) := by omega
    clear h2
    go_enter Tryz.func6, Tryz.ntmps6
    go_wp2_with fail
    go_ret
    exact ⟨rfl, Below.refl _ _⟩
  have h2' : ¬ (250 : Int) < (s.length : Int) := by omega
  obtain ⟨T, hT⟩ : ∃ T, Gl.bal 0 s = true → Gl.Gr false s T := by
    cases hb : Gl.bal 0 s
    · exact ⟨[], fun h => by cases h⟩
    · obtain ⟨T, h⟩ := Gl.parse s hb
      exact ⟨T, fun _ => h⟩
  have HM : Hid (∀ W, Below w.heap.size w W → Mx W) := Lib.hid fun W h => hm.below h
  have HF := Lib.hid (fun W (h : Mx W) => findNil s T hT (by omega) W h)
  have HR := Lib.hid (fun W xb h h' => refFind0 s T hT (by omega) xb W h h')
  have HI := Lib.hid (insertNil s)
  have HH := Lib.hid (hasNil s)
  have HRm := Lib.hid (removeNil s)
  have HHt : Hid (∀ W, Calls Tryz.prog 15 #[.slice none 0 0, .slice none 0 0] W fun e w' => e = .returned (.bool true) ∧ Below W.heap.size W w') := Lib.hid fun W => hits_same10 [] none none 0 0 (by decide) W (Tr.rd_nil W) (Tr.rd_nil W)
  clear hm hT h2
  generalize Tr.readErr s T = re at *
  have hre : (re == re) = true := by simp
  go_enter Tryz.func6, Tryz.ntmps6
  go_wp2_with first
    | (go_at_call 13; (refine (HF.out _ (HM.out _ ((Below.refl _ _).alloc (Nat.le_refl _) _))).mono ?_; rintro e w1 ⟨rfl, hb1⟩; have hB1 := ((Below.refl w.heap.size w).alloc (Nat.le_refl _) (.cells #[.slice none 0 0] 29)).trans (hb1.mono (by simp)); have hc1 : w1.cell? ⟨w.heap.size, 0, none⟩ = some (.slice none 0 0) := (hb1.cell (p := ⟨w.heap.size, 0, none⟩) (by simp)).trans (cells_new w [.slice none 0 0] 29 0 _ rfl); have hx1 : w.heap.size < w1.heap.size := Nat.lt_of_lt_of_le (by simp) hb1.size))
    | (go_at_call 14; (refine (HR.out _ _ hc1 hx1).mono ?_; rintro e w2 ⟨rfl, hb2⟩; have hB2 := hB1.trans (hb2.mono hB1.size)))
    | (go_at_call 9; (refine (HI.out _).mono ?_; rintro e w3 ⟨rfl, hb3⟩; have hB3 := hB2.trans (hb3.mono hB2.size)))
    | (go_at_call 11; (refine (HRm.out _).mono ?_; rintro e w4 ⟨rfl, hb4⟩; have hB4 := hB3.trans (hb4.mono hB3.size)))
    | (go_at_call 16; (refine (HH.out _).mono ?_; rintro e w5 ⟨rfl, hb5⟩; have hB5 := hB4.trans (hb5.mono hB4.size)))
    | (go_at_call 15; (refine (HHt.out _).mono ?_; rintro e w6 ⟨rfl, hb6⟩; have hB6 := hB5.trans (hb6.mono hB5.size)))
    | (go_at_call 20; (refine (namesNil _).mono ?_; rintro e w7 ⟨rfl, hb7⟩; have hB7 := hB6.trans (hb7.mono hB6.size)))
    | (go_at_call 18; (refine (lenNil _).mono ?_; rintro e w8 ⟨rfl, hb8⟩; have hB8 := hB7.trans (hb8.mono hB7.size)))
    | (go_at_call 21; (refine (known10_any _ (HM.out _ hB8)).mono ?_; rintro e w9 ⟨rfl, hb9⟩; have hB9 := hB8.trans (hb9.mono hB8.size)))
  go_ret
  exact ⟨rfl, hB9⟩
end Go.Proofs.YtiolkiikgjedcaaGreatDoor

namespace Go.Proofs.YtiolkiikgjedcaaGreatDoor
open Go Go.RowKit

theorem returns_shaped_and {H : Type} {enc : TypeId × Value → H} {a : Assume} {C : Checked} {os : Os} {f : FuncId} {fn : Func} {s : ChangeSpec} {conds : List PathCond} {apart fresh handsOn again : Bool} {X : World → Array Value → Prop}
    (hX : ∀ (w w' : World) (args : Array Value), w.heap = w'.heap → X w args → X w' args)
    (own : ownKnob C.prog.godebug = none) (started : os.Started) (noInit : C.prog.inits.idxOf? f = none) (hfn : C.prog.funcs[f]? = some fn)
    (witness : ∃ (w : World) (tape : Tape) (i : Input), w.os = os ∧ (w.forCall tape i).Shaped C.prog ∧ i.vars = [] ∧ Input.okWide C.prog (w.forCall tape i) .any w.heap.size f i ∧
      ((s.pre enc C.prog fn conds apart (w.forCall tape i).memory i.args ∧ X (w.forCall tape i).memory i.args) ∧ sizedMet enc C.prog fn (OpenSpec.ofChange s) apart (w.forCall tape i).memory i.args) ∧ a.holds C.prog (lone (Frame.enter C.prog f i.args .normal) [] (w.forCall tape i)))
    (contract : ∀ (W : World) (base : Nat) (args : Array Value) (ds gs : List (DataW H)) (before : List MemPlace),
      (∀ (j : Nat) t v, fn.params[j]? = some t → args[j]? = some v → Value.okWide C.prog W .any base t v) →
      DataW.Whole enc C.prog fn.params.toList s.vars apart W args.toList ds gs before →
      conds.all (PathCond.test C.prog ⟨fn.params.toList, ds, s.plain.varTypes C.prog, gs⟩) = true →
      (DataW.weightsEach C.prog (fn.params.toList ++ s.plain.varTypes C.prog) (ds ++ gs)).all (· ≤ reachBytes) = true → X W args →
      W.ShapedOpen C.prog →
      a.holds C.prog (lone (Frame.enter C.prog f args .normal) [] W) →
      Calls C.prog f args W fun e W' => ∃ v, e = .returned v ∧ s.post enc C.prog fn apart fresh handsOn again W args v W') :
    ReturnsInHanded a C os f .any (fun w args => (s.pre enc C.prog fn conds apart w args ∧ X w args) ∧ sizedMet enc C.prog fn (OpenSpec.ofChange s) apart w args) (s.post enc C.prog fn apart fresh handsOn again) := by
  refine returnsInHanded_of_calls own started noInit witness ?_
  intro w tape i _ hsh _ hok hpre hholds
  obtain ⟨_, _, _, fn', hfn', _, _, _, _, hval⟩ := hok
  have e : fn' = fn := Option.some.inj (hfn'.symm.trans hfn)
  subst e
  obtain ⟨⟨⟨ds, gs, before, hw, hc⟩, hx⟩, hz⟩ := hpre
  have hw' := DataW.Whole.of_heap (w' := w.forCall tape i) (by rfl) hw
  refine (contract (w.forCall tape i) w.heap.size i.args ds gs before hval hw' hc (hz.weights hw) (hX _ _ _ (by rfl) hx) hsh hholds).mono fun e W' ⟨v, he, hp⟩ => ?_
  subst he
  exact ChangeSpec.post_blind hp

theorem mx_shaped {w : World} (h : w.ShapedOpen Tryz.prog) : Mx w :=
  cell_of_shapedOpen_int (zero := #[.int .i64 0]) (t := 3) h (of_decide_eq_true (by kernel_rfl)) (by kernel_rfl) rfl (by kernel_rfl) (by kernel_rfl) Tryz.underlying3
end Go.Proofs.YtiolkiikgjedcaaGreatDoor
