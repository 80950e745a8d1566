/-
  RcRow: CONTRACTS: chapter 12, the document's Compile: row, ways.
  RcWay: CONTRACTS: chapter 12, the document's Compile: ways.
-/
import Derived.Test.YtelbabgkpflckaaJ17

set_option linter.unusedSimpArgs false
set_option linter.unusedVariables false
namespace Go.Proofs.Ytelbabgkpflckaa
open Go.RowKit Go.Sort
open Me
open Pk

namespace Rc
def left (r : Rr) : Nat := if r.err = 0 then r.s.length - r.at_ + 1 else 0
def leftM (b : Nat) (w : World) : Nat := match w.cell? ⟨b, 0, none⟩, w.cell? ⟨b, 1, none⟩, w.cell? ⟨b, 3, none⟩ with
  | some (.string s), some (.int _ i), some (.int _ e) => if e = 0 then s.size - i.toNat + 1 else 0
  | _, _, _ => 0
theorem left_is {W : World} {b : Nat} {v : Value} {r : Rr} (h : At W b v r) : leftM b W = left r := by
  unfold leftM left
  rw [h.c0, h.c1, h.c3]
  show (if r.err = 0 then r.s.toArray.size - (r.at_ : Int).toNat + 1 else 0) = _
  simp
/-- What is read in a row, by steps. -/
theorem row_end {W : Rr → Rr} {r : Rr} (n : Nat) (h : r.err ≠ 0) : row W n r = r := by
  cases n with
  | zero => rfl
  | succ n => unfold row; rw [if_pos h]
theorem row_stop {W : Rr → Rr} {r : Rr} (n : Nat) (h : r.err = 0) (hc : r.s[r.at_]? = none ∨ r.s[r.at_]? = some 124 ∨ r.s[r.at_]? = some 41) : row W n r = r := by
  cases n with
  | zero => rfl
  | succ n =>
    unfold row
    rw [if_neg (by simpa using h)]
    rcases hc with hc | hc | hc <;> rw [hc] <;> simp
theorem row_go {W : Rr → Rr} {r : Rr} {c : UInt8} (n : Nat) (h : r.err = 0) (hc : r.s[r.at_]? = some c) (h1 : c ≠ 124) (h2 : c ≠ 41) : row W (n + 1) r = row W n (piece W r) := by
  show (if r.err ≠ 0 then r else _) = _
  rw [if_neg (by simpa using h), hc]
  simp [h1, h2]
end Rc

set_option maxRecDepth 100000 in
set_option maxHeartbeats 16000000 in
theorem rcRow_any {S : List UInt8 → Prop} {n : Nat} {F : Rc.Rr → Rc.Rr} (hSC : Rc.SetC S) (hW : Rc.WaysC S n F) {w : World} {b : Nat} {v : Value} {r : Rc.Rr} (h : Rc.At w b v r) (ho : Rc.Ok r) (he : r.err = 0) (hS : S r.s) (hn : r.s.length - r.at_ ≤ n) :
    Calls Try.prog 49 #[.pointer (some ⟨b, 0, none⟩)] w (Rc.RunR (Rc.row F (r.s.length + 1)) w b v r) := by
  have HD0 := Lib.hid (Rc.Did.refl h)
  have HN0 := Lib.hid (Rc.Nx.refl ho)
  have HS := Lib.hid hS
  have HNN := Lib.hid hn
  have HPC : Hid (∀ (w3 : World) (v3 : Value) (r3 : Rc.Rr), Rc.At w3 b v3 r3 → Rc.Ok r3 → r3.err = 0 → r3.s = r.s → r3.at_ < r3.s.length → r.at_ ≤ r3.at_ → Calls Try.prog 58 #[.pointer (some ⟨b, 0, none⟩)] w3 (Rc.RunP (Rc.piece F) w3 b v3 r3)) := Lib.hid fun w3 v3 r3 h3 o3 e3 s3 a3 m3 => rcPiece_any hSC hW h3 o3 e3 (by rw [s3]; exact hS) a3 (by rw [s3]; omega)
  have HE0 := Lib.hid he
  have hbl := h.lt
  have HAT0 := Lib.hid h
  clear h ho hSC hW hn hS he
  go_enter Try.func49, Try.ntmps49
  go_wp2_with fail
  go_loopw [] (fun wr => ∃ (r1 : Rc.Rr) (v1 : Value) (k : Nat), Hid (Rc.Did w b v r1 v1 wr) ∧ Hid (Rc.Nx r r1) ∧ Hid (r1.s.length - r1.at_ < k) ∧ Hid (Rc.Sm r.s → Rc.row F k r1 = Rc.row F (r.s.length + 1) r)) (fun wr => Rc.leftM b wr)
  case atStart => exact ⟨r, v, r.s.length + 1, HD0, HN0, Lib.hid (by omega), Lib.hid fun _ => rfl⟩
  case round =>
    obtain ⟨⟨s1, i1, d1, e1, g1, L1⟩, v1, k, HD, HN, HK, HR⟩ := hrel
    have hs1 : s1 = r.s := HN.out.s
    have k0 : wr.cell? ⟨b, 0, none⟩ = some (.string ⟨s1.toArray⟩) := HD.out.at_.c0
    have k1 : wr.cell? ⟨b, 1, none⟩ = some (.int .i64 (i1 : Int)) := HD.out.at_.c1
    have k3 : wr.cell? ⟨b, 3, none⟩ = some (.int .i64 e1) := HD.out.at_.c3
    have kb := HD.out.at_.lt
    have hlen : s1.length ≤ 4096 := HN.out.ok.len
    have HS1 := Lib.hid hs1
    clear hs1
    by_cases he1 : e1 = 0
    · subst he1
      have hi0 : (0 : Int) ≤ (i1 : Int) := by omega
      cases hx : s1[i1]? with
      | none =>
        have hlt : ¬ i1 < s1.length := by have := List.getElem?_eq_none_iff.1 hx; omega
        have hltI : ¬ (i1 : Int) < (s1.length : Int) := by omega
        have HX := Lib.hid hx
        clear hx
        go_wp2_with fail
        go_quiet (fail)
        have H2 := Lib.hid (HD.out.drewN nq)
        go_wp2_with fail
        ((try simp only [Exit.inBlock, Exit.then]); first | (refine bodyPost_ret (results_none rfl _ _ _) rfl ?_) | (refine bodyPost_end (results_none rfl _ _ _) rfl ?_))
        exact ⟨rfl, _, v1, H2.out, HN.out, fun hs => by rw [← HR.out hs]; exact (Rc.row_stop k rfl (.inl HX.out)).symm⟩
      | some c =>
        have hlt : i1 < s1.length := (List.getElem?_eq_some_iff.1 hx).1
        have hltI : (i1 : Int) < (s1.length : Int) := by omega
        obtain ⟨z0, g0⟩ := Rc.byte_at hx
        have HX := Lib.hid hx
        clear hx
        by_cases h124 : c = 124
        · subst h124
          go_wp2_with fail
          go_quiet (fail)
          have H2 := Lib.hid (HD.out.drewN nq)
          go_wp2_with fail
          ((try simp only [Exit.inBlock, Exit.then]); first | (refine bodyPost_ret (results_none rfl _ _ _) rfl ?_) | (refine bodyPost_end (results_none rfl _ _ _) rfl ?_))
          exact ⟨rfl, _, v1, H2.out, HN.out, fun hs => by rw [← HR.out hs]; exact (Rc.row_stop k rfl (.inr (.inl HX.out))).symm⟩
        by_cases h41 : c = 41
        · subst h41
          go_wp2_with fail
          go_quiet (fail)
          have H2 := Lib.hid (HD.out.drewN nq)
          go_wp2_with fail
          ((try simp only [Exit.inBlock, Exit.then]); first | (refine bodyPost_ret (results_none rfl _ _ _) rfl ?_) | (refine bodyPost_end (results_none rfl _ _ _) rfl ?_))
          exact ⟨rfl, _, v1, H2.out, HN.out, fun hs => by rw [← HR.out hs]; exact (Rc.row_stop k rfl (.inr (.inr HX.out))).symm⟩
        have n124 : ¬ (c.toNat : Int) = 124 := fun e => h124 (UInt8.toNat_inj.1 (by show c.toNat = 124; omega))
        have n41 : ¬ (c.toNat : Int) = 41 := fun e => h41 (UInt8.toNat_inj.1 (by show c.toNat = 41; omega))
        have n124b : ((c.toNat : Int) == 124) = false := by simpa using n124
        have n41b : ((c.toNat : Int) == 41) = false := by simpa using n41
        have n124c : ((c.toNat : Int) != 124) = true := by simpa using n124
        have n41c : ((c.toNat : Int) != 41) = true := by simpa using n41
        have HG : Hid (∀ k, Rc.row F (k + 1) ⟨s1, i1, d1, 0, g1, L1⟩ = Rc.row F k (Rc.piece F ⟨s1, i1, d1, 0, g1, L1⟩)) := Lib.hid fun k => Rc.row_go k rfl HX.out h124 h41
        have HLT := Lib.hid hlt
        clear h124 h41
        go_wp2_with fail
        go_quiet (fail)
        have H2 := Lib.hid (HD.out.drewN nq)
        have HML : Hid (Rc.leftM b wr = s1.length - i1 + 1) := Lib.hid (Rc.left_is HD.out.at_)
        generalize wr.drewN nq = w2 at *
        go_wp2_with fail
        go_at_call 58
        refine (HPC.out w2 v1 _ H2.out.at_ HN.out.ok rfl HS1.out HLT.out HN.out.at_).mono ?_
        rintro e w3 ⟨rfl, r3, v3, hd3, hn3, hp3, hq3⟩
        have H3 := Lib.hid (H2.out.trans hd3)
        have N3 := Lib.hid (HN.out.trans rfl hn3)
        have P3 := Lib.hid hp3
        have Q3 := Lib.hid hq3
        have HS3 : Hid (r3.s = s1) := Lib.hid hn3.s
        have HA3 : Hid (i1 ≤ r3.at_ ∧ r3.at_ ≤ r3.s.length) := Lib.hid ⟨hn3.at_, hn3.ok.at_⟩
        have HB3 := Lib.hid hd3.at_
        clear hd3 hn3 hp3 hq3
        go_wp2_with fail
        go_roundw
        case rel =>
          obtain ⟨k', rfl⟩ : ∃ k', k = k' + 1 := ⟨k - 1, by have q : s1.length - i1 < k := HK.out; omega⟩
          have q : s1.length - i1 < k' + 1 := HK.out
          have q2 := HLT.out
          by_cases he3 : r3.err = 0
          · have q3 : i1 < r3.at_ := P3.out he3
            refine ⟨r3, v3, k', H3, N3, Lib.hid ?_, Lib.hid fun hs => ?_⟩
            · rw [HS3.out]; omega
            · rw [← HR.out hs, HG.out k', ← Q3.out (by show Rc.Sm s1; rw [HS1.out]; exact hs)]
          · refine ⟨r3, v3, r3.s.length - r3.at_ + 1, H3, N3, Lib.hid (by omega), Lib.hid fun hs => ?_⟩
            rw [← HR.out hs, HG.out k', ← Q3.out (by show Rc.Sm s1; rw [HS1.out]; exact hs), Rc.row_end _ he3, Rc.row_end _ he3]
        case measure =>
          rw [Rc.left_is HB3.out, HML.out]
          unfold Rc.left
          have q2 := HLT.out
          by_cases he3 : r3.err = 0
          · have q3 : i1 < r3.at_ := P3.out he3
            have q4 := HS3.out
            rw [if_pos he3, q4]; omega
          · rw [if_neg he3]; omega
    · have he1b : (e1 == 0) = false := by simpa using he1
      go_wp2_with fail
      go_quiet (fail)
      have H2 := Lib.hid (HD.out.drewN nq)
      go_wp2_with fail
      ((try simp only [Exit.inBlock, Exit.then]); first | (refine bodyPost_ret (results_none rfl _ _ _) rfl ?_) | (refine bodyPost_end (results_none rfl _ _ _) rfl ?_))
      exact ⟨rfl, _, v1, H2.out, HN.out, fun hs => by rw [← HR.out hs]; exact (Rc.row_end k he1).symm⟩
end Go.Proofs.Ytelbabgkpflckaa

namespace Go.Proofs.Ytelbabgkpflckaa
open Go.RowKit Go.Sort
open Me
open Pk

namespace Rc
open Rx (In)
theorem icells_modify (l : List In) (j : Nat) (n : Int) : icells (l.modify j fun x => { x with x := n }) = (icells l).set (j * 4 + 1) (.int .i64 n) := by
  induction l generalizing j with
  | nil => simp [icells]
  | cons a l ih =>
    have e : icells (a :: l) = icell a ++ icells l := rfl
    cases j with
    | zero =>
      rw [e]
      rfl
    | succ j =>
      have e2 : icells ((a :: l).modify (j + 1) fun x => { x with x := n }) = icell a ++ icells (l.modify j fun x => { x with x := n }) := rfl
      have hla : (icell a).length = 4 := rfl
      rw [e2, ih, e, List.set_append, if_neg (by omega), show (j + 1) * 4 + 1 - (icell a).length = j * 4 + 1 by omega]
end Rc

set_option maxRecDepth 100000 in
set_option maxHeartbeats 16000000 in
theorem ways_step {S : List UInt8 → Prop} {n : Nat} {F : Rc.Rr → Rc.Rr} (hSC : Rc.SetC S) (hW : Rc.WaysC S n (Rc.ways n)) : Rc.WaysC S (n + 1) (Rc.ways (n + 1)) := fun w b v r h ho he hS hn => by
  have HRW := Lib.hid (rcRow_any hSC hW h ho he hS (by omega))
  have HWW := Lib.hid hW
  obtain ⟨A0, cp, rfl⟩ := h.form
  have c5 := h.c5
  obtain ⟨s, i, d, er, g, L⟩ := r
  replace he : er = 0 := he
  subst he
  obtain ⟨fr, hfr⟩ : ∃ fr, fr = L.length := ⟨_, rfl⟩
  replace c5 : w.cell? ⟨b, 5, none⟩ = some (.slice A0 fr cp) := by rw [hfr]; exact c5
  have HV : Hid (Value.slice A0 L.length cp = Value.slice A0 fr cp) := Lib.hid (by rw [hfr])
  have HAT2 : Hid (Calls Try.prog 49 #[.pointer (some ⟨b, 0, none⟩)] w (Rc.RunR (Rc.row (Rc.ways n) (s.length + 1)) w b (.slice A0 fr cp) ⟨s, i, d, 0, g, L⟩)) := Lib.hid (by rw [← HV.out]; exact HRW.out)
  suffices hgoal : Calls Try.prog 36 #[.pointer (some ⟨b, 0, none⟩)] w (Rc.RunR (Rc.ways (n + 1)) w b (.slice A0 fr cp) ⟨s, i, d, 0, g, L⟩) by
    show Calls _ _ _ w (Rc.RunR (Rc.ways (n + 1)) w b (.slice A0 L.length cp) _)
    rw [HV.out]; exact hgoal
  have hfb : fr ≤ 10000 := by have q1 := ho.L; have q1 : L.length ≤ 2 * i + 1 := q1; have q2 := ho.at_; have q2 : i ≤ s.length := q2; have q3 := ho.len; have q3 : s.length ≤ 4096 := q3; omega
  have HFR := Lib.hid hfr
  have HNI : Hid (s.length - i < n + 1) := Lib.hid hn
  have HS := Lib.hid hS
  clear h ho hSC hW hn hfr HRW HV hS
  go_enter Try.func36, Try.ntmps36
  go_wp2_with fail
  go_at_call 49
  refine HAT2.out.mono ?_
  rintro e w1 ⟨rfl, ⟨s1, i1, d1, e1, g1, L1⟩, v1, hd1, hn1, heq1⟩
  have hs1 : s1 = s := hn1.s
  subst hs1
  have H1 := Lib.hid hd1
  have N1 := Lib.hid hn1
  have Q1 := Lib.hid heq1
  have k1 : w1.cell? ⟨b, 1, none⟩ = some (.int .i64 (i1 : Int)) := hd1.at_.c1
  have k3 : w1.cell? ⟨b, 3, none⟩ = some (.int .i64 e1) := hd1.at_.c3
  have hlen : s1.length ≤ 4096 := hn1.ok.len
  have hi1 : i1 ≤ s1.length := hn1.ok.at_
  have hL1 : L1.length ≤ 2 * i1 + 1 := hn1.ok.L
  have hg1 : g1 ≤ i1 := hn1.ok.g
  have hdd1 : d1 ≤ i1 := hn1.ok.deep
  have hgr : fr ≤ L1.length := by have q := hn1.grow; have q : L.length ≤ L1.length := q; rw [HFR.out]; exact q
  have hpos : 0 < L1.length := hn1.ok.pos
  have hii : i ≤ i1 := hn1.at_
  clear hd1 hn1 heq1 c5
  by_cases he1 : e1 = 0
  · subst he1
    have HM := Lib.hid (more_any H1.out.at_ 124 124 rfl)
    cases hm : Rc.more ⟨s1, i1, d1, 0, g1, L1⟩ 124
    · rw [hm] at HM
      go_wp2_with (go_at_call 50; go_must (refine HM.out.mono ?_; rintro e w5 ⟨rfl, hb5⟩; have H5 := Lib.hid (H1.out.on hb5); clear hb5))
      ((try simp only [Exit.inBlock, Exit.then]); first | (refine bodyPost_ret (results_none rfl _ _ _) rfl ?_) | (refine bodyPost_end (results_none rfl _ _ _) rfl ?_))
      refine ⟨rfl, ⟨s1, i1, d1, 0, g1, L1⟩, v1, H5.out, N1.out, fun hs => ?_⟩
      show _ = Rc.ways (n + 1) ⟨s1, i, d, 0, g, L⟩
      unfold Rc.ways
      rw [← Q1.out hs]
      simp [hm]
    · rw [hm] at HM
      have hlt : i1 < s1.length := Rc.more_lt hm
      have HMO := Lib.hid hm
      obtain ⟨i2, hi2⟩ : ∃ i2 : Nat, i2 = i1 + 1 := ⟨_, rfl⟩
      obtain ⟨m, hmm⟩ : ∃ m : Nat, m = L1.length - fr := ⟨_, rfl⟩
      have hmb : m ≤ 10000 := by omega
      have hwi2 : IntKind.i64.wrap ((i1 : Int) + 1) = (i2 : Int) := by rw [IntKind.wrap_i64]; omega
      have HI2 := Lib.hid hi2
      have HMM := Lib.hid hmm
      have HBD : Hid (i1 < s1.length ∧ s1.length ≤ 4096 ∧ L1.length ≤ 2 * i1 + 1 ∧ g1 ≤ i1 ∧ d1 ≤ i1 ∧ fr ≤ L1.length ∧ 0 < L1.length ∧ i ≤ i1) := Lib.hid ⟨hlt, hlen, hL1, hg1, hdd1, hgr, hpos, hii⟩
      obtain ⟨X, hX⟩ : ∃ X, X = Rc.moved (L1.drop fr) (-(fr : Int)) := ⟨_, rfl⟩
      have HXL : Hid (X.length = m) := Lib.hid (by rw [hX, Rc.moved_len, List.length_drop, hmm])
      have HXP : Hid (∀ x ∈ X, x.p.length ≤ 512) := Lib.hid (by rw [hX]; exact Rc.moved_p fun x hx => N1.out.ok.p x (List.mem_of_mem_drop hx))
      have HCT : Hid (∀ v3 w3, Rc.Did w b (.slice A0 fr cp) ⟨s1, i2, d1, 0, g1, L1⟩ v3 w3 → Calls Try.prog 51 #[.pointer (some ⟨b, 0, none⟩), .int .i64 (fr : Int)] w3 fun e w' => ∃ v' A c, e = .returned (.slice A m c) ∧ Rc.Did w b (.slice A0 fr cp) ⟨s1, i2, d1, 0, g1, L1.take fr⟩ v' w' ∧ Rc.Side w' b v' A (icells X)) := Lib.hid fun v3 w3 hd => by
        rw [hX]
        exact cutD hd (by show L1.length ≤ _; omega) hpos hgr hmm.symm
      have HX := Lib.hid hX
      have HFL : Hid ((L1.take fr).length = fr) := Lib.hid (by rw [List.length_take]; omega)
      have HTP : Hid (∀ x ∈ L1.take fr, x.p.length ≤ 512) := Lib.hid fun x hx => N1.out.ok.p x (List.mem_of_mem_take hx)
      obtain ⟨L2, hL2⟩ : ∃ L2 : List Rx.In, L2 = (L1.take fr ++ [(⟨2, (fr : Int) + 1, (fr : Int) + 2 + (m : Int), []⟩ : Rx.In)]) ++ Rc.moved X (List.length (L1.take fr ++ [(⟨2, (fr : Int) + 1, (fr : Int) + 2 + (m : Int), []⟩ : Rx.In)])) := ⟨_, rfl⟩
      obtain ⟨j, hj⟩ : ∃ j, j = L2.length := ⟨_, rfl⟩
      have hjl : j = L1.length + 1 := by rw [hj, hL2]; simp only [List.length_append, Rc.moved_len, HFL.out, HXL.out, List.length_cons, List.length_nil]; omega
      have HJ := Lib.hid hj
      have HL2 := Lib.hid hL2
      have HJL := Lib.hid hjl
      have HP2 : Hid (∀ x ∈ L2 ++ [(⟨3, 0, 0, []⟩ : Rx.In)], x.p.length ≤ 512) := Lib.hid (by
        intro x hx
        rw [hL2] at hx
        simp only [List.mem_append, List.mem_singleton] at hx
        rcases hx with ((hx | rfl) | hx) | rfl
        · exact HTP.out x hx
        · exact Nat.zero_le _
        · exact Rc.moved_p HXP.out x hx
        · exact Nat.zero_le _)
      have HRC : Hid (∀ v3 w3, Rc.Did w b (.slice A0 fr cp) ⟨s1, i2, d1, 0, g1, L2 ++ [(⟨3, 0, 0, []⟩ : Rx.In)]⟩ v3 w3 → Calls Try.prog 36 #[.pointer (some ⟨b, 0, none⟩)] w3 fun e w' => e = .returned (.tuple #[]) ∧ ∃ r' v', Rc.Did w b (.slice A0 fr cp) r' v' w' ∧ Rc.Nx ⟨s1, i2, d1, 0, g1, L2 ++ [(⟨3, 0, 0, []⟩ : Rx.In)]⟩ r' ∧ (Rc.Sm s1 → r' = Rc.ways n ⟨s1, i2, d1, 0, g1, L2 ++ [(⟨3, 0, 0, []⟩ : Rx.In)]⟩)) := Lib.hid fun v3 w3 hd => by
        refine (HWW.out w3 b v3 _ hd.at_ ⟨?_, hlen, ?_, ?_, ?_, HP2.out, ?_⟩ rfl HS.out ?_).mono ?_
        · show i2 ≤ s1.length; omega
        · show List.length (L2 ++ [_]) ≤ 2 * i2 + 1; rw [List.length_append, ← hj]; show j + 1 ≤ _; omega
        · show g1 ≤ i2; omega
        · show d1 ≤ i2; omega
        · show 0 < List.length (L2 ++ [_]); rw [List.length_append]; show 0 < L2.length + 1; omega
        · show s1.length - i2 < n; have := HNI.out; omega
        · rintro e w' ⟨he, r', v', q1, q2, q3⟩
          exact ⟨he, r', v', hd.trans q1, q2, q3⟩
      clear hm hi2 hmm hX hlt hL1 hg1 hdd1 hgr hpos hi1 hii hL2 hj hjl
      go_wp2_with first
        | (go_at_call 50; go_must (refine HM.out.mono ?_; rintro e w5 ⟨rfl, hb5⟩; have H5 := Lib.hid (H1.out.on hb5); have k51 : w5.cell? ⟨b, 1, none⟩ = some (.int .i64 (i1 : Int)) := H5.out.at_.c1; have kf51 := H5.out.at_.fz 1; have H6 : Hid (Rc.Did w b (.slice A0 fr cp) ⟨s1, i2, d1, 0, g1, L1⟩ v1 (w5.setCell ⟨b, 1, none⟩ (.int .i64 (i2 : Int)))) := Lib.hid (H5.out.set1 i2); clear hb5))
        | (go_at_call 51; go_must (refine (HCT.out _ _ H6.out).mono ?_; rintro e w7 ⟨v7, A7, c7, rfl, hd7, hs7⟩; have H7 := Lib.hid hd7; have S7 := Lib.hid hs7; clear hd7 hs7))
        | (go_at_call 35; ((with_reducible refine (layD H7.out (by show List.length (L1.take fr) ≤ _; rw [HFL.out]; omega) 2 ((fr : Int) + 1) ((fr : Int) + 2 + (m : Int))).mono ?_); rintro e w9 ⟨rfl, v9, hq9, hd9⟩; have H9 := Lib.hid hd9; have S9 := Lib.hid (hq9.side S7.out); clear hd9 hq9))
        | (go_at_call 52; go_must (refine (putD H9.out S9.out HXL.out (by show List.length (L1.take fr ++ [_]) + X.length ≤ _; rw [List.length_append, HFL.out, HXL.out]; show fr + 1 + m ≤ _; omega)).mono ?_; rintro e w10 ⟨rfl, v10, _, hd10⟩; have H10 : Hid (Rc.Did w b (.slice A0 fr cp) ⟨s1, i2, d1, 0, g1, L2⟩ v10 w10) := Lib.hid (by rw [HL2.out]; exact hd10); clear hd10))
        | (go_at_call 35; go_must (refine (layD H10.out (by show L2.length ≤ _; rw [← HJ.out, HJL.out]; have := HBD.out; omega) 3 0 0).mono ?_; rintro e w11 ⟨rfl, v11, _, hd11⟩; have H11 : Hid (Rc.Did w b (.slice A0 fr cp) ⟨s1, i2, d1, 0, g1, L2 ++ [(⟨3, 0, 0, []⟩ : Rx.In)]⟩ v11 w11) := Lib.hid hd11; clear hd11))
      go_at_call 36
      refine (HRC.out _ _ H11.out).mono ?_
      rintro e w12 ⟨rfl, ⟨s5, i5, d5, e5, g5, L5⟩, v5, hd5, hn5, heq5⟩
      have hs5 : s5 = s1 := hn5.s
      subst hs5
      have hjl : L2.length < L5.length := by have q := hn5.grow; have q : List.length (L2 ++ [_]) ≤ L5.length := q; rw [List.length_append] at q; exact q
      have H12 := Lib.hid hd5
      have N12 := Lib.hid hn5
      have Q12 := Lib.hid heq5
      obtain ⟨jj, hjj⟩ : ∃ jj, jj = L2.length := ⟨_, rfl⟩
      rw [← hjj] at hjl ⊢
      have HJJ := Lib.hid hjj
      obtain ⟨gg, cc, rfl, hgg1, hgg2⟩ := own_some hd5.at_.own (by show 0 < L5.length; omega)
      obtain ⟨nn, hnn⟩ : ∃ nn, nn = L5.length := ⟨_, rfl⟩
      have k12 : w12.cell? ⟨b, 5, none⟩ = some (.slice (some ⟨gg, 0, none⟩) nn cc) := by rw [hnn]; exact hd5.at_.c5
      obtain ⟨ox, hox⟩ : ∃ ox, (L5[jj]'hjl).x = ox := ⟨_, rfl⟩
      have kx : w12.cell? ⟨gg, jj * 4 + 1, none⟩ = some (.int .i64 ox) := by
        rw [← hox]
        have ho := hd5.at_.own
        have ho : w12.ownsRow (b + 1) 57 4 (.slice (some ⟨gg, 0, none⟩) L5.length cc) L5.length (icells L5) := ho
        rw [World.ownsRow.cellAt ho (jj * 4 + 1) (by omega)]
        have := flat_at icell 4 (fun _ => rfl) L5 jj 1 hjl (by omega)
        exact this
      have kfx : w12.frozen? ⟨gg, jj * 4 + 1, none⟩ = false := World.ownsRow.frozenAt (show w12.ownsRow (b + 1) 57 4 (.slice (some ⟨gg, 0, none⟩) L5.length cc) L5.length (icells L5) from hd5.at_.own) _
      have HFIN : Hid (Rc.Did w b (.slice A0 fr cp) ⟨s5, i5, d5, e5, g5, L5.modify jj fun x => { x with x := (nn : Int) }⟩ (.slice (some ⟨gg, 0, none⟩) nn cc) (w12.setCell ⟨gg, jj * 4 + 1, none⟩ (.int .i64 (nn : Int)))) := Lib.hid (by
        rw [hnn]
        refine ⟨⟨hd5.at_.row.far (by show b ≠ gg; omega) _, ?_⟩, hd5.kp.trans (O' := fun i => i = gg) ⟨rfl, rfl, rfl, by simp [World.setCell], fun i hi hne => Below.heap_setCell _ _ _ i hne⟩ ?_, hd5.new⟩
        · show World.ownsRow _ (b + 1) 57 4 _ (List.length (L5.modify jj _)) (icells (L5.modify jj _))
          rw [Rc.modify_len, Rc.icells_modify]
          exact (World.ownsRow.stored hd5.at_.own (jj * 4 + 1) (.int .i64 (L5.length : Int))).1
        · intro i hi e
          refine (hd5.new i (by rw [e]; rfl)).elim (fun q => .inr q) fun q => ?_
          omega)
      have hjn : jj < nn := by omega
      have hjI : (jj : Int) < (nn : Int) := by omega
      have hj0 : (0 : Int) ≤ (jj : Int) := by omega
      have HNN := Lib.hid hnn
      have HJL2 := Lib.hid hjl
      have hggb : ¬ gg = b := by omega
      have hbgg : ¬ b = gg := by omega
      have hb12 := hd5.at_.lt
      clear hd5 hn5 heq5 hnn hjj hox hjl
      go_wp2_with fail
      go_region
      all_goals
        try go_wp2_with fail
        ((try simp only [Exit.inBlock, Exit.then]); first | (refine bodyPost_ret (results_none rfl _ _ _) rfl ?_) | (refine bodyPost_end (results_none rfl _ _ _) rfl ?_))
        refine ⟨rfl, ⟨s5, i5, d5, e5, g5, L5.modify jj fun x => { x with x := (nn : Int) }⟩, .slice (some ⟨gg, 0, none⟩) nn cc, ⟨⟨HFIN.out.at_.row, HFIN.out.at_.own⟩, HFIN.out.kp.drew, HFIN.out.new⟩, ⟨rfl, ⟨N12.out.ok.at_, hlen, ?_, N12.out.ok.g, N12.out.ok.deep, ?_, ?_⟩, ?_, fun e => (N12.out.deep e).trans (N1.out.deep rfl), ?_⟩, fun hs => ?_⟩
        · show List.length (L5.modify jj _) ≤ _; rw [Rc.modify_len]; exact N12.out.ok.L
        · exact Rc.modify_p N12.out.ok.p
        · show 0 < List.length (L5.modify jj _); rw [Rc.modify_len]; exact N12.out.ok.pos
        · show i ≤ i5; have q1 := N12.out.at_; have q1 : i2 ≤ i5 := q1; have q2 := HI2.out; have q3 := HBD.out; omega
        · show L.length ≤ List.length (L5.modify jj _); rw [Rc.modify_len]; have q1 := HFR.out; have q2 := HJL2.out; have q3 := HJJ.out; have q4 := HJ.out; have q5 := HJL.out; have q6 := HBD.out; omega
        · show _ = Rc.ways (n + 1) ⟨s5, i, d, 0, g, L⟩
          have q1 := Q12.out hs
          have q2 := HI2.out
          have q3 := HX.out
          have q4 := HXL.out
          have q5 := HL2.out
          have q6 := HFR.out
          have q7 := HMO.out
          have q8 := HNN.out
          have q9 := HJJ.out
          unfold Rc.ways
          rw [← Q1.out hs]
          have e5 : (Rc.moved (L1.drop fr) (-(fr : Int))).length = m := by rw [← q3, q4]
          simp only [q7, Rc.step, Rc.lay, Rc.put]
          simp only [← q6, ← q2, ← q3, q4, ← q5, ← q1, ← q9, q8]
          rw [if_neg (by simp)]
  · have he1b : (e1 == 0) = false := by simpa using he1
    have he1c : (e1 != 0) = true := by simpa using he1
    go_wp2_with fail
    ((try simp only [Exit.inBlock, Exit.then]); first | (refine bodyPost_ret (results_none rfl _ _ _) rfl ?_) | (refine bodyPost_end (results_none rfl _ _ _) rfl ?_))
    refine ⟨rfl, ⟨s1, i1, d1, e1, g1, L1⟩, v1, H1.out, N1.out, fun hs => ?_⟩
    show _ = Rc.ways (n + 1) ⟨s1, i, d, 0, g, L⟩
    unfold Rc.ways
    rw [← Q1.out hs]
    simp [he1]
theorem ways_any {S : List UInt8 → Prop} (hSC : Rc.SetC S) : ∀ n, Rc.WaysC S n (Rc.ways n)
  | 0 => fun _ _ _ _ _ _ _ _ hn => absurd hn (Nat.not_lt_zero _)
  | n + 1 => ways_step (F := id) hSC (ways_any hSC n)
end Go.Proofs.Ytelbabgkpflckaa
