/-
  CONTRACTS: chapter 12, the document's Compile: row, ways.
-/
import Derived.Test.YtedppnejkjcplaaRcPie
namespace Go.Proofs.Ytedppnejkjcplaa
open Go.RowKit Go.Sort
open Me
open Pk

namespace Rc
def left (r : Rr) : Nat := if r.err = 0 then r.s.length - r.at_ + 1 else 0
def leftM (b : Nat) (w : World) : Nat := match w.cell? ⟨b, 0, none⟩, w.cell? ⟨b, 1, none⟩, w.cell? ⟨b, 3, none⟩ with
  | some (.string s), some (.int _ i), some (.int _ e) => if e = 0 then s.size - i.toNat + 1 else 0
  | _, _, _ => 0
theorem left_is {W : World} {b : Nat} {v : Value} {r : Rr} (h : At W b v r) : leftM b W = left r := by
  unfold leftM left
  rw [h.c0, h.c1, h.c3]
  show (if r.err = 0 then r.s.toArray.size - (r.at_ : Int).toNat + 1 else 0) = _
  simp
/-- What is read in a row, by steps. -/
theorem row_end {W : Rr → Rr} {r : Rr} (n : Nat) (h : r.err ≠ 0) : row W n r = r := by
  cases n with
  | zero => rfl
  | succ n => unfold row; rw [if_pos h]
theorem row_stop {W : Rr → Rr} {r : Rr} (n : Nat) (h : r.err = 0) (hc : r.s[r.at_]? = none ∨ r.s[r.at_]? = some 124 ∨ r.s[r.at_]? = some 41) : row W n r = r := by
  cases n with
  | zero => rfl
  | succ n =>
    unfold row
    rw [if_neg (by simpa using h)]
    rcases hc with hc | hc | hc <;> rw [hc] <;> simp
theorem row_go {W : Rr → Rr} {r : Rr} {c : UInt8} (n : Nat) (h : r.err = 0) (hc : r.s[r.at_]? = some c) (h1 : c ≠ 124) (h2 : c ≠ 41) : row W (n + 1) r = row W n (piece W r) := by
  show (if r.err ≠ 0 then r else _) = _
  rw [if_neg (by simpa using h), hc]
  simp [h1, h2]
end Rc

set_option maxRecDepth 100000 in
set_option maxHeartbeats 16000000 in
theorem rcRow_any {S : List UInt8 → Prop} {n : Nat} {F : Rc.Rr → Rc.Rr} (hSC : Rc.SetC S) (hW : Rc.WaysC S n F) {w : World} {b : Nat} {v : Value} {r : Rc.Rr} (h : Rc.At w b v r) (ho : Rc.Ok r) (he : r.err = 0) (hS : S r.s) (hn : r.s.length - r.at_ ≤ n) :
    Calls Try.prog 55 #[.pointer (some ⟨b, 0, none⟩)] w (Rc.RunR (Rc.row F (r.s.length + 1)) w b v r) := by
  have HD0 := Lib.hid (Rc.Did.refl h)
  have HN0 := Lib.hid (Rc.Nx.refl ho)
  have HS := Lib.hid hS
  have HNN := Lib.hid hn
  have HPC : Hid (∀ (w3 : World) (v3 : Value) (r3 : Rc.Rr), Rc.At w3 b v3 r3 → Rc.Ok r3 → r3.err = 0 → r3.s = r.s → r3.at_ < r3.s.length → r.at_ ≤ r3.at_ → Calls Try.prog 63 #[.pointer (some ⟨b, 0, none⟩)] w3 (Rc.RunP (Rc.piece F) w3 b v3 r3)) := Lib.hid fun w3 v3 r3 h3 o3 e3 s3 a3 m3 => rcPiece_any hSC hW h3 o3 e3 (by rw [s3]; exact hS) a3 (by rw [s3]; omega)
  have HE0 := Lib.hid he
  have hbl := h.lt
  have HAT0 := Lib.hid h
  clear h ho hSC hW hn hS he
  go_enter Try.func55, Try.ntmps55
  go_wp2_with fail
  go_loopw [] (fun wr => ∃ (r1 : Rc.Rr) (v1 : Value) (k : Nat), Hid (Rc.Did w b v r1 v1 wr) ∧ Hid (Rc.Nx r r1) ∧ Hid (r1.s.length - r1.at_ < k) ∧ Hid (Rc.Sm r.s → Rc.row F k r1 = Rc.row F (r.s.length + 1) r)) (fun wr => Rc.leftM b wr)
  case atStart => exact ⟨r, v, r.s.length + 1, HD0, HN0, Lib.hid (by omega), Lib.hid fun _ => rfl⟩
  case round =>
    obtain ⟨⟨s1, i1, d1, e1, g1, L1⟩, v1, k, HD, HN, HK, HR⟩ := hrel
    have hs1 : s1 = r.s := HN.out.s
    have k0 : wr.cell? ⟨b, 0, none⟩ = some (.string ⟨s1.toArray⟩) := HD.out.at_.c0
    have k1 : wr.cell? ⟨b, 1, none⟩ = some (.int .i64 (i1 : Int)) := HD.out.at_.c1
    have k3 : wr.cell? ⟨b, 3, none⟩ = some (.int .i64 e1) := HD.out.at_.c3
    have kb := HD.out.at_.lt
    have hlen : s1.length ≤ 4096 := HN.out.ok.len
    have HS1 := Lib.hid hs1
    clear hs1
    by_cases he1 : e1 = 0
    · subst he1
      have hi0 : (0 : Int) ≤ (i1 : Int) := by omega
      cases hx : s1[i1]? with
      | none =>
        have hlt : ¬ i1 < s1.length := by have := List.getElem?_eq_none_iff.1 hx; omega
        have hltI : ¬ (i1 : Int) < (s1.length : Int) := by omega
        have HX := Lib.hid hx
        clear hx
        go_wp2_with fail
        go_quiet (fail)
        have H2 := Lib.hid (HD.out.drewN nq)
        go_wp2_with fail
        ((try simp only [Exit.inBlock, Exit.then]); first | (refine bodyPost_ret (results_none rfl _ _ _) rfl ?_) | (refine bodyPost_end (results_none rfl _ _ _) rfl ?_))
        exact ⟨rfl, _, v1, H2.out, HN.out, fun hs => by rw [← HR.out hs]; exact (Rc.row_stop k rfl (.inl HX.out)).symm⟩
      | some c =>
        have hlt : i1 < s1.length := (List.getElem?_eq_some_iff.1 hx).1
        have hltI : (i1 : Int) < (s1.length : Int) := by omega
        obtain ⟨z0, g0⟩ := Rc.byte_at hx
        have HX := Lib.hid hx
        clear hx
        by_cases h124 : c = 124
        · subst h124
          go_wp2_with fail
          go_quiet (fail)
          have H2 := Lib.hid (HD.out.drewN nq)
          go_wp2_with fail
          ((try simp only [Exit.inBlock, Exit.then]); first | (refine bodyPost_ret (results_none rfl _ _ _) rfl ?_) | (refine bodyPost_end (results_none rfl _ _ _) rfl ?_))
          exact ⟨rfl, _, v1, H2.out, HN.out, fun hs => by rw [← HR.out hs]; exact (Rc.row_stop k rfl (.inr (.inl HX.out))).symm⟩
        by_cases h41 : c = 41
        · subst h41
          go_wp2_with fail
          go_quiet (fail)
          have H2 := Lib.hid (HD.out.drewN nq)
          go_wp2_with fail
          ((try simp only [Exit.inBlock, Exit.then]); first | (refine bodyPost_ret (results_none rfl _ _ _) rfl ?_) | (refine bodyPost_end (results_none rfl _ _ _) rfl ?_))
          exact ⟨rfl, _, v1, H2.out, HN.out, fun hs => by rw [← HR.out hs]; exact (Rc.row_stop k rfl (.inr (.inr HX.out))).symm⟩
        have n124 : ¬ (c.toNat : Int) = 124 := fun e => h124 (UInt8.toNat_inj.1 (by show c.toNat = 124; omega))
        have n41 : ¬ (c.toNat : Int) = 41 := fun e => h41 (UInt8.toNat_inj.1 (by show c.toNat = 41; omega))
        have n124b : ((c.toNat : Int) == 124) = false := by simpa using n124
        have n41b : ((c.toNat : Int) == 41) = false := by simpa using n41
        have n124c : ((c.toNat : Int) != 124) = true := by simpa using n124
        have n41c : ((c.toNat : Int) != 41) = true := by simpa using n41
        have HG : Hid (∀ k, Rc.row F (k + 1) ⟨s1, i1, d1, 0, g1, L1⟩ = Rc.row F k (Rc.piece F ⟨s1, i1, d1, 0, g1, L1⟩)) := Lib.hid fun k => Rc.row_go k rfl HX.out h124 h41
        have HLT := Lib.hid hlt
        clear h124 h41
        go_wp2_with fail
        go_quiet (fail)
        have H2 := Lib.hid (HD.out.drewN nq)
        have HML : Hid (Rc.leftM b wr = s1.length - i1 + 1) := Lib.hid (Rc.left_is HD.out.at_)
        generalize wr.drewN nq = w2 at *
        go_wp2_with fail
        go_at_call 63
        refine (HPC.out w2 v1 _ H2.out.at_ HN.out.ok rfl HS1.out HLT.out HN.out.at_).mono ?_
        rintro e w3 ⟨rfl, r3, v3, hd3, hn3, hp3, hq3⟩
        have H3 := Lib.hid (H2.out.trans hd3)
        have N3 := Lib.hid (HN.out.trans rfl hn3)
        have P3 := Lib.hid hp3
        have Q3 := Lib.hid hq3
        have HS3 : Hid (r3.s = s1) := Lib.hid hn3.s
        have HA3 : Hid (i1 ≤ r3.at_ ∧ r3.at_ ≤ r3.s.length) := Lib.hid ⟨hn3.at_, hn3.ok.at_⟩
        have HB3 := Lib.hid hd3.at_
        clear hd3 hn3 hp3 hq3
        go_wp2_with fail
        go_roundw
        case rel =>
          obtain ⟨k', rfl⟩ : ∃ k', k = k' + 1 := ⟨k - 1, by have q : s1.length - i1 < k := HK.out; omega⟩
          have q : s1.length - i1 < k' + 1 := HK.out
          have q2 := HLT.out
          by_cases he3 : r3.err = 0
          · have q3 : i1 < r3.at_ := P3.out he3
            refine ⟨r3, v3, k', H3, N3, Lib.hid ?_, Lib.hid fun hs => ?_⟩
            · rw [HS3.out]; omega
            · rw [← HR.out hs, HG.out k', ← Q3.out (by show Rc.Sm s1; rw [HS1.out]; exact hs)]
          · refine ⟨r3, v3, r3.s.length - r3.at_ + 1, H3, N3, Lib.hid (by omega), Lib.hid fun hs => ?_⟩
            rw [← HR.out hs, HG.out k', ← Q3.out (by show Rc.Sm s1; rw [HS1.out]; exact hs), Rc.row_end _ he3, Rc.row_end _ he3]
        case measure =>
          rw [Rc.left_is HB3.out, HML.out]
          unfold Rc.left
          have q2 := HLT.out
          by_cases he3 : r3.err = 0
          · have q3 : i1 < r3.at_ := P3.out he3
            have q4 := HS3.out
            rw [if_pos he3, q4]; omega
          · rw [if_neg he3]; omega
    · have he1b : (e1 == 0) = false := by simpa using he1
      go_wp2_with fail
      go_quiet (fail)
      have H2 := Lib.hid (HD.out.drewN nq)
      go_wp2_with fail
      ((try simp only [Exit.inBlock, Exit.then]); first | (refine bodyPost_ret (results_none rfl _ _ _) rfl ?_) | (refine bodyPost_end (results_none rfl _ _ _) rfl ?_))
      exact ⟨rfl, _, v1, H2.out, HN.out, fun hs => by rw [← HR.out hs]; exact (Rc.row_end k he1).symm⟩
end Go.Proofs.Ytedppnejkjcplaa
