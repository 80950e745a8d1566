/-
  WhEnc: CONTRACT: whead's Encode.
  WhPre: CONTRACTS: bytes.Equal and bytes.HasPrefix over slices that read as lists.
  WhNum: CONTRACTS: four bytes as a number: the program's number, the document's FromFour.
  WhRead: CONTRACT: whead's read: a header's own numbers out of its bytes.
  WhReadY: CONTRACT: whead's read of bytes that hold a header's numbers.
  WhDec: CONTRACT: whead's Decode.
  SlPl: CONTRACTS: chapter 5's Align and Place, on both sides; the law's known.
-/
import Derived.Test.YtbakngbmfgnmcaaDoorJ3
import Derived.Deep.RegionHeld3
import Derived.Laws.MakeOwn
import Derived.Laws.IdiomStrings
import Derived.Lib.BufferRead
import Derived.Laws.BitsLemmas
import Derived.Deep.DeepCutAuto
import Derived.Test.YtbakngbmfgnmcaaDoorJ2
import Derived.Test.YtbakngbmfgnmcaaDoorRows
import Derived.WalkKit
import Derived.WalkSpells
import Derived.WalkLawsBesides
import Derived.Deep.QuietTactic
import Derived.BigQuiet
import Derived.Lib.QuietBelow
import Derived.Lib.Hide
import Derived.IntWalk

namespace Go.Proofs.YtbakngbmfgnmcaaDoor
open Go.RowKit Go.Sort
open Wh (At)
open Me

namespace Wh
def ints (ag xf : Int) (l : List (Int × Int)) : Nat → List Int
  | 0 => [ag, lsp l, xf, (l.length : Int)]
  | k + 1 => ints ag xf l k ++ [ends l k, (At l k).1, (At l k).2]
def enc (ag xf : Int) (l : List (Int × Int)) : List UInt8 := if val ag xf l = true then fours (ints ag xf l l.length) else []
theorem fours_append (a b : List Int) : fours (a ++ b) = fours a ++ fours b := by unfold fours; simp
theorem ints_len (ag xf : Int) (l : List (Int × Int)) (k : Nat) : (ints ag xf l k).length = 4 + 3 * k := by
  induction k with
  | zero => rfl
  | succ k ih => unfold ints; rw [List.length_append, ih]; simp; omega
end Wh

/-- What Encode hands back: new bytes, and a number. -/
def Coded (w : World) (B : List UInt8) (k : Int) (e : Ending) (w' : World) : Prop := ∃ v, e = .returned (.tuple #[v, .int .i64 k]) ∧ OwnB w.heap.size w' v B ∧ Below w.heap.size w w'
theorem ints_rd (w : World) (ns : List Int) (t : TypeId) (n : Nat) (hn : n = w.heap.size) : Rd (w.alloc (.cells (ns.map fun n => (.int .i64 n : Value)).toArray t)) (fun b => b = n) (some ⟨n, 0, none⟩) (ns.map fun n => .int .i64 n) := Rd.fresh w _ t n hn

set_option maxHeartbeats 2000000 in
theorem encode_any (ag xf : Int) (l : List (Int × Int)) (A : Option Addr) (cap : Nat) (w : World) (h : Row w A l cap) :
    Calls Tryd.prog 9 #[.agg #[.int .i64 ag, .int .i64 xf, .slice A l.length cap]] w (Coded w (Wh.enc ag xf l) (if Wh.val ag xf l = true then 0 else 1)) := by
  have HV : Hid (∀ W, Below w.heap.size w W → Calls Tryd.prog 22 #[.agg #[.int .i64 ag, .int .i64 xf, .slice A l.length cap]] W fun e w' => e = .returned (.bool (Wh.val ag xf l)) ∧ Below W.heap.size W w') := Lib.hid fun W hb => isValid_any ag xf l A cap W (h.below hb)
  cases hv : Wh.val ag xf l
  · have HQ : Hid (Wh.enc ag xf l = []) := Lib.hid (by unfold Wh.enc; rw [hv]; rfl)
    rw [hv] at HV
    clear hv h
    go_enter Tryd.func9, Tryd.ntmps9
    go_wp2_with (go_at_call 22; go_must (refine (HV.out _ ((Below.refl _ _).alloc (Nat.le_refl _) _)).mono ?_; rintro e w' ⟨rfl, hb⟩; obtain ⟨hc, hf⟩ := bcell hb; (try have hz0 : w.heap.size < w'.heap.size := Nat.lt_of_lt_of_le (by first | assumption | (simp; done) | (simp; omega)) hb.size); (try have hz1 : w.heap.size + 1 < w'.heap.size := Nat.lt_of_lt_of_le (by first | assumption | (simp; done) | (simp; omega)) hb.size); (try have hz2 : w.heap.size + 1 + 1 < w'.heap.size := Nat.lt_of_lt_of_le (by first | assumption | (simp; done) | (simp; omega)) hb.size); have hz := hb.size; (try simp at hz)))
    ((try simp only [Exit.inBlock, Exit.then]); refine bodyPost_ret (results_tmp2 rfl _ _ _) rfl ?_)
    exact ⟨_, rfl, by rw [HQ.out]; exact OwnB.nil _ _, (by repeat (first | exact Below.refl _ _ | assumption | refine Below.setCell ?_ (by first | (simp; done) | omega | (simp; omega) | (simp at *; omega)) _ | refine Below.alloc ?_ (by first | (simp; done) | omega | (simp; omega) | (simp at *; omega)) _ | refine Below.drew ?_ | (refine Below.trans ?_ (Below.mono (by assumption) (by first | (simp; done) | omega | (simp; omega) | (simp at *; omega)))) | (refine Below.trans ?_ (Below.mono (below_regrown _ _ _) (by first | (simp; done) | omega | (simp; omega) | (simp at *; omega))))))⟩
  · have HQ : Hid (Wh.enc ag xf l = Wh.fours (Wh.ints ag xf l l.length)) := Lib.hid (by unfold Wh.enc; rw [hv]; rfl)
    rw [hv] at HV
    obtain ⟨b, off, rfl, hA, hcap, a1, a2, a3, a4, a5, a6⟩ := row_val h hv
    obtain ⟨⟨g1, g2⟩, x1, x2, _⟩ := Wh.val_t hv
    have HA := Lib.hid hA
    have HH := Lib.hid (headBytes_any (l.length : Int) (by omega) (by omega))
    have HL : Hid (∀ W, Below w.heap.size w W → Calls Tryd.prog 25 #[.slice (some ⟨b, off, none⟩) l.length cap] W fun e w' => e = .returned (.int .i64 (Wh.lsp l)) ∧ Below W.heap.size W w') :=
      Lib.hid fun W hb => lastSpan_any l b off cap W (hA.below hb) a1 a2 (IntWalk.i64_in _ (by omega))
    obtain ⟨j0, hj0, hy0, hy1, hy2⟩ := info_parts u8info
    obtain ⟨C, CS, hmk, hcs, hC⟩ : ∃ (C : Nat) (CS : Array Value), (∀ W : World, (Instr.makeSlice 52 (.int .i64 0) (.int .i64 (16 + (l.length : Int) * 12))).run Tryd.prog W = .ok (.slice (some ⟨W.heap.size, 0, none⟩) 0 C) (W.alloc (.cells CS 5))) ∧ CS.size = C * 1 ∧ C ≤ 1000 := by
      refine ⟨(16 + (l.length : Int) * 12).toNat, madeCells #[.int .u8 0] ((16 + (l.length : Int) * 12).toNat * 1), fun W => ?_, size_madeCells _ _, by omega⟩
      have h := run_make (P := Tryd.prog) W 52 5 j0 (.int .u8 0) Tryd.underlying52 hj0 hy0 .i64 .i64 0 (16 + (l.length : Int) * 12) (by omega) (by omega) (by rw [hy2]; omega) (by omega)
      rw [hy1] at h
      exact h
    clear hv h hA hj0 hy0 hy1 hy2
    go_enter Tryd.func9, Tryd.ntmps9
    go_wp2_with first | (go_at_call 22; (((with_reducible refine (HV.out _ ((Below.refl _ _).alloc (Nat.le_refl _) _)).mono ?_)); rintro e w1 ⟨rfl, hb1⟩; obtain ⟨hc1, hf1⟩ := bcell hb1; (try have hq1w : w.heap.size < w1.heap.size := Nat.lt_of_lt_of_le (by first | assumption | (simp; done) | (simp; omega)) hb1.size); have hs1 := hb1.size; (try simp at hs1))) | (go_at_call 23; go_must (refine (HH.out _).mono ?_; rintro e w' ⟨rfl, rfl⟩))
    have hXB : Below (w.heap.size + 1) (w.alloc (.cells #[.int .i64 ag, .int .i64 xf, .slice (some ⟨b, off, none⟩) l.length cap] 27)) (w1.alloc (.cells CS 5)) := (hb1.mono (by simp)).alloc (by have := hb1.size; simp at this; omega) _
    have hvb : w.heap.size + 1 ≤ w1.heap.size := by have := hb1.size; simp at this; omega
    have hO0 : OwnB (w.heap.size + 1) (w1.alloc (.cells CS 5)) (.slice (some ⟨w1.heap.size, 0, none⟩) 0 C) [] := World.ownsRow_made w1 CS C hvb (by unfold maxLen; omega) hcs
    have hvx : w1.heap.size < (w1.alloc (.cells CS 5)).heap.size := by simp
    clear hb1 hc1 hf1 hq1w hs1
    generalize w1.heap.size = vb at *
    generalize w1.alloc (.cells CS 5) = X at *
    clear hcs hmk
    have hls : Wh.lsp l ≤ 4294967295 := by omega
    have hx0 : w.heap.size < X.heap.size := by omega
    obtain ⟨d0, d1, d2⟩ : X.cell? ⟨w.heap.size, 0, none⟩ = some (.int .i64 ag) ∧ X.cell? ⟨w.heap.size, 1, none⟩ = some (.int .i64 xf) ∧ X.cell? ⟨w.heap.size, 2, none⟩ = some (.slice (some ⟨b, off, none⟩) l.length cap) :=
      ⟨(hXB.cell (p := ⟨w.heap.size, 0, none⟩) (Nat.lt_succ_self _)).trans (by simp [go_sem]), (hXB.cell (p := ⟨w.heap.size, 1, none⟩) (Nat.lt_succ_self _)).trans (by simp [go_sem]), (hXB.cell (p := ⟨w.heap.size, 2, none⟩) (Nat.lt_succ_self _)).trans (by simp [go_sem])⟩
    have HC : Hid (∀ W, Below X.heap.size X W → W.cell? ⟨w.heap.size, 0, none⟩ = some (.int .i64 ag) ∧ W.cell? ⟨w.heap.size, 1, none⟩ = some (.int .i64 xf) ∧ W.cell? ⟨w.heap.size, 2, none⟩ = some (.slice (some ⟨b, off, none⟩) l.length cap)) := Lib.hid fun W hb =>
      ⟨(hb.cell (p := ⟨w.heap.size, 0, none⟩) hx0).trans d0, (hb.cell (p := ⟨w.heap.size, 1, none⟩) hx0).trans d1, (hb.cell (p := ⟨w.heap.size, 2, none⟩) hx0).trans d2⟩
    have HP : Hid (∀ W, Below X.heap.size X W → Calls Tryd.prog 24 #[.slice (some ⟨vb, 0, none⟩) 0 C, .slice (some ⟨W.heap.size, 0, none⟩) 4 4] (W.alloc (.cells #[.int .i64 ag, .int .i64 (Wh.lsp l), .int .i64 xf, .int .i64 (l.length : Int)] 3)) (Laid (w.heap.size + 1) (W.alloc (.cells #[.int .i64 ag, .int .i64 (Wh.lsp l), .int .i64 xf, .int .i64 (l.length : Int)] 3)) (.slice (some ⟨vb, 0, none⟩) 0 C) (Wh.fours (Wh.ints ag xf l 0)))) := Lib.hid fun W hb => by
      have := wput_any (w.heap.size + 1) [] (.slice (some ⟨vb, 0, none⟩) 0 C) (Wh.ints ag xf l 0) (some ⟨W.heap.size, 0, none⟩) 4 (fun b => b = W.heap.size) (W.alloc (.cells #[.int .i64 ag, .int .i64 (Wh.lsp l), .int .i64 xf, .int .i64 (l.length : Int)] 3)) ((hO0.below hb).below ((Below.refl _ _).alloc (Nat.le_refl _) _)) (ints_rd W (Wh.ints ag xf l 0) _ _ rfl)
        (fun g hg e => by have h1 : vb = g := by simpa [Value.ownBlock] using hg
                          have := hb.size
                          have e' : g = W.heap.size := e
                          omega) (by
          intro n hn
          simp [Wh.ints] at hn
          rcases hn with rfl | rfl | rfl | rfl <;> omega) (by have := hb.size; simp; omega) (by simp) (by simp [Wh.ints])
      exact this
    have HK : Hid (∀ W1 W2, Below X.heap.size X W1 → Kp (fun b => (Value.slice (some ⟨vb, 0, none⟩) 0 C).ownBlock = some b) W1 W2 → Below (w.heap.size + 1) (w.alloc (.cells #[.int .i64 ag, .int .i64 xf, .slice (some ⟨b, off, none⟩) l.length cap] 27)) W2) := Lib.hid fun W1 W2 hb hk =>
      hXB.trans ((hb.mono (by omega)).trans (hk.below (by have := hb.size; omega) fun i hi e => by simp [Value.ownBlock] at e; omega))
    have HF : Hid (∀ W, Below (w.heap.size + 1) (w.alloc (.cells #[.int .i64 ag, .int .i64 xf, .slice (some ⟨b, off, none⟩) l.length cap] 27)) W → W.cell? ⟨w.heap.size, 0, none⟩ = some (.int .i64 ag) ∧ W.cell? ⟨w.heap.size, 1, none⟩ = some (.int .i64 xf) ∧ W.cell? ⟨w.heap.size, 2, none⟩ = some (.slice (some ⟨b, off, none⟩) l.length cap)) := Lib.hid fun W hb =>
      ⟨(hb.cell (p := ⟨w.heap.size, 0, none⟩) (Nat.lt_succ_self _)).trans (by simp [go_sem]), (hb.cell (p := ⟨w.heap.size, 1, none⟩) (Nat.lt_succ_self _)).trans (by simp [go_sem]), (hb.cell (p := ⟨w.heap.size, 2, none⟩) (Nat.lt_succ_self _)).trans (by simp [go_sem])⟩
    have HL2 : Hid (∀ W, Below X.heap.size X W → Calls Tryd.prog 25 #[.slice (some ⟨b, off, none⟩) l.length cap] W fun e w' => e = .returned (.int .i64 (Wh.lsp l)) ∧ Below W.heap.size W w') := Lib.hid fun W hb => HL.out W (lowBox' (hXB.trans (hb.mono (by omega))))
    clear hXB hO0 hvb HL HV HH
    generalize hls2 : Wh.lsp l = ls at *
    have HLS := Lib.hid hls2
    clear hls2
    go_region_held3 (fun W => W.cell? ⟨w.heap.size, 0, none⟩ = some (.int .i64 ag) ∧ W.cell? ⟨w.heap.size, 1, none⟩ = some (.int .i64 xf) ∧ W.cell? ⟨w.heap.size, 2, none⟩ = some (.slice (some ⟨b, off, none⟩) l.length cap)) (first | exact ⟨d0, d1, d2⟩ | exact ⟨e0, e1, e2⟩ | exact ⟨f0, f1, f2⟩ | go_keep)
      (first
        | (go_at_call 25; (with_reducible refine (HL2.out _ (by repeat (first | exact Below.refl _ _ | assumption | refine Below.setCell ?_ (by first | (simp; done) | omega | (simp; omega) | (simp at *; omega)) _ | refine Below.alloc ?_ (by first | (simp; done) | omega | (simp; omega) | (simp at *; omega)) _ | refine Below.drew ?_ | refine below_drewN ?_ _ | (refine Below.trans ?_ (Below.mono (by assumption) (by first | (simp; done) | omega | (simp; omega) | (simp at *; omega)))) | (refine Below.trans ?_ (Below.mono (below_regrown _ _ _) (by first | (simp; done) | omega | (simp; omega) | (simp at *; omega))))))).mono ?_); rintro e w2 ⟨rfl, hb2⟩; have hbb : Below X.heap.size X w2 := (by repeat (first | exact Below.refl _ _ | assumption | refine Below.setCell ?_ (by first | (simp; done) | omega | (simp; omega) | (simp at *; omega)) _ | refine Below.alloc ?_ (by first | (simp; done) | omega | (simp; omega) | (simp at *; omega)) _ | refine Below.drew ?_ | refine below_drewN ?_ _ | (refine Below.trans ?_ (Below.mono (by assumption) (by first | (simp; done) | omega | (simp; omega) | (simp at *; omega)))) | (refine Below.trans ?_ (Below.mono (below_regrown _ _ _) (by first | (simp; done) | omega | (simp; omega) | (simp at *; omega)))))); obtain ⟨e0, e1, e2⟩ := HC.out w2 hbb; have hs2 := hbb.size; have HB2 := Lib.hid hbb; clear hb2 hbb)
        | (go_at_call 24; (with_reducible refine (HP.out w2 HB2.out).mono ?_); rintro e w3 ⟨v3, rfl, ho3, hk3, hf3⟩; have hB3 := HK.out _ w3 (HB2.out.alloc HB2.out.size _) hk3; obtain ⟨f0, f1, f2⟩ := HF.out w3 hB3; have HO3 := Lib.hid ho3; have HB3 := Lib.hid hB3; clear ho3 hk3 hf3 hB3))
    have HZ := Lib.hid (Wh.ends_zero l)
    have HS := Lib.hid (Wh.ends_succ l)
    have HB : Hid (∀ i, i ≤ l.length → 16 ≤ Wh.ends l i ∧ Wh.ends l i ≤ 2000000000) := Lib.hid fun i hi => Wh.ends_bd a2 (Wh.alls_cnt a3) i hi
    have HN : Hid (∀ i, i < l.length → (1 ≤ (At l i).1 ∧ (At l i).1 ≤ 16777216) ∧ (1 ≤ (At l i).2 ∧ (At l i).2 ≤ 16777216)) := Lib.hid fun i hi => Wh.alls_num hi a3
    clear HL2 HP HC HK HB2 hs2 e0 e1 e2 d0 d1 d2 a3 a4 hvx
    go_wp2_with fail
    go_loopw [4, 5, 33] (fun at_ v i wr => ∃ j : Nat, j ≤ l.length ∧ i = .int .i64 j ∧ at_ = .int .i64 (Wh.ends l j) ∧ Hid (OwnB (w.heap.size + 1) wr v (Wh.fours (Wh.ints ag xf l j))) ∧ Hid (Below (w.heap.size + 1) (w.alloc (.cells #[.int .i64 ag, .int .i64 xf, .slice (some ⟨b, off, none⟩) l.length cap] 27)) wr)) (fun _ _ i _ => l.length - (intOf i).toNat)
    case atStart => exact ⟨0, Nat.zero_le _, rfl, by rw [HZ.out, Int.mul_comm], HO3, HB3⟩
    case round =>
      obtain ⟨j, hj, rfl, rfl, ho, hR⟩ := hrel
      have hAr := HA.out.below (lowBox' hR.out)
      have hbl := hAr.lt
      obtain ⟨x0, x1', x2'⟩ := HF.out wr hR.out
      by_cases hlt : j < l.length
      · have c0 := hAr.st j hlt
        have c1 := hAr.ct j hlt
        obtain ⟨⟨p1, p2⟩, p3, p4⟩ := HN.out j hlt
        obtain ⟨q1, q2⟩ := HB.out j (by omega)
        have HE := Lib.hid (HS.out j)
        have hsz : w.heap.size + 1 ≤ wr.heap.size := by have := hR.out.size; simp at this; omega
        have HP : Hid (Calls Tryd.prog 24 #[u5, .slice (some ⟨wr.heap.size + 1, 0, none⟩) 3 3] ((wr.alloc (.cells #[.int .i64 (At l j).1, .int .i64 (At l j).2] 24)).alloc (.cells #[.int .i64 (Wh.ends l j), .int .i64 (At l j).1, .int .i64 (At l j).2] 3)) (Laid (w.heap.size + 1) ((wr.alloc (.cells #[.int .i64 (At l j).1, .int .i64 (At l j).2] 24)).alloc (.cells #[.int .i64 (Wh.ends l j), .int .i64 (At l j).1, .int .i64 (At l j).2] 3)) u5 (Wh.fours (Wh.ints ag xf l (j + 1))))) := Lib.hid (by
          have := wput_any (w.heap.size + 1) (Wh.fours (Wh.ints ag xf l j)) u5 [Wh.ends l j, (At l j).1, (At l j).2] (some ⟨wr.heap.size + 1, 0, none⟩) 3 (fun b => b = wr.heap.size + 1) ((wr.alloc (.cells #[.int .i64 (At l j).1, .int .i64 (At l j).2] 24)).alloc (.cells #[.int .i64 (Wh.ends l j), .int .i64 (At l j).1, .int .i64 (At l j).2] 3)) ((ho.out.below ((Below.refl _ _).alloc (Nat.le_refl _) _)).below ((Below.refl _ _).alloc (Nat.le_refl _) _)) (ints_rd _ [Wh.ends l j, (At l j).1, (At l j).2] _ _ (by simp))
            (fun g hg e => by have := (own_lt ho.out g hg).2
                              have e' : g = wr.heap.size + 1 := e
                              omega) (by
              intro n hn
              simp at hn
              rcases hn with rfl | rfl | rfl <;> omega) (by simp; omega) (by rw [Wh.fours_len, Wh.ints_len]; omega) (by simp)
          rw [← Wh.fours_append] at this
          exact this)
        have HKB : Hid (∀ w4, Kp (fun b => u5.ownBlock = some b) ((wr.alloc (.cells #[.int .i64 (At l j).1, .int .i64 (At l j).2] 24)).alloc (.cells #[.int .i64 (Wh.ends l j), .int .i64 (At l j).1, .int .i64 (At l j).2] 3)) w4 → Below (w.heap.size + 1) (w.alloc (.cells #[.int .i64 ag, .int .i64 xf, .slice (some ⟨b, off, none⟩) l.length cap] 27)) w4 ∧ w4.cell? ⟨wr.heap.size, 1, none⟩ = some (.int .i64 (At l j).2)) := Lib.hid fun w4 hk => by
          have h1 : Below (w.heap.size + 1) (w.alloc (.cells #[.int .i64 ag, .int .i64 xf, .slice (some ⟨b, off, none⟩) l.length cap] 27)) ((wr.alloc (.cells #[.int .i64 (At l j).1, .int .i64 (At l j).2] 24)).alloc (.cells #[.int .i64 (Wh.ends l j), .int .i64 (At l j).1, .int .i64 (At l j).2] 3)) := (hR.out.alloc hsz _).alloc (by simp; omega) _
          refine ⟨h1.trans (hk.below (by simp; omega) fun i hi e => by have := (own_lt ho.out i e).1; omega), ?_⟩
          rw [hk.cell (p := ⟨wr.heap.size, 1, none⟩) (by simp; omega) (fun e => by have := (own_lt ho.out _ e).2; simp at this)]
          simp [go_sem]
        clear hAr HB HS HZ HN HF HO3 HB3 ho
        generalize Wh.ends l j = q at *
        generalize At l j = a at *
        obtain ⟨s, c⟩ := a
        dsimp only at *
        go_wp2_with (go_at_call 24; (with_reducible refine HP.out.mono ?_); rintro e w4 ⟨v4, rfl, ho4, hk4, hf4⟩; obtain ⟨hb4, z1⟩ := HKB.out w4 hk4; have HO4 := Lib.hid ho4; have HB4 := Lib.hid hb4; clear ho4 hk4 hf4 hb4)
        go_roundw
        case rel => exact ⟨j + 1, by omega, by go_num, congrArg (Value.int .i64) (by rw [HE.out]; omega), HO4, HB4⟩
        case measure => simp [intOf]; omega
      · obtain rfl : j = l.length := by omega
        clear hAr HB HS HZ HN HF HO3 HB3
        go_wp2
        ((try simp only [Exit.inBlock, Exit.then]); refine bodyPost_ret (results_tmp2 rfl _ _ _) rfl ?_)
        exact ⟨_, rfl, by rw [HQ.out]; exact ho.out.base (Nat.le_succ _), lowBox' hR.out⟩
end Go.Proofs.YtbakngbmfgnmcaaDoor

namespace Go.Proofs.YtbakngbmfgnmcaaDoor
open Go.RowKit Go.Sort
open Me

set_option maxHeartbeats 400000 in
theorem equal_any (v v' : Value) (l m : List UInt8) (w : World) (h1 : Reads w v l) (h2 : Reads w v' m) :
    Calls Tryd.prog 62 #[v, v'] w fun e w' => e = .returned (.bool (decide (l = m))) ∧ w = w' := by
  have c1 := h1.conv
  have c2 := h2.conv
  clear h1 h2
  by_cases hlm : l = m
  · subst hlm
    go_enter Tryd.func62, Tryd.ntmps62
    go_wp2
    go_ret
    exact ⟨by simp, rfl⟩
  · have HD := Lib.hid (decide_eq_false hlm)
    have hbe : (l == m) = false := by simp [hlm]
    clear hlm
    go_enter Tryd.func62, Tryd.ntmps62
    go_wp2
    go_ret
    exact ⟨by rw [HD.out]; rfl, rfl⟩

set_option maxHeartbeats 400000 in
theorem hasPrefix_any (A A' : Option Addr) (L E : List UInt8) (c c' : Nat) (w : World) (h1 : Reads w (.slice A L.length c) L) (h2 : Reads w (.slice A' E.length c') E) :
    Calls Tryd.prog 52 #[.slice A L.length c, .slice A' E.length c'] w fun e w' => e = .returned (.bool (decide (E.length ≤ L.length ∧ L.take E.length = E))) ∧ w = w' := by
  have hcl : L.length ≤ c := by
    obtain ⟨_, _, e, hc, _⟩ := h1
    injection e with _ _ e3
    omega
  by_cases hn : E.length ≤ L.length
  · have HE := Lib.hid (equal_any (.slice A E.length c) (.slice A' E.length c') (L.take E.length) E w (h1.take hn) h2)
    have HD : Hid (decide (E.length ≤ L.length ∧ L.take E.length = E) = decide (L.take E.length = E)) := Lib.hid (by simp [hn])
    generalize decide (L.take E.length = E) = r at *
    have hnI : (E.length : Int) ≤ (L.length : Int) := by omega
    have hnc : E.length ≤ c := by omega
    clear h1 h2
    go_enter Tryd.func52, Tryd.ntmps52
    go_wp2_with (go_at_call 62; go_must (refine (HE.out).mono ?_; rintro e w' ⟨rfl, rfl⟩))
    go_ret
    exact ⟨by rw [HD.out]; rfl, rfl⟩
  · have HD : Hid (decide (E.length ≤ L.length ∧ L.take E.length = E) = false) := Lib.hid (by simp [hn])
    have hnI : (L.length : Int) < (E.length : Int) := by omega
    clear h1 h2
    go_enter Tryd.func52, Tryd.ntmps52
    go_wp2_with fail
    go_ret
    exact ⟨by rw [HD.out]; rfl, rfl⟩
end Go.Proofs.YtbakngbmfgnmcaaDoor

namespace Go.Proofs.YtbakngbmfgnmcaaDoor
open Go.RowKit Go.Sort
open Me

set_option maxHeartbeats 1000000 in
theorem number_lit (b off n cap : Nat) (c0 c1 c2 c3 : Nat) (w : World) (hn : 4 ≤ n) (k0 : c0 < 256) (k1 : c1 < 256) (k2 : c2 < 256) (k3 : c3 < 256)
    (e0 : w.cell? ⟨b, off, none⟩ = some (.int .u8 c0)) (e1 : w.cell? ⟨b, off + 1, none⟩ = some (.int .u8 c1)) (e2 : w.cell? ⟨b, off + 2, none⟩ = some (.int .u8 c2)) (e3 : w.cell? ⟨b, off + 3, none⟩ = some (.int .u8 c3)) :
    Calls Tryd.prog 61 #[.slice (some ⟨b, off, none⟩) n cap] w fun e w' => e = .returned (.int .i64 ((c0 : Int) * 16777216 + c1 * 65536 + c2 * 256 + c3)) ∧ ∃ m, w' = w.drewN m := by
  have HJ := Lib.hid (Wh.join4 c0 c1 c2 c3 k0 k1 k2 k3)
  go_enter Tryd.func61, Tryd.ntmps61
  go_wp2_with fail
  go_quiet (fail)
  go_wp2
  go_ret
  exact ⟨by rw [← HJ.out]; rfl, _, rfl⟩
theorem number_dr (L : List UInt8) (i b off n cap : Nat) (w : World) (h : By w b off L) (hi : i + 4 ≤ L.length) (hn : 4 ≤ n) :
    Calls Tryd.prog 61 #[.slice (some ⟨b, off + i, none⟩) n cap] w fun e w' => e = .returned (.int .i64 (Wh.nm L i)) ∧ ∃ m, w' = w.drewN m :=
  number_lit b (off + i) n cap _ _ _ _ w hn (Wh.by_lt L i) (Wh.by_lt L (i + 1)) (Wh.by_lt L (i + 2)) (Wh.by_lt L (i + 3)) (h.at_ i (by omega)) (h.at_ (i + 1) (by omega)) (h.at_ (i + 2) (by omega)) (h.at_ (i + 3) (by omega))
theorem number_any (L : List UInt8) (i b off n cap : Nat) (w : World) (h : By w b off L) (hi : i + 4 ≤ L.length) (hn : 4 ≤ n) :
    Calls Tryd.prog 61 #[.slice (some ⟨b, off + i, none⟩) n cap] w fun e w' => e = .returned (.int .i64 (Wh.nm L i)) ∧ Below w.heap.size w w' :=
  (number_dr L i b off n cap w h hi hn).mono fun _ _ ⟨he, _, hm⟩ => ⟨he, hm ▸ ⟨rfl, rfl, rfl, Nat.le_refl _, fun _ _ => rfl⟩⟩


end Go.Proofs.YtbakngbmfgnmcaaDoor

namespace Go.Proofs.YtbakngbmfgnmcaaDoor
open Go.RowKit Go.Sort
open Wh (At)
open Me

theorem arinfo : (Tryd.prog.info? 24).map (fun i => (i.zero, i.size, i.bytes)) = some (some (.agg #[.int .i64 0, .int .i64 0]), 2, 16) := by kernel_rfl
namespace Wh
/-- So many archives as the bytes tell. -/
def archs (L : List UInt8) (n : Nat) : List (Int × Int) := (List.range n).map fun i => (nm L (16 + 12 * i + 4), nm L (16 + 12 * i + 8))
theorem archs_len (L : List UInt8) (n : Nat) : (archs L n).length = n := by unfold archs; simp
theorem archs_at (L : List UInt8) (n i : Nat) (h : i < n) : At (archs L n) i = (nm L (16 + 12 * i + 4), nm L (16 + 12 * i + 8)) := by
  unfold At archs
  rw [List.getD_eq_getElem?_getD, List.getElem?_map, List.getElem?_range h]
  rfl
end Wh

set_option maxHeartbeats 1000000 in
theorem read_short (A : Option Addr) (n cap : Nat) (hn : n < 16) (w : World) :
    Calls Tryd.prog 51 #[.slice A n cap] w fun e w' => e = .returned (.tuple #[.agg #[.int .i64 0, .int .i64 0, .slice none 0 0], .bool false]) ∧ Below w.heap.size w w' := by
  go_enter Tryd.func51, Tryd.ntmps51
  go_wp2
  exact bodyPost_ret (v := .tuple #[.agg #[.int .i64 0, .int .i64 0, .slice none 0 0], .bool false]) (by simp [results, Tryd.results51, go_sem, *]) rfl ⟨rfl, (by repeat (first | exact Below.refl _ _ | assumption | refine Below.setCell ?_ (by first | (simp; done) | omega | (simp; omega) | (simp at *; omega)) _ | refine Below.alloc ?_ (by first | (simp; done) | omega | (simp; omega) | (simp at *; omega)) _ | refine Below.drew ?_ | (refine Below.trans ?_ (Below.mono (by assumption) (by first | (simp; done) | omega | (simp; omega) | (simp at *; omega)))) | (refine Below.trans ?_ (Below.mono (below_regrown _ _ _) (by first | (simp; done) | omega | (simp; omega) | (simp at *; omega))))))⟩

set_option maxHeartbeats 1000000 in
theorem read_no (L : List UInt8) (b off cap : Nat) (w : World) (h : By w b off L) (h16 : 16 ≤ L.length) (hc : L.length ≤ cap) (hno : 8 < Wh.nm L 12 ∨ (L.length : Int) < 16 + Wh.nm L 12 * 12) :
    Calls Tryd.prog 51 #[.slice (some ⟨b, off, none⟩) L.length cap] w fun e w' => e = .returned (.tuple #[.agg #[.int .i64 0, .int .i64 0, .slice none 0 0], .bool false]) ∧ Below w.heap.size w w' := by
  obtain ⟨z1, z2⟩ := Wh.nm_bd L 12
  have HN : Hid (∀ W n c, 4 ≤ n → Below w.heap.size w W → Calls Tryd.prog 61 #[.slice (some ⟨b, off + 12, none⟩) n c] W fun e w' => e = .returned (.int .i64 (Wh.nm L 12)) ∧ Below W.heap.size W w') := Lib.hid fun W n c hn hb => number_any L 12 b off n c W (h.below hb) (by omega) hn
  have HH := Lib.hid (headBytes_any (Wh.nm L 12) (by omega) (by omega))
  clear h z2
  generalize Wh.nm L 12 = N at *
  have hcn : ¬ cap = 12 := by omega
  by_cases h8 : 8 < N
  · go_enter Tryd.func51, Tryd.ntmps51
    go_wp2_with first | (go_at_call 61; (((with_reducible refine (HN.out _ _ _ (by omega) ((Below.refl _ _).alloc (Nat.le_refl _) _)).mono ?_)); rintro e w1 ⟨rfl, hb1⟩; obtain ⟨hc1, hf1⟩ := bcell hb1; (try have hq1w : w.heap.size < w1.heap.size := Nat.lt_of_lt_of_le (by first | assumption | (simp; done) | (simp; omega)) hb1.size); have hs1 := hb1.size; (try simp at hs1))) | (go_at_call 23; go_must (refine (HH.out _).mono ?_; rintro e w' ⟨rfl, rfl⟩))
    refine bodyPost_ret (v := .tuple #[.agg #[.int .i64 0, .int .i64 0, .slice none 0 0], .bool false]) ?_ rfl ⟨rfl, ?_⟩
    · simp [results, Tryd.results51, go_sem, hc1]
    · exact ((((((Below.refl _ _).alloc (Nat.le_refl _) _).trans (hb1.mono (by simp))).setCell (Nat.le_refl _) _).setCell (Nat.le_refl _) _).setCell (Nat.le_refl _) _)
  · obtain ⟨k, rfl⟩ : ∃ k : Nat, N = (k : Int) := ⟨N.toNat, by omega⟩
    have hno : (L.length : Int) < 16 + (k : Int) * 12 := by omega
    go_enter Tryd.func51, Tryd.ntmps51
    go_wp2_with first | (go_at_call 61; (((with_reducible refine (HN.out _ _ _ (by omega) ((Below.refl _ _).alloc (Nat.le_refl _) _)).mono ?_)); rintro e w1 ⟨rfl, hb1⟩; obtain ⟨hc1, hf1⟩ := bcell hb1; (try have hq1w : w.heap.size < w1.heap.size := Nat.lt_of_lt_of_le (by first | assumption | (simp; done) | (simp; omega)) hb1.size); have hs1 := hb1.size; (try simp at hs1))) | (go_at_call 23; go_must (refine (HH.out _).mono ?_; rintro e w' ⟨rfl, rfl⟩))
    refine bodyPost_ret (v := .tuple #[.agg #[.int .i64 0, .int .i64 0, .slice none 0 0], .bool false]) ?_ rfl ⟨rfl, ?_⟩
    · simp [results, Tryd.results51, go_sem, hc1]
    · exact ((((((Below.refl _ _).alloc (Nat.le_refl _) _).trans (hb1.mono (by simp))).setCell (Nat.le_refl _) _).setCell (Nat.le_refl _) _).setCell (Nat.le_refl _) _)
end Go.Proofs.YtbakngbmfgnmcaaDoor

namespace Go.Proofs.YtbakngbmfgnmcaaDoor
open Go.RowKit Go.Sort
open Wh (At)
open Me

/-- What read hands back of bytes that hold so many archives. -/
def ReadOk (w : World) (L : List UInt8) (k : Nat) (e : Ending) (w' : World) : Prop :=
  ∃ g, e = .returned (.tuple #[.agg #[.int .i64 (Wh.nm L 0), .int .i64 (Wh.nm L 8), .slice (some ⟨g, 0, none⟩) k k], .bool true]) ∧ w.heap.size ≤ g ∧ Ars w' g 0 (Wh.archs L k) ∧ Below w.heap.size w w'

/-- What holds of the blocks while the archives are read: r the result's, g the archives', h the header's. -/
structure RdMade (w wx : World) (L : List UInt8) (k j g h : Nat) : Prop where
  g0 : w.heap.size < g
  h0 : w.heap.size < h
  gh : g ≠ h
  bel : Below w.heap.size w wx
  rr : RowAt wx w.heap.size 27 #[.int .i64 0, .int .i64 0, .slice none 0 0]
  rh : RowAt wx h 27 #[.int .i64 (Wh.nm L 0), .int .i64 (Wh.nm L 8), .slice (some ⟨g, 0, none⟩) k k]
  rg : ∃ cs : Array Value, cs.size = k * 2 ∧ RowAt wx g 24 cs ∧ ∀ i, i < j → cs[i * 2]? = some (.int .i64 (Wh.nm L (16 + 12 * i + 4))) ∧ cs[i * 2 + 1]? = some (.int .i64 (Wh.nm L (16 + 12 * i + 8)))

theorem bel_drewN {B : Nat} {a w : World} (h : Below B a w) (n : Nat) : Below B a (w.drewN n) := ⟨h.os, h.tape, h.output, h.size, h.block⟩
theorem RowAt.new' {w : World} {g : Nat} {cs : Array Value} {t : TypeId} (h : g = w.heap.size) : RowAt (w.alloc (.cells cs t)) g t cs := by subst h; exact RowAt.new w cs t
theorem RowAt.set3 {w : World} {g : Nat} {t : TypeId} {a b c x y z : Value} (h : RowAt w g t #[a, b, c]) : RowAt (((w.setCell ⟨g, 0, none⟩ x).setCell ⟨g, 1, none⟩ y).setCell ⟨g, 2, none⟩ z) g t #[x, y, z] := by
  have := ((h.set_ 0 x).set_ 1 y).set_ 2 z
  simpa using this
theorem made_of {w X wx : World} {L : List UInt8} {k g h : Nat} {CS : Array Value} (hX : X.heap.size = w.heap.size + 1) (hB : Below w.heap.size w X) (hR : RowAt X w.heap.size 27 #[.int .i64 0, .int .i64 0, .slice none 0 0]) (hcs : CS.size = k * 2)
    (g0 : w.heap.size < g) (h0 : w.heap.size < h) (gh : g ≠ h) (hb : Below X.heap.size X wx) (h1 : RowAt wx h 27 #[.int .i64 (Wh.nm L 0), .int .i64 (Wh.nm L 8), .slice (some ⟨g, 0, none⟩) k k]) (h2 : RowAt wx g 24 CS) : RdMade w wx L k 0 g h :=
  ⟨g0, h0, gh, hB.trans (hb.mono (by omega)), hR.below hb (by omega), h1, CS, hcs, h2, fun i hi => by omega⟩

theorem RdMade.step {w wr : World} {L : List UInt8} {k j g h : Nat} (hM : RdMade w wr L k j g h) (hj : j < k) (n : Nat) :
    RdMade w (((wr.drewN n).setCell ⟨g, j * 2, none⟩ (.int .i64 (Wh.nm L (16 + 12 * j + 4)))).setCell ⟨g, j * 2 + 1, none⟩ (.int .i64 (Wh.nm L (16 + 12 * j + 8)))) L k (j + 1) g h := by
  obtain ⟨g0, h0, gh, hb, rr, rh, cs, hcs, rg, hv⟩ := hM
  refine ⟨g0, h0, gh, ((bel_drewN hb n).setCell (by show _ ≤ g; omega) _).setCell (by show _ ≤ g; omega) _, ((rr.drewN n).far (by show _ ≠ g; omega) _).far (by show _ ≠ g; omega) _, ((rh.drewN n).far (Ne.symm gh) _).far (Ne.symm gh) _, (cs.setIfInBounds (j * 2) (.int .i64 (Wh.nm L (16 + 12 * j + 4)))).setIfInBounds (j * 2 + 1) (.int .i64 (Wh.nm L (16 + 12 * j + 8))), by simp [hcs], ((rg.drewN n).set_ _ _).set_ _ _, fun i hi => ?_⟩
  by_cases e : i = j
  · subst e
    constructor
    · rw [Array.getElem?_setIfInBounds, if_neg (by omega), Array.getElem?_setIfInBounds, if_pos rfl, if_pos (by omega)]
    · rw [Array.getElem?_setIfInBounds, if_pos rfl, if_pos (by simp; omega)]
  · obtain ⟨v1, v2⟩ := hv i (by omega)
    constructor
    · rw [Array.getElem?_setIfInBounds, if_neg (by omega), Array.getElem?_setIfInBounds, if_neg (by omega)]; exact v1
    · rw [Array.getElem?_setIfInBounds, if_neg (by omega), Array.getElem?_setIfInBounds, if_neg (by omega)]; exact v2
theorem RdMade.fin {w wr : World} {L : List UInt8} {k g h : Nat} (hM : RdMade w wr L k k g h) (x y z : Value) :
    Ars (((wr.setCell ⟨w.heap.size, 0, none⟩ x).setCell ⟨w.heap.size, 1, none⟩ y).setCell ⟨w.heap.size, 2, none⟩ z) g 0 (Wh.archs L k) ∧ Below w.heap.size w (((wr.setCell ⟨w.heap.size, 0, none⟩ x).setCell ⟨w.heap.size, 1, none⟩ y).setCell ⟨w.heap.size, 2, none⟩ z) := by
  obtain ⟨g0, h0, gh, hb, rr, rh, cs, hcs, rg, hv⟩ := hM
  refine ⟨?_, ((hb.setCell (Nat.le_refl _) _).setCell (Nat.le_refl _) _).setCell (Nat.le_refl _) _⟩
  have r := ((rg.far (p := ⟨w.heap.size, 0, none⟩) (by show g ≠ w.heap.size; omega) x).far (p := ⟨w.heap.size, 1, none⟩) (by show g ≠ w.heap.size; omega) y).far (p := ⟨w.heap.size, 2, none⟩) (by show g ≠ w.heap.size; omega) z
  refine ⟨r.lt, fun i hi => ?_, fun i hi => ?_⟩
  · rw [Wh.archs_len] at hi
    rw [r.cell, Wh.archs_at L k i hi, Nat.zero_add]; exact (hv i hi).1
  · rw [Wh.archs_len] at hi
    rw [r.cell, Wh.archs_at L k i hi, Nat.zero_add]; exact (hv i hi).2

set_option maxHeartbeats 4000000 in
theorem read_yes (L : List UInt8) (b off cap k : Nat) (w : World) (h : By w b off L) (hc : L.length ≤ cap) (hk : Wh.nm L 12 = (k : Int)) (h8 : k ≤ 8) (hl : 16 + 12 * k ≤ L.length) :
    Calls Tryd.prog 51 #[.slice (some ⟨b, off, none⟩) L.length cap] w (ReadOk w L k) := by
  obtain ⟨j0, hj0, hy0, hy1, hy2⟩ := info_parts arinfo
  obtain ⟨CS, hmk, hcs⟩ : ∃ (CS : Array Value), (∀ W : World, (Instr.makeSlice 25 (.int .i64 (k : Int)) (.int .i64 (k : Int))).run Tryd.prog W = .ok (.slice (some ⟨W.heap.size, 0, none⟩) k k) (W.alloc (.cells CS 24))) ∧ CS.size = k * 2 := by
    refine ⟨madeCells #[.int .i64 0, .int .i64 0] (k * 2), fun W => ?_, size_madeCells _ _⟩
    have h := run_make (P := Tryd.prog) W 25 24 j0 (.agg #[.int .i64 0, .int .i64 0]) Tryd.underlying25 hj0 hy0 .i64 .i64 (k : Int) (k : Int) (by omega) (by omega) (by rw [hy2]; omega) (by omega)
    rw [hy1] at h
    exact h
  have HN : Hid (∀ W i n c, 4 ≤ n → i + 4 ≤ L.length → Below w.heap.size w W → Calls Tryd.prog 61 #[.slice (some ⟨b, off + i, none⟩) n c] W fun e w' => e = .returned (.int .i64 (Wh.nm L i)) ∧ ∃ m, w' = W.drewN m) := Lib.hid fun W i n c hn hi hb => number_dr L i b off n c W (h.below hb) hi hn
  have HN0 : Hid (∀ W n c, 4 ≤ n → Below w.heap.size w W → Calls Tryd.prog 61 #[.slice (some ⟨b, off, none⟩) n c] W fun e w' => e = .returned (.int .i64 (Wh.nm L 0)) ∧ ∃ m, w' = W.drewN m) := Lib.hid fun W n c hn hb => number_dr L 0 b off n c W (h.below hb) (by omega) hn
  have HN12 : Hid (∀ W n c, 4 ≤ n → Below w.heap.size w W → Calls Tryd.prog 61 #[.slice (some ⟨b, off + 12, none⟩) n c] W fun e w' => e = .returned (.int .i64 (k : Int)) ∧ ∃ m, w' = W.drewN m) := Lib.hid fun W n c hn hb => by rw [← hk]; exact number_dr L 12 b off n c W (h.below hb) (by omega) hn
  have HH := Lib.hid (headBytes_any (k : Int) (by omega) (by omega))
  have HH2 : Hid (∀ i : Nat, i ≤ 8 → ∀ W, Calls Tryd.prog 23 #[.int .i64 (i : Int)] W fun e w' => e = .returned (.int .i64 ((16 + 12 * i : Nat) : Int)) ∧ W = w') := Lib.hid fun i hi W => by
    have := headBytes_any (i : Int) (by omega) (by omega) W
    have e : (16 + (i : Int) * 12) = ((16 + 12 * i : Nat) : Int) := by omega
    rw [e] at this
    exact this
  have hbl := h.lt
  have hlI : (16 : Int) + 12 * (k : Int) ≤ (L.length : Int) := by omega
  have hc12 : ¬ cap = 12 := by omega
  have hc8 : ¬ cap = 8 := by omega
  have hI8 : (8 : Int) ≤ (L.length : Int) := by omega
  have hIc : (L.length : Int) ≤ (cap : Int) := by omega
  have hN8 : 8 ≤ L.length := by omega
  have hN8c : 8 ≤ cap := by omega
  clear h hk hj0 hy0 hy1 hy2
  go_enter Tryd.func51, Tryd.ntmps51
  go_upto_region 6 with (first | (go_at_call 61; (with_reducible refine (HN12.out _ _ _ (by omega) ((Below.refl _ _).alloc (Nat.le_refl _) _)).mono ?_); rintro e w1 ⟨rfl, m1, rfl⟩) | (go_at_call 23; go_must (refine (HH.out _).mono ?_; rintro e w' ⟨rfl, rfl⟩)))
  have hB0 : Below w.heap.size w ((w.alloc (.cells #[.int .i64 0, .int .i64 0, .slice none 0 0] 27)).drewN m1) := (by repeat (first | exact Below.refl _ _ | assumption | refine Below.setCell ?_ (by first | (simp; done) | omega | (simp; omega) | (simp at *; omega)) _ | refine Below.alloc ?_ (by first | (simp; done) | omega | (simp; omega) | (simp at *; omega)) _ | refine Below.drew ?_ | refine below_drewN ?_ _ | (refine Below.trans ?_ (Below.mono (by assumption) (by first | (simp; done) | omega | (simp; omega) | (simp at *; omega)))) | (refine Below.trans ?_ (Below.mono (below_regrown _ _ _) (by first | (simp; done) | omega | (simp; omega) | (simp at *; omega))))))
  have hR0 : RowAt ((w.alloc (.cells #[.int .i64 0, .int .i64 0, .slice none 0 0] 27)).drewN m1) w.heap.size 27 #[.int .i64 0, .int .i64 0, .slice none 0 0] := RowAt.new w _ _
  have hX0 : ((w.alloc (.cells #[.int .i64 0, .int .i64 0, .slice none 0 0] 27)).drewN m1).heap.size = w.heap.size + 1 := by simp
  generalize (w.alloc (.cells #[.int .i64 0, .int .i64 0, .slice none 0 0] 27)).drewN m1 = X at *
  have HB0 := Lib.hid hB0
  have HR0 := Lib.hid hR0
  have HX0 := Lib.hid hX0
  have hX1 : w.heap.size < X.heap.size := by omega
  clear hB0 hR0 hX0
  have hA1 : ∀ (W : World) (n : Nat) (cs : Array Value) (t : TypeId) (i : Nat), ((W.drewN n).alloc (.cells cs t)).cell? ⟨W.heap.size, i, none⟩ = cs[i]? := fun W n cs t i => by rw [show W.heap.size = (W.drewN n).heap.size from rfl]; exact World.cell?_alloc_new _ _ _ _
  have hA2 : ∀ (W : World) (n : Nat) (cs : Array Value) (t : TypeId) (i : Nat), ((W.drewN n).alloc (.cells cs t)).frozen? ⟨W.heap.size, i, none⟩ = false := fun W n cs t i => by
    have h := RowAt.frozen (RowAt.new (W.drewN n) cs t) i
    exact h
  go_cut [5] (fun s5 wx => ∃ g h : Nat, s5 = .pointer (some ⟨h, 0, none⟩) ∧ RdMade w wx L k 0 g h)
  case first =>
    go_region_held3 (fun _ => True) (trivial) (first
      | (go_at_call 61; (with_reducible refine (HN0.out _ _ _ (by omega) (HB0.out.trans (Below.mono (by repeat (first | exact Below.refl _ _ | refine Below.setCell ?_ (by simp) _ | refine Below.alloc ?_ (by simp) _ | refine Below.drew ?_ | refine bel_drewN ?_ _)) (Nat.le_of_lt hX1)))).mono ?_); rintro e w1 ⟨rfl, m2, rfl⟩)
      | (go_at_call 61; (with_reducible refine (HN.out _ 8 _ _ (by omega) (by omega) (HB0.out.trans (Below.mono (by repeat (first | exact Below.refl _ _ | refine Below.setCell ?_ (by simp) _ | refine Below.alloc ?_ (by simp) _ | refine Below.drew ?_ | refine bel_drewN ?_ _)) (Nat.le_of_lt hX1)))).mono ?_); rintro e w1 ⟨rfl, m2, rfl⟩)
      | fail)
    all_goals go_wp2_with fail
    all_goals go_meet
    all_goals
      have hz := HX0.out
      first
        | refine ⟨X.heap.size, X.heap.size + 1, rfl, ?_⟩
        | refine ⟨X.heap.size + 1, X.heap.size, rfl, ?_⟩
    all_goals refine made_of (CS := CS) HX0.out HB0.out HR0.out hcs (by omega) (by omega) (by omega) (by repeat (first | exact Below.refl _ _ | refine Below.setCell ?_ (by simp) _ | refine Below.alloc ?_ (by simp) _ | refine Below.drew ?_ | refine bel_drewN ?_ _)) ?_ ?_
    all_goals repeat (first | (with_reducible refine RowAt.new' ?_; simp; done) | with_reducible refine RowAt.set3 (a := .int .i64 0) (b := .int .i64 0) (c := .slice none 0 0) ?_ | with_reducible refine RowAt.far ?_ (by simp) _ | with_reducible refine RowAt.alloc ?_ _ | with_reducible refine RowAt.drewN ?_ _)
  case rest =>
    obtain ⟨g, h, rfl, hM⟩ := hcut
    have hhl := hM.rh.lt
    have h2c : wc.cell? ⟨h, 2, none⟩ = some (.slice (some ⟨g, 0, none⟩) k k) := hM.rh.cell 2
    have HM0 := Lib.hid hM
    clear hM hmk HN0 HN12 hA1 hA2 HB0 HR0 HX0 hX1
    go_wp2_with fail
    go_loopw [36] (fun i wr => ∃ j : Nat, j ≤ k ∧ i = .int .i64 j ∧ Hid (RdMade w wr L k j g h)) (fun i _ => k - (intOf i).toNat)
    case atStart => exact ⟨0, Nat.zero_le _, rfl, HM0⟩
    case round =>
      obtain ⟨j, hj, rfl, hM⟩ := hrel
      obtain ⟨cs, hcs2, hrg, _⟩ := hM.out.rg
      have hhl2 := hM.out.rh.lt
      have hgl := hrg.lt
      have hrl := hM.out.rr.lt
      have x0 : wr.cell? ⟨h, 0, none⟩ = some (.int .i64 (Wh.nm L 0)) := hM.out.rh.cell 0
      have x1 : wr.cell? ⟨h, 1, none⟩ = some (.int .i64 (Wh.nm L 8)) := hM.out.rh.cell 1
      have x2 : wr.cell? ⟨h, 2, none⟩ = some (.slice (some ⟨g, 0, none⟩) k k) := hM.out.rh.cell 2
      by_cases hlt : j < k
      · obtain ⟨p, hp⟩ : ∃ p, 16 + 12 * j = p := ⟨_, rfl⟩
        have HHj := Lib.hid (HH2.out j (by omega))
        have HNa : Hid (∀ W n c, 4 ≤ n → Below w.heap.size w W → Calls Tryd.prog 61 #[.slice (some ⟨b, off + p + 4, none⟩) n c] W fun e w' => e = .returned (.int .i64 (Wh.nm L (16 + 12 * j + 4))) ∧ ∃ m, w' = W.drewN m) := Lib.hid fun W n c hn hb => by
          have := HN.out W (16 + 12 * j + 4) n c hn (by omega) hb
          rw [hp, ← Nat.add_assoc] at this
          rw [hp]
          exact this
        have HNb : Hid (∀ W n c, 4 ≤ n → Below w.heap.size w W → Calls Tryd.prog 61 #[.slice (some ⟨b, off + p + 8, none⟩) n c] W fun e w' => e = .returned (.int .i64 (Wh.nm L (16 + 12 * j + 8))) ∧ ∃ m, w' = W.drewN m) := Lib.hid fun W n c hn hb => by
          have := HN.out W (16 + 12 * j + 8) n c hn (by omega) hb
          rw [hp, ← Nat.add_assoc] at this
          rw [hp]
          exact this
        rw [hp] at HHj
        have hpl : p + 12 ≤ L.length := by omega
        have HST : Hid (∀ n, RdMade w (((wr.drewN n).setCell ⟨g, j * 2, none⟩ (.int .i64 (Wh.nm L (16 + 12 * j + 4)))).setCell ⟨g, j * 2 + 1, none⟩ (.int .i64 (Wh.nm L (16 + 12 * j + 8)))) L k (j + 1) g h) := Lib.hid fun n => hM.out.step hlt n
        have y0 : wr.cell? ⟨g, j * 2, none⟩ = some (cs[j * 2]'(by omega)) := by rw [hrg.cell]; exact Array.getElem?_eq_getElem (by omega)
        have y1 : wr.cell? ⟨g, j * 2 + 1, none⟩ = some (cs[j * 2 + 1]'(by omega)) := by rw [hrg.cell]; exact Array.getElem?_eq_getElem (by omega)
        have z0 := hrg.frozen (j * 2)
        have z1 := hrg.frozen (j * 2 + 1)
        have hbW := Lib.hid hM.out.bel
        generalize cs[j * 2]'(by omega) = v0 at y0
        generalize cs[j * 2 + 1]'(by omega) = v1 at y1
        generalize Wh.nm L (16 + 12 * j + 4) = na at *
        generalize Wh.nm L (16 + 12 * j + 8) = nb at *
        have hpI : (p : Int) ≤ (L.length : Int) := by omega
        have hpN : p ≤ L.length := by omega
        have hpc : ¬ cap = p := by omega
        have hpc2 : p ≤ cap := by omega
        clear hp HN hrg hcs2
        go_wp2_with (go_at_call 23; go_must (refine (HHj.out _).mono ?_; rintro e w' ⟨rfl, rfl⟩))
        generalize hn1 : L.length - p = n1
        generalize hc1 : cap - p = c1
        have hq1 : 12 ≤ n1 := by omega
        have hq2 : n1 ≤ c1 := by omega
        have hq4 : (4 : Int) ≤ (n1 : Int) := by omega
        have hq8 : (8 : Int) ≤ (n1 : Int) := by omega
        have hqc : (n1 : Int) ≤ (c1 : Int) := by omega
        have hr4 : ¬ c1 = 4 := by omega
        have hr8 : ¬ c1 = 8 := by omega
        have hs4 : 4 ≤ n1 := by omega
        have hs8 : 8 ≤ n1 := by omega
        have hs4c : 4 ≤ c1 := by omega
        have hs8c : 8 ≤ c1 := by omega
        have hjk : (j : Int) < (k : Int) := by omega
        clear hn1 hc1 hpl hpI hpN hpc hpc2 hlI hI8 hIc hN8 hN8c hc8 hc12 hc hl
        go_region_held3 (fun W => W.cell? ⟨h, 2, none⟩ = some (.slice (some ⟨g, 0, none⟩) k k)) (first | exact x2 | exact (HST.out _).rh.cell 2 | go_keep) (first
          | (go_at_call 61; (with_reducible refine (HNa.out _ _ _ (by omega) (hbW.out.trans (Below.mono (by repeat (first | exact Below.refl _ _ | refine Below.drew ?_ | refine bel_drewN ?_ _)) (hbW.out.size)))).mono ?_); rintro e w1 ⟨rfl, m2, rfl⟩)
          | (go_at_call 61; (with_reducible refine (HNb.out _ _ _ (by omega) (hbW.out.trans (Below.mono (by repeat (first | exact Below.refl _ _ | refine Below.drew ?_ | refine bel_drewN ?_ _)) (hbW.out.size)))).mono ?_); rintro e w1 ⟨rfl, m2, rfl⟩)
          | fail)
        go_wp2_with fail
        go_roundw
        case rel => exact ⟨j + 1, by omega, by go_num, Lib.hid (HST.out _)⟩
        case measure => simp [intOf]; omega
      · obtain rfl : j = k := by omega
        have HFI := Lib.hid (hM.out.fin (.int .i64 (Wh.nm L 0)) (.int .i64 (Wh.nm L 8)) (.slice (some ⟨g, 0, none⟩) j j))
        have hg0 := hM.out.g0
        have hh0 := hM.out.h0
        have r0 : wr.cell? ⟨w.heap.size, 0, none⟩ = some (.int .i64 0) := hM.out.rr.cell 0
        have r1 : wr.cell? ⟨w.heap.size, 1, none⟩ = some (.int .i64 0) := hM.out.rr.cell 1
        have r2 : wr.cell? ⟨w.heap.size, 2, none⟩ = some (.slice none 0 0) := hM.out.rr.cell 2
        have s0 := hM.out.rr.frozen 0
        have s1 := hM.out.rr.frozen 1
        have s2 := hM.out.rr.frozen 2
        clear hM hrg hcs2 HN HH2 HH HM0 hlI hI8 hIc hN8 hN8c hc8 hc12 hc hl
        go_wp2_with fail
        refine bodyPost_ret (v := .tuple #[.agg #[.int .i64 (Wh.nm L 0), .int .i64 (Wh.nm L 8), .slice (some ⟨g, 0, none⟩) j j], .bool true]) (by simp [results, Tryd.results51, go_sem, r0, r1, r2]) rfl ⟨g, rfl, Nat.le_of_lt hg0, HFI.out.1, HFI.out.2⟩
end Go.Proofs.YtbakngbmfgnmcaaDoor

namespace Go.Proofs.YtbakngbmfgnmcaaDoor
open Go.RowKit Go.Sort
open Wh (At)
open Me

namespace Wh
def rok (L : List UInt8) : Bool := decide (16 ≤ L.length) && decide (nm L 12 ≤ 8) && decide (16 + 12 * nm L 12 ≤ (L.length : Int))
def cand (L : List UInt8) : List (Int × Int) := archs L (nm L 12).toNat
def encL (L : List UInt8) : List UInt8 := enc (nm L 0) (nm L 8) (cand L)
def dok (L : List UInt8) : Bool := rok L && val (nm L 0) (nm L 8) (cand L) && decide ((encL L).length ≤ L.length ∧ L.take (encL L).length = encL L)
def dag (L : List UInt8) : Int := if dok L = true then nm L 0 else 0
def dxf (L : List UInt8) : Int := if dok L = true then nm L 8 else 0
def dl (L : List UInt8) : List (Int × Int) := if dok L = true then cand L else []
def derr (L : List UInt8) : Int := if dok L = true then 0 else 2
theorem rok_t {L : List UInt8} (h : rok L = true) : 16 ≤ L.length ∧ nm L 12 ≤ 8 ∧ 16 + 12 * nm L 12 ≤ (L.length : Int) := by
  unfold rok at h
  simp only [Bool.and_eq_true, decide_eq_true_eq] at h
  exact ⟨h.1.1, h.1.2, h.2⟩
theorem rok_f {L : List UInt8} (h : rok L = false) : L.length < 16 ∨ (16 ≤ L.length ∧ (8 < nm L 12 ∨ (L.length : Int) < 16 + nm L 12 * 12)) := by
  by_cases h1 : L.length < 16
  · exact .inl h1
  · refine .inr ⟨by omega, ?_⟩
    by_cases h2 : 8 < nm L 12
    · exact .inl h2
    · refine .inr ?_
      by_cases h3 : (L.length : Int) < 16 + nm L 12 * 12
      · exact h3
      · exfalso
        have : rok L = true := by
          unfold rok
          simp only [Bool.and_eq_true, decide_eq_true_eq]
          exact ⟨⟨by omega, by omega⟩, by omega⟩
        rw [h] at this
        cases this
theorem dok_f {L : List UInt8} (h : dok L = false) : dag L = 0 ∧ dxf L = 0 ∧ dl L = [] ∧ derr L = 2 := by unfold dag dxf dl derr; rw [h]; exact ⟨rfl, rfl, rfl, rfl⟩
theorem dok_t {L : List UInt8} (h : dok L = true) : dag L = nm L 0 ∧ dxf L = nm L 8 ∧ dl L = cand L ∧ derr L = 0 := by unfold dag dxf dl derr; rw [h]; exact ⟨rfl, rfl, rfl, rfl⟩
theorem dok_r {L : List UInt8} (h : rok L = false) : dok L = false := by unfold dok; rw [h, Bool.false_and, Bool.false_and]
theorem dok_v {L : List UInt8} (h : val (nm L 0) (nm L 8) (cand L) = false) : dok L = false := by unfold dok; rw [h]; simp
theorem dok_p {L : List UInt8} (h : rok L = true) (hv : val (nm L 0) (nm L 8) (cand L) = true) : dok L = decide ((encL L).length ≤ L.length ∧ L.take (encL L).length = encL L) := by unfold dok; rw [h, hv, Bool.true_and, Bool.true_and]
end Wh

/-- What Decode hands back. -/
def Decoded (w : World) (L : List UInt8) (e : Ending) (w' : World) : Prop :=
  ∃ A c, e = .returned (.tuple #[.agg #[.int .i64 (Wh.dag L), .int .i64 (Wh.dxf L), .slice A (Wh.dl L).length c], .int .i64 (Wh.derr L)]) ∧ Row w' A (Wh.dl L) c ∧ Below w.heap.size w w'
/-- The same, in blocks of the call's own. -/
def DecodedF (w : World) (L : List UInt8) (e : Ending) (w' : World) : Prop :=
  ∃ A c, e = .returned (.tuple #[.agg #[.int .i64 (Wh.dag L), .int .i64 (Wh.dxf L), .slice A (Wh.dl L).length c], .int .i64 (Wh.derr L)]) ∧ Row w' A (Wh.dl L) c ∧ Below w.heap.size w w' ∧ ∀ a, A = some a → w.heap.size ≤ a.block
theorem DecodedF.weak {w w' : World} {L : List UInt8} {e : Ending} (h : DecodedF w L e w') : Decoded w L e w' := by
  obtain ⟨A, c, h1, h2, h3, _⟩ := h
  exact ⟨A, c, h1, h2, h3⟩
theorem DecodedF.no {w w' : World} {L : List UInt8} {e : Ending} (h : Wh.dok L = false) (he : e = .returned (.tuple #[.agg #[.int .i64 0, .int .i64 0, .slice none 0 0], .int .i64 2])) (hb : Below w.heap.size w w') : DecodedF w L e w' := by
  obtain ⟨e1, e2, e3, e4⟩ := Wh.dok_f h
  refine ⟨none, 0, ?_, ?_, hb, fun a e => by cases e⟩
  · rw [he, e1, e2, e3, e4]; rfl
  · rw [e3]; exact ⟨Nat.le_refl _, fun h => by cases h⟩
theorem DecodedF.yes {w w' : World} {L : List UInt8} {e : Ending} {g c : Nat} (h : Wh.dok L = true) (he : e = .returned (.tuple #[.agg #[.int .i64 (Wh.nm L 0), .int .i64 (Wh.nm L 8), .slice (some ⟨g, 0, none⟩) (Wh.cand L).length c], .int .i64 0])) (hr : Row w' (some ⟨g, 0, none⟩) (Wh.cand L) c) (hb : Below w.heap.size w w') (hg : w.heap.size ≤ g) : DecodedF w L e w' := by
  obtain ⟨e1, e2, e3, e4⟩ := Wh.dok_t h
  refine ⟨some ⟨g, 0, none⟩, c, ?_, ?_, hb, fun a e => by cases e; exact hg⟩
  · rw [he, e1, e2, e3, e4]
  · rw [e3]; exact hr

set_option maxHeartbeats 1000000 in
theorem decode_bad (A : Option Addr) (L : List UInt8) (cap : Nat) (w : World) (hd : Wh.dok L = false)
    (HR : Hid (∀ W, Below w.heap.size w W → Calls Tryd.prog 51 #[.slice A L.length cap] W fun e w' => e = .returned (.tuple #[.agg #[.int .i64 0, .int .i64 0, .slice none 0 0], .bool false]) ∧ Below W.heap.size W w')) :
    Calls Tryd.prog 35 #[.slice A L.length cap] w (DecodedF w L) := by
  have HD := Lib.hid hd
  clear hd
  go_enter Tryd.func35, Tryd.ntmps35
  go_wp2_with (go_at_call 51; (((with_reducible refine (HR.out _ ((Below.refl _ _).alloc (Nat.le_refl _) _)).mono ?_)); rintro e w1 ⟨rfl, hb1⟩; obtain ⟨hc1, hf1⟩ := bcell hb1; (try have hq1w : w.heap.size < w1.heap.size := Nat.lt_of_lt_of_le (by first | assumption | (simp; done) | (simp; omega)) hb1.size); have hs1 := hb1.size; (try simp at hs1)))
  refine bodyPost_ret (v := .tuple #[.agg #[.int .i64 0, .int .i64 0, .slice none 0 0], .int .i64 2]) ?_ rfl (DecodedF.no HD.out rfl ?_)
  · simp [results, Tryd.results35, go_sem, hc1, hq1w]
  · exact (by repeat (first | exact Below.refl _ _ | assumption | refine Below.setCell ?_ (by first | (simp; done) | omega | (simp; omega) | (simp at *; omega)) _ | refine Below.alloc ?_ (by first | (simp; done) | omega | (simp; omega) | (simp at *; omega)) _ | refine Below.drew ?_ | (refine Below.trans ?_ (Below.mono (by assumption) (by first | (simp; done) | omega | (simp; omega) | (simp at *; omega)))) | (refine Below.trans ?_ (Below.mono (below_regrown _ _ _) (by first | (simp; done) | omega | (simp; omega) | (simp at *; omega))))))
end Go.Proofs.YtbakngbmfgnmcaaDoor

namespace Go.Proofs.YtbakngbmfgnmcaaDoor
open Go.RowKit Go.Sort



namespace Sl
def al (t s : Int) : Int := if s < 1 ∨ t < 0 then t else t - t % s
def pl (s c t : Int) : Int := if s < 1 ∨ c < 1 ∨ t < 0 then 0 else t / s % c
theorem al_eq {t s : Int} (h1 : 1 ≤ s) (h2 : 0 ≤ t) : al t s = t - t % s := by unfold al; rw [if_neg (by omega)]
theorem pl_eq {s c t : Int} (h1 : 1 ≤ s) (h2 : 1 ≤ c) (h3 : 0 ≤ t) : pl s c t = t / s % c := by unfold pl; rw [if_neg (by omega)]
theorem al_mul {t s : Int} (h1 : 1 ≤ s) (h2 : 0 ≤ t) : al t s = s * (t / s) := by
  rw [al_eq h1 h2]
  have := Int.mul_ediv_add_emod t s
  omega
theorem al_div {t s : Int} (h1 : 1 ≤ s) (h2 : 0 ≤ t) : al t s / s = t / s := by
  rw [al_mul h1 h2]
  exact Int.mul_ediv_cancel_left _ (by omega)
theorem al_bd {t s : Int} (h1 : 1 ≤ s) (h2 : 0 ≤ t) : 0 ≤ al t s ∧ al t s ≤ t := by
  rw [al_eq h1 h2]
  have h3 := Int.emod_nonneg t (by omega : s ≠ 0)
  have h4 : t % s ≤ t := by
    have := Int.mul_ediv_add_emod t s
    have h5 : 0 ≤ s * (t / s) := Int.mul_nonneg (by omega) (Int.ediv_nonneg h2 (by omega))
    omega
  omega
theorem pl_bd {s c t : Int} (h1 : 1 ≤ s) (h2 : 1 ≤ c) (h3 : 0 ≤ t) : 0 ≤ pl s c t ∧ pl s c t < c := by
  rw [pl_eq h1 h2 h3]
  exact ⟨Int.emod_nonneg _ (by omega), Int.emod_lt_of_pos _ (by omega)⟩
/-- Two times in one slot. -/
theorem rounds {s c t u : Int} (h1 : 1 ≤ s) (h2 : 1 ≤ c) (h3 : 0 ≤ t) (h4 : 0 ≤ u) : ((al t s - al u s).tmod (s * c) == 0) = (pl s c t == pl s c u) := by
  rw [al_mul h1 h3, al_mul h1 h4, pl_eq h1 h2 h3, pl_eq h1 h2 h4, ← Int.mul_sub]
  generalize t / s = T
  generalize u / s = U
  have hs : s ≠ 0 := by omega
  have a1 : (s * (T - U)).tmod (s * c) = 0 ↔ (s * c) ∣ (s * (T - U)) := by
    rw [Int.dvd_iff_tmod_eq_zero]
  have a2 : (s * c) ∣ (s * (T - U)) ↔ c ∣ (T - U) := Int.mul_dvd_mul_iff_left hs
  have a3 : c ∣ (T - U) ↔ T % c = U % c := by
    rw [Int.dvd_iff_emod_eq_zero]
    exact (Int.emod_eq_emod_iff_emod_sub_eq_zero).symm
  rw [Bool.eq_iff_iff]
  simp only [beq_iff_eq]
  exact a1.trans (a2.trans a3)
end Sl

section
set_option maxHeartbeats 400000
theorem align_any (t s : Int) (hi : t ≤ 9223372036854775807) (w : World) :
    Calls Tryd.prog 19 #[.int .i64 t, .int .i64 s] w fun e w' => e = .returned (.int .i64 (Sl.al t s)) ∧ w = w' := by
  by_cases h1 : s < 1
  · have H : Hid (Sl.al t s = t) := Lib.hid (by unfold Sl.al; rw [if_pos (.inl h1)])
    go_enter Tryd.func19, Tryd.ntmps19
    go_wp2
    go_ret
    exact ⟨by rw [H.out]; rfl, rfl⟩
  by_cases h2 : t < 0
  · have H : Hid (Sl.al t s = t) := Lib.hid (by unfold Sl.al; rw [if_pos (.inr h2)])
    go_enter Tryd.func19, Tryd.ntmps19
    go_wp2
    go_ret
    exact ⟨by rw [H.out]; rfl, rfl⟩
  have H := Lib.hid (Sl.al_eq (t := t) (s := s) (by omega) (by omega))
  have hm : t.tmod s = t % s := Int.tmod_eq_emod_of_nonneg (by omega)
  have hz : (s == 0) = false := by simp; omega
  have hb := Sl.al_bd (t := t) (s := s) (by omega) (by omega)
  rw [H.out] at hb
  have hw : IntKind.i64.wrap (t - t % s) = t - t % s := IntWalk.i64_in _ (by omega)
  have hn : 0 ≤ t % s := Int.emod_nonneg _ (by omega)
  have hw2 : IntKind.i64.wrap (t % s) = t % s := IntWalk.i64_in _ (by omega)
  go_enter Tryd.func19, Tryd.ntmps19
  go_wp2
  go_ret
  exact ⟨by rw [H.out]; rfl, rfl⟩

end

section
set_option maxHeartbeats 1000000
theorem place_any (s c t : Int) (hi : t ≤ 9223372036854775807) (w : World) :
    Calls Tryd.prog 46 #[.agg #[.int .i64 s, .int .i64 c], .int .i64 t] w fun e w' => e = .returned (.int .i64 (Sl.pl s c t)) ∧ Below w.heap.size w w' := by
  by_cases h1 : s < 1
  · have H : Hid (Sl.pl s c t = 0) := Lib.hid (by unfold Sl.pl; rw [if_pos (.inl h1)])
    go_enter Tryd.func46, Tryd.ntmps46
    go_wp2
    go_ret
    exact ⟨by rw [H.out]; rfl, (by repeat (first | exact Below.refl _ _ | assumption | refine Below.setCell ?_ (by first | (simp; done) | omega | (simp; omega) | (simp at *; omega)) _ | refine Below.alloc ?_ (by first | (simp; done) | omega | (simp; omega) | (simp at *; omega)) _ | refine Below.drew ?_ | (refine Below.trans ?_ (Below.mono (by assumption) (by first | (simp; done) | omega | (simp; omega) | (simp at *; omega)))) | (refine Below.trans ?_ (Below.mono (below_regrown _ _ _) (by first | (simp; done) | omega | (simp; omega) | (simp at *; omega))))))⟩
  by_cases h2 : c < 1
  · have H : Hid (Sl.pl s c t = 0) := Lib.hid (by unfold Sl.pl; rw [if_pos (.inr (.inl h2))])
    go_enter Tryd.func46, Tryd.ntmps46
    go_wp2
    go_ret
    exact ⟨by rw [H.out]; rfl, (by repeat (first | exact Below.refl _ _ | assumption | refine Below.setCell ?_ (by first | (simp; done) | omega | (simp; omega) | (simp at *; omega)) _ | refine Below.alloc ?_ (by first | (simp; done) | omega | (simp; omega) | (simp at *; omega)) _ | refine Below.drew ?_ | (refine Below.trans ?_ (Below.mono (by assumption) (by first | (simp; done) | omega | (simp; omega) | (simp at *; omega)))) | (refine Below.trans ?_ (Below.mono (below_regrown _ _ _) (by first | (simp; done) | omega | (simp; omega) | (simp at *; omega))))))⟩
  by_cases h3 : t < 0
  · have H : Hid (Sl.pl s c t = 0) := Lib.hid (by unfold Sl.pl; rw [if_pos (.inr (.inr h3))])
    go_enter Tryd.func46, Tryd.ntmps46
    go_wp2
    go_ret
    exact ⟨by rw [H.out]; rfl, (by repeat (first | exact Below.refl _ _ | assumption | refine Below.setCell ?_ (by first | (simp; done) | omega | (simp; omega) | (simp at *; omega)) _ | refine Below.alloc ?_ (by first | (simp; done) | omega | (simp; omega) | (simp at *; omega)) _ | refine Below.drew ?_ | (refine Below.trans ?_ (Below.mono (by assumption) (by first | (simp; done) | omega | (simp; omega) | (simp at *; omega)))) | (refine Below.trans ?_ (Below.mono (below_regrown _ _ _) (by first | (simp; done) | omega | (simp; omega) | (simp at *; omega))))))⟩
  have hb := Sl.al_bd (t := t) (s := s) (by omega) (by omega)
  have hq : 0 ≤ t / s ∧ t / s ≤ t := ⟨Int.ediv_nonneg (by omega) (by omega), Int.ediv_le_self _ (by omega)⟩
  have HA := Lib.hid (fun W => align_any t s hi W)
  have hd : (Sl.al t s).tdiv s = t / s := by rw [Int.tdiv_eq_ediv_of_nonneg hb.1, Sl.al_div (by omega) (by omega)]
  have hp := Sl.pl_bd (s := s) (c := c) (t := t) (by omega) (by omega) (by omega)
  have hm : (t / s).tmod c = Sl.pl s c t := by rw [Int.tmod_eq_emod_of_nonneg hq.1, Sl.pl_eq (by omega) (by omega) (by omega)]
  have hz : (s == 0) = false := by simp; omega
  have hz2 : (c == 0) = false := by simp; omega
  have hpq : Sl.pl s c t ≤ t / s := by
    rw [Sl.pl_eq (by omega) (by omega) (by omega)]
    have := Int.mul_ediv_add_emod (t / s) c
    have h5 : 0 ≤ c * (t / s / c) := Int.mul_nonneg (by omega) (Int.ediv_nonneg hq.1 (by omega))
    omega
  generalize Sl.pl s c t = p at *
  generalize t / s = q at *
  generalize Sl.al t s = a at *
  have hw1 : IntKind.i64.wrap q = q := IntWalk.i64_in _ (by omega)
  have hw2 : IntKind.i64.wrap p = p := IntWalk.i64_in _ (by omega)
  obtain ⟨kc, kf⟩ := kgrown (w.alloc (.cells #[.int .i64 s, .int .i64 c] 24))
  go_enter Tryd.func46, Tryd.ntmps46
  go_wp2_with fail
  refine wp_region_quiet_below (by kernel_rfl) (by kernel_rfl) ?_
  repeat (go_big_quiet_step (first
    | (go_at_call 19; exact Calls.regrown_of ((HA.out _).mono fun _ _ ⟨e, h⟩ => ⟨e, h ▸ Below.refl _ _⟩))))
  refine wpQuiet_nil ?_
  intro _ hw'
  obtain ⟨⟨dq, osq⟩, hw''⟩ := hw'
  subst hw''
  go_wp2
  go_ret
  exact ⟨rfl, (by repeat (first | exact Below.refl _ _ | assumption | refine Below.setCell ?_ (by first | (simp; done) | omega | (simp; omega) | (simp at *; omega)) _ | refine Below.alloc ?_ (by first | (simp; done) | omega | (simp; omega) | (simp at *; omega)) _ | refine Below.drew ?_ | (refine Below.trans ?_ (Below.mono (by assumption) (by first | (simp; done) | omega | (simp; omega) | (simp at *; omega)))) | (refine Below.trans ?_ (Below.mono (below_regrown _ _ _) (by first | (simp; done) | omega | (simp; omega) | (simp at *; omega))))))⟩

end

end Go.Proofs.YtbakngbmfgnmcaaDoor
