/-
  CONTRACT: whead's Encode.
-/
import Derived.Test.YthjpodjfiajhaaaWhPut
import Derived.Test.YthjpodjfiajhaaaWhHead
import Derived.Deep.RegionHeld3
import Derived.Laws.MakeOwn
namespace Go.Proofs.Ythjpodjfiajhaaa
open Go.RowKit Go.Sort
open Wh (At)
open Me

namespace Wh
def ints (ag xf : Int) (l : List (Int × Int)) : Nat → List Int
  | 0 => [ag, lsp l, xf, (l.length : Int)]
  | k + 1 => ints ag xf l k ++ [ends l k, (At l k).1, (At l k).2]
def enc (ag xf : Int) (l : List (Int × Int)) : List UInt8 := if val ag xf l = true then fours (ints ag xf l l.length) else []
theorem fours_append (a b : List Int) : fours (a ++ b) = fours a ++ fours b := by unfold fours; simp
theorem ints_len (ag xf : Int) (l : List (Int × Int)) (k : Nat) : (ints ag xf l k).length = 4 + 3 * k := by
  induction k with
  | zero => rfl
  | succ k ih => unfold ints; rw [List.length_append, ih]; simp; omega
end Wh

/-- What Encode hands back: new bytes, and a number. -/
def Coded (w : World) (B : List UInt8) (k : Int) (e : Ending) (w' : World) : Prop := ∃ v, e = .returned (.tuple #[v, .int .i64 k]) ∧ OwnB w.heap.size w' v B ∧ Below w.heap.size w w'
theorem ints_rd (w : World) (ns : List Int) (t : TypeId) (n : Nat) (hn : n = w.heap.size) : Rd (w.alloc (.cells (ns.map fun n => (.int .i64 n : Value)).toArray t)) (fun b => b = n) (some ⟨n, 0, none⟩) (ns.map fun n => .int .i64 n) := Rd.fresh w _ t n hn

set_option maxHeartbeats 2000000 in
theorem encode_any (ag xf : Int) (l : List (Int × Int)) (A : Option Addr) (cap : Nat) (w : World) (h : Row w A l cap) :
    Calls Try.prog 8 #[.agg #[.int .i64 ag, .int .i64 xf, .slice A l.length cap]] w (Coded w (Wh.enc ag xf l) (if Wh.val ag xf l = true then 0 else 1)) := by
  have HV : Hid (∀ W, Below w.heap.size w W → Calls Try.prog 15 #[.agg #[.int .i64 ag, .int .i64 xf, .slice A l.length cap]] W fun e w' => e = .returned (.bool (Wh.val ag xf l)) ∧ Below W.heap.size W w') := Lib.hid fun W hb => isValid_any ag xf l A cap W (h.below hb)
  cases hv : Wh.val ag xf l
  · have HQ : Hid (Wh.enc ag xf l = []) := Lib.hid (by unfold Wh.enc; rw [hv]; rfl)
    rw [hv] at HV
    clear hv h
    go_enter Try.func8, Try.ntmps8
    go_wp2_with (go_at_call 15; go_must (refine (HV.out _ ((Below.refl _ _).alloc (Nat.le_refl _) _)).mono ?_; rintro e w' ⟨rfl, hb⟩; obtain ⟨hc, hf⟩ := bcell hb; (try have hz0 : w.heap.size < w'.heap.size := Nat.lt_of_lt_of_le (by first | assumption | (simp; done) | (simp; omega)) hb.size); (try have hz1 : w.heap.size + 1 < w'.heap.size := Nat.lt_of_lt_of_le (by first | assumption | (simp; done) | (simp; omega)) hb.size); (try have hz2 : w.heap.size + 1 + 1 < w'.heap.size := Nat.lt_of_lt_of_le (by first | assumption | (simp; done) | (simp; omega)) hb.size); have hz := hb.size; (try simp at hz)))
    ((try simp only [Exit.inBlock, Exit.then]); refine bodyPost_ret (results_tmp2 rfl _ _ _) rfl ?_)
    exact ⟨_, rfl, by rw [HQ.out]; exact OwnB.nil _ _, (by repeat (first | exact Below.refl _ _ | assumption | refine Below.setCell ?_ (by first | (simp; done) | omega | (simp; omega) | (simp at *; omega)) _ | refine Below.alloc ?_ (by first | (simp; done) | omega | (simp; omega) | (simp at *; omega)) _ | refine Below.drew ?_ | (refine Below.trans ?_ (Below.mono (by assumption) (by first | (simp; done) | omega | (simp; omega) | (simp at *; omega)))) | (refine Below.trans ?_ (Below.mono (below_regrown _ _ _) (by first | (simp; done) | omega | (simp; omega) | (simp at *; omega))))))⟩
  · have HQ : Hid (Wh.enc ag xf l = Wh.fours (Wh.ints ag xf l l.length)) := Lib.hid (by unfold Wh.enc; rw [hv]; rfl)
    rw [hv] at HV
    obtain ⟨b, off, rfl, hA, hcap, a1, a2, a3, a4, a5, a6⟩ := row_val h hv
    obtain ⟨⟨g1, g2⟩, x1, x2, _⟩ := Wh.val_t hv
    have HA := Lib.hid hA
    have HH := Lib.hid (headBytes_any (l.length : Int) (by omega) (by omega))
    have HL : Hid (∀ W, Below w.heap.size w W → Calls Try.prog 18 #[.slice (some ⟨b, off, none⟩) l.length cap] W fun e w' => e = .returned (.int .i64 (Wh.lsp l)) ∧ Below W.heap.size W w') :=
      Lib.hid fun W hb => lastSpan_any l b off cap W (hA.below hb) a1 a2 (IntWalk.i64_in _ (by omega))
    obtain ⟨j0, hj0, hy0, hy1, hy2⟩ := info_parts u8info
    obtain ⟨C, CS, hmk, hcs, hC⟩ : ∃ (C : Nat) (CS : Array Value), (∀ W : World, (Instr.makeSlice 22 (.int .i64 0) (.int .i64 (16 + (l.length : Int) * 12))).run Try.prog W = .ok (.slice (some ⟨W.heap.size, 0, none⟩) 0 C) (W.alloc (.cells CS 5))) ∧ CS.size = C * 1 ∧ C ≤ 1000 := by
      refine ⟨(16 + (l.length : Int) * 12).toNat, madeCells #[.int .u8 0] ((16 + (l.length : Int) * 12).toNat * 1), fun W => ?_, size_madeCells _ _, by omega⟩
      have h := run_make (P := Try.prog) W 22 5 j0 (.int .u8 0) Try.underlying22 hj0 hy0 .i64 .i64 0 (16 + (l.length : Int) * 12) (by omega) (by omega) (by rw [hy2]; omega) (by omega)
      rw [hy1] at h
      exact h
    clear hv h hA hj0 hy0 hy1 hy2
    go_enter Try.func8, Try.ntmps8
    go_wp2_with first | (go_at_call 15; (((with_reducible refine (HV.out _ ((Below.refl _ _).alloc (Nat.le_refl _) _)).mono ?_)); rintro e w1 ⟨rfl, hb1⟩; obtain ⟨hc1, hf1⟩ := bcell hb1; (try have hq1w : w.heap.size < w1.heap.size := Nat.lt_of_lt_of_le (by first | assumption | (simp; done) | (simp; omega)) hb1.size); have hs1 := hb1.size; (try simp at hs1))) | (go_at_call 16; go_must (refine (HH.out _).mono ?_; rintro e w' ⟨rfl, rfl⟩))
    have hXB : Below (w.heap.size + 1) (w.alloc (.cells #[.int .i64 ag, .int .i64 xf, .slice (some ⟨b, off, none⟩) l.length cap] 25)) (w1.alloc (.cells CS 5)) := (hb1.mono (by simp)).alloc (by have := hb1.size; simp at this; omega) _
    have hvb : w.heap.size + 1 ≤ w1.heap.size := by have := hb1.size; simp at this; omega
    have hO0 : OwnB (w.heap.size + 1) (w1.alloc (.cells CS 5)) (.slice (some ⟨w1.heap.size, 0, none⟩) 0 C) [] := World.ownsRow_made w1 CS C hvb (by unfold maxLen; omega) hcs
    have hvx : w1.heap.size < (w1.alloc (.cells CS 5)).heap.size := by simp
    clear hb1 hc1 hf1 hq1w hs1
    generalize w1.heap.size = vb at *
    generalize w1.alloc (.cells CS 5) = X at *
    clear hcs hmk
    have hls : Wh.lsp l ≤ 4294967295 := by omega
    have hx0 : w.heap.size < X.heap.size := by omega
    obtain ⟨d0, d1, d2⟩ : X.cell? ⟨w.heap.size, 0, none⟩ = some (.int .i64 ag) ∧ X.cell? ⟨w.heap.size, 1, none⟩ = some (.int .i64 xf) ∧ X.cell? ⟨w.heap.size, 2, none⟩ = some (.slice (some ⟨b, off, none⟩) l.length cap) :=
      ⟨(hXB.cell (p := ⟨w.heap.size, 0, none⟩) (Nat.lt_succ_self _)).trans (by simp [go_sem]), (hXB.cell (p := ⟨w.heap.size, 1, none⟩) (Nat.lt_succ_self _)).trans (by simp [go_sem]), (hXB.cell (p := ⟨w.heap.size, 2, none⟩) (Nat.lt_succ_self _)).trans (by simp [go_sem])⟩
    have HC : Hid (∀ W, Below X.heap.size X W → W.cell? ⟨w.heap.size, 0, none⟩ = some (.int .i64 ag) ∧ W.cell? ⟨w.heap.size, 1, none⟩ = some (.int .i64 xf) ∧ W.cell? ⟨w.heap.size, 2, none⟩ = some (.slice (some ⟨b, off, none⟩) l.length cap)) := Lib.hid fun W hb =>
      ⟨(hb.cell (p := ⟨w.heap.size, 0, none⟩) hx0).trans d0, (hb.cell (p := ⟨w.heap.size, 1, none⟩) hx0).trans d1, (hb.cell (p := ⟨w.heap.size, 2, none⟩) hx0).trans d2⟩
    have HP : Hid (∀ W, Below X.heap.size X W → Calls Try.prog 17 #[.slice (some ⟨vb, 0, none⟩) 0 C, .slice (some ⟨W.heap.size, 0, none⟩) 4 4] (W.alloc (.cells #[.int .i64 ag, .int .i64 (Wh.lsp l), .int .i64 xf, .int .i64 (l.length : Int)] 3)) (Laid (w.heap.size + 1) (W.alloc (.cells #[.int .i64 ag, .int .i64 (Wh.lsp l), .int .i64 xf, .int .i64 (l.length : Int)] 3)) (.slice (some ⟨vb, 0, none⟩) 0 C) (Wh.fours (Wh.ints ag xf l 0)))) := Lib.hid fun W hb => by
      have := put_any (w.heap.size + 1) [] (.slice (some ⟨vb, 0, none⟩) 0 C) (Wh.ints ag xf l 0) (some ⟨W.heap.size, 0, none⟩) 4 (fun b => b = W.heap.size) (W.alloc (.cells #[.int .i64 ag, .int .i64 (Wh.lsp l), .int .i64 xf, .int .i64 (l.length : Int)] 3)) ((hO0.below hb).below ((Below.refl _ _).alloc (Nat.le_refl _) _)) (ints_rd W (Wh.ints ag xf l 0) _ _ rfl)
        (fun g hg e => by have h1 : vb = g := by simpa [Value.ownBlock] using hg
                          have := hb.size
                          have e' : g = W.heap.size := e
                          omega) (by
          intro n hn
          simp [Wh.ints] at hn
          rcases hn with rfl | rfl | rfl | rfl <;> omega) (by have := hb.size; simp; omega) (by simp) (by simp [Wh.ints])
      exact this
    have HK : Hid (∀ W1 W2, Below X.heap.size X W1 → Kp (fun b => (Value.slice (some ⟨vb, 0, none⟩) 0 C).ownBlock = some b) W1 W2 → Below (w.heap.size + 1) (w.alloc (.cells #[.int .i64 ag, .int .i64 xf, .slice (some ⟨b, off, none⟩) l.length cap] 25)) W2) := Lib.hid fun W1 W2 hb hk =>
      hXB.trans ((hb.mono (by omega)).trans (hk.below (by have := hb.size; omega) fun i hi e => by simp [Value.ownBlock] at e; omega))
    have HF : Hid (∀ W, Below (w.heap.size + 1) (w.alloc (.cells #[.int .i64 ag, .int .i64 xf, .slice (some ⟨b, off, none⟩) l.length cap] 25)) W → W.cell? ⟨w.heap.size, 0, none⟩ = some (.int .i64 ag) ∧ W.cell? ⟨w.heap.size, 1, none⟩ = some (.int .i64 xf) ∧ W.cell? ⟨w.heap.size, 2, none⟩ = some (.slice (some ⟨b, off, none⟩) l.length cap)) := Lib.hid fun W hb =>
      ⟨(hb.cell (p := ⟨w.heap.size, 0, none⟩) (Nat.lt_succ_self _)).trans (by simp [go_sem]), (hb.cell (p := ⟨w.heap.size, 1, none⟩) (Nat.lt_succ_self _)).trans (by simp [go_sem]), (hb.cell (p := ⟨w.heap.size, 2, none⟩) (Nat.lt_succ_self _)).trans (by simp [go_sem])⟩
    have HL2 : Hid (∀ W, Below X.heap.size X W → Calls Try.prog 18 #[.slice (some ⟨b, off, none⟩) l.length cap] W fun e w' => e = .returned (.int .i64 (Wh.lsp l)) ∧ Below W.heap.size W w') := Lib.hid fun W hb => HL.out W (lowBox' (hXB.trans (hb.mono (by omega))))
    clear hXB hO0 hvb HL HV HH
    generalize hls2 : Wh.lsp l = ls at *
    have HLS := Lib.hid hls2
    clear hls2
    go_region_held3 (fun W => W.cell? ⟨w.heap.size, 0, none⟩ = some (.int .i64 ag) ∧ W.cell? ⟨w.heap.size, 1, none⟩ = some (.int .i64 xf) ∧ W.cell? ⟨w.heap.size, 2, none⟩ = some (.slice (some ⟨b, off, none⟩) l.length cap)) (first | exact ⟨d0, d1, d2⟩ | exact ⟨e0, e1, e2⟩ | exact ⟨f0, f1, f2⟩ | go_keep)
      (first
        | (go_at_call 18; (with_reducible refine (HL2.out _ (by repeat (first | exact Below.refl _ _ | assumption | refine Below.setCell ?_ (by first | (simp; done) | omega | (simp; omega) | (simp at *; omega)) _ | refine Below.alloc ?_ (by first | (simp; done) | omega | (simp; omega) | (simp at *; omega)) _ | refine Below.drew ?_ | refine below_drewN ?_ _ | (refine Below.trans ?_ (Below.mono (by assumption) (by first | (simp; done) | omega | (simp; omega) | (simp at *; omega)))) | (refine Below.trans ?_ (Below.mono (below_regrown _ _ _) (by first | (simp; done) | omega | (simp; omega) | (simp at *; omega))))))).mono ?_); rintro e w2 ⟨rfl, hb2⟩; have hbb : Below X.heap.size X w2 := (by repeat (first | exact Below.refl _ _ | assumption | refine Below.setCell ?_ (by first | (simp; done) | omega | (simp; omega) | (simp at *; omega)) _ | refine Below.alloc ?_ (by first | (simp; done) | omega | (simp; omega) | (simp at *; omega)) _ | refine Below.drew ?_ | refine below_drewN ?_ _ | (refine Below.trans ?_ (Below.mono (by assumption) (by first | (simp; done) | omega | (simp; omega) | (simp at *; omega)))) | (refine Below.trans ?_ (Below.mono (below_regrown _ _ _) (by first | (simp; done) | omega | (simp; omega) | (simp at *; omega)))))); obtain ⟨e0, e1, e2⟩ := HC.out w2 hbb; have hs2 := hbb.size; have HB2 := Lib.hid hbb; clear hb2 hbb)
        | (go_at_call 17; (with_reducible refine (HP.out w2 HB2.out).mono ?_); rintro e w3 ⟨v3, rfl, ho3, hk3, hf3⟩; have hB3 := HK.out _ w3 (HB2.out.alloc HB2.out.size _) hk3; obtain ⟨f0, f1, f2⟩ := HF.out w3 hB3; have HO3 := Lib.hid ho3; have HB3 := Lib.hid hB3; clear ho3 hk3 hf3 hB3))
    have HZ := Lib.hid (Wh.ends_zero l)
    have HS := Lib.hid (Wh.ends_succ l)
    have HB : Hid (∀ i, i ≤ l.length → 16 ≤ Wh.ends l i ∧ Wh.ends l i ≤ 2000000000) := Lib.hid fun i hi => Wh.ends_bd a2 (Wh.alls_cnt a3) i hi
    have HN : Hid (∀ i, i < l.length → (1 ≤ (At l i).1 ∧ (At l i).1 ≤ 16777216) ∧ (1 ≤ (At l i).2 ∧ (At l i).2 ≤ 16777216)) := Lib.hid fun i hi => Wh.alls_num hi a3
    clear HL2 HP HC HK HB2 hs2 e0 e1 e2 d0 d1 d2 a3 a4 hvx
    go_wp2_with fail
    go_loopw [4, 5, 33] (fun at_ v i wr => ∃ j : Nat, j ≤ l.length ∧ i = .int .i64 j ∧ at_ = .int .i64 (Wh.ends l j) ∧ Hid (OwnB (w.heap.size + 1) wr v (Wh.fours (Wh.ints ag xf l j))) ∧ Hid (Below (w.heap.size + 1) (w.alloc (.cells #[.int .i64 ag, .int .i64 xf, .slice (some ⟨b, off, none⟩) l.length cap] 25)) wr)) (fun _ _ i _ => l.length - (intOf i).toNat)
    case atStart => exact ⟨0, Nat.zero_le _, rfl, by rw [HZ.out, Int.mul_comm], HO3, HB3⟩
    case round =>
      obtain ⟨j, hj, rfl, rfl, ho, hR⟩ := hrel
      have hAr := HA.out.below (lowBox' hR.out)
      have hbl := hAr.lt
      obtain ⟨x0, x1', x2'⟩ := HF.out wr hR.out
      by_cases hlt : j < l.length
      · have c0 := hAr.st j hlt
        have c1 := hAr.ct j hlt
        obtain ⟨⟨p1, p2⟩, p3, p4⟩ := HN.out j hlt
        obtain ⟨q1, q2⟩ := HB.out j (by omega)
        have HE := Lib.hid (HS.out j)
        have hsz : w.heap.size + 1 ≤ wr.heap.size := by have := hR.out.size; simp at this; omega
        have HP : Hid (Calls Try.prog 17 #[u5, .slice (some ⟨wr.heap.size + 1, 0, none⟩) 3 3] ((wr.alloc (.cells #[.int .i64 (At l j).1, .int .i64 (At l j).2] 41)).alloc (.cells #[.int .i64 (Wh.ends l j), .int .i64 (At l j).1, .int .i64 (At l j).2] 3)) (Laid (w.heap.size + 1) ((wr.alloc (.cells #[.int .i64 (At l j).1, .int .i64 (At l j).2] 41)).alloc (.cells #[.int .i64 (Wh.ends l j), .int .i64 (At l j).1, .int .i64 (At l j).2] 3)) u5 (Wh.fours (Wh.ints ag xf l (j + 1))))) := Lib.hid (by
          have := put_any (w.heap.size + 1) (Wh.fours (Wh.ints ag xf l j)) u5 [Wh.ends l j, (At l j).1, (At l j).2] (some ⟨wr.heap.size + 1, 0, none⟩) 3 (fun b => b = wr.heap.size + 1) ((wr.alloc (.cells #[.int .i64 (At l j).1, .int .i64 (At l j).2] 41)).alloc (.cells #[.int .i64 (Wh.ends l j), .int .i64 (At l j).1, .int .i64 (At l j).2] 3)) ((ho.out.below ((Below.refl _ _).alloc (Nat.le_refl _) _)).below ((Below.refl _ _).alloc (Nat.le_refl _) _)) (ints_rd _ [Wh.ends l j, (At l j).1, (At l j).2] _ _ (by simp))
            (fun g hg e => by have := (own_lt ho.out g hg).2
                              have e' : g = wr.heap.size + 1 := e
                              omega) (by
              intro n hn
              simp at hn
              rcases hn with rfl | rfl | rfl <;> omega) (by simp; omega) (by rw [Wh.fours_len, Wh.ints_len]; omega) (by simp)
          rw [← Wh.fours_append] at this
          exact this)
        have HKB : Hid (∀ w4, Kp (fun b => u5.ownBlock = some b) ((wr.alloc (.cells #[.int .i64 (At l j).1, .int .i64 (At l j).2] 41)).alloc (.cells #[.int .i64 (Wh.ends l j), .int .i64 (At l j).1, .int .i64 (At l j).2] 3)) w4 → Below (w.heap.size + 1) (w.alloc (.cells #[.int .i64 ag, .int .i64 xf, .slice (some ⟨b, off, none⟩) l.length cap] 25)) w4 ∧ w4.cell? ⟨wr.heap.size, 1, none⟩ = some (.int .i64 (At l j).2)) := Lib.hid fun w4 hk => by
          have h1 : Below (w.heap.size + 1) (w.alloc (.cells #[.int .i64 ag, .int .i64 xf, .slice (some ⟨b, off, none⟩) l.length cap] 25)) ((wr.alloc (.cells #[.int .i64 (At l j).1, .int .i64 (At l j).2] 41)).alloc (.cells #[.int .i64 (Wh.ends l j), .int .i64 (At l j).1, .int .i64 (At l j).2] 3)) := (hR.out.alloc hsz _).alloc (by simp; omega) _
          refine ⟨h1.trans (hk.below (by simp; omega) fun i hi e => by have := (own_lt ho.out i e).1; omega), ?_⟩
          rw [hk.cell (p := ⟨wr.heap.size, 1, none⟩) (by simp; omega) (fun e => by have := (own_lt ho.out _ e).2; simp at this)]
          simp [go_sem]
        clear hAr HB HS HZ HN HF HO3 HB3 ho
        generalize Wh.ends l j = q at *
        generalize At l j = a at *
        obtain ⟨s, c⟩ := a
        dsimp only at *
        go_wp2_with (go_at_call 17; (with_reducible refine HP.out.mono ?_); rintro e w4 ⟨v4, rfl, ho4, hk4, hf4⟩; obtain ⟨hb4, z1⟩ := HKB.out w4 hk4; have HO4 := Lib.hid ho4; have HB4 := Lib.hid hb4; clear ho4 hk4 hf4 hb4)
        go_roundw
        case rel => exact ⟨j + 1, by omega, by go_num, congrArg (Value.int .i64) (by rw [HE.out]; omega), HO4, HB4⟩
        case measure => simp [intOf]; omega
      · obtain rfl : j = l.length := by omega
        clear hAr HB HS HZ HN HF HO3 HB3
        go_wp2
        ((try simp only [Exit.inBlock, Exit.then]); refine bodyPost_ret (results_tmp2 rfl _ _ _) rfl ?_)
        exact ⟨_, rfl, by rw [HQ.out]; exact ho.out.base (Nat.le_succ _), lowBox' hR.out⟩
end Go.Proofs.Ythjpodjfiajhaaa
