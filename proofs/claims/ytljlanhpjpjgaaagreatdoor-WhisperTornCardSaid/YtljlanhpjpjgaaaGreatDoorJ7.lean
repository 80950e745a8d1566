/- WhEnc WhPre WhNum WhRead -/
import Derived.Test.YtljlanhpjpjgaaaGreatDoorJ1
import Derived.Test.YtljlanhpjpjgaaaGreatDoorJ6
import Derived.Deep.RegionHeld3
import Derived.Laws.MakeOwn
import Derived.Laws.IdiomStrings
import Derived.Lib.BufferRead
import Derived.Laws.BitsLemmas
import Derived.Deep.DeepCutAuto
namespace Go.Proofs.YtljlanhpjpjgaaaGreatDoor
set_option maxRecDepth 100000
set_option maxHeartbeats 8000000
section
open Go.RowKit Go.Sort
open Wh (At)
open Me
namespace Wh
def ints (ag xf : Int) (l : List (Int × Int)) : Nat → List Int
 | 0 => [ag, lsp l, xf, (l.length : Int)]
 | k + 1 => ints ag xf l k ++ [ends l k, (At l k).1, (At l k).2]
def enc (ag xf : Int) (l : List (Int × Int)) : List UInt8 := if val ag xf l = true then fours (ints ag xf l l.length) else []
theorem fours_append (a b : List Int) : fours (a ++ b) = fours a ++ fours b := by unfold fours; simp
theorem ints_len (ag xf : Int) (l : List (Int × Int)) (k : Nat) : (ints ag xf l k).length = 4 + 3 * k := by
 induction k with
 | zero => rfl
 | succ k ih => unfold ints; rw [List.length_append, ih]; simp; omega
end Wh
def Coded (w : World) (B : List UInt8) (k : Int) (e : Ending) (w' : World) : Prop := ∃ v, e = .returned (.tuple #[v, .int .i64 k]) ∧ OwnB w.heap.size w' v B ∧ Below w.heap.size w w'
theorem ints_rd (w : World) (ns : List Int) (t : TypeId) (n : Nat) (hn : n = w.heap.size) : Rd (w.alloc (.cells (ns.map fun n => (.int .i64 n : Value)).toArray t)) (fun b => b = n) (some ⟨n, 0, none⟩) (ns.map fun n => .int .i64 n) := Rd.fresh w _ t n hn
theorem encode_any (ag xf : Int) (l : List (Int × Int)) (A : Option Addr) (cap : Nat) (w : World) (h : Row w A l cap) :
 Calls Tryz.prog 28 #[.agg #[.int .i64 ag, .int .i64 xf, .slice A l.length cap]] w (Coded w (Wh.enc ag xf l) (if Wh.val ag xf l = true then 0 else 1)) := by
 have HV : Hid (∀ W, Below w.heap.size w W → Calls Tryz.prog 57 #[.agg #[.int .i64 ag, .int .i64 xf, .slice A l.length cap]] W fun e w' => e = .returned (.bool (Wh.val ag xf l)) ∧ Below W.heap.size W w') := Lib.hid fun W hb => isValid_any ag xf l A cap W (h.below hb)
 cases hv : Wh.val ag xf l
 ·have HQ : Hid (Wh.enc ag xf l = []) := Lib.hid (by unfold Wh.enc; rw [hv]; rfl)
  rw [hv] at HV
  clear hv h
  go_enter Tryz.func28, Tryz.ntmps28
  go_wp2_with (go_at_call 57; go_must (refine (HV.out _ ((Below.refl _ _).alloc (Nat.le_refl _) _)).mono ?_; rintro e w' ⟨rfl, hb⟩; obtain ⟨hc, hf⟩ := bcell hb; (try have hz0 : w.heap.size < w'.heap.size := Bz hb); (try have hz1 : w.heap.size + 1 < w'.heap.size := Bz hb); (try have hz2 : w.heap.size + 1 + 1 < w'.heap.size := Bz hb); have hz := hb.size; (try simp at hz)))
  ((try simp only [Exit.inBlock, Exit.then]); refine bodyPost_ret (results_tmp2 rfl _ _ _) rfl ?_)
  exact ⟨_, rfl, by rw [HQ.out]; exact OwnB.nil _ _, Bq⟩
 ·have HQ : Hid (Wh.enc ag xf l = Wh.fours (Wh.ints ag xf l l.length)) := Lib.hid (by unfold Wh.enc; rw [hv]; rfl)
  rw [hv] at HV
  obtain ⟨b, off, rfl, hA, hcap, a1, a2, a3, a4, a5, a6⟩ := row_val h hv
  obtain ⟨⟨g1, g2⟩, x1, x2, _⟩ := Wh.val_t hv
  have HA := Lib.hid hA
  have HH := Lib.hid (headBytes_any (l.length : Int) (by omega) (by omega))
  have HL : Hid (∀ W, Below w.heap.size w W → Calls Tryz.prog 60 #[.slice (some ⟨b, off, none⟩) l.length cap] W fun e w' => e = .returned (.int .i64 (Wh.lsp l)) ∧ Below W.heap.size W w') :=
   Lib.hid fun W hb => lastSpan_any l b off cap W (hA.below hb) a1 a2 (IntWalk.i64_in _ (by omega))
  obtain ⟨j0, hj0, hy0, hy1, hy2⟩ := info_parts u8info
  obtain ⟨C, CS, hmk, hcs, hC⟩ : ∃ (C : Nat) (CS : Array Value), (∀ W : World, (Instr.makeSlice 45 (.int .i64 0) (.int .i64 (16 + (l.length : Int) * 12))).run Tryz.prog W = .ok (.slice (some ⟨W.heap.size, 0, none⟩) 0 C) (W.alloc (.cells CS 5))) ∧ CS.size = C * 1 ∧ C ≤ 1000 := by
   refine ⟨(16 + (l.length : Int) * 12).toNat, madeCells #[.int .u8 0] ((16 + (l.length : Int) * 12).toNat * 1), fun W => ?_, size_madeCells _ _, by omega⟩
   have h := run_make (P := Tryz.prog) W 45 5 j0 (.int .u8 0) Tryz.underlying45 hj0 hy0 .i64 .i64 0 (16 + (l.length : Int) * 12) (by omega) (by omega) (by rw [hy2]; omega) (by omega)
   rw [hy1] at h
   exact h
  clear hv h hA hj0 hy0 hy1 hy2
  go_enter Tryz.func28, Tryz.ntmps28
  go_wp2_with first | (go_at_call 57; (((with_reducible refine (HV.out _ ((Below.refl _ _).alloc (Nat.le_refl _) _)).mono ?_)); rintro e w1 ⟨rfl, hb1⟩; obtain ⟨hc1, hf1⟩ := bcell hb1; (try have hq1w : w.heap.size < w1.heap.size := Bz hb1); have hs1 := hb1.size; (try simp at hs1))) | (go_at_call 58; go_must (refine (HH.out _).mono ?_; rintro e w' ⟨rfl, rfl⟩))
  have hXB : Below (w.heap.size + 1) (w.alloc (.cells #[.int .i64 ag, .int .i64 xf, .slice (some ⟨b, off, none⟩) l.length cap] 24)) (w1.alloc (.cells CS 5)) := (hb1.mono (by simp)).alloc (by have := hb1.size; simp at this; omega) _
  have hvb : w.heap.size + 1 ≤ w1.heap.size := by have := hb1.size; simp at this; omega
  have hO0 : OwnB (w.heap.size + 1) (w1.alloc (.cells CS 5)) (.slice (some ⟨w1.heap.size, 0, none⟩) 0 C) [] := World.ownsRow_made w1 CS C hvb (by unfold maxLen; omega) hcs
  have hvx : w1.heap.size < (w1.alloc (.cells CS 5)).heap.size := by simp
  clear hb1 hc1 hf1 hq1w hs1
  generalize w1.heap.size = vb at *
  generalize w1.alloc (.cells CS 5) = X at *
  clear hcs hmk
  have hls : Wh.lsp l ≤ 4294967295 := by omega
  have hx0 : w.heap.size < X.heap.size := by omega
  obtain ⟨d0, d1, d2⟩ : X.cell? ⟨w.heap.size, 0, none⟩ = some (.int .i64 ag) ∧ X.cell? ⟨w.heap.size, 1, none⟩ = some (.int .i64 xf) ∧ X.cell? ⟨w.heap.size, 2, none⟩ = some (.slice (some ⟨b, off, none⟩) l.length cap) :=
   ⟨(hXB.cell (p := ⟨w.heap.size, 0, none⟩) (Nat.lt_succ_self _)).trans (by simp [go_sem]), (hXB.cell (p := ⟨w.heap.size, 1, none⟩) (Nat.lt_succ_self _)).trans (by simp [go_sem]), (hXB.cell (p := ⟨w.heap.size, 2, none⟩) (Nat.lt_succ_self _)).trans (by simp [go_sem])⟩
  have HC : Hid (∀ W, Below X.heap.size X W → W.cell? ⟨w.heap.size, 0, none⟩ = some (.int .i64 ag) ∧ W.cell? ⟨w.heap.size, 1, none⟩ = some (.int .i64 xf) ∧ W.cell? ⟨w.heap.size, 2, none⟩ = some (.slice (some ⟨b, off, none⟩) l.length cap)) := Lib.hid fun W hb =>
   ⟨(hb.cell (p := ⟨w.heap.size, 0, none⟩) hx0).trans d0, (hb.cell (p := ⟨w.heap.size, 1, none⟩) hx0).trans d1, (hb.cell (p := ⟨w.heap.size, 2, none⟩) hx0).trans d2⟩
  have HP : Hid (∀ W, Below X.heap.size X W → Calls Tryz.prog 59 #[.slice (some ⟨vb, 0, none⟩) 0 C, .slice (some ⟨W.heap.size, 0, none⟩) 4 4] (W.alloc (.cells #[.int .i64 ag, .int .i64 (Wh.lsp l), .int .i64 xf, .int .i64 (l.length : Int)] 3)) (Laid (w.heap.size + 1) (W.alloc (.cells #[.int .i64 ag, .int .i64 (Wh.lsp l), .int .i64 xf, .int .i64 (l.length : Int)] 3)) (.slice (some ⟨vb, 0, none⟩) 0 C) (Wh.fours (Wh.ints ag xf l 0)))) := Lib.hid fun W hb => by
   have := wput_any (w.heap.size + 1) [] (.slice (some ⟨vb, 0, none⟩) 0 C) (Wh.ints ag xf l 0) (some ⟨W.heap.size, 0, none⟩) 4 (fun b => b = W.heap.size) (W.alloc (.cells #[.int .i64 ag, .int .i64 (Wh.lsp l), .int .i64 xf, .int .i64 (l.length : Int)] 3)) ((hO0.below hb).below ((Below.refl _ _).alloc (Nat.le_refl _) _)) (ints_rd W (Wh.ints ag xf l 0) _ _ rfl)
    (fun g hg e => by have h1 : vb = g := by simpa [Value.ownBlock] using hg
                      have := hb.size
                      have e' : g = W.heap.size := e
                      omega) (by
     intro n hn
     simp [Wh.ints] at hn
     rcases hn with rfl | rfl | rfl | rfl <;> omega) (by have := hb.size; simp; omega) (by simp) (by simp [Wh.ints])
   exact this
  have HK : Hid (∀ W1 W2, Below X.heap.size X W1 → Kp (fun b => (Value.slice (some ⟨vb, 0, none⟩) 0 C).ownBlock = some b) W1 W2 → Below (w.heap.size + 1) (w.alloc (.cells #[.int .i64 ag, .int .i64 xf, .slice (some ⟨b, off, none⟩) l.length cap] 24)) W2) := Lib.hid fun W1 W2 hb hk =>
   hXB.trans ((hb.mono (by omega)).trans (hk.below (by have := hb.size; omega) fun i hi e => by simp [Value.ownBlock] at e; omega))
  have HF : Hid (∀ W, Below (w.heap.size + 1) (w.alloc (.cells #[.int .i64 ag, .int .i64 xf, .slice (some ⟨b, off, none⟩) l.length cap] 24)) W → W.cell? ⟨w.heap.size, 0, none⟩ = some (.int .i64 ag) ∧ W.cell? ⟨w.heap.size, 1, none⟩ = some (.int .i64 xf) ∧ W.cell? ⟨w.heap.size, 2, none⟩ = some (.slice (some ⟨b, off, none⟩) l.length cap)) := Lib.hid fun W hb =>
   ⟨(hb.cell (p := ⟨w.heap.size, 0, none⟩) (Nat.lt_succ_self _)).trans (by simp [go_sem]), (hb.cell (p := ⟨w.heap.size, 1, none⟩) (Nat.lt_succ_self _)).trans (by simp [go_sem]), (hb.cell (p := ⟨w.heap.size, 2, none⟩) (Nat.lt_succ_self _)).trans (by simp [go_sem])⟩
  have HL2 : Hid (∀ W, Below X.heap.size X W → Calls Tryz.prog 60 #[.slice (some ⟨b, off, none⟩) l.length cap] W fun e w' => e = .returned (.int .i64 (Wh.lsp l)) ∧ Below W.heap.size W w') := Lib.hid fun W hb => HL.out W (lowBox' (hXB.trans (hb.mono (by omega))))
  clear hXB hO0 hvb HL HV HH
  generalize hls2 : Wh.lsp l = ls at *
  have HLS := Lib.hid hls2
  clear hls2
  go_region_held3 (fun W => W.cell? ⟨w.heap.size, 0, none⟩ = some (.int .i64 ag) ∧ W.cell? ⟨w.heap.size, 1, none⟩ = some (.int .i64 xf) ∧ W.cell? ⟨w.heap.size, 2, none⟩ = some (.slice (some ⟨b, off, none⟩) l.length cap)) (first | exact ⟨d0, d1, d2⟩ | exact ⟨e0, e1, e2⟩ | exact ⟨f0, f1, f2⟩ | go_keep)
   (first
    | (go_at_call 60; (with_reducible refine (HL2.out _ Bqn).mono ?_); rintro e w2 ⟨rfl, hb2⟩; have hbb : Below X.heap.size X w2 := Bqn; obtain ⟨e0, e1, e2⟩ := HC.out w2 hbb; have hs2 := hbb.size; have HB2 := Lib.hid hbb; clear hb2 hbb)
    | (go_at_call 59; (with_reducible refine (HP.out w2 HB2.out).mono ?_); rintro e w3 ⟨v3, rfl, ho3, hk3, hf3⟩; have hB3 := HK.out _ w3 (HB2.out.alloc HB2.out.size _) hk3; obtain ⟨f0, f1, f2⟩ := HF.out w3 hB3; have HO3 := Lib.hid ho3; have HB3 := Lib.hid hB3; clear ho3 hk3 hf3 hB3))
  have HZ := Lib.hid (Wh.ends_zero l)
  have HS := Lib.hid (Wh.ends_succ l)
  have HB : Hid (∀ i, i ≤ l.length → 16 ≤ Wh.ends l i ∧ Wh.ends l i ≤ 2000000000) := Lib.hid fun i hi => Wh.ends_bd a2 (Wh.alls_cnt a3) i hi
  have HN : Hid (∀ i, i < l.length → (1 ≤ (At l i).1 ∧ (At l i).1 ≤ 16777216) ∧ (1 ≤ (At l i).2 ∧ (At l i).2 ≤ 16777216)) := Lib.hid fun i hi => Wh.alls_num hi a3
  clear HL2 HP HC HK HB2 hs2 e0 e1 e2 d0 d1 d2 a3 a4 hvx
  go_wp2_with fail
  go_loopw [4, 5, 33] (fun at_ v i wr => ∃ j : Nat, j ≤ l.length ∧ i = .int .i64 j ∧ at_ = .int .i64 (Wh.ends l j) ∧ Hid (OwnB (w.heap.size + 1) wr v (Wh.fours (Wh.ints ag xf l j))) ∧ Hid (Below (w.heap.size + 1) (w.alloc (.cells #[.int .i64 ag, .int .i64 xf, .slice (some ⟨b, off, none⟩) l.length cap] 24)) wr)) (fun _ _ i _ => l.length - (intOf i).toNat)
  case atStart => exact ⟨0, Nat.zero_le _, rfl, by rw [HZ.out, Int.mul_comm], HO3, HB3⟩
  case round =>
   obtain ⟨j, hj, rfl, rfl, ho, hR⟩ := hrel
   have hAr := HA.out.below (lowBox' hR.out)
   have hbl := hAr.lt
   obtain ⟨x0, x1', x2'⟩ := HF.out wr hR.out
   by_cases hlt : j < l.length
   ·have c0 := hAr.st j hlt
    have c1 := hAr.ct j hlt
    obtain ⟨⟨p1, p2⟩, p3, p4⟩ := HN.out j hlt
    obtain ⟨q1, q2⟩ := HB.out j (by omega)
    have HE := Lib.hid (HS.out j)
    have hsz : w.heap.size + 1 ≤ wr.heap.size := by have := hR.out.size; simp at this; omega
    have HP : Hid (Calls Tryz.prog 59 #[u5, .slice (some ⟨wr.heap.size + 1, 0, none⟩) 3 3] ((wr.alloc (.cells #[.int .i64 (At l j).1, .int .i64 (At l j).2] 56)).alloc (.cells #[.int .i64 (Wh.ends l j), .int .i64 (At l j).1, .int .i64 (At l j).2] 3)) (Laid (w.heap.size + 1) ((wr.alloc (.cells #[.int .i64 (At l j).1, .int .i64 (At l j).2] 56)).alloc (.cells #[.int .i64 (Wh.ends l j), .int .i64 (At l j).1, .int .i64 (At l j).2] 3)) u5 (Wh.fours (Wh.ints ag xf l (j + 1))))) := Lib.hid (by
     have := wput_any (w.heap.size + 1) (Wh.fours (Wh.ints ag xf l j)) u5 [Wh.ends l j, (At l j).1, (At l j).2] (some ⟨wr.heap.size + 1, 0, none⟩) 3 (fun b => b = wr.heap.size + 1) ((wr.alloc (.cells #[.int .i64 (At l j).1, .int .i64 (At l j).2] 56)).alloc (.cells #[.int .i64 (Wh.ends l j), .int .i64 (At l j).1, .int .i64 (At l j).2] 3)) ((ho.out.below ((Below.refl _ _).alloc (Nat.le_refl _) _)).below ((Below.refl _ _).alloc (Nat.le_refl _) _)) (ints_rd _ [Wh.ends l j, (At l j).1, (At l j).2] _ _ (by simp))
      (fun g hg e => by have := (own_lt ho.out g hg).2
                        have e' : g = wr.heap.size + 1 := e
                        omega) (by
       intro n hn
       simp at hn
       rcases hn with rfl | rfl | rfl <;> omega) (by simp; omega) (by rw [Wh.fours_len, Wh.ints_len]; omega) (by simp)
     rw [← Wh.fours_append] at this
     exact this)
    have HKB : Hid (∀ w4, Kp (fun b => u5.ownBlock = some b) ((wr.alloc (.cells #[.int .i64 (At l j).1, .int .i64 (At l j).2] 56)).alloc (.cells #[.int .i64 (Wh.ends l j), .int .i64 (At l j).1, .int .i64 (At l j).2] 3)) w4 → Below (w.heap.size + 1) (w.alloc (.cells #[.int .i64 ag, .int .i64 xf, .slice (some ⟨b, off, none⟩) l.length cap] 24)) w4 ∧ w4.cell? ⟨wr.heap.size, 1, none⟩ = some (.int .i64 (At l j).2)) := Lib.hid fun w4 hk => by
     have h1 : Below (w.heap.size + 1) (w.alloc (.cells #[.int .i64 ag, .int .i64 xf, .slice (some ⟨b, off, none⟩) l.length cap] 24)) ((wr.alloc (.cells #[.int .i64 (At l j).1, .int .i64 (At l j).2] 56)).alloc (.cells #[.int .i64 (Wh.ends l j), .int .i64 (At l j).1, .int .i64 (At l j).2] 3)) := (hR.out.alloc hsz _).alloc (by simp; omega) _
     refine ⟨h1.trans (hk.below (by simp; omega) fun i hi e => by have := (own_lt ho.out i e).1; omega), ?_⟩
     rw [hk.cell (p := ⟨wr.heap.size, 1, none⟩) (by simp; omega) (fun e => by have := (own_lt ho.out _ e).2; simp at this)]
     simp [go_sem]
    clear hAr HB HS HZ HN HF HO3 HB3 ho
    generalize Wh.ends l j = q at *
    generalize At l j = a at *
    obtain ⟨s, c⟩ := a
    dsimp only at *
    go_wp2_with (go_at_call 59; (with_reducible refine HP.out.mono ?_); rintro e w4 ⟨v4, rfl, ho4, hk4, hf4⟩; obtain ⟨hb4, z1⟩ := HKB.out w4 hk4; have HO4 := Lib.hid ho4; have HB4 := Lib.hid hb4; clear ho4 hk4 hf4 hb4)
    go_roundw
    case rel => exact ⟨j + 1, by omega, by go_num, congrArg (Value.int .i64) (by rw [HE.out]; omega), HO4, HB4⟩
    case measure => simp [intOf]; omega
   ·obtain rfl : j = l.length := by omega
    clear hAr HB HS HZ HN HF HO3 HB3
    go_wp2
    ((try simp only [Exit.inBlock, Exit.then]); refine bodyPost_ret (results_tmp2 rfl _ _ _) rfl ?_)
    exact ⟨_, rfl, by rw [HQ.out]; exact ho.out.base (Nat.le_succ _), lowBox' hR.out⟩
end
section
open Go.RowKit Go.Sort
open Me
theorem equal_any (v v' : Value) (l m : List UInt8) (w : World) (h1 : Reads w v l) (h2 : Reads w v' m) :
 Calls Tryz.prog 118 #[v, v'] w fun e w' => e = .returned (.bool (decide (l = m))) ∧ w = w' := by
 have c1 := h1.conv
 have c2 := h2.conv
 clear h1 h2
 by_cases hlm : l = m
 ·subst hlm
  go_enter Tryz.func118, Tryz.ntmps118
  go_wp2
  go_ret
  exact ⟨by simp, rfl⟩
 ·have HD := Lib.hid (decide_eq_false hlm)
  have hbe : (l == m) = false := by simp [hlm]
  clear hlm
  go_enter Tryz.func118, Tryz.ntmps118
  go_wp2
  go_ret
  exact ⟨by rw [HD.out]; rfl, rfl⟩
theorem hasPrefix_any (A A' : Option Addr) (L E : List UInt8) (c c' : Nat) (w : World) (h1 : Reads w (.slice A L.length c) L) (h2 : Reads w (.slice A' E.length c') E) :
 Calls Tryz.prog 99 #[.slice A L.length c, .slice A' E.length c'] w fun e w' => e = .returned (.bool (decide (E.length ≤ L.length ∧ L.take E.length = E))) ∧ w = w' := by
 have hcl : L.length ≤ c := by
  obtain ⟨_, _, e, hc, _⟩ := h1
  injection e with _ _ e3
  omega
 by_cases hn : E.length ≤ L.length
 ·have HE := Lib.hid (equal_any (.slice A E.length c) (.slice A' E.length c') (L.take E.length) E w (h1.take hn) h2)
  have HD : Hid (decide (E.length ≤ L.length ∧ L.take E.length = E) = decide (L.take E.length = E)) := Lib.hid (by simp [hn])
  generalize decide (L.take E.length = E) = r at *
  have hnI : (E.length : Int) ≤ (L.length : Int) := by omega
  have hnc : E.length ≤ c := by omega
  clear h1 h2
  go_enter Tryz.func99, Tryz.ntmps99
  go_wp2_with (go_at_call 118; go_must (refine (HE.out).mono ?_; rintro e w' ⟨rfl, rfl⟩))
  go_ret
  exact ⟨by rw [HD.out]; rfl, rfl⟩
 ·have HD : Hid (decide (E.length ≤ L.length ∧ L.take E.length = E) = false) := Lib.hid (by simp [hn])
  have hnI : (L.length : Int) < (E.length : Int) := by omega
  clear h1 h2
  go_enter Tryz.func99, Tryz.ntmps99
  go_wp2_with fail
  go_ret
  exact ⟨by rw [HD.out]; rfl, rfl⟩
end
section
open Go.RowKit Go.Sort
open Me
theorem number_lit (b off n cap : Nat) (c0 c1 c2 c3 : Nat) (w : World) (hn : 4 ≤ n) (k0 : c0 < 256) (k1 : c1 < 256) (k2 : c2 < 256) (k3 : c3 < 256)
 (e0 : w.cell? ⟨b, off, none⟩ = some (.int .u8 c0)) (e1 : w.cell? ⟨b, off + 1, none⟩ = some (.int .u8 c1)) (e2 : w.cell? ⟨b, off + 2, none⟩ = some (.int .u8 c2)) (e3 : w.cell? ⟨b, off + 3, none⟩ = some (.int .u8 c3)) :
 Calls Tryz.prog 117 #[.slice (some ⟨b, off, none⟩) n cap] w fun e w' => e = .returned (.int .i64 ((c0 : Int) * 16777216 + c1 * 65536 + c2 * 256 + c3)) ∧ ∃ m, w' = w.drewN m := by
 have HJ := Lib.hid (Wh.join4 c0 c1 c2 c3 k0 k1 k2 k3)
 go_enter Tryz.func117, Tryz.ntmps117
 go_wp2_with fail
 go_quiet (fail)
 go_wp2
 go_ret
 exact ⟨by rw [← HJ.out]; rfl, _, rfl⟩
theorem number_dr (L : List UInt8) (i b off n cap : Nat) (w : World) (h : By w b off L) (hi : i + 4 ≤ L.length) (hn : 4 ≤ n) :
 Calls Tryz.prog 117 #[.slice (some ⟨b, off + i, none⟩) n cap] w fun e w' => e = .returned (.int .i64 (Wh.nm L i)) ∧ ∃ m, w' = w.drewN m :=
 number_lit b (off + i) n cap _ _ _ _ w hn (Wh.by_lt L i) (Wh.by_lt L (i + 1)) (Wh.by_lt L (i + 2)) (Wh.by_lt L (i + 3)) (h.at_ i (by omega)) (h.at_ (i + 1) (by omega)) (h.at_ (i + 2) (by omega)) (h.at_ (i + 3) (by omega))
theorem number_any (L : List UInt8) (i b off n cap : Nat) (w : World) (h : By w b off L) (hi : i + 4 ≤ L.length) (hn : 4 ≤ n) :
 Calls Tryz.prog 117 #[.slice (some ⟨b, off + i, none⟩) n cap] w fun e w' => e = .returned (.int .i64 (Wh.nm L i)) ∧ Below w.heap.size w w' :=
 (number_dr L i b off n cap w h hi hn).mono fun _ _ ⟨he, _, hm⟩ => ⟨he, hm ▸ ⟨rfl, rfl, rfl, Nat.le_refl _, fun _ _ => rfl⟩⟩
end
section
open Go.RowKit Go.Sort
open Wh (At)
open Me
theorem arinfo : (Tryz.prog.info? 56).map (fun i => (i.zero, i.size, i.bytes)) = some (some (.agg #[.int .i64 0, .int .i64 0]), 2, 16) := by kernel_rfl
namespace Wh
def archs (L : List UInt8) (n : Nat) : List (Int × Int) := (List.range n).map fun i => (nm L (16 + 12 * i + 4), nm L (16 + 12 * i + 8))
theorem archs_len (L : List UInt8) (n : Nat) : (archs L n).length = n := by unfold archs; simp
theorem archs_at (L : List UInt8) (n i : Nat) (h : i < n) : At (archs L n) i = (nm L (16 + 12 * i + 4), nm L (16 + 12 * i + 8)) := by
 unfold At archs
 rw [List.getD_eq_getElem?_getD, List.getElem?_map, List.getElem?_range h]
 rfl
end Wh
theorem read_short (A : Option Addr) (n cap : Nat) (hn : n < 16) (w : World) :
 Calls Tryz.prog 98 #[.slice A n cap] w fun e w' => e = .returned (.tuple #[.agg #[.int .i64 0, .int .i64 0, .slice none 0 0], .bool false]) ∧ Below w.heap.size w w' := by
 go_enter Tryz.func98, Tryz.ntmps98
 go_wp2
 exact bodyPost_ret (v := .tuple #[.agg #[.int .i64 0, .int .i64 0, .slice none 0 0], .bool false]) (by simp [results, Tryz.results98, go_sem, *]) rfl ⟨rfl, Bq⟩
theorem read_no (L : List UInt8) (b off cap : Nat) (w : World) (h : By w b off L) (h16 : 16 ≤ L.length) (hc : L.length ≤ cap) (hno : 8 < Wh.nm L 12 ∨ (L.length : Int) < 16 + Wh.nm L 12 * 12) :
 Calls Tryz.prog 98 #[.slice (some ⟨b, off, none⟩) L.length cap] w fun e w' => e = .returned (.tuple #[.agg #[.int .i64 0, .int .i64 0, .slice none 0 0], .bool false]) ∧ Below w.heap.size w w' := by
 obtain ⟨z1, z2⟩ := Wh.nm_bd L 12
 have HN : Hid (∀ W n c, 4 ≤ n → Below w.heap.size w W → Calls Tryz.prog 117 #[.slice (some ⟨b, off + 12, none⟩) n c] W fun e w' => e = .returned (.int .i64 (Wh.nm L 12)) ∧ Below W.heap.size W w') := Lib.hid fun W n c hn hb => number_any L 12 b off n c W (h.below hb) (by omega) hn
 have HH := Lib.hid (headBytes_any (Wh.nm L 12) (by omega) (by omega))
 clear h z2
 generalize Wh.nm L 12 = N at *
 have hcn : ¬ cap = 12 := by omega
 by_cases h8 : 8 < N
 ·go_enter Tryz.func98, Tryz.ntmps98
  go_wp2_with first | (go_at_call 117; (((with_reducible refine (HN.out _ _ _ (by omega) ((Below.refl _ _).alloc (Nat.le_refl _) _)).mono ?_)); rintro e w1 ⟨rfl, hb1⟩; obtain ⟨hc1, hf1⟩ := bcell hb1; (try have hq1w : w.heap.size < w1.heap.size := Bz hb1); have hs1 := hb1.size; (try simp at hs1))) | (go_at_call 58; go_must (refine (HH.out _).mono ?_; rintro e w' ⟨rfl, rfl⟩))
  refine bodyPost_ret (v := .tuple #[.agg #[.int .i64 0, .int .i64 0, .slice none 0 0], .bool false]) ?_ rfl ⟨rfl, ?_⟩
  ·simp [results, Tryz.results98, go_sem, hc1]
  ·exact ((((((Below.refl _ _).alloc (Nat.le_refl _) _).trans (hb1.mono (by simp))).setCell (Nat.le_refl _) _).setCell (Nat.le_refl _) _).setCell (Nat.le_refl _) _)
 ·obtain ⟨k, rfl⟩ : ∃ k : Nat, N = (k : Int) := ⟨N.toNat, by omega⟩
  have hno : (L.length : Int) < 16 + (k : Int) * 12 := by omega
  go_enter Tryz.func98, Tryz.ntmps98
  go_wp2_with first | (go_at_call 117; (((with_reducible refine (HN.out _ _ _ (by omega) ((Below.refl _ _).alloc (Nat.le_refl _) _)).mono ?_)); rintro e w1 ⟨rfl, hb1⟩; obtain ⟨hc1, hf1⟩ := bcell hb1; (try have hq1w : w.heap.size < w1.heap.size := Bz hb1); have hs1 := hb1.size; (try simp at hs1))) | (go_at_call 58; go_must (refine (HH.out _).mono ?_; rintro e w' ⟨rfl, rfl⟩))
  refine bodyPost_ret (v := .tuple #[.agg #[.int .i64 0, .int .i64 0, .slice none 0 0], .bool false]) ?_ rfl ⟨rfl, ?_⟩
  ·simp [results, Tryz.results98, go_sem, hc1]
  ·exact ((((((Below.refl _ _).alloc (Nat.le_refl _) _).trans (hb1.mono (by simp))).setCell (Nat.le_refl _) _).setCell (Nat.le_refl _) _).setCell (Nat.le_refl _) _)
end
end Go.Proofs.YtljlanhpjpjgaaaGreatDoor
