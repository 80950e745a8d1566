/-
  WheadFixed: for every header (nil archives too) the law's call returns true and leaves its argument as it was. No condition.
-/
import Derived.Test.YtbakpgncfcmfhaaWhKnown
namespace Go.Proofs.Ytbakpgncfcmfhaa
open Go.RowKit Go.Sort
open Wh (At)

set_option maxHeartbeats 2000000 in
theorem fixed_any (ag xf : Int) (l : List (Int × Int)) (A : Option Addr) (cap : Nat) (w : World) (h : Row w A l cap) :
    Calls Try.prog 5 #[.agg #[.int .i64 ag, .int .i64 xf, .slice A l.length cap]] w fun e w' => e = .returned (.bool true) ∧ Below w.heap.size w w' := by
  have HV : Hid (∀ W, Below w.heap.size w W → Calls Try.prog 19 #[.agg #[.int .i64 ag, .int .i64 xf, .slice A l.length cap]] W fun e w' => e = .returned (.bool (Wh.val ag xf l)) ∧ Below W.heap.size W w') := Lib.hid fun W hb => may_any ag xf l A cap W (h.below hb)
  by_cases h60 : 60 < l.length
  · go_enter Try.func5, Try.ntmps5
    go_wp2_with fail
    go_ret
    exact ⟨rfl, (by repeat (first | exact Below.refl _ _ | assumption | refine Below.setCell ?_ (by first | (simp; done) | omega | (simp; omega) | (simp at *; omega)) _ | refine Below.alloc ?_ (by first | (simp; done) | omega | (simp; omega) | (simp at *; omega)) _ | refine Below.drew ?_ | (refine Below.trans ?_ (Below.mono (by assumption) (by first | (simp; done) | omega | (simp; omega) | (simp at *; omega)))) | (refine Below.trans ?_ (Below.mono (below_regrown _ _ _) (by first | (simp; done) | omega | (simp; omega) | (simp at *; omega))))))⟩
  cases hv : Wh.val ag xf l
  · rw [hv] at HV
    clear hv h
    go_enter Try.func5, Try.ntmps5
    go_wp2_with (go_at_call 19; go_must (refine (HV.out _ ((Below.refl _ _).alloc (Nat.le_refl _) _)).mono ?_; rintro e w' ⟨rfl, hb⟩; obtain ⟨hc, hf⟩ := bcell hb; (try have hz0 : w.heap.size < w'.heap.size := Nat.lt_of_lt_of_le (by first | assumption | (simp; done) | (simp; omega)) hb.size); (try have hz1 : w.heap.size + 1 < w'.heap.size := Nat.lt_of_lt_of_le (by first | assumption | (simp; done) | (simp; omega)) hb.size); (try have hz2 : w.heap.size + 1 + 1 < w'.heap.size := Nat.lt_of_lt_of_le (by first | assumption | (simp; done) | (simp; omega)) hb.size); have hz := hb.size; (try simp at hz)))
    go_ret
    exact ⟨rfl, (by repeat (first | exact Below.refl _ _ | assumption | refine Below.setCell ?_ (by first | (simp; done) | omega | (simp; omega) | (simp at *; omega)) _ | refine Below.alloc ?_ (by first | (simp; done) | omega | (simp; omega) | (simp at *; omega)) _ | refine Below.drew ?_ | (refine Below.trans ?_ (Below.mono (by assumption) (by first | (simp; done) | omega | (simp; omega) | (simp at *; omega)))) | (refine Below.trans ?_ (Below.mono (below_regrown _ _ _) (by first | (simp; done) | omega | (simp; omega) | (simp at *; omega))))))⟩
  · rw [hv] at HV
    have HO : Hid (∀ (i : Nat) W, i < l.length → Below w.heap.size w W → Calls Try.prog 11 #[.agg #[.int .i64 ag, .int .i64 xf, .slice A l.length cap], .int .i64 i] W fun e w' => e = .returned (.int .i64 (Wh.ends l i)) ∧ Below W.heap.size W w') := Lib.hid fun i W hi hb => by
      have := offs_any ag xf l A cap (i : Int) W (h.below hb)
      have e : Wh.offs ag xf l i = Wh.ends l i := by unfold Wh.offs; rw [if_pos ⟨hv, by omega, by omega⟩]; rfl
      rw [e] at this
      exact this
    have HZ2 : Hid (∀ W, Below w.heap.size w W → Calls Try.prog 9 #[.agg #[.int .i64 ag, .int .i64 xf, .slice A l.length cap]] W fun e w' => e = .returned (.int .i64 (Wh.ends l l.length)) ∧ Below W.heap.size W w') := Lib.hid fun W hb => by
      have := size_any ag xf l A cap W (h.below hb)
      have e : Wh.size ag xf l = Wh.ends l l.length := by unfold Wh.size; rw [hv]; rfl
      rw [e] at this
      exact this
    obtain ⟨b, off, rfl, hA, hcap, a1, a2, a3, a4, _⟩ := row_val h hv
    have HA := Lib.hid hA
    have HB : Hid (∀ i, i ≤ l.length → 16 ≤ Wh.ends l i ∧ Wh.ends l i ≤ 2000000000) := Lib.hid fun i hi => Wh.ends_bd a2 (Wh.alls_cnt a3) i hi
    have HN : Hid (∀ i, i < l.length → 1 ≤ (At l i).2 ∧ (At l i).2 ≤ 16777216) := Lib.hid (Wh.alls_cnt a3)
    have HZ := Lib.hid (Wh.ends_zero l)
    have HS := Lib.hid (Wh.ends_succ l)
    clear hv h hA a3 a4 h60
    go_enter Try.func5, Try.ntmps5
    go_wp2_with (go_at_call 19; go_must (refine (HV.out _ ((Below.refl _ _).alloc (Nat.le_refl _) _)).mono ?_; rintro e w' ⟨rfl, hb⟩; obtain ⟨hc, hf⟩ := bcell hb; (try have hz0 : w.heap.size < w'.heap.size := Nat.lt_of_lt_of_le (by first | assumption | (simp; done) | (simp; omega)) hb.size); (try have hz1 : w.heap.size + 1 < w'.heap.size := Nat.lt_of_lt_of_le (by first | assumption | (simp; done) | (simp; omega)) hb.size); (try have hz2 : w.heap.size + 1 + 1 < w'.heap.size := Nat.lt_of_lt_of_le (by first | assumption | (simp; done) | (simp; omega)) hb.size); have hz := hb.size; (try simp at hz)))
    have HBL : Hid (Below (w.heap.size + 1) (w.alloc (.cells #[.int .i64 ag, .int .i64 xf, .slice (some ⟨b, off, none⟩) l.length cap] 24)) w') := Lib.hid (hb.mono (by simp))
    clear hb hc hf
    go_loopw [3, 4] (fun q i wr => ∃ j : Nat, j ≤ l.length ∧ i = .int .i64 j ∧ q = .int .i64 (Wh.ends l j) ∧ Below (w.heap.size + 1) (w.alloc (.cells #[.int .i64 ag, .int .i64 xf, .slice (some ⟨b, off, none⟩) l.length cap] 24)) wr) (fun _ i _ => l.length - (intOf i).toNat)
    case atStart => exact ⟨0, Nat.zero_le _, rfl, by rw [HZ.out], HBL.out⟩
    case round =>
      obtain ⟨j, hj, rfl, rfl, hR⟩ := hrel
      have hx0 : wr.cell? ⟨w.heap.size, 0, none⟩ = some (.int .i64 ag) := (hR.cell (p := ⟨w.heap.size, 0, none⟩) (Nat.lt_succ_self _)).trans (by simp [go_sem])
      have hx1 : wr.cell? ⟨w.heap.size, 1, none⟩ = some (.int .i64 xf) := (hR.cell (p := ⟨w.heap.size, 1, none⟩) (Nat.lt_succ_self _)).trans (by simp [go_sem])
      have hx2 : wr.cell? ⟨w.heap.size, 2, none⟩ = some (.slice (some ⟨b, off, none⟩) l.length cap) := (hR.cell (p := ⟨w.heap.size, 2, none⟩) (Nat.lt_succ_self _)).trans (by simp [go_sem])
      have hsz : w.heap.size < wr.heap.size := by have := hR.size; simp at this; omega
      have hAr := HA.out.below (lowBox hR)
      have hbl := hAr.lt
      have HR := Lib.hid hR
      clear hR
      by_cases hlt : j < l.length
      · have c1 := hAr.ct j hlt
        have b1 := HN.out j hlt
        have b2 := HB.out j (by omega)
        have HE := Lib.hid (HS.out j)
        have HO1 := Lib.hid (HO.out j wr hlt (lowBox HR.out))
        clear hAr HB HS HZ HN HO
        generalize Wh.ends l j = q at *
        generalize At l j = a at *
        obtain ⟨s, c⟩ := a
        dsimp only at *
        go_wp2_with (go_at_call 11; go_must (refine (HO1.out).mono ?_; rintro e w' ⟨rfl, hb⟩; obtain ⟨hc, hf⟩ := bcell hb; (try have hz0 : w.heap.size < w'.heap.size := Nat.lt_of_lt_of_le (by first | assumption | (simp; done) | (simp; omega)) hb.size); (try have hz1 : w.heap.size + 1 < w'.heap.size := Nat.lt_of_lt_of_le (by first | assumption | (simp; done) | (simp; omega)) hb.size); (try have hz2 : w.heap.size + 1 + 1 < w'.heap.size := Nat.lt_of_lt_of_le (by first | assumption | (simp; done) | (simp; omega)) hb.size); have hz := hb.size; (try simp at hz)))
        go_roundw
        case rel => exact ⟨j + 1, by omega, by go_num, congrArg (Value.int .i64) (by rw [HE.out]), HR.out.trans (hb.mono (by have := HR.out.size; simp at this; omega))⟩
        case measure => simp [intOf]; omega
      · obtain rfl : j = l.length := by omega
        have HZ3 := Lib.hid (HZ2.out wr (lowBox HR.out))
        clear hAr HB HS HZ HN HO HZ2
        generalize Wh.ends l l.length = q at *
        go_wp2_with first | (go_at_call 9; (((with_reducible refine (HZ3.out).mono ?_)); rintro e w1 ⟨rfl, hb1⟩; obtain ⟨hc1, hf1⟩ := bcell hb1; (try have hq1w : w.heap.size < w1.heap.size := Nat.lt_of_lt_of_le (by first | assumption | (simp; done) | (simp; omega)) hb1.size); have hs1 := hb1.size; (try simp at hs1))) | (go_at_call 15; (((with_reducible refine (known_any _).mono ?_)); rintro e w2 ⟨rfl, hb2⟩; obtain ⟨hc2, hf2⟩ := bcell hb2; (try have hq2w : w.heap.size < w2.heap.size := Nat.lt_of_lt_of_le (by first | assumption | (simp; done) | (simp; omega)) hb2.size); have hs2 := hb2.size; (try simp at hs2)))
        go_ret
        exact ⟨rfl, (lowBox HR.out).trans ((hb1.trans (hb2.mono hb1.size)).mono (lowBox HR.out).size)⟩
end Go.Proofs.Ytbakpgncfcmfhaa
