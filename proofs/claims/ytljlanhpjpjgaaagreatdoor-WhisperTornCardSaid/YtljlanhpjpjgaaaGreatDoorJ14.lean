/- WhRef AgRow WpAt WpVal -/
import Derived.Test.YtljlanhpjpjgaaaGreatDoorJ1
import Derived.Test.YtljlanhpjpjgaaaGreatDoorJ13
import Derived.Test.YtljlanhpjpjgaaaGreatDoorJ6
import Derived.Test.YtljlanhpjpjgaaaGreatDoorRows
import Derived.WalkKit
import Derived.WalkSpells
import Derived.WalkLawsBesides
import Derived.Deep.QuietTactic
import Derived.BigQuiet
import Derived.Lib.QuietBelow
import Derived.Lib.Hide
import Derived.IntWalk
import Derived.Deep.RegionHeld3
import Derived.Laws.MakeOwn
import Derived.Test.YtljlanhpjpjgaaaGreatDoorJ12
import Derived.Test.YtljlanhpjpjgaaaGreatDoorJ10
import Derived.Test.YtljlanhpjpjgaaaGreatDoorJ9
import Derived.Test.YtljlanhpjpjgaaaGreatDoorJ11
namespace Go.Proofs.YtljlanhpjpjgaaaGreatDoor
set_option maxRecDepth 100000
set_option maxHeartbeats 8000000
section
open Go.RowKit Go.Sort
open Wh (At)
theorem may_any (ag xf : Int) (l : List (Int × Int)) (A : Option Addr) (cap : Nat) (w : World) (h : Row w A l cap) :
 Calls Tryz.prog 20 #[.agg #[.int .i64 ag, .int .i64 xf, .slice A l.length cap]] w fun e w' => e = .returned (.bool (Wh.val ag xf l)) ∧ Below w.heap.size w w' := by
 have HX : Hid (ag < 1 ∨ 5 < ag ∨ xf < 0 ∨ 1000000 < xf ∨ Wh.av l = false → Wh.val ag xf l = false) := Lib.hid Wh.val_head
 by_cases k1 : ag < 1
 ·have HQ := Lib.hid (HX.out (.inl k1))
  go_enter Tryz.func20, Tryz.ntmps20
  go_wp2
  go_ret
  exact ⟨by rw [HQ.out]; rfl, Bq⟩
 by_cases k2 : 5 < ag
 ·have HQ := Lib.hid (HX.out (.inr (.inl k2)))
  go_enter Tryz.func20, Tryz.ntmps20
  go_wp2
  go_ret
  exact ⟨by rw [HQ.out]; rfl, Bq⟩
 by_cases k3 : xf < 0
 ·have HQ := Lib.hid (HX.out (.inr (.inr (.inl k3))))
  go_enter Tryz.func20, Tryz.ntmps20
  go_wp2
  go_ret
  exact ⟨by rw [HQ.out]; rfl, Bq⟩
 by_cases k4 : 1000000 < xf
 ·have HQ := Lib.hid (HX.out (.inr (.inr (.inr (.inl k4)))))
  go_enter Tryz.func20, Tryz.ntmps20
  go_wp2
  go_ret
  exact ⟨by rw [HQ.out]; rfl, Bq⟩
 by_cases k5 : l.length = 0
 ·have HQ := Lib.hid (HX.out (.inr (.inr (.inr (.inr (Wh.av_nil k5))))))
  rw [k5]
  clear k5
  go_enter Tryz.func20, Tryz.ntmps20
  go_wp2
  go_ret
  exact ⟨by rw [HQ.out]; rfl, Bq⟩
 by_cases k6 : 8 < l.length
 ·have HQ := Lib.hid (HX.out (.inr (.inr (.inr (.inr (Wh.av_long k6))))))
  go_enter Tryz.func20, Tryz.ntmps20
  go_wp2
  go_ret
  exact ⟨by rw [HQ.out]; rfl, Bq⟩
 obtain ⟨b, off, rfl, hA⟩ := h.2 (by omega)
 rw [Wh.val_av (by omega) (by omega) (by omega) (by omega)]
 exact may_some ag xf (by omega) (by omega) (by omega) (by omega) l b off cap w hA h.1 (by omega) (by omega)
theorem rsize_any (ag xf : Int) (l : List (Int × Int)) (A : Option Addr) (cap : Nat) (w : World) (h : Row w A l cap) :
 Calls Tryz.prog 21 #[.agg #[.int .i64 ag, .int .i64 xf, .slice A l.length cap]] w fun e w' => e = .returned (.int .i64 (Wh.size ag xf l)) ∧ Below w.heap.size w w' := by
 have HV : Hid (∀ W, Below w.heap.size w W → Calls Tryz.prog 20 #[.agg #[.int .i64 ag, .int .i64 xf, .slice A l.length cap]] W fun e w' => e = .returned (.bool (Wh.val ag xf l)) ∧ Below W.heap.size W w') := Lib.hid fun W hb => may_any ag xf l A cap W (h.below hb)
 cases hv : Wh.val ag xf l
 ·rw [hv] at HV
  have HQ : Hid (Wh.size ag xf l = 0) := Lib.hid (by unfold Wh.size; rw [hv]; rfl)
  clear hv h
  go_enter Tryz.func21, Tryz.ntmps21
  go_wp2_with (go_at_call 20; go_must (refine (HV.out _ ((Below.refl _ _).alloc (Nat.le_refl _) _)).mono ?_; rintro e w' ⟨rfl, hb⟩; obtain ⟨hc, hf⟩ := bcell hb; (try have hz0 : w.heap.size < w'.heap.size := Bz hb); (try have hz1 : w.heap.size + 1 < w'.heap.size := Bz hb); (try have hz2 : w.heap.size + 1 + 1 < w'.heap.size := Bz hb); have hz := hb.size; (try simp at hz)))
  go_ret
  exact ⟨by rw [HQ.out]; rfl, Bq⟩
 ·rw [hv] at HV
  have HQ : Hid (Wh.size ag xf l = Wh.run l l.length) := Lib.hid (by unfold Wh.size; rw [hv]; rfl)
  obtain ⟨b, off, rfl, hA, hcap, a1, a2, a3, a4, _⟩ := row_val h hv
  have HA := Lib.hid hA
  have HB : Hid (∀ i, i ≤ l.length → 16 ≤ Wh.run l i ∧ Wh.run l i ≤ 2000000000) := Lib.hid fun i hi => Wh.run_bd a2 (Wh.alls_cnt a3) i hi
  have HN : Hid (∀ i, i < l.length → 1 ≤ (At l i).2 ∧ (At l i).2 ≤ 16777216) := Lib.hid (Wh.alls_cnt a3)
  have HZ := Lib.hid (Wh.run_zero l)
  have HS := Lib.hid (Wh.run_succ l)
  clear hv h hA a3 a4
  go_enter Tryz.func21, Tryz.ntmps21
  go_wp2_with (go_at_call 20; go_must (refine (HV.out _ ((Below.refl _ _).alloc (Nat.le_refl _) _)).mono ?_; rintro e w' ⟨rfl, hb⟩; obtain ⟨hc, hf⟩ := bcell hb; (try have hz0 : w.heap.size < w'.heap.size := Bz hb); (try have hz1 : w.heap.size + 1 < w'.heap.size := Bz hb); (try have hz2 : w.heap.size + 1 + 1 < w'.heap.size := Bz hb); have hz := hb.size; (try simp at hz)))
  have HBL : Hid (Below (w.heap.size + 1) (w.alloc (.cells #[.int .i64 ag, .int .i64 xf, .slice (some ⟨b, off, none⟩) l.length cap] 24)) w') := Lib.hid (hb.mono (by simp))
  clear hb hc hf
  go_loopw [3, 4] (fun q i wr => ∃ j : Nat, j ≤ l.length ∧ i = .int .i64 j ∧ q = .int .i64 (Wh.run l j) ∧ Below (w.heap.size + 1) (w.alloc (.cells #[.int .i64 ag, .int .i64 xf, .slice (some ⟨b, off, none⟩) l.length cap] 24)) wr) (fun _ i _ => l.length - (intOf i).toNat)
  case atStart => exact ⟨0, Nat.zero_le _, rfl, by rw [HZ.out], HBL.out⟩
  case round =>
   obtain ⟨j, hj, rfl, rfl, hR⟩ := hrel
   have hx2 : wr.cell? ⟨w.heap.size, 2, none⟩ = some (.slice (some ⟨b, off, none⟩) l.length cap) := (hR.cell (p := ⟨w.heap.size, 2, none⟩) (Nat.lt_succ_self _)).trans (by simp [go_sem])
   have hsz : w.heap.size < wr.heap.size := by have := hR.size; simp at this; omega
   have hAr := HA.out.below (lowBox hR)
   have hbl := hAr.lt
   have HR := Lib.hid hR
   clear hR
   by_cases hlt : j < l.length
   ·have c1 := hAr.ct j hlt
    have b1 := HN.out j hlt
    have b2 := HB.out j (by omega)
    have HE := Lib.hid (HS.out j)
    clear hAr HB HS HZ HN
    generalize Wh.run l j = q at *
    generalize At l j = a at *
    obtain ⟨s, c⟩ := a
    dsimp only at *
    go_wp2
    go_roundw
    case rel => exact ⟨j + 1, by omega, by go_num, congrArg (Value.int .i64) (by rw [HE.out]), HR.out⟩
    case measure => simp [intOf]; omega
   ·obtain rfl : j = l.length := by omega
    clear hAr HB HS HZ HN
    go_wp2
    go_ret
    exact ⟨by rw [HQ.out]; rfl, lowBox HR.out⟩
theorem rspn_any (ag xf : Int) (l : List (Int × Int)) (A : Option Addr) (cap : Nat) (w : World) (h : Row w A l cap) :
 Calls Tryz.prog 47 #[.agg #[.int .i64 ag, .int .i64 xf, .slice A l.length cap]] w fun e w' => e = .returned (.int .i64 (Wh.spn ag xf l)) ∧ Below w.heap.size w w' := by
 have HV : Hid (∀ W, Below w.heap.size w W → Calls Tryz.prog 20 #[.agg #[.int .i64 ag, .int .i64 xf, .slice A l.length cap]] W fun e w' => e = .returned (.bool (Wh.val ag xf l)) ∧ Below W.heap.size W w') := Lib.hid fun W hb => may_any ag xf l A cap W (h.below hb)
 cases hv : Wh.val ag xf l
 ·rw [hv] at HV
  have HQ : Hid (Wh.spn ag xf l = 0) := Lib.hid (by unfold Wh.spn; rw [hv]; rfl)
  clear hv h
  go_enter Tryz.func47, Tryz.ntmps47
  go_wp2_with (go_at_call 20; go_must (refine (HV.out _ ((Below.refl _ _).alloc (Nat.le_refl _) _)).mono ?_; rintro e w' ⟨rfl, hb⟩; obtain ⟨hc, hf⟩ := bcell hb; (try have hz0 : w.heap.size < w'.heap.size := Bz hb); (try have hz1 : w.heap.size + 1 < w'.heap.size := Bz hb); (try have hz2 : w.heap.size + 1 + 1 < w'.heap.size := Bz hb); have hz := hb.size; (try simp at hz)))
  go_ret
  exact ⟨by rw [HQ.out]; rfl, Bq⟩
 ·rw [hv] at HV
  obtain ⟨b, off, rfl, hA, hcap, a1, a2, a3, a4, _⟩ := row_val h hv
  obtain ⟨k, hk⟩ : ∃ k, l.length = k + 1 := ⟨l.length - 1, by omega⟩
  have HQ : Hid (Wh.spn ag xf l = (At l k).1 * (At l k).2) := Lib.hid (by
   unfold Wh.spn Wh.lsp
   rw [hv, hk]
   rfl)
  obtain ⟨⟨p1, p2⟩, p3, p4⟩ := Wh.alls_num (k := k) (by omega) a3
  have bm := Wh.mul_bd p1 p2 p3 p4
  have hw : IntKind.i64.wrap ((At l k).1 * (At l k).2) = (At l k).1 * (At l k).2 := IntWalk.i64_in _ (by omega)
  have c0 := hA.st k (by omega)
  have c1 := hA.ct k (by omega)
  have hbl := hA.lt
  clear hv h hA a3 a4
  generalize At l k = a at *
  obtain ⟨s, c⟩ := a
  dsimp only at *
  generalize hls : l.length = n at *
  clear hls
  subst hk
  generalize hmu : s * c = mu at *
  have HMU := Lib.hid hmu
  clear hmu
  have hw2 : IntKind.i64.wrap (s * c) = mu := by rw [HMU.out]; exact hw
  go_enter Tryz.func47, Tryz.ntmps47
  go_wp2_with (go_at_call 20; go_must (refine (HV.out _ ((Below.refl _ _).alloc (Nat.le_refl _) _)).mono ?_; rintro e w' ⟨rfl, hb⟩; obtain ⟨hc, hf⟩ := bcell hb; (try have hz0 : w.heap.size < w'.heap.size := Bz hb); (try have hz1 : w.heap.size + 1 < w'.heap.size := Bz hb); (try have hz2 : w.heap.size + 1 + 1 < w'.heap.size := Bz hb); have hz := hb.size; (try simp at hz)))
  go_ret
  exact ⟨by rw [HQ.out]; rfl, Bq⟩
theorem roffs_any (ag xf : Int) (l : List (Int × Int)) (A : Option Addr) (cap : Nat) (i : Int) (w : World) (h : Row w A l cap) :
 Calls Tryz.prog 37 #[.agg #[.int .i64 ag, .int .i64 xf, .slice A l.length cap], .int .i64 i] w fun e w' => e = .returned (.int .i64 (Wh.offs ag xf l i)) ∧ Below w.heap.size w w' := by
 have HV : Hid (∀ W, Below w.heap.size w W → Calls Tryz.prog 20 #[.agg #[.int .i64 ag, .int .i64 xf, .slice A l.length cap]] W fun e w' => e = .returned (.bool (Wh.val ag xf l)) ∧ Below W.heap.size W w') := Lib.hid fun W hb => may_any ag xf l A cap W (h.below hb)
 cases hv : Wh.val ag xf l
 ·rw [hv] at HV
  have HQ : Hid (Wh.offs ag xf l i = 0) := Lib.hid (by unfold Wh.offs; rw [hv, if_neg (by simp)])
  clear hv h
  go_enter Tryz.func37, Tryz.ntmps37
  go_wp2_with (go_at_call 20; go_must (refine (HV.out _ ((Below.refl _ _).alloc (Nat.le_refl _) _)).mono ?_; rintro e w' ⟨rfl, hb⟩; obtain ⟨hc, hf⟩ := bcell hb; (try have hz0 : w.heap.size < w'.heap.size := Bz hb); (try have hz1 : w.heap.size + 1 < w'.heap.size := Bz hb); (try have hz2 : w.heap.size + 1 + 1 < w'.heap.size := Bz hb); have hz := hb.size; (try simp at hz)))
  go_ret
  exact ⟨by rw [HQ.out]; rfl, Bq⟩
 ·rw [hv] at HV
  by_cases i0 : i < 0
  ·have HQ : Hid (Wh.offs ag xf l i = 0) := Lib.hid (by unfold Wh.offs; rw [if_neg (by omega)])
   clear hv h
   go_enter Tryz.func37, Tryz.ntmps37
   go_wp2_with (go_at_call 20; go_must (refine (HV.out _ ((Below.refl _ _).alloc (Nat.le_refl _) _)).mono ?_; rintro e w' ⟨rfl, hb⟩; obtain ⟨hc, hf⟩ := bcell hb; (try have hz0 : w.heap.size < w'.heap.size := Bz hb); (try have hz1 : w.heap.size + 1 < w'.heap.size := Bz hb); (try have hz2 : w.heap.size + 1 + 1 < w'.heap.size := Bz hb); have hz := hb.size; (try simp at hz)))
   go_ret
   exact ⟨by rw [HQ.out]; rfl, Bq⟩
  ·obtain ⟨i, rfl⟩ : ∃ k : Nat, i = (k : Int) := ⟨i.toNat, by omega⟩
   clear i0
   by_cases i1 : l.length ≤ i
   ·have HQ : Hid (Wh.offs ag xf l i = 0) := Lib.hid (by unfold Wh.offs; rw [if_neg (by omega)])
    clear hv h
    go_enter Tryz.func37, Tryz.ntmps37
    go_wp2_with (go_at_call 20; go_must (refine (HV.out _ ((Below.refl _ _).alloc (Nat.le_refl _) _)).mono ?_; rintro e w' ⟨rfl, hb⟩; obtain ⟨hc, hf⟩ := bcell hb; (try have hz0 : w.heap.size < w'.heap.size := Bz hb); (try have hz1 : w.heap.size + 1 < w'.heap.size := Bz hb); (try have hz2 : w.heap.size + 1 + 1 < w'.heap.size := Bz hb); have hz := hb.size; (try simp at hz)))
    go_ret
    exact ⟨by rw [HQ.out]; rfl, Bq⟩
   ·have HQ : Hid (Wh.offs ag xf l i = Wh.ends l i) := Lib.hid (by unfold Wh.offs; rw [if_pos ⟨hv, by omega, by omega⟩]; rfl)
    obtain ⟨b, off, rfl, hA, hcap, a1, a2, a3, a4, _⟩ := row_val h hv
    have HA := Lib.hid hA
    have HB : Hid (∀ i, i ≤ l.length → 16 ≤ Wh.ends l i ∧ Wh.ends l i ≤ 2000000000) := Lib.hid fun i hi => Wh.ends_bd a2 (Wh.alls_cnt a3) i hi
    have HN : Hid (∀ i, i < l.length → 1 ≤ (At l i).2 ∧ (At l i).2 ≤ 16777216) := Lib.hid (Wh.alls_cnt a3)
    have HZ := Lib.hid (Wh.ends_zero l)
    have HS := Lib.hid (Wh.ends_succ l)
    clear hv h hA a3 a4
    go_enter Tryz.func37, Tryz.ntmps37
    go_wp2_with (go_at_call 20; go_must (refine (HV.out _ ((Below.refl _ _).alloc (Nat.le_refl _) _)).mono ?_; rintro e w' ⟨rfl, hb⟩; obtain ⟨hc, hf⟩ := bcell hb; (try have hz0 : w.heap.size < w'.heap.size := Bz hb); (try have hz1 : w.heap.size + 1 < w'.heap.size := Bz hb); (try have hz2 : w.heap.size + 1 + 1 < w'.heap.size := Bz hb); have hz := hb.size; (try simp at hz)))
    have HBL : Hid (Below (w.heap.size + 1) (w.alloc (.cells #[.int .i64 ag, .int .i64 xf, .slice (some ⟨b, off, none⟩) l.length cap] 24)) w') := Lib.hid (hb.mono (by simp))
    clear hb hc hf
    go_loopw [5, 6] (fun q i' wr => ∃ j : Nat, j ≤ i ∧ i' = .int .i64 j ∧ q = .int .i64 (Wh.ends l j) ∧ Below (w.heap.size + 1) (w.alloc (.cells #[.int .i64 ag, .int .i64 xf, .slice (some ⟨b, off, none⟩) l.length cap] 24)) wr) (fun _ i' _ => i - (intOf i').toNat)
    case atStart => exact ⟨0, Nat.zero_le _, rfl, by rw [HZ.out], HBL.out⟩
    case round =>
     obtain ⟨j, hj, rfl, rfl, hR⟩ := hrel
     have hx2 : wr.cell? ⟨w.heap.size, 2, none⟩ = some (.slice (some ⟨b, off, none⟩) l.length cap) := (hR.cell (p := ⟨w.heap.size, 2, none⟩) (Nat.lt_succ_self _)).trans (by simp [go_sem])
     have hsz : w.heap.size < wr.heap.size := by have := hR.size; simp at this; omega
     have hAr := HA.out.below (lowBox hR)
     have hbl := hAr.lt
     have HR := Lib.hid hR
     clear hR
     by_cases hlt : j < i
     ·have c1 := hAr.ct j (by omega)
      have b1 := HN.out j (by omega)
      have b2 := HB.out j (by omega)
      have HE := Lib.hid (HS.out j)
      clear hAr HB HS HZ HN
      generalize Wh.ends l j = q at *
      generalize At l j = a at *
      obtain ⟨s, c⟩ := a
      dsimp only at *
      go_wp2
      go_roundw
      case rel => exact ⟨j + 1, by omega, by go_num, congrArg (Value.int .i64) (by rw [HE.out]), HR.out⟩
      case measure => simp [intOf]; omega
     ·obtain rfl : j = i := by omega
      clear hAr HB HS HZ HN
      go_wp2
      go_ret
      exact ⟨by rw [HQ.out]; rfl, lowBox HR.out⟩
end
section
open Go.RowKit Go.Sort
open Fx (Vl)
open Me
theorem infoVal : (Tryz.prog.info? 110).map (fun i => (i.zero, i.size, i.bytes)) = some (some (.agg #[.bool false, .int .i64 0]), 2, 16) := by kernel_rfl
def cellsOf (l : List Vl) : List Value := l.flatMap fun v => [.bool v.ok, .int .i64 v.n]
theorem cellsOf_length (l : List Vl) : (cellsOf l).length = l.length * 2 := by
 induction l with
 | nil => rfl
 | cons v l ih => simp only [cellsOf, List.flatMap_cons, List.length_append, List.length_cons, List.length_nil] at *; omega
theorem cellsOf_even (l : List Vl) : ∀ i (h : i < l.length), (cellsOf l)[i * 2]? = some (.bool l[i].ok) := by
 induction l with
 | nil => intro i h; cases h
 | cons v l ih =>
   intro i h
   cases i with
   | zero => rfl
   | succ i =>
     have := ih i (by simpa using h)
     have e : (i + 1) * 2 = i * 2 + 1 + 1 := by omega
     rw [e]
     show (cellsOf l)[i * 2]? = _
     exact this
theorem cellsOf_odd (l : List Vl) : ∀ i (h : i < l.length), (cellsOf l)[i * 2 + 1]? = some (.int .i64 l[i].n) := by
 induction l with
 | nil => intro i h; cases h
 | cons v l ih =>
   intro i h
   cases i with
   | zero => rfl
   | succ i =>
     have := ih i (by simpa using h)
     have e : (i + 1) * 2 + 1 = i * 2 + 1 + 1 + 1 := by omega
     rw [e]
     show (cellsOf l)[i * 2 + 1]? = _
     exact this
theorem cellsOf_append (l m : List Vl) : cellsOf (l ++ m) = cellsOf l ++ cellsOf m := by simp [cellsOf]
theorem cellsOf_single (v : Vl) : cellsOf [v] = [.bool v.ok, .int .i64 v.n] := rfl
def Sl (w : World) (v : Value) (l : List Vl) : Prop := (l = [] ∧ ∃ x cap, v = .slice x 0 cap) ∨ (0 < l.length ∧ ∃ b off cap, v = .slice (some ⟨b, off, none⟩) l.length cap ∧ Vals w b off l)
theorem Sl.below {w w' : World} {v : Value} {l : List Vl} (h : Sl w v l) (hb : Below w.heap.size w w') : Sl w' v l := by
 rcases h with h | ⟨h0, b, off, cap, e, hv⟩
 ·exact .inl h
 ·exact .inr ⟨h0, b, off, cap, e, hv.below hb⟩
theorem Sl.form {w : World} {v : Value} {l : List Vl} (h : Sl w v l) : ∃ A c, v = .slice A l.length c := by
 rcases h with ⟨rfl, x, cap, rfl⟩ | ⟨_, b, off, cap, rfl, _⟩
 ·exact ⟨_, _, rfl⟩
 ·exact ⟨_, _, rfl⟩
def OwnV (base : Nat) (w : World) (v : Value) (l : List Vl) : Prop := w.ownsRow base 110 2 v l.length (cellsOf l)
theorem OwnV.lt {base : Nat} {w : World} {v : Value} {l : List Vl} (h : OwnV base w v l) : ∀ g, v.ownBlock = some g → base ≤ g ∧ g < w.heap.size := by
 intro g hg
 rcases h.2 with ⟨rfl, _⟩ | ⟨g', cap, cur, rfl, hb, hh, _⟩
 ·cases hg
 ·have : g' = g := by simpa [Value.ownBlock] using hg
  subst this
  exact ⟨hb, (Array.getElem?_eq_some_iff.1 hh).1⟩
theorem OwnV.nil (a : Nat) (w : World) : OwnV a w (.slice none 0 0) [] := ⟨rfl, .inl ⟨rfl, rfl⟩⟩
theorem OwnV.below {a : Nat} {w w' : World} {v : Value} {l : List Vl} (h : OwnV a w v l) (k : Below w.heap.size w w') : OwnV a w' v l :=
 owns_keep h fun g hg => k.block g (h.lt g hg).2
theorem OwnV.slice {a : Nat} {w : World} {v : Value} {l : List Vl} (h : OwnV a w v l) : ∃ A c, v = .slice A l.length c := by
 rcases h.2 with ⟨rfl, h0⟩ | ⟨g', cap, cur, rfl, _⟩
 ·exact ⟨none, 0, by rw [h0]⟩
 ·exact ⟨_, _, rfl⟩
theorem OwnV.more {base : Nat} {w : World} {v : Value} {l : List Vl} {ok : Bool} {n : Int} (h : w.ownsRow base 110 2 v (l.length + 1) (cellsOf l ++ [.bool ok, .int .i64 n])) : OwnV base w v (l ++ [⟨ok, n⟩]) := by
 unfold OwnV
 rw [List.length_append, cellsOf_append, cellsOf_single]
 exact h
theorem OwnV.sl {base : Nat} {w : World} {v : Value} {l : List Vl} (h : OwnV base w v l) : Sl w v l := by
 obtain ⟨hlen, ⟨rfl, h0⟩ | ⟨g, cap, cur, rfl, hb, hg, hle, hm, hs, hx⟩⟩ := h
 ·exact .inl ⟨List.eq_nil_of_length_eq_zero h0, none, 0, rfl⟩
 ·by_cases h0 : l.length = 0
  ·have e := List.eq_nil_of_length_eq_zero h0
   subst e
   exact .inl ⟨rfl, _, _, rfl⟩
  ·refine .inr ⟨by omega, g, 0, cap, rfl, (Array.getElem?_eq_some_iff.1 hg).1, ?_, ?_⟩
   ·intro i hi
    rw [Nat.zero_add, ← cellsOf_even l i hi, ← hx, List.getElem?_take, if_pos (by rw [cellsOf_length] at hlen; omega)]
    simp [World.cell?, hg]
   ·intro i hi
    rw [Nat.zero_add, ← cellsOf_odd l i hi, ← hx, List.getElem?_take, if_pos (by rw [cellsOf_length] at hlen; omega)]
    simp [World.cell?, hg]
theorem adN (b off j : Nat) : (⟨b, off, none⟩ : Addr).add j = ⟨b, off + j, none⟩ := by simp [Addr.add]
end
section
open Go.RowKit Go.Sort
open Fx (Vl)
open Me
namespace Wp
structure FileR (w : World) (x fs : Nat) (n : List UInt8) (h : Hd) (A : Option Addr) (cap : Nat) : Prop where
 row : RowAt w x 70 #[.pointer (some ⟨fs, 0, none⟩), .string ⟨n.toArray⟩, .int .i64 h.ag, .int .i64 h.xf, .slice A h.l.length cap]
 ars : Row w A h.l cap
theorem FileR.below {w w' : World} {x fs : Nat} {n : List UInt8} {h : Hd} {A : Option Addr} {cap : Nat} (f : FileR w x fs n h A cap) (b : Below w.heap.size w w') : FileR w' x fs n h A cap :=
 ⟨f.row.below b f.row.lt, f.ars.below b⟩
theorem FileR.keep {w w' : World} {V : Nat → Prop} {x fs : Nat} {n : List UInt8} {h : Hd} {A : Option Addr} {cap : Nat} (f : FileR w x fs n h A cap) (k : Kp (fun b => ¬ V b) w w') (hx : V x) (hA : ∀ a, A = some a → V a.block) : FileR w' x fs n h A cap := by
 refine ⟨(k.block x f.row.lt (fun o => o hx)).trans f.row, f.ars.1, fun h0 => ?_⟩
 obtain ⟨b, off, e, ha⟩ := f.ars.2 h0
 have hb : V b := hA _ e
 exact ⟨b, off, e, Nat.lt_of_lt_of_le ha.lt k.size, fun i hi => (k.cell (p := ⟨b, off + i * 2, none⟩) ha.lt (fun o => o hb)).trans (ha.st i hi), fun i hi => (k.cell (p := ⟨b, off + i * 2 + 1, none⟩) ha.lt (fun o => o hb)).trans (ha.ct i hi)⟩
theorem Hd.nums {h : Hd} (hv : h.val = true) : ∀ i, i < h.l.length → (1 ≤ h.step i ∧ h.step i ≤ 16777216) ∧ (1 ≤ h.cnt i ∧ h.cnt i ≤ 16777216) := by
 obtain ⟨_, _, _, ha⟩ := Wh.val_t hv
 obtain ⟨a1, a2, a3, a4, a5⟩ := Wh.av_t ha
 exact fun i hi => Wh.alls_num hi a3
theorem Hd.len {h : Hd} (hv : h.val = true) : 1 ≤ h.l.length ∧ h.l.length ≤ 8 := by
 obtain ⟨_, _, _, ha⟩ := Wh.val_t hv
 obtain ⟨a1, a2, a3, a4, a5⟩ := Wh.av_t ha
 exact ⟨a1, a2⟩
theorem Hd.offs_bd {h : Hd} (hv : h.val = true) (i : Int) : 0 ≤ h.offs i ∧ h.offs i ≤ 2000000000 := by
 obtain ⟨_, _, _, ha⟩ := Wh.val_t hv
 obtain ⟨a1, a2, a3, a4, a5⟩ := Wh.av_t ha
 unfold Hd.offs Wh.offs
 split
 ·rename_i hh
  have := Wh.ends_bd a2 (Wh.alls_cnt a3) i.toNat (by omega)
  omega
 ·omega
theorem pl_bd {s c t : Int} (hc : 1 ≤ c ∧ c ≤ 16777216) : 0 ≤ Sl.pl s c t ∧ Sl.pl s c t ≤ 16777216 := by
 unfold Sl.pl
 split
 ·omega
 ·have h1 := Int.emod_nonneg (t / s) (by omega : c ≠ 0)
  have h2 := Int.emod_lt_of_pos (t / s) (by omega : 0 < c)
  omega
theorem at_bd {h : Hd} (hv : h.val = true) (i : Nat) (hi : i < h.l.length) (t : Int) : 0 ≤ at_ h i t ∧ at_ h i t ≤ 2300000000 := by
 have h1 := Hd.offs_bd hv (i : Int)
 have h2 := pl_bd (s := h.step i) (t := t) (Hd.nums hv i hi).2
 unfold at_
 omega
end Wp
open Wp
theorem rat_any {w : World} {x fs : Nat} {n : List UInt8} {h : Hd} {A : Option Addr} {cap : Nat} (f : FileR w x fs n h A cap) (hv : h.val = true) (i : Nat) (hi : i < h.l.length) (t : Int) (ht : t ≤ 9223372036854775807) :
 Calls Tryz.prog 90 #[.pointer (some ⟨x, 0, none⟩), .int .i64 (i : Int), .int .i64 t] w fun e w' => e = .returned (.int .i64 (at_ h i t)) ∧ Below w.heap.size w w' := by
 have HO : Hid (∀ W, Below w.heap.size w W → Calls Tryz.prog 37 #[.agg #[.int .i64 h.ag, .int .i64 h.xf, .slice A h.l.length cap], .int .i64 (i : Int)] W fun e w' => e = .returned (.int .i64 (h.offs (i : Int))) ∧ Below W.heap.size W w') := Lib.hid fun W hb => roffs_any h.ag h.xf h.l A cap i W (f.ars.below hb)
 have HP : Hid (∀ W, Calls Tryz.prog 44 #[.agg #[.int .i64 (h.step i), .int .i64 (h.cnt i)], .int .i64 t] W fun e w' => e = .returned (.int .i64 (Sl.pl (h.step i) (h.cnt i) t)) ∧ Below W.heap.size W w') := Lib.hid fun W => rplace_any _ _ t ht W
 have HQ : Hid (at_ h i t = h.offs (i : Int) + 12 * Sl.pl (h.step i) (h.cnt i) t) := Lib.hid rfl
 have b1 := Hd.offs_bd hv (i : Int)
 have b2 := pl_bd (s := h.step i) (t := t) (Hd.nums hv i hi).2
 obtain ⟨b, off, rfl, ha⟩ := f.ars.2 (by omega)
 have c0 := f.row.cell 2
 have c1 := f.row.cell 3
 have c2 := f.row.cell 4
 have hxl := f.row.lt
 have s0 : w.cell? ⟨b, off + i * 2, none⟩ = some (.int .i64 (h.step i)) := ha.st i hi
 have s1 : w.cell? ⟨b, off + i * 2 + 1, none⟩ = some (.int .i64 (h.cnt i)) := ha.ct i hi
 have hbl := ha.lt
 simp only [List.getElem?_toArray, List.getElem?_cons_succ, List.getElem?_cons_zero] at c0 c1 c2
 clear f ha
 generalize at_ h i t = r at *
 generalize h.offs (i : Int) = o at *
 generalize Sl.pl (h.step i) (h.cnt i) t = p at *
 generalize h.step i = s at *
 generalize h.cnt i = k at *
 generalize h.l.length = L at *
 generalize h.ag = ag at *
 generalize h.xf = xf at *
 obtain ⟨m, hm⟩ : ∃ m, 12 * p = m := ⟨_, rfl⟩
 obtain ⟨q, hq⟩ : ∃ q, o + m = q := ⟨_, rfl⟩
 have hw1 : IntKind.i64.wrap m = m := IntWalk.i64_in _ (by omega)
 have hw2 : IntKind.i64.wrap q = q := IntWalk.i64_in _ (by omega)
 have HR : Hid (r = q) := Lib.hid (by rw [HQ.out, hm, hq])
 have hil : (i : Int) < (L : Int) := by omega
 have hi0 : (0 : Int) ≤ (i : Int) := by omega
 obtain ⟨kc, kf⟩ := kgrown w
 go_enter Tryz.func90, Tryz.ntmps90
 go_wp2_with fail
 refine wp_region_quiet_below (by kernel_rfl) (by kernel_rfl) ?_
 repeat (go_big_quiet_step (first
  | (go_at_call 37; exact Calls.regrown_of (HO.out _ (below_regrown _ _ _)))
  | (go_at_call 44; exact Calls.regrown_of (HP.out _))))
 refine wpQuiet_nil ?_
 intro _ hw'
 obtain ⟨⟨dq, osq⟩, hw''⟩ := hw'
 subst hw''
 go_wp2
 go_ret
 exact ⟨by rw [HR.out]; rfl, below_regrown _ _ _⟩
end
section
open Go.RowKit Go.Sort
open Fx (Vl)
open Me
open Wp
theorem rsdec_v (L : List UInt8) (A : Option Addr) (cap : Nat) (w : World) (h : Reads w (.slice A L.length cap) L) :
 Calls Tryz.prog 38 #[.slice A L.length cap] w fun e w' => e = .returned (.tuple #[.agg #[.int .i64 (Sl.dat L), .int .i64 (Sl.dnn L)], .bool (Sl.okd L)]) ∧ Below w.heap.size w w' := by
 by_cases hl : L.length = 12
 ·obtain ⟨A', c', e, hc, hr⟩ := h
  injection e with e1 e2 e3
  subst e1 e3
  obtain ⟨b, off, rfl, hb⟩ := By.of hr (by omega)
  have e1 : Sl.dat L = Wh.nm L 0 := by unfold Sl.dat; rw [if_pos hl]
  have e2 : Sl.dnn L = Sl.dn L := by unfold Sl.dnn; rw [if_pos hl]
  have e3 : Sl.okd L = true := by unfold Sl.okd; rw [decide_eq_true hl]
  have := rsdecode_12 L hl b off cap w hb (by omega)
  rw [e1, e2, e3, hl]
  exact this
 ·have e1 : Sl.dat L = 0 := by unfold Sl.dat; rw [if_neg hl]
  have e2 : Sl.dnn L = 0 := by unfold Sl.dnn; rw [if_neg hl]
  have e3 : Sl.okd L = false := by unfold Sl.okd; rw [decide_eq_false hl]
  rw [e1, e2, e3]
  exact rsdecode_no A L.length cap hl w
theorem rvalue_any {w : World} {V : Nat → Prop} {c x fs : Nat} {S : Vf.Sv} {n : List UInt8} {h : Hd} {A : Option Addr} {cap : Nat} (ro : RO w V fs c S) (hc : c ≤ 1000000) (f : FileR w x fs n h A cap) (hv : h.val = true) (i : Nat) (hi : i < h.l.length) (t : Int) (ht : t ≤ 9223372036854775807) :
 Calls Tryz.prog 92 #[.pointer (some ⟨x, 0, none⟩), .int .i64 (i : Int), .int .i64 t] w fun e w' => e = .returned (.agg #[.bool (value S.now n h i t).ok, .int .i64 (value S.now n h i t).n]) ∧ Below w.heap.size w w' := by
 have HAT : Hid (∀ W, Below w.heap.size w W → Calls Tryz.prog 90 #[.pointer (some ⟨x, 0, none⟩), .int .i64 (i : Int), .int .i64 t] W fun e w' => e = .returned (.int .i64 (at_ h i t)) ∧ Below W.heap.size W w') := Lib.hid fun W hb => rat_any (f.below hb) hv i hi t ht
 have HRD : Hid (∀ W, Below w.heap.size w W → Calls Tryz.prog 13 #[.pointer (some ⟨fs, 0, none⟩), .string ⟨n.toArray⟩, .int .i64 (at_ h i t), .int .i64 12] W (Vf.Handed W (Vf.read S.now n (at_ h i t) 12))) := Lib.hid fun W hb => roread (ro.below hb) hc n _ _
 have HAL : Hid (∀ W, Calls Tryz.prog 54 #[.int .i64 t, .int .i64 (h.step i)] W fun e w' => e = .returned (.int .i64 (Sl.al t (h.step i))) ∧ W = w') := Lib.hid fun W => ralign_any t _ ht W
 have HQ : Hid (value S.now n h i t = if Sl.al t (h.step i) ≤ 0 ∨ Sl.dat (Vf.read S.now n (at_ h i t) 12).1 ≠ Sl.al t (h.step i) then Fx.none else Fx.of (Sl.dnn (Vf.read S.now n (at_ h i t) 12).1)) := Lib.hid rfl
 obtain ⟨b, off, rfl, ha⟩ := f.ars.2 (by omega)
 have c0 : w.cell? ⟨x, 0, none⟩ = some (.pointer (some ⟨fs, 0, none⟩)) := f.row.cell 0
 have c1 : w.cell? ⟨x, 1, none⟩ = some (.string ⟨n.toArray⟩) := f.row.cell 1
 have c4 : w.cell? ⟨x, 4, none⟩ = some (.slice (some ⟨b, off, none⟩) h.l.length cap) := f.row.cell 4
 have s0 : w.cell? ⟨b, off + i * 2, none⟩ = some (.int .i64 (h.step i)) := ha.st i hi
 have hxl := f.row.lt
 have hbl := ha.lt
 have HC : Hid (∀ W, Below (w.heap.size + 1) (w.alloc (.cells #[.bool false, .int .i64 0] 110)) W → (W.cell? ⟨x, 0, none⟩ = some (.pointer (some ⟨fs, 0, none⟩)) ∧ W.cell? ⟨x, 1, none⟩ = some (.string ⟨n.toArray⟩) ∧ W.cell? ⟨x, 4, none⟩ = some (.slice (some ⟨b, off, none⟩) h.l.length cap) ∧ W.cell? ⟨b, off + i * 2, none⟩ = some (.int .i64 (h.step i))) ∧
  (W.cell? ⟨w.heap.size, 0, none⟩ = some (.bool false) ∧ W.cell? ⟨w.heap.size, 1, none⟩ = some (.int .i64 0) ∧ W.frozen? ⟨w.heap.size, 0, none⟩ = false ∧ W.frozen? ⟨w.heap.size, 1, none⟩ = false) ∧ w.heap.size < W.heap.size ∧ x < W.heap.size ∧ b < W.heap.size) := Lib.hid fun W hb =>
  have hl := lowBox' hb
  ⟨⟨((bcell hl).1 _ _ hxl).trans c0, ((bcell hl).1 _ _ hxl).trans c1, ((bcell hl).1 _ _ hxl).trans c4, ((bcell hl).1 _ _ hbl).trans s0⟩,
    ⟨(hb.cell (p := ⟨w.heap.size, 0, none⟩) (Nat.lt_succ_self _)).trans (by simp [go_sem]), (hb.cell (p := ⟨w.heap.size, 1, none⟩) (Nat.lt_succ_self _)).trans (by simp [go_sem]), (hb.frozen (p := ⟨w.heap.size, 0, none⟩) (Nat.lt_succ_self _)).trans (by simp [go_sem]), (hb.frozen (p := ⟨w.heap.size, 1, none⟩) (Nat.lt_succ_self _)).trans (by simp [go_sem])⟩,
    Nat.lt_of_lt_of_le (by simp) hb.size, Nat.lt_of_lt_of_le hxl hl.size, Nat.lt_of_lt_of_le hbl hl.size⟩
 obtain ⟨⟨d0, d1, d4, ds⟩, _, _, _⟩ := HC.out (w.alloc (.cells #[.bool false, .int .i64 0] 110)) (Below.refl _ _)
 have hil : (i : Int) < (h.l.length : Int) := by omega
 have hi0 : (0 : Int) ≤ (i : Int) := by omega
 clear f ha c0 c1 c4 s0
 generalize at_ h i t = a at *
 generalize value S.now n h i t = q at *
 generalize Vf.read S.now n a 12 = R at *
 obtain ⟨L, er⟩ := R
 generalize Sl.al t (h.step i) = u at *
 generalize h.step i = s at *
 generalize h.l.length = N at *
 generalize (⟨n.toArray⟩ : ByteArray) = nb at *
 go_enter Tryz.func92, Tryz.ntmps92
 go_wp2_with fail
 go_region_held3 (fun W => W.cell? ⟨x, 0, none⟩ = some (.pointer (some ⟨fs, 0, none⟩)) ∧ W.cell? ⟨x, 1, none⟩ = some (.string nb)) (first | exact ⟨d0, d1⟩ | exact ⟨e0, e1⟩ | exact ⟨f0, f1⟩ | go_keep)
  (first
   | (go_at_call 90; (with_reducible refine (HAT.out _ Bqn).mono ?_); rintro e w2 ⟨rfl, hb2⟩; have hbb : Below (w.heap.size + 1) (w.alloc (.cells #[.bool false, .int .i64 0] 110)) w2 := Bqn; obtain ⟨⟨e0, e1, e4, es⟩, _, hs2, _, _⟩ := HC.out w2 hbb; have HB2 := Lib.hid hbb; clear hb2 hbb)
   | (go_at_call 13; (with_reducible refine (HRD.out _ (lowBox' HB2.out)).mono ?_); rintro e w3 ⟨v3, rfl, hv3, hb3⟩; have hbb : Below (w.heap.size + 1) (w.alloc (.cells #[.bool false, .int .i64 0] 110)) w3 := HB2.out.trans (hb3.mono hs2); obtain ⟨⟨f0, f1, f4, fx⟩, _, hs3, hx3, hb3'⟩ := HC.out w3 hbb; have HB3 := Lib.hid hbb; have HV3 : Hid (Reads w3 v3 L) := Lib.hid (by obtain ⟨A', c', e', h1', _, h3'⟩ := hv3; exact ⟨A', c', e', h1', h3'.mono fun _ _ _ => trivial⟩); obtain ⟨A3, c3, rfl, _, _⟩ := HV3.out; clear hb3 hbb hv3))
 have HQ' : Hid (q = if u ≤ 0 ∨ Sl.dat L ≠ u then Fx.none else Fx.of (Sl.dnn L)) := HQ
 clear HQ HAT HRD
 have HDC : Hid (∀ W, Below w3.heap.size w3 W → Calls Tryz.prog 38 #[.slice A3 L.length c3] W fun e w' => e = .returned (.tuple #[.agg #[.int .i64 (Sl.dat L), .int .i64 (Sl.dnn L)], .bool (Sl.okd L)]) ∧ Below W.heap.size W w') := Lib.hid fun W hb => rsdec_v L A3 c3 W (HV3.out.below hb)
 have HOF : Hid (∀ W, Calls Tryz.prog 111 #[.int .i64 (Sl.dnn L)] W fun e w' => e = .returned (.agg #[.bool (Fx.of (Sl.dnn L)).ok, .int .i64 (Fx.of (Sl.dnn L)).n]) ∧ Below W.heap.size W w') := Lib.hid fun W => refOf_any _ W
 generalize Sl.dat L = da at *
 generalize Sl.dnn L = dn at *
 generalize Sl.okd L = ok at *
 generalize Fx.of dn = fo at *
 obtain ⟨fo, fn⟩ := fo
 have hz3 : w3.heap.size ≤ w3.heap.size := Nat.le_refl _
 by_cases hu : u ≤ 0
 ·obtain rfl : q = Fx.none := by rw [HQ'.out, if_pos (.inl hu)]
  clear HQ'
  go_wp2_with first
   | (go_at_call 38; (with_reducible refine (HDC.out _ (Below.refl _ _)).mono ?_); rintro e w4 ⟨rfl, hb4⟩; have hbb : Below (w.heap.size + 1) (w.alloc (.cells #[.bool false, .int .i64 0] 110)) w4 := HB3.out.trans (hb4.mono hs3); obtain ⟨⟨g0, g1, g4, gx⟩, ⟨r0, r1, y0, y1⟩, hs4, hx4, hb4'⟩ := HC.out w4 hbb; have HB4 := Lib.hid hbb; clear hb4 hbb)
   | (go_at_call 54; ((with_reducible refine (HAL.out _).mono ?_); rintro e w' ⟨rfl, rfl⟩))
  exact bodyPost_ret (v := .agg #[.bool false, .int .i64 0]) (by simp [results, Tryz.results92, go_sem, *]) rfl ⟨rfl, Below.alloc (Below.setCell (Below.setCell (lowBox' HB4.out) (Nat.le_refl _) _) (Nat.le_refl _) _) (by simp [World.setCell]; omega) _⟩
 by_cases hp : da = u
 ·obtain rfl : q = ⟨fo, fn⟩ := by rw [HQ'.out, if_neg (by rintro (h | h); exact hu h; exact h hp)]
  clear HQ'
  subst hp
  go_wp2_with first
   | (go_at_call 38; (with_reducible refine (HDC.out _ (Below.refl _ _)).mono ?_); rintro e w4 ⟨rfl, hb4⟩; have hbb : Below (w.heap.size + 1) (w.alloc (.cells #[.bool false, .int .i64 0] 110)) w4 := HB3.out.trans (hb4.mono hs3); obtain ⟨⟨g0, g1, g4, gx⟩, ⟨r0, r1, y0, y1⟩, hs4, hx4, hb4'⟩ := HC.out w4 hbb; have HB4 := Lib.hid hbb; clear hb4 hbb)
   | (go_at_call 54; ((with_reducible refine (HAL.out _).mono ?_); rintro e w' ⟨rfl, rfl⟩))
   | (go_at_call 111; (with_reducible refine (HOF.out _).mono ?_); rintro e w5 ⟨rfl, hb5⟩; have hbb : Below (w.heap.size + 1) (w.alloc (.cells #[.bool false, .int .i64 0] 110)) w5 := (HB4.out.alloc (by omega) _).trans (hb5.mono (by simp; omega)); obtain ⟨_, ⟨o0, o1, z0, z1⟩, hs5, _, _⟩ := HC.out w5 hbb; have HB5 := Lib.hid hbb; clear hb5 hbb)
  exact bodyPost_ret (v := .agg #[.bool fo, .int .i64 fn]) (by simp [results, Tryz.results92, go_sem, *]) rfl ⟨rfl, Below.setCell (Below.setCell (lowBox' HB5.out) (Nat.le_refl _) _) (Nat.le_refl _) _⟩
 ·obtain rfl : q = Fx.none := by rw [HQ'.out, if_pos (.inr hp)]
  clear HQ'
  have hpb : (da == u) = false := by simpa using hp
  have hpn : (da != u) = true := by simpa using hp
  go_wp2_with first
   | (go_at_call 38; (with_reducible refine (HDC.out _ (Below.refl _ _)).mono ?_); rintro e w4 ⟨rfl, hb4⟩; have hbb : Below (w.heap.size + 1) (w.alloc (.cells #[.bool false, .int .i64 0] 110)) w4 := HB3.out.trans (hb4.mono hs3); obtain ⟨⟨g0, g1, g4, gx⟩, ⟨r0, r1, y0, y1⟩, hs4, hx4, hb4'⟩ := HC.out w4 hbb; have HB4 := Lib.hid hbb; clear hb4 hbb)
   | (go_at_call 54; ((with_reducible refine (HAL.out _).mono ?_); rintro e w' ⟨rfl, rfl⟩))
  exact bodyPost_ret (v := .agg #[.bool false, .int .i64 0]) (by simp [results, Tryz.results92, go_sem, *]) rfl ⟨rfl, Below.alloc (Below.setCell (Below.setCell (lowBox' HB4.out) (Nat.le_refl _) _) (Nat.le_refl _) _) (by simp [World.setCell]; omega) _⟩
end
end Go.Proofs.YtljlanhpjpjgaaaGreatDoor
