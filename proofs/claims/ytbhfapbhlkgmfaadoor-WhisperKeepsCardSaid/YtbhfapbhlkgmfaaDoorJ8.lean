/-
  WhRef: CONTRACTS: the document's own headers: which may be, any; their sizes, places, spans.
  AgRow: ROWS OF VALUES: what a slice of Vals holds, as a list; a row of the call's own; a row of Vals that comes in.
  WpAt: CONTRACTS: chapter 7, the document's file: where a slot stands.
  WpVal: CONTRACTS: chapter 7, the document's file: the value that a slot has of a time.
  WpWr: CONTRACTS: chapter 7, the document's file: a slot is written.
  AgKn: CONTRACTS: those of a row that are known, on both sides.
-/
import Derived.Test.YtbhfapbhlkgmfaaDoorJ7
import Derived.Test.YtbhfapbhlkgmfaaDoorJ3
import Derived.Test.YtbhfapbhlkgmfaaDoorRows
import Derived.Test.YtbhfapbhlkgmfaaDoorJ1
import Derived.WalkKit
import Derived.WalkSpells
import Derived.WalkLawsBesides
import Derived.Deep.QuietTactic
import Derived.BigQuiet
import Derived.Lib.QuietBelow
import Derived.Lib.Hide
import Derived.IntWalk
import Derived.Deep.RegionHeld3
import Derived.Laws.MakeOwn
import Derived.Test.YtbhfapbhlkgmfaaDoorJ6
import Derived.Test.YtbhfapbhlkgmfaaDoorJ5

namespace Go.Proofs.YtbhfapbhlkgmfaaDoor
open Go.RowKit Go.Sort
open Wh (At)

set_option maxHeartbeats 1000000 in
theorem may_any (ag xf : Int) (l : List (Int × Int)) (A : Option Addr) (cap : Nat) (w : World) (h : Row w A l cap) :
    Calls Tryd.prog 18 #[.agg #[.int .i64 ag, .int .i64 xf, .slice A l.length cap]] w fun e w' => e = .returned (.bool (Wh.val ag xf l)) ∧ Below w.heap.size w w' := by
  have HX : Hid (ag < 1 ∨ 5 < ag ∨ xf < 0 ∨ 1000000 < xf ∨ Wh.av l = false → Wh.val ag xf l = false) := Lib.hid Wh.val_head
  by_cases k1 : ag < 1
  · have HQ := Lib.hid (HX.out (.inl k1))
    go_enter Tryd.func18, Tryd.ntmps18
    go_wp2
    go_ret
    exact ⟨by rw [HQ.out]; rfl, (by repeat (first | exact Below.refl _ _ | assumption | refine Below.setCell ?_ (by first | (simp; done) | omega | (simp; omega) | (simp at *; omega)) _ | refine Below.alloc ?_ (by first | (simp; done) | omega | (simp; omega) | (simp at *; omega)) _ | refine Below.drew ?_ | (refine Below.trans ?_ (Below.mono (by assumption) (by first | (simp; done) | omega | (simp; omega) | (simp at *; omega)))) | (refine Below.trans ?_ (Below.mono (below_regrown _ _ _) (by first | (simp; done) | omega | (simp; omega) | (simp at *; omega))))))⟩
  by_cases k2 : 5 < ag
  · have HQ := Lib.hid (HX.out (.inr (.inl k2)))
    go_enter Tryd.func18, Tryd.ntmps18
    go_wp2
    go_ret
    exact ⟨by rw [HQ.out]; rfl, (by repeat (first | exact Below.refl _ _ | assumption | refine Below.setCell ?_ (by first | (simp; done) | omega | (simp; omega) | (simp at *; omega)) _ | refine Below.alloc ?_ (by first | (simp; done) | omega | (simp; omega) | (simp at *; omega)) _ | refine Below.drew ?_ | (refine Below.trans ?_ (Below.mono (by assumption) (by first | (simp; done) | omega | (simp; omega) | (simp at *; omega)))) | (refine Below.trans ?_ (Below.mono (below_regrown _ _ _) (by first | (simp; done) | omega | (simp; omega) | (simp at *; omega))))))⟩
  by_cases k3 : xf < 0
  · have HQ := Lib.hid (HX.out (.inr (.inr (.inl k3))))
    go_enter Tryd.func18, Tryd.ntmps18
    go_wp2
    go_ret
    exact ⟨by rw [HQ.out]; rfl, (by repeat (first | exact Below.refl _ _ | assumption | refine Below.setCell ?_ (by first | (simp; done) | omega | (simp; omega) | (simp at *; omega)) _ | refine Below.alloc ?_ (by first | (simp; done) | omega | (simp; omega) | (simp at *; omega)) _ | refine Below.drew ?_ | (refine Below.trans ?_ (Below.mono (by assumption) (by first | (simp; done) | omega | (simp; omega) | (simp at *; omega)))) | (refine Below.trans ?_ (Below.mono (below_regrown _ _ _) (by first | (simp; done) | omega | (simp; omega) | (simp at *; omega))))))⟩
  by_cases k4 : 1000000 < xf
  · have HQ := Lib.hid (HX.out (.inr (.inr (.inr (.inl k4)))))
    go_enter Tryd.func18, Tryd.ntmps18
    go_wp2
    go_ret
    exact ⟨by rw [HQ.out]; rfl, (by repeat (first | exact Below.refl _ _ | assumption | refine Below.setCell ?_ (by first | (simp; done) | omega | (simp; omega) | (simp at *; omega)) _ | refine Below.alloc ?_ (by first | (simp; done) | omega | (simp; omega) | (simp at *; omega)) _ | refine Below.drew ?_ | (refine Below.trans ?_ (Below.mono (by assumption) (by first | (simp; done) | omega | (simp; omega) | (simp at *; omega)))) | (refine Below.trans ?_ (Below.mono (below_regrown _ _ _) (by first | (simp; done) | omega | (simp; omega) | (simp at *; omega))))))⟩
  by_cases k5 : l.length = 0
  · have HQ := Lib.hid (HX.out (.inr (.inr (.inr (.inr (Wh.av_nil k5))))))
    rw [k5]
    clear k5
    go_enter Tryd.func18, Tryd.ntmps18
    go_wp2
    go_ret
    exact ⟨by rw [HQ.out]; rfl, (by repeat (first | exact Below.refl _ _ | assumption | refine Below.setCell ?_ (by first | (simp; done) | omega | (simp; omega) | (simp at *; omega)) _ | refine Below.alloc ?_ (by first | (simp; done) | omega | (simp; omega) | (simp at *; omega)) _ | refine Below.drew ?_ | (refine Below.trans ?_ (Below.mono (by assumption) (by first | (simp; done) | omega | (simp; omega) | (simp at *; omega)))) | (refine Below.trans ?_ (Below.mono (below_regrown _ _ _) (by first | (simp; done) | omega | (simp; omega) | (simp at *; omega))))))⟩
  by_cases k6 : 8 < l.length
  · have HQ := Lib.hid (HX.out (.inr (.inr (.inr (.inr (Wh.av_long k6))))))
    go_enter Tryd.func18, Tryd.ntmps18
    go_wp2
    go_ret
    exact ⟨by rw [HQ.out]; rfl, (by repeat (first | exact Below.refl _ _ | assumption | refine Below.setCell ?_ (by first | (simp; done) | omega | (simp; omega) | (simp at *; omega)) _ | refine Below.alloc ?_ (by first | (simp; done) | omega | (simp; omega) | (simp at *; omega)) _ | refine Below.drew ?_ | (refine Below.trans ?_ (Below.mono (by assumption) (by first | (simp; done) | omega | (simp; omega) | (simp at *; omega)))) | (refine Below.trans ?_ (Below.mono (below_regrown _ _ _) (by first | (simp; done) | omega | (simp; omega) | (simp at *; omega))))))⟩
  obtain ⟨b, off, rfl, hA⟩ := h.2 (by omega)
  rw [Wh.val_av (by omega) (by omega) (by omega) (by omega)]
  exact may_some ag xf (by omega) (by omega) (by omega) (by omega) l b off cap w hA h.1 (by omega) (by omega)

set_option maxHeartbeats 1000000 in
theorem rsize_any (ag xf : Int) (l : List (Int × Int)) (A : Option Addr) (cap : Nat) (w : World) (h : Row w A l cap) :
    Calls Tryd.prog 19 #[.agg #[.int .i64 ag, .int .i64 xf, .slice A l.length cap]] w fun e w' => e = .returned (.int .i64 (Wh.size ag xf l)) ∧ Below w.heap.size w w' := by
  have HV : Hid (∀ W, Below w.heap.size w W → Calls Tryd.prog 18 #[.agg #[.int .i64 ag, .int .i64 xf, .slice A l.length cap]] W fun e w' => e = .returned (.bool (Wh.val ag xf l)) ∧ Below W.heap.size W w') := Lib.hid fun W hb => may_any ag xf l A cap W (h.below hb)
  cases hv : Wh.val ag xf l
  · rw [hv] at HV
    have HQ : Hid (Wh.size ag xf l = 0) := Lib.hid (by unfold Wh.size; rw [hv]; rfl)
    clear hv h
    go_enter Tryd.func19, Tryd.ntmps19
    go_wp2_with (go_at_call 18; go_must (refine (HV.out _ ((Below.refl _ _).alloc (Nat.le_refl _) _)).mono ?_; rintro e w' ⟨rfl, hb⟩; obtain ⟨hc, hf⟩ := bcell hb; (try have hz0 : w.heap.size < w'.heap.size := Nat.lt_of_lt_of_le (by first | assumption | (simp; done) | (simp; omega)) hb.size); (try have hz1 : w.heap.size + 1 < w'.heap.size := Nat.lt_of_lt_of_le (by first | assumption | (simp; done) | (simp; omega)) hb.size); (try have hz2 : w.heap.size + 1 + 1 < w'.heap.size := Nat.lt_of_lt_of_le (by first | assumption | (simp; done) | (simp; omega)) hb.size); have hz := hb.size; (try simp at hz)))
    go_ret
    exact ⟨by rw [HQ.out]; rfl, (by repeat (first | exact Below.refl _ _ | assumption | refine Below.setCell ?_ (by first | (simp; done) | omega | (simp; omega) | (simp at *; omega)) _ | refine Below.alloc ?_ (by first | (simp; done) | omega | (simp; omega) | (simp at *; omega)) _ | refine Below.drew ?_ | (refine Below.trans ?_ (Below.mono (by assumption) (by first | (simp; done) | omega | (simp; omega) | (simp at *; omega)))) | (refine Below.trans ?_ (Below.mono (below_regrown _ _ _) (by first | (simp; done) | omega | (simp; omega) | (simp at *; omega))))))⟩
  · rw [hv] at HV
    have HQ : Hid (Wh.size ag xf l = Wh.run l l.length) := Lib.hid (by unfold Wh.size; rw [hv]; rfl)
    obtain ⟨b, off, rfl, hA, hcap, a1, a2, a3, a4, _⟩ := row_val h hv
    have HA := Lib.hid hA
    have HB : Hid (∀ i, i ≤ l.length → 16 ≤ Wh.run l i ∧ Wh.run l i ≤ 2000000000) := Lib.hid fun i hi => Wh.run_bd a2 (Wh.alls_cnt a3) i hi
    have HN : Hid (∀ i, i < l.length → 1 ≤ (At l i).2 ∧ (At l i).2 ≤ 16777216) := Lib.hid (Wh.alls_cnt a3)
    have HZ := Lib.hid (Wh.run_zero l)
    have HS := Lib.hid (Wh.run_succ l)
    clear hv h hA a3 a4
    go_enter Tryd.func19, Tryd.ntmps19
    go_wp2_with (go_at_call 18; go_must (refine (HV.out _ ((Below.refl _ _).alloc (Nat.le_refl _) _)).mono ?_; rintro e w' ⟨rfl, hb⟩; obtain ⟨hc, hf⟩ := bcell hb; (try have hz0 : w.heap.size < w'.heap.size := Nat.lt_of_lt_of_le (by first | assumption | (simp; done) | (simp; omega)) hb.size); (try have hz1 : w.heap.size + 1 < w'.heap.size := Nat.lt_of_lt_of_le (by first | assumption | (simp; done) | (simp; omega)) hb.size); (try have hz2 : w.heap.size + 1 + 1 < w'.heap.size := Nat.lt_of_lt_of_le (by first | assumption | (simp; done) | (simp; omega)) hb.size); have hz := hb.size; (try simp at hz)))
    have HBL : Hid (Below (w.heap.size + 1) (w.alloc (.cells #[.int .i64 ag, .int .i64 xf, .slice (some ⟨b, off, none⟩) l.length cap] 24)) w') := Lib.hid (hb.mono (by simp))
    clear hb hc hf
    go_loopw [3, 4] (fun q i wr => ∃ j : Nat, j ≤ l.length ∧ i = .int .i64 j ∧ q = .int .i64 (Wh.run l j) ∧ Below (w.heap.size + 1) (w.alloc (.cells #[.int .i64 ag, .int .i64 xf, .slice (some ⟨b, off, none⟩) l.length cap] 24)) wr) (fun _ i _ => l.length - (intOf i).toNat)
    case atStart => exact ⟨0, Nat.zero_le _, rfl, by rw [HZ.out], HBL.out⟩
    case round =>
      obtain ⟨j, hj, rfl, rfl, hR⟩ := hrel
      have hx2 : wr.cell? ⟨w.heap.size, 2, none⟩ = some (.slice (some ⟨b, off, none⟩) l.length cap) := (hR.cell (p := ⟨w.heap.size, 2, none⟩) (Nat.lt_succ_self _)).trans (by simp [go_sem])
      have hsz : w.heap.size < wr.heap.size := by have := hR.size; simp at this; omega
      have hAr := HA.out.below (lowBox hR)
      have hbl := hAr.lt
      have HR := Lib.hid hR
      clear hR
      by_cases hlt : j < l.length
      · have c1 := hAr.ct j hlt
        have b1 := HN.out j hlt
        have b2 := HB.out j (by omega)
        have HE := Lib.hid (HS.out j)
        clear hAr HB HS HZ HN
        generalize Wh.run l j = q at *
        generalize At l j = a at *
        obtain ⟨s, c⟩ := a
        dsimp only at *
        go_wp2
        go_roundw
        case rel => exact ⟨j + 1, by omega, by go_num, congrArg (Value.int .i64) (by rw [HE.out]), HR.out⟩
        case measure => simp [intOf]; omega
      · obtain rfl : j = l.length := by omega
        clear hAr HB HS HZ HN
        go_wp2
        go_ret
        exact ⟨by rw [HQ.out]; rfl, lowBox HR.out⟩

end Go.Proofs.YtbhfapbhlkgmfaaDoor

namespace Go.Proofs.YtbhfapbhlkgmfaaDoor
open Go.RowKit Go.Sort
open Fx (Vl)
open Me

theorem infoVal : (Tryd.prog.info? 47).map (fun i => (i.zero, i.size, i.bytes)) = some (some (.agg #[.bool false, .int .i64 0]), 2, 16) := by kernel_rfl

def cellsOf (l : List Vl) : List Value := l.flatMap fun v => [.bool v.ok, .int .i64 v.n]
theorem cellsOf_length (l : List Vl) : (cellsOf l).length = l.length * 2 := by
  induction l with
  | nil => rfl
  | cons v l ih => simp only [cellsOf, List.flatMap_cons, List.length_append, List.length_cons, List.length_nil] at *; omega
theorem cellsOf_even (l : List Vl) : ∀ i (h : i < l.length), (cellsOf l)[i * 2]? = some (.bool l[i].ok) := by
  induction l with
  | nil => intro i h; cases h
  | cons v l ih =>
    intro i h
    cases i with
    | zero => rfl
    | succ i =>
      have := ih i (by simpa using h)
      have e : (i + 1) * 2 = i * 2 + 1 + 1 := by omega
      rw [e]
      show (cellsOf l)[i * 2]? = _
      exact this
theorem cellsOf_odd (l : List Vl) : ∀ i (h : i < l.length), (cellsOf l)[i * 2 + 1]? = some (.int .i64 l[i].n) := by
  induction l with
  | nil => intro i h; cases h
  | cons v l ih =>
    intro i h
    cases i with
    | zero => rfl
    | succ i =>
      have := ih i (by simpa using h)
      have e : (i + 1) * 2 + 1 = i * 2 + 1 + 1 + 1 := by omega
      rw [e]
      show (cellsOf l)[i * 2 + 1]? = _
      exact this
theorem cellsOf_one (l : List Vl) : ∀ u ∈ cellsOf l, u.oneCell' = true := by
  intro u hu
  simp only [cellsOf, List.mem_flatMap] at hu
  obtain ⟨v, _, hv⟩ := hu
  simp at hv
  rcases hv with rfl | rfl <;> rfl
theorem cellsOf_at {w : World} {b off : Nat} {l : List Vl} (hv : Vals w b off l) : ∀ j u, (cellsOf l)[j]? = some u → w.cell? ((⟨b, off, none⟩ : Addr).add j) = some u := by
  intro j u hj
  have hlt : j < l.length * 2 := by
    have := (List.getElem?_eq_some_iff.1 hj).1
    rwa [cellsOf_length] at this
  rw [show (⟨b, off, none⟩ : Addr).add j = ⟨b, off + j, none⟩ by simp [Addr.add]]
  by_cases h2 : j % 2 = 0
  · have e : j = j / 2 * 2 := by omega
    have h := cellsOf_even l (j / 2) (by omega)
    rw [← e, hj] at h
    rw [e, hv.ok (j / 2) (by omega), h]
  · have e : j = j / 2 * 2 + 1 := by omega
    have h := cellsOf_odd l (j / 2) (by omega)
    rw [← e, hj] at h
    rw [e, ← Nat.add_assoc, hv.n (j / 2) (by omega), h]


theorem cellsOf_append (l m : List Vl) : cellsOf (l ++ m) = cellsOf l ++ cellsOf m := by simp [cellsOf]
theorem cellsOf_single (v : Vl) : cellsOf [v] = [.bool v.ok, .int .i64 v.n] := rfl

/-- A slice of Vals, nil and empty ones too, as a list. -/
def Sl (w : World) (v : Value) (l : List Vl) : Prop := (l = [] ∧ ∃ x cap, v = .slice x 0 cap) ∨ (0 < l.length ∧ ∃ b off cap, v = .slice (some ⟨b, off, none⟩) l.length cap ∧ Vals w b off l)
theorem Sl.below {w w' : World} {v : Value} {l : List Vl} (h : Sl w v l) (hb : Below w.heap.size w w') : Sl w' v l := by
  rcases h with h | ⟨h0, b, off, cap, e, hv⟩
  · exact .inl h
  · exact .inr ⟨h0, b, off, cap, e, hv.below hb⟩
theorem Sl.form {w : World} {v : Value} {l : List Vl} (h : Sl w v l) : ∃ A c, v = .slice A l.length c := by
  rcases h with ⟨rfl, x, cap, rfl⟩ | ⟨_, b, off, cap, rfl, _⟩
  · exact ⟨_, _, rfl⟩
  · exact ⟨_, _, rfl⟩
theorem Sl.nil (w : World) (x : Option Addr) (cap : Nat) : Sl w (.slice x 0 cap) [] := .inl ⟨rfl, x, cap, rfl⟩
theorem Sl.some {w : World} {b off cap : Nat} {l : List Vl} (h0 : 0 < l.length) (h : Vals w b off l) : Sl w (.slice (some ⟨b, off, none⟩) l.length cap) l := .inr ⟨h0, b, off, cap, rfl, h⟩

/-- A row of Vals of the call's own. -/
def OwnV (base : Nat) (w : World) (v : Value) (l : List Vl) : Prop := w.ownsRow base 47 2 v l.length (cellsOf l)
theorem OwnV.lt {base : Nat} {w : World} {v : Value} {l : List Vl} (h : OwnV base w v l) : ∀ g, v.ownBlock = some g → base ≤ g ∧ g < w.heap.size := by
  intro g hg
  rcases h.2 with ⟨rfl, _⟩ | ⟨g', cap, cur, rfl, hb, hh, _⟩
  · cases hg
  · have : g' = g := by simpa [Value.ownBlock] using hg
    subst this
    exact ⟨hb, (Array.getElem?_eq_some_iff.1 hh).1⟩
theorem OwnV.nil (a : Nat) (w : World) : OwnV a w (.slice none 0 0) [] := ⟨rfl, .inl ⟨rfl, rfl⟩⟩
theorem OwnV.below {a : Nat} {w w' : World} {v : Value} {l : List Vl} (h : OwnV a w v l) (k : Below w.heap.size w w') : OwnV a w' v l :=
  owns_keep h fun g hg => k.block g (h.lt g hg).2
theorem OwnV.slice {a : Nat} {w : World} {v : Value} {l : List Vl} (h : OwnV a w v l) : ∃ A c, v = .slice A l.length c := by
  rcases h.2 with ⟨rfl, h0⟩ | ⟨g', cap, cur, rfl, _⟩
  · exact ⟨none, 0, by rw [h0]⟩
  · exact ⟨_, _, rfl⟩
theorem OwnV.more {base : Nat} {w : World} {v : Value} {l : List Vl} {ok : Bool} {n : Int} (h : w.ownsRow base 47 2 v (l.length + 1) (cellsOf l ++ [.bool ok, .int .i64 n])) : OwnV base w v (l ++ [⟨ok, n⟩]) := by
  unfold OwnV
  rw [List.length_append, cellsOf_append, cellsOf_single]
  exact h
theorem OwnV.sl {base : Nat} {w : World} {v : Value} {l : List Vl} (h : OwnV base w v l) : Sl w v l := by
  obtain ⟨hlen, ⟨rfl, h0⟩ | ⟨g, cap, cur, rfl, hb, hg, hle, hm, hs, hx⟩⟩ := h
  · exact .inl ⟨List.eq_nil_of_length_eq_zero h0, none, 0, rfl⟩
  · by_cases h0 : l.length = 0
    · have e := List.eq_nil_of_length_eq_zero h0
      subst e
      exact .inl ⟨rfl, _, _, rfl⟩
    · refine .inr ⟨by omega, g, 0, cap, rfl, (Array.getElem?_eq_some_iff.1 hg).1, ?_, ?_⟩
      · intro i hi
        rw [Nat.zero_add, ← cellsOf_even l i hi, ← hx, List.getElem?_take, if_pos (by rw [cellsOf_length] at hlen; omega)]
        simp [World.cell?, hg]
      · intro i hi
        rw [Nat.zero_add, ← cellsOf_odd l i hi, ← hx, List.getElem?_take, if_pos (by rw [cellsOf_length] at hlen; omega)]
        simp [World.cell?, hg]

/-- What a slice of Vals reads as, for an append. -/
theorem Sl.rd {w : World} {A : Option Addr} {n c : Nat} {l : List Vl} (h : Sl w (.slice A n c) l) : n = l.length ∧ Rd w (fun _ => True) A (cellsOf l) := by
  rcases h with ⟨rfl, x, cap, e⟩ | ⟨h0, b, off, cap, e, hv⟩
  · injection e with e1 e2 e3
    exact ⟨e2, fun hne => absurd rfl hne⟩
  · injection e with e1 e2 e3
    subst e1 e2 e3
    exact ⟨rfl, fun _ => ⟨_, rfl, hv.lt, trivial, cellsOf_at hv⟩⟩

theorem adN (b off j : Nat) : (⟨b, off, none⟩ : Addr).add j = ⟨b, off + j, none⟩ := by simp [Addr.add]

/-- Every row of Vals that comes in. -/
theorem sl_in (x : Option Addr) (len cap : Nat) (w : World) (hx : (x = none ∧ len = 0 ∧ cap = 0) ∨ (∃ a : Addr, x = some a ∧ ∀ i, i < len → ∃ (ok : Bool) (n : Int), w.cell? (a.add (i * 2)) = some (.bool ok) ∧ w.cell? (a.add (i * 2 + 1)) = some (.int .i64 n))) :
    ∃ l : List Vl, l.length = len ∧ Sl w (.slice x len cap) l := by
  rcases hx with ⟨rfl, rfl, rfl⟩ | ⟨a, rfl, hc⟩
  · exact ⟨[], rfl, Sl.nil _ _ _⟩
  · by_cases h0 : len = 0
    · subst h0; exact ⟨[], rfl, Sl.nil _ _ _⟩
    · obtain ⟨b, off, spot⟩ := a
      obtain ⟨ok0, n0, hk0, _⟩ := hc 0 (by omega)
      have hspot : spot = none := by simpa [Addr.add] using World.cell?_spot hk0
      subst hspot
      obtain ⟨l, hlen, hl2⟩ : ∃ l : List Vl, l.length = len ∧ ∀ i (h : i < l.length), w.cell? ⟨b, off + i * 2, none⟩ = some (.bool l[i].ok) ∧ w.cell? ⟨b, off + i * 2 + 1, none⟩ = some (.int .i64 l[i].n) := by
        have key : ∀ m, m ≤ len → ∃ l : List Vl, l.length = m ∧ ∀ i (h : i < l.length), w.cell? ⟨b, off + i * 2, none⟩ = some (.bool l[i].ok) ∧ w.cell? ⟨b, off + i * 2 + 1, none⟩ = some (.int .i64 l[i].n) := by
          intro m
          induction m with
          | zero => intro _; exact ⟨[], rfl, fun i h => by cases h⟩
          | succ m ih =>
            intro hm
            obtain ⟨l, e, hi⟩ := ih (by omega)
            obtain ⟨ok, n, c0, c1⟩ := hc m (by omega)
            refine ⟨l ++ [⟨ok, n⟩], by simp [e], fun i h => ?_⟩
            by_cases him : i < l.length
            · rw [List.getElem_append_left him]; exact hi i him
            · have him2 : i = l.length := by simp at h; omega
              subst him2
              rw [List.getElem_append_right (Nat.le_refl _)]
              rw [adN] at c0 c1
              simp only [e, Nat.sub_self, List.getElem_cons_zero]
              exact ⟨c0, by rw [Nat.add_assoc]; exact c1⟩
        exact key len (Nat.le_refl _)
      refine ⟨l, hlen, ?_⟩
      subst hlen
      exact Sl.some (by omega) ⟨World.block_lt_of_cell? w _ (hl2 0 (by omega)).1, fun i h => (hl2 i h).1, fun i h => (hl2 i h).2⟩
end Go.Proofs.YtbhfapbhlkgmfaaDoor

namespace Go.Proofs.YtbhfapbhlkgmfaaDoor
open Go.RowKit Go.Sort
open Fx (Vl)
open Me
namespace Wp

/-- The document's file of a file system: at block x; the system's object at fs; the header's archives at A. -/
structure FileR (w : World) (x fs : Nat) (n : List UInt8) (h : Hd) (A : Option Addr) (cap : Nat) : Prop where
  row : RowAt w x 26 #[.pointer (some ⟨fs, 0, none⟩), .string ⟨n.toArray⟩, .int .i64 h.ag, .int .i64 h.xf, .slice A h.l.length cap]
  ars : Row w A h.l cap
theorem FileR.below {w w' : World} {x fs : Nat} {n : List UInt8} {h : Hd} {A : Option Addr} {cap : Nat} (f : FileR w x fs n h A cap) (b : Below w.heap.size w w') : FileR w' x fs n h A cap :=
  ⟨f.row.below b f.row.lt, f.ars.below b⟩
theorem FileR.keep {w w' : World} {V : Nat → Prop} {x fs : Nat} {n : List UInt8} {h : Hd} {A : Option Addr} {cap : Nat} (f : FileR w x fs n h A cap) (k : Kp (fun b => ¬ V b) w w') (hx : V x) (hA : ∀ a, A = some a → V a.block) : FileR w' x fs n h A cap := by
  refine ⟨(k.block x f.row.lt (fun o => o hx)).trans f.row, f.ars.1, fun h0 => ?_⟩
  obtain ⟨b, off, e, ha⟩ := f.ars.2 h0
  have hb : V b := hA _ e
  exact ⟨b, off, e, Nat.lt_of_lt_of_le ha.lt k.size, fun i hi => (k.cell (p := ⟨b, off + i * 2, none⟩) ha.lt (fun o => o hb)).trans (ha.st i hi), fun i hi => (k.cell (p := ⟨b, off + i * 2 + 1, none⟩) ha.lt (fun o => o hb)).trans (ha.ct i hi)⟩
/-- A header that may be: each archive's numbers. -/
theorem Hd.nums {h : Hd} (hv : h.val = true) : ∀ i, i < h.l.length → (1 ≤ h.step i ∧ h.step i ≤ 16777216) ∧ (1 ≤ h.cnt i ∧ h.cnt i ≤ 16777216) := by
  obtain ⟨_, _, _, ha⟩ := Wh.val_t hv
  obtain ⟨a1, a2, a3, a4, a5⟩ := Wh.av_t ha
  exact fun i hi => Wh.alls_num hi a3
theorem Hd.len {h : Hd} (hv : h.val = true) : 1 ≤ h.l.length ∧ h.l.length ≤ 8 := by
  obtain ⟨_, _, _, ha⟩ := Wh.val_t hv
  obtain ⟨a1, a2, a3, a4, a5⟩ := Wh.av_t ha
  exact ⟨a1, a2⟩
theorem Hd.offs_bd {h : Hd} (hv : h.val = true) (i : Int) : 0 ≤ h.offs i ∧ h.offs i ≤ 2000000000 := by
  obtain ⟨_, _, _, ha⟩ := Wh.val_t hv
  obtain ⟨a1, a2, a3, a4, a5⟩ := Wh.av_t ha
  unfold Hd.offs Wh.offs
  split
  · rename_i hh
    have := Wh.ends_bd a2 (Wh.alls_cnt a3) i.toNat (by omega)
    omega
  · omega
theorem pl_bd {s c t : Int} (hc : 1 ≤ c ∧ c ≤ 16777216) : 0 ≤ Sl.pl s c t ∧ Sl.pl s c t ≤ 16777216 := by
  unfold Sl.pl
  split
  · omega
  · have h1 := Int.emod_nonneg (t / s) (by omega : c ≠ 0)
    have h2 := Int.emod_lt_of_pos (t / s) (by omega : 0 < c)
    omega
theorem at_bd {h : Hd} (hv : h.val = true) (i : Nat) (hi : i < h.l.length) (t : Int) : 0 ≤ at_ h i t ∧ at_ h i t ≤ 2300000000 := by
  have h1 := Hd.offs_bd hv (i : Int)
  have h2 := pl_bd (s := h.step i) (t := t) (Hd.nums hv i hi).2
  unfold at_
  omega
end Wp
open Wp

end Go.Proofs.YtbhfapbhlkgmfaaDoor

namespace Go.Proofs.YtbhfapbhlkgmfaaDoor
open Go.RowKit Go.Sort
open Fx (Vl)
open Me
open Wp

end Go.Proofs.YtbhfapbhlkgmfaaDoor

namespace Go.Proofs.YtbhfapbhlkgmfaaDoor
open Go.RowKit Go.Sort
open Fx (Vl)
open Me
open Wp

/-- One row in a slice of rows. -/
theorem ps_one {base g : Nat} {w : World} {v : Value} {L : List UInt8} (h : BsT base w v L) (hg : RowAt w g 65 #[v]) : Vf.Ps w (fun _ => True) (.slice (some ⟨g, 0, none⟩) 1 1) [L] := by
  obtain ⟨A, c, e, h1, h2, hr⟩ := h
  refine ⟨some ⟨g, 0, none⟩, 1, [v], rfl, Nat.le_refl _, by unfold maxLen; omega, fun _ => ⟨_, rfl, hg.lt, trivial, fun j u hu => ?_⟩, ⟨[v], [], rfl, ⟨v, rfl, A, c, e, h1, h2, hr.mono fun _ _ _ => trivial⟩, rfl⟩⟩
  rw [Addr.add_lit, Nat.zero_add, hg.cell]
  simpa using hu
/-- The call's own rows stay where blocks behind base do. -/
theorem BsT.keep {base : Nat} {V : Nat → Prop} {w w' : World} {v : Value} {L : List UInt8} (h : BsT base w v L) (k : Kp (fun b => ¬ V b) w w') (hV : ∀ i, base ≤ i → i < w.heap.size → V i) : BsT base w' v L := by
  obtain ⟨A, c, e, h1, h2, hr⟩ := h
  exact ⟨A, c, e, h1, h2, hr.keep k.size fun i hi hb => k.block i hi (fun o => o (hV i hb hi))⟩
theorem kp_via {O : Nat → Prop} {a b c : World} (k : Kp O b c) (h : Below a.heap.size a b) : Kp O a c := (Kp.of_below h).trans k (fun _ _ h => h)
theorem Wp.one_flat (L : List UInt8) : [L].flatten = L := by simp

/-- What a slot's write leaves. -/
def Wp.Wrote (w : World) (V : Nat → Prop) (fs c : Nat) (S : Vf.Sv) (e : Ending) (w' : World) : Prop := e = .returned (.tuple #[]) ∧ RO w' V fs c S ∧ Kp (fun b => ¬ V b) w w'

end Go.Proofs.YtbhfapbhlkgmfaaDoor

namespace Go.Proofs.YtbhfapbhlkgmfaaDoor
open Go.RowKit Go.Sort
open Fx (Vl)
open Me

/-- What Known hands back. -/
def Knew (w : World) (m : List Vl) (e : Ending) (w' : World) : Prop := ∃ v, e = .returned v ∧ OwnV w.heap.size w' v m ∧ Below w.heap.size w w'

/-- One more of them. -/
theorem own_append {w W w2 : World} {v v2 : Value} {m : List Vl} {eo : Bool} {en : Int} (hb : Below w.heap.size w W) (ho : OwnV w.heap.size W v m)
    (hown : w2.ownsRow w.heap.size 47 2 v2 (m.length + 1) (cellsOf m ++ [.bool eo, .int .i64 en])) (hg : W.grownBy w2 v.ownBlock) : OwnV w.heap.size w2 v2 (m ++ [⟨eo, en⟩]) ∧ Below w.heap.size w w2 :=
  ⟨OwnV.more hown, hb.grown hg hb.size fun g e => (ho.lt g e).1⟩

set_option maxHeartbeats 2000000 in
theorem known_some (l : List Vl) (hl : l.length ≤ 1000000) (b off cap : Nat) (w : World) (hv : Vals w b off l) :
    Calls Tryd.prog 83 #[.slice (some ⟨b, off, none⟩) l.length cap] w (Knew w (Ag.kn l)) := by
  obtain ⟨i0, hi, hz0, hz1, hz2⟩ := info_parts infoVal
  obtain ⟨C, CS, hmk, hcs, hC⟩ : ∃ (C : Nat) (CS : Array Value), (∀ W : World, (Instr.makeSlice 41 (.int .i64 0) (.int .i64 (l.length : Int))).run Tryd.prog W = .ok (.slice (some ⟨W.heap.size, 0, none⟩) 0 C) (W.alloc (.cells CS 47))) ∧ CS.size = C * 2 ∧ C ≤ 1000000 := by
    refine ⟨(l.length : Int).toNat, madeCells #[.bool false, .int .i64 0] ((l.length : Int).toNat * 2), fun W => ?_, size_madeCells _ _, by omega⟩
    have h := run_make (P := Tryd.prog) W 41 47 i0 _ Tryd.underlying41 hi hz0 .i64 .i64 0 (l.length : Int) (by omega) (by omega) (by rw [hz2]; omega) (by omega)
    rw [hz1] at h
    exact h
  have HI := Lib.hid hi
  have HZ := Lib.hid (And.intro hz0 (And.intro hz1 hz2))
  have HO0 : Hid (∀ W : World, w.heap.size ≤ W.heap.size → OwnV w.heap.size (W.alloc (.cells CS 47)) (.slice (some ⟨W.heap.size, 0, none⟩) 0 C) []) := Lib.hid fun W h => World.ownsRow_made W CS C h (by unfold maxLen; omega) hcs
  clear hi hz0 hz1 hz2
  go_enter Tryd.func83, Tryd.ntmps83
  go_wp2_with fail
  go_loopw [3, 11] (fun v i wr => ∃ k : Nat, k ≤ l.length ∧ i = .int .i64 k ∧ OwnV w.heap.size wr v (Ag.kn (l.take k)) ∧ Below w.heap.size w wr) (fun _ i _ => l.length - (intOf i).toNat)
  case atStart => exact ⟨0, Nat.zero_le _, rfl, HO0.out w (Nat.le_refl _), (Below.refl _ _).alloc (Nat.le_refl _) _⟩
  case round =>
    obtain ⟨k, hk, rfl, hown, hbel⟩ := hrel
    obtain ⟨A, c, rfl⟩ := hown.slice
    by_cases hlt : k < l.length
    · have hvr := hv.below hbel
      have ec0 := hvr.ok k hlt
      have ec1 := hvr.n k hlt
      have hbr := hvr.lt
      have hkl : (k : Int) < (l.length : Int) := by omega
      have hk0 : (0 : Int) ≤ (k : Int) := by omega
      have hst := Lib.hid (Ag.kn_take l k hlt)
      have hml := Ag.kn_take_len l k
      have HB := Lib.hid hbel
      have HO := Lib.hid hown
      have hws := hbel.size
      clear hbel hown hvr
      generalize l[k] = ek at *
      generalize Ag.kn (l.take k) = m at *
      obtain ⟨eo, en⟩ := ek
      cases hq : Fx.num ⟨eo, en⟩
      · have HT : Hid (Ag.kn (l.take (k + 1)) = m) := Lib.hid (by rw [hst.out, if_neg (by rw [hq]; exact Bool.false_ne_true)])
        cases eo
        · go_wp2_with fail
          go_roundw
          case rel => exact ⟨k + 1, by omega, by go_num, by rw [HT.out]; exact HO.out.below ((Below.refl _ _).alloc (Nat.le_refl _) _), HB.out.alloc hws _⟩
          case measure => simp [intOf]; omega
        · have HIs : Hid (∀ W, Calls Tryd.prog 88 #[.agg #[.bool true, .int .i64 en]] W fun e w' => e = .returned (.bool false) ∧ Below W.heap.size W w') := Lib.hid fun W => by
            have := isV_any true en W
            rw [Fx.isV_on, show Fx.inR en = false from hq] at this
            exact this
          go_wp2_with (go_at_call 88; (((with_reducible refine (HIs.out _).mono ?_)); rintro e w1 ⟨rfl, hb1⟩; obtain ⟨hc1, hf1⟩ := bcell hb1; (try have hq1w : w.heap.size < w1.heap.size := Nat.lt_of_lt_of_le (by first | assumption | (simp; done) | (simp; omega)) hb1.size); (try have hq1wr : wr.heap.size < w1.heap.size := Nat.lt_of_lt_of_le (by first | assumption | (simp; done) | (simp; omega)) hb1.size); have hs1 := hb1.size; (try simp at hs1)))
          have HB1 : Hid (Below wr.heap.size wr w1) := Lib.hid (by repeat (first | exact Below.refl _ _ | assumption | refine Below.setCell ?_ (by first | (simp; done) | omega | (simp; omega) | (simp at *; omega)) _ | refine Below.alloc ?_ (by first | (simp; done) | omega | (simp; omega) | (simp at *; omega)) _ | refine Below.drew ?_ | (refine Below.trans ?_ (Below.mono (by assumption) (by first | (simp; done) | omega | (simp; omega) | (simp at *; omega)))) | (refine Below.trans ?_ (Below.mono (below_regrown _ _ _) (by first | (simp; done) | omega | (simp; omega) | (simp at *; omega))))))
          go_roundw
          case rel => exact ⟨k + 1, by omega, by go_num, by rw [HT.out]; exact HO.out.below HB1.out, HB.out.trans (HB1.out.mono hws)⟩
          case measure => simp [intOf]; omega
      · obtain ⟨rfl, _, _⟩ := Fx.num_iff.1 hq
        have HT : Hid (Ag.kn (l.take (k + 1)) = m ++ [⟨true, en⟩]) := Lib.hid (by rw [hst.out, if_pos hq])
        have HIs : Hid (∀ W, Calls Tryd.prog 88 #[.agg #[.bool true, .int .i64 en]] W fun e w' => e = .returned (.bool true) ∧ Below W.heap.size W w') := Lib.hid fun W => by
            have := isV_any true en W
            rw [Fx.isV_on, show Fx.inR en = true from hq] at this
            exact this
        go_wp2_with first
          | (go_at_call 88; (((with_reducible refine (HIs.out _).mono ?_)); rintro e w1 ⟨rfl, hb1⟩; obtain ⟨hc1, hf1⟩ := bcell hb1; (try have hq1w : w.heap.size < w1.heap.size := Nat.lt_of_lt_of_le (by first | assumption | (simp; done) | (simp; omega)) hb1.size); (try have hq1wr : wr.heap.size < w1.heap.size := Nat.lt_of_lt_of_le (by first | assumption | (simp; done) | (simp; omega)) hb1.size); have hs1 := hb1.size; (try simp at hs1)))
          | (at_builtin; refine wpList_app _ rfl (.tmp 21) (.tmp 23) 41 rfl w.heap.size 47 i0 (.agg #[.bool false, .int .i64 0]) 2 16 Tryd.underlying41 HI.out HZ.out.1 HZ.out.2.1 HZ.out.2.2 rfl (by decide) (.slice A m.length c) m.length (cellsOf m) rfl (HO.out.below (by repeat (first | exact Below.refl _ _ | assumption | refine Below.setCell ?_ (by first | (simp; done) | omega | (simp; omega) | (simp at *; omega)) _ | refine Below.alloc ?_ (by first | (simp; done) | omega | (simp; omega) | (simp at *; omega)) _ | refine Below.drew ?_ | (refine Below.trans ?_ (Below.mono (by assumption) (by first | (simp; done) | omega | (simp; omega) | (simp at *; omega)))) | (refine Below.trans ?_ (Below.mono (below_regrown _ _ _) (by first | (simp; done) | omega | (simp; omega) | (simp at *; omega))))))) (fun b => b = w1.heap.size) (some ⟨w1.heap.size, 0, none⟩) 1 1 [.bool true, .int .i64 en] rfl rfl (Rd.fresh _ _ _ _ rfl) (by intro u hu; simp at hu; rcases hu with rfl | rfl <;> rfl) (by unfold maxLen; omega) (by omega) (by simp; omega) ?_; intro v2 w2 hown2 hg2 hat2 hnil2)
        have HB1 : Hid (Below wr.heap.size wr (w1.alloc (.cells #[.bool true, .int .i64 en] 47))) := Lib.hid (by repeat (first | exact Below.refl _ _ | assumption | refine Below.setCell ?_ (by first | (simp; done) | omega | (simp; omega) | (simp at *; omega)) _ | refine Below.alloc ?_ (by first | (simp; done) | omega | (simp; omega) | (simp at *; omega)) _ | refine Below.drew ?_ | (refine Below.trans ?_ (Below.mono (by assumption) (by first | (simp; done) | omega | (simp; omega) | (simp at *; omega)))) | (refine Below.trans ?_ (Below.mono (below_regrown _ _ _) (by first | (simp; done) | omega | (simp; omega) | (simp at *; omega))))))
        have HN := Lib.hid (own_append (HB.out.trans (HB1.out.mono hws)) (HO.out.below HB1.out) hown2 hg2)
        obtain ⟨A2, n2, c2, rfl⟩ := own_slice hown2
        clear hown2 hg2 hat2 hnil2
        go_wp2_with fail
        go_roundw
        case rel => exact ⟨k + 1, by omega, by go_num, by rw [HT.out]; exact HN.out.1, HN.out.2⟩
        case measure => simp [intOf]; omega
    · obtain rfl : k = l.length := by omega
      have HO := Lib.hid hown
      have HB := Lib.hid hbel
      rw [List.take_length] at *
      clear hown hbel
      go_wp2
      go_ret
      exact ⟨_, rfl, HO.out, HB.out⟩

set_option maxHeartbeats 2000000 in
theorem known_zero (x : Option Addr) (cap : Nat) (w : World) :
    Calls Tryd.prog 83 #[.slice x 0 cap] w (Knew w []) := by
  obtain ⟨i0, hi, hz0, hz1, hz2⟩ := info_parts infoVal
  obtain ⟨CS, hmk, hcs⟩ : ∃ (CS : Array Value), (∀ W : World, (Instr.makeSlice 41 (.int .i64 0) (.int .i64 0)).run Tryd.prog W = .ok (.slice (some ⟨W.heap.size, 0, none⟩) 0 0) (W.alloc (.cells CS 47))) ∧ CS.size = 0 * 2 := by
    refine ⟨madeCells #[.bool false, .int .i64 0] ((0 : Int).toNat * 2), fun W => ?_, size_madeCells _ _⟩
    have h := run_make (P := Tryd.prog) W 41 47 i0 _ Tryd.underlying41 hi hz0 .i64 .i64 0 0 (by omega) (by omega) (by omega) (by omega)
    rw [hz1] at h
    exact h
  have HO0 : Hid (∀ W : World, w.heap.size ≤ W.heap.size → OwnV w.heap.size (W.alloc (.cells CS 47)) (.slice (some ⟨W.heap.size, 0, none⟩) 0 0) []) := Lib.hid fun W h => World.ownsRow_made W CS 0 h (by unfold maxLen; omega) hcs
  clear hi hz0 hz1 hz2
  go_enter Tryd.func83, Tryd.ntmps83
  go_wp2_with fail
  go_loopw [3, 11] (fun v i wr => i = .int .i64 0 ∧ OwnV w.heap.size wr v [] ∧ Below w.heap.size w wr) (fun _ i _ => 0)
  case atStart => exact ⟨rfl, HO0.out w (Nat.le_refl _), (Below.refl _ _).alloc (Nat.le_refl _) _⟩
  case round =>
    obtain ⟨rfl, hown, hbel⟩ := hrel
    obtain ⟨A, c, rfl⟩ := hown.slice
    have HO := Lib.hid hown
    have HB := Lib.hid hbel
    clear hown hbel
    go_wp2
    go_ret
    exact ⟨_, rfl, HO.out, HB.out⟩
theorem known_v (l : List Vl) (hl : l.length ≤ 1000000) (v : Value) (w : World) (hv : Sl w v l) : Calls Tryd.prog 83 #[v] w (Knew w (Ag.kn l)) := by
  rcases hv with ⟨rfl, x, cap, rfl⟩ | ⟨h0, b, off, cap, rfl, hv⟩
  · exact known_zero x cap w
  · exact known_some l hl b off cap w hv

end Go.Proofs.YtbhfapbhlkgmfaaDoor
