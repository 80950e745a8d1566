/-
  CONTRACTS: those of a row that are known, on both sides.
-/
import Derived.Test.YtjaclmhfagdfhaaAgPure
import Derived.Test.YtjaclmhfagdfhaaAgRow
namespace Go.Proofs.Ytjaclmhfagdfhaa
open Go.RowKit Go.Sort
open Fx (Vl)
open Me

/-- What Known hands back. -/
def Knew (w : World) (m : List Vl) (e : Ending) (w' : World) : Prop := ∃ v, e = .returned v ∧ OwnV w.heap.size w' v m ∧ Below w.heap.size w w'

/-- One more of them. -/
theorem own_append {w W w2 : World} {v v2 : Value} {m : List Vl} {eo : Bool} {en : Int} (hb : Below w.heap.size w W) (ho : OwnV w.heap.size W v m)
    (hown : w2.ownsRow w.heap.size 24 2 v2 (m.length + 1) (cellsOf m ++ [.bool eo, .int .i64 en])) (hg : W.grownBy w2 v.ownBlock) : OwnV w.heap.size w2 v2 (m ++ [⟨eo, en⟩]) ∧ Below w.heap.size w w2 :=
  ⟨OwnV.more hown, hb.grown hg hb.size fun g e => (ho.lt g e).1⟩

set_option maxHeartbeats 2000000 in
theorem known_some (l : List Vl) (hl : l.length ≤ 1000000) (b off cap : Nat) (w : World) (hv : Vals w b off l) :
    Calls Try.prog 11 #[.slice (some ⟨b, off, none⟩) l.length cap] w (Knew w (Ag.kn l)) := by
  obtain ⟨i0, hi, hz0, hz1, hz2⟩ := info_parts infoVal
  obtain ⟨C, CS, hmk, hcs, hC⟩ : ∃ (C : Nat) (CS : Array Value), (∀ W : World, (Instr.makeSlice 22 (.int .i64 0) (.int .i64 (l.length : Int))).run Try.prog W = .ok (.slice (some ⟨W.heap.size, 0, none⟩) 0 C) (W.alloc (.cells CS 24))) ∧ CS.size = C * 2 ∧ C ≤ 1000000 := by
    refine ⟨(l.length : Int).toNat, madeCells #[.bool false, .int .i64 0] ((l.length : Int).toNat * 2), fun W => ?_, size_madeCells _ _, by omega⟩
    have h := run_make (P := Try.prog) W 22 24 i0 _ Try.underlying22 hi hz0 .i64 .i64 0 (l.length : Int) (by omega) (by omega) (by rw [hz2]; omega) (by omega)
    rw [hz1] at h
    exact h
  have HI := Lib.hid hi
  have HZ := Lib.hid (And.intro hz0 (And.intro hz1 hz2))
  have HO0 : Hid (∀ W : World, w.heap.size ≤ W.heap.size → OwnV w.heap.size (W.alloc (.cells CS 24)) (.slice (some ⟨W.heap.size, 0, none⟩) 0 C) []) := Lib.hid fun W h => World.ownsRow_made W CS C h (by unfold maxLen; omega) hcs
  clear hi hz0 hz1 hz2
  go_enter Try.func11, Try.ntmps11
  go_wp2_with fail
  go_loopw [3, 11] (fun v i wr => ∃ k : Nat, k ≤ l.length ∧ i = .int .i64 k ∧ OwnV w.heap.size wr v (Ag.kn (l.take k)) ∧ Below w.heap.size w wr) (fun _ i _ => l.length - (intOf i).toNat)
  case atStart => exact ⟨0, Nat.zero_le _, rfl, HO0.out w (Nat.le_refl _), (Below.refl _ _).alloc (Nat.le_refl _) _⟩
  case round =>
    obtain ⟨k, hk, rfl, hown, hbel⟩ := hrel
    obtain ⟨A, c, rfl⟩ := hown.slice
    by_cases hlt : k < l.length
    · have hvr := hv.below hbel
      have ec0 := hvr.ok k hlt
      have ec1 := hvr.n k hlt
      have hbr := hvr.lt
      have hkl : (k : Int) < (l.length : Int) := by omega
      have hk0 : (0 : Int) ≤ (k : Int) := by omega
      have hst := Lib.hid (Ag.kn_take l k hlt)
      have hml := Ag.kn_take_len l k
      have HB := Lib.hid hbel
      have HO := Lib.hid hown
      have hws := hbel.size
      clear hbel hown hvr
      generalize l[k] = ek at *
      generalize Ag.kn (l.take k) = m at *
      obtain ⟨eo, en⟩ := ek
      cases hq : Fx.num ⟨eo, en⟩
      · have HT : Hid (Ag.kn (l.take (k + 1)) = m) := Lib.hid (by rw [hst.out, if_neg (by rw [hq]; exact Bool.false_ne_true)])
        cases eo
        · go_wp2_with fail
          go_roundw
          case rel => exact ⟨k + 1, by omega, by go_num, by rw [HT.out]; exact HO.out.below ((Below.refl _ _).alloc (Nat.le_refl _) _), HB.out.alloc hws _⟩
          case measure => simp [intOf]; omega
        · have HIs : Hid (∀ W, Calls Try.prog 27 #[.agg #[.bool true, .int .i64 en]] W fun e w' => e = .returned (.bool false) ∧ Below W.heap.size W w') := Lib.hid fun W => by
            have := isV_any true en W
            rw [Fx.isV_on, show Fx.inR en = false from hq] at this
            exact this
          go_wp2_with (go_at_call 27; (((with_reducible refine (HIs.out _).mono ?_)); rintro e w1 ⟨rfl, hb1⟩; obtain ⟨hc1, hf1⟩ := bcell hb1; (try have hq1w : w.heap.size < w1.heap.size := Nat.lt_of_lt_of_le (by first | assumption | (simp; done) | (simp; omega)) hb1.size); (try have hq1wr : wr.heap.size < w1.heap.size := Nat.lt_of_lt_of_le (by first | assumption | (simp; done) | (simp; omega)) hb1.size); have hs1 := hb1.size; (try simp at hs1)))
          have HB1 : Hid (Below wr.heap.size wr w1) := Lib.hid (by repeat (first | exact Below.refl _ _ | assumption | refine Below.setCell ?_ (by first | (simp; done) | omega | (simp; omega) | (simp at *; omega)) _ | refine Below.alloc ?_ (by first | (simp; done) | omega | (simp; omega) | (simp at *; omega)) _ | refine Below.drew ?_ | (refine Below.trans ?_ (Below.mono (by assumption) (by first | (simp; done) | omega | (simp; omega) | (simp at *; omega)))) | (refine Below.trans ?_ (Below.mono (below_regrown _ _ _) (by first | (simp; done) | omega | (simp; omega) | (simp at *; omega))))))
          go_roundw
          case rel => exact ⟨k + 1, by omega, by go_num, by rw [HT.out]; exact HO.out.below HB1.out, HB.out.trans (HB1.out.mono hws)⟩
          case measure => simp [intOf]; omega
      · obtain ⟨rfl, _, _⟩ := Fx.num_iff.1 hq
        have HT : Hid (Ag.kn (l.take (k + 1)) = m ++ [⟨true, en⟩]) := Lib.hid (by rw [hst.out, if_pos hq])
        have HIs : Hid (∀ W, Calls Try.prog 27 #[.agg #[.bool true, .int .i64 en]] W fun e w' => e = .returned (.bool true) ∧ Below W.heap.size W w') := Lib.hid fun W => by
            have := isV_any true en W
            rw [Fx.isV_on, show Fx.inR en = true from hq] at this
            exact this
        go_wp2_with first
          | (go_at_call 27; (((with_reducible refine (HIs.out _).mono ?_)); rintro e w1 ⟨rfl, hb1⟩; obtain ⟨hc1, hf1⟩ := bcell hb1; (try have hq1w : w.heap.size < w1.heap.size := Nat.lt_of_lt_of_le (by first | assumption | (simp; done) | (simp; omega)) hb1.size); (try have hq1wr : wr.heap.size < w1.heap.size := Nat.lt_of_lt_of_le (by first | assumption | (simp; done) | (simp; omega)) hb1.size); have hs1 := hb1.size; (try simp at hs1)))
          | (at_builtin; refine wpList_app _ rfl (.tmp 21) (.tmp 23) 22 rfl w.heap.size 24 i0 (.agg #[.bool false, .int .i64 0]) 2 16 Try.underlying22 HI.out HZ.out.1 HZ.out.2.1 HZ.out.2.2 rfl (by decide) (.slice A m.length c) m.length (cellsOf m) rfl (HO.out.below (by repeat (first | exact Below.refl _ _ | assumption | refine Below.setCell ?_ (by first | (simp; done) | omega | (simp; omega) | (simp at *; omega)) _ | refine Below.alloc ?_ (by first | (simp; done) | omega | (simp; omega) | (simp at *; omega)) _ | refine Below.drew ?_ | (refine Below.trans ?_ (Below.mono (by assumption) (by first | (simp; done) | omega | (simp; omega) | (simp at *; omega)))) | (refine Below.trans ?_ (Below.mono (below_regrown _ _ _) (by first | (simp; done) | omega | (simp; omega) | (simp at *; omega))))))) (fun b => b = w1.heap.size) (some ⟨w1.heap.size, 0, none⟩) 1 1 [.bool true, .int .i64 en] rfl rfl (Rd.fresh _ _ _ _ rfl) (by intro u hu; simp at hu; rcases hu with rfl | rfl <;> rfl) (by unfold maxLen; omega) (by omega) (by simp; omega) ?_; intro v2 w2 hown2 hg2 hat2 hnil2)
        have HB1 : Hid (Below wr.heap.size wr (w1.alloc (.cells #[.bool true, .int .i64 en] 24))) := Lib.hid (by repeat (first | exact Below.refl _ _ | assumption | refine Below.setCell ?_ (by first | (simp; done) | omega | (simp; omega) | (simp at *; omega)) _ | refine Below.alloc ?_ (by first | (simp; done) | omega | (simp; omega) | (simp at *; omega)) _ | refine Below.drew ?_ | (refine Below.trans ?_ (Below.mono (by assumption) (by first | (simp; done) | omega | (simp; omega) | (simp at *; omega)))) | (refine Below.trans ?_ (Below.mono (below_regrown _ _ _) (by first | (simp; done) | omega | (simp; omega) | (simp at *; omega))))))
        have HN := Lib.hid (own_append (HB.out.trans (HB1.out.mono hws)) (HO.out.below HB1.out) hown2 hg2)
        obtain ⟨A2, n2, c2, rfl⟩ := own_slice hown2
        clear hown2 hg2 hat2 hnil2
        go_wp2_with fail
        go_roundw
        case rel => exact ⟨k + 1, by omega, by go_num, by rw [HT.out]; exact HN.out.1, HN.out.2⟩
        case measure => simp [intOf]; omega
    · obtain rfl : k = l.length := by omega
      have HO := Lib.hid hown
      have HB := Lib.hid hbel
      rw [List.take_length] at *
      clear hown hbel
      go_wp2
      go_ret
      exact ⟨_, rfl, HO.out, HB.out⟩

set_option maxHeartbeats 2000000 in
theorem known_zero (x : Option Addr) (cap : Nat) (w : World) :
    Calls Try.prog 11 #[.slice x 0 cap] w (Knew w []) := by
  obtain ⟨i0, hi, hz0, hz1, hz2⟩ := info_parts infoVal
  obtain ⟨CS, hmk, hcs⟩ : ∃ (CS : Array Value), (∀ W : World, (Instr.makeSlice 22 (.int .i64 0) (.int .i64 0)).run Try.prog W = .ok (.slice (some ⟨W.heap.size, 0, none⟩) 0 0) (W.alloc (.cells CS 24))) ∧ CS.size = 0 * 2 := by
    refine ⟨madeCells #[.bool false, .int .i64 0] ((0 : Int).toNat * 2), fun W => ?_, size_madeCells _ _⟩
    have h := run_make (P := Try.prog) W 22 24 i0 _ Try.underlying22 hi hz0 .i64 .i64 0 0 (by omega) (by omega) (by omega) (by omega)
    rw [hz1] at h
    exact h
  have HO0 : Hid (∀ W : World, w.heap.size ≤ W.heap.size → OwnV w.heap.size (W.alloc (.cells CS 24)) (.slice (some ⟨W.heap.size, 0, none⟩) 0 0) []) := Lib.hid fun W h => World.ownsRow_made W CS 0 h (by unfold maxLen; omega) hcs
  clear hi hz0 hz1 hz2
  go_enter Try.func11, Try.ntmps11
  go_wp2_with fail
  go_loopw [3, 11] (fun v i wr => i = .int .i64 0 ∧ OwnV w.heap.size wr v [] ∧ Below w.heap.size w wr) (fun _ i _ => 0)
  case atStart => exact ⟨rfl, HO0.out w (Nat.le_refl _), (Below.refl _ _).alloc (Nat.le_refl _) _⟩
  case round =>
    obtain ⟨rfl, hown, hbel⟩ := hrel
    obtain ⟨A, c, rfl⟩ := hown.slice
    have HO := Lib.hid hown
    have HB := Lib.hid hbel
    clear hown hbel
    go_wp2
    go_ret
    exact ⟨_, rfl, HO.out, HB.out⟩
theorem known_v (l : List Vl) (hl : l.length ≤ 1000000) (v : Value) (w : World) (hv : Sl w v l) : Calls Try.prog 11 #[v] w (Knew w (Ag.kn l)) := by
  rcases hv with ⟨rfl, x, cap, rfl⟩ | ⟨h0, b, off, cap, rfl, hv⟩
  · exact known_zero x cap w
  · exact known_some l hl b off cap w hv

set_option maxHeartbeats 2000000 in
theorem refKnown_some (l : List Vl) (hl : l.length ≤ 1000000) (b off cap : Nat) (w : World) (hv : Vals w b off l) :
    Calls Try.prog 12 #[.slice (some ⟨b, off, none⟩) l.length cap] w (Knew w (Ag.kn l)) := by
  obtain ⟨i0, hi, hz0, hz1, hz2⟩ := info_parts infoVal
  have HI := Lib.hid hi
  have HZ := Lib.hid (And.intro hz0 (And.intro hz1 hz2))
  clear hi hz0 hz1 hz2
  go_enter Try.func12, Try.ntmps12
  go_wp2_with fail
  go_loopw [3, 4] (fun v i wr => ∃ k : Nat, k ≤ l.length ∧ i = .int .i64 k ∧ OwnV w.heap.size wr v (Ag.kn (l.take k)) ∧ Below w.heap.size w wr) (fun _ i _ => l.length - (intOf i).toNat)
  case atStart => exact ⟨0, Nat.zero_le _, rfl, OwnV.nil _ _, Below.refl _ _⟩
  case round =>
    obtain ⟨k, hk, rfl, hown, hbel⟩ := hrel
    obtain ⟨A, c, rfl⟩ := hown.slice
    by_cases hlt : k < l.length
    · have hvr := hv.below hbel
      have ec0 := hvr.ok k hlt
      have ec1 := hvr.n k hlt
      have hbr := hvr.lt
      have hkl : (k : Int) < (l.length : Int) := by omega
      have hk0 : (0 : Int) ≤ (k : Int) := by omega
      have hst := Lib.hid (Ag.kn_take l k hlt)
      have hml := Ag.kn_take_len l k
      have HB := Lib.hid hbel
      have HO := Lib.hid hown
      have hws := hbel.size
      clear hbel hown hvr
      generalize l[k] = ek at *
      generalize Ag.kn (l.take k) = m at *
      obtain ⟨eo, en⟩ := ek
      cases hq : Fx.num ⟨eo, en⟩
      · have HT : Hid (Ag.kn (l.take (k + 1)) = m) := Lib.hid (by rw [hst.out, if_neg (by rw [hq]; exact Bool.false_ne_true)])
        have HIs : Hid (∀ W, Calls Try.prog 28 #[.agg #[.bool eo, .int .i64 en]] W fun e w' => e = .returned (.bool false) ∧ Below W.heap.size W w') := Lib.hid fun W => by
            have := known1_any eo en W
            rw [hq] at this
            exact this
        go_wp2_with (go_at_call 28; (((with_reducible refine (HIs.out _).mono ?_)); rintro e w1 ⟨rfl, hb1⟩; obtain ⟨hc1, hf1⟩ := bcell hb1; (try have hq1w : w.heap.size < w1.heap.size := Nat.lt_of_lt_of_le (by first | assumption | (simp; done) | (simp; omega)) hb1.size); (try have hq1wr : wr.heap.size < w1.heap.size := Nat.lt_of_lt_of_le (by first | assumption | (simp; done) | (simp; omega)) hb1.size); have hs1 := hb1.size; (try simp at hs1)))
        have HB1 : Hid (Below wr.heap.size wr w1) := Lib.hid (by repeat (first | exact Below.refl _ _ | assumption | refine Below.setCell ?_ (by first | (simp; done) | omega | (simp; omega) | (simp at *; omega)) _ | refine Below.alloc ?_ (by first | (simp; done) | omega | (simp; omega) | (simp at *; omega)) _ | refine Below.drew ?_ | (refine Below.trans ?_ (Below.mono (by assumption) (by first | (simp; done) | omega | (simp; omega) | (simp at *; omega)))) | (refine Below.trans ?_ (Below.mono (below_regrown _ _ _) (by first | (simp; done) | omega | (simp; omega) | (simp at *; omega))))))
        go_roundw
        case rel => exact ⟨k + 1, by omega, by go_num, by rw [HT.out]; exact HO.out.below HB1.out, HB.out.trans (HB1.out.mono hws)⟩
        case measure => simp [intOf]; omega
      · have HT : Hid (Ag.kn (l.take (k + 1)) = m ++ [⟨eo, en⟩]) := Lib.hid (by rw [hst.out, if_pos hq])
        have HIs : Hid (∀ W, Calls Try.prog 28 #[.agg #[.bool eo, .int .i64 en]] W fun e w' => e = .returned (.bool true) ∧ Below W.heap.size W w') := Lib.hid fun W => by
            have := known1_any eo en W
            rw [hq] at this
            exact this
        go_wp2_with first
          | (go_at_call 28; (((with_reducible refine (HIs.out _).mono ?_)); rintro e w1 ⟨rfl, hb1⟩; obtain ⟨hc1, hf1⟩ := bcell hb1; (try have hq1w : w.heap.size < w1.heap.size := Nat.lt_of_lt_of_le (by first | assumption | (simp; done) | (simp; omega)) hb1.size); (try have hq1wr : wr.heap.size < w1.heap.size := Nat.lt_of_lt_of_le (by first | assumption | (simp; done) | (simp; omega)) hb1.size); have hs1 := hb1.size; (try simp at hs1)))
          | (at_builtin; refine wpList_app _ rfl (.tmp 16) (.tmp 21) 22 rfl w.heap.size 24 i0 (.agg #[.bool false, .int .i64 0]) 2 16 Try.underlying22 HI.out HZ.out.1 HZ.out.2.1 HZ.out.2.2 rfl (by decide) (.slice A m.length c) m.length (cellsOf m) rfl (HO.out.below (by repeat (first | exact Below.refl _ _ | assumption | refine Below.setCell ?_ (by first | (simp; done) | omega | (simp; omega) | (simp at *; omega)) _ | refine Below.alloc ?_ (by first | (simp; done) | omega | (simp; omega) | (simp at *; omega)) _ | refine Below.drew ?_ | (refine Below.trans ?_ (Below.mono (by assumption) (by first | (simp; done) | omega | (simp; omega) | (simp at *; omega)))) | (refine Below.trans ?_ (Below.mono (below_regrown _ _ _) (by first | (simp; done) | omega | (simp; omega) | (simp at *; omega))))))) (fun b => b = w1.heap.size) (some ⟨w1.heap.size, 0, none⟩) 1 1 [.bool eo, .int .i64 en] rfl rfl (Rd.fresh _ _ _ _ rfl) (by intro u hu; simp at hu; rcases hu with rfl | rfl <;> rfl) (by unfold maxLen; omega) (by omega) (by simp; omega) ?_; intro v2 w2 hown2 hg2 hat2 hnil2)
        have HB1 : Hid (Below wr.heap.size wr (w1.alloc (.cells #[.bool eo, .int .i64 en] 24))) := Lib.hid (by repeat (first | exact Below.refl _ _ | assumption | refine Below.setCell ?_ (by first | (simp; done) | omega | (simp; omega) | (simp at *; omega)) _ | refine Below.alloc ?_ (by first | (simp; done) | omega | (simp; omega) | (simp at *; omega)) _ | refine Below.drew ?_ | (refine Below.trans ?_ (Below.mono (by assumption) (by first | (simp; done) | omega | (simp; omega) | (simp at *; omega)))) | (refine Below.trans ?_ (Below.mono (below_regrown _ _ _) (by first | (simp; done) | omega | (simp; omega) | (simp at *; omega))))))
        have HN := Lib.hid (own_append (HB.out.trans (HB1.out.mono hws)) (HO.out.below HB1.out) hown2 hg2)
        obtain ⟨A2, n2, c2, rfl⟩ := own_slice hown2
        clear hown2 hg2 hat2 hnil2
        go_wp2_with fail
        go_roundw
        case rel => exact ⟨k + 1, by omega, by go_num, by rw [HT.out]; exact HN.out.1, HN.out.2⟩
        case measure => simp [intOf]; omega
    · obtain rfl : k = l.length := by omega
      have HO := Lib.hid hown
      have HB := Lib.hid hbel
      rw [List.take_length] at *
      clear hown hbel
      go_wp2
      go_ret
      exact ⟨_, rfl, HO.out, HB.out⟩

set_option maxHeartbeats 2000000 in
theorem refKnown_zero (x : Option Addr) (cap : Nat) (w : World) :
    Calls Try.prog 12 #[.slice x 0 cap] w (Knew w []) := by
  go_enter Try.func12, Try.ntmps12
  go_wp2_with fail
  go_loopw [3, 4] (fun v i wr => i = .int .i64 0 ∧ v = .slice none 0 0 ∧ Below w.heap.size w wr) (fun _ i _ => 0)
  case atStart => exact ⟨rfl, rfl, Below.refl _ _⟩
  case round =>
    obtain ⟨rfl, rfl, hbel⟩ := hrel
    have HB := Lib.hid hbel
    clear hbel
    go_wp2
    go_ret
    exact ⟨_, rfl, OwnV.nil _ _, HB.out⟩
theorem refKnown_v (l : List Vl) (hl : l.length ≤ 1000000) (v : Value) (w : World) (hv : Sl w v l) : Calls Try.prog 12 #[v] w (Knew w (Ag.kn l)) := by
  rcases hv with ⟨rfl, x, cap, rfl⟩ | ⟨h0, b, off, cap, rfl, hv⟩
  · exact refKnown_zero x cap w
  · exact refKnown_some l hl b off cap w hv
end Go.Proofs.Ytjaclmhfagdfhaa
