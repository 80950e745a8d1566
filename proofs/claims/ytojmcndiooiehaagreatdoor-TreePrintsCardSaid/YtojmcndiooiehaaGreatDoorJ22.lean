/-
  DcDig: CONTRACTS: the program's Digits, fraction and Print.
-/
import Derived.Test.YtojmcndiooiehaaGreatDoorJ14
import Derived.Test.YtojmcndiooiehaaGreatDoorJ15
import Derived.Laws.Rows

set_option linter.unusedSimpArgs false
set_option linter.unusedVariables false
namespace Go.Proofs.YtojmcndiooiehaaGreatDoor
set_option maxRecDepth 20000
open Go.RowKit

/-- The cells of the row of digits: noughts ahead, then what has been written. -/
def arr (k : Nat) (l : List UInt8) : Array Value := (List.replicate k (Value.int .u8 0) ++ l.map (fun c => Value.int .u8 (c.toNat : Int))).toArray
theorem arr_set (k : Nat) (l : List UInt8) (c : UInt8) : (arr (k + 1) l).setIfInBounds k (.int .u8 (c.toNat : Int)) = arr k (c :: l) := by
  apply Array.ext'
  unfold arr
  rw [Array.toList_setIfInBounds, List.replicate_succ', List.append_assoc]
  simp
theorem arr_head (k : Nat) (l : List UInt8) : (arr (k + 1) l)[k]? = some (.int .u8 0) := by
  unfold arr
  rw [List.getElem?_toArray, List.getElem?_append_left (by simp), List.getElem?_replicate, if_pos (by omega)]
theorem arr_at (k : Nat) (l : List UInt8) (j : Nat) (h : j < l.length) : (arr k l)[k + j]? = some (.int .u8 (l[j].toNat : Int)) := by
  unfold arr
  rw [List.getElem?_toArray, List.getElem?_append_right (by simp), List.length_replicate, Nat.add_sub_cancel_left, List.getElem?_map, List.getElem?_eq_getElem h]
  rfl
/-- A block that is known whole. -/
def DRowAt (w : World) (g : Nat) (t : TypeId) (cs : Array Value) : Prop := w.heap[g]? = some (.cells cs t (0, 0))
theorem DRowAt.cell {w : World} {g : Nat} {t : TypeId} {cs : Array Value} (h : DRowAt w g t cs) (i : Nat) : w.cell? ⟨g, i, none⟩ = cs[i]? := cell_of_row w g i cs t (0, 0) h
theorem DRowAt.frozen {w : World} {g : Nat} {t : TypeId} {cs : Array Value} (h : DRowAt w g t cs) (i : Nat) : w.frozen? ⟨g, i, none⟩ = false := by
  unfold DRowAt at h
  simp [World.frozen?, h]
theorem DRowAt.put {w : World} {g : Nat} {t : TypeId} {cs : Array Value} (h : DRowAt w g t cs) (i : Nat) (u : Value) : DRowAt (w.setCell ⟨g, i, none⟩ u) g t (cs.setIfInBounds i u) := by
  unfold DRowAt at h ⊢
  simp [World.setCell, Array.getElem?_modify, h]

/-- What holds of the rest and of the digits that are written, k places from the head. -/
def DInv (n : Int) (k : Nat) (x : Int) (l : List UInt8) : Prop :=
  (x = 0 ∧ k < 20 ∧ l = Dc.plain n.natAbs) ∨ (Dc.plainGo k x.natAbs l = Dc.plain n.natAbs ∧ (k = 20 ∨ x ≠ 0))
theorem DInv.done {n : Int} {k : Nat} {l : List UInt8} (h : DInv n k 0 l) (hk : k ≠ 20) : l = Dc.plain n.natAbs := by
  rcases h with ⟨_, _, h⟩ | ⟨_, h | h⟩
  · exact h
  · exact absurd h hk
  · exact absurd rfl h
theorem DInv.next {n : Int} {k : Nat} {x y : Int} {l : List UInt8} (h : DInv n (k + 1) x l) (ht : x ≠ 0 ∨ k + 1 = 20) (hk : k + 1 ≤ 20) (hy : y.natAbs = x.natAbs / 10) :
    DInv n k y (UInt8.ofNat (48 + x.natAbs % 10) :: l) := by
  have hgo : Dc.plainGo (k + 1) x.natAbs l = Dc.plain n.natAbs := by
    rcases h with ⟨h, h2, _⟩ | ⟨h, _⟩
    · rcases ht with ht | ht
      · exact absurd h ht
      · omega
    · exact h
  rw [Dc.plainGo] at hgo
  by_cases h0 : x.natAbs / 10 = 0
  · rw [if_pos h0] at hgo
    exact .inl ⟨by omega, by omega, hgo⟩
  · rw [if_neg h0] at hgo
    exact .inr ⟨by rw [hy]; exact hgo, .inr (by omega)⟩
theorem tmod_neg {x : Int} (h : x < 0) : x.tmod 10 = -((x.natAbs % 10 : Nat) : Int) := by
  obtain ⟨v, rfl⟩ : ∃ v : Nat, x = -(v : Int) := ⟨x.natAbs, by omega⟩
  rw [Int.neg_tmod, Int.natAbs_neg, Int.natAbs_natCast]
  rfl
theorem tdiv_abs (x : Int) : (x.tdiv 10).natAbs = x.natAbs / 10 := by
  rw [Int.natAbs_tdiv]; rfl

theorem slice20 (g k : Nat) (hk : k < 20) (W : World) :
    (Instr.sliceAt 118 (.pointer (some ⟨g, 0, none⟩)) (some (.int .i64 (k : Int))) none none).run Tryz.prog W = .ok (.slice (some ⟨g, k, none⟩) (20 - k) (20 - k)) W := by
  have ha : Tryz.prog.arrayLen 118 = 20 := by kernel_rfl
  have hs : (sizeOf (Tryz.prog.elem 118)).run Tryz.prog W = .ok 1 W := by kernel_rfl
  rw [run_sliceAt_array_l _ _ _ Tryz.underlying118 .i64 k (by omega) (by rw [ha]; omega), hs, ha]
  simp only [Result.andThen, slicedAt, Int.toNat_natCast, Nat.mul_one]
  rw [if_neg (by omega)]
  unfold Addr.add
  by_cases h0 : k = 0
  · subst h0; rfl
  · simp [h0]
theorem conv20 (W : World) (g k : Nat) (l : List UInt8) (cap : Nat) (h : DRowAt W g 118 (arr k l)) :
    (convert 52 9 (.slice (some ⟨g, k, none⟩) l.length cap)).run Tryz.prog W = .ok (.string ⟨l.toArray⟩) W := by
  refine run_convert_bytes_back _ _ _ 5 ⟨g, k, none⟩ cap l Tryz.underlying52 Tryz.underlying5 Tryz.underlying9 fun j hj => ?_
  have e : (⟨g, k, none⟩ : Addr).add j = ⟨g, k + j, none⟩ := by
    unfold Addr.add
    by_cases h0 : j = 0
    · subst h0; rfl
    · simp [h0]
  rw [e, h.cell, arr_at k l j hj]

set_option maxHeartbeats 800000 in
theorem digits_prog (n : Int) (h1 : -9223372036854775808 ≤ n) (h2 : n ≤ 9223372036854775807) (w : World) :
    Calls Tryz.prog 61 #[.int .i64 n] w fun e w' => e = .returned (.string ⟨(Dc.digits n).toArray⟩) ∧ Below w.heap.size w w' := by
  go_enter Tryz.func61, Tryz.ntmps61
  go_wp2
  go_loopw [4, 5] (fun a r wr => ∃ (k : Nat) (x : Int) (l : List UInt8), 1 ≤ k ∧ k ≤ 20 ∧ -9223372036854775808 ≤ x ∧ x ≤ 9223372036854775807 ∧ a = .int .i64 k ∧ r = .int .i64 x ∧ Hid (x.natAbs < 10 ^ (k - 1)) ∧ Hid (l.length + k = 20) ∧ Hid (DInv n k x l) ∧ DRowAt wr w.heap.size 118 (arr k l) ∧ Below w.heap.size w wr) (fun a _ _ => (intOf a).toNat)
  case atStart => exact ⟨20, n, [], by omega, by omega, h1, h2, rfl, rfl, Lib.hid (by simp; omega), Lib.hid rfl, Lib.hid (.inr ⟨rfl, .inl rfl⟩), heap_alloc_new w _, (Below.refl _ _).alloc (Nat.le_refl _) _⟩
  case round =>
    obtain ⟨k, x, l, hk1, hk, x0, x1, rfl, rfl, hlt, hll, hinv, hrow, hbel⟩ := hrel
    by_cases hgo : x ≠ 0 ∨ k = 20
    · obtain ⟨j, rfl⟩ : ∃ j, k = j + 1 := ⟨k - 1, by omega⟩
      have hj : 1 ≤ j := by
        rcases hgo with h | h
        · rcases Nat.eq_zero_or_pos j with h0 | h0
          · have := hlt.out; rw [h0] at this; simp at this; exact absurd this h
          · exact h0
        · omega
      have hcell : wr.cell? ⟨w.heap.size, j, none⟩ = some (.int .u8 0) := (hrow.cell j).trans (arr_head j l)
      have hfro := hrow.frozen j
      obtain ⟨c, hc⟩ : ∃ c, c = UInt8.ofNat (48 + x.natAbs % 10) := ⟨_, rfl⟩
      have hcn : c.toNat = 48 + x.natAbs % 10 := by rw [hc]; exact Dc.dig_toNat _
      have HC := Lib.hid hc
      have HN := Lib.hid hcn
      clear hc hcn
      by_cases hx : 0 ≤ x
      · have hput : Hid (DRowAt (wr.setCell ⟨w.heap.size, j, none⟩ (.int .u8 (48 + x % 10))) w.heap.size 118 (arr j (c :: l))) := by
          apply Lib.hid
          have e : (48 + x % 10 : Int) = (c.toNat : Int) := by rw [HN.out]; omega
          rw [e, ← arr_set]
          exact hrow.put j _
        clear hrow
        by_cases hx0 : x = 0
        · have hj20 : j + 1 = 20 := by rcases hgo with h | h; exact absurd hx0 h; exact h
          obtain rfl : j = 19 := by omega
          subst hx0
          clear hgo hj20
          go_wp2
          go_roundw
          case rel =>
            refine ⟨19, 0, c :: l, by omega, by omega, by omega, by omega, rfl, rfl, Lib.hid (by simp), Lib.hid (by have := hll.out; simp only [List.length_cons]; omega), Lib.hid ?_, hput.out, hbel.setCell (by simp) _⟩
            rw [HC.out]; exact hinv.out.next (.inr rfl) (by omega) rfl
          case measure => simp [intOf]
        · clear hgo
          go_wp2
          go_roundw
          case rel =>
            refine ⟨j, x / 10, c :: l, hj, by omega, by omega, by omega, by go_num, rfl, Lib.hid ?_, Lib.hid (by have := hll.out; simp only [List.length_cons]; omega), Lib.hid ?_, hput.out, hbel.setCell (by simp) _⟩
            · have := hlt.out
              obtain ⟨i, rfl⟩ : ∃ i, j = i + 1 := ⟨j - 1, by omega⟩
              simp at this ⊢
              rw [Nat.pow_succ] at this
              omega
            · rw [HC.out]; exact hinv.out.next (.inl hx0) (by omega) (by omega)
          case measure => simp [intOf]
      · have hm := tmod_neg (x := x) (by omega)
        have hm0 : x.tmod 10 ≤ 0 := by omega
        have hm1 : -9 ≤ x.tmod 10 := by omega
        have hq := tdiv_abs x
        have hq0 : -9223372036854775808 ≤ x.tdiv 10 := by omega
        have hq1 : x.tdiv 10 ≤ 9223372036854775807 := by omega
        have hput : Hid (DRowAt (wr.setCell ⟨w.heap.size, j, none⟩ (.int .u8 (48 + if x.tmod 10 < -x.tmod 10 then -x.tmod 10 else x.tmod 10))) w.heap.size 118 (arr j (c :: l))) := by
          apply Lib.hid
          have e : ((48 : Int) + if x.tmod 10 < -x.tmod 10 then -x.tmod 10 else x.tmod 10) = (c.toNat : Int) := by rw [HN.out]; split <;> omega
          rw [e, ← arr_set]
          exact hrow.put j _
        have hxn : x < 0 := by omega
        have HQ := Lib.hid hq
        clear hrow hm hq hgo
        go_wp2
        go_roundw
        case rel =>
          refine ⟨j, x.tdiv 10, c :: l, hj, by omega, hq0, hq1, by go_num, rfl, Lib.hid ?_, Lib.hid (by have := hll.out; simp only [List.length_cons]; omega), Lib.hid ?_, hput.out, hbel.setCell (by simp) _⟩
          · have := hlt.out
            have := HQ.out
            obtain ⟨i, rfl⟩ : ∃ i, j = i + 1 := ⟨j - 1, by omega⟩
            simp at *
            rw [Nat.pow_succ] at *
            omega
          · rw [HC.out]; exact hinv.out.next (.inl (by omega)) (by omega) HQ.out
        case measure => simp [intOf]
    · have hx0 : x = 0 := by omega
      have hk20 : k ≠ 20 := by omega
      subst hx0
      have hl := hinv.out.done hk20
      have hk19 : k < 20 := by omega
      have hl20 : 20 - k = l.length := by have := hll.out; omega
      have hdg : Hid (Dc.digits n = if n < 0 then 45 :: l else l) := Lib.hid (by rw [hl]; rfl)
      have hsl := slice20 w.heap.size
      clear hgo hl
      by_cases hn : n < 0
      · obtain ⟨j, rfl⟩ : ∃ j, k = j + 1 := ⟨k - 1, by omega⟩
        have hcell : wr.cell? ⟨w.heap.size, j, none⟩ = some (.int .u8 0) := (hrow.cell j).trans (arr_head j l)
        have hfro := hrow.frozen j
        have hput : DRowAt (wr.setCell ⟨w.heap.size, j, none⟩ (.int .u8 45)) w.heap.size 118 (arr j (45 :: l)) := by
          rw [← arr_set]
          exact hrow.put j _
        have hs1 := fun W => hsl j (by omega) W
        have kc := conv20 (wr.setCell ⟨w.heap.size, j, none⟩ (.int .u8 45)) w.heap.size j (45 :: l) (20 - j) hput
        have e20 : (45 :: l).length = 20 - j := by simp only [List.length_cons]; omega
        rw [e20] at kc
        have HDG := Lib.hid (by rw [hdg.out, if_pos hn] : Dc.digits n = 45 :: l)
        clear hput hrow hsl hdg hl20 e20
        go_wp2
        go_ret
        exact ⟨ret_str (by rw [HDG.out]), hbel.setCell (by simp) _⟩
      · have hs1 := fun W => hsl k hk19 W
        have kc := conv20 wr w.heap.size k l (20 - k) hrow
        rw [← hl20] at kc
        have HDG := Lib.hid (by rw [hdg.out, if_neg hn] : Dc.digits n = l)
        clear hrow hsl hdg hl20
        go_wp2
        go_ret
        exact ⟨ret_str (by rw [HDG.out]), hbel⟩

end Go.Proofs.YtojmcndiooiehaaGreatDoor
