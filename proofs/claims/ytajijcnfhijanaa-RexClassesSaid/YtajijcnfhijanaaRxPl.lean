/-
  CONTRACTS: chapter 11: instructions at their places.
-/
import Derived.Test.YtajijcnfhijanaaRxCho
import Derived.Laws.MakeOwn
namespace Go.Proofs.Ytajijcnfhijanaa
open Go.RowKit
open Me

namespace Rx
/-- An instruction at its place. -/
def moveW (i : Nat) (x : In) : In := if x.op = 2 then ⟨x.op, IntKind.i64.wrap (i + x.x), IntKind.i64.wrap (i + x.y), x.p⟩ else if x.op = 3 then ⟨x.op, IntKind.i64.wrap (i + x.x), x.y, x.p⟩ else x
def placed : Nat → List In → List In
  | _, [] => []
  | i, x :: r => moveW i x :: placed (i + 1) r
def zeroIn : In := ⟨0, 0, 0, []⟩
/-- The row of the result under way. -/
def part (l : List In) (k : Nat) : Array Value := (cellsI (placed 0 (l.take k) ++ List.replicate (l.length - k) zeroIn)).toArray
theorem placed_len : ∀ (l : List In) (i : Nat), (placed i l).length = l.length
  | [], _ => rfl
  | _ :: r, i => by simp [placed, placed_len r (i + 1)]
theorem placed_append : ∀ (l m : List In) (i : Nat), placed i (l ++ m) = placed i l ++ placed (i + l.length) m
  | [], m, i => by simp [placed]
  | x :: r, m, i => by
    have := placed_append r m (i + 1)
    show moveW i x :: placed (i + 1) (r ++ m) = _
    rw [this]
    simp [placed, Nat.add_assoc, Nat.add_comm 1]
theorem cellsI_get (l : List In) (k : Nat) (x : In) (h : l[k]? = some x) : (cellsI l)[k * 4]? = some (.int .i64 x.op) ∧ (cellsI l)[k * 4 + 1]? = some (.int .i64 x.x) ∧ (cellsI l)[k * 4 + 2]? = some (.int .i64 x.y) ∧ (cellsI l)[k * 4 + 3]? = some (.string ⟨x.p.toArray⟩) := by
  induction l generalizing k with
  | nil => cases h
  | cons y r ih =>
    have e : cellsI (y :: r) = .int .i64 y.op :: .int .i64 y.x :: .int .i64 y.y :: .string ⟨y.p.toArray⟩ :: cellsI r := by unfold cellsI; rw [List.flatMap_cons]; rfl
    rw [e]
    cases k with
    | zero => cases h; exact ⟨rfl, rfl, rfl, rfl⟩
    | succ k =>
      have := ih k (by simpa using h)
      rw [show (k + 1) * 4 = k * 4 + 1 + 1 + 1 + 1 by omega]
      exact this
theorem cellsI_set (l m : List In) (y z : In) (n : Nat) (hn : l.length = n) : ((((cellsI (l ++ y :: m)).set (n * 4) (.int .i64 z.op)).set (n * 4 + 1) (.int .i64 z.x)).set (n * 4 + 2) (.int .i64 z.y)).set (n * 4 + 3) (.string ⟨z.p.toArray⟩) = cellsI (l ++ z :: m) := by
  subst hn
  have e : ∀ (y : In), cellsI (l ++ y :: m) = cellsI l ++ (.int .i64 y.op :: .int .i64 y.x :: .int .i64 y.y :: .string ⟨y.p.toArray⟩ :: cellsI m) := fun y => by
    unfold cellsI; rw [List.flatMap_append, List.flatMap_cons]; rfl
  rw [e, e]
  have hl := cellsI_len l
  rw [List.set_append_right _ _ (by omega), List.set_append_right _ _ (by omega), List.set_append_right _ _ (by omega), List.set_append_right _ _ (by omega)]
  rw [show l.length * 4 - (cellsI l).length = 0 by omega, show l.length * 4 + 1 - (cellsI l).length = 1 by omega, show l.length * 4 + 2 - (cellsI l).length = 2 by omega, show l.length * 4 + 3 - (cellsI l).length = 3 by omega]
  rfl
theorem part_set (l : List In) (k : Nat) (x : In) (h : l[k]? = some x) : ((((part l k).setIfInBounds (k * 4) (.int .i64 (moveW k x).op)).setIfInBounds (k * 4 + 1) (.int .i64 (moveW k x).x)).setIfInBounds (k * 4 + 2) (.int .i64 (moveW k x).y)).setIfInBounds (k * 4 + 3) (.string ⟨(moveW k x).p.toArray⟩) = part l (k + 1) := by
  obtain ⟨hk, hx⟩ := List.getElem?_eq_some_iff.1 h
  apply Array.ext'
  simp only [Array.toList_setIfInBounds]
  have e : l.length - k = l.length - (k + 1) + 1 := by omega
  unfold part
  rw [e, List.replicate_succ, List.take_succ_eq_append_getElem hk, placed_append, List.length_take, Nat.min_eq_left (by omega), hx]
  rw [cellsI_set _ _ _ _ k (by rw [placed_len, List.length_take, Nat.min_eq_left (by omega)])]
  simp [placed]
theorem part_zero (l : List In) : madeCells #[.int .i64 0, .int .i64 0, .int .i64 0, .string ⟨#[]⟩] (l.length * 4) = part l 0 := by
  unfold part
  rw [List.take_zero]
  show _ = (cellsI (List.replicate (l.length - 0) zeroIn)).toArray
  rw [Nat.sub_zero]
  generalize l.length = n
  apply Array.ext_getElem?
  intro j
  have hl : (cellsI (List.replicate n zeroIn)).length = n * 4 := by rw [cellsI_len, List.length_replicate]
  by_cases h : j < n * 4
  · have h2 : (List.replicate n zeroIn)[j / 4]? = some zeroIn := by rw [List.getElem?_replicate, if_pos (by omega)]
    obtain ⟨g0, g1, g2, g3⟩ := cellsI_get _ _ _ h2
    have e1 : (madeCells #[.int .i64 0, .int .i64 0, .int .i64 0, .string ⟨#[]⟩] (n * 4))[j]? = some ((#[.int .i64 0, .int .i64 0, .int .i64 0, .string ⟨#[]⟩] : Array Value)[j % 4]!) := by unfold madeCells; simp [h]
    rw [e1, List.getElem?_toArray]
    obtain ⟨q, r, rfl, hr⟩ : ∃ q r, j = q * 4 + r ∧ r < 4 := ⟨j / 4, j % 4, by omega, by omega⟩
    have hq : (q * 4 + r) / 4 = q := by omega
    have hm : (q * 4 + r) % 4 = r := by omega
    rw [hq] at g0 g1 g2 g3
    rw [hm]
    have h4 : r = 0 ∨ r = 1 ∨ r = 2 ∨ r = 3 := by omega
    rcases h4 with rfl | rfl | rfl | rfl
    · rw [Nat.add_zero, g0]; rfl
    · rw [g1]; rfl
    · rw [g2]; rfl
    · rw [g3]; rfl
  · rw [Array.getElem?_eq_none (by rw [size_madeCells]; omega), List.getElem?_toArray, List.getElem?_eq_none (by omega)]
theorem part_get (l : List In) (k : Nat) (h : k < l.length) : (part l k)[k * 4]? = some (.int .i64 0) ∧ (part l k)[k * 4 + 1]? = some (.int .i64 0) ∧ (part l k)[k * 4 + 2]? = some (.int .i64 0) ∧ (part l k)[k * 4 + 3]? = some (.string ⟨#[]⟩) := by
  have e : l.length - k = l.length - (k + 1) + 1 := by omega
  have h2 : (placed 0 (l.take k) ++ List.replicate (l.length - k) zeroIn)[k]? = some zeroIn := by
    rw [List.getElem?_append_right (by rw [placed_len, List.length_take]; omega), placed_len, List.length_take, Nat.min_eq_left (by omega), Nat.sub_self, e, List.replicate_succ]
    rfl
  unfold part
  simp only [List.getElem?_toArray]
  exact cellsI_get _ _ _ h2
theorem w64 (n : Int) : Go.RowKit.wrap64 n = IntKind.i64.wrap n := by rw [IntKind.wrap_i64]; unfold Go.RowKit.wrap64; omega
theorem part_end (l : List In) : part l l.length = (cellsI (placed 0 l)).toArray := by
  unfold part; rw [List.take_length, Nat.sub_self]; simp
theorem part_own (w : World) {W : World} (l : List In) (h : RowAt W w.heap.size 36 (part l l.length)) (hl : l.length ≤ 1048576) : OwnC w.heap.size W (.slice (some ⟨w.heap.size, 0, none⟩) l.length l.length) (placed 0 l) := by
  rw [part_end] at h
  have hn := placed_len l 0
  refine ⟨by rw [cellsI_len], .inr ⟨w.heap.size, l.length, _, by rw [hn], Nat.le_refl _, h, ?_, ?_, ?_, ?_⟩⟩
  · omega
  · unfold maxLen; omega
  · simp [cellsI_len, hn]
  · rw [List.take_of_length_le]
    show (cellsI (placed 0 l)).length ≤ _
    rw [cellsI_len]; exact Nat.le_refl _
end Rx

theorem make_insts (n : Nat) (h9 : n ≤ 4294967300) (W : World) :
    (Instr.makeSlice 24 (.int .i64 n) (.int .i64 n)).run Try.prog W = .ok (.slice (some ⟨W.heap.size, 0, none⟩) n n) (W.alloc (.cells (madeCells #[.int .i64 0, .int .i64 0, .int .i64 0, .string ⟨#[]⟩] (n * 4)) 36)) := by
  obtain ⟨i0, hi, hz0, hz1, hz2⟩ := info_parts instinfo
  have h := run_make (P := Try.prog) W 24 36 i0 _ Try.underlying24 hi hz0 .i64 .i64 n n (by omega) (Int.le_refl _) (by rw [hz2]; omega) (by omega)
  rw [hz1, Int.toNat_natCast] at h
  rw [h]
  rfl

set_option maxRecDepth 100000 in
set_option maxHeartbeats 4000000 in
theorem placed_any {w : World} {x : Value} {l : List Rx.In} {base : Nat} (hx : Rx.RdC w base x l) (hlen : l.length ≤ 8192) :
    Calls Try.prog 15 #[x] w (Rx.GaveC w (Rx.placed 0 l)) := by
  obtain ⟨A, cx, rfl, hr⟩ := hx
  have HR := Lib.hid hr
  have HL := Lib.hid hlen
  clear hr
  have hL9 : (l.length : Int) ≤ 8192 := by omega
  have hL0 : (0 : Int) ≤ (l.length : Int) := by omega
  have hmk : ∀ W : World, (Instr.makeSlice 24 (.int .i64 (l.length : Int)) (.int .i64 (l.length : Int))).run Try.prog W = .ok (.slice (some ⟨W.heap.size, 0, none⟩) l.length l.length) (W.alloc (.cells (Rx.part l 0) 36)) := fun W => by
    have := make_insts l.length (by omega) W
    rw [Rx.part_zero] at this
    exact this
  go_enter Try.func15, Try.ntmps15
  go_wp2_with fail
  go_loopw [4, 5, 11] (fun _ _ c wr => ∃ k : Nat, c = .int .i64 k ∧ k ≤ l.length ∧ Hid (RowAt wr w.heap.size 36 (Rx.part l k)) ∧ Hid (Below w.heap.size w wr)) (fun _ _ c _ => l.length - (intOf c).toNat)
  case atStart => exact ⟨0, rfl, Nat.zero_le _, Lib.hid (RowAt.new w _ _), Lib.hid ((Below.refl _ _).alloc (Nat.le_refl _) _)⟩
  case round =>
    obtain ⟨k, rfl, hk, HW, HB⟩ := hrel
    have hws := HB.out.size
    have hwl := HW.out.lt
    by_cases hgo : k < l.length
    · have hkI : (k : Int) < (l.length : Int) := by omega
      have hk0 : (0 : Int) ≤ (k : Int) := by omega
      obtain ⟨x, Hx⟩ : ∃ x, Hid (l[k]? = some x) := ⟨l[k], Lib.hid (List.getElem?_eq_getElem hgo)⟩
      obtain ⟨g, o, rfl, hg, _, hcc⟩ := (HR.out.below (HB.out)).lit (k * 4) (by rw [Rx.cellsI_len]; omega)
      have hgl : g < w.heap.size := by
        obtain ⟨ad, e1, e2, _⟩ := HR.out.at_ (k * 4) (by rw [Rx.cellsI_len]; omega)
        cases e1; exact e2
      obtain ⟨p0, p1, p2, p3⟩ := Rx.cellsI_get l k x Hx.out
      have c0 : wr.cell? ⟨g, o + k * 4, none⟩ = some (.int .i64 x.op) := hcc _ _ p0
      have c1 : wr.cell? ⟨g, o + k * 4 + 1, none⟩ = some (.int .i64 x.x) := by rw [Nat.add_assoc]; exact hcc _ _ p1
      have c2 : wr.cell? ⟨g, o + k * 4 + 2, none⟩ = some (.int .i64 x.y) := by rw [Nat.add_assoc]; exact hcc _ _ p2
      have c3 : wr.cell? ⟨g, o + k * 4 + 3, none⟩ = some (.string ⟨x.p.toArray⟩) := by rw [Nat.add_assoc]; exact hcc _ _ p3
      obtain ⟨q0, q1, q2, q3⟩ := Rx.part_get l k hgo
      have d0 := (HW.out.cell (k * 4)).trans q0
      have d1 := (HW.out.cell (k * 4 + 1)).trans q1
      have d2 := (HW.out.cell (k * 4 + 2)).trans q2
      have d3 := (HW.out.cell (k * 4 + 3)).trans q3
      have f0 := HW.out.frozen (k * 4)
      have f1 := HW.out.frozen (k * 4 + 1)
      have f2 := HW.out.frozen (k * 4 + 2)
      have f3 := HW.out.frozen (k * 4 + 3)
      have HPS := Lib.hid (Rx.part_set l k x Hx.out)
      clear hcc p0 p1 p2 p3 q0 q1 q2 q3
      have HFin : Hid (∀ (o1 : Obj) (u0 u1 u2 u3 : Value), u0 = .int .i64 (Rx.moveW k x).op → u1 = .int .i64 (Rx.moveW k x).x → u2 = .int .i64 (Rx.moveW k x).y → u3 = .string ⟨(Rx.moveW k x).p.toArray⟩ →
          RowAt (((((wr.setCell ⟨w.heap.size, k * 4, none⟩ u0).setCell ⟨w.heap.size, k * 4 + 1, none⟩ u1).setCell ⟨w.heap.size, k * 4 + 2, none⟩ u2).setCell ⟨w.heap.size, k * 4 + 3, none⟩ u3).alloc o1) w.heap.size 36 (Rx.part l (k + 1)) ∧
          Below w.heap.size w (((((wr.setCell ⟨w.heap.size, k * 4, none⟩ u0).setCell ⟨w.heap.size, k * 4 + 1, none⟩ u1).setCell ⟨w.heap.size, k * 4 + 2, none⟩ u2).setCell ⟨w.heap.size, k * 4 + 3, none⟩ u3).alloc o1)) := Lib.hid (by
        rintro o1 u0 u1 u2 u3 rfl rfl rfl rfl
        refine ⟨?_, ((((HB.out.setCell (Nat.le_refl _) _).setCell (Nat.le_refl _) _).setCell (Nat.le_refl _) _).setCell (Nat.le_refl _) _).alloc (by simpa [World.setCell] using hws) _⟩
        rw [← HPS.out]
        exact ((((HW.out.set_ _ _).set_ _ _).set_ _ _).set_ _ _).alloc o1)
      obtain ⟨sx, Hsx⟩ : ∃ sx, Hid (IntKind.i64.wrap ((k : Int) + x.x) = sx) := ⟨_, Lib.hid rfl⟩
      obtain ⟨sy, Hsy⟩ : ∃ sy, Hid (IntKind.i64.wrap ((k : Int) + x.y) = sy) := ⟨_, Lib.hid rfl⟩
      have hsx : Go.RowKit.wrap64 ((k : Int) + x.x) = sx := (Rx.w64 _).trans Hsx.out
      have hsy : Go.RowKit.wrap64 ((k : Int) + x.y) = sy := (Rx.w64 _).trans Hsy.out
      by_cases h2 : x.op = 2
      · have hm : Rx.moveW k x = ⟨2, IntKind.i64.wrap (k + x.x), IntKind.i64.wrap (k + x.y), x.p⟩ := by unfold Rx.moveW; rw [if_pos h2, h2]
        rw [hm, Hsx.out, Hsy.out] at HFin
        clear Hsx Hsy
        rw [h2] at c0
        generalize x.x = xx at *
        generalize x.y = xy at *
        generalize x.p = xp at *
        clear h2 hm HPS
        go_wp2_with fail
        go_roundw
        case rel =>
          exact ⟨k + 1, by go_num, by omega, Lib.hid (HFin.out _ _ _ _ _ rfl rfl rfl rfl).1, Lib.hid (HFin.out _ _ _ _ _ rfl rfl rfl rfl).2⟩
        case measure => simp [intOf]; omega
      · by_cases h3 : x.op = 3
        · have hm : Rx.moveW k x = ⟨3, IntKind.i64.wrap (k + x.x), x.y, x.p⟩ := by unfold Rx.moveW; rw [if_neg h2, if_pos h3, h3]
          rw [hm, Hsx.out] at HFin
          clear Hsx Hsy
          rw [h3] at c0
          generalize x.x = xx at *
          generalize x.y = xy at *
          generalize x.p = xp at *
          clear h2 h3 hm HPS
          go_wp2_with fail
          go_roundw
          case rel =>
            exact ⟨k + 1, by go_num, by omega, Lib.hid (HFin.out _ _ _ _ _ rfl rfl rfl rfl).1, Lib.hid (HFin.out _ _ _ _ _ rfl rfl rfl rfl).2⟩
          case measure => simp [intOf]; omega
        · have hm : Rx.moveW k x = x := by unfold Rx.moveW; rw [if_neg h2, if_neg h3]
          rw [hm] at HFin
          clear Hsx Hsy hsx hsy
          generalize x.op = xo at *
          generalize x.x = xx at *
          generalize x.y = xy at *
          generalize x.p = xp at *
          clear hm HPS
          go_wp2_with fail
          go_roundw
          case rel =>
            exact ⟨k + 1, by go_num, by omega, Lib.hid (HFin.out _ _ _ _ _ rfl rfl rfl rfl).1, Lib.hid (HFin.out _ _ _ _ _ rfl rfl rfl rfl).2⟩
          case measure => simp [intOf]; omega
    · obtain rfl : k = l.length := by omega
      have HO := Lib.hid (Rx.part_own w l HW.out (by have := HL.out; omega))
      go_wp2_with fail
      go_ret
      exact ⟨_, rfl, HO.out, HB.out⟩
end Go.Proofs.Ytajijcnfhijanaa
