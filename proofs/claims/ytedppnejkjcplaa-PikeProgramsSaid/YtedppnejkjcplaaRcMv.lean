/-
  CONTRACTS: chapter 12, the document's Compile: moved, cut, put.
-/
import Derived.Test.YtedppnejkjcplaaRcLay
namespace Go.Proofs.Ytedppnejkjcplaa
open Go.RowKit Go.Sort
open Me
open Pk

set_option maxRecDepth 100000 in
set_option maxHeartbeats 4000000 in
theorem moved_any {W : World} {G : Nat → Prop} {A : Option Addr} {cp : Nat} {l : List Rx.In} (hp : Rd W G A (icells l)) (hL : l.length ≤ 1000000) (by_ : Int) :
    Calls Try.prog 64 #[.slice A l.length cp, .int .i64 by_] W fun e W' => ∃ v, e = .returned v ∧ Below W.heap.size W W' ∧ W'.ownsRow W.heap.size 61 4 v l.length (icells (Rc.moved l by_)) := by
  obtain ⟨i0, hi0, hz0, hz1, hz2⟩ := info_parts Rc.inst_info
  have HI := Lib.hid hi0
  have HZ := Lib.hid (And.intro hz0 (And.intro hz1 hz2))
  clear hi0 hz0 hz1 hz2
  have HP : Hid (Rd W (fun _ => True) A (icells l)) := Lib.hid (hp.mono fun _ _ _ => trivial)
  clear hp
  go_enter Try.func64, Try.ntmps64
  go_wp2_with fail
  go_loopw [5, 6, 7] (fun v x _ wr => ∃ i : Nat, x = .int .i64 (i : Int) ∧ i ≤ l.length ∧ (∃ A2 c2, v = .slice A2 i c2) ∧ Hid (Below W.heap.size W wr) ∧ Hid (wr.ownsRow W.heap.size 61 4 v i (icells (Rc.moved (l.take i) by_)))) (fun _ x _ _ => l.length - (intOf x).toNat)
  case atStart => exact ⟨0, rfl, Nat.zero_le _, ⟨none, 0, rfl⟩, Lib.hid (Below.refl _ _), Lib.hid ⟨by simp [icells, Rc.moved], .inl ⟨rfl, rfl⟩⟩⟩
  case round =>
    obtain ⟨i, rfl, hi, ⟨A2, c2, rfl⟩, HB, HO⟩ := hrel
    have hsr := HB.out.size
    by_cases hlt : i < l.length
    · have hltI : (i : Int) < (l.length : Int) := by omega
      have hi0 : (0 : Int) ≤ (i : Int) := by omega
      obtain ⟨x, hx⟩ : ∃ x, l[i] = x := ⟨_, rfl⟩
      have hfx : Pk.fetch l (i : Int) = some x := by unfold Pk.fetch; rw [if_pos hi0, Int.toNat_natCast, List.getElem?_eq_getElem hlt, hx]
      have hpw : Rd wr (fun _ => True) A (icells l) := HP.out.below HB.out
      obtain ⟨ib, io, hA, hil, j0, j1, j2, j3, _⟩ := Pk.prog_cells2 hpw hfx
      rw [Int.toNat_natCast] at j0 j1 j2 j3
      subst hA
      obtain ⟨xop, xx, xy, xp⟩ := x
      have HTK : Hid (∀ y, Rc.mv by_ ⟨xop, xx, xy, xp⟩ = y → icells (Rc.moved (l.take (i + 1)) by_) = icells (Rc.moved (l.take i) by_) ++ icell y) := Lib.hid (fun y hy => by
        rw [List.take_add_one, List.getElem?_eq_getElem hlt, hx]
        unfold Rc.moved
        rw [List.map_append, Rc.icells_append]
        show _ ++ icells [Rc.mv by_ ⟨xop, xx, xy, xp⟩] = _
        rw [Rc.icells_one, hy])
      have hlen : i + 1 ≤ maxLen := by unfold maxLen; omega
      clear hx hfx hpw
      by_cases h2 : xop = 2
      · subst h2
        have HY : Hid (Rc.mv by_ ⟨2, xx, xy, xp⟩ = ⟨2, wrap64 (xx + by_), wrap64 (xy + by_), xp⟩) := Lib.hid (by unfold Rc.mv; simp)
        have HOA : Hid (((wr.alloc (.cells #[.int .i64 2, .int .i64 (wrap64 (xx + by_)), .int .i64 (wrap64 (xy + by_)), .string ⟨xp.toArray⟩] 61)).alloc (.cells #[.int .i64 2, .int .i64 (wrap64 (xx + by_)), .int .i64 (wrap64 (xy + by_)), .string ⟨xp.toArray⟩] 61)).ownsRow W.heap.size 61 4 (.slice A2 i c2) i (icells (Rc.moved (l.take i) by_))) := Lib.hid ((HO.out.alloc _).alloc _)
        have HRD : Hid (Rd ((wr.alloc (.cells #[.int .i64 2, .int .i64 (wrap64 (xx + by_)), .int .i64 (wrap64 (xy + by_)), .string ⟨xp.toArray⟩] 61)).alloc (.cells #[.int .i64 2, .int .i64 (wrap64 (xx + by_)), .int .i64 (wrap64 (xy + by_)), .string ⟨xp.toArray⟩] 61)) (fun b => b = wr.heap.size + 1) (some ⟨wr.heap.size + 1, 0, none⟩) [.int .i64 2, .int .i64 (wrap64 (xx + by_)), .int .i64 (wrap64 (xy + by_)), .string ⟨xp.toArray⟩]) := Lib.hid (Rd.fresh (wr.alloc (.cells #[.int .i64 2, .int .i64 (wrap64 (xx + by_)), .int .i64 (wrap64 (xy + by_)), .string ⟨xp.toArray⟩] 61)) [.int .i64 2, .int .i64 (wrap64 (xx + by_)), .int .i64 (wrap64 (xy + by_)), .string ⟨xp.toArray⟩] 61 _ (by simp))
        go_wp2_with (at_builtin; go_must (refine wpList_app _ rfl (.tmp 39) (.tmp 41) 32 rfl W.heap.size 61 i0 _ 4 40 Try.underlying32 HI.out HZ.out.1 HZ.out.2.1 HZ.out.2.2 rfl (by decide) (.slice A2 i c2) i (icells (Rc.moved (l.take i) by_)) (by simp [Act.eval]) HOA.out (fun b => b = wr.heap.size + 1) (some ⟨wr.heap.size + 1, 0, none⟩) 1 1 [.int .i64 2, .int .i64 (wrap64 (xx + by_)), .int .i64 (wrap64 (xy + by_)), .string ⟨xp.toArray⟩] (by simp [Act.eval]) (by simp) HRD.out (by intro u hu; simp at hu; rcases hu with rfl | rfl | rfl | rfl <;> rfl) hlen (by omega) (by simp; omega) ?_; intro v2 w2 hown2 hg2 hat2 hnil2; have HO2 : Hid (w2.ownsRow W.heap.size 61 4 v2 (i + 1) (icells (Rc.moved (l.take (i + 1)) by_))) := Lib.hid (by rw [HTK.out _ HY.out]; exact hown2); have HB2 : Hid (Below W.heap.size W w2) := Lib.hid (((HB.out.alloc hsr (.cells #[.int .i64 2, .int .i64 (wrap64 (xx + by_)), .int .i64 (wrap64 (xy + by_)), .string ⟨xp.toArray⟩] 61)).alloc (by simp; omega) (.cells #[.int .i64 2, .int .i64 (wrap64 (xx + by_)), .int .i64 (wrap64 (xy + by_)), .string ⟨xp.toArray⟩] 61)).grown hg2 (by simp; omega) (fun g e => (World.ownsRow.lt HOA.out g e).1)); obtain ⟨A3, c3, rfl⟩ := own_form hown2; clear hown2 hg2 hat2 hnil2))
        go_roundw
        case rel => exact ⟨i + 1, by go_num, by omega, ⟨A3, c3, rfl⟩, HB2, HO2⟩
        case measure => simp [intOf]; omega
      · by_cases h3 : xop = 3
        · subst h3
          have HY : Hid (Rc.mv by_ ⟨3, xx, xy, xp⟩ = ⟨3, wrap64 (xx + by_), xy, xp⟩) := Lib.hid (by unfold Rc.mv; simp)
          have HOA : Hid (((wr.alloc (.cells #[.int .i64 3, .int .i64 (wrap64 (xx + by_)), .int .i64 xy, .string ⟨xp.toArray⟩] 61)).alloc (.cells #[.int .i64 3, .int .i64 (wrap64 (xx + by_)), .int .i64 xy, .string ⟨xp.toArray⟩] 61)).ownsRow W.heap.size 61 4 (.slice A2 i c2) i (icells (Rc.moved (l.take i) by_))) := Lib.hid ((HO.out.alloc _).alloc _)
          have HRD : Hid (Rd ((wr.alloc (.cells #[.int .i64 3, .int .i64 (wrap64 (xx + by_)), .int .i64 xy, .string ⟨xp.toArray⟩] 61)).alloc (.cells #[.int .i64 3, .int .i64 (wrap64 (xx + by_)), .int .i64 xy, .string ⟨xp.toArray⟩] 61)) (fun b => b = wr.heap.size + 1) (some ⟨wr.heap.size + 1, 0, none⟩) [.int .i64 3, .int .i64 (wrap64 (xx + by_)), .int .i64 xy, .string ⟨xp.toArray⟩]) := Lib.hid (Rd.fresh (wr.alloc (.cells #[.int .i64 3, .int .i64 (wrap64 (xx + by_)), .int .i64 xy, .string ⟨xp.toArray⟩] 61)) [.int .i64 3, .int .i64 (wrap64 (xx + by_)), .int .i64 xy, .string ⟨xp.toArray⟩] 61 _ (by simp))
          go_wp2_with (at_builtin; go_must (refine wpList_app _ rfl (.tmp 39) (.tmp 41) 32 rfl W.heap.size 61 i0 _ 4 40 Try.underlying32 HI.out HZ.out.1 HZ.out.2.1 HZ.out.2.2 rfl (by decide) (.slice A2 i c2) i (icells (Rc.moved (l.take i) by_)) (by simp [Act.eval]) HOA.out (fun b => b = wr.heap.size + 1) (some ⟨wr.heap.size + 1, 0, none⟩) 1 1 [.int .i64 3, .int .i64 (wrap64 (xx + by_)), .int .i64 xy, .string ⟨xp.toArray⟩] (by simp [Act.eval]) (by simp) HRD.out (by intro u hu; simp at hu; rcases hu with rfl | rfl | rfl | rfl <;> rfl) hlen (by omega) (by simp; omega) ?_; intro v2 w2 hown2 hg2 hat2 hnil2; have HO2 : Hid (w2.ownsRow W.heap.size 61 4 v2 (i + 1) (icells (Rc.moved (l.take (i + 1)) by_))) := Lib.hid (by rw [HTK.out _ HY.out]; exact hown2); have HB2 : Hid (Below W.heap.size W w2) := Lib.hid (((HB.out.alloc hsr (.cells #[.int .i64 3, .int .i64 (wrap64 (xx + by_)), .int .i64 xy, .string ⟨xp.toArray⟩] 61)).alloc (by simp; omega) (.cells #[.int .i64 3, .int .i64 (wrap64 (xx + by_)), .int .i64 xy, .string ⟨xp.toArray⟩] 61)).grown hg2 (by simp; omega) (fun g e => (World.ownsRow.lt HOA.out g e).1)); obtain ⟨A3, c3, rfl⟩ := own_form hown2; clear hown2 hg2 hat2 hnil2))
          go_roundw
          case rel => exact ⟨i + 1, by go_num, by omega, ⟨A3, c3, rfl⟩, HB2, HO2⟩
          case measure => simp [intOf]; omega
        · have HY : Hid (Rc.mv by_ ⟨xop, xx, xy, xp⟩ = ⟨xop, xx, xy, xp⟩) := Lib.hid (by unfold Rc.mv; simp [h2, h3])
          have h2b : (xop == 2) = false := by simpa using h2
          have h3b : (xop == 3) = false := by simpa using h3
          have HOA : Hid (((wr.alloc (.cells #[.int .i64 xop, .int .i64 xx, .int .i64 xy, .string ⟨xp.toArray⟩] 61)).alloc (.cells #[.int .i64 xop, .int .i64 xx, .int .i64 xy, .string ⟨xp.toArray⟩] 61)).ownsRow W.heap.size 61 4 (.slice A2 i c2) i (icells (Rc.moved (l.take i) by_))) := Lib.hid ((HO.out.alloc _).alloc _)
          have HRD : Hid (Rd ((wr.alloc (.cells #[.int .i64 xop, .int .i64 xx, .int .i64 xy, .string ⟨xp.toArray⟩] 61)).alloc (.cells #[.int .i64 xop, .int .i64 xx, .int .i64 xy, .string ⟨xp.toArray⟩] 61)) (fun b => b = wr.heap.size + 1) (some ⟨wr.heap.size + 1, 0, none⟩) [.int .i64 xop, .int .i64 xx, .int .i64 xy, .string ⟨xp.toArray⟩]) := Lib.hid (Rd.fresh (wr.alloc (.cells #[.int .i64 xop, .int .i64 xx, .int .i64 xy, .string ⟨xp.toArray⟩] 61)) [.int .i64 xop, .int .i64 xx, .int .i64 xy, .string ⟨xp.toArray⟩] 61 _ (by simp))
          go_wp2_with (at_builtin; go_must (refine wpList_app _ rfl (.tmp 39) (.tmp 41) 32 rfl W.heap.size 61 i0 _ 4 40 Try.underlying32 HI.out HZ.out.1 HZ.out.2.1 HZ.out.2.2 rfl (by decide) (.slice A2 i c2) i (icells (Rc.moved (l.take i) by_)) (by simp [Act.eval]) HOA.out (fun b => b = wr.heap.size + 1) (some ⟨wr.heap.size + 1, 0, none⟩) 1 1 [.int .i64 xop, .int .i64 xx, .int .i64 xy, .string ⟨xp.toArray⟩] (by simp [Act.eval]) (by simp) HRD.out (by intro u hu; simp at hu; rcases hu with rfl | rfl | rfl | rfl <;> rfl) hlen (by omega) (by simp; omega) ?_; intro v2 w2 hown2 hg2 hat2 hnil2; have HO2 : Hid (w2.ownsRow W.heap.size 61 4 v2 (i + 1) (icells (Rc.moved (l.take (i + 1)) by_))) := Lib.hid (by rw [HTK.out _ HY.out]; exact hown2); have HB2 : Hid (Below W.heap.size W w2) := Lib.hid (((HB.out.alloc hsr (.cells #[.int .i64 xop, .int .i64 xx, .int .i64 xy, .string ⟨xp.toArray⟩] 61)).alloc (by simp; omega) (.cells #[.int .i64 xop, .int .i64 xx, .int .i64 xy, .string ⟨xp.toArray⟩] 61)).grown hg2 (by simp; omega) (fun g e => (World.ownsRow.lt HOA.out g e).1)); obtain ⟨A3, c3, rfl⟩ := own_form hown2; clear hown2 hg2 hat2 hnil2))
          go_roundw
          case rel => exact ⟨i + 1, by go_num, by omega, ⟨A3, c3, rfl⟩, HB2, HO2⟩
          case measure => simp [intOf]; omega
    · have hltI : ¬ (i : Int) < (l.length : Int) := by omega
      obtain rfl : i = l.length := by omega
      go_wp2_with fail
      go_ret
      refine ⟨_, rfl, HB.out, ?_⟩
      have h := HO.out
      rw [List.take_length] at h
      exact h
end Go.Proofs.Ytedppnejkjcplaa
