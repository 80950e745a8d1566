/-
  CONTRACTS: chapter 11: a set of bytes as an array of 256 bools: add, join, invert.
-/
import Derived.Test.YtajijcnfhijanaaRxPure
import Derived.Test.YtajijcnfhijanaaOwnB
namespace Go.Proofs.Ytajijcnfhijanaa
open Go.RowKit
open Me

namespace Rx
/-- A set as cells. -/
def cel (s : St) : Array Value := ((List.range 256).map fun i => Value.bool (s i)).toArray
theorem cel_size (s : St) : (cel s).size = 256 := by unfold cel; simp
theorem cel_at (s : St) (i : Nat) (h : i < 256) : (cel s)[i]? = some (.bool (s i)) := by
  unfold cel
  rw [List.getElem?_toArray, List.getElem?_map, List.getElem?_range h]
  rfl
theorem cel_ext {s t : St} (h : ∀ i, i < 256 → s i = t i) : cel s = cel t := by
  unfold cel
  congr 1
  apply List.map_congr_left
  intro i hi
  rw [h i (List.mem_range.1 hi)]
theorem cel_inj {s t : St} (h : cel s = cel t) : ∀ i, i < 256 → s i = t i := fun i hi => by
  have h1 := cel_at s i hi
  rw [h, cel_at t i hi] at h1
  simpa using h1.symm
theorem cel_set (s : St) (i : Nat) (b : Bool) : (cel s).setIfInBounds i (.bool b) = cel (fun j => if j = i then b else s j) := by
  apply Array.ext_getElem?
  intro j
  rw [Array.getElem?_setIfInBounds]
  by_cases hj : j < 256
  · rw [cel_at _ j hj, cel_at _ j hj, cel_size]
    by_cases e : i = j
    · subst e; simp [hj]
    · rw [if_neg e, if_neg (fun h => e h.symm)]
  · have h1 : (cel s)[j]? = none := Array.getElem?_eq_none (by rw [cel_size]; omega)
    have h2 : (cel fun j => if j = i then b else s j)[j]? = none := Array.getElem?_eq_none (by rw [cel_size]; omega)
    rw [h1, h2, cel_size]
    by_cases e : i = j
    · subst e; simp [hj]
    · rw [if_neg e]
theorem cel_one (s : St) : (cel s).all (·.oneCell') = true := by
  rw [Array.all_eq_true_iff_forall_mem]
  intro v hv
  unfold cel at hv
  simp at hv
  obtain ⟨i, _, rfl⟩ := hv
  rfl
/-- What a walk over a set leaves: its cells, and all else as it was. -/
def Turned (w : World) (b : Nat) (t : TypeId) (s : St) (e : Ending) (w' : World) : Prop := e = .returned (.tuple #[]) ∧ RowAt w' b t (cel s) ∧ Kp (fun i => i = b) w w'
end Rx

set_option maxHeartbeats 1000000 in
theorem sAdd_any {w : World} {b : Nat} {t : TypeId} {s : Rx.St} (hr : RowAt w b t (Rx.cel s)) (lo hi : Nat) (hlo : lo < 256) (hhi : hi < 256) :
    Calls Try.prog 46 #[.pointer (some ⟨b, 0, none⟩), .int .u8 lo, .int .u8 hi] w (Rx.Turned w b t (Rx.add s lo hi)) := by
  have HR := Lib.hid hr
  clear hr
  go_enter Try.func46, Try.ntmps46
  go_wp2_with fail
  go_loopw [6] (fun c wr => ∃ k : Nat, c = .int .i64 k ∧ lo ≤ k ∧ (k ≤ hi + 1 ∨ k = lo) ∧ Hid (RowAt wr b t (Rx.cel fun i => s i || (decide (lo ≤ i) && decide (i < k)))) ∧ Hid (Kp (fun i => i = b) w wr)) (fun c _ => 256 - (intOf c).toNat)
  case atStart =>
    refine ⟨lo, rfl, Nat.le_refl _, .inr rfl, Lib.hid ?_, Lib.hid (Kp.refl _ _)⟩
    rw [Rx.cel_ext (t := s)]
    · exact HR.out
    · intro i _
      by_cases h : lo ≤ i
      · simp [h, show ¬ i < lo by omega]
      · simp [h]
  case round =>
    obtain ⟨k, rfl, hk1, hk2, HW, HK⟩ := hrel
    by_cases hgo : k ≤ hi
    · have hc : wr.cell? ⟨b, k, none⟩ = some (.bool (s k || (decide (lo ≤ k) && decide (k < k)))) := (HW.out.cell k).trans (Rx.cel_at _ k (by omega))
      have hf := HW.out.frozen k
      have hN : Hid (RowAt (wr.setCell ⟨b, k, none⟩ (.bool true)) b t (Rx.cel fun i => s i || (decide (lo ≤ i) && decide (i < k + 1)))) := by
        apply Lib.hid
        have h := HW.out.set_ k (.bool true)
        rw [Rx.cel_set] at h
        rw [Rx.cel_ext (t := fun j => if j = k then true else (s j || (decide (lo ≤ j) && decide (j < k))))]
        · exact h
        · intro i _
          by_cases e : i = k
          · subst e; simp [hk1]
          · rw [if_neg e]
            have : decide (i < k + 1) = decide (i < k) := decide_eq_decide.2 (by omega)
            rw [this]
      have HK2 : Hid (Kp (fun i => i = b) w (wr.setCell ⟨b, k, none⟩ (.bool true))) := Lib.hid (HK.out.setCell _ (.inr rfl) _)
      clear HW HK
      generalize (s k || (decide (lo ≤ k) && decide (k < k))) = old at *
      have hkI : (k : Int) ≤ (hi : Int) := by omega
      have hk256 : (k : Int) < 256 := by omega
      have hk256n : k < 256 := by omega
      go_wp2_with fail
      go_roundw
      case rel => exact ⟨k + 1, by go_num, by omega, .inl (by omega), hN, HK2⟩
      case measure => simp [intOf]; omega
    · have hgo' : ¬ (k : Int) ≤ (hi : Int) := by omega
      have hN : Hid (RowAt wr b t (Rx.cel (Rx.add s lo hi))) := by
        apply Lib.hid
        rw [Rx.cel_ext (t := fun i => s i || (decide (lo ≤ i) && decide (i < k)))]
        · exact HW.out
        · intro i _
          unfold Rx.add
          congr 1
          by_cases h : lo ≤ i
          · simp only [h, decide_true, Bool.true_and]
            exact decide_eq_decide.2 (by omega)
          · simp [h]
      clear HW
      go_wp2_with fail
      ((try simp only [Exit.inBlock, Exit.then]); first | (refine bodyPost_ret (results_none rfl _ _ _) rfl ?_) | (refine bodyPost_end (results_none rfl _ _ _) rfl ?_))
      exact ⟨rfl, hN.out, HK.out⟩

set_option maxHeartbeats 1000000 in
theorem sInvert_any {w : World} {b : Nat} {t : TypeId} {s : Rx.St} (hr : RowAt w b t (Rx.cel s)) :
    Calls Try.prog 47 #[.pointer (some ⟨b, 0, none⟩)] w (Rx.Turned w b t (Rx.inv s)) := by
  have HR := Lib.hid hr
  clear hr
  go_enter Try.func47, Try.ntmps47
  go_wp2_with fail
  go_loopw [2, 3] (fun u c wr => ∃ k : Nat, c = .int .i64 k ∧ k ≤ 256 ∧ Hid (RowAt wr b t (Rx.cel fun i => if i < k then !s i else s i)) ∧ Hid (Kp (fun i => i = b) w wr)) (fun _ c _ => 256 - (intOf c).toNat)
  case atStart =>
    refine ⟨0, rfl, by omega, Lib.hid ?_, Lib.hid (Kp.refl _ _)⟩
    rw [Rx.cel_ext (t := s)]
    · exact HR.out
    · intro i _; simp
  case round =>
    obtain ⟨k, rfl, hk, HW, HK⟩ := hrel
    by_cases hgo : k < 256
    · have hc : wr.cell? ⟨b, k, none⟩ = some (.bool (s k)) := (HW.out.cell k).trans (by rw [Rx.cel_at _ k hgo]; simp)
      have hf := HW.out.frozen k
      have hN : Hid (RowAt (wr.setCell ⟨b, k, none⟩ (.bool (!s k))) b t (Rx.cel fun i => if i < k + 1 then !s i else s i)) := by
        apply Lib.hid
        have h := HW.out.set_ k (.bool (!s k))
        rw [Rx.cel_set] at h
        rw [Rx.cel_ext (t := fun j => if j = k then !s k else (if j < k then !s j else s j))]
        · exact h
        · intro i _
          by_cases e : i = k
          · subst e; simp
          · rw [if_neg e]
            by_cases h2 : i < k
            · rw [if_pos h2, if_pos (by omega)]
            · rw [if_neg h2, if_neg (by omega)]
      have HK2 : Hid (Kp (fun i => i = b) w (wr.setCell ⟨b, k, none⟩ (.bool (!s k)))) := Lib.hid (HK.out.setCell _ (.inr rfl) _)
      clear HW HK
      generalize s k = old at *
      have hkI : (k : Int) < 256 := by omega
      go_wp2_with fail
      go_region
      all_goals
        go_wp2_with fail
        go_roundw
        case rel => exact ⟨k + 1, by go_num, by omega, hN, Lib.hid HK2.out.drew⟩
        case measure => simp [intOf]; omega
    · have hk' : k = 256 := by omega
      subst hk'
      have hN : Hid (RowAt wr b t (Rx.cel (Rx.inv s))) := by
        apply Lib.hid
        rw [Rx.cel_ext (t := fun i => if i < 256 then !s i else s i)]
        · exact HW.out
        · intro i hi
          rw [if_pos hi]; rfl
      clear HW
      go_wp2_with fail
      ((try simp only [Exit.inBlock, Exit.then]); first | (refine bodyPost_ret (results_none rfl _ _ _) rfl ?_) | (refine bodyPost_end (results_none rfl _ _ _) rfl ?_))
      exact ⟨rfl, hN.out, HK.out⟩

set_option maxHeartbeats 1000000 in
theorem sJoin_any {w : World} {b : Nat} {t : TypeId} {s o : Rx.St} (hr : RowAt w b t (Rx.cel s)) :
    Calls Try.prog 63 #[.pointer (some ⟨b, 0, none⟩), .agg (Rx.cel o)] w (Rx.Turned w b t (Rx.join s o)) := by
  have hbl := hr.lt
  have HR := Lib.hid hr
  clear hr
  have hsz := Rx.cel_size o
  have HO1 : Hid (∀ i, i < 256 → (Rx.cel o)[i]? = some (.bool (o i))) := Lib.hid (Rx.cel_at o)
  have HQ : Hid (∀ X, X = Rx.cel o → RowAt (w.alloc (.cells X 73)) w.heap.size 73 X) := Lib.hid fun X _ => RowAt.new w X _
  have HQ2 := Lib.hid (HQ.out _ rfl)
  generalize Rx.cel o = X at *
  go_enter Try.func63, Try.ntmps63
  go_wp2_with fail
  go_loopw [4, 5] (fun u c wr => ∃ k : Nat, c = .int .i64 k ∧ k ≤ 256 ∧ Hid (RowAt wr b t (Rx.cel fun i => if i < k then s i || o i else s i)) ∧ Hid (Kp (fun i => i = b) w wr) ∧ Hid (RowAt wr w.heap.size 73 X)) (fun _ c _ => 256 - (intOf c).toNat)
  case atStart =>
    refine ⟨0, rfl, by omega, Lib.hid ?_, Lib.hid ((Kp.refl _ _).alloc _), HQ2⟩
    rw [Rx.cel_ext (t := s)]
    · exact HR.out.alloc _
    · intro i _; simp
  case round =>
    obtain ⟨k, rfl, hk, HW, HK, HX⟩ := hrel
    by_cases hgo : k < 256
    · have hc : wr.cell? ⟨b, k, none⟩ = some (.bool (s k)) := (HW.out.cell k).trans (by rw [Rx.cel_at _ k hgo]; simp)
      have hf := HW.out.frozen k
      have hx : wr.cell? ⟨w.heap.size, k, none⟩ = some (.bool (o k)) := (HX.out.cell k).trans (HO1.out k hgo)
      have hN : Hid (RowAt (wr.setCell ⟨b, k, none⟩ (.bool (s k || o k))) b t (Rx.cel fun i => if i < k + 1 then s i || o i else s i)) := by
        apply Lib.hid
        have h := HW.out.set_ k (.bool (s k || o k))
        rw [Rx.cel_set] at h
        rw [Rx.cel_ext (t := fun j => if j = k then (s k || o k) else (if j < k then s j || o j else s j))]
        · exact h
        · intro i _
          by_cases e : i = k
          · subst e; simp
          · rw [if_neg e]
            by_cases h2 : i < k
            · rw [if_pos h2, if_pos (by omega)]
            · rw [if_neg h2, if_neg (by omega)]
      have HK2 : Hid (Kp (fun i => i = b) w (wr.setCell ⟨b, k, none⟩ (.bool (s k || o k)))) := Lib.hid (HK.out.setCell _ (.inr rfl) _)
      have HX2 : Hid (RowAt (wr.setCell ⟨b, k, none⟩ (.bool (s k || o k))) w.heap.size 73 X) := Lib.hid (HX.out.far (by show w.heap.size ≠ b; omega) _)
      clear HW HK HX
      generalize s k = old at *
      generalize o k = old2 at *
      have hkI : (k : Int) < 256 := by omega
      cases old
      · go_wp2_with fail
        go_region
        all_goals
          go_wp2_with fail
          go_roundw
          case rel => exact ⟨k + 1, by go_num, by omega, by first | exact hN | (cases old2 <;> exact hN), Lib.hid (by first | exact HK2.out.drew | (cases old2 <;> exact HK2.out.drew)), by first | exact HX2 | (cases old2 <;> exact HX2)⟩
          case measure => simp [intOf]; omega
      · go_wp2_with fail
        go_region
        all_goals
          go_wp2_with fail
          go_roundw
          case rel => exact ⟨k + 1, by go_num, by omega, hN, Lib.hid HK2.out.drew, HX2⟩
          case measure => simp [intOf]; omega
    · have hk' : k = 256 := by omega
      subst hk'
      have hN : Hid (RowAt wr b t (Rx.cel (Rx.join s o))) := by
        apply Lib.hid
        rw [Rx.cel_ext (t := fun i => if i < 256 then s i || o i else s i)]
        · exact HW.out
        · intro i hi
          rw [if_pos hi]; rfl
      clear HW
      go_wp2_with fail
      ((try simp only [Exit.inBlock, Exit.then]); first | (refine bodyPost_ret (results_none rfl _ _ _) rfl ?_) | (refine bodyPost_end (results_none rfl _ _ _) rfl ?_))
      exact ⟨rfl, hN.out, HK.out⟩

namespace Rx
theorem pairsTo_step (s : St) (k : Nat) : pairsTo s (k + 1) = pairsTo s k ++ pairAt s k := rfl
theorem pairAt_len (s : St) (k : Nat) : (pairAt s k).length ≤ 2 := by
  unfold pairAt
  split
  · split <;> split <;> simp
  · simp
theorem pairsTo_len (s : St) (k : Nat) : (pairsTo s k).length ≤ 2 * k := by
  induction k with
  | zero => exact Nat.zero_le _
  | succ k ih => rw [pairsTo_step, List.length_append]; have := pairAt_len s k; omega
end Rx
end Go.Proofs.Ytajijcnfhijanaa
