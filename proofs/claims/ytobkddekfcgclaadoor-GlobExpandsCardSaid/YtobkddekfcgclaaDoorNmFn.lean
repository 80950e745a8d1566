/-
  CONTRACTS: package name: Is, Parts, Join, File, Of, Node, for every text.
-/
import Derived.Test.YtobkddekfcgclaaDoorNmProg
namespace Go.Proofs.YtobkddekfcgclaaDoor
open Go.RowKit
open Me

/-- A row of texts of the call's own. -/
def OwnS (base : Nat) (w : World) (v : Value) (l : List (List UInt8)) : Prop := w.ownsRow base 9 1 v l.length (byS l)
theorem OwnS.new (w : World) (l : List (List UInt8)) (h : l.length ≤ maxLen) : OwnS w.heap.size (w.alloc (.cells (byS l).toArray 9)) (.slice (some ⟨w.heap.size, 0, none⟩) l.length l.length) l := by
  have := World.ownsRow_lit (base := w.heap.size) (e := 9) (size := 1) w (byS l).toArray l.length (Nat.le_refl _) h (by simp [byS_len])
  unfold OwnS; simpa using this
theorem OwnS.below {a : Nat} {w w' : World} {v : Value} {l : List (List UInt8)} (h : OwnS a w v l) (k : Below w.heap.size w w') : OwnS a w' v l :=
  owns_keep h fun g hg => k.block g (World.ownsRow.lt h g hg).2
theorem OwnS.nil (a : Nat) (w : World) : OwnS a w (.slice none 0 0) [] := ⟨rfl, .inl ⟨rfl, rfl⟩⟩
theorem OwnS.cell {base : Nat} {w : World} {g n c : Nat} {l : List (List UInt8)} (h : OwnS base w (.slice (some ⟨g, 0, none⟩) n c) l) (k : Nat) (hk : k < l.length) : w.cell? ⟨g, k, none⟩ = some (.string ⟨(l[k]).toArray⟩) := by
  obtain ⟨h1, h2⟩ := h
  rcases h2 with ⟨h', _⟩ | ⟨g', cap', cur, h', hb, hg, hnc, hcm, hcs, ht⟩
  · simp at h'
  · simp only [Value.slice.injEq, Option.some.injEq, Addr.mk.injEq, and_true] at h'
    obtain ⟨rfl, rfl, rfl⟩ := h'
    rw [cell_of_row w g k cur 9 (0, 0) hg, ← byS_get l k hk, ← ht, List.getElem?_take, if_pos (by omega)]
    simp
theorem OwnS.lt {base : Nat} {w : World} {g n c : Nat} {l : List (List UInt8)} (h : OwnS base w (.slice (some ⟨g, 0, none⟩) n c) l) : base ≤ g ∧ g < w.heap.size := World.ownsRow.lt h g rfl
theorem OwnS.frozen {base : Nat} {w : World} {g n c : Nat} {l : List (List UInt8)} (h : OwnS base w (.slice (some ⟨g, 0, none⟩) n c) l) (k : Nat) : w.frozen? ⟨g, k, none⟩ = false := by
  obtain ⟨h1, h2⟩ := h
  rcases h2 with ⟨h', _⟩ | ⟨g', cap', cur, h', hb, hg, hnc, hcm, hcs, ht⟩
  · simp at h'
  · simp only [Value.slice.injEq, Option.some.injEq, Addr.mk.injEq, and_true] at h'
    obtain ⟨rfl, rfl, rfl⟩ := h'
    exact frozen_of_row w g k cur _ hg
theorem OwnS.again {base : Nat} {w : World} {g c : Nat} {l : List (List UInt8)} (h : OwnS base w (.slice (some ⟨g, 0, none⟩) l.length c) l) (k : Nat) (hk : k < l.length) : OwnS base (w.setCell ⟨g, k, none⟩ (.string ⟨(l[k]).toArray⟩)) (.slice (some ⟨g, 0, none⟩) l.length c) l := by
  have := (World.ownsRow.stored h k (.string ⟨(l[k]).toArray⟩)).1
  have e : (byS l).set k (.string ⟨(l[k]).toArray⟩) = byS l := by
    apply List.ext_getElem?
    intro j
    rw [List.getElem?_set]
    by_cases hj : k = j
    · subst hj; rw [if_pos rfl, byS_get l k hk, if_pos (by rw [byS_len]; exact hk)]
    · rw [if_neg hj]
  rw [e] at this
  exact this

/-- What Split hands back. -/
theorem split_any (l : List UInt8) (hl : l.length ≤ 4294967280) (w : World) (hm : Mx w) :
    Calls Tryd.prog 63 #[.string ⟨l.toArray⟩, .string ⟨#[46]⟩] w fun e w' => e = .returned (.slice (some ⟨w.heap.size, 0, none⟩) (Nm.pt l).length (Nm.pt l).length) ∧ OwnS w.heap.size w' (.slice (some ⟨w.heap.size, 0, none⟩) (Nm.pt l).length (Nm.pt l).length) (Nm.pt l) ∧ Below w.heap.size w w' := by
  refine (split46 l hl w hm).mono ?_
  rintro e w' ⟨rfl, rfl⟩
  have := Nm.pt_len l
  exact ⟨rfl, OwnS.new w _ (by unfold maxLen; omega), (Below.refl _ _).alloc (Nat.le_refl _) _⟩

set_option maxHeartbeats 1000000 in
theorem is_any (s : List UInt8) (hl : s.length ≤ 4294967280) (w : World) (hm : Mx w) :
    Calls Tryd.prog 58 #[.string ⟨s.toArray⟩] w fun e w' => e = .returned (.bool (Nm.is s)) ∧ Below w.heap.size w w' := by
  have hs : (⟨s.toArray⟩ : ByteArray).size = s.length := by show s.toArray.size = _; simp
  by_cases h2 : 200 < s.length
  · have h2' : (200 : Int) < (s.length : Int) := by omega
    have HQ := Lib.hid (Nm.is_long h2)
    clear h2
    go_enter Tryd.func58, Tryd.ntmps58
    go_wp2_with fail
    go_ret
    exact ⟨Nm.ret_bool HQ.out.symm, Below.refl _ _⟩
  · have h2' : ¬ (200 : Int) < (s.length : Int) := by omega
    have H1 := Lib.hid (split_any s hl w hm)
    have HG := Lib.hid (@Nm.is_good s (by omega))
    have HBd := Lib.hid (fun k (h : k < (Nm.pt s).length) (hc : Nm.okP (Nm.pt s)[k] = false) => Nm.is_bad h hc)
    have HL := Lib.hid (fun k (h : k < (Nm.pt s).length) => Nat.le_trans (Nm.pt_part_len s _ (List.getElem_mem h)) hl)
    have hLn : ((Nm.pt s).length : Int) ≤ 4294967281 := by have := Nm.pt_len s; omega
    clear h2
    generalize Nm.is s = R at *
    generalize Nm.pt s = L at *
    go_enter Tryd.func58, Tryd.ntmps58
    go_wp2_with (go_at_call 63; go_must (refine (H1.out).mono ?_; rintro e w1 ⟨rfl, ho, hb⟩))
    have HO := Lib.hid ho
    have HB := Lib.hid hb
    have hlt1 := ho.lt.2
    clear ho hb
    go_loop [13] (fun i => ∃ k : Nat, k ≤ L.length ∧ i = .int .i64 k ∧ Hid (∀ j (h : j < L.length), j < k → Nm.okP L[j] = true)) (fun i => L.length - (intOf i).toNat)
    case atStart => exact ⟨0, Nat.zero_le _, rfl, Lib.hid fun j _ h => absurd h (by omega)⟩
    case round =>
      obtain ⟨k, hk, rfl, HD⟩ := hrel
      by_cases hlt : k < L.length
      · have ec := HO.out.cell k hlt
        have hkl : (k : Int) < (L.length : Int) := by omega
        have hk0 : (0 : Int) ≤ (k : Int) := by omega
        have hP := Lib.hid (isPart_any L[k] (HL.out k hlt) w1)
        cases hc : Nm.okP L[k]
        · have HC := Lib.hid (HBd.out k hlt hc)
          rw [hc] at hP
          clear hc
          go_wp2_with (go_at_call 75; go_must (refine (hP.out).mono ?_; rintro e w' ⟨rfl, rfl⟩))
          go_ret
          exact ⟨Nm.ret_bool HC.out.symm, HB.out⟩
        · have HC := Lib.hid hc
          rw [hc] at hP
          clear hc
          go_wp2_with (go_at_call 75; go_must (refine (hP.out).mono ?_; rintro e w' ⟨rfl, rfl⟩))
          go_round
          case rel =>
            refine ⟨k + 1, by omega, by go_num, Lib.hid fun j h hj => ?_⟩
            by_cases e : j = k
            · subst e; exact HC.out
            · exact HD.out j h (by omega)
          case measure => simp [intOf]; omega
      · obtain rfl : k = L.length := by omega
        have HE : Hid (R = decide ((L.length : Int) ≤ 20)) := Lib.hid (by rw [HG.out fun j h => HD.out j h h]; congr 1; apply propext; omega)
        go_wp2
        go_ret
        exact ⟨Nm.ret_bool HE.out.symm, HB.out⟩

theorem owns_cell {base : Nat} {w : World} {g n c : Nat} {l : List (List UInt8)} (h : OwnS base w (.slice (some ⟨g, 0, none⟩) n c) l) (k : Nat) (hk : k < l.length) : w.cell? ⟨g, k, none⟩ = some (.string ⟨(l[k]).toArray⟩) := h.cell k hk

set_option maxHeartbeats 1000000 in
theorem parts_any (s : List UInt8) (hl : s.length ≤ 4294967280) (w : World) (hm : Mx w) :
    Calls Tryd.prog 38 #[.string ⟨s.toArray⟩] w fun e w' => ∃ v, e = .returned v ∧ OwnS w.heap.size w' v (Nm.pt s) ∧ Below w.heap.size w w' := by
  have H1 := Lib.hid (split_any s hl w hm)
  have HL := Lib.hid (fun k (h : k < (Nm.pt s).length) => Nat.le_trans (Nm.pt_part_len s _ (List.getElem_mem h)) hl)
  have hLn : ((Nm.pt s).length : Int) ≤ 4294967281 := by have := Nm.pt_len s; omega
  generalize Nm.pt s = L at *
  go_enter Tryd.func38, Tryd.ntmps38
  go_wp2_with (go_at_call 63; go_must (refine (H1.out).mono ?_; rintro e w1 ⟨rfl, ho, hb⟩))
  have HO := Lib.hid ho
  have HB := Lib.hid hb
  have hlt1 := ho.lt.2
  clear ho hb
  go_loopw [10] (fun i wr => ∃ k : Nat, k ≤ L.length ∧ i = .int .i64 k ∧ Hid (OwnS w.heap.size wr (.slice (some ⟨w.heap.size, 0, none⟩) L.length L.length) L) ∧ Hid (Below w.heap.size w wr)) (fun i _ => L.length - (intOf i).toNat)
  case atStart => exact ⟨0, Nat.zero_le _, rfl, HO, HB⟩
  case round =>
    obtain ⟨k, hk, rfl, HOr, HBr⟩ := hrel
    by_cases hlt : k < L.length
    · have ec := HOr.out.cell k hlt
      have ef := HOr.out.frozen k
      have hltr := HOr.out.lt.2
      have hkl : (k : Int) < (L.length : Int) := by omega
      have hk0 : (0 : Int) ≤ (k : Int) := by omega
      have hP := Lib.hid (clone_str L[k] (HL.out k hlt))
      have HAg := Lib.hid (fun W (h : OwnS w.heap.size W (.slice (some ⟨w.heap.size, 0, none⟩) L.length L.length) L) => h.again k hlt)
      generalize L[k] = p at *
      go_wp2_with (go_at_call 64; go_must (refine (hP.out _).mono ?_; rintro e w1 ⟨rfl, hb1⟩; have ef1 := (HOr.out.below hb1).frozen k; have ec1 := (hb1.cell (p := ⟨w.heap.size, k, none⟩) hltr).trans ec))
      have HO1 := Lib.hid (HOr.out.below hb1)
      have HB1 := Lib.hid (HBr.out.trans (hb1.mono (Nat.le_of_lt hltr)))
      go_roundw
      case rel => exact ⟨k + 1, by omega, by go_num, Lib.hid (HAg.out _ HO1.out), Lib.hid (HB1.out.setCell (Nat.le_refl _) _)⟩
      case measure => simp [intOf]; omega
    · obtain rfl : k = L.length := by omega
      go_wp2
      go_ret
      exact ⟨_, rfl, HOr.out, HBr.out⟩
end Go.Proofs.YtobkddekfcgclaaDoor
