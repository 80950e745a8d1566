/-
  GlPar: CONTRACTS: chapter 9: Parts on both sides, Plain, isResult.
-/
import Derived.Test.YtfmbbhcjnidcbaaGreatDoorJ32
import Derived.Test.YtfmbbhcjnidcbaaGreatDoorJ14

namespace Go.Proofs.YtfmbbhcjnidcbaaGreatDoor
open Go.RowKit
open Me

namespace Gl
theorem replace_none (s : List UInt8) : Lib.replaceK [46] [] (Lib.count s [46]) s = s.filter (· != 46) := by
  induction s with
  | nil => rfl
  | cons b r ih =>
    by_cases hb : b = 46
    · subst hb
      have hi : Lib.index (46 :: r) [46] = 0 := by unfold Lib.index; simp
      rw [Lib.count_cons_eq, Nat.add_comm, Lib.replaceK, hi, if_neg (by decide)]
      show [] ++ [] ++ Lib.replaceK [46] [] (Lib.count r [46]) r = _
      rw [ih]; simp
    · rw [Lib.count_cons_ne _ _ _ hb]
      have ht : (b :: r).filter (· != 46) = b :: r.filter (· != 46) := by simp [hb]
      rw [ht]
      cases hk : Lib.count r [46] with
      | zero => rw [hk] at ih; rw [← ih]; rfl
      | succ k =>
        obtain ⟨i, hi⟩ := Lib.index_of_count (s := r) (old := [46]) (by omega)
        have hi2 : Lib.index (b :: r) [46] = ((i + 1 : Nat) : Int) := by
          unfold Lib.index
          rw [if_neg (by simpa using fun e => hb e.symm), hi, if_neg (by first | (simp; done) | (simp; omega))]
          omega
        rw [hk, Lib.replaceK, hi, if_neg (by first | (simp; done) | (simp; omega))] at ih
        rw [Lib.replaceK, hi2, if_neg (by first | (simp; done) | (simp; omega)), ← ih]
        simp
theorem replaceAll_none (s : List UInt8) : Lib.replaceAll s [46] [] = s.filter (· != 46) := by
  unfold Lib.replaceAll Lib.replace
  rw [if_neg (by simp)]
  unfold Lib.replaceNum
  rw [if_pos (.inl (by decide)), replace_none]
theorem plain_filter (s : List UInt8) : (s.filter (· != 46)).all Nm.okB = plainB s := by
  unfold plainB
  induction s with
  | nil => rfl
  | cons b r ih =>
    by_cases hb : b = 46
    · subst hb; rw [List.filter_cons_of_neg (by decide), List.all_cons, ih]; rfl
    · rw [List.filter_cons_of_pos (by simpa using hb), List.all_cons, List.all_cons, ih, show (b == 46) = false by simpa using hb, Bool.false_or]
/-- A part that may stand in what comes out, and one that may stand in a pattern's parts. -/
def goodP (p : List UInt8) : Bool := !p.isEmpty && simple p
def partsOk (s : List UInt8) : Bool := decide ((Nm.pt s).length ≤ 20) && (Nm.pt s).all goodP
def resOk (s : List UInt8) : Bool := !s.isEmpty && (Nm.pt s).all simple
theorem all_bad {f : List UInt8 → Bool} {l : List (List UInt8)} {k : Nat} (h : k < l.length) (hb : f l[k] = false) : l.all f = false := by
  rw [List.all_eq_false]; exact ⟨l[k], List.getElem_mem h, by rw [hb]; simp⟩
theorem all_good {f : List UInt8 → Bool} {l : List (List UInt8)} (hb : ∀ k (h : k < l.length), f l[k] = true) : l.all f = true :=
  List.all_eq_true.2 fun p hp => by obtain ⟨k, hk, rfl⟩ := List.getElem_of_mem hp; exact hb k hk
/-- What a call that hands back texts and an error leaves. -/
def Gave (w : World) (ok : Bool) (L : List (List UInt8)) (bad : Int) (e : Ending) (w' : World) : Prop :=
  Below w.heap.size w w' ∧ ((ok = true ∧ ∃ v, e = .returned (.tuple #[v, .int .i64 0]) ∧ OwnS w.heap.size w' v L) ∨ (ok = false ∧ e = .returned (.tuple #[.slice none 0 0, .int .i64 bad])))
theorem Gave.no {w w' : World} {ok : Bool} {L : List (List UInt8)} {bad : Int} (hb : Below w.heap.size w w') (h : ok = false) : Gave w ok L bad (.returned (.tuple #[.slice none 0 0, .int .i64 bad])) w' := ⟨hb, .inr ⟨h, rfl⟩⟩
theorem Gave.yes {w w' : World} {ok : Bool} {L : List (List UInt8)} {bad : Int} {v : Value} (hb : Below w.heap.size w w') (h : ok = true) (ho : OwnS w.heap.size w' v L) : Gave w ok L bad (.returned (.tuple #[v, .int .i64 0])) w' := ⟨hb, .inl ⟨h, v, rfl, ho⟩⟩
end Gl

theorem drop_dots (l : List UInt8) (hl : l.length ≤ 4294967280) (w : World) (hm : Mx w) :
    Calls Tryz.prog 106 #[.string ⟨l.toArray⟩, .string ⟨#[46]⟩, .string ⟨#[]⟩] w fun e w' => e = .returned (.string ⟨(l.filter (· != 46)).toArray⟩) ∧ Below w.heap.size w w' := by
  obtain ⟨m, hm⟩ := hm
  have h0 : (⟨l.toArray⟩ : ByteArray).size = l.length := by show l.toArray.size = _; simp
  refine (Tryz.strings_ReplaceAll ⟨l.toArray⟩ ⟨#[46]⟩ ⟨#[]⟩ m w (len_lt hl) hm (Nat.le_refl 1) (by rw [h0]; show l.length + _ * 0 ≤ _; omega)).mono ?_
  rintro e w' ⟨rfl, hb⟩
  refine ⟨?_, hb⟩
  show Ending.returned (.string ⟨(Lib.replaceAll l.toArray.toList [46] []).toArray⟩) = _
  rw [List.toList_toArray, Gl.replaceAll_none]

set_option maxHeartbeats 1000000 in
theorem plain_any (s : List UInt8) (hl : s.length ≤ 4294967270) (w : World) (hm : Mx w) :
    Calls Tryz.prog 72 #[.string ⟨s.toArray⟩] w fun e w' => e = .returned (.bool (Gl.plainB s)) ∧ Below w.heap.size w w' := by
  have HD := Lib.hid (drop_dots s (by omega) w hm)
  have HM : Hid (∀ W, Below w.heap.size w W → Mx W) := Lib.hid fun W h => hm.below h
  have HF := Lib.hid fun W (h : Mx W) => gMayStand_any (s.filter (· != 46)) (by have := List.length_filter_le (· != 46) s; omega) W h
  rw [Gl.plain_filter] at HF
  clear hm
  generalize s.filter (· != 46) = f at *
  generalize Gl.plainB s = R at *
  go_enter Tryz.func72, Tryz.ntmps72
  go_wp2_with first
    | (go_at_call 106; go_must (refine (HD.out).mono ?_; rintro e w1 ⟨rfl, hb1⟩))
    | (go_at_call 93; go_must (refine (HF.out _ (HM.out _ hb1)).mono ?_; rintro e w2 ⟨rfl, hb2⟩; have hB2 := hb1.trans (hb2.mono hb1.size)))
  go_ret
  exact ⟨rfl, hB2⟩

set_option maxHeartbeats 2000000 in
theorem isResult_any (s : List UInt8) (hl : s.length ≤ 4294967270) (w : World) (hm : Mx w) :
    Calls Tryz.prog 65 #[.string ⟨s.toArray⟩] w fun e w' => e = .returned (.bool (Gl.resOk s)) ∧ Below w.heap.size w w' := by
  have hse : Hid (Gl.resOk s = (!s.isEmpty && (Nm.pt s).all Gl.simple)) := Lib.hid rfl
  have HP := Lib.hid (parts_any s (by omega) w hm)
  have HM : Hid (∀ W, Below w.heap.size w W → Mx W) := Lib.hid fun W h => hm.below h
  have HL := Lib.hid (fun k (h : k < (Nm.pt s).length) => Nat.le_trans (Nm.pt_part_len s _ (List.getElem_mem h)) hl)
  have hLn : ((Nm.pt s).length : Int) ≤ 4294967281 := by have := Nm.pt_len s; omega
  have hpos : 0 < (Nm.pt s).length := List.length_pos_iff.2 (Nm.pt_ne s)
  have HB := Lib.hid (fun k (h : k < (Nm.pt s).length) (hb : Gl.simple (Nm.pt s)[k] = false) => Gl.all_bad h hb)
  have HG := Lib.hid (fun h => Gl.all_good (f := Gl.simple) (l := Nm.pt s) h)
  clear hm
  generalize Gl.resOk s = R at *
  generalize (Nm.pt s).all Gl.simple = al at *
  generalize Nm.pt s = L at *
  go_enter Tryz.func65, Tryz.ntmps65
  go_wp2_with (go_at_call 21; go_must (refine (HP.out).mono ?_; rintro e w1 ⟨v, rfl, ho, hb⟩; obtain ⟨g, c, rfl⟩ := ho.form hpos))
  have HO := Lib.hid ho
  have HB1 := Lib.hid hb
  have hlt1 := ho.lt.2
  clear ho hb
  go_loopw [8] (fun i wr => ∃ k : Nat, k ≤ L.length ∧ i = .int .i64 k ∧ Hid (∀ j (h : j < L.length), j < k → Gl.simple L[j] = true) ∧ Hid (Below w1.heap.size w1 wr)) (fun i _ => L.length - (intOf i).toNat)
  case atStart => exact ⟨0, Nat.zero_le _, rfl, Lib.hid fun j _ h => absurd h (by omega), Lib.hid (Below.refl _ _)⟩
  case round =>
    obtain ⟨k, hk, rfl, HD, HBr⟩ := hrel
    have HBw : Hid (Below w.heap.size w wr) := Lib.hid (HB1.out.trans (HBr.out.mono HB1.out.size))
    by_cases hlt : k < L.length
    · have ec := (HBr.out.cell (p := ⟨g, k, none⟩) hlt1).trans (HO.out.cell k hlt)
      have hkl : (k : Int) < (L.length : Int) := by omega
      have hk0 : (0 : Int) ≤ (k : Int) := by omega
      have HC0 := Lib.hid (HB.out k hlt)
      have HDn : Hid (Gl.simple L[k] = true → ∀ j (h : j < L.length), j < k + 1 → Gl.simple L[j] = true) := Lib.hid fun hc j h hj => by
        by_cases e : j = k
        · subst e; exact hc
        · exact HD.out j h (by omega)
      have hpl := HL.out k hlt
      generalize L[k] = p at *
      have HS := Lib.hid (isSimple_any p hpl wr (HM.out _ HBw.out))
      cases hc : Gl.simple p
      · rw [hc] at HS
        have HQ : Hid (false = R) := Lib.hid (by rw [hse.out, HC0.out hc, Bool.and_false])
        clear hc
        go_wp2_with (go_at_call 67; go_must (refine (HS.out).mono ?_; rintro e w2 ⟨rfl, hb2⟩))
        go_ret
        exact ⟨Gl.ret_bool HQ.out, HBw.out.trans (hb2.mono HBw.out.size)⟩
      · rw [hc] at HS
        have HQ := Lib.hid (HDn.out hc)
        clear hc
        go_wp2_with (go_at_call 67; go_must (refine (HS.out).mono ?_; rintro e w2 ⟨rfl, hb2⟩))
        go_roundw
        case rel => exact ⟨k + 1, by omega, by go_num, HQ, Lib.hid (HBr.out.trans (hb2.mono HBr.out.size))⟩
        case measure => simp [intOf]; omega
    · obtain rfl : k = L.length := by omega
      have HQ : Hid ((!s.isEmpty) = R) := Lib.hid (by rw [hse.out, HG.out fun j h => HD.out j h h, Bool.and_true])
      by_cases h0 : s = []
      · subst h0
        have HQ2 : Hid (false = R) := HQ
        go_wp2
        go_ret
        exact ⟨Gl.ret_bool HQ2.out, HBw.out⟩
      · have hemp : s.isEmpty = false := by simpa using h0
        rw [hemp] at HQ
        have HQ2 : Hid (true = R) := HQ
        go_wp2
        go_ret
        exact ⟨Gl.ret_bool HQ2.out, HBw.out⟩

set_option maxHeartbeats 2000000 in
theorem gParts_any (s : List UInt8) (hl : s.length ≤ 4294967270) (w : World) (hm : Mx w) :
    Calls Tryz.prog 40 #[.string ⟨s.toArray⟩] w (Gl.Gave w (Gl.partsOk s) (Nm.pt s) 8) := by
  have hse : Hid (Gl.partsOk s = (decide ((Nm.pt s).length ≤ 20) && (Nm.pt s).all Gl.goodP)) := Lib.hid rfl
  have HC := Lib.hid (count46 s w)
  have HP := Lib.hid (parts_any s (by omega) w hm)
  have HM : Hid (∀ W, Below w.heap.size w W → Mx W) := Lib.hid fun W h => hm.below h
  have HL := Lib.hid (fun k (h : k < (Nm.pt s).length) => Nat.le_trans (Nm.pt_part_len s _ (List.getElem_mem h)) hl)
  have hLn : ((Nm.pt s).length : Int) ≤ 4294967281 := by have := Nm.pt_len s; omega
  have hpos : 0 < (Nm.pt s).length := List.length_pos_iff.2 (Nm.pt_ne s)
  have HB := Lib.hid (fun k (h : k < (Nm.pt s).length) (hb : Gl.goodP (Nm.pt s)[k] = false) => Gl.all_bad h hb)
  have HG := Lib.hid (fun h => Gl.all_good (f := Gl.goodP) (l := Nm.pt s) h)
  clear hm
  generalize Gl.partsOk s = R at *
  generalize (Nm.pt s).all Gl.goodP = al at *
  generalize Nm.pt s = L at *
  by_cases h20 : 20 < L.length
  · have h20' : (20 : Int) ≤ (L.length : Int) - 1 := by omega
    have HQ : Hid (R = false) := Lib.hid (by rw [hse.out, decide_eq_false (by omega)]; rfl)
    clear h20
    go_enter Tryz.func40, Tryz.ntmps40
    go_wp2_with (go_at_call 66; go_must (refine (HC.out).mono ?_; rintro e w1 ⟨rfl, hw1⟩; rw [hw1]))
    ((try simp only [Exit.inBlock, Exit.then]); refine bodyPost_ret (results_tmp2 rfl _ _ _) rfl ?_)
    exact Gl.Gave.no (Below.refl _ _) HQ.out
  have h20' : ¬ (20 : Int) ≤ (L.length : Int) - 1 := by omega
  have HQ0 : Hid (R = al) := Lib.hid (by rw [hse.out, decide_eq_true (by omega)]; rfl)
  clear h20
  go_enter Tryz.func40, Tryz.ntmps40
  go_wp2_with first
    | (go_at_call 66; go_must (refine (HC.out).mono ?_; rintro e w1 ⟨rfl, hw1⟩; rw [hw1]))
    | (go_at_call 21; go_must (refine (HP.out).mono ?_; rintro e w1 ⟨v, rfl, ho, hb⟩; obtain ⟨g, c, rfl⟩ := ho.form hpos))
  have HO := Lib.hid ho
  have HB1 := Lib.hid hb
  have hlt1 := ho.lt.2
  clear ho hb
  go_loopw [14] (fun i wr => ∃ k : Nat, k ≤ L.length ∧ i = .int .i64 k ∧ Hid (∀ j (h : j < L.length), j < k → Gl.goodP L[j] = true) ∧ Hid (Below w1.heap.size w1 wr)) (fun i _ => L.length - (intOf i).toNat)
  case atStart => exact ⟨0, Nat.zero_le _, rfl, Lib.hid fun j _ h => absurd h (by omega), Lib.hid (Below.refl _ _)⟩
  case round =>
    obtain ⟨k, hk, rfl, HD, HBr⟩ := hrel
    have HBw : Hid (Below w.heap.size w wr) := Lib.hid (HB1.out.trans (HBr.out.mono HB1.out.size))
    by_cases hlt : k < L.length
    · have ec := (HBr.out.cell (p := ⟨g, k, none⟩) hlt1).trans (HO.out.cell k hlt)
      have hkl : (k : Int) < (L.length : Int) := by omega
      have hk0 : (0 : Int) ≤ (k : Int) := by omega
      have HC0 := Lib.hid (HB.out k hlt)
      have HDn : Hid (Gl.goodP L[k] = true → ∀ j (h : j < L.length), j < k + 1 → Gl.goodP L[j] = true) := Lib.hid fun hc j h hj => by
        by_cases e : j = k
        · subst e; exact hc
        · exact HD.out j h (by omega)
      have hpl := HL.out k hlt
      generalize L[k] = p at *
      by_cases h0 : p = []
      · subst h0
        have HQ : Hid (R = false) := Lib.hid (by rw [HQ0.out, HC0.out rfl])
        go_wp2_with fail
        ((try simp only [Exit.inBlock, Exit.then]); refine bodyPost_ret (results_tmp2 rfl _ _ _) rfl ?_)
        exact Gl.Gave.no HBw.out HQ.out
      have hemp : p.isEmpty = false := by simpa using h0
      have HS := Lib.hid (isSimple_any p hpl wr (HM.out _ HBw.out))
      cases hc : Gl.simple p
      · rw [hc] at HS
        have HQ : Hid (R = false) := Lib.hid (by rw [HQ0.out, HC0.out (by unfold Gl.goodP; rw [hc, Bool.and_false])])
        clear hc
        go_wp2_with (go_at_call 67; go_must (refine (HS.out).mono ?_; rintro e w2 ⟨rfl, hb2⟩))
        ((try simp only [Exit.inBlock, Exit.then]); refine bodyPost_ret (results_tmp2 rfl _ _ _) rfl ?_)
        exact Gl.Gave.no (HBw.out.trans (hb2.mono HBw.out.size)) HQ.out
      · rw [hc] at HS
        have HQ := Lib.hid (HDn.out (by unfold Gl.goodP; rw [hc, hemp]; rfl))
        clear hc
        go_wp2_with (go_at_call 67; go_must (refine (HS.out).mono ?_; rintro e w2 ⟨rfl, hb2⟩))
        go_roundw
        case rel => exact ⟨k + 1, by omega, by go_num, HQ, Lib.hid (HBr.out.trans (hb2.mono HBr.out.size))⟩
        case measure => simp [intOf]; omega
    · obtain rfl : k = L.length := by omega
      have HQ : Hid (R = true) := Lib.hid (by rw [HQ0.out, HG.out fun j h => HD.out j h h])
      go_wp2
      ((try simp only [Exit.inBlock, Exit.then]); refine bodyPost_ret (results_tmp2 rfl _ _ _) rfl ?_)
      exact Gl.Gave.yes HBw.out HQ.out (HO.out.below HBr.out)

set_option maxHeartbeats 2000000 in
theorem ref9Parts_any (s : List UInt8) (hl : s.length ≤ 4294967270) (w : World) :
    Calls Tryz.prog 29 #[.string ⟨s.toArray⟩] w (Gl.Gave w (Gl.partsOk s) (Nm.pt s) 8) := by
  have hse : Hid (Gl.partsOk s = (decide ((Nm.pt s).length ≤ 20) && (Nm.pt s).all Gl.goodP)) := Lib.hid rfl
  have HP := Lib.hid (refParts_any s (by omega) w)
  have HL := Lib.hid (fun k (h : k < (Nm.pt s).length) => Nat.le_trans (Nm.pt_part_len s _ (List.getElem_mem h)) hl)
  have hLn : ((Nm.pt s).length : Int) ≤ 4294967281 := by have := Nm.pt_len s; omega
  have hpos : 0 < (Nm.pt s).length := List.length_pos_iff.2 (Nm.pt_ne s)
  have HB := Lib.hid (fun k (h : k < (Nm.pt s).length) (hb : Gl.goodP (Nm.pt s)[k] = false) => Gl.all_bad h hb)
  have HG := Lib.hid (fun h => Gl.all_good (f := Gl.goodP) (l := Nm.pt s) h)
  generalize Gl.partsOk s = R at *
  generalize (Nm.pt s).all Gl.goodP = al at *
  generalize Nm.pt s = L at *
  by_cases h20 : 20 < L.length
  · have h20' : (20 : Int) < (L.length : Int) := by omega
    have HQ : Hid (R = false) := Lib.hid (by rw [hse.out, decide_eq_false (by omega)]; rfl)
    clear h20
    go_enter Tryz.func29, Tryz.ntmps29
    go_wp2_with (go_at_call 37; go_must (refine (HP.out).mono ?_; rintro e w1 ⟨v, rfl, ho, hb⟩; obtain ⟨g, c, rfl⟩ := ho.form hpos))
    ((try simp only [Exit.inBlock, Exit.then]); refine bodyPost_ret (results_tmp2 rfl _ _ _) rfl ?_)
    exact Gl.Gave.no hb HQ.out
  have h20' : ¬ (20 : Int) < (L.length : Int) := by omega
  have HQ0 : Hid (R = al) := Lib.hid (by rw [hse.out, decide_eq_true (by omega)]; rfl)
  clear h20
  go_enter Tryz.func29, Tryz.ntmps29
  go_wp2_with (go_at_call 37; go_must (refine (HP.out).mono ?_; rintro e w1 ⟨v, rfl, ho, hb⟩; obtain ⟨g, c, rfl⟩ := ho.form hpos))
  have HO := Lib.hid ho
  have HB1 := Lib.hid hb
  have hlt1 := ho.lt.2
  clear ho hb
  go_loopw [5] (fun i wr => ∃ k : Nat, k ≤ L.length ∧ i = .int .i64 k ∧ Hid (∀ j (h : j < L.length), j < k → Gl.goodP L[j] = true) ∧ Hid (Below w1.heap.size w1 wr)) (fun i _ => L.length - (intOf i).toNat)
  case atStart => exact ⟨0, Nat.zero_le _, rfl, Lib.hid fun j _ h => absurd h (by omega), Lib.hid (Below.refl _ _)⟩
  case round =>
    obtain ⟨k, hk, rfl, HD, HBr⟩ := hrel
    have HBw : Hid (Below w.heap.size w wr) := Lib.hid (HB1.out.trans (HBr.out.mono HB1.out.size))
    by_cases hlt : k < L.length
    · have ec := (HBr.out.cell (p := ⟨g, k, none⟩) hlt1).trans (HO.out.cell k hlt)
      have hkl : (k : Int) < (L.length : Int) := by omega
      have hk0 : (0 : Int) ≤ (k : Int) := by omega
      have HC0 := Lib.hid (HB.out k hlt)
      have HDn : Hid (Gl.goodP L[k] = true → ∀ j (h : j < L.length), j < k + 1 → Gl.goodP L[j] = true) := Lib.hid fun hc j h hj => by
        by_cases e : j = k
        · subst e; exact hc
        · exact HD.out j h (by omega)
      have hpl := HL.out k hlt
      generalize L[k] = p at *
      by_cases h0 : p = []
      · subst h0
        have HQ : Hid (R = false) := Lib.hid (by rw [HQ0.out, HC0.out rfl])
        go_wp2_with fail
        ((try simp only [Exit.inBlock, Exit.then]); refine bodyPost_ret (results_tmp2 rfl _ _ _) rfl ?_)
        exact Gl.Gave.no HBw.out HQ.out
      have hemp : p.isEmpty = false := by simpa using h0
      have HS := Lib.hid (refSimple_any p hpl wr)
      cases hc : Gl.simple p
      · rw [hc] at HS
        have HQ : Hid (R = false) := Lib.hid (by rw [HQ0.out, HC0.out (by unfold Gl.goodP; rw [hc, Bool.and_false])])
        clear hc
        go_wp2_with (go_at_call 53; go_must (refine (HS.out).mono ?_; rintro e w2 ⟨rfl, hb2⟩))
        ((try simp only [Exit.inBlock, Exit.then]); refine bodyPost_ret (results_tmp2 rfl _ _ _) rfl ?_)
        exact Gl.Gave.no (HBw.out.trans (hb2.mono HBw.out.size)) HQ.out
      · rw [hc] at HS
        have HQ := Lib.hid (HDn.out (by unfold Gl.goodP; rw [hc, hemp]; rfl))
        clear hc
        go_wp2_with (go_at_call 53; go_must (refine (HS.out).mono ?_; rintro e w2 ⟨rfl, hb2⟩))
        go_roundw
        case rel => exact ⟨k + 1, by omega, by go_num, HQ, Lib.hid (HBr.out.trans (hb2.mono HBr.out.size))⟩
        case measure => simp [intOf]; omega
    · obtain rfl : k = L.length := by omega
      have HQ : Hid (R = true) := Lib.hid (by rw [HQ0.out, HG.out fun j h => HD.out j h h])
      go_wp2
      ((try simp only [Exit.inBlock, Exit.then]); refine bodyPost_ret (results_tmp2 rfl _ _ _) rfl ?_)
      exact Gl.Gave.yes HBw.out HQ.out (HO.out.below HBr.out)
end Go.Proofs.YtfmbbhcjnidcbaaGreatDoor
