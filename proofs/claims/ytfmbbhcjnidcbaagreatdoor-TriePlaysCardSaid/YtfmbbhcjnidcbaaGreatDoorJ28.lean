/-
  GlSim: CONTRACTS: chapter 9, simple patterns: the program's mayStand, isSimple, takes.
-/
import Derived.Test.YtfmbbhcjnidcbaaGreatDoorJ11
import Derived.Test.YtfmbbhcjnidcbaaGreatDoorJ27
import Derived.Test.YtfmbbhcjnidcbaaGreatDoorJ7

namespace Go.Proofs.YtfmbbhcjnidcbaaGreatDoor
open Go.RowKit
open Me

namespace Gl
theorem index93 (l : List UInt8) : Lib.indexByte l 93 = if has93 l then ((ah l).length : Int) else -1 := by
  induction l with
  | nil => rfl
  | cons b r ih =>
    unfold Lib.indexByte
    by_cases hb : b = 93
    · subst hb; rfl
    · have h1 : (b == 93) = false := by simpa using hb
      have e1 : has93 (b :: r) = has93 r := by unfold has93 none93; rw [List.all_cons]; simp [hb]
      have e2 : (ah (b :: r)).length = (ah r).length + 1 := by unfold ah; rw [List.takeWhile_cons, if_pos (by simpa using hb)]; rfl
      rw [h1, ih, e1, e2]
      simp only [Bool.false_eq_true, if_false]
      by_cases hd : has93 r = true
      · rw [if_pos hd, if_pos hd, if_neg (by first | (simp; done) | (simp; omega))]; omega
      · rw [if_neg hd, if_neg hd]; rfl
theorem cut_end (l : List UInt8) : Lib.cut l [93] = (if has93 l then (ah l, bh l, true) else (l, [], false)) := by
  unfold Lib.cut
  rw [Lib.index_one, index93]
  by_cases hd : has93 l = true
  · rw [if_pos hd, if_pos hd, if_pos (by omega)]
    have e1 : l.take (ah l).length = ah l := by
      have := cut93 l hd
      generalize ah l = x at *
      generalize bh l = y at *
      rw [this]; simp
    show (l.take (ah l).length, l.drop ((ah l).length + 1), true) = _
    rw [e1, drop93 l hd]
  · rw [if_neg hd, if_neg hd, if_neg (by omega)]
/-- What Cut hands back. -/
def cA (l : List UInt8) : List UInt8 := if has93 l then ah l else l
def cB (l : List UInt8) : List UInt8 := if has93 l then bh l else []
theorem cA_len (l : List UInt8) : (cA l).length ≤ l.length := by
  unfold cA; split
  · exact ah_len l
  · exact Nat.le_refl _
theorem cB_len (l : List UInt8) : (cB l).length ≤ l.length := by
  unfold cB; split
  · rename_i h
    rw [← drop93 l h, List.length_drop]; omega
  · exact Nat.zero_le _
theorem simple_cut (r : List UInt8) : simple (91 :: r) = (has93 r && (!(cA r).isEmpty && okR (cA r) && simple (cB r))) := by
  unfold cA cB
  cases hn : has93 r with
  | false => rw [simple_open _ (by simpa [has93] using hn)]; rfl
  | true =>
    conv => lhs; rw [cut93 _ hn]
    rw [simple_cls _ _ (ah_none _), Bool.true_and]
    rfl
theorem fst_take (cs s : List UInt8) : s.take (fst cs s).length = fst cs s := by
  have h5 : (fst cs s) <+: s := List.takeWhile_prefix _
  exact (List.prefix_iff_eq_take.1 h5).symm
theorem fst_le (cs s : List UInt8) : (fst cs s).length ≤ s.length := (List.takeWhile_prefix (p := fun b => !cs.contains b) (l := s)).length_le
theorem fst_spec (s : List UInt8) : noSpec (fst [42, 63, 91] s) = true := by
  unfold noSpec fst
  rw [List.all_eq_true]
  intro x hx
  have := List.all_eq_true.1 (List.all_takeWhile (p := fun b => !([42, 63, 91] : List UInt8).contains b) (l := s)) x hx
  simp only [List.contains_cons, List.contains_nil, Bool.or_false] at this
  simpa using this
theorem simple_fst (s : List UInt8) : simple s = ((fst [42, 63, 91] s).all Nm.okB && simple (s.drop (fst [42, 63, 91] s).length)) := by
  conv => lhs; rw [← List.take_append_drop (fst [42, 63, 91] s).length s, fst_take]
  exact simple_chunk _ _ (fst_spec s)
theorem fst_pos (s : List UInt8) (h : 0 < s.length) (hb : s[0] ≠ 42 ∧ s[0] ≠ 63 ∧ s[0] ≠ 91) : 0 < (fst [42, 63, 91] s).length := by
  cases s with
  | nil => cases h
  | cons b r =>
    unfold fst
    have h1 : (!([42, 63, 91] : List UInt8).contains b) = true := by
      have h2 : b ≠ 42 ∧ b ≠ 63 ∧ b ≠ 91 := hb
      simp [h2.1, h2.2.1, h2.2.2]
    rw [List.takeWhile_cons, if_pos h1]; simp
/-- A text of a part's bytes alone is a name where it is not too long. -/
theorem is_part (p : List UInt8) (hd : Nm.noDot p = true) (h0 : p ≠ []) (hl : p.length ≤ 200) : Nm.is p = p.all Nm.okB := by
  unfold Nm.is
  rw [Nm.pt_plain p hd, decide_eq_true hl]
  have : p.isEmpty = false := by simpa using h0
  simp [Nm.okP, this]
theorem noDot_take {p : List UInt8} (h : Nm.noDot p = true) (k : Nat) : Nm.noDot (p.take k) = true ∧ Nm.noDot (p.drop k) = true := by
  unfold Nm.noDot at *
  rw [List.all_eq_true] at *
  rw [List.all_eq_true]
  exact ⟨fun x hx => h x (List.mem_of_mem_take hx), fun x hx => h x (List.mem_of_mem_drop hx)⟩
theorem dot_not {p : List UInt8} (h : Nm.noDot p = false) : p.all Nm.okB = false := by
  unfold Nm.noDot at h
  rw [List.all_eq_false] at *
  obtain ⟨x, hx, hb⟩ := h
  obtain rfl : x = 46 := by simpa using hb
  exact ⟨46, hx, by decide⟩
theorem all_split (p : List UInt8) (k : Nat) : p.all Nm.okB = ((p.take k).all Nm.okB && (p.drop k).all Nm.okB) := by
  conv => lhs; rw [← List.take_append_drop k p, List.all_append]
/-- What takes hands back. -/
def tkR (p : List UInt8) : List UInt8 := match p with
  | [] => []
  | b :: r => if b = 91 then cB r else r
def tkO (c : UInt8) (p : List UInt8) : Bool := match p with
  | [] => false
  | b :: r => if b = 63 then true else if b = 91 then inR c (cA r) else decide (b = c)
theorem ret_sb {a a' : List UInt8} {b b' : Bool} (h1 : a = a') (h2 : b = b') : Ending.returned (.tuple #[.string ⟨a.toArray⟩, .bool b]) = .returned (.tuple #[.string ⟨a'.toArray⟩, .bool b']) := by rw [h1, h2]
theorem get_zero (s : List UInt8) (h : 0 < s.length) : s = s[0] :: s.tail := by
  cases s with
  | nil => cases h
  | cons b r => rfl
end Gl

theorem cut_close (l : List UInt8) (hl : l.length ≤ 4294967280) (w : World) (hm : Mx w) :
    Calls Tryz.prog 91 #[.string ⟨l.toArray⟩, .string ⟨#[93]⟩] w fun e w' => e = .returned (.tuple #[.string ⟨(Gl.cA l).toArray⟩, .string ⟨(Gl.cB l).toArray⟩, .bool (Gl.has93 l)]) ∧ Below w.heap.size w w' := by
  obtain ⟨m, hm⟩ := hm
  refine (Tryz.strings_Cut ⟨l.toArray⟩ ⟨#[93]⟩ m w (len_lt hl) hm).mono ?_
  rintro e w' ⟨rfl, n, rfl⟩
  refine ⟨?_, ⟨rfl, rfl, rfl, Nat.le_refl _, fun _ _ => rfl⟩⟩
  show Ending.returned (.tuple #[.string ⟨(Lib.cut l.toArray.toList [93]).1.toArray⟩, .string ⟨(Lib.cut l.toArray.toList [93]).2.1.toArray⟩, .bool (Lib.cut l.toArray.toList [93]).2.2]) = _
  rw [List.toList_toArray, Gl.cut_end]
  unfold Gl.cA Gl.cB
  cases Gl.has93 l <;> rfl

set_option maxHeartbeats 2000000 in
theorem gMayStand_any (s : List UInt8) (hl : s.length ≤ 4294967270) (w : World) (hm : Mx w) :
    Calls Tryz.prog 93 #[.string ⟨s.toArray⟩] w fun e w' => e = .returned (.bool (s.all Nm.okB)) ∧ Below w.heap.size w w' := by
  have hs : (⟨s.toArray⟩ : ByteArray).size = s.length := by show s.toArray.size = _; simp
  have HC := Lib.hid (contains46 s w)
  have HM : Hid (∀ W, Below w.heap.size w W → Mx W) := Lib.hid fun W h => hm.below h
  clear hm
  cases hd : Nm.noDot s
  · have HQ : Hid (false = s.all Nm.okB) := Lib.hid (Gl.dot_not hd).symm
    rw [hd] at HC
    clear hd
    generalize s.all Nm.okB = R at *
    go_enter Tryz.func93, Tryz.ntmps93
    go_wp2_with (go_at_call 123; go_must (refine (HC.out).mono ?_; rintro e w1 ⟨rfl, hw1⟩; rw [hw1]))
    go_ret
    exact ⟨Gl.ret_bool HQ.out, Below.refl _ _⟩
  · have HD := Lib.hid hd
    rw [hd] at HC
    clear hd
    generalize hR : s.all Nm.okB = R
    have HR : Hid (s.all Nm.okB = R) := Lib.hid hR
    clear hR
    go_enter Tryz.func93, Tryz.ntmps93
    go_wp2_with (go_at_call 123; go_must (refine (HC.out).mono ?_; rintro e w1 ⟨rfl, hw1⟩; rw [hw1]))
    go_loopw [0] (fun v wr => ∃ t : List UInt8, v = .string ⟨t.toArray⟩ ∧ Hid (t.length ≤ s.length) ∧ Hid (t.all Nm.okB = R) ∧ Hid (Nm.noDot t = true) ∧ Below w.heap.size w wr) (fun v _ => Gl.strLen v)
    case atStart => exact ⟨s, rfl, Lib.hid (Nat.le_refl _), HR, HD, Below.refl _ _⟩
    case round =>
      obtain ⟨t, rfl, HL, HT, HN, hbel⟩ := hrel
      have hts : (⟨t.toArray⟩ : ByteArray).size = t.length := by show t.toArray.size = _; simp
      have htl : (t.length : Int) ≤ 4294967270 := by have := HL.out; omega
      by_cases h2 : 200 < t.length
      · have h2' : (200 : Int) < (t.length : Int) := by omega
        have h2'' : (200 : Int) ≤ (t.length : Int) := by omega
        have hcut := Gl.takeB t 200
        have hdrop := Gl.dropB t 200
        have HI := Lib.hid fun W (h : Mx W) => is_any (t.take 200) (by rw [List.length_take]; omega) W h
        rw [Gl.is_part (t.take 200) (Gl.noDot_take HN.out 200).1 (by intro e; have := congrArg List.length e; rw [List.length_take] at this; have h0 : ([] : List UInt8).length = 0 := rfl; omega) (by rw [List.length_take]; omega)] at HI
        have HA := Lib.hid (Gl.all_split t 200)
        have HN2 := Lib.hid (Gl.noDot_take HN.out 200).2
        have HLd : Hid ((t.drop 200).length < t.length) := Lib.hid (by rw [List.length_drop]; omega)
        rw [HT.out] at HA
        generalize (t.take 200) = t1 at *
        generalize (t.drop 200) = t2 at *
        cases hok : t1.all Nm.okB
        · rw [hok] at HI HA
          have HQ : Hid (false = R) := Lib.hid (by rw [HA.out]; rfl)
          clear hok
          go_wp2_with (go_at_call 19; go_must (refine (HI.out _ (HM.out _ hbel)).mono ?_; rintro e w1 ⟨rfl, hb1⟩))
          go_ret
          exact ⟨Gl.ret_bool HQ.out, hbel.trans (hb1.mono hbel.size)⟩
        · rw [hok] at HI HA
          have HQ : Hid (t2.all Nm.okB = R) := Lib.hid (by rw [HA.out]; rfl)
          clear hok
          go_wp2_with (go_at_call 19; go_must (refine (HI.out _ (HM.out _ hbel)).mono ?_; rintro e w1 ⟨rfl, hb1⟩))
          go_roundw
          case rel => exact ⟨t2, rfl, Lib.hid (by have := HL.out; have := HLd.out; omega), HQ, HN2, hbel.trans (hb1.mono hbel.size)⟩
          case measure => rw [Gl.strLen_mk, Gl.strLen_mk]; exact HLd.out
      · have h2' : ¬ (200 : Int) < (t.length : Int) := by omega
        by_cases h0 : t = []
        · subst h0
          have HQ : Hid (true = R) := Lib.hid HT.out
          go_wp2
          go_ret
          exact ⟨Gl.ret_bool HQ.out, hbel⟩
        · have htemp : t.isEmpty = false := by simpa using h0
          have HI := Lib.hid fun W (h : Mx W) => is_any t (by omega) W h
          rw [Gl.is_part t HN.out h0 (by omega), HT.out] at HI
          go_wp2_with (go_at_call 19; go_must (refine (HI.out _ (HM.out _ hbel)).mono ?_; rintro e w1 ⟨rfl, hb1⟩))
          go_ret
          exact ⟨rfl, hbel.trans (hb1.mono hbel.size)⟩

set_option maxHeartbeats 4000000 in
theorem isSimple_any (s : List UInt8) (hl : s.length ≤ 4294967270) (w : World) (hm : Mx w) :
    Calls Tryz.prog 67 #[.string ⟨s.toArray⟩] w fun e w' => e = .returned (.bool (Gl.simple s)) ∧ Below w.heap.size w w' := by
  have HM : Hid (∀ W, Below w.heap.size w W → Mx W) := Lib.hid fun W h => hm.below h
  clear hm
  generalize hR : Gl.simple s = R
  have HR : Hid (Gl.simple s = R) := Lib.hid hR
  clear hR
  go_enter Tryz.func67, Tryz.ntmps67
  go_wp2_with fail
  go_loopw [0] (fun v wr => ∃ t : List UInt8, v = .string ⟨t.toArray⟩ ∧ Hid (t.length ≤ s.length) ∧ Hid (Gl.simple t = R) ∧ Below w.heap.size w wr) (fun v _ => Gl.strLen v)
  case atStart => exact ⟨s, rfl, Lib.hid (Nat.le_refl _), HR, Below.refl _ _⟩
  case round =>
    obtain ⟨t, rfl, HL, HD, hbel⟩ := hrel
    have htl : (t.length : Int) ≤ 4294967270 := by have := HL.out; omega
    by_cases ht : t = []
    · subst ht
      have HQ : Hid (true = R) := HD
      go_wp2
      go_ret
      exact ⟨Gl.ret_bool HQ.out, hbel⟩
    have hts : (⟨t.toArray⟩ : ByteArray).size = t.length := by show t.toArray.size = _; simp
    have htemp : t.isEmpty = false := by simpa using ht
    have h0 : 0 < t.length := List.length_pos_iff.2 ht
    have h0' : (0 : Int) < (t.length : Int) := by omega
    have h1' : (1 : Int) ≤ (t.length : Int) := by omega
    have hgz := Lib.hid (Gl.get_zero t h0)
    have e1 : ((((⟨t.toArray⟩ : ByteArray)[0]'(by rw [hts]; exact h0)).toNat : Int) == 42) = decide (t[0] = 42) := Gl.byteEq t[0] 42
    have e2 : ((((⟨t.toArray⟩ : ByteArray)[0]'(by rw [hts]; exact h0)).toNat : Int) == 63) = decide (t[0] = 63) := Gl.byteEq t[0] 63
    have e3 : ((((⟨t.toArray⟩ : ByteArray)[0]'(by rw [hts]; exact h0)).toNat : Int) == 91) = decide (t[0] = 91) := Gl.byteEq t[0] 91
    have hd1 : (⟨t.toArray⟩ : ByteArray).extract 1 t.length = ⟨t.tail.toArray⟩ := by rw [Gl.dropB, List.drop_one]
    have HTl : Hid (t.tail.length < t.length) := Lib.hid (by rw [List.length_tail]; omega)
    by_cases b1 : t[0] = 42
    · rw [hgz.out, Gl.simple_star _ (.inl b1)] at HD
      rw [decide_eq_true b1] at e1
      clear hgz b1 e2 e3
      go_wp2_with fail
      go_roundw
      case rel => exact ⟨t.tail, rfl, Lib.hid (by have := HL.out; have := HTl.out; omega), HD, hbel⟩
      case measure => rw [Gl.strLen_mk, Gl.strLen_mk]; exact HTl.out
    rw [decide_eq_false b1] at e1
    by_cases b2 : t[0] = 63
    · rw [hgz.out, Gl.simple_star _ (.inr b2)] at HD
      rw [decide_eq_true b2] at e2
      clear hgz b1 b2 e3
      go_wp2_with fail
      go_roundw
      case rel => exact ⟨t.tail, rfl, Lib.hid (by have := HL.out; have := HTl.out; omega), HD, hbel⟩
      case measure => rw [Gl.strLen_mk, Gl.strLen_mk]; exact HTl.out
    rw [decide_eq_false b2] at e2
    by_cases b3 : t[0] = 91
    · rw [hgz.out, b3, Gl.simple_cut] at HD
      rw [decide_eq_true b3] at e3
      clear hgz b1 b2 b3
      generalize t.tail = r at *
      have HCu := Lib.hid fun W (h : Mx W) => cut_close r (by have := HL.out; have := HTl.out; omega) W h
      have HCl := Lib.hid fun W => isClass_any (Gl.cA r) (by have := Gl.cA_len r; have := HL.out; have := HTl.out; omega) W
      have HB : Hid ((Gl.cB r).length < t.length) := Lib.hid (by have := Gl.cB_len r; have := HTl.out; omega)
      generalize (!(Gl.cA r).isEmpty && Gl.okR (Gl.cA r)) = okc at *
      generalize Gl.cA r = ca at *
      generalize Gl.cB r = cb at *
      cases hh : Gl.has93 r
      · rw [hh] at HD HCu
        have HQ : Hid (false = R) := HD
        clear hh
        go_wp2_with (go_at_call 91; go_must (refine (HCu.out _ (HM.out _ hbel)).mono ?_; rintro e w1 ⟨rfl, hb1⟩))
        go_ret
        exact ⟨Gl.ret_bool HQ.out, hbel.trans (hb1.mono hbel.size)⟩
      · rw [hh] at HD HCu
        clear hh
        cases okc
        · have HQ : Hid (false = R) := HD
          go_wp2_with first
            | (go_at_call 91; go_must (refine (HCu.out _ (HM.out _ hbel)).mono ?_; rintro e w1 ⟨rfl, hb1⟩))
            | (go_at_call 92; go_must (refine (HCl.out _).mono ?_; rintro e w2 ⟨rfl, hb2⟩; have hB2 := hbel.trans ((hb1.trans (hb2.mono hb1.size)).mono hbel.size)))
          go_ret
          exact ⟨Gl.ret_bool HQ.out, hB2⟩
        · have HQ : Hid (Gl.simple cb = R) := HD
          go_wp2_with first
            | (go_at_call 91; go_must (refine (HCu.out _ (HM.out _ hbel)).mono ?_; rintro e w1 ⟨rfl, hb1⟩))
            | (go_at_call 92; go_must (refine (HCl.out _).mono ?_; rintro e w2 ⟨rfl, hb2⟩; have hB2 := hbel.trans ((hb1.trans (hb2.mono hb1.size)).mono hbel.size)))
          go_roundw
          case rel => exact ⟨cb, rfl, Lib.hid (by have := HL.out; have := HB.out; omega), HQ, hB2⟩
          case measure => rw [Gl.strLen_mk, Gl.strLen_mk]; exact HB.out
    rw [decide_eq_false b3] at e3
    have HX := Lib.hid fun W => index_special t (by have := HL.out; omega) W
    have HFp := Lib.hid (Gl.fst_pos t h0 ⟨b1, b2, b3⟩)
    have HFl := Lib.hid (Gl.fst_le [42, 63, 91] t)
    have HFt := Lib.hid (Gl.fst_take [42, 63, 91] t)
    have HIx : Hid (Gl.ix [42, 63, 91] t = if (Gl.fst [42, 63, 91] t).length < t.length then ((Gl.fst [42, 63, 91] t).length : Int) else -1) := Lib.hid rfl
    rw [Gl.simple_fst t] at HD
    have HSt := Lib.hid fun W (h : Mx W) => gMayStand_any (Gl.fst [42, 63, 91] t) (by have := Gl.fst_le [42, 63, 91] t; have := HL.out; omega) W h
    clear hgz b1 b2 b3
    generalize Gl.ix [42, 63, 91] t = ixv at *
    generalize Gl.fst [42, 63, 91] t = f at *
    generalize hn : f.length = n at *
    have htk : (⟨t.toArray⟩ : ByteArray).extract 0 n = ⟨f.toArray⟩ := by rw [Gl.takeB, HFt.out]
    have hdk := Gl.dropB t n
    have HDl : Hid ((t.drop n).length < t.length) := Lib.hid (by rw [List.length_drop]; have := HFp.out; omega)
    have hn0 : (0 : Int) ≤ (n : Int) := by omega
    have hnl : (n : Int) ≤ (t.length : Int) := by have := HFl.out; omega
    clear hn HFt
    by_cases hlt : n < t.length
    · rw [if_pos hlt] at HIx
      have hx := HIx.out
      have hneg : ¬ (n : Int) < 0 := by omega
      clear HIx
      subst hx
      generalize t.drop n = t2 at *
      cases hok : f.all Nm.okB
      · rw [hok] at HD HSt
        have HQ : Hid (false = R) := HD
        clear hok
        go_wp2_with first
          | (go_at_call 84; go_must (refine (HX.out _).mono ?_; rintro e w1 ⟨rfl, hb1⟩; have hB1 := hbel.trans (hb1.mono hbel.size)))
          | (go_at_call 93; go_must (refine (HSt.out _ (HM.out _ hB1)).mono ?_; rintro e w2 ⟨rfl, hb2⟩; have hB2 := hB1.trans (hb2.mono hB1.size)))
        go_ret
        exact ⟨Gl.ret_bool HQ.out, hB2⟩
      · rw [hok] at HD HSt
        have HQ : Hid (Gl.simple t2 = R) := HD
        clear hok
        go_wp2_with first
          | (go_at_call 84; go_must (refine (HX.out _).mono ?_; rintro e w1 ⟨rfl, hb1⟩; have hB1 := hbel.trans (hb1.mono hbel.size)))
          | (go_at_call 93; go_must (refine (HSt.out _ (HM.out _ hB1)).mono ?_; rintro e w2 ⟨rfl, hb2⟩; have hB2 := hB1.trans (hb2.mono hB1.size)))
        go_roundw
        case rel => exact ⟨t2, rfl, Lib.hid (by have := HL.out; have := HDl.out; omega), HQ, hB2⟩
        case measure => rw [Gl.strLen_mk, Gl.strLen_mk]; exact HDl.out
    · rw [if_neg hlt] at HIx
      have hx := HIx.out
      clear HIx
      subst hx
      have hnt : n = t.length := by have := HFl.out; omega
      subst hnt
      rw [List.drop_length] at HD HDl hdk
      cases hok : f.all Nm.okB
      · rw [hok] at HD HSt
        have HQ : Hid (false = R) := HD
        clear hok
        go_wp2_with first
          | (go_at_call 84; go_must (refine (HX.out _).mono ?_; rintro e w1 ⟨rfl, hb1⟩; have hB1 := hbel.trans (hb1.mono hbel.size)))
          | (go_at_call 93; go_must (refine (HSt.out _ (HM.out _ hB1)).mono ?_; rintro e w2 ⟨rfl, hb2⟩; have hB2 := hB1.trans (hb2.mono hB1.size)))
        go_ret
        exact ⟨Gl.ret_bool HQ.out, hB2⟩
      · rw [hok] at HD HSt
        have HQ : Hid (Gl.simple [] = R) := HD
        clear hok
        go_wp2_with first
          | (go_at_call 84; go_must (refine (HX.out _).mono ?_; rintro e w1 ⟨rfl, hb1⟩; have hB1 := hbel.trans (hb1.mono hbel.size)))
          | (go_at_call 93; go_must (refine (HSt.out _ (HM.out _ hB1)).mono ?_; rintro e w2 ⟨rfl, hb2⟩; have hB2 := hB1.trans (hb2.mono hB1.size)))
        go_roundw
        case rel => exact ⟨[], rfl, Lib.hid (Nat.zero_le _), HQ, hB2⟩
        case measure => show 0 < _; rw [Gl.strLen_mk]; exact h0
end Go.Proofs.YtfmbbhcjnidcbaaGreatDoor
