/-
  CONTRACTS: package name: Join, File, Of, Node, for every text.
-/
import Derived.Test.YtfaekckenlkhnaaDoorNmFn
namespace Go.Proofs.YtfaekckenlkhnaaDoor
open Go.RowKit
open Me

/-- One more text behind what a Builder holds. -/
theorem write_more {base b : Nat} {l : List UInt8} (s : List UInt8) (hl : l.length + s.length ≤ 140737488355328) (r : List UInt8) (hr : r = l ++ s) (W : World) (h : Bld base b l W) (hB : base ≤ W.heap.size) :
    Calls Tryd.prog 25 #[.pointer (some ⟨b, 0, none⟩), .string ⟨s.toArray⟩] W fun e w' => e = .returned (.tuple #[.int .i64 s.length, .nilIface]) ∧ Hid (Bld base b r w') ∧ Below base W w' := by
  subst hr
  refine (write_str h s hl hB).mono ?_
  rintro e w' ⟨rfl, h1, h2⟩
  exact ⟨rfl, Lib.hid h1, h2⟩

set_option maxHeartbeats 1000000 in
theorem join_any (l : List (List UInt8)) (A : Option Addr) (c : Nat) (w : World) (h : Rd w (fun _ => True) A (byS l)) (hj : (Nm.jn l).length ≤ 4294967280) (hn : l.length ≤ 4294967280) :
    Calls Tryd.prog 12 #[.slice A l.length c] w fun e w' => e = .returned (.string ⟨(Nm.jn l).toArray⟩) ∧ Below w.heap.size w w' := by
  have HR := Lib.hid h
  have HJ := Lib.hid (fun k (h : k < l.length) => Nm.jn_take l k h)
  have HJL := Lib.hid (fun k (h : k ≤ l.length) => Nat.le_trans (Nm.jn_take_len l k h) hj)
  have HJ0 := Lib.hid (show Nm.jn (l.take 0) = [] from rfl)
  have HJN : Hid (Nm.jn (l.take l.length) = Nm.jn l) := Lib.hid (by rw [List.take_length])
  clear h hj
  generalize hJf : (fun k => Nm.jn (l.take k)) = J at *
  have hJe : ∀ k, Nm.jn (l.take k) = J k := fun k => by rw [← hJf]
  simp only [hJe] at HJ HJL HJ0 HJN
  clear hJe hJf
  generalize Nm.jn l = R at *
  go_enter Tryd.func12, Tryd.ntmps12
  go_wp2_with fail
  go_loopw [8] (fun i wr => ∃ k : Nat, k ≤ l.length ∧ i = .int .i64 k ∧ Hid (Bld w.heap.size w.heap.size (J k) wr) ∧ Below w.heap.size w wr) (fun i _ => l.length - (intOf i).toNat)
  case atStart => exact ⟨0, Nat.zero_le _, rfl, Lib.hid (by rw [HJ0.out]; exact Bld.new w), (Below.refl _ _).alloc (Nat.le_refl _) _⟩
  case round =>
    obtain ⟨k, hk, rfl, HBl, hbel⟩ := hrel
    have hsz := hbel.size
    by_cases hlt : k < l.length
    · obtain ⟨lb, lo, rfl, hlb, _, hx⟩ := HR.out.lit k (by rw [byS_len]; omega)
      have ec := (hbel.cell (p := ⟨lb, lo + k, none⟩) hlb).trans (hx k _ (byS_get l k hlt))
      clear hx
      have hkl : (k : Int) < (l.length : Int) := by omega
      have hk0 : (0 : Int) ≤ (k : Int) := by omega
      have HJk := Lib.hid (HJ.out k hlt)
      have HL1 := Lib.hid (HJL.out (k + 1) (by omega))
      generalize l[k] = p at *
      by_cases hkp : 0 < k
      · have hkp' : (0 : Int) < (k : Int) := by omega
        have HJk2 : Hid (J (k + 1) = (J k ++ [46]) ++ p) := Lib.hid (by rw [HJk.out, if_pos hkp, List.append_assoc])
        have HLa : Hid ((J k).length + 1 + p.length ≤ 4294967280) := Lib.hid (by have := HL1.out; rw [HJk2.out] at this; simp at this; omega)
        have HWa := Lib.hid (write_more (base := w.heap.size) (b := w.heap.size) (l := J k) [46] (by have := HLa.out; simp; omega) _ rfl)
        have HWb := Lib.hid (write_more (base := w.heap.size) (b := w.heap.size) (l := J k ++ [46]) p (by have := HLa.out; simp; omega) _ HJk2.out)
        clear hkp
        go_wp2_with first
          | (go_at_call 25; ((with_reducible refine (HWa.out wr HBl.out hsz).mono ?_); rintro e w1 ⟨rfl, HB1, hb1⟩))
          | (go_at_call 25; ((with_reducible refine (HWb.out w1 HB1.out (Nat.le_trans hsz hb1.size)).mono ?_); rintro e w2 ⟨rfl, HB2, hb2⟩))
        go_roundw
        case rel => exact ⟨k + 1, by omega, by go_num, HB2, (hbel.trans hb1).trans hb2⟩
        case measure => simp [intOf]; omega
      · obtain rfl : k = 0 := by omega
        rw [Nat.add_zero] at ec
        have HJk2 : Hid (J (0 + 1) = J 0 ++ p) := Lib.hid (by rw [HJk.out]; rfl)
        have HWb := Lib.hid (write_more (base := w.heap.size) (b := w.heap.size) (l := J 0) p (by have := HL1.out; rw [HJk2.out] at this; simp at this; omega) _ HJk2.out)
        go_wp2_with (go_at_call 25; go_must (refine (HWb.out wr HBl.out hsz).mono ?_; rintro e w2 ⟨rfl, HB2, hb2⟩))
        go_roundw
        case rel => exact ⟨0 + 1, by omega, by go_num, HB2, hbel.trans hb2⟩
        case measure => simp [intOf]; omega
    · obtain rfl : k = l.length := by omega
      have HS := Lib.hid (string_str HBl.out hsz)
      rw [HJN.out] at HS
      go_wp2_with (go_at_call 26; go_must (refine (HS.out).mono ?_; rintro e w2 ⟨rfl, hb2⟩))
      go_ret
      exact ⟨rfl, hbel.trans hb2⟩

set_option maxHeartbeats 1000000 in
theorem file_any (s : List UInt8) (hl : s.length ≤ 4294967270) (w : World) (hm : Mx w) :
    Calls Tryd.prog 19 #[.string ⟨s.toArray⟩] w fun e w' => e = .returned (.string ⟨(Nm.fl s).toArray⟩) ∧ Below w.heap.size w w' := by
  have HR := Lib.hid (fun W (h : Mx W) => replace_any 46 47 (by decide) s (by omega) W h)
  have hmlt := hm.lt
  have HM := Lib.hid hm
  have HBn := Lib.hid (Bld.new w)
  have HBel : Hid (∀ o, Below w.heap.size w (w.alloc o)) := Lib.hid fun o => (Below.refl _ _).alloc (Nat.le_refl _) _
  have HW1 := Lib.hid (write_more (base := w.heap.size) (b := w.heap.size) (l := []) (Nm.turn 46 47 s) (by rw [Nm.turn_len]; simp; omega) _ rfl)
  have HW2 := Lib.hid (write_more (base := w.heap.size) (b := w.heap.size) (l := [] ++ Nm.turn 46 47 s) [46, 119, 115, 112] (by rw [List.nil_append, Nm.turn_len]; simp; omega) (Nm.fl s) rfl)
  have HMx : Hid (∀ W, Below w.heap.size w W → Mx W) := Lib.hid fun W h => HM.out.below h
  clear hm
  generalize Nm.fl s = R at *
  generalize Nm.turn 46 47 s = x at *
  go_enter Tryd.func19, Tryd.ntmps19
  go_wp2_with fail
  have HB0 := Lib.hid (HBel.out (.cells #[.pointer none, .slice none 0 0] 40))
  have hs0 : w.heap.size < (w.alloc (.cells #[.pointer none, .slice none 0 0] 40)).heap.size := by simp
  generalize hw0 : w.alloc (.cells #[.pointer none, .slice none 0 0] 40) = w0 at *
  go_wp2_with first
    | (go_at_call 30; go_must (refine (HR.out w0 (HMx.out _ HB0.out)).mono ?_; rintro e w1 ⟨rfl, hb1⟩))
    | (go_at_call 25; ((with_reducible refine (HW1.out w1 (HBn.out.below hb1) (by have := hb1.size; omega)).mono ?_); rintro e w2 ⟨rfl, HB2, hb2⟩))
    | (go_at_call 25; ((with_reducible refine (HW2.out w2 HB2.out (by have := hb1.size; have := hb2.size; omega)).mono ?_); rintro e w3 ⟨rfl, HB3, hb3⟩))
    | (go_at_call 26; go_must (refine (string_str HB3.out (by have := hb1.size; have := hb2.size; have := hb3.size; omega)).mono ?_; rintro e w4 ⟨rfl, hb4⟩))
  go_ret
  exact ⟨rfl, HB0.out.trans ((hb1.mono (Nat.le_of_lt hs0)).trans (hb2.trans (hb3.trans hb4)))⟩

/-- A tuple of a text and a bool. -/
def strBool (s : List UInt8) (b : Bool) : Ending := .returned (.tuple #[.string ⟨s.toArray⟩, .bool b])
theorem strBool_eq {s s' : List UInt8} {b b' : Bool} (h1 : s = s') (h2 : b = b') : Ending.returned (.tuple #[.string ⟨s.toArray⟩, .bool b]) = strBool s' b' := by rw [h1, h2]; rfl

set_option maxHeartbeats 1000000 in
theorem of_any (f : List UInt8) (hl : f.length ≤ 4294967270) (w : World) (hm : Mx w) :
    Calls Tryd.prog 17 #[.string ⟨f.toArray⟩] w fun e w' => e = strBool (Nm.fOf f) (Nm.fOk f) ∧ Below w.heap.size w w' := by
  have HC := Lib.hid (cutSuffix_wsp f (by omega) w)
  have HM := Lib.hid hm
  clear hm
  cases he : Nm.ends f
  · rw [he, if_neg (by simp)] at HC
    have HR := Lib.hid (replace_any 47 46 (by decide) f (by omega) w HM.out)
    have H1 : Hid (Nm.fOk f = false) := Lib.hid (by unfold Nm.fOk; rw [he]; rfl)
    have H2 : Hid (Nm.fOf f = []) := Lib.hid (by unfold Nm.fOf; rw [H1.out]; rfl)
    clear he
    go_enter Tryd.func17, Tryd.ntmps17
    go_wp2_with first
      | (go_at_call 29; go_must (refine (HC.out).mono ?_; rintro e w' ⟨rfl, rfl⟩))
      | (go_at_call 30; go_must (refine (HR.out).mono ?_; rintro e w1 ⟨rfl, hb1⟩))
    ((try simp only [Exit.inBlock, Exit.then]); refine bodyPost_ret (results_tmp2 rfl _ _ _) rfl ?_)
    exact ⟨strBool_eq H2.out.symm H1.out.symm, hb1⟩
  · rw [he, if_pos rfl] at HC
    have hsl : (Nm.stem f).length ≤ f.length := by unfold Nm.stem; rw [List.length_take]; omega
    have HR := Lib.hid (replace_any 47 46 (by decide) (Nm.stem f) (by omega) w HM.out)
    have HN := Lib.hid (fun W => contains46 (Nm.stem f) W)
    cases hn : Nm.noDot (Nm.stem f)
    · rw [hn] at HN
      have H1 : Hid (Nm.fOk f = false) := Lib.hid (by unfold Nm.fOk; rw [he, hn]; rfl)
      have H2 : Hid (Nm.fOf f = []) := Lib.hid (by unfold Nm.fOf; rw [H1.out]; rfl)
      clear he hn hsl
      generalize Nm.stem f = st at *
      generalize Nm.turn 47 46 st = x at *
      go_enter Tryd.func17, Tryd.ntmps17
      go_wp2_with first
        | (go_at_call 29; go_must (refine (HC.out).mono ?_; rintro e w' ⟨rfl, rfl⟩))
        | (go_at_call 30; go_must (refine (HR.out).mono ?_; rintro e w1 ⟨rfl, hb1⟩))
        | (go_at_call 31; go_must (refine (HN.out _).mono ?_; rintro e w' ⟨rfl, rfl⟩))
      ((try simp only [Exit.inBlock, Exit.then]); refine bodyPost_ret (results_tmp2 rfl _ _ _) rfl ?_)
      exact ⟨strBool_eq H2.out.symm H1.out.symm, hb1⟩
    · rw [hn] at HN
      have hxl : (Nm.turn 47 46 (Nm.stem f)).length ≤ 4294967280 := by rw [Nm.turn_len]; omega
      have HI := Lib.hid (fun W (h : Mx W) => is_any (Nm.turn 47 46 (Nm.stem f)) hxl W h)
      cases hi : Nm.is (Nm.turn 47 46 (Nm.stem f))
      · rw [hi] at HI
        have H1 : Hid (Nm.fOk f = false) := Lib.hid (by unfold Nm.fOk; rw [he, hn, hi]; rfl)
        have H2 : Hid (Nm.fOf f = []) := Lib.hid (by unfold Nm.fOf; rw [H1.out]; rfl)
        clear he hn hsl hi hxl
        generalize Nm.stem f = st at *
        generalize Nm.turn 47 46 st = x at *
        go_enter Tryd.func17, Tryd.ntmps17
        go_wp2_with first
          | (go_at_call 29; go_must (refine (HC.out).mono ?_; rintro e w' ⟨rfl, rfl⟩))
          | (go_at_call 30; go_must (refine (HR.out).mono ?_; rintro e w1 ⟨rfl, hb1⟩))
          | (go_at_call 31; go_must (refine (HN.out _).mono ?_; rintro e w' ⟨rfl, rfl⟩))
          | (go_at_call 8; go_must (refine (HI.out _ (HM.out.below hb1)).mono ?_; rintro e w2 ⟨rfl, hb2⟩))
        ((try simp only [Exit.inBlock, Exit.then]); refine bodyPost_ret (results_tmp2 rfl _ _ _) rfl ?_)
        exact ⟨strBool_eq H2.out.symm H1.out.symm, hb1.trans (hb2.mono hb1.size)⟩
      · rw [hi] at HI
        have H1 : Hid (Nm.fOk f = true) := Lib.hid (by unfold Nm.fOk; rw [he, hn, hi]; rfl)
        have H2 : Hid (Nm.fOf f = Nm.turn 47 46 (Nm.stem f)) := Lib.hid (by unfold Nm.fOf; rw [H1.out]; rfl)
        have HCl := Lib.hid (clone_str (Nm.turn 47 46 (Nm.stem f)) hxl)
        clear he hn hsl hi hxl
        generalize Nm.stem f = st at *
        generalize Nm.turn 47 46 st = x at *
        go_enter Tryd.func17, Tryd.ntmps17
        go_wp2_with first
          | (go_at_call 29; go_must (refine (HC.out).mono ?_; rintro e w' ⟨rfl, rfl⟩))
          | (go_at_call 30; go_must (refine (HR.out).mono ?_; rintro e w1 ⟨rfl, hb1⟩))
          | (go_at_call 31; go_must (refine (HN.out _).mono ?_; rintro e w' ⟨rfl, rfl⟩))
          | (go_at_call 8; go_must (refine (HI.out _ (HM.out.below hb1)).mono ?_; rintro e w2 ⟨rfl, hb2⟩))
          | (go_at_call 22; go_must (refine (HCl.out _).mono ?_; rintro e w3 ⟨rfl, hb3⟩))
        ((try simp only [Exit.inBlock, Exit.then]); refine bodyPost_ret (results_tmp2 rfl _ _ _) rfl ?_)
        exact ⟨strBool_eq H2.out.symm H1.out.symm, hb1.trans ((hb2.mono hb1.size).trans (hb3.mono (Nat.le_trans hb1.size hb2.size)))⟩

set_option maxHeartbeats 1000000 in
theorem node_front (s : List UInt8) (hl : s.length ≤ 4294967270) (i : Int) (h0 : 0 ≤ i) (h1 : i ≤ 9223372036854775807) (w : World) (hm : Mx w) :
    Calls Tryd.prog 13 #[.string ⟨s.toArray⟩, .int .i64 i] w fun e w' => e = .returned (.string ⟨(Nm.nd s i).toArray⟩) ∧ Below w.heap.size w w' := by
  have h0' : ¬ i < 0 := by omega
  have HM := Lib.hid hm
  have HC := Lib.hid (fun k W (h : Mx W) => cutDot (Nm.rest k s) (by have := Nm.rest_len s k; omega) W h)
  have HD := Lib.hid (fun k (h : k < (Nm.pt s).length) => Nm.rest_dotted s k h)
  have HFar := Lib.hid (Nm.nd_far s i)
  have HAt := Lib.hid (fun k (h : k < (Nm.pt s).length) (e : i = (k : Int)) => e ▸ Nm.nd_at s k h)
  have HCl := Lib.hid (fun k => clone_str (Nm.ahead (Nm.rest k s)) (by have := Nm.rest_len s k; have : (Nm.ahead (Nm.rest k s)).length ≤ (Nm.rest k s).length := (List.takeWhile_prefix _).length_le; omega))
  have hpos : 0 < (Nm.pt s).length := List.length_pos_iff.2 (Nm.pt_ne s)
  have HS0 := Lib.hid (show Nm.rest 0 s = s from rfl)
  have HBh := Lib.hid (fun k => show Nm.behind (Nm.rest k s) = Nm.rest (k + 1) s from rfl)
  clear hm
  generalize hr : (fun k => Nm.rest k s) = r at *
  have hre : ∀ k, Nm.rest k s = r k := fun k => by rw [← hr]
  simp only [hre] at HC HD HCl HS0 HAt HBh
  clear hre hr
  generalize hN : (Nm.pt s).length = N at *
  generalize Nm.nd s i = R at *
  go_enter Tryd.func13, Tryd.ntmps13
  go_wp2_with fail
  go_loopw [0, 21] (fun x y wr => ∃ k : Nat, k < N ∧ (k : Int) ≤ i ∧ x = .string ⟨(r k).toArray⟩ ∧ y = .int .i64 k ∧ Below w.heap.size w wr) (fun _ y _ => (i - intOf y).toNat)
  case atStart => exact ⟨0, hpos, by omega, by rw [HS0.out], rfl, Below.refl _ _⟩
  case round =>
    obtain ⟨k, hk, hki, rfl, rfl, hbel⟩ := hrel
    have hHC := Lib.hid (HC.out k wr (HM.out.below hbel))
    have hHD := Lib.hid (HD.out k hk)
    by_cases hlt : (k : Int) < i
    · by_cases hd : k + 1 < N
      · rw [hHD.out, decide_eq_true hd, HBh.out] at hHC
        simp only [if_true] at hHC
        generalize Nm.ahead (r k) = ah at *
        go_wp2_with (go_at_call 28; go_must (refine (hHC.out).mono ?_; rintro e w1 ⟨rfl, hb1⟩))
        go_roundw
        case rel => exact ⟨k + 1, hd, by omega, rfl, by go_num, hbel.trans (hb1.mono hbel.size)⟩
        case measure => simp [intOf]; omega
      · rw [hHD.out, decide_eq_false hd] at hHC
        simp only [Bool.false_eq_true, if_false] at hHC
        have HR := Lib.hid (HFar.out (by omega))
        clear hd
        go_wp2_with (go_at_call 28; go_must (refine (hHC.out).mono ?_; rintro e w1 ⟨rfl, hb1⟩))
        go_ret
        exact ⟨Nm.ret_str HR.out.symm, hbel.trans (hb1.mono hbel.size)⟩
    · have hke : i = (k : Int) := by omega
      have HR := Lib.hid (HAt.out k hk hke)
      have HP : Hid ((if Nm.dotted (r k) = true then Nm.ahead (r k) else r k) = Nm.ahead (r k)) := Lib.hid (by
        by_cases h : Nm.dotted (r k) = true
        · rw [if_pos h]
        · rw [if_neg h]; exact (Nm.whole_not _ (by simpa using h)).1.symm)
      rw [HP.out] at hHC
      have hHCl := Lib.hid (HCl.out k)
      generalize (if Nm.dotted (r k) = true then Nm.behind (r k) else []) = bh at *
      generalize Nm.ahead (r k) = ah at *
      generalize Nm.dotted (r k) = db at *
      clear hke HAt hHD
      go_wp2_with first
        | (go_at_call 28; go_must (refine (hHC.out).mono ?_; rintro e w1 ⟨rfl, hb1⟩))
        | (go_at_call 22; go_must (refine (hHCl.out _).mono ?_; rintro e w2 ⟨rfl, hb2⟩))
      go_ret
      exact ⟨Nm.ret_str HR.out.symm, hbel.trans ((hb1.mono hbel.size).trans (hb2.mono (Nat.le_trans hbel.size hb1.size)))⟩

set_option maxHeartbeats 1000000 in
theorem node_back (s : List UInt8) (hl : s.length ≤ 4294967270) (i : Int) (h0 : i < 0) (h1 : -9223372036854775808 ≤ i) (w : World) (hm : Mx w) :
    Calls Tryd.prog 13 #[.string ⟨s.toArray⟩, .int .i64 i] w fun e w' => e = .returned (.string ⟨(Nm.nd s i).toArray⟩) ∧ Below w.heap.size w w' := by
  have HM := Lib.hid hm
  have HC := Lib.hid (fun k W (h : Mx W) => cutDot (Nm.rest k s) (by have := Nm.rest_len s k; omega) W h)
  have HD := Lib.hid (fun k (h : k < (Nm.pt s).length) => Nm.rest_dotted s k h)
  have HFar : Hid (((Nm.pt s).length : Int) ≤ i + (Nm.pt s).length → Nm.nd s i = []) := Lib.hid (fun h => by omega)
  have HAt := Lib.hid (fun k (h : k < (Nm.pt s).length) (e : i + (Nm.pt s).length = (k : Int)) => (Nm.nd_neg s i h0 (by omega)).trans (e ▸ Nm.nd_at s k h))
  have HCl := Lib.hid (fun k => clone_str (Nm.ahead (Nm.rest k s)) (by have := Nm.rest_len s k; have : (Nm.ahead (Nm.rest k s)).length ≤ (Nm.rest k s).length := (List.takeWhile_prefix _).length_le; omega))
  have hpos : 0 < (Nm.pt s).length := List.length_pos_iff.2 (Nm.pt_ne s)
  have HS0 := Lib.hid (show Nm.rest 0 s = s from rfl)
  have HBh := Lib.hid (fun k => show Nm.behind (Nm.rest k s) = Nm.rest (k + 1) s from rfl)
  have hNb : ((Nm.pt s).length : Int) ≤ 4294967281 := by have := Nm.pt_len s; omega
  have HCt := Lib.hid (count46 s)
  have HAh := Lib.hid (Nm.nd_ahead s i)
  clear hm
  generalize hr : (fun k => Nm.rest k s) = r at *
  have hre : ∀ k, Nm.rest k s = r k := fun k => by rw [← hr]
  simp only [hre] at HC HD HCl HS0 HAt HBh
  clear hre hr
  generalize hN : (Nm.pt s).length = N at *
  generalize Nm.nd s i = R at *
  by_cases hq : i + (N : Int) < 0
  · have HR := Lib.hid (HAh.out hq)
    go_enter Tryd.func13, Tryd.ntmps13
    go_wp2_with (go_at_call 27; go_must (refine (HCt.out _).mono ?_; rintro e w' ⟨rfl, rfl⟩))
    go_ret
    exact ⟨Nm.ret_str HR.out.symm, Below.refl _ _⟩
  · obtain ⟨q, hqe⟩ : ∃ q, q = i + (N : Int) := ⟨_, rfl⟩
    rw [← hqe] at hq HFar HAt
    have hq0 : ¬ q < 0 := hq
    go_enter Tryd.func13, Tryd.ntmps13
    have hqe' := hqe.symm
    clear hqe
    go_wp2_with (go_at_call 27; go_must (refine (HCt.out _).mono ?_; rintro e w1 ⟨rfl, hww⟩; obtain rfl : w = w1 := hww.symm))
    go_loopw [0, 21] (fun x y wr => ∃ k : Nat, k < N ∧ (k : Int) ≤ q ∧ x = .string ⟨(r k).toArray⟩ ∧ y = .int .i64 k ∧ Below w.heap.size w wr) (fun _ y _ => (q - intOf y).toNat)
    case atStart => exact ⟨0, hpos, by omega, by rw [HS0.out], rfl, Below.refl _ _⟩
    case round =>
      obtain ⟨k, hk, hki, rfl, rfl, hbel⟩ := hrel
      have hHC := Lib.hid (HC.out k wr (HM.out.below hbel))
      have hHD := Lib.hid (HD.out k hk)
      by_cases hlt : (k : Int) < q
      · by_cases hd : k + 1 < N
        · rw [hHD.out, decide_eq_true hd, HBh.out] at hHC
          simp only [if_true] at hHC
          generalize Nm.ahead (r k) = ah at *
          go_wp2_with (go_at_call 28; go_must (refine (hHC.out).mono ?_; rintro e w1 ⟨rfl, hb1⟩))
          go_roundw
          case rel => exact ⟨k + 1, hd, by omega, rfl, by go_num, hbel.trans (hb1.mono hbel.size)⟩
          case measure => simp [intOf]; omega
        · rw [hHD.out, decide_eq_false hd] at hHC
          simp only [Bool.false_eq_true, if_false] at hHC
          have HR := Lib.hid (HFar.out (by omega))
          clear hd
          go_wp2_with (go_at_call 28; go_must (refine (hHC.out).mono ?_; rintro e w1 ⟨rfl, hb1⟩))
          go_ret
          exact ⟨Nm.ret_str HR.out.symm, hbel.trans (hb1.mono hbel.size)⟩
      · have hke : q = (k : Int) := by omega
        have HR := Lib.hid (HAt.out k hk hke)
        have HP : Hid ((if Nm.dotted (r k) = true then Nm.ahead (r k) else r k) = Nm.ahead (r k)) := Lib.hid (by
          by_cases h : Nm.dotted (r k) = true
          · rw [if_pos h]
          · rw [if_neg h]; exact (Nm.whole_not _ (by simpa using h)).1.symm)
        rw [HP.out] at hHC
        have hHCl := Lib.hid (HCl.out k)
        generalize (if Nm.dotted (r k) = true then Nm.behind (r k) else []) = bh at *
        generalize Nm.ahead (r k) = ah at *
        generalize Nm.dotted (r k) = db at *
        clear hke HAt hHD
        go_wp2_with first
          | (go_at_call 28; go_must (refine (hHC.out).mono ?_; rintro e w1 ⟨rfl, hb1⟩))
          | (go_at_call 22; go_must (refine (hHCl.out _).mono ?_; rintro e w2 ⟨rfl, hb2⟩))
        go_ret
        exact ⟨Nm.ret_str HR.out.symm, hbel.trans ((hb1.mono hbel.size).trans (hb2.mono (Nat.le_trans hbel.size hb1.size)))⟩

theorem node_any (s : List UInt8) (hl : s.length ≤ 4294967270) (i : Int) (h0 : -9223372036854775808 ≤ i) (h1 : i ≤ 9223372036854775807) (w : World) (hm : Mx w) :
    Calls Tryd.prog 13 #[.string ⟨s.toArray⟩, .int .i64 i] w fun e w' => e = .returned (.string ⟨(Nm.nd s i).toArray⟩) ∧ Below w.heap.size w w' := by
  by_cases h : i < 0
  · exact node_back s hl i h h0 w hm
  · exact node_front s hl i (by omega) h1 w hm
end Go.Proofs.YtfaekckenlkhnaaDoor
