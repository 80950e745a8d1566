/-
  CONTRACTS: the walk of DecNoughts.
-/
import Derived.Test.YtiihaiidijmgmaaDoorDcLaws
namespace Go.Proofs.YtiihaiidijmgmaaDoor
open Go.RowKit

namespace Dc
def hasDot (l : List UInt8) : Bool := l.any (· == 46)
theorem hasDot_take (l : List UInt8) (k : Nat) (h : k < l.length) : hasDot (l.take (k + 1)) = (hasDot (l.take k) || (l[k] == 46)) := by
  unfold hasDot
  rw [List.take_succ_eq_append_getElem h, List.any_append]
  simp
theorem hasDot_digits {l : List UInt8} (h : allD l = true) : hasDot l = false := by
  unfold hasDot
  rw [List.any_eq_false]
  intro x hx
  have := List.all_eq_true.1 h x hx
  have h2 := digit_ne46 this
  simpa using h2
theorem hasDot_pbod {u : Nat} (h : u ≤ 4611686018427387904) : hasDot (pbod u) = decide (u % 1000000 ≠ 0) := by
  have hp := hasDot_digits (plain_all (lt20 (by omega : u / 1000000 ≤ 18446744073709551615)))
  unfold pbod fracText
  unfold hasDot at *
  rw [List.any_append, hp]
  split
  · rename_i h0; rw [h0]; rfl
  · rename_i h0; rw [decide_eq_true h0]; rfl
/-- The digits, the dot, and the digits behind it, if any. -/
def dotb (u : Nat) : List UInt8 := plain (u / 1000000) ++ 46 :: trimZ (six (u % 1000000))
theorem dotb_yes {u : Nat} (h : decide (u % 1000000 ≠ 0) = true) : dotb u = pbod u := by
  unfold dotb pbod fracText
  rw [if_neg (of_decide_eq_true h)]
theorem dotb_no {u : Nat} (h : decide (u % 1000000 ≠ 0) = false) : dotb u = pbod u ++ [46] := by
  have h0 : u % 1000000 = 0 := by simpa using h
  unfold dotb pbod fracText
  rw [h0, if_pos rfl, List.append_nil]
  have : trimZ (six 0) = [] := by decide
  rw [this]
def zA (j : Nat) (t : List UInt8) : List UInt8 := List.replicate j 48 ++ t
def zB (t : List UInt8) (j : Nat) : List UInt8 := t ++ List.replicate j 48
theorem zA_len (j : Nat) (t : List UInt8) : (zA j t).length = j + t.length := by unfold zA; rw [List.length_append, List.length_replicate]
theorem zB_len (j : Nat) (t : List UInt8) : (zB t j).length = t.length + j := by unfold zB; rw [List.length_append, List.length_replicate]
theorem zA_succ (j : Nat) (t : List UInt8) : 48 :: zA j t = zA (j + 1) t := by unfold zA; rw [List.replicate_succ]; rfl
theorem zB_succ (j : Nat) (t : List UInt8) : zB t j ++ [48] = zB t (j + 1) := by unfold zB; rw [List.replicate_succ', List.append_assoc]
theorem pbod_head (u : Nat) (h : 0 < (pbod u).length) (hu : u ≤ 4611686018427387904) : isD (pbod u)[0] = true := by
  have hp := plain_all (lt20 (by omega : u / 1000000 ≤ 18446744073709551615))
  have hn := plain_ne (u / 1000000)
  cases hq : plain (u / 1000000) with
  | nil => exact absurd hq hn
  | cons c r =>
    have e : pbod u = c :: (r ++ fracText (u % 1000000)) := by unfold pbod; rw [hq]; rfl
    have e2 : (pbod u)[0]? = some c := by rw [e]; rfl
    rw [List.getElem?_eq_getElem h] at e2
    rw [hq, allD_cons, Bool.and_eq_true] at hp
    rw [Option.some.inj e2]
    exact hp.1
theorem pbod_pos (u : Nat) : 0 < (pbod u).length := by
  have hn := plain_ne (u / 1000000)
  unfold pbod
  rw [List.length_append]
  cases hq : plain (u / 1000000) with
  | nil => exact absurd hq hn
  | cons c r => simp; omega
theorem noughts_ok {u : Nat} (hu : u ≤ 4611686018427387904) (neg : Bool) (a k : Nat) (hk : 1 ≤ k) :
    prOk ((if neg then [45] else []) ++ zB (zA a (dotb u)) k) = true ∧ prV ((if neg then [45] else []) ++ zB (zA a (dotb u)) k) = if neg then -(u : Int) else (u : Int) := by
  have e : zB (zA a (dotb u)) k = List.replicate a 48 ++ (plain (u / 1000000) ++ 46 :: (trimZ (six (u % 1000000)) ++ List.replicate k 48)) := by
    unfold zB zA dotb
    simp
  rw [e]
  exact noughts_parse hu neg a k hk
end Dc

set_option maxHeartbeats 4000000 in
theorem lawNoughts_neg (n : Int) (h0 : 0 < n) (h1 : n ≤ 4611686018427387904) (A B : Nat) (hA : A ≤ 50) (hB0 : 1 ≤ B) (hB : B ≤ 50) (w : World) :
    Calls Tryd.prog 6 #[.agg #[.bool true, .int .i64 (-n)], .int .i64 A, .int .i64 B] w fun e w' => e = .returned (.bool true) ∧ Below w.heap.size w w' := by
  have hk : Fx.inR (-n) = true := Fx.inR_yes (by omega) (by omega)
  have H4 := Lib.hid (fun W => known1_any true (-n) W)
  rw [Fx.num_yes hk] at H4
  have hu : n.toNat ≤ 4611686018427387904 := by omega
  have hpr : Dc.pr true (-n) = 45 :: Dc.pbod n.toNat := by
    unfold Dc.pr Dc.sgn
    rw [if_pos (by rw [Dc.knownB_num]; exact Fx.num_yes hk), if_pos (by omega), show (-n).natAbs = n.toNat by omega]
    rfl
  have P1 := fun W => refPrint_any true (-n) W
  rw [hpr] at P1
  have H1 := Lib.hid P1
  have hlen := Dc.pbod_len n.toNat
  have hpos := Dc.pbod_pos n.toNat
  have hhd := Dc.pbod_head n.toNat hpos hu
  have hdot := Lib.hid (Dc.hasDot_pbod hu)
  have hdy : Hid (decide (n.toNat % 1000000 ≠ 0) = true → Dc.dotb n.toNat = Dc.pbod n.toNat) := Lib.hid Dc.dotb_yes
  have hdn : Hid (decide (n.toNat % 1000000 ≠ 0) = false → Dc.dotb n.toNat = Dc.pbod n.toNat ++ [46]) := Lib.hid Dc.dotb_no
  have hno := Dc.noughts_ok hu true A B hB0
  have hn' : (if true = true then -((n.toNat : Nat) : Int) else ((n.toNat : Nat) : Int)) = -n := by simp; omega
  rw [hn'] at hno
  have hlt : (Dc.zB (Dc.zA A (Dc.dotb n.toNat)) B).length ≤ 200 := by
    rw [Dc.zB_len, Dc.zA_len]
    have : (Dc.dotb n.toNat).length ≤ 42 := by
      unfold Dc.dotb
      rw [List.length_append, List.length_cons]
      have := Dc.plain_length (n.toNat / 1000000)
      have := Dc.six_trim_len (n.toNat % 1000000)
      omega
    omega
  have P3 := fun W => parse_prog ((if true = true then [45] else []) ++ Dc.zB (Dc.zA A (Dc.dotb n.toNat)) B) (by rw [List.length_append]; simp; omega) W
  rw [hno.1, hno.2] at P3
  have H3 : Hid (∀ W, Calls Tryd.prog 8 #[.string ⟨(45 :: Dc.zB (Dc.zA A (Dc.dotb n.toNat)) B).toArray⟩] W fun e w' => e = .returned (.tuple #[.agg #[.bool true, .int .i64 (-n)], .bool true]) ∧ Below W.heap.size W w') := Lib.hid P3
  have HB1 := Lib.hid hB0
  clear hk hno hn' P1 P3 hpr hu
  generalize decide (n.toNat % 1000000 ≠ 0) = dt at *
  generalize Dc.pbod n.toNat = t at *
  generalize Dc.dotb n.toNat = t2 at *
  have hp0 : (1 : Int) ≤ (t.length : Int) := by omega
  have hsg : (((⟨(45 :: t).toArray⟩ : ByteArray)[0]'(by simp [ByteArray.size])).toNat == 45) = true := rfl
  have htl : (⟨(45 :: t).toArray⟩ : ByteArray).extract 1 (t.length + 1) = ⟨t.toArray⟩ := tail_mk 45 t
  clear hhd hpos
  go_enter Tryd.func6, Tryd.ntmps6
  go_wp2_with (first | (go_at_call 13; (((with_reducible refine (H4.out _).mono ?_)); rintro e w1 ⟨rfl, hb1⟩; obtain ⟨hc1, hf1⟩ := bcell hb1; (try have hq1w : w.heap.size < w1.heap.size := Nat.lt_of_lt_of_le (by first | assumption | (simp; done) | (simp; omega)) hb1.size); have hs1 := hb1.size; (try simp at hs1))) | (go_at_call 12; (((with_reducible refine (H1.out _).mono ?_)); rintro e w2 ⟨rfl, hb2⟩; obtain ⟨hc2, hf2⟩ := bcell hb2; (try have hq2w : w.heap.size < w2.heap.size := Nat.lt_of_lt_of_le (by first | assumption | (simp; done) | (simp; omega)) hb2.size); (try have hq2w1 : w1.heap.size < w2.heap.size := Nat.lt_of_lt_of_le (by first | assumption | (simp; done) | (simp; omega)) hb2.size); have hs2 := hb2.size; (try simp at hs2))))
  go_quiet (fail)
  have hb2d := below_drewN hb2 nq
  have hs2d : w.heap.size < (w2.drewN nq).heap.size := hq2w
  obtain ⟨hc2d, hf2d⟩ := bcell hb2d
  clear hb2 hc2 hf2 hs2 hq2w
  generalize w2.drewN nq = w2 at *
  have hs2 := hb2d.size
  go_wp2
  go_loop [9, 10] (fun d i => ∃ k : Nat, k ≤ t.length ∧ i = .int .i64 k ∧ ∃ d0 : Bool, d = .bool d0 ∧ Hid (d0 = Dc.hasDot (t.take k))) (fun _ i => t.length - (intOf i).toNat)
  case atStart => exact ⟨0, Nat.zero_le _, rfl, false, rfl, Lib.hid rfl⟩
  case round =>
    obtain ⟨k, hk, rfl, d0, rfl, hd⟩ := hrel
    by_cases hlt : k < t.length
    · have hs := Lib.hid (Dc.hasDot_take t k hlt)
      cases d0
      · by_cases hb : t[k] = 46
        · have hb2 : ((((⟨t.toArray⟩ : ByteArray)[k]'hlt).toNat : Int) == 46) = true := by show ((t[k].toNat : Int) == 46) = true; rw [hb]; rfl
          have HB := Lib.hid hb
          clear hb
          go_wp2
          go_round
          case rel => exact ⟨k + 1, by omega, by go_num, true, rfl, Lib.hid (by rw [hs.out, HB.out]; simp)⟩
          case measure => simp [intOf]; omega
        · have hb2 : ((((⟨t.toArray⟩ : ByteArray)[k]'hlt).toNat : Int) == 46) = false := by
            show ((t[k].toNat : Int) == 46) = false
            rw [beq_eq_false_iff_ne]
            intro e
            exact hb (UInt8.toNat_inj.1 (by exact_mod_cast e))
          have HB : Hid ((t[k] == 46) = false) := Lib.hid (by simpa using hb)
          clear hb
          go_wp2
          go_round
          case rel => exact ⟨k + 1, by omega, by go_num, false, rfl, Lib.hid (by rw [hs.out, HB.out, ← hd.out]; rfl)⟩
          case measure => simp [intOf]; omega
      · go_wp2
        go_round
        case rel => exact ⟨k + 1, by omega, by go_num, true, rfl, Lib.hid (by rw [hs.out, ← hd.out]; rfl)⟩
        case measure => simp [intOf]; omega
    · obtain rfl : k = t.length := by omega
      rw [List.take_length] at hd
      have hd2 := hd.out.trans hdot.out
      subst hd2
      clear hdot hd
      cases d0
      · have h2 := Lib.hid (hdn.out rfl)
        have hc46 : (⟨t.toArray⟩ : ByteArray) ++ ⟨[46].toArray⟩ = ⟨t2.toArray⟩ := by rw [cat_mk, h2.out]
        clear hdn hdy
        have hlA : ∀ j : Nat, (Dc.zA j t2).length = j + t2.length := fun j => Dc.zA_len j t2
        have HLA := Lib.hid hlA
        have hl2 : t2.length ≤ 42 := by rw [h2.out, List.length_append]; simp; omega
        have HL2 := Lib.hid hl2
        clear hlA
        go_wp2
        go_loop [7, 11] (fun s i => ∃ j : Nat, j ≤ A ∧ i = .int .i64 j ∧ s = .string ⟨(Dc.zA j t2).toArray⟩) (fun _ i => A - (intOf i).toNat)
        case atStart => exact ⟨0, Nat.zero_le _, rfl, rfl⟩
        case round =>
          obtain ⟨j, hj, rfl, rfl⟩ := hrel
          by_cases hjl : j < A
          · have hlj : (Dc.zA j t2).length ≤ 100 := by rw [HLA.out]; omega
            have hcat : (⟨[48].toArray⟩ : ByteArray) ++ ⟨(Dc.zA j t2).toArray⟩ = ⟨(Dc.zA (j + 1) t2).toArray⟩ := by rw [cat_mk, ← Dc.zA_succ]; rfl
            go_wp2
            go_round
            case rel => exact ⟨j + 1, by omega, by go_num, rfl⟩
            case measure => simp [intOf]; omega
          · obtain rfl : j = A := by omega
            have hlj : Hid ((Dc.zA j t2).length ≤ 100) := Lib.hid (by rw [HLA.out]; omega)
            go_wp2
            generalize Dc.zA j t2 = t3 at *
            go_loop [7, 12] (fun s i => ∃ i3 : Nat, i3 ≤ B ∧ i = .int .i64 i3 ∧ s = .string ⟨(Dc.zB t3 i3).toArray⟩) (fun _ i => B - (intOf i).toNat)
            case atStart => exact ⟨0, Nat.zero_le _, rfl, by unfold Dc.zB; simp⟩
            case round =>
              obtain ⟨i3, hi3, rfl, rfl⟩ := hrel
              by_cases hil : i3 < B
              · have hli : (Dc.zB t3 i3).length ≤ 150 := by rw [Dc.zB_len]; have := hlj.out; omega
                have hcat : (⟨(Dc.zB t3 i3).toArray⟩ : ByteArray) ++ ⟨[48].toArray⟩ = ⟨(Dc.zB t3 (i3 + 1)).toArray⟩ := by rw [cat_mk, Dc.zB_succ]
                go_wp2
                go_round
                case rel => exact ⟨i3 + 1, by omega, by go_num, rfl⟩
                case measure => simp [intOf]; omega
              · obtain rfl : i3 = B := by omega
                have hcat : (⟨[45].toArray⟩ : ByteArray) ++ ⟨(Dc.zB t3 i3).toArray⟩ = ⟨(45 :: Dc.zB t3 i3).toArray⟩ := by rw [cat_mk]; rfl
                generalize Dc.zB t3 i3 = t4 at *
                go_wp2_with (first | (go_at_call 8; (((with_reducible refine (H3.out _).mono ?_)); rintro e w3 ⟨rfl, hb3⟩; obtain ⟨hc3, hf3⟩ := bcell hb3; (try have hq3w : w.heap.size < w3.heap.size := Nat.lt_of_lt_of_le (by first | assumption | (simp; done) | (simp; omega)) hb3.size); (try have hq3w1 : w1.heap.size < w3.heap.size := Nat.lt_of_lt_of_le (by first | assumption | (simp; done) | (simp; omega)) hb3.size); (try have hq3w2 : w2.heap.size < w3.heap.size := Nat.lt_of_lt_of_le (by first | assumption | (simp; done) | (simp; omega)) hb3.size); have hs3 := hb3.size; (try simp at hs3))) | (go_at_call 10; (((with_reducible refine (known2_any _).mono ?_)); rintro e w4 ⟨rfl, hb4⟩; obtain ⟨hc4, hf4⟩ := bcell hb4; (try have hq4w : w.heap.size < w4.heap.size := Nat.lt_of_lt_of_le (by first | assumption | (simp; done) | (simp; omega)) hb4.size); (try have hq4w1 : w1.heap.size < w4.heap.size := Nat.lt_of_lt_of_le (by first | assumption | (simp; done) | (simp; omega)) hb4.size); (try have hq4w2 : w2.heap.size < w4.heap.size := Nat.lt_of_lt_of_le (by first | assumption | (simp; done) | (simp; omega)) hb4.size); (try have hq4w3 : w3.heap.size < w4.heap.size := Nat.lt_of_lt_of_le (by first | assumption | (simp; done) | (simp; omega)) hb4.size); have hs4 := hb4.size; (try simp at hs4))))
                go_ret
                exact ⟨rfl, (by repeat (first | exact Below.refl _ _ | assumption | refine Below.setCell ?_ (by first | (simp; done) | omega | (simp; omega) | (simp at *; omega)) _ | refine Below.alloc ?_ (by first | (simp; done) | omega | (simp; omega) | (simp at *; omega)) _ | refine Below.drew ?_ | refine below_drewN ?_ _ | (refine Below.trans ?_ (Below.mono (by assumption) (by first | (simp; done) | omega | (simp; omega) | (simp at *; omega)))) | (refine Below.trans ?_ (Below.mono (below_regrown _ _ _) (by first | (simp; done) | omega | (simp; omega) | (simp at *; omega))))))⟩
      · have h2 := Lib.hid (hdy.out rfl)
        clear hdn hdy
        have hlA : ∀ j : Nat, (Dc.zA j t2).length = j + t2.length := fun j => Dc.zA_len j t2
        have HLA := Lib.hid hlA
        have hl2 : t2.length ≤ 42 := by rw [h2.out]; omega
        have HL2 := Lib.hid hl2
        clear hlA
        go_wp2
        go_loop [7, 11] (fun s i => ∃ j : Nat, j ≤ A ∧ i = .int .i64 j ∧ s = .string ⟨(Dc.zA j t2).toArray⟩) (fun _ i => A - (intOf i).toNat)
        case atStart => exact ⟨0, Nat.zero_le _, rfl, by rw [h2.out]; rfl⟩
        case round =>
          obtain ⟨j, hj, rfl, rfl⟩ := hrel
          by_cases hjl : j < A
          · have hlj : (Dc.zA j t2).length ≤ 100 := by rw [HLA.out]; omega
            have hcat : (⟨[48].toArray⟩ : ByteArray) ++ ⟨(Dc.zA j t2).toArray⟩ = ⟨(Dc.zA (j + 1) t2).toArray⟩ := by rw [cat_mk, ← Dc.zA_succ]; rfl
            go_wp2
            go_round
            case rel => exact ⟨j + 1, by omega, by go_num, rfl⟩
            case measure => simp [intOf]; omega
          · obtain rfl : j = A := by omega
            have hlj : Hid ((Dc.zA j t2).length ≤ 100) := Lib.hid (by rw [HLA.out]; omega)
            go_wp2
            generalize Dc.zA j t2 = t3 at *
            go_loop [7, 12] (fun s i => ∃ i3 : Nat, i3 ≤ B ∧ i = .int .i64 i3 ∧ s = .string ⟨(Dc.zB t3 i3).toArray⟩) (fun _ i => B - (intOf i).toNat)
            case atStart => exact ⟨0, Nat.zero_le _, rfl, by unfold Dc.zB; simp⟩
            case round =>
              obtain ⟨i3, hi3, rfl, rfl⟩ := hrel
              by_cases hil : i3 < B
              · have hli : (Dc.zB t3 i3).length ≤ 150 := by rw [Dc.zB_len]; have := hlj.out; omega
                have hcat : (⟨(Dc.zB t3 i3).toArray⟩ : ByteArray) ++ ⟨[48].toArray⟩ = ⟨(Dc.zB t3 (i3 + 1)).toArray⟩ := by rw [cat_mk, Dc.zB_succ]
                go_wp2
                go_round
                case rel => exact ⟨i3 + 1, by omega, by go_num, rfl⟩
                case measure => simp [intOf]; omega
              · obtain rfl : i3 = B := by omega
                have hcat : (⟨[45].toArray⟩ : ByteArray) ++ ⟨(Dc.zB t3 i3).toArray⟩ = ⟨(45 :: Dc.zB t3 i3).toArray⟩ := by rw [cat_mk]; rfl
                generalize Dc.zB t3 i3 = t4 at *
                go_wp2_with (first | (go_at_call 8; (((with_reducible refine (H3.out _).mono ?_)); rintro e w3 ⟨rfl, hb3⟩; obtain ⟨hc3, hf3⟩ := bcell hb3; (try have hq3w : w.heap.size < w3.heap.size := Nat.lt_of_lt_of_le (by first | assumption | (simp; done) | (simp; omega)) hb3.size); (try have hq3w1 : w1.heap.size < w3.heap.size := Nat.lt_of_lt_of_le (by first | assumption | (simp; done) | (simp; omega)) hb3.size); (try have hq3w2 : w2.heap.size < w3.heap.size := Nat.lt_of_lt_of_le (by first | assumption | (simp; done) | (simp; omega)) hb3.size); have hs3 := hb3.size; (try simp at hs3))) | (go_at_call 10; (((with_reducible refine (known2_any _).mono ?_)); rintro e w4 ⟨rfl, hb4⟩; obtain ⟨hc4, hf4⟩ := bcell hb4; (try have hq4w : w.heap.size < w4.heap.size := Nat.lt_of_lt_of_le (by first | assumption | (simp; done) | (simp; omega)) hb4.size); (try have hq4w1 : w1.heap.size < w4.heap.size := Nat.lt_of_lt_of_le (by first | assumption | (simp; done) | (simp; omega)) hb4.size); (try have hq4w2 : w2.heap.size < w4.heap.size := Nat.lt_of_lt_of_le (by first | assumption | (simp; done) | (simp; omega)) hb4.size); (try have hq4w3 : w3.heap.size < w4.heap.size := Nat.lt_of_lt_of_le (by first | assumption | (simp; done) | (simp; omega)) hb4.size); have hs4 := hb4.size; (try simp at hs4))))
                go_ret
                exact ⟨rfl, (by repeat (first | exact Below.refl _ _ | assumption | refine Below.setCell ?_ (by first | (simp; done) | omega | (simp; omega) | (simp at *; omega)) _ | refine Below.alloc ?_ (by first | (simp; done) | omega | (simp; omega) | (simp at *; omega)) _ | refine Below.drew ?_ | refine below_drewN ?_ _ | (refine Below.trans ?_ (Below.mono (by assumption) (by first | (simp; done) | omega | (simp; omega) | (simp at *; omega)))) | (refine Below.trans ?_ (Below.mono (below_regrown _ _ _) (by first | (simp; done) | omega | (simp; omega) | (simp at *; omega))))))⟩

set_option maxHeartbeats 4000000 in
theorem lawNoughts_pos (n : Int) (h0 : 0 ≤ n) (h1 : n ≤ 4611686018427387904) (A B : Nat) (hA : A ≤ 50) (hB0 : 1 ≤ B) (hB : B ≤ 50) (w : World) :
    Calls Tryd.prog 6 #[.agg #[.bool true, .int .i64 (n)], .int .i64 A, .int .i64 B] w fun e w' => e = .returned (.bool true) ∧ Below w.heap.size w w' := by
  have hk : Fx.inR (n) = true := Fx.inR_yes (by omega) (by omega)
  have H4 := Lib.hid (fun W => known1_any true (n) W)
  rw [Fx.num_yes hk] at H4
  have hu : n.toNat ≤ 4611686018427387904 := by omega
  have hpr : Dc.pr true (n) = Dc.pbod n.toNat := by
    unfold Dc.pr Dc.sgn
    rw [if_pos (by rw [Dc.knownB_num]; exact Fx.num_yes hk), if_neg (by omega), show (n).natAbs = n.toNat by omega]
    rfl
  have P1 := fun W => refPrint_any true (n) W
  rw [hpr] at P1
  have H1 := Lib.hid P1
  have hlen := Dc.pbod_len n.toNat
  have hpos := Dc.pbod_pos n.toNat
  have hhd := Dc.pbod_head n.toNat hpos hu
  have hdot := Lib.hid (Dc.hasDot_pbod hu)
  have hdy : Hid (decide (n.toNat % 1000000 ≠ 0) = true → Dc.dotb n.toNat = Dc.pbod n.toNat) := Lib.hid Dc.dotb_yes
  have hdn : Hid (decide (n.toNat % 1000000 ≠ 0) = false → Dc.dotb n.toNat = Dc.pbod n.toNat ++ [46]) := Lib.hid Dc.dotb_no
  have hno := Dc.noughts_ok hu false A B hB0
  have hn' : (if false = true then -((n.toNat : Nat) : Int) else ((n.toNat : Nat) : Int)) = n := by simp; omega
  rw [hn'] at hno
  have hlt : (Dc.zB (Dc.zA A (Dc.dotb n.toNat)) B).length ≤ 200 := by
    rw [Dc.zB_len, Dc.zA_len]
    have : (Dc.dotb n.toNat).length ≤ 42 := by
      unfold Dc.dotb
      rw [List.length_append, List.length_cons]
      have := Dc.plain_length (n.toNat / 1000000)
      have := Dc.six_trim_len (n.toNat % 1000000)
      omega
    omega
  have P3 := fun W => parse_prog ((if false = true then [45] else []) ++ Dc.zB (Dc.zA A (Dc.dotb n.toNat)) B) (by rw [List.length_append]; simp; omega) W
  rw [hno.1, hno.2] at P3
  have H3 : Hid (∀ W, Calls Tryd.prog 8 #[.string ⟨(Dc.zB (Dc.zA A (Dc.dotb n.toNat)) B).toArray⟩] W fun e w' => e = .returned (.tuple #[.agg #[.bool true, .int .i64 (n)], .bool true]) ∧ Below W.heap.size W w') := Lib.hid P3
  have HB1 := Lib.hid hB0
  clear hk hno hn' P1 P3 hpr hu
  generalize decide (n.toNat % 1000000 ≠ 0) = dt at *
  generalize Dc.pbod n.toNat = t at *
  generalize Dc.dotb n.toNat = t2 at *
  have hp0 : (1 : Int) ≤ (t.length : Int) := by omega
  have hsg : (((⟨t.toArray⟩ : ByteArray)[0]'hpos).toNat == 45) = false := by
    have := (Dc.isD_iff.1 hhd).1
    show (t[0].toNat == 45) = false
    rw [beq_eq_false_iff_ne]
    omega
  clear hhd
  go_enter Tryd.func6, Tryd.ntmps6
  go_wp2_with (first | (go_at_call 13; (((with_reducible refine (H4.out _).mono ?_)); rintro e w1 ⟨rfl, hb1⟩; obtain ⟨hc1, hf1⟩ := bcell hb1; (try have hq1w : w.heap.size < w1.heap.size := Nat.lt_of_lt_of_le (by first | assumption | (simp; done) | (simp; omega)) hb1.size); have hs1 := hb1.size; (try simp at hs1))) | (go_at_call 12; (((with_reducible refine (H1.out _).mono ?_)); rintro e w2 ⟨rfl, hb2⟩; obtain ⟨hc2, hf2⟩ := bcell hb2; (try have hq2w : w.heap.size < w2.heap.size := Nat.lt_of_lt_of_le (by first | assumption | (simp; done) | (simp; omega)) hb2.size); (try have hq2w1 : w1.heap.size < w2.heap.size := Nat.lt_of_lt_of_le (by first | assumption | (simp; done) | (simp; omega)) hb2.size); have hs2 := hb2.size; (try simp at hs2))))
  go_loop [9, 10] (fun d i => ∃ k : Nat, k ≤ t.length ∧ i = .int .i64 k ∧ ∃ d0 : Bool, d = .bool d0 ∧ Hid (d0 = Dc.hasDot (t.take k))) (fun _ i => t.length - (intOf i).toNat)
  case atStart => exact ⟨0, Nat.zero_le _, rfl, false, rfl, Lib.hid rfl⟩
  case round =>
    obtain ⟨k, hk, rfl, d0, rfl, hd⟩ := hrel
    by_cases hlt : k < t.length
    · have hs := Lib.hid (Dc.hasDot_take t k hlt)
      cases d0
      · by_cases hb : t[k] = 46
        · have hb2 : ((((⟨t.toArray⟩ : ByteArray)[k]'hlt).toNat : Int) == 46) = true := by show ((t[k].toNat : Int) == 46) = true; rw [hb]; rfl
          have HB := Lib.hid hb
          clear hb
          go_wp2
          go_round
          case rel => exact ⟨k + 1, by omega, by go_num, true, rfl, Lib.hid (by rw [hs.out, HB.out]; simp)⟩
          case measure => simp [intOf]; omega
        · have hb2 : ((((⟨t.toArray⟩ : ByteArray)[k]'hlt).toNat : Int) == 46) = false := by
            show ((t[k].toNat : Int) == 46) = false
            rw [beq_eq_false_iff_ne]
            intro e
            exact hb (UInt8.toNat_inj.1 (by exact_mod_cast e))
          have HB : Hid ((t[k] == 46) = false) := Lib.hid (by simpa using hb)
          clear hb
          go_wp2
          go_round
          case rel => exact ⟨k + 1, by omega, by go_num, false, rfl, Lib.hid (by rw [hs.out, HB.out, ← hd.out]; rfl)⟩
          case measure => simp [intOf]; omega
      · go_wp2
        go_round
        case rel => exact ⟨k + 1, by omega, by go_num, true, rfl, Lib.hid (by rw [hs.out, ← hd.out]; rfl)⟩
        case measure => simp [intOf]; omega
    · obtain rfl : k = t.length := by omega
      rw [List.take_length] at hd
      have hd2 := hd.out.trans hdot.out
      subst hd2
      clear hdot hd
      cases d0
      · have h2 := Lib.hid (hdn.out rfl)
        have hc46 : (⟨t.toArray⟩ : ByteArray) ++ ⟨[46].toArray⟩ = ⟨t2.toArray⟩ := by rw [cat_mk, h2.out]
        clear hdn hdy
        have hlA : ∀ j : Nat, (Dc.zA j t2).length = j + t2.length := fun j => Dc.zA_len j t2
        have HLA := Lib.hid hlA
        have hl2 : t2.length ≤ 42 := by rw [h2.out, List.length_append]; simp; omega
        have HL2 := Lib.hid hl2
        clear hlA
        go_wp2
        go_loop [7, 11] (fun s i => ∃ j : Nat, j ≤ A ∧ i = .int .i64 j ∧ s = .string ⟨(Dc.zA j t2).toArray⟩) (fun _ i => A - (intOf i).toNat)
        case atStart => exact ⟨0, Nat.zero_le _, rfl, rfl⟩
        case round =>
          obtain ⟨j, hj, rfl, rfl⟩ := hrel
          by_cases hjl : j < A
          · have hlj : (Dc.zA j t2).length ≤ 100 := by rw [HLA.out]; omega
            have hcat : (⟨[48].toArray⟩ : ByteArray) ++ ⟨(Dc.zA j t2).toArray⟩ = ⟨(Dc.zA (j + 1) t2).toArray⟩ := by rw [cat_mk, ← Dc.zA_succ]; rfl
            go_wp2
            go_round
            case rel => exact ⟨j + 1, by omega, by go_num, rfl⟩
            case measure => simp [intOf]; omega
          · obtain rfl : j = A := by omega
            have hlj : Hid ((Dc.zA j t2).length ≤ 100) := Lib.hid (by rw [HLA.out]; omega)
            go_wp2
            generalize Dc.zA j t2 = t3 at *
            go_loop [7, 12] (fun s i => ∃ i3 : Nat, i3 ≤ B ∧ i = .int .i64 i3 ∧ s = .string ⟨(Dc.zB t3 i3).toArray⟩) (fun _ i => B - (intOf i).toNat)
            case atStart => exact ⟨0, Nat.zero_le _, rfl, by unfold Dc.zB; simp⟩
            case round =>
              obtain ⟨i3, hi3, rfl, rfl⟩ := hrel
              by_cases hil : i3 < B
              · have hli : (Dc.zB t3 i3).length ≤ 150 := by rw [Dc.zB_len]; have := hlj.out; omega
                have hcat : (⟨(Dc.zB t3 i3).toArray⟩ : ByteArray) ++ ⟨[48].toArray⟩ = ⟨(Dc.zB t3 (i3 + 1)).toArray⟩ := by rw [cat_mk, Dc.zB_succ]
                go_wp2
                go_round
                case rel => exact ⟨i3 + 1, by omega, by go_num, rfl⟩
                case measure => simp [intOf]; omega
              · obtain rfl : i3 = B := by omega
                have hcat : (⟨[].toArray⟩ : ByteArray) ++ ⟨(Dc.zB t3 i3).toArray⟩ = ⟨(Dc.zB t3 i3).toArray⟩ := by rw [cat_mk]; rfl
                generalize Dc.zB t3 i3 = t4 at *
                go_wp2_with (first | (go_at_call 8; (((with_reducible refine (H3.out _).mono ?_)); rintro e w3 ⟨rfl, hb3⟩; obtain ⟨hc3, hf3⟩ := bcell hb3; (try have hq3w : w.heap.size < w3.heap.size := Nat.lt_of_lt_of_le (by first | assumption | (simp; done) | (simp; omega)) hb3.size); (try have hq3w1 : w1.heap.size < w3.heap.size := Nat.lt_of_lt_of_le (by first | assumption | (simp; done) | (simp; omega)) hb3.size); (try have hq3w2 : w2.heap.size < w3.heap.size := Nat.lt_of_lt_of_le (by first | assumption | (simp; done) | (simp; omega)) hb3.size); have hs3 := hb3.size; (try simp at hs3))) | (go_at_call 10; (((with_reducible refine (known2_any _).mono ?_)); rintro e w4 ⟨rfl, hb4⟩; obtain ⟨hc4, hf4⟩ := bcell hb4; (try have hq4w : w.heap.size < w4.heap.size := Nat.lt_of_lt_of_le (by first | assumption | (simp; done) | (simp; omega)) hb4.size); (try have hq4w1 : w1.heap.size < w4.heap.size := Nat.lt_of_lt_of_le (by first | assumption | (simp; done) | (simp; omega)) hb4.size); (try have hq4w2 : w2.heap.size < w4.heap.size := Nat.lt_of_lt_of_le (by first | assumption | (simp; done) | (simp; omega)) hb4.size); (try have hq4w3 : w3.heap.size < w4.heap.size := Nat.lt_of_lt_of_le (by first | assumption | (simp; done) | (simp; omega)) hb4.size); have hs4 := hb4.size; (try simp at hs4))))
                go_ret
                exact ⟨rfl, (by repeat (first | exact Below.refl _ _ | assumption | refine Below.setCell ?_ (by first | (simp; done) | omega | (simp; omega) | (simp at *; omega)) _ | refine Below.alloc ?_ (by first | (simp; done) | omega | (simp; omega) | (simp at *; omega)) _ | refine Below.drew ?_ | refine below_drewN ?_ _ | (refine Below.trans ?_ (Below.mono (by assumption) (by first | (simp; done) | omega | (simp; omega) | (simp at *; omega)))) | (refine Below.trans ?_ (Below.mono (below_regrown _ _ _) (by first | (simp; done) | omega | (simp; omega) | (simp at *; omega))))))⟩
      · have h2 := Lib.hid (hdy.out rfl)
        clear hdn hdy
        have hlA : ∀ j : Nat, (Dc.zA j t2).length = j + t2.length := fun j => Dc.zA_len j t2
        have HLA := Lib.hid hlA
        have hl2 : t2.length ≤ 42 := by rw [h2.out]; omega
        have HL2 := Lib.hid hl2
        clear hlA
        go_wp2
        go_loop [7, 11] (fun s i => ∃ j : Nat, j ≤ A ∧ i = .int .i64 j ∧ s = .string ⟨(Dc.zA j t2).toArray⟩) (fun _ i => A - (intOf i).toNat)
        case atStart => exact ⟨0, Nat.zero_le _, rfl, by rw [h2.out]; rfl⟩
        case round =>
          obtain ⟨j, hj, rfl, rfl⟩ := hrel
          by_cases hjl : j < A
          · have hlj : (Dc.zA j t2).length ≤ 100 := by rw [HLA.out]; omega
            have hcat : (⟨[48].toArray⟩ : ByteArray) ++ ⟨(Dc.zA j t2).toArray⟩ = ⟨(Dc.zA (j + 1) t2).toArray⟩ := by rw [cat_mk, ← Dc.zA_succ]; rfl
            go_wp2
            go_round
            case rel => exact ⟨j + 1, by omega, by go_num, rfl⟩
            case measure => simp [intOf]; omega
          · obtain rfl : j = A := by omega
            have hlj : Hid ((Dc.zA j t2).length ≤ 100) := Lib.hid (by rw [HLA.out]; omega)
            go_wp2
            generalize Dc.zA j t2 = t3 at *
            go_loop [7, 12] (fun s i => ∃ i3 : Nat, i3 ≤ B ∧ i = .int .i64 i3 ∧ s = .string ⟨(Dc.zB t3 i3).toArray⟩) (fun _ i => B - (intOf i).toNat)
            case atStart => exact ⟨0, Nat.zero_le _, rfl, by unfold Dc.zB; simp⟩
            case round =>
              obtain ⟨i3, hi3, rfl, rfl⟩ := hrel
              by_cases hil : i3 < B
              · have hli : (Dc.zB t3 i3).length ≤ 150 := by rw [Dc.zB_len]; have := hlj.out; omega
                have hcat : (⟨(Dc.zB t3 i3).toArray⟩ : ByteArray) ++ ⟨[48].toArray⟩ = ⟨(Dc.zB t3 (i3 + 1)).toArray⟩ := by rw [cat_mk, Dc.zB_succ]
                go_wp2
                go_round
                case rel => exact ⟨i3 + 1, by omega, by go_num, rfl⟩
                case measure => simp [intOf]; omega
              · obtain rfl : i3 = B := by omega
                have hcat : (⟨[].toArray⟩ : ByteArray) ++ ⟨(Dc.zB t3 i3).toArray⟩ = ⟨(Dc.zB t3 i3).toArray⟩ := by rw [cat_mk]; rfl
                generalize Dc.zB t3 i3 = t4 at *
                go_wp2_with (first | (go_at_call 8; (((with_reducible refine (H3.out _).mono ?_)); rintro e w3 ⟨rfl, hb3⟩; obtain ⟨hc3, hf3⟩ := bcell hb3; (try have hq3w : w.heap.size < w3.heap.size := Nat.lt_of_lt_of_le (by first | assumption | (simp; done) | (simp; omega)) hb3.size); (try have hq3w1 : w1.heap.size < w3.heap.size := Nat.lt_of_lt_of_le (by first | assumption | (simp; done) | (simp; omega)) hb3.size); (try have hq3w2 : w2.heap.size < w3.heap.size := Nat.lt_of_lt_of_le (by first | assumption | (simp; done) | (simp; omega)) hb3.size); have hs3 := hb3.size; (try simp at hs3))) | (go_at_call 10; (((with_reducible refine (known2_any _).mono ?_)); rintro e w4 ⟨rfl, hb4⟩; obtain ⟨hc4, hf4⟩ := bcell hb4; (try have hq4w : w.heap.size < w4.heap.size := Nat.lt_of_lt_of_le (by first | assumption | (simp; done) | (simp; omega)) hb4.size); (try have hq4w1 : w1.heap.size < w4.heap.size := Nat.lt_of_lt_of_le (by first | assumption | (simp; done) | (simp; omega)) hb4.size); (try have hq4w2 : w2.heap.size < w4.heap.size := Nat.lt_of_lt_of_le (by first | assumption | (simp; done) | (simp; omega)) hb4.size); (try have hq4w3 : w3.heap.size < w4.heap.size := Nat.lt_of_lt_of_le (by first | assumption | (simp; done) | (simp; omega)) hb4.size); have hs4 := hb4.size; (try simp at hs4))))
                go_ret
                exact ⟨rfl, (by repeat (first | exact Below.refl _ _ | assumption | refine Below.setCell ?_ (by first | (simp; done) | omega | (simp; omega) | (simp at *; omega)) _ | refine Below.alloc ?_ (by first | (simp; done) | omega | (simp; omega) | (simp at *; omega)) _ | refine Below.drew ?_ | refine below_drewN ?_ _ | (refine Below.trans ?_ (Below.mono (by assumption) (by first | (simp; done) | omega | (simp; omega) | (simp at *; omega)))) | (refine Below.trans ?_ (Below.mono (below_regrown _ _ _) (by first | (simp; done) | omega | (simp; omega) | (simp at *; omega))))))⟩

end Go.Proofs.YtiihaiidijmgmaaDoor
