/-
  CHAPTER 12, LAWS: PikeTimes.
-/
import Derived.Test.YtedppnejkjcplaaPkTwo
namespace Go.Proofs.Ytedppnejkjcplaa
open Go.RowKit Go.Sort
open Me
open Pk

namespace Pk
theorem star_sm : Rc.Sm starE := by unfold Rc.Sm starE; decide
theorem lazy_sm : Rc.Sm lazyE := by unfold Rc.Sm lazyE; decide
theorem pair_sm : Rc.Sm pairE := by unfold Rc.Sm pairE; decide
end Pk

theorem of_star (W : World) : Calls Try.prog 11 #[.string ⟨#[97, 42]⟩] W fun e W' => ∃ (A : Option Addr) (c : Nat), e = .returned (.tuple #[.agg #[.int .i64 0, .slice A 6 c], .bool true]) ∧ Below W.heap.size W W' ∧ Rd W' (fun _ => True) A (icells starL) := by
  refine (of_known (s := starE) star_sm (by decide) star_of W).mono ?_
  rintro e W' ⟨A, c, he, hb, hr, _⟩
  exact ⟨A, c, he, hb, hr⟩
theorem of_lazy (W : World) : Calls Try.prog 11 #[.string ⟨#[97, 42, 63]⟩] W fun e W' => ∃ (A : Option Addr) (c : Nat), e = .returned (.tuple #[.agg #[.int .i64 0, .slice A 6 c], .bool true]) ∧ Below W.heap.size W W' ∧ Rd W' (fun _ => True) A (icells lazyL) := by
  refine (of_known (s := lazyE) lazy_sm (by decide) lazy_of W).mono ?_
  rintro e W' ⟨A, c, he, hb, hr, _⟩
  exact ⟨A, c, he, hb, hr⟩
theorem of_pair (W : World) : Calls Try.prog 11 #[.string ⟨#[40, 97, 124, 97, 97, 41, 42, 36]⟩] W fun e W' => ∃ (A : Option Addr) (c : Nat), e = .returned (.tuple #[.agg #[.int .i64 1, .slice A 13 c], .bool true]) ∧ Below W.heap.size W W' ∧ Rd W' (fun _ => True) A (icells pairL) := by
  refine (of_known (s := pairE) pair_sm (by decide) pair_of W).mono ?_
  rintro e W' ⟨A, c, he, hb, hr, _⟩
  exact ⟨A, c, he, hb, hr⟩
theorem find_star {W : World} {A : Option Addr} {c : Nat} {t : List UInt8} {x y : Int} (hr : Rd W (fun _ => True) A (icells starL)) (ht : t.length ≤ 1048576) (hf : findP 0 starL t 0 = some [x, y]) :
    Calls Try.prog 13 #[.agg #[.int .i64 0, .slice A 6 c], .string ⟨t.toArray⟩, .int .i64 0] W fun e W' => ∃ A2 c2, e = .returned (.tuple #[.slice A2 2 c2, .bool true]) ∧ Below W.heap.size W W' ∧ Rd W' (fun _ => True) A2 (iv [x, y]) := find_known hr (by decide) ht hf
theorem find_lazy {W : World} {A : Option Addr} {c : Nat} {t : List UInt8} {x y : Int} (hr : Rd W (fun _ => True) A (icells lazyL)) (ht : t.length ≤ 1048576) (hf : findP 0 lazyL t 0 = some [x, y]) :
    Calls Try.prog 13 #[.agg #[.int .i64 0, .slice A 6 c], .string ⟨t.toArray⟩, .int .i64 0] W fun e W' => ∃ A2 c2, e = .returned (.tuple #[.slice A2 2 c2, .bool true]) ∧ Below W.heap.size W W' ∧ Rd W' (fun _ => True) A2 (iv [x, y]) := find_known hr (by decide) ht hf
theorem is_pair {W : World} {A : Option Addr} {c : Nat} {t : List UInt8} (hr : Rd W (fun _ => True) A (icells pairL)) (ht : t.length ≤ 1048576) (hf : (findP 1 pairL t 0).isSome = true) :
    Calls Try.prog 17 #[.agg #[.int .i64 1, .slice A 13 c], .string ⟨t.toArray⟩] W fun e W' => e = .returned (.bool true) ∧ Below W.heap.size W W' := by
  refine (is_any (L := pairL) (t := t) hr (by decide) ht).mono ?_
  rintro e W' ⟨rfl, hb⟩
  exact ⟨by rw [hf], hb⟩

set_option maxRecDepth 100000 in
set_option maxHeartbeats 16000000 in
theorem lawTimes12 (n : Int) (m : List UInt8) (hn1 : -9223372036854775808 ≤ n) (hn2 : n ≤ 9223372036854775807) (W : World) :
    Calls Try.prog 7 #[.int .i64 n, .string ⟨m.toArray⟩] W fun e W' => e = .returned (.bool true) ∧ Below W.heap.size W W' := by
  have HK := Lib.hid fun W => known12_any W
  by_cases h1 : n < 0
  · go_enter Try.func7, Try.ntmps7
    go_wp2_with (go_at_call 12; go_must (refine (HK.out _).mono ?_; rintro e w3 ⟨rfl, hb3⟩; have HB3 := Lib.hid hb3; clear hb3))
    go_ret
    exact ⟨rfl, HB3.out⟩
  by_cases h2 : 50 < n
  · go_enter Try.func7, Try.ntmps7
    go_wp2_with (go_at_call 12; go_must (refine (HK.out _).mono ?_; rintro e w3 ⟨rfl, hb3⟩; have HB3 := Lib.hid hb3; clear hb3))
    go_ret
    exact ⟨rfl, HB3.out⟩
  by_cases h3 : 60 < m.length
  · have h3I : (60 : Int) < (m.length : Int) := by omega
    go_enter Try.func7, Try.ntmps7
    go_wp2_with (go_at_call 12; go_must (refine (HK.out _).mono ?_; rintro e w3 ⟨rfl, hb3⟩; have HB3 := Lib.hid hb3; clear hb3))
    go_ret
    exact ⟨rfl, HB3.out⟩
  have h3I : ¬ (60 : Int) < (m.length : Int) := by omega
  obtain ⟨N, rfl⟩ : ∃ N : Nat, n = (N : Int) := ⟨n.toNat, by omega⟩
  have hN50 : N ≤ 50 := by omega
  have hm60 : m.length ≤ 60 := by omega
  have HO1 := Lib.hid of_star
  have HO2 := Lib.hid of_lazy
  have HO3 := Lib.hid of_pair
  clear hn1 hn2 h2 h3
  go_enter Try.func7, Try.ntmps7
  go_wp2_with fail
  go_loopw [5, 6] (fun tv x wr => ∃ (i : Nat) (l : List UInt8), tv = .string ⟨l.toArray⟩ ∧ x = .int .i64 (i : Int) ∧ i ≤ N ∧ Hid (l = List.replicate i 97) ∧ Hid (W = wr)) (fun _ x _ => N - (intOf x).toNat)
  case atStart => exact ⟨0, [], rfl, rfl, Nat.zero_le _, Lib.hid rfl, Lib.hid rfl⟩
  case round =>
    obtain ⟨i, l, rfl, rfl, hi, HL, HW⟩ := hrel
    by_cases hlt : i < N
    · have hltI : (i : Int) < (N : Int) := by omega
      have hll : ¬ 9223372036854775807 < l.length + 1 := by rw [HL.out, List.length_replicate]; omega
      obtain ⟨l2, hl2⟩ : ∃ l2, l2 = l ++ [97] := ⟨_, rfl⟩
      have hcat : (⟨l.toArray⟩ : ByteArray) ++ ⟨#[97]⟩ = ⟨l2.toArray⟩ := by rw [hl2]; apply ByteArray.ext; simp
      have HL2 : Hid (l2 = List.replicate (i + 1) 97) := Lib.hid (by rw [hl2, HL.out, List.replicate_succ'])
      clear hl2
      go_wp2_with fail
      go_roundw
      case rel => exact ⟨i + 1, l2, rfl, by go_num, by omega, HL2, HW⟩
      case measure => first | (simp [intOf]; done) | (simp [intOf]; omega)
    · have hltI : ¬ (i : Int) < (N : Int) := by omega
      obtain rfl : i = N := by omega
      obtain rfl : W = wr := HW.out
      clear HW
      go_wp2_with fail
      go_loopw [7, 8] (fun av x wr => ∃ (j : Nat), av = .int .i64 ((i : Int) + (j : Int)) ∧ x = .int .i64 (j : Int) ∧ j ≤ m.length ∧ Hid (lead m = j + lead (m.drop j)) ∧ Hid (W = wr)) (fun _ x _ => m.length - (intOf x).toNat)
      case atStart => exact ⟨0, by simp, rfl, Nat.zero_le _, Lib.hid (by simp), Lib.hid rfl⟩
      case round =>
        obtain ⟨j, rfl, rfl, hj, HLD, HW⟩ := hrel
        obtain rfl : W = wr := HW.out
        clear HW
        have hj0 : (0 : Int) ≤ (j : Int) := by omega
        by_cases ha : m[j]? = some 97
        · have hjm : j < m.length := (List.getElem?_eq_some_iff.1 ha).1
          have hjI : (j : Int) < (m.length : Int) := by omega
          obtain ⟨z0, g0⟩ := Rc.byte_at ha
          have HLD2 : Hid (lead m = (j + 1) + lead (m.drop (j + 1))) := Lib.hid (by rw [HLD.out, lead_at (i := j), if_pos ha]; omega)
          clear ha
          go_wp2_with fail
          go_roundw
          case rel => exact ⟨j + 1, by go_num, by go_num, by omega, HLD2, Lib.hid (by first | trivial | rfl)⟩
          case measure => first | (simp [intOf]; done) | (simp [intOf]; omega)
        · have HLM : Hid (lead m = j) := Lib.hid (by rw [HLD.out, lead_at, if_neg ha]; rfl)
          obtain ⟨U, hU⟩ : ∃ U, U = l ++ m := ⟨_, rfl⟩
          have hUl : U.length ≤ 110 := by rw [hU, List.length_append, HL.out, List.length_replicate]; omega
          have hll : ¬ 9223372036854775807 < l.length + m.length := by rw [← List.length_append, ← hU]; omega
          have hcat : (⟨l.toArray⟩ : ByteArray) ++ ⟨m.toArray⟩ = ⟨U.toArray⟩ := by rw [hU]; apply ByteArray.ext; simp
          have HF1 : Hid (findP 0 starL U 0 = some [0, (i : Int) + (j : Int)]) := Lib.hid (by rw [star_found, hU, HL.out, lead_rep, HLM.out]; simp)
          have HF2 : Hid (findP 0 lazyL U 0 = some [0, 0]) := Lib.hid (lazy_found U)
          have HF3 : Hid ((findP 1 pairL l 0).isSome = true) := Lib.hid (by rw [HL.out]; exact pair_found i)
          have hll3 : l.length ≤ 110 := by rw [HL.out, List.length_replicate]; omega
          have HUL := Lib.hid hUl
          have HLL3 := Lib.hid hll3
          clear hU HLD hUl hll3
          by_cases hjm : j < m.length
          · obtain ⟨a, hma⟩ : ∃ a, m[j]? = some a := ⟨_, List.getElem?_eq_getElem hjm⟩
            have hjI : (j : Int) < (m.length : Int) := by omega
            obtain ⟨z0, g0⟩ := Rc.byte_at hma
            have hane : ¬ (a.toNat : Int) = 97 := fun e => ha (by rw [hma, UInt8.toNat_inj.1 (show a.toNat = (97 : UInt8).toNat by show a.toNat = 97; omega)])
            have haneb : ((a.toNat : Int) == 97) = false := by simpa using hane
            clear hma ha
            go_wp2_with first
              | (go_at_call 11; ((with_reducible refine (HO1.out _).mono ?_); rintro e w1 ⟨A1, c1, rfl, hb1, hr1⟩; have HB1 := Lib.hid hb1; have HR1 := Lib.hid hr1; have hs1 := hb1.size; clear hb1 hr1))
              | (go_at_call 11; ((with_reducible refine (HO2.out _).mono ?_); rintro e w2 ⟨A2, c2, rfl, hb2, hr2⟩; have hx1 : Below w1.heap.size w1 w2 := ((Below.refl _ _).alloc (Nat.le_refl _) (.cells #[.int .i64 0, .slice A1 6 c1] 24)).trans (hb2.mono (by simp)); have hxr : RowAt w2 w1.heap.size 24 #[.int .i64 0, .slice A1 6 c1] := (RowAt.new w1 _ _).below hb2 (by simp); have HB2 := Lib.hid (HB1.out.trans (hx1.mono HB1.out.size)); have HRA := Lib.hid hxr; have HR12 := Lib.hid (HR1.out.below hx1); have HR2 := Lib.hid hr2; have hs2 := hx1.size; have hs12 := hxr.lt; clear hb2 hr2 hx1 hxr))
              | (go_at_call 11; go_must (refine (HO3.out _).mono ?_; rintro e w3 ⟨A3, c3, rfl, hb3, hr3⟩; have hx1 : Below w2.heap.size w2 w3 := ((Below.refl _ _).alloc (Nat.le_refl _) (.cells #[.int .i64 0, .slice A2 6 c2] 24)).trans (hb3.mono (by simp)); have hxr : RowAt w3 w2.heap.size 24 #[.int .i64 0, .slice A2 6 c2] := (RowAt.new w2 _ _).below hb3 (by simp); have hxa : RowAt w3 w1.heap.size 24 #[.int .i64 0, .slice A1 6 c1] := HRA.out.below hx1 hs12; have HB3 := Lib.hid (HB2.out.trans (hx1.mono HB2.out.size)); have HB3a : Hid (Below W.heap.size W (w3.alloc (.cells #[.int .i64 1, .slice A3 13 c3] 24))) := Lib.hid (HB3.out.alloc HB3.out.size _); have HRA3 := Lib.hid (hxa.alloc (.cells #[.int .i64 1, .slice A3 13 c3] 24)); have HRB3 := Lib.hid (hxr.alloc (.cells #[.int .i64 1, .slice A3 13 c3] 24)); have HRC3 : Hid (RowAt (w3.alloc (.cells #[.int .i64 1, .slice A3 13 c3] 24)) w3.heap.size 24 #[.int .i64 1, .slice A3 13 c3]) := Lib.hid (RowAt.new w3 _ _); have hya : Below w3.heap.size w3 (w3.alloc (.cells #[.int .i64 1, .slice A3 13 c3] 24)) := (Below.refl _ _).alloc (Nat.le_refl _) _; have HR13 := Lib.hid ((HR12.out.below hx1).below hya); have HR23 := Lib.hid ((HR2.out.below hx1).below hya); have HR33 := Lib.hid (hr3.below hya); have k10 := (hxa.cell 0).trans rfl; have k11 := (hxa.cell 1).trans rfl; have kl1 := hxa.lt; clear hb3 hr3 hx1 hxr hxa hya))
              | (go_at_call 13; ((with_reducible refine (find_star HR13.out (by have := HUL.out; omega) HF1.out).mono ?_); rintro e w4 ⟨A4, c4, rfl, hb4, hr4⟩; have HB4 := Lib.hid (HB3a.out.trans (hb4.mono HB3a.out.size)); have HX4 := Lib.hid hb4; have HR4 := Lib.hid hr4; have q1 := HRB3.out.below hb4 HRB3.out.lt; have k20 := (q1.cell 0).trans rfl; have k21 := (q1.cell 1).trans rfl; clear hb4 hr4 q1))
              | (go_at_call 13; go_must (refine (find_lazy (HR23.out.below HX4.out) (by have := HUL.out; omega) HF2.out).mono ?_; rintro e w5 ⟨A5, c5, rfl, hb5, hr5⟩; have hx5 := HX4.out.trans (hb5.mono HX4.out.size); have HX5 := Lib.hid hx5; have HB5 := Lib.hid (HB4.out.trans (hb5.mono HB4.out.size)); have HR45 := Lib.hid (HR4.out.below hb5); have HR5 := Lib.hid hr5; clear hb5 hr5 hx5))
              | (go_at_call 16; ((with_reducible refine (two_known HR45.out _ rfl).mono ?_); rintro e w6 ⟨rfl, hb6⟩; have HX6 := Lib.hid (HX5.out.trans (hb6.mono HX5.out.size)); have HB6 := Lib.hid (HB5.out.trans (hb6.mono HB5.out.size)); have HR56 := Lib.hid (HR5.out.below hb6); clear hb6))
              | (go_at_call 16; go_must (refine (two_known HR56.out _ rfl).mono ?_; rintro e w7 ⟨rfl, hb7⟩; have hx7 := HX6.out.trans (hb7.mono HX6.out.size); have HX7 := Lib.hid hx7; have HB7 := Lib.hid (HB6.out.trans (hb7.mono HB6.out.size)); have q1 := HRC3.out.below hx7 HRC3.out.lt; have k30 := (q1.cell 0).trans rfl; have k31 := (q1.cell 1).trans rfl; clear hb7 hx7 q1))
              | (go_at_call 17; go_must (refine (is_pair (HR33.out.below HX7.out) (by have := HLL3.out; omega) HF3.out).mono ?_; rintro e w8 ⟨rfl, hb8⟩; have HB8 := Lib.hid (HB7.out.trans (hb8.mono HB7.out.size)); clear hb8))
              | (go_at_call 12; go_must (refine (HK.out _).mono ?_; rintro e w9 ⟨rfl, hb9⟩; have HB9 := Lib.hid (HB8.out.trans (hb9.mono HB8.out.size)); clear hb9))
            go_ret
            exact ⟨rfl, HB9.out⟩
          · have hjI : ¬ (j : Int) < (m.length : Int) := by omega
            clear ha
            go_wp2_with first
              | (go_at_call 11; ((with_reducible refine (HO1.out _).mono ?_); rintro e w1 ⟨A1, c1, rfl, hb1, hr1⟩; have HB1 := Lib.hid hb1; have HR1 := Lib.hid hr1; have hs1 := hb1.size; clear hb1 hr1))
              | (go_at_call 11; ((with_reducible refine (HO2.out _).mono ?_); rintro e w2 ⟨A2, c2, rfl, hb2, hr2⟩; have hx1 : Below w1.heap.size w1 w2 := ((Below.refl _ _).alloc (Nat.le_refl _) (.cells #[.int .i64 0, .slice A1 6 c1] 24)).trans (hb2.mono (by simp)); have hxr : RowAt w2 w1.heap.size 24 #[.int .i64 0, .slice A1 6 c1] := (RowAt.new w1 _ _).below hb2 (by simp); have HB2 := Lib.hid (HB1.out.trans (hx1.mono HB1.out.size)); have HRA := Lib.hid hxr; have HR12 := Lib.hid (HR1.out.below hx1); have HR2 := Lib.hid hr2; have hs2 := hx1.size; have hs12 := hxr.lt; clear hb2 hr2 hx1 hxr))
              | (go_at_call 11; go_must (refine (HO3.out _).mono ?_; rintro e w3 ⟨A3, c3, rfl, hb3, hr3⟩; have hx1 : Below w2.heap.size w2 w3 := ((Below.refl _ _).alloc (Nat.le_refl _) (.cells #[.int .i64 0, .slice A2 6 c2] 24)).trans (hb3.mono (by simp)); have hxr : RowAt w3 w2.heap.size 24 #[.int .i64 0, .slice A2 6 c2] := (RowAt.new w2 _ _).below hb3 (by simp); have hxa : RowAt w3 w1.heap.size 24 #[.int .i64 0, .slice A1 6 c1] := HRA.out.below hx1 hs12; have HB3 := Lib.hid (HB2.out.trans (hx1.mono HB2.out.size)); have HB3a : Hid (Below W.heap.size W (w3.alloc (.cells #[.int .i64 1, .slice A3 13 c3] 24))) := Lib.hid (HB3.out.alloc HB3.out.size _); have HRA3 := Lib.hid (hxa.alloc (.cells #[.int .i64 1, .slice A3 13 c3] 24)); have HRB3 := Lib.hid (hxr.alloc (.cells #[.int .i64 1, .slice A3 13 c3] 24)); have HRC3 : Hid (RowAt (w3.alloc (.cells #[.int .i64 1, .slice A3 13 c3] 24)) w3.heap.size 24 #[.int .i64 1, .slice A3 13 c3]) := Lib.hid (RowAt.new w3 _ _); have hya : Below w3.heap.size w3 (w3.alloc (.cells #[.int .i64 1, .slice A3 13 c3] 24)) := (Below.refl _ _).alloc (Nat.le_refl _) _; have HR13 := Lib.hid ((HR12.out.below hx1).below hya); have HR23 := Lib.hid ((HR2.out.below hx1).below hya); have HR33 := Lib.hid (hr3.below hya); have k10 := (hxa.cell 0).trans rfl; have k11 := (hxa.cell 1).trans rfl; have kl1 := hxa.lt; clear hb3 hr3 hx1 hxr hxa hya))
              | (go_at_call 13; ((with_reducible refine (find_star HR13.out (by have := HUL.out; omega) HF1.out).mono ?_); rintro e w4 ⟨A4, c4, rfl, hb4, hr4⟩; have HB4 := Lib.hid (HB3a.out.trans (hb4.mono HB3a.out.size)); have HX4 := Lib.hid hb4; have HR4 := Lib.hid hr4; have q1 := HRB3.out.below hb4 HRB3.out.lt; have k20 := (q1.cell 0).trans rfl; have k21 := (q1.cell 1).trans rfl; clear hb4 hr4 q1))
              | (go_at_call 13; go_must (refine (find_lazy (HR23.out.below HX4.out) (by have := HUL.out; omega) HF2.out).mono ?_; rintro e w5 ⟨A5, c5, rfl, hb5, hr5⟩; have hx5 := HX4.out.trans (hb5.mono HX4.out.size); have HX5 := Lib.hid hx5; have HB5 := Lib.hid (HB4.out.trans (hb5.mono HB4.out.size)); have HR45 := Lib.hid (HR4.out.below hb5); have HR5 := Lib.hid hr5; clear hb5 hr5 hx5))
              | (go_at_call 16; ((with_reducible refine (two_known HR45.out _ rfl).mono ?_); rintro e w6 ⟨rfl, hb6⟩; have HX6 := Lib.hid (HX5.out.trans (hb6.mono HX5.out.size)); have HB6 := Lib.hid (HB5.out.trans (hb6.mono HB5.out.size)); have HR56 := Lib.hid (HR5.out.below hb6); clear hb6))
              | (go_at_call 16; go_must (refine (two_known HR56.out _ rfl).mono ?_; rintro e w7 ⟨rfl, hb7⟩; have hx7 := HX6.out.trans (hb7.mono HX6.out.size); have HX7 := Lib.hid hx7; have HB7 := Lib.hid (HB6.out.trans (hb7.mono HB6.out.size)); have q1 := HRC3.out.below hx7 HRC3.out.lt; have k30 := (q1.cell 0).trans rfl; have k31 := (q1.cell 1).trans rfl; clear hb7 hx7 q1))
              | (go_at_call 17; go_must (refine (is_pair (HR33.out.below HX7.out) (by have := HLL3.out; omega) HF3.out).mono ?_; rintro e w8 ⟨rfl, hb8⟩; have HB8 := Lib.hid (HB7.out.trans (hb8.mono HB7.out.size)); clear hb8))
              | (go_at_call 12; go_must (refine (HK.out _).mono ?_; rintro e w9 ⟨rfl, hb9⟩; have HB9 := Lib.hid (HB8.out.trans (hb9.mono HB8.out.size)); clear hb9))
            go_ret
            exact ⟨rfl, HB9.out⟩
end Go.Proofs.Ytedppnejkjcplaa
