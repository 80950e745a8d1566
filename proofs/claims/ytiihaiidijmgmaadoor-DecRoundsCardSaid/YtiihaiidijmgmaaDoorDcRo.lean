/-
  CONTRACTS: the walk of DecRounds.
-/
import Derived.Test.YtiihaiidijmgmaaDoorDcNo
namespace Go.Proofs.YtiihaiidijmgmaaDoor
open Go.RowKit

namespace Dc
theorem plain_not46 {u k : Nat} (hu : u ≤ 18446744073709551615) (h : k < (plain u).length) : (plain u)[k] ≠ 46 := by
  have h1 := isD_of_allD (plain_all (lt20 hu)) k h
  have := (isD_iff.1 h1).1
  intro e
  rw [e] at this
  exact absurd this (by decide)
/-- Where the dot is, in a number in digits. -/
theorem pbod_dot {u : Nat} (hu : u ≤ 4611686018427387904) (k : Nat) (h : k < (pbod u).length) : (pbod u)[k] = 46 ↔ (decide (u % 1000000 ≠ 0) = true ∧ k = (plain (u / 1000000)).length) := by
  have hq : u / 1000000 ≤ 18446744073709551615 := by omega
  have hr : u % 1000000 < 1000000 := Nat.mod_lt _ (by decide)
  obtain ⟨x, hx⟩ : ∃ x, (pbod u)[k]? = some x := ⟨_, List.getElem?_eq_getElem h⟩
  have hx2 : (pbod u)[k] = x := by rw [List.getElem?_eq_getElem h] at hx; exact Option.some.inj hx
  rw [hx2]
  unfold pbod at hx
  by_cases hk : k < (plain (u / 1000000)).length
  · rw [List.getElem?_append_left hk, List.getElem?_eq_getElem hk] at hx
    have hne := plain_not46 hq hk
    rw [Option.some.inj hx] at hne
    exact ⟨fun e => absurd e hne, fun e => by omega⟩
  · rw [List.getElem?_append_right (by omega)] at hx
    unfold fracText at hx
    by_cases h0 : u % 1000000 = 0
    · rw [if_pos h0] at hx; cases hx
    · rw [if_neg h0] at hx
      have hd : decide (u % 1000000 ≠ 0) = true := decide_eq_true h0
      cases hj : k - (plain (u / 1000000)).length with
      | zero =>
        rw [hj] at hx
        have e : (46 : UInt8) = x := Option.some.inj hx
        exact ⟨fun _ => ⟨hd, by omega⟩, fun _ => e.symm⟩
      | succ j =>
        rw [hj, List.getElem?_cons_succ] at hx
        refine ⟨fun e => ?_, fun e => by omega⟩
        exfalso
        have hm := List.mem_of_getElem? hx
        have hall := List.all_eq_true.1 (allD_trim (six_all hr)) x hm
        have := (isD_iff.1 hall).1
        rw [e] at this
        exact absurd this (by decide)
theorem pbod_whole {u : Nat} (h : decide (u % 1000000 ≠ 0) = false) : (pbod u).length = (plain (u / 1000000)).length := by
  have h0 : u % 1000000 = 0 := by simpa using h
  unfold pbod fracText
  rw [h0, if_pos rfl, List.append_nil]
theorem dotb_len (u : Nat) : (dotb u).length = (plain (u / 1000000)).length + 1 + (trimZ (six (u % 1000000))).length := by
  unfold dotb
  rw [List.length_append, List.length_cons]
  omega
/-- With noughts behind it until there are six digits behind the dot. -/
theorem dotb_six {u j : Nat} (h : (zB (dotb u) j).length = (plain (u / 1000000)).length + 7) : zB (dotb u) j = plain (u / 1000000) ++ 46 :: six (u % 1000000) := by
  have hr : u % 1000000 < 1000000 := Nat.mod_lt _ (by decide)
  obtain ⟨k, hk⟩ := trimZ_spec (six (u % 1000000))
  have hl := congrArg List.length hk
  rw [six_len hr, List.length_append, List.length_replicate] at hl
  rw [zB_len, dotb_len] at h
  have hj : j = k := by omega
  conv => rhs; rw [hk]
  unfold zB dotb
  rw [hj]
  simp
theorem trim6 (u : Nat) : (trimZ (six (u % 1000000))).length ≤ 6 := by
  have hr : u % 1000000 < 1000000 := Nat.mod_lt _ (by decide)
  exact Nat.le_trans (trim_len _) (by rw [six_len hr]; omega)
end Dc

set_option maxHeartbeats 4000000 in
theorem lawRounds_main (n : Int) (h0 : 0 ≤ n) (h1 : n ≤ 1099511627776) (D : Nat) (hD : D ≤ 9) (w : World) :
    Calls Tryd.prog 7 #[.int .i64 n, .int .i64 D] w fun e w' => e = .returned (.bool true) ∧ Below w.heap.size w w' := by
  have hk : Fx.inR n = true := Fx.inR_yes (by omega) (by omega)
  have hu : n.toNat ≤ 4611686018427387904 := by omega
  have hpr : Dc.pr true n = Dc.pbod n.toNat := by
    unfold Dc.pr Dc.sgn
    rw [if_pos (by rw [Dc.knownB_num]; exact Fx.num_yes hk), if_neg (by omega), show n.natAbs = n.toNat by omega]
    rfl
  have P1 := fun W => refPrint_any true n W
  rw [hpr] at P1
  have H1 := Lib.hid P1
  have hlen := Dc.pbod_len n.toNat
  have hdot : Hid (∀ k (h : k < (Dc.pbod n.toNat).length), (Dc.pbod n.toNat)[k] = 46 ↔ (decide (n.toNat % 1000000 ≠ 0) = true ∧ k = (Dc.plain (n.toNat / 1000000)).length)) := Lib.hid fun k h => Dc.pbod_dot hu k h
  have hwh : Hid (decide (n.toNat % 1000000 ≠ 0) = false → (Dc.pbod n.toNat).length = (Dc.plain (n.toNat / 1000000)).length) := Lib.hid Dc.pbod_whole
  have hpl : (Dc.plain (n.toNat / 1000000)).length ≤ 20 := Dc.plain_length _
  have hdy : Hid (decide (n.toNat % 1000000 ≠ 0) = true → Dc.dotb n.toNat = Dc.pbod n.toNat) := Lib.hid Dc.dotb_yes
  have hdn : Hid (decide (n.toNat % 1000000 ≠ 0) = false → Dc.dotb n.toNat = Dc.pbod n.toNat ++ [46]) := Lib.hid Dc.dotb_no
  have hdl := Dc.dotb_len n.toNat
  have ht6 := Dc.trim6 n.toNat
  have hdlo : (Dc.plain (n.toNat / 1000000)).length + 1 ≤ (Dc.dotb n.toNat).length := by omega
  have hdhi : (Dc.dotb n.toNat).length ≤ (Dc.plain (n.toNat / 1000000)).length + 7 := by omega
  clear hdl ht6
  have hpy : Hid (decide (n.toNat % 1000000 ≠ 0) = true → (Dc.plain (n.toNat / 1000000)).length < (Dc.pbod n.toNat).length) := by
    apply Lib.hid
    intro h
    have := hdy.out h
    rw [← this]
    omega
  obtain ⟨c, hc⟩ : ∃ c, c = UInt8.ofNat (48 + D % 10) := ⟨_, rfl⟩
  have hcn : c.toNat = 48 + D := by rw [hc, Dc.dig_toNat]; omega
  have hcd : Dc.isD c = true := Dc.isD_iff.2 (by omega)
  have rp := Dc.rounds_parse (u := n.toNat) (by omega) false c hcd
  have rm := Dc.rounds_parse (u := n.toNat) (by omega) true c hcd
  obtain ⟨V, hV⟩ : ∃ V : Int, V = if 5 ≤ D then n + 1 else n := ⟨_, rfl⟩
  have e1 : ((if 53 ≤ c.toNat then n.toNat + 1 else n.toNat : Nat) : Int) = V := by
    rw [hV, hcn]
    by_cases h5 : 5 ≤ D
    · rw [if_pos (by omega), if_pos h5]; omega
    · rw [if_neg (by omega), if_neg h5]; omega
  rw [e1] at rp rm
  have hl6 := Dc.six_len (n := n.toNat % 1000000) (Nat.mod_lt _ (by decide))
  have PP := fun W => parse_prog (Dc.plain (n.toNat / 1000000) ++ 46 :: (Dc.six (n.toNat % 1000000) ++ [c])) (by simp; omega) W
  have PM := fun W => parse_prog (45 :: (Dc.plain (n.toNat / 1000000) ++ 46 :: (Dc.six (n.toNat % 1000000) ++ [c]))) (by simp; omega) W
  have rp1 : Dc.prOk (Dc.plain (n.toNat / 1000000) ++ 46 :: (Dc.six (n.toNat % 1000000) ++ [c])) = true := rp.1
  have rp2 : Dc.prV (Dc.plain (n.toNat / 1000000) ++ 46 :: (Dc.six (n.toNat % 1000000) ++ [c])) = V := rp.2
  have rm1 : Dc.prOk (45 :: (Dc.plain (n.toNat / 1000000) ++ 46 :: (Dc.six (n.toNat % 1000000) ++ [c]))) = true := rm.1
  have rm2 : Dc.prV (45 :: (Dc.plain (n.toNat / 1000000) ++ 46 :: (Dc.six (n.toNat % 1000000) ++ [c]))) = -V := rm.2
  rw [rp1, rp2] at PP
  rw [rm1, rm2] at PM
  have hs6 : Hid (∀ j, (Dc.zB (Dc.dotb n.toNat) j).length = (Dc.plain (n.toNat / 1000000)).length + 7 → Dc.zB (Dc.dotb n.toNat) j = Dc.plain (n.toNat / 1000000) ++ 46 :: Dc.six (n.toNat % 1000000)) := Lib.hid fun j h => Dc.dotb_six h
  have ea : Dc.plain (n.toNat / 1000000) ++ 46 :: (Dc.six (n.toNat % 1000000) ++ [c]) = (Dc.plain (n.toNat / 1000000) ++ 46 :: Dc.six (n.toNat % 1000000)) ++ [c] := by simp
  rw [ea] at PP PM
  have HP := Lib.hid PP
  have HM := Lib.hid PM
  have hfl : (Dc.plain (n.toNat / 1000000) ++ 46 :: Dc.six (n.toNat % 1000000)).length ≤ 27 := by rw [List.length_append, List.length_cons]; omega
  have kc : ∀ W : World, (convert 35 9 (.slice (some ⟨W.heap.size, 0, none⟩) 1 1)).run Tryd.prog (W.alloc (.cells #[.int .u8 (48 + (D : Int))] 5)) = .ok (.string ⟨[c].toArray⟩) (W.alloc (.cells #[.int .u8 (48 + (D : Int))] 5)) := by
    intro W
    refine run_convert_bytes_back _ _ _ 5 ⟨W.heap.size, 0, none⟩ 1 [c] Tryd.underlying35 Tryd.underlying5 Tryd.underlying9 fun j hj => ?_
    obtain rfl : j = 0 := by simp at hj; omega
    have e : ((48 : Int) + (D : Int)) = ((c.toNat : Nat) : Int) := by rw [hcn]; omega
    rw [e]
    simp [go_sem, Addr.add]
  have kc2 : ∀ (W : World) (o : Obj), (convert 35 9 (.slice (some ⟨W.heap.size + 1, 0, none⟩) 1 1)).run Tryd.prog ((W.alloc o).alloc (.cells #[.int .u8 (48 + (D : Int))] 5)) = .ok (.string ⟨[c].toArray⟩) ((W.alloc o).alloc (.cells #[.int .u8 (48 + (D : Int))] 5)) := by
    intro W o
    have h := kc (W.alloc o)
    have e : (W.alloc o).heap.size = W.heap.size + 1 := by simp
    rw [e] at h
    exact h
  have HV := Lib.hid hV
  clear hk hu hpr P1 hc hcn hcd rp rm e1 hl6 PP PM rp1 rp2 rm1 rm2 ea hV
  generalize Dc.plain (n.toNat / 1000000) ++ 46 :: Dc.six (n.toNat % 1000000) = t7 at *
  generalize decide (n.toNat % 1000000 ≠ 0) = dt at *
  generalize Dc.pbod n.toNat = t at *
  generalize Dc.dotb n.toNat = t2 at *
  generalize (Dc.plain (n.toNat / 1000000)).length = p at *
  go_enter Tryd.func7, Tryd.ntmps7
  go_wp2_with (first | (go_at_call 12; (((with_reducible refine (H1.out _).mono ?_)); rintro e w1 ⟨rfl, hb1⟩; obtain ⟨hc1, hf1⟩ := bcell hb1; (try have hq1w : w.heap.size < w1.heap.size := Nat.lt_of_lt_of_le (by first | assumption | (simp; done) | (simp; omega)) hb1.size); have hs1 := hb1.size; (try simp at hs1))))
  go_loop [6, 7] (fun d i => ∃ k : Nat, k ≤ t.length ∧ i = .int .i64 k ∧ ∃ d0 : Int, d = .int .i64 d0 ∧ Hid (d0 = if dt = true ∧ p < k then (p : Int) else -1)) (fun _ i => t.length - (intOf i).toNat)
  case atStart => exact ⟨0, Nat.zero_le _, rfl, -1, rfl, Lib.hid (by rw [if_neg (by omega)])⟩
  case round =>
    obtain ⟨k, hk, rfl, d0, rfl, hd⟩ := hrel
    by_cases hlt : k < t.length
    · by_cases hb : t[k] = 46
      · have hb2 : (((⟨t.toArray⟩ : ByteArray)[k]'hlt).toNat == 46) = true := by show (t[k].toNat == 46) = true; rw [hb]; rfl
        have HB := Lib.hid ((hdot.out k hlt).1 hb)
        clear hb
        go_wp2
        go_round
        case rel => exact ⟨k + 1, by omega, by go_num, (k : Int), rfl, Lib.hid (by rw [if_pos ⟨HB.out.1, by have := HB.out.2; omega⟩, HB.out.2])⟩
        case measure => simp [intOf]; omega
      · have hb2 : (((⟨t.toArray⟩ : ByteArray)[k]'hlt).toNat == 46) = false := by
          show (t[k].toNat == 46) = false
          rw [beq_eq_false_iff_ne]
          intro e
          exact hb (UInt8.toNat_inj.1 e)
        have HB := Lib.hid (fun h => hb ((hdot.out k hlt).2 h))
        clear hb
        go_wp2
        go_round
        case rel =>
          refine ⟨k + 1, by omega, by go_num, d0, rfl, Lib.hid ?_⟩
          rw [hd.out]
          by_cases hdt : dt = true
          · have hkp : k ≠ p := fun e => HB.out ⟨hdt, e⟩
            by_cases hpk : p < k
            · rw [if_pos ⟨hdt, hpk⟩, if_pos ⟨hdt, by omega⟩]
            · rw [if_neg (fun h => hpk h.2), if_neg (fun h => by omega)]
          · rw [if_neg (fun h => hdt h.1), if_neg (fun h => hdt h.1)]
        case measure => simp [intOf]; omega
    · obtain rfl : k = t.length := by omega
      clear hdot
      by_cases h5 : 5 ≤ D
      · have hv : Hid (V = n + 1) := Lib.hid (by rw [HV.out, if_pos h5])
        obtain rfl : V = n + 1 := hv.out
        clear hv HV
        cases dt
        · have hd2 : d0 = -1 := by rw [hd.out, if_neg (fun h => by cases h.1)]
          subst hd2
          have h2 := Lib.hid (hdn.out rfl)
          have hp : t.length = p := hwh.out rfl
          subst hp
          have hc46 : (⟨t.toArray⟩ : ByteArray) ++ ⟨[46].toArray⟩ = ⟨t2.toArray⟩ := by rw [cat_mk, h2.out]
          clear hdn hdy hwh hpy hd
          go_wp2
          go_loop [5] (fun s => ∃ j : Nat, (Dc.zB t2 j).length ≤ t.length + 7 ∧ s = .string ⟨(Dc.zB t2 j).toArray⟩) (fun s => t.length + 7 - strLen s)
          case atStart => exact ⟨0, by rw [Dc.zB_len]; omega, by unfold Dc.zB; simp⟩
          case round =>
            obtain ⟨j, hj, rfl⟩ := hrel
            by_cases hjl : (Dc.zB t2 j).length < t.length + 7
            · have hcat : (⟨(Dc.zB t2 j).toArray⟩ : ByteArray) ++ ⟨[48].toArray⟩ = ⟨(Dc.zB t2 (j + 1)).toArray⟩ := by rw [cat_mk, Dc.zB_succ]
              have hl1 : Hid ((Dc.zB t2 (j + 1)).length = (Dc.zB t2 j).length + 1) := Lib.hid (by rw [Dc.zB_len, Dc.zB_len]; omega)
              go_wp2
              go_round
              case rel => exact ⟨j + 1, by have := hl1.out; omega, rfl⟩
              case measure => have := hl1.out; simp [strLen, ByteArray.size]; omega
            · have hz := Lib.hid (hs6.out j (by omega))
              have hjl2 : Hid ((Dc.zB t2 j).length = t.length + 7) := Lib.hid (by omega)
              have hjl' : (t.length : Int) + 7 ≤ ((Dc.zB t2 j).length : Int) := by omega
              generalize Dc.zB t2 j = t3 at *
              have hz2 := hz.out
              subst hz2
              have hcat : (⟨t3.toArray⟩ : ByteArray) ++ ⟨[c].toArray⟩ = ⟨(t3 ++ [c]).toArray⟩ := cat_mk _ _
              have hcat2 : (⟨[45].toArray⟩ : ByteArray) ++ ⟨t3.toArray⟩ ++ ⟨[c].toArray⟩ = ⟨(45 :: (t3 ++ [c])).toArray⟩ := by rw [cat_mk, cat_mk]; simp
              generalize t3 ++ [c] = t8 at *
              clear hs6 hz
              go_wp2_with (first | (go_at_call 8; (((with_reducible refine (HP.out _).mono ?_)); rintro e w2 ⟨rfl, hb2⟩; obtain ⟨hc2, hf2⟩ := bcell hb2; (try have hq2w : w.heap.size < w2.heap.size := Nat.lt_of_lt_of_le (by first | assumption | (simp; done) | (simp; omega)) hb2.size); (try have hq2w1 : w1.heap.size < w2.heap.size := Nat.lt_of_lt_of_le (by first | assumption | (simp; done) | (simp; omega)) hb2.size); have hs2 := hb2.size; (try simp at hs2))) | (go_at_call 8; (((with_reducible refine (HM.out _).mono ?_)); rintro e w3 ⟨rfl, hb3⟩; obtain ⟨hc3, hf3⟩ := bcell hb3; (try have hq3w : w.heap.size < w3.heap.size := Nat.lt_of_lt_of_le (by first | assumption | (simp; done) | (simp; omega)) hb3.size); (try have hq3w1 : w1.heap.size < w3.heap.size := Nat.lt_of_lt_of_le (by first | assumption | (simp; done) | (simp; omega)) hb3.size); (try have hq3w2 : w2.heap.size < w3.heap.size := Nat.lt_of_lt_of_le (by first | assumption | (simp; done) | (simp; omega)) hb3.size); have hs3 := hb3.size; (try simp at hs3))) | (go_at_call 10; (((with_reducible refine (known2_any _).mono ?_)); rintro e w4 ⟨rfl, hb4⟩; obtain ⟨hc4, hf4⟩ := bcell hb4; (try have hq4w : w.heap.size < w4.heap.size := Nat.lt_of_lt_of_le (by first | assumption | (simp; done) | (simp; omega)) hb4.size); (try have hq4w1 : w1.heap.size < w4.heap.size := Nat.lt_of_lt_of_le (by first | assumption | (simp; done) | (simp; omega)) hb4.size); (try have hq4w2 : w2.heap.size < w4.heap.size := Nat.lt_of_lt_of_le (by first | assumption | (simp; done) | (simp; omega)) hb4.size); (try have hq4w3 : w3.heap.size < w4.heap.size := Nat.lt_of_lt_of_le (by first | assumption | (simp; done) | (simp; omega)) hb4.size); have hs4 := hb4.size; (try simp at hs4))))
              go_ret
              exact ⟨rfl, (by repeat (first | exact Below.refl _ _ | assumption | refine Below.setCell ?_ (by first | (simp; done) | omega | (simp; omega) | (simp at *; omega)) _ | refine Below.alloc ?_ (by first | (simp; done) | omega | (simp; omega) | (simp at *; omega)) _ | refine Below.drew ?_ | (refine Below.trans ?_ (Below.mono (by assumption) (by first | (simp; done) | omega | (simp; omega) | (simp at *; omega)))) | (refine Below.trans ?_ (Below.mono (below_regrown _ _ _) (by first | (simp; done) | omega | (simp; omega) | (simp at *; omega))))))⟩
        · have hd2 : d0 = (p : Int) := by rw [hd.out, if_pos ⟨rfl, hpy.out rfl⟩]
          subst hd2
          have h2 := Lib.hid (hdy.out rfl)
          have hsl : Hid (t = t2) := Lib.hid h2.out.symm
          clear hdn hdy hwh hpy hd
          go_wp2
          go_loop [5] (fun s => ∃ j : Nat, (Dc.zB t2 j).length ≤ p + 7 ∧ s = .string ⟨(Dc.zB t2 j).toArray⟩) (fun s => p + 7 - strLen s)
          case atStart => exact ⟨0, by rw [Dc.zB_len]; omega, by unfold Dc.zB; simp; exact hsl.out⟩
          case round =>
            obtain ⟨j, hj, rfl⟩ := hrel
            by_cases hjl : (Dc.zB t2 j).length < p + 7
            · have hcat : (⟨(Dc.zB t2 j).toArray⟩ : ByteArray) ++ ⟨[48].toArray⟩ = ⟨(Dc.zB t2 (j + 1)).toArray⟩ := by rw [cat_mk, Dc.zB_succ]
              have hl1 : Hid ((Dc.zB t2 (j + 1)).length = (Dc.zB t2 j).length + 1) := Lib.hid (by rw [Dc.zB_len, Dc.zB_len]; omega)
              go_wp2
              go_round
              case rel => exact ⟨j + 1, by have := hl1.out; omega, rfl⟩
              case measure => have := hl1.out; simp [strLen, ByteArray.size]; omega
            · have hz := Lib.hid (hs6.out j (by omega))
              have hjl2 : Hid ((Dc.zB t2 j).length = p + 7) := Lib.hid (by omega)
              have hjl' : (p : Int) + 7 ≤ ((Dc.zB t2 j).length : Int) := by omega
              generalize Dc.zB t2 j = t3 at *
              have hz2 := hz.out
              subst hz2
              have hcat : (⟨t3.toArray⟩ : ByteArray) ++ ⟨[c].toArray⟩ = ⟨(t3 ++ [c]).toArray⟩ := cat_mk _ _
              have hcat2 : (⟨[45].toArray⟩ : ByteArray) ++ ⟨t3.toArray⟩ ++ ⟨[c].toArray⟩ = ⟨(45 :: (t3 ++ [c])).toArray⟩ := by rw [cat_mk, cat_mk]; simp
              generalize t3 ++ [c] = t8 at *
              clear hs6 hz
              go_wp2_with (first | (go_at_call 8; (((with_reducible refine (HP.out _).mono ?_)); rintro e w2 ⟨rfl, hb2⟩; obtain ⟨hc2, hf2⟩ := bcell hb2; (try have hq2w : w.heap.size < w2.heap.size := Nat.lt_of_lt_of_le (by first | assumption | (simp; done) | (simp; omega)) hb2.size); (try have hq2w1 : w1.heap.size < w2.heap.size := Nat.lt_of_lt_of_le (by first | assumption | (simp; done) | (simp; omega)) hb2.size); have hs2 := hb2.size; (try simp at hs2))) | (go_at_call 8; (((with_reducible refine (HM.out _).mono ?_)); rintro e w3 ⟨rfl, hb3⟩; obtain ⟨hc3, hf3⟩ := bcell hb3; (try have hq3w : w.heap.size < w3.heap.size := Nat.lt_of_lt_of_le (by first | assumption | (simp; done) | (simp; omega)) hb3.size); (try have hq3w1 : w1.heap.size < w3.heap.size := Nat.lt_of_lt_of_le (by first | assumption | (simp; done) | (simp; omega)) hb3.size); (try have hq3w2 : w2.heap.size < w3.heap.size := Nat.lt_of_lt_of_le (by first | assumption | (simp; done) | (simp; omega)) hb3.size); have hs3 := hb3.size; (try simp at hs3))) | (go_at_call 10; (((with_reducible refine (known2_any _).mono ?_)); rintro e w4 ⟨rfl, hb4⟩; obtain ⟨hc4, hf4⟩ := bcell hb4; (try have hq4w : w.heap.size < w4.heap.size := Nat.lt_of_lt_of_le (by first | assumption | (simp; done) | (simp; omega)) hb4.size); (try have hq4w1 : w1.heap.size < w4.heap.size := Nat.lt_of_lt_of_le (by first | assumption | (simp; done) | (simp; omega)) hb4.size); (try have hq4w2 : w2.heap.size < w4.heap.size := Nat.lt_of_lt_of_le (by first | assumption | (simp; done) | (simp; omega)) hb4.size); (try have hq4w3 : w3.heap.size < w4.heap.size := Nat.lt_of_lt_of_le (by first | assumption | (simp; done) | (simp; omega)) hb4.size); have hs4 := hb4.size; (try simp at hs4))))
              go_ret
              exact ⟨rfl, (by repeat (first | exact Below.refl _ _ | assumption | refine Below.setCell ?_ (by first | (simp; done) | omega | (simp; omega) | (simp at *; omega)) _ | refine Below.alloc ?_ (by first | (simp; done) | omega | (simp; omega) | (simp at *; omega)) _ | refine Below.drew ?_ | (refine Below.trans ?_ (Below.mono (by assumption) (by first | (simp; done) | omega | (simp; omega) | (simp at *; omega)))) | (refine Below.trans ?_ (Below.mono (below_regrown _ _ _) (by first | (simp; done) | omega | (simp; omega) | (simp at *; omega))))))⟩
      · have hv : Hid (V = n) := Lib.hid (by rw [HV.out, if_neg h5])
        obtain rfl : V = n := hv.out
        clear hv HV
        have h5' : (D : Int) < 5 := by omega
        cases dt
        · have hd2 : d0 = -1 := by rw [hd.out, if_neg (fun h => by cases h.1)]
          subst hd2
          have h2 := Lib.hid (hdn.out rfl)
          have hp : t.length = p := hwh.out rfl
          subst hp
          have hc46 : (⟨t.toArray⟩ : ByteArray) ++ ⟨[46].toArray⟩ = ⟨t2.toArray⟩ := by rw [cat_mk, h2.out]
          clear hdn hdy hwh hpy hd
          go_wp2
          go_loop [5] (fun s => ∃ j : Nat, (Dc.zB t2 j).length ≤ t.length + 7 ∧ s = .string ⟨(Dc.zB t2 j).toArray⟩) (fun s => t.length + 7 - strLen s)
          case atStart => exact ⟨0, by rw [Dc.zB_len]; omega, by unfold Dc.zB; simp⟩
          case round =>
            obtain ⟨j, hj, rfl⟩ := hrel
            by_cases hjl : (Dc.zB t2 j).length < t.length + 7
            · have hcat : (⟨(Dc.zB t2 j).toArray⟩ : ByteArray) ++ ⟨[48].toArray⟩ = ⟨(Dc.zB t2 (j + 1)).toArray⟩ := by rw [cat_mk, Dc.zB_succ]
              have hl1 : Hid ((Dc.zB t2 (j + 1)).length = (Dc.zB t2 j).length + 1) := Lib.hid (by rw [Dc.zB_len, Dc.zB_len]; omega)
              go_wp2
              go_round
              case rel => exact ⟨j + 1, by have := hl1.out; omega, rfl⟩
              case measure => have := hl1.out; simp [strLen, ByteArray.size]; omega
            · have hz := Lib.hid (hs6.out j (by omega))
              have hjl2 : Hid ((Dc.zB t2 j).length = t.length + 7) := Lib.hid (by omega)
              have hjl' : (t.length : Int) + 7 ≤ ((Dc.zB t2 j).length : Int) := by omega
              generalize Dc.zB t2 j = t3 at *
              have hz2 := hz.out
              subst hz2
              have hcat : (⟨t3.toArray⟩ : ByteArray) ++ ⟨[c].toArray⟩ = ⟨(t3 ++ [c]).toArray⟩ := cat_mk _ _
              have hcat2 : (⟨[45].toArray⟩ : ByteArray) ++ ⟨t3.toArray⟩ ++ ⟨[c].toArray⟩ = ⟨(45 :: (t3 ++ [c])).toArray⟩ := by rw [cat_mk, cat_mk]; simp
              generalize t3 ++ [c] = t8 at *
              clear hs6 hz
              go_wp2_with (first | (go_at_call 8; (((with_reducible refine (HP.out _).mono ?_)); rintro e w2 ⟨rfl, hb2⟩; obtain ⟨hc2, hf2⟩ := bcell hb2; (try have hq2w : w.heap.size < w2.heap.size := Nat.lt_of_lt_of_le (by first | assumption | (simp; done) | (simp; omega)) hb2.size); (try have hq2w1 : w1.heap.size < w2.heap.size := Nat.lt_of_lt_of_le (by first | assumption | (simp; done) | (simp; omega)) hb2.size); have hs2 := hb2.size; (try simp at hs2))) | (go_at_call 8; (((with_reducible refine (HM.out _).mono ?_)); rintro e w3 ⟨rfl, hb3⟩; obtain ⟨hc3, hf3⟩ := bcell hb3; (try have hq3w : w.heap.size < w3.heap.size := Nat.lt_of_lt_of_le (by first | assumption | (simp; done) | (simp; omega)) hb3.size); (try have hq3w1 : w1.heap.size < w3.heap.size := Nat.lt_of_lt_of_le (by first | assumption | (simp; done) | (simp; omega)) hb3.size); (try have hq3w2 : w2.heap.size < w3.heap.size := Nat.lt_of_lt_of_le (by first | assumption | (simp; done) | (simp; omega)) hb3.size); have hs3 := hb3.size; (try simp at hs3))) | (go_at_call 10; (((with_reducible refine (known2_any _).mono ?_)); rintro e w4 ⟨rfl, hb4⟩; obtain ⟨hc4, hf4⟩ := bcell hb4; (try have hq4w : w.heap.size < w4.heap.size := Nat.lt_of_lt_of_le (by first | assumption | (simp; done) | (simp; omega)) hb4.size); (try have hq4w1 : w1.heap.size < w4.heap.size := Nat.lt_of_lt_of_le (by first | assumption | (simp; done) | (simp; omega)) hb4.size); (try have hq4w2 : w2.heap.size < w4.heap.size := Nat.lt_of_lt_of_le (by first | assumption | (simp; done) | (simp; omega)) hb4.size); (try have hq4w3 : w3.heap.size < w4.heap.size := Nat.lt_of_lt_of_le (by first | assumption | (simp; done) | (simp; omega)) hb4.size); have hs4 := hb4.size; (try simp at hs4))))
              go_ret
              exact ⟨rfl, (by repeat (first | exact Below.refl _ _ | assumption | refine Below.setCell ?_ (by first | (simp; done) | omega | (simp; omega) | (simp at *; omega)) _ | refine Below.alloc ?_ (by first | (simp; done) | omega | (simp; omega) | (simp at *; omega)) _ | refine Below.drew ?_ | (refine Below.trans ?_ (Below.mono (by assumption) (by first | (simp; done) | omega | (simp; omega) | (simp at *; omega)))) | (refine Below.trans ?_ (Below.mono (below_regrown _ _ _) (by first | (simp; done) | omega | (simp; omega) | (simp at *; omega))))))⟩
        · have hd2 : d0 = (p : Int) := by rw [hd.out, if_pos ⟨rfl, hpy.out rfl⟩]
          subst hd2
          have h2 := Lib.hid (hdy.out rfl)
          have hsl : Hid (t = t2) := Lib.hid h2.out.symm
          clear hdn hdy hwh hpy hd
          go_wp2
          go_loop [5] (fun s => ∃ j : Nat, (Dc.zB t2 j).length ≤ p + 7 ∧ s = .string ⟨(Dc.zB t2 j).toArray⟩) (fun s => p + 7 - strLen s)
          case atStart => exact ⟨0, by rw [Dc.zB_len]; omega, by unfold Dc.zB; simp; exact hsl.out⟩
          case round =>
            obtain ⟨j, hj, rfl⟩ := hrel
            by_cases hjl : (Dc.zB t2 j).length < p + 7
            · have hcat : (⟨(Dc.zB t2 j).toArray⟩ : ByteArray) ++ ⟨[48].toArray⟩ = ⟨(Dc.zB t2 (j + 1)).toArray⟩ := by rw [cat_mk, Dc.zB_succ]
              have hl1 : Hid ((Dc.zB t2 (j + 1)).length = (Dc.zB t2 j).length + 1) := Lib.hid (by rw [Dc.zB_len, Dc.zB_len]; omega)
              go_wp2
              go_round
              case rel => exact ⟨j + 1, by have := hl1.out; omega, rfl⟩
              case measure => have := hl1.out; simp [strLen, ByteArray.size]; omega
            · have hz := Lib.hid (hs6.out j (by omega))
              have hjl2 : Hid ((Dc.zB t2 j).length = p + 7) := Lib.hid (by omega)
              have hjl' : (p : Int) + 7 ≤ ((Dc.zB t2 j).length : Int) := by omega
              generalize Dc.zB t2 j = t3 at *
              have hz2 := hz.out
              subst hz2
              have hcat : (⟨t3.toArray⟩ : ByteArray) ++ ⟨[c].toArray⟩ = ⟨(t3 ++ [c]).toArray⟩ := cat_mk _ _
              have hcat2 : (⟨[45].toArray⟩ : ByteArray) ++ ⟨t3.toArray⟩ ++ ⟨[c].toArray⟩ = ⟨(45 :: (t3 ++ [c])).toArray⟩ := by rw [cat_mk, cat_mk]; simp
              generalize t3 ++ [c] = t8 at *
              clear hs6 hz
              go_wp2_with (first | (go_at_call 8; (((with_reducible refine (HP.out _).mono ?_)); rintro e w2 ⟨rfl, hb2⟩; obtain ⟨hc2, hf2⟩ := bcell hb2; (try have hq2w : w.heap.size < w2.heap.size := Nat.lt_of_lt_of_le (by first | assumption | (simp; done) | (simp; omega)) hb2.size); (try have hq2w1 : w1.heap.size < w2.heap.size := Nat.lt_of_lt_of_le (by first | assumption | (simp; done) | (simp; omega)) hb2.size); have hs2 := hb2.size; (try simp at hs2))) | (go_at_call 8; (((with_reducible refine (HM.out _).mono ?_)); rintro e w3 ⟨rfl, hb3⟩; obtain ⟨hc3, hf3⟩ := bcell hb3; (try have hq3w : w.heap.size < w3.heap.size := Nat.lt_of_lt_of_le (by first | assumption | (simp; done) | (simp; omega)) hb3.size); (try have hq3w1 : w1.heap.size < w3.heap.size := Nat.lt_of_lt_of_le (by first | assumption | (simp; done) | (simp; omega)) hb3.size); (try have hq3w2 : w2.heap.size < w3.heap.size := Nat.lt_of_lt_of_le (by first | assumption | (simp; done) | (simp; omega)) hb3.size); have hs3 := hb3.size; (try simp at hs3))) | (go_at_call 10; (((with_reducible refine (known2_any _).mono ?_)); rintro e w4 ⟨rfl, hb4⟩; obtain ⟨hc4, hf4⟩ := bcell hb4; (try have hq4w : w.heap.size < w4.heap.size := Nat.lt_of_lt_of_le (by first | assumption | (simp; done) | (simp; omega)) hb4.size); (try have hq4w1 : w1.heap.size < w4.heap.size := Nat.lt_of_lt_of_le (by first | assumption | (simp; done) | (simp; omega)) hb4.size); (try have hq4w2 : w2.heap.size < w4.heap.size := Nat.lt_of_lt_of_le (by first | assumption | (simp; done) | (simp; omega)) hb4.size); (try have hq4w3 : w3.heap.size < w4.heap.size := Nat.lt_of_lt_of_le (by first | assumption | (simp; done) | (simp; omega)) hb4.size); have hs4 := hb4.size; (try simp at hs4))))
              go_ret
              exact ⟨rfl, (by repeat (first | exact Below.refl _ _ | assumption | refine Below.setCell ?_ (by first | (simp; done) | omega | (simp; omega) | (simp at *; omega)) _ | refine Below.alloc ?_ (by first | (simp; done) | omega | (simp; omega) | (simp at *; omega)) _ | refine Below.drew ?_ | (refine Below.trans ?_ (Below.mono (by assumption) (by first | (simp; done) | omega | (simp; omega) | (simp at *; omega)))) | (refine Below.trans ?_ (Below.mono (below_regrown _ _ _) (by first | (simp; done) | omega | (simp; omega) | (simp at *; omega))))))⟩

end Go.Proofs.YtiihaiidijmgmaaDoor
