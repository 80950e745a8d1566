/-
  WALKS: chapter 9's laws: the statement on choices.
-/
import Derived.Test.YtobkddekfcgclaaDoorGlLaw
import Derived.Test.YtobkddekfcgclaaDoorGlChP
import Derived.Test.YtobkddekfcgclaaDoorGlIv
import Derived.RegionTactic
namespace Go.Proofs.YtobkddekfcgclaaDoor
open Go.RowKit
open Me

theorem ch_push (l : List UInt8) (b : UInt8) : (⟨l.toArray⟩ : ByteArray) ++ ⟨[b].toArray⟩ = ⟨(l ++ [b]).toArray⟩ := by
  apply ByteArray.ext; simp

set_option maxRecDepth 100000 in
set_option maxHeartbeats 2000000 in
theorem lawChoices9 (l : List Int) (A : Option Addr) (c : Nat) (w : World) (hm : Mx w) (hr : Rd w (fun _ => True) A (iv l)) :
    Calls Tryd.prog 8 #[.slice A l.length c] w fun e w' => e = .returned (.bool true) ∧ Below w.heap.size w w' := by
  by_cases h3 : l.length < 1
  · have h3' : (l.length : Int) < 1 := by omega
    clear h3
    go_enter Tryd.func8, Tryd.ntmps8
    go_wp2_with fail
    go_ret
    exact ⟨rfl, Below.refl _ _⟩
  have h3' : ¬ (l.length : Int) < 1 := by omega
  by_cases h4 : 10 < l.length
  · have h4' : (10 : Int) < (l.length : Int) := by omega
    clear h4 h3
    go_enter Tryd.func8, Tryd.ntmps8
    go_wp2_with fail
    go_ret
    exact ⟨rfl, Below.refl _ _⟩
  have h4' : ¬ (10 : Int) < (l.length : Int) := by omega
  have h10 : (l.length : Int) ≤ 10 := by omega
  have HR := Lib.hid hr
  have HM : Hid (∀ W, Below w.heap.size w W → Mx W) := Lib.hid fun W h => hm.below h
  have HX := Lib.hid (fun W (h : Mx W) => (expand_any (Gl.strOf (l.map Gl.nOf)) (Gl.setOf (l.map Gl.nOf)) (fun _ => Gl.gr_str _ (Gl.nOf_ok l)) (by have := Gl.str_len _ (Gl.nOf_ok l); rw [List.length_map] at this; omega) W h).mono fun e w' h => h.both)
  rw [Gl.err_str _ (Gl.nOf_ok l) (by simp; omega) (by simp; omega)] at HX
  have HLn := Lib.hid (Gl.set_len (l.map Gl.nOf))
  have HG : Hid (∀ k (h : k < l.length), (l.map Gl.nOf).take (k + 1) = (l.map Gl.nOf).take k ++ [Gl.nOf l[k]]) := Lib.hid fun k h => by
    rw [List.take_succ_eq_append_getElem (by simp; exact h)]; simp
  have HAll : Hid ((l.map Gl.nOf).take l.length = l.map Gl.nOf) := Lib.hid (List.take_of_length_le (by simp))
  have HSL : Hid (∀ k, (Gl.strOf ((l.map Gl.nOf).take k)).length ≤ 18 * k) := Lib.hid fun k => by
    have := Gl.str_len ((l.map Gl.nOf).take k) fun n hn => Gl.nOf_ok l n (List.mem_of_mem_take hn)
    rw [List.length_take] at this
    omega
  generalize l.map Gl.nOf = ns at *
  clear hm h3 h4 hr
  go_enter Tryd.func8, Tryd.ntmps8
  go_wp2_with fail
  go_loopw [3, 4, 5] (fun s c i wr => ∃ k : Nat, k ≤ l.length ∧ s = .string ⟨(Gl.strOf (ns.take k)).toArray⟩ ∧ c = .int .i64 (Gl.lim (Gl.prodN (ns.take k)) : Nat) ∧ i = .int .i64 k ∧ Below w.heap.size w wr) (fun _ _ i _ => l.length - (intOf i).toNat)
  case atStart => exact ⟨0, Nat.zero_le _, rfl, rfl, rfl, Below.refl _ _⟩
  case round =>
    obtain ⟨k, hk, rfl, rfl, rfl, hbel⟩ := hrel
    have hk0 : (0 : Int) ≤ (k : Int) := by omega
    by_cases hlt : k < l.length
    · obtain ⟨lb, lo, rfl, hlb, _, hx⟩ := HR.out.lit k (by rw [iv_len]; omega)
      have ec := (hbel.cell (p := ⟨lb, lo + k, none⟩) hlb).trans (hx k _ (iv_get l k hlt))
      clear hx
      have hkl : (k : Int) < (l.length : Int) := by omega
      obtain ⟨m, hm7, hm⟩ := Gl.and7 l[k]
      have HN := Lib.hid (Gl.nOf_eq hm)
      have HGk := Lib.hid (HG.out k hlt)
      rw [HN.out] at HGk
      have hl9 := Gl.lim_le (Gl.prodN (ns.take k))
      have HS : Hid (Gl.strOf (ns.take (k + 1)) = Gl.strOf (ns.take k) ++ [123] ++ Gl.alt (1 + m) ++ [125]) := Lib.hid (by
        rw [HGk.out, Gl.strOf_append]; simp [Gl.strOf])
      have HC : Hid ((min 513 (Gl.lim (Gl.prodN (ns.take k)) * (1 + m)) : Nat) = Gl.lim (Gl.prodN (ns.take (k + 1)))) := Lib.hid (by
        rw [HGk.out, Gl.prodN_append, Gl.lim_step _ _ (by omega)]; show _ = Gl.lim (_ * ((1 + m) * 1)); rw [Nat.mul_one])
      have hS9 : ((Gl.strOf (ns.take k)).length : Int) ≤ 180 := by have := HSL.out k; omega
      generalize l[k] = x at *
      generalize Gl.strOf (ns.take k) = S at *
      generalize Gl.lim (Gl.prodN (ns.take k)) = cn at *
      generalize hSE : Gl.strOf (ns.take (k + 1)) = S2 at *
      replace hSE := Lib.hid hSE
      generalize hCE : Gl.lim (Gl.prodN (ns.take (k + 1))) = cn2 at *
      replace hCE := Lib.hid hCE
      clear HN HGk
      have hSs : (⟨S.toArray⟩ : ByteArray).size = S.length := by show S.toArray.size = _; simp
      have hm7' : (m : Int) ≤ 7 := by omega
      have hm0 : (0 : Int) ≤ (m : Int) := by omega
      have hmul : (cn : Int) * (1 + (m : Int)) = ((cn * (1 + m) : Nat) : Int) := by rw [Int.natCast_mul]; rfl
      have hmul9 : cn * (1 + m) ≤ 4104 := Nat.le_trans (Nat.mul_le_mul hl9 (show 1 + m ≤ 8 by omega)) (by decide)
      go_wp2_with fail
      go_loopw [3, 7] (fun s j wz => ∃ q : Nat, q ≤ 1 + m ∧ s = .string ⟨(S ++ [123] ++ Gl.alt q).toArray⟩ ∧ j = .int .i64 q ∧ Below w.heap.size w wz) (fun _ j _ => 1 + m - (intOf j).toNat)
      case atStart => exact ⟨0, Nat.zero_le _, by rw [Gl.alt, List.append_nil]; exact congrArg Value.string (ch_push S 123), rfl, hbel⟩
      case round =>
        obtain ⟨q, hq, rfl, rfl, hbz⟩ := hrel
        have hq0 : (0 : Int) ≤ (q : Int) := by omega
        have hT9 : ((S ++ [123] ++ Gl.alt q).length : Int) ≤ 200 := by have := Gl.alt_len q; simp; omega
        have hTs : (⟨(S ++ [123] ++ Gl.alt q).toArray⟩ : ByteArray).size = (S ++ [123] ++ Gl.alt q).length := by show (S ++ [123] ++ Gl.alt q).toArray.size = _; simp
        obtain ⟨cb, hcb⟩ : ∃ cb, cb = Gl.letter q := ⟨_, rfl⟩
        by_cases hqt : q < 1 + m
        · have hqm : (q : Int) < 1 + (m : Int) := by omega
          have hcn : cb.toNat = 97 + q := by rw [hcb]; exact UInt8.toNat_ofNat_of_lt' (by show 97 + q < 256; omega)
          have kc : (convert 34 9 (.slice (some ⟨wr.heap.size, 0, none⟩) 1 1)).run Tryd.prog (wr.alloc (.cells #[.int .u8 (97 + (q : Int))] 5)) = .ok (.string ⟨[cb].toArray⟩) (wr.alloc (.cells #[.int .u8 (97 + (q : Int))] 5)) := by
            refine run_convert_bytes_back _ _ _ 5 ⟨wr.heap.size, 0, none⟩ 1 [cb] Tryd.underlying34 Tryd.underlying5 Tryd.underlying9 fun j hj => ?_
            obtain rfl : j = 0 := by simp at hj; omega
            have e : ((97 : Int) + (q : Int)) = ((cb.toNat : Nat) : Int) := by rw [hcn]; omega
            rw [e]
            simp [go_sem, Addr.add]
          have HCB := Lib.hid hcb
          clear hcb hcn
          have hq8 : (q : Int) ≤ 7 := by omega
          by_cases hq1 : q = 0
          · have HA1 : Hid ((⟨(S ++ [123] ++ Gl.alt q).toArray⟩ : ByteArray) ++ ⟨[cb].toArray⟩ = ⟨(S ++ [123] ++ Gl.alt (q + 1)).toArray⟩) := Lib.hid (by
              rw [ch_push, HCB.out, Gl.alt, if_pos hq1, hq1]; simp [Gl.alt])
            have hqi : ¬ (0 : Int) < (q : Int) := by omega
            clear hq1
            generalize S ++ [123] ++ Gl.alt q = T1 at *
            go_wp2_with fail
            go_roundw
            case rel => exact ⟨q + 1, by omega, congrArg Value.string HA1.out, by go_num, hbz.alloc hbz.size _⟩
            case measure => simp [intOf]; omega
          · have HA1 : Hid ((⟨(S ++ [123] ++ Gl.alt q).toArray⟩ : ByteArray) ++ ⟨#[44]⟩ ++ ⟨[cb].toArray⟩ = ⟨(S ++ [123] ++ Gl.alt (q + 1)).toArray⟩) := Lib.hid (by
              rw [show (⟨#[44]⟩ : ByteArray) = ⟨[44].toArray⟩ from rfl, ch_push, ch_push, HCB.out, Gl.alt, if_neg hq1]; simp)
            have hqi : (0 : Int) < (q : Int) := by omega
            clear hq1
            generalize S ++ [123] ++ Gl.alt q = T1 at *
            go_wp2_with fail
            go_roundw
            case rel => exact ⟨q + 1, by omega, congrArg Value.string HA1.out, by go_num, hbz.alloc hbz.size _⟩
            case measure => simp [intOf]; omega
        · obtain rfl : q = 1 + m := by omega
          clear hcb
          have HA1 : Hid ((⟨(S ++ [123] ++ Gl.alt (1 + m)).toArray⟩ : ByteArray) ++ ⟨#[125]⟩ = ⟨S2.toArray⟩) := Lib.hid (by
            rw [show (⟨#[125]⟩ : ByteArray) = ⟨[125].toArray⟩ from rfl, ch_push, HS.out])
          obtain ⟨P, hP⟩ : ∃ P, P = cn * (1 + m) := ⟨_, rfl⟩
          have hw : IntKind.i64.wrap ((cn : Int) * (1 + (m : Int))) = (P : Int) := by rw [hmul, ← hP]; exact IntWalk.i64_in _ (by omega)
          rw [← hP] at HC hmul9
          have HC2 : Hid (min (513 : Int) (P : Int) = (cn2 : Int)) := Lib.hid (by rw [← HC.out]; omega)
          have hqn : ((1 + m : Nat) : Int) = 1 + (m : Int) := by omega
          generalize S ++ [123] ++ Gl.alt (1 + m) = T1 at *
          clear HS HC hmul hP
          by_cases hP5 : (513 : Int) ≤ (P : Int)
          · go_wp2_with fail
            go_roundw
            case rel => exact ⟨k + 1, by omega, by rw [hSE.out]; exact congrArg Value.string HA1.out, by rw [hCE.out]; refine congrArg (Value.int .i64) ?_; have := HC2.out; omega, by go_num, hbz⟩
            case measure => simp [intOf]; omega
          · go_wp2_with fail
            go_roundw
            case rel => exact ⟨k + 1, by omega, by rw [hSE.out]; exact congrArg Value.string HA1.out, by rw [hCE.out]; refine congrArg (Value.int .i64) ?_; have := HC2.out; omega, by go_num, hbz⟩
            case measure => simp [intOf]; omega
    · obtain rfl : k = l.length := by omega
      rw [HAll.out]
      have HXw := Lib.hid (HX.out wr (HM.out _ hbel))
      have HSz := Lib.hid hbel.size
      by_cases hP : 512 < Gl.prodN ns
      · have hlim : Gl.lim (Gl.prodN ns) = 513 := Gl.lim_gt hP
        rw [if_pos hP, if_neg (by decide)] at HXw
        rw [hlim]
        clear HX HG HLn hlim hP HR
        generalize Gl.strOf ns = S at *
        generalize Gl.setOf ns = L at *
        go_wp2_with (go_at_call 9; go_must (refine (HXw.out).mono ?_; rintro e w2 ⟨v, rfl, ho, hb2⟩; obtain ⟨A2, c2, rfl⟩ := ho.slice; have hB2 := hbel.trans (hb2.mono HSz.out)))
        clear ho HXw
        go_wp2_with (go_at_call 12; go_must (refine (known9_any _ (HM.out _ hB2)).mono ?_; rintro e w9 ⟨rfl, hb9⟩; have hB9 := hB2.trans (hb9.mono hB2.size)))
        go_ret
        exact ⟨rfl, hB9⟩
      · have hlim : Gl.lim (Gl.prodN ns) = Gl.prodN ns := Gl.lim_id (by omega)
        rw [if_neg hP, if_pos rfl] at HXw
        rw [hlim, ← HLn.out]
        have hP' : ¬ (512 : Int) < ((Gl.setOf ns).length : Int) := by rw [HLn.out]; omega
        clear HX HG HLn hlim hP HR
        generalize Gl.strOf ns = S at *
        generalize Gl.setOf ns = L at *
        have hself : ((L.length : Int) == (L.length : Int)) = true := by simp
        go_wp2_with (go_at_call 9; go_must (refine (HXw.out).mono ?_; rintro e w2 ⟨v, rfl, ho, hb2⟩; obtain ⟨A2, c2, rfl⟩ := ho.slice; have hB2 := hbel.trans (hb2.mono HSz.out)))
        clear ho HXw
        go_wp2_with (go_at_call 12; go_must (refine (known9_any _ (HM.out _ hB2)).mono ?_; rintro e w9 ⟨rfl, hb9⟩; have hB9 := hB2.trans (hb9.mono hB2.size)))
        go_ret
        exact ⟨rfl, hB9⟩
end Go.Proofs.YtobkddekfcgclaaDoor
