/-
  SbRAll: CONTRACTS: chapter 13: the document's All. (Written by mksbrall.py.)
-/
import Derived.Test.YtelbabgkpflckaaK5
import Derived.Deep.RegionLaw

set_option linter.unusedSimpArgs false
set_option linter.unusedVariables false
namespace Go.Proofs.Ytelbabgkpflckaa
open Go.RowKit Go.Sort
open Me
open Pk

namespace Sb
abbrev rpT : TypeId := 34
theorem stp_none {F : Nat → Option Row} {t T : List UInt8} {k : Nat} (h : ∀ q, F k = some q → ¬ Good q k) : stp F t T k = (t.drop k, t.length + 1) := by
  unfold stp
  cases hf : F k with
  | none => rfl
  | some q => exact if_neg (h q hf)
theorem stp_some {F : Nat → Option Row} {t T : List UInt8} {k : Nat} {q : Row} (h : F k = some q) (hg : Good q k) : stp F t T k = (mid t T q k, nxt q) := by
  unfold stp
  rw [h]
  exact if_pos hg
end Sb

set_option maxHeartbeats 16000000 in
set_option maxRecDepth 100000 in
theorem sbRefAll_any {T t : List UInt8} {L : List Rx.In} {G : Int} {A : Option Addr} {cp : Nat} {w : World} (hp : ∀ w', Below w.heap.size w w' → Rd w' (fun _ => True) A (icells L)) (hPl : ∀ x ∈ L, x.p.length ≤ 1048576) (hL : L.length ≤ 4096) (hT : T.length ≤ 1048576) (ht : t.length ≤ 100000) (hlen : (Sb.al (Sb.Fd G L t) t T 0).length ≤ 1073000000) :
    Calls Try.prog 22 #[.agg #[.int .i64 G, .slice A L.length cp], .string ⟨T.toArray⟩, .string ⟨t.toArray⟩] w fun e w' => e = .returned (.tuple #[.string ⟨(Sb.ans T t (Sb.al (Sb.Fd G L t) t T 0)).1.toArray⟩, .int .i64 (Sb.ans T t (Sb.al (Sb.Fd G L t) t T 0)).2]) ∧ Below w.heap.size w w' := by
  have HC := Lib.hid fun W => sbRefCheck_any T hT W
  have HP := Lib.hid hp
  have HPL := Lib.hid hPl
  obtain ⟨z, hz⟩ : ∃ z, Sb.al (Sb.Fd G L t) t T 0 = z := ⟨_, rfl⟩
  rw [hz] at hlen ⊢
  have HZ := Lib.hid hz
  clear hp hz hPl
  by_cases hc : Sb.chk T = true
  · by_cases h4 : 4096 < t.length
    · have HA : Hid (Sb.ans T t z = ([], 13)) := Lib.hid (by unfold Sb.ans; rw [if_pos hc, if_pos h4])
      have hb0 : Sb.bad T = 0 := by unfold Sb.bad; rw [if_pos hc]
      rw [hb0] at HC
      have h4I : (4096 : Int) < (t.length : Int) := by omega
      rw [HA.out]
      clear hc hb0
      go_enter Try.func22, Try.ntmps22
      go_wp2_with (go_at_call 18; go_must (refine (HC.out _).mono ?_; rintro e w1 ⟨rfl, rfl⟩))
      ((try simp only [Exit.inBlock, Exit.then]); refine bodyPost_ret (results_tmp2 rfl _ _ _) rfl ?_)
      exact ⟨rfl, (Below.refl w.heap.size w).alloc (Nat.le_refl _) _⟩
    · have hb0 : Sb.bad T = 0 := by unfold Sb.bad; rw [if_pos hc]
      rw [hb0] at HC
      have h4I : ¬ (4096 : Int) < (t.length : Int) := by omega
      have HA0 : Hid (Sb.ans T t z = if 4096 < z.length then ([], 13) else (z, 0)) := Lib.hid (by unfold Sb.ans; rw [if_pos hc, if_neg h4])
      generalize Sb.ans T t z = an at *
      clear hc hb0
      go_enter Try.func22, Try.ntmps22
      go_wp2_with (go_at_call 18; go_must (refine (HC.out _).mono ?_; rintro e w1 ⟨rfl, rfl⟩))
      go_loopw [9, 10, 11, 12] (fun s x _ _ wr => ∃ (k : Nat) (y : List UInt8), s = .string ⟨y.toArray⟩ ∧ x = .int .i64 k ∧ Hid (y ++ Sb.al (Sb.Fd G L t) t T k = z) ∧ Hid (Below w.heap.size w wr) ∧ Hid (wr.heap[w.heap.size]? = some (Obj.cells #[.int .i64 G, .slice A L.length cp] Sb.rpT (0, 0)))) (fun _ x _ _ _ => t.length + 1 - (intOf x).toNat)
      case atStart => exact ⟨0, [], rfl, rfl, HZ, Lib.hid ((Below.refl w.heap.size w).alloc (Nat.le_refl _) _), Lib.hid (heap_alloc_new w _)⟩
      case round =>
        obtain ⟨k, y, rfl, rfl, HM, HW, HX⟩ := hrel
        have hx0 : wr.cell? ⟨w.heap.size, 0, none⟩ = some (.int .i64 G) := by rw [Lib.cell_of_heap HX.out]; rfl
        have hx1 : wr.cell? ⟨w.heap.size, 1, none⟩ = some (.slice A L.length cp) := by rw [Lib.cell_of_heap HX.out]; rfl
        have hk0 : (0 : Int) ≤ (k : Int) := by omega
        have hyz : y.length ≤ z.length := by rw [← HM.out, List.length_append]; omega
        by_cases hkl : k ≤ t.length
        · have hkI : (k : Int) ≤ (t.length : Int) := by omega
          have HF := Lib.hid (refFind_row (t := t) (G := G) (fr := (k : Int)) (cp := cp) (HP.out wr HW.out) HPL.out hL ht)
          have HS := Lib.hid fun q (hq : findP G L t (k : Int) = some q) => Sb.findP_some hq
          have HM2 := Lib.hid (Sb.al_step (F := Sb.Fd G L t) (T := T) hkl)
          by_cases hbad : ∀ q, findP G L t (k : Int) = some q → ¬ Sb.Good q k
          · have HQ : Hid (y ++ t.drop k = z) := Lib.hid (by rw [← HM.out, HM2.out, Sb.stp_none (F := Sb.Fd G L t) hbad, Sb.al_end (Nat.lt_succ_self _), List.append_nil])
            have hx := Sb.text_from t k
            have hcat : (⟨y.toArray⟩ : ByteArray) ++ ⟨(t.drop k).toArray⟩ = ⟨z.toArray⟩ := by rw [Sb.cat_mk, HQ.out]
            have hydl : y.length + (t.drop k).length ≤ 1073000000 := by have := congrArg List.length HQ.out; rw [List.length_append] at this; omega
            have hydn : ¬ 9223372036854775807 < y.length + (t.drop k).length := by omega
            have HB := Lib.hid hbad
            clear hbad HM HM2 HQ
            generalize findP G L t (k : Int) = fd at *
            generalize t.drop k = td at *
            cases fd with
            | none =>
              go_wp2_with (go_at_call 10; go_must (refine HF.out.mono ?_; rintro e w2 ⟨A2, c2, rfl, hb2, hrd2⟩))
              go_quiet (fail)
              go_wp2_with fail
              all_goals
                ((try simp only [Exit.inBlock, Exit.then]); refine bodyPost_ret (results_tmp2 rfl _ _ _) rfl ?_)
                first
                  | exact ⟨by rw [HA0.out, if_pos (by omega)]; rfl, HW.out.trans ((hb2.mono HW.out.size).trans (Sb.below_drewN _ _ _))⟩
                  | exact ⟨by rw [HA0.out, if_neg (by omega)]; rfl, HW.out.trans ((hb2.mono HW.out.size).trans (Sb.below_drewN _ _ _))⟩
            | some q =>
              obtain ⟨hs1, hs2, _⟩ := HS.out q rfl
              have hng := HB.out q rfl
              obtain ⟨u0, hu0⟩ : ∃ u0, Sb.x0 q = u0 := ⟨_, rfl⟩
              obtain ⟨u1, hu1⟩ : ∃ u1, Sb.x1 q = u1 := ⟨_, rfl⟩
              unfold Sb.Good at hng
              rw [hu0, hu1] at hng
              by_cases h0 : u0 < (k : Int)
              · clear hng
                have h0B : decide (u0 < (k : Int)) = true := decide_eq_true h0
                go_wp2_with (go_at_call 10; go_must (refine HF.out.mono ?_; rintro e w2 ⟨A2, c2, rfl, hb2, hrd2⟩))
                obtain ⟨b, o, rfl, hbl, _, hq⟩ := hrd2.lit 0 (by rw [iv_len]; show 0 < q.length; omega)
                have r1 : w2.cell? ⟨b, o, none⟩ = some (.int .i64 u0) := by
                  refine hq 0 _ ?_
                  show (iv q)[0]? = _
                  rw [iv_get q 0 (by omega), ← hu0]
                  unfold Sb.x0
                  rw [List.getD_eq_getElem?_getD, List.getElem?_eq_getElem (by omega : 0 < q.length)]
                  rfl
                have r2 : w2.cell? ⟨b, o + 1, none⟩ = some (.int .i64 u1) := by
                  refine hq 1 _ ?_
                  show (iv q)[1]? = _
                  rw [iv_get q 1 (by omega), ← hu1]
                  unfold Sb.x1
                  rw [List.getD_eq_getElem?_getD, List.getElem?_eq_getElem (by omega : 1 < q.length)]
                  rfl
                have hqI : (0 : Int) < (q.length : Int) := by omega
                have hqJ : (1 : Int) < (q.length : Int) := by omega
                have hqK : 1 < q.length := by omega
                have hqL : ¬ (q.length : Int) < 2 := by omega
                have hqE : ¬ q = [] := by rintro rfl; exact absurd hqK (by decide)
                have hqZ : 0 < q.length := by omega
                have hqB : decide ((q.length : Int) < 2) = false := decide_eq_false hqL
                clear hq hrd2 hu0 hu1
                go_quiet (fail)
                go_wp2_with fail
                all_goals
                  ((try simp only [Exit.inBlock, Exit.then]); refine bodyPost_ret (results_tmp2 rfl _ _ _) rfl ?_)
                  first
                    | exact ⟨by rw [HA0.out, if_pos (by omega)]; rfl, HW.out.trans ((hb2.mono HW.out.size).trans (Sb.below_drewN _ _ _))⟩
                    | exact ⟨by rw [HA0.out, if_neg (by omega)]; rfl, HW.out.trans ((hb2.mono HW.out.size).trans (Sb.below_drewN _ _ _))⟩
              · have h1 : u1 < u0 := by omega
                clear hng
                have h0B : decide (u0 < (k : Int)) = false := decide_eq_false h0
                have h1B : decide (u1 < u0) = true := decide_eq_true h1
                go_wp2_with (go_at_call 10; go_must (refine HF.out.mono ?_; rintro e w2 ⟨A2, c2, rfl, hb2, hrd2⟩))
                obtain ⟨b, o, rfl, hbl, _, hq⟩ := hrd2.lit 0 (by rw [iv_len]; show 0 < q.length; omega)
                have r1 : w2.cell? ⟨b, o, none⟩ = some (.int .i64 u0) := by
                  refine hq 0 _ ?_
                  show (iv q)[0]? = _
                  rw [iv_get q 0 (by omega), ← hu0]
                  unfold Sb.x0
                  rw [List.getD_eq_getElem?_getD, List.getElem?_eq_getElem (by omega : 0 < q.length)]
                  rfl
                have r2 : w2.cell? ⟨b, o + 1, none⟩ = some (.int .i64 u1) := by
                  refine hq 1 _ ?_
                  show (iv q)[1]? = _
                  rw [iv_get q 1 (by omega), ← hu1]
                  unfold Sb.x1
                  rw [List.getD_eq_getElem?_getD, List.getElem?_eq_getElem (by omega : 1 < q.length)]
                  rfl
                have hqI : (0 : Int) < (q.length : Int) := by omega
                have hqJ : (1 : Int) < (q.length : Int) := by omega
                have hqK : 1 < q.length := by omega
                have hqL : ¬ (q.length : Int) < 2 := by omega
                have hqE : ¬ q = [] := by rintro rfl; exact absurd hqK (by decide)
                have hqZ : 0 < q.length := by omega
                have hqB : decide ((q.length : Int) < 2) = false := decide_eq_false hqL
                clear hq hrd2 hu0 hu1
                go_quiet (fail)
                go_wp2_with fail
                all_goals
                  ((try simp only [Exit.inBlock, Exit.then]); refine bodyPost_ret (results_tmp2 rfl _ _ _) rfl ?_)
                  first
                    | exact ⟨by rw [HA0.out, if_pos (by omega)]; rfl, HW.out.trans ((hb2.mono HW.out.size).trans (Sb.below_drewN _ _ _))⟩
                    | exact ⟨by rw [HA0.out, if_neg (by omega)]; rfl, HW.out.trans ((hb2.mono HW.out.size).trans (Sb.below_drewN _ _ _))⟩
          · obtain ⟨q, hf, hg⟩ : ∃ q, findP G L t (k : Int) = some q ∧ Sb.Good q k := by
              rcases Classical.not_forall.1 hbad with ⟨q, hq⟩
              by_cases h1 : findP G L t (k : Int) = some q
              · exact ⟨q, h1, Classical.not_not.1 fun h2 => hq fun _ => h2⟩
              · exact absurd (fun h => absurd h h1) hq
            obtain ⟨hs1, hs2, hs3⟩ := HS.out q hf
            have HM3 : Hid ((y ++ Sb.mid t T q k) ++ Sb.al (Sb.Fd G L t) t T (Sb.nxt q) = z) := Lib.hid (by rw [← HM.out, HM2.out, Sb.stp_some (F := Sb.Fd G L t) hf hg, List.append_assoc])
            obtain ⟨g1, g2⟩ := hg
            have hv9 : Sb.x1 q ≤ (t.length : Int) := by
              refine hs3 _ ?_
              unfold Sb.x1
              rw [List.getD_eq_getElem?_getD, List.getElem?_eq_getElem (by omega : 1 < q.length)]
              exact List.getElem_mem _
            obtain ⟨u, hu0⟩ : ∃ u : Nat, Sb.x0 q = (u : Int) := ⟨(Sb.x0 q).toNat, by omega⟩
            obtain ⟨v, hu1⟩ : ∃ v : Nat, Sb.x1 q = (v : Int) := ⟨(Sb.x1 q).toNat, by omega⟩
            have hmd : Sb.mid t T q k = (t.drop k).take (u - k) ++ (Sb.ex (Sb.sub t q) T ++ (if u < v then [] else (t.drop v).take 1)) := by
              unfold Sb.mid
              rw [hu0, hu1, Int.toNat_natCast, Int.toNat_natCast]
              by_cases h9 : u < v
              · rw [if_pos h9, if_pos (by omega)]
              · rw [if_neg h9, if_neg (by omega)]
            have hnx : Sb.nxt q = if u < v then v else v + 1 := by
              unfold Sb.nxt
              rw [hu0, hu1, Int.toNat_natCast]
              by_cases h9 : u < v
              · rw [if_pos h9, if_pos (by omega)]
              · rw [if_neg h9, if_neg (by omega)]
            rw [hu0] at g1 g2
            rw [hu1] at g2 hv9
            rw [hf] at HF
            have HEX := Lib.hid fun X A2 c2 (hrd : ∀ w', Below X.heap.size X w' → Rd w' (fun _ => True) A2 (iv q)) (h9 : (Sb.ex (Sb.sub t q) T).length ≤ 1073741824) => sbRefExpand_any (cp := c2) (t := T) (tx := t) (w := X) hrd hT (by omega) hs2 h9
            obtain ⟨m1, hm1⟩ : ∃ m1, (t.drop k).take (u - k) = m1 := ⟨_, rfl⟩
            obtain ⟨m2, hm2⟩ : ∃ m2, Sb.ex (Sb.sub t q) T = m2 := ⟨_, rfl⟩
            obtain ⟨m3, hm3⟩ : ∃ m3, (t.drop v).take 1 = m3 := ⟨_, rfl⟩
            have hx1 : (⟨t.toArray⟩ : ByteArray).extract k u = ⟨m1.toArray⟩ := by rw [Sb.text_mid, hm1]
            have hx3 : (⟨t.toArray⟩ : ByteArray).extract v (v + 1) = ⟨m3.toArray⟩ := by rw [Sb.text_mid, ← hm3, show v + 1 - v = 1 by omega]
            have h3e : v = t.length → m3 = [] := fun e => by rw [← hm3, List.drop_eq_nil_of_le (by omega)]; rfl
            rw [hm1, hm2, hm3] at hmd
            simp only [hm2] at HEX
            rw [hmd, hnx] at HM3
            have hl9 := congrArg List.length HM3.out
            simp only [List.length_append] at hl9
            have hy1 : y.length + m1.length + m2.length ≤ 1073000000 := by omega
            have HE2 := Lib.hid fun X A2 c2 (hrd : ∀ w', Below X.heap.size X w' → Rd w' (fun _ => True) A2 (iv q)) => HEX.out X A2 c2 hrd (by omega)
            obtain ⟨y2, hy2⟩ : ∃ y2, y ++ m1 ++ m2 = y2 := ⟨_, rfl⟩
            have hc1 : (⟨y.toArray⟩ : ByteArray) ++ ⟨m1.toArray⟩ = ⟨(y ++ m1).toArray⟩ := Sb.cat_mk y m1
            have hc2 : (⟨(y ++ m1).toArray⟩ : ByteArray) ++ ⟨m2.toArray⟩ = ⟨y2.toArray⟩ := by rw [Sb.cat_mk, hy2]
            have hc3 : (⟨y2.toArray⟩ : ByteArray) ++ ⟨m3.toArray⟩ = ⟨(y2 ++ m3).toArray⟩ := Sb.cat_mk y2 m3
            have hyl1 : (y ++ m1).length = y.length + m1.length := List.length_append
            have hyl2 : y2.length = y.length + m1.length + m2.length := by rw [← hy2, List.length_append, List.length_append]
            have hyl3 : (y2 ++ m3).length = y2.length + m3.length := List.length_append
            have HM4 : Hid (if u < v then y2 ++ Sb.al (Sb.Fd G L t) t T v = z else (y2 ++ m3) ++ Sb.al (Sb.Fd G L t) t T (v + 1) = z) := Lib.hid (by
              have h1 := HM3.out
              by_cases h9 : u < v
              · rw [if_pos h9, if_pos h9, List.append_nil, ← List.append_assoc, hy2] at h1
                rw [if_pos h9]; exact h1
              · rw [if_neg h9, if_neg h9, ← List.append_assoc, ← List.append_assoc, hy2] at h1
                rw [if_neg h9]; exact h1)
            have hn1 : ¬ 9223372036854775807 < y.length + m1.length := by omega
            have hn2 : ¬ 9223372036854775807 < y.length + m1.length + m2.length := by omega
            have hn4 : ¬ 9223372036854775807 < (y ++ m1).length + m2.length := by omega
            have hm39 : m3.length ≤ 1 := by rw [← hm3, List.length_take]; exact Nat.min_le_left _ _
            have hn3 : ¬ 9223372036854775807 < y2.length + m3.length := by omega
            have hkN : ¬ (u : Int) < (k : Int) := by omega
            have hvN : ¬ (v : Int) < (u : Int) := by omega
            have hkN2 : ¬ u < k := by omega
            have hvN2 : ¬ v < u := by omega
            have hkB : decide ((u : Int) < (k : Int)) = false := decide_eq_false hkN
            have hvB : decide ((v : Int) < (u : Int)) = false := decide_eq_false hvN
            have huI : (u : Int) ≤ (v : Int) := by omega
            have hkU : (k : Int) ≤ (u : Int) := by omega
            have hut : (u : Int) ≤ (t.length : Int) := by omega
            have hvI : (v : Int) ≤ (t.length : Int) := by omega
            have hv0 : (0 : Int) ≤ (v : Int) := by omega
            have hwl : IntKind.i64.wrap ((v : Int) + 1) = (v : Int) + 1 := by rw [IntKind.wrap_i64]; omega
            have HH3 := Lib.hid h3e
            clear HM HM2 HM3 hmd hnx hbad hm1 hm2 hm3 hl9 hy2 h3e HEX HS hf hs3 g1 g2
            by_cases hlt : u < v
            · have hltI : (u : Int) < (v : Int) := by omega
              have hltB : ((u : Int) == (v : Int)) = false := by simp; omega
              have hltN : ¬ (u : Int) = (v : Int) := by omega
              have HM5 : Hid (y2 ++ Sb.al (Sb.Fd G L t) t T v = z) := Lib.hid (by have := HM4.out; rwa [if_pos hlt] at this)
              by_cases h4z : 4096 < y2.length
              · have h4J : (4096 : Int) < (y2.length : Int) := by omega
                go_wp2_with (go_at_call 10; go_must (refine HF.out.mono ?_; rintro e w2 ⟨A2, c2, rfl, hb2, hrd2⟩))
                obtain ⟨b, o, rfl, hbl, _, hq⟩ := hrd2.lit 0 (by rw [iv_len]; show 0 < q.length; omega)
                have r1 : w2.cell? ⟨b, o, none⟩ = some (.int .i64 (u : Int)) := by
                  refine hq 0 _ ?_
                  show (iv q)[0]? = _
                  rw [iv_get q 0 (by omega), ← hu0]
                  unfold Sb.x0
                  rw [List.getD_eq_getElem?_getD, List.getElem?_eq_getElem (by omega : 0 < q.length)]
                  rfl
                have r2 : w2.cell? ⟨b, o + 1, none⟩ = some (.int .i64 (v : Int)) := by
                  refine hq 1 _ ?_
                  show (iv q)[1]? = _
                  rw [iv_get q 1 (by omega), ← hu1]
                  unfold Sb.x1
                  rw [List.getD_eq_getElem?_getD, List.getElem?_eq_getElem (by omega : 1 < q.length)]
                  rfl
                have hqI : (0 : Int) < (q.length : Int) := by omega
                have hqJ : (1 : Int) < (q.length : Int) := by omega
                have hqK : 1 < q.length := by omega
                have hqL : ¬ (q.length : Int) < 2 := by omega
                have hqE : ¬ q = [] := by rintro rfl; exact absurd hqK (by decide)
                have hqZ : 0 < q.length := by omega
                have hqB : decide ((q.length : Int) < 2) = false := decide_eq_false hqL
                have HU : Hid (∀ X, Below w2.heap.size w2 X → X.cell? ⟨b, o, none⟩ = some (.int .i64 (u : Int)) ∧ X.cell? ⟨b, o + 1, none⟩ = some (.int .i64 (v : Int))) := Lib.hid fun X hX => ⟨(hX.cell (p := ⟨b, o, none⟩) hbl).trans r1, (hX.cell (p := ⟨b, o + 1, none⟩) hbl).trans r2⟩
                have QE : Hid (∀ X, Below w2.heap.size w2 X → Calls Try.prog 16 #[.string ⟨T.toArray⟩, .string ⟨t.toArray⟩, .slice (some ⟨b, o, none⟩) q.length c2] X fun e w' => e = .returned (.string ⟨m2.toArray⟩) ∧ Below w2.heap.size w2 w') := Lib.hid fun X hX => by
                  refine (HE2.out X _ c2 (fun w' h => (hrd2.below hX).below h)).mono ?_
                  rintro e w' ⟨rfl, hb⟩
                  exact ⟨rfl, hX.trans (hb.mono hX.size)⟩
                clear hq hrd2 hu0 hu1
                go_quiet (fail)
                go_wp2_with fail
                go_region_law (go_simp; (go_at_call 16; refine (QE.out _ (by first | exact Sb.below_drewN _ _ _ | exact Below.drew (Sb.below_drewN _ _ _))).mono ?_; rintro e x1 ⟨rfl, hx9⟩; obtain ⟨z1, z2⟩ := HU.out _ hx9; have HX9 := Lib.hid hx9))
                all_goals
                  try go_simp
                  go_wp2_with fail
                  go_quiet (fail)
                  go_wp2_with fail
                  ((try simp only [Exit.inBlock, Exit.then]); refine bodyPost_ret (results_tmp2 rfl _ _ _) rfl ?_)
                  exact ⟨by rw [HA0.out, if_pos (by have h8 := congrArg List.length HM5.out; simp only [List.length_append] at h8; omega)]; rfl, HW.out.trans ((hb2.mono HW.out.size).trans ((HX9.out.mono (Nat.le_trans HW.out.size hb2.size)).trans (Sb.below_drewN _ _ _)))⟩
              · have h4J : ¬ (4096 : Int) < (y2.length : Int) := by omega
                go_wp2_with (go_at_call 10; go_must (refine HF.out.mono ?_; rintro e w2 ⟨A2, c2, rfl, hb2, hrd2⟩))
                obtain ⟨b, o, rfl, hbl, _, hq⟩ := hrd2.lit 0 (by rw [iv_len]; show 0 < q.length; omega)
                have r1 : w2.cell? ⟨b, o, none⟩ = some (.int .i64 (u : Int)) := by
                  refine hq 0 _ ?_
                  show (iv q)[0]? = _
                  rw [iv_get q 0 (by omega), ← hu0]
                  unfold Sb.x0
                  rw [List.getD_eq_getElem?_getD, List.getElem?_eq_getElem (by omega : 0 < q.length)]
                  rfl
                have r2 : w2.cell? ⟨b, o + 1, none⟩ = some (.int .i64 (v : Int)) := by
                  refine hq 1 _ ?_
                  show (iv q)[1]? = _
                  rw [iv_get q 1 (by omega), ← hu1]
                  unfold Sb.x1
                  rw [List.getD_eq_getElem?_getD, List.getElem?_eq_getElem (by omega : 1 < q.length)]
                  rfl
                have hqI : (0 : Int) < (q.length : Int) := by omega
                have hqJ : (1 : Int) < (q.length : Int) := by omega
                have hqK : 1 < q.length := by omega
                have hqL : ¬ (q.length : Int) < 2 := by omega
                have hqE : ¬ q = [] := by rintro rfl; exact absurd hqK (by decide)
                have hqZ : 0 < q.length := by omega
                have hqB : decide ((q.length : Int) < 2) = false := decide_eq_false hqL
                have HU : Hid (∀ X, Below w2.heap.size w2 X → X.cell? ⟨b, o, none⟩ = some (.int .i64 (u : Int)) ∧ X.cell? ⟨b, o + 1, none⟩ = some (.int .i64 (v : Int))) := Lib.hid fun X hX => ⟨(hX.cell (p := ⟨b, o, none⟩) hbl).trans r1, (hX.cell (p := ⟨b, o + 1, none⟩) hbl).trans r2⟩
                have QE : Hid (∀ X, Below w2.heap.size w2 X → Calls Try.prog 16 #[.string ⟨T.toArray⟩, .string ⟨t.toArray⟩, .slice (some ⟨b, o, none⟩) q.length c2] X fun e w' => e = .returned (.string ⟨m2.toArray⟩) ∧ Below w2.heap.size w2 w') := Lib.hid fun X hX => by
                  refine (HE2.out X _ c2 (fun w' h => (hrd2.below hX).below h)).mono ?_
                  rintro e w' ⟨rfl, hb⟩
                  exact ⟨rfl, hX.trans (hb.mono hX.size)⟩
                clear hq hrd2 hu0 hu1
                go_quiet (fail)
                go_wp2_with fail
                go_region_law (go_simp; (go_at_call 16; refine (QE.out _ (by first | exact Sb.below_drewN _ _ _ | exact Below.drew (Sb.below_drewN _ _ _))).mono ?_; rintro e x1 ⟨rfl, hx9⟩; obtain ⟨z1, z2⟩ := HU.out _ hx9; have HX9 := Lib.hid hx9))
                all_goals
                  try go_simp
                  go_wp2_with fail
                  go_quiet (fail)
                  go_wp2_with fail
                  go_roundw
                  case rel => exact ⟨v, y2, rfl, by go_num, HM5, Lib.hid (HW.out.trans ((hb2.mono HW.out.size).trans ((HX9.out.mono (Nat.le_trans HW.out.size hb2.size)).trans (Sb.below_drewN _ _ _)))), Lib.hid (by
                    have h7 := Sb.lt_of_heap HX.out
                    exact (HX9.out.block _ (Nat.lt_of_lt_of_le h7 hb2.size)).trans ((hb2.block _ h7).trans HX.out))⟩
                  case measure => simp [intOf]; omega
            · by_cases hve : v < t.length
              · obtain rfl : u = v := by omega
                have hltB : ((u : Int) == (u : Int)) = true := by simp
                have hvt : (u : Int) < (t.length : Int) := by omega
                have HM5 : Hid ((y2 ++ m3) ++ Sb.al (Sb.Fd G L t) t T (u + 1) = z) := Lib.hid (by have := HM4.out; rwa [if_neg hlt] at this)
                have hv1 : (u : Int) ≤ (u : Int) + 1 := by omega
                have hv2 : (u : Int) + 1 ≤ (t.length : Int) := by omega
                have hvk : ((u : Int) + 1).toNat = u + 1 := by omega
                by_cases h4z : 4096 < (y2 ++ m3).length
                · have h4J : (4096 : Int) < ((y2 ++ m3).length : Int) := by omega
                  go_wp2_with (go_at_call 10; go_must (refine HF.out.mono ?_; rintro e w2 ⟨A2, c2, rfl, hb2, hrd2⟩))
                  obtain ⟨b, o, rfl, hbl, _, hq⟩ := hrd2.lit 0 (by rw [iv_len]; show 0 < q.length; omega)
                  have r1 : w2.cell? ⟨b, o, none⟩ = some (.int .i64 (u : Int)) := by
                    refine hq 0 _ ?_
                    show (iv q)[0]? = _
                    rw [iv_get q 0 (by omega), ← hu0]
                    unfold Sb.x0
                    rw [List.getD_eq_getElem?_getD, List.getElem?_eq_getElem (by omega : 0 < q.length)]
                    rfl
                  have r2 : w2.cell? ⟨b, o + 1, none⟩ = some (.int .i64 (u : Int)) := by
                    refine hq 1 _ ?_
                    show (iv q)[1]? = _
                    rw [iv_get q 1 (by omega), ← hu1]
                    unfold Sb.x1
                    rw [List.getD_eq_getElem?_getD, List.getElem?_eq_getElem (by omega : 1 < q.length)]
                    rfl
                  have hqI : (0 : Int) < (q.length : Int) := by omega
                  have hqJ : (1 : Int) < (q.length : Int) := by omega
                  have hqK : 1 < q.length := by omega
                  have hqL : ¬ (q.length : Int) < 2 := by omega
                  have hqE : ¬ q = [] := by rintro rfl; exact absurd hqK (by decide)
                  have hqZ : 0 < q.length := by omega
                  have hqB : decide ((q.length : Int) < 2) = false := decide_eq_false hqL
                  have HU : Hid (∀ X, Below w2.heap.size w2 X → X.cell? ⟨b, o, none⟩ = some (.int .i64 (u : Int)) ∧ X.cell? ⟨b, o + 1, none⟩ = some (.int .i64 (u : Int))) := Lib.hid fun X hX => ⟨(hX.cell (p := ⟨b, o, none⟩) hbl).trans r1, (hX.cell (p := ⟨b, o + 1, none⟩) hbl).trans r2⟩
                  have QE : Hid (∀ X, Below w2.heap.size w2 X → Calls Try.prog 16 #[.string ⟨T.toArray⟩, .string ⟨t.toArray⟩, .slice (some ⟨b, o, none⟩) q.length c2] X fun e w' => e = .returned (.string ⟨m2.toArray⟩) ∧ Below w2.heap.size w2 w') := Lib.hid fun X hX => by
                    refine (HE2.out X _ c2 (fun w' h => (hrd2.below hX).below h)).mono ?_
                    rintro e w' ⟨rfl, hb⟩
                    exact ⟨rfl, hX.trans (hb.mono hX.size)⟩
                  clear hq hrd2 hu0 hu1
                  go_quiet (fail)
                  go_wp2_with fail
                  go_region_law (go_simp; (go_at_call 16; refine (QE.out _ (by first | exact Sb.below_drewN _ _ _ | exact Below.drew (Sb.below_drewN _ _ _))).mono ?_; rintro e x1 ⟨rfl, hx9⟩; obtain ⟨z1, z2⟩ := HU.out _ hx9; have HX9 := Lib.hid hx9))
                  all_goals
                    try go_simp
                    go_wp2_with fail
                    go_quiet (fail)
                    go_wp2_with fail
                    ((try simp only [Exit.inBlock, Exit.then]); refine bodyPost_ret (results_tmp2 rfl _ _ _) rfl ?_)
                    exact ⟨by rw [HA0.out, if_pos (by have h8 := congrArg List.length HM5.out; simp only [List.length_append] at h8; omega)]; rfl, HW.out.trans ((hb2.mono HW.out.size).trans ((HX9.out.mono (Nat.le_trans HW.out.size hb2.size)).trans (Sb.below_drewN _ _ _)))⟩
                · have h4J : ¬ (4096 : Int) < ((y2 ++ m3).length : Int) := by omega
                  go_wp2_with (go_at_call 10; go_must (refine HF.out.mono ?_; rintro e w2 ⟨A2, c2, rfl, hb2, hrd2⟩))
                  obtain ⟨b, o, rfl, hbl, _, hq⟩ := hrd2.lit 0 (by rw [iv_len]; show 0 < q.length; omega)
                  have r1 : w2.cell? ⟨b, o, none⟩ = some (.int .i64 (u : Int)) := by
                    refine hq 0 _ ?_
                    show (iv q)[0]? = _
                    rw [iv_get q 0 (by omega), ← hu0]
                    unfold Sb.x0
                    rw [List.getD_eq_getElem?_getD, List.getElem?_eq_getElem (by omega : 0 < q.length)]
                    rfl
                  have r2 : w2.cell? ⟨b, o + 1, none⟩ = some (.int .i64 (u : Int)) := by
                    refine hq 1 _ ?_
                    show (iv q)[1]? = _
                    rw [iv_get q 1 (by omega), ← hu1]
                    unfold Sb.x1
                    rw [List.getD_eq_getElem?_getD, List.getElem?_eq_getElem (by omega : 1 < q.length)]
                    rfl
                  have hqI : (0 : Int) < (q.length : Int) := by omega
                  have hqJ : (1 : Int) < (q.length : Int) := by omega
                  have hqK : 1 < q.length := by omega
                  have hqL : ¬ (q.length : Int) < 2 := by omega
                  have hqE : ¬ q = [] := by rintro rfl; exact absurd hqK (by decide)
                  have hqZ : 0 < q.length := by omega
                  have hqB : decide ((q.length : Int) < 2) = false := decide_eq_false hqL
                  have HU : Hid (∀ X, Below w2.heap.size w2 X → X.cell? ⟨b, o, none⟩ = some (.int .i64 (u : Int)) ∧ X.cell? ⟨b, o + 1, none⟩ = some (.int .i64 (u : Int))) := Lib.hid fun X hX => ⟨(hX.cell (p := ⟨b, o, none⟩) hbl).trans r1, (hX.cell (p := ⟨b, o + 1, none⟩) hbl).trans r2⟩
                  have QE : Hid (∀ X, Below w2.heap.size w2 X → Calls Try.prog 16 #[.string ⟨T.toArray⟩, .string ⟨t.toArray⟩, .slice (some ⟨b, o, none⟩) q.length c2] X fun e w' => e = .returned (.string ⟨m2.toArray⟩) ∧ Below w2.heap.size w2 w') := Lib.hid fun X hX => by
                    refine (HE2.out X _ c2 (fun w' h => (hrd2.below hX).below h)).mono ?_
                    rintro e w' ⟨rfl, hb⟩
                    exact ⟨rfl, hX.trans (hb.mono hX.size)⟩
                  clear hq hrd2 hu0 hu1
                  go_quiet (fail)
                  go_wp2_with fail
                  go_region_law (go_simp; (go_at_call 16; refine (QE.out _ (by first | exact Sb.below_drewN _ _ _ | exact Below.drew (Sb.below_drewN _ _ _))).mono ?_; rintro e x1 ⟨rfl, hx9⟩; obtain ⟨z1, z2⟩ := HU.out _ hx9; have HX9 := Lib.hid hx9))
                  all_goals
                    try go_simp
                    go_wp2_with fail
                    go_quiet (fail)
                    go_wp2_with fail
                    go_roundw
                    case rel => exact ⟨u + 1, (y2 ++ m3), rfl, by go_num, HM5, Lib.hid (HW.out.trans ((hb2.mono HW.out.size).trans ((HX9.out.mono (Nat.le_trans HW.out.size hb2.size)).trans (Sb.below_drewN _ _ _)))), Lib.hid (by
                      have h7 := Sb.lt_of_heap HX.out
                      exact (HX9.out.block _ (Nat.lt_of_lt_of_le h7 hb2.size)).trans ((hb2.block _ h7).trans HX.out))⟩
                    case measure => simp [intOf]; omega
              · obtain rfl : u = v := by omega
                have hltB : ((u : Int) == (u : Int)) = true := by simp
                have hvt : ¬ (u : Int) < (t.length : Int) := by omega
                have HM5 : Hid (y2 ++ Sb.al (Sb.Fd G L t) t T (u + 1) = z) := Lib.hid (by have := HM4.out; rwa [if_neg hlt, HH3.out (by omega), List.append_nil] at this)
                by_cases h4z : 4096 < y2.length
                · have h4J : (4096 : Int) < (y2.length : Int) := by omega
                  go_wp2_with (go_at_call 10; go_must (refine HF.out.mono ?_; rintro e w2 ⟨A2, c2, rfl, hb2, hrd2⟩))
                  obtain ⟨b, o, rfl, hbl, _, hq⟩ := hrd2.lit 0 (by rw [iv_len]; show 0 < q.length; omega)
                  have r1 : w2.cell? ⟨b, o, none⟩ = some (.int .i64 (u : Int)) := by
                    refine hq 0 _ ?_
                    show (iv q)[0]? = _
                    rw [iv_get q 0 (by omega), ← hu0]
                    unfold Sb.x0
                    rw [List.getD_eq_getElem?_getD, List.getElem?_eq_getElem (by omega : 0 < q.length)]
                    rfl
                  have r2 : w2.cell? ⟨b, o + 1, none⟩ = some (.int .i64 (u : Int)) := by
                    refine hq 1 _ ?_
                    show (iv q)[1]? = _
                    rw [iv_get q 1 (by omega), ← hu1]
                    unfold Sb.x1
                    rw [List.getD_eq_getElem?_getD, List.getElem?_eq_getElem (by omega : 1 < q.length)]
                    rfl
                  have hqI : (0 : Int) < (q.length : Int) := by omega
                  have hqJ : (1 : Int) < (q.length : Int) := by omega
                  have hqK : 1 < q.length := by omega
                  have hqL : ¬ (q.length : Int) < 2 := by omega
                  have hqE : ¬ q = [] := by rintro rfl; exact absurd hqK (by decide)
                  have hqZ : 0 < q.length := by omega
                  have hqB : decide ((q.length : Int) < 2) = false := decide_eq_false hqL
                  have HU : Hid (∀ X, Below w2.heap.size w2 X → X.cell? ⟨b, o, none⟩ = some (.int .i64 (u : Int)) ∧ X.cell? ⟨b, o + 1, none⟩ = some (.int .i64 (u : Int))) := Lib.hid fun X hX => ⟨(hX.cell (p := ⟨b, o, none⟩) hbl).trans r1, (hX.cell (p := ⟨b, o + 1, none⟩) hbl).trans r2⟩
                  have QE : Hid (∀ X, Below w2.heap.size w2 X → Calls Try.prog 16 #[.string ⟨T.toArray⟩, .string ⟨t.toArray⟩, .slice (some ⟨b, o, none⟩) q.length c2] X fun e w' => e = .returned (.string ⟨m2.toArray⟩) ∧ Below w2.heap.size w2 w') := Lib.hid fun X hX => by
                    refine (HE2.out X _ c2 (fun w' h => (hrd2.below hX).below h)).mono ?_
                    rintro e w' ⟨rfl, hb⟩
                    exact ⟨rfl, hX.trans (hb.mono hX.size)⟩
                  clear hq hrd2 hu0 hu1
                  go_quiet (fail)
                  go_wp2_with fail
                  go_region_law (go_simp; (go_at_call 16; refine (QE.out _ (by first | exact Sb.below_drewN _ _ _ | exact Below.drew (Sb.below_drewN _ _ _))).mono ?_; rintro e x1 ⟨rfl, hx9⟩; obtain ⟨z1, z2⟩ := HU.out _ hx9; have HX9 := Lib.hid hx9))
                  all_goals
                    try go_simp
                    go_wp2_with fail
                    go_quiet (fail)
                    go_wp2_with fail
                    ((try simp only [Exit.inBlock, Exit.then]); refine bodyPost_ret (results_tmp2 rfl _ _ _) rfl ?_)
                    exact ⟨by rw [HA0.out, if_pos (by have h8 := congrArg List.length HM5.out; simp only [List.length_append] at h8; omega)]; rfl, HW.out.trans ((hb2.mono HW.out.size).trans ((HX9.out.mono (Nat.le_trans HW.out.size hb2.size)).trans (Sb.below_drewN _ _ _)))⟩
                · have h4J : ¬ (4096 : Int) < (y2.length : Int) := by omega
                  go_wp2_with (go_at_call 10; go_must (refine HF.out.mono ?_; rintro e w2 ⟨A2, c2, rfl, hb2, hrd2⟩))
                  obtain ⟨b, o, rfl, hbl, _, hq⟩ := hrd2.lit 0 (by rw [iv_len]; show 0 < q.length; omega)
                  have r1 : w2.cell? ⟨b, o, none⟩ = some (.int .i64 (u : Int)) := by
                    refine hq 0 _ ?_
                    show (iv q)[0]? = _
                    rw [iv_get q 0 (by omega), ← hu0]
                    unfold Sb.x0
                    rw [List.getD_eq_getElem?_getD, List.getElem?_eq_getElem (by omega : 0 < q.length)]
                    rfl
                  have r2 : w2.cell? ⟨b, o + 1, none⟩ = some (.int .i64 (u : Int)) := by
                    refine hq 1 _ ?_
                    show (iv q)[1]? = _
                    rw [iv_get q 1 (by omega), ← hu1]
                    unfold Sb.x1
                    rw [List.getD_eq_getElem?_getD, List.getElem?_eq_getElem (by omega : 1 < q.length)]
                    rfl
                  have hqI : (0 : Int) < (q.length : Int) := by omega
                  have hqJ : (1 : Int) < (q.length : Int) := by omega
                  have hqK : 1 < q.length := by omega
                  have hqL : ¬ (q.length : Int) < 2 := by omega
                  have hqE : ¬ q = [] := by rintro rfl; exact absurd hqK (by decide)
                  have hqZ : 0 < q.length := by omega
                  have hqB : decide ((q.length : Int) < 2) = false := decide_eq_false hqL
                  have HU : Hid (∀ X, Below w2.heap.size w2 X → X.cell? ⟨b, o, none⟩ = some (.int .i64 (u : Int)) ∧ X.cell? ⟨b, o + 1, none⟩ = some (.int .i64 (u : Int))) := Lib.hid fun X hX => ⟨(hX.cell (p := ⟨b, o, none⟩) hbl).trans r1, (hX.cell (p := ⟨b, o + 1, none⟩) hbl).trans r2⟩
                  have QE : Hid (∀ X, Below w2.heap.size w2 X → Calls Try.prog 16 #[.string ⟨T.toArray⟩, .string ⟨t.toArray⟩, .slice (some ⟨b, o, none⟩) q.length c2] X fun e w' => e = .returned (.string ⟨m2.toArray⟩) ∧ Below w2.heap.size w2 w') := Lib.hid fun X hX => by
                    refine (HE2.out X _ c2 (fun w' h => (hrd2.below hX).below h)).mono ?_
                    rintro e w' ⟨rfl, hb⟩
                    exact ⟨rfl, hX.trans (hb.mono hX.size)⟩
                  clear hq hrd2 hu0 hu1
                  go_quiet (fail)
                  go_wp2_with fail
                  go_region_law (go_simp; (go_at_call 16; refine (QE.out _ (by first | exact Sb.below_drewN _ _ _ | exact Below.drew (Sb.below_drewN _ _ _))).mono ?_; rintro e x1 ⟨rfl, hx9⟩; obtain ⟨z1, z2⟩ := HU.out _ hx9; have HX9 := Lib.hid hx9))
                  all_goals
                    try go_simp
                    go_wp2_with fail
                    go_quiet (fail)
                    go_wp2_with fail
                    go_roundw
                    case rel => exact ⟨u + 1, y2, rfl, by go_num, HM5, Lib.hid (HW.out.trans ((hb2.mono HW.out.size).trans ((HX9.out.mono (Nat.le_trans HW.out.size hb2.size)).trans (Sb.below_drewN _ _ _)))), Lib.hid (by
                      have h7 := Sb.lt_of_heap HX.out
                      exact (HX9.out.block _ (Nat.lt_of_lt_of_le h7 hb2.size)).trans ((hb2.block _ h7).trans HX.out))⟩
                    case measure => simp [intOf]; omega
        · have hkI : ¬ (k : Int) ≤ (t.length : Int) := by omega
          have hyz : y = z := by rw [← HM.out, Sb.al_end (by omega), List.append_nil]
          subst hyz
          clear HM
          go_wp2_with fail
          all_goals
            ((try simp only [Exit.inBlock, Exit.then]); refine bodyPost_ret (results_tmp2 rfl _ _ _) rfl ?_)
            first
              | exact ⟨by rw [HA0.out, if_pos (by omega)]; rfl, HW.out⟩
              | exact ⟨by rw [HA0.out, if_neg (by omega)]; rfl, HW.out⟩
  · have HA : Hid (Sb.ans T t z = ([], 8)) := Lib.hid (by unfold Sb.ans; rw [if_neg hc])
    have hb0 : Sb.bad T = 8 := by unfold Sb.bad; rw [if_neg hc]
    rw [hb0] at HC
    rw [HA.out]
    clear hc hb0
    go_enter Try.func22, Try.ntmps22
    go_wp2_with (go_at_call 18; go_must (refine (HC.out _).mono ?_; rintro e w1 ⟨rfl, rfl⟩))
    ((try simp only [Exit.inBlock, Exit.then]); refine bodyPost_ret (results_tmp2 rfl _ _ _) rfl ?_)
    exact ⟨rfl, (Below.refl w.heap.size w).alloc (Nat.le_refl _) _⟩
end Go.Proofs.Ytelbabgkpflckaa
