/-
  RcPie: CONTRACTS: chapter 12, the document's Compile: piece.
-/
import Derived.Test.YtelbabgkpflckaaJ16

set_option linter.unusedSimpArgs false
set_option linter.unusedVariables false
namespace Go.Proofs.Ytelbabgkpflckaa
open Go.RowKit Go.Sort
open Me
open Pk

theorem layD {w w3 : World} {b : Nat} {v v3 : Value} {r0 : Rc.Rr} (hd : Rc.Did w b v r0 v3 w3) (hL : r0.L.length ≤ 1000000) (o x y : Int) :
    Calls Try.prog 35 #[.pointer (some ⟨b, 0, none⟩), .agg #[.int .i64 o, .int .i64 x, .int .i64 y, .string ⟨#[]⟩]] w3 fun e w' => e = .returned (.int .i64 (r0.L.length : Int)) ∧ ∃ v', Rc.Did w3 b v3 (Rc.lay r0 ⟨o, x, y, []⟩) v' w' ∧ Rc.Did w b v (Rc.lay r0 ⟨o, x, y, []⟩) v' w' := by
  refine (lay_any hd.at_ hL ⟨o, x, y, []⟩).mono ?_
  rintro e w' ⟨he, v', hq⟩
  exact ⟨he, v', hq, hd.trans hq⟩
theorem putD {w w3 : World} {b : Nat} {v v3 : Value} {r0 : Rc.Rr} (hd : Rc.Did w b v r0 v3 w3) {A : Option Addr} {c m : Nat} {l : List Rx.In} (hs : Rc.Side w3 b v3 A (icells l)) (hm : l.length = m) (hL : r0.L.length + l.length ≤ 1000000) :
    Calls Try.prog 52 #[.pointer (some ⟨b, 0, none⟩), .slice A m c] w3 fun e w' => e = .returned (.tuple #[]) ∧ ∃ v', Rc.Did w3 b v3 (Rc.put r0 l) v' w' ∧ Rc.Did w b v (Rc.put r0 l) v' w' := by
  subst hm
  refine (put_any hd.at_ hs hL).mono ?_
  rintro e w' ⟨he, v', hq⟩
  exact ⟨he, v', hq, hd.trans hq⟩
theorem cutD {w w3 : World} {b : Nat} {v v3 : Value} {r0 : Rc.Rr} (hd : Rc.Did w b v r0 v3 w3) {fr m : Nat} (hL : r0.L.length ≤ 1000000) (h0 : 0 < r0.L.length) (hf : fr ≤ r0.L.length) (hm : r0.L.length - fr = m) :
    Calls Try.prog 51 #[.pointer (some ⟨b, 0, none⟩), .int .i64 (fr : Int)] w3 fun e w' => ∃ v' A c, e = .returned (.slice A m c) ∧ Rc.Did w b v { r0 with L := r0.L.take fr } v' w' ∧ Rc.Side w' b v' A (icells (Rc.moved (r0.L.drop fr) (-(fr : Int)))) := by
  subst hm
  refine (cut_any hd.at_ hL h0 hf).mono ?_
  rintro e w' ⟨v', A, c, he, hq, hs⟩
  exact ⟨v', A, c, he, hd.trans hq, hs⟩

set_option maxRecDepth 100000 in
set_option maxHeartbeats 16000000 in
theorem rcPiece_any {S : List UInt8 → Prop} {n : Nat} {F : Rc.Rr → Rc.Rr} (hSC : Rc.SetC S) (hW : Rc.WaysC S n F) {w : World} {b : Nat} {v : Value} {r : Rc.Rr} (h : Rc.At w b v r) (ho : Rc.Ok r) (he : r.err = 0) (hS : S r.s) (hat : r.at_ < r.s.length) (hn : r.s.length - r.at_ ≤ n) :
    Calls Try.prog 58 #[.pointer (some ⟨b, 0, none⟩)] w (Rc.RunP (Rc.piece F) w b v r) := by
  have HAT := Lib.hid (rcAtom_any hSC hW h ho he hS hat hn)
  obtain ⟨A0, cp, rfl⟩ := h.form
  have c5 := h.c5
  obtain ⟨s, i, d, er, g, L⟩ := r
  replace he : er = 0 := he
  subst he
  obtain ⟨fr, hfr⟩ : ∃ fr, fr = L.length := ⟨_, rfl⟩
  replace c5 : w.cell? ⟨b, 5, none⟩ = some (.slice A0 fr cp) := by rw [hfr]; exact c5
  have HV : Hid (Value.slice A0 L.length cp = Value.slice A0 fr cp) := Lib.hid (by rw [hfr])
  have HAT2 : Hid (Calls Try.prog 67 #[.pointer (some ⟨b, 0, none⟩)] w (Rc.RunP (Rc.atom F) w b (.slice A0 fr cp) ⟨s, i, d, 0, g, L⟩)) := Lib.hid (by rw [← HV.out]; exact HAT.out)
  suffices hgoal : Calls Try.prog 58 #[.pointer (some ⟨b, 0, none⟩)] w (Rc.RunP (Rc.piece F) w b (.slice A0 fr cp) ⟨s, i, d, 0, g, L⟩) by
    show Calls _ _ _ w (Rc.RunP (Rc.piece F) w b (.slice A0 L.length cp) _)
    rw [HV.out]; exact hgoal
  have hfb : fr ≤ 10000 := by have q1 := ho.L; have q1 : L.length ≤ 2 * i + 1 := q1; have q2 := ho.at_; have q2 : i ≤ s.length := q2; have q3 := ho.len; have q3 : s.length ≤ 4096 := q3; omega
  have HFR := Lib.hid hfr
  have HO := Lib.hid ho
  obtain ⟨v, hv⟩ : ∃ v, v = Value.slice A0 fr cp := ⟨_, rfl⟩
  rw [← hv] at HAT2 c5 ⊢
  have hv2 : v = Value.slice A0 fr cp := hv
  clear h ho hSC hW hat hn hfr HAT HV hv
  subst hv2
  go_enter Try.func58, Try.ntmps58
  go_wp2_with fail
  go_at_call 67
  refine HAT2.out.mono ?_
  rintro e w1 ⟨rfl, ⟨s1, i1, d1, e1, g1, L1⟩, v1, hd1, hn1, hp1, heq1⟩
  have hs1 : s1 = s := hn1.s
  subst hs1
  have H1 := Lib.hid hd1
  have N1 := Lib.hid hn1
  have P1 := Lib.hid hp1
  have Q1 := Lib.hid heq1
  have k0 : w1.cell? ⟨b, 0, none⟩ = some (.string ⟨s1.toArray⟩) := hd1.at_.c0
  have k1 : w1.cell? ⟨b, 1, none⟩ = some (.int .i64 (i1 : Int)) := hd1.at_.c1
  have k3 : w1.cell? ⟨b, 3, none⟩ = some (.int .i64 e1) := hd1.at_.c3
  have kb := hd1.at_.lt
  have hlen : s1.length ≤ 4096 := hn1.ok.len
  have hi1 : i1 ≤ s1.length := hn1.ok.at_
  have hL1 : L1.length ≤ 2 * i1 + 1 := hn1.ok.L
  have hg1 : g1 ≤ i1 := hn1.ok.g
  have hdd1 : d1 ≤ i1 := hn1.ok.deep
  have hgr : fr ≤ L1.length := by have q := hn1.grow; have q : L.length ≤ L1.length := q; rw [HFR.out]; exact q
  have hpos : 0 < L1.length := hn1.ok.pos
  obtain ⟨kg1, kg2⟩ := Pk.kgrown2 w1
  clear hd1 hn1 hp1 heq1 c5
  by_cases he1 : e1 = 0
  · subst he1
    have HII : Hid (i < i1) := Lib.hid (P1.out rfl)
    by_cases hlt : i1 < s1.length
    · have hltI : (i1 : Int) < (s1.length : Int) := by omega
      have hne : ¬ (i1 : Int) = (s1.length : Int) := by omega
      have hneb : ((i1 : Int) == (s1.length : Int)) = false := by simpa using hne
      have hneN : ¬ i1 = s1.length := by omega
      have hi0 : (0 : Int) ≤ (i1 : Int) := by omega
      obtain ⟨c, hc⟩ : ∃ c, s1[i1]? = some c := ⟨_, List.getElem?_eq_getElem hlt⟩
      obtain ⟨z0, g0⟩ := Rc.byte_at hc
      have HCC := Lib.hid hc
      obtain ⟨i2, hi2⟩ : ∃ i2 : Nat, i2 = i1 + 1 := ⟨_, rfl⟩
      obtain ⟨i3, hi3⟩ : ∃ i3 : Nat, i3 = i2 + 1 := ⟨_, rfl⟩
      obtain ⟨m, hm⟩ : ∃ m : Nat, m = L1.length - fr := ⟨_, rfl⟩
      have hmb : m ≤ 10000 := by omega
      have hwi2 : IntKind.i64.wrap ((i1 : Int) + 1) = (i2 : Int) := by rw [IntKind.wrap_i64]; omega
      have hwi3 : IntKind.i64.wrap ((i2 : Int) + 1) = (i3 : Int) := by rw [IntKind.wrap_i64]; omega
      have HI2 := Lib.hid hi2
      have HI3 := Lib.hid hi3
      have HMM := Lib.hid hm
      have HBD : Hid (i1 < s1.length ∧ s1.length ≤ 4096 ∧ L1.length ≤ 2 * i1 + 1 ∧ g1 ≤ i1 ∧ d1 ≤ i1 ∧ fr ≤ L1.length ∧ 0 < L1.length) := Lib.hid ⟨hlt, hlen, hL1, hg1, hdd1, hgr, hpos⟩
      obtain ⟨X, hX⟩ : ∃ X, X = Rc.moved (L1.drop fr) (-(fr : Int)) := ⟨_, rfl⟩
      have HXL : Hid (X.length = m) := Lib.hid (by rw [hX, Rc.moved_len, List.length_drop, hm])
      have HXP : Hid (∀ x ∈ X, x.p.length ≤ 512) := Lib.hid (by rw [hX]; exact Rc.moved_p fun x hx => N1.out.ok.p x (List.mem_of_mem_drop hx))
      have HCT : Hid (∀ iX v3 w3, Rc.Did w b (.slice A0 fr cp) ⟨s1, iX, d1, 0, g1, L1⟩ v3 w3 → Calls Try.prog 51 #[.pointer (some ⟨b, 0, none⟩), .int .i64 (fr : Int)] w3 fun e w' => ∃ v' A c, e = .returned (.slice A m c) ∧ Rc.Did w b (.slice A0 fr cp) ⟨s1, iX, d1, 0, g1, L1.take fr⟩ v' w' ∧ Rc.Side w' b v' A (icells X)) := Lib.hid fun iX v3 w3 hd => by
        rw [hX]
        exact cutD hd (by show L1.length ≤ _; omega) hpos hgr hm.symm
      have HX := Lib.hid hX
      have HFL : Hid ((L1.take fr).length = fr) := Lib.hid (by rw [List.length_take]; omega)
      have HTP : Hid (∀ x ∈ L1.take fr, x.p.length ≤ 512) := Lib.hid fun x hx => N1.out.ok.p x (List.mem_of_mem_take hx)
      clear hc hi2 hi3 hm hX hlt hL1 hg1 hdd1 hgr hpos hi1
      by_cases h42 : c = 42
      · subst h42
        go_wp2_with fail
        go_quiet (fail)
        rename_i nq
        have H2 := Lib.hid (H1.out.drewN nq)
        generalize w1.drewN nq = w2 at *
        have k20 : w2.cell? ⟨b, 0, none⟩ = some (.string ⟨s1.toArray⟩) := H2.out.at_.c0
        have k21 : w2.cell? ⟨b, 1, none⟩ = some (.int .i64 (i1 : Int)) := H2.out.at_.c1
        go_wp2_with fail
        go_quiet (fail)

        have H3 := Lib.hid (H2.out.drewN nq)
        generalize w2.drewN nq = w3 at *
        have k31 : w3.cell? ⟨b, 1, none⟩ = some (.int .i64 (i1 : Int)) := H3.out.at_.c1
        have kf31 := H3.out.at_.fz 1
        cases hmo : Rc.more ⟨s1, i2, d1, 0, g1, L1⟩ 63
        · have HMO : Hid (Rc.more ⟨s1, i1 + 1, d1, 0, g1, L1⟩ 63 = false) := Lib.hid (by rw [← HI2.out]; exact hmo)
          have H4 : Hid (Rc.Did w b (.slice A0 fr cp) ⟨s1, i2, d1, 0, g1, L1⟩ v1 (w3.setCell ⟨b, 1, none⟩ (.int .i64 (i2 : Int)))) := Lib.hid (H3.out.set1 i2)
          have HM := Lib.hid (more_any H4.out.at_ 63 63 rfl)
          rw [hmo] at HM
          go_wp2_with first
            | (go_at_call 50; go_must (refine HM.out.mono ?_; rintro e w5 ⟨rfl, hb5⟩; have H5 := Lib.hid (H4.out.on hb5); have k51 : w5.cell? ⟨b, 1, none⟩ = some (.int .i64 (i2 : Int)) := H5.out.at_.c1; have kf51 := H5.out.at_.fz 1; have H6 := H5; clear hb5))
            | (go_at_call 51; go_must (refine (HCT.out _ _ _ H6.out).mono ?_; rintro e w7 ⟨v7, A7, c7, rfl, hd7, hs7⟩; have H7 := Lib.hid hd7; have S7 := Lib.hid hs7; have hb8 : Below w7.heap.size w7 (w7.alloc (.cells #[.int .i64 2, .int .i64 ((fr : Int) + 1), .int .i64 ((fr : Int) + 2 + (m : Int)), .string ⟨#[]⟩] 57)) := (Below.refl _ _).alloc (Nat.le_refl _) _; have H8 := Lib.hid (H7.out.on hb8); have S8 : Hid (Rc.Side (w7.alloc (.cells #[.int .i64 2, .int .i64 ((fr : Int) + 1), .int .i64 ((fr : Int) + 2 + (m : Int)), .string ⟨#[]⟩] 57)) b v7 A7 (icells X)) := Lib.hid (hs7.below hb8); have R8 : Hid (RowAt (w7.alloc (.cells #[.int .i64 2, .int .i64 ((fr : Int) + 1), .int .i64 ((fr : Int) + 2 + (m : Int)), .string ⟨#[]⟩] 57)) w7.heap.size 57 #[.int .i64 2, .int .i64 ((fr : Int) + 1), .int .i64 ((fr : Int) + 2 + (m : Int)), .string ⟨#[]⟩]) := Lib.hid (RowAt.new _ _ _); have hol : ∀ g, v7.ownBlock = some g → g < w7.heap.size := (fun g hg => (H7.out.at_.olt g hg).2); have hbl7 := H7.out.at_.lt; clear hd7 hs7 hb8))
            | (go_at_call 35; ((with_reducible refine (layD H8.out (by show List.length (L1.take fr) ≤ _; rw [HFL.out]; omega) 2 ((fr : Int) + 1) ((fr : Int) + 2 + (m : Int))).mono ?_); rintro e w9 ⟨rfl, v9, hq9, hd9⟩; have H9 := Lib.hid hd9; have S9 := Lib.hid (hq9.side S8.out); clear hd9 hq9))
            | (go_at_call 52; go_must (refine (putD H9.out S9.out HXL.out (by show List.length (L1.take fr ++ [_]) + X.length ≤ _; rw [List.length_append, HFL.out, HXL.out]; show fr + 1 + m ≤ _; omega)).mono ?_; rintro e w10 ⟨rfl, v10, _, hd10⟩; have HF0 := Lib.hid hd10; clear hd10))
            | (go_at_call 35; (go_must (refine (layD HF0.out (by show List.length ((L1.take fr ++ [_]) ++ Rc.moved X _) ≤ _; rw [List.length_append, List.length_append, Rc.moved_len, HFL.out, HXL.out]; show fr + 1 + m ≤ _; omega) 3 (fr : Int) 0).mono ?_; rintro e w11 ⟨rfl, v11, _, hd11⟩; have HF := Lib.hid hd11; clear hd11)))
          ((try simp only [Exit.inBlock, Exit.then]); first | (refine bodyPost_ret (results_none rfl _ _ _) rfl ?_) | (refine bodyPost_end (results_none rfl _ _ _) rfl ?_))
          have q1 := HBD.out
          have q2 := HI2.out
          have q3 := HI3.out
          have q4 := HII.out
          have q5 := HMM.out
          have hlf : List.length (((L1.take fr ++ [(⟨2, (fr : Int) + 1, (fr : Int) + 2 + (m : Int), []⟩ : Rx.In)]) ++ Rc.moved X (List.length (L1.take fr ++ [(⟨2, (fr : Int) + 1, (fr : Int) + 2 + (m : Int), []⟩ : Rx.In)]))) ++ [(⟨3, (fr : Int), 0, []⟩ : Rx.In)]) = L1.length + 2 := by simp only [List.length_append, Rc.moved_len, HFL.out, HXL.out, List.length_cons, List.length_nil]; omega
          refine ⟨rfl, ⟨s1, i2, d1, 0, g1, (((L1.take fr ++ [(⟨2, (fr : Int) + 1, (fr : Int) + 2 + (m : Int), []⟩ : Rx.In)]) ++ Rc.moved X (List.length (L1.take fr ++ [(⟨2, (fr : Int) + 1, (fr : Int) + 2 + (m : Int), []⟩ : Rx.In)]))) ++ [(⟨3, (fr : Int), 0, []⟩ : Rx.In)])⟩, v11, HF.out, ⟨rfl, ⟨?_, N1.out.ok.len, ?_, ?_, ?_, ?_, ?_⟩, ?_, N1.out.deep, ?_⟩, fun _ => ?_, fun hs => ?_⟩
          · show i2 ≤ s1.length; omega
          · show List.length (((L1.take fr ++ [(⟨2, (fr : Int) + 1, (fr : Int) + 2 + (m : Int), []⟩ : Rx.In)]) ++ Rc.moved X (List.length (L1.take fr ++ [(⟨2, (fr : Int) + 1, (fr : Int) + 2 + (m : Int), []⟩ : Rx.In)]))) ++ [(⟨3, (fr : Int), 0, []⟩ : Rx.In)]) ≤ 2 * i2 + 1; omega
          · show g1 ≤ i2; omega
          · show d1 ≤ i2; omega
          · intro x hx; simp only [List.mem_append, List.mem_singleton] at hx; rcases hx with ((hx | rfl) | hx) | rfl; exact HTP.out x hx; exact Nat.zero_le _; exact Rc.moved_p HXP.out x hx; exact Nat.zero_le _
          · show 0 < List.length (((L1.take fr ++ [(⟨2, (fr : Int) + 1, (fr : Int) + 2 + (m : Int), []⟩ : Rx.In)]) ++ Rc.moved X (List.length (L1.take fr ++ [(⟨2, (fr : Int) + 1, (fr : Int) + 2 + (m : Int), []⟩ : Rx.In)]))) ++ [(⟨3, (fr : Int), 0, []⟩ : Rx.In)]); omega
          · show i ≤ i2; omega
          · show L.length ≤ List.length (((L1.take fr ++ [(⟨2, (fr : Int) + 1, (fr : Int) + 2 + (m : Int), []⟩ : Rx.In)]) ++ Rc.moved X (List.length (L1.take fr ++ [(⟨2, (fr : Int) + 1, (fr : Int) + 2 + (m : Int), []⟩ : Rx.In)]))) ++ [(⟨3, (fr : Int), 0, []⟩ : Rx.In)]); have := HFR.out; omega
          · show i < i2; omega
          · unfold Rc.piece
            rw [← Q1.out hs]
            have e2 : i2 = i1 + 1 := q2
            have e3 : i3 = i2 + 1 := q3
            have e4 : fr = L.length := HFR.out
            have hmo2 := HMO.out
            have hx := HX.out
            have hxl := HXL.out
            subst e3 e2
            subst hx
            have e5 : m = (Rc.moved (L1.drop fr) (-(fr : Int))).length := hxl.symm
            rw [e5, e4]
            simp [HCC.out, Rc.step, hmo2, Rc.rep, Rc.lay, Rc.put, Rc.splitOf]
        · have HMO : Hid (Rc.more ⟨s1, i1 + 1, d1, 0, g1, L1⟩ 63 = true) := Lib.hid (by rw [← HI2.out]; exact hmo)
          have HML : Hid (i2 < s1.length) := Lib.hid (Rc.more_lt hmo)
          have H4 : Hid (Rc.Did w b (.slice A0 fr cp) ⟨s1, i2, d1, 0, g1, L1⟩ v1 (w3.setCell ⟨b, 1, none⟩ (.int .i64 (i2 : Int)))) := Lib.hid (H3.out.set1 i2)
          have HM := Lib.hid (more_any H4.out.at_ 63 63 rfl)
          rw [hmo] at HM
          go_wp2_with first
            | (go_at_call 50; go_must (refine HM.out.mono ?_; rintro e w5 ⟨rfl, hb5⟩; have H5 := Lib.hid (H4.out.on hb5); have k51 : w5.cell? ⟨b, 1, none⟩ = some (.int .i64 (i2 : Int)) := H5.out.at_.c1; have kf51 := H5.out.at_.fz 1; have H6 : Hid (Rc.Did w b (.slice A0 fr cp) ⟨s1, i3, d1, 0, g1, L1⟩ v1 (w5.setCell ⟨b, 1, none⟩ (.int .i64 (i3 : Int)))) := Lib.hid (H5.out.set1 i3); clear hb5))
            | (go_at_call 51; go_must (refine (HCT.out _ _ _ H6.out).mono ?_; rintro e w7 ⟨v7, A7, c7, rfl, hd7, hs7⟩; have H7 := Lib.hid hd7; have S7 := Lib.hid hs7; have hb8 : Below w7.heap.size w7 (w7.alloc (.cells #[.int .i64 2, .int .i64 ((fr : Int) + 2 + (m : Int)), .int .i64 ((fr : Int) + 1), .string ⟨#[]⟩] 57)) := (Below.refl _ _).alloc (Nat.le_refl _) _; have H8 := Lib.hid (H7.out.on hb8); have S8 : Hid (Rc.Side (w7.alloc (.cells #[.int .i64 2, .int .i64 ((fr : Int) + 2 + (m : Int)), .int .i64 ((fr : Int) + 1), .string ⟨#[]⟩] 57)) b v7 A7 (icells X)) := Lib.hid (hs7.below hb8); have R8 : Hid (RowAt (w7.alloc (.cells #[.int .i64 2, .int .i64 ((fr : Int) + 2 + (m : Int)), .int .i64 ((fr : Int) + 1), .string ⟨#[]⟩] 57)) w7.heap.size 57 #[.int .i64 2, .int .i64 ((fr : Int) + 2 + (m : Int)), .int .i64 ((fr : Int) + 1), .string ⟨#[]⟩]) := Lib.hid (RowAt.new _ _ _); have hol : ∀ g, v7.ownBlock = some g → g < w7.heap.size := (fun g hg => (H7.out.at_.olt g hg).2); have hbl7 := H7.out.at_.lt; clear hd7 hs7 hb8))
            | (go_at_call 35; ((with_reducible refine (layD H8.out (by show List.length (L1.take fr) ≤ _; rw [HFL.out]; omega) 2 ((fr : Int) + 2 + (m : Int)) ((fr : Int) + 1)).mono ?_); rintro e w9 ⟨rfl, v9, hq9, hd9⟩; have H9 := Lib.hid hd9; have S9 := Lib.hid (hq9.side S8.out); clear hd9 hq9))
            | (go_at_call 52; go_must (refine (putD H9.out S9.out HXL.out (by show List.length (L1.take fr ++ [_]) + X.length ≤ _; rw [List.length_append, HFL.out, HXL.out]; show fr + 1 + m ≤ _; omega)).mono ?_; rintro e w10 ⟨rfl, v10, _, hd10⟩; have HF0 := Lib.hid hd10; clear hd10))
            | (go_at_call 35; (go_must (refine (layD HF0.out (by show List.length ((L1.take fr ++ [_]) ++ Rc.moved X _) ≤ _; rw [List.length_append, List.length_append, Rc.moved_len, HFL.out, HXL.out]; show fr + 1 + m ≤ _; omega) 3 (fr : Int) 0).mono ?_; rintro e w11 ⟨rfl, v11, _, hd11⟩; have HF := Lib.hid hd11; clear hd11)))
          ((try simp only [Exit.inBlock, Exit.then]); first | (refine bodyPost_ret (results_none rfl _ _ _) rfl ?_) | (refine bodyPost_end (results_none rfl _ _ _) rfl ?_))
          have q1 := HBD.out
          have q2 := HI2.out
          have q3 := HI3.out
          have q4 := HII.out
          have q5 := HMM.out
          have hlf : List.length (((L1.take fr ++ [(⟨2, (fr : Int) + 2 + (m : Int), (fr : Int) + 1, []⟩ : Rx.In)]) ++ Rc.moved X (List.length (L1.take fr ++ [(⟨2, (fr : Int) + 2 + (m : Int), (fr : Int) + 1, []⟩ : Rx.In)]))) ++ [(⟨3, (fr : Int), 0, []⟩ : Rx.In)]) = L1.length + 2 := by simp only [List.length_append, Rc.moved_len, HFL.out, HXL.out, List.length_cons, List.length_nil]; omega
          refine ⟨rfl, ⟨s1, i3, d1, 0, g1, (((L1.take fr ++ [(⟨2, (fr : Int) + 2 + (m : Int), (fr : Int) + 1, []⟩ : Rx.In)]) ++ Rc.moved X (List.length (L1.take fr ++ [(⟨2, (fr : Int) + 2 + (m : Int), (fr : Int) + 1, []⟩ : Rx.In)]))) ++ [(⟨3, (fr : Int), 0, []⟩ : Rx.In)])⟩, v11, HF.out, ⟨rfl, ⟨?_, N1.out.ok.len, ?_, ?_, ?_, ?_, ?_⟩, ?_, N1.out.deep, ?_⟩, fun _ => ?_, fun hs => ?_⟩
          · show i3 ≤ s1.length; have q6 := HML.out; omega
          · show List.length (((L1.take fr ++ [(⟨2, (fr : Int) + 2 + (m : Int), (fr : Int) + 1, []⟩ : Rx.In)]) ++ Rc.moved X (List.length (L1.take fr ++ [(⟨2, (fr : Int) + 2 + (m : Int), (fr : Int) + 1, []⟩ : Rx.In)]))) ++ [(⟨3, (fr : Int), 0, []⟩ : Rx.In)]) ≤ 2 * i3 + 1; omega
          · show g1 ≤ i3; omega
          · show d1 ≤ i3; omega
          · intro x hx; simp only [List.mem_append, List.mem_singleton] at hx; rcases hx with ((hx | rfl) | hx) | rfl; exact HTP.out x hx; exact Nat.zero_le _; exact Rc.moved_p HXP.out x hx; exact Nat.zero_le _
          · show 0 < List.length (((L1.take fr ++ [(⟨2, (fr : Int) + 2 + (m : Int), (fr : Int) + 1, []⟩ : Rx.In)]) ++ Rc.moved X (List.length (L1.take fr ++ [(⟨2, (fr : Int) + 2 + (m : Int), (fr : Int) + 1, []⟩ : Rx.In)]))) ++ [(⟨3, (fr : Int), 0, []⟩ : Rx.In)]); omega
          · show i ≤ i3; omega
          · show L.length ≤ List.length (((L1.take fr ++ [(⟨2, (fr : Int) + 2 + (m : Int), (fr : Int) + 1, []⟩ : Rx.In)]) ++ Rc.moved X (List.length (L1.take fr ++ [(⟨2, (fr : Int) + 2 + (m : Int), (fr : Int) + 1, []⟩ : Rx.In)]))) ++ [(⟨3, (fr : Int), 0, []⟩ : Rx.In)]); have := HFR.out; omega
          · show i < i3; omega
          · unfold Rc.piece
            rw [← Q1.out hs]
            have e2 : i2 = i1 + 1 := q2
            have e3 : i3 = i2 + 1 := q3
            have e4 : fr = L.length := HFR.out
            have hmo2 := HMO.out
            have hx := HX.out
            have hxl := HXL.out
            subst e3 e2
            subst hx
            have e5 : m = (Rc.moved (L1.drop fr) (-(fr : Int))).length := hxl.symm
            rw [e5, e4]
            simp [HCC.out, Rc.step, hmo2, Rc.rep, Rc.lay, Rc.put, Rc.splitOf]
      · by_cases h43 : c = 43
        · subst h43
          go_wp2_with fail
          go_quiet (fail)
          rename_i nq
          have H2 := Lib.hid (H1.out.drewN nq)
          generalize w1.drewN nq = w2 at *
          have k20 : w2.cell? ⟨b, 0, none⟩ = some (.string ⟨s1.toArray⟩) := H2.out.at_.c0
          have k21 : w2.cell? ⟨b, 1, none⟩ = some (.int .i64 (i1 : Int)) := H2.out.at_.c1
          go_wp2_with fail
          go_quiet (fail)

          have H3 := Lib.hid (H2.out.drewN nq)
          generalize w2.drewN nq = w3 at *
          have k31 : w3.cell? ⟨b, 1, none⟩ = some (.int .i64 (i1 : Int)) := H3.out.at_.c1
          have kf31 := H3.out.at_.fz 1
          cases hmo : Rc.more ⟨s1, i2, d1, 0, g1, L1⟩ 63
          · have HMO : Hid (Rc.more ⟨s1, i1 + 1, d1, 0, g1, L1⟩ 63 = false) := Lib.hid (by rw [← HI2.out]; exact hmo)
            have H4 : Hid (Rc.Did w b (.slice A0 fr cp) ⟨s1, i2, d1, 0, g1, L1⟩ v1 (w3.setCell ⟨b, 1, none⟩ (.int .i64 (i2 : Int)))) := Lib.hid (H3.out.set1 i2)
            have HM := Lib.hid (more_any H4.out.at_ 63 63 rfl)
            rw [hmo] at HM
            go_wp2_with first
              | (go_at_call 50; go_must (refine HM.out.mono ?_; rintro e w5 ⟨rfl, hb5⟩; have H5 := Lib.hid (H4.out.on hb5); have k51 : w5.cell? ⟨b, 1, none⟩ = some (.int .i64 (i2 : Int)) := H5.out.at_.c1; have kf51 := H5.out.at_.fz 1; have H6 := H5; clear hb5))
              | (go_at_call 51; go_must (refine (HCT.out _ _ _ H6.out).mono ?_; rintro e w7 ⟨v7, A7, c7, rfl, hd7, hs7⟩; have H7 := Lib.hid hd7; have S7 := Lib.hid hs7; have hb8 : Below w7.heap.size w7 (w7.alloc (.cells #[.int .i64 2, .int .i64 ((fr : Int)), .int .i64 ((fr : Int) + (m : Int) + 1), .string ⟨#[]⟩] 57)) := (Below.refl _ _).alloc (Nat.le_refl _) _; have H8 := Lib.hid (H7.out.on hb8); have S8 : Hid (Rc.Side (w7.alloc (.cells #[.int .i64 2, .int .i64 ((fr : Int)), .int .i64 ((fr : Int) + (m : Int) + 1), .string ⟨#[]⟩] 57)) b v7 A7 (icells X)) := Lib.hid (hs7.below hb8); have R8 : Hid (RowAt (w7.alloc (.cells #[.int .i64 2, .int .i64 ((fr : Int)), .int .i64 ((fr : Int) + (m : Int) + 1), .string ⟨#[]⟩] 57)) w7.heap.size 57 #[.int .i64 2, .int .i64 ((fr : Int)), .int .i64 ((fr : Int) + (m : Int) + 1), .string ⟨#[]⟩]) := Lib.hid (RowAt.new _ _ _); have hol : ∀ g, v7.ownBlock = some g → g < w7.heap.size := (fun g hg => (H7.out.at_.olt g hg).2); have hbl7 := H7.out.at_.lt; clear hd7 hs7 hb8))
              | (go_at_call 52; go_must (refine (putD H8.out S8.out HXL.out (by show List.length (L1.take fr) + X.length ≤ _; rw [HFL.out, HXL.out]; omega)).mono ?_; rintro e w9 ⟨rfl, v9, hq9, hd9⟩; have H9 := Lib.hid hd9; have r9 : RowAt w9 w7.heap.size 57 #[.int .i64 2, .int .i64 ((fr : Int)), .int .i64 ((fr : Int) + (m : Int) + 1), .string ⟨#[]⟩] := hq9.row R8.out (by omega) (fun e => by have := hol _ e; omega); have j0 := (r9.cell 0).trans rfl; have j1 := (r9.cell 1).trans rfl; have j2 := (r9.cell 2).trans rfl; have j3 := (r9.cell 3).trans rfl; clear hd9 hq9 r9))
              | (go_at_call 35; go_must (refine (layD H9.out (by show List.length (L1.take fr ++ Rc.moved X _) ≤ _; rw [List.length_append, Rc.moved_len, HFL.out, HXL.out]; omega) 2 ((fr : Int)) ((fr : Int) + (m : Int) + 1)).mono ?_; rintro e w10 ⟨rfl, v10, _, hd10⟩; have HF := Lib.hid hd10; clear hd10))
            ((try simp only [Exit.inBlock, Exit.then]); first | (refine bodyPost_ret (results_none rfl _ _ _) rfl ?_) | (refine bodyPost_end (results_none rfl _ _ _) rfl ?_))
            have q1 := HBD.out
            have q2 := HI2.out
            have q3 := HI3.out
            have q4 := HII.out
            have q5 := HMM.out
            have hlf : List.length ((L1.take fr ++ Rc.moved X (List.length (L1.take fr))) ++ [(⟨2, (fr : Int), (fr : Int) + (m : Int) + 1, []⟩ : Rx.In)]) = L1.length + 1 := by simp only [List.length_append, Rc.moved_len, HFL.out, HXL.out, List.length_cons, List.length_nil]; omega
            refine ⟨rfl, ⟨s1, i2, d1, 0, g1, ((L1.take fr ++ Rc.moved X (List.length (L1.take fr))) ++ [(⟨2, (fr : Int), (fr : Int) + (m : Int) + 1, []⟩ : Rx.In)])⟩, v10, HF.out, ⟨rfl, ⟨?_, N1.out.ok.len, ?_, ?_, ?_, ?_, ?_⟩, ?_, N1.out.deep, ?_⟩, fun _ => ?_, fun hs => ?_⟩
            · show i2 ≤ s1.length; omega
            · show List.length ((L1.take fr ++ Rc.moved X (List.length (L1.take fr))) ++ [(⟨2, (fr : Int), (fr : Int) + (m : Int) + 1, []⟩ : Rx.In)]) ≤ 2 * i2 + 1; omega
            · show g1 ≤ i2; omega
            · show d1 ≤ i2; omega
            · intro x hx; simp only [List.mem_append, List.mem_singleton] at hx; rcases hx with (hx | hx) | rfl; exact HTP.out x hx; exact Rc.moved_p HXP.out x hx; exact Nat.zero_le _
            · show 0 < List.length ((L1.take fr ++ Rc.moved X (List.length (L1.take fr))) ++ [(⟨2, (fr : Int), (fr : Int) + (m : Int) + 1, []⟩ : Rx.In)]); omega
            · show i ≤ i2; omega
            · show L.length ≤ List.length ((L1.take fr ++ Rc.moved X (List.length (L1.take fr))) ++ [(⟨2, (fr : Int), (fr : Int) + (m : Int) + 1, []⟩ : Rx.In)]); have := HFR.out; omega
            · show i < i2; omega
            · unfold Rc.piece
              rw [← Q1.out hs]
              have e2 : i2 = i1 + 1 := q2
              have e3 : i3 = i2 + 1 := q3
              have e4 : fr = L.length := HFR.out
              have hmo2 := HMO.out
              have hx := HX.out
              have hxl := HXL.out
              subst e3 e2
              subst hx
              have e5 : m = (Rc.moved (L1.drop fr) (-(fr : Int))).length := hxl.symm
              rw [e5, e4]
              simp [HCC.out, Rc.step, hmo2, Rc.rep, Rc.lay, Rc.put, Rc.splitOf]
          · have HMO : Hid (Rc.more ⟨s1, i1 + 1, d1, 0, g1, L1⟩ 63 = true) := Lib.hid (by rw [← HI2.out]; exact hmo)
            have HML : Hid (i2 < s1.length) := Lib.hid (Rc.more_lt hmo)
            have H4 : Hid (Rc.Did w b (.slice A0 fr cp) ⟨s1, i2, d1, 0, g1, L1⟩ v1 (w3.setCell ⟨b, 1, none⟩ (.int .i64 (i2 : Int)))) := Lib.hid (H3.out.set1 i2)
            have HM := Lib.hid (more_any H4.out.at_ 63 63 rfl)
            rw [hmo] at HM
            go_wp2_with first
              | (go_at_call 50; go_must (refine HM.out.mono ?_; rintro e w5 ⟨rfl, hb5⟩; have H5 := Lib.hid (H4.out.on hb5); have k51 : w5.cell? ⟨b, 1, none⟩ = some (.int .i64 (i2 : Int)) := H5.out.at_.c1; have kf51 := H5.out.at_.fz 1; have H6 : Hid (Rc.Did w b (.slice A0 fr cp) ⟨s1, i3, d1, 0, g1, L1⟩ v1 (w5.setCell ⟨b, 1, none⟩ (.int .i64 (i3 : Int)))) := Lib.hid (H5.out.set1 i3); clear hb5))
              | (go_at_call 51; go_must (refine (HCT.out _ _ _ H6.out).mono ?_; rintro e w7 ⟨v7, A7, c7, rfl, hd7, hs7⟩; have H7 := Lib.hid hd7; have S7 := Lib.hid hs7; have hb8 : Below w7.heap.size w7 (w7.alloc (.cells #[.int .i64 2, .int .i64 ((fr : Int) + (m : Int) + 1), .int .i64 ((fr : Int)), .string ⟨#[]⟩] 57)) := (Below.refl _ _).alloc (Nat.le_refl _) _; have H8 := Lib.hid (H7.out.on hb8); have S8 : Hid (Rc.Side (w7.alloc (.cells #[.int .i64 2, .int .i64 ((fr : Int) + (m : Int) + 1), .int .i64 ((fr : Int)), .string ⟨#[]⟩] 57)) b v7 A7 (icells X)) := Lib.hid (hs7.below hb8); have R8 : Hid (RowAt (w7.alloc (.cells #[.int .i64 2, .int .i64 ((fr : Int) + (m : Int) + 1), .int .i64 ((fr : Int)), .string ⟨#[]⟩] 57)) w7.heap.size 57 #[.int .i64 2, .int .i64 ((fr : Int) + (m : Int) + 1), .int .i64 ((fr : Int)), .string ⟨#[]⟩]) := Lib.hid (RowAt.new _ _ _); have hol : ∀ g, v7.ownBlock = some g → g < w7.heap.size := (fun g hg => (H7.out.at_.olt g hg).2); have hbl7 := H7.out.at_.lt; clear hd7 hs7 hb8))
              | (go_at_call 52; go_must (refine (putD H8.out S8.out HXL.out (by show List.length (L1.take fr) + X.length ≤ _; rw [HFL.out, HXL.out]; omega)).mono ?_; rintro e w9 ⟨rfl, v9, hq9, hd9⟩; have H9 := Lib.hid hd9; have r9 : RowAt w9 w7.heap.size 57 #[.int .i64 2, .int .i64 ((fr : Int) + (m : Int) + 1), .int .i64 ((fr : Int)), .string ⟨#[]⟩] := hq9.row R8.out (by omega) (fun e => by have := hol _ e; omega); have j0 := (r9.cell 0).trans rfl; have j1 := (r9.cell 1).trans rfl; have j2 := (r9.cell 2).trans rfl; have j3 := (r9.cell 3).trans rfl; clear hd9 hq9 r9))
              | (go_at_call 35; go_must (refine (layD H9.out (by show List.length (L1.take fr ++ Rc.moved X _) ≤ _; rw [List.length_append, Rc.moved_len, HFL.out, HXL.out]; omega) 2 ((fr : Int) + (m : Int) + 1) ((fr : Int))).mono ?_; rintro e w10 ⟨rfl, v10, _, hd10⟩; have HF := Lib.hid hd10; clear hd10))
            ((try simp only [Exit.inBlock, Exit.then]); first | (refine bodyPost_ret (results_none rfl _ _ _) rfl ?_) | (refine bodyPost_end (results_none rfl _ _ _) rfl ?_))
            have q1 := HBD.out
            have q2 := HI2.out
            have q3 := HI3.out
            have q4 := HII.out
            have q5 := HMM.out
            have hlf : List.length ((L1.take fr ++ Rc.moved X (List.length (L1.take fr))) ++ [(⟨2, (fr : Int) + (m : Int) + 1, (fr : Int), []⟩ : Rx.In)]) = L1.length + 1 := by simp only [List.length_append, Rc.moved_len, HFL.out, HXL.out, List.length_cons, List.length_nil]; omega
            refine ⟨rfl, ⟨s1, i3, d1, 0, g1, ((L1.take fr ++ Rc.moved X (List.length (L1.take fr))) ++ [(⟨2, (fr : Int) + (m : Int) + 1, (fr : Int), []⟩ : Rx.In)])⟩, v10, HF.out, ⟨rfl, ⟨?_, N1.out.ok.len, ?_, ?_, ?_, ?_, ?_⟩, ?_, N1.out.deep, ?_⟩, fun _ => ?_, fun hs => ?_⟩
            · show i3 ≤ s1.length; have q6 := HML.out; omega
            · show List.length ((L1.take fr ++ Rc.moved X (List.length (L1.take fr))) ++ [(⟨2, (fr : Int) + (m : Int) + 1, (fr : Int), []⟩ : Rx.In)]) ≤ 2 * i3 + 1; omega
            · show g1 ≤ i3; omega
            · show d1 ≤ i3; omega
            · intro x hx; simp only [List.mem_append, List.mem_singleton] at hx; rcases hx with (hx | hx) | rfl; exact HTP.out x hx; exact Rc.moved_p HXP.out x hx; exact Nat.zero_le _
            · show 0 < List.length ((L1.take fr ++ Rc.moved X (List.length (L1.take fr))) ++ [(⟨2, (fr : Int) + (m : Int) + 1, (fr : Int), []⟩ : Rx.In)]); omega
            · show i ≤ i3; omega
            · show L.length ≤ List.length ((L1.take fr ++ Rc.moved X (List.length (L1.take fr))) ++ [(⟨2, (fr : Int) + (m : Int) + 1, (fr : Int), []⟩ : Rx.In)]); have := HFR.out; omega
            · show i < i3; omega
            · unfold Rc.piece
              rw [← Q1.out hs]
              have e2 : i2 = i1 + 1 := q2
              have e3 : i3 = i2 + 1 := q3
              have e4 : fr = L.length := HFR.out
              have hmo2 := HMO.out
              have hx := HX.out
              have hxl := HXL.out
              subst e3 e2
              subst hx
              have e5 : m = (Rc.moved (L1.drop fr) (-(fr : Int))).length := hxl.symm
              rw [e5, e4]
              simp [HCC.out, Rc.step, hmo2, Rc.rep, Rc.lay, Rc.put, Rc.splitOf]
        · by_cases h63 : c = 63
          · subst h63
            go_wp2_with fail
            go_quiet (fail)
            rename_i nq
            have H2 := Lib.hid (H1.out.drewN nq)
            generalize w1.drewN nq = w2 at *
            have k20 : w2.cell? ⟨b, 0, none⟩ = some (.string ⟨s1.toArray⟩) := H2.out.at_.c0
            have k21 : w2.cell? ⟨b, 1, none⟩ = some (.int .i64 (i1 : Int)) := H2.out.at_.c1
            go_wp2_with fail
            go_quiet (fail)

            have H3 := Lib.hid (H2.out.drewN nq)
            generalize w2.drewN nq = w3 at *
            have k31 : w3.cell? ⟨b, 1, none⟩ = some (.int .i64 (i1 : Int)) := H3.out.at_.c1
            have kf31 := H3.out.at_.fz 1
            cases hmo : Rc.more ⟨s1, i2, d1, 0, g1, L1⟩ 63
            · have HMO : Hid (Rc.more ⟨s1, i1 + 1, d1, 0, g1, L1⟩ 63 = false) := Lib.hid (by rw [← HI2.out]; exact hmo)
              have H4 : Hid (Rc.Did w b (.slice A0 fr cp) ⟨s1, i2, d1, 0, g1, L1⟩ v1 (w3.setCell ⟨b, 1, none⟩ (.int .i64 (i2 : Int)))) := Lib.hid (H3.out.set1 i2)
              have HM := Lib.hid (more_any H4.out.at_ 63 63 rfl)
              rw [hmo] at HM
              go_wp2_with first
                | (go_at_call 50; go_must (refine HM.out.mono ?_; rintro e w5 ⟨rfl, hb5⟩; have H5 := Lib.hid (H4.out.on hb5); have k51 : w5.cell? ⟨b, 1, none⟩ = some (.int .i64 (i2 : Int)) := H5.out.at_.c1; have kf51 := H5.out.at_.fz 1; have H6 := H5; clear hb5))
                | (go_at_call 51; go_must (refine (HCT.out _ _ _ H6.out).mono ?_; rintro e w7 ⟨v7, A7, c7, rfl, hd7, hs7⟩; have H7 := Lib.hid hd7; have S7 := Lib.hid hs7; have hb8 : Below w7.heap.size w7 (w7.alloc (.cells #[.int .i64 2, .int .i64 ((fr : Int) + 1), .int .i64 ((fr : Int) + 1 + (m : Int)), .string ⟨#[]⟩] 57)) := (Below.refl _ _).alloc (Nat.le_refl _) _; have H8 := Lib.hid (H7.out.on hb8); have S8 : Hid (Rc.Side (w7.alloc (.cells #[.int .i64 2, .int .i64 ((fr : Int) + 1), .int .i64 ((fr : Int) + 1 + (m : Int)), .string ⟨#[]⟩] 57)) b v7 A7 (icells X)) := Lib.hid (hs7.below hb8); have R8 : Hid (RowAt (w7.alloc (.cells #[.int .i64 2, .int .i64 ((fr : Int) + 1), .int .i64 ((fr : Int) + 1 + (m : Int)), .string ⟨#[]⟩] 57)) w7.heap.size 57 #[.int .i64 2, .int .i64 ((fr : Int) + 1), .int .i64 ((fr : Int) + 1 + (m : Int)), .string ⟨#[]⟩]) := Lib.hid (RowAt.new _ _ _); have hol : ∀ g, v7.ownBlock = some g → g < w7.heap.size := (fun g hg => (H7.out.at_.olt g hg).2); have hbl7 := H7.out.at_.lt; clear hd7 hs7 hb8))
                | (go_at_call 35; ((with_reducible refine (layD H8.out (by show List.length (L1.take fr) ≤ _; rw [HFL.out]; omega) 2 ((fr : Int) + 1) ((fr : Int) + 1 + (m : Int))).mono ?_); rintro e w9 ⟨rfl, v9, hq9, hd9⟩; have H9 := Lib.hid hd9; have S9 := Lib.hid (hq9.side S8.out); clear hd9 hq9))
                | (go_at_call 52; go_must (refine (putD H9.out S9.out HXL.out (by show List.length (L1.take fr ++ [_]) + X.length ≤ _; rw [List.length_append, HFL.out, HXL.out]; show fr + 1 + m ≤ _; omega)).mono ?_; rintro e w10 ⟨rfl, v10, _, hd10⟩; have HF := Lib.hid hd10; clear hd10))
              ((try simp only [Exit.inBlock, Exit.then]); first | (refine bodyPost_ret (results_none rfl _ _ _) rfl ?_) | (refine bodyPost_end (results_none rfl _ _ _) rfl ?_))
              have q1 := HBD.out
              have q2 := HI2.out
              have q3 := HI3.out
              have q4 := HII.out
              have q5 := HMM.out
              have hlf : List.length ((L1.take fr ++ [(⟨2, (fr : Int) + 1, (fr : Int) + 1 + (m : Int), []⟩ : Rx.In)]) ++ Rc.moved X (List.length (L1.take fr ++ [(⟨2, (fr : Int) + 1, (fr : Int) + 1 + (m : Int), []⟩ : Rx.In)]))) = L1.length + 1 := by simp only [List.length_append, Rc.moved_len, HFL.out, HXL.out, List.length_cons, List.length_nil]; omega
              refine ⟨rfl, ⟨s1, i2, d1, 0, g1, ((L1.take fr ++ [(⟨2, (fr : Int) + 1, (fr : Int) + 1 + (m : Int), []⟩ : Rx.In)]) ++ Rc.moved X (List.length (L1.take fr ++ [(⟨2, (fr : Int) + 1, (fr : Int) + 1 + (m : Int), []⟩ : Rx.In)])))⟩, v10, HF.out, ⟨rfl, ⟨?_, N1.out.ok.len, ?_, ?_, ?_, ?_, ?_⟩, ?_, N1.out.deep, ?_⟩, fun _ => ?_, fun hs => ?_⟩
              · show i2 ≤ s1.length; omega
              · show List.length ((L1.take fr ++ [(⟨2, (fr : Int) + 1, (fr : Int) + 1 + (m : Int), []⟩ : Rx.In)]) ++ Rc.moved X (List.length (L1.take fr ++ [(⟨2, (fr : Int) + 1, (fr : Int) + 1 + (m : Int), []⟩ : Rx.In)]))) ≤ 2 * i2 + 1; omega
              · show g1 ≤ i2; omega
              · show d1 ≤ i2; omega
              · intro x hx; simp only [List.mem_append, List.mem_singleton] at hx; rcases hx with (hx | rfl) | hx; exact HTP.out x hx; exact Nat.zero_le _; exact Rc.moved_p HXP.out x hx
              · show 0 < List.length ((L1.take fr ++ [(⟨2, (fr : Int) + 1, (fr : Int) + 1 + (m : Int), []⟩ : Rx.In)]) ++ Rc.moved X (List.length (L1.take fr ++ [(⟨2, (fr : Int) + 1, (fr : Int) + 1 + (m : Int), []⟩ : Rx.In)]))); omega
              · show i ≤ i2; omega
              · show L.length ≤ List.length ((L1.take fr ++ [(⟨2, (fr : Int) + 1, (fr : Int) + 1 + (m : Int), []⟩ : Rx.In)]) ++ Rc.moved X (List.length (L1.take fr ++ [(⟨2, (fr : Int) + 1, (fr : Int) + 1 + (m : Int), []⟩ : Rx.In)]))); have := HFR.out; omega
              · show i < i2; omega
              · unfold Rc.piece
                rw [← Q1.out hs]
                have e2 : i2 = i1 + 1 := q2
                have e3 : i3 = i2 + 1 := q3
                have e4 : fr = L.length := HFR.out
                have hmo2 := HMO.out
                have hx := HX.out
                have hxl := HXL.out
                subst e3 e2
                subst hx
                have e5 : m = (Rc.moved (L1.drop fr) (-(fr : Int))).length := hxl.symm
                rw [e5, e4]
                simp [HCC.out, Rc.step, hmo2, Rc.rep, Rc.lay, Rc.put, Rc.splitOf]
            · have HMO : Hid (Rc.more ⟨s1, i1 + 1, d1, 0, g1, L1⟩ 63 = true) := Lib.hid (by rw [← HI2.out]; exact hmo)
              have HML : Hid (i2 < s1.length) := Lib.hid (Rc.more_lt hmo)
              have H4 : Hid (Rc.Did w b (.slice A0 fr cp) ⟨s1, i2, d1, 0, g1, L1⟩ v1 (w3.setCell ⟨b, 1, none⟩ (.int .i64 (i2 : Int)))) := Lib.hid (H3.out.set1 i2)
              have HM := Lib.hid (more_any H4.out.at_ 63 63 rfl)
              rw [hmo] at HM
              go_wp2_with first
                | (go_at_call 50; go_must (refine HM.out.mono ?_; rintro e w5 ⟨rfl, hb5⟩; have H5 := Lib.hid (H4.out.on hb5); have k51 : w5.cell? ⟨b, 1, none⟩ = some (.int .i64 (i2 : Int)) := H5.out.at_.c1; have kf51 := H5.out.at_.fz 1; have H6 : Hid (Rc.Did w b (.slice A0 fr cp) ⟨s1, i3, d1, 0, g1, L1⟩ v1 (w5.setCell ⟨b, 1, none⟩ (.int .i64 (i3 : Int)))) := Lib.hid (H5.out.set1 i3); clear hb5))
                | (go_at_call 51; go_must (refine (HCT.out _ _ _ H6.out).mono ?_; rintro e w7 ⟨v7, A7, c7, rfl, hd7, hs7⟩; have H7 := Lib.hid hd7; have S7 := Lib.hid hs7; have hb8 : Below w7.heap.size w7 (w7.alloc (.cells #[.int .i64 2, .int .i64 ((fr : Int) + 1 + (m : Int)), .int .i64 ((fr : Int) + 1), .string ⟨#[]⟩] 57)) := (Below.refl _ _).alloc (Nat.le_refl _) _; have H8 := Lib.hid (H7.out.on hb8); have S8 : Hid (Rc.Side (w7.alloc (.cells #[.int .i64 2, .int .i64 ((fr : Int) + 1 + (m : Int)), .int .i64 ((fr : Int) + 1), .string ⟨#[]⟩] 57)) b v7 A7 (icells X)) := Lib.hid (hs7.below hb8); have R8 : Hid (RowAt (w7.alloc (.cells #[.int .i64 2, .int .i64 ((fr : Int) + 1 + (m : Int)), .int .i64 ((fr : Int) + 1), .string ⟨#[]⟩] 57)) w7.heap.size 57 #[.int .i64 2, .int .i64 ((fr : Int) + 1 + (m : Int)), .int .i64 ((fr : Int) + 1), .string ⟨#[]⟩]) := Lib.hid (RowAt.new _ _ _); have hol : ∀ g, v7.ownBlock = some g → g < w7.heap.size := (fun g hg => (H7.out.at_.olt g hg).2); have hbl7 := H7.out.at_.lt; clear hd7 hs7 hb8))
                | (go_at_call 35; ((with_reducible refine (layD H8.out (by show List.length (L1.take fr) ≤ _; rw [HFL.out]; omega) 2 ((fr : Int) + 1 + (m : Int)) ((fr : Int) + 1)).mono ?_); rintro e w9 ⟨rfl, v9, hq9, hd9⟩; have H9 := Lib.hid hd9; have S9 := Lib.hid (hq9.side S8.out); clear hd9 hq9))
                | (go_at_call 52; go_must (refine (putD H9.out S9.out HXL.out (by show List.length (L1.take fr ++ [_]) + X.length ≤ _; rw [List.length_append, HFL.out, HXL.out]; show fr + 1 + m ≤ _; omega)).mono ?_; rintro e w10 ⟨rfl, v10, _, hd10⟩; have HF := Lib.hid hd10; clear hd10))
              ((try simp only [Exit.inBlock, Exit.then]); first | (refine bodyPost_ret (results_none rfl _ _ _) rfl ?_) | (refine bodyPost_end (results_none rfl _ _ _) rfl ?_))
              have q1 := HBD.out
              have q2 := HI2.out
              have q3 := HI3.out
              have q4 := HII.out
              have q5 := HMM.out
              have hlf : List.length ((L1.take fr ++ [(⟨2, (fr : Int) + 1 + (m : Int), (fr : Int) + 1, []⟩ : Rx.In)]) ++ Rc.moved X (List.length (L1.take fr ++ [(⟨2, (fr : Int) + 1 + (m : Int), (fr : Int) + 1, []⟩ : Rx.In)]))) = L1.length + 1 := by simp only [List.length_append, Rc.moved_len, HFL.out, HXL.out, List.length_cons, List.length_nil]; omega
              refine ⟨rfl, ⟨s1, i3, d1, 0, g1, ((L1.take fr ++ [(⟨2, (fr : Int) + 1 + (m : Int), (fr : Int) + 1, []⟩ : Rx.In)]) ++ Rc.moved X (List.length (L1.take fr ++ [(⟨2, (fr : Int) + 1 + (m : Int), (fr : Int) + 1, []⟩ : Rx.In)])))⟩, v10, HF.out, ⟨rfl, ⟨?_, N1.out.ok.len, ?_, ?_, ?_, ?_, ?_⟩, ?_, N1.out.deep, ?_⟩, fun _ => ?_, fun hs => ?_⟩
              · show i3 ≤ s1.length; have q6 := HML.out; omega
              · show List.length ((L1.take fr ++ [(⟨2, (fr : Int) + 1 + (m : Int), (fr : Int) + 1, []⟩ : Rx.In)]) ++ Rc.moved X (List.length (L1.take fr ++ [(⟨2, (fr : Int) + 1 + (m : Int), (fr : Int) + 1, []⟩ : Rx.In)]))) ≤ 2 * i3 + 1; omega
              · show g1 ≤ i3; omega
              · show d1 ≤ i3; omega
              · intro x hx; simp only [List.mem_append, List.mem_singleton] at hx; rcases hx with (hx | rfl) | hx; exact HTP.out x hx; exact Nat.zero_le _; exact Rc.moved_p HXP.out x hx
              · show 0 < List.length ((L1.take fr ++ [(⟨2, (fr : Int) + 1 + (m : Int), (fr : Int) + 1, []⟩ : Rx.In)]) ++ Rc.moved X (List.length (L1.take fr ++ [(⟨2, (fr : Int) + 1 + (m : Int), (fr : Int) + 1, []⟩ : Rx.In)]))); omega
              · show i ≤ i3; omega
              · show L.length ≤ List.length ((L1.take fr ++ [(⟨2, (fr : Int) + 1 + (m : Int), (fr : Int) + 1, []⟩ : Rx.In)]) ++ Rc.moved X (List.length (L1.take fr ++ [(⟨2, (fr : Int) + 1 + (m : Int), (fr : Int) + 1, []⟩ : Rx.In)]))); have := HFR.out; omega
              · show i < i3; omega
              · unfold Rc.piece
                rw [← Q1.out hs]
                have e2 : i2 = i1 + 1 := q2
                have e3 : i3 = i2 + 1 := q3
                have e4 : fr = L.length := HFR.out
                have hmo2 := HMO.out
                have hx := HX.out
                have hxl := HXL.out
                subst e3 e2
                subst hx
                have e5 : m = (Rc.moved (L1.drop fr) (-(fr : Int))).length := hxl.symm
                rw [e5, e4]
                simp [HCC.out, Rc.step, hmo2, Rc.rep, Rc.lay, Rc.put, Rc.splitOf]
          · have n42 : ¬ (c.toNat : Int) = 42 := fun e => h42 (UInt8.toNat_inj.1 (by show c.toNat = 42; omega))
            have n43 : ¬ (c.toNat : Int) = 43 := fun e => h43 (UInt8.toNat_inj.1 (by show c.toNat = 43; omega))
            have n63 : ¬ (c.toNat : Int) = 63 := fun e => h63 (UInt8.toNat_inj.1 (by show c.toNat = 63; omega))
            have n42b : ((c.toNat : Int) == 42) = false := by simpa using n42
            have n43b : ((c.toNat : Int) == 43) = false := by simpa using n43
            have n63b : ((c.toNat : Int) == 63) = false := by simpa using n63
            have n42c : ((c.toNat : Int) != 42) = true := by simpa using n42
            have n43c : ((c.toNat : Int) != 43) = true := by simpa using n43
            have n63c : ((c.toNat : Int) != 63) = true := by simpa using n63
            have HNO : Hid (c ≠ 42 ∧ c ≠ 43 ∧ c ≠ 63) := Lib.hid ⟨h42, h43, h63⟩
            clear h42 h43 h63
            go_wp2_with fail
            go_quiet (fail)
            rename_i nq
            have H2 := Lib.hid (H1.out.drewN nq)
            generalize w1.drewN nq = w2 at *
            have k20 : w2.cell? ⟨b, 0, none⟩ = some (.string ⟨s1.toArray⟩) := H2.out.at_.c0
            have k21 : w2.cell? ⟨b, 1, none⟩ = some (.int .i64 (i1 : Int)) := H2.out.at_.c1
            go_wp2_with fail
            go_quiet (fail)

            have H3 := Lib.hid (H2.out.drewN nq)
            generalize w2.drewN nq = w3 at *
            have k31 : w3.cell? ⟨b, 1, none⟩ = some (.int .i64 (i1 : Int)) := H3.out.at_.c1
            have kf31 := H3.out.at_.fz 1
            go_wp2_with fail
            ((try simp only [Exit.inBlock, Exit.then]); first | (refine bodyPost_ret (results_none rfl _ _ _) rfl ?_) | (refine bodyPost_end (results_none rfl _ _ _) rfl ?_))
            refine ⟨rfl, ⟨s1, i1, d1, 0, g1, L1⟩, v1, H3.out, N1.out, fun _ => HII.out, fun hs => ?_⟩
            unfold Rc.piece
            rw [← Q1.out hs]
            have := HNO.out
            simp [HCC.out, this]
    · have hltI : ¬ (i1 : Int) < (s1.length : Int) := by omega
      obtain rfl : i1 = s1.length := by omega
      go_wp2_with fail
      go_quiet (fail)
      rename_i nq
      have H2 := Lib.hid (H1.out.drewN nq)
      go_wp2_with fail
      ((try simp only [Exit.inBlock, Exit.then]); first | (refine bodyPost_ret (results_none rfl _ _ _) rfl ?_) | (refine bodyPost_end (results_none rfl _ _ _) rfl ?_))
      refine ⟨rfl, ⟨s1, _, d1, 0, g1, L1⟩, v1, H2.out, N1.out, fun _ => HII.out, fun hs => ?_⟩
      unfold Rc.piece
      rw [← Q1.out hs]
      simp
  · have he1b : (e1 == 0) = false := by simpa using he1
    go_wp2_with fail
    go_quiet (fail)
    rename_i nq
    have H2 := Lib.hid (H1.out.drewN nq)
    go_wp2_with fail
    ((try simp only [Exit.inBlock, Exit.then]); first | (refine bodyPost_ret (results_none rfl _ _ _) rfl ?_) | (refine bodyPost_end (results_none rfl _ _ _) rfl ?_))
    refine ⟨rfl, ⟨s1, i1, d1, e1, g1, L1⟩, v1, H2.out, N1.out, P1.out, fun hs => ?_⟩
    unfold Rc.piece
    rw [← Q1.out hs]
    simp [he1]
end Go.Proofs.Ytelbabgkpflckaa
