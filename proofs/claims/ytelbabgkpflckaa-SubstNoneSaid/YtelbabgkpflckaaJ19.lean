/-
  RcCom: CONTRACTS: chapter 12, the document's Compile.
  PkOf: CHAPTER 12, LAWS: the document's program of an expression (of).
-/
import Derived.Test.YtelbabgkpflckaaJ18
import Derived.Laws.ResultCell
import Derived.RegionTactic
import Derived.Deep.RegionLaw

set_option linter.unusedSimpArgs false
set_option linter.unusedVariables false
namespace Go.Proofs.Ytelbabgkpflckaa
open Go.RowKit Go.Sort
open Me
open Pk

namespace Rc
open Rx (In)
/-- What Compile leaves. -/
def ComR (s : List UInt8) (W : World) (e : Ending) (W' : World) : Prop := ∃ res : Except Int (Nat × List In), (Sm s → res = compile s) ∧ Below W.heap.size W W' ∧ match res with
  | .error er => er ≠ 0 ∧ e = .returned (.tuple #[.agg #[.int .i64 0, .slice none 0 0], .int .i64 er])
  | .ok (g, L) => ∃ A c, e = .returned (.tuple #[.agg #[.int .i64 (g : Int), .slice A L.length c], .int .i64 0]) ∧ Rd W' (fun i => W.heap.size ≤ i) A (icells L) ∧ L.length ≤ 1024 ∧ g ≤ 4096 ∧ ∀ x ∈ L, x.p.length ≤ 512
end Rc

set_option maxRecDepth 100000 in
set_option maxHeartbeats 16000000 in
theorem refCompile_any {S : List UInt8 → Prop} (hSC : Rc.SetC S) {W : World} {s : List UInt8} (hS : S s) (hl : s.length ≤ 4096) :
    Calls Try.prog 23 #[.string ⟨s.toArray⟩] W (Rc.ComR s W) := by
  have HWY := Lib.hid (ways_any hSC (s.length + 1))
  have hlI : ¬ (4096 : Int) < (s.length : Int) := by omega
  obtain ⟨rb, hrb⟩ : ∃ rb, rb = W.heap.size := ⟨_, rfl⟩
  obtain ⟨W1, hW1⟩ : ∃ W1, W1 = (W.alloc (.cells #[.int .i64 0, .slice none 0 0] 34)).alloc (.cells #[.string ⟨s.toArray⟩, .int .i64 0, .int .i64 0, .int .i64 0, .int .i64 0, .slice none 0 0] 84) := ⟨_, rfl⟩
  have HB1 : Hid (Below W.heap.size W W1) := Lib.hid (by rw [hW1]; exact ((Below.refl _ _).alloc (Nat.le_refl _) _).alloc (by simp) _)
  have hat : Rc.At W1 (rb + 1) (.slice none 0 0) ⟨s, 0, 0, 0, 0, []⟩ := by
    refine ⟨?_, by simp [icells], .inl ⟨rfl, rfl⟩⟩
    rw [hW1, hrb]
    exact RowAt.new' (by simp)
  have HRR : Hid (RowAt W1 rb 34 #[.int .i64 0, .slice none 0 0]) := Lib.hid (by rw [hW1, hrb]; exact (RowAt.new W _ _).alloc _)
  have HRB := Lib.hid hrb
  have HL0 : Hid (Calls Try.prog 35 #[.pointer (some ⟨rb + 1, 0, none⟩), .agg #[.int .i64 4, .int .i64 0, .int .i64 0, .string ⟨#[]⟩]] W1 fun e w' => e = .returned (.int .i64 0) ∧ ∃ v', Rc.Did W1 (rb + 1) (.slice none 0 0) (Rc.first_ s) v' w') := Lib.hid (by
    refine (lay_any hat (by show 0 ≤ _; omega) ⟨4, 0, 0, []⟩).mono ?_
    rintro e w' ⟨he, v', hq⟩
    exact ⟨he, v', hq⟩)
  have HWC : Hid (∀ v3 w3, Rc.Did W1 (rb + 1) (.slice none 0 0) (Rc.first_ s) v3 w3 → Calls Try.prog 36 #[.pointer (some ⟨rb + 1, 0, none⟩)] w3 fun e w' => e = .returned (.tuple #[]) ∧ ∃ r' v', Rc.Did W1 (rb + 1) (.slice none 0 0) r' v' w' ∧ Rc.Nx (Rc.first_ s) r' ∧ (Rc.Sm s → r' = Rc.ways (s.length + 1) (Rc.first_ s))) := Lib.hid fun v3 w3 hd => by
    refine (HWY.out w3 (rb + 1) v3 (Rc.first_ s) hd.at_ ⟨Nat.zero_le _, hl, ?_, Nat.le_refl _, Nat.le_refl _, ?_, ?_⟩ rfl hS (by show s.length - 0 < _; omega)).mono ?_
    · show 1 ≤ 2 * 0 + 1; omega
    · intro x hx; rw [List.mem_singleton.1 hx]; exact Nat.zero_le _
    · show 0 < 1; omega
    · rintro e w' ⟨he, r', v', q1, q2, q3⟩
      exact ⟨he, r', v', hd.trans q1, q2, q3⟩
  have HLN := Lib.hid hl
  clear hat hSC hS
  go_enter Try.func23, Try.ntmps23
  go_wp2_with fail
  rw [← hW1, ← hrb]
  clear hW1 hrb
  go_wp2_with (go_at_call 35; go_must (refine HL0.out.mono ?_; rintro e w2 ⟨rfl, v2, hd2⟩; have H2 := Lib.hid hd2; clear hd2))
  go_at_call 36
  refine (HWC.out _ _ H2.out).mono ?_
  rintro e w3 ⟨rfl, ⟨s1, i1, d1, e1, g1, L1⟩, v1, hd3, hn3, heq3⟩
  have hs1 : s1 = s := hn3.s
  subst hs1
  have H3 := Lib.hid hd3
  have N3 := Lib.hid hn3
  have Q3 := Lib.hid heq3
  have k1 : w3.cell? ⟨rb + 1, 1, none⟩ = some (.int .i64 (i1 : Int)) := hd3.at_.c1
  have k3 : w3.cell? ⟨rb + 1, 3, none⟩ = some (.int .i64 e1) := hd3.at_.c3
  have hi1 : i1 ≤ s1.length := hn3.ok.at_
  have HL1 : Hid (L1.length ≤ 2 * 4096 + 1) := Lib.hid (by have q : L1.length ≤ 2 * i1 + 1 := hn3.ok.L; omega)
  obtain ⟨nl, hnl⟩ : ∃ nl, nl = L1.length + 2 := ⟨_, rfl⟩
  have HNL := Lib.hid hnl
  clear hnl
  have HG1 : Hid (g1 ≤ 4096) := Lib.hid (by have q : g1 ≤ i1 := hn3.ok.g; omega)
  have HPP : Hid (∀ x ∈ L1, x.p.length ≤ 512) := Lib.hid hn3.ok.p
  have HCOM : Hid (Rc.Sm s1 → Rc.compile s1 = Rc.out (Rc.ended ⟨s1, i1, d1, e1, g1, L1⟩)) := Lib.hid fun hs => by
    unfold Rc.compile
    rw [if_neg (by have := HLN.out; omega), ← Q3.out hs]
  clear hd3 hn3 heq3
  by_cases he1 : e1 = 0
  · subst he1
    by_cases hlt : i1 < s1.length
    · have hltI : (i1 : Int) < (s1.length : Int) := by omega
      have HBA : Hid (Calls Try.prog 37 #[.pointer (some ⟨rb + 1, 0, none⟩), .int .i64 8] w3 fun e w' => e = .returned (.tuple #[]) ∧ Rc.Did W1 (rb + 1) (.slice none 0 0) ⟨s1, i1, d1, 8, g1, L1⟩ v1 w') := Lib.hid (by
        refine (bad_any H3.out.at_ 8).mono ?_
        rintro e w' ⟨he, hq⟩
        exact ⟨he, H3.out.trans hq⟩)
      go_wp2_with first
      | (go_at_call 37; go_must (refine HBA.out.mono ?_; rintro e w6 ⟨rfl, hd6⟩; have HX := Lib.hid hd6; clear hd6))
      | (go_at_call 35; ((with_reducible refine (layD HX.out (by show L1.length ≤ _; have := HL1.out; omega) 4 1 0).mono ?_); rintro e w4 ⟨rfl, v4, _, hd4⟩; have H4 := Lib.hid hd4; clear hd4))
      | (go_at_call 35; go_must (refine (layD H4.out (by show List.length (L1 ++ [_]) ≤ _; rw [List.length_append]; show L1.length + 1 ≤ _; have := HL1.out; omega) 7 0 0).mono ?_; rintro e w5 ⟨rfl, v5, _, hd5⟩; have HD : Hid (Rc.Did W1 (rb + 1) (.slice none 0 0) ⟨s1, i1, d1, 8, g1, (L1 ++ [(⟨4, 1, 0, []⟩ : Rx.In)]) ++ [(⟨7, 0, 0, []⟩ : Rx.In)]⟩ v5 w5) := Lib.hid hd5; have hrr : RowAt w5 rb 34 #[.int .i64 0, .slice none 0 0] := hd5.row HRR.out (by omega) (fun e => by cases e); have k53 : w5.cell? ⟨rb + 1, 3, none⟩ = some (.int .i64 8) := hd5.at_.c3; have k54 : w5.cell? ⟨rb + 1, 4, none⟩ = some (.int .i64 (g1 : Int)) := hd5.at_.c4; have kl5 := hd5.at_.lt; have p0 : w5.cell? ⟨rb, 0, none⟩ = some (.int .i64 0) := (hrr.cell 0).trans rfl; have p1 : w5.cell? ⟨rb, 1, none⟩ = some (.slice none 0 0) := (hrr.cell 1).trans rfl; have pf0 := hrr.frozen 0; have pf1 := hrr.frozen 1; have pl := hrr.lt; obtain ⟨A5, c5, rfl⟩ := hd5.at_.form; have k55a := hd5.at_.c5; have hlen5 : (Value.slice A5 ((L1 ++ [(⟨4, 1, 0, []⟩ : Rx.In)]) ++ [(⟨7, 0, 0, []⟩ : Rx.In)]).length c5) = .slice A5 nl c5 := (by rw [HNL.out, List.length_append, List.length_append]; rfl); have k55 : w5.cell? ⟨rb + 1, 5, none⟩ = some (.slice A5 nl c5) := (by rw [← hlen5]; exact k55a); clear k55a hlen5; clear hd5 hrr))
      go_region
      all_goals
        try go_wp2_with fail
        (try simp only [Exit.inBlock, Exit.then]); refine bodyPost_ret ((results_cell_tmp rfl _ _ _).trans (by simp [go_sem, *]; rfl)) rfl ?_
        refine ⟨.error 8, fun hs => ?_, ?_, (by decide : ¬ (8 : Int) = 0), rfl⟩
        · rw [HCOM.out hs]
          have : Rc.ended ⟨s1, i1, d1, 0, g1, L1⟩ = ⟨s1, i1, d1, 8, g1, (L1 ++ [(⟨4, 1, 0, []⟩ : Rx.In)]) ++ [(⟨7, 0, 0, []⟩ : Rx.In)]⟩ := by unfold Rc.ended; simp [hlt, Rc.bad, Rc.lay]
          rw [this]; rfl
        · have hbw := HB1.out.trans (HD.out.kp.below HB1.out.size (fun i hi e => by rcases e with e | e; have := HRB.out; omega; cases e))
          have hrr := HRB.out
          repeat (first | exact hbw | refine Below.drew ?_ | refine Below.setCell ?_ (by show W.heap.size ≤ rb; omega) _)
    · have hltI : ¬ (i1 : Int) < (s1.length : Int) := by omega
      have HX := H3
      by_cases hbig : 1024 < nl
      · have hbigI : (1024 : Int) < (nl : Int) := by omega
        go_wp2_with first
        | (go_at_call 35; ((with_reducible refine (layD HX.out (by show L1.length ≤ _; have := HL1.out; omega) 4 1 0).mono ?_); rintro e w4 ⟨rfl, v4, _, hd4⟩; have H4 := Lib.hid hd4; clear hd4))
        | (go_at_call 35; go_must (refine (layD H4.out (by show List.length (L1 ++ [_]) ≤ _; rw [List.length_append]; show L1.length + 1 ≤ _; have := HL1.out; omega) 7 0 0).mono ?_; rintro e w5 ⟨rfl, v5, _, hd5⟩; have HD : Hid (Rc.Did W1 (rb + 1) (.slice none 0 0) ⟨s1, i1, d1, 0, g1, (L1 ++ [(⟨4, 1, 0, []⟩ : Rx.In)]) ++ [(⟨7, 0, 0, []⟩ : Rx.In)]⟩ v5 w5) := Lib.hid hd5; have hrr : RowAt w5 rb 34 #[.int .i64 0, .slice none 0 0] := hd5.row HRR.out (by omega) (fun e => by cases e); have k53 : w5.cell? ⟨rb + 1, 3, none⟩ = some (.int .i64 0) := hd5.at_.c3; have k54 : w5.cell? ⟨rb + 1, 4, none⟩ = some (.int .i64 (g1 : Int)) := hd5.at_.c4; have kl5 := hd5.at_.lt; have p0 : w5.cell? ⟨rb, 0, none⟩ = some (.int .i64 0) := (hrr.cell 0).trans rfl; have p1 : w5.cell? ⟨rb, 1, none⟩ = some (.slice none 0 0) := (hrr.cell 1).trans rfl; have pf0 := hrr.frozen 0; have pf1 := hrr.frozen 1; have pl := hrr.lt; obtain ⟨A5, c5, rfl⟩ := hd5.at_.form; have k55a := hd5.at_.c5; have hlen5 : (Value.slice A5 ((L1 ++ [(⟨4, 1, 0, []⟩ : Rx.In)]) ++ [(⟨7, 0, 0, []⟩ : Rx.In)]).length c5) = .slice A5 nl c5 := (by rw [HNL.out, List.length_append, List.length_append]; rfl); have k55 : w5.cell? ⟨rb + 1, 5, none⟩ = some (.slice A5 nl c5) := (by rw [← hlen5]; exact k55a); clear k55a hlen5; clear hd5 hrr))
        (try simp only [Exit.inBlock, Exit.then]); refine bodyPost_ret ((results_cell_tmp rfl _ _ _).trans (by simp [go_sem, *]; rfl)) rfl ?_
        refine ⟨.error 13, fun hs => ?_, ?_, (by decide : ¬ (13 : Int) = 0), rfl⟩
        · rw [HCOM.out hs]
          have : Rc.ended ⟨s1, i1, d1, 0, g1, L1⟩ = ⟨s1, i1, d1, 0, g1, (L1 ++ [(⟨4, 1, 0, []⟩ : Rx.In)]) ++ [(⟨7, 0, 0, []⟩ : Rx.In)]⟩ := by unfold Rc.ended; simp [hlt, Rc.lay]
          rw [this]
          unfold Rc.out
          rw [if_neg (by simp), if_pos (by show 1024 < List.length ((L1 ++ [_]) ++ [_]); rw [List.length_append, List.length_append]; show 1024 < L1.length + 1 + 1; have := HNL.out; omega)]
        · have hbw := HB1.out.trans (HD.out.kp.below HB1.out.size (fun i hi e => by rcases e with e | e; have := HRB.out; omega; cases e))
          have hrr := HRB.out
          repeat (first | exact hbw | refine Below.drew ?_ | refine Below.setCell ?_ (by show W.heap.size ≤ rb; omega) _)
      · have hbigI : ¬ (1024 : Int) < (nl : Int) := by omega
        go_wp2_with first
        | (go_at_call 35; ((with_reducible refine (layD HX.out (by show L1.length ≤ _; have := HL1.out; omega) 4 1 0).mono ?_); rintro e w4 ⟨rfl, v4, _, hd4⟩; have H4 := Lib.hid hd4; clear hd4))
        | (go_at_call 35; go_must (refine (layD H4.out (by show List.length (L1 ++ [_]) ≤ _; rw [List.length_append]; show L1.length + 1 ≤ _; have := HL1.out; omega) 7 0 0).mono ?_; rintro e w5 ⟨rfl, v5, _, hd5⟩; have HD : Hid (Rc.Did W1 (rb + 1) (.slice none 0 0) ⟨s1, i1, d1, 0, g1, (L1 ++ [(⟨4, 1, 0, []⟩ : Rx.In)]) ++ [(⟨7, 0, 0, []⟩ : Rx.In)]⟩ v5 w5) := Lib.hid hd5; have hrr : RowAt w5 rb 34 #[.int .i64 0, .slice none 0 0] := hd5.row HRR.out (by omega) (fun e => by cases e); have k53 : w5.cell? ⟨rb + 1, 3, none⟩ = some (.int .i64 0) := hd5.at_.c3; have k54 : w5.cell? ⟨rb + 1, 4, none⟩ = some (.int .i64 (g1 : Int)) := hd5.at_.c4; have kl5 := hd5.at_.lt; have p0 : w5.cell? ⟨rb, 0, none⟩ = some (.int .i64 0) := (hrr.cell 0).trans rfl; have p1 : w5.cell? ⟨rb, 1, none⟩ = some (.slice none 0 0) := (hrr.cell 1).trans rfl; have pf0 := hrr.frozen 0; have pf1 := hrr.frozen 1; have pl := hrr.lt; obtain ⟨A5, c5, rfl⟩ := hd5.at_.form; have k55a := hd5.at_.c5; have hlen5 : (Value.slice A5 ((L1 ++ [(⟨4, 1, 0, []⟩ : Rx.In)]) ++ [(⟨7, 0, 0, []⟩ : Rx.In)]).length c5) = .slice A5 nl c5 := (by rw [HNL.out, List.length_append, List.length_append]; rfl); have k55 : w5.cell? ⟨rb + 1, 5, none⟩ = some (.slice A5 nl c5) := (by rw [← hlen5]; exact k55a); clear k55a hlen5; clear hd5 hrr))
        (try simp only [Exit.inBlock, Exit.then]); refine bodyPost_ret ((results_cell_tmp rfl _ _ _).trans (by simp [go_sem, *]; rfl)) rfl ?_
        have hll : List.length ((L1 ++ [(⟨4, 1, 0, []⟩ : Rx.In)]) ++ [(⟨7, 0, 0, []⟩ : Rx.In)]) = nl := by rw [HNL.out, List.length_append, List.length_append]; rfl
        refine ⟨.ok (g1, (L1 ++ [(⟨4, 1, 0, []⟩ : Rx.In)]) ++ [(⟨7, 0, 0, []⟩ : Rx.In)]), fun hs => ?_, ?_, A5, c5, by rw [hll], ?_, by rw [hll]; omega, HG1.out, ?_⟩
        · rw [HCOM.out hs]
          have : Rc.ended ⟨s1, i1, d1, 0, g1, L1⟩ = ⟨s1, i1, d1, 0, g1, (L1 ++ [(⟨4, 1, 0, []⟩ : Rx.In)]) ++ [(⟨7, 0, 0, []⟩ : Rx.In)]⟩ := by unfold Rc.ended; simp [hlt, Rc.lay]
          rw [this]
          unfold Rc.out
          rw [if_neg (by simp), if_neg (by show ¬ 1024 < List.length ((L1 ++ [_]) ++ [_]); rw [hll]; omega)]
        · have hbw := HB1.out.trans (HD.out.kp.below HB1.out.size (fun i hi e => by rcases e with e | e; have := HRB.out; omega; cases e))
          have hrr := HRB.out
          repeat (first | exact hbw | refine Below.drew ?_ | refine Below.setCell ?_ (by show W.heap.size ≤ rb; omega) _)
        · have ho := HD.out.at_.own
          have hlt5 := HD.out.at_.olt
          refine Rd.mono (G := fun i => rb + 2 ≤ i) ?_ (fun i _ hi => by have := HRB.out; have hi : rb + 2 ≤ i := hi; show W.heap.size ≤ i; omega)
          refine Rd.keep (w := w5) ((Rd.own ho).mono fun i _ hi => by have := (hlt5 i hi).1; show rb + 2 ≤ i; omega) (by simp [World.setCell]) fun i hi hg => ?_
          have hg : rb + 2 ≤ i := hg
          rw [Below.heap_setCell _ _ _ i (by show i ≠ rb; omega), Below.heap_setCell _ _ _ i (by show i ≠ rb; omega)]
        · intro x hx
          simp only [List.mem_append, List.mem_singleton] at hx
          rcases hx with (hx | rfl) | rfl
          · exact HPP.out x hx
          · exact Nat.zero_le _
          · exact Nat.zero_le _
  · have he1b : (e1 == 0) = false := by simpa using he1
    have he1c : (e1 != 0) = true := by simpa using he1
    have HX := H3
    go_wp2_with first
      | (go_at_call 35; ((with_reducible refine (layD HX.out (by show L1.length ≤ _; have := HL1.out; omega) 4 1 0).mono ?_); rintro e w4 ⟨rfl, v4, _, hd4⟩; have H4 := Lib.hid hd4; clear hd4))
      | (go_at_call 35; go_must (refine (layD H4.out (by show List.length (L1 ++ [_]) ≤ _; rw [List.length_append]; show L1.length + 1 ≤ _; have := HL1.out; omega) 7 0 0).mono ?_; rintro e w5 ⟨rfl, v5, _, hd5⟩; have HD : Hid (Rc.Did W1 (rb + 1) (.slice none 0 0) ⟨s1, i1, d1, e1, g1, (L1 ++ [(⟨4, 1, 0, []⟩ : Rx.In)]) ++ [(⟨7, 0, 0, []⟩ : Rx.In)]⟩ v5 w5) := Lib.hid hd5; have hrr : RowAt w5 rb 34 #[.int .i64 0, .slice none 0 0] := hd5.row HRR.out (by omega) (fun e => by cases e); have k53 : w5.cell? ⟨rb + 1, 3, none⟩ = some (.int .i64 e1) := hd5.at_.c3; have k54 : w5.cell? ⟨rb + 1, 4, none⟩ = some (.int .i64 (g1 : Int)) := hd5.at_.c4; have kl5 := hd5.at_.lt; have p0 : w5.cell? ⟨rb, 0, none⟩ = some (.int .i64 0) := (hrr.cell 0).trans rfl; have p1 : w5.cell? ⟨rb, 1, none⟩ = some (.slice none 0 0) := (hrr.cell 1).trans rfl; have pf0 := hrr.frozen 0; have pf1 := hrr.frozen 1; have pl := hrr.lt; obtain ⟨A5, c5, rfl⟩ := hd5.at_.form; have k55a := hd5.at_.c5; have hlen5 : (Value.slice A5 ((L1 ++ [(⟨4, 1, 0, []⟩ : Rx.In)]) ++ [(⟨7, 0, 0, []⟩ : Rx.In)]).length c5) = .slice A5 nl c5 := (by rw [HNL.out, List.length_append, List.length_append]; rfl); have k55 : w5.cell? ⟨rb + 1, 5, none⟩ = some (.slice A5 nl c5) := (by rw [← hlen5]; exact k55a); clear k55a hlen5; clear hd5 hrr))
    go_region
    all_goals
      try go_wp2_with fail
      (try simp only [Exit.inBlock, Exit.then]); refine bodyPost_ret ((results_cell_tmp rfl _ _ _).trans (by simp [go_sem, *]; rfl)) rfl ?_
      refine ⟨.error e1, fun hs => ?_, ?_, he1, rfl⟩
      · rw [HCOM.out hs]
        have : Rc.ended ⟨s1, i1, d1, e1, g1, L1⟩ = ⟨s1, i1, d1, e1, g1, (L1 ++ [(⟨4, 1, 0, []⟩ : Rx.In)]) ++ [(⟨7, 0, 0, []⟩ : Rx.In)]⟩ := by unfold Rc.ended; simp [he1, Rc.lay]
        rw [this]
        unfold Rc.out
        rw [if_pos he1]
      · have hbw := HB1.out.trans (HD.out.kp.below HB1.out.size (fun i hi e => by rcases e with e | e; have := HRB.out; omega; cases e))
        have hrr := HRB.out
        repeat (first | exact hbw | refine Below.drew ?_ | refine Below.setCell ?_ (by show W.heap.size ≤ rb; omega) _)
end Go.Proofs.Ytelbabgkpflckaa

namespace Go.Proofs.Ytelbabgkpflckaa
open Go.RowKit Go.Sort
open Me
open Pk

namespace Rc
open Rx (In)
/-- What of hands back. -/
def ofP (s : List UInt8) : Nat × List In × Bool := match compile s with
  | .error _ => (0, [], false)
  | .ok (g, L) => (g, L, true)
structure Fine (g : Nat) (L : List In) : Prop where
  len : L.length ≤ 1024
  g : g ≤ 4096
  p : ∀ x ∈ L, x.p.length ≤ 512
def ComU (s : List UInt8) (W : World) (e : Ending) (W' : World) : Prop := ∃ (g : Nat) (L : List In) (A : Option Addr) (c : Nat) (er : Int), e = .returned (.tuple #[.agg #[.int .i64 (g : Int), .slice A L.length c], .int .i64 er]) ∧ Below W.heap.size W W' ∧ Rd W' (fun i => W.heap.size ≤ i) A (icells L) ∧ Fine g L ∧ (Sm s → ofP s = (g, L, decide (er = 0)))
theorem ComR.uni {s : List UInt8} {W W' : World} {e : Ending} (h : ComR s W e W') : ComU s W e W' := by
  obtain ⟨res, h1, h2, h3⟩ := h
  cases res with
  | error er =>
    obtain ⟨h4, rfl⟩ := h3
    refine ⟨0, [], none, 0, er, rfl, h2, Rd.none_ _ _ _, ⟨Nat.zero_le _, Nat.zero_le _, fun x hx => by cases hx⟩, fun hs => ?_⟩
    unfold ofP
    rw [← h1 hs]
    simp [h4]
  | ok y =>
    obtain ⟨g, L⟩ := y
    obtain ⟨A, c, rfl, h4, h5, h6, h7⟩ := h3
    refine ⟨g, L, A, c, 0, rfl, h2, h4, ⟨h5, h6, h7⟩, fun hs => ?_⟩
    unfold ofP
    rw [← h1 hs]
    simp
def OfR (s : List UInt8) (W : World) (e : Ending) (W' : World) : Prop := ∃ (g : Nat) (L : List In) (A : Option Addr) (c : Nat) (ok : Bool), e = .returned (.tuple #[.agg #[.int .i64 (g : Int), .slice A L.length c], .bool ok]) ∧ Below W.heap.size W W' ∧ Rd W' (fun i => W.heap.size ≤ i) A (icells L) ∧ Fine g L ∧ (Sm s → ofP s = (g, L, ok))
theorem rinst_info : (Try.prog.info? 56).map (fun i => (i.zero, i.size, i.bytes)) = some (some (.agg #[.int .i64 0, .int .i64 0, .int .i64 0, .string ⟨#[]⟩]), 4, 40) := by kernel_rfl
end Rc

set_option maxRecDepth 100000 in
set_option maxHeartbeats 8000000 in
theorem of_any {S : List UInt8 → Prop} (hSC : Rc.SetC S) {W : World} {s : List UInt8} (hS : S s) (hl : s.length ≤ 4096) :
    Calls Try.prog 7 #[.string ⟨s.toArray⟩] W (Rc.OfR s W) := by
  obtain ⟨i0, hi0, hz0, hz1, hz2⟩ := info_parts Rc.rinst_info
  have HI := Lib.hid hi0
  have HZ := Lib.hid (And.intro hz0 (And.intro hz1 hz2))
  clear hi0 hz0 hz1 hz2
  obtain ⟨rb, hrb⟩ : ∃ rb, rb = W.heap.size := ⟨_, rfl⟩
  obtain ⟨W0, hW0⟩ : ∃ W0, W0 = W.alloc (.cells #[.int .i64 0, .slice none 0 0] 24) := ⟨_, rfl⟩
  have HB0 : Hid (Below W.heap.size W W0) := Lib.hid (by rw [hW0]; exact (Below.refl _ _).alloc (Nat.le_refl _) _)
  have HRR : Hid (RowAt W0 rb 24 #[.int .i64 0, .slice none 0 0]) := Lib.hid (by rw [hW0, hrb]; exact RowAt.new W _ _)
  have HC := Lib.hid ((refCompile_any hSC (W := W0) hS hl).mono fun e W' h => Rc.ComR.uni h)
  have HRB := Lib.hid hrb
  have hs0 : W0.heap.size = rb + 1 := by rw [hW0, hrb]; simp
  clear hSC hS hl
  go_enter Try.func7, Try.ntmps7
  go_wp2_with fail
  rw [← hW0, ← hrb]
  clear hW0 hrb
  go_at_call 23
  refine HC.out.mono ?_
  rintro e w1 ⟨g, L, A, c, er, rfl, hb1, hr1, hf1, hq1⟩
  obtain ⟨q, hq⟩ : ∃ q, q = w1.heap.size := ⟨_, rfl⟩
  have hqb : rb < q := by have := hb1.size; omega
  have HF := Lib.hid hf1
  have HQ := Lib.hid hq1
  have hL : L.length ≤ 1024 := hf1.len
  have HRW : Hid (RowAt w1 rb 24 #[.int .i64 0, .slice none 0 0]) := Lib.hid (HRR.out.below hb1 (by omega))
  have HB1 : Hid (Below W.heap.size W w1) := Lib.hid (HB0.out.trans (hb1.mono HB0.out.size))
  obtain ⟨wb, hwb⟩ : ∃ wb, wb = (w1.alloc (.cells #[.int .i64 (g : Int), .slice A L.length c] 34)).alloc (.cells #[.int .i64 (g : Int), .slice none 0 0] 24) := ⟨_, rfl⟩
  have HP : Hid (Rd wb (fun i => W0.heap.size ≤ i ∧ i < q) A (icells L)) := Lib.hid fun hn => by
    obtain ⟨ad, e, h1, h2, h3⟩ := hr1 hn
    rw [hwb]
    refine ⟨ad, e, by simp; omega, ⟨h2, by omega⟩, fun j u hu => ?_⟩
    exact (World.cell?_of_block (by rw [Me.block_add]; exact (Below.heap_alloc _ _ _ (by simp; omega)).trans (Below.heap_alloc _ _ _ h1))).trans (h3 j u hu)
  have HW1 : Hid (RowAt wb q 34 #[.int .i64 (g : Int), .slice A L.length c]) := Lib.hid (by rw [hwb, hq]; exact (RowAt.new w1 _ _).alloc _)
  have HW2 : Hid (RowAt wb (q + 1) 24 #[.int .i64 (g : Int), .slice none 0 0]) := Lib.hid (by rw [hwb, hq]; exact RowAt.new' (by simp))
  have HRX : Hid (RowAt wb rb 24 #[.int .i64 0, .slice none 0 0]) := Lib.hid (by rw [hwb]; exact (HRW.out.alloc _).alloc _)
  have HBW : Hid (Below W.heap.size W wb) := Lib.hid (by rw [hwb]; exact (HB1.out.alloc (by have := HB1.out.size; omega) _).alloc (by have := HB1.out.size; simp; omega) _)
  have hws : wb.heap.size = q + 2 := by rw [hwb, hq]; simp
  have HWS := Lib.hid hws
  clear hb1 hr1 hf1 hq1
  go_wp2_with fail
  rw [← hwb, ← hq]
  clear hwb hq
  go_loopw [7] (fun x wr => ∃ i : Nat, x = .int .i64 (i : Int) ∧ i ≤ L.length ∧ Hid (Below (q + 1) wb wr) ∧ Hid (∃ A2 c2, RowAt wr (q + 1) 24 #[.int .i64 (g : Int), .slice A2 i c2] ∧ wr.ownsRow (q + 2) 56 4 (.slice A2 i c2) i (icells (L.take i)))) (fun x _ => L.length - (intOf x).toNat)
  case atStart => exact ⟨0, rfl, Nat.zero_le _, Lib.hid (Below.refl _ _), Lib.hid ⟨none, 0, HW2.out, by simp [icells], .inl ⟨rfl, rfl⟩⟩⟩
  case round =>
    obtain ⟨i, rfl, hi, HB, H1⟩ := hrel
    obtain ⟨A2, c2, hq, ho⟩ := H1.out
    clear H1
    have hw2 := HW2.out.lt
    have hsr := HB.out.size
    have e1 : wr.cell? ⟨q, 1, none⟩ = some (.slice A L.length c) := (HB.out.cell (p := ⟨q, 1, none⟩) (by show q < q + 1; omega)).trans ((HW1.out.cell 1).trans rfl)
    have q1 : wr.cell? ⟨q + 1, 1, none⟩ = some (.slice A2 i c2) := (hq.cell 1).trans rfl
    have q0 : wr.cell? ⟨q + 1, 0, none⟩ = some (.int .i64 (g : Int)) := (hq.cell 0).trans rfl
    have qf := hq.frozen 1
    have ql := hq.lt
    have HQW := Lib.hid hq
    have HO := Lib.hid ho
    by_cases hlt : i < L.length
    · have hltI : (i : Int) < (L.length : Int) := by omega
      have hi0 : (0 : Int) ≤ (i : Int) := by omega
      obtain ⟨x, hx⟩ : ∃ x, L[i] = x := ⟨_, rfl⟩
      have hfx : Pk.fetch L (i : Int) = some x := by unfold Pk.fetch; rw [if_pos hi0, Int.toNat_natCast, List.getElem?_eq_getElem hlt, hx]
      have hpw : Rd wr (fun j => j < q) A (icells L) := (HP.out.mono fun i _ hi => hi.2).keep HB.out.size fun j _ hj => HB.out.block j (by have hj : j < q := hj; omega)
      obtain ⟨ib, io, hA, hil, j0, j1, j2, j3, hib⟩ := Pk.prog_cells2 hpw hfx
      have hib : ib < q := hib
      have hibq : ¬ q + 1 = ib := by omega
      rw [Int.toNat_natCast] at j0 j1 j2 j3
      clear hpw
      subst hA
      obtain ⟨xop, xx, xy, xp⟩ := x
      have hlen : i + 1 ≤ maxLen := by unfold maxLen; omega
      have HOA : Hid ((wr.alloc (.cells #[.int .i64 xop, .int .i64 xx, .int .i64 xy, .string ⟨xp.toArray⟩] 56)).ownsRow (q + 2) 56 4 (.slice A2 i c2) i (icells (L.take i))) := Lib.hid (ho.alloc _)
      have HRD : Hid (Rd (wr.alloc (.cells #[.int .i64 xop, .int .i64 xx, .int .i64 xy, .string ⟨xp.toArray⟩] 56)) (fun b => b = wr.heap.size) (some ⟨wr.heap.size, 0, none⟩) [.int .i64 xop, .int .i64 xx, .int .i64 xy, .string ⟨xp.toArray⟩]) := Lib.hid (Rd.fresh wr [.int .i64 xop, .int .i64 xx, .int .i64 xy, .string ⟨xp.toArray⟩] 56 _ rfl)
      have HNE : Hid (∀ b, (Value.slice A2 i c2).ownBlock = some b → q + 2 ≤ b ∧ b < wr.heap.size) := Lib.hid fun b hb => World.ownsRow.lt ho b hb
      have HTK : Hid (icells (L.take (i + 1)) = icells (L.take i) ++ [.int .i64 xop, .int .i64 xx, .int .i64 xy, .string ⟨xp.toArray⟩]) := Lib.hid (by
        rw [List.take_add_one, List.getElem?_eq_getElem hlt, hx]
        unfold icells
        rw [List.flatMap_append]
        rfl)
      clear hq ho hx hfx
      go_wp2_with fail
      go_region_law (refine step_app _ rfl (.tmp 24) (.tmp 30) 22 rfl (q + 2) 56 i0 _ 4 40 Try.underlying22 HI.out HZ.out.1 HZ.out.2.1 HZ.out.2.2 rfl (by decide) (.slice A2 i c2) i (icells (L.take i)) (by simp [Act.eval]) HOA.out (fun b => b = wr.heap.size) (some ⟨wr.heap.size, 0, none⟩) 1 1 [.int .i64 xop, .int .i64 xx, .int .i64 xy, .string ⟨xp.toArray⟩] (by simp [Act.eval]) (by simp) HRD.out (by intro u hu; simp at hu; rcases hu with rfl | rfl | rfl | rfl <;> rfl) hlen (by omega) (by simp; omega) ?_; intro v2 w2 hown2 hg2 hat2 hnil2; have d0' : w2.cell? ⟨q + 1, 1, none⟩ = some (.slice A2 i c2) := (hg2.cell_far ⟨q + 1, 1, none⟩ (by show q + 1 < _; simp; omega) (fun e => by have := (HNE.out (q + 1) e.symm).1; omega)).trans ((World.cell?_alloc_lt _ _ _ ql).trans q1); have df' : w2.frozen? ⟨q + 1, 1, none⟩ = false := (hg2.frozen_far ⟨q + 1, 1, none⟩ (by show q + 1 < _; simp; omega) (fun e => by have := (HNE.out (q + 1) e.symm).1; omega)).trans ((World.frozen?_of_block (Below.heap_alloc _ _ (q + 1) ql)).trans qf); have HO2 := Lib.hid hown2; have HG2 : Hid (World.grownBy (wr.alloc (.cells #[.int .i64 xop, .int .i64 xx, .int .i64 xy, .string ⟨xp.toArray⟩] 56)) w2 (Value.slice A2 i c2).ownBlock) := Lib.hid ⟨hg2.os, hg2.tape, hg2.output, hg2.size, hg2.block⟩; obtain ⟨A3, c3, rfl⟩ := own_form hown2; clear hown2 hg2 hat2 hnil2)
      all_goals
        try go_simp
        have hrow2 : RowAt (w2.setCell ⟨q + 1, 1, none⟩ (.slice A3 (i + 1) c3)) (q + 1) 24 #[.int .i64 (g : Int), .slice A3 (i + 1) c3] := by
          have h1 : RowAt w2 (q + 1) 24 #[.int .i64 (g : Int), .slice A2 i c2] := (HG2.out.block (q + 1) (by simp; omega) (fun e => by have := (HNE.out (q + 1) e.symm).1; omega)).trans ((Below.heap_alloc _ _ (q + 1) ql).trans HQW.out)
          exact h1.set_ 1 _
        have hown3 : (w2.setCell ⟨q + 1, 1, none⟩ (.slice A3 (i + 1) c3)).ownsRow (q + 2) 56 4 (.slice A3 (i + 1) c3) (i + 1) (icells (L.take (i + 1))) := by
          rw [HTK.out]
          exact owns_keep HO2.out fun b hb => Below.heap_setCell _ _ _ b (by have := (World.ownsRow.lt HO2.out b hb).1; show b ≠ q + 1; omega)
        have hbel : Below (q + 1) wb (w2.setCell ⟨q + 1, 1, none⟩ (.slice A3 (i + 1) c3)) := by
          refine Below.setCell ?_ (by show q + 1 ≤ q + 1; omega) _
          refine (HB.out.alloc (by omega) (.cells #[.int .i64 xop, .int .i64 xx, .int .i64 xy, .string ⟨xp.toArray⟩] 56)).trans ⟨HG2.out.os, HG2.out.tape, HG2.out.output, HG2.out.size, fun b hb => HG2.out.block b (by simp; omega) (fun e => by have := (HNE.out b e.symm).1; omega)⟩
        have HBL := Lib.hid hbel
        have HEX : Hid (∃ A2 c2, RowAt (w2.setCell ⟨q + 1, 1, none⟩ (.slice A3 (i + 1) c3)) (q + 1) 24 #[.int .i64 (g : Int), .slice A2 (i + 1) c2] ∧ (w2.setCell ⟨q + 1, 1, none⟩ (.slice A3 (i + 1) c3)).ownsRow (q + 2) 56 4 (.slice A2 (i + 1) c2) (i + 1) (icells (L.take (i + 1)))) := Lib.hid ⟨A3, c3, hrow2, hown3⟩
        clear hrow2 hown3 hbel d0' df' HO2 HG2
        try go_wp2_with fail
        go_roundw
        case rel => exact ⟨i + 1, by go_num, by omega, Lib.hid HBL.out, Lib.hid HEX.out⟩
        case measure => simp [intOf]; omega
    · have hltI : ¬ (i : Int) < (L.length : Int) := by omega
      obtain rfl : i = L.length := by omega
      have hrr : RowAt wr rb 24 #[.int .i64 0, .slice none 0 0] := HRX.out.below HB.out (by omega)
      have r0 : wr.cell? ⟨rb, 0, none⟩ = some (.int .i64 0) := (hrr.cell 0).trans rfl
      have r1 : wr.cell? ⟨rb, 1, none⟩ = some (.slice none 0 0) := (hrr.cell 1).trans rfl
      have rf0 := hrr.frozen 0
      have rf1 := hrr.frozen 1
      have rl := hrr.lt
      obtain ⟨ok, hok⟩ : ∃ ok, ok = (er == 0) := ⟨_, rfl⟩
      have HOK : Hid (ok = decide (er = 0)) := Lib.hid (by rw [hok]; rfl)
      have hok2 : (er == 0) = ok := hok.symm
      clear hq ho hok hrr
      go_wp2_with fail
      (try simp only [Exit.inBlock, Exit.then])
      refine bodyPost_ret ((results_cell_tmp rfl _ _ _).trans (by simp [go_sem, *]; rfl)) rfl ?_
      have hO := HO.out
      rw [List.take_length] at hO
      refine ⟨g, L, A2, c2, ok, rfl, ?_, ?_, HF.out, fun hs => by rw [HQ.out hs, HOK.out]⟩
      · refine HBW.out.trans (Below.trans (b := wr) (HB.out.mono (by have := HRB.out; omega)) ?_)
        exact ((Below.refl _ _).setCell (by have := HRB.out; show W.heap.size ≤ rb; omega) _).setCell (by have := HRB.out; show W.heap.size ≤ rb; omega) _
      · refine (Rd.own hO).keep (by simp [World.setCell]) (fun j _ hj => ?_) |>.mono fun j _ hj => ?_
        · have h2 := (World.ownsRow.lt hO j hj).1
          rw [Below.heap_setCell _ _ _ j (by show j ≠ rb; omega), Below.heap_setCell _ _ _ j (by show j ≠ rb; omega)]
        · have h2 := (World.ownsRow.lt hO j hj).1
          have := HRB.out
          show W.heap.size ≤ j
          omega
end Go.Proofs.Ytelbabgkpflckaa
