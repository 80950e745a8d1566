/-
  CONTRACTS: chapter 12, the document's Compile.
-/
import Derived.Test.YtedppnejkjcplaaRcWay
import Derived.Laws.ResultCell
namespace Go.Proofs.Ytedppnejkjcplaa
open Go.RowKit Go.Sort
open Me
open Pk

namespace Rc
open Rx (In)
/-- What Compile leaves. -/
def ComR (s : List UInt8) (W : World) (e : Ending) (W' : World) : Prop := ∃ res : Except Int (Nat × List In), (Sm s → res = compile s) ∧ Below W.heap.size W W' ∧ match res with
  | .error er => er ≠ 0 ∧ e = .returned (.tuple #[.agg #[.int .i64 0, .slice none 0 0], .int .i64 er])
  | .ok (g, L) => ∃ A c, e = .returned (.tuple #[.agg #[.int .i64 (g : Int), .slice A L.length c], .int .i64 0]) ∧ Rd W' (fun i => W.heap.size ≤ i) A (icells L) ∧ L.length ≤ 1024 ∧ g ≤ 4096 ∧ ∀ x ∈ L, x.p.length ≤ 512
end Rc

set_option maxRecDepth 100000 in
set_option maxHeartbeats 16000000 in
theorem refCompile_any {S : List UInt8 → Prop} (hSC : Rc.SetC S) {W : World} {s : List UInt8} (hS : S s) (hl : s.length ≤ 4096) :
    Calls Try.prog 29 #[.string ⟨s.toArray⟩] W (Rc.ComR s W) := by
  have HWY := Lib.hid (ways_any hSC (s.length + 1))
  have hlI : ¬ (4096 : Int) < (s.length : Int) := by omega
  obtain ⟨rb, hrb⟩ : ∃ rb, rb = W.heap.size := ⟨_, rfl⟩
  obtain ⟨W1, hW1⟩ : ∃ W1, W1 = (W.alloc (.cells #[.int .i64 0, .slice none 0 0] 34)).alloc (.cells #[.string ⟨s.toArray⟩, .int .i64 0, .int .i64 0, .int .i64 0, .int .i64 0, .slice none 0 0] 88) := ⟨_, rfl⟩
  have HB1 : Hid (Below W.heap.size W W1) := Lib.hid (by rw [hW1]; exact ((Below.refl _ _).alloc (Nat.le_refl _) _).alloc (by simp) _)
  have hat : Rc.At W1 (rb + 1) (.slice none 0 0) ⟨s, 0, 0, 0, 0, []⟩ := by
    refine ⟨?_, by simp [icells], .inl ⟨rfl, rfl⟩⟩
    rw [hW1, hrb]
    exact RowAt.new' (by simp)
  have HRR : Hid (RowAt W1 rb 34 #[.int .i64 0, .slice none 0 0]) := Lib.hid (by rw [hW1, hrb]; exact (RowAt.new W _ _).alloc _)
  have HRB := Lib.hid hrb
  have HL0 : Hid (Calls Try.prog 41 #[.pointer (some ⟨rb + 1, 0, none⟩), .agg #[.int .i64 4, .int .i64 0, .int .i64 0, .string ⟨#[]⟩]] W1 fun e w' => e = .returned (.int .i64 0) ∧ ∃ v', Rc.Did W1 (rb + 1) (.slice none 0 0) (Rc.first_ s) v' w') := Lib.hid (by
    refine (lay_any hat (by show 0 ≤ _; omega) ⟨4, 0, 0, []⟩).mono ?_
    rintro e w' ⟨he, v', hq⟩
    exact ⟨he, v', hq⟩)
  have HWC : Hid (∀ v3 w3, Rc.Did W1 (rb + 1) (.slice none 0 0) (Rc.first_ s) v3 w3 → Calls Try.prog 42 #[.pointer (some ⟨rb + 1, 0, none⟩)] w3 fun e w' => e = .returned (.tuple #[]) ∧ ∃ r' v', Rc.Did W1 (rb + 1) (.slice none 0 0) r' v' w' ∧ Rc.Nx (Rc.first_ s) r' ∧ (Rc.Sm s → r' = Rc.ways (s.length + 1) (Rc.first_ s))) := Lib.hid fun v3 w3 hd => by
    refine (HWY.out w3 (rb + 1) v3 (Rc.first_ s) hd.at_ ⟨Nat.zero_le _, hl, ?_, Nat.le_refl _, Nat.le_refl _, ?_, ?_⟩ rfl hS (by show s.length - 0 < _; omega)).mono ?_
    · show 1 ≤ 2 * 0 + 1; omega
    · intro x hx; rw [List.mem_singleton.1 hx]; exact Nat.zero_le _
    · show 0 < 1; omega
    · rintro e w' ⟨he, r', v', q1, q2, q3⟩
      exact ⟨he, r', v', hd.trans q1, q2, q3⟩
  have HLN := Lib.hid hl
  clear hat hSC hS
  go_enter Try.func29, Try.ntmps29
  go_wp2_with fail
  rw [← hW1, ← hrb]
  clear hW1 hrb
  go_wp2_with (go_at_call 41; go_must (refine HL0.out.mono ?_; rintro e w2 ⟨rfl, v2, hd2⟩; have H2 := Lib.hid hd2; clear hd2))
  go_at_call 42
  refine (HWC.out _ _ H2.out).mono ?_
  rintro e w3 ⟨rfl, ⟨s1, i1, d1, e1, g1, L1⟩, v1, hd3, hn3, heq3⟩
  have hs1 : s1 = s := hn3.s
  subst hs1
  have H3 := Lib.hid hd3
  have N3 := Lib.hid hn3
  have Q3 := Lib.hid heq3
  have k1 : w3.cell? ⟨rb + 1, 1, none⟩ = some (.int .i64 (i1 : Int)) := hd3.at_.c1
  have k3 : w3.cell? ⟨rb + 1, 3, none⟩ = some (.int .i64 e1) := hd3.at_.c3
  have hi1 : i1 ≤ s1.length := hn3.ok.at_
  have HL1 : Hid (L1.length ≤ 2 * 4096 + 1) := Lib.hid (by have q : L1.length ≤ 2 * i1 + 1 := hn3.ok.L; omega)
  obtain ⟨nl, hnl⟩ : ∃ nl, nl = L1.length + 2 := ⟨_, rfl⟩
  have HNL := Lib.hid hnl
  clear hnl
  have HG1 : Hid (g1 ≤ 4096) := Lib.hid (by have q : g1 ≤ i1 := hn3.ok.g; omega)
  have HPP : Hid (∀ x ∈ L1, x.p.length ≤ 512) := Lib.hid hn3.ok.p
  have HCOM : Hid (Rc.Sm s1 → Rc.compile s1 = Rc.out (Rc.ended ⟨s1, i1, d1, e1, g1, L1⟩)) := Lib.hid fun hs => by
    unfold Rc.compile
    rw [if_neg (by have := HLN.out; omega), ← Q3.out hs]
  clear hd3 hn3 heq3
  by_cases he1 : e1 = 0
  · subst he1
    by_cases hlt : i1 < s1.length
    · have hltI : (i1 : Int) < (s1.length : Int) := by omega
      have HBA : Hid (Calls Try.prog 43 #[.pointer (some ⟨rb + 1, 0, none⟩), .int .i64 8] w3 fun e w' => e = .returned (.tuple #[]) ∧ Rc.Did W1 (rb + 1) (.slice none 0 0) ⟨s1, i1, d1, 8, g1, L1⟩ v1 w') := Lib.hid (by
        refine (bad_any H3.out.at_ 8).mono ?_
        rintro e w' ⟨he, hq⟩
        exact ⟨he, H3.out.trans hq⟩)
      go_wp2_with first
      | (go_at_call 43; go_must (refine HBA.out.mono ?_; rintro e w6 ⟨rfl, hd6⟩; have HX := Lib.hid hd6; clear hd6))
      | (go_at_call 41; ((with_reducible refine (layD HX.out (by show L1.length ≤ _; have := HL1.out; omega) 4 1 0).mono ?_); rintro e w4 ⟨rfl, v4, _, hd4⟩; have H4 := Lib.hid hd4; clear hd4))
      | (go_at_call 41; go_must (refine (layD H4.out (by show List.length (L1 ++ [_]) ≤ _; rw [List.length_append]; show L1.length + 1 ≤ _; have := HL1.out; omega) 7 0 0).mono ?_; rintro e w5 ⟨rfl, v5, _, hd5⟩; have HD : Hid (Rc.Did W1 (rb + 1) (.slice none 0 0) ⟨s1, i1, d1, 8, g1, (L1 ++ [(⟨4, 1, 0, []⟩ : Rx.In)]) ++ [(⟨7, 0, 0, []⟩ : Rx.In)]⟩ v5 w5) := Lib.hid hd5; have hrr : RowAt w5 rb 34 #[.int .i64 0, .slice none 0 0] := hd5.row HRR.out (by omega) (fun e => by cases e); have k53 : w5.cell? ⟨rb + 1, 3, none⟩ = some (.int .i64 8) := hd5.at_.c3; have k54 : w5.cell? ⟨rb + 1, 4, none⟩ = some (.int .i64 (g1 : Int)) := hd5.at_.c4; have kl5 := hd5.at_.lt; have p0 : w5.cell? ⟨rb, 0, none⟩ = some (.int .i64 0) := (hrr.cell 0).trans rfl; have p1 : w5.cell? ⟨rb, 1, none⟩ = some (.slice none 0 0) := (hrr.cell 1).trans rfl; have pf0 := hrr.frozen 0; have pf1 := hrr.frozen 1; have pl := hrr.lt; obtain ⟨A5, c5, rfl⟩ := hd5.at_.form; have k55a := hd5.at_.c5; have hlen5 : (Value.slice A5 ((L1 ++ [(⟨4, 1, 0, []⟩ : Rx.In)]) ++ [(⟨7, 0, 0, []⟩ : Rx.In)]).length c5) = .slice A5 nl c5 := (by rw [HNL.out, List.length_append, List.length_append]; rfl); have k55 : w5.cell? ⟨rb + 1, 5, none⟩ = some (.slice A5 nl c5) := (by rw [← hlen5]; exact k55a); clear k55a hlen5; clear hd5 hrr))
      go_region
      all_goals
        try go_wp2_with fail
        (try simp only [Exit.inBlock, Exit.then]); refine bodyPost_ret ((results_cell_tmp rfl _ _ _).trans (by simp [go_sem, *]; rfl)) rfl ?_
        refine ⟨.error 8, fun hs => ?_, ?_, (by decide : ¬ (8 : Int) = 0), rfl⟩
        · rw [HCOM.out hs]
          have : Rc.ended ⟨s1, i1, d1, 0, g1, L1⟩ = ⟨s1, i1, d1, 8, g1, (L1 ++ [(⟨4, 1, 0, []⟩ : Rx.In)]) ++ [(⟨7, 0, 0, []⟩ : Rx.In)]⟩ := by unfold Rc.ended; simp [hlt, Rc.bad, Rc.lay]
          rw [this]; rfl
        · have hbw := HB1.out.trans (HD.out.kp.below HB1.out.size (fun i hi e => by rcases e with e | e; have := HRB.out; omega; cases e))
          have hrr := HRB.out
          repeat (first | exact hbw | refine Below.drew ?_ | refine Below.setCell ?_ (by show W.heap.size ≤ rb; omega) _)
    · have hltI : ¬ (i1 : Int) < (s1.length : Int) := by omega
      have HX := H3
      by_cases hbig : 1024 < nl
      · have hbigI : (1024 : Int) < (nl : Int) := by omega
        go_wp2_with first
        | (go_at_call 41; ((with_reducible refine (layD HX.out (by show L1.length ≤ _; have := HL1.out; omega) 4 1 0).mono ?_); rintro e w4 ⟨rfl, v4, _, hd4⟩; have H4 := Lib.hid hd4; clear hd4))
        | (go_at_call 41; go_must (refine (layD H4.out (by show List.length (L1 ++ [_]) ≤ _; rw [List.length_append]; show L1.length + 1 ≤ _; have := HL1.out; omega) 7 0 0).mono ?_; rintro e w5 ⟨rfl, v5, _, hd5⟩; have HD : Hid (Rc.Did W1 (rb + 1) (.slice none 0 0) ⟨s1, i1, d1, 0, g1, (L1 ++ [(⟨4, 1, 0, []⟩ : Rx.In)]) ++ [(⟨7, 0, 0, []⟩ : Rx.In)]⟩ v5 w5) := Lib.hid hd5; have hrr : RowAt w5 rb 34 #[.int .i64 0, .slice none 0 0] := hd5.row HRR.out (by omega) (fun e => by cases e); have k53 : w5.cell? ⟨rb + 1, 3, none⟩ = some (.int .i64 0) := hd5.at_.c3; have k54 : w5.cell? ⟨rb + 1, 4, none⟩ = some (.int .i64 (g1 : Int)) := hd5.at_.c4; have kl5 := hd5.at_.lt; have p0 : w5.cell? ⟨rb, 0, none⟩ = some (.int .i64 0) := (hrr.cell 0).trans rfl; have p1 : w5.cell? ⟨rb, 1, none⟩ = some (.slice none 0 0) := (hrr.cell 1).trans rfl; have pf0 := hrr.frozen 0; have pf1 := hrr.frozen 1; have pl := hrr.lt; obtain ⟨A5, c5, rfl⟩ := hd5.at_.form; have k55a := hd5.at_.c5; have hlen5 : (Value.slice A5 ((L1 ++ [(⟨4, 1, 0, []⟩ : Rx.In)]) ++ [(⟨7, 0, 0, []⟩ : Rx.In)]).length c5) = .slice A5 nl c5 := (by rw [HNL.out, List.length_append, List.length_append]; rfl); have k55 : w5.cell? ⟨rb + 1, 5, none⟩ = some (.slice A5 nl c5) := (by rw [← hlen5]; exact k55a); clear k55a hlen5; clear hd5 hrr))
        (try simp only [Exit.inBlock, Exit.then]); refine bodyPost_ret ((results_cell_tmp rfl _ _ _).trans (by simp [go_sem, *]; rfl)) rfl ?_
        refine ⟨.error 13, fun hs => ?_, ?_, (by decide : ¬ (13 : Int) = 0), rfl⟩
        · rw [HCOM.out hs]
          have : Rc.ended ⟨s1, i1, d1, 0, g1, L1⟩ = ⟨s1, i1, d1, 0, g1, (L1 ++ [(⟨4, 1, 0, []⟩ : Rx.In)]) ++ [(⟨7, 0, 0, []⟩ : Rx.In)]⟩ := by unfold Rc.ended; simp [hlt, Rc.lay]
          rw [this]
          unfold Rc.out
          rw [if_neg (by simp), if_pos (by show 1024 < List.length ((L1 ++ [_]) ++ [_]); rw [List.length_append, List.length_append]; show 1024 < L1.length + 1 + 1; have := HNL.out; omega)]
        · have hbw := HB1.out.trans (HD.out.kp.below HB1.out.size (fun i hi e => by rcases e with e | e; have := HRB.out; omega; cases e))
          have hrr := HRB.out
          repeat (first | exact hbw | refine Below.drew ?_ | refine Below.setCell ?_ (by show W.heap.size ≤ rb; omega) _)
      · have hbigI : ¬ (1024 : Int) < (nl : Int) := by omega
        go_wp2_with first
        | (go_at_call 41; ((with_reducible refine (layD HX.out (by show L1.length ≤ _; have := HL1.out; omega) 4 1 0).mono ?_); rintro e w4 ⟨rfl, v4, _, hd4⟩; have H4 := Lib.hid hd4; clear hd4))
        | (go_at_call 41; go_must (refine (layD H4.out (by show List.length (L1 ++ [_]) ≤ _; rw [List.length_append]; show L1.length + 1 ≤ _; have := HL1.out; omega) 7 0 0).mono ?_; rintro e w5 ⟨rfl, v5, _, hd5⟩; have HD : Hid (Rc.Did W1 (rb + 1) (.slice none 0 0) ⟨s1, i1, d1, 0, g1, (L1 ++ [(⟨4, 1, 0, []⟩ : Rx.In)]) ++ [(⟨7, 0, 0, []⟩ : Rx.In)]⟩ v5 w5) := Lib.hid hd5; have hrr : RowAt w5 rb 34 #[.int .i64 0, .slice none 0 0] := hd5.row HRR.out (by omega) (fun e => by cases e); have k53 : w5.cell? ⟨rb + 1, 3, none⟩ = some (.int .i64 0) := hd5.at_.c3; have k54 : w5.cell? ⟨rb + 1, 4, none⟩ = some (.int .i64 (g1 : Int)) := hd5.at_.c4; have kl5 := hd5.at_.lt; have p0 : w5.cell? ⟨rb, 0, none⟩ = some (.int .i64 0) := (hrr.cell 0).trans rfl; have p1 : w5.cell? ⟨rb, 1, none⟩ = some (.slice none 0 0) := (hrr.cell 1).trans rfl; have pf0 := hrr.frozen 0; have pf1 := hrr.frozen 1; have pl := hrr.lt; obtain ⟨A5, c5, rfl⟩ := hd5.at_.form; have k55a := hd5.at_.c5; have hlen5 : (Value.slice A5 ((L1 ++ [(⟨4, 1, 0, []⟩ : Rx.In)]) ++ [(⟨7, 0, 0, []⟩ : Rx.In)]).length c5) = .slice A5 nl c5 := (by rw [HNL.out, List.length_append, List.length_append]; rfl); have k55 : w5.cell? ⟨rb + 1, 5, none⟩ = some (.slice A5 nl c5) := (by rw [← hlen5]; exact k55a); clear k55a hlen5; clear hd5 hrr))
        (try simp only [Exit.inBlock, Exit.then]); refine bodyPost_ret ((results_cell_tmp rfl _ _ _).trans (by simp [go_sem, *]; rfl)) rfl ?_
        have hll : List.length ((L1 ++ [(⟨4, 1, 0, []⟩ : Rx.In)]) ++ [(⟨7, 0, 0, []⟩ : Rx.In)]) = nl := by rw [HNL.out, List.length_append, List.length_append]; rfl
        refine ⟨.ok (g1, (L1 ++ [(⟨4, 1, 0, []⟩ : Rx.In)]) ++ [(⟨7, 0, 0, []⟩ : Rx.In)]), fun hs => ?_, ?_, A5, c5, by rw [hll], ?_, by rw [hll]; omega, HG1.out, ?_⟩
        · rw [HCOM.out hs]
          have : Rc.ended ⟨s1, i1, d1, 0, g1, L1⟩ = ⟨s1, i1, d1, 0, g1, (L1 ++ [(⟨4, 1, 0, []⟩ : Rx.In)]) ++ [(⟨7, 0, 0, []⟩ : Rx.In)]⟩ := by unfold Rc.ended; simp [hlt, Rc.lay]
          rw [this]
          unfold Rc.out
          rw [if_neg (by simp), if_neg (by show ¬ 1024 < List.length ((L1 ++ [_]) ++ [_]); rw [hll]; omega)]
        · have hbw := HB1.out.trans (HD.out.kp.below HB1.out.size (fun i hi e => by rcases e with e | e; have := HRB.out; omega; cases e))
          have hrr := HRB.out
          repeat (first | exact hbw | refine Below.drew ?_ | refine Below.setCell ?_ (by show W.heap.size ≤ rb; omega) _)
        · have ho := HD.out.at_.own
          have hlt5 := HD.out.at_.olt
          refine Rd.mono (G := fun i => rb + 2 ≤ i) ?_ (fun i _ hi => by have := HRB.out; have hi : rb + 2 ≤ i := hi; show W.heap.size ≤ i; omega)
          refine Rd.keep (w := w5) ((Rd.own ho).mono fun i _ hi => by have := (hlt5 i hi).1; show rb + 2 ≤ i; omega) (by simp [World.setCell]) fun i hi hg => ?_
          have hg : rb + 2 ≤ i := hg
          rw [Below.heap_setCell _ _ _ i (by show i ≠ rb; omega), Below.heap_setCell _ _ _ i (by show i ≠ rb; omega)]
        · intro x hx
          simp only [List.mem_append, List.mem_singleton] at hx
          rcases hx with (hx | rfl) | rfl
          · exact HPP.out x hx
          · exact Nat.zero_le _
          · exact Nat.zero_le _
  · have he1b : (e1 == 0) = false := by simpa using he1
    have he1c : (e1 != 0) = true := by simpa using he1
    have HX := H3
    go_wp2_with first
      | (go_at_call 41; ((with_reducible refine (layD HX.out (by show L1.length ≤ _; have := HL1.out; omega) 4 1 0).mono ?_); rintro e w4 ⟨rfl, v4, _, hd4⟩; have H4 := Lib.hid hd4; clear hd4))
      | (go_at_call 41; go_must (refine (layD H4.out (by show List.length (L1 ++ [_]) ≤ _; rw [List.length_append]; show L1.length + 1 ≤ _; have := HL1.out; omega) 7 0 0).mono ?_; rintro e w5 ⟨rfl, v5, _, hd5⟩; have HD : Hid (Rc.Did W1 (rb + 1) (.slice none 0 0) ⟨s1, i1, d1, e1, g1, (L1 ++ [(⟨4, 1, 0, []⟩ : Rx.In)]) ++ [(⟨7, 0, 0, []⟩ : Rx.In)]⟩ v5 w5) := Lib.hid hd5; have hrr : RowAt w5 rb 34 #[.int .i64 0, .slice none 0 0] := hd5.row HRR.out (by omega) (fun e => by cases e); have k53 : w5.cell? ⟨rb + 1, 3, none⟩ = some (.int .i64 e1) := hd5.at_.c3; have k54 : w5.cell? ⟨rb + 1, 4, none⟩ = some (.int .i64 (g1 : Int)) := hd5.at_.c4; have kl5 := hd5.at_.lt; have p0 : w5.cell? ⟨rb, 0, none⟩ = some (.int .i64 0) := (hrr.cell 0).trans rfl; have p1 : w5.cell? ⟨rb, 1, none⟩ = some (.slice none 0 0) := (hrr.cell 1).trans rfl; have pf0 := hrr.frozen 0; have pf1 := hrr.frozen 1; have pl := hrr.lt; obtain ⟨A5, c5, rfl⟩ := hd5.at_.form; have k55a := hd5.at_.c5; have hlen5 : (Value.slice A5 ((L1 ++ [(⟨4, 1, 0, []⟩ : Rx.In)]) ++ [(⟨7, 0, 0, []⟩ : Rx.In)]).length c5) = .slice A5 nl c5 := (by rw [HNL.out, List.length_append, List.length_append]; rfl); have k55 : w5.cell? ⟨rb + 1, 5, none⟩ = some (.slice A5 nl c5) := (by rw [← hlen5]; exact k55a); clear k55a hlen5; clear hd5 hrr))
    go_region
    all_goals
      try go_wp2_with fail
      (try simp only [Exit.inBlock, Exit.then]); refine bodyPost_ret ((results_cell_tmp rfl _ _ _).trans (by simp [go_sem, *]; rfl)) rfl ?_
      refine ⟨.error e1, fun hs => ?_, ?_, he1, rfl⟩
      · rw [HCOM.out hs]
        have : Rc.ended ⟨s1, i1, d1, e1, g1, L1⟩ = ⟨s1, i1, d1, e1, g1, (L1 ++ [(⟨4, 1, 0, []⟩ : Rx.In)]) ++ [(⟨7, 0, 0, []⟩ : Rx.In)]⟩ := by unfold Rc.ended; simp [he1, Rc.lay]
        rw [this]
        unfold Rc.out
        rw [if_pos he1]
      · have hbw := HB1.out.trans (HD.out.kp.below HB1.out.size (fun i hi e => by rcases e with e | e; have := HRB.out; omega; cases e))
        have hrr := HRB.out
        repeat (first | exact hbw | refine Below.drew ?_ | refine Below.setCell ?_ (by show W.heap.size ≤ rb; omega) _)
end Go.Proofs.Ytedppnejkjcplaa
