/-
  RcPut: CONTRACTS: chapter 12, the document's Compile: put.
-/
import Derived.Test.YtelbabgkpflckaaJ13

set_option linter.unusedSimpArgs false
set_option linter.unusedVariables false
namespace Go.Proofs.Ytelbabgkpflckaa
open Go.RowKit Go.Sort
open Me
open Pk

set_option maxRecDepth 100000 in
set_option maxHeartbeats 8000000 in
theorem put_any {w : World} {b : Nat} {v : Value} {r : Rc.Rr} (h : Rc.At w b v r) {A : Option Addr} {c : Nat} {l : List Rx.In} (hs : Rc.Side w b v A (icells l)) (hL : r.L.length + l.length ≤ 1000000) :
    Calls Try.prog 52 #[.pointer (some ⟨b, 0, none⟩), .slice A l.length c] w fun e w' => e = .returned (.tuple #[]) ∧ ∃ v', Rc.Did w b v (Rc.put r l) v' w' := by
  obtain ⟨i0, hi0, hz0, hz1, hz2⟩ := info_parts Rc.inst_info
  have HI := Lib.hid hi0
  have HZ := Lib.hid (And.intro hz0 (And.intro hz1 hz2))
  clear hi0 hz0 hz1 hz2
  obtain ⟨A0, cp, rfl⟩ := h.form
  have hbl := h.lt
  have c5 := h.c5
  have f5 := h.fz 5
  have HAT := Lib.hid h
  obtain ⟨n, hn⟩ : ∃ n, n = r.L.length := ⟨_, rfl⟩
  obtain ⟨m, hm⟩ : ∃ m, m = l.length := ⟨_, rfl⟩
  have HN := Lib.hid hn
  have HM := Lib.hid hm
  have hmv : ∃ G : Nat → Prop, Hid (Calls Try.prog 59 #[.slice A m c, .int .i64 (n : Int)] w.drew fun e W' => ∃ v, e = .returned v ∧ Below w.heap.size w W' ∧ W'.ownsRow w.heap.size 57 4 v m (icells (Rc.moved l n))) := ⟨fun _ => True, Lib.hid (by rw [hm]; refine (moved_any (W := w.drew) (Rd.keep (w := w) (w' := w.drew) (show Rd w (fun i => i ≠ b ∧ (Value.slice A0 r.L.length cp).ownBlock ≠ some i) A (icells l) from hs) (Nat.le_refl _) fun _ _ _ => rfl) (by omega) (n : Int)).mono ?_; rintro e W' ⟨v, he, hb, ho⟩; exact ⟨v, he, ⟨hb.os, hb.tape, hb.output, hb.size, hb.block⟩, ho⟩)⟩
  obtain ⟨_, HM0⟩ := hmv
  rw [← hn] at c5 hL ⊢
  rw [← hm] at hL ⊢
  have hlen : n + m ≤ maxLen := by unfold maxLen; omega
  have HOW : Hid (w.ownsRow (b + 1) 57 4 (.slice A0 n cp) n (icells r.L)) := Lib.hid (by rw [hn]; exact h.own)
  rw [← hn] at HAT
  clear h hn hm hs
  go_enter Try.func52, Try.ntmps52
  go_wp2_with fail
  go_region_law (first
    | (go_simp; go_at_call 59; go_must (refine HM0.out.mono ?_; rintro e w1 ⟨v1, rfl, hb1, ho1⟩; have HB1 := Lib.hid hb1; have HO1 := Lib.hid ho1; have HA1 := Lib.hid (HAT.out.below hb1); have d5 : w1.cell? ⟨b, 5, none⟩ = some (.slice A0 n cp) := HA1.out.c5; have e5 := HA1.out.fz 5; have hb1l := HA1.out.lt; have hs1 := hb1.size; have HOA : Hid (w1.ownsRow (b + 1) 57 4 (.slice A0 n cp) n (icells r.L)) := Lib.hid (owns_keep HOW.out fun g hg => hb1.block g (World.ownsRow.lt HOW.out g hg).2); clear hb1 ho1; obtain ⟨A1, c1, rfl⟩ := own_form HO1.out))
    | (refine step_app _ rfl (.tmp 9) (.tmp 17) 32 rfl (b + 1) 57 i0 _ 4 40 Try.underlying32 HI.out HZ.out.1 HZ.out.2.1 HZ.out.2.2 rfl (by decide) (.slice A0 n cp) n (icells r.L) (by simp [Act.eval]) HOA.out _ A1 m c1 (icells (Rc.moved l n)) (by simp [Act.eval]) (by rw [Rc.icells_len, Rc.moved_len, HM.out]) (Rd.own HO1.out) (Rc.icells_cell _) hlen (by omega) (by omega) ?_; intro v2 w2 hown2 hg2 hat2 hnil2; have HO2 := Lib.hid hown2; have HG2 : Hid (World.grownBy w1 w2 (Value.slice A0 n cp).ownBlock) := Lib.hid ⟨hg2.os, hg2.tape, hg2.output, hg2.size, hg2.block⟩; have HA2 := Lib.hid hat2; have hne : some b ≠ (Value.slice A0 n cp).ownBlock := (fun e => by have := (World.ownsRow.lt HOW.out b e.symm).1; omega); have k5 : w2.cell? ⟨b, 5, none⟩ = some (.slice A0 n cp) := (hg2.cell_far ⟨b, 5, none⟩ hb1l hne).trans d5; have kf5 : w2.frozen? ⟨b, 5, none⟩ = false := (hg2.frozen_far ⟨b, 5, none⟩ hb1l hne).trans e5; obtain ⟨A2, c2, rfl⟩ := own_form hown2; clear hown2 hg2 hat2 hnil2))
  all_goals
    try go_simp
    have hfin : Rc.Did w b (.slice A0 n cp) (Rc.put r l) (.slice A2 (n + m) c2) (w2.setCell ⟨b, 5, none⟩ (.slice A2 (n + m) c2)) := by
      have hne : some b ≠ (Value.slice A0 n cp).ownBlock := fun e => by have := (World.ownsRow.lt HOW.out b e.symm).1; omega
      have hk1 : Kp (fun i => i = b ∨ (Value.slice A0 n cp).ownBlock = some i) w w2 := (Kp.of_below (O := fun i => i = b ∨ (Value.slice A0 n cp).ownBlock = some i) HB1.out).grown HG2.out fun g hg => .inr (.inr hg)
      have hrow := (HG2.out.block b hb1l hne).trans HA1.out.row
      have hrow : RowAt w2 b 84 _ := hrow
      refine ⟨⟨hrow.set_ 5 _, ?_⟩, hk1.setCell _ (.inr (.inl rfl)) _, ?_⟩
      · have e : (Rc.put r l).L.length = n + m := by unfold Rc.put; rw [List.length_append, Rc.moved_len, HN.out, HM.out]
        have e2 : icells (Rc.put r l).L = icells r.L ++ icells (Rc.moved l n) := by unfold Rc.put; rw [Rc.icells_append, HN.out]
        rw [e, e2]
        exact owns_keep HO2.out fun g hg => Below.heap_setCell _ _ _ g (by have := (World.ownsRow.lt HO2.out g hg).1; show g ≠ b; omega)
      · intro g hg
        rcases HA2.out with e | e
        · exact .inl (e.symm.trans hg)
        · have := Option.some.inj (e.symm.trans hg)
          rw [← this]
          exact .inr HB1.out.size
    have hfin2 : ∃ v', Rc.Did w b (.slice A0 n cp) (Rc.put r l) v' (w2.setCell ⟨b, 5, none⟩ (.slice A2 (n + m) c2)) := ⟨_, hfin⟩
    have HF := Lib.hid hfin2
    clear hfin hfin2
    try go_wp2_with fail
    ((try simp only [Exit.inBlock, Exit.then]); first | (refine bodyPost_ret (results_none rfl _ _ _) rfl ?_) | (refine bodyPost_end (results_none rfl _ _ _) rfl ?_))
    exact ⟨rfl, HF.out⟩
end Go.Proofs.Ytelbabgkpflckaa
