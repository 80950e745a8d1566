/-
  CONTRACTS: chapter 12, the document's Compile: cut, put.
-/
import Derived.Test.YtedppnejkjcplaaRcMv
namespace Go.Proofs.Ytedppnejkjcplaa
open Go.RowKit Go.Sort
open Me
open Pk

namespace Rc
open Rx (In)
theorem icells_drop (l : List In) (k : Nat) : (icells l).drop (k * 4) = icells (l.drop k) := by
  induction k generalizing l with
  | zero => simp
  | succ k ih =>
    cases l with
    | nil => simp [icells]
    | cons x l =>
      have e : icells (x :: l) = icell x ++ icells l := rfl
      rw [e, List.drop_succ_cons, ← ih l, show (k + 1) * 4 = (icell x).length + k * 4 by show _ = 4 + k * 4; omega, List.drop_append]
      simp
theorem icells_take (l : List In) (k : Nat) : (icells l).take (k * 4) = icells (l.take k) := by
  induction k generalizing l with
  | zero => simp [icells]
  | succ k ih =>
    cases l with
    | nil => simp [icells]
    | cons x l =>
      have e : icells (x :: l) = icell x ++ icells l := rfl
      have e2 : icells ((x :: l).take (k + 1)) = icell x ++ icells (l.take k) := rfl
      rw [e, e2, ← ih l, show (k + 1) * 4 = (icell x).length + k * 4 by show _ = 4 + k * 4; omega, List.take_append, List.take_of_length_le (by omega)]
      simp
/-- The rest of a row, as the slice operation tells it. -/
theorem rd_rest {w : World} {G : Nat → Prop} {g : Nat} {l : List In} (h : Rd w G (some ⟨g, 0, none⟩) (icells l)) {fr cp : Nat} (hc : l.length ≤ cp) (hf : fr ≤ l.length) : Rd w G (if cp = fr then some ⟨g, 0, none⟩ else some ⟨g, fr * 4, none⟩) (icells (l.drop fr)) := by
  by_cases e : l.length = fr
  · have : l.drop fr = [] := List.drop_eq_nil_of_le (by omega)
    rw [this]
    exact Rd.none_ _ _ _
  · rw [if_neg (by omega)]
    have := h.sub (fr * 4) (icells l).length
    rw [icells_drop, List.take_of_length_le (by rw [icells_len, icells_len, List.length_drop]; omega)] at this
    rwa [Addr.add_lit, Nat.zero_add] at this
theorem rd_front {w : World} {G : Nat → Prop} {g : Nat} {l : List In} (h : Rd w G (some ⟨g, 0, none⟩) (icells l)) (fr : Nat) : Rd w G (some ⟨g, 0, none⟩) (icells (l.take fr)) := by
  have := h.sub 0 (fr * 4)
  rw [List.drop_zero, icells_take] at this
  rwa [Addr.add_lit] at this
theorem icells_cell (l : List In) : ∀ u ∈ icells l, u.oneCell' = true := by
  intro u hu
  obtain ⟨x, _, hx⟩ := List.mem_flatMap.1 hu
  unfold icell at hx
  simp at hx
  rcases hx with rfl | rfl | rfl | rfl <;> rfl
end Rc

set_option maxRecDepth 100000 in
set_option maxHeartbeats 4000000 in
theorem cut_any {w : World} {b : Nat} {v : Value} {r : Rc.Rr} (h : Rc.At w b v r) (hL : r.L.length ≤ 1000000) {fr : Nat} (h0 : 0 < r.L.length) (hf : fr ≤ r.L.length) :
    Calls Try.prog 57 #[.pointer (some ⟨b, 0, none⟩), .int .i64 (fr : Int)] w fun e w' => ∃ v' A c, e = .returned (.slice A (r.L.length - fr) c) ∧ Rc.Did w b v { r with L := r.L.take fr } v' w' ∧ Rc.Side w' b v' A (icells (Rc.moved (r.L.drop fr) (-(fr : Int)))) := by
  obtain ⟨i0, hi0, hz0, hz1, hz2⟩ := info_parts Rc.inst_info
  have HI := Lib.hid hi0
  have HZ := Lib.hid (And.intro hz0 (And.intro hz1 hz2))
  clear hi0 hz0 hz1 hz2
  obtain ⟨g, cp, rfl, hg1, hg2⟩ := own_some h.own h0
  have hbl := h.lt
  have c5 := h.c5
  have f5 := h.fz 5
  have HAT := Lib.hid h
  have hcap : r.L.length ≤ cp ∧ cp ≤ maxLen := by
    rcases h.own.2 with ⟨e, _⟩ | ⟨g', cap, cur, e, _, _, h3, h4, _⟩
    · cases e
    · cases e; exact ⟨h3, h4⟩
  obtain ⟨hc1, hc2⟩ := hcap
  have hrd : Rd w (fun i => i = g) (some ⟨g, 0, none⟩) (icells r.L) := (Rd.own h.own).mono fun i _ hi => (Option.some.inj (show some g = some i from hi)).symm
  have HFR := Lib.hid (Rc.rd_front hrd fr)
  have HM0 := Lib.hid (moved_any (Rc.rd_rest hrd hc1 hf) (cp := cp - fr) (by rw [List.length_drop]; omega) (-(fr : Int)))
  rw [List.length_drop] at HM0
  obtain ⟨AX, hAX⟩ : ∃ A : Option Addr, (if cp = fr then some ⟨g, 0, none⟩ else some ⟨g, fr * 4, none⟩) = A := ⟨_, rfl⟩
  rw [hAX] at HM0
  obtain ⟨n, hn⟩ : ∃ n, n = r.L.length := ⟨_, rfl⟩
  have HN := Lib.hid hn
  rw [← hn] at c5 hL hf h0 hc1 HM0 ⊢
  have hfI : (fr : Int) ≤ (n : Int) := by omega
  have hf0 : (0 : Int) ≤ (fr : Int) := by omega
  clear h hn hrd
  go_enter Try.func57, Try.ntmps57
  go_wp2_with first
    | (go_at_call 64; go_must (refine HM0.out.mono ?_; rintro e w1 ⟨v1, rfl, hb1, ho1⟩; have HB1 := Lib.hid hb1; have HO1 := Lib.hid ho1; have HA1 := Lib.hid (HAT.out.below hb1); have d5 := HA1.out.c5; have e5 := HA1.out.fz 5; have hb1l := HA1.out.lt; have hs1 := hb1.size; have HRE : Hid (Rd (w1.alloc (.cells #[] 61)) (fun i => i = g) (some ⟨g, 0, none⟩) (icells (r.L.take fr))) := Lib.hid ((HFR.out.below hb1).below ((Below.refl _ _).alloc (Nat.le_refl _) _)); have HOE : Hid ((w1.alloc (.cells #[] 61)).ownsRow (b + 1) 61 4 (.slice (some ⟨w1.heap.size, 0, none⟩) 0 0) 0 []) := Lib.hid ⟨by simp, .inr ⟨w1.heap.size, 0, #[], rfl, by omega, Pk.hnew2 rfl, Nat.le_refl _, Nat.zero_le _, rfl, rfl⟩⟩; clear hb1 ho1; obtain ⟨A1, c1, rfl⟩ := own_form HO1.out))
    | (at_builtin; go_must (refine wpList_app _ rfl (.tmp 17) (.tmp 24) 32 rfl (b + 1) 61 i0 _ 4 40 Try.underlying32 HI.out HZ.out.1 HZ.out.2.1 HZ.out.2.2 rfl (by decide) (.slice (some ⟨w1.heap.size, 0, none⟩) 0 0) 0 [] (by simp [Act.eval]) HOE.out (fun i => i = g) (some ⟨g, 0, none⟩) fr cp (icells (r.L.take fr)) (by simp [Act.eval]) (by rw [Rc.icells_len, List.length_take]; have := HN.out; omega) HRE.out (Rc.icells_cell _) (by unfold maxLen; omega) (by omega) (by simp; omega) ?_; intro v2 w2 hown2 hg2 hat2 hnil2; rw [Nat.zero_add, List.nil_append] at hown2; have HO2 := Lib.hid hown2; have HG2 := Lib.hid hg2; have HA2 := Lib.hid hat2; have k5 : w2.cell? ⟨b, 5, none⟩ = some (.slice (some ⟨g, 0, none⟩) n cp) := (hg2.cell_far ⟨b, 5, none⟩ (by show b < _; simp; omega) (fun e => by have e : some b = some w1.heap.size := e; have := Option.some.inj e; omega)).trans ((World.cell?_alloc_lt _ _ _ hb1l).trans (by have := HN.out; subst this; exact d5)); have kf5 : w2.frozen? ⟨b, 5, none⟩ = false := (hg2.frozen_far ⟨b, 5, none⟩ (by show b < _; simp; omega) (fun e => by have e : some b = some w1.heap.size := e; have := Option.some.inj e; omega)).trans ((World.frozen?_of_block (Below.heap_alloc _ _ b hb1l)).trans e5); obtain ⟨A2, c2, rfl⟩ := own_form hown2; clear hown2 hg2 hat2 hnil2))
  go_ret
  have hw2 : Below w1.heap.size w1 w2 := ((Below.refl _ _).alloc (Nat.le_refl _) (.cells #[] 61)).trans ⟨HG2.out.os, HG2.out.tape, HG2.out.output, HG2.out.size, fun i hi => HG2.out.block i (by simp; omega) (fun e => by have e : some i = some w1.heap.size := e; have := Option.some.inj e; omega)⟩
  have ht : ({ r with L := r.L.take fr } : Rc.Rr).L.length = fr := by show (r.L.take fr).length = fr; rw [List.length_take]; have := HN.out; omega
  have hnew : ∀ i, (Value.slice A2 fr c2).ownBlock = some i → w1.heap.size ≤ i := fun i hi => by
    rcases HA2.out with e | e
    · have e : some w1.heap.size = some i := e.symm.trans hi
      have := Option.some.inj e; omega
    · have := Option.some.inj (e.symm.trans hi)
      rw [← this]; simp
  have hbs := HAT.out.lt
  refine ⟨.slice A2 fr c2, A1, c1, rfl, ⟨⟨?_, ?_⟩, ?_, ?_⟩, ?_⟩
  · have hrow : RowAt w2 b 88 _ := HA1.out.row.below hw2 hb1l
    exact hrow.set_ 5 _
  · rw [ht]
    exact owns_keep HO2.out fun i hi => Below.heap_setCell _ _ _ i (by have := (World.ownsRow.lt HO2.out i hi).1; show i ≠ b; omega)
  · exact (((Kp.of_below (O := fun _ => False) HB1.out).trans (Kp.of_below (O := fun _ => False) hw2) fun _ _ e => e).mono fun _ _ e => e.elim).setCell _ (.inr (.inl rfl)) _
  · intro i hi
    exact .inr (Nat.le_trans HB1.out.size (hnew i hi))
  · intro hne
    obtain ⟨ad, e, hl, hge, hc⟩ := (Rd.own HO1.out) hne
    have h1 := World.ownsRow.lt HO1.out _ hge
    have hwk : (w2.setCell ⟨b, 5, none⟩ (.slice A2 fr c2)).heap[ad.block]? = w1.heap[ad.block]? := (Below.heap_setCell _ _ _ _ (by show ad.block ≠ b; omega)).trans (hw2.block _ h1.2)
    refine ⟨ad, e, by have := hw2.size; simp [World.setCell]; omega, ⟨by omega, fun e2 => by have := hnew _ e2; omega⟩, fun j u hu => ?_⟩
    exact (World.cell?_of_block (by rw [Me.block_add]; exact hwk)).trans (hc j u hu)
end Go.Proofs.Ytedppnejkjcplaa
