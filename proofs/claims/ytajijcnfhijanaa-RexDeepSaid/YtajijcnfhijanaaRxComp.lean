/-
  CONTRACTS: chapter 11: Compile.
-/
import Derived.Test.YtajijcnfhijanaaRxExp
namespace Go.Proofs.Ytajijcnfhijanaa
open Go.RowKit
open Me

namespace Rx
/-- The whole: instructions and groups, or an error. -/
def comp (s : List UInt8) : Except Int (List In × Nat) :=
  if 4096 < s.length then .error 13 else match expr (s.length + 1) s 0 0 with
    | .error e => .error e
    | .ok (c, r, g) => if r ≠ [] then .error 8 else if 1024 < c.length + 3 then .error 13 else .ok (placed 0 (saved 0 c ++ [⟨7, 0, 0, []⟩]), g)
/-- What Compile leaves. -/
def GaveP (w : World) (res : Except Int (List In × Nat)) (e : Ending) (w' : World) : Prop :=
  Below w.heap.size w w' ∧ ((∃ l g A c, res = .ok (l, g) ∧ e = .returned (.tuple #[.agg #[.int .i64 (g : Nat), .slice A l.length c], .int .i64 0]) ∧ RdC w' w.heap.size (.slice A l.length c) l) ∨
    (∃ er, res = .error er ∧ er ≠ 0 ∧ e = .returned (.tuple #[.agg #[.int .i64 0, .slice none 0 0], .int .i64 er])))
theorem GaveP.no {w w' : World} {er : Int} (hb : Below w.heap.size w w') (h0 : er ≠ 0) : GaveP w (.error er) (.returned (.tuple #[.agg #[.int .i64 0, .slice none 0 0], .int .i64 er])) w' := ⟨hb, .inr ⟨er, rfl, h0, rfl⟩⟩
/-- Compile at work: its result's cell, its parser. -/
structure CoW (w W : World) (r : List UInt8) (g : Nat) : Prop where
  below : Below w.heap.size w W
  res : RowAt W w.heap.size 26 #[.int .i64 0, .slice none 0 0]
  ps : PsAt W (w.heap.size + 1) r g 0
theorem CoW.start (w : World) (s : List UInt8) : CoW w ((w.alloc (.cells #[.int .i64 0, .slice none 0 0] 26)).alloc (.cells #[.string ⟨s.toArray⟩, .int .i64 0, .int .i64 0] 44)) s 0 :=
  ⟨((Below.refl _ _).alloc (Nat.le_refl _) _).alloc (by simp) _, (RowAt.new w _ _).alloc _, by
    have := RowAt.new (w.alloc (.cells #[.int .i64 0, .slice none 0 0] 26)) #[.string ⟨s.toArray⟩, .int .i64 0, .int .i64 0] 44
    simpa [PsAt] using this⟩
theorem CoW.took_ {w W W' : World} {r m : List UInt8} {g g2 : Nat} (h : CoW w W r g) (k : Took W (w.heap.size + 1) m g2 0 W') : CoW w W' m g2 := by
  have := h.res.lt
  exact ⟨h.below.trans (k.kp.below h.below.size fun i hi e => by omega), k.kpRow h.res (by omega), k.at_⟩
theorem CoW.kp_ {w W W' : World} {r : List UInt8} {g : Nat} (h : CoW w W r g) (k : Kp (fun i => i = w.heap.size + 1) W W') : Below w.heap.size w W' ∧ RowAt W' w.heap.size 26 #[.int .i64 0, .slice none 0 0] := by
  have := h.res.lt
  exact ⟨h.below.trans (k.below h.below.size fun i hi e => by omega), (k.block _ h.res.lt (by omega)).trans h.res⟩
theorem CoW.x0 {w W : World} {r : List UInt8} {g : Nat} (h : CoW w W r g) : W.cell? ⟨w.heap.size, 0, none⟩ = some (.int .i64 0) := (h.res.cell 0).trans rfl
theorem CoW.x1 {w W : World} {r : List UInt8} {g : Nat} (h : CoW w W r g) : W.cell? ⟨w.heap.size, 1, none⟩ = some (.slice none 0 0) := (h.res.cell 1).trans rfl
theorem CoW.on {w W W' : World} {r : List UInt8} {g : Nat} (h : CoW w W r g) (k : Below W.heap.size W W') : CoW w W' r g := ⟨h.below.trans (k.mono h.below.size), h.res.below k h.res.lt, h.ps.on k⟩
end Rx

set_option maxRecDepth 100000 in
set_option maxHeartbeats 8000000 in
theorem compile_any (s : List UInt8) (w : World) : Calls Try.prog 10 #[.string ⟨s.toArray⟩] w (Rx.GaveP w (Rx.comp s)) := by
  by_cases h4 : 4096 < s.length
  · have h4I : (4096 : Int) < (s.length : Int) := by omega
    rw [show Rx.comp s = .error 13 by unfold Rx.comp; rw [if_pos h4]]
    clear h4
    go_enter Try.func10, Try.ntmps10
    go_wp2_with fail
    exact bodyPost_ret (v := .tuple #[.agg #[.int .i64 0, .slice none 0 0], .int .i64 13]) (by simp [results, Try.results10, go_sem, *]) rfl (Rx.GaveP.no (by repeat (first | exact Below.refl _ _ | assumption | refine Below.setCell ?_ (by first | (simp; done) | omega | (simp; omega) | (simp at *; omega)) _ | refine Below.alloc ?_ (by first | (simp; done) | omega | (simp; omega) | (simp at *; omega)) _ | refine Below.drew ?_ | (refine Below.trans ?_ (Below.mono (by assumption) (by first | (simp; done) | omega | (simp; omega) | (simp at *; omega)))) | (refine Below.trans ?_ (Below.mono (below_regrown _ _ _) (by first | (simp; done) | omega | (simp; omega) | (simp at *; omega)))))) (by decide))
  have h4I : ¬ (4096 : Int) < (s.length : Int) := by omega
  have HEx := Lib.hid (fun W b (h : Rx.PsAt W b s 0 0) => expr_any (s.length + 1) s 0 0 W b h (Nat.lt_succ_self _) (by omega) (by omega))
  have HC : Hid (Rx.comp s = (match Rx.expr (s.length + 1) s 0 0 with
    | .error e => .error e
    | .ok (c, r, g) => if r ≠ [] then .error 8 else if 1024 < c.length + 3 then .error 13 else .ok (Rx.placed 0 (Rx.saved 0 c ++ [⟨7, 0, 0, []⟩]), g))) := Lib.hid (by unfold Rx.comp; rw [if_neg h4])
  have HLn := Lib.hid (Rx.expr_len (s.length + 1) s 0 0)
  have hs4 : s.length ≤ 4096 := by omega
  rw [HC.out]
  clear h4 HC
  cases hq : Rx.expr (s.length + 1) s 0 0 with
  | error er =>
    have HR := Lib.hid hq
    clear hq
    go_enter Try.func10, Try.ntmps10
    go_wp2_with (go_at_call 12; go_must (refine (HEx.out _ _ (Rx.CoW.start w s).ps).mono ?_; rintro e w1 hq; rw [HR.out] at hq; obtain ⟨h0, rfl, hk⟩ := hq.bad; obtain ⟨hb1, hr1⟩ := (Rx.CoW.start w s).kp_ hk; have c0 := (hr1.cell 0).trans rfl; have c1 := (hr1.cell 1).trans rfl; have f0 := hr1.frozen 0; have f1 := hr1.frozen 1; have HB1 := Lib.hid hb1; have HR1 := Lib.hid hr1; clear hk hq hb1 hr1))
    refine bodyPost_ret (v := .tuple #[.agg #[.int .i64 0, .slice none 0 0], .int .i64 er]) ?_ rfl (Rx.GaveP.no ((HB1.out.setCell (Nat.le_refl _) _).setCell (Nat.le_refl _) _) h0)
    have hR := (HR1.out.set_ 0 (.int .i64 0)).set_ 1 (.slice none 0 0)
    have k0 := (hR.cell 0).trans rfl
    have k1 := (hR.cell 1).trans rfl
    simp [results, Try.results10, go_sem, *]
  | ok y =>
    obtain ⟨c, r, g⟩ := y
    have HR := Lib.hid hq
    have HLc := Lib.hid (HLn.out _ _ _ hq)
    clear hq
    cases r with
    | cons a r =>
      show Calls Try.prog 10 #[.string ⟨s.toArray⟩] w (Rx.GaveP w (.error 8))
      go_enter Try.func10, Try.ntmps10
      go_wp2_with first
        | (go_at_call 12; go_must (refine (HEx.out _ _ (Rx.CoW.start w s).ps).mono ?_; rintro e w1 hq; rw [HR.out] at hq; obtain ⟨v, rfl, hv, ht⟩ := hq.got; have HS1 := Lib.hid ((Rx.CoW.start w s).took_ ht); have HV := Lib.hid hv; have c0 := HS1.out.ps.c0; have c1 := HS1.out.ps.c1; have x0 := HS1.out.x0; have x1 := HS1.out.x1; have y0 := HS1.out.res.frozen 0; have y1 := HS1.out.res.frozen 1; have hb1 := HS1.out.ps.lt; obtain ⟨Av, cv, rfl, _⟩ := hv; clear ht hq))
      refine bodyPost_ret (v := .tuple #[.agg #[.int .i64 0, .slice none 0 0], .int .i64 8]) ?_ rfl (Rx.GaveP.no ((HS1.out.below.setCell (Nat.le_refl _) _).setCell (Nat.le_refl _) _) (by decide))
      have hR := (HS1.out.res.set_ 0 (.int .i64 0)).set_ 1 (.slice none 0 0)
      have k0 := (hR.cell 0).trans rfl
      have k1 := (hR.cell 1).trans rfl
      simp [results, Try.results10, go_sem, *]
    | nil =>
      have HLs : Hid ((Rx.saved 0 c).length = c.length + 2) := Lib.hid (Rx.saved_len 0 c)
      have HSv := Lib.hid (fun (W : World) (v : Value) base (h : Rx.RdC W base v c) => saved_any (w := W) (x := v) (l := c) (base := base) 0 (by omega) h (by have := HLc.out.1; omega))
      show Calls Try.prog 10 #[.string ⟨s.toArray⟩] w (Rx.GaveP w (if 1024 < c.length + 3 then .error 13 else .ok (Rx.placed 0 (Rx.saved 0 c ++ [(⟨7, 0, 0, []⟩ : Rx.In)]), g)))
      generalize Rx.saved 0 c = L at *
      by_cases h10 : 1024 < c.length + 3
      · have h10I : (1024 : Int) < (L.length : Int) + 1 := by have := HLs.out; omega
        rw [if_pos h10]
        have hLs := HLs.out
        have HLb : Hid (L.length + 1 ≤ 1048576) := Lib.hid (by have := HLc.out.1; omega)
        clear h10 hLs
        go_enter Try.func10, Try.ntmps10
        go_wp2_with first
          | (go_at_call 12; go_must (refine (HEx.out _ _ (Rx.CoW.start w s).ps).mono ?_; rintro e w1 hq; rw [HR.out] at hq; obtain ⟨v, rfl, hv, ht⟩ := hq.got; have HS1 := Lib.hid ((Rx.CoW.start w s).took_ ht); have HV := Lib.hid hv; have c0 := HS1.out.ps.c0; have c1 := HS1.out.ps.c1; have x0 := HS1.out.x0; have x1 := HS1.out.x1; have y0 := HS1.out.res.frozen 0; have y1 := HS1.out.res.frozen 1; have hb1 := HS1.out.ps.lt; obtain ⟨Av, cv, rfl, _⟩ := hv; clear ht hq))
          | (go_at_call 14; go_must (refine (HSv.out _ _ _ (HV.out.below ((Below.refl _ _).alloc (Nat.le_refl _) _))).mono ?_; rintro e w2 ⟨v2, rfl, ho2, hb2⟩; have HO2 := Lib.hid ho2.rd; have HX2 := Lib.hid ((Rx.BoxW.start w1).on hb2); have HS2 := Lib.hid ((HS1.out.on ((Below.refl _ _).alloc (Nat.le_refl _) _)).on hb2); clear ho2 hb2))
          | (go_at_call 13; ((with_reducible refine (emit_any HX2.out.at_ HO2.out ?_).mono ?_); (focus (have := HLb.out; simp; omega)); rintro e w3 hq; obtain ⟨rfl, v3, hx3⟩ := HX2.out.emitted hq; have HX3 := Lib.hid hx3; clear hx3 hq))
          | (go_at_call 13; ((with_reducible refine (HX3.out.one ⟨7, 0, 0, []⟩ _ ?_ ?_).mono ?_); (focus (simp; done)); (focus (have := HLb.out; simp; omega)); rintro e w4 ⟨rfl, v4, hx4⟩; have HX4 := Lib.hid hx4; have z4 := hx4.c0; obtain ⟨A4, k4, rfl⟩ := hx4.at_.own.form; have HS4 := Lib.hid (HS1.out.on hx4.below); have p0 := HS4.out.x0; have p1 := HS4.out.x1; have q0 := HS4.out.res.frozen 0; have q1 := HS4.out.res.frozen 1; have pg := HS4.out.ps.c1; clear hx4))
        refine bodyPost_ret (v := .tuple #[.agg #[.int .i64 0, .slice none 0 0], .int .i64 13]) ?_ rfl (Rx.GaveP.no ((HS4.out.below.setCell (Nat.le_refl _) _).setCell (Nat.le_refl _) _) (by decide))
        have hR := (HS4.out.res.set_ 0 (.int .i64 0)).set_ 1 (.slice none 0 0)
        have k0 := (hR.cell 0).trans rfl
        have k1 := (hR.cell 1).trans rfl
        simp [results, Try.results10, go_sem, *]
      · have h10I : ¬ (1024 : Int) < (L.length : Int) + 1 := by have := HLs.out; omega
        rw [if_neg h10]
        have hLs := HLs.out
        have HLb : Hid (L.length + 1 ≤ 1048576) := Lib.hid (by have := HLc.out.1; omega)
        have HPl := Lib.hid (fun (W : World) (v : Value) base (h : Rx.RdC W base v (L ++ [(⟨7, 0, 0, []⟩ : Rx.In)])) => placed_any h (by simp; omega))
        clear h10 hLs
        go_enter Try.func10, Try.ntmps10
        go_wp2_with first
          | (go_at_call 12; go_must (refine (HEx.out _ _ (Rx.CoW.start w s).ps).mono ?_; rintro e w1 hq; rw [HR.out] at hq; obtain ⟨v, rfl, hv, ht⟩ := hq.got; have HS1 := Lib.hid ((Rx.CoW.start w s).took_ ht); have HV := Lib.hid hv; have c0 := HS1.out.ps.c0; have c1 := HS1.out.ps.c1; have x0 := HS1.out.x0; have x1 := HS1.out.x1; have y0 := HS1.out.res.frozen 0; have y1 := HS1.out.res.frozen 1; have hb1 := HS1.out.ps.lt; obtain ⟨Av, cv, rfl, _⟩ := hv; clear ht hq))
          | (go_at_call 14; go_must (refine (HSv.out _ _ _ (HV.out.below ((Below.refl _ _).alloc (Nat.le_refl _) _))).mono ?_; rintro e w2 ⟨v2, rfl, ho2, hb2⟩; have HO2 := Lib.hid ho2.rd; have HX2 := Lib.hid ((Rx.BoxW.start w1).on hb2); have HS2 := Lib.hid ((HS1.out.on ((Below.refl _ _).alloc (Nat.le_refl _) _)).on hb2); clear ho2 hb2))
          | (go_at_call 13; ((with_reducible refine (emit_any HX2.out.at_ HO2.out ?_).mono ?_); (focus (have := HLb.out; simp; omega)); rintro e w3 hq; obtain ⟨rfl, v3, hx3⟩ := HX2.out.emitted hq; have HX3 := Lib.hid hx3; clear hx3 hq))
          | (go_at_call 13; ((with_reducible refine (HX3.out.one ⟨7, 0, 0, []⟩ _ ?_ ?_).mono ?_); (focus (simp; done)); (focus (have := HLb.out; simp; omega)); rintro e w4 ⟨rfl, v4, hx4⟩; have HX4 := Lib.hid hx4; have z4 := hx4.c0; obtain ⟨A4, k4, rfl⟩ := hx4.at_.own.form; have HS4 := Lib.hid (HS1.out.on hx4.below); have p0 := HS4.out.x0; have p1 := HS4.out.x1; have q0 := HS4.out.res.frozen 0; have q1 := HS4.out.res.frozen 1; have pg := HS4.out.ps.c1; clear hx4))
        have HR4 : Hid (Rx.RdC w4 (w1.heap.size + 1) (.slice A4 (L.length + 1) k4) (L ++ [(⟨7, 0, 0, []⟩ : Rx.In)])) := Lib.hid (by have := HX4.out.at_.own.rd; simpa using this)
        have hw41 := HX4.out.below.size
        have hw01 := HS1.out.below.size
        go_region_with (go_at_call 15; go_must (refine (HPl.out w4.drew _ _ HR4.out).mono ?_; rintro e w5 ⟨v5, rfl, ho5, hb5⟩; have HS5 := Lib.hid ((HS4.out.on (Below.refl w4.heap.size w4).drew).on hb5); have HO5 := Lib.hid ho5; obtain ⟨A5, k5, rfl⟩ := ho5.form; have p0 := HS5.out.x0; have p1 := HS5.out.x1; have q0 := HS5.out.res.frozen 0; have q1 := HS5.out.res.frozen 1; have pg := HS5.out.ps.c1; clear ho5 hb5))
        all_goals
          go_wp2_with fail
          have HF : Hid (Rx.GaveP w (.ok (Rx.placed 0 (L ++ [(⟨7, 0, 0, []⟩ : Rx.In)]), g)) (.returned (.tuple #[.agg #[.int .i64 (g : Nat), .slice A5 (Rx.placed 0 (L ++ [(⟨7, 0, 0, []⟩ : Rx.In)])).length k5], .int .i64 0])) ((w5.setCell ⟨w.heap.size, 0, none⟩ (.int .i64 g)).setCell ⟨w.heap.size, 1, none⟩ (.slice A5 (Rx.placed 0 (L ++ [(⟨7, 0, 0, []⟩ : Rx.In)])).length k5))) := Lib.hid
            ⟨(HS5.out.below.setCell (Nat.le_refl _) _).setCell (Nat.le_refl _) _, .inl ⟨_, g, A5, k5, rfl, rfl, ((HO5.out.rd).kp (((Kp.refl (fun i => i = w.heap.size) w5).setCell ⟨w.heap.size, 0, none⟩ (.inr rfl) _).setCell ⟨w.heap.size, 1, none⟩ (.inr rfl) _) fun i hi _ e => by have hi : w4.heap.size ≤ i := hi; have e : i = w.heap.size := e; have := HS4.out.res.lt; omega).base (by show w.heap.size ≤ w4.heap.size; have := HS4.out.res.lt; omega)⟩⟩
          have hR := (HS5.out.res.set_ 0 (.int .i64 g)).set_ 1 (.slice A5 (Rx.placed 0 (L ++ [(⟨7, 0, 0, []⟩ : Rx.In)])).length k5)
          have k0 := (hR.cell 0).trans rfl
          have k1 := (hR.cell 1).trans rfl
          clear hR
          generalize Rx.placed 0 (L ++ [(⟨7, 0, 0, []⟩ : Rx.In)]) = PL at *
          refine bodyPost_ret ?_ rfl HF.out
          simp [results, Try.results10, go_sem, *]
end Go.Proofs.Ytajijcnfhijanaa
