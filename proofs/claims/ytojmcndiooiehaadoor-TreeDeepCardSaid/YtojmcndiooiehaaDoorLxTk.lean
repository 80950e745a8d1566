/-
  CONTRACTS: chapter 14: the program's token.
-/
import Derived.Test.YtojmcndiooiehaaDoorLxWord
namespace Go.Proofs.YtojmcndiooiehaaDoor
open Go.RowKit
open Me

namespace Lx
/-- The token that stands here, and what is behind it. -/
def tk (c : UInt8) (r : List UInt8) : Option (Tok × List UInt8) := (token c r).map fun p => (p.1, r.drop p.2)
theorem tk_eq (c : UInt8) (r : List UInt8) : tk c r = if c = 40 then some ((3, []), r) else if c = 41 then some ((4, []), r) else if c = 44 then some ((5, []), r) else if c = 34 ∨ c = 39 then qt c r else wd (c :: r) := by
  unfold tk token
  by_cases h1 : c = 40
  · rw [if_pos h1, if_pos h1]; rfl
  rw [if_neg h1, if_neg h1]
  by_cases h2 : c = 41
  · rw [if_pos h2, if_pos h2]; rfl
  rw [if_neg h2, if_neg h2]
  by_cases h3 : c = 44
  · rw [if_pos h3, if_pos h3]; rfl
  rw [if_neg h3, if_neg h3]
  by_cases h4 : c = 34 ∨ c = 39
  · rw [if_pos h4, if_pos h4]
    unfold qt
    by_cases h5 : idx c r < r.length
    · rw [if_pos h5, if_pos h5]; rfl
    · rw [if_neg h5, if_neg h5]; rfl
  rw [if_neg h4, if_neg h4]
  unfold wd
  cases scan (c :: r) 0 with
  | none => rfl
  | some n =>
    cases n with
    | zero => rfl
    | succ n => rfl
theorem TokR.onto {w w1 : World} {b : Nat} {v : Value} {r : List UInt8} {o : Option (Tok × List UInt8)} {e : Ending} {w' : World} (h : TxD w b v r w1) (k : TokR w1 b v o e w') : TokR w b v o e w' := by
  obtain ⟨k1, t, r', ok, he, hd, ho⟩ := k
  exact ⟨k1, t, r', ok, he, h.trans hd, ho⟩
end Lx

set_option maxRecDepth 100000 in
set_option maxHeartbeats 8000000 in
theorem ltoken_any {w : World} {b : Nat} {v : Value} {c : UInt8} {r : List UInt8} (h : Lx.Tx w b v (c :: r)) (hl : r.length ≤ 999999) :
    Calls Tryd.prog 15 #[.pointer (some ⟨b, 0, none⟩)] w (Lx.TokR w b v (Lx.tk c r)) := by
  have hbl := h.lt
  have hb0 : b ≠ w.heap.size := by omega
  obtain ⟨w0, hw0⟩ : ∃ w0, w0 = w.alloc (.cells #[.int .i64 0, .string ⟨#[]⟩] 55) := ⟨_, rfl⟩
  have HD0 : Hid (Lx.TxD w b v (c :: r) w0) := Lib.hid (by rw [hw0]; exact (Lx.TxD.refl h).alloc _)
  have HR0 : Hid (RowAt w0 w.heap.size 55 #[.int .i64 0, .string ⟨#[]⟩]) := Lib.hid (by rw [hw0]; exact RowAt.new w _ _)
  have HTQ := Lib.hid (Lx.tk_eq c r)
  -- a take that fails, and one that does not
  have HNO : Hid (∀ (q : UInt8) (W : World), c ≠ q → Lx.TxD w b v (c :: r) W ∧ RowAt W w.heap.size 55 #[.int .i64 0, .string ⟨#[]⟩] → Calls Tryd.prog 24 #[.pointer (some ⟨b, 0, none⟩), .string ⟨#[q]⟩] W fun e w' => e = .returned (.bool false) ∧ (Lx.TxD w b v (c :: r) w' ∧ RowAt w' w.heap.size 55 #[.int .i64 0, .string ⟨#[]⟩])) := Lib.hid fun q W hq hW => by
    refine (ltakes_any hW.1.row q).mono ?_
    rintro e w' ⟨rfl, hd⟩
    have e1 : Lx.hdIs q (c :: r) = false := by show decide (c = q) = false; exact decide_eq_false hq
    have e2 : Lx.cutH q (c :: r) = c :: r := by unfold Lx.cutH; rw [e1]; rfl
    rw [e2] at hd
    exact ⟨by rw [e1], hW.1.trans hd, hd.beside hW.2 (by omega)⟩
  have HYES : Hid (∀ (q : UInt8) (W : World), c = q → Lx.TxD w b v (c :: r) W ∧ RowAt W w.heap.size 55 #[.int .i64 0, .string ⟨#[]⟩] → Calls Tryd.prog 24 #[.pointer (some ⟨b, 0, none⟩), .string ⟨#[q]⟩] W fun e w' => e = .returned (.bool true) ∧ (Lx.TxD w b v r w' ∧ RowAt w' w.heap.size 55 #[.int .i64 0, .string ⟨#[]⟩])) := Lib.hid fun q W hq hW => by
    refine (ltakes_any hW.1.row q).mono ?_
    rintro e w' ⟨rfl, hd⟩
    have e1 : Lx.hdIs q (c :: r) = true := by show decide (c = q) = true; exact decide_eq_true hq
    have e2 : Lx.cutH q (c :: r) = r := by unfold Lx.cutH; rw [e1]; rfl
    rw [e2] at hd
    exact ⟨by rw [e1], hW.1.trans hd, hd.beside hW.2 (by omega)⟩
  have HQT : Hid (∀ (q : UInt8) (W : World), Lx.TxD w b v r W ∧ RowAt W w.heap.size 55 #[.int .i64 0, .string ⟨#[]⟩] → Calls Tryd.prog 25 #[.pointer (some ⟨b, 0, none⟩), .string ⟨#[q]⟩] W fun e w' => ∃ (k : Int) (t r' : List UInt8) (ok : Bool), e = .returned (.tuple #[.agg #[.int .i64 k, .string ⟨t.toArray⟩], .bool ok]) ∧ (Lx.TxD w b v r' w' ∧ RowAt w' w.heap.size 55 #[.int .i64 0, .string ⟨#[]⟩]) ∧ Lx.qt q r = if ok = true then some ((k, t), r') else none) := Lib.hid fun q W hW => by
    refine (lquoted_any hW.1.row (by omega) q).mono ?_
    rintro e w' ⟨k, t, r', ok, he, hd, ho⟩
    exact ⟨k, t, r', ok, he, ⟨hW.1.trans hd, hd.beside hW.2 (by omega)⟩, ho⟩
  have HWD : Hid (∀ (W : World), Lx.TxD w b v (c :: r) W ∧ RowAt W w.heap.size 55 #[.int .i64 0, .string ⟨#[]⟩] → Calls Tryd.prog 26 #[.pointer (some ⟨b, 0, none⟩)] W fun e w' => ∃ (k : Int) (t r' : List UInt8) (ok : Bool), e = .returned (.tuple #[.agg #[.int .i64 k, .string ⟨t.toArray⟩], .bool ok]) ∧ (Lx.TxD w b v r' w' ∧ RowAt w' w.heap.size 55 #[.int .i64 0, .string ⟨#[]⟩]) ∧ Lx.wd (c :: r) = if ok = true then some ((k, t), r') else none) := Lib.hid fun W hW => by
    refine (lword_any hW.1.row (by simp; omega)).mono ?_
    rintro e w' ⟨k, t, r', ok, he, hd, ho⟩
    exact ⟨k, t, r', ok, he, ⟨hW.1.trans hd, hd.beside hW.2 (by omega)⟩, ho⟩
  have H0 : Hid (Lx.TxD w b v (c :: r) w0 ∧ RowAt w0 w.heap.size 55 #[.int .i64 0, .string ⟨#[]⟩]) := Lib.hid ⟨HD0.out, HR0.out⟩
  have hlt0 := HR0.out.lt
  clear h HD0 HR0
  have hFIN : ∀ (W : World) (k : Int) (t r' : List UInt8) (ok : Bool), Lx.TxD w b v r' W → Lx.tk c r = (if ok = true then some ((k, t), r') else none) → Lx.TokR w b v (Lx.tk c r) (.returned (.tuple #[.agg #[.int .i64 k, .string ⟨t.toArray⟩], .bool ok])) ((W.setCell ⟨w.heap.size, 0, none⟩ (.int .i64 k)).setCell ⟨w.heap.size, 1, none⟩ (.string ⟨t.toArray⟩)) := fun W k t r' ok hd ho => ⟨k, t, r', ok, rfl, (hd.far _ (Nat.le_refl _) (by show b ≠ w.heap.size; omega) _).far _ (Nat.le_refl _) (by show b ≠ w.heap.size; omega) _, ho⟩
  have HFIN := Lib.hid hFIN
  clear hFIN
  generalize Lx.tk c r = o at *
  by_cases hc : c = 40
  · go_enter Tryd.func15, Tryd.ntmps15
    go_wp2_with fail
    rw [← hw0]
    clear hw0
    go_at_call 24
    refine (HYES.out 40 _ hc H0.out).mono ?_
    rintro e wz ⟨rfl, hz⟩
    have Hz := Lib.hid hz
    clear hz
    have x0 : wz.cell? ⟨w.heap.size, 0, none⟩ = some (.int .i64 0) := (Hz.out.2.cell 0).trans rfl; have x1 : wz.cell? ⟨w.heap.size, 1, none⟩ = some (.string ⟨#[]⟩) := (Hz.out.2.cell 1).trans rfl; have y0 := Hz.out.2.frozen 0; have y1 := Hz.out.2.frozen 1
    go_wp2_with fail
    refine bodyPost_ret ((results_cell_tmp rfl _ _ _).trans (by simp [go_sem, *]; rfl)) rfl ?_
    exact HFIN.out wz 3 [] r true Hz.out.1 (by rw [HTQ.out, if_pos hc, if_pos rfl])
  have n40 : c ≠ 40 := hc
  clear hc
  by_cases hc : c = 41
  · go_enter Tryd.func15, Tryd.ntmps15
    go_wp2_with fail
    rw [← hw0]
    clear hw0
    go_at_call 24
    refine (HNO.out 40 _ n40 H0.out).mono ?_
    rintro e w1 ⟨rfl, h1⟩
    have H1 := Lib.hid h1
    clear h1
    go_wp2_with fail
    go_at_call 24
    refine (HYES.out 41 _ hc H1.out).mono ?_
    rintro e wz ⟨rfl, hz⟩
    have Hz := Lib.hid hz
    clear hz
    have x0 : wz.cell? ⟨w.heap.size, 0, none⟩ = some (.int .i64 0) := (Hz.out.2.cell 0).trans rfl; have x1 : wz.cell? ⟨w.heap.size, 1, none⟩ = some (.string ⟨#[]⟩) := (Hz.out.2.cell 1).trans rfl; have y0 := Hz.out.2.frozen 0; have y1 := Hz.out.2.frozen 1
    go_wp2_with fail
    refine bodyPost_ret ((results_cell_tmp rfl _ _ _).trans (by simp [go_sem, *]; rfl)) rfl ?_
    exact HFIN.out wz 4 [] r true Hz.out.1 (by rw [HTQ.out, if_neg n40, if_pos hc, if_pos rfl])
  have n41 : c ≠ 41 := hc
  clear hc
  by_cases hc : c = 44
  · go_enter Tryd.func15, Tryd.ntmps15
    go_wp2_with fail
    rw [← hw0]
    clear hw0
    go_at_call 24
    refine (HNO.out 40 _ n40 H0.out).mono ?_
    rintro e w1 ⟨rfl, h1⟩
    have H1 := Lib.hid h1
    clear h1
    go_wp2_with fail
    go_at_call 24
    refine (HNO.out 41 _ n41 H1.out).mono ?_
    rintro e w2 ⟨rfl, h2⟩
    have H2 := Lib.hid h2
    clear h2
    go_wp2_with fail
    go_at_call 24
    refine (HYES.out 44 _ hc H2.out).mono ?_
    rintro e wz ⟨rfl, hz⟩
    have Hz := Lib.hid hz
    clear hz
    have x0 : wz.cell? ⟨w.heap.size, 0, none⟩ = some (.int .i64 0) := (Hz.out.2.cell 0).trans rfl; have x1 : wz.cell? ⟨w.heap.size, 1, none⟩ = some (.string ⟨#[]⟩) := (Hz.out.2.cell 1).trans rfl; have y0 := Hz.out.2.frozen 0; have y1 := Hz.out.2.frozen 1
    go_wp2_with fail
    refine bodyPost_ret ((results_cell_tmp rfl _ _ _).trans (by simp [go_sem, *]; rfl)) rfl ?_
    exact HFIN.out wz 5 [] r true Hz.out.1 (by rw [HTQ.out, if_neg n40, if_neg n41, if_pos hc, if_pos rfl])
  have n44 : c ≠ 44 := hc
  clear hc
  by_cases hc : c = 34
  · go_enter Tryd.func15, Tryd.ntmps15
    go_wp2_with fail
    rw [← hw0]
    clear hw0
    go_at_call 24
    refine (HNO.out 40 _ n40 H0.out).mono ?_
    rintro e w1 ⟨rfl, h1⟩
    have H1 := Lib.hid h1
    clear h1
    go_wp2_with fail
    go_at_call 24
    refine (HNO.out 41 _ n41 H1.out).mono ?_
    rintro e w2 ⟨rfl, h2⟩
    have H2 := Lib.hid h2
    clear h2
    go_wp2_with fail
    go_at_call 24
    refine (HNO.out 44 _ n44 H2.out).mono ?_
    rintro e w3 ⟨rfl, h3⟩
    have H3 := Lib.hid h3
    clear h3
    go_wp2_with fail
    go_at_call 24
    refine (HYES.out 34 _ hc H3.out).mono ?_
    rintro e wz ⟨rfl, hz⟩
    have Hz := Lib.hid hz
    clear hz
    go_wp2_with fail
    go_at_call 25
    refine (HQT.out 34 _ Hz.out).mono ?_
    rintro e wy ⟨k, t, r2, ok, rfl, hy, ho⟩
    have Hy := Lib.hid hy
    have HO := Lib.hid ho
    clear hy ho
    have x0 : wy.cell? ⟨w.heap.size, 0, none⟩ = some (.int .i64 0) := (Hy.out.2.cell 0).trans rfl; have x1 : wy.cell? ⟨w.heap.size, 1, none⟩ = some (.string ⟨#[]⟩) := (Hy.out.2.cell 1).trans rfl; have y0 := Hy.out.2.frozen 0; have y1 := Hy.out.2.frozen 1
    go_wp2_with fail
    refine bodyPost_ret ((results_cell_tmp rfl _ _ _).trans (by simp [go_sem, *]; rfl)) rfl ?_
    exact HFIN.out wy k t r2 ok Hy.out.1 (by rw [HTQ.out, if_neg n40, if_neg n41, if_neg n44, if_pos (.inl hc), hc]; exact HO.out)
  have n34 : c ≠ 34 := hc
  clear hc
  by_cases hc : c = 39
  · go_enter Tryd.func15, Tryd.ntmps15
    go_wp2_with fail
    rw [← hw0]
    clear hw0
    go_at_call 24
    refine (HNO.out 40 _ n40 H0.out).mono ?_
    rintro e w1 ⟨rfl, h1⟩
    have H1 := Lib.hid h1
    clear h1
    go_wp2_with fail
    go_at_call 24
    refine (HNO.out 41 _ n41 H1.out).mono ?_
    rintro e w2 ⟨rfl, h2⟩
    have H2 := Lib.hid h2
    clear h2
    go_wp2_with fail
    go_at_call 24
    refine (HNO.out 44 _ n44 H2.out).mono ?_
    rintro e w3 ⟨rfl, h3⟩
    have H3 := Lib.hid h3
    clear h3
    go_wp2_with fail
    go_at_call 24
    refine (HNO.out 34 _ n34 H3.out).mono ?_
    rintro e w4 ⟨rfl, h4⟩
    have H4 := Lib.hid h4
    clear h4
    go_wp2_with fail
    go_at_call 24
    refine (HYES.out 39 _ hc H4.out).mono ?_
    rintro e wz ⟨rfl, hz⟩
    have Hz := Lib.hid hz
    clear hz
    go_wp2_with fail
    go_at_call 25
    refine (HQT.out 39 _ Hz.out).mono ?_
    rintro e wy ⟨k, t, r2, ok, rfl, hy, ho⟩
    have Hy := Lib.hid hy
    have HO := Lib.hid ho
    clear hy ho
    have x0 : wy.cell? ⟨w.heap.size, 0, none⟩ = some (.int .i64 0) := (Hy.out.2.cell 0).trans rfl; have x1 : wy.cell? ⟨w.heap.size, 1, none⟩ = some (.string ⟨#[]⟩) := (Hy.out.2.cell 1).trans rfl; have y0 := Hy.out.2.frozen 0; have y1 := Hy.out.2.frozen 1
    go_wp2_with fail
    refine bodyPost_ret ((results_cell_tmp rfl _ _ _).trans (by simp [go_sem, *]; rfl)) rfl ?_
    exact HFIN.out wy k t r2 ok Hy.out.1 (by rw [HTQ.out, if_neg n40, if_neg n41, if_neg n44, if_pos (.inr hc), hc]; exact HO.out)
  have n39 : c ≠ 39 := hc
  clear hc
  go_enter Tryd.func15, Tryd.ntmps15
  go_wp2_with fail
  rw [← hw0]
  clear hw0
  go_at_call 24
  refine (HNO.out 40 _ n40 H0.out).mono ?_
  rintro e w1 ⟨rfl, h1⟩
  have H1 := Lib.hid h1
  clear h1
  go_wp2_with fail
  go_at_call 24
  refine (HNO.out 41 _ n41 H1.out).mono ?_
  rintro e w2 ⟨rfl, h2⟩
  have H2 := Lib.hid h2
  clear h2
  go_wp2_with fail
  go_at_call 24
  refine (HNO.out 44 _ n44 H2.out).mono ?_
  rintro e w3 ⟨rfl, h3⟩
  have H3 := Lib.hid h3
  clear h3
  go_wp2_with fail
  go_at_call 24
  refine (HNO.out 34 _ n34 H3.out).mono ?_
  rintro e w4 ⟨rfl, h4⟩
  have H4 := Lib.hid h4
  clear h4
  go_wp2_with fail
  go_at_call 24
  refine (HNO.out 39 _ n39 H4.out).mono ?_
  rintro e w5 ⟨rfl, h5⟩
  have H5 := Lib.hid h5
  clear h5
  go_wp2_with fail
  go_at_call 26
  refine (HWD.out _ H5.out).mono ?_
  rintro e wy ⟨k, t, r2, ok, rfl, hy, ho⟩
  have Hy := Lib.hid hy
  have HO := Lib.hid ho
  clear hy ho
  have x0 : wy.cell? ⟨w.heap.size, 0, none⟩ = some (.int .i64 0) := (Hy.out.2.cell 0).trans rfl; have x1 : wy.cell? ⟨w.heap.size, 1, none⟩ = some (.string ⟨#[]⟩) := (Hy.out.2.cell 1).trans rfl; have y0 := Hy.out.2.frozen 0; have y1 := Hy.out.2.frozen 1
  go_wp2_with fail
  refine bodyPost_ret ((results_cell_tmp rfl _ _ _).trans (by simp [go_sem, *]; rfl)) rfl ?_
  exact HFIN.out wy k t r2 ok Hy.out.1 (by rw [HTQ.out, if_neg n40, if_neg n41, if_neg n44, if_neg (fun e => e.elim n34 n39)]; exact HO.out)
end Go.Proofs.YtojmcndiooiehaaDoor
