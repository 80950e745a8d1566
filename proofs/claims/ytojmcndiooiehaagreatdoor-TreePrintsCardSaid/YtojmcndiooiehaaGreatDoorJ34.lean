/-
  TeRe: CONTRACTS: chapter 15: the document's expr: all but a call.
-/
import Derived.Test.YtojmcndiooiehaaGreatDoorJ33
import Derived.Test.YtojmcndiooiehaaGreatDoorJ11

set_option linter.unusedSimpArgs false
set_option linter.unusedVariables false
namespace Go.Proofs.YtojmcndiooiehaaGreatDoor
open Go.RowKit Go.Sort
open Me

namespace Te
/-- What the document's expression leaves. -/
def RexR (w : World) (b : Nat) (L : List Tok) (res : Res) (e : Ending) (w' : World) : Prop :=
  ∃ (k : Int) (s : List UInt8) (n : Int) (ks : List Nd) (v : Value), e = .returned (.agg #[.int .i64 k, .string ⟨s.toArray⟩, .int .i64 n, v]) ∧ Kp (fun i => i = b) w w' ∧
    ((∃ j, Rs w' b L j 0 ∧ res = .ok (.mk k s n ks, L.drop j) ∧ At w' (fun i => w.heap.size ≤ i) (.mk k s n ks) v) ∨ (∃ j er, er ≠ 0 ∧ Rs w' b L j er ∧ res = .error er ∧ k = 0 ∧ s = [] ∧ n = 0 ∧ ks = [] ∧ v = .slice none 0 0))
def RexC (c : Int) (d : Nat) : Prop := ∀ (L : List Tok) (i b : Nat) (w : World), Small L → Rs w b L i 0 → Calls Tryz.prog 22 #[.pointer (some ⟨b, 0, none⟩), .int .i64 c] w (RexR w b L (expr d (L.drop i)))
theorem hd_at {k : Int} {L : List Tok} {i : Nat} (h : hd k (L.drop i) = true) : ∃ hi : i < L.length, L[i].1 = k ∧ L.drop i = L[i] :: L.drop (i + 1) := by
  have hi : i < L.length := by
    rcases Nat.lt_or_ge i L.length with h1 | h1
    · exact h1
    · rw [List.drop_eq_nil_of_le h1] at h; cases h
  have e := List.drop_eq_getElem_cons hi
  rw [e] at h
  exact ⟨hi, of_decide_eq_true h, e⟩
theorem hd_none {k : Int} (hk : k ≠ 0) {l : List Tok} (h : hd k l = false) : (hdT l).1 ≠ k := by
  rw [hd_hdT hk] at h
  exact of_decide_eq_false h
end Te

set_option maxRecDepth 100000 in
set_option maxHeartbeats 8000000 in
theorem rexpr_zero : Te.RexC 64 0 := by
  intro L i b w hl h
  have hbl := h.lt
  have hb0 : b ≠ w.heap.size := by omega
  obtain ⟨w0, hw0⟩ : ∃ w0, w0 = w.alloc (.cells #[.int .i64 0, .string ⟨#[]⟩, .int .i64 0, .slice none 0 0] 24) := ⟨_, rfl⟩
  have HB0 : Hid (Below w.heap.size w w0) := Lib.hid (by rw [hw0]; exact (Below.refl _ _).alloc (Nat.le_refl _) _)
  have HO0 : Hid (RowAt w0 w.heap.size 24 #[.int .i64 0, .string ⟨#[]⟩, .int .i64 0, .slice none 0 0]) := Lib.hid (by rw [hw0]; exact RowAt.new w _ _)
  have HBD := Lib.hid (rbad_any (h.on HB0.out) 12)
  have HQ : Hid (Te.expr 0 (L.drop i) = .error 12) := Lib.hid (Te.expr_deep _)
  generalize Te.expr 0 (L.drop i) = res at *
  clear h hl
  go_enter Tryz.func22, Tryz.ntmps22
  go_wp2_with fail
  rw [← hw0]
  clear hw0
  go_at_call 23
  refine HBD.out.mono ?_
  rintro e w1 ⟨rfl, hd1⟩
  have HD := Lib.hid hd1
  have ho1 := Te.beside HO0.out hd1.kp (by omega)
  have p0 : w1.cell? ⟨w.heap.size, 0, none⟩ = some (.int .i64 0) := (ho1.cell 0).trans rfl; have q0 : w1.frozen? ⟨w.heap.size, 0, none⟩ = false := ho1.frozen 0; have p1 : w1.cell? ⟨w.heap.size, 1, none⟩ = some (.string ⟨#[]⟩) := (ho1.cell 1).trans rfl; have q1 : w1.frozen? ⟨w.heap.size, 1, none⟩ = false := ho1.frozen 1; have p2 : w1.cell? ⟨w.heap.size, 2, none⟩ = some (.int .i64 0) := (ho1.cell 2).trans rfl; have q2 : w1.frozen? ⟨w.heap.size, 2, none⟩ = false := ho1.frozen 2; have p3 : w1.cell? ⟨w.heap.size, 3, none⟩ = some (.slice none 0 0) := (ho1.cell 3).trans rfl; have q3 : w1.frozen? ⟨w.heap.size, 3, none⟩ = false := ho1.frozen 3
  have l1 := ho1.lt
  have HK1 : Hid (Kp (fun i => i = b) w w1) := Lib.hid ((Kp.of_below HB0.out).trans hd1.kp fun _ _ e => e)
  clear hd1 ho1
  go_wp2_with fail
  refine bodyPost_ret ((Te.results_c1 rfl _ _ _).trans (by simp [go_sem, *]; rfl)) rfl ?_
  exact ⟨0, [], 0, [], .slice none 0 0, rfl, (((HK1.out.setCell _ (.inl (Nat.le_refl _)) _).setCell _ (.inl (Nat.le_refl _)) _).setCell _ (.inl (Nat.le_refl _)) _).setCell _ (.inl (Nat.le_refl _)) _, .inr ⟨i, 12, by decide, HD.out.rs.far (((((Below.refl _ _).setCell (by show b + 1 ≤ w.heap.size; omega) _).setCell (by show b + 1 ≤ w.heap.size; omega) _).setCell (by show b + 1 ≤ w.heap.size; omega) _ |>.setCell (by show b + 1 ≤ w.heap.size; omega) _)), HQ.out, rfl, rfl, rfl, rfl, rfl⟩⟩

set_option maxRecDepth 100000 in
set_option maxHeartbeats 8000000 in
theorem rexpr_str {c : Int} {d : Nat} (c0 : 0 ≤ c) (c1 : c ≤ 63) (L : List Te.Tok) (i b : Nat) (w : World) (hl : Te.Small L) (h : Te.Rs w b L i 0) (h2 : Te.hd 2 (L.drop i) = true) :
    Calls Tryz.prog 22 #[.pointer (some ⟨b, 0, none⟩), .int .i64 c] w (Te.RexR w b L (Te.expr (d + 1) (L.drop i))) := by
  have hbl := h.lt
  have hb0 : b ≠ w.heap.size := by omega
  have hc64 : ¬ (64 : Int) ≤ c := by omega
  have hc65 : c < 64 := by omega
  have hil := h.1
  have hLl := hl.1
  have h00 : (0 : Int) ≤ (i : Int) := by omega
  have kk : IntKind.i64.wrap ((i : Int) + 1) = (i : Int) + 1 := IntWalk.i64_in _ (by omega)
  obtain ⟨w0, hw0⟩ : ∃ w0, w0 = w.alloc (.cells #[.int .i64 0, .string ⟨#[]⟩, .int .i64 0, .slice none 0 0] 24) := ⟨_, rfl⟩
  have HB0 : Hid (Below w.heap.size w w0) := Lib.hid (by rw [hw0]; exact (Below.refl _ _).alloc (Nat.le_refl _) _)
  have HO0 : Hid (RowAt w0 w.heap.size 24 #[.int .i64 0, .string ⟨#[]⟩, .int .i64 0, .slice none 0 0]) := Lib.hid (by rw [hw0]; exact RowAt.new w _ _)
  have HR0 : Hid (Te.Rs w0 b L i 0) := Lib.hid (h.on HB0.out)
  have HN2 : Hid (∀ W, Te.Rs W b L i 0 → Calls Tryz.prog 34 #[.pointer (some ⟨b, 0, none⟩), .int .i64 2] W fun e w' => e = .returned (.bool (Te.hd 2 (L.drop i))) ∧ Below W.heap.size W w') := Lib.hid fun W h => rnext_any h hLl 2
  have HSM := Lib.hid hl
  clear h hl
  obtain ⟨hlt, hki, hdr⟩ := Te.hd_at h2
  rw [h2] at HN2
  have HQ : Hid (Te.expr (d + 1) (L.drop i) = .ok (.mk 4 L[i].2 0 [], L.drop (i + 1))) := Lib.hid (by
    rw [hdr]
    generalize L[i] = x at *
    obtain ⟨k, s⟩ := x
    obtain rfl : k = 2 := hki
    exact Te.expr_str d s _)
  generalize Te.expr (d + 1) (L.drop i) = res at *
  clear h2 hdr
  go_enter Tryz.func22, Tryz.ntmps22
  go_wp2_with fail
  rw [← hw0]
  clear hw0
  go_at_call 34
  refine (HN2.out _ HR0.out).mono ?_
  rintro e w1 ⟨rfl, hb1⟩
  have HR1 := Lib.hid (HR0.out.on hb1)
  have HO1 := Lib.hid (HO0.out.below hb1 HO0.out.lt)
  have HK1 : Hid (Kp (fun i => i = b) w w1) := Lib.hid (Kp.of_below (HB0.out.trans (hb1.mono HB0.out.size)))
  have hz1 : w.heap.size < w1.heap.size := HO1.out.lt
  clear hb1
  obtain ⟨A, cp, hrow, hrd⟩ := HR1.out.2
  obtain ⟨b1, o1, rfl, hb1, t0, t1⟩ := Lx.rd_tok hrd hlt
  have r0 : w1.cell? ⟨b, 0, none⟩ = some (.slice (some ⟨b1, o1, none⟩) L.length cp) := (hrow.cell 0).trans rfl
  have r1 : w1.cell? ⟨b, 1, none⟩ = some (.int .i64 (i : Int)) := (hrow.cell 1).trans rfl
  have rf1 : w1.frozen? ⟨b, 1, none⟩ = false := hrow.frozen 1
  have hI : (i : Int) < (L.length : Int) := by omega
  rw [hki] at t0
  have hb1l : b1 < w.heap.size := by
    obtain ⟨ad, ead, _, hg, _⟩ := hrd (by intro e; have := Lx.cellsT_len L; rw [e] at this; simp at this; omega)
    have hg : ad.block < b := hg
    injection ead with ead
    rw [← ead] at hg
    have hg : b1 < b := hg
    omega
  clear hrow hrd
  generalize L[i].2 = tt at *
  clear hki
  have HL := Lib.hid hlt
  have p0 : w1.cell? ⟨w.heap.size, 0, none⟩ = some (.int .i64 0) := (HO1.out.cell 0).trans rfl; have q0 : w1.frozen? ⟨w.heap.size, 0, none⟩ = false := HO1.out.frozen 0; have p1 : w1.cell? ⟨w.heap.size, 1, none⟩ = some (.string ⟨#[]⟩) := (HO1.out.cell 1).trans rfl; have q1 : w1.frozen? ⟨w.heap.size, 1, none⟩ = false := HO1.out.frozen 1; have p2 : w1.cell? ⟨w.heap.size, 2, none⟩ = some (.int .i64 0) := (HO1.out.cell 2).trans rfl; have q2 : w1.frozen? ⟨w.heap.size, 2, none⟩ = false := HO1.out.frozen 2; have p3 : w1.cell? ⟨w.heap.size, 3, none⟩ = some (.slice none 0 0) := (HO1.out.cell 3).trans rfl; have q3 : w1.frozen? ⟨w.heap.size, 3, none⟩ = false := HO1.out.frozen 3
  have rl1 := HR1.out.lt
  have rn1 : b ≠ w1.heap.size := by omega
  have rn2 : b1 ≠ w1.heap.size := by omega
  go_wp2_with fail
  go_region
  all_goals
    go_wp2_with fail
    refine bodyPost_ret ((Te.results_c1 rfl _ _ _).trans (by simp [go_sem, *]; rfl)) rfl ?_
    exact ⟨4, tt, 0, [], .slice none 0 0, rfl, (((((((HK1.out.setCell ⟨b, 1, none⟩ (.inr rfl) _).setCell _ (.inl (Nat.le_refl _)) _).setCell _ (.inl (Nat.le_refl _)) _).setCell _ (.inl (Nat.le_refl _)) _).setCell _ (.inl (Nat.le_refl _)) _).alloc _).drew), .inl ⟨i + 1, (HR1.out.setI (i + 1) HL.out _ (by omega)).far (((((((Below.refl _ _).setCell (by show b + 1 ≤ w.heap.size; omega) _).setCell (by show b + 1 ≤ w.heap.size; omega) _).setCell (by show b + 1 ≤ w.heap.size; omega) _ |>.setCell (by show b + 1 ≤ w.heap.size; omega) _).alloc (by simp; omega) _).drew)), HQ.out, Te.At.zero _ _ _ _ _⟩⟩

set_option maxRecDepth 100000 in
set_option maxHeartbeats 8000000 in
theorem rexpr_bad {c : Int} {d : Nat} (c0 : 0 ≤ c) (c1 : c ≤ 63) (L : List Te.Tok) (i b : Nat) (w : World) (hl : Te.Small L) (h : Te.Rs w b L i 0) (h2 : Te.hd 2 (L.drop i) = false) (h1 : Te.hd 1 (L.drop i) = false) :
    Calls Tryz.prog 22 #[.pointer (some ⟨b, 0, none⟩), .int .i64 c] w (Te.RexR w b L (Te.expr (d + 1) (L.drop i))) := by
  have hbl := h.lt
  have hb0 : b ≠ w.heap.size := by omega
  have hc64 : ¬ (64 : Int) ≤ c := by omega
  have hc65 : c < 64 := by omega
  have hil := h.1
  have hLl := hl.1
  have h00 : (0 : Int) ≤ (i : Int) := by omega
  have kk : IntKind.i64.wrap ((i : Int) + 1) = (i : Int) + 1 := IntWalk.i64_in _ (by omega)
  obtain ⟨w0, hw0⟩ : ∃ w0, w0 = w.alloc (.cells #[.int .i64 0, .string ⟨#[]⟩, .int .i64 0, .slice none 0 0] 24) := ⟨_, rfl⟩
  have HB0 : Hid (Below w.heap.size w w0) := Lib.hid (by rw [hw0]; exact (Below.refl _ _).alloc (Nat.le_refl _) _)
  have HO0 : Hid (RowAt w0 w.heap.size 24 #[.int .i64 0, .string ⟨#[]⟩, .int .i64 0, .slice none 0 0]) := Lib.hid (by rw [hw0]; exact RowAt.new w _ _)
  have HR0 : Hid (Te.Rs w0 b L i 0) := Lib.hid (h.on HB0.out)
  have HN2 : Hid (∀ W, Te.Rs W b L i 0 → Calls Tryz.prog 34 #[.pointer (some ⟨b, 0, none⟩), .int .i64 2] W fun e w' => e = .returned (.bool (Te.hd 2 (L.drop i))) ∧ Below W.heap.size W w') := Lib.hid fun W h => rnext_any h hLl 2
  have HSM := Lib.hid hl
  clear h hl
  have HN1 : Hid (∀ W, Te.Rs W b L i 0 → Calls Tryz.prog 34 #[.pointer (some ⟨b, 0, none⟩), .int .i64 1] W fun e w' => e = .returned (.bool (Te.hd 1 (L.drop i))) ∧ Below W.heap.size W w') := Lib.hid fun W h => rnext_any h hLl 1
  have HQ : Hid (Te.expr (d + 1) (L.drop i) = .error 8) := Lib.hid (Te.expr_other (Te.hd_none (by decide) h2) (Te.hd_none (by decide) h1))
  rw [h2] at HN2
  rw [h1] at HN1
  generalize Te.expr (d + 1) (L.drop i) = res at *
  clear h2 h1
  go_enter Tryz.func22, Tryz.ntmps22
  go_wp2_with fail
  rw [← hw0]
  clear hw0
  go_at_call 34
  refine (HN2.out _ HR0.out).mono ?_
  rintro e w1 ⟨rfl, hb1⟩
  have HR1 := Lib.hid (HR0.out.on hb1)
  have HO1 := Lib.hid (HO0.out.below hb1 HO0.out.lt)
  have HK1 : Hid (Kp (fun i => i = b) w w1) := Lib.hid (Kp.of_below (HB0.out.trans (hb1.mono HB0.out.size)))
  have hz1 : w.heap.size < w1.heap.size := HO1.out.lt
  clear hb1
  go_wp2_with fail
  go_at_call 34
  refine (HN1.out _ HR1.out).mono ?_
  rintro e w2 ⟨rfl, hb2⟩
  have HR2 := Lib.hid (HR1.out.on hb2)
  have HO2 := Lib.hid (HO1.out.below hb2 HO1.out.lt)
  have HK2 : Hid (Kp (fun i => i = b) w w2) := Lib.hid (HK1.out.trans (Kp.of_below (O := fun _ => False) hb2) fun _ _ e => e.elim)
  have hz2 : w.heap.size < w2.heap.size := HO2.out.lt
  clear hb2
  have HBD := Lib.hid (rbad_any HR2.out 8)
  go_wp2_with fail
  go_at_call 23
  refine HBD.out.mono ?_
  rintro e w3 ⟨rfl, hd3⟩
  have HD := Lib.hid hd3
  have ho3 := Te.beside HO2.out hd3.kp (by omega)
  have p0 : w3.cell? ⟨w.heap.size, 0, none⟩ = some (.int .i64 0) := (ho3.cell 0).trans rfl; have q0 : w3.frozen? ⟨w.heap.size, 0, none⟩ = false := ho3.frozen 0; have p1 : w3.cell? ⟨w.heap.size, 1, none⟩ = some (.string ⟨#[]⟩) := (ho3.cell 1).trans rfl; have q1 : w3.frozen? ⟨w.heap.size, 1, none⟩ = false := ho3.frozen 1; have p2 : w3.cell? ⟨w.heap.size, 2, none⟩ = some (.int .i64 0) := (ho3.cell 2).trans rfl; have q2 : w3.frozen? ⟨w.heap.size, 2, none⟩ = false := ho3.frozen 2; have p3 : w3.cell? ⟨w.heap.size, 3, none⟩ = some (.slice none 0 0) := (ho3.cell 3).trans rfl; have q3 : w3.frozen? ⟨w.heap.size, 3, none⟩ = false := ho3.frozen 3
  have l3 := ho3.lt
  have HK3 : Hid (Kp (fun i => i = b) w w3) := Lib.hid (HK2.out.trans hd3.kp fun _ _ e => e)
  clear hd3 ho3
  go_wp2_with fail
  refine bodyPost_ret ((Te.results_c1 rfl _ _ _).trans (by simp [go_sem, *]; rfl)) rfl ?_
  exact ⟨0, [], 0, [], .slice none 0 0, rfl, (((HK3.out.setCell _ (.inl (Nat.le_refl _)) _).setCell _ (.inl (Nat.le_refl _)) _).setCell _ (.inl (Nat.le_refl _)) _).setCell _ (.inl (Nat.le_refl _)) _, .inr ⟨i, 8, by decide, HD.out.rs.far (((((Below.refl _ _).setCell (by show b + 1 ≤ w.heap.size; omega) _).setCell (by show b + 1 ≤ w.heap.size; omega) _).setCell (by show b + 1 ≤ w.heap.size; omega) _ |>.setCell (by show b + 1 ≤ w.heap.size; omega) _)), HQ.out, rfl, rfl, rfl, rfl, rfl⟩⟩

set_option maxRecDepth 100000 in
set_option maxHeartbeats 8000000 in
theorem rexpr_w1 {c : Int} {d : Nat} (c0 : 0 ≤ c) (c1 : c ≤ 63) (L : List Te.Tok) (i b : Nat) (w : World) (hl : Te.Small L) (h : Te.Rs w b L i 0) (h2 : Te.hd 2 (L.drop i) = false) (h1 : Te.hd 1 (L.drop i) = true) (h3 : Te.hd 3 (L.drop (i + 1)) = false) {nd : Te.Nd} (hw : ∀ hi : i < L.length, Te.word L[i].2 = some nd) :
    Calls Tryz.prog 22 #[.pointer (some ⟨b, 0, none⟩), .int .i64 c] w (Te.RexR w b L (Te.expr (d + 1) (L.drop i))) := by
  have hbl := h.lt
  have hb0 : b ≠ w.heap.size := by omega
  have hc64 : ¬ (64 : Int) ≤ c := by omega
  have hc65 : c < 64 := by omega
  have hil := h.1
  have hLl := hl.1
  have h00 : (0 : Int) ≤ (i : Int) := by omega
  have kk : IntKind.i64.wrap ((i : Int) + 1) = (i : Int) + 1 := IntWalk.i64_in _ (by omega)
  obtain ⟨w0, hw0⟩ : ∃ w0, w0 = w.alloc (.cells #[.int .i64 0, .string ⟨#[]⟩, .int .i64 0, .slice none 0 0] 24) := ⟨_, rfl⟩
  have HB0 : Hid (Below w.heap.size w w0) := Lib.hid (by rw [hw0]; exact (Below.refl _ _).alloc (Nat.le_refl _) _)
  have HO0 : Hid (RowAt w0 w.heap.size 24 #[.int .i64 0, .string ⟨#[]⟩, .int .i64 0, .slice none 0 0]) := Lib.hid (by rw [hw0]; exact RowAt.new w _ _)
  have HR0 : Hid (Te.Rs w0 b L i 0) := Lib.hid (h.on HB0.out)
  have HN2 : Hid (∀ W, Te.Rs W b L i 0 → Calls Tryz.prog 34 #[.pointer (some ⟨b, 0, none⟩), .int .i64 2] W fun e w' => e = .returned (.bool (Te.hd 2 (L.drop i))) ∧ Below W.heap.size W w') := Lib.hid fun W h => rnext_any h hLl 2
  have HSM := Lib.hid hl
  clear h hl
  have HN1 : Hid (∀ W, Te.Rs W b L i 0 → Calls Tryz.prog 34 #[.pointer (some ⟨b, 0, none⟩), .int .i64 1] W fun e w' => e = .returned (.bool (Te.hd 1 (L.drop i))) ∧ Below W.heap.size W w') := Lib.hid fun W h => rnext_any h hLl 1
  have HN3 : Hid (∀ W, Te.Rs W b L (i + 1) 0 → Calls Tryz.prog 34 #[.pointer (some ⟨b, 0, none⟩), .int .i64 3] W fun e w' => e = .returned (.bool (Te.hd 3 (L.drop (i + 1)))) ∧ Below W.heap.size W w') := Lib.hid fun W h => rnext_any h hLl 3
  obtain ⟨hlt, hki, hdr⟩ := Te.hd_at h1
  have hw := hw hlt
  have htl : L[i].2.length ≤ 4096 := HSM.out.2 L[i] (List.getElem_mem hlt)
  have HQ : Hid (Te.expr (d + 1) (L.drop i) = .ok (nd, L.drop (i + 1))) := Lib.hid (by
    rw [hdr]
    generalize L[i] = x at *
    obtain ⟨k, s⟩ := x
    obtain rfl : k = 1 := hki
    have := Te.expr_word d (t := s) (r := L.drop (i + 1)) (by rw [h3, Bool.and_false])
    rw [this, show Te.word s = _ from hw])
  have HWD := Lib.hid fun W => rword_any L[i].2 (by omega) W
  have HID := Lib.hid fun W => lrefIdent_any L[i].2 (by omega) W
  rw [h2] at HN2
  rw [h1] at HN1
  rw [h3] at HN3
  obtain ⟨wr1, wr2⟩ := Te.wr_some hw
  obtain ⟨pk, ps, pn, hF⟩ := Te.wordR_form L[i].2
  rw [wr2, hF] at HWD
  have HF : Hid (nd = .mk pk ps pn []) := Lib.hid (by rw [← wr1, hF])
  have HWD : Hid (∀ W, Calls Tryz.prog 36 #[.string ⟨L[i].2.toArray⟩] W fun e w' => e = .returned (.tuple #[.agg #[.int .i64 pk, .string ⟨ps.toArray⟩, .int .i64 pn, .slice none 0 0], .bool true]) ∧ Below W.heap.size W w') := HWD
  generalize Te.expr (d + 1) (L.drop i) = res at *
  clear h2 h1 h3 hdr hw hF wr1 wr2 
  go_enter Tryz.func22, Tryz.ntmps22
  go_wp2_with fail
  rw [← hw0]
  clear hw0
  go_at_call 34
  refine (HN2.out _ HR0.out).mono ?_
  rintro e w1 ⟨rfl, hb1⟩
  have HR1 := Lib.hid (HR0.out.on hb1)
  have HO1 := Lib.hid (HO0.out.below hb1 HO0.out.lt)
  have HK1 : Hid (Kp (fun i => i = b) w w1) := Lib.hid (Kp.of_below (HB0.out.trans (hb1.mono HB0.out.size)))
  have hz1 : w.heap.size < w1.heap.size := HO1.out.lt
  clear hb1
  go_wp2_with fail
  go_at_call 34
  refine (HN1.out _ HR1.out).mono ?_
  rintro e w2 ⟨rfl, hb2⟩
  have HR2 := Lib.hid (HR1.out.on hb2)
  have HO2 := Lib.hid (HO1.out.below hb2 HO1.out.lt)
  have HK2 : Hid (Kp (fun i => i = b) w w2) := Lib.hid (HK1.out.trans (Kp.of_below (O := fun _ => False) hb2) fun _ _ e => e.elim)
  have hz2 : w.heap.size < w2.heap.size := HO2.out.lt
  clear hb2
  obtain ⟨A, cp, hrow, hrd⟩ := HR2.out.2
  obtain ⟨b1, o1, rfl, hb1, t0, t1⟩ := Lx.rd_tok hrd hlt
  have r0 : w2.cell? ⟨b, 0, none⟩ = some (.slice (some ⟨b1, o1, none⟩) L.length cp) := (hrow.cell 0).trans rfl
  have r1 : w2.cell? ⟨b, 1, none⟩ = some (.int .i64 (i : Int)) := (hrow.cell 1).trans rfl
  have rf1 : w2.frozen? ⟨b, 1, none⟩ = false := hrow.frozen 1
  have hI : (i : Int) < (L.length : Int) := by omega
  rw [hki] at t0
  have hb1l : b1 < w.heap.size := by
    obtain ⟨ad, ead, _, hg, _⟩ := hrd (by intro e; have := Lx.cellsT_len L; rw [e] at this; simp at this; omega)
    have hg : ad.block < b := hg
    injection ead with ead
    rw [← ead] at hg
    have hg : b1 < b := hg
    omega
  clear hrow hrd
  generalize L[i].2 = tt at *
  clear hki htl
  have HL := Lib.hid hlt
  have rl2 := HR2.out.lt
  go_wp2_with fail
  go_quiet (fail)
  rename_i nq
  have HR3 : Hid (Te.Rs ((w2.drewN nq).setCell ⟨b, 1, none⟩ (.int .i64 ((i : Int) + 1))) b L (i + 1) 0) := Lib.hid ((HR2.out.on (Lx.below_drewN (Below.refl _ _) nq)).setI (i + 1) HL.out _ (by omega))
  have HO3 : Hid (RowAt ((w2.drewN nq).setCell ⟨b, 1, none⟩ (.int .i64 ((i : Int) + 1))) w.heap.size 24 #[.int .i64 0, .string ⟨#[]⟩, .int .i64 0, .slice none 0 0]) := Lib.hid ((RowAt.drewN HO2.out nq).far (by show w.heap.size ≠ b; omega) _)
  have HK3 : Hid (Kp (fun i => i = b) w ((w2.drewN nq).setCell ⟨b, 1, none⟩ (.int .i64 ((i : Int) + 1)))) := Lib.hid ((HK2.out.drewN nq).setCell ⟨b, 1, none⟩ (.inr rfl) _)
  clear t0 t1 hb1 hb1l
  go_wp2_with fail
  go_at_call 34
  refine (HN3.out _ HR3.out).mono ?_
  rintro e w4 ⟨rfl, hb4⟩
  have HR4 := Lib.hid (HR3.out.on hb4)
  have HO4 := Lib.hid (HO3.out.below hb4 HO3.out.lt)
  have HK4 : Hid (Kp (fun i => i = b) w w4) := Lib.hid (HK3.out.trans (Kp.of_below (O := fun _ => False) hb4) fun _ _ e => e.elim)
  clear hb4
  go_wp2_with (go_at_call 35; go_must (refine (HID.out _).mono ?_; rintro e wi ⟨rfl, rfl⟩))
  go_at_call 36
  refine (HWD.out _).mono ?_
  rintro e w5 ⟨rfl, hb5⟩
  have HR5 := Lib.hid (HR4.out.on hb5)
  have HO5 := Lib.hid (HO4.out.below hb5 HO4.out.lt)
  have HK5 : Hid (Kp (fun i => i = b) w w5) := Lib.hid (HK4.out.trans (Kp.of_below (O := fun _ => False) hb5) fun _ _ e => e.elim)
  have p0 : w5.cell? ⟨w.heap.size, 0, none⟩ = some (.int .i64 0) := (HO5.out.cell 0).trans rfl; have q0 : w5.frozen? ⟨w.heap.size, 0, none⟩ = false := HO5.out.frozen 0; have p1 : w5.cell? ⟨w.heap.size, 1, none⟩ = some (.string ⟨#[]⟩) := (HO5.out.cell 1).trans rfl; have q1 : w5.frozen? ⟨w.heap.size, 1, none⟩ = false := HO5.out.frozen 1; have p2 : w5.cell? ⟨w.heap.size, 2, none⟩ = some (.int .i64 0) := (HO5.out.cell 2).trans rfl; have q2 : w5.frozen? ⟨w.heap.size, 2, none⟩ = false := HO5.out.frozen 2; have p3 : w5.cell? ⟨w.heap.size, 3, none⟩ = some (.slice none 0 0) := (HO5.out.cell 3).trans rfl; have q3 : w5.frozen? ⟨w.heap.size, 3, none⟩ = false := HO5.out.frozen 3
  have l5 := HO5.out.lt
  clear hb5
  go_wp2_with fail
  refine bodyPost_ret ((Te.results_c1 rfl _ _ _).trans (by simp [go_sem, *]; rfl)) rfl ?_
  refine ⟨pk, ps, pn, [], .slice none 0 0, rfl, ((((HK5.out.setCell _ (.inl (Nat.le_refl _)) _).setCell _ (.inl (Nat.le_refl _)) _).setCell _ (.inl (Nat.le_refl _)) _).setCell _ (.inl (Nat.le_refl _)) _).alloc _, .inl ⟨i + 1, HR5.out.far (((((Below.refl _ _).setCell (by show b + 1 ≤ w.heap.size; omega) _).setCell (by show b + 1 ≤ w.heap.size; omega) _).setCell (by show b + 1 ≤ w.heap.size; omega) _ |>.setCell (by show b + 1 ≤ w.heap.size; omega) _).alloc (by simp; omega) _), by rw [HQ.out, HF.out], Te.At.zero _ _ _ _ _⟩⟩

set_option maxRecDepth 100000 in
set_option maxHeartbeats 8000000 in
theorem rexpr_w2 {c : Int} {d : Nat} (c0 : 0 ≤ c) (c1 : c ≤ 63) (L : List Te.Tok) (i b : Nat) (w : World) (hl : Te.Small L) (h : Te.Rs w b L i 0) (h2 : Te.hd 2 (L.drop i) = false) (h1 : Te.hd 1 (L.drop i) = true) (h3 : Te.hd 3 (L.drop (i + 1)) = false) (hw : ∀ hi : i < L.length, Te.word L[i].2 = none) :
    Calls Tryz.prog 22 #[.pointer (some ⟨b, 0, none⟩), .int .i64 c] w (Te.RexR w b L (Te.expr (d + 1) (L.drop i))) := by
  have hbl := h.lt
  have hb0 : b ≠ w.heap.size := by omega
  have hc64 : ¬ (64 : Int) ≤ c := by omega
  have hc65 : c < 64 := by omega
  have hil := h.1
  have hLl := hl.1
  have h00 : (0 : Int) ≤ (i : Int) := by omega
  have kk : IntKind.i64.wrap ((i : Int) + 1) = (i : Int) + 1 := IntWalk.i64_in _ (by omega)
  obtain ⟨w0, hw0⟩ : ∃ w0, w0 = w.alloc (.cells #[.int .i64 0, .string ⟨#[]⟩, .int .i64 0, .slice none 0 0] 24) := ⟨_, rfl⟩
  have HB0 : Hid (Below w.heap.size w w0) := Lib.hid (by rw [hw0]; exact (Below.refl _ _).alloc (Nat.le_refl _) _)
  have HO0 : Hid (RowAt w0 w.heap.size 24 #[.int .i64 0, .string ⟨#[]⟩, .int .i64 0, .slice none 0 0]) := Lib.hid (by rw [hw0]; exact RowAt.new w _ _)
  have HR0 : Hid (Te.Rs w0 b L i 0) := Lib.hid (h.on HB0.out)
  have HN2 : Hid (∀ W, Te.Rs W b L i 0 → Calls Tryz.prog 34 #[.pointer (some ⟨b, 0, none⟩), .int .i64 2] W fun e w' => e = .returned (.bool (Te.hd 2 (L.drop i))) ∧ Below W.heap.size W w') := Lib.hid fun W h => rnext_any h hLl 2
  have HSM := Lib.hid hl
  clear h hl
  have HN1 : Hid (∀ W, Te.Rs W b L i 0 → Calls Tryz.prog 34 #[.pointer (some ⟨b, 0, none⟩), .int .i64 1] W fun e w' => e = .returned (.bool (Te.hd 1 (L.drop i))) ∧ Below W.heap.size W w') := Lib.hid fun W h => rnext_any h hLl 1
  have HN3 : Hid (∀ W, Te.Rs W b L (i + 1) 0 → Calls Tryz.prog 34 #[.pointer (some ⟨b, 0, none⟩), .int .i64 3] W fun e w' => e = .returned (.bool (Te.hd 3 (L.drop (i + 1)))) ∧ Below W.heap.size W w') := Lib.hid fun W h => rnext_any h hLl 3
  obtain ⟨hlt, hki, hdr⟩ := Te.hd_at h1
  have hw := hw hlt
  have htl : L[i].2.length ≤ 4096 := HSM.out.2 L[i] (List.getElem_mem hlt)
  have HQ : Hid (Te.expr (d + 1) (L.drop i) = .error 8) := Lib.hid (by
    rw [hdr]
    generalize L[i] = x at *
    obtain ⟨k, s⟩ := x
    obtain rfl : k = 1 := hki
    have := Te.expr_word d (t := s) (r := L.drop (i + 1)) (by rw [h3, Bool.and_false])
    rw [this, show Te.word s = _ from hw])
  have HWD := Lib.hid fun W => rword_any L[i].2 (by omega) W
  have HID := Lib.hid fun W => lrefIdent_any L[i].2 (by omega) W
  rw [h2] at HN2
  rw [h1] at HN1
  rw [h3] at HN3
  obtain ⟨pk, ps, pn, hF⟩ := Te.wordR_form L[i].2
  rw [Te.wr_none hw, hF] at HWD
  have HWD : Hid (∀ W, Calls Tryz.prog 36 #[.string ⟨L[i].2.toArray⟩] W fun e w' => e = .returned (.tuple #[.agg #[.int .i64 pk, .string ⟨ps.toArray⟩, .int .i64 pn, .slice none 0 0], .bool false]) ∧ Below W.heap.size W w') := HWD
  generalize Te.expr (d + 1) (L.drop i) = res at *
  clear h2 h1 h3 hdr hw hF 
  go_enter Tryz.func22, Tryz.ntmps22
  go_wp2_with fail
  rw [← hw0]
  clear hw0
  go_at_call 34
  refine (HN2.out _ HR0.out).mono ?_
  rintro e w1 ⟨rfl, hb1⟩
  have HR1 := Lib.hid (HR0.out.on hb1)
  have HO1 := Lib.hid (HO0.out.below hb1 HO0.out.lt)
  have HK1 : Hid (Kp (fun i => i = b) w w1) := Lib.hid (Kp.of_below (HB0.out.trans (hb1.mono HB0.out.size)))
  have hz1 : w.heap.size < w1.heap.size := HO1.out.lt
  clear hb1
  go_wp2_with fail
  go_at_call 34
  refine (HN1.out _ HR1.out).mono ?_
  rintro e w2 ⟨rfl, hb2⟩
  have HR2 := Lib.hid (HR1.out.on hb2)
  have HO2 := Lib.hid (HO1.out.below hb2 HO1.out.lt)
  have HK2 : Hid (Kp (fun i => i = b) w w2) := Lib.hid (HK1.out.trans (Kp.of_below (O := fun _ => False) hb2) fun _ _ e => e.elim)
  have hz2 : w.heap.size < w2.heap.size := HO2.out.lt
  clear hb2
  obtain ⟨A, cp, hrow, hrd⟩ := HR2.out.2
  obtain ⟨b1, o1, rfl, hb1, t0, t1⟩ := Lx.rd_tok hrd hlt
  have r0 : w2.cell? ⟨b, 0, none⟩ = some (.slice (some ⟨b1, o1, none⟩) L.length cp) := (hrow.cell 0).trans rfl
  have r1 : w2.cell? ⟨b, 1, none⟩ = some (.int .i64 (i : Int)) := (hrow.cell 1).trans rfl
  have rf1 : w2.frozen? ⟨b, 1, none⟩ = false := hrow.frozen 1
  have hI : (i : Int) < (L.length : Int) := by omega
  rw [hki] at t0
  have hb1l : b1 < w.heap.size := by
    obtain ⟨ad, ead, _, hg, _⟩ := hrd (by intro e; have := Lx.cellsT_len L; rw [e] at this; simp at this; omega)
    have hg : ad.block < b := hg
    injection ead with ead
    rw [← ead] at hg
    have hg : b1 < b := hg
    omega
  clear hrow hrd
  generalize L[i].2 = tt at *
  clear hki htl
  have HL := Lib.hid hlt
  have rl2 := HR2.out.lt
  go_wp2_with fail
  go_quiet (fail)
  rename_i nq
  have HR3 : Hid (Te.Rs ((w2.drewN nq).setCell ⟨b, 1, none⟩ (.int .i64 ((i : Int) + 1))) b L (i + 1) 0) := Lib.hid ((HR2.out.on (Lx.below_drewN (Below.refl _ _) nq)).setI (i + 1) HL.out _ (by omega))
  have HO3 : Hid (RowAt ((w2.drewN nq).setCell ⟨b, 1, none⟩ (.int .i64 ((i : Int) + 1))) w.heap.size 24 #[.int .i64 0, .string ⟨#[]⟩, .int .i64 0, .slice none 0 0]) := Lib.hid ((RowAt.drewN HO2.out nq).far (by show w.heap.size ≠ b; omega) _)
  have HK3 : Hid (Kp (fun i => i = b) w ((w2.drewN nq).setCell ⟨b, 1, none⟩ (.int .i64 ((i : Int) + 1)))) := Lib.hid ((HK2.out.drewN nq).setCell ⟨b, 1, none⟩ (.inr rfl) _)
  clear t0 t1 hb1 hb1l
  go_wp2_with fail
  go_at_call 34
  refine (HN3.out _ HR3.out).mono ?_
  rintro e w4 ⟨rfl, hb4⟩
  have HR4 := Lib.hid (HR3.out.on hb4)
  have HO4 := Lib.hid (HO3.out.below hb4 HO3.out.lt)
  have HK4 : Hid (Kp (fun i => i = b) w w4) := Lib.hid (HK3.out.trans (Kp.of_below (O := fun _ => False) hb4) fun _ _ e => e.elim)
  clear hb4
  go_wp2_with (go_at_call 35; go_must (refine (HID.out _).mono ?_; rintro e wi ⟨rfl, rfl⟩))
  go_at_call 36
  refine (HWD.out _).mono ?_
  rintro e w5 ⟨rfl, hb5⟩
  have HR5 := Lib.hid (HR4.out.on hb5)
  have HO5 := Lib.hid (HO4.out.below hb5 HO4.out.lt)
  have HK5 : Hid (Kp (fun i => i = b) w w5) := Lib.hid (HK4.out.trans (Kp.of_below (O := fun _ => False) hb5) fun _ _ e => e.elim)
  have p0 : w5.cell? ⟨w.heap.size, 0, none⟩ = some (.int .i64 0) := (HO5.out.cell 0).trans rfl; have q0 : w5.frozen? ⟨w.heap.size, 0, none⟩ = false := HO5.out.frozen 0; have p1 : w5.cell? ⟨w.heap.size, 1, none⟩ = some (.string ⟨#[]⟩) := (HO5.out.cell 1).trans rfl; have q1 : w5.frozen? ⟨w.heap.size, 1, none⟩ = false := HO5.out.frozen 1; have p2 : w5.cell? ⟨w.heap.size, 2, none⟩ = some (.int .i64 0) := (HO5.out.cell 2).trans rfl; have q2 : w5.frozen? ⟨w.heap.size, 2, none⟩ = false := HO5.out.frozen 2; have p3 : w5.cell? ⟨w.heap.size, 3, none⟩ = some (.slice none 0 0) := (HO5.out.cell 3).trans rfl; have q3 : w5.frozen? ⟨w.heap.size, 3, none⟩ = false := HO5.out.frozen 3
  have l5 := HO5.out.lt
  clear hb5
  have HZ5 : Hid (Te.Rs (w5.alloc (.cells #[.int .i64 pk, .string ⟨ps.toArray⟩, .int .i64 pn, .slice none 0 0] 24)) b L (i + 1) 0) := Lib.hid (HR5.out.on ((Below.refl _ _).alloc (Nat.le_refl _) _))
  have HBD := Lib.hid (rbad_any HZ5.out 8)
  have HO6 : Hid (RowAt (w5.alloc (.cells #[.int .i64 pk, .string ⟨ps.toArray⟩, .int .i64 pn, .slice none 0 0] 24)) w.heap.size 24 #[.int .i64 0, .string ⟨#[]⟩, .int .i64 0, .slice none 0 0]) := Lib.hid (HO5.out.alloc _)
  have HK6 := Lib.hid (HK5.out.alloc (.cells #[.int .i64 pk, .string ⟨ps.toArray⟩, .int .i64 pn, .slice none 0 0] 24))
  go_wp2_with fail
  go_at_call 23
  refine HBD.out.mono ?_
  rintro e w7 ⟨rfl, hd7⟩
  have HD := Lib.hid hd7
  have ho7 := Te.beside HO6.out hd7.kp (by omega)
  clear p0 p1 p2 p3 q0 q1 q2 q3 l5
  have p0 : w7.cell? ⟨w.heap.size, 0, none⟩ = some (.int .i64 0) := (ho7.cell 0).trans rfl; have q0 : w7.frozen? ⟨w.heap.size, 0, none⟩ = false := ho7.frozen 0; have p1 : w7.cell? ⟨w.heap.size, 1, none⟩ = some (.string ⟨#[]⟩) := (ho7.cell 1).trans rfl; have q1 : w7.frozen? ⟨w.heap.size, 1, none⟩ = false := ho7.frozen 1; have p2 : w7.cell? ⟨w.heap.size, 2, none⟩ = some (.int .i64 0) := (ho7.cell 2).trans rfl; have q2 : w7.frozen? ⟨w.heap.size, 2, none⟩ = false := ho7.frozen 2; have p3 : w7.cell? ⟨w.heap.size, 3, none⟩ = some (.slice none 0 0) := (ho7.cell 3).trans rfl; have q3 : w7.frozen? ⟨w.heap.size, 3, none⟩ = false := ho7.frozen 3
  have l7 := ho7.lt
  have HK7 : Hid (Kp (fun i => i = b) w w7) := Lib.hid (HK6.out.trans hd7.kp fun _ _ e => e)
  clear hd7 ho7
  go_wp2_with fail
  refine bodyPost_ret ((Te.results_c1 rfl _ _ _).trans (by simp [go_sem, *]; rfl)) rfl ?_
  exact ⟨0, [], 0, [], .slice none 0 0, rfl, (((HK7.out.setCell _ (.inl (Nat.le_refl _)) _).setCell _ (.inl (Nat.le_refl _)) _).setCell _ (.inl (Nat.le_refl _)) _).setCell _ (.inl (Nat.le_refl _)) _, .inr ⟨i + 1, 8, by decide, HD.out.rs.far (((((Below.refl _ _).setCell (by show b + 1 ≤ w.heap.size; omega) _).setCell (by show b + 1 ≤ w.heap.size; omega) _).setCell (by show b + 1 ≤ w.heap.size; omega) _ |>.setCell (by show b + 1 ≤ w.heap.size; omega) _)), HQ.out, rfl, rfl, rfl, rfl, rfl⟩⟩

set_option maxRecDepth 100000 in
set_option maxHeartbeats 8000000 in
theorem rexpr_w3 {c : Int} {d : Nat} (c0 : 0 ≤ c) (c1 : c ≤ 63) (L : List Te.Tok) (i b : Nat) (w : World) (hl : Te.Small L) (h : Te.Rs w b L i 0) (h2 : Te.hd 2 (L.drop i) = false) (h1 : Te.hd 1 (L.drop i) = true) (h3 : Te.hd 3 (L.drop (i + 1)) = true) (hid : ∀ hi : i < L.length, Lx.identOf L[i].2 = false) {nd : Te.Nd} (hw : ∀ hi : i < L.length, Te.word L[i].2 = some nd) :
    Calls Tryz.prog 22 #[.pointer (some ⟨b, 0, none⟩), .int .i64 c] w (Te.RexR w b L (Te.expr (d + 1) (L.drop i))) := by
  have hbl := h.lt
  have hb0 : b ≠ w.heap.size := by omega
  have hc64 : ¬ (64 : Int) ≤ c := by omega
  have hc65 : c < 64 := by omega
  have hil := h.1
  have hLl := hl.1
  have h00 : (0 : Int) ≤ (i : Int) := by omega
  have kk : IntKind.i64.wrap ((i : Int) + 1) = (i : Int) + 1 := IntWalk.i64_in _ (by omega)
  obtain ⟨w0, hw0⟩ : ∃ w0, w0 = w.alloc (.cells #[.int .i64 0, .string ⟨#[]⟩, .int .i64 0, .slice none 0 0] 24) := ⟨_, rfl⟩
  have HB0 : Hid (Below w.heap.size w w0) := Lib.hid (by rw [hw0]; exact (Below.refl _ _).alloc (Nat.le_refl _) _)
  have HO0 : Hid (RowAt w0 w.heap.size 24 #[.int .i64 0, .string ⟨#[]⟩, .int .i64 0, .slice none 0 0]) := Lib.hid (by rw [hw0]; exact RowAt.new w _ _)
  have HR0 : Hid (Te.Rs w0 b L i 0) := Lib.hid (h.on HB0.out)
  have HN2 : Hid (∀ W, Te.Rs W b L i 0 → Calls Tryz.prog 34 #[.pointer (some ⟨b, 0, none⟩), .int .i64 2] W fun e w' => e = .returned (.bool (Te.hd 2 (L.drop i))) ∧ Below W.heap.size W w') := Lib.hid fun W h => rnext_any h hLl 2
  have HSM := Lib.hid hl
  clear h hl
  have HN1 : Hid (∀ W, Te.Rs W b L i 0 → Calls Tryz.prog 34 #[.pointer (some ⟨b, 0, none⟩), .int .i64 1] W fun e w' => e = .returned (.bool (Te.hd 1 (L.drop i))) ∧ Below W.heap.size W w') := Lib.hid fun W h => rnext_any h hLl 1
  have HN3 : Hid (∀ W, Te.Rs W b L (i + 1) 0 → Calls Tryz.prog 34 #[.pointer (some ⟨b, 0, none⟩), .int .i64 3] W fun e w' => e = .returned (.bool (Te.hd 3 (L.drop (i + 1)))) ∧ Below W.heap.size W w') := Lib.hid fun W h => rnext_any h hLl 3
  obtain ⟨hlt, hki, hdr⟩ := Te.hd_at h1
  have hw := hw hlt
  have hid := hid hlt
  have htl : L[i].2.length ≤ 4096 := HSM.out.2 L[i] (List.getElem_mem hlt)
  have HQ : Hid (Te.expr (d + 1) (L.drop i) = .ok (nd, L.drop (i + 1))) := Lib.hid (by
    rw [hdr]
    generalize L[i] = x at *
    obtain ⟨k, s⟩ := x
    obtain rfl : k = 1 := hki
    have := Te.expr_word d (t := s) (r := L.drop (i + 1)) (by rw [show Lx.identOf s = false from hid]; rfl)
    rw [this, show Te.word s = _ from hw])
  have HWD := Lib.hid fun W => rword_any L[i].2 (by omega) W
  have HID := Lib.hid fun W => lrefIdent_any L[i].2 (by omega) W
  rw [h2] at HN2
  rw [h1] at HN1
  rw [h3] at HN3
  rw [hid] at HID
  obtain ⟨wr1, wr2⟩ := Te.wr_some hw
  obtain ⟨pk, ps, pn, hF⟩ := Te.wordR_form L[i].2
  rw [wr2, hF] at HWD
  have HF : Hid (nd = .mk pk ps pn []) := Lib.hid (by rw [← wr1, hF])
  have HWD : Hid (∀ W, Calls Tryz.prog 36 #[.string ⟨L[i].2.toArray⟩] W fun e w' => e = .returned (.tuple #[.agg #[.int .i64 pk, .string ⟨ps.toArray⟩, .int .i64 pn, .slice none 0 0], .bool true]) ∧ Below W.heap.size W w') := HWD
  generalize Te.expr (d + 1) (L.drop i) = res at *
  clear h2 h1 h3 hdr hw hF wr1 wr2 hid 
  go_enter Tryz.func22, Tryz.ntmps22
  go_wp2_with fail
  rw [← hw0]
  clear hw0
  go_at_call 34
  refine (HN2.out _ HR0.out).mono ?_
  rintro e w1 ⟨rfl, hb1⟩
  have HR1 := Lib.hid (HR0.out.on hb1)
  have HO1 := Lib.hid (HO0.out.below hb1 HO0.out.lt)
  have HK1 : Hid (Kp (fun i => i = b) w w1) := Lib.hid (Kp.of_below (HB0.out.trans (hb1.mono HB0.out.size)))
  have hz1 : w.heap.size < w1.heap.size := HO1.out.lt
  clear hb1
  go_wp2_with fail
  go_at_call 34
  refine (HN1.out _ HR1.out).mono ?_
  rintro e w2 ⟨rfl, hb2⟩
  have HR2 := Lib.hid (HR1.out.on hb2)
  have HO2 := Lib.hid (HO1.out.below hb2 HO1.out.lt)
  have HK2 : Hid (Kp (fun i => i = b) w w2) := Lib.hid (HK1.out.trans (Kp.of_below (O := fun _ => False) hb2) fun _ _ e => e.elim)
  have hz2 : w.heap.size < w2.heap.size := HO2.out.lt
  clear hb2
  obtain ⟨A, cp, hrow, hrd⟩ := HR2.out.2
  obtain ⟨b1, o1, rfl, hb1, t0, t1⟩ := Lx.rd_tok hrd hlt
  have r0 : w2.cell? ⟨b, 0, none⟩ = some (.slice (some ⟨b1, o1, none⟩) L.length cp) := (hrow.cell 0).trans rfl
  have r1 : w2.cell? ⟨b, 1, none⟩ = some (.int .i64 (i : Int)) := (hrow.cell 1).trans rfl
  have rf1 : w2.frozen? ⟨b, 1, none⟩ = false := hrow.frozen 1
  have hI : (i : Int) < (L.length : Int) := by omega
  rw [hki] at t0
  have hb1l : b1 < w.heap.size := by
    obtain ⟨ad, ead, _, hg, _⟩ := hrd (by intro e; have := Lx.cellsT_len L; rw [e] at this; simp at this; omega)
    have hg : ad.block < b := hg
    injection ead with ead
    rw [← ead] at hg
    have hg : b1 < b := hg
    omega
  clear hrow hrd
  generalize L[i].2 = tt at *
  clear hki htl
  have HL := Lib.hid hlt
  have rl2 := HR2.out.lt
  go_wp2_with fail
  go_quiet (fail)
  rename_i nq
  have HR3 : Hid (Te.Rs ((w2.drewN nq).setCell ⟨b, 1, none⟩ (.int .i64 ((i : Int) + 1))) b L (i + 1) 0) := Lib.hid ((HR2.out.on (Lx.below_drewN (Below.refl _ _) nq)).setI (i + 1) HL.out _ (by omega))
  have HO3 : Hid (RowAt ((w2.drewN nq).setCell ⟨b, 1, none⟩ (.int .i64 ((i : Int) + 1))) w.heap.size 24 #[.int .i64 0, .string ⟨#[]⟩, .int .i64 0, .slice none 0 0]) := Lib.hid ((RowAt.drewN HO2.out nq).far (by show w.heap.size ≠ b; omega) _)
  have HK3 : Hid (Kp (fun i => i = b) w ((w2.drewN nq).setCell ⟨b, 1, none⟩ (.int .i64 ((i : Int) + 1)))) := Lib.hid ((HK2.out.drewN nq).setCell ⟨b, 1, none⟩ (.inr rfl) _)
  clear t0 t1 hb1 hb1l
  go_wp2_with fail
  go_at_call 34
  refine (HN3.out _ HR3.out).mono ?_
  rintro e w4 ⟨rfl, hb4⟩
  have HR4 := Lib.hid (HR3.out.on hb4)
  have HO4 := Lib.hid (HO3.out.below hb4 HO3.out.lt)
  have HK4 : Hid (Kp (fun i => i = b) w w4) := Lib.hid (HK3.out.trans (Kp.of_below (O := fun _ => False) hb4) fun _ _ e => e.elim)
  clear hb4
  go_wp2_with (go_at_call 35; go_must (refine (HID.out _).mono ?_; rintro e wi ⟨rfl, rfl⟩))
  go_at_call 36
  refine (HWD.out _).mono ?_
  rintro e w5 ⟨rfl, hb5⟩
  have HR5 := Lib.hid (HR4.out.on hb5)
  have HO5 := Lib.hid (HO4.out.below hb5 HO4.out.lt)
  have HK5 : Hid (Kp (fun i => i = b) w w5) := Lib.hid (HK4.out.trans (Kp.of_below (O := fun _ => False) hb5) fun _ _ e => e.elim)
  have p0 : w5.cell? ⟨w.heap.size, 0, none⟩ = some (.int .i64 0) := (HO5.out.cell 0).trans rfl; have q0 : w5.frozen? ⟨w.heap.size, 0, none⟩ = false := HO5.out.frozen 0; have p1 : w5.cell? ⟨w.heap.size, 1, none⟩ = some (.string ⟨#[]⟩) := (HO5.out.cell 1).trans rfl; have q1 : w5.frozen? ⟨w.heap.size, 1, none⟩ = false := HO5.out.frozen 1; have p2 : w5.cell? ⟨w.heap.size, 2, none⟩ = some (.int .i64 0) := (HO5.out.cell 2).trans rfl; have q2 : w5.frozen? ⟨w.heap.size, 2, none⟩ = false := HO5.out.frozen 2; have p3 : w5.cell? ⟨w.heap.size, 3, none⟩ = some (.slice none 0 0) := (HO5.out.cell 3).trans rfl; have q3 : w5.frozen? ⟨w.heap.size, 3, none⟩ = false := HO5.out.frozen 3
  have l5 := HO5.out.lt
  clear hb5
  go_wp2_with fail
  refine bodyPost_ret ((Te.results_c1 rfl _ _ _).trans (by simp [go_sem, *]; rfl)) rfl ?_
  refine ⟨pk, ps, pn, [], .slice none 0 0, rfl, ((((HK5.out.setCell _ (.inl (Nat.le_refl _)) _).setCell _ (.inl (Nat.le_refl _)) _).setCell _ (.inl (Nat.le_refl _)) _).setCell _ (.inl (Nat.le_refl _)) _).alloc _, .inl ⟨i + 1, HR5.out.far (((((Below.refl _ _).setCell (by show b + 1 ≤ w.heap.size; omega) _).setCell (by show b + 1 ≤ w.heap.size; omega) _).setCell (by show b + 1 ≤ w.heap.size; omega) _ |>.setCell (by show b + 1 ≤ w.heap.size; omega) _).alloc (by simp; omega) _), by rw [HQ.out, HF.out], Te.At.zero _ _ _ _ _⟩⟩

set_option maxRecDepth 100000 in
set_option maxHeartbeats 8000000 in
theorem rexpr_w4 {c : Int} {d : Nat} (c0 : 0 ≤ c) (c1 : c ≤ 63) (L : List Te.Tok) (i b : Nat) (w : World) (hl : Te.Small L) (h : Te.Rs w b L i 0) (h2 : Te.hd 2 (L.drop i) = false) (h1 : Te.hd 1 (L.drop i) = true) (h3 : Te.hd 3 (L.drop (i + 1)) = true) (hid : ∀ hi : i < L.length, Lx.identOf L[i].2 = false) (hw : ∀ hi : i < L.length, Te.word L[i].2 = none) :
    Calls Tryz.prog 22 #[.pointer (some ⟨b, 0, none⟩), .int .i64 c] w (Te.RexR w b L (Te.expr (d + 1) (L.drop i))) := by
  have hbl := h.lt
  have hb0 : b ≠ w.heap.size := by omega
  have hc64 : ¬ (64 : Int) ≤ c := by omega
  have hc65 : c < 64 := by omega
  have hil := h.1
  have hLl := hl.1
  have h00 : (0 : Int) ≤ (i : Int) := by omega
  have kk : IntKind.i64.wrap ((i : Int) + 1) = (i : Int) + 1 := IntWalk.i64_in _ (by omega)
  obtain ⟨w0, hw0⟩ : ∃ w0, w0 = w.alloc (.cells #[.int .i64 0, .string ⟨#[]⟩, .int .i64 0, .slice none 0 0] 24) := ⟨_, rfl⟩
  have HB0 : Hid (Below w.heap.size w w0) := Lib.hid (by rw [hw0]; exact (Below.refl _ _).alloc (Nat.le_refl _) _)
  have HO0 : Hid (RowAt w0 w.heap.size 24 #[.int .i64 0, .string ⟨#[]⟩, .int .i64 0, .slice none 0 0]) := Lib.hid (by rw [hw0]; exact RowAt.new w _ _)
  have HR0 : Hid (Te.Rs w0 b L i 0) := Lib.hid (h.on HB0.out)
  have HN2 : Hid (∀ W, Te.Rs W b L i 0 → Calls Tryz.prog 34 #[.pointer (some ⟨b, 0, none⟩), .int .i64 2] W fun e w' => e = .returned (.bool (Te.hd 2 (L.drop i))) ∧ Below W.heap.size W w') := Lib.hid fun W h => rnext_any h hLl 2
  have HSM := Lib.hid hl
  clear h hl
  have HN1 : Hid (∀ W, Te.Rs W b L i 0 → Calls Tryz.prog 34 #[.pointer (some ⟨b, 0, none⟩), .int .i64 1] W fun e w' => e = .returned (.bool (Te.hd 1 (L.drop i))) ∧ Below W.heap.size W w') := Lib.hid fun W h => rnext_any h hLl 1
  have HN3 : Hid (∀ W, Te.Rs W b L (i + 1) 0 → Calls Tryz.prog 34 #[.pointer (some ⟨b, 0, none⟩), .int .i64 3] W fun e w' => e = .returned (.bool (Te.hd 3 (L.drop (i + 1)))) ∧ Below W.heap.size W w') := Lib.hid fun W h => rnext_any h hLl 3
  obtain ⟨hlt, hki, hdr⟩ := Te.hd_at h1
  have hw := hw hlt
  have hid := hid hlt
  have htl : L[i].2.length ≤ 4096 := HSM.out.2 L[i] (List.getElem_mem hlt)
  have HQ : Hid (Te.expr (d + 1) (L.drop i) = .error 8) := Lib.hid (by
    rw [hdr]
    generalize L[i] = x at *
    obtain ⟨k, s⟩ := x
    obtain rfl : k = 1 := hki
    have := Te.expr_word d (t := s) (r := L.drop (i + 1)) (by rw [show Lx.identOf s = false from hid]; rfl)
    rw [this, show Te.word s = _ from hw])
  have HWD := Lib.hid fun W => rword_any L[i].2 (by omega) W
  have HID := Lib.hid fun W => lrefIdent_any L[i].2 (by omega) W
  rw [h2] at HN2
  rw [h1] at HN1
  rw [h3] at HN3
  rw [hid] at HID
  obtain ⟨pk, ps, pn, hF⟩ := Te.wordR_form L[i].2
  rw [Te.wr_none hw, hF] at HWD
  have HWD : Hid (∀ W, Calls Tryz.prog 36 #[.string ⟨L[i].2.toArray⟩] W fun e w' => e = .returned (.tuple #[.agg #[.int .i64 pk, .string ⟨ps.toArray⟩, .int .i64 pn, .slice none 0 0], .bool false]) ∧ Below W.heap.size W w') := HWD
  generalize Te.expr (d + 1) (L.drop i) = res at *
  clear h2 h1 h3 hdr hw hF hid 
  go_enter Tryz.func22, Tryz.ntmps22
  go_wp2_with fail
  rw [← hw0]
  clear hw0
  go_at_call 34
  refine (HN2.out _ HR0.out).mono ?_
  rintro e w1 ⟨rfl, hb1⟩
  have HR1 := Lib.hid (HR0.out.on hb1)
  have HO1 := Lib.hid (HO0.out.below hb1 HO0.out.lt)
  have HK1 : Hid (Kp (fun i => i = b) w w1) := Lib.hid (Kp.of_below (HB0.out.trans (hb1.mono HB0.out.size)))
  have hz1 : w.heap.size < w1.heap.size := HO1.out.lt
  clear hb1
  go_wp2_with fail
  go_at_call 34
  refine (HN1.out _ HR1.out).mono ?_
  rintro e w2 ⟨rfl, hb2⟩
  have HR2 := Lib.hid (HR1.out.on hb2)
  have HO2 := Lib.hid (HO1.out.below hb2 HO1.out.lt)
  have HK2 : Hid (Kp (fun i => i = b) w w2) := Lib.hid (HK1.out.trans (Kp.of_below (O := fun _ => False) hb2) fun _ _ e => e.elim)
  have hz2 : w.heap.size < w2.heap.size := HO2.out.lt
  clear hb2
  obtain ⟨A, cp, hrow, hrd⟩ := HR2.out.2
  obtain ⟨b1, o1, rfl, hb1, t0, t1⟩ := Lx.rd_tok hrd hlt
  have r0 : w2.cell? ⟨b, 0, none⟩ = some (.slice (some ⟨b1, o1, none⟩) L.length cp) := (hrow.cell 0).trans rfl
  have r1 : w2.cell? ⟨b, 1, none⟩ = some (.int .i64 (i : Int)) := (hrow.cell 1).trans rfl
  have rf1 : w2.frozen? ⟨b, 1, none⟩ = false := hrow.frozen 1
  have hI : (i : Int) < (L.length : Int) := by omega
  rw [hki] at t0
  have hb1l : b1 < w.heap.size := by
    obtain ⟨ad, ead, _, hg, _⟩ := hrd (by intro e; have := Lx.cellsT_len L; rw [e] at this; simp at this; omega)
    have hg : ad.block < b := hg
    injection ead with ead
    rw [← ead] at hg
    have hg : b1 < b := hg
    omega
  clear hrow hrd
  generalize L[i].2 = tt at *
  clear hki htl
  have HL := Lib.hid hlt
  have rl2 := HR2.out.lt
  go_wp2_with fail
  go_quiet (fail)
  rename_i nq
  have HR3 : Hid (Te.Rs ((w2.drewN nq).setCell ⟨b, 1, none⟩ (.int .i64 ((i : Int) + 1))) b L (i + 1) 0) := Lib.hid ((HR2.out.on (Lx.below_drewN (Below.refl _ _) nq)).setI (i + 1) HL.out _ (by omega))
  have HO3 : Hid (RowAt ((w2.drewN nq).setCell ⟨b, 1, none⟩ (.int .i64 ((i : Int) + 1))) w.heap.size 24 #[.int .i64 0, .string ⟨#[]⟩, .int .i64 0, .slice none 0 0]) := Lib.hid ((RowAt.drewN HO2.out nq).far (by show w.heap.size ≠ b; omega) _)
  have HK3 : Hid (Kp (fun i => i = b) w ((w2.drewN nq).setCell ⟨b, 1, none⟩ (.int .i64 ((i : Int) + 1)))) := Lib.hid ((HK2.out.drewN nq).setCell ⟨b, 1, none⟩ (.inr rfl) _)
  clear t0 t1 hb1 hb1l
  go_wp2_with fail
  go_at_call 34
  refine (HN3.out _ HR3.out).mono ?_
  rintro e w4 ⟨rfl, hb4⟩
  have HR4 := Lib.hid (HR3.out.on hb4)
  have HO4 := Lib.hid (HO3.out.below hb4 HO3.out.lt)
  have HK4 : Hid (Kp (fun i => i = b) w w4) := Lib.hid (HK3.out.trans (Kp.of_below (O := fun _ => False) hb4) fun _ _ e => e.elim)
  clear hb4
  go_wp2_with (go_at_call 35; go_must (refine (HID.out _).mono ?_; rintro e wi ⟨rfl, rfl⟩))
  go_at_call 36
  refine (HWD.out _).mono ?_
  rintro e w5 ⟨rfl, hb5⟩
  have HR5 := Lib.hid (HR4.out.on hb5)
  have HO5 := Lib.hid (HO4.out.below hb5 HO4.out.lt)
  have HK5 : Hid (Kp (fun i => i = b) w w5) := Lib.hid (HK4.out.trans (Kp.of_below (O := fun _ => False) hb5) fun _ _ e => e.elim)
  have p0 : w5.cell? ⟨w.heap.size, 0, none⟩ = some (.int .i64 0) := (HO5.out.cell 0).trans rfl; have q0 : w5.frozen? ⟨w.heap.size, 0, none⟩ = false := HO5.out.frozen 0; have p1 : w5.cell? ⟨w.heap.size, 1, none⟩ = some (.string ⟨#[]⟩) := (HO5.out.cell 1).trans rfl; have q1 : w5.frozen? ⟨w.heap.size, 1, none⟩ = false := HO5.out.frozen 1; have p2 : w5.cell? ⟨w.heap.size, 2, none⟩ = some (.int .i64 0) := (HO5.out.cell 2).trans rfl; have q2 : w5.frozen? ⟨w.heap.size, 2, none⟩ = false := HO5.out.frozen 2; have p3 : w5.cell? ⟨w.heap.size, 3, none⟩ = some (.slice none 0 0) := (HO5.out.cell 3).trans rfl; have q3 : w5.frozen? ⟨w.heap.size, 3, none⟩ = false := HO5.out.frozen 3
  have l5 := HO5.out.lt
  clear hb5
  have HZ5 : Hid (Te.Rs (w5.alloc (.cells #[.int .i64 pk, .string ⟨ps.toArray⟩, .int .i64 pn, .slice none 0 0] 24)) b L (i + 1) 0) := Lib.hid (HR5.out.on ((Below.refl _ _).alloc (Nat.le_refl _) _))
  have HBD := Lib.hid (rbad_any HZ5.out 8)
  have HO6 : Hid (RowAt (w5.alloc (.cells #[.int .i64 pk, .string ⟨ps.toArray⟩, .int .i64 pn, .slice none 0 0] 24)) w.heap.size 24 #[.int .i64 0, .string ⟨#[]⟩, .int .i64 0, .slice none 0 0]) := Lib.hid (HO5.out.alloc _)
  have HK6 := Lib.hid (HK5.out.alloc (.cells #[.int .i64 pk, .string ⟨ps.toArray⟩, .int .i64 pn, .slice none 0 0] 24))
  go_wp2_with fail
  go_at_call 23
  refine HBD.out.mono ?_
  rintro e w7 ⟨rfl, hd7⟩
  have HD := Lib.hid hd7
  have ho7 := Te.beside HO6.out hd7.kp (by omega)
  clear p0 p1 p2 p3 q0 q1 q2 q3 l5
  have p0 : w7.cell? ⟨w.heap.size, 0, none⟩ = some (.int .i64 0) := (ho7.cell 0).trans rfl; have q0 : w7.frozen? ⟨w.heap.size, 0, none⟩ = false := ho7.frozen 0; have p1 : w7.cell? ⟨w.heap.size, 1, none⟩ = some (.string ⟨#[]⟩) := (ho7.cell 1).trans rfl; have q1 : w7.frozen? ⟨w.heap.size, 1, none⟩ = false := ho7.frozen 1; have p2 : w7.cell? ⟨w.heap.size, 2, none⟩ = some (.int .i64 0) := (ho7.cell 2).trans rfl; have q2 : w7.frozen? ⟨w.heap.size, 2, none⟩ = false := ho7.frozen 2; have p3 : w7.cell? ⟨w.heap.size, 3, none⟩ = some (.slice none 0 0) := (ho7.cell 3).trans rfl; have q3 : w7.frozen? ⟨w.heap.size, 3, none⟩ = false := ho7.frozen 3
  have l7 := ho7.lt
  have HK7 : Hid (Kp (fun i => i = b) w w7) := Lib.hid (HK6.out.trans hd7.kp fun _ _ e => e)
  clear hd7 ho7
  go_wp2_with fail
  refine bodyPost_ret ((Te.results_c1 rfl _ _ _).trans (by simp [go_sem, *]; rfl)) rfl ?_
  exact ⟨0, [], 0, [], .slice none 0 0, rfl, (((HK7.out.setCell _ (.inl (Nat.le_refl _)) _).setCell _ (.inl (Nat.le_refl _)) _).setCell _ (.inl (Nat.le_refl _)) _).setCell _ (.inl (Nat.le_refl _)) _, .inr ⟨i + 1, 8, by decide, HD.out.rs.far (((((Below.refl _ _).setCell (by show b + 1 ≤ w.heap.size; omega) _).setCell (by show b + 1 ≤ w.heap.size; omega) _).setCell (by show b + 1 ≤ w.heap.size; omega) _ |>.setCell (by show b + 1 ≤ w.heap.size; omega) _)), HQ.out, rfl, rfl, rfl, rfl, rfl⟩⟩

end Go.Proofs.YtojmcndiooiehaaGreatDoor
