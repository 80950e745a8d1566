/-
  TeExp: CONTRACTS: chapter 15: the program's expression.
-/
import Derived.Test.YtojmcndiooiehaaGreatDoorJ18

set_option linter.unusedSimpArgs false
set_option linter.unusedVariables false
namespace Go.Proofs.YtojmcndiooiehaaGreatDoor
open Go.RowKit
open Me

namespace Te
theorem wordN_form (s : List UInt8) : ∃ k t n, wordN s = .mk k t n [] := by
  unfold wordN word
  split
  · exact ⟨_, _, _, rfl⟩
  · split
    · exact ⟨_, _, _, rfl⟩
    · split
      · exact ⟨_, _, _, rfl⟩
      · split
        · exact ⟨_, _, _, rfl⟩
        · exact ⟨_, _, _, rfl⟩
theorem word_res {d : Nat} {t : List UInt8} {r : List Tok} (h : (Lx.identOf t && hd 3 r) = false) : (wordE t = 0 ∧ expr (d + 1) ((1, t) :: r) = .ok (wordN t, r)) ∨ (wordE t = 8 ∧ expr (d + 1) ((1, t) :: r) = .error 8 ∧ wordN t = nought) := by
  rw [expr_word d h]
  unfold wordE wordN
  cases word t with
  | none => exact .inr ⟨rfl, rfl, rfl⟩
  | some n => exact .inl ⟨rfl, rfl⟩
theorem expr_other {d : Nat} {l : List Tok} (h2 : (hdT l).1 ≠ 2) (h1 : (hdT l).1 ≠ 1) : expr (d + 1) l = .error 8 := by
  cases l with
  | nil => exact expr_none d
  | cons t r => exact expr_bad d t.2 r h2 h1
end Te

set_option maxRecDepth 100000 in
set_option maxHeartbeats 8000000 in
theorem texpr_zero : Te.ExprC 64 0 := by
  intro l b w hl h
  have hbl := h.lt
  have hb0 : b ≠ w.heap.size := by omega
  have x1 := h.c1.1
  have HP := Lib.hid h
  have HQ : Hid (Te.expr 0 l = .error 12) := Lib.hid (Te.expr_deep l)
  generalize Te.expr 0 l = res at *
  clear h hl
  go_enter Tryz.func32, Tryz.ntmps32
  go_wp2_with fail
  refine bodyPost_ret ((results_cell_tmp rfl _ _ _).trans (by simp [go_sem, *]; rfl)) rfl ?_
  refine ⟨0, [], 0, [], .slice none 0 0, 12, rfl, ?_, .inr ⟨by decide, HQ.out, rfl, rfl, rfl, rfl, rfl⟩⟩
  exact (Kp.refl _ _).alloc _

set_option maxRecDepth 100000 in
set_option maxHeartbeats 8000000 in
theorem texpr_str {c : Int} {d : Nat} (c0 : 0 ≤ c) (c1 : c ≤ 63) (l : List Te.Tok) (b : Nat) (w : World) (hl : Te.Small l) (h : Te.Ps w b l c) (h2 : (Te.hdT l).1 = 2) :
    Calls Tryz.prog 32 #[.pointer (some ⟨b, 0, none⟩)] w (Te.ExprR w b c (Te.expr (d + 1) l)) := by
  have hbl := h.lt
  have hb0 : b ≠ w.heap.size := by omega
  have hc64 : (c == 64) = false := by simp; omega
  have hc64' : c ≠ 64 := by omega
  obtain ⟨w0, hw0⟩ : ∃ w0, w0 = w.alloc (.cells #[.int .i64 0, .string ⟨#[]⟩, .int .i64 0, .slice none 0 0] 24) := ⟨_, rfl⟩
  have HB0 : Hid (Below w.heap.size w w0) := Lib.hid (by rw [hw0]; exact (Below.refl _ _).alloc (Nat.le_refl _) _)
  have HO0 : Hid (RowAt w0 w.heap.size 24 #[.int .i64 0, .string ⟨#[]⟩, .int .i64 0, .slice none 0 0]) := Lib.hid (by rw [hw0]; exact RowAt.new w _ _)
  have HP0 : Hid (Te.Ps w0 b l c) := Lib.hid (h.kp HB0.out)
  have x0 := h.c1.1
  have hs0 : w.heap.size + 1 = w0.heap.size := by rw [hw0]; simp
  have HN := Lib.hid (tnext_any HP0.out)
  have HSM := Lib.hid hl
  clear h hl
  have HQ : Hid (Te.expr (d + 1) l = .ok (.mk 4 (Te.hdT l).2 0 [], l.drop 1)) := Lib.hid (by
    cases l with
    | nil => cases h2
    | cons t r => obtain ⟨k, s⟩ := t; obtain rfl : k = 2 := h2; exact Te.expr_str d s r)
  generalize Te.expr (d + 1) l = res at *
  rw [h2] at HN
  generalize (Te.hdT l).2 = s at *
  clear h2
  go_enter Tryz.func32, Tryz.ntmps32
  go_wp2_with fail
  rw [← hw0]
  clear hw0
  go_at_call 54
  refine HN.out.mono ?_
  rintro e w1 ⟨rfl, hd1⟩
  have HD1 := Lib.hid hd1
  have ho1 := Te.beside HO0.out hd1.kp (by omega)
  have HO1 := Lib.hid ho1
  have p0 : w1.cell? ⟨w.heap.size, 0, none⟩ = some (.int .i64 0) := (ho1.cell 0).trans rfl; have q0 : w1.frozen? ⟨w.heap.size, 0, none⟩ = false := ho1.frozen 0; have p1 : w1.cell? ⟨w.heap.size, 1, none⟩ = some (.string ⟨#[]⟩) := (ho1.cell 1).trans rfl; have q1 : w1.frozen? ⟨w.heap.size, 1, none⟩ = false := ho1.frozen 1; have p2 : w1.cell? ⟨w.heap.size, 2, none⟩ = some (.int .i64 0) := (ho1.cell 2).trans rfl; have q2 : w1.frozen? ⟨w.heap.size, 2, none⟩ = false := ho1.frozen 2; have p3 : w1.cell? ⟨w.heap.size, 3, none⟩ = some (.slice none 0 0) := (ho1.cell 3).trans rfl; have q3 : w1.frozen? ⟨w.heap.size, 3, none⟩ = false := ho1.frozen 3
  have l1 := ho1.lt
  have HK1 : Hid (Kp (fun i => i = b) w w1) := Lib.hid ((Kp.of_below HB0.out).trans hd1.kp fun _ _ e => e)
  clear hd1 ho1
  go_wp2_with fail
  refine bodyPost_ret ((results_cell_tmp rfl _ _ _).trans (by simp [go_sem, *]; rfl)) rfl ?_
  refine ⟨4, s, 0, [], .slice none 0 0, 0, rfl, ?_, .inl ⟨rfl, l.drop 1, HQ.out, ?_, Te.At.zero _ _ _ _ _⟩⟩
  · exact ((((HK1.out.setCell _ (.inl (Nat.le_refl _)) _).setCell _ (.inl (Nat.le_refl _)) _).setCell _ (.inl (Nat.le_refl _)) _).setCell _ (.inl (Nat.le_refl _)) _).alloc _
  · exact HD1.out.ps.far (((((Below.refl _ _).setCell (by show b + 1 ≤ w.heap.size; omega) _).setCell (by show b + 1 ≤ w.heap.size; omega) _).setCell (by show b + 1 ≤ w.heap.size; omega) _ |>.setCell (by show b + 1 ≤ w.heap.size; omega) _).alloc (by simp; omega) _)

set_option maxRecDepth 100000 in
set_option maxHeartbeats 8000000 in
theorem texpr_bad {c : Int} {d : Nat} (c0 : 0 ≤ c) (c1 : c ≤ 63) (l : List Te.Tok) (b : Nat) (w : World) (hl : Te.Small l) (h : Te.Ps w b l c) (h2 : (Te.hdT l).1 ≠ 2) (h1 : (Te.hdT l).1 ≠ 1) :
    Calls Tryz.prog 32 #[.pointer (some ⟨b, 0, none⟩)] w (Te.ExprR w b c (Te.expr (d + 1) l)) := by
  have hbl := h.lt
  have hb0 : b ≠ w.heap.size := by omega
  have hc64 : (c == 64) = false := by simp; omega
  have hc64' : c ≠ 64 := by omega
  obtain ⟨w0, hw0⟩ : ∃ w0, w0 = w.alloc (.cells #[.int .i64 0, .string ⟨#[]⟩, .int .i64 0, .slice none 0 0] 24) := ⟨_, rfl⟩
  have HB0 : Hid (Below w.heap.size w w0) := Lib.hid (by rw [hw0]; exact (Below.refl _ _).alloc (Nat.le_refl _) _)
  have HO0 : Hid (RowAt w0 w.heap.size 24 #[.int .i64 0, .string ⟨#[]⟩, .int .i64 0, .slice none 0 0]) := Lib.hid (by rw [hw0]; exact RowAt.new w _ _)
  have HP0 : Hid (Te.Ps w0 b l c) := Lib.hid (h.kp HB0.out)
  have x0 := h.c1.1
  have hs0 : w.heap.size + 1 = w0.heap.size := by rw [hw0]; simp
  have HN := Lib.hid (tnext_any HP0.out)
  have HSM := Lib.hid hl
  clear h hl
  have HQ : Hid (Te.expr (d + 1) l = .error 8) := Lib.hid (Te.expr_other h2 h1)
  generalize Te.expr (d + 1) l = res at *
  generalize (Te.hdT l).2 = s at *
  generalize (Te.hdT l).1 = k at *
  have b2 : (k == 2) = false := by simpa using h2
  have b1 : (k == 1) = false := by simpa using h1
  go_enter Tryz.func32, Tryz.ntmps32
  go_wp2_with fail
  rw [← hw0]
  clear hw0
  go_at_call 54
  refine HN.out.mono ?_
  rintro e w1 ⟨rfl, hd1⟩
  have HD1 := Lib.hid hd1
  have ho1 := Te.beside HO0.out hd1.kp (by omega)
  have HO1 := Lib.hid ho1
  have p0 : w1.cell? ⟨w.heap.size, 0, none⟩ = some (.int .i64 0) := (ho1.cell 0).trans rfl; have q0 : w1.frozen? ⟨w.heap.size, 0, none⟩ = false := ho1.frozen 0; have p1 : w1.cell? ⟨w.heap.size, 1, none⟩ = some (.string ⟨#[]⟩) := (ho1.cell 1).trans rfl; have q1 : w1.frozen? ⟨w.heap.size, 1, none⟩ = false := ho1.frozen 1; have p2 : w1.cell? ⟨w.heap.size, 2, none⟩ = some (.int .i64 0) := (ho1.cell 2).trans rfl; have q2 : w1.frozen? ⟨w.heap.size, 2, none⟩ = false := ho1.frozen 2; have p3 : w1.cell? ⟨w.heap.size, 3, none⟩ = some (.slice none 0 0) := (ho1.cell 3).trans rfl; have q3 : w1.frozen? ⟨w.heap.size, 3, none⟩ = false := ho1.frozen 3
  have l1 := ho1.lt
  have HK1 : Hid (Kp (fun i => i = b) w w1) := Lib.hid ((Kp.of_below HB0.out).trans hd1.kp fun _ _ e => e)
  clear hd1 ho1
  go_wp2_with fail
  refine bodyPost_ret ((results_cell_tmp rfl _ _ _).trans (by simp [go_sem, *]; rfl)) rfl ?_
  refine ⟨0, [], 0, [], .slice none 0 0, 8, rfl, ?_, .inr ⟨by decide, HQ.out, rfl, rfl, rfl, rfl, rfl⟩⟩
  exact ((((HK1.out.setCell _ (.inl (Nat.le_refl _)) _).setCell _ (.inl (Nat.le_refl _)) _).setCell _ (.inl (Nat.le_refl _)) _).setCell _ (.inl (Nat.le_refl _)) _).alloc _

set_option maxRecDepth 100000 in
set_option maxHeartbeats 8000000 in
theorem texpr_plain1 {c : Int} {d : Nat} (c0 : 0 ≤ c) (c1 : c ≤ 63) (t : List UInt8) (r : List Te.Tok) (b : Nat) (w : World) (hl : Te.Small ((1, t) :: r)) (h : Te.Ps w b ((1, t) :: r) c) (hi : Lx.identOf t = false) :
    Calls Tryz.prog 32 #[.pointer (some ⟨b, 0, none⟩)] w (Te.ExprR w b c (Te.expr (d + 1) ((1, t) :: r))) := by
  have hbl := h.lt
  have hb0 : b ≠ w.heap.size := by omega
  have hc64 : (c == 64) = false := by simp; omega
  have hc64' : c ≠ 64 := by omega
  obtain ⟨w0, hw0⟩ : ∃ w0, w0 = w.alloc (.cells #[.int .i64 0, .string ⟨#[]⟩, .int .i64 0, .slice none 0 0] 24) := ⟨_, rfl⟩
  have HB0 : Hid (Below w.heap.size w w0) := Lib.hid (by rw [hw0]; exact (Below.refl _ _).alloc (Nat.le_refl _) _)
  have HO0 : Hid (RowAt w0 w.heap.size 24 #[.int .i64 0, .string ⟨#[]⟩, .int .i64 0, .slice none 0 0]) := Lib.hid (by rw [hw0]; exact RowAt.new w _ _)
  have HP0 : Hid (Te.Ps w0 b ((1, t) :: r) c) := Lib.hid (h.kp HB0.out)
  have x0 := h.c1.1
  have hs0 : w.heap.size + 1 = w0.heap.size := by rw [hw0]; simp
  have HN := Lib.hid (tnext_any HP0.out)
  have HSM := Lib.hid hl
  clear h hl
  have HW := Lib.hid (Te.word_res (d := d) (t := t) (r := r) (by rw [hi]; rfl))
  generalize Te.expr (d + 1) ((1, t) :: r) = res at *
  have HN : Hid (Calls Tryz.prog 54 #[.pointer (some ⟨b, 0, none⟩)] w0 fun e w' => e = .returned (.agg #[.int .i64 1, .string ⟨t.toArray⟩]) ∧ Te.PsD w0 b r c w') := HN
  have htl : t.length ≤ 4096 := HSM.out.2 (1, t) (by simp)
  have HI := Lib.hid fun W => ident_any t (by omega) W
  rw [hi] at HI
  clear hi
  have HPL : Hid (∀ W, Calls Tryz.prog 57 #[.string ⟨t.toArray⟩] W fun e w' => e = .returned (.tuple #[.agg #[.int .i64 (Te.wordN t).k, .string ⟨(Te.wordN t).s.toArray⟩, .int .i64 (Te.wordN t).n, .slice none 0 0], .int .i64 (Te.wordE t)]) ∧ Below W.heap.size W w') := Lib.hid fun W => tplain_any t (by omega) W
  obtain ⟨pk, ps, pn, hF⟩ := Te.wordN_form t
  have HF := Lib.hid hF
  rw [hF] at HPL
  have HPL : Hid (∀ W, Calls Tryz.prog 57 #[.string ⟨t.toArray⟩] W fun e w' => e = .returned (.tuple #[.agg #[.int .i64 pk, .string ⟨ps.toArray⟩, .int .i64 pn, .slice none 0 0], .int .i64 (Te.wordE t)]) ∧ Below W.heap.size W w') := HPL
  generalize Te.wordE t = pe at *
  clear hF
  go_enter Tryz.func32, Tryz.ntmps32
  go_wp2_with fail
  rw [← hw0]
  clear hw0
  go_at_call 54
  refine HN.out.mono ?_
  rintro e w1 ⟨rfl, hd1⟩
  have HD1 := Lib.hid hd1
  have ho1 := Te.beside HO0.out hd1.kp (by omega)
  have HO1 := Lib.hid ho1
  have p0 : w1.cell? ⟨w.heap.size, 0, none⟩ = some (.int .i64 0) := (ho1.cell 0).trans rfl; have q0 : w1.frozen? ⟨w.heap.size, 0, none⟩ = false := ho1.frozen 0; have p1 : w1.cell? ⟨w.heap.size, 1, none⟩ = some (.string ⟨#[]⟩) := (ho1.cell 1).trans rfl; have q1 : w1.frozen? ⟨w.heap.size, 1, none⟩ = false := ho1.frozen 1; have p2 : w1.cell? ⟨w.heap.size, 2, none⟩ = some (.int .i64 0) := (ho1.cell 2).trans rfl; have q2 : w1.frozen? ⟨w.heap.size, 2, none⟩ = false := ho1.frozen 2; have p3 : w1.cell? ⟨w.heap.size, 3, none⟩ = some (.slice none 0 0) := (ho1.cell 3).trans rfl; have q3 : w1.frozen? ⟨w.heap.size, 3, none⟩ = false := ho1.frozen 3
  have l1 := ho1.lt
  have HK1 : Hid (Kp (fun i => i = b) w w1) := Lib.hid ((Kp.of_below HB0.out).trans hd1.kp fun _ _ e => e)
  clear hd1 ho1
  have HRT : Hid (RowAt (w1.alloc (.cells #[.int .i64 1, .string ⟨t.toArray⟩] 67)) w1.heap.size 67 #[.int .i64 1, .string ⟨t.toArray⟩]) := Lib.hid (RowAt.new w1 _ _)
  have HRO : Hid (RowAt (w1.alloc (.cells #[.int .i64 1, .string ⟨t.toArray⟩] 67)) w.heap.size 24 #[.int .i64 0, .string ⟨#[]⟩, .int .i64 0, .slice none 0 0]) := Lib.hid (HO1.out.alloc _)
  have HDT : Hid (Te.PsD w0 b r c (w1.alloc (.cells #[.int .i64 1, .string ⟨t.toArray⟩] 67))) := Lib.hid (HD1.out.on ((Below.refl _ _).alloc (Nat.le_refl _) _))
  have HKT : Hid (Kp (fun i => i = b) w (w1.alloc (.cells #[.int .i64 1, .string ⟨t.toArray⟩] 67))) := Lib.hid (HK1.out.alloc _)
  go_wp2_with (go_at_call 44; go_must (refine (HI.out _).mono ?_; rintro e wi ⟨rfl, rfl⟩))
  have HDP := HDT
  have HROP := HRO
  have HKP := HKT
  go_at_call 57
  refine (HPL.out _).mono ?_
  rintro e w3 ⟨rfl, hb3⟩
  have HB3 := Lib.hid hb3
  have ho3 := HROP.out.below hb3 HROP.out.lt
  have p0 : w3.cell? ⟨w.heap.size, 0, none⟩ = some (.int .i64 0) := (ho3.cell 0).trans rfl; have q0 : w3.frozen? ⟨w.heap.size, 0, none⟩ = false := ho3.frozen 0; have p1 : w3.cell? ⟨w.heap.size, 1, none⟩ = some (.string ⟨#[]⟩) := (ho3.cell 1).trans rfl; have q1 : w3.frozen? ⟨w.heap.size, 1, none⟩ = false := ho3.frozen 1; have p2 : w3.cell? ⟨w.heap.size, 2, none⟩ = some (.int .i64 0) := (ho3.cell 2).trans rfl; have q2 : w3.frozen? ⟨w.heap.size, 2, none⟩ = false := ho3.frozen 2; have p3 : w3.cell? ⟨w.heap.size, 3, none⟩ = some (.slice none 0 0) := (ho3.cell 3).trans rfl; have q3 : w3.frozen? ⟨w.heap.size, 3, none⟩ = false := ho3.frozen 3
  have l3 := ho3.lt
  clear hb3 ho3
  go_wp2_with fail
  refine bodyPost_ret ((results_cell_tmp rfl _ _ _).trans (by simp [go_sem, *]; rfl)) rfl ?_
  have k3 : Kp (fun i => i = b) w w3 := HKP.out.trans (Kp.of_below (O := fun _ => False) HB3.out) fun _ _ e => e.elim
  refine ⟨pk, ps, pn, [], .slice none 0 0, pe, rfl, (((k3.setCell _ (.inl (Nat.le_refl _)) _).setCell _ (.inl (Nat.le_refl _)) _).setCell _ (.inl (Nat.le_refl _)) _).setCell _ (.inl (Nat.le_refl _)) _, ?_⟩
  rcases HW.out with ⟨e1, e2⟩ | ⟨e1, e2, e3⟩
  · exact .inl ⟨e1, r, by rw [e2, HF.out], (HDP.out.ps.kp HB3.out).far (((((Below.refl _ _).setCell (by show b + 1 ≤ w.heap.size; omega) _).setCell (by show b + 1 ≤ w.heap.size; omega) _).setCell (by show b + 1 ≤ w.heap.size; omega) _ |>.setCell (by show b + 1 ≤ w.heap.size; omega) _)), Te.At.zero _ _ _ _ _⟩
  · have e4 := HF.out
    rw [e3] at e4
    injection e4 with f1 f2 f3 f4
    exact .inr ⟨by rw [e1]; decide, by rw [e1, e2], f1.symm, f2.symm, f3.symm, rfl, rfl⟩

set_option maxRecDepth 100000 in
set_option maxHeartbeats 8000000 in
theorem texpr_plain2 {c : Int} {d : Nat} (c0 : 0 ≤ c) (c1 : c ≤ 63) (t : List UInt8) (r : List Te.Tok) (b : Nat) (w : World) (hl : Te.Small ((1, t) :: r)) (h : Te.Ps w b ((1, t) :: r) c) (hi : Lx.identOf t = true) (h3 : Te.hd 3 r = false) :
    Calls Tryz.prog 32 #[.pointer (some ⟨b, 0, none⟩)] w (Te.ExprR w b c (Te.expr (d + 1) ((1, t) :: r))) := by
  have hbl := h.lt
  have hb0 : b ≠ w.heap.size := by omega
  have hc64 : (c == 64) = false := by simp; omega
  have hc64' : c ≠ 64 := by omega
  obtain ⟨w0, hw0⟩ : ∃ w0, w0 = w.alloc (.cells #[.int .i64 0, .string ⟨#[]⟩, .int .i64 0, .slice none 0 0] 24) := ⟨_, rfl⟩
  have HB0 : Hid (Below w.heap.size w w0) := Lib.hid (by rw [hw0]; exact (Below.refl _ _).alloc (Nat.le_refl _) _)
  have HO0 : Hid (RowAt w0 w.heap.size 24 #[.int .i64 0, .string ⟨#[]⟩, .int .i64 0, .slice none 0 0]) := Lib.hid (by rw [hw0]; exact RowAt.new w _ _)
  have HP0 : Hid (Te.Ps w0 b ((1, t) :: r) c) := Lib.hid (h.kp HB0.out)
  have x0 := h.c1.1
  have hs0 : w.heap.size + 1 = w0.heap.size := by rw [hw0]; simp
  have HN := Lib.hid (tnext_any HP0.out)
  have HSM := Lib.hid hl
  clear h hl
  have HW := Lib.hid (Te.word_res (d := d) (t := t) (r := r) (by rw [hi, h3]; rfl))
  generalize Te.expr (d + 1) ((1, t) :: r) = res at *
  have HN : Hid (Calls Tryz.prog 54 #[.pointer (some ⟨b, 0, none⟩)] w0 fun e w' => e = .returned (.agg #[.int .i64 1, .string ⟨t.toArray⟩]) ∧ Te.PsD w0 b r c w') := HN
  have htl : t.length ≤ 4096 := HSM.out.2 (1, t) (by simp)
  have HI := Lib.hid fun W => ident_any t (by omega) W
  rw [hi] at HI
  clear hi
  have HPL : Hid (∀ W, Calls Tryz.prog 57 #[.string ⟨t.toArray⟩] W fun e w' => e = .returned (.tuple #[.agg #[.int .i64 (Te.wordN t).k, .string ⟨(Te.wordN t).s.toArray⟩, .int .i64 (Te.wordN t).n, .slice none 0 0], .int .i64 (Te.wordE t)]) ∧ Below W.heap.size W w') := Lib.hid fun W => tplain_any t (by omega) W
  obtain ⟨pk, ps, pn, hF⟩ := Te.wordN_form t
  have HF := Lib.hid hF
  rw [hF] at HPL
  have HPL : Hid (∀ W, Calls Tryz.prog 57 #[.string ⟨t.toArray⟩] W fun e w' => e = .returned (.tuple #[.agg #[.int .i64 pk, .string ⟨ps.toArray⟩, .int .i64 pn, .slice none 0 0], .int .i64 (Te.wordE t)]) ∧ Below W.heap.size W w') := HPL
  generalize Te.wordE t = pe at *
  clear hF
  have HT : Hid (∀ W, Te.Ps W b r c → Calls Tryz.prog 55 #[.pointer (some ⟨b, 0, none⟩), .int .i64 3] W fun e w' => e = .returned (.bool false) ∧ Te.PsD W b r c w') := Lib.hid fun W h => by
    have := ttakes_any h 3
    rw [h3, if_neg (by simp)] at this
    exact this
  clear h3
  go_enter Tryz.func32, Tryz.ntmps32
  go_wp2_with fail
  rw [← hw0]
  clear hw0
  go_at_call 54
  refine HN.out.mono ?_
  rintro e w1 ⟨rfl, hd1⟩
  have HD1 := Lib.hid hd1
  have ho1 := Te.beside HO0.out hd1.kp (by omega)
  have HO1 := Lib.hid ho1
  have p0 : w1.cell? ⟨w.heap.size, 0, none⟩ = some (.int .i64 0) := (ho1.cell 0).trans rfl; have q0 : w1.frozen? ⟨w.heap.size, 0, none⟩ = false := ho1.frozen 0; have p1 : w1.cell? ⟨w.heap.size, 1, none⟩ = some (.string ⟨#[]⟩) := (ho1.cell 1).trans rfl; have q1 : w1.frozen? ⟨w.heap.size, 1, none⟩ = false := ho1.frozen 1; have p2 : w1.cell? ⟨w.heap.size, 2, none⟩ = some (.int .i64 0) := (ho1.cell 2).trans rfl; have q2 : w1.frozen? ⟨w.heap.size, 2, none⟩ = false := ho1.frozen 2; have p3 : w1.cell? ⟨w.heap.size, 3, none⟩ = some (.slice none 0 0) := (ho1.cell 3).trans rfl; have q3 : w1.frozen? ⟨w.heap.size, 3, none⟩ = false := ho1.frozen 3
  have l1 := ho1.lt
  have HK1 : Hid (Kp (fun i => i = b) w w1) := Lib.hid ((Kp.of_below HB0.out).trans hd1.kp fun _ _ e => e)
  clear hd1 ho1
  have HRT : Hid (RowAt (w1.alloc (.cells #[.int .i64 1, .string ⟨t.toArray⟩] 67)) w1.heap.size 67 #[.int .i64 1, .string ⟨t.toArray⟩]) := Lib.hid (RowAt.new w1 _ _)
  have HRO : Hid (RowAt (w1.alloc (.cells #[.int .i64 1, .string ⟨t.toArray⟩] 67)) w.heap.size 24 #[.int .i64 0, .string ⟨#[]⟩, .int .i64 0, .slice none 0 0]) := Lib.hid (HO1.out.alloc _)
  have HDT : Hid (Te.PsD w0 b r c (w1.alloc (.cells #[.int .i64 1, .string ⟨t.toArray⟩] 67))) := Lib.hid (HD1.out.on ((Below.refl _ _).alloc (Nat.le_refl _) _))
  have HKT : Hid (Kp (fun i => i = b) w (w1.alloc (.cells #[.int .i64 1, .string ⟨t.toArray⟩] 67))) := Lib.hid (HK1.out.alloc _)
  go_wp2_with (go_at_call 44; go_must (refine (HI.out _).mono ?_; rintro e wi ⟨rfl, rfl⟩))
  go_at_call 55
  refine (HT.out _ HDT.out.ps).mono ?_
  rintro e w2 ⟨rfl, hd2⟩
  have HDP := Lib.hid (HDT.out.trans hd2)
  have hb1 : b ≠ w1.heap.size := by omega
  have hr2 := Te.beside HRT.out hd2.kp (by omega)
  have HROP := Lib.hid (Te.beside HRO.out hd2.kp (by omega))
  have HKP : Hid (Kp (fun i => i = b) w w2) := Lib.hid (HKT.out.trans hd2.kp fun _ _ e => e)
  have z1 : w2.cell? ⟨w1.heap.size, 1, none⟩ = some (.string ⟨t.toArray⟩) := (hr2.cell 1).trans rfl
  clear hd2 hr2
  go_wp2_with fail
  go_at_call 57
  refine (HPL.out _).mono ?_
  rintro e w3 ⟨rfl, hb3⟩
  have HB3 := Lib.hid hb3
  have ho3 := HROP.out.below hb3 HROP.out.lt
  have p0 : w3.cell? ⟨w.heap.size, 0, none⟩ = some (.int .i64 0) := (ho3.cell 0).trans rfl; have q0 : w3.frozen? ⟨w.heap.size, 0, none⟩ = false := ho3.frozen 0; have p1 : w3.cell? ⟨w.heap.size, 1, none⟩ = some (.string ⟨#[]⟩) := (ho3.cell 1).trans rfl; have q1 : w3.frozen? ⟨w.heap.size, 1, none⟩ = false := ho3.frozen 1; have p2 : w3.cell? ⟨w.heap.size, 2, none⟩ = some (.int .i64 0) := (ho3.cell 2).trans rfl; have q2 : w3.frozen? ⟨w.heap.size, 2, none⟩ = false := ho3.frozen 2; have p3 : w3.cell? ⟨w.heap.size, 3, none⟩ = some (.slice none 0 0) := (ho3.cell 3).trans rfl; have q3 : w3.frozen? ⟨w.heap.size, 3, none⟩ = false := ho3.frozen 3
  have l3 := ho3.lt
  clear hb3 ho3
  go_wp2_with fail
  refine bodyPost_ret ((results_cell_tmp rfl _ _ _).trans (by simp [go_sem, *]; rfl)) rfl ?_
  have k3 : Kp (fun i => i = b) w w3 := HKP.out.trans (Kp.of_below (O := fun _ => False) HB3.out) fun _ _ e => e.elim
  refine ⟨pk, ps, pn, [], .slice none 0 0, pe, rfl, (((k3.setCell _ (.inl (Nat.le_refl _)) _).setCell _ (.inl (Nat.le_refl _)) _).setCell _ (.inl (Nat.le_refl _)) _).setCell _ (.inl (Nat.le_refl _)) _, ?_⟩
  rcases HW.out with ⟨e1, e2⟩ | ⟨e1, e2, e3⟩
  · exact .inl ⟨e1, r, by rw [e2, HF.out], (HDP.out.ps.kp HB3.out).far (((((Below.refl _ _).setCell (by show b + 1 ≤ w.heap.size; omega) _).setCell (by show b + 1 ≤ w.heap.size; omega) _).setCell (by show b + 1 ≤ w.heap.size; omega) _ |>.setCell (by show b + 1 ≤ w.heap.size; omega) _)), Te.At.zero _ _ _ _ _⟩
  · have e4 := HF.out
    rw [e3] at e4
    injection e4 with f1 f2 f3 f4
    exact .inr ⟨by rw [e1]; decide, by rw [e1, e2], f1.symm, f2.symm, f3.symm, rfl, rfl⟩

set_option maxRecDepth 100000 in
set_option maxHeartbeats 8000000 in
theorem texpr_call {c : Int} {d : Nat} (c0 : 0 ≤ c) (c1 : c ≤ 63) (hX : Te.ExprC (c + 1) d) (t : List UInt8) (r : List Te.Tok) (b : Nat) (w : World) (hl : Te.Small ((1, t) :: r)) (h : Te.Ps w b ((1, t) :: r) c) (hi : Lx.identOf t = true) (h3 : Te.hd 3 r = true) :
    Calls Tryz.prog 32 #[.pointer (some ⟨b, 0, none⟩)] w (Te.ExprR w b c (Te.expr (d + 1) ((1, t) :: r))) := by
  have hbl := h.lt
  have hb0 : b ≠ w.heap.size := by omega
  have hc64 : (c == 64) = false := by simp; omega
  have hc64' : c ≠ 64 := by omega
  obtain ⟨w0, hw0⟩ : ∃ w0, w0 = w.alloc (.cells #[.int .i64 0, .string ⟨#[]⟩, .int .i64 0, .slice none 0 0] 24) := ⟨_, rfl⟩
  have HB0 : Hid (Below w.heap.size w w0) := Lib.hid (by rw [hw0]; exact (Below.refl _ _).alloc (Nat.le_refl _) _)
  have HO0 : Hid (RowAt w0 w.heap.size 24 #[.int .i64 0, .string ⟨#[]⟩, .int .i64 0, .slice none 0 0]) := Lib.hid (by rw [hw0]; exact RowAt.new w _ _)
  have HP0 : Hid (Te.Ps w0 b ((1, t) :: r) c) := Lib.hid (h.kp HB0.out)
  have x0 := h.c1.1
  have hs0 : w.heap.size + 1 = w0.heap.size := by rw [hw0]; simp
  have HN := Lib.hid (tnext_any HP0.out)
  have HSM := Lib.hid hl
  clear h hl
  have HQ : Hid (Te.expr (d + 1) ((1, t) :: r) = Te.callRes d t (r.drop 1)) := Lib.hid (by
    unfold Te.callRes
    split
    · rename_i h4; exact Te.expr_empty d hi h3 h4
    · rename_i h4; exact Te.expr_call d hi h3 (by simpa using h4))
  have HC := Lib.hid fun (W : World) (hW : Te.Ps W b (r.drop 1) c) => tcall_any c0 c1 hX t (r.drop 1) b W HSM.out.drop.drop hW
  generalize Te.expr (d + 1) ((1, t) :: r) = res at *
  rw [← HQ.out] at HC
  have HN : Hid (Calls Tryz.prog 54 #[.pointer (some ⟨b, 0, none⟩)] w0 fun e w' => e = .returned (.agg #[.int .i64 1, .string ⟨t.toArray⟩]) ∧ Te.PsD w0 b r c w') := HN
  have htl : t.length ≤ 4096 := HSM.out.2 (1, t) (by simp)
  have HI := Lib.hid fun W => ident_any t (by omega) W
  rw [hi] at HI
  have HT : Hid (∀ W, Te.Ps W b r c → Calls Tryz.prog 55 #[.pointer (some ⟨b, 0, none⟩), .int .i64 3] W fun e w' => e = .returned (.bool true) ∧ Te.PsD W b (r.drop 1) c w') := Lib.hid fun W h => by
    have := ttakes_any h 3
    rw [h3, if_pos rfl] at this
    exact this
  clear h3 hi hX HQ
  go_enter Tryz.func32, Tryz.ntmps32
  go_wp2_with fail
  rw [← hw0]
  clear hw0
  go_at_call 54
  refine HN.out.mono ?_
  rintro e w1 ⟨rfl, hd1⟩
  have HD1 := Lib.hid hd1
  have ho1 := Te.beside HO0.out hd1.kp (by omega)
  have HO1 := Lib.hid ho1
  have p0 : w1.cell? ⟨w.heap.size, 0, none⟩ = some (.int .i64 0) := (ho1.cell 0).trans rfl; have q0 : w1.frozen? ⟨w.heap.size, 0, none⟩ = false := ho1.frozen 0; have p1 : w1.cell? ⟨w.heap.size, 1, none⟩ = some (.string ⟨#[]⟩) := (ho1.cell 1).trans rfl; have q1 : w1.frozen? ⟨w.heap.size, 1, none⟩ = false := ho1.frozen 1; have p2 : w1.cell? ⟨w.heap.size, 2, none⟩ = some (.int .i64 0) := (ho1.cell 2).trans rfl; have q2 : w1.frozen? ⟨w.heap.size, 2, none⟩ = false := ho1.frozen 2; have p3 : w1.cell? ⟨w.heap.size, 3, none⟩ = some (.slice none 0 0) := (ho1.cell 3).trans rfl; have q3 : w1.frozen? ⟨w.heap.size, 3, none⟩ = false := ho1.frozen 3
  have l1 := ho1.lt
  have HK1 : Hid (Kp (fun i => i = b) w w1) := Lib.hid ((Kp.of_below HB0.out).trans hd1.kp fun _ _ e => e)
  clear hd1 ho1
  have HRT : Hid (RowAt (w1.alloc (.cells #[.int .i64 1, .string ⟨t.toArray⟩] 67)) w1.heap.size 67 #[.int .i64 1, .string ⟨t.toArray⟩]) := Lib.hid (RowAt.new w1 _ _)
  have HRO : Hid (RowAt (w1.alloc (.cells #[.int .i64 1, .string ⟨t.toArray⟩] 67)) w.heap.size 24 #[.int .i64 0, .string ⟨#[]⟩, .int .i64 0, .slice none 0 0]) := Lib.hid (HO1.out.alloc _)
  have HDT : Hid (Te.PsD w0 b r c (w1.alloc (.cells #[.int .i64 1, .string ⟨t.toArray⟩] 67))) := Lib.hid (HD1.out.on ((Below.refl _ _).alloc (Nat.le_refl _) _))
  have HKT : Hid (Kp (fun i => i = b) w (w1.alloc (.cells #[.int .i64 1, .string ⟨t.toArray⟩] 67))) := Lib.hid (HK1.out.alloc _)
  go_wp2_with (go_at_call 44; go_must (refine (HI.out _).mono ?_; rintro e wi ⟨rfl, rfl⟩))
  go_at_call 55
  refine (HT.out _ HDT.out.ps).mono ?_
  rintro e w2 ⟨rfl, hd2⟩
  have HDP := Lib.hid (HDT.out.trans hd2)
  have hb1 : b ≠ w1.heap.size := by omega
  have hr2 := Te.beside HRT.out hd2.kp (by omega)
  have HROP := Lib.hid (Te.beside HRO.out hd2.kp (by omega))
  have HKP : Hid (Kp (fun i => i = b) w w2) := Lib.hid (HKT.out.trans hd2.kp fun _ _ e => e)
  have z1 : w2.cell? ⟨w1.heap.size, 1, none⟩ = some (.string ⟨t.toArray⟩) := (hr2.cell 1).trans rfl
  clear hd2 hr2
  go_wp2_with fail
  go_at_call 56
  refine (HC.out _ HDP.out.ps).mono ?_
  rintro e w3 ⟨k, s, n, ks, v, er, rfl, hk3, hres⟩
  have ho3 := Te.beside HROP.out hk3 (by omega)
  have p0 : w3.cell? ⟨w.heap.size, 0, none⟩ = some (.int .i64 0) := (ho3.cell 0).trans rfl; have q0 : w3.frozen? ⟨w.heap.size, 0, none⟩ = false := ho3.frozen 0; have p1 : w3.cell? ⟨w.heap.size, 1, none⟩ = some (.string ⟨#[]⟩) := (ho3.cell 1).trans rfl; have q1 : w3.frozen? ⟨w.heap.size, 1, none⟩ = false := ho3.frozen 1; have p2 : w3.cell? ⟨w.heap.size, 2, none⟩ = some (.int .i64 0) := (ho3.cell 2).trans rfl; have q2 : w3.frozen? ⟨w.heap.size, 2, none⟩ = false := ho3.frozen 2; have p3 : w3.cell? ⟨w.heap.size, 3, none⟩ = some (.slice none 0 0) := (ho3.cell 3).trans rfl; have q3 : w3.frozen? ⟨w.heap.size, 3, none⟩ = false := ho3.frozen 3
  have l3 := ho3.lt
  have HK3 : Hid (Kp (fun i => i = b) w w3) := Lib.hid (HKP.out.trans hk3 fun _ _ e => e)
  have h02 : w.heap.size < w2.heap.size := HROP.out.lt
  clear hk3 ho3
  rcases hres with ⟨rfl, q, hr, hps, hat⟩ | ⟨hne, hr, rfl, rfl, rfl, rfl, rfl⟩
  · obtain ⟨Ak, ck, xk, rfl, _, _⟩ := hat.form
    have HR := Lib.hid hr
    have HPS := Lib.hid hps
    have HA := Lib.hid hat
    clear hr hps hat
    go_wp2_with fail
    refine bodyPost_ret ((results_cell_tmp rfl _ _ _).trans (by simp [go_sem, *]; rfl)) rfl ?_
    refine ⟨k, s, n, ks, _, 0, rfl, (((HK3.out.setCell _ (.inl (Nat.le_refl _)) _).setCell _ (.inl (Nat.le_refl _)) _).setCell _ (.inl (Nat.le_refl _)) _).setCell _ (.inl (Nat.le_refl _)) _, .inl ⟨rfl, q, HR.out, HPS.out.far (((((Below.refl _ _).setCell (by show b + 1 ≤ w.heap.size; omega) _).setCell (by show b + 1 ≤ w.heap.size; omega) _).setCell (by show b + 1 ≤ w.heap.size; omega) _ |>.setCell (by show b + 1 ≤ w.heap.size; omega) _)), ?_⟩⟩
    refine (HA.out.kp (O := fun i => i = w.heap.size) (((((Kp.refl (fun i => i = w.heap.size) w3).setCell ⟨w.heap.size, 0, none⟩ (.inr rfl) _).setCell ⟨w.heap.size, 1, none⟩ (.inr rfl) _).setCell ⟨w.heap.size, 2, none⟩ (.inr rfl) _).setCell ⟨w.heap.size, 3, none⟩ (.inr rfl) _) fun i _ hi e => ?_).mono fun i _ hi => ?_
    · have hi : w2.heap.size ≤ i := hi
      have e : i = w.heap.size := e
      omega
    · have hi : w2.heap.size ≤ i := hi
      show w.heap.size ≤ i
      omega
  · have HR := Lib.hid hr
    have HE := Lib.hid hne
    clear hr hne
    go_wp2_with fail
    refine bodyPost_ret ((results_cell_tmp rfl _ _ _).trans (by simp [go_sem, *]; rfl)) rfl ?_
    exact ⟨0, [], 0, [], .slice none 0 0, er, rfl, (((HK3.out.setCell _ (.inl (Nat.le_refl _)) _).setCell _ (.inl (Nat.le_refl _)) _).setCell _ (.inl (Nat.le_refl _)) _).setCell _ (.inl (Nat.le_refl _)) _, .inr ⟨HE.out, HR.out, rfl, rfl, rfl, rfl, rfl⟩⟩

theorem texpr_succ {c : Int} {d : Nat} (c0 : 0 ≤ c) (c1 : c ≤ 63) (hX : Te.ExprC (c + 1) d) : Te.ExprC c (d + 1) := by
  intro l b w hl h
  by_cases h2 : (Te.hdT l).1 = 2
  · exact texpr_str c0 c1 l b w hl h h2
  by_cases h1 : (Te.hdT l).1 = 1
  · cases l with
    | nil => cases h1
    | cons x r =>
      obtain ⟨k, t⟩ := x
      obtain rfl : k = 1 := h1
      cases hi : Lx.identOf t
      · exact texpr_plain1 c0 c1 t r b w hl h hi
      · cases h3 : Te.hd 3 r
        · exact texpr_plain2 c0 c1 t r b w hl h hi h3
        · exact texpr_call c0 c1 hX t r b w hl h hi h3
  · exact texpr_bad c0 c1 l b w hl h h2 h1
/-- The program's expression, for every list of tokens, within any number of calls. -/
theorem texpr_any : ∀ d : Nat, d ≤ 64 → Te.ExprC (64 - (d : Int)) d
  | 0, _ => texpr_zero
  | d + 1, h => by
    refine texpr_succ (by omega) (by omega) ?_
    have := texpr_any d (by omega)
    rwa [show (64 - ((d + 1 : Nat) : Int)) + 1 = 64 - (d : Int) by omega]
end Go.Proofs.YtojmcndiooiehaaGreatDoor
