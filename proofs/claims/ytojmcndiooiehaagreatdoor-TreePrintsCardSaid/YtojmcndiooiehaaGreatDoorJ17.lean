/-
  TePl: CONTRACTS: chapter 15: a word that calls nothing.
-/
import Derived.Test.YtojmcndiooiehaaGreatDoorJ12
import Derived.Test.YtojmcndiooiehaaGreatDoorJ16

set_option linter.unusedSimpArgs false
set_option linter.unusedVariables false
namespace Go.Proofs.YtojmcndiooiehaaGreatDoor
open Go.RowKit
open Me

namespace Te
def wordN (s : List UInt8) : Nd := (word s).getD nought
def wordE (s : List UInt8) : Int := if (word s).isSome = true then 0 else 8
theorem word_num {s : List UInt8} (h : Dc.prOk s = true) : wordN s = .mk 3 [] (Dc.prV s) [] ∧ wordE s = 0 := by unfold wordN wordE word; rw [if_pos h]; exact ⟨rfl, rfl⟩
theorem word_true {s : List UInt8} (h : Dc.prOk s = false) (h1 : s = trueT) : wordN s = .mk 5 [] 1 [] ∧ wordE s = 0 := by unfold wordN wordE word; rw [if_neg (by simp [h]), if_pos h1]; exact ⟨rfl, rfl⟩
theorem word_false {s : List UInt8} (h : Dc.prOk s = false) (h1 : s = falseT) : wordN s = .mk 5 [] 0 [] ∧ wordE s = 0 := by
  unfold wordN wordE word; rw [if_neg (by simp [h]), if_neg (by rw [h1]; decide), if_pos h1]; exact ⟨rfl, rfl⟩
theorem word_path {s : List UInt8} (h : Dc.prOk s = false) (h1 : s ≠ trueT) (h2 : s ≠ falseT) (h3 : pathB s = true) : wordN s = .mk 2 s 0 [] ∧ wordE s = 0 := by
  unfold wordN wordE word; rw [if_neg (by simp [h]), if_neg h1, if_neg h2, if_pos h3]; exact ⟨rfl, rfl⟩
theorem word_none {s : List UInt8} (h : Dc.prOk s = false) (h1 : s ≠ trueT) (h2 : s ≠ falseT) (h3 : pathB s = false) : wordN s = nought ∧ wordE s = 8 := by
  unfold wordN wordE word; rw [if_neg (by simp [h]), if_neg h1, if_neg h2, if_neg (by simp [h3])]; exact ⟨rfl, rfl⟩
theorem prOk_true : Dc.prOk trueT = false := by decide +kernel
theorem prOk_false : Dc.prOk falseT = false := by decide +kernel
end Te

set_option maxRecDepth 100000 in
set_option maxHeartbeats 4000000 in
theorem tplain_any (s : List UInt8) (hs : s.length ≤ 4294967280) (w : World) :
    Calls Tryz.prog 57 #[.string ⟨s.toArray⟩] w fun e w' => e = .returned (.tuple #[Te.val (Te.wordN s) (.slice none 0 0), .int .i64 (Te.wordE s)]) ∧ Below w.heap.size w w' := by
  have HP := Lib.hid fun W => parse_prog s (by omega) W
  have HL := Lib.hid fun W => lpath_any s hs W
  have HE : Hid (Lx.pathA s = Te.pathB s) := Lib.hid rfl
  obtain ⟨R, hR⟩ : ∃ R, R = Te.val (Te.wordN s) (.slice none 0 0) := ⟨_, rfl⟩
  obtain ⟨E, hE⟩ : ∃ E, E = Te.wordE s := ⟨_, rfl⟩
  rw [← hR, ← hE]
  by_cases hp : Dc.prOk s = true
  · obtain ⟨h1, h2⟩ := Te.word_num hp
    rw [h1] at hR
    rw [h2] at hE
    have HQ := Lib.hid hR
    clear h1 h2 hR
    generalize Dc.prOk s = ok at *
    generalize Dc.prV s = V at *
    subst hp hE
    go_enter Tryz.func57, Tryz.ntmps57
    go_wp2_with (first | (go_at_call 82; go_must (refine (HP.out _).mono ?_; rintro e w2 ⟨rfl, hb2⟩; have HB2 : Hid (Below w.heap.size w w2) := Lib.hid (((Below.refl _ _).alloc (Nat.le_refl _) _).trans (hb2.mono (by simp))); have hr2 : RowAt w2 w.heap.size 24 #[.int .i64 0, .string ⟨#[]⟩, .int .i64 0, .slice none 0 0] := (RowAt.new w _ _).below hb2 (by simp); have x0 : w2.cell? ⟨w.heap.size, 0, none⟩ = some (.int .i64 0) := (hr2.cell 0).trans rfl; have y0 := hr2.frozen 0; have x1 : w2.cell? ⟨w.heap.size, 1, none⟩ = some (.string ⟨#[]⟩) := (hr2.cell 1).trans rfl; have y1 := hr2.frozen 1; have x2 : w2.cell? ⟨w.heap.size, 2, none⟩ = some (.int .i64 0) := (hr2.cell 2).trans rfl; have y2 := hr2.frozen 2; have x3 : w2.cell? ⟨w.heap.size, 3, none⟩ = some (.slice none 0 0) := (hr2.cell 3).trans rfl; have y3 := hr2.frozen 3; have l2 := hr2.lt; have HR2 := Lib.hid hr2; clear hb2 hr2)))
    refine bodyPost_ret ((results_cell_tmp rfl _ _ _).trans (by simp [go_sem, *]; rfl)) rfl ?_
    exact ⟨by rw [HQ.out]; rfl, by have h := HB2.out; exact (by repeat (first | exact Below.refl _ _ | assumption | refine Below.setCell ?_ (by first | (simp; done) | omega | (simp; omega) | (simp at *; omega)) _ | refine Below.alloc ?_ (by first | (simp; done) | omega | (simp; omega) | (simp at *; omega)) _ | refine Below.drew ?_ | (refine Below.trans ?_ (Below.mono (by assumption) (by first | (simp; done) | omega | (simp; omega) | (simp at *; omega)))) | (refine Below.trans ?_ (Below.mono (below_regrown _ _ _) (by first | (simp; done) | omega | (simp; omega) | (simp at *; omega))))))⟩
  have hp2 : Dc.prOk s = false := by simpa using hp
  clear hp
  by_cases ht : s = [116, 114, 117, 101]
  · obtain ⟨h1, h2⟩ := Te.word_true hp2 ht
    rw [h1] at hR
    rw [h2] at hE
    have HQ := Lib.hid hR
    have e1 : (s == ([116, 114, 117, 101] : List UInt8)) = true := by simpa using ht
    clear ht
    clear h1 h2 hR
    generalize Dc.prOk s = ok at *
    generalize Dc.prV s = V at *
    subst hp2 hE
    go_enter Tryz.func57, Tryz.ntmps57
    go_wp2_with (first | (go_at_call 82; go_must (refine (HP.out _).mono ?_; rintro e w2 ⟨rfl, hb2⟩; have HB2 : Hid (Below w.heap.size w w2) := Lib.hid (((Below.refl _ _).alloc (Nat.le_refl _) _).trans (hb2.mono (by simp))); have hr2 : RowAt w2 w.heap.size 24 #[.int .i64 0, .string ⟨#[]⟩, .int .i64 0, .slice none 0 0] := (RowAt.new w _ _).below hb2 (by simp); have x0 : w2.cell? ⟨w.heap.size, 0, none⟩ = some (.int .i64 0) := (hr2.cell 0).trans rfl; have y0 := hr2.frozen 0; have x1 : w2.cell? ⟨w.heap.size, 1, none⟩ = some (.string ⟨#[]⟩) := (hr2.cell 1).trans rfl; have y1 := hr2.frozen 1; have x2 : w2.cell? ⟨w.heap.size, 2, none⟩ = some (.int .i64 0) := (hr2.cell 2).trans rfl; have y2 := hr2.frozen 2; have x3 : w2.cell? ⟨w.heap.size, 3, none⟩ = some (.slice none 0 0) := (hr2.cell 3).trans rfl; have y3 := hr2.frozen 3; have l2 := hr2.lt; have HR2 := Lib.hid hr2; clear hb2 hr2)))
    refine bodyPost_ret ((results_cell_tmp rfl _ _ _).trans (by simp [go_sem, *]; rfl)) rfl ?_
    exact ⟨by rw [HQ.out]; rfl, by have h := HB2.out; exact (by repeat (first | exact Below.refl _ _ | assumption | refine Below.setCell ?_ (by first | (simp; done) | omega | (simp; omega) | (simp at *; omega)) _ | refine Below.alloc ?_ (by first | (simp; done) | omega | (simp; omega) | (simp at *; omega)) _ | refine Below.drew ?_ | (refine Below.trans ?_ (Below.mono (by assumption) (by first | (simp; done) | omega | (simp; omega) | (simp at *; omega)))) | (refine Below.trans ?_ (Below.mono (below_regrown _ _ _) (by first | (simp; done) | omega | (simp; omega) | (simp at *; omega))))))⟩
  have e1 : (s == ([116, 114, 117, 101] : List UInt8)) = false := by simpa using ht
  by_cases hf : s = [102, 97, 108, 115, 101]
  · obtain ⟨h1, h2⟩ := Te.word_false hp2 hf
    rw [h1] at hR
    rw [h2] at hE
    have HQ := Lib.hid hR
    have e2 : (s == ([102, 97, 108, 115, 101] : List UInt8)) = true := by simpa using hf
    clear ht hf
    clear h1 h2 hR
    generalize Dc.prOk s = ok at *
    generalize Dc.prV s = V at *
    subst hp2 hE
    go_enter Tryz.func57, Tryz.ntmps57
    go_wp2_with (first | (go_at_call 82; go_must (refine (HP.out _).mono ?_; rintro e w2 ⟨rfl, hb2⟩; have HB2 : Hid (Below w.heap.size w w2) := Lib.hid (((Below.refl _ _).alloc (Nat.le_refl _) _).trans (hb2.mono (by simp))); have hr2 : RowAt w2 w.heap.size 24 #[.int .i64 0, .string ⟨#[]⟩, .int .i64 0, .slice none 0 0] := (RowAt.new w _ _).below hb2 (by simp); have x0 : w2.cell? ⟨w.heap.size, 0, none⟩ = some (.int .i64 0) := (hr2.cell 0).trans rfl; have y0 := hr2.frozen 0; have x1 : w2.cell? ⟨w.heap.size, 1, none⟩ = some (.string ⟨#[]⟩) := (hr2.cell 1).trans rfl; have y1 := hr2.frozen 1; have x2 : w2.cell? ⟨w.heap.size, 2, none⟩ = some (.int .i64 0) := (hr2.cell 2).trans rfl; have y2 := hr2.frozen 2; have x3 : w2.cell? ⟨w.heap.size, 3, none⟩ = some (.slice none 0 0) := (hr2.cell 3).trans rfl; have y3 := hr2.frozen 3; have l2 := hr2.lt; have HR2 := Lib.hid hr2; clear hb2 hr2)))
    refine bodyPost_ret ((results_cell_tmp rfl _ _ _).trans (by simp [go_sem, *]; rfl)) rfl ?_
    exact ⟨by rw [HQ.out]; rfl, by have h := HB2.out; exact (by repeat (first | exact Below.refl _ _ | assumption | refine Below.setCell ?_ (by first | (simp; done) | omega | (simp; omega) | (simp at *; omega)) _ | refine Below.alloc ?_ (by first | (simp; done) | omega | (simp; omega) | (simp at *; omega)) _ | refine Below.drew ?_ | (refine Below.trans ?_ (Below.mono (by assumption) (by first | (simp; done) | omega | (simp; omega) | (simp at *; omega)))) | (refine Below.trans ?_ (Below.mono (below_regrown _ _ _) (by first | (simp; done) | omega | (simp; omega) | (simp at *; omega))))))⟩
  have e2 : (s == ([102, 97, 108, 115, 101] : List UInt8)) = false := by simpa using hf
  by_cases hq : Te.pathB s = true
  · obtain ⟨h1, h2⟩ := Te.word_path hp2 ht hf hq
    rw [h1] at hR
    rw [h2] at hE
    have HQ := Lib.hid hR
    have hq2 : Lx.pathA s = true := hq
    clear hq HE ht hf
    clear h1 h2 hR
    generalize Dc.prOk s = ok at *
    generalize Dc.prV s = V at *
    generalize Lx.pathA s = pa at *
    subst hp2 hE hq2
    go_enter Tryz.func57, Tryz.ntmps57
    go_wp2_with (first | (go_at_call 82; go_must (refine (HP.out _).mono ?_; rintro e w2 ⟨rfl, hb2⟩; have HB2 : Hid (Below w.heap.size w w2) := Lib.hid (((Below.refl _ _).alloc (Nat.le_refl _) _).trans (hb2.mono (by simp))); have hr2 : RowAt w2 w.heap.size 24 #[.int .i64 0, .string ⟨#[]⟩, .int .i64 0, .slice none 0 0] := (RowAt.new w _ _).below hb2 (by simp); have x0 : w2.cell? ⟨w.heap.size, 0, none⟩ = some (.int .i64 0) := (hr2.cell 0).trans rfl; have y0 := hr2.frozen 0; have x1 : w2.cell? ⟨w.heap.size, 1, none⟩ = some (.string ⟨#[]⟩) := (hr2.cell 1).trans rfl; have y1 := hr2.frozen 1; have x2 : w2.cell? ⟨w.heap.size, 2, none⟩ = some (.int .i64 0) := (hr2.cell 2).trans rfl; have y2 := hr2.frozen 2; have x3 : w2.cell? ⟨w.heap.size, 3, none⟩ = some (.slice none 0 0) := (hr2.cell 3).trans rfl; have y3 := hr2.frozen 3; have l2 := hr2.lt; have HR2 := Lib.hid hr2; clear hb2 hr2)) | (go_at_call 83; go_must (refine (HL.out _).mono ?_; rintro e w3 ⟨rfl, hb3⟩; have HB3 : Hid (Below w.heap.size w w3) := Lib.hid ((HB2.out.alloc (by omega) _).trans (hb3.mono (by simp; omega))); have hr3 : RowAt w3 w.heap.size 24 #[.int .i64 0, .string ⟨#[]⟩, .int .i64 0, .slice none 0 0] := (HR2.out.alloc _).below hb3 (by simp; omega); have p0 : w3.cell? ⟨w.heap.size, 0, none⟩ = some (.int .i64 0) := (hr3.cell 0).trans rfl; have q0 := hr3.frozen 0; have p1 : w3.cell? ⟨w.heap.size, 1, none⟩ = some (.string ⟨#[]⟩) := (hr3.cell 1).trans rfl; have q1 := hr3.frozen 1; have p2 : w3.cell? ⟨w.heap.size, 2, none⟩ = some (.int .i64 0) := (hr3.cell 2).trans rfl; have q2 := hr3.frozen 2; have p3 : w3.cell? ⟨w.heap.size, 3, none⟩ = some (.slice none 0 0) := (hr3.cell 3).trans rfl; have q3 := hr3.frozen 3; have l3 := hr3.lt; clear hb3 hr3)))
    refine bodyPost_ret ((results_cell_tmp rfl _ _ _).trans (by simp [go_sem, *]; rfl)) rfl ?_
    exact ⟨by rw [HQ.out]; rfl, by have h := HB3.out; exact (by repeat (first | exact Below.refl _ _ | assumption | refine Below.setCell ?_ (by first | (simp; done) | omega | (simp; omega) | (simp at *; omega)) _ | refine Below.alloc ?_ (by first | (simp; done) | omega | (simp; omega) | (simp at *; omega)) _ | refine Below.drew ?_ | (refine Below.trans ?_ (Below.mono (by assumption) (by first | (simp; done) | omega | (simp; omega) | (simp at *; omega)))) | (refine Below.trans ?_ (Below.mono (below_regrown _ _ _) (by first | (simp; done) | omega | (simp; omega) | (simp at *; omega))))))⟩
  · have hq1 : Te.pathB s = false := by simpa using hq
    obtain ⟨h1, h2⟩ := Te.word_none hp2 ht hf hq1
    rw [h1] at hR
    rw [h2] at hE
    have HQ := Lib.hid hR
    have hq2 : Lx.pathA s = false := hq1
    clear hq hq1 HE ht hf
    clear h1 h2 hR
    generalize Dc.prOk s = ok at *
    generalize Dc.prV s = V at *
    generalize Lx.pathA s = pa at *
    subst hp2 hE hq2
    go_enter Tryz.func57, Tryz.ntmps57
    go_wp2_with (first | (go_at_call 82; go_must (refine (HP.out _).mono ?_; rintro e w2 ⟨rfl, hb2⟩; have HB2 : Hid (Below w.heap.size w w2) := Lib.hid (((Below.refl _ _).alloc (Nat.le_refl _) _).trans (hb2.mono (by simp))); have hr2 : RowAt w2 w.heap.size 24 #[.int .i64 0, .string ⟨#[]⟩, .int .i64 0, .slice none 0 0] := (RowAt.new w _ _).below hb2 (by simp); have x0 : w2.cell? ⟨w.heap.size, 0, none⟩ = some (.int .i64 0) := (hr2.cell 0).trans rfl; have y0 := hr2.frozen 0; have x1 : w2.cell? ⟨w.heap.size, 1, none⟩ = some (.string ⟨#[]⟩) := (hr2.cell 1).trans rfl; have y1 := hr2.frozen 1; have x2 : w2.cell? ⟨w.heap.size, 2, none⟩ = some (.int .i64 0) := (hr2.cell 2).trans rfl; have y2 := hr2.frozen 2; have x3 : w2.cell? ⟨w.heap.size, 3, none⟩ = some (.slice none 0 0) := (hr2.cell 3).trans rfl; have y3 := hr2.frozen 3; have l2 := hr2.lt; have HR2 := Lib.hid hr2; clear hb2 hr2)) | (go_at_call 83; go_must (refine (HL.out _).mono ?_; rintro e w3 ⟨rfl, hb3⟩; have HB3 : Hid (Below w.heap.size w w3) := Lib.hid ((HB2.out.alloc (by omega) _).trans (hb3.mono (by simp; omega))); have hr3 : RowAt w3 w.heap.size 24 #[.int .i64 0, .string ⟨#[]⟩, .int .i64 0, .slice none 0 0] := (HR2.out.alloc _).below hb3 (by simp; omega); have p0 : w3.cell? ⟨w.heap.size, 0, none⟩ = some (.int .i64 0) := (hr3.cell 0).trans rfl; have q0 := hr3.frozen 0; have p1 : w3.cell? ⟨w.heap.size, 1, none⟩ = some (.string ⟨#[]⟩) := (hr3.cell 1).trans rfl; have q1 := hr3.frozen 1; have p2 : w3.cell? ⟨w.heap.size, 2, none⟩ = some (.int .i64 0) := (hr3.cell 2).trans rfl; have q2 := hr3.frozen 2; have p3 : w3.cell? ⟨w.heap.size, 3, none⟩ = some (.slice none 0 0) := (hr3.cell 3).trans rfl; have q3 := hr3.frozen 3; have l3 := hr3.lt; clear hb3 hr3)))
    refine bodyPost_ret ((results_cell_tmp rfl _ _ _).trans (by simp [go_sem, *]; rfl)) rfl ?_
    exact ⟨by rw [HQ.out]; rfl, by have h := HB3.out; exact (by repeat (first | exact Below.refl _ _ | assumption | refine Below.setCell ?_ (by first | (simp; done) | omega | (simp; omega) | (simp at *; omega)) _ | refine Below.alloc ?_ (by first | (simp; done) | omega | (simp; omega) | (simp at *; omega)) _ | refine Below.drew ?_ | (refine Below.trans ?_ (Below.mono (by assumption) (by first | (simp; done) | omega | (simp; omega) | (simp at *; omega)))) | (refine Below.trans ?_ (Below.mono (below_regrown _ _ _) (by first | (simp; done) | omega | (simp; omega) | (simp at *; omega))))))⟩
end Go.Proofs.YtojmcndiooiehaaGreatDoor
