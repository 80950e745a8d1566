/-
  TeRi: CONTRACTS: chapter 15: the document's Is: both sorts of quotes; a node without anything within.
  TeRj: CONTRACTS: chapter 15: the document's Is, for every node.
-/
import Derived.Test.YtojmcndiooiehaaGreatDoorJ25
import Derived.Test.YtojmcndiooiehaaGreatDoorJ32
import Derived.Test.YtojmcndiooiehaaGreatDoorJ33
import Derived.Test.YtojmcndiooiehaaGreatDoorJ26

set_option linter.unusedSimpArgs false
set_option linter.unusedVariables false
namespace Go.Proofs.YtojmcndiooiehaaGreatDoor
open Go.RowKit Go.Sort
open Me

namespace Te
theorem cont_at (q : UInt8) (l : List UInt8) (k : Nat) (h : k < l.length) : (l.take (k + 1)).contains q = ((l.take k).contains q || (l[k] == q)) := by
  have e : l.take (k + 1) = l.take k ++ [l[k]] := List.take_succ_eq_append_getElem h
  rw [Bool.eq_iff_iff, e, List.contains_iff_mem, Bool.or_eq_true, List.contains_iff_mem, beq_iff_eq, List.mem_append, List.mem_singleton]
  exact ⟨fun h => h.imp id Eq.symm, fun h => h.imp id Eq.symm⟩
theorem byte_is (c q : UInt8) (n : Int) (hn : n = (q.toNat : Int)) : ((c.toNat : Int) == n) = (false || (c == q)) := by
  rw [Bool.eq_iff_iff, Bool.false_or, beq_iff_eq, beq_iff_eq, hn, ← UInt8.toNat_inj]
  omega
end Te

set_option maxRecDepth 100000 in
set_option maxHeartbeats 4000000 in
theorem rboth_any (s : List UInt8) (hs : s.length ≤ 4294967280) (w : World) :
    Calls Tryz.prog 43 #[.string ⟨s.toArray⟩] w fun e w' => e = .returned (.tuple #[.bool (s.contains 34), .bool (s.contains 39)]) ∧ w = w' := by
  go_enter Tryz.func43, Tryz.ntmps43
  go_wp2_with fail
  go_loopw [4, 5, 6] (fun a b x wr => ∃ k : Nat, x = .int .i64 k ∧ k ≤ s.length ∧ a = .bool ((s.take k).contains 34) ∧ b = .bool ((s.take k).contains 39) ∧ Hid (w = wr)) (fun _ _ x _ => s.length - (intOf x).toNat)
  case atStart => exact ⟨0, rfl, Nat.zero_le _, rfl, rfl, Lib.hid rfl⟩
  case round =>
    obtain ⟨k, rfl, hk, rfl, rfl, HW⟩ := hrel
    by_cases hlt : k < s.length
    · have h1 := Te.cont_at 34 s k hlt
      have h2 := Te.cont_at 39 s k hlt
      have H1 := Lib.hid h1
      have H2 := Lib.hid h2
      clear h1 h2
      have hkI : (k : Int) < (s.length : Int) := by omega
      have h00 : (0 : Int) ≤ (k : Int) := by omega
      generalize (s.take k).contains 34 = p at *
      generalize (s.take k).contains 39 = q at *
      cases p <;> cases q
      all_goals
        go_wp2_with fail
        go_roundw
        case rel => exact ⟨k + 1, by go_num, by omega, by rw [H1.out]; first | rfl | exact congrArg Value.bool (Te.byte_is _ _ _ rfl), by rw [H2.out]; first | rfl | exact congrArg Value.bool (Te.byte_is _ _ _ rfl), HW⟩
        case measure => simp [intOf]; omega
    · have hkI : ¬ (k : Int) < (s.length : Int) := by omega
      have hke : s.take k = s := List.take_of_length_le (by omega)
      rw [hke]
      go_wp2_with fail
      ((try simp only [Exit.inBlock, Exit.then]); refine bodyPost_ret (results_tmp2 rfl _ _ _) rfl ?_)
      exact ⟨rfl, HW.out⟩

set_option maxRecDepth 100000 in
set_option maxHeartbeats 8000000 in
theorem rone_path (s : List UInt8) (n : Int) (A : Option Addr) (c : Nat) (hs : s.length ≤ 4294967280) (dp : Int) (hd : dp ≤ 64) (w : World) :
    Calls Tryz.prog 28 #[.agg #[.int .i64 2, .string ⟨s.toArray⟩, .int .i64 n, .slice A 0 c], .int .i64 dp] w fun e w' => e = .returned (.bool (Te.leafOk 2 s n)) ∧ Below w.heap.size w w' := by
  have hd1 : ¬ (64 : Int) < dp := by omega
  have HP := Lib.hid fun W => refParse_any s hs W
  have HL := Lib.hid fun W => lrefPath_any s hs W
  have HE : Hid (Te.leafOk 2 s n = (decide (n = 0) && (Lx.pathA s && !(decide (s = [116, 114, 117, 101])) && !(decide (s = [102, 97, 108, 115, 101])) && !Dc.prOk s))) := Lib.hid rfl
  generalize Te.leafOk 2 s n = R at *
  generalize Lx.pathA s = pa at *
  generalize Dc.prOk s = ok at *
  generalize Dc.prV s = V at *
  by_cases hn : ¬ n = 0
  · have nb : (n == 0) = false := by simpa using hn
    have HQ : Hid (R = false) := Lib.hid (by rw [HE.out, decide_eq_false hn]; simp)
    go_enter Tryz.func28, Tryz.ntmps28
    go_wp2_with first | (go_at_call 47; go_must (refine (HP.out _).mono ?_; rintro e w2 ⟨rfl, hb2⟩; have HB2 : Hid (Below w.heap.size w w2) := Lib.hid (((Below.refl w.heap.size w).alloc (Nat.le_refl _) _).trans (hb2.mono (by simp))); have hr2 : RowAt w2 w.heap.size 24 #[.int .i64 2, .string ⟨s.toArray⟩, .int .i64 n, .slice A 0 c] := (RowAt.new w _ _).below hb2 (by simp); have x1 : w2.cell? ⟨w.heap.size, 1, none⟩ = some (.string ⟨s.toArray⟩) := (hr2.cell 1).trans rfl; have x2 : w2.cell? ⟨w.heap.size, 2, none⟩ = some (.int .i64 n) := (hr2.cell 2).trans rfl; have l2 := hr2.lt; have hz2 := hb2.size; clear hb2 hr2)) | (go_at_call 48; go_must (refine (HL.out _).mono ?_; rintro e w3 ⟨rfl, rfl⟩))
    go_ret
    exact ⟨by rw [HQ.out]; rfl, HB2.out.alloc HB2.out.size _⟩
  replace hn := Decidable.not_not.1 hn
  subst hn
  cases pa
  · have HQ : Hid (R = false) := Lib.hid (by rw [HE.out]; simp)
    go_enter Tryz.func28, Tryz.ntmps28
    go_wp2_with first | (go_at_call 47; go_must (refine (HP.out _).mono ?_; rintro e w2 ⟨rfl, hb2⟩; have HB2 : Hid (Below w.heap.size w w2) := Lib.hid (((Below.refl w.heap.size w).alloc (Nat.le_refl _) _).trans (hb2.mono (by simp))); have hr2 : RowAt w2 w.heap.size 24 #[.int .i64 2, .string ⟨s.toArray⟩, .int .i64 0, .slice A 0 c] := (RowAt.new w _ _).below hb2 (by simp); have x1 : w2.cell? ⟨w.heap.size, 1, none⟩ = some (.string ⟨s.toArray⟩) := (hr2.cell 1).trans rfl; have x2 : w2.cell? ⟨w.heap.size, 2, none⟩ = some (.int .i64 0) := (hr2.cell 2).trans rfl; have l2 := hr2.lt; have hz2 := hb2.size; clear hb2 hr2)) | (go_at_call 48; go_must (refine (HL.out _).mono ?_; rintro e w3 ⟨rfl, rfl⟩))
    go_ret
    exact ⟨by rw [HQ.out]; rfl, HB2.out.alloc HB2.out.size _⟩
  cases ok
  rotate_left
  · have HQ : Hid (R = false) := Lib.hid (by rw [HE.out]; simp)
    go_enter Tryz.func28, Tryz.ntmps28
    go_wp2_with first | (go_at_call 47; go_must (refine (HP.out _).mono ?_; rintro e w2 ⟨rfl, hb2⟩; have HB2 : Hid (Below w.heap.size w w2) := Lib.hid (((Below.refl w.heap.size w).alloc (Nat.le_refl _) _).trans (hb2.mono (by simp))); have hr2 : RowAt w2 w.heap.size 24 #[.int .i64 2, .string ⟨s.toArray⟩, .int .i64 0, .slice A 0 c] := (RowAt.new w _ _).below hb2 (by simp); have x1 : w2.cell? ⟨w.heap.size, 1, none⟩ = some (.string ⟨s.toArray⟩) := (hr2.cell 1).trans rfl; have x2 : w2.cell? ⟨w.heap.size, 2, none⟩ = some (.int .i64 0) := (hr2.cell 2).trans rfl; have l2 := hr2.lt; have hz2 := hb2.size; clear hb2 hr2)) | (go_at_call 48; go_must (refine (HL.out _).mono ?_; rintro e w3 ⟨rfl, rfl⟩))
    go_ret
    exact ⟨by rw [HQ.out]; rfl, HB2.out.alloc HB2.out.size _⟩
  by_cases ht : s = [116, 114, 117, 101]
  · have e1 : (s == ([116, 114, 117, 101] : List UInt8)) = true := by simpa using ht
    have HQ : Hid (R = false) := Lib.hid (by rw [HE.out, decide_eq_true ht]; simp)
    clear ht
    go_enter Tryz.func28, Tryz.ntmps28
    go_wp2_with first | (go_at_call 47; go_must (refine (HP.out _).mono ?_; rintro e w2 ⟨rfl, hb2⟩; have HB2 : Hid (Below w.heap.size w w2) := Lib.hid (((Below.refl w.heap.size w).alloc (Nat.le_refl _) _).trans (hb2.mono (by simp))); have hr2 : RowAt w2 w.heap.size 24 #[.int .i64 2, .string ⟨s.toArray⟩, .int .i64 0, .slice A 0 c] := (RowAt.new w _ _).below hb2 (by simp); have x1 : w2.cell? ⟨w.heap.size, 1, none⟩ = some (.string ⟨s.toArray⟩) := (hr2.cell 1).trans rfl; have x2 : w2.cell? ⟨w.heap.size, 2, none⟩ = some (.int .i64 0) := (hr2.cell 2).trans rfl; have l2 := hr2.lt; have hz2 := hb2.size; clear hb2 hr2)) | (go_at_call 48; go_must (refine (HL.out _).mono ?_; rintro e w3 ⟨rfl, rfl⟩))
    go_ret
    exact ⟨by rw [HQ.out]; rfl, HB2.out.alloc HB2.out.size _⟩
  have e1 : (s == ([116, 114, 117, 101] : List UInt8)) = false := by simpa using ht
  by_cases hf : s = [102, 97, 108, 115, 101]
  · have e2 : (s == ([102, 97, 108, 115, 101] : List UInt8)) = true := by simpa using hf
    have HQ : Hid (R = false) := Lib.hid (by rw [HE.out, decide_eq_true hf]; simp)
    clear ht hf
    go_enter Tryz.func28, Tryz.ntmps28
    go_wp2_with first | (go_at_call 47; go_must (refine (HP.out _).mono ?_; rintro e w2 ⟨rfl, hb2⟩; have HB2 : Hid (Below w.heap.size w w2) := Lib.hid (((Below.refl w.heap.size w).alloc (Nat.le_refl _) _).trans (hb2.mono (by simp))); have hr2 : RowAt w2 w.heap.size 24 #[.int .i64 2, .string ⟨s.toArray⟩, .int .i64 0, .slice A 0 c] := (RowAt.new w _ _).below hb2 (by simp); have x1 : w2.cell? ⟨w.heap.size, 1, none⟩ = some (.string ⟨s.toArray⟩) := (hr2.cell 1).trans rfl; have x2 : w2.cell? ⟨w.heap.size, 2, none⟩ = some (.int .i64 0) := (hr2.cell 2).trans rfl; have l2 := hr2.lt; have hz2 := hb2.size; clear hb2 hr2)) | (go_at_call 48; go_must (refine (HL.out _).mono ?_; rintro e w3 ⟨rfl, rfl⟩))
    go_ret
    exact ⟨by rw [HQ.out]; rfl, HB2.out.alloc HB2.out.size _⟩
  have e2 : (s == ([102, 97, 108, 115, 101] : List UInt8)) = false := by simpa using hf
  have HQ : Hid (R = true) := Lib.hid (by rw [HE.out, decide_eq_false ht, decide_eq_false hf]; simp)
  clear ht hf
  go_enter Tryz.func28, Tryz.ntmps28
  go_wp2_with first | (go_at_call 47; go_must (refine (HP.out _).mono ?_; rintro e w2 ⟨rfl, hb2⟩; have HB2 : Hid (Below w.heap.size w w2) := Lib.hid (((Below.refl w.heap.size w).alloc (Nat.le_refl _) _).trans (hb2.mono (by simp))); have hr2 : RowAt w2 w.heap.size 24 #[.int .i64 2, .string ⟨s.toArray⟩, .int .i64 0, .slice A 0 c] := (RowAt.new w _ _).below hb2 (by simp); have x1 : w2.cell? ⟨w.heap.size, 1, none⟩ = some (.string ⟨s.toArray⟩) := (hr2.cell 1).trans rfl; have x2 : w2.cell? ⟨w.heap.size, 2, none⟩ = some (.int .i64 0) := (hr2.cell 2).trans rfl; have l2 := hr2.lt; have hz2 := hb2.size; clear hb2 hr2)) | (go_at_call 48; go_must (refine (HL.out _).mono ?_; rintro e w3 ⟨rfl, rfl⟩))
  go_ret
  exact ⟨by rw [HQ.out]; rfl, HB2.out.alloc HB2.out.size _⟩

set_option maxRecDepth 100000 in
set_option maxHeartbeats 8000000 in
theorem rone_num (s : List UInt8) (n : Int) (A : Option Addr) (c : Nat) (hs : s.length ≤ 4294967280) (dp : Int) (hd : dp ≤ 64) (w : World) :
    Calls Tryz.prog 28 #[.agg #[.int .i64 3, .string ⟨s.toArray⟩, .int .i64 n, .slice A 0 c], .int .i64 dp] w fun e w' => e = .returned (.bool (Te.leafOk 3 s n)) ∧ Below w.heap.size w w' := by
  have hd1 : ¬ (64 : Int) < dp := by omega
  have HI := Lib.hid fun W => refIsV_any true n W
  have HE : Hid (Te.leafOk 3 s n = (decide (s = []) && Fx.isV ⟨true, n⟩)) := Lib.hid (by
    rw [Fx.isV_on]
    unfold Te.leafOk Fx.inR
    rw [if_neg (by decide), if_pos rfl]
    congr 1
    rw [Bool.eq_iff_iff]
    simp)
  generalize Te.leafOk 3 s n = R at *
  generalize Fx.isV ⟨true, n⟩ = q at *
  by_cases hn : s = []
  · have HQ : Hid (R = q) := Lib.hid (by rw [HE.out, decide_eq_true hn]; rfl)
    subst hn
    go_enter Tryz.func28, Tryz.ntmps28
    go_wp2_with first | (go_at_call 49; go_must (refine (HI.out _).mono ?_; rintro e w2 ⟨rfl, hb2⟩; have HB2 : Hid (Below w.heap.size w w2) := Lib.hid (((Below.refl w.heap.size w).alloc (Nat.le_refl _) _).trans (hb2.mono (by simp))); clear hb2))
    go_ret
    exact ⟨by rw [HQ.out]; rfl, HB2.out⟩
  · have HQ : Hid (R = false) := Lib.hid (by rw [HE.out, decide_eq_false hn]; rfl)
    have nb : (s == ([] : List UInt8)) = false := by simpa using hn
    go_enter Tryz.func28, Tryz.ntmps28
    go_wp2
    go_ret
    exact ⟨by rw [HQ.out]; rfl, ((Below.refl w.heap.size w).alloc (Nat.le_refl _) _)⟩

set_option maxRecDepth 100000 in
set_option maxHeartbeats 8000000 in
theorem rone_str (s : List UInt8) (n : Int) (A : Option Addr) (c : Nat) (hs : s.length ≤ 4294967280) (dp : Int) (hd : dp ≤ 64) (w : World) :
    Calls Tryz.prog 28 #[.agg #[.int .i64 4, .string ⟨s.toArray⟩, .int .i64 n, .slice A 0 c], .int .i64 dp] w fun e w' => e = .returned (.bool (Te.leafOk 4 s n)) ∧ Below w.heap.size w w' := by
  have hd1 : ¬ (64 : Int) < dp := by omega
  have HB := Lib.hid fun W => rboth_any s hs W
  have HE : Hid (Te.leafOk 4 s n = (decide (n = 0) && !(s.contains 34 && s.contains 39))) := Lib.hid rfl
  generalize Te.leafOk 4 s n = R at *
  generalize s.contains 34 = q1 at *
  generalize s.contains 39 = q2 at *
  by_cases hn : n = 0
  · have HQ : Hid (R = !(q1 && q2)) := Lib.hid (by rw [HE.out, decide_eq_true hn]; rfl)
    subst hn
    cases q1 <;> cases q2
    all_goals
      go_enter Tryz.func28, Tryz.ntmps28
      go_wp2_with first | (go_at_call 43; go_must (refine (HB.out _).mono ?_; rintro e w2 ⟨rfl, rfl⟩))
      go_ret
      exact ⟨by rw [HQ.out]; rfl, ((Below.refl w.heap.size w).alloc (Nat.le_refl _) _)⟩
  · have HQ : Hid (R = false) := Lib.hid (by rw [HE.out, decide_eq_false hn]; rfl)
    have nb : (n == 0) = false := by simpa using hn
    go_enter Tryz.func28, Tryz.ntmps28
    go_wp2_with first | (go_at_call 43; go_must (refine (HB.out _).mono ?_; rintro e w2 ⟨rfl, rfl⟩))
    go_ret
    exact ⟨by rw [HQ.out]; rfl, ((Below.refl w.heap.size w).alloc (Nat.le_refl _) _)⟩

set_option maxRecDepth 100000 in
set_option maxHeartbeats 8000000 in
theorem rone_bool (s : List UInt8) (n : Int) (A : Option Addr) (c : Nat) (hs : s.length ≤ 4294967280) (dp : Int) (hd : dp ≤ 64) (w : World) :
    Calls Tryz.prog 28 #[.agg #[.int .i64 5, .string ⟨s.toArray⟩, .int .i64 n, .slice A 0 c], .int .i64 dp] w fun e w' => e = .returned (.bool (Te.leafOk 5 s n)) ∧ Below w.heap.size w w' := by
  have hd1 : ¬ (64 : Int) < dp := by omega
  have HE : Hid (Te.leafOk 5 s n = (decide (s = []) && (decide (n = 0) || decide (n = 1)))) := Lib.hid rfl
  generalize Te.leafOk 5 s n = R at *
  by_cases hn : s = []
  · subst hn
    by_cases h1 : n = 0
    · have HQ : Hid (R = true) := Lib.hid (by rw [HE.out, decide_eq_true h1]; rfl)
      subst h1
      go_enter Tryz.func28, Tryz.ntmps28
      go_wp2
      go_ret
      exact ⟨by rw [HQ.out]; rfl, ((Below.refl w.heap.size w).alloc (Nat.le_refl _) _)⟩
    · have b1 : (n == 0) = false := by simpa using h1
      by_cases h2 : n = 1
      · have HQ : Hid (R = true) := Lib.hid (by rw [HE.out, decide_eq_true h2]; simp)
        subst h2
        go_enter Tryz.func28, Tryz.ntmps28
        go_wp2
        go_ret
        exact ⟨by rw [HQ.out]; rfl, ((Below.refl w.heap.size w).alloc (Nat.le_refl _) _)⟩
      · have b2 : (n == 1) = false := by simpa using h2
        have HQ : Hid (R = false) := Lib.hid (by rw [HE.out, decide_eq_false h1, decide_eq_false h2]; rfl)
        go_enter Tryz.func28, Tryz.ntmps28
        go_wp2
        go_ret
        exact ⟨by rw [HQ.out]; rfl, ((Below.refl w.heap.size w).alloc (Nat.le_refl _) _)⟩
  · have HQ : Hid (R = false) := Lib.hid (by rw [HE.out, decide_eq_false hn]; rfl)
    have nb : (s == ([] : List UInt8)) = false := by simpa using hn
    go_enter Tryz.func28, Tryz.ntmps28
    go_wp2
    go_ret
    exact ⟨by rw [HQ.out]; rfl, ((Below.refl w.heap.size w).alloc (Nat.le_refl _) _)⟩

set_option maxRecDepth 100000 in
set_option maxHeartbeats 8000000 in
theorem rone_none (k : Int) (k1 : k ≠ 1) (k2 : k ≠ 2) (k3 : k ≠ 3) (k4 : k ≠ 4) (k5 : k ≠ 5) (s : List UInt8) (n : Int) (A : Option Addr) (c : Nat) (hs : s.length ≤ 4294967280) (dp : Int) (hd : dp ≤ 64) (w : World) :
    Calls Tryz.prog 28 #[.agg #[.int .i64 k, .string ⟨s.toArray⟩, .int .i64 n, .slice A 0 c], .int .i64 dp] w fun e w' => e = .returned (.bool (Te.leafOk k s n)) ∧ Below w.heap.size w w' := by
  have hd1 : ¬ (64 : Int) < dp := by omega
  have HQ : Hid (Te.leafOk k s n = false) := Lib.hid (by unfold Te.leafOk; rw [if_neg k2, if_neg k3, if_neg k4, if_neg k5])
  generalize Te.leafOk k s n = R at *
  have b1 : (k == 1) = false := by simpa using k1
  have b2 : (k == 2) = false := by simpa using k2
  have b3 : (k == 3) = false := by simpa using k3
  have b4 : (k == 4) = false := by simpa using k4
  have b5 : (k == 5) = false := by simpa using k5
  go_enter Tryz.func28, Tryz.ntmps28
  go_wp2
  go_ret
  exact ⟨by rw [HQ.out]; rfl, ((Below.refl w.heap.size w).alloc (Nat.le_refl _) _)⟩
end Go.Proofs.YtojmcndiooiehaaGreatDoor

namespace Go.Proofs.YtojmcndiooiehaaGreatDoor
open Go.RowKit Go.Sort
open Me

namespace Te
def RoC (G : Nat → Prop) (d : Nat) (x : Nd) : Prop := ∀ (w : World) (v : Value), At w G x v → Calls Tryz.prog 28 #[val x v, .int .i64 (65 - (d : Int))] w fun e w' => e = .returned (.bool (ok d x)) ∧ Below w.heap.size w w'
end Te

set_option maxRecDepth 100000 in
set_option maxHeartbeats 8000000 in
theorem rone_zero (k : Int) (s : List UInt8) (n : Int) (ks : List Te.Nd) (A : Option Addr) (m c : Nat) (w : World) :
    Calls Tryz.prog 28 #[.agg #[.int .i64 k, .string ⟨s.toArray⟩, .int .i64 n, .slice A m c], .int .i64 65] w fun e w' => e = .returned (.bool (Te.ok 0 (.mk k s n ks))) ∧ Below w.heap.size w w' := by
  have HE : Hid (Te.ok 0 (.mk k s n ks) = false) := Lib.hid (by rw [Te.ok]; rfl)
  generalize Te.ok 0 (.mk k s n ks) = R at *
  go_enter Tryz.func28, Tryz.ntmps28
  go_wp2
  go_ret
  exact ⟨by rw [HE.out]; rfl, (Below.refl w.heap.size w).alloc (Nat.le_refl _) _⟩

set_option maxRecDepth 100000 in
set_option maxHeartbeats 8000000 in
theorem rone_many (k : Int) (hk : k ≠ 1) (s : List UInt8) (n : Int) (m : Nat) (hm : 0 < m) (dp : Int) (hd : dp ≤ 64) (A : Option Addr) (c : Nat) (w : World) :
    Calls Tryz.prog 28 #[.agg #[.int .i64 k, .string ⟨s.toArray⟩, .int .i64 n, .slice A m c], .int .i64 dp] w fun e w' => e = .returned (.bool false) ∧ Below w.heap.size w w' := by
  have hd1 : ¬ (64 : Int) < dp := by omega
  have hmI : (0 : Int) < (m : Int) := by omega
  have kb : (k == 1) = false := by simpa using hk
  go_enter Tryz.func28, Tryz.ntmps28
  go_wp2
  go_ret
  exact ⟨rfl, (Below.refl w.heap.size w).alloc (Nat.le_refl _) _⟩

set_option maxRecDepth 100000 in
set_option maxHeartbeats 8000000 in
theorem rone_call {G : Nat → Prop} (s : List UInt8) (n : Int) (ks : List Te.Nd) (d : Nat) (hd : d ≤ 63) (hs : s.length ≤ 4294967280) (hX : ∀ x ∈ ks, Te.RoC G d x) (v : Value) (w : World) (hat : Te.At w G (.mk 1 s n ks) v) (hks : ks.length ≤ 1073741824) :
    Calls Tryz.prog 28 #[.agg #[.int .i64 1, .string ⟨s.toArray⟩, .int .i64 n, v], .int .i64 (65 - ((d + 1 : Nat) : Int))] w fun e w' => e = .returned (.bool (Te.ok (d + 1) (.mk 1 s n ks))) ∧ Below w.heap.size w w' := by
  rw [Te.At] at hat
  obtain ⟨A, c, xs, rfl, hr, ha⟩ := hat
  have HX := Lib.hid hX
  have HRD := Lib.hid hr
  have HKS := Lib.hid ha
  have HI := Lib.hid fun W => lrefIdent_any s hs W
  obtain ⟨R, hR⟩ : ∃ R, R = Te.ok (d + 1) (.mk 1 s n ks) := ⟨_, rfl⟩
  have HE : Hid (R = (decide (n = 0) && (Lx.identOf s && Te.oks d ks))) := Lib.hid (by rw [hR, Te.ok, if_pos rfl, decide_eq_true (Nat.succ_pos d), Bool.true_and]; rfl)
  rw [← hR]
  obtain ⟨dp, hdp⟩ : ∃ dp : Int, dp = 65 - ((d + 1 : Nat) : Int) := ⟨_, rfl⟩
  rw [← hdp]
  have hd1 : ¬ (64 : Int) < dp := by omega
  have kd : IntKind.i64.wrap (dp + 1) = dp + 1 := IntWalk.i64_in _ (by omega)
  have HDD : Hid (dp + 1 = 65 - (d : Int)) := Lib.hid (by omega)
  have HS : Hid (Te.oks d ks = Te.oks d (ks.drop 0)) := Lib.hid rfl
  generalize Te.oks d ks = O at *
  generalize Lx.identOf s = q1 at *
  obtain ⟨w0, hw0⟩ : ∃ w0, w0 = w.alloc (.cells #[.int .i64 1, .string ⟨s.toArray⟩, .int .i64 n, .slice A ks.length c] 24) := ⟨_, rfl⟩
  have HB0 : Hid (Below w.heap.size w w0) := Lib.hid (by rw [hw0]; exact (Below.refl w.heap.size w).alloc (Nat.le_refl _) _)
  have HR1 : Hid (RowAt w0 w.heap.size 24 #[.int .i64 1, .string ⟨s.toArray⟩, .int .i64 n, .slice A ks.length c]) := Lib.hid (by rw [hw0]; exact RowAt.new w _ _)
  have HZ : Hid (w0.heap.size = w.heap.size + 1) := Lib.hid (by rw [hw0]; simp)
  clear hX hr ha hR hdp
  go_enter Tryz.func28, Tryz.ntmps28
  go_wp2_with fail
  rw [← hw0]
  clear hw0
  go_loopw [5] (fun x wr => ∃ k : Nat, x = .int .i64 k ∧ k ≤ ks.length ∧ Hid (O = Te.oks d (ks.drop k)) ∧ Hid (Below w0.heap.size w0 wr)) (fun x _ => ks.length - (intOf x).toNat)
  case atStart => exact ⟨0, rfl, Nat.zero_le _, HS, Lib.hid (Below.refl _ _)⟩
  case round =>
    obtain ⟨k, rfl, hk, HM, HW⟩ := hrel
    have hz0 := HZ.out
    have hbel : Below w.heap.size w wr := HB0.out.trans (HW.out.mono (by omega))
    have hws : w.heap.size + 1 ≤ wr.heap.size := by have := HW.out.size; omega
    have x3 : wr.cell? ⟨w.heap.size, 3, none⟩ = some (.slice A ks.length c) := ((HR1.out.below HW.out HR1.out.lt).cell 3).trans rfl
    have x2 : wr.cell? ⟨w.heap.size, 2, none⟩ = some (.int .i64 n) := ((HR1.out.below HW.out HR1.out.lt).cell 2).trans rfl
    have x1 : wr.cell? ⟨w.heap.size, 1, none⟩ = some (.string ⟨s.toArray⟩) := ((HR1.out.below HW.out HR1.out.lt).cell 1).trans rfl
    by_cases hlt : k < ks.length
    · have hkI : (k : Int) < (ks.length : Int) := by omega
      have hE := HM.out.trans (Te.oks_at hlt)
      obtain ⟨b1, o1, v, rfl, hb, _, hat, c0, c1, c2, c3⟩ := Te.rd_kid HRD.out HKS.out hlt
      have hmem : ks[k] ∈ ks := List.getElem_mem hlt
      generalize ks[k] = x at *
      obtain ⟨kk, ss, nn, kks⟩ := x
      obtain ⟨Ak, ck, xk, rfl, _, _⟩ := hat.form
      have d0 : wr.cell? ⟨b1, o1 + k * 4, none⟩ = some (.int .i64 kk) := (hbel.cell (p := ⟨b1, _, none⟩) hb).trans c0
      have d1 : wr.cell? ⟨b1, o1 + k * 4 + 1, none⟩ = some (.string ⟨ss.toArray⟩) := (hbel.cell (p := ⟨b1, _, none⟩) hb).trans c1
      have d2 : wr.cell? ⟨b1, o1 + k * 4 + 2, none⟩ = some (.int .i64 nn) := (hbel.cell (p := ⟨b1, _, none⟩) hb).trans c2
      have d3 : wr.cell? ⟨b1, o1 + k * 4 + 3, none⟩ = some (.slice Ak kks.length ck) := (hbel.cell (p := ⟨b1, _, none⟩) hb).trans c3
      clear c0 c1 c2 c3
      have hNC : Hid (∀ W, Below wr.heap.size wr W → Calls Tryz.prog 28 #[.agg #[.int .i64 kk, .string ⟨ss.toArray⟩, .int .i64 nn, .slice Ak kks.length ck], .int .i64 (dp + 1)] W fun e w' => e = .returned (.bool (Te.ok d (.mk kk ss nn kks))) ∧ Below W.heap.size W w') := Lib.hid fun W hW => by
        rw [HDD.out]
        exact HX.out _ hmem W _ (hat.below (hbel.trans (hW.mono (by omega))))
      have h00 : (0 : Int) ≤ (k : Int) := by omega
      have HBL := Lib.hid hbel
      clear hat hmem hbel HM
      generalize Te.ok d (.mk kk ss nn kks) = q at *
      cases q
      · have HQ : Hid (R = false) := Lib.hid (by rw [HE.out, hE]; simp)
        clear hE
        go_wp2_with (go_at_call 28; go_must (refine (hNC.out _ (Below.refl _ _)).mono ?_; rintro e w6 ⟨rfl, hw6⟩; have HW6 : Hid (Below w.heap.size w w6) := Lib.hid (HBL.out.trans (hw6.mono (by omega))); clear hw6))
        go_ret
        exact ⟨by rw [HQ.out]; rfl, HW6.out⟩
      · have HM2 : Hid (O = Te.oks d (ks.drop (k + 1))) := Lib.hid (by rw [hE, Bool.true_and])
        clear hE
        go_wp2_with (go_at_call 28; go_must (refine (hNC.out _ (Below.refl _ _)).mono ?_; rintro e w6 ⟨rfl, hw6⟩; have HW6 : Hid (Below w0.heap.size w0 w6) := Lib.hid (HW.out.trans (hw6.mono HW.out.size)); clear hw6))
        go_roundw
        case rel => exact ⟨k + 1, by go_num, by omega, HM2, HW6⟩
        case measure => simp [intOf]; omega
    · have hkI : ¬ (k : Int) < (ks.length : Int) := by omega
      have HO : Hid (O = true) := Lib.hid (by rw [HM.out, List.drop_eq_nil_of_le (by omega), Te.oks])
      have HBL := Lib.hid hbel
      clear hbel HM
      by_cases hn : n = 0
      · have HQ : Hid (R = q1) := Lib.hid (by rw [HE.out, HO.out, decide_eq_true hn]; simp)
        subst hn
        go_wp2_with (go_at_call 35; go_must (refine (HI.out _).mono ?_; rintro e wi ⟨rfl, rfl⟩))
        go_ret
        exact ⟨by rw [HQ.out]; rfl, HBL.out⟩
      · have HQ : Hid (R = false) := Lib.hid (by rw [HE.out, decide_eq_false hn]; rfl)
        have nb : (n == 0) = false := by simpa using hn
        go_wp2_with fail
        go_ret
        exact ⟨by rw [HQ.out]; rfl, HBL.out⟩

theorem rone_leaf (k : Int) (hk : k ≠ 1) (s : List UInt8) (n : Int) (A : Option Addr) (c : Nat) (hs : s.length ≤ 4294967280) (dp : Int) (hd : dp ≤ 64) (w : World) :
    Calls Tryz.prog 28 #[.agg #[.int .i64 k, .string ⟨s.toArray⟩, .int .i64 n, .slice A 0 c], .int .i64 dp] w fun e w' => e = .returned (.bool (Te.leafOk k s n)) ∧ Below w.heap.size w w' := by
  by_cases k2 : k = 2
  · subst k2; exact rone_path s n A c hs dp hd w
  by_cases k3 : k = 3
  · subst k3; exact rone_num s n A c hs dp hd w
  by_cases k4 : k = 4
  · subst k4; exact rone_str s n A c hs dp hd w
  by_cases k5 : k = 5
  · subst k5; exact rone_bool s n A c hs dp hd w
  exact rone_none k hk k2 k3 k4 k5 s n A c hs dp hd w

theorem rone_any (G : Nat → Prop) : ∀ (d : Nat) (x : Te.Nd), d ≤ 64 → Te.wt x ≤ 1048576 → Te.RoC G d x
  | 0, .mk k s n ks, _, _ => fun w v hat => by
    rw [Te.At] at hat
    obtain ⟨A, c, xs, rfl, _, _⟩ := hat
    exact rone_zero k s n ks A ks.length c w
  | d + 1, .mk k s n ks, hd, hw => fun w v hat => by
    rw [Te.wt_eq] at hw
    by_cases hk : k = 1
    · subst hk
      exact rone_call s n ks d (by omega) (by omega) (fun x hx => rone_any G d x (by omega) (by have := Te.wts_mem ks x hx; omega)) v w hat (by have := Te.wts_len ks; omega)
    · rw [Te.At] at hat
      obtain ⟨A, c, xs, rfl, _, _⟩ := hat
      cases ks with
      | nil =>
        have := rone_leaf k hk s n A c (by omega) (65 - ((d + 1 : Nat) : Int)) (by omega) w
        have e : Te.ok (d + 1) (.mk k s n []) = Te.leafOk k s n := by rw [Te.ok, if_neg hk, decide_eq_true (Nat.succ_pos d), Bool.true_and]; rfl
        rw [e]
        exact this
      | cons a r =>
        have := rone_many k hk s n (a :: r).length (by simp) (65 - ((d + 1 : Nat) : Int)) (by omega) A c w
        have e : Te.ok (d + 1) (.mk k s n (a :: r)) = false := by rw [Te.ok, if_neg hk]; simp
        rw [e]
        exact this

set_option maxRecDepth 100000 in
set_option maxHeartbeats 2000000 in
theorem ris_any {G : Nat → Prop} (x : Te.Nd) (hw : Te.wt x ≤ 1048576) (v : Value) (w : World) (hat : Te.At w G x v) :
    Calls Tryz.prog 15 #[Te.val x v] w fun e w' => e = .returned (.bool (Te.isOk x)) ∧ Below w.heap.size w w' := by
  have HW : Hid (∀ W, Below w.heap.size w W → Calls Tryz.prog 28 #[Te.val x v, .int .i64 1] W fun e w' => e = .returned (.bool (Te.ok 64 x)) ∧ Below W.heap.size W w') := Lib.hid fun W hW => rone_any G 64 x (Nat.le_refl _) hw W v (hat.below hW)
  obtain ⟨k, s, n, ks⟩ := x
  obtain ⟨A, c, xs, rfl, _, _⟩ := hat.form
  have HW : Hid (∀ W, Below w.heap.size w W → Calls Tryz.prog 28 #[.agg #[.int .i64 k, .string ⟨s.toArray⟩, .int .i64 n, .slice A ks.length c], .int .i64 1] W fun e w' => e = .returned (.bool (Te.isOk (.mk k s n ks))) ∧ Below W.heap.size W w') := HW
  show Calls Tryz.prog 15 #[.agg #[.int .i64 k, .string ⟨s.toArray⟩, .int .i64 n, .slice A ks.length c]] w _
  generalize Te.isOk (.mk k s n ks) = R at *
  have HB : Hid (Below w.heap.size w (w.alloc (.cells #[.int .i64 k, .string ⟨s.toArray⟩, .int .i64 n, .slice A ks.length c] 24))) := Lib.hid ((Below.refl w.heap.size w).alloc (Nat.le_refl _) _)
  clear hat
  go_enter Tryz.func15, Tryz.ntmps15
  go_wp2_with (go_at_call 28; go_must (refine (HW.out _ HB.out).mono ?_; rintro e w6 ⟨rfl, hw6⟩; have HW6 : Hid (Below w.heap.size w w6) := Lib.hid (HB.out.trans (hw6.mono (by simp))); clear hw6))
  go_ret
  exact ⟨rfl, HW6.out⟩
end Go.Proofs.YtojmcndiooiehaaGreatDoor
