/-
  CONTRACTS: chapter 15: the program's Is.
-/
import Derived.Test.YtojmcndiooiehaaDoorTePn
import Derived.Test.YtojmcndiooiehaaDoorLxId
import Derived.Test.YtojmcndiooiehaaDoorDcParse
namespace Go.Proofs.YtojmcndiooiehaaDoor
open Go.RowKit Go.Sort
open Me

namespace Te
def pathOk (s : List UInt8) : Bool := pathB s && !(decide (s = trueT)) && !(decide (s = falseT)) && !Dc.prOk s
theorem wts_mem : ∀ (l : List Nd) (x : Nd), x ∈ l → wt x ≤ wts l
  | [], x, h => by cases h
  | y :: r, x, h => by
    rw [wts]
    rcases List.mem_cons.1 h with rfl | h
    · omega
    · have := wts_mem r x h; omega
theorem wts_len : ∀ (l : List Nd), 5 * l.length ≤ wts l
  | [] => Nat.zero_le _
  | .mk k s n ks :: r => by
    rw [wts, wt, List.length_cons]
    have := wts_len r; omega
theorem wt_eq (k : Int) (s : List UInt8) (n : Int) (ks : List Nd) : wt (.mk k s n ks) = 5 + s.length + wts ks := by rw [wt]
end Te

set_option maxRecDepth 100000 in
set_option maxHeartbeats 4000000 in
theorem tispath_any (s : List UInt8) (hs : s.length ≤ 4294967280) (w : World) :
    Calls Tryd.prog 51 #[.string ⟨s.toArray⟩] w fun e w' => e = .returned (.bool (Te.pathOk s)) ∧ Below w.heap.size w w' := by
  have HP := Lib.hid fun W => parse_prog s (by omega) W
  have HL := Lib.hid fun W => lpath_any s hs W
  have HE : Hid (Te.pathOk s = (Lx.pathA s && !(decide (s = [116, 114, 117, 101])) && !(decide (s = [102, 97, 108, 115, 101])) && !Dc.prOk s)) := Lib.hid rfl
  generalize Te.pathOk s = R at *
  generalize Lx.pathA s = pa at *
  generalize Dc.prOk s = ok at *
  generalize Dc.prV s = V at *
  have HLB : Hid (∀ {W W' : World}, Below w.heap.size w W → Below W.heap.size W W' → Below w.heap.size w W') := Lib.hid fun h k => h.trans (k.mono h.size)
  cases pa
  · obtain rfl : R = false := by rw [HE.out]; rfl
    go_enter Tryd.func51, Tryd.ntmps51
    go_wp2_with (go_at_call 50; go_must (refine (HL.out _).mono ?_; rintro e w2 ⟨rfl, hb2⟩; have HB2 := Lib.hid hb2; clear hb2))
    go_ret
    exact ⟨rfl, HB2.out⟩
  by_cases ht : s = [116, 114, 117, 101]
  · obtain rfl : R = false := by rw [HE.out, decide_eq_true ht]; rfl
    have e1 : (s == ([116, 114, 117, 101] : List UInt8)) = true := by simpa using ht
    clear ht
    go_enter Tryd.func51, Tryd.ntmps51
    go_wp2_with (go_at_call 50; go_must (refine (HL.out _).mono ?_; rintro e w2 ⟨rfl, hb2⟩; have HB2 := Lib.hid hb2; clear hb2))
    go_ret
    exact ⟨rfl, HB2.out⟩
  have e1 : (s == ([116, 114, 117, 101] : List UInt8)) = false := by simpa using ht
  by_cases hf : s = [102, 97, 108, 115, 101]
  · obtain rfl : R = false := by rw [HE.out, decide_eq_true hf]; simp
    have e2 : (s == ([102, 97, 108, 115, 101] : List UInt8)) = true := by simpa using hf
    clear ht hf
    go_enter Tryd.func51, Tryd.ntmps51
    go_wp2_with (go_at_call 50; go_must (refine (HL.out _).mono ?_; rintro e w2 ⟨rfl, hb2⟩; have HB2 := Lib.hid hb2; clear hb2))
    go_ret
    exact ⟨rfl, HB2.out⟩
  have e2 : (s == ([102, 97, 108, 115, 101] : List UInt8)) = false := by simpa using hf
  have HR : Hid (R = !ok) := Lib.hid (by rw [HE.out, decide_eq_false ht, decide_eq_false hf]; simp)
  clear ht hf
  go_enter Tryd.func51, Tryd.ntmps51
  go_wp2_with first
    | (go_at_call 50; go_must (refine (HL.out _).mono ?_; rintro e w2 ⟨rfl, hb2⟩; have HB2 := Lib.hid hb2; clear hb2))
    | (go_at_call 49; go_must (refine (HP.out _).mono ?_; rintro e w3 ⟨rfl, hb3⟩; have HB3 := Lib.hid (HLB.out HB2.out hb3); clear hb3))
  go_ret
  exact ⟨by rw [HR.out]; rfl, HB3.out.alloc HB3.out.size _⟩

set_option maxRecDepth 100000 in
set_option maxHeartbeats 8000000 in
theorem tleaf_path (s : List UInt8) (n : Int) (A : Option Addr) (m c : Nat) (hs : s.length ≤ 4294967280) (w : World) :
    Calls Tryd.prog 33 #[.agg #[.int .i64 2, .string ⟨s.toArray⟩, .int .i64 n, .slice A m c]] w fun e w' => e = .returned (.bool (Te.leafOk 2 s n)) ∧ Below w.heap.size w w' := by
  have HP := Lib.hid fun W => tispath_any s hs W
  have HE : Hid (Te.leafOk 2 s n = (decide (n = 0) && Te.pathOk s)) := Lib.hid rfl
  generalize Te.leafOk 2 s n = R at *
  generalize Te.pathOk s = q at *
  by_cases hn : n = 0
  · have HQ : Hid (R = q) := Lib.hid (by rw [HE.out, decide_eq_true hn]; rfl)
    subst hn
    go_enter Tryd.func33, Tryd.ntmps33
    go_wp2_with first | (go_at_call 51; go_must (refine (HP.out _).mono ?_; rintro e w2 ⟨rfl, hb2⟩; have HB2 : Hid (Below w.heap.size w w2) := Lib.hid (((Below.refl w.heap.size w).alloc (Nat.le_refl _) _).trans (hb2.mono (by simp))); clear hb2))
    go_ret
    exact ⟨by rw [HQ.out]; rfl, HB2.out⟩
  · have HQ : Hid (R = false) := Lib.hid (by rw [HE.out, decide_eq_false hn]; rfl)
    have nb : (n == 0) = false := by simpa using hn
    go_enter Tryd.func33, Tryd.ntmps33
    go_wp2
    go_ret
    exact ⟨by rw [HQ.out]; rfl, ((Below.refl w.heap.size w).alloc (Nat.le_refl _) _)⟩

set_option maxRecDepth 100000 in
set_option maxHeartbeats 8000000 in
theorem tleaf_num (s : List UInt8) (n : Int) (A : Option Addr) (m c : Nat) (hs : s.length ≤ 4294967280) (w : World) :
    Calls Tryd.prog 33 #[.agg #[.int .i64 3, .string ⟨s.toArray⟩, .int .i64 n, .slice A m c]] w fun e w' => e = .returned (.bool (Te.leafOk 3 s n)) ∧ Below w.heap.size w w' := by
  have HE : Hid (Te.leafOk 3 s n = (decide (s = []) && (decide (-4611686018427387904 ≤ n) && decide (n ≤ 4611686018427387904)))) := Lib.hid rfl
  generalize Te.leafOk 3 s n = R at *
  by_cases hn : s = []
  · subst hn
    by_cases h1 : -4611686018427387904 ≤ n
    · by_cases h2 : n ≤ 4611686018427387904
      · have HQ : Hid (R = true) := Lib.hid (by rw [HE.out, decide_eq_true h1, decide_eq_true h2]; rfl)
        go_enter Tryd.func33, Tryd.ntmps33
        go_wp2
        go_ret
        exact ⟨by rw [HQ.out]; rfl, ((Below.refl w.heap.size w).alloc (Nat.le_refl _) _)⟩
      · have HQ : Hid (R = false) := Lib.hid (by rw [HE.out, decide_eq_true h1, decide_eq_false h2]; rfl)
        go_enter Tryd.func33, Tryd.ntmps33
        go_wp2
        go_ret
        exact ⟨by rw [HQ.out]; rfl, ((Below.refl w.heap.size w).alloc (Nat.le_refl _) _)⟩
    · have HQ : Hid (R = false) := Lib.hid (by rw [HE.out, decide_eq_false h1]; rfl)
      go_enter Tryd.func33, Tryd.ntmps33
      go_wp2
      go_ret
      exact ⟨by rw [HQ.out]; rfl, ((Below.refl w.heap.size w).alloc (Nat.le_refl _) _)⟩
  · have HQ : Hid (R = false) := Lib.hid (by rw [HE.out, decide_eq_false hn]; rfl)
    have nb : (s == ([] : List UInt8)) = false := by simpa using hn
    go_enter Tryd.func33, Tryd.ntmps33
    go_wp2
    go_ret
    exact ⟨by rw [HQ.out]; rfl, ((Below.refl w.heap.size w).alloc (Nat.le_refl _) _)⟩

set_option maxRecDepth 100000 in
set_option maxHeartbeats 8000000 in
theorem tleaf_str (s : List UInt8) (n : Int) (A : Option Addr) (m c : Nat) (hs : s.length ≤ 4294967280) (w : World) :
    Calls Tryd.prog 33 #[.agg #[.int .i64 4, .string ⟨s.toArray⟩, .int .i64 n, .slice A m c]] w fun e w' => e = .returned (.bool (Te.leafOk 4 s n)) ∧ Below w.heap.size w w' := by
  have HC1 := Lib.hid fun W => contains_one s 34 W
  have HC2 := Lib.hid fun W => contains_one s 39 W
  have HE : Hid (Te.leafOk 4 s n = (decide (n = 0) && !(s.contains 34 && s.contains 39))) := Lib.hid rfl
  generalize Te.leafOk 4 s n = R at *
  generalize s.contains 34 = q1 at *
  generalize s.contains 39 = q2 at *
  by_cases hn : n = 0
  · have HQ : Hid (R = !(q1 && q2)) := Lib.hid (by rw [HE.out, decide_eq_true hn]; rfl)
    subst hn
    cases q1
    · go_enter Tryd.func33, Tryd.ntmps33
      go_wp2_with first | (go_at_call 38; ((with_reducible refine (HC1.out _).mono ?_); rintro e w2 ⟨rfl, rfl⟩)) | (go_at_call 38; ((with_reducible refine (HC2.out _).mono ?_); rintro e w2 ⟨rfl, rfl⟩))
      go_ret
      exact ⟨by rw [HQ.out]; rfl, ((Below.refl w.heap.size w).alloc (Nat.le_refl _) _)⟩
    · cases q2
      · go_enter Tryd.func33, Tryd.ntmps33
        go_wp2_with first | (go_at_call 38; ((with_reducible refine (HC1.out _).mono ?_); rintro e w2 ⟨rfl, rfl⟩)) | (go_at_call 38; ((with_reducible refine (HC2.out _).mono ?_); rintro e w2 ⟨rfl, rfl⟩))
        go_ret
        exact ⟨by rw [HQ.out]; rfl, ((Below.refl w.heap.size w).alloc (Nat.le_refl _) _)⟩
      · go_enter Tryd.func33, Tryd.ntmps33
        go_wp2_with first | (go_at_call 38; ((with_reducible refine (HC1.out _).mono ?_); rintro e w2 ⟨rfl, rfl⟩)) | (go_at_call 38; ((with_reducible refine (HC2.out _).mono ?_); rintro e w2 ⟨rfl, rfl⟩))
        go_ret
        exact ⟨by rw [HQ.out]; rfl, ((Below.refl w.heap.size w).alloc (Nat.le_refl _) _)⟩
  · have HQ : Hid (R = false) := Lib.hid (by rw [HE.out, decide_eq_false hn]; rfl)
    have nb : (n == 0) = false := by simpa using hn
    go_enter Tryd.func33, Tryd.ntmps33
    go_wp2
    go_ret
    exact ⟨by rw [HQ.out]; rfl, ((Below.refl w.heap.size w).alloc (Nat.le_refl _) _)⟩

set_option maxRecDepth 100000 in
set_option maxHeartbeats 8000000 in
theorem tleaf_bool (s : List UInt8) (n : Int) (A : Option Addr) (m c : Nat) (hs : s.length ≤ 4294967280) (w : World) :
    Calls Tryd.prog 33 #[.agg #[.int .i64 5, .string ⟨s.toArray⟩, .int .i64 n, .slice A m c]] w fun e w' => e = .returned (.bool (Te.leafOk 5 s n)) ∧ Below w.heap.size w w' := by
  have HE : Hid (Te.leafOk 5 s n = (decide (s = []) && (decide (n = 0) || decide (n = 1)))) := Lib.hid rfl
  generalize Te.leafOk 5 s n = R at *
  by_cases hn : s = []
  · subst hn
    by_cases h1 : n = 0
    · have HQ : Hid (R = true) := Lib.hid (by rw [HE.out, decide_eq_true h1]; rfl)
      subst h1
      go_enter Tryd.func33, Tryd.ntmps33
      go_wp2
      go_ret
      exact ⟨by rw [HQ.out]; rfl, ((Below.refl w.heap.size w).alloc (Nat.le_refl _) _)⟩
    · have b1 : (n == 0) = false := by simpa using h1
      by_cases h2 : n = 1
      · have HQ : Hid (R = true) := Lib.hid (by rw [HE.out, decide_eq_true h2]; simp)
        subst h2
        go_enter Tryd.func33, Tryd.ntmps33
        go_wp2
        go_ret
        exact ⟨by rw [HQ.out]; rfl, ((Below.refl w.heap.size w).alloc (Nat.le_refl _) _)⟩
      · have b2 : (n == 1) = false := by simpa using h2
        have HQ : Hid (R = false) := Lib.hid (by rw [HE.out, decide_eq_false h1, decide_eq_false h2]; rfl)
        go_enter Tryd.func33, Tryd.ntmps33
        go_wp2
        go_ret
        exact ⟨by rw [HQ.out]; rfl, ((Below.refl w.heap.size w).alloc (Nat.le_refl _) _)⟩
  · have HQ : Hid (R = false) := Lib.hid (by rw [HE.out, decide_eq_false hn]; rfl)
    have nb : (s == ([] : List UInt8)) = false := by simpa using hn
    go_enter Tryd.func33, Tryd.ntmps33
    go_wp2
    go_ret
    exact ⟨by rw [HQ.out]; rfl, ((Below.refl w.heap.size w).alloc (Nat.le_refl _) _)⟩

set_option maxRecDepth 100000 in
set_option maxHeartbeats 8000000 in
theorem tleaf_none (s : List UInt8) (n : Int) (A : Option Addr) (m c : Nat) (hs : s.length ≤ 4294967280) (k : Int) (k2 : k ≠ 2) (k3 : k ≠ 3) (k4 : k ≠ 4) (k5 : k ≠ 5) (w : World) :
    Calls Tryd.prog 33 #[.agg #[.int .i64 k, .string ⟨s.toArray⟩, .int .i64 n, .slice A m c]] w fun e w' => e = .returned (.bool (Te.leafOk k s n)) ∧ Below w.heap.size w w' := by
  have HQ : Hid (Te.leafOk k s n = false) := Lib.hid (by unfold Te.leafOk; rw [if_neg k2, if_neg k3, if_neg k4, if_neg k5])
  generalize Te.leafOk k s n = R at *
  have b2 : (k == 2) = false := by simpa using k2
  have b3 : (k == 3) = false := by simpa using k3
  have b4 : (k == 4) = false := by simpa using k4
  have b5 : (k == 5) = false := by simpa using k5
  go_enter Tryd.func33, Tryd.ntmps33
  go_wp2
  go_ret
  exact ⟨by rw [HQ.out]; rfl, ((Below.refl w.heap.size w).alloc (Nat.le_refl _) _)⟩

theorem tleaf_any (k : Int) (s : List UInt8) (n : Int) (A : Option Addr) (m c : Nat) (hs : s.length ≤ 4294967280) (w : World) :
    Calls Tryd.prog 33 #[.agg #[.int .i64 k, .string ⟨s.toArray⟩, .int .i64 n, .slice A m c]] w fun e w' => e = .returned (.bool (Te.leafOk k s n)) ∧ Below w.heap.size w w' := by
  by_cases k2 : k = 2
  · subst k2; exact tleaf_path s n A m c hs w
  by_cases k3 : k = 3
  · subst k3; exact tleaf_num s n A m c hs w
  by_cases k4 : k = 4
  · subst k4; exact tleaf_str s n A m c hs w
  by_cases k5 : k = 5
  · subst k5; exact tleaf_bool s n A m c hs w
  exact tleaf_none s n A m c hs k k2 k3 k4 k5 w
end Go.Proofs.YtojmcndiooiehaaDoor
