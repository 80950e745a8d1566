/-
  TePn: CONTRACTS: chapter 15: the program's printer: every node that may be.
  TeVal: CONTRACTS: chapter 15: the program's Is.
-/
import Derived.Test.YtojmcndiooiehaaGreatDoorJ24
import Derived.Test.YtojmcndiooiehaaGreatDoorJ11
import Derived.Test.YtojmcndiooiehaaGreatDoorJ16

set_option linter.unusedSimpArgs false
set_option linter.unusedVariables false
namespace Go.Proofs.YtojmcndiooiehaaGreatDoor
open Go.RowKit Go.Sort
open Me

set_option maxRecDepth 100000 in
set_option maxHeartbeats 8000000 in
theorem tnode_call {B r : Nat} {l out : List UInt8} {w : World} (s : List UInt8) (n : Int) (A : Option Addr) (m c : Nat) (h : Tb.Pr B r l w) (hB : B ≤ w.heap.size)
    (hC : ∀ W, Tb.Pw B r l w W → Calls Tryz.prog 37 #[.pointer (some ⟨r, 0, none⟩), .agg #[.int .i64 1, .string ⟨s.toArray⟩, .int .i64 n, .slice A m c]] W fun e w' => e = .returned (.tuple #[]) ∧ Tb.Pw B r (l ++ out) W w') :
    Calls Tryz.prog 24 #[.pointer (some ⟨r, 0, none⟩), .agg #[.int .i64 1, .string ⟨s.toArray⟩, .int .i64 n, .slice A m c]] w fun e w' => e = .returned (.tuple #[]) ∧ Tb.Pw B r (l ++ out) w w' := by
  have hrl := h.lt
  have HP0 := Lib.hid (Tb.Pw.refl h hB)
  have HC := Lib.hid hC
  clear h hC
  go_enter Tryz.func24, Tryz.ntmps24
  go_wp2_with (go_at_call 37; go_must (refine (HC.out _ (HP0.out.alloc _)).mono ?_; rintro e w6 ⟨rfl, hw6⟩; have HW6 := Lib.hid ((HP0.out.alloc _).trans hw6); clear hw6))
  go_end0
  exact ⟨rfl, HW6.out⟩

namespace Te
theorem oks_mem : ∀ (d : Nat) (l : List Nd), oks d l = true → ∀ x ∈ l, ok d x = true
  | _, [], _, x, hx => by cases hx
  | d, y :: r, h, x, hx => by
    rw [oks, Bool.and_eq_true] at h
    rcases List.mem_cons.1 hx with rfl | hx
    · exact h.1
    · exact oks_mem d r h.2 x hx
theorem ok_call {d : Nat} {s : List UInt8} {n : Int} {ks : List Nd} (h : ok d (.mk 1 s n ks) = true) : 0 < d ∧ n = 0 ∧ Lx.identOf s = true ∧ oks (d - 1) ks = true := by
  rw [ok, if_pos rfl] at h
  simpa using h
theorem ok_leaf {d : Nat} {k : Int} {s : List UInt8} {n : Int} {ks : List Nd} (hk : k ≠ 1) (h : ok d (.mk k s n ks) = true) : 0 < d ∧ ks = [] ∧ leafOk k s n = true := by
  rw [ok, if_neg hk] at h
  simpa using h
theorem leaf_kind {k : Int} {s : List UInt8} {n : Int} (h : leafOk k s n = true) : k = 2 ∨ k = 3 ∨ k = 4 ∨ k = 5 := by
  by_cases h2 : k = 2
  · exact .inl h2
  by_cases h3 : k = 3
  · exact .inr (.inl h3)
  by_cases h4 : k = 4
  · exact .inr (.inr (.inl h4))
  by_cases h5 : k = 5
  · exact .inr (.inr (.inr h5))
  unfold leafOk at h
  rw [if_neg h2, if_neg h3, if_neg h4, if_neg h5] at h
  cases h
theorem txt_path (s : List UInt8) (n : Int) (ks : List Nd) : txt (.mk 2 s n ks) = s := by rw [txt, if_neg (by decide), if_pos rfl]
theorem txt_num (s : List UInt8) (n : Int) (ks : List Nd) : txt (.mk 3 s n ks) = Dc.pr true n := by rw [txt, if_neg (by decide), if_neg (by decide), if_pos rfl]
theorem txt_str (s : List UInt8) (n : Int) (ks : List Nd) : txt (.mk 4 s n ks) = quoted s := by rw [txt, if_neg (by decide), if_neg (by decide), if_neg (by decide), if_pos rfl]
theorem txt_bool (s : List UInt8) (n : Int) (ks : List Nd) : txt (.mk 5 s n ks) = bword n := by rw [txt, if_neg (by decide), if_neg (by decide), if_neg (by decide), if_neg (by decide), if_pos rfl]; rfl
end Te

/-- The printer, for every node that may be. -/
theorem tnode_any (B r : Nat) : ∀ (d : Nat) (x : Te.Nd), Te.ok d x = true → Te.NodeC B r x
  | 0, .mk k s n ks, h => by
    rw [Te.ok] at h
    simp at h
  | d + 1, .mk k s n ks, h => by
    intro l w kv hp hB hat hlen
    by_cases hk : k = 1
    · subst hk
      obtain ⟨_, _, _, h4⟩ := Te.ok_call h
      have hX : ∀ x ∈ ks, Te.NodeC B r x := fun x hx => tnode_any B r d x (Te.oks_mem d ks h4 x hx)
      have hat' := hat
      rw [Te.At] at hat'
      obtain ⟨A, c, xs, rfl, _, _⟩ := hat'
      exact tnode_call s n A ks.length c hp hB fun W hW => tpcall_any s n ks _ hX hW.pr (Nat.le_trans hW.base hW.size) (Te.At.keep hW.bel.size (fun _ _ h => h) (fun i _ hg => hW.bel.block i hg) _ _ hat) hlen
    · obtain ⟨_, rfl, hl⟩ := Te.ok_leaf hk h
      rw [Te.At] at hat
      obtain ⟨A, c, xs, rfl, _, _⟩ := hat
      rcases Te.leaf_kind hl with rfl | rfl | rfl | rfl
      · rw [Te.txt_path] at hlen ⊢; exact tnode_path s n A 0 c hp hB hlen
      · rw [Te.txt_num] at hlen ⊢; exact tnode_num s n A 0 c hp hB hlen
      · rw [Te.txt_str] at hlen ⊢; exact tnode_str s n A 0 c hp hB hlen
      · rw [Te.txt_bool] at hlen ⊢; exact tnode_bool s n A 0 c hp hB hlen
end Go.Proofs.YtojmcndiooiehaaGreatDoor

namespace Go.Proofs.YtojmcndiooiehaaGreatDoor
open Go.RowKit Go.Sort
open Me

namespace Te
def pathOk (s : List UInt8) : Bool := pathB s && !(decide (s = trueT)) && !(decide (s = falseT)) && !Dc.prOk s
theorem wts_mem : ∀ (l : List Nd) (x : Nd), x ∈ l → wt x ≤ wts l
  | [], x, h => by cases h
  | y :: r, x, h => by
    rw [wts]
    rcases List.mem_cons.1 h with rfl | h
    · omega
    · have := wts_mem r x h; omega
theorem wts_len : ∀ (l : List Nd), 5 * l.length ≤ wts l
  | [] => Nat.zero_le _
  | .mk k s n ks :: r => by
    rw [wts, wt, List.length_cons]
    have := wts_len r; omega
theorem wt_eq (k : Int) (s : List UInt8) (n : Int) (ks : List Nd) : wt (.mk k s n ks) = 5 + s.length + wts ks := by rw [wt]
end Te

set_option maxRecDepth 100000 in
set_option maxHeartbeats 4000000 in
theorem tispath_any (s : List UInt8) (hs : s.length ≤ 4294967280) (w : World) :
    Calls Tryz.prog 68 #[.string ⟨s.toArray⟩] w fun e w' => e = .returned (.bool (Te.pathOk s)) ∧ Below w.heap.size w w' := by
  have HP := Lib.hid fun W => parse_prog s (by omega) W
  have HL := Lib.hid fun W => lpath_any s hs W
  have HE : Hid (Te.pathOk s = (Lx.pathA s && !(decide (s = [116, 114, 117, 101])) && !(decide (s = [102, 97, 108, 115, 101])) && !Dc.prOk s)) := Lib.hid rfl
  generalize Te.pathOk s = R at *
  generalize Lx.pathA s = pa at *
  generalize Dc.prOk s = ok at *
  generalize Dc.prV s = V at *
  have HLB : Hid (∀ {W W' : World}, Below w.heap.size w W → Below W.heap.size W W' → Below w.heap.size w W') := Lib.hid fun h k => h.trans (k.mono h.size)
  cases pa
  · obtain rfl : R = false := by rw [HE.out]; rfl
    go_enter Tryz.func68, Tryz.ntmps68
    go_wp2_with (go_at_call 83; go_must (refine (HL.out _).mono ?_; rintro e w2 ⟨rfl, hb2⟩; have HB2 := Lib.hid hb2; clear hb2))
    go_ret
    exact ⟨rfl, HB2.out⟩
  by_cases ht : s = [116, 114, 117, 101]
  · obtain rfl : R = false := by rw [HE.out, decide_eq_true ht]; rfl
    have e1 : (s == ([116, 114, 117, 101] : List UInt8)) = true := by simpa using ht
    clear ht
    go_enter Tryz.func68, Tryz.ntmps68
    go_wp2_with (go_at_call 83; go_must (refine (HL.out _).mono ?_; rintro e w2 ⟨rfl, hb2⟩; have HB2 := Lib.hid hb2; clear hb2))
    go_ret
    exact ⟨rfl, HB2.out⟩
  have e1 : (s == ([116, 114, 117, 101] : List UInt8)) = false := by simpa using ht
  by_cases hf : s = [102, 97, 108, 115, 101]
  · obtain rfl : R = false := by rw [HE.out, decide_eq_true hf]; simp
    have e2 : (s == ([102, 97, 108, 115, 101] : List UInt8)) = true := by simpa using hf
    clear ht hf
    go_enter Tryz.func68, Tryz.ntmps68
    go_wp2_with (go_at_call 83; go_must (refine (HL.out _).mono ?_; rintro e w2 ⟨rfl, hb2⟩; have HB2 := Lib.hid hb2; clear hb2))
    go_ret
    exact ⟨rfl, HB2.out⟩
  have e2 : (s == ([102, 97, 108, 115, 101] : List UInt8)) = false := by simpa using hf
  have HR : Hid (R = !ok) := Lib.hid (by rw [HE.out, decide_eq_false ht, decide_eq_false hf]; simp)
  clear ht hf
  go_enter Tryz.func68, Tryz.ntmps68
  go_wp2_with first
    | (go_at_call 83; go_must (refine (HL.out _).mono ?_; rintro e w2 ⟨rfl, hb2⟩; have HB2 := Lib.hid hb2; clear hb2))
    | (go_at_call 82; go_must (refine (HP.out _).mono ?_; rintro e w3 ⟨rfl, hb3⟩; have HB3 := Lib.hid (HLB.out HB2.out hb3); clear hb3))
  go_ret
  exact ⟨by rw [HR.out]; rfl, HB3.out.alloc HB3.out.size _⟩

set_option maxRecDepth 100000 in
set_option maxHeartbeats 8000000 in
theorem tleaf_path (s : List UInt8) (n : Int) (A : Option Addr) (m c : Nat) (hs : s.length ≤ 4294967280) (w : World) :
    Calls Tryz.prog 46 #[.agg #[.int .i64 2, .string ⟨s.toArray⟩, .int .i64 n, .slice A m c]] w fun e w' => e = .returned (.bool (Te.leafOk 2 s n)) ∧ Below w.heap.size w w' := by
  have HP := Lib.hid fun W => tispath_any s hs W
  have HE : Hid (Te.leafOk 2 s n = (decide (n = 0) && Te.pathOk s)) := Lib.hid rfl
  generalize Te.leafOk 2 s n = R at *
  generalize Te.pathOk s = q at *
  by_cases hn : n = 0
  · have HQ : Hid (R = q) := Lib.hid (by rw [HE.out, decide_eq_true hn]; rfl)
    subst hn
    go_enter Tryz.func46, Tryz.ntmps46
    go_wp2_with first | (go_at_call 68; go_must (refine (HP.out _).mono ?_; rintro e w2 ⟨rfl, hb2⟩; have HB2 : Hid (Below w.heap.size w w2) := Lib.hid (((Below.refl w.heap.size w).alloc (Nat.le_refl _) _).trans (hb2.mono (by simp))); clear hb2))
    go_ret
    exact ⟨by rw [HQ.out]; rfl, HB2.out⟩
  · have HQ : Hid (R = false) := Lib.hid (by rw [HE.out, decide_eq_false hn]; rfl)
    have nb : (n == 0) = false := by simpa using hn
    go_enter Tryz.func46, Tryz.ntmps46
    go_wp2
    go_ret
    exact ⟨by rw [HQ.out]; rfl, ((Below.refl w.heap.size w).alloc (Nat.le_refl _) _)⟩

set_option maxRecDepth 100000 in
set_option maxHeartbeats 8000000 in
theorem tleaf_num (s : List UInt8) (n : Int) (A : Option Addr) (m c : Nat) (hs : s.length ≤ 4294967280) (w : World) :
    Calls Tryz.prog 46 #[.agg #[.int .i64 3, .string ⟨s.toArray⟩, .int .i64 n, .slice A m c]] w fun e w' => e = .returned (.bool (Te.leafOk 3 s n)) ∧ Below w.heap.size w w' := by
  have HE : Hid (Te.leafOk 3 s n = (decide (s = []) && (decide (-4611686018427387904 ≤ n) && decide (n ≤ 4611686018427387904)))) := Lib.hid rfl
  generalize Te.leafOk 3 s n = R at *
  by_cases hn : s = []
  · subst hn
    by_cases h1 : -4611686018427387904 ≤ n
    · by_cases h2 : n ≤ 4611686018427387904
      · have HQ : Hid (R = true) := Lib.hid (by rw [HE.out, decide_eq_true h1, decide_eq_true h2]; rfl)
        go_enter Tryz.func46, Tryz.ntmps46
        go_wp2
        go_ret
        exact ⟨by rw [HQ.out]; rfl, ((Below.refl w.heap.size w).alloc (Nat.le_refl _) _)⟩
      · have HQ : Hid (R = false) := Lib.hid (by rw [HE.out, decide_eq_true h1, decide_eq_false h2]; rfl)
        go_enter Tryz.func46, Tryz.ntmps46
        go_wp2
        go_ret
        exact ⟨by rw [HQ.out]; rfl, ((Below.refl w.heap.size w).alloc (Nat.le_refl _) _)⟩
    · have HQ : Hid (R = false) := Lib.hid (by rw [HE.out, decide_eq_false h1]; rfl)
      go_enter Tryz.func46, Tryz.ntmps46
      go_wp2
      go_ret
      exact ⟨by rw [HQ.out]; rfl, ((Below.refl w.heap.size w).alloc (Nat.le_refl _) _)⟩
  · have HQ : Hid (R = false) := Lib.hid (by rw [HE.out, decide_eq_false hn]; rfl)
    have nb : (s == ([] : List UInt8)) = false := by simpa using hn
    go_enter Tryz.func46, Tryz.ntmps46
    go_wp2
    go_ret
    exact ⟨by rw [HQ.out]; rfl, ((Below.refl w.heap.size w).alloc (Nat.le_refl _) _)⟩

set_option maxRecDepth 100000 in
set_option maxHeartbeats 8000000 in
theorem tleaf_str (s : List UInt8) (n : Int) (A : Option Addr) (m c : Nat) (hs : s.length ≤ 4294967280) (w : World) :
    Calls Tryz.prog 46 #[.agg #[.int .i64 4, .string ⟨s.toArray⟩, .int .i64 n, .slice A m c]] w fun e w' => e = .returned (.bool (Te.leafOk 4 s n)) ∧ Below w.heap.size w w' := by
  have HC1 := Lib.hid fun W => contains_one s 34 W
  have HC2 := Lib.hid fun W => contains_one s 39 W
  have HE : Hid (Te.leafOk 4 s n = (decide (n = 0) && !(s.contains 34 && s.contains 39))) := Lib.hid rfl
  generalize Te.leafOk 4 s n = R at *
  generalize s.contains 34 = q1 at *
  generalize s.contains 39 = q2 at *
  by_cases hn : n = 0
  · have HQ : Hid (R = !(q1 && q2)) := Lib.hid (by rw [HE.out, decide_eq_true hn]; rfl)
    subst hn
    cases q1
    · go_enter Tryz.func46, Tryz.ntmps46
      go_wp2_with first | (go_at_call 63; ((with_reducible refine (HC1.out _).mono ?_); rintro e w2 ⟨rfl, rfl⟩)) | (go_at_call 63; ((with_reducible refine (HC2.out _).mono ?_); rintro e w2 ⟨rfl, rfl⟩))
      go_ret
      exact ⟨by rw [HQ.out]; rfl, ((Below.refl w.heap.size w).alloc (Nat.le_refl _) _)⟩
    · cases q2
      · go_enter Tryz.func46, Tryz.ntmps46
        go_wp2_with first | (go_at_call 63; ((with_reducible refine (HC1.out _).mono ?_); rintro e w2 ⟨rfl, rfl⟩)) | (go_at_call 63; ((with_reducible refine (HC2.out _).mono ?_); rintro e w2 ⟨rfl, rfl⟩))
        go_ret
        exact ⟨by rw [HQ.out]; rfl, ((Below.refl w.heap.size w).alloc (Nat.le_refl _) _)⟩
      · go_enter Tryz.func46, Tryz.ntmps46
        go_wp2_with first | (go_at_call 63; ((with_reducible refine (HC1.out _).mono ?_); rintro e w2 ⟨rfl, rfl⟩)) | (go_at_call 63; ((with_reducible refine (HC2.out _).mono ?_); rintro e w2 ⟨rfl, rfl⟩))
        go_ret
        exact ⟨by rw [HQ.out]; rfl, ((Below.refl w.heap.size w).alloc (Nat.le_refl _) _)⟩
  · have HQ : Hid (R = false) := Lib.hid (by rw [HE.out, decide_eq_false hn]; rfl)
    have nb : (n == 0) = false := by simpa using hn
    go_enter Tryz.func46, Tryz.ntmps46
    go_wp2
    go_ret
    exact ⟨by rw [HQ.out]; rfl, ((Below.refl w.heap.size w).alloc (Nat.le_refl _) _)⟩

set_option maxRecDepth 100000 in
set_option maxHeartbeats 8000000 in
theorem tleaf_bool (s : List UInt8) (n : Int) (A : Option Addr) (m c : Nat) (hs : s.length ≤ 4294967280) (w : World) :
    Calls Tryz.prog 46 #[.agg #[.int .i64 5, .string ⟨s.toArray⟩, .int .i64 n, .slice A m c]] w fun e w' => e = .returned (.bool (Te.leafOk 5 s n)) ∧ Below w.heap.size w w' := by
  have HE : Hid (Te.leafOk 5 s n = (decide (s = []) && (decide (n = 0) || decide (n = 1)))) := Lib.hid rfl
  generalize Te.leafOk 5 s n = R at *
  by_cases hn : s = []
  · subst hn
    by_cases h1 : n = 0
    · have HQ : Hid (R = true) := Lib.hid (by rw [HE.out, decide_eq_true h1]; rfl)
      subst h1
      go_enter Tryz.func46, Tryz.ntmps46
      go_wp2
      go_ret
      exact ⟨by rw [HQ.out]; rfl, ((Below.refl w.heap.size w).alloc (Nat.le_refl _) _)⟩
    · have b1 : (n == 0) = false := by simpa using h1
      by_cases h2 : n = 1
      · have HQ : Hid (R = true) := Lib.hid (by rw [HE.out, decide_eq_true h2]; simp)
        subst h2
        go_enter Tryz.func46, Tryz.ntmps46
        go_wp2
        go_ret
        exact ⟨by rw [HQ.out]; rfl, ((Below.refl w.heap.size w).alloc (Nat.le_refl _) _)⟩
      · have b2 : (n == 1) = false := by simpa using h2
        have HQ : Hid (R = false) := Lib.hid (by rw [HE.out, decide_eq_false h1, decide_eq_false h2]; rfl)
        go_enter Tryz.func46, Tryz.ntmps46
        go_wp2
        go_ret
        exact ⟨by rw [HQ.out]; rfl, ((Below.refl w.heap.size w).alloc (Nat.le_refl _) _)⟩
  · have HQ : Hid (R = false) := Lib.hid (by rw [HE.out, decide_eq_false hn]; rfl)
    have nb : (s == ([] : List UInt8)) = false := by simpa using hn
    go_enter Tryz.func46, Tryz.ntmps46
    go_wp2
    go_ret
    exact ⟨by rw [HQ.out]; rfl, ((Below.refl w.heap.size w).alloc (Nat.le_refl _) _)⟩

set_option maxRecDepth 100000 in
set_option maxHeartbeats 8000000 in
theorem tleaf_none (s : List UInt8) (n : Int) (A : Option Addr) (m c : Nat) (hs : s.length ≤ 4294967280) (k : Int) (k2 : k ≠ 2) (k3 : k ≠ 3) (k4 : k ≠ 4) (k5 : k ≠ 5) (w : World) :
    Calls Tryz.prog 46 #[.agg #[.int .i64 k, .string ⟨s.toArray⟩, .int .i64 n, .slice A m c]] w fun e w' => e = .returned (.bool (Te.leafOk k s n)) ∧ Below w.heap.size w w' := by
  have HQ : Hid (Te.leafOk k s n = false) := Lib.hid (by unfold Te.leafOk; rw [if_neg k2, if_neg k3, if_neg k4, if_neg k5])
  generalize Te.leafOk k s n = R at *
  have b2 : (k == 2) = false := by simpa using k2
  have b3 : (k == 3) = false := by simpa using k3
  have b4 : (k == 4) = false := by simpa using k4
  have b5 : (k == 5) = false := by simpa using k5
  go_enter Tryz.func46, Tryz.ntmps46
  go_wp2
  go_ret
  exact ⟨by rw [HQ.out]; rfl, ((Below.refl w.heap.size w).alloc (Nat.le_refl _) _)⟩

theorem tleaf_any (k : Int) (s : List UInt8) (n : Int) (A : Option Addr) (m c : Nat) (hs : s.length ≤ 4294967280) (w : World) :
    Calls Tryz.prog 46 #[.agg #[.int .i64 k, .string ⟨s.toArray⟩, .int .i64 n, .slice A m c]] w fun e w' => e = .returned (.bool (Te.leafOk k s n)) ∧ Below w.heap.size w w' := by
  by_cases k2 : k = 2
  · subst k2; exact tleaf_path s n A m c hs w
  by_cases k3 : k = 3
  · subst k3; exact tleaf_num s n A m c hs w
  by_cases k4 : k = 4
  · subst k4; exact tleaf_str s n A m c hs w
  by_cases k5 : k = 5
  · subst k5; exact tleaf_bool s n A m c hs w
  exact tleaf_none s n A m c hs k k2 k3 k4 k5 w
end Go.Proofs.YtojmcndiooiehaaGreatDoor
