/-
  CONTRACTS: chapter 12: paths.clear, records.row, goesOn.
-/
import Derived.Test.YtedppnejkjcplaaPkAdd
import Derived.Lib.SliceRun
namespace Go.Proofs.Ytedppnejkjcplaa
open Go.RowKit
open Me
open Pk

namespace Pk
theorem own_two {w : World} {base : Nat} {e : TypeId} {size n : Nat} {v : Value} {xs : List Value} (h : w.ownsRow base e size v n xs) : (v = .slice none 0 0 ∧ n = 0 ∧ w.ownsRow base e size (.slice none 0 0) 0 []) ∨ ∃ g cap, v = .slice (some ⟨g, 0, none⟩) n cap ∧ w.ownsRow base e size (.slice (some ⟨g, 0, none⟩) 0 cap) 0 [] ∧ n ≤ cap ∧ cap ≤ maxLen := by
  rcases h.2 with ⟨rfl, h0⟩ | ⟨g', cap, cur, rfl, hb, hg, hn, hc, hs, ht⟩
  · exact .inl ⟨rfl, h0, by simp, .inl ⟨rfl, rfl⟩⟩
  · exact .inr ⟨g', cap, rfl, ⟨by simp, .inr ⟨g', cap, cur, rfl, hb, hg, Nat.zero_le _, hc, hs, by simp⟩⟩, hn, hc⟩
/-- The next offset's list is emptied, its memory kept. -/
theorem Se.clear {W : World} {sb : Nat} {c : Cs} (h : Se W sb c) {V1 V2 : Value} (h1 : W.ownsRow c.b0 intT 1 V1 0 []) (h2 : W.ownsRow c.b0 intT 1 V2 0 []) (e1 : V1.ownBlock = c.xh.ownBlock) (e2 : V2.ownBlock = c.xo.ownBlock) :
    Se ((W.setCell ⟨sb, 9, none⟩ V1).setCell ⟨sb, 8, none⟩ V2) sb { c with xo := V2, xh := V1, xofs := [], xhds := [] } ∧ Below c.b0 W ((W.setCell ⟨sb, 9, none⟩ V1).setCell ⟨sb, 8, none⟩ V2) := by
  have s1 : Se (W.setCell ⟨sb, 9, none⟩ V1) sb { c with xh := V1, xhds := [] } :=
    Se.swap (W2 := W) h _ 9 (l1 := [oi c.dv c.dn, oi c.bv c.bl, oi c.no c.nofs, oi c.nh c.nhds, oi c.xo c.xofs]) (l2 := [⟨turnT, 4, c.tv, c.ts.length, tcells c.ts.reverse⟩, oi c.fv c.fl]) (x := oi c.xh c.xhds) (oi V1 []) rfl rfl rfl (Nat.le_refl _) (fun _ _ _ => rfl) h1 (fun g hg => .inl (e1.symm.trans hg)) rfl rfl rfl rfl rfl h.fit
  have h2' : (W.setCell ⟨sb, 9, none⟩ V1).ownsRow c.b0 intT 1 V2 0 [] := owns_keep h2 fun g hg => Below.heap_setCell W _ _ g (by
    show g ≠ sb
    intro e
    subst e
    exact h.xone (by rw [← e2]; exact hg))
  refine ⟨Se.swap (W2 := W.setCell ⟨sb, 9, none⟩ V1) s1 _ 8 (l1 := [oi c.dv c.dn, oi c.bv c.bl, oi c.no c.nofs, oi c.nh c.nhds]) (l2 := [oi V1 [], ⟨turnT, 4, c.tv, c.ts.length, tcells c.ts.reverse⟩, oi c.fv c.fl]) (x := oi c.xo c.xofs) (oi V2 []) rfl rfl rfl (Nat.le_refl _) (fun _ _ _ => rfl) h2' (fun g hg => .inl (e2.symm.trans hg)) rfl rfl rfl rfl rfl h.fit, ?_⟩
  exact ((Below.refl c.b0 W).setCell h.le _).setCell h.le _
end Pk

set_option maxRecDepth 100000 in
set_option maxHeartbeats 2000000 in
theorem clear_next {W : World} {sb : Nat} {c : Pk.Cs} (hS : Pk.Se W sb c) :
    Calls Try.prog 49 #[.pointer (some ⟨sb, 7, none⟩)] W fun e W' => e = .returned (.tuple #[]) ∧ Below c.b0 W W' ∧ ∃ v1 v2, Pk.Se W' sb { c with xo := v1, xh := v2, xofs := [], xhds := [] } := by
  have c8 : W.cell? ⟨sb, 8, none⟩ = some c.xo := (hS.cell 8).trans rfl
  have f8 := hS.row.frozen 8
  have c9 : W.cell? ⟨sb, 9, none⟩ = some c.xh := (hS.cell 9).trans rfl
  have f9 := hS.row.frozen 9
  rcases own_two hS.oxh with ⟨e1, _, o1⟩ | ⟨g1, k1, e1, o1, hk1, hm1⟩ <;> rcases own_two hS.oxo with ⟨e2, _, o2⟩ | ⟨g2, k2, e2, o2, hk2, hm2⟩
  all_goals
    rw [e1] at c9
    rw [e2] at c8
    have hF := Lib.hid (Pk.Se.clear hS o1 o2 (by rw [e1] <;> rfl) (by rw [e2] <;> rfl))
    clear e1 e2 o1 o2 hS
    go_enter Try.func49, Try.ntmps49
    go_wp2_with fail
    ((try simp only [Exit.inBlock, Exit.then]); first | (refine bodyPost_ret (results_none rfl _ _ _) rfl ?_) | (refine bodyPost_end (results_none rfl _ _ _) rfl ?_))
    exact ⟨rfl, hF.out.2, _, _, hF.out.1⟩

set_option maxRecDepth 100000 in
set_option maxHeartbeats 2000000 in
theorem row_now {W : World} {sb : Nat} {c : Pk.Cs} (hS : Pk.Se W sb c) {g cap : Nat} (hv : c.no = .slice (some ⟨g, 0, none⟩) c.nofs.length cap) (i : Nat) (hi : (i + 1) * c.wd ≤ c.nofs.length) (hl : c.nofs.length ≤ 1073741824) :
    Calls Try.prog 46 #[.pointer (some ⟨sb, 4, none⟩), .int .i64 (i : Int)] W fun e W' => (∃ cp, e = .returned (.slice (some ⟨g, i * c.wd, none⟩) c.wd cp)) ∧ Below W.heap.size W W' := by
  have c4 : W.cell? ⟨sb, 4, none⟩ = some (.int .i64 c.wd) := (hS.cell 4).trans rfl
  have c5 : W.cell? ⟨sb, 5, none⟩ = some c.no := (hS.cell 5).trans rfl
  have hcap : c.nofs.length ≤ cap := by
    rcases own_two hS.ono with ⟨e, _, _⟩ | ⟨g', k, e, _, hk, _⟩
    · rw [hv] at e; cases e
    · rw [hv] at e; cases e; exact hk
  rw [hv] at c5
  have htw := hS.tw
  have hw := hS.bw
  have hmul : ((i : Int) * (c.wd : Int)) = ((i * c.wd : Nat) : Int) := by simp
  have hmul2 : (((i : Int) + 1) * (c.wd : Int)) = (((i + 1) * c.wd : Nat) : Int) := by simp
  have hexp : (i + 1) * c.wd = i * c.wd + c.wd := by rw [Nat.add_mul, Nat.one_mul]
  have hile : i + 1 ≤ (i + 1) * c.wd := Nat.le_mul_of_pos_right _ (by omega)
  generalize hO : i * c.wd = o at *
  generalize hO2 : (i + 1) * c.wd = o2 at *
  have w1 : IntKind.i64.wrap ((i : Int) * (c.wd : Int)) = (o : Int) := by rw [hmul, IntKind.wrap_i64]; omega
  have w2 : IntKind.i64.wrap ((i : Int) + 1) = (i : Int) + 1 := by rw [IntKind.wrap_i64]; omega
  have w3 : IntKind.i64.wrap (((i : Int) + 1) * (c.wd : Int)) = (o2 : Int) := by rw [hmul2, IntKind.wrap_i64]; omega
  have hd : o2 - o = c.wd := by omega
  have hoo : o ≤ o2 := by omega
  have hoI : (0 : Int) ≤ (o : Int) := by omega
  have hoI2 : (o : Int) ≤ (o2 : Int) := by omega
  have hoI3 : (o2 : Int) ≤ (cap : Int) := by omega
  clear hmul hmul2 hO hO2 hexp hv hi hl hile
  go_enter Try.func46, Try.ntmps46
  go_wp2_with fail
  try go_quiet (fail)
  try go_wp2_with fail
  go_ret
  refine ⟨?_, ?_⟩
  · exact ⟨_, rfl⟩
  · exact ⟨rfl, rfl, rfl, Nat.le_refl _, fun _ _ => rfl⟩

set_option maxRecDepth 100000 in
set_option maxHeartbeats 2000000 in
theorem goesOn_any {W : World} {sb : Nat} {c : Pk.Cs} (hS : Pk.Se W sb c) (hf : c.fl = [] → c.fv = .slice none 0 0) :
    Calls Try.prog 31 #[.pointer (some ⟨sb, 0, none⟩)] W fun e W' => e = .returned (.bool (decide (c.fl = []) || !decide (c.nhds = []))) ∧ W' = W := by
  have c11 : W.cell? ⟨sb, 11, none⟩ = some c.fv := (hS.cell 11).trans rfl
  have c6 : W.cell? ⟨sb, 6, none⟩ = some c.nh := (hS.cell 6).trans rfl
  obtain ⟨An, cn, hvn⟩ := own_form hS.onh
  rw [hvn] at c6
  have qT : ∀ (w : World) (a : Option Addr) (n c : Nat), (binOp .eql 28 (.slice a n c) (.slice none 0 0)).run Try.prog w = .ok (.bool a.isNone) w := fun w a n c => Lib.run_eql_slice_nil w _ _ a n c _ _ Try.underlying28
  by_cases h1 : c.fl = []
  · rw [hf h1] at c11
    rw [show (decide (c.fl = []) || !decide (c.nhds = [])) = true by simp [h1]]
    clear hS hf h1 hvn
    go_enter Try.func31, Try.ntmps31
    go_wp2_with fail
    go_ret
    exact ⟨rfl, rfl⟩
  · have hpos : 0 < c.fl.length := List.length_pos_iff.2 h1
    obtain ⟨g, cap, hv, _⟩ := own_some hS.ofv hpos
    rw [hv] at c11
    have e : (decide (c.fl = []) || !decide (c.nhds = [])) = decide (0 < c.nhds.length) := by
      rw [decide_eq_false h1, Bool.false_or]
      by_cases h2 : c.nhds = []
      · simp [h2]
      · have : 0 < c.nhds.length := List.length_pos_iff.2 h2
        simp [h2, this]
    rw [e]
    clear hS hf h1 hvn hv e hpos
    go_enter Try.func31, Try.ntmps31
    go_wp2_with fail
    go_ret
    exact ⟨rfl, rfl⟩
end Go.Proofs.Ytedppnejkjcplaa
