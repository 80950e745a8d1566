/-
  PkClr: CONTRACTS: chapter 12: paths.clear, records.row, goesOn.
  PkSave: CONTRACTS: chapter 12: save: an offset is recorded, with the turn that takes it back.
  PkRunP: CHAPTER 12, MEMORY: the state of a path's run.
-/
import Derived.Test.YtelbabgkpflckaaJ20
import Derived.Lib.SliceRun
import Derived.RegionTactic
import Derived.Deep.RegionLaw
import Derived.Test.YtelbabgkpflckaaJ6
import Derived.BigQuiet
import Derived.Laws.MakeOwn

set_option linter.unusedSimpArgs false
set_option linter.unusedVariables false
namespace Go.Proofs.Ytelbabgkpflckaa
open Go.RowKit
open Me
open Pk

namespace Pk
theorem own_two {w : World} {base : Nat} {e : TypeId} {size n : Nat} {v : Value} {xs : List Value} (h : w.ownsRow base e size v n xs) : (v = .slice none 0 0 ∧ n = 0 ∧ w.ownsRow base e size (.slice none 0 0) 0 []) ∨ ∃ g cap, v = .slice (some ⟨g, 0, none⟩) n cap ∧ w.ownsRow base e size (.slice (some ⟨g, 0, none⟩) 0 cap) 0 [] ∧ n ≤ cap ∧ cap ≤ maxLen := by
  rcases h.2 with ⟨rfl, h0⟩ | ⟨g', cap, cur, rfl, hb, hg, hn, hc, hs, ht⟩
  · exact .inl ⟨rfl, h0, by simp, .inl ⟨rfl, rfl⟩⟩
  · exact .inr ⟨g', cap, rfl, ⟨by simp, .inr ⟨g', cap, cur, rfl, hb, hg, Nat.zero_le _, hc, hs, by simp⟩⟩, hn, hc⟩
/-- The next offset's list is emptied, its memory kept. -/
theorem Se.clear {W : World} {sb : Nat} {c : Cs} (h : Se W sb c) {V1 V2 : Value} (h1 : W.ownsRow c.b0 intT 1 V1 0 []) (h2 : W.ownsRow c.b0 intT 1 V2 0 []) (e1 : V1.ownBlock = c.xh.ownBlock) (e2 : V2.ownBlock = c.xo.ownBlock) :
    Se ((W.setCell ⟨sb, 9, none⟩ V1).setCell ⟨sb, 8, none⟩ V2) sb { c with xo := V2, xh := V1, xofs := [], xhds := [] } ∧ Below c.b0 W ((W.setCell ⟨sb, 9, none⟩ V1).setCell ⟨sb, 8, none⟩ V2) := by
  have s1 : Se (W.setCell ⟨sb, 9, none⟩ V1) sb { c with xh := V1, xhds := [] } :=
    Se.swap (W2 := W) h _ 9 (l1 := [oi c.dv c.dn, oi c.bv c.bl, oi c.no c.nofs, oi c.nh c.nhds, oi c.xo c.xofs]) (l2 := [⟨turnT, 4, c.tv, c.ts.length, tcells c.ts.reverse⟩, oi c.fv c.fl]) (x := oi c.xh c.xhds) (oi V1 []) rfl rfl rfl (Nat.le_refl _) (fun _ _ _ => rfl) h1 (fun g hg => .inl (e1.symm.trans hg)) rfl rfl rfl rfl rfl h.fit
  have h2' : (W.setCell ⟨sb, 9, none⟩ V1).ownsRow c.b0 intT 1 V2 0 [] := owns_keep h2 fun g hg => Below.heap_setCell W _ _ g (by
    show g ≠ sb
    intro e
    subst e
    exact h.xone (by rw [← e2]; exact hg))
  refine ⟨Se.swap (W2 := W.setCell ⟨sb, 9, none⟩ V1) s1 _ 8 (l1 := [oi c.dv c.dn, oi c.bv c.bl, oi c.no c.nofs, oi c.nh c.nhds]) (l2 := [oi V1 [], ⟨turnT, 4, c.tv, c.ts.length, tcells c.ts.reverse⟩, oi c.fv c.fl]) (x := oi c.xo c.xofs) (oi V2 []) rfl rfl rfl (Nat.le_refl _) (fun _ _ _ => rfl) h2' (fun g hg => .inl (e2.symm.trans hg)) rfl rfl rfl rfl rfl h.fit, ?_⟩
  exact ((Below.refl c.b0 W).setCell h.le _).setCell h.le _
end Pk

set_option maxRecDepth 100000 in
set_option maxHeartbeats 2000000 in
theorem clear_next {W : World} {sb : Nat} {c : Pk.Cs} (hS : Pk.Se W sb c) :
    Calls Try.prog 43 #[.pointer (some ⟨sb, 7, none⟩)] W fun e W' => e = .returned (.tuple #[]) ∧ Below c.b0 W W' ∧ ∃ v1 v2, Pk.Se W' sb { c with xo := v1, xh := v2, xofs := [], xhds := [] } := by
  have c8 : W.cell? ⟨sb, 8, none⟩ = some c.xo := (hS.cell 8).trans rfl
  have f8 := hS.row.frozen 8
  have c9 : W.cell? ⟨sb, 9, none⟩ = some c.xh := (hS.cell 9).trans rfl
  have f9 := hS.row.frozen 9
  rcases own_two hS.oxh with ⟨e1, _, o1⟩ | ⟨g1, k1, e1, o1, hk1, hm1⟩ <;> rcases own_two hS.oxo with ⟨e2, _, o2⟩ | ⟨g2, k2, e2, o2, hk2, hm2⟩
  all_goals
    rw [e1] at c9
    rw [e2] at c8
    have hF := Lib.hid (Pk.Se.clear hS o1 o2 (by rw [e1] <;> rfl) (by rw [e2] <;> rfl))
    clear e1 e2 o1 o2 hS
    go_enter Try.func43, Try.ntmps43
    go_wp2_with fail
    ((try simp only [Exit.inBlock, Exit.then]); first | (refine bodyPost_ret (results_none rfl _ _ _) rfl ?_) | (refine bodyPost_end (results_none rfl _ _ _) rfl ?_))
    exact ⟨rfl, hF.out.2, _, _, hF.out.1⟩

set_option maxRecDepth 100000 in
set_option maxHeartbeats 2000000 in
theorem row_now {W : World} {sb : Nat} {c : Pk.Cs} (hS : Pk.Se W sb c) {g cap : Nat} (hv : c.no = .slice (some ⟨g, 0, none⟩) c.nofs.length cap) (i : Nat) (hi : (i + 1) * c.wd ≤ c.nofs.length) (hl : c.nofs.length ≤ 1073741824) :
    Calls Try.prog 40 #[.pointer (some ⟨sb, 4, none⟩), .int .i64 (i : Int)] W fun e W' => (∃ cp, e = .returned (.slice (some ⟨g, i * c.wd, none⟩) c.wd cp)) ∧ Below W.heap.size W W' := by
  have c4 : W.cell? ⟨sb, 4, none⟩ = some (.int .i64 c.wd) := (hS.cell 4).trans rfl
  have c5 : W.cell? ⟨sb, 5, none⟩ = some c.no := (hS.cell 5).trans rfl
  have hcap : c.nofs.length ≤ cap := by
    rcases own_two hS.ono with ⟨e, _, _⟩ | ⟨g', k, e, _, hk, _⟩
    · rw [hv] at e; cases e
    · rw [hv] at e; cases e; exact hk
  rw [hv] at c5
  have htw := hS.tw
  have hw := hS.bw
  have hmul : ((i : Int) * (c.wd : Int)) = ((i * c.wd : Nat) : Int) := by simp
  have hmul2 : (((i : Int) + 1) * (c.wd : Int)) = (((i + 1) * c.wd : Nat) : Int) := by simp
  have hexp : (i + 1) * c.wd = i * c.wd + c.wd := by rw [Nat.add_mul, Nat.one_mul]
  have hile : i + 1 ≤ (i + 1) * c.wd := Nat.le_mul_of_pos_right _ (by omega)
  generalize hO : i * c.wd = o at *
  generalize hO2 : (i + 1) * c.wd = o2 at *
  have w1 : IntKind.i64.wrap ((i : Int) * (c.wd : Int)) = (o : Int) := by rw [hmul, IntKind.wrap_i64]; omega
  have w2 : IntKind.i64.wrap ((i : Int) + 1) = (i : Int) + 1 := by rw [IntKind.wrap_i64]; omega
  have w3 : IntKind.i64.wrap (((i : Int) + 1) * (c.wd : Int)) = (o2 : Int) := by rw [hmul2, IntKind.wrap_i64]; omega
  have hd : o2 - o = c.wd := by omega
  have hoo : o ≤ o2 := by omega
  have hoI : (0 : Int) ≤ (o : Int) := by omega
  have hoI2 : (o : Int) ≤ (o2 : Int) := by omega
  have hoI3 : (o2 : Int) ≤ (cap : Int) := by omega
  clear hmul hmul2 hO hO2 hexp hv hi hl hile
  go_enter Try.func40, Try.ntmps40
  go_wp2_with fail
  try go_quiet (fail)
  try go_wp2_with fail
  go_ret
  refine ⟨?_, ?_⟩
  · exact ⟨_, rfl⟩
  · exact ⟨rfl, rfl, rfl, Nat.le_refl _, fun _ _ => rfl⟩

set_option maxRecDepth 100000 in
set_option maxHeartbeats 2000000 in
theorem goesOn_any {W : World} {sb : Nat} {c : Pk.Cs} (hS : Pk.Se W sb c) (hf : c.fl = [] → c.fv = .slice none 0 0) :
    Calls Try.prog 25 #[.pointer (some ⟨sb, 0, none⟩)] W fun e W' => e = .returned (.bool (decide (c.fl = []) || !decide (c.nhds = []))) ∧ W' = W := by
  have c11 : W.cell? ⟨sb, 11, none⟩ = some c.fv := (hS.cell 11).trans rfl
  have c6 : W.cell? ⟨sb, 6, none⟩ = some c.nh := (hS.cell 6).trans rfl
  obtain ⟨An, cn, hvn⟩ := own_form hS.onh
  rw [hvn] at c6
  have qT : ∀ (w : World) (a : Option Addr) (n c : Nat), (binOp .eql 28 (.slice a n c) (.slice none 0 0)).run Try.prog w = .ok (.bool a.isNone) w := fun w a n c => Lib.run_eql_slice_nil w _ _ a n c _ _ Try.underlying28
  by_cases h1 : c.fl = []
  · rw [hf h1] at c11
    rw [show (decide (c.fl = []) || !decide (c.nhds = [])) = true by simp [h1]]
    clear hS hf h1 hvn
    go_enter Try.func25, Try.ntmps25
    go_wp2_with fail
    go_ret
    exact ⟨rfl, rfl⟩
  · have hpos : 0 < c.fl.length := List.length_pos_iff.2 h1
    obtain ⟨g, cap, hv, _⟩ := own_some hS.ofv hpos
    rw [hv] at c11
    have e : (decide (c.fl = []) || !decide (c.nhds = [])) = decide (0 < c.nhds.length) := by
      rw [decide_eq_false h1, Bool.false_or]
      by_cases h2 : c.nhds = []
      · simp [h2]
      · have : 0 < c.nhds.length := List.length_pos_iff.2 h2
        simp [h2, this]
    rw [e]
    clear hS hf h1 hvn hv e hpos
    go_enter Try.func25, Try.ntmps25
    go_wp2_with fail
    go_ret
    exact ⟨rfl, rfl⟩
end Go.Proofs.Ytelbabgkpflckaa

namespace Go.Proofs.Ytelbabgkpflckaa
open Go.RowKit
open Me
open Pk

set_option maxRecDepth 100000 in
set_option maxHeartbeats 2000000 in
theorem save_out {W : World} {sb : Nat} (n : Int) (k : Nat) (A : Option Addr) (m cp : Nat) (hn : n < 0 ∨ (m : Int) ≤ n) :
    Calls Try.prog 64 #[.pointer (some ⟨sb, 0, none⟩), .int .i64 n, .slice A m cp, .int .i64 (k : Int)] W fun e W' => e = .returned (.tuple #[]) ∧ W' = W := by
  by_cases h0 : n < 0
  · go_enter Try.func64, Try.ntmps64
    go_wp2_with fail
    ((try simp only [Exit.inBlock, Exit.then]); first | (refine bodyPost_ret (results_none rfl _ _ _) rfl ?_) | (refine bodyPost_end (results_none rfl _ _ _) rfl ?_))
    exact ⟨rfl, rfl⟩
  · have h1 : (m : Int) ≤ n := by omega
    go_enter Try.func64, Try.ntmps64
    go_wp2_with fail
    ((try simp only [Exit.inBlock, Exit.then]); first | (refine bodyPost_ret (results_none rfl _ _ _) rfl ?_) | (refine bodyPost_end (results_none rfl _ _ _) rfl ?_))
    exact ⟨rfl, rfl⟩

set_option maxRecDepth 100000 in
set_option maxHeartbeats 4000000 in
theorem save_in {W : World} {sb : Nat} {c : Pk.Cs} (hS : Pk.Se W sb c) (hts : c.ts.length ≤ 1048576) {g cap : Nat} (hv : c.no = .slice (some ⟨g, 0, none⟩) c.nofs.length cap) (o cp : Nat) (n : Int) (k : Nat) (h0 : 0 ≤ n) (h1 : n < (c.wd : Int)) (hr : o + c.wd ≤ c.nofs.length) :
    Calls Try.prog 64 #[.pointer (some ⟨sb, 0, none⟩), .int .i64 n, .slice (some ⟨g, o, none⟩) c.wd cp, .int .i64 (k : Int)] W fun e W' => e = .returned (.tuple #[]) ∧ Below c.b0 W W' ∧ ∃ tv', Pk.Se W' sb { c with tv := tv', ts := Tn.again n (c.nofs.getD (o + n.toNat) 0) :: c.ts, nofs := c.nofs.set (o + n.toNat) (k : Int) } := by
  obtain ⟨i0, hi0, hz0, hz1, hz2⟩ := info_parts Pk.turn_info
  have HI := Lib.hid hi0
  have HZ := Lib.hid (And.intro hz0 (And.intro hz1 hz2))
  clear hi0 hz0 hz1 hz2
  have hsl := hS.lt
  have hle := hS.le
  have hn0 : ¬ n < 0 := by omega
  have hn1 : ¬ (c.wd : Int) ≤ n := by omega
  have hlt : o + n.toNat < c.nofs.length := by omega
  obtain ⟨rc, rf⟩ := hS.rowcell hv (o + n.toNat) hlt
  have hgl := (World.ownsRow.lt hS.ono g (by rw [hv]; rfl))
  obtain ⟨q, hq⟩ : ∃ q, c.nofs[o + n.toNat] = q := ⟨_, rfl⟩
  have hqd : c.nofs.getD (o + n.toNat) 0 = q := by rw [List.getD_eq_getElem?_getD, List.getElem?_eq_getElem hlt, hq]; rfl
  rw [hqd]
  rw [hq] at rc
  have c10 : W.cell? ⟨sb, 10, none⟩ = some c.tv := (hS.cell 10).trans rfl
  have f10 := hS.row.frozen 10
  obtain ⟨At, ct, htv⟩ := own_form hS.otv
  have htn := World.ownsRow.lt hS.otv
  rw [htv] at c10
  have HOT : Hid ((W.alloc (.cells #[.int .i64 0, .bool true, .int .i64 n, .int .i64 q] 107)).ownsRow c.b0 107 4 (.slice At c.ts.length ct) c.ts.length (tcells c.ts.reverse)) := Lib.hid (htv ▸ (owns_keep hS.otv fun b hb => Below.heap_alloc _ _ _ (htn b hb).2))
  have HRD : Hid (Rd (W.alloc (.cells #[.int .i64 0, .bool true, .int .i64 n, .int .i64 q] 107)) (fun b => b = W.heap.size) (some ⟨W.heap.size, 0, none⟩) [.int .i64 0, .bool true, .int .i64 n, .int .i64 q]) := Lib.hid (Rd.fresh W [.int .i64 0, .bool true, .int .i64 n, .int .i64 q] 107 _ rfl)
  have hlen1 : c.ts.length + 1 ≤ maxLen := by unfold maxLen; omega
  have HT : Hid (c.tv = .slice At c.ts.length ct) := Lib.hid htv
  have HV := Lib.hid hv
  have HS := Lib.hid hS
  have HTN := Lib.hid htn
  have hne : At.map (·.block) ≠ some sb := by
    intro e
    cases At with
    | none => cases e
    | some ad => exact hS.tvne (by rw [htv]; exact e)
  have hng : At.map (·.block) ≠ some g := by
    intro e
    cases At with
    | none => cases e
    | some ad =>
      have e : ad.block = g := Option.some.inj e
      have hp := hS.own.apart
      unfold Cs.own at hp
      simp only [List.pairwise_cons] at hp
      have := hp.2.2.1 ⟨turnT, 4, c.tv, c.ts.length, tcells c.ts.reverse⟩ (by simp) g (by show c.no.ownBlock = _; rw [hv]; rfl)
      apply this
      show c.tv.ownBlock = some g
      rw [htv, ← e]
      rfl
  have HNE := Lib.hid hne
  have HNG := Lib.hid hng
  clear hS hv htv hq hqd htn hne hng
  go_enter Try.func64, Try.ntmps64
  go_wp2_with fail
  go_region_law (refine step_app _ rfl (.tmp 20) (.tmp 27) 65 rfl c.b0 107 i0 _ 4 32 Try.underlying65 HI.out HZ.out.1 HZ.out.2.1 HZ.out.2.2 rfl (by decide) (.slice At c.ts.length ct) c.ts.length (tcells c.ts.reverse) (by simp [Act.eval]) HOT.out (fun b => b = W.heap.size) (some ⟨W.heap.size, 0, none⟩) 1 1 [.int .i64 0, .bool true, .int .i64 n, .int .i64 q] (by simp [Act.eval]) (by simp) HRD.out (by intro u hu; simp at hu; rcases hu with rfl | rfl | rfl | rfl <;> rfl) hlen1 (by omega) (by simp; omega) ?_; intro v2 w2 hown2 hg2 hat2 hnil2; have d0' : w2.cell? ⟨sb, 10, none⟩ = some (.slice At c.ts.length ct) := (hg2.cell_far ⟨sb, 10, none⟩ (by show sb < _; simp; omega) (fun e => HNE.out (by cases At <;> simp_all [Value.ownBlock]))).trans ((World.cell?_alloc_lt _ _ _ hsl).trans c10); have df' : w2.frozen? ⟨sb, 10, none⟩ = false := (hg2.frozen_far ⟨sb, 10, none⟩ (by show sb < _; simp; omega) (fun e => HNE.out (by cases At <;> simp_all [Value.ownBlock]))).trans ((World.frozen?_of_block (Below.heap_alloc _ _ sb hsl)).trans f10); have HO2 := Lib.hid hown2; have HG2 := Lib.hid hg2; have HA2 := Lib.hid hat2; obtain ⟨A2, c2, rfl⟩ := own_form hown2; clear hown2 hg2 hat2 hnil2)
  all_goals
    have HPU := Lib.hid (Pk.Se.push (W2 := w2) HS.out (.cells #[.int .i64 0, .bool true, .int .i64 n, .int .i64 q] 107) (A2 := A2) (c2 := c2) (n2 := c.ts.length + 1) (ts2 := Tn.again n q :: c.ts) rfl (by rw [List.reverse_cons, tcells_append]; exact HO2.out)
      (by rw [HT.out]; exact ⟨HG2.out.os, HG2.out.tape, HG2.out.output, HG2.out.size, HG2.out.block⟩) (by rw [HT.out]; exact HA2.out) (HS.out.fit.cons fun _ => ⟨h0, h1⟩))
    have hS2 := HPU.out.1
    have hB2 := HPU.out.2
    clear HPU
    clear d0' df' HO2 HG2 HA2
    generalize w2.setCell ⟨sb, 10, none⟩ (.slice A2 (c.ts.length + 1) c2) = wy at *
    obtain ⟨yc, yf⟩ := hS2.rowcell HV.out (o + n.toNat) hlt
    have HS2 := Lib.hid hS2
    have HB2 := Lib.hid hB2
    clear hS2 hB2 rc rf c10 f10
    go_wp2_with fail
    ((try simp only [Exit.inBlock, Exit.then]); first | (refine bodyPost_ret (results_none rfl _ _ _) rfl ?_) | (refine bodyPost_end (results_none rfl _ _ _) rfl ?_))
    have hst := Pk.Se.store HS2.out { c with tv := .slice A2 (c.ts.length + 1) c2, ts := Tn.again n q :: c.ts, nofs := c.nofs.set (o + n.toNat) (k : Int) } (l1 := [oi c.dv c.dn, oi c.bv c.bl]) (l2 := [oi c.nh c.nhds, oi c.xo c.xofs, oi c.xh c.xhds, ⟨turnT, 4, .slice A2 (c.ts.length + 1) c2, c.ts.length + 1, tcells (Tn.again n q :: c.ts).reverse⟩, oi c.fv c.fl]) (v := c.no) (l := c.nofs) HV.out (o + n.toNat) (k : Int) rfl rfl rfl rfl rfl rfl rfl rfl (HS2.out.fit)
    exact ⟨rfl, HB2.out.trans hst.2, _, hst.1⟩
end Go.Proofs.Ytelbabgkpflckaa

namespace Go.Proofs.Ytelbabgkpflckaa
open Go.RowKit Go.Sort
open Me
namespace Pk
open Rx (In)
theorem kgrown (W : World) : (∀ d os b o, b < W.heap.size → (Go.Sort.grow (redrawn W d) os).cell? ⟨b, o, none⟩ = W.cell? ⟨b, o, none⟩) ∧ (∀ d os b o, b < W.heap.size → (Go.Sort.grow (redrawn W d) os).frozen? ⟨b, o, none⟩ = W.frozen? ⟨b, o, none⟩) :=
  ⟨fun d os b o h => (below_regrown W d os).cell (p := ⟨b, o, none⟩) h, fun d os b o h => (below_regrown W d os).frozen (p := ⟨b, o, none⟩) h⟩
/-- The object where a path's run has come to. -/
def Cs.up (c : Cs) (pre post : List Int) (dn : List Int) (tv : Value) (ts : List Tn) (r : Row) (xo xh : Value) (q : List (Int × Row)) : Cs :=
  { c with dn := dn, tv := tv, ts := ts, nofs := pre ++ (r ++ post), xo := xo, xh := xh, xofs := q.flatMap (·.2), xhds := q.map (·.1) }
structure St (c : Cs) (pre post : List Int) (k M : Nat) (W : World) (sb : Nat) (dn : List Int) (tv : Value) (ts : List Tn) (r : Row) (xo xh : Value) (q : List (Int × Row)) : Prop where
  se : Se W sb (c.up pre post dn tv ts r xo xh q)
  rl : r.length = c.wd
  ql : ∀ e ∈ q, e.2.length = c.wd
  qn : q.length + free c.L.length (exe dn k) ≤ c.L.length
  tn : ts.length + free c.L.length (exe dn k) ≤ M
  dle : ∀ n ∈ dn, n ≤ (k : Int) + 1
/-- What is left to be executed, read from memory. -/
def blockOf : Value → Nat
  | .slice (some a) _ _ => a.block
  | _ => 0
def left (g k n : Nat) (w : World) : Nat := free n fun p => match w.cell? ⟨g, p, none⟩ with
  | some (.int _ v) => decide (v = (k : Int) + 1)
  | _ => false
theorem left_is {W : World} {sb : Nat} {c : Cs} (h : Se W sb c) (k : Nat) : left (blockOf c.dv) k c.L.length W = free c.L.length (exe c.dn k) := by
  unfold left free
  apply List.countP_congr
  intro p hp
  have hp := List.mem_range.1 hp
  have hd : p < c.dn.length := by rw [h.dlen]; exact hp
  obtain ⟨g, cap, hv, _⟩ := own_some h.odn (by omega)
  have ho := h.odn
  rw [hv] at ho
  have : W.cell? ⟨blockOf c.dv, p, none⟩ = some (.int .i64 c.dn[p]) := by
    rw [hv]
    show W.cell? ⟨g, p, none⟩ = _
    rw [World.ownsRow.cellAt ho p (by omega), iv_get _ _ hd]
  simp only [this]
  unfold exe
  simp [hd]
theorem prog_cells {W : World} {sb : Nat} {c : Cs} (h : Se W sb c) {hd : Int} {x : In} (hx : fetch c.L hd = some x) : ∃ pb po, c.pa = some ⟨pb, po, none⟩ ∧ pb < c.b0 ∧
    W.cell? ⟨pb, po + hd.toNat * 4, none⟩ = some (.int .i64 x.op) ∧ W.cell? ⟨pb, po + hd.toNat * 4 + 1, none⟩ = some (.int .i64 x.x) ∧ W.cell? ⟨pb, po + hd.toNat * 4 + 2, none⟩ = some (.int .i64 x.y) ∧ W.cell? ⟨pb, po + hd.toNat * 4 + 3, none⟩ = some (.string ⟨x.p.toArray⟩) := by
  have hf := fetch_some hx
  have hlen : (icells c.L).length = c.L.length * 4 := flat_len icell 4 (fun _ => rfl) c.L
  obtain ⟨pb, po, hpa, _, hpg, hpc⟩ := h.prog.lit (hd.toNat * 4) (by rw [hlen]; omega)
  have hget : c.L[hd.toNat]'hf.2.1 = x := by have := hf.2.2; rw [List.getElem?_eq_getElem hf.2.1] at this; exact Option.some.inj this
  have key : ∀ j, j < 4 → (icells c.L)[hd.toNat * 4 + j]? = (icell x)[j]? := fun j hj => by
    have := flat_at icell 4 (fun _ => rfl) c.L hd.toNat j hf.2.1 hj
    rw [hget] at this
    exact this
  refine ⟨pb, po, hpa, hpg, ?_, ?_, ?_, ?_⟩
  · exact hpc _ _ ((key 0 (by omega)).trans rfl)
  · rw [Nat.add_assoc]; exact hpc _ _ ((key 1 (by omega)).trans rfl)
  · rw [Nat.add_assoc]; exact hpc _ _ ((key 2 (by omega)).trans rfl)
  · rw [Nat.add_assoc]; exact hpc _ _ ((key 3 (by omega)).trans rfl)
theorem flat_rows {q : List (Int × Row)} {n : Nat} (h : ∀ e ∈ q, e.2.length = n) : (q.flatMap (·.2)).length = q.length * n := by
  induction q with
  | nil => simp
  | cons e q ih =>
    rw [List.flatMap_cons, List.length_append, h e List.mem_cons_self, ih (fun e he => h e (List.mem_cons_of_mem _ he)), List.length_cons, Nat.add_mul, Nat.one_mul]
    omega
section
variable {c : Cs} {pre post : List Int} {k M : Nat} {W W' : World} {sb : Nat} {dn : List Int} {tv : Value} {ts : List Tn} {r : Row} {xo xh : Value} {q : List (Int × Row)}
theorem St.marked (h : St c pre post k M W sb dn tv ts r xo xh q) {hd : Int} {x : In} (hx : fetch c.L hd = some x) (hs : exe dn k hd.toNat = false) (h2 : Se W' sb (c.up pre post (dn.set hd.toNat ((k : Int) + 1)) tv ts r xo xh q)) :
    St c pre post k M W' sb (dn.set hd.toNat ((k : Int) + 1)) tv ts r xo xh q ∧ exe (dn.set hd.toNat ((k : Int) + 1)) k = mark (exe dn k) hd.toNat ∧ free c.L.length (exe (dn.set hd.toNat ((k : Int) + 1)) k) + 1 = free c.L.length (exe dn k) := by
  have hf := fetch_some hx
  have hl : dn.length = c.L.length := h.se.dlen
  have e := exe_set dn k hd.toNat (by rw [hl]; exact hf.2.1)
  have hm := free_mark c.L.length (exe dn k) hd.toNat hf.2.1 hs
  refine ⟨⟨h2, h.rl, h.ql, ?_, ?_, ?_⟩, e, by rw [e]; exact hm⟩
  · have := h.qn; rw [e]; omega
  · have := h.tn; rw [e]; omega
  · intro n hn
    rcases List.mem_or_eq_of_mem_set hn with hn | rfl
    · exact h.dle n hn
    · exact Int.le_refl _
/-- The row's block, and where in it. -/
theorem St.block (h : St c pre post k M W sb dn tv ts r xo xh q) : ∃ g cap, c.no = .slice (some ⟨g, 0, none⟩) (pre ++ (r ++ post)).length cap := by
  have hw := h.se.tw
  have hr := h.rl
  have hw : 2 ≤ c.wd := hw
  obtain ⟨g, cap, hv, _⟩ := own_some h.se.ono (by show 0 < (pre ++ (r ++ post)).length; simp; omega)
  exact ⟨g, cap, hv⟩
theorem St.keep (h : St c pre post k M W sb dn tv ts r xo xh q) (hb : Below W.heap.size W W') : St c pre post k M W' sb dn tv ts r xo xh q := ⟨h.se.keep hb, h.rl, h.ql, h.qn, h.tn, h.dle⟩
theorem St.left (h : St c pre post k M W sb dn tv ts r xo xh q) : left (blockOf c.dv) k c.L.length W = free c.L.length (exe dn k) := left_is h.se k
/-- The row as it is read. -/
theorem St.rd (h : St c pre post k M W sb dn tv ts r xo xh q) {g cap : Nat} (hv : c.no = .slice (some ⟨g, 0, none⟩) (pre ++ (r ++ post)).length cap) : Rd W (fun i => c.b0 ≤ i ∧ i ≠ sb) (some ⟨g, pre.length, none⟩) (iv r) ∧ xh.ownBlock ≠ some g := by
  have ho := h.se.ono
  have hv2 : (c.up pre post dn tv ts r xo xh q).no = .slice (some ⟨g, 0, none⟩) (pre ++ (r ++ post)).length cap := hv
  have hg := World.ownsRow.lt ho g (by rw [hv2]; rfl)
  rw [hv2] at ho
  refine ⟨fun _ => ⟨_, rfl, hg.2, ⟨hg.1, fun e => h.se.none_ (by show c.no.ownBlock = some sb; rw [hv, ← e]; rfl)⟩, fun j u hu => ?_⟩, ?_⟩
  · rw [Addr.add_lit]
    have hj : j < r.length := by have := (List.getElem?_eq_some_iff.1 hu).1; rwa [iv_len] at this
    have e := World.ownsRow.cellAt ho (pre.length + j) (by show pre.length + j < (pre ++ (r ++ post)).length * 1; simp; omega)
    rw [e, ← hu]
    show (iv (pre ++ (r ++ post)))[pre.length + j]? = _
    rw [iv_append, iv_append, List.getElem?_append_right (by rw [iv_len]; omega), iv_len, Nat.add_sub_cancel_left, List.getElem?_append_left (by rw [iv_len]; exact hj)]
  · have hp := h.se.own.apart
    unfold Cs.own at hp
    simp only [List.pairwise_cons] at hp
    intro e
    have := hp.2.2.1 (oi xh (q.map (·.1))) (by simp [Cs.up]) g (by show c.no.ownBlock = _; rw [hv]; rfl)
    exact this e
/-- .. where its memory lies. -/
theorem set_mid (pre r post : List Int) (j : Nat) (n : Int) (hj : j < r.length) : (pre ++ (r ++ post)).set (pre.length + j) n = pre ++ (r.set j n ++ post) := by
  rw [List.set_append_right _ _ (by omega), Nat.add_sub_cancel_left, List.set_append_left _ _ hj]
theorem getD_mid (pre r post : List Int) (j : Nat) (hj : j < r.length) : (pre ++ (r ++ post)).getD (pre.length + j) 0 = r.getD j 0 := by
  rw [List.getD_eq_getElem?_getD, List.getD_eq_getElem?_getD, List.getElem?_append_right (by omega), Nat.add_sub_cancel_left, List.getElem?_append_left hj]
theorem St.saved (h : St c pre post k M W sb dn tv ts r xo xh q) (hM : ts.length + 1 + free c.L.length (exe dn k) ≤ M) {n : Int} (h0 : 0 ≤ n) (h1 : n < (c.wd : Int)) {tv' : Value} (h2 : Se W' sb { c.up pre post dn tv ts r xo xh q with tv := tv', ts := Tn.again n ((pre ++ (r ++ post)).getD (pre.length + n.toNat) 0) :: ts, nofs := (pre ++ (r ++ post)).set (pre.length + n.toNat) (k : Int) }) :
    St c pre post k M W' sb dn tv' (Tn.again n (r.getD n.toNat 0) :: ts) (put r n k) xo xh q := by
  have hr := h.rl
  rw [getD_mid pre r post n.toNat (by omega), set_mid pre r post n.toNat (k : Int) (by omega)] at h2
  have hp : put r n k = r.set n.toNat (k : Int) := by unfold put; rw [if_pos ⟨h0, by omega⟩]
  exact ⟨by rw [hp]; exact h2, by rw [put_len]; exact hr, h.ql, h.qn, by rw [List.length_cons]; omega, h.dle⟩
theorem St.pushed (h : St c pre post k M W sb dn tv ts r xo xh q) (hM : ts.length + 1 + free c.L.length (exe dn k) ≤ M) {a : Tn} {tv' : Value} (h2 : Se W' sb { c.up pre post dn tv ts r xo xh q with tv := tv', ts := a :: ts }) :
    St c pre post k M W' sb dn tv' (a :: ts) r xo xh q := ⟨h2, h.rl, h.ql, h.qn, by rw [List.length_cons]; omega, h.dle⟩
theorem St.added (h : St c pre post k M W sb dn tv ts r xo xh q) (hq : q.length + 1 + free c.L.length (exe dn k) ≤ c.L.length) {n : Int} {v1 v2 : Value} (h2 : Se W' sb { c.up pre post dn tv ts r xo xh q with xo := v1, xh := v2, xofs := q.flatMap (·.2) ++ r, xhds := q.map (·.1) ++ [n] }) :
    St c pre post k M W' sb dn tv ts r v1 v2 (q ++ [(n, r)]) := by
  refine ⟨?_, h.rl, ?_, by rw [List.length_append, List.length_singleton]; omega, h.tn, h.dle⟩
  · unfold Cs.up at h2 ⊢
    rw [List.flatMap_append, List.map_append]
    simpa using h2
  · intro e he
    rcases List.mem_append.1 he with he | he
    · exact h.ql e he
    · rw [List.mem_singleton.1 he]; exact h.rl
/-- What a run leaves: true: a Match, false: the path has ended. -/
def Ran (c : Cs) (pre post : List Int) (k M : Nat) (W : World) (sb : Nat) (R : Res1) (b : Bool) (W' : World) : Prop :=
  Below c.b0 W W' ∧ ∃ dn tv ts r xo xh q, St c pre post k M W' sb dn tv ts r xo xh q ∧ (if b then R = (exe dn k, q, some r) else due c.L c.t k (exe dn k) q (den r ts) = R)
end
end Pk
end Go.Proofs.Ytelbabgkpflckaa
