/-
  CONTRACTS: chapter 12: save: an offset is recorded, with the turn that takes it back.
-/
import Derived.Test.YtedppnejkjcplaaPkSe
import Derived.RegionTactic
import Derived.Deep.RegionLaw
namespace Go.Proofs.Ytedppnejkjcplaa
open Go.RowKit
open Me
open Pk

set_option maxRecDepth 100000 in
set_option maxHeartbeats 2000000 in
theorem save_out {W : World} {sb : Nat} (n : Int) (k : Nat) (A : Option Addr) (m cp : Nat) (hn : n < 0 ∨ (m : Int) ≤ n) :
    Calls Try.prog 69 #[.pointer (some ⟨sb, 0, none⟩), .int .i64 n, .slice A m cp, .int .i64 (k : Int)] W fun e W' => e = .returned (.tuple #[]) ∧ W' = W := by
  by_cases h0 : n < 0
  · go_enter Try.func69, Try.ntmps69
    go_wp2_with fail
    ((try simp only [Exit.inBlock, Exit.then]); first | (refine bodyPost_ret (results_none rfl _ _ _) rfl ?_) | (refine bodyPost_end (results_none rfl _ _ _) rfl ?_))
    exact ⟨rfl, rfl⟩
  · have h1 : (m : Int) ≤ n := by omega
    go_enter Try.func69, Try.ntmps69
    go_wp2_with fail
    ((try simp only [Exit.inBlock, Exit.then]); first | (refine bodyPost_ret (results_none rfl _ _ _) rfl ?_) | (refine bodyPost_end (results_none rfl _ _ _) rfl ?_))
    exact ⟨rfl, rfl⟩

set_option maxRecDepth 100000 in
set_option maxHeartbeats 4000000 in
theorem save_in {W : World} {sb : Nat} {c : Pk.Cs} (hS : Pk.Se W sb c) (hts : c.ts.length ≤ 1048576) {g cap : Nat} (hv : c.no = .slice (some ⟨g, 0, none⟩) c.nofs.length cap) (o cp : Nat) (n : Int) (k : Nat) (h0 : 0 ≤ n) (h1 : n < (c.wd : Int)) (hr : o + c.wd ≤ c.nofs.length) :
    Calls Try.prog 69 #[.pointer (some ⟨sb, 0, none⟩), .int .i64 n, .slice (some ⟨g, o, none⟩) c.wd cp, .int .i64 (k : Int)] W fun e W' => e = .returned (.tuple #[]) ∧ Below c.b0 W W' ∧ ∃ tv', Pk.Se W' sb { c with tv := tv', ts := Tn.again n (c.nofs.getD (o + n.toNat) 0) :: c.ts, nofs := c.nofs.set (o + n.toNat) (k : Int) } := by
  obtain ⟨i0, hi0, hz0, hz1, hz2⟩ := info_parts Pk.turn_info
  have HI := Lib.hid hi0
  have HZ := Lib.hid (And.intro hz0 (And.intro hz1 hz2))
  clear hi0 hz0 hz1 hz2
  have hsl := hS.lt
  have hle := hS.le
  have hn0 : ¬ n < 0 := by omega
  have hn1 : ¬ (c.wd : Int) ≤ n := by omega
  have hlt : o + n.toNat < c.nofs.length := by omega
  obtain ⟨rc, rf⟩ := hS.rowcell hv (o + n.toNat) hlt
  have hgl := (World.ownsRow.lt hS.ono g (by rw [hv]; rfl))
  obtain ⟨q, hq⟩ : ∃ q, c.nofs[o + n.toNat] = q := ⟨_, rfl⟩
  have hqd : c.nofs.getD (o + n.toNat) 0 = q := by rw [List.getD_eq_getElem?_getD, List.getElem?_eq_getElem hlt, hq]; rfl
  rw [hqd]
  rw [hq] at rc
  have c10 : W.cell? ⟨sb, 10, none⟩ = some c.tv := (hS.cell 10).trans rfl
  have f10 := hS.row.frozen 10
  obtain ⟨At, ct, htv⟩ := own_form hS.otv
  have htn := World.ownsRow.lt hS.otv
  rw [htv] at c10
  have HOT : Hid ((W.alloc (.cells #[.int .i64 0, .bool true, .int .i64 n, .int .i64 q] 111)).ownsRow c.b0 111 4 (.slice At c.ts.length ct) c.ts.length (tcells c.ts.reverse)) := Lib.hid (htv ▸ (owns_keep hS.otv fun b hb => Below.heap_alloc _ _ _ (htn b hb).2))
  have HRD : Hid (Rd (W.alloc (.cells #[.int .i64 0, .bool true, .int .i64 n, .int .i64 q] 111)) (fun b => b = W.heap.size) (some ⟨W.heap.size, 0, none⟩) [.int .i64 0, .bool true, .int .i64 n, .int .i64 q]) := Lib.hid (Rd.fresh W [.int .i64 0, .bool true, .int .i64 n, .int .i64 q] 111 _ rfl)
  have hlen1 : c.ts.length + 1 ≤ maxLen := by unfold maxLen; omega
  have HT : Hid (c.tv = .slice At c.ts.length ct) := Lib.hid htv
  have HV := Lib.hid hv
  have HS := Lib.hid hS
  have HTN := Lib.hid htn
  have hne : At.map (·.block) ≠ some sb := by
    intro e
    cases At with
    | none => cases e
    | some ad => exact hS.tvne (by rw [htv]; exact e)
  have hng : At.map (·.block) ≠ some g := by
    intro e
    cases At with
    | none => cases e
    | some ad =>
      have e : ad.block = g := Option.some.inj e
      have hp := hS.own.apart
      unfold Cs.own at hp
      simp only [List.pairwise_cons] at hp
      have := hp.2.2.1 ⟨turnT, 4, c.tv, c.ts.length, tcells c.ts.reverse⟩ (by simp) g (by show c.no.ownBlock = _; rw [hv]; rfl)
      apply this
      show c.tv.ownBlock = some g
      rw [htv, ← e]
      rfl
  have HNE := Lib.hid hne
  have HNG := Lib.hid hng
  clear hS hv htv hq hqd htn hne hng
  go_enter Try.func69, Try.ntmps69
  go_wp2_with fail
  go_region_law (refine step_app _ rfl (.tmp 20) (.tmp 27) 69 rfl c.b0 111 i0 _ 4 32 Try.underlying69 HI.out HZ.out.1 HZ.out.2.1 HZ.out.2.2 rfl (by decide) (.slice At c.ts.length ct) c.ts.length (tcells c.ts.reverse) (by simp [Act.eval]) HOT.out (fun b => b = W.heap.size) (some ⟨W.heap.size, 0, none⟩) 1 1 [.int .i64 0, .bool true, .int .i64 n, .int .i64 q] (by simp [Act.eval]) (by simp) HRD.out (by intro u hu; simp at hu; rcases hu with rfl | rfl | rfl | rfl <;> rfl) hlen1 (by omega) (by simp; omega) ?_; intro v2 w2 hown2 hg2 hat2 hnil2; have d0' : w2.cell? ⟨sb, 10, none⟩ = some (.slice At c.ts.length ct) := (hg2.cell_far ⟨sb, 10, none⟩ (by show sb < _; simp; omega) (fun e => HNE.out (by cases At <;> simp_all [Value.ownBlock]))).trans ((World.cell?_alloc_lt _ _ _ hsl).trans c10); have df' : w2.frozen? ⟨sb, 10, none⟩ = false := (hg2.frozen_far ⟨sb, 10, none⟩ (by show sb < _; simp; omega) (fun e => HNE.out (by cases At <;> simp_all [Value.ownBlock]))).trans ((World.frozen?_of_block (Below.heap_alloc _ _ sb hsl)).trans f10); have HO2 := Lib.hid hown2; have HG2 := Lib.hid hg2; have HA2 := Lib.hid hat2; obtain ⟨A2, c2, rfl⟩ := own_form hown2; clear hown2 hg2 hat2 hnil2)
  all_goals
    have HPU := Lib.hid (Pk.Se.push (W2 := w2) HS.out (.cells #[.int .i64 0, .bool true, .int .i64 n, .int .i64 q] 111) (A2 := A2) (c2 := c2) (n2 := c.ts.length + 1) (ts2 := Tn.again n q :: c.ts) rfl (by rw [List.reverse_cons, tcells_append]; exact HO2.out)
      (by rw [HT.out]; exact ⟨HG2.out.os, HG2.out.tape, HG2.out.output, HG2.out.size, HG2.out.block⟩) (by rw [HT.out]; exact HA2.out) (HS.out.fit.cons fun _ => ⟨h0, h1⟩))
    have hS2 := HPU.out.1
    have hB2 := HPU.out.2
    clear HPU
    clear d0' df' HO2 HG2 HA2
    generalize w2.setCell ⟨sb, 10, none⟩ (.slice A2 (c.ts.length + 1) c2) = wy at *
    obtain ⟨yc, yf⟩ := hS2.rowcell HV.out (o + n.toNat) hlt
    have HS2 := Lib.hid hS2
    have HB2 := Lib.hid hB2
    clear hS2 hB2 rc rf c10 f10
    go_wp2_with fail
    ((try simp only [Exit.inBlock, Exit.then]); first | (refine bodyPost_ret (results_none rfl _ _ _) rfl ?_) | (refine bodyPost_end (results_none rfl _ _ _) rfl ?_))
    have hst := Pk.Se.store HS2.out { c with tv := .slice A2 (c.ts.length + 1) c2, ts := Tn.again n q :: c.ts, nofs := c.nofs.set (o + n.toNat) (k : Int) } (l1 := [oi c.dv c.dn, oi c.bv c.bl]) (l2 := [oi c.nh c.nhds, oi c.xo c.xofs, oi c.xh c.xhds, ⟨turnT, 4, .slice A2 (c.ts.length + 1) c2, c.ts.length + 1, tcells (Tn.again n q :: c.ts).reverse⟩, oi c.fv c.fl]) (v := c.no) (l := c.nofs) HV.out (o + n.toNat) (k : Int) rfl rfl rfl rfl rfl rfl rfl rfl (HS2.out.fit)
    exact ⟨rfl, HB2.out.trans hst.2, _, hst.1⟩
end Go.Proofs.Ytedppnejkjcplaa
