/-
  CONTRACTS: chapter 12: paths.add: on the list of this offset's paths, and on that of the next one's.
-/
import Derived.Test.YtedppnejkjcplaaPkSe
import Derived.RegionTactic
import Derived.Deep.RegionLaw
namespace Go.Proofs.Ytedppnejkjcplaa
open Go.RowKit
open Me
open Pk

set_option maxRecDepth 100000 in
set_option maxHeartbeats 4000000 in
theorem add_next {W : World} {sb : Nat} {c : Pk.Cs} (hS : Pk.Se W sb c) (h : Int) (A : Option Addr) (r : List Int) (m cp : Nat) (hm : m = r.length) (hr : Rd W (fun i => c.b0 ≤ i ∧ i ≠ sb) A (iv r)) (hap : ∀ ad, A = some ad → c.xh.ownBlock ≠ some ad.block) (hlh : c.xhds.length ≤ 1048576) (hlo : c.xofs.length ≤ 1073741824) (hlr : r.length ≤ 1048576) :
    Calls Try.prog 45 #[.pointer (some ⟨sb, 7, none⟩), .int .i64 h, .slice A m cp] W fun e W' => e = .returned (.tuple #[]) ∧ Below c.b0 W W' ∧ ∃ v1 v2, Pk.Se W' sb { c with xo := v1, xh := v2, xofs := c.xofs ++ r, xhds := c.xhds ++ [h] } := by
  subst hm
  obtain ⟨i0, hi0, hz0, hz1, hz2⟩ := info_parts Pk.int_info
  have HI := Lib.hid hi0
  have HZ := Lib.hid (And.intro hz0 (And.intro hz1 hz2))
  clear hi0 hz0 hz1 hz2
  have hsl := hS.lt
  have hle := hS.le
  have c1 : W.cell? ⟨sb, 9, none⟩ = some c.xh := (hS.cell 9).trans rfl
  have f1 := hS.row.frozen 9
  have c2 : W.cell? ⟨sb, 8, none⟩ = some c.xo := (hS.cell 8).trans rfl
  have f2 := hS.row.frozen 8
  obtain ⟨Ah, ch, hvh⟩ := own_form hS.oxh
  obtain ⟨Ao, co, hvo⟩ := own_form hS.oxo
  have hnh := World.ownsRow.lt hS.oxh
  rw [hvh] at c1
  rw [hvo] at c2
  have HOH : Hid ((W.alloc (.cells #[.int .i64 h] 3)).ownsRow c.b0 3 1 (.slice Ah c.xhds.length ch) c.xhds.length (iv c.xhds)) := Lib.hid (hvh ▸ (owns_keep hS.oxh fun b hb => Below.heap_alloc _ _ _ (hnh b hb).2))
  have HRD : Hid (Rd (W.alloc (.cells #[.int .i64 h] 3)) (fun b => b = W.heap.size) (some ⟨W.heap.size, 0, none⟩) [.int .i64 h]) := Lib.hid (Rd.fresh W [.int .i64 h] 3 _ rfl)
  have HVH : Hid (c.xh = .slice Ah c.xhds.length ch) := Lib.hid hvh
  have HVO : Hid (c.xo = .slice Ao c.xofs.length co) := Lib.hid hvo
  have HS := Lib.hid hS
  have HRR := Lib.hid hr
  have HAP := Lib.hid hap
  have HLW : Hid (c.xh.ownBlock ≠ some sb) := Lib.hid hS.xhne
  have HLO : Hid (c.xo.ownBlock ≠ some sb) := Lib.hid hS.xone
  have hl1 : c.xhds.length + 1 ≤ maxLen := by unfold maxLen; omega
  have hl2 : c.xofs.length + r.length ≤ maxLen := by unfold maxLen; omega
  have HBB : Hid (Below W.heap.size W (W.alloc (.cells #[.int .i64 h] 3))) := Lib.hid ((Below.refl _ W).alloc (Nat.le_refl _) _)
  clear hS hr hvh hnh hap hvo
  go_enter Try.func45, Try.ntmps45
  go_wp2_with (at_builtin; go_must (first
    | (refine wpList_app _ rfl (.tmp 10) (.tmp 12) 28 rfl c.b0 3 i0 _ 1 8 Try.underlying28 HI.out HZ.out.1 HZ.out.2.1 HZ.out.2.2 rfl (by decide) (.slice Ah c.xhds.length ch) c.xhds.length (iv c.xhds) (by simp [Act.eval]) HOH.out (fun b => b = W.heap.size) (some ⟨W.heap.size, 0, none⟩) 1 1 [.int .i64 h] (by simp [Act.eval]) (by simp) HRD.out (by intro u hu; simp at hu; subst hu; rfl) hl1 (by omega) (by simp; omega) ?_; intro v2 w2 hown2 hg2 hat2 hnil2; have HPU := Lib.hid (Pk.Se.grow (W2 := w2) HS.out { c with xh := v2, xhds := c.xhds ++ [h] } 9 HBB.out (l1 := [oi c.dv c.dn, oi c.bv c.bl, oi c.no c.nofs, oi c.nh c.nhds, oi c.xo c.xofs]) (l2 := [⟨turnT, 4, c.tv, c.ts.length, tcells c.ts.reverse⟩, oi c.fv c.fl]) (x := oi c.xh c.xhds) (oi v2 (c.xhds ++ [h])) rfl rfl rfl (oi_app (r := [h]) hown2) (by show World.grownBy _ _ c.xh.ownBlock; rw [HVH.out]; exact hg2) (by show v2.ownBlock = c.xh.ownBlock ∨ _; rw [HVH.out]; exact hat2) rfl rfl rfl rfl rfl HS.out.fit); have hkeep : ∀ g, g ≠ sb → g < W.heap.size → c.xh.ownBlock ≠ some g → (w2.setCell ⟨sb, 9, none⟩ v2).heap[g]? = W.heap[g]? := (fun g h1 h2 h3 => ((Below.heap_setCell w2 _ _ g h1).trans (hg2.block g (by rw [alloc_size]; omega) (fun e => h3 (by rw [HVH.out]; exact e.symm)))).trans (Below.heap_alloc W _ g h2)); have HKP := Lib.hid hkeep; have d1 : w2.cell? ⟨sb, 9, none⟩ = some (.slice Ah c.xhds.length ch) := (hg2.cell_far ⟨sb, 9, none⟩ (by show sb < _; simp; omega) (fun e => HLW.out (by rw [HVH.out]; exact e.symm))).trans ((World.cell?_alloc_lt _ _ _ hsl).trans c1); have e1 : w2.frozen? ⟨sb, 9, none⟩ = false := (hg2.frozen_far ⟨sb, 9, none⟩ (by show sb < _; simp; omega) (fun e => HLW.out (by rw [HVH.out]; exact e.symm))).trans ((World.frozen?_of_block (Below.heap_alloc _ _ sb hsl)).trans f1); have hgs := hg2.size; rw [alloc_size] at hgs; obtain ⟨A2, c2', rfl⟩ := own_form hown2; have hS2 := HPU.out.1; have d2 : w2.cell? ⟨sb, 8, none⟩ = some (.slice Ao c.xofs.length co) := (hg2.cell_far ⟨sb, 8, none⟩ (by show sb < _; simp; omega) (fun e => HLW.out (by rw [HVH.out]; exact e.symm))).trans ((World.cell?_alloc_lt _ _ _ hsl).trans c2); have e2 : w2.frozen? ⟨sb, 8, none⟩ = false := (hg2.frozen_far ⟨sb, 8, none⟩ (by show sb < _; simp; omega) (fun e => HLW.out (by rw [HVH.out]; exact e.symm))).trans ((World.frozen?_of_block (Below.heap_alloc _ _ sb hsl)).trans f2); have hoo := hS2.oxo; rw [show ({ c with xh := .slice A2 (c.xhds.length + 1) c2', xhds := c.xhds ++ [h] } : Cs).xo = c.xo from rfl, HVO.out] at hoo; have HOO := Lib.hid hoo; have hrd2 : Rd (w2.setCell ⟨sb, 9, none⟩ (.slice A2 (c.xhds.length + 1) c2')) (fun i => c.b0 ≤ i ∧ i ≠ sb) A (iv r) := (fun hn => by obtain ⟨ad, ea, hl, hgt, hc⟩ := HRR.out hn; exact ⟨ad, ea, by simp [World.setCell]; omega, hgt, fun j u hu => (World.cell?_of_block (by rw [Me.block_add]; exact HKP.out ad.block hgt.2 hl (HAP.out ad ea))).trans (hc j u hu)⟩); have HR2 := Lib.hid hrd2; have HS2 := Lib.hid hS2; have HB2 := Lib.hid HPU.out.2; clear hown2 hg2 hat2 hnil2 hkeep hS2 hoo hrd2 HPU)
    | (refine wpList_app _ rfl (.tmp 21) (.tmp 22) 28 rfl c.b0 3 i0 _ 1 8 Try.underlying28 HI.out HZ.out.1 HZ.out.2.1 HZ.out.2.2 rfl (by decide) (.slice Ao c.xofs.length co) c.xofs.length (iv c.xofs) (by simp [Act.eval]) HOO.out (fun b => c.b0 ≤ b ∧ b ≠ sb) A r.length cp (iv r) (by simp [Act.eval]) (by rw [iv_len]; omega) HR2.out (iv_one r) hl2 (by omega) (by simp [World.setCell]; omega) ?_; intro v3 w3 hown3 hg3 hat3 hnil3; have HPU := Lib.hid (Pk.Se.grow (W2 := w3) HS2.out { c with xh := .slice A2 (c.xhds.length + 1) c2', xhds := c.xhds ++ [h], xo := v3, xofs := c.xofs ++ r } 8 (Below.refl _ _) (l1 := [oi c.dv c.dn, oi c.bv c.bl, oi c.no c.nofs, oi c.nh c.nhds]) (l2 := [oi (.slice A2 (c.xhds.length + 1) c2') (c.xhds ++ [h]), ⟨turnT, 4, c.tv, c.ts.length, tcells c.ts.reverse⟩, oi c.fv c.fl]) (x := oi c.xo c.xofs) (oi v3 (c.xofs ++ r)) rfl rfl rfl (oi_app hown3) (by show World.grownBy _ _ c.xo.ownBlock; rw [HVO.out]; exact hg3) (by show v3.ownBlock = c.xo.ownBlock ∨ _; rw [HVO.out]; exact hat3) rfl rfl rfl rfl rfl HS2.out.fit); have g2 : w3.cell? ⟨sb, 8, none⟩ = some (.slice Ao c.xofs.length co) := (hg3.cell_far ⟨sb, 8, none⟩ (by show sb < _; simp [World.setCell]; omega) (fun e => HLO.out (by rw [HVO.out]; exact e.symm))).trans ((HS2.out.cell 8).trans ((rfl : _ = some c.xo).trans (congrArg some HVO.out))); have k2 : w3.frozen? ⟨sb, 8, none⟩ = false := (hg3.frozen_far ⟨sb, 8, none⟩ (by show sb < _; simp [World.setCell]; omega) (fun e => HLO.out (by rw [HVO.out]; exact e.symm))).trans (HS2.out.row.frozen 8); obtain ⟨A3, c3, rfl⟩ := own_form hown3; clear hown3 hg3 hat3 hnil3)
    ))
  ((try simp only [Exit.inBlock, Exit.then]); first | (refine bodyPost_ret (results_none rfl _ _ _) rfl ?_) | (refine bodyPost_end (results_none rfl _ _ _) rfl ?_))
  exact ⟨rfl, HB2.out.trans HPU.out.2, _, _, HPU.out.1⟩

set_option maxRecDepth 100000 in
set_option maxHeartbeats 4000000 in
theorem add_now {W : World} {sb : Nat} {c : Pk.Cs} (hS : Pk.Se W sb c) (h : Int) (A : Option Addr) (r : List Int) (m cp : Nat) (hm : m = r.length) (hr : Rd W (fun i => c.b0 ≤ i ∧ i ≠ sb) A (iv r)) (hap : ∀ ad, A = some ad → c.nh.ownBlock ≠ some ad.block) (hlh : c.nhds.length ≤ 1048576) (hlo : c.nofs.length ≤ 1073741824) (hlr : r.length ≤ 1048576) :
    Calls Try.prog 45 #[.pointer (some ⟨sb, 4, none⟩), .int .i64 h, .slice A m cp] W fun e W' => e = .returned (.tuple #[]) ∧ Below c.b0 W W' ∧ ∃ v1 v2, Pk.Se W' sb { c with no := v1, nh := v2, nofs := c.nofs ++ r, nhds := c.nhds ++ [h] } := by
  subst hm
  obtain ⟨i0, hi0, hz0, hz1, hz2⟩ := info_parts Pk.int_info
  have HI := Lib.hid hi0
  have HZ := Lib.hid (And.intro hz0 (And.intro hz1 hz2))
  clear hi0 hz0 hz1 hz2
  have hsl := hS.lt
  have hle := hS.le
  have c1 : W.cell? ⟨sb, 6, none⟩ = some c.nh := (hS.cell 6).trans rfl
  have f1 := hS.row.frozen 6
  have c2 : W.cell? ⟨sb, 5, none⟩ = some c.no := (hS.cell 5).trans rfl
  have f2 := hS.row.frozen 5
  obtain ⟨Ah, ch, hvh⟩ := own_form hS.onh
  obtain ⟨Ao, co, hvo⟩ := own_form hS.ono
  have hnh := World.ownsRow.lt hS.onh
  rw [hvh] at c1
  rw [hvo] at c2
  have HOH : Hid ((W.alloc (.cells #[.int .i64 h] 3)).ownsRow c.b0 3 1 (.slice Ah c.nhds.length ch) c.nhds.length (iv c.nhds)) := Lib.hid (hvh ▸ (owns_keep hS.onh fun b hb => Below.heap_alloc _ _ _ (hnh b hb).2))
  have HRD : Hid (Rd (W.alloc (.cells #[.int .i64 h] 3)) (fun b => b = W.heap.size) (some ⟨W.heap.size, 0, none⟩) [.int .i64 h]) := Lib.hid (Rd.fresh W [.int .i64 h] 3 _ rfl)
  have HVH : Hid (c.nh = .slice Ah c.nhds.length ch) := Lib.hid hvh
  have HVO : Hid (c.no = .slice Ao c.nofs.length co) := Lib.hid hvo
  have HS := Lib.hid hS
  have HRR := Lib.hid hr
  have HAP := Lib.hid hap
  have HLW : Hid (c.nh.ownBlock ≠ some sb) := Lib.hid hS.nhne
  have HLO : Hid (c.no.ownBlock ≠ some sb) := Lib.hid hS.none_
  have hl1 : c.nhds.length + 1 ≤ maxLen := by unfold maxLen; omega
  have hl2 : c.nofs.length + r.length ≤ maxLen := by unfold maxLen; omega
  have HBB : Hid (Below W.heap.size W (W.alloc (.cells #[.int .i64 h] 3))) := Lib.hid ((Below.refl _ W).alloc (Nat.le_refl _) _)
  clear hS hr hvh hnh hap hvo
  go_enter Try.func45, Try.ntmps45
  go_wp2_with (at_builtin; go_must (first
    | (refine wpList_app _ rfl (.tmp 10) (.tmp 12) 28 rfl c.b0 3 i0 _ 1 8 Try.underlying28 HI.out HZ.out.1 HZ.out.2.1 HZ.out.2.2 rfl (by decide) (.slice Ah c.nhds.length ch) c.nhds.length (iv c.nhds) (by simp [Act.eval]) HOH.out (fun b => b = W.heap.size) (some ⟨W.heap.size, 0, none⟩) 1 1 [.int .i64 h] (by simp [Act.eval]) (by simp) HRD.out (by intro u hu; simp at hu; subst hu; rfl) hl1 (by omega) (by simp; omega) ?_; intro v2 w2 hown2 hg2 hat2 hnil2; have HPU := Lib.hid (Pk.Se.grow (W2 := w2) HS.out { c with nh := v2, nhds := c.nhds ++ [h] } 6 HBB.out (l1 := [oi c.dv c.dn, oi c.bv c.bl, oi c.no c.nofs]) (l2 := [oi c.xo c.xofs, oi c.xh c.xhds, ⟨turnT, 4, c.tv, c.ts.length, tcells c.ts.reverse⟩, oi c.fv c.fl]) (x := oi c.nh c.nhds) (oi v2 (c.nhds ++ [h])) rfl rfl rfl (oi_app (r := [h]) hown2) (by show World.grownBy _ _ c.nh.ownBlock; rw [HVH.out]; exact hg2) (by show v2.ownBlock = c.nh.ownBlock ∨ _; rw [HVH.out]; exact hat2) rfl rfl rfl rfl rfl HS.out.fit); have hkeep : ∀ g, g ≠ sb → g < W.heap.size → c.nh.ownBlock ≠ some g → (w2.setCell ⟨sb, 6, none⟩ v2).heap[g]? = W.heap[g]? := (fun g h1 h2 h3 => ((Below.heap_setCell w2 _ _ g h1).trans (hg2.block g (by rw [alloc_size]; omega) (fun e => h3 (by rw [HVH.out]; exact e.symm)))).trans (Below.heap_alloc W _ g h2)); have HKP := Lib.hid hkeep; have d1 : w2.cell? ⟨sb, 6, none⟩ = some (.slice Ah c.nhds.length ch) := (hg2.cell_far ⟨sb, 6, none⟩ (by show sb < _; simp; omega) (fun e => HLW.out (by rw [HVH.out]; exact e.symm))).trans ((World.cell?_alloc_lt _ _ _ hsl).trans c1); have e1 : w2.frozen? ⟨sb, 6, none⟩ = false := (hg2.frozen_far ⟨sb, 6, none⟩ (by show sb < _; simp; omega) (fun e => HLW.out (by rw [HVH.out]; exact e.symm))).trans ((World.frozen?_of_block (Below.heap_alloc _ _ sb hsl)).trans f1); have hgs := hg2.size; rw [alloc_size] at hgs; obtain ⟨A2, c2', rfl⟩ := own_form hown2; have hS2 := HPU.out.1; have d2 : w2.cell? ⟨sb, 5, none⟩ = some (.slice Ao c.nofs.length co) := (hg2.cell_far ⟨sb, 5, none⟩ (by show sb < _; simp; omega) (fun e => HLW.out (by rw [HVH.out]; exact e.symm))).trans ((World.cell?_alloc_lt _ _ _ hsl).trans c2); have e2 : w2.frozen? ⟨sb, 5, none⟩ = false := (hg2.frozen_far ⟨sb, 5, none⟩ (by show sb < _; simp; omega) (fun e => HLW.out (by rw [HVH.out]; exact e.symm))).trans ((World.frozen?_of_block (Below.heap_alloc _ _ sb hsl)).trans f2); have hoo := hS2.ono; rw [show ({ c with nh := .slice A2 (c.nhds.length + 1) c2', nhds := c.nhds ++ [h] } : Cs).no = c.no from rfl, HVO.out] at hoo; have HOO := Lib.hid hoo; have hrd2 : Rd (w2.setCell ⟨sb, 6, none⟩ (.slice A2 (c.nhds.length + 1) c2')) (fun i => c.b0 ≤ i ∧ i ≠ sb) A (iv r) := (fun hn => by obtain ⟨ad, ea, hl, hgt, hc⟩ := HRR.out hn; exact ⟨ad, ea, by simp [World.setCell]; omega, hgt, fun j u hu => (World.cell?_of_block (by rw [Me.block_add]; exact HKP.out ad.block hgt.2 hl (HAP.out ad ea))).trans (hc j u hu)⟩); have HR2 := Lib.hid hrd2; have HS2 := Lib.hid hS2; have HB2 := Lib.hid HPU.out.2; clear hown2 hg2 hat2 hnil2 hkeep hS2 hoo hrd2 HPU)
    | (refine wpList_app _ rfl (.tmp 21) (.tmp 22) 28 rfl c.b0 3 i0 _ 1 8 Try.underlying28 HI.out HZ.out.1 HZ.out.2.1 HZ.out.2.2 rfl (by decide) (.slice Ao c.nofs.length co) c.nofs.length (iv c.nofs) (by simp [Act.eval]) HOO.out (fun b => c.b0 ≤ b ∧ b ≠ sb) A r.length cp (iv r) (by simp [Act.eval]) (by rw [iv_len]; omega) HR2.out (iv_one r) hl2 (by omega) (by simp [World.setCell]; omega) ?_; intro v3 w3 hown3 hg3 hat3 hnil3; have HPU := Lib.hid (Pk.Se.grow (W2 := w3) HS2.out { c with nh := .slice A2 (c.nhds.length + 1) c2', nhds := c.nhds ++ [h], no := v3, nofs := c.nofs ++ r } 5 (Below.refl _ _) (l1 := [oi c.dv c.dn, oi c.bv c.bl]) (l2 := [oi (.slice A2 (c.nhds.length + 1) c2') (c.nhds ++ [h]), oi c.xo c.xofs, oi c.xh c.xhds, ⟨turnT, 4, c.tv, c.ts.length, tcells c.ts.reverse⟩, oi c.fv c.fl]) (x := oi c.no c.nofs) (oi v3 (c.nofs ++ r)) rfl rfl rfl (oi_app hown3) (by show World.grownBy _ _ c.no.ownBlock; rw [HVO.out]; exact hg3) (by show v3.ownBlock = c.no.ownBlock ∨ _; rw [HVO.out]; exact hat3) rfl rfl rfl rfl rfl HS2.out.fit); have g2 : w3.cell? ⟨sb, 5, none⟩ = some (.slice Ao c.nofs.length co) := (hg3.cell_far ⟨sb, 5, none⟩ (by show sb < _; simp [World.setCell]; omega) (fun e => HLO.out (by rw [HVO.out]; exact e.symm))).trans ((HS2.out.cell 5).trans ((rfl : _ = some c.no).trans (congrArg some HVO.out))); have k2 : w3.frozen? ⟨sb, 5, none⟩ = false := (hg3.frozen_far ⟨sb, 5, none⟩ (by show sb < _; simp [World.setCell]; omega) (fun e => HLO.out (by rw [HVO.out]; exact e.symm))).trans (HS2.out.row.frozen 5); obtain ⟨A3, c3, rfl⟩ := own_form hown3; clear hown3 hg3 hat3 hnil3)
    ))
  ((try simp only [Exit.inBlock, Exit.then]); first | (refine bodyPost_ret (results_none rfl _ _ _) rfl ?_) | (refine bodyPost_end (results_none rfl _ _ _) rfl ?_))
  exact ⟨rfl, HB2.out.trans HPU.out.2, _, _, HPU.out.1⟩
end Go.Proofs.Ytedppnejkjcplaa
