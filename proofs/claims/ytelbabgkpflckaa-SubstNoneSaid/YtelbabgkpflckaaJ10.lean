/-
  RcLay: CONTRACTS: chapter 12, the document's Compile: more, lay, bad.
-/
import Derived.Test.YtelbabgkpflckaaJ9
import Derived.RegionTactic
import Derived.Deep.RegionLaw

set_option linter.unusedSimpArgs false
set_option linter.unusedVariables false
namespace Go.Proofs.Ytelbabgkpflckaa
open Go.RowKit Go.Sort
open Me
open Pk

namespace Rc
open Rx (In)
theorem inst_info : (Try.prog.info? 57).map (fun i => (i.zero, i.size, i.bytes)) = some (some (.agg #[.int .i64 0, .int .i64 0, .int .i64 0, .string ⟨#[]⟩]), 4, 40) := by kernel_rfl
/-- A byte of a text. -/
theorem byte_at {s : List UInt8} {i : Nat} {c : UInt8} (h : s[i]? = some c) : ∃ z : i < (⟨s.toArray⟩ : ByteArray).size, (⟨s.toArray⟩ : ByteArray)[i]'z = c := by
  obtain ⟨hi, hc⟩ := List.getElem?_eq_some_iff.1 h
  have zl : (⟨s.toArray⟩ : ByteArray).size = s.length := by show s.toArray.size = _; simp
  exact ⟨by omega, hc⟩
theorem icells_append (l m : List In) : icells (l ++ m) = icells l ++ icells m := by unfold icells; rw [List.flatMap_append]
theorem icells_one (x : In) : icells [x] = icell x := by unfold icells; simp
theorem icells_len (l : List In) : (icells l).length = l.length * 4 := flat_len icell 4 (fun _ => rfl) l
end Rc

set_option maxRecDepth 100000 in
set_option maxHeartbeats 4000000 in
theorem more_any {w : World} {b : Nat} {v : Value} {r : Rc.Rr} (h : Rc.At w b v r) (c : UInt8) (k : Int) (hk : k = (c.toNat : Int)) :
    Calls Try.prog 50 #[.pointer (some ⟨b, 0, none⟩), .int .u8 k] w fun e w' => e = .returned (.bool (Rc.more r c)) ∧ Below w.heap.size w w' := by
  obtain ⟨s, i, d, er, g, L⟩ := r
  have c0 : w.cell? ⟨b, 0, none⟩ = some (.string ⟨s.toArray⟩) := h.c0
  have c1 : w.cell? ⟨b, 1, none⟩ = some (.int .i64 (i : Int)) := h.c1
  obtain ⟨R, hR⟩ : ∃ R, Rc.more ⟨s, i, d, er, g, L⟩ c = R := ⟨_, rfl⟩
  rw [hR]
  unfold Rc.more at hR
  have hbl := h.lt
  obtain ⟨kg1, kg2⟩ := Pk.kgrown2 w
  clear h
  have hR : (s[i]? == some c) = R := hR
  cases hx : s[i]? with
  | none =>
    have hl : ¬ (i : Int) < (s.length : Int) := by have := List.getElem?_eq_none_iff.1 hx; omega
    have hln : ¬ i < s.length := by omega
    have HQ : Hid (false = R) := Lib.hid (by rw [← hR, hx]; rfl)
    clear hR hx
    go_enter Try.func50, Try.ntmps50
    go_wp2_with fail
    go_quiet (fail)
    go_wp2_with fail
    go_ret
    exact ⟨by rw [← HQ.out]; rfl, rfl, rfl, rfl, Nat.le_refl _, fun _ _ => rfl⟩
  | some a =>
    obtain ⟨z0, g0⟩ := Rc.byte_at hx
    have hl : (i : Int) < (s.length : Int) := by have := (List.getElem?_eq_some_iff.1 hx).1; omega
    have hln : i < s.length := by omega
    have hi0 : (0 : Int) ≤ (i : Int) := by omega
    have HQ : Hid ((a == c) = R) := Lib.hid (by rw [← hR, hx]; rfl)
    clear hR hx
    by_cases he : a = c
    · have hk2 : (a.toNat : Int) = k := by rw [hk, he]
      have HQ2 : Hid (true = R) := Lib.hid (by rw [← HQ.out, he]; simp)
      clear hk he
      go_enter Try.func50, Try.ntmps50
      go_wp2_with fail
      go_quiet (fail)
      go_wp2_with fail
      go_ret
      exact ⟨by rw [← HQ2.out]; rfl, rfl, rfl, rfl, Nat.le_refl _, fun _ _ => rfl⟩
    · have hk2 : ¬ (a.toNat : Int) = k := by rw [hk]; intro e; exact he (UInt8.toNat_inj.1 (by omega))
      have HQ2 : Hid (false = R) := Lib.hid (by rw [← HQ.out]; simpa using he)
      clear hk he
      go_enter Try.func50, Try.ntmps50
      go_wp2_with fail
      go_quiet (fail)
      go_wp2_with fail
      go_ret
      exact ⟨by rw [← HQ2.out]; exact congrArg (fun x => Ending.returned (.bool x)) (by simpa using hk2), rfl, rfl, rfl, Nat.le_refl _, fun _ _ => rfl⟩

set_option maxHeartbeats 1000000 in
theorem bad_any {w : World} {b : Nat} {v : Value} {r : Rc.Rr} (h : Rc.At w b v r) (n : Int) :
    Calls Try.prog 37 #[.pointer (some ⟨b, 0, none⟩), .int .i64 n] w fun e w' => e = .returned (.tuple #[]) ∧ Rc.Did w b v (Rc.bad r n) v w' := by
  obtain ⟨s, i, d, er, g, L⟩ := r
  have c3 : w.cell? ⟨b, 3, none⟩ = some (.int .i64 er) := h.c3
  have f3 := h.fz 3
  have HD := Lib.hid (Rc.Did.refl h)
  have HD3 := Lib.hid ((Rc.Did.refl h).set3 n)
  clear h
  by_cases he : er = 0
  · have HQ : Hid (Rc.bad ⟨s, i, d, er, g, L⟩ n = ⟨s, i, d, n, g, L⟩) := Lib.hid (by unfold Rc.bad; rw [if_pos he])
    subst he
    go_enter Try.func37, Try.ntmps37
    go_wp2_with fail
    ((try simp only [Exit.inBlock, Exit.then]); first | (refine bodyPost_ret (results_none rfl _ _ _) rfl ?_) | (refine bodyPost_end (results_none rfl _ _ _) rfl ?_))
    exact ⟨rfl, by rw [HQ.out]; exact HD3.out⟩
  · have HQ : Hid (Rc.bad ⟨s, i, d, er, g, L⟩ n = ⟨s, i, d, er, g, L⟩) := Lib.hid (by unfold Rc.bad; rw [if_neg he])
    go_enter Try.func37, Try.ntmps37
    go_wp2_with fail
    ((try simp only [Exit.inBlock, Exit.then]); first | (refine bodyPost_ret (results_none rfl _ _ _) rfl ?_) | (refine bodyPost_end (results_none rfl _ _ _) rfl ?_))
    exact ⟨rfl, by rw [HQ.out]; exact HD.out⟩

set_option maxRecDepth 100000 in
set_option maxHeartbeats 4000000 in
theorem lay_any {w : World} {b : Nat} {v : Value} {r : Rc.Rr} (h : Rc.At w b v r) (hL : r.L.length ≤ 1000000) (x : Rx.In) :
    Calls Try.prog 35 #[.pointer (some ⟨b, 0, none⟩), .agg #[.int .i64 x.op, .int .i64 x.x, .int .i64 x.y, .string ⟨x.p.toArray⟩]] w fun e w' => e = .returned (.int .i64 (r.L.length : Int)) ∧ ∃ v', Rc.Did w b v (Rc.lay r x) v' w' := by
  obtain ⟨i0, hi0, hz0, hz1, hz2⟩ := info_parts Rc.inst_info
  have HI := Lib.hid hi0
  have HZ := Lib.hid (And.intro hz0 (And.intro hz1 hz2))
  clear hi0 hz0 hz1 hz2
  obtain ⟨A, cp, rfl⟩ := h.form
  have hbl := h.lt
  obtain ⟨n, hn⟩ : ∃ n, n = r.L.length := ⟨_, rfl⟩
  rw [← hn] at h hL ⊢
  have HN := Lib.hid hn
  obtain ⟨xop, xx, xy, xp⟩ := x
  obtain ⟨wb, hwb⟩ : ∃ wb, wb = w.alloc (.cells #[.int .i64 xop, .int .i64 xx, .int .i64 xy, .string ⟨xp.toArray⟩] 57) := ⟨_, rfl⟩
  have hbw : Below w.heap.size w wb := by rw [hwb]; exact (Below.refl _ _).alloc (Nat.le_refl _) _
  have hwbs : wb.heap.size = w.heap.size + 1 := by rw [hwb]; simp
  have hat := h.below hbw
  have HAT := Lib.hid hat
  have HBW := Lib.hid hbw
  have hlt := hat.lt
  have c5 := hat.c5
  have f5 := hat.fz 5
  have x0 : wb.cell? ⟨w.heap.size, 0, none⟩ = some (.int .i64 xop) := by rw [hwb]; exact ((RowAt.new w _ _).cell 0).trans rfl
  have x1 : wb.cell? ⟨w.heap.size, 1, none⟩ = some (.int .i64 xx) := by rw [hwb]; exact ((RowAt.new w _ _).cell 1).trans rfl
  have x2 : wb.cell? ⟨w.heap.size, 2, none⟩ = some (.int .i64 xy) := by rw [hwb]; exact ((RowAt.new w _ _).cell 2).trans rfl
  have x3 : wb.cell? ⟨w.heap.size, 3, none⟩ = some (.string ⟨xp.toArray⟩) := by rw [hwb]; exact ((RowAt.new w _ _).cell 3).trans rfl
  have hlen : n + 1 ≤ maxLen := by unfold maxLen; omega
  have HOA : Hid ((wb.alloc (.cells #[.int .i64 xop, .int .i64 xx, .int .i64 xy, .string ⟨xp.toArray⟩] 57)).ownsRow (b + 1) 57 4 (.slice A n cp) n (icells r.L)) := Lib.hid (by have := hat.own.alloc (.cells #[.int .i64 xop, .int .i64 xx, .int .i64 xy, .string ⟨xp.toArray⟩] 57); rwa [← hn] at this)
  have HRD : Hid (Rd (wb.alloc (.cells #[.int .i64 xop, .int .i64 xx, .int .i64 xy, .string ⟨xp.toArray⟩] 57)) (fun b => b = wb.heap.size) (some ⟨wb.heap.size, 0, none⟩) [.int .i64 xop, .int .i64 xx, .int .i64 xy, .string ⟨xp.toArray⟩]) := Lib.hid (Rd.fresh wb [.int .i64 xop, .int .i64 xx, .int .i64 xy, .string ⟨xp.toArray⟩] 57 _ rfl)
  have HNE : Hid (∀ g, (Value.slice A n cp).ownBlock = some g → b + 1 ≤ g ∧ g < wb.heap.size) := Lib.hid hat.olt
  have HWBS := Lib.hid hwbs
  have hwn : IntKind.i64.wrap (((n + 1 : Nat) : Int) - 1) = (n : Int) := by rw [IntKind.wrap_i64]; omega
  have hHB := Lib.hid h
  clear h hat hbw hn
  go_enter Try.func35, Try.ntmps35
  go_wp2_with fail
  rw [← hwb]
  clear hwb
  go_region_law (refine step_app _ rfl (.tmp 10) (.tmp 12) 32 rfl (b + 1) 57 i0 _ 4 40 Try.underlying32 HI.out HZ.out.1 HZ.out.2.1 HZ.out.2.2 rfl (by decide) (.slice A n cp) n (icells r.L) (by simp [Act.eval]) HOA.out (fun b => b = wb.heap.size) (some ⟨wb.heap.size, 0, none⟩) 1 1 [.int .i64 xop, .int .i64 xx, .int .i64 xy, .string ⟨xp.toArray⟩] (by simp [Act.eval]) (by simp) HRD.out (by intro u hu; simp at hu; rcases hu with rfl | rfl | rfl | rfl <;> rfl) hlen (by omega) (by simp; omega) ?_; intro v2 w2 hown2 hg2 hat2 hnil2; have d0' : w2.cell? ⟨b, 5, none⟩ = some (.slice A n cp) := (hg2.cell_far ⟨b, 5, none⟩ (by show b < _; simp; omega) (fun e => by have := (HNE.out b e.symm).1; omega)).trans ((World.cell?_alloc_lt _ _ _ hlt).trans c5); have df' : w2.frozen? ⟨b, 5, none⟩ = false := (hg2.frozen_far ⟨b, 5, none⟩ (by show b < _; simp; omega) (fun e => by have := (HNE.out b e.symm).1; omega)).trans ((World.frozen?_of_block (Below.heap_alloc _ _ b hlt)).trans f5); have HO2 := Lib.hid hown2; have HA2 := Lib.hid hat2; have HG2 : Hid (World.grownBy (wb.alloc (.cells #[.int .i64 xop, .int .i64 xx, .int .i64 xy, .string ⟨xp.toArray⟩] 57)) w2 (Value.slice A n cp).ownBlock) := Lib.hid ⟨hg2.os, hg2.tape, hg2.output, hg2.size, hg2.block⟩; obtain ⟨A3, c3, rfl⟩ := own_form hown2; clear hown2 hg2 hat2 hnil2)
  all_goals
    try go_simp
    have hfin : Rc.Did w b (.slice A n cp) (Rc.lay r ⟨xop, xx, xy, xp⟩) (.slice A3 (n + 1) c3) (w2.setCell ⟨b, 5, none⟩ (.slice A3 (n + 1) c3)) := by
      have hk1 : Kp (fun i => i = b ∨ (Value.slice A n cp).ownBlock = some i) w w2 := ((Kp.of_below (O := fun i => i = b ∨ (Value.slice A n cp).ownBlock = some i) HBW.out).alloc (.cells #[.int .i64 xop, .int .i64 xx, .int .i64 xy, .string ⟨xp.toArray⟩] 57)).grown HG2.out fun g hg => .inr (.inr hg)
      have hrow : RowAt w2 b 84 #[.string ⟨r.s.toArray⟩, .int .i64 (r.at_ : Int), .int .i64 (r.deep : Int), .int .i64 r.err, .int .i64 (r.g : Int), .slice A n cp] := (HG2.out.block b (by simp; omega) (fun e => by have := (HNE.out b e.symm).1; omega)).trans ((Below.heap_alloc _ _ b hlt).trans HAT.out.row)
      refine ⟨⟨hrow.set_ 5 _, ?_⟩, hk1.setCell _ (.inr (.inl rfl)) _, ?_⟩
      · have e : (Rc.lay r ⟨xop, xx, xy, xp⟩).L.length = n + 1 := by rw [HN.out]; unfold Rc.lay; simp
        rw [e]
        have e2 : icells (Rc.lay r ⟨xop, xx, xy, xp⟩).L = icells r.L ++ [.int .i64 xop, .int .i64 xx, .int .i64 xy, .string ⟨xp.toArray⟩] := by unfold Rc.lay; rw [Rc.icells_append, Rc.icells_one]; rfl
        rw [e2]
        exact owns_keep HO2.out fun g hg => Below.heap_setCell _ _ _ g (by have := (World.ownsRow.lt HO2.out g hg).1; show g ≠ b; omega)
      · intro g hg
        rcases HA2.out with e | e
        · exact .inl (e.symm.trans hg)
        · have := Option.some.inj (e.symm.trans hg)
          rw [← this]
          have := HWBS.out
          exact .inr (by simp; omega)
    have hfin2 : ∃ v', Rc.Did w b (.slice A n cp) (Rc.lay r ⟨xop, xx, xy, xp⟩) v' (w2.setCell ⟨b, 5, none⟩ (.slice A3 (n + 1) c3)) := ⟨_, hfin⟩
    have HF := Lib.hid hfin2
    have k5 : (w2.setCell ⟨b, 5, none⟩ (.slice A3 (n + 1) c3)).cell? ⟨b, 5, none⟩ = some (.slice A3 (n + 1) c3) := hfin.at_.c5
    clear hfin hfin2 HO2 HG2
    generalize w2.setCell ⟨b, 5, none⟩ (.slice A3 (n + 1) c3) = w3 at *
    try go_wp2_with fail
    go_ret
    exact ⟨rfl, HF.out⟩
end Go.Proofs.Ytelbabgkpflckaa
