/-
  RcStr: CONTRACTS: chapter 12, the document's Compile: stroke, item, sixAt.
-/
import Derived.Test.YtelbabgkpflckaaJ12
import Derived.RegionTactic

set_option linter.unusedSimpArgs false
set_option linter.unusedVariables false
namespace Go.Proofs.Ytelbabgkpflckaa
open Go.RowKit Go.Sort
open Me
open Pk

namespace Rc
open Rx (cel St none_)
/-- What stroke and item leave. -/
def StrR (w : World) (b : Nat) (v : Value) (r : Rr) (e : Ending) (w' : World) : Prop := ∃ (x : UInt8) (m : St) (ok : Bool) (n : Nat), e = .returned (.tuple #[.int .u8 (x.toNat : Int), .agg (cel m), .bool ok]) ∧ Did w b v { r with at_ := r.at_ + n } v w' ∧ r.at_ + n ≤ r.s.length ∧ (ok = true → 1 ≤ n)
end Rc

set_option maxRecDepth 100000 in
set_option maxHeartbeats 8000000 in
theorem stroke_any {w : World} {b : Nat} {v : Value} {r : Rc.Rr} (h : Rc.At w b v r) (hl : r.s.length ≤ 1000000) (ha : r.at_ < r.s.length) :
    Calls Try.prog 73 #[.pointer (some ⟨b, 0, none⟩)] w (Rc.StrR w b v r) := by
  obtain ⟨w0, hw0⟩ : ∃ w0, w0 = (w.alloc (.cells Try.zeroCells125 125)).alloc (.cells Try.zeroCells125 125) := ⟨_, rfl⟩
  obtain ⟨n0, hn0⟩ : ∃ n0, n0 = w.heap.size := ⟨_, rfl⟩
  have hbl := h.lt
  have HB0 : Hid (Below w.heap.size w w0) := Lib.hid (by rw [hw0]; exact ((Below.refl _ _).alloc (Nat.le_refl _) _).alloc (by simp) _)
  have HR0 : Hid (RowAt w0 n0 125 (Rx.cel Rx.none_)) := Lib.hid (by rw [hw0, ← z_b256, hn0]; exact (RowAt.new w _ _).alloc _)
  have HR1 : Hid (RowAt w0 (n0 + 1) 125 (Rx.cel Rx.none_)) := Lib.hid (by rw [hw0, ← z_b256, hn0]; exact RowAt.new' (by simp))
  have HD0 := Lib.hid ((Rc.Did.refl h).on HB0.out)
  have HAW := Lib.hid h
  obtain ⟨s, i, d, er, g, L⟩ := r
  have c0 : w0.cell? ⟨b, 0, none⟩ = some (.string ⟨s.toArray⟩) := HD0.out.at_.c0
  have c1 : w0.cell? ⟨b, 1, none⟩ = some (.int .i64 (i : Int)) := HD0.out.at_.c1
  have f1 := HD0.out.at_.fz 1
  have hbl0 := HD0.out.at_.lt
  have hl : s.length ≤ 1000000 := hl
  have ha : i < s.length := ha
  have hi1 : IntKind.i64.wrap ((i : Int) + 1) = (i : Int) + 1 := by rw [IntKind.wrap_i64]; omega
  obtain ⟨i2, hi2⟩ : ∃ i2 : Nat, i2 = i + 2 := ⟨_, rfl⟩
  have hwi : IntKind.i64.wrap ((i : Int) + 2) = (i2 : Int) := by rw [IntKind.wrap_i64]; omega
  have HI2 := Lib.hid hi2
  obtain ⟨kg1, kg2⟩ := Pk.kgrown2 w0
  have HN0 := Lib.hid hn0
  clear h
  go_enter Try.func73, Try.ntmps73
  go_wp2_with fail
  rw [← hw0, ← hn0]
  clear hw0 hn0
  by_cases h1 : i + 1 < s.length
  · have h1I : ((i + 1 : Nat) : Int) < (s.length : Int) := by omega
    have h1J : ¬ (s.length : Int) ≤ (i : Int) + 1 := by omega
    obtain ⟨c, hc⟩ : ∃ c, s[i + 1]? = some c := ⟨_, List.getElem?_eq_getElem h1⟩
    obtain ⟨z0, g0⟩ := Rc.byte_at hc
    have HSX := Lib.hid fun W => six_any c W
    have HWD := Lib.hid fun W => refWord_any c.toNat W
    clear hc hi2
    go_quiet (fail)
    revert nq
    intro nq1
    go_wp2_with fail
    go_quiet (fail)
    go_wp2_with fail
    have HD1 := Lib.hid ((HD0.out.drewN (nq1 + nq)).set1 i2)
    have HR0s : Hid (RowAt ((w0.drewN (nq1 + nq)).setCell ⟨b, 1, none⟩ (.int .i64 (i2 : Int))) n0 125 (Rx.cel Rx.none_)) := Lib.hid ((HR0.out.drewN _).far (by show n0 ≠ b; have := HN0.out; omega) _)
    have HR1s : Hid (RowAt ((w0.drewN (nq1 + nq)).setCell ⟨b, 1, none⟩ (.int .i64 (i2 : Int))) (n0 + 1) 125 (Rx.cel Rx.none_)) := Lib.hid ((HR1.out.drewN _).far (by show n0 + 1 ≠ b; have := HN0.out; omega) _)
    generalize (w0.drewN (nq1 + nq)).setCell ⟨b, 1, none⟩ (.int .i64 (i2 : Int)) = ws at *
    go_at_call 77
    refine (HSX.out _).mono ?_
    rintro e w2 ⟨⟨m, ok, rfl⟩, hb2⟩
    have HDS := Lib.hid (HD1.out.on hb2)
    have HR0t := Lib.hid (HR0s.out.below hb2 HR0s.out.lt)
    have HR1t := Lib.hid (HR1s.out.below hb2 HR1s.out.lt)
    have hlt0 := HR0t.out.lt
    have hlt1 := HR1t.out.lt
    have hsw : w.heap.size ≤ w2.heap.size := HDS.out.size
    obtain ⟨n2, hn2⟩ : ∃ n2, n2 = w2.heap.size := ⟨_, rfl⟩
    have HN2 := Lib.hid hn2
    have HM0 : Hid (RowAt (w2.alloc (.cells Try.zeroCells125 125)) n2 125 (Rx.cel Rx.none_)) := Lib.hid (by rw [← z_b256, hn2]; exact RowAt.new w2 _ _)
    have HM1 := Lib.hid (Rc.row_setRow HM0.out (Rx.cel m))
    have HR0u : Hid (RowAt ((w2.alloc (.cells Try.zeroCells125 125)).setRow n2 (Rx.cel m)) n0 125 (Rx.cel Rx.none_)) := Lib.hid (Rc.row_setRow_far (HR0t.out.alloc _) (by omega) _)
    have HR1u : Hid (RowAt ((w2.alloc (.cells Try.zeroCells125 125)).setRow n2 (Rx.cel m)) (n0 + 1) 125 (Rx.cel Rx.none_)) := Lib.hid (Rc.row_setRow_far (HR1t.out.alloc _) (by omega) _)
    have HBX0 : Hid (Below w.heap.size w2 ((w2.alloc (.cells Try.zeroCells125 125)).setRow n2 (Rx.cel m))) := Lib.hid (Rc.below_setRow ((Below.refl _ _).alloc hsw _) (by omega) _)
    cases ok
    · go_wp2_with ((with_reducible refine Rc.stset (Rx.cel m) (Rx.cel Rx.none_) (Rx.cel_size _) (Rx.cel_one _) (Rx.cel_size _) ?_ ?_ (HM0.out) ?_); (focus simp [Act.eval, Act.put]); (focus simp [Act.eval, Act.put]))
      rw [← hn2]
      clear hn2
      generalize (w2.alloc (.cells Try.zeroCells125 125)).setRow n2 (Rx.cel m) = wx at *
      have hm1 : RowAt wx.drew n2 125 (Rx.cel m) := HM1.out
      have hr0 : RowAt wx.drew n0 125 (Rx.cel Rx.none_) := HR0u.out
      have hr1 : RowAt wx.drew (n0 + 1) 125 (Rx.cel Rx.none_) := HR1u.out
      have HBX : Hid (Below w.heap.size w2 wx.drew) := Lib.hid (Below.drew HBX0.out)
      refine wp_region_any (by kernel_rfl) ?_
      change wpAny _ _ _ _ _ _ _ (World.drew _)
      refine wpAny_take (i := 0) (v := ?_) rfl (by kernel_rfl) (by kernel_rfl) (by kernel_rfl) (fun _ _ _ h => h) (Or.inl ⟨by rfl, ?_⟩) ?_
      rotate_left
      · (intro w9; go_simp; try with_reducible rfl)
      refine wpAny_take (i := 2) (v := ?_) rfl (by kernel_rfl) (by kernel_rfl) (by kernel_rfl) (fun _ _ _ h => h) (Or.inl ⟨by rfl, ?_⟩) ?_
      rotate_left
      · (intro w9; go_simp; try with_reducible rfl)
      refine wpAny_ready (rs := [1, 3]) (by kernel_rfl) (by simp) ?_
      refine AllReady.cons rfl (fun K hK => ?_) ?_
      · refine Rc.step_ldset (Rx.cel Rx.none_) rfl rfl (Rx.cel_size _) (by simp [Act.eval, Act.put]) hr1 ?_
        refine hK _ _ ?_
        clear hK K
        refine wpAny_ready (rs := [3]) (by kernel_rfl) (by simp) ?_
        refine AllReady.cons rfl (fun K hK => ?_) AllReady.nil
        go_simp
        go_at_call 78
        refine (HWD.out _).mono ?_
        rintro e w3 ⟨rfl, rfl⟩
        try go_simp
        refine hK _ _ ?_
        clear hK K
        refine wpAny_take (i := 4) (v := ?_) rfl (by kernel_rfl) (by kernel_rfl) (by kernel_rfl) (fun _ _ _ h => h) (Or.inl ⟨by rfl, ?_⟩) ?_
        rotate_left
        · (intro w9; go_simp; try with_reducible rfl)
        refine wpAny_take (i := 5) (v := ?_) rfl (by kernel_rfl) (by kernel_rfl) (by kernel_rfl) (fun _ _ _ h => h) (Or.inl ⟨by rfl, ?_⟩) ?_
        rotate_left
        · (intro w9; go_simp; try with_reducible rfl)
        refine wpAny_ready (rs := [6]) (by kernel_rfl) (by simp) ?_
        refine AllReady.cons rfl (fun K hK => ?_) AllReady.nil
        refine Rc.step_stset (Rx.cel Rx.none_) (Rx.cel Rx.none_) rfl rfl (Rx.cel_size _) (Rx.cel_one _) (Rx.cel_size _) (by simp [Act.eval, Act.put]) (by simp [Act.eval, Act.put]) hr0 ?_
        refine hK _ _ ?_
        clear hK K
        refine wpAny_take (i := 7) (v := ?_) rfl (by kernel_rfl) (by kernel_rfl) (by kernel_rfl) (fun _ _ _ h => h) (Or.inl ⟨by rfl, ?_⟩) ?_
        rotate_left
        · (intro w9; go_simp; try with_reducible rfl)
        refine wpAny_done (by kernel_rfl) ?_ _
        go_simp
        go_wp2_with fail
        ((try simp only [Exit.inBlock, Exit.then]); refine bodyPost_ret (Rc.ret_set3 rfl _ ?_ (Rc.row_setRow hr0 _) (Rx.cel_size _)) rfl ?_; (focus simp); simp only [Array.getD_eq_getD_getElem?])
        have hnn := HN0.out
        have h2 := HI2.out
        refine ⟨c, Rx.none_, (!Rc.wordN c.toNat), 2, rfl, ?_, by show i + 2 ≤ s.length; omega, fun _ => by omega⟩
        show Rc.Did w b v ⟨s, i + 2, d, er, g, L⟩ v _
        rw [← h2]
        refine Rc.Did.low HAW.out HDS.out (Rc.below_setRow ?_ (by omega) _)
        exact HBX.out
      refine AllReady.cons rfl (fun K hK => ?_) ?_
      · go_simp
        go_at_call 78
        refine (HWD.out _).mono ?_
        rintro e w3 ⟨rfl, rfl⟩
        try go_simp
        refine hK _ _ ?_
        clear hK K
        refine wpAny_take (i := 4) (v := ?_) rfl (by kernel_rfl) (by kernel_rfl) (by kernel_rfl) (fun _ _ _ h => h) (Or.inl ⟨by rfl, ?_⟩) ?_
        rotate_left
        · (intro w9; go_simp; try with_reducible rfl)
        refine wpAny_take (i := 5) (v := ?_) rfl (by kernel_rfl) (by kernel_rfl) (by kernel_rfl) (fun _ _ _ h => h) (Or.inl ⟨by rfl, ?_⟩) ?_
        rotate_left
        · (intro w9; go_simp; try with_reducible rfl)
        refine wpAny_ready (rs := [1]) (by kernel_rfl) (by simp) ?_
        refine AllReady.cons rfl (fun K hK => ?_) AllReady.nil
        refine Rc.step_ldset (Rx.cel Rx.none_) rfl rfl (Rx.cel_size _) (by simp [Act.eval, Act.put]) hr1 ?_
        refine hK _ _ ?_
        clear hK K
        refine wpAny_ready (rs := [6]) (by kernel_rfl) (by simp) ?_
        refine AllReady.cons rfl (fun K hK => ?_) AllReady.nil
        refine Rc.step_stset (Rx.cel Rx.none_) (Rx.cel Rx.none_) rfl rfl (Rx.cel_size _) (Rx.cel_one _) (Rx.cel_size _) (by simp [Act.eval, Act.put]) (by simp [Act.eval, Act.put]) hr0 ?_
        refine hK _ _ ?_
        clear hK K
        refine wpAny_take (i := 7) (v := ?_) rfl (by kernel_rfl) (by kernel_rfl) (by kernel_rfl) (fun _ _ _ h => h) (Or.inl ⟨by rfl, ?_⟩) ?_
        rotate_left
        · (intro w9; go_simp; try with_reducible rfl)
        refine wpAny_done (by kernel_rfl) ?_ _
        go_simp
        go_wp2_with fail
        ((try simp only [Exit.inBlock, Exit.then]); refine bodyPost_ret (Rc.ret_set3 rfl _ ?_ (Rc.row_setRow hr0 _) (Rx.cel_size _)) rfl ?_; (focus simp); simp only [Array.getD_eq_getD_getElem?])
        have hnn := HN0.out
        have h2 := HI2.out
        refine ⟨c, Rx.none_, (!Rc.wordN c.toNat), 2, rfl, ?_, by show i + 2 ≤ s.length; omega, fun _ => by omega⟩
        show Rc.Did w b v ⟨s, i + 2, d, er, g, L⟩ v _
        rw [← h2]
        refine Rc.Did.low HAW.out HDS.out (Rc.below_setRow ?_ (by omega) _)
        exact HBX.out
      exact AllReady.nil
    · go_wp2_with ((with_reducible refine Rc.stset (Rx.cel m) (Rx.cel Rx.none_) (Rx.cel_size _) (Rx.cel_one _) (Rx.cel_size _) ?_ ?_ (HM0.out) ?_); (focus simp [Act.eval, Act.put]); (focus simp [Act.eval, Act.put]))
      rw [← hn2]
      clear hn2
      generalize (w2.alloc (.cells Try.zeroCells125 125)).setRow n2 (Rx.cel m) = wx at *
      have hm1 : RowAt wx.drew n2 125 (Rx.cel m) := HM1.out
      have hr0 : RowAt wx.drew n0 125 (Rx.cel Rx.none_) := HR0u.out
      have hr1 : RowAt wx.drew (n0 + 1) 125 (Rx.cel Rx.none_) := HR1u.out
      have HBX : Hid (Below w.heap.size w2 wx.drew) := Lib.hid (Below.drew HBX0.out)
      refine wp_region_any (by kernel_rfl) ?_
      change wpAny _ _ _ _ _ _ _ (World.drew _)
      refine wpAny_take (i := 1) (v := ?_) rfl (by kernel_rfl) (by kernel_rfl) (by kernel_rfl) (fun _ _ _ h => h) (Or.inl ⟨by rfl, ?_⟩) ?_
      rotate_left
      · (intro w9; go_simp; try with_reducible rfl)
      refine wpAny_ready (rs := [0]) (by kernel_rfl) (by simp) ?_
      refine AllReady.cons rfl (fun K hK => ?_) AllReady.nil
      refine Rc.step_ldset (Rx.cel m) rfl rfl (Rx.cel_size _) (by simp [Act.eval, Act.put]) hm1 ?_
      refine hK _ _ ?_
      clear hK K
      refine wpAny_ready (rs := [2]) (by kernel_rfl) (by simp) ?_
      refine AllReady.cons rfl (fun K hK => ?_) AllReady.nil
      refine Rc.step_stset (Rx.cel m) (Rx.cel Rx.none_) rfl rfl (Rx.cel_size _) (Rx.cel_one _) (Rx.cel_size _) (by simp [Act.eval, Act.put]) (by simp [Act.eval, Act.put]) hr0 ?_
      refine hK _ _ ?_
      clear hK K
      refine wpAny_take (i := 3) (v := ?_) rfl (by kernel_rfl) (by kernel_rfl) (by kernel_rfl) (fun _ _ _ h => h) (Or.inl ⟨by rfl, ?_⟩) ?_
      rotate_left
      · (intro w9; go_simp; try with_reducible rfl)
      refine wpAny_done (by kernel_rfl) ?_ _
      go_simp
      go_wp2_with fail
      ((try simp only [Exit.inBlock, Exit.then]); refine bodyPost_ret (Rc.ret_set3 rfl _ ?_ (Rc.row_setRow hr0 _) (Rx.cel_size _)) rfl ?_; (focus simp); simp only [Array.getD_eq_getD_getElem?])
      have hnn := HN0.out
      have h2 := HI2.out
      refine ⟨0, m, true, 2, rfl, ?_, by show i + 2 ≤ s.length; omega, fun _ => by omega⟩
      show Rc.Did w b v ⟨s, i + 2, d, er, g, L⟩ v _
      rw [← h2]
      refine Rc.Did.low HAW.out HDS.out (Rc.below_setRow ?_ (by omega) _)
      exact HBX.out
  · have h1J : (s.length : Int) ≤ (i : Int) + 1 := by omega
    clear hi2
    go_quiet (fail)
    rename_i nq
    have hrow1 : RowAt ((w0.drewN nq).drew) (n0 + 1) 125 (Rx.cel Rx.none_) := HR1.out
    have hrow0 : RowAt ((w0.drewN nq).drew) n0 125 (Rx.cel Rx.none_) := HR0.out
    go_wp2_with fail
    refine wp_region_any (by kernel_rfl) ?_
    change wpAny _ _ _ _ _ _ _ (World.drew _)
    refine wpAny_take (i := 1) (v := ?_) rfl (by kernel_rfl) (by kernel_rfl) (by kernel_rfl) (fun _ _ _ h => h) (Or.inl ⟨by rfl, ?_⟩) ?_
    rotate_left
    · (intro w9; go_simp; try with_reducible rfl)
    refine wpAny_ready (rs := [0]) (by kernel_rfl) (by simp) ?_
    refine AllReady.cons rfl (fun K hK => ?_) AllReady.nil
    refine Rc.step_ldset (Rx.cel Rx.none_) rfl rfl (Rx.cel_size _) (by simp [Act.eval, Act.put]) hrow1 ?_
    refine hK _ _ ?_
    clear hK K
    refine wpAny_ready (rs := [2]) (by kernel_rfl) (by simp) ?_
    refine AllReady.cons rfl (fun K hK => ?_) AllReady.nil
    refine Rc.step_stset (Rx.cel Rx.none_) (Rx.cel Rx.none_) rfl rfl (Rx.cel_size _) (Rx.cel_one _) (Rx.cel_size _) (by simp [Act.eval, Act.put]) (by simp [Act.eval, Act.put]) hrow0 ?_
    refine hK _ _ ?_
    clear hK K
    refine wpAny_take (i := 3) (v := ?_) rfl (by kernel_rfl) (by kernel_rfl) (by kernel_rfl) (fun _ _ _ h => h) (Or.inl ⟨by rfl, ?_⟩) ?_
    rotate_left
    · (intro w9; go_simp; try with_reducible rfl)
    refine wpAny_done (by kernel_rfl) ?_ _
    go_simp
    go_wp2_with fail
    ((try simp only [Exit.inBlock, Exit.then]); refine bodyPost_ret (Rc.ret_set3 rfl _ ?_ (Rc.row_setRow hrow0 _) (Rx.cel_size _)) rfl ?_; (focus simp); simp only [Array.getD_eq_getD_getElem?])
    have hnn := HN0.out
    have hd : Rc.Did w b v ⟨s, i + 0, d, er, g, L⟩ v ((w0.drewN nq).drew) := HD0.out.drewN (nq + 1)
    exact ⟨0, Rx.none_, false, 0, rfl, Rc.Did.low HAW.out hd (Rc.below_setRow (Below.refl _ _) (by omega) _), by show i + 0 ≤ s.length; omega, fun e => by cases e⟩
end Go.Proofs.Ytelbabgkpflckaa
