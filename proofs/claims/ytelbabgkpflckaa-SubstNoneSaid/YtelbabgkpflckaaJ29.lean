/-
  RcItm: CONTRACTS: chapter 12, the document's Compile: sixAt, item.
-/
import Derived.Test.YtelbabgkpflckaaJ28

set_option linter.unusedSimpArgs false
set_option linter.unusedVariables false
namespace Go.Proofs.Ytelbabgkpflckaa
open Go.RowKit Go.Sort
open Me
open Pk

namespace Rc
/-- Some yes or no. -/
def BoolR (w : World) (e : Ending) (w' : World) : Prop := (∃ ok, e = .returned (.bool ok)) ∧ Below w.heap.size w w'
end Rc

set_option maxRecDepth 100000 in
set_option maxHeartbeats 8000000 in
theorem sixAt_any {w : World} {b : Nat} {v : Value} {r : Rc.Rr} (h : Rc.At w b v r) (hl : r.s.length ≤ 1000000) (k : Nat) (hk : k ≤ r.s.length) :
    Calls Try.prog 76 #[.pointer (some ⟨b, 0, none⟩), .int .i64 (k : Int)] w (Rc.BoolR w) := by
  have hbl := h.lt
  obtain ⟨s, i, d, er, g, L⟩ := r
  have c0 : w.cell? ⟨b, 0, none⟩ = some (.string ⟨s.toArray⟩) := h.c0
  have hl : s.length ≤ 1000000 := hl
  have hk : k ≤ s.length := hk
  have hk0 : (0 : Int) ≤ (k : Int) := by omega
  have hk1 : IntKind.i64.wrap ((k : Int) + 1) = (k : Int) + 1 := by rw [IntKind.wrap_i64]; omega
  by_cases h1 : k + 1 < s.length
  · have h1J : ¬ (s.length : Int) ≤ (k : Int) + 1 := by omega
    obtain ⟨c, hc⟩ : ∃ c, s[k]? = some c := ⟨_, List.getElem?_eq_getElem (by omega)⟩
    obtain ⟨z0, g0⟩ := Rc.byte_at hc
    by_cases h92 : c = 92
    · have hcI : ((c.toNat : Int) = 92) = True := by rw [h92]; simp
      have hcB : ((c.toNat : Int) != 92) = false := by rw [h92]; rfl
      obtain ⟨c', hc'⟩ : ∃ c', s[k + 1]? = some c' := ⟨_, List.getElem?_eq_getElem h1⟩
      obtain ⟨z1, g1⟩ := Rc.byte_at hc'
      have HSX := Lib.hid fun W => six_any c' W
      clear hc hc' h92 h
      go_enter Try.func76, Try.ntmps76
      go_wp2_with first
        | (go_at_call 77; go_must (refine (HSX.out _).mono ?_; rintro e w2 ⟨⟨m, ok, rfl⟩, hb2⟩; have HB2 : Hid (Below w.heap.size w ((w2.alloc (.cells Try.zeroCells125 125)).setRow w2.heap.size (Rx.cel m))) := Lib.hid (Rc.below_setRow (hb2.alloc hb2.size _) hb2.size _); have HM0 : Hid (RowAt (w2.alloc (.cells Try.zeroCells125 125)) w2.heap.size 125 (Rx.cel Rx.none_)) := Lib.hid (by rw [← z_b256]; exact RowAt.new w2 _ _); clear hb2))
        | ((with_reducible refine Rc.stset (Rx.cel m) (Rx.cel Rx.none_) (Rx.cel_size _) (Rx.cel_one _) (Rx.cel_size _) ?_ ?_ (HM0.out) ?_); (focus simp [Act.eval, Act.put]); (focus simp [Act.eval, Act.put]))
      go_ret
      exact ⟨⟨_, rfl⟩, HB2.out⟩
    · have hcI : ¬ (c.toNat : Int) = 92 := fun e => h92 (UInt8.toNat_inj.1 (by show c.toNat = 92; omega))
      have hcB : ((c.toNat : Int) != 92) = true := by simpa using hcI
      clear hc h
      go_enter Try.func76, Try.ntmps76
      go_wp2_with fail
      go_ret
      exact ⟨⟨_, rfl⟩, Below.refl _ _⟩
  · have h1J : (s.length : Int) ≤ (k : Int) + 1 := by omega
    clear h
    go_enter Try.func76, Try.ntmps76
    go_wp2_with fail
    go_ret
    exact ⟨⟨_, rfl⟩, Below.refl _ _⟩

set_option maxRecDepth 100000 in
set_option maxHeartbeats 8000000 in
theorem item_any {w : World} {b : Nat} {v : Value} {r : Rc.Rr} (h : Rc.At w b v r) (hl : r.s.length ≤ 1000000) (ha : r.at_ ≤ r.s.length) :
    Calls Try.prog 75 #[.pointer (some ⟨b, 0, none⟩)] w (Rc.StrR w b v r) := by
  obtain ⟨w0, hw0⟩ : ∃ w0, w0 = (w.alloc (.cells Try.zeroCells125 125)).alloc (.cells Try.zeroCells125 125) := ⟨_, rfl⟩
  obtain ⟨n0, hn0⟩ : ∃ n0, n0 = w.heap.size := ⟨_, rfl⟩
  have hbl := h.lt
  have HB0 : Hid (Below w.heap.size w w0) := Lib.hid (by rw [hw0]; exact ((Below.refl _ _).alloc (Nat.le_refl _) _).alloc (by simp) _)
  have HR0 : Hid (RowAt w0 n0 125 (Rx.cel Rx.none_)) := Lib.hid (by rw [hw0, ← z_b256, hn0]; exact (RowAt.new w _ _).alloc _)
  have HR1 : Hid (RowAt w0 (n0 + 1) 125 (Rx.cel Rx.none_)) := Lib.hid (by rw [hw0, ← z_b256, hn0]; exact RowAt.new' (by simp))
  have HD0 := Lib.hid ((Rc.Did.refl h).on HB0.out)
  have HAW := Lib.hid h
  obtain ⟨s, i, d, er, g, L⟩ := r
  have c0 : w0.cell? ⟨b, 0, none⟩ = some (.string ⟨s.toArray⟩) := HD0.out.at_.c0
  have c1 : w0.cell? ⟨b, 1, none⟩ = some (.int .i64 (i : Int)) := HD0.out.at_.c1
  have f1 := HD0.out.at_.fz 1
  have hbl0 := HD0.out.at_.lt
  have hl : s.length ≤ 1000000 := hl
  have ha : i ≤ s.length := ha
  obtain ⟨kg1, kg2⟩ := Pk.kgrown2 w0
  have HN0 := Lib.hid hn0
  have hi0 : (0 : Int) ≤ (i : Int) := by omega
  clear h
  by_cases h1 : i < s.length
  · have h1J : ¬ (s.length : Int) ≤ (i : Int) := by omega
    obtain ⟨c, hc⟩ : ∃ c, s[i]? = some c := ⟨_, List.getElem?_eq_getElem h1⟩
    obtain ⟨z0, g0⟩ := Rc.byte_at hc
    obtain ⟨i1, hi1⟩ : ∃ i1 : Nat, i1 = i + 1 := ⟨_, rfl⟩
    have hwi : IntKind.i64.wrap ((i : Int) + 1) = (i1 : Int) := by rw [IntKind.wrap_i64]; omega
    have hwj : IntKind.i64.wrap ((i1 : Int) - 1) = (i : Int) := by rw [IntKind.wrap_i64]; omega
    have HI1 := Lib.hid hi1
    by_cases h92 : c = 92
    · have hcI : ((c.toNat : Int) = 92) = True := by rw [h92]; simp
      have hcB : ((c.toNat : Int) == 92) = true := by rw [h92]; rfl
      clear hc h92 hi1
      go_enter Try.func75, Try.ntmps75
      go_wp2_with fail
      rw [← hw0, ← hn0]
      clear hw0 hn0
      go_quiet (fail)
      revert nq
      intro nq1
      go_wp2_with fail
      go_quiet (fail)
      go_wp2_with fail
      have HDq := Lib.hid (HD0.out.drewN (nq1 + nq))
      have HR0q : Hid (RowAt (w0.drewN (nq1 + nq)) n0 125 (Rx.cel Rx.none_)) := Lib.hid (HR0.out.drewN _)
      generalize w0.drewN (nq1 + nq) = wq at *
      go_at_call 73
      refine (stroke_any HDq.out.at_ hl h1).mono ?_
      rintro e w2 ⟨x, m, ok, n, rfl, hd, hn, hk⟩
      have HD2 := Lib.hid hd
      have HR02 : Hid (RowAt w2 n0 125 (Rx.cel Rx.none_)) := Lib.hid (HD2.out.row HR0q.out (by have := HN0.out; omega) (fun e => by have := (HAW.out.olt n0 e).2; have := HN0.out; omega))
      go_wp2_with ((with_reducible refine Rc.stset (Rx.cel m) (Rx.cel Rx.none_) (Rx.cel_size _) (Rx.cel_one _) (Rx.cel_size _) ?_ ?_ (HR02.out) ?_); (focus simp [Act.eval, Act.put]); (focus simp [Act.eval, Act.put]))
      ((try simp only [Exit.inBlock, Exit.then]); refine bodyPost_ret (Rc.ret_set3 rfl _ ?_ (Rc.row_setRow HR02.out _) (Rx.cel_size _)) rfl ?_; (focus simp); simp only [Array.getD_eq_getD_getElem?])
      have hnn := HN0.out
      exact ⟨x, m, ok, n, rfl, Rc.Did.low HAW.out (HDq.out.trans HD2.out) (Rc.below_setRow (Below.refl _ _) (by omega) _), hn, hk⟩
    · have hcI : ¬ (c.toNat : Int) = 92 := fun e => h92 (UInt8.toNat_inj.1 (by show c.toNat = 92; omega))
      have hcB : ((c.toNat : Int) == 92) = false := by simpa using hcI
      clear hc hi1
      go_enter Try.func75, Try.ntmps75
      go_wp2_with fail
      rw [← hw0, ← hn0]
      clear hw0 hn0
      go_quiet (fail)
      revert nq
      intro nq1
      go_wp2_with fail
      go_quiet (fail)
      go_wp2_with fail
      have HD1 := Lib.hid ((HD0.out.drewN (nq1 + nq)).set1 i1)
      have HR0s : Hid (RowAt ((w0.drewN (nq1 + nq)).setCell ⟨b, 1, none⟩ (.int .i64 (i1 : Int))) n0 125 (Rx.cel Rx.none_)) := Lib.hid ((HR0.out.drewN _).far (by show n0 ≠ b; have := HN0.out; omega) _)
      have HR1s : Hid (RowAt ((w0.drewN (nq1 + nq)).setCell ⟨b, 1, none⟩ (.int .i64 (i1 : Int))) (n0 + 1) 125 (Rx.cel Rx.none_)) := Lib.hid ((HR1.out.drewN _).far (by show n0 + 1 ≠ b; have := HN0.out; omega) _)
      generalize (w0.drewN (nq1 + nq)).setCell ⟨b, 1, none⟩ (.int .i64 (i1 : Int)) = wx at *
      have e0 : wx.cell? ⟨b, 0, none⟩ = some (.string ⟨s.toArray⟩) := HD1.out.at_.c0
      have e1 : wx.cell? ⟨b, 1, none⟩ = some (.int .i64 (i1 : Int)) := HD1.out.at_.c1
      have hr0 : RowAt wx.drew n0 125 (Rx.cel Rx.none_) := HR0s.out
      have hr1 : RowAt wx.drew (n0 + 1) 125 (Rx.cel Rx.none_) := HR1s.out
      refine wp_region_any (by kernel_rfl) ?_
      change wpAny _ _ _ _ _ _ _ (World.drew _)
      refine wpAny_take (i := 0) (v := ?_) rfl (by kernel_rfl) (by kernel_rfl) (by kernel_rfl) (fun _ _ _ h => h) (Or.inl ⟨by rfl, ?_⟩) ?_
      rotate_left
      · (intro w9; go_simp; try with_reducible rfl)
      refine wpAny_take (i := 1) (v := ?_) rfl (by kernel_rfl) (by kernel_rfl) (by kernel_rfl) (fun _ _ _ h => h) (Or.inl ⟨by rfl, ?_⟩) ?_
      rotate_left
      · (intro w9; go_simp; try with_reducible rfl)
      refine wpAny_take (i := 2) (v := ?_) rfl (by kernel_rfl) (by kernel_rfl) (by kernel_rfl) (fun _ _ _ h => h) (Or.inl ⟨by rfl, ?_⟩) ?_
      rotate_left
      · (intro w9; go_simp; try with_reducible rfl)
      refine wpAny_take (i := 4) (v := ?_) rfl (by kernel_rfl) (by kernel_rfl) (by kernel_rfl) (fun _ _ _ h => h) (Or.inl ⟨by rfl, ?_⟩) ?_
      rotate_left
      · (intro w9; go_simp; try with_reducible rfl)
      refine wpAny_take (i := 5) (v := ?_) rfl (by kernel_rfl) (by kernel_rfl) (by kernel_rfl) (fun _ _ _ h => h) (Or.inl ⟨by rfl, ?_⟩) ?_
      rotate_left
      · (intro w9; go_simp; try with_reducible rfl)
      refine wpAny_take (i := 6) (v := ?_) rfl (by kernel_rfl) (by kernel_rfl) (by kernel_rfl) (fun _ _ _ h => h) (Or.inl ⟨by rfl, ?_⟩) ?_
      rotate_left
      · (intro w9; go_simp; try with_reducible rfl)
      refine wpAny_ready (rs := [3, 7, 10]) (by kernel_rfl) (by simp) ?_
      refine AllReady.cons rfl (fun K hK => ?_) ?_
      · go_simp
        refine hK _ _ ?_
        clear hK K
        refine wpAny_ready (rs := [7, 10]) (by kernel_rfl) (by simp) ?_
        refine AllReady.cons rfl (fun K hK => ?_) ?_
        · go_simp
          refine hK _ _ ?_
          clear hK K
          refine wpAny_take (i := 8) (v := ?_) rfl (by kernel_rfl) (by kernel_rfl) (by kernel_rfl) (fun _ _ _ h => h) (Or.inl ⟨by rfl, ?_⟩) ?_
          rotate_left
          · (intro w9; go_simp; try with_reducible rfl)
          refine wpAny_ready (rs := [9, 10]) (by kernel_rfl) (by simp) ?_
          refine AllReady.cons rfl (fun K hK => ?_) ?_
          · go_simp
            refine hK _ _ ?_
            clear hK K
            refine wpAny_take (i := 11) (v := ?_) rfl (by kernel_rfl) (by kernel_rfl) (by kernel_rfl) (fun _ _ _ h => h) (Or.inl ⟨by rfl, ?_⟩) ?_
            rotate_left
            · (intro w9; go_simp; try with_reducible rfl)
            refine wpAny_ready (rs := [10]) (by kernel_rfl) (by simp) ?_
            refine AllReady.cons rfl (fun K hK => ?_) AllReady.nil
            refine Rc.step_ldset (Rx.cel Rx.none_) rfl rfl (Rx.cel_size _) (by simp [Act.eval, Act.put]) hr1 ?_
            refine hK _ _ ?_
            clear hK K
            refine wpAny_ready (rs := [12]) (by kernel_rfl) (by simp) ?_
            refine AllReady.cons rfl (fun K hK => ?_) AllReady.nil
            refine Rc.step_stset (Rx.cel Rx.none_) (Rx.cel Rx.none_) rfl rfl (Rx.cel_size _) (Rx.cel_one _) (Rx.cel_size _) (by simp [Act.eval, Act.put]) (by simp [Act.eval, Act.put]) hr0 ?_
            refine hK _ _ ?_
            clear hK K
            refine wpAny_take (i := 13) (v := ?_) rfl (by kernel_rfl) (by kernel_rfl) (by kernel_rfl) (fun _ _ _ h => h) (Or.inl ⟨by rfl, ?_⟩) ?_
            rotate_left
            · (intro w9; go_simp; try with_reducible rfl)
            refine wpAny_done (by kernel_rfl) ?_ _
            go_simp
            go_wp2_with fail
            ((try simp only [Exit.inBlock, Exit.then]); refine bodyPost_ret (Rc.ret_set3 rfl _ ?_ (Rc.row_setRow hr0 _) (Rx.cel_size _)) rfl ?_; (focus simp); simp only [Array.getD_eq_getD_getElem?])
            have hnn := HN0.out
            have h2 := HI1.out
            refine ⟨c, Rx.none_, true, 1, rfl, ?_, by show i + 1 ≤ s.length; omega, fun _ => Nat.le_refl _⟩
            show Rc.Did w b v ⟨s, i + 1, d, er, g, L⟩ v _
            rw [← h2]
            exact Rc.Did.low HAW.out (HD1.out.drewN 1) (Rc.below_setRow (Below.refl _ _) (by omega) _)
          refine AllReady.cons rfl (fun K hK => ?_) ?_
          · refine Rc.step_ldset (Rx.cel Rx.none_) rfl rfl (Rx.cel_size _) (by simp [Act.eval, Act.put]) hr1 ?_
            refine hK _ _ ?_
            clear hK K
            refine wpAny_ready (rs := [9]) (by kernel_rfl) (by simp) ?_
            refine AllReady.cons rfl (fun K hK => ?_) AllReady.nil
            go_simp
            refine hK _ _ ?_
            clear hK K
            refine wpAny_take (i := 11) (v := ?_) rfl (by kernel_rfl) (by kernel_rfl) (by kernel_rfl) (fun _ _ _ h => h) (Or.inl ⟨by rfl, ?_⟩) ?_
            rotate_left
            · (intro w9; go_simp; try with_reducible rfl)
            refine wpAny_ready (rs := [12]) (by kernel_rfl) (by simp) ?_
            refine AllReady.cons rfl (fun K hK => ?_) AllReady.nil
            refine Rc.step_stset (Rx.cel Rx.none_) (Rx.cel Rx.none_) rfl rfl (Rx.cel_size _) (Rx.cel_one _) (Rx.cel_size _) (by simp [Act.eval, Act.put]) (by simp [Act.eval, Act.put]) hr0 ?_
            refine hK _ _ ?_
            clear hK K
            refine wpAny_take (i := 13) (v := ?_) rfl (by kernel_rfl) (by kernel_rfl) (by kernel_rfl) (fun _ _ _ h => h) (Or.inl ⟨by rfl, ?_⟩) ?_
            rotate_left
            · (intro w9; go_simp; try with_reducible rfl)
            refine wpAny_done (by kernel_rfl) ?_ _
            go_simp
            go_wp2_with fail
            ((try simp only [Exit.inBlock, Exit.then]); refine bodyPost_ret (Rc.ret_set3 rfl _ ?_ (Rc.row_setRow hr0 _) (Rx.cel_size _)) rfl ?_; (focus simp); simp only [Array.getD_eq_getD_getElem?])
            have hnn := HN0.out
            have h2 := HI1.out
            refine ⟨c, Rx.none_, true, 1, rfl, ?_, by show i + 1 ≤ s.length; omega, fun _ => Nat.le_refl _⟩
            show Rc.Did w b v ⟨s, i + 1, d, er, g, L⟩ v _
            rw [← h2]
            exact Rc.Did.low HAW.out (HD1.out.drewN 1) (Rc.below_setRow (Below.refl _ _) (by omega) _)
          exact AllReady.nil
        refine AllReady.cons rfl (fun K hK => ?_) ?_
        · refine Rc.step_ldset (Rx.cel Rx.none_) rfl rfl (Rx.cel_size _) (by simp [Act.eval, Act.put]) hr1 ?_
          refine hK _ _ ?_
          clear hK K
          refine wpAny_ready (rs := [7]) (by kernel_rfl) (by simp) ?_
          refine AllReady.cons rfl (fun K hK => ?_) AllReady.nil
          go_simp
          refine hK _ _ ?_
          clear hK K
          refine wpAny_take (i := 8) (v := ?_) rfl (by kernel_rfl) (by kernel_rfl) (by kernel_rfl) (fun _ _ _ h => h) (Or.inl ⟨by rfl, ?_⟩) ?_
          rotate_left
          · (intro w9; go_simp; try with_reducible rfl)
          refine wpAny_ready (rs := [9]) (by kernel_rfl) (by simp) ?_
          refine AllReady.cons rfl (fun K hK => ?_) AllReady.nil
          go_simp
          refine hK _ _ ?_
          clear hK K
          refine wpAny_take (i := 11) (v := ?_) rfl (by kernel_rfl) (by kernel_rfl) (by kernel_rfl) (fun _ _ _ h => h) (Or.inl ⟨by rfl, ?_⟩) ?_
          rotate_left
          · (intro w9; go_simp; try with_reducible rfl)
          refine wpAny_ready (rs := [12]) (by kernel_rfl) (by simp) ?_
          refine AllReady.cons rfl (fun K hK => ?_) AllReady.nil
          refine Rc.step_stset (Rx.cel Rx.none_) (Rx.cel Rx.none_) rfl rfl (Rx.cel_size _) (Rx.cel_one _) (Rx.cel_size _) (by simp [Act.eval, Act.put]) (by simp [Act.eval, Act.put]) hr0 ?_
          refine hK _ _ ?_
          clear hK K
          refine wpAny_take (i := 13) (v := ?_) rfl (by kernel_rfl) (by kernel_rfl) (by kernel_rfl) (fun _ _ _ h => h) (Or.inl ⟨by rfl, ?_⟩) ?_
          rotate_left
          · (intro w9; go_simp; try with_reducible rfl)
          refine wpAny_done (by kernel_rfl) ?_ _
          go_simp
          go_wp2_with fail
          ((try simp only [Exit.inBlock, Exit.then]); refine bodyPost_ret (Rc.ret_set3 rfl _ ?_ (Rc.row_setRow hr0 _) (Rx.cel_size _)) rfl ?_; (focus simp); simp only [Array.getD_eq_getD_getElem?])
          have hnn := HN0.out
          have h2 := HI1.out
          refine ⟨c, Rx.none_, true, 1, rfl, ?_, by show i + 1 ≤ s.length; omega, fun _ => Nat.le_refl _⟩
          show Rc.Did w b v ⟨s, i + 1, d, er, g, L⟩ v _
          rw [← h2]
          exact Rc.Did.low HAW.out (HD1.out.drewN 1) (Rc.below_setRow (Below.refl _ _) (by omega) _)
        exact AllReady.nil
      refine AllReady.cons rfl (fun K hK => ?_) ?_
      · go_simp
        refine hK _ _ ?_
        clear hK K
        refine wpAny_take (i := 8) (v := ?_) rfl (by kernel_rfl) (by kernel_rfl) (by kernel_rfl) (fun _ _ _ h => h) (Or.inl ⟨by rfl, ?_⟩) ?_
        rotate_left
        · (intro w9; go_simp; try with_reducible rfl)
        refine wpAny_ready (rs := [3, 10]) (by kernel_rfl) (by simp) ?_
        refine AllReady.cons rfl (fun K hK => ?_) ?_
        · go_simp
          refine hK _ _ ?_
          clear hK K
          refine wpAny_ready (rs := [9, 10]) (by kernel_rfl) (by simp) ?_
          refine AllReady.cons rfl (fun K hK => ?_) ?_
          · go_simp
            refine hK _ _ ?_
            clear hK K
            refine wpAny_take (i := 11) (v := ?_) rfl (by kernel_rfl) (by kernel_rfl) (by kernel_rfl) (fun _ _ _ h => h) (Or.inl ⟨by rfl, ?_⟩) ?_
            rotate_left
            · (intro w9; go_simp; try with_reducible rfl)
            refine wpAny_ready (rs := [10]) (by kernel_rfl) (by simp) ?_
            refine AllReady.cons rfl (fun K hK => ?_) AllReady.nil
            refine Rc.step_ldset (Rx.cel Rx.none_) rfl rfl (Rx.cel_size _) (by simp [Act.eval, Act.put]) hr1 ?_
            refine hK _ _ ?_
            clear hK K
            refine wpAny_ready (rs := [12]) (by kernel_rfl) (by simp) ?_
            refine AllReady.cons rfl (fun K hK => ?_) AllReady.nil
            refine Rc.step_stset (Rx.cel Rx.none_) (Rx.cel Rx.none_) rfl rfl (Rx.cel_size _) (Rx.cel_one _) (Rx.cel_size _) (by simp [Act.eval, Act.put]) (by simp [Act.eval, Act.put]) hr0 ?_
            refine hK _ _ ?_
            clear hK K
            refine wpAny_take (i := 13) (v := ?_) rfl (by kernel_rfl) (by kernel_rfl) (by kernel_rfl) (fun _ _ _ h => h) (Or.inl ⟨by rfl, ?_⟩) ?_
            rotate_left
            · (intro w9; go_simp; try with_reducible rfl)
            refine wpAny_done (by kernel_rfl) ?_ _
            go_simp
            go_wp2_with fail
            ((try simp only [Exit.inBlock, Exit.then]); refine bodyPost_ret (Rc.ret_set3 rfl _ ?_ (Rc.row_setRow hr0 _) (Rx.cel_size _)) rfl ?_; (focus simp); simp only [Array.getD_eq_getD_getElem?])
            have hnn := HN0.out
            have h2 := HI1.out
            refine ⟨c, Rx.none_, true, 1, rfl, ?_, by show i + 1 ≤ s.length; omega, fun _ => Nat.le_refl _⟩
            show Rc.Did w b v ⟨s, i + 1, d, er, g, L⟩ v _
            rw [← h2]
            exact Rc.Did.low HAW.out (HD1.out.drewN 1) (Rc.below_setRow (Below.refl _ _) (by omega) _)
          refine AllReady.cons rfl (fun K hK => ?_) ?_
          · refine Rc.step_ldset (Rx.cel Rx.none_) rfl rfl (Rx.cel_size _) (by simp [Act.eval, Act.put]) hr1 ?_
            refine hK _ _ ?_
            clear hK K
            refine wpAny_ready (rs := [9]) (by kernel_rfl) (by simp) ?_
            refine AllReady.cons rfl (fun K hK => ?_) AllReady.nil
            go_simp
            refine hK _ _ ?_
            clear hK K
            refine wpAny_take (i := 11) (v := ?_) rfl (by kernel_rfl) (by kernel_rfl) (by kernel_rfl) (fun _ _ _ h => h) (Or.inl ⟨by rfl, ?_⟩) ?_
            rotate_left
            · (intro w9; go_simp; try with_reducible rfl)
            refine wpAny_ready (rs := [12]) (by kernel_rfl) (by simp) ?_
            refine AllReady.cons rfl (fun K hK => ?_) AllReady.nil
            refine Rc.step_stset (Rx.cel Rx.none_) (Rx.cel Rx.none_) rfl rfl (Rx.cel_size _) (Rx.cel_one _) (Rx.cel_size _) (by simp [Act.eval, Act.put]) (by simp [Act.eval, Act.put]) hr0 ?_
            refine hK _ _ ?_
            clear hK K
            refine wpAny_take (i := 13) (v := ?_) rfl (by kernel_rfl) (by kernel_rfl) (by kernel_rfl) (fun _ _ _ h => h) (Or.inl ⟨by rfl, ?_⟩) ?_
            rotate_left
            · (intro w9; go_simp; try with_reducible rfl)
            refine wpAny_done (by kernel_rfl) ?_ _
            go_simp
            go_wp2_with fail
            ((try simp only [Exit.inBlock, Exit.then]); refine bodyPost_ret (Rc.ret_set3 rfl _ ?_ (Rc.row_setRow hr0 _) (Rx.cel_size _)) rfl ?_; (focus simp); simp only [Array.getD_eq_getD_getElem?])
            have hnn := HN0.out
            have h2 := HI1.out
            refine ⟨c, Rx.none_, true, 1, rfl, ?_, by show i + 1 ≤ s.length; omega, fun _ => Nat.le_refl _⟩
            show Rc.Did w b v ⟨s, i + 1, d, er, g, L⟩ v _
            rw [← h2]
            exact Rc.Did.low HAW.out (HD1.out.drewN 1) (Rc.below_setRow (Below.refl _ _) (by omega) _)
          exact AllReady.nil
        refine AllReady.cons rfl (fun K hK => ?_) ?_
        · refine Rc.step_ldset (Rx.cel Rx.none_) rfl rfl (Rx.cel_size _) (by simp [Act.eval, Act.put]) hr1 ?_
          refine hK _ _ ?_
          clear hK K
          refine wpAny_ready (rs := [3]) (by kernel_rfl) (by simp) ?_
          refine AllReady.cons rfl (fun K hK => ?_) AllReady.nil
          go_simp
          refine hK _ _ ?_
          clear hK K
          refine wpAny_ready (rs := [9]) (by kernel_rfl) (by simp) ?_
          refine AllReady.cons rfl (fun K hK => ?_) AllReady.nil
          go_simp
          refine hK _ _ ?_
          clear hK K
          refine wpAny_take (i := 11) (v := ?_) rfl (by kernel_rfl) (by kernel_rfl) (by kernel_rfl) (fun _ _ _ h => h) (Or.inl ⟨by rfl, ?_⟩) ?_
          rotate_left
          · (intro w9; go_simp; try with_reducible rfl)
          refine wpAny_ready (rs := [12]) (by kernel_rfl) (by simp) ?_
          refine AllReady.cons rfl (fun K hK => ?_) AllReady.nil
          refine Rc.step_stset (Rx.cel Rx.none_) (Rx.cel Rx.none_) rfl rfl (Rx.cel_size _) (Rx.cel_one _) (Rx.cel_size _) (by simp [Act.eval, Act.put]) (by simp [Act.eval, Act.put]) hr0 ?_
          refine hK _ _ ?_
          clear hK K
          refine wpAny_take (i := 13) (v := ?_) rfl (by kernel_rfl) (by kernel_rfl) (by kernel_rfl) (fun _ _ _ h => h) (Or.inl ⟨by rfl, ?_⟩) ?_
          rotate_left
          · (intro w9; go_simp; try with_reducible rfl)
          refine wpAny_done (by kernel_rfl) ?_ _
          go_simp
          go_wp2_with fail
          ((try simp only [Exit.inBlock, Exit.then]); refine bodyPost_ret (Rc.ret_set3 rfl _ ?_ (Rc.row_setRow hr0 _) (Rx.cel_size _)) rfl ?_; (focus simp); simp only [Array.getD_eq_getD_getElem?])
          have hnn := HN0.out
          have h2 := HI1.out
          refine ⟨c, Rx.none_, true, 1, rfl, ?_, by show i + 1 ≤ s.length; omega, fun _ => Nat.le_refl _⟩
          show Rc.Did w b v ⟨s, i + 1, d, er, g, L⟩ v _
          rw [← h2]
          exact Rc.Did.low HAW.out (HD1.out.drewN 1) (Rc.below_setRow (Below.refl _ _) (by omega) _)
        exact AllReady.nil
      refine AllReady.cons rfl (fun K hK => ?_) ?_
      · refine Rc.step_ldset (Rx.cel Rx.none_) rfl rfl (Rx.cel_size _) (by simp [Act.eval, Act.put]) hr1 ?_
        refine hK _ _ ?_
        clear hK K
        refine wpAny_ready (rs := [3, 7]) (by kernel_rfl) (by simp) ?_
        refine AllReady.cons rfl (fun K hK => ?_) ?_
        · go_simp
          refine hK _ _ ?_
          clear hK K
          refine wpAny_ready (rs := [7]) (by kernel_rfl) (by simp) ?_
          refine AllReady.cons rfl (fun K hK => ?_) AllReady.nil
          go_simp
          refine hK _ _ ?_
          clear hK K
          refine wpAny_take (i := 8) (v := ?_) rfl (by kernel_rfl) (by kernel_rfl) (by kernel_rfl) (fun _ _ _ h => h) (Or.inl ⟨by rfl, ?_⟩) ?_
          rotate_left
          · (intro w9; go_simp; try with_reducible rfl)
          refine wpAny_ready (rs := [9]) (by kernel_rfl) (by simp) ?_
          refine AllReady.cons rfl (fun K hK => ?_) AllReady.nil
          go_simp
          refine hK _ _ ?_
          clear hK K
          refine wpAny_take (i := 11) (v := ?_) rfl (by kernel_rfl) (by kernel_rfl) (by kernel_rfl) (fun _ _ _ h => h) (Or.inl ⟨by rfl, ?_⟩) ?_
          rotate_left
          · (intro w9; go_simp; try with_reducible rfl)
          refine wpAny_ready (rs := [12]) (by kernel_rfl) (by simp) ?_
          refine AllReady.cons rfl (fun K hK => ?_) AllReady.nil
          refine Rc.step_stset (Rx.cel Rx.none_) (Rx.cel Rx.none_) rfl rfl (Rx.cel_size _) (Rx.cel_one _) (Rx.cel_size _) (by simp [Act.eval, Act.put]) (by simp [Act.eval, Act.put]) hr0 ?_
          refine hK _ _ ?_
          clear hK K
          refine wpAny_take (i := 13) (v := ?_) rfl (by kernel_rfl) (by kernel_rfl) (by kernel_rfl) (fun _ _ _ h => h) (Or.inl ⟨by rfl, ?_⟩) ?_
          rotate_left
          · (intro w9; go_simp; try with_reducible rfl)
          refine wpAny_done (by kernel_rfl) ?_ _
          go_simp
          go_wp2_with fail
          ((try simp only [Exit.inBlock, Exit.then]); refine bodyPost_ret (Rc.ret_set3 rfl _ ?_ (Rc.row_setRow hr0 _) (Rx.cel_size _)) rfl ?_; (focus simp); simp only [Array.getD_eq_getD_getElem?])
          have hnn := HN0.out
          have h2 := HI1.out
          refine ⟨c, Rx.none_, true, 1, rfl, ?_, by show i + 1 ≤ s.length; omega, fun _ => Nat.le_refl _⟩
          show Rc.Did w b v ⟨s, i + 1, d, er, g, L⟩ v _
          rw [← h2]
          exact Rc.Did.low HAW.out (HD1.out.drewN 1) (Rc.below_setRow (Below.refl _ _) (by omega) _)
        refine AllReady.cons rfl (fun K hK => ?_) ?_
        · go_simp
          refine hK _ _ ?_
          clear hK K
          refine wpAny_take (i := 8) (v := ?_) rfl (by kernel_rfl) (by kernel_rfl) (by kernel_rfl) (fun _ _ _ h => h) (Or.inl ⟨by rfl, ?_⟩) ?_
          rotate_left
          · (intro w9; go_simp; try with_reducible rfl)
          refine wpAny_ready (rs := [3]) (by kernel_rfl) (by simp) ?_
          refine AllReady.cons rfl (fun K hK => ?_) AllReady.nil
          go_simp
          refine hK _ _ ?_
          clear hK K
          refine wpAny_ready (rs := [9]) (by kernel_rfl) (by simp) ?_
          refine AllReady.cons rfl (fun K hK => ?_) AllReady.nil
          go_simp
          refine hK _ _ ?_
          clear hK K
          refine wpAny_take (i := 11) (v := ?_) rfl (by kernel_rfl) (by kernel_rfl) (by kernel_rfl) (fun _ _ _ h => h) (Or.inl ⟨by rfl, ?_⟩) ?_
          rotate_left
          · (intro w9; go_simp; try with_reducible rfl)
          refine wpAny_ready (rs := [12]) (by kernel_rfl) (by simp) ?_
          refine AllReady.cons rfl (fun K hK => ?_) AllReady.nil
          refine Rc.step_stset (Rx.cel Rx.none_) (Rx.cel Rx.none_) rfl rfl (Rx.cel_size _) (Rx.cel_one _) (Rx.cel_size _) (by simp [Act.eval, Act.put]) (by simp [Act.eval, Act.put]) hr0 ?_
          refine hK _ _ ?_
          clear hK K
          refine wpAny_take (i := 13) (v := ?_) rfl (by kernel_rfl) (by kernel_rfl) (by kernel_rfl) (fun _ _ _ h => h) (Or.inl ⟨by rfl, ?_⟩) ?_
          rotate_left
          · (intro w9; go_simp; try with_reducible rfl)
          refine wpAny_done (by kernel_rfl) ?_ _
          go_simp
          go_wp2_with fail
          ((try simp only [Exit.inBlock, Exit.then]); refine bodyPost_ret (Rc.ret_set3 rfl _ ?_ (Rc.row_setRow hr0 _) (Rx.cel_size _)) rfl ?_; (focus simp); simp only [Array.getD_eq_getD_getElem?])
          have hnn := HN0.out
          have h2 := HI1.out
          refine ⟨c, Rx.none_, true, 1, rfl, ?_, by show i + 1 ≤ s.length; omega, fun _ => Nat.le_refl _⟩
          show Rc.Did w b v ⟨s, i + 1, d, er, g, L⟩ v _
          rw [← h2]
          exact Rc.Did.low HAW.out (HD1.out.drewN 1) (Rc.below_setRow (Below.refl _ _) (by omega) _)
        exact AllReady.nil
      exact AllReady.nil
  · have h1J : (s.length : Int) ≤ (i : Int) := by omega
    go_enter Try.func75, Try.ntmps75
    go_wp2_with fail
    rw [← hw0, ← hn0]
    clear hw0 hn0
    go_quiet (fail)
    have hrow1 : RowAt ((w0.drewN nq).drew) (n0 + 1) 125 (Rx.cel Rx.none_) := HR1.out
    have hr0 : RowAt ((w0.drewN nq).drew) n0 125 (Rx.cel Rx.none_) := HR0.out
    go_wp2_with fail
    refine wp_region_any (by kernel_rfl) ?_
    change wpAny _ _ _ _ _ _ _ (World.drew _)
    refine wpAny_take (i := 1) (v := ?_) rfl (by kernel_rfl) (by kernel_rfl) (by kernel_rfl) (fun _ _ _ h => h) (Or.inl ⟨by rfl, ?_⟩) ?_
    rotate_left
    · (intro w9; go_simp; try with_reducible rfl)
    refine wpAny_ready (rs := [0]) (by kernel_rfl) (by simp) ?_
    refine AllReady.cons rfl (fun K hK => ?_) AllReady.nil
    refine Rc.step_ldset (Rx.cel Rx.none_) rfl rfl (Rx.cel_size _) (by simp [Act.eval, Act.put]) hrow1 ?_
    refine hK _ _ ?_
    clear hK K
    refine wpAny_ready (rs := [2]) (by kernel_rfl) (by simp) ?_
    refine AllReady.cons rfl (fun K hK => ?_) AllReady.nil
    refine Rc.step_stset (Rx.cel Rx.none_) (Rx.cel Rx.none_) rfl rfl (Rx.cel_size _) (Rx.cel_one _) (Rx.cel_size _) (by simp [Act.eval, Act.put]) (by simp [Act.eval, Act.put]) hr0 ?_
    refine hK _ _ ?_
    clear hK K
    refine wpAny_take (i := 3) (v := ?_) rfl (by kernel_rfl) (by kernel_rfl) (by kernel_rfl) (fun _ _ _ h => h) (Or.inl ⟨by rfl, ?_⟩) ?_
    rotate_left
    · (intro w9; go_simp; try with_reducible rfl)
    refine wpAny_done (by kernel_rfl) ?_ _
    go_simp
    go_wp2_with fail
    ((try simp only [Exit.inBlock, Exit.then]); refine bodyPost_ret (Rc.ret_set3 rfl _ ?_ (Rc.row_setRow hr0 _) (Rx.cel_size _)) rfl ?_; (focus simp); simp only [Array.getD_eq_getD_getElem?])
    have hnn := HN0.out
    have hd : Rc.Did w b v ⟨s, i + 0, d, er, g, L⟩ v ((w0.drewN nq).drew) := HD0.out.drewN (nq + 1)
    exact ⟨0, Rx.none_, false, 0, rfl, Rc.Did.low HAW.out hd (Rc.below_setRow (Below.refl _ _) (by omega) _), by show i + 0 ≤ s.length; omega, fun e => by cases e⟩
end Go.Proofs.Ytelbabgkpflckaa
