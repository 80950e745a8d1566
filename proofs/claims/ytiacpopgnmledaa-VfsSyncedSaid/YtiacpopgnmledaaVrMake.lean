/-
  CONTRACTS: the document's own files as an object: Create.
-/
import Derived.Test.YtiacpopgnmledaaVrActs
namespace Go.Proofs.Ytiacpopgnmledaa
open Go.RowKit
open Me

set_option maxHeartbeats 1600000 in
theorem create_any {w : World} {G Gq : Nat → Prop} {fs : Nat} {lr : Option Nat} {S : Vf.Sv} {nv wv lv : Value} {ys : List Value} (h : Vf.At w G fs lr S nv wv lv ys) (n : List UInt8) (ps : List (List UInt8)) (pv : Value) (hp : Vf.Ps w Gq pv ps)
    (hl : S.now.length ≤ 1048576) (hll : S.l.length ≤ 1048576) (hu : Vf.used S.now ≤ 4294967296) (hr0 : 0 ≤ S.room) (hr1 : S.room ≤ 4294967296) (hpl : ps.length ≤ 1048576) (hpt : ps.flatten.length ≤ 4294967296) :
    Calls Try.prog 22 #[.pointer (some ⟨fs, 0, none⟩), .string ⟨n.toArray⟩, pv] w (Vf.Next w G fs lr (Vf.create S n ps.flatten)) := by
  have HRO := Lib.hid (rows_any ps pv Gq w hp hpl hpt)
  obtain ⟨Aq, cq, xq, rfl, _⟩ := hp
  have HFD : Hid (∀ W, Vf.At W G fs lr S nv wv lv ys → Calls Try.prog 50 #[nv, .string ⟨n.toArray⟩] W fun e w' => e = .returned (.int .i64 (Vf.ix S.now n)) ∧ W = w') := Lib.hid fun W hW => find_any S.now n nv G W hW.now hl
  have HIS := Lib.hid (is_any n)
  have HU : Hid (∀ W, Vf.At W G fs lr S nv wv lv ys → Calls Try.prog 33 #[.pointer (some ⟨fs, 0, none⟩)] W fun e w' => e = .returned (.int .i64 (Vf.used S.now : Int)) ∧ W = w') := Lib.hid fun W hW => used_any hW hl (by omega)
  have HD : Hid (∀ (W : World) (Gp : Nat → Prop) (bv : Value), Vf.At W G fs lr S nv wv lv ys → Bs W Gp bv ps.flatten → (∀ b, Gp b → b < W.heap.size ∧ b ≠ fs ∧ lr ≠ some b) → Calls Try.prog 51 #[.pointer (some ⟨fs, 0, none⟩), .agg #[.int .i64 1, .string ⟨n.toArray⟩, .int .i64 0, bv]] W (Vf.Done W G Gp fs lr S ⟨1, n, 0, ps.flatten⟩)) :=
    Lib.hid fun W Gp bv hW hb hGp => do_any hW ⟨1, n, 0, ps.flatten⟩ hb hGp hl hll (Lib.hid (fun h => by cases h)) (Lib.hid fun f hf => Nat.le_trans (Vf.used_mem hf) hu) (Nat.zero_le _)
  have HS : Hid (Vf.create S n ps.flatten = if Vf.is n = false then (S, 1) else if 0 ≤ Vf.ix S.now n then (S, 6) else if S.room - Vf.used S.now < ps.flatten.length then (S, 4) else (S.act ⟨1, n, 0, ps.flatten⟩, 0)) := Lib.hid rfl
  have H := Lib.hid h
  obtain ⟨A0, c00, xs0, hnv, _⟩ := h.now
  subst hnv
  have hfl := h.fsLt
  have HRW : Hid (∀ g, lr = some g → g < w.heap.size) := Lib.hid fun g hg => (h.own.lt g (h.row.trans hg)).2
  clear h
  obtain ⟨i1, i2⟩ := Vf.ix_bd S.now n
  cases hi : Vf.is n
  · rw [hi] at HIS HS
    have HR : Hid (Vf.create S n ps.flatten = (S, 1)) := Lib.hid (by rw [HS.out]; rfl)
    clear HS HD HU HFD
    generalize ps.flatten = b at *
    go_enter Try.func22, Try.ntmps22
    go_wp2_with (first | (go_at_call 48; (with_reducible refine (HRO.out).mono ?_); rintro e w' ⟨bv, rfl, ⟨A1, cc1, rfl, hc1, hcm1, hrd1⟩, hb⟩; have HW := Lib.hid (H.out.below hb)) | (go_at_call 49; ((with_reducible refine (HIS.out _).mono ?_); rintro e w' ⟨rfl, rfl⟩)))
    go_ret
    exact Vf.Next.no HW.out hb HR.out
  · rw [hi] at HIS HS
    by_cases hx : 0 ≤ Vf.ix S.now n
    · have HR : Hid (Vf.create S n ps.flatten = (S, 6)) := Lib.hid (by rw [HS.out]; simp [hx])
      clear HS HD HU
      generalize ps.flatten = b at *
      generalize Vf.ix S.now n = i at *
      go_enter Try.func22, Try.ntmps22
      go_wp2_with (first | (go_at_call 48; (with_reducible refine (HRO.out).mono ?_); rintro e w' ⟨bv, rfl, ⟨A1, cc1, rfl, hc1, hcm1, hrd1⟩, hb⟩; have HW := Lib.hid (H.out.below hb); obtain ⟨d0, d1, d2, d3, df⟩ := HW.out.cells; clear df) | (go_at_call 49; ((with_reducible refine (HIS.out _).mono ?_); rintro e w' ⟨rfl, rfl⟩)) | (go_at_call 50; ((with_reducible refine (HFD.out _ HW.out).mono ?_); rintro e w' ⟨rfl, rfl⟩)))
      go_ret
      exact Vf.Next.no HW.out hb HR.out
    · by_cases hm : S.room - Vf.used S.now < ps.flatten.length
      · have HR : Hid (Vf.create S n ps.flatten = (S, 4)) := Lib.hid (by rw [HS.out, if_neg (by simp), if_neg hx, if_pos hm])
        clear HS HD
        generalize ps.flatten = b at *
        generalize Vf.ix S.now n = i at *
        generalize Vf.used S.now = u at *
        have hwr : IntKind.i64.wrap (S.room - (u : Int)) = S.room - (u : Int) := IntWalk.i64_in _ (by omega)
        go_enter Try.func22, Try.ntmps22
        go_wp2_with (first | (go_at_call 48; (with_reducible refine (HRO.out).mono ?_); rintro e w' ⟨bv, rfl, ⟨A1, cc1, rfl, hc1, hcm1, hrd1⟩, hb⟩; have HW := Lib.hid (H.out.below hb); obtain ⟨d0, d1, d2, d3, df⟩ := HW.out.cells; clear df) | (go_at_call 49; ((with_reducible refine (HIS.out _).mono ?_); rintro e w' ⟨rfl, rfl⟩)) | (go_at_call 50; ((with_reducible refine (HFD.out _ HW.out).mono ?_); rintro e w' ⟨rfl, rfl⟩)))
        go_region_with (go_at_call 33; refine (HU.out _ HW.out.drew).mono ?_; rintro e w2 ⟨rfl, rfl⟩)
        all_goals
          go_wp2_with fail
          go_ret
          exact Vf.Next.no HW.out.drew hb.drew HR.out
      · have HR : Hid (Vf.create S n ps.flatten = (S.act ⟨1, n, 0, ps.flatten⟩, 0)) := Lib.hid (by rw [HS.out, if_neg (by simp), if_neg hx, if_neg hm])
        clear HS
        generalize ps.flatten = b at *
        generalize Vf.ix S.now n = i at *
        generalize Vf.used S.now = u at *
        have hwr : IntKind.i64.wrap (S.room - (u : Int)) = S.room - (u : Int) := IntWalk.i64_in _ (by omega)
        go_enter Try.func22, Try.ntmps22
        go_wp2_with (first | (go_at_call 48; (with_reducible refine (HRO.out).mono ?_); rintro e w' ⟨bv, rfl, ⟨A1, cc1, rfl, hc1, hcm1, hrd1⟩, hb⟩; have HW := Lib.hid (H.out.below hb); obtain ⟨d0, d1, d2, d3, df⟩ := HW.out.cells; clear df) | (go_at_call 49; ((with_reducible refine (HIS.out _).mono ?_); rintro e w' ⟨rfl, rfl⟩)) | (go_at_call 50; ((with_reducible refine (HFD.out _ HW.out).mono ?_); rintro e w' ⟨rfl, rfl⟩)))
        go_region_with (go_at_call 33; refine (HU.out _ HW.out.drew).mono ?_; rintro e w2 ⟨rfl, rfl⟩)
        all_goals
          have HDW := Lib.hid (HD.out w'.drew (fun i => w.heap.size ≤ i ∧ i < w'.heap.size) (.slice A1 b.length cc1) HW.out.drew ⟨A1, cc1, rfl, hc1, hcm1, (hrd1.mono (G' := fun i => w.heap.size ≤ i ∧ i < w'.heap.size) (fun i hi hg => ⟨hg, hi⟩)).keep (w' := w'.drew) (Nat.le_refl _) (fun _ _ _ => rfl)⟩ (fun i hi => ⟨hi.2, by omega, fun e => by have := HRW.out i e; omega⟩))
          go_wp2_with (go_at_call 51; (with_reducible refine (HDW.out).mono ?_); rintro e w' hd; obtain rfl := hd.1; have HDN := Lib.hid hd; clear hd)
          go_ret
          exact Vf.Next.done hb.drew (fun i hi => hi.1) HDN.out HR.out

end Go.Proofs.Ytiacpopgnmledaa
