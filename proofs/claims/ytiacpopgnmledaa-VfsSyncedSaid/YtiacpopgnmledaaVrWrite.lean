/-
  CONTRACTS: the document's own files as an object: WriteAt.
-/
import Derived.Test.YtiacpopgnmledaaVrActs
namespace Go.Proofs.Ytiacpopgnmledaa
open Go.RowKit
open Me

namespace Vf
def lenAt (l : List Fl) (n : List UInt8) : Nat := (l.getD (ix l n).toNat ⟨[], []⟩).b.length
def write (S : Sv) (n : List UInt8) (t : Int) (b : List UInt8) : Sv × Int :=
  if is n = false then (S, 1) else if ix S.now n < 0 then (S, 5) else if t < 0 ∨ (lenAt S.now n : Int) < t ∨ (lenAt S.now n : Int) - t < b.length then (S, 1) else (S.act ⟨2, n, t.toNat, b⟩, 0)
theorem write_one {S : Sv} {n : List UInt8} {t : Int} {b : List UInt8} {k : Nat} (hi : is n = true) (hk : ix S.now n = (k : Int)) (hkl : k < S.now.length) (h : t < 0 ∨ (((S.now[k].b).length : Nat) : Int) < t ∨ (((S.now[k].b).length : Nat) : Int) - t < b.length) : write S n t b = (S, 1) := by
  have hl : lenAt S.now n = (S.now[k].b).length := by unfold lenAt; rw [hk]; simp [hkl]
  unfold write
  rw [if_neg (by simp [hi]), if_neg (by omega), if_pos (by rw [hl]; exact h)]
theorem write_done {S : Sv} {n : List UInt8} {m : Nat} {b : List UInt8} {k : Nat} (hi : is n = true) (hk : ix S.now n = (k : Int)) (hkl : k < S.now.length) (h : m + b.length ≤ (S.now[k].b).length) : write S n (m : Int) b = (S.act ⟨2, n, m, b⟩, 0) := by
  have hl : lenAt S.now n = (S.now[k].b).length := by unfold lenAt; rw [hk]; simp [hkl]
  unfold write
  rw [if_neg (by simp [hi]), if_neg (by omega), if_neg (by rw [hl]; omega)]
  simp
end Vf

set_option maxHeartbeats 1600000 in
theorem write_any {w : World} {G Gq : Nat → Prop} {fs : Nat} {lr : Option Nat} {S : Vf.Sv} {nv wv lv : Value} {ys : List Value} (h : Vf.At w G fs lr S nv wv lv ys) (n : List UInt8) (t : Int) (ps : List (List UInt8)) (pv : Value) (hp : Vf.Ps w Gq pv ps)
    (hl : S.now.length ≤ 1048576) (hll : S.l.length ≤ 1048576) (hu : Vf.used S.now ≤ 4294967296) (hpl : ps.length ≤ 1048576) (hpt : ps.flatten.length ≤ 4294967296) :
    Calls Try.prog 23 #[.pointer (some ⟨fs, 0, none⟩), .string ⟨n.toArray⟩, .int .i64 t, pv] w (Vf.Next w G fs lr (Vf.write S n t ps.flatten)) := by
  have HRO := Lib.hid (rows_any ps pv Gq w hp hpl hpt)
  obtain ⟨Aq, cq, xq, rfl, _⟩ := hp
  have HFD : Hid (∀ W, Vf.At W G fs lr S nv wv lv ys → Calls Try.prog 50 #[nv, .string ⟨n.toArray⟩] W fun e w' => e = .returned (.int .i64 (Vf.ix S.now n)) ∧ W = w') := Lib.hid fun W hW => find_any S.now n nv G W hW.now hl
  have HIS := Lib.hid (is_any n)
  have HD : Hid (∀ (W : World) (Gp : Nat → Prop) (bv : Value) (m : Nat), Vf.At W G fs lr S nv wv lv ys → Bs W Gp bv ps.flatten → (∀ b, Gp b → b < W.heap.size ∧ b ≠ fs ∧ lr ≠ some b) → Hid (Vf.fits S.now ⟨2, n, m, ps.flatten⟩) → m ≤ 4294967296 → Calls Try.prog 51 #[.pointer (some ⟨fs, 0, none⟩), .agg #[.int .i64 2, .string ⟨n.toArray⟩, .int .i64 (m : Int), bv]] W (Vf.Done W G Gp fs lr S ⟨2, n, m, ps.flatten⟩)) :=
    Lib.hid fun W Gp bv m hW hb hGp hft hm => do_any hW ⟨2, n, m, ps.flatten⟩ hb hGp hl hll hft (Lib.hid fun f hf => Nat.le_trans (Vf.used_mem hf) hu) hm
  have H := Lib.hid h
  have hfl := h.fsLt
  have HRW : Hid (∀ g, lr = some g → g < w.heap.size) := Lib.hid fun g hg => (h.own.lt g (h.row.trans hg)).2
  obtain ⟨i1, i2⟩ := Vf.ix_bd S.now n
  cases hi : Vf.is n
  · rw [hi] at HIS
    have HR : Hid (Vf.write S n t ps.flatten = (S, 1)) := Lib.hid (by unfold Vf.write; rw [if_pos hi])
    obtain ⟨A0, c00, xs0, hnv, _⟩ := h.now
    subst hnv
    clear HD h
    generalize ps.flatten = b at *
    generalize Vf.ix S.now n = i at *
    go_enter Try.func23, Try.ntmps23
    go_wp2_with (first | (go_at_call 48; (with_reducible refine (HRO.out).mono ?_); rintro e w' ⟨bv, rfl, ⟨A1, cc1, rfl, hc1, hcm1, hrd1⟩, hb⟩; have HW := Lib.hid (H.out.below hb); obtain ⟨d0, d1, d2, d3, df⟩ := HW.out.cells; clear df) | (go_at_call 49; ((with_reducible refine (HIS.out _).mono ?_); rintro e w' ⟨rfl, rfl⟩)) | (go_at_call 50; ((with_reducible refine (HFD.out _ HW.out).mono ?_); rintro e w' ⟨rfl, rfl⟩)))
    go_ret
    exact Vf.Next.no HW.out hb HR.out
  · rw [hi] at HIS
    by_cases hx : Vf.ix S.now n < 0
    · have HR : Hid (Vf.write S n t ps.flatten = (S, 5)) := Lib.hid (by unfold Vf.write; rw [if_neg (by simp [hi]), if_pos hx])
      obtain ⟨A0, c00, xs0, hnv, _⟩ := h.now
      subst hnv
      clear HD h
      generalize ps.flatten = b at *
      generalize Vf.ix S.now n = i at *
      go_enter Try.func23, Try.ntmps23
      go_wp2_with (first | (go_at_call 48; (with_reducible refine (HRO.out).mono ?_); rintro e w' ⟨bv, rfl, ⟨A1, cc1, rfl, hc1, hcm1, hrd1⟩, hb⟩; have HW := Lib.hid (H.out.below hb); obtain ⟨d0, d1, d2, d3, df⟩ := HW.out.cells; clear df) | (go_at_call 49; ((with_reducible refine (HIS.out _).mono ?_); rintro e w' ⟨rfl, rfl⟩)) | (go_at_call 50; ((with_reducible refine (HFD.out _ HW.out).mono ?_); rintro e w' ⟨rfl, rfl⟩)))
      go_ret
      exact Vf.Next.no HW.out hb HR.out
    · obtain ⟨k, hk, hkl⟩ := Vf.ix_at hx
      have HIX := Lib.hid hk
      have hft : ∀ m : Nat, m + ps.flatten.length ≤ (S.now[k].b).length → Hid (Vf.fits S.now ⟨2, n, m, ps.flatten⟩) := fun m hm => Lib.hid (fun _ j hj e => by
        have e2 : (j : Int) = (k : Int) := e.trans hk
        obtain rfl : j = k := by omega
        exact hm)
      have HFT := Lib.hid hft
      have HM := Lib.hid (Vf.used_mem (List.getElem_mem hkl))
      have hlk : (S.now[k].b).length ≤ 4294967296 := Nat.le_trans HM.out hu
      have HW1 : Hid (∀ b : List UInt8, t < 0 ∨ (((S.now[k].b).length : Nat) : Int) < t ∨ (((S.now[k].b).length : Nat) : Int) - t < b.length → Vf.write S n t b = (S, 1)) := Lib.hid fun b hb => Vf.write_one hi hk hkl hb
      have HW2 : Hid (∀ (b : List UInt8) (m : Nat), m + b.length ≤ (S.now[k].b).length → Vf.write S n (m : Int) b = (S.act ⟨2, n, m, b⟩, 0)) := Lib.hid fun b m hb => Vf.write_done hi hk hkl hb
      obtain ⟨rb, ro, c, A2, cc, rfl, hc, hcm, g0, g1, hbs, hrb, _⟩ := h.now.nth k hkl
      obtain ⟨A3, c3', he, hc2, hcm2, _⟩ := hbs
      injection he with he1 he2 he3
      subst he1 he3
      unfold maxLen at hcm hcm2
      rw [hk] at HFD
      clear h hx hft i1 i2 hk
      generalize ps.flatten = b at *
      generalize hlen : (S.now[k].b).length = len at *
      clear hlen
      by_cases ht : t < 0
      · have HR := Lib.hid (HW1.out b (.inl ht))
        clear HW1 HW2 HD HFT
        go_enter Try.func23, Try.ntmps23
        go_wp2_with (first | (go_at_call 48; (with_reducible refine (HRO.out).mono ?_); rintro e w' ⟨bv, rfl, ⟨A1, cc1, rfl, hc1, hcm1, hrd1⟩, hb⟩; have HW := Lib.hid (H.out.below hb); obtain ⟨d0, d1, d2, d3, df⟩ := HW.out.cells; clear df; have e1 := (hb.cell (p := ⟨rb, ro + k * 2 + 1, none⟩) hrb).trans g1) | (go_at_call 49; ((with_reducible refine (HIS.out _).mono ?_); rintro e w' ⟨rfl, rfl⟩)) | (go_at_call 50; ((with_reducible refine (HFD.out _ HW.out).mono ?_); rintro e w' ⟨rfl, rfl⟩)))
        go_ret
        exact Vf.Next.no HW.out hb HR.out
      · obtain ⟨m, rfl⟩ : ∃ m : Nat, t = (m : Int) := ⟨t.toNat, by omega⟩
        clear ht
        by_cases h1 : (len : Int) < (m : Int)
        · have HR := Lib.hid (HW1.out b (.inr (.inl h1)))
          clear HW1 HW2 HD HFT
          go_enter Try.func23, Try.ntmps23
          go_wp2_with (first | (go_at_call 48; (with_reducible refine (HRO.out).mono ?_); rintro e w' ⟨bv, rfl, ⟨A1, cc1, rfl, hc1, hcm1, hrd1⟩, hb⟩; have HW := Lib.hid (H.out.below hb); obtain ⟨d0, d1, d2, d3, df⟩ := HW.out.cells; clear df; have e1 := (hb.cell (p := ⟨rb, ro + k * 2 + 1, none⟩) hrb).trans g1) | (go_at_call 49; ((with_reducible refine (HIS.out _).mono ?_); rintro e w' ⟨rfl, rfl⟩)) | (go_at_call 50; ((with_reducible refine (HFD.out _ HW.out).mono ?_); rintro e w' ⟨rfl, rfl⟩)))
          go_ret
          exact Vf.Next.no HW.out hb HR.out
        · have hwr : IntKind.i64.wrap ((len : Int) - (m : Int)) = (len : Int) - (m : Int) := IntWalk.i64_in _ (by omega)
          by_cases h2 : (len : Int) - (m : Int) < (b.length : Int)
          · have HR := Lib.hid (HW1.out b (.inr (.inr h2)))
            clear HW1 HW2 HD HFT
            go_enter Try.func23, Try.ntmps23
            go_wp2_with (first | (go_at_call 48; (with_reducible refine (HRO.out).mono ?_); rintro e w' ⟨bv, rfl, ⟨A1, cc1, rfl, hc1, hcm1, hrd1⟩, hb⟩; have HW := Lib.hid (H.out.below hb); obtain ⟨d0, d1, d2, d3, df⟩ := HW.out.cells; clear df; have e1 := (hb.cell (p := ⟨rb, ro + k * 2 + 1, none⟩) hrb).trans g1) | (go_at_call 49; ((with_reducible refine (HIS.out _).mono ?_); rintro e w' ⟨rfl, rfl⟩)) | (go_at_call 50; ((with_reducible refine (HFD.out _ HW.out).mono ?_); rintro e w' ⟨rfl, rfl⟩)))
            go_ret
            exact Vf.Next.no HW.out hb HR.out
          · have HR := Lib.hid (HW2.out b m (by omega))
            have HFM := HFT.out m (by omega)
            clear HW1 HW2 HFT
            go_enter Try.func23, Try.ntmps23
            go_wp2_with (first | (go_at_call 48; (with_reducible refine (HRO.out).mono ?_); rintro e w' ⟨bv, rfl, ⟨A1, cc1, rfl, hc1, hcm1, hrd1⟩, hb⟩; have HW := Lib.hid (H.out.below hb); obtain ⟨d0, d1, d2, d3, df⟩ := HW.out.cells; clear df; have e1 := (hb.cell (p := ⟨rb, ro + k * 2 + 1, none⟩) hrb).trans g1; have HDW := Lib.hid (HD.out w' (fun i => w.heap.size ≤ i ∧ i < w'.heap.size) (.slice A1 b.length cc1) m HW.out ⟨A1, cc1, rfl, hc1, hcm1, hrd1.mono (fun i hi hg => ⟨hg, hi⟩)⟩ (fun i hi => ⟨hi.2, by omega, fun e => by have := HRW.out i e; omega⟩) HFM (by omega))) | (go_at_call 49; ((with_reducible refine (HIS.out _).mono ?_); rintro e w' ⟨rfl, rfl⟩)) | (go_at_call 50; ((with_reducible refine (HFD.out _ HW.out).mono ?_); rintro e w' ⟨rfl, rfl⟩)) | (go_at_call 51; (with_reducible refine (HDW.out).mono ?_); rintro e w' hd; obtain rfl := hd.1; have HDN := Lib.hid hd; clear hd))
            go_ret
            exact Vf.Next.done hb (fun i hi => hi.1) HDN.out HR.out

end Go.Proofs.Ytiacpopgnmledaa
