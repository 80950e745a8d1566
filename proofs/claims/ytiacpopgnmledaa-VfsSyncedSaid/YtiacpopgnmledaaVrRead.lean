/-
  CONTRACTS: the document's own files as an object: Read.
-/
import Derived.Test.YtiacpopgnmledaaVrWrite
namespace Go.Proofs.Ytiacpopgnmledaa
open Go.RowKit
open Me

namespace Vf
def bytesAt (l : List Fl) (n : List UInt8) : List UInt8 := (l.getD (ix l n).toNat ⟨[], []⟩).b
def read (l : List Fl) (n : List UInt8) (t m : Int) : List UInt8 × Int :=
  if is n = false then ([], 1) else if ix l n < 0 then ([], 5) else if t < 0 ∨ m < 0 ∨ ((bytesAt l n).length : Int) < t ∨ ((bytesAt l n).length : Int) - t < m then ([], 1) else (((bytesAt l n).drop t.toNat).take m.toNat, 0)
theorem read_one {l : List Fl} {n : List UInt8} {t m : Int} {k : Nat} (hi : is n = true) (hk : ix l n = (k : Int)) (hkl : k < l.length) (h : t < 0 ∨ m < 0 ∨ (((l[k].b).length : Nat) : Int) < t ∨ (((l[k].b).length : Nat) : Int) - t < m) : read l n t m = ([], 1) := by
  have hl : bytesAt l n = l[k].b := by unfold bytesAt; rw [hk]; simp [hkl]
  unfold read
  rw [if_neg (by simp [hi]), if_neg (by omega), if_pos (by rw [hl]; exact h)]
theorem read_done {l : List Fl} {n : List UInt8} {t m : Nat} {k : Nat} (hi : is n = true) (hk : ix l n = (k : Int)) (hkl : k < l.length) (h : t + m ≤ (l[k].b).length) : read l n (t : Int) (m : Int) = (((l[k].b).drop t).take m, 0) := by
  have hl : bytesAt l n = l[k].b := by unfold bytesAt; rw [hk]; simp [hkl]
  unfold read
  rw [if_neg (by simp [hi]), if_neg (by omega), if_neg (by rw [hl]; omega), hl]
  simp
/-- What Read hands back: bytes in blocks that are new, and a number. -/
def Handed (w : World) (R : List UInt8 × Int) (e : Ending) (w' : World) : Prop := ∃ v, e = .returned (.tuple #[v, .int .i64 R.2]) ∧ Bs w' (fun i => w.heap.size ≤ i) v R.1 ∧ Below w.heap.size w w'
theorem Handed.no {w : World} {R : List UInt8 × Int} {i : Int} (h : R = ([], i)) : Handed w R (.returned (.tuple #[.slice none 0 0, .int .i64 i])) w := by
  subst h
  exact ⟨_, rfl, ⟨none, 0, rfl, Nat.le_refl _, Nat.zero_le _, Rd.none_ _ _ _⟩, Below.refl _ _⟩
end Vf

theorem rd_cut {w : World} {G : Nat → Prop} {ad : Addr} {bb : List UInt8} {t m cc : Nat} (h : Rd w G (some ad) (by8 bb)) (hc : bb.length ≤ cc) (ht : t + m ≤ bb.length) : Rd w G (if cc = t then some ad else some (ad.add t)) (by8 ((bb.drop t).take m)) := by
  by_cases hm : m = 0
  · subst hm
    rw [List.take_zero]
    exact Rd.none_ _ _ _
  · rw [if_neg (by omega), ← by8_take, ← by8_drop]
    exact h.sub t m
theorem read_end {w w1 : World} {v1 : Value} {l : List UInt8} {m : Nat} {e : TypeId} (hl : l.length = m) (hown : w1.ownsRow w.heap.size e 1 v1 (0 + m) ([] ++ by8 l)) (hg : (w.alloc (.cells #[] e)).grownBy w1 (Value.slice (some ⟨w.heap.size, 0, none⟩) 0 0).ownBlock) :
    Vf.Handed w (l, 0) (.returned (.tuple #[v1, .int .i64 0])) w1 := by
  rw [Nat.zero_add, List.nil_append, ← hl] at hown
  exact ⟨v1, rfl, Bs.own hown, ((Below.refl _ _).alloc (Nat.le_refl _) _).grown hg (by simp) (fun g hg => by simp [Value.ownBlock] at hg; omega)⟩

set_option maxRecDepth 100000 in
set_option maxHeartbeats 1600000 in
theorem read_any {w : World} {G : Nat → Prop} {fs : Nat} {lr : Option Nat} {S : Vf.Sv} {nv wv lv : Value} {ys : List Value} (h : Vf.At w G fs lr S nv wv lv ys) (n : List UInt8) (t m : Int)
    (hl : S.now.length ≤ 1048576) (hu : Vf.used S.now ≤ 4294967296) :
    Calls Try.prog 27 #[.pointer (some ⟨fs, 0, none⟩), .string ⟨n.toArray⟩, .int .i64 t, .int .i64 m] w (Vf.Handed w (Vf.read S.now n t m)) := by
  obtain ⟨j0, hj0, hy0, hy1, hy2⟩ := info_parts u8info
  have HJ := Lib.hid hj0
  have HY := Lib.hid (And.intro hy0 (And.intro hy1 hy2))
  clear hj0 hy0 hy1 hy2
  obtain ⟨c0, c1, c2, c3, hf⟩ := h.cells
  have hfl := h.fsLt
  have HFD := Lib.hid (find_any S.now n nv G w h.now hl)
  have HIS := Lib.hid (is_any n w)
  obtain ⟨i1, i2⟩ := Vf.ix_bd S.now n
  cases hi : Vf.is n
  · rw [hi] at HIS
    have HR : Hid (Vf.read S.now n t m = ([], 1)) := Lib.hid (by unfold Vf.read; rw [if_pos hi])
    obtain ⟨A0, c00, xs0, hnv, _⟩ := h.now
    subst hnv
    clear h hf
    generalize Vf.ix S.now n = i at *
    go_enter Try.func27, Try.ntmps27
    go_wp2_with (first | (go_at_call 49; ((with_reducible refine (HIS.out).mono ?_); rintro e w' ⟨rfl, rfl⟩)) | (go_at_call 50; ((with_reducible refine (HFD.out).mono ?_); rintro e w' ⟨rfl, rfl⟩)))
    ((try simp only [Exit.inBlock, Exit.then]); refine bodyPost_ret (results_tmp2 rfl _ _ _) rfl ?_)
    exact Vf.Handed.no HR.out
  · rw [hi] at HIS
    by_cases hx : Vf.ix S.now n < 0
    · have HR : Hid (Vf.read S.now n t m = ([], 5)) := Lib.hid (by unfold Vf.read; rw [if_neg (by simp [hi]), if_pos hx])
      obtain ⟨A0, c00, xs0, hnv, _⟩ := h.now
      subst hnv
      clear h hf
      generalize Vf.ix S.now n = i at *
      go_enter Try.func27, Try.ntmps27
      go_wp2_with (first | (go_at_call 49; ((with_reducible refine (HIS.out).mono ?_); rintro e w' ⟨rfl, rfl⟩)) | (go_at_call 50; ((with_reducible refine (HFD.out).mono ?_); rintro e w' ⟨rfl, rfl⟩)))
      ((try simp only [Exit.inBlock, Exit.then]); refine bodyPost_ret (results_tmp2 rfl _ _ _) rfl ?_)
      exact Vf.Handed.no HR.out
    · obtain ⟨k, hk, hkl⟩ := Vf.ix_at hx
      have HM := Lib.hid (Vf.used_mem (List.getElem_mem hkl))
      have hlk : (S.now[k].b).length ≤ 4294967296 := Nat.le_trans HM.out hu
      have HW1 : Hid (∀ t m : Int, t < 0 ∨ m < 0 ∨ (((S.now[k].b).length : Nat) : Int) < t ∨ (((S.now[k].b).length : Nat) : Int) - t < m → Vf.read S.now n t m = ([], 1)) := Lib.hid fun t m hb => Vf.read_one hi hk hkl hb
      have HW2 : Hid (∀ t m : Nat, t + m ≤ (S.now[k].b).length → Vf.read S.now n (t : Int) (m : Int) = (((S.now[k].b).drop t).take m, 0)) := Lib.hid fun t m hb => Vf.read_done hi hk hkl hb
      obtain ⟨rb, ro, c, A2, cc, rfl, hc, hcm, g0, g1, hbs, hrb, _⟩ := h.now.nth k hkl
      obtain ⟨A3, c3', he, hc2, hcm2, hrd2⟩ := hbs
      injection he with he1 he2 he3
      subst he1 he3
      have HRD := Lib.hid hrd2
      unfold maxLen at hcm hcm2
      rw [hk] at HFD
      clear h hf hx hk i1 i2 HM hrd2
      generalize Vf.read S.now n = rr at *
      generalize S.now[k].b = bb at *
      by_cases ht : t < 0
      · have HR := Lib.hid (HW1.out t m (.inl ht))
        clear HW1 HW2
        go_enter Try.func27, Try.ntmps27
        go_wp2_with (first | (go_at_call 49; ((with_reducible refine (HIS.out).mono ?_); rintro e w' ⟨rfl, rfl⟩)) | (go_at_call 50; ((with_reducible refine (HFD.out).mono ?_); rintro e w' ⟨rfl, rfl⟩)))
        ((try simp only [Exit.inBlock, Exit.then]); refine bodyPost_ret (results_tmp2 rfl _ _ _) rfl ?_)
        exact Vf.Handed.no HR.out
      · obtain ⟨t, rfl⟩ : ∃ t' : Nat, t = (t' : Int) := ⟨t.toNat, by omega⟩
        clear ht
        by_cases hm : m < 0
        · have HR := Lib.hid (HW1.out t m (.inr (.inl hm)))
          clear HW1 HW2
          go_enter Try.func27, Try.ntmps27
          go_wp2_with (first | (go_at_call 49; ((with_reducible refine (HIS.out).mono ?_); rintro e w' ⟨rfl, rfl⟩)) | (go_at_call 50; ((with_reducible refine (HFD.out).mono ?_); rintro e w' ⟨rfl, rfl⟩)))
          ((try simp only [Exit.inBlock, Exit.then]); refine bodyPost_ret (results_tmp2 rfl _ _ _) rfl ?_)
          exact Vf.Handed.no HR.out
        · obtain ⟨m, rfl⟩ : ∃ m' : Nat, m = (m' : Int) := ⟨m.toNat, by omega⟩
          clear hm
          by_cases h1 : (bb.length : Int) < (t : Int)
          · have HR := Lib.hid (HW1.out t m (.inr (.inr (.inl h1))))
            clear HW1 HW2
            go_enter Try.func27, Try.ntmps27
            go_wp2_with (first | (go_at_call 49; ((with_reducible refine (HIS.out).mono ?_); rintro e w' ⟨rfl, rfl⟩)) | (go_at_call 50; ((with_reducible refine (HFD.out).mono ?_); rintro e w' ⟨rfl, rfl⟩)))
            ((try simp only [Exit.inBlock, Exit.then]); refine bodyPost_ret (results_tmp2 rfl _ _ _) rfl ?_)
            exact Vf.Handed.no HR.out
          · have hwr : IntKind.i64.wrap ((bb.length : Int) - (t : Int)) = (bb.length : Int) - (t : Int) := IntWalk.i64_in _ (by omega)
            by_cases h2 : (bb.length : Int) - (t : Int) < (m : Int)
            · have HR := Lib.hid (HW1.out t m (.inr (.inr (.inr h2))))
              clear HW1 HW2
              go_enter Try.func27, Try.ntmps27
              go_wp2_with (first | (go_at_call 49; ((with_reducible refine (HIS.out).mono ?_); rintro e w' ⟨rfl, rfl⟩)) | (go_at_call 50; ((with_reducible refine (HFD.out).mono ?_); rintro e w' ⟨rfl, rfl⟩)))
              ((try simp only [Exit.inBlock, Exit.then]); refine bodyPost_ret (results_tmp2 rfl _ _ _) rfl ?_)
              exact Vf.Handed.no HR.out
            · have HR := Lib.hid (HW2.out t m (by omega))
              clear HW1 HW2
              have hw2 : IntKind.i64.wrap ((t : Int) + (m : Int)) = ((t + m : Nat) : Int) := by rw [IntWalk.i64_in _ (by omega)]; omega
              have hnl : ((bb.drop t).take m).length = m := by rw [List.length_take, List.length_drop]; omega
              cases A2 with
              | none =>
                have hr0 : Rd (w.alloc (.cells #[] 5)) G none (by8 ((bb.drop t).take m)) := by
                  intro hne
                  obtain ⟨ad, e, _⟩ := HRD.out (by rintro e; apply hne; rw [← by8_take, ← by8_drop, e]; simp)
                  cases e
                have HR0 := Lib.hid hr0
                go_enter Try.func27, Try.ntmps27
                go_wp2_with (first | (go_at_call 49; ((with_reducible refine (HIS.out).mono ?_); rintro e w' ⟨rfl, rfl⟩)) | (go_at_call 50; ((with_reducible refine (HFD.out).mono ?_); rintro e w' ⟨rfl, rfl⟩)) | (at_builtin; refine wpList_app _ rfl (.tmp 59) (.tmp 72) 40 rfl w.heap.size 5 j0 (.int .u8 0) 1 1 Try.underlying40 HJ.out HY.out.1 HY.out.2.1 HY.out.2.2 rfl (by decide) (.slice (some ⟨w.heap.size, 0, none⟩) 0 0) 0 [] rfl (owns_empty _ _ _ rfl) G none m (cc - t) (by8 ((bb.drop t).take m)) (by simp [Act.eval]) (by rw [by8_len]; omega) HR0.out (by8_one _) (by unfold maxLen; omega) (by omega) (by simp) ?_; intro v1 w1 hown1 hg1 hat1 hnil1))
                all_goals
                  ((try simp only [Exit.inBlock, Exit.then]); refine bodyPost_ret (results_tmp2 rfl _ _ _) rfl ?_)
                  rw [HR.out]
                  exact read_end hnl hown1 hg1
              | some ad =>
                have HR0 := Lib.hid (rd_cut (w := w.alloc (.cells #[] 5)) (t := t) (m := m) (cc := cc) (HRD.out.keep (by simp) (fun b hb _ => Below.heap_alloc w _ b hb)) hc2 (by omega))
                go_enter Try.func27, Try.ntmps27
                go_wp2_with (first | (go_at_call 49; ((with_reducible refine (HIS.out).mono ?_); rintro e w' ⟨rfl, rfl⟩)) | (go_at_call 50; ((with_reducible refine (HFD.out).mono ?_); rintro e w' ⟨rfl, rfl⟩)) | (at_builtin; refine wpList_app _ rfl (.tmp 59) (.tmp 72) 40 rfl w.heap.size 5 j0 (.int .u8 0) 1 1 Try.underlying40 HJ.out HY.out.1 HY.out.2.1 HY.out.2.2 rfl (by decide) (.slice (some ⟨w.heap.size, 0, none⟩) 0 0) 0 [] rfl (owns_empty _ _ _ rfl) G (if cc = t then some ad else some (ad.add t)) m (cc - t) (by8 ((bb.drop t).take m)) (by simp [Act.eval]) (by rw [by8_len]; omega) HR0.out (by8_one _) (by unfold maxLen; omega) (by omega) (by simp) ?_; intro v1 w1 hown1 hg1 hat1 hnil1))
                all_goals
                  ((try simp only [Exit.inBlock, Exit.then]); refine bodyPost_ret (results_tmp2 rfl _ _ _) rfl ?_)
                  rw [HR.out]
                  exact read_end hnl hown1 hg1

end Go.Proofs.Ytiacpopgnmledaa
