/-
  NmRef: CONTRACTS: chapter 8's own answers (ref8): Byte, Parts, Is, Join, turn, File, Of, Node.
  TrRBef: CONTRACTS: chapter 10, the document's side: before.
  TrRObj: CONTRACTS: chapter 10, the document's side: its row of names; Has.
-/
import Derived.Test.YtfmbbhcjnidcbaaGreatDoorJ7
import Derived.Test.YtfmbbhcjnidcbaaGreatDoorJ3
import Derived.Test.YtfmbbhcjnidcbaaGreatDoorJ5
import Derived.RegionTactic
import Derived.Sort.Walk0
import Derived.Test.YtfmbbhcjnidcbaaGreatDoorJ6

namespace Go.Proofs.YtfmbbhcjnidcbaaGreatDoor
open Go.RowKit
open Me

namespace Nm
theorem sig_not {b : UInt8} (h : b.toNat ≠ 95 ∧ b.toNat ≠ 45 ∧ b.toNat ≠ 58 ∧ b.toNat ≠ 35 ∧ b.toNat ≠ 37 ∧ b.toNat ≠ 64 ∧ b.toNat ≠ 61) : [95, 45, 58, 35, 37, 64, 61].contains b = false := by
  have key : ∀ c ∈ ([95, 45, 58, 35, 37, 64, 61] : List UInt8), (c.toNat = b.toNat → False) := by
    intro c hc
    simp only [List.mem_cons, List.not_mem_nil, or_false] at hc
    rcases hc with rfl | rfl | rfl | rfl | rfl | rfl | rfl <;> (intro e; simp at e; omega)
  rw [List.contains_eq_any_beq, List.any_eq_false]
  intro c hc
  have := key c hc
  simp only [beq_iff_eq]
  intro e
  exact this (by rw [e])
theorem okB_sig {b : UInt8} (k : UInt8) (h : b.toNat = k.toNat) (hk : okB k = true) : okB b = true := by
  rw [UInt8.toNat_inj.1 h]; exact hk
end Nm

set_option maxHeartbeats 1000000 in
theorem refByte_any (b : UInt8) (w : World) :
    Calls Tryz.prog 38 #[.int .u8 (b.toNat : Int)] w fun e w' => e = .returned (.bool (Nm.okB b)) ∧ w' = w := by
  have HA := Lib.hid (@Nm.okB_a b)
  have HB := Lib.hid (@Nm.okB_A b)
  have HC := Lib.hid (@Nm.okB_0 b)
  have HD := Lib.hid (@Nm.okB_else b)
  have HN := Lib.hid (@Nm.sig_not b)
  have HS := Lib.hid (@Nm.okB_sig b)
  have HR := Lib.hid (rfl : Nm.okB b = Nm.okB b)
  generalize hn : b.toNat = n at *
  have hn2 : n < 256 := by rw [← hn]; exact UInt8.toNat_lt b
  generalize ([95, 45, 58, 35, 37, 64, 61] : List UInt8).contains b = ct at *
  generalize Nm.okB b = R at *
  clear hn HR
  by_cases h : 97 ≤ n ∧ n ≤ 122
  · have HQ := Lib.hid (HA.out h.1 h.2)
    have g0 : (97 : Int) ≤ (n : Int) := by omega
    have g1 : (n : Int) ≤ 122 := by omega
    clear h
    go_enter Tryz.func38, Tryz.ntmps38
    go_wp2_with fail
    go_ret
    exact ⟨Nm.ret_bool HQ.out.symm, rfl⟩
  have n1897 : ¬ (97 ≤ n ∧ n ≤ 122) := h
  clear h
  by_cases h : 65 ≤ n ∧ n ≤ 90
  · have HQ := Lib.hid (HB.out h.1 h.2)
    have g0 : ¬ (97 : Int) ≤ (n : Int) := by omega
    have g1 : (65 : Int) ≤ (n : Int) := by omega
    have g2 : (n : Int) ≤ 90 := by omega
    clear h
    go_enter Tryz.func38, Tryz.ntmps38
    go_wp2_with fail
    go_ret
    exact ⟨Nm.ret_bool HQ.out.symm, rfl⟩
  have n2267 : ¬ (65 ≤ n ∧ n ≤ 90) := h
  clear h
  by_cases h : 48 ≤ n ∧ n ≤ 57
  · have HQ := Lib.hid (HC.out h.1 h.2)
    have g0 : ¬ (97 : Int) ≤ (n : Int) := by omega
    have g1 : ¬ (65 : Int) ≤ (n : Int) := by omega
    have g2 : (48 : Int) ≤ (n : Int) := by omega
    have g3 : (n : Int) ≤ 57 := by omega
    clear h
    go_enter Tryz.func38, Tryz.ntmps38
    go_wp2_with fail
    go_ret
    exact ⟨Nm.ret_bool HQ.out.symm, rfl⟩
  have n2687 : ¬ (48 ≤ n ∧ n ≤ 57) := h
  clear h
  by_cases h : n = 95
  · subst h
    have HQ := Lib.hid (HS.out 95 rfl (by decide))
    go_enter Tryz.func38, Tryz.ntmps38
    go_wp2_with fail
    go_ret
    exact ⟨Nm.ret_bool HQ.out.symm, rfl⟩
  have n2737 : ¬ n = 95 := h
  clear h
  by_cases h : n = 45
  · subst h
    have HQ := Lib.hid (HS.out 45 rfl (by decide))
    go_enter Tryz.func38, Tryz.ntmps38
    go_wp2_with fail
    go_ret
    exact ⟨Nm.ret_bool HQ.out.symm, rfl⟩
  have n2956 : ¬ n = 45 := h
  clear h
  by_cases h : n = 58
  · subst h
    have HQ := Lib.hid (HS.out 58 rfl (by decide))
    go_enter Tryz.func38, Tryz.ntmps38
    go_wp2_with fail
    go_ret
    exact ⟨Nm.ret_bool HQ.out.symm, rfl⟩
  have n3175 : ¬ n = 58 := h
  clear h
  by_cases h : n = 35
  · subst h
    have HQ := Lib.hid (HS.out 35 rfl (by decide))
    go_enter Tryz.func38, Tryz.ntmps38
    go_wp2_with fail
    go_ret
    exact ⟨Nm.ret_bool HQ.out.symm, rfl⟩
  have n3394 : ¬ n = 35 := h
  clear h
  by_cases h : n = 37
  · subst h
    have HQ := Lib.hid (HS.out 37 rfl (by decide))
    go_enter Tryz.func38, Tryz.ntmps38
    go_wp2_with fail
    go_ret
    exact ⟨Nm.ret_bool HQ.out.symm, rfl⟩
  have n3613 : ¬ n = 37 := h
  clear h
  by_cases h : n = 64
  · subst h
    have HQ := Lib.hid (HS.out 64 rfl (by decide))
    go_enter Tryz.func38, Tryz.ntmps38
    go_wp2_with fail
    go_ret
    exact ⟨Nm.ret_bool HQ.out.symm, rfl⟩
  have n3832 : ¬ n = 64 := h
  clear h
  by_cases h : n = 61
  · subst h
    have HQ := Lib.hid (HS.out 61 rfl (by decide))
    go_enter Tryz.func38, Tryz.ntmps38
    go_wp2_with fail
    go_ret
    exact ⟨Nm.ret_bool HQ.out.symm, rfl⟩
  have n4051 : ¬ n = 61 := h
  clear h
  have HQ : Hid (R = false) := Lib.hid ((HD.out (by omega) (by omega) (by omega)).trans (HN.out (by omega)))
  by_cases h : n < 48
  · have g0 : ¬ (97 : Int) ≤ (n : Int) := by omega
    have g1 : ¬ (65 : Int) ≤ (n : Int) := by omega
    have g2 : ¬ (48 : Int) ≤ (n : Int) := by omega
    have e95 : ((n : Int) == 95) = false := by simp; omega
    have e45 : ((n : Int) == 45) = false := by simp; omega
    have e58 : ((n : Int) == 58) = false := by simp; omega
    have e35 : ((n : Int) == 35) = false := by simp; omega
    have e37 : ((n : Int) == 37) = false := by simp; omega
    have e64 : ((n : Int) == 64) = false := by simp; omega
    have e61 : ((n : Int) == 61) = false := by simp; omega
    go_enter Tryz.func38, Tryz.ntmps38
    go_wp2_with fail
    go_ret
    exact ⟨Nm.ret_bool HQ.out.symm, rfl⟩
  by_cases h : n < 65
  · have g0 : ¬ (97 : Int) ≤ (n : Int) := by omega
    have g1 : ¬ (65 : Int) ≤ (n : Int) := by omega
    have g2 : (48 : Int) ≤ (n : Int) := by omega
    have g3 : ¬ (n : Int) ≤ 57 := by omega
    have e95 : ((n : Int) == 95) = false := by simp; omega
    have e45 : ((n : Int) == 45) = false := by simp; omega
    have e58 : ((n : Int) == 58) = false := by simp; omega
    have e35 : ((n : Int) == 35) = false := by simp; omega
    have e37 : ((n : Int) == 37) = false := by simp; omega
    have e64 : ((n : Int) == 64) = false := by simp; omega
    have e61 : ((n : Int) == 61) = false := by simp; omega
    go_enter Tryz.func38, Tryz.ntmps38
    go_wp2_with fail
    go_ret
    exact ⟨Nm.ret_bool HQ.out.symm, rfl⟩
  by_cases h : n < 97
  · have g0 : ¬ (97 : Int) ≤ (n : Int) := by omega
    have g1 : (65 : Int) ≤ (n : Int) := by omega
    have g2 : ¬ (n : Int) ≤ 90 := by omega
    have g3 : (48 : Int) ≤ (n : Int) := by omega
    have g4 : ¬ (n : Int) ≤ 57 := by omega
    have e95 : ((n : Int) == 95) = false := by simp; omega
    have e45 : ((n : Int) == 45) = false := by simp; omega
    have e58 : ((n : Int) == 58) = false := by simp; omega
    have e35 : ((n : Int) == 35) = false := by simp; omega
    have e37 : ((n : Int) == 37) = false := by simp; omega
    have e64 : ((n : Int) == 64) = false := by simp; omega
    have e61 : ((n : Int) == 61) = false := by simp; omega
    go_enter Tryz.func38, Tryz.ntmps38
    go_wp2_with fail
    go_ret
    exact ⟨Nm.ret_bool HQ.out.symm, rfl⟩
  by_cases h : n < 256
  · have g0 : (97 : Int) ≤ (n : Int) := by omega
    have g1 : ¬ (n : Int) ≤ 122 := by omega
    have g2 : (65 : Int) ≤ (n : Int) := by omega
    have g3 : ¬ (n : Int) ≤ 90 := by omega
    have g4 : (48 : Int) ≤ (n : Int) := by omega
    have g5 : ¬ (n : Int) ≤ 57 := by omega
    have e95 : ((n : Int) == 95) = false := by simp; omega
    have e45 : ((n : Int) == 45) = false := by simp; omega
    have e58 : ((n : Int) == 58) = false := by simp; omega
    have e35 : ((n : Int) == 35) = false := by simp; omega
    have e37 : ((n : Int) == 37) = false := by simp; omega
    have e64 : ((n : Int) == 64) = false := by simp; omega
    have e61 : ((n : Int) == 61) = false := by simp; omega
    go_enter Tryz.func38, Tryz.ntmps38
    go_wp2_with fail
    go_ret
    exact ⟨Nm.ret_bool HQ.out.symm, rfl⟩
  exact absurd hn2 h

namespace Nm
/-- A text's parts, read as far as byte i; the one under way began at f. -/
def Far (s : List UInt8) (i f : Nat) (D : List (List UInt8)) : Prop :=
  (i ≤ s.length ∧ f ≤ i ∧ D ++ pt (s.drop f) = pt s ∧ noDot ((s.drop f).take (i - f)) = true) ∨ (i = s.length + 1 ∧ D = pt s)
theorem Far.start (s : List UInt8) : Far s 0 0 [] := .inl ⟨Nat.zero_le _, Nat.le_refl _, rfl, rfl⟩
theorem Far.len {s : List UInt8} {i f : Nat} {D : List (List UInt8)} (h : Far s i f D) : D.length ≤ (pt s).length := by
  rcases h with ⟨_, _, h, _⟩ | ⟨_, h⟩
  · rw [← h, List.length_append]; omega
  · rw [h]; exact Nat.le_refl _
theorem Far.plain {s : List UInt8} {i f : Nat} {D : List (List UInt8)} (h : Far s i f D) (hi : i < s.length) (hb : s[i] ≠ 46) : Far s (i + 1) f D := by
  rcases h with ⟨_, h1, h2, h3⟩ | ⟨h, _⟩
  · refine .inl ⟨hi, by omega, h2, ?_⟩
    rw [show i + 1 - f = i - f + 1 by omega, List.take_succ_eq_append_getElem (by rw [List.length_drop]; omega)]
    unfold noDot at *
    rw [List.all_append, h3, List.getElem_drop]
    have : s[f + (i - f)] = s[i] := by congr 1; omega
    simp [this, hb]
  · omega
theorem Far.seg {s : List UInt8} {i f : Nat} (hf : f ≤ i) (hi : i < s.length) : s.drop f = (s.drop f).take (i - f) ++ s[i] :: s.drop (i + 1) := by
  have e := List.drop_eq_getElem_cons (show i - f < (s.drop f).length by rw [List.length_drop]; omega)
  have e2 := (List.take_append_drop (i - f) (s.drop f)).symm
  rw [e, List.getElem_drop, List.drop_drop] at e2
  have h1 : s[f + (i - f)] = s[i] := by congr 1; omega
  rw [h1, show f + (i - f + 1) = i + 1 by omega] at e2
  exact e2
theorem Far.dot {s : List UInt8} {i f : Nat} {D : List (List UInt8)} (h : Far s i f D) (hi : i < s.length) (hb : s[i] = 46) : Far s (i + 1) (i + 1) (D ++ [(s.drop f).take (i - f)]) := by
  rcases h with ⟨_, h1, h2, h3⟩ | ⟨h, _⟩
  · refine .inl ⟨hi, Nat.le_refl _, ?_, by rw [Nat.sub_self]; rfl⟩
    rw [Far.seg h1 hi, hb, pt_cut _ _ h3] at h2
    rw [List.append_assoc]
    exact h2
  · omega
theorem Far.last {s : List UInt8} {f : Nat} {D : List (List UInt8)} (h : Far s s.length f D) : Far s (s.length + 1) (s.length + 1) (D ++ [(s.drop f).take (s.length - f)]) := by
  rcases h with ⟨_, h1, h2, h3⟩ | ⟨h, _⟩
  · refine .inr ⟨rfl, ?_⟩
    rw [← h2]
    congr 1
    have e : (s.drop f).take (s.length - f) = s.drop f := List.take_of_length_le (by rw [List.length_drop]; omega)
    rw [e] at h3 ⊢
    exact (pt_plain _ h3).symm
  · omega
theorem Far.done {s : List UInt8} {f : Nat} {D : List (List UInt8)} (h : Far s (s.length + 1) f D) : D = pt s := by
  rcases h with ⟨h, _⟩ | ⟨_, h⟩
  · omega
  · exact h
theorem Far.le {s : List UInt8} {i f : Nat} {D : List (List UInt8)} (h : Far s i f D) (hi : i ≤ s.length) : f ≤ i := by
  rcases h with ⟨_, h, _⟩ | ⟨h, _⟩
  · exact h
  · omega
theorem cutB (s : List UInt8) (f i : Nat) : (⟨s.toArray⟩ : ByteArray).extract f i = ⟨((s.drop f).take (i - f)).toArray⟩ := by
  apply ByteArray.ext
  rw [ByteArray.data_extract]
  apply Array.toList_inj.1
  simp
end Nm
theorem strinfoN : (Tryz.prog.info? 9).map (fun i => (i.zero, i.size, i.bytes)) = some (some (.string ⟨#[]⟩), 1, 16) := by kernel_rfl
theorem OwnS.slice {base : Nat} {w : World} {v : Value} {l : List (List UInt8)} (h : OwnS base w v l) : ∃ A c, v = .slice A l.length c := by
  rcases h.2 with ⟨rfl, h0⟩ | ⟨g', cap, cur, rfl, _⟩
  · exact ⟨none, 0, by rw [h0]⟩
  · exact ⟨_, _, rfl⟩
theorem OwnS.more {base : Nat} {w2 : World} {v2 : Value} {D : List (List UInt8)} {p : List UInt8} (h : w2.ownsRow base 9 1 v2 (D.length + 1) (byS D ++ [.string ⟨p.toArray⟩])) : OwnS base w2 v2 (D ++ [p]) := by
  unfold OwnS
  rw [List.length_append, List.length_singleton, byS_append]
  exact h

set_option maxHeartbeats 2000000 in
theorem refParts_any (s : List UInt8) (hl : s.length ≤ 4294967270) (w : World) :
    Calls Tryz.prog 37 #[.string ⟨s.toArray⟩] w fun e w' => ∃ v, e = .returned v ∧ OwnS w.heap.size w' v (Nm.pt s) ∧ Below w.heap.size w w' := by
  have hs : (⟨s.toArray⟩ : ByteArray).size = s.length := by show s.toArray.size = _; simp
  obtain ⟨i0, hi, hz0, hz1, hz2⟩ := info_parts strinfoN
  have HI := Lib.hid hi
  have HZ := Lib.hid (And.intro hz0 (And.intro hz1 hz2))
  clear hi hz0 hz1 hz2
  have hpl := Nm.pt_len s
  go_enter Tryz.func37, Tryz.ntmps37
  go_wp2_with fail
  go_loopw [3, 4, 5] (fun v x y wr => ∃ (i f : Nat) (D : List (List UInt8)), i ≤ s.length + 1 ∧ x = .int .i64 f ∧ y = .int .i64 i ∧ Hid (Nm.Far s i f D) ∧ Hid (OwnS w.heap.size wr v D) ∧ Hid (Below w.heap.size w wr)) (fun _ _ y _ => s.length + 1 - (intOf y).toNat)
  case atStart => exact ⟨0, 0, [], by omega, rfl, rfl, Lib.hid (Nm.Far.start s), Lib.hid (OwnS.nil _ _), Lib.hid (Below.refl _ _)⟩
  case round =>
    obtain ⟨i, f, D, hi, rfl, rfl, HF, HO, HB⟩ := hrel
    obtain ⟨A, c, rfl⟩ := HO.out.slice
    have hDl := HF.out.len
    have hws := HB.out.size
    have hsl : (s.length : Int) ≤ 4294967270 := by omega
    have hlen : (((⟨s.toArray⟩ : ByteArray).size : Nat) : Int) = (s.length : Int) := by rw [hs]
    by_cases hend : i ≤ s.length
    · have hie : (i : Int) ≤ (s.length : Int) := by omega
      have hfi := HF.out.le hend
      have hfi' : (f : Int) ≤ (i : Int) := by omega
      have hf0 : (0 : Int) ≤ (f : Int) := by omega
      have hi0 : (0 : Int) ≤ (i : Int) := by omega
      have hcut := Nm.cutB s f i
      by_cases hlt : i < s.length
      · have hil : (i : Int) < (s.length : Int) := by omega
        have hne : ((i : Int) == (s.length : Int)) = false := by simp; omega
        have hx : (⟨s.toArray⟩ : ByteArray)[i]'hlt = s[i] := rfl
        by_cases hd : s[i] = 46
        · have HFn := Lib.hid (HF.out.dot hlt hd)
          have hq : ((((⟨s.toArray⟩ : ByteArray)[i]'hlt).toNat : Int) == 46) = true := by rw [hx, hd]; rfl
          clear hx hd
          generalize (s.drop f).take (i - f) = seg at *
          have HO1 : Hid (OwnS w.heap.size (wr.alloc (.cells #[.string ⟨seg.toArray⟩] 9)) (.slice A D.length c) D) := Lib.hid (HO.out.below ((Below.refl _ _).alloc (Nat.le_refl _) _))
          have HFr := Lib.hid (Rd.fresh wr [.string ⟨seg.toArray⟩] 9 wr.heap.size rfl)
          go_wp2_with (at_builtin; refine wpList_app _ rfl (.tmp 22) (.tmp 27) 27 rfl w.heap.size 9 i0 (.string ⟨#[]⟩) 1 16 Tryz.underlying27 HI.out HZ.out.1 HZ.out.2.1 HZ.out.2.2 rfl (by decide) (.slice A D.length c) D.length (byS D) rfl HO1.out (fun b => b = wr.heap.size) (some ⟨wr.heap.size, 0, none⟩) 1 1 [.string ⟨seg.toArray⟩] rfl rfl HFr.out (by intro u hu; simp at hu; subst hu; rfl) (by unfold maxLen; omega) (by omega) (by simp; omega) ?_; intro v2 w2 hown2 hg2 hat2 hnil2)
          have HN := Lib.hid (OwnS.more hown2)
          have HB2 := Lib.hid ((HB.out.alloc hws _).grown hg2 (by simp; omega) fun g e => (World.ownsRow.lt HO1.out g e).1)
          clear hown2 hg2 hat2 hnil2
          go_roundw
          case rel => exact ⟨i + 1, i + 1, D ++ [seg], by omega, by go_num, by go_num, HFn, HN, HB2⟩
          case measure => simp [intOf]; omega
        · have HFn := Lib.hid (HF.out.plain hlt hd)
          have hq : ((((⟨s.toArray⟩ : ByteArray)[i]'hlt).toNat : Int) == 46) = false := by
            rw [hx]
            simp only [beq_eq_false_iff_ne, ne_eq]
            intro e
            exact hd (UInt8.toNat_inj.1 (by have : s[i].toNat = 46 := by omega
                                            rw [this]; rfl))
          clear hx hd
          go_wp2_with fail
          go_roundw
          case rel => exact ⟨i + 1, f, D, by omega, rfl, by go_num, HFn, HO, HB⟩
          case measure => simp [intOf]; omega
      · obtain rfl : i = s.length := by omega
        have HFn := Lib.hid HF.out.last
        generalize (s.drop f).take (s.length - f) = seg at *
        have HO1 : Hid (OwnS w.heap.size (wr.alloc (.cells #[.string ⟨seg.toArray⟩] 9)) (.slice A D.length c) D) := Lib.hid (HO.out.below ((Below.refl _ _).alloc (Nat.le_refl _) _))
        have HFr := Lib.hid (Rd.fresh wr [.string ⟨seg.toArray⟩] 9 wr.heap.size rfl)
        go_wp2_with (at_builtin; refine wpList_app _ rfl (.tmp 22) (.tmp 27) 27 rfl w.heap.size 9 i0 (.string ⟨#[]⟩) 1 16 Tryz.underlying27 HI.out HZ.out.1 HZ.out.2.1 HZ.out.2.2 rfl (by decide) (.slice A D.length c) D.length (byS D) rfl HO1.out (fun b => b = wr.heap.size) (some ⟨wr.heap.size, 0, none⟩) 1 1 [.string ⟨seg.toArray⟩] rfl rfl HFr.out (by intro u hu; simp at hu; subst hu; rfl) (by unfold maxLen; omega) (by omega) (by simp; omega) ?_; intro v2 w2 hown2 hg2 hat2 hnil2)
        have HN := Lib.hid (OwnS.more hown2)
        have HB2 := Lib.hid ((HB.out.alloc hws _).grown hg2 (by simp; omega) fun g e => (World.ownsRow.lt HO1.out g e).1)
        clear hown2 hg2 hat2 hnil2
        go_roundw
        case rel => exact ⟨s.length + 1, s.length + 1, D ++ [seg], by omega, by go_num, by go_num, HFn, HN, HB2⟩
        case measure => first | (simp [intOf]; done) | (simp [intOf]; omega)
    · obtain rfl : i = s.length + 1 := by omega
      have HP := Lib.hid HF.out.done
      have hni : ¬ (s.length : Int) + 1 ≤ (s.length : Int) := by omega
      go_wp2
      go_ret
      exact ⟨_, rfl, by rw [← HP.out]; exact HO.out, HB.out⟩
end Go.Proofs.YtfmbbhcjnidcbaaGreatDoor

namespace Go.Proofs.YtfmbbhcjnidcbaaGreatDoor
open Go.RowKit
open Me

namespace Tr
theorem rd_S {base : Nat} {w : World} {v : Value} {l : List (List UInt8)} (h : OwnS base w v l) : ∃ A c, v = .slice A l.length c ∧ Rd w (fun _ => True) A (byS l) := by
  obtain ⟨A, c, rfl⟩ := h.slice
  exact ⟨A, c, rfl, (Rd.own h).mono fun _ _ _ => trivial⟩
theorem ltP_drop (x y : Path) (k : Nat) (hx : k < x.length) (hy : k < y.length) : ltP (x.drop k) (y.drop k) = if x[k] = y[k] then ltP (x.drop (k + 1)) (y.drop (k + 1)) else decide (x[k] < y[k]) := by
  rw [List.drop_eq_getElem_cons hx, List.drop_eq_getElem_cons hy, ltP_cons]
theorem ltP_end (x y : Path) (k : Nat) (hx : k ≤ x.length) (hy : k ≤ y.length) (h : ¬ (k < x.length ∧ k < y.length)) : ltP (x.drop k) (y.drop k) = decide (x.length < y.length) := by
  by_cases h1 : k < x.length
  · have h2 : y.length ≤ k := by omega
    rw [List.drop_eq_getElem_cons h1, List.drop_eq_nil_of_le h2]
    show false = _
    rw [decide_eq_false (by omega)]
  · rw [List.drop_eq_nil_of_le (by omega : x.length ≤ k)]
    by_cases h2 : k < y.length
    · rw [List.drop_eq_getElem_cons h2]
      show true = _
      rw [decide_eq_true (by omega)]
    · rw [List.drop_eq_nil_of_le (by omega : y.length ≤ k)]
      show false = _
      rw [decide_eq_false (by omega)]
end Tr

set_option maxHeartbeats 1000000 in
theorem refBefore_any (a b : List UInt8) (ha : a.length ≤ 4294967270) (hb : b.length ≤ 4294967270) (w : World) :
    Calls Tryz.prog 23 #[.string ⟨a.toArray⟩, .string ⟨b.toArray⟩] w fun e w' => e = .returned (.bool (Tr.ltP (Nm.pt a) (Nm.pt b))) ∧ Below w.heap.size w w' := by
  have HA := Lib.hid (refParts_any a ha w)
  have HB := Lib.hid fun W => refParts_any b hb W
  have hla := Nm.pt_len a
  have hlb := Nm.pt_len b
  have hla9 : ((Nm.pt a).length : Int) ≤ 4294967280 := by omega
  have hlb9 : ((Nm.pt b).length : Int) ≤ 4294967280 := by omega
  clear hla hlb
  go_enter Tryz.func23, Tryz.ntmps23
  have HR : Hid (Tr.ltP (Nm.pt a) (Nm.pt b) = Tr.ltP ((Nm.pt a).drop 0) ((Nm.pt b).drop 0)) := Lib.hid rfl
  generalize Tr.ltP (Nm.pt a) (Nm.pt b) = R at *
  go_wp2_with first
    | (go_at_call 37; ((with_reducible refine HA.out.mono ?_); rintro e w1 ⟨v1, rfl, ho1, hb1⟩))
    | (go_at_call 37; ((with_reducible refine (HB.out _).mono ?_); rintro e w2 ⟨v2, rfl, ho2, hb2⟩; obtain ⟨A, c, rfl, hr1⟩ := Tr.rd_S ho1; obtain ⟨A', c', rfl, hr2⟩ := Tr.rd_S ho2; have HR1 := Lib.hid (hr1.below hb2); have HR2 := Lib.hid hr2; have HW2 := Lib.hid (hb1.trans (hb2.mono hb1.size)); clear ho1 ho2 hr1 hr2))
  clear HA HB
  generalize Nm.pt a = x at *
  generalize Nm.pt b = y at *
  go_loopw [7] (fun i wr => ∃ k : Nat, k ≤ x.length ∧ k ≤ y.length ∧ i = .int .i64 k ∧ Hid (Below w2.heap.size w2 wr) ∧ Hid (R = Tr.ltP (x.drop k) (y.drop k))) (fun i _ => x.length - (intOf i).toNat)
  case atStart => exact ⟨0, Nat.zero_le _, Nat.zero_le _, rfl, Lib.hid (Below.refl _ _), HR⟩
  case round =>
    obtain ⟨k, hkx, hky, rfl, HW, HRk⟩ := hrel
    have hk0 : (0 : Int) ≤ (k : Int) := by omega
    by_cases h1 : k < x.length
    · have h1I : (k : Int) < (x.length : Int) := by omega
      by_cases h2 : k < y.length
      · have h2I : (k : Int) < (y.length : Int) := by omega
        obtain ⟨lb, lo, rfl, hlb, _, hx⟩ := HR1.out.lit k (by rw [byS_len]; exact h1)
        obtain ⟨lb', lo', rfl, hlb', _, hy⟩ := HR2.out.lit k (by rw [byS_len]; exact h2)
        have ec := (HW.out.cell (p := ⟨lb, lo + k, none⟩) hlb).trans (hx k _ (byS_get x k h1))
        have ec' := (HW.out.cell (p := ⟨lb', lo' + k, none⟩) hlb').trans (hy k _ (byS_get y k h2))
        have HS := Lib.hid (HRk.out.trans (Tr.ltP_drop x y k h1 h2))
        clear hx hy HRk
        by_cases he : x[k] = y[k]
        · have HS1 : Hid (R = Tr.ltP (x.drop (k + 1)) (y.drop (k + 1))) := Lib.hid (by rw [HS.out, if_pos he])
          rw [← he] at ec'
          clear HS he
          generalize x[k] = p at *
          have hself : (p == p) = true := by simp
          go_wp2_with fail
          go_region
          all_goals
            go_wp2_with fail
            go_roundw
            case rel => exact ⟨k + 1, by omega, by omega, by go_num, Lib.hid HW.out.drew, HS1⟩
            case measure => simp [intOf]; omega
        · have HS1 : Hid (R = Op.bytesLess x[k] y[k]) := Lib.hid (by rw [HS.out, if_neg he, Go.Proofs.bytesLess_eq])
          have hne : (x[k] == y[k]) = false := by rw [beq_eq_false_iff_ne]; exact he
          clear HS
          generalize x[k] = p at *
          generalize y[k] = q at *
          go_wp2_with fail
          go_region
          all_goals
            go_wp2_with fail
            go_region
            all_goals
              go_wp2_with fail
              go_ret
              exact ⟨by rw [HS1.out]; rfl, (HW2.out.trans (HW.out.mono HW2.out.size)).drew.drew⟩
      · have HS := Lib.hid (HRk.out.trans (Tr.ltP_end x y k hkx hky (fun h => h2 h.2)))
        have h2I : ¬ (k : Int) < (y.length : Int) := by omega
        clear HRk
        go_wp2_with fail
        go_ret
        exact ⟨by rw [HS.out]; first | rfl | (congr 2; simp), HW2.out.trans (HW.out.mono HW2.out.size)⟩
    · have HS := Lib.hid (HRk.out.trans (Tr.ltP_end x y k hkx hky (fun h => h1 h.1)))
      have h1I : ¬ (k : Int) < (x.length : Int) := by omega
      clear HRk
      go_wp2_with fail
      go_ret
      exact ⟨by rw [HS.out]; first | rfl | (congr 2; simp), HW2.out.trans (HW.out.mono HW2.out.size)⟩
end Go.Proofs.YtfmbbhcjnidcbaaGreatDoor

namespace Go.Proofs.YtfmbbhcjnidcbaaGreatDoor
open Go.RowKit
open Me

namespace Tr
/-- The document's names in memory: a box with a slice; its row lies in blocks of G. -/
def RefAt (w : World) (G : Nat → Prop) (xb : Nat) (L : List (List UInt8)) : Prop :=
  ∃ A c, RowAt w xb 29 #[.slice A L.length c] ∧ L.length ≤ c ∧ c ≤ maxLen ∧ Rd w G A (byS L)
theorem RefAt.below {w w' : World} {G : Nat → Prop} {xb : Nat} {L : List (List UInt8)} (h : RefAt w G xb L) (hb : Below w.heap.size w w') : RefAt w' G xb L := by
  obtain ⟨A, c, h1, h2, h3, h4⟩ := h
  exact ⟨A, c, h1.below hb h1.lt, h2, h3, h4.below hb⟩
theorem RefAt.kp {w w' : World} {G O : Nat → Prop} {xb : Nat} {L : List (List UInt8)} (h : RefAt w G xb L) (hk : Kp O w w') (hx : ¬ O xb) (hG : ∀ i, i < w.heap.size → G i → ¬ O i) : RefAt w' G xb L := by
  obtain ⟨A, c, h1, h2, h3, h4⟩ := h
  exact ⟨A, c, (hk.block _ h1.lt hx).trans h1, h2, h3, h4.kp hk hG⟩
end Tr

set_option maxHeartbeats 1000000 in
theorem refHas10_any {G : Nat → Prop} {xb : Nat} {L : List (List UInt8)} (s : List UInt8) (w : World) (h : Tr.RefAt w G xb L) (hn : L.length ≤ 1099511627776) :
    Calls Tryz.prog 14 #[.pointer (some ⟨xb, 0, none⟩), .string ⟨s.toArray⟩] w fun e w' => e = .returned (.bool (decide (s ∈ L))) ∧ Below w.heap.size w w' := by
  obtain ⟨A, c, hx, hc, hcm, hr⟩ := h
  have HR := Lib.hid hr
  have hxl := hx.lt
  have c0 : w.cell? ⟨xb, 0, none⟩ = some (.slice A L.length c) := by rw [hx.cell]; rfl
  have hL9 : (L.length : Int) ≤ 1099511627776 := by omega
  clear hr hx hc hcm
  go_enter Tryz.func14, Tryz.ntmps14
  go_wp2_with fail
  go_loopw [5] (fun i wr => ∃ k : Nat, k ≤ L.length ∧ i = .int .i64 k ∧ Hid (Below w.heap.size w wr) ∧ Hid (∀ j (h : j < L.length), j < k → L[j] ≠ s)) (fun i _ => L.length - (intOf i).toNat)
  case atStart => exact ⟨0, Nat.zero_le _, rfl, Lib.hid (Below.refl _ _), Lib.hid fun _ _ h => absurd h (Nat.not_lt_zero _)⟩
  case round =>
    obtain ⟨k, hk, rfl, HW, HN⟩ := hrel
    have hk0 : (0 : Int) ≤ (k : Int) := by omega
    have d0 := (HW.out.cell (p := ⟨xb, 0, none⟩) hxl).trans c0
    by_cases h1 : k < L.length
    · have h1I : (k : Int) < (L.length : Int) := by omega
      obtain ⟨lb, lo, rfl, hlb, _, hx⟩ := HR.out.lit k (by rw [byS_len]; exact h1)
      have ec := (HW.out.cell (p := ⟨lb, lo + k, none⟩) hlb).trans (hx k _ (byS_get L k h1))
      clear hx
      by_cases he : L[k] = s
      · have HQ : Hid (decide (s ∈ L) = true) := Lib.hid (by rw [decide_eq_true_iff, ← he]; exact List.getElem_mem h1)
        rw [he] at ec
        have hself : (s == s) = true := by simp
        clear HN
        go_wp2_with fail
        go_ret
        exact ⟨by rw [HQ.out]; rfl, HW.out⟩
      · have HN2 : Hid (∀ j (h : j < L.length), j < k + 1 → L[j] ≠ s) := Lib.hid fun j h hj => by
          by_cases e : j = k
          · subst e; exact he
          · exact HN.out j h (by omega)
        have hne : (L[k] == s) = false := by rw [beq_eq_false_iff_ne]; exact he
        clear HN he
        generalize L[k] = p at *
        go_wp2_with fail
        go_roundw
        case rel => exact ⟨k + 1, by omega, by go_num, HW, HN2⟩
        case measure => simp [intOf]; omega
    · have h1I : ¬ (k : Int) < (L.length : Int) := by omega
      have HQ : Hid (decide (s ∈ L) = false) := Lib.hid (by
        rw [decide_eq_false_iff_not]
        intro hm
        obtain ⟨j, hj, e⟩ := List.getElem_of_mem hm
        exact HN.out j hj (by omega) e)
      clear HN
      go_wp2_with fail
      go_ret
      exact ⟨by rw [HQ.out]; rfl, HW.out⟩
end Go.Proofs.YtfmbbhcjnidcbaaGreatDoor
