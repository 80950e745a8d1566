/-
  CONTRACTS: chapter 3's law: what the files tell is alike.
-/
import Derived.Test.YtiacpopgnmledaaVpList
import Derived.Test.YtiacpopgnmledaaVrLst
import Derived.Test.YtiacpopgnmledaaVsAct6
import Derived.Test.YtiacpopgnmledaaInv
import Derived.Deep.DeepCutAuto
namespace Go.Proofs.Ytiacpopgnmledaa
open Go.RowKit
open Me Vf
namespace Vf
theorem tell_name {l : List Fl} {n : List UInt8} (hg : ∀ f ∈ l, is f.name = true) (h : n ∈ names l) : Vf.size l n = (((bytesAt l n).length : Int), 0) ∧ Vf.read l n 0 ((bytesAt l n).length : Int) = (bytesAt l n, 0) := by
  have hp := (names_from l [] List.Pairwise.nil).2
  have h2 : n ∈ l.map (·.name) := by
    have := hp.mem_iff.1 h
    rwa [List.nil_append] at this
  obtain ⟨f, hf, rfl⟩ := List.mem_map.1 h2
  have hi := hg f hf
  have hx : ¬ ix l f.name < 0 := by
    rcases Vp.ixFrom_look f.name l 0 with ⟨h0, _⟩ | ⟨j, hj, e, _⟩
    · exact absurd rfl (Vp.look_none_mem h0 f hf)
    · unfold ix
      rw [e]
      omega
  refine ⟨?_, ?_⟩
  · unfold Vf.size
    rw [if_neg (by simp [hi]), if_neg hx]
    rfl
  · unfold Vf.read
    rw [if_neg (by simp [hi]), if_neg hx, if_neg (by omega)]
    simp
end Vf
namespace Vs
/-- All that files tell of themselves. -/
theorem Duo.tells {w W : World} {U : Nat → Prop} {fs xs N c : Nat} {S : Sv} (h : Duo w U fs xs N c S S) (hN : N ≤ 1048576) (hc : c ≤ 4096) (hb : Below w.heap.size w W) :
    (Calls Try.prog 30 #[.pointer (some ⟨fs, 0, none⟩)] W fun e w' => ∃ v, e = .returned v ∧ Ss w' (fun i => W.heap.size ≤ i) v (Vf.names S.now) ∧ Below W.heap.size W w') ∧
    (Calls Try.prog 31 #[.pointer (some ⟨xs, 0, none⟩)] W fun e w' => ∃ v, e = .returned v ∧ Ss w' (fun i => W.heap.size ≤ i) v (Vf.names S.now) ∧ Below W.heap.size W w') ∧
    (Calls Try.prog 32 #[.pointer (some ⟨fs, 0, none⟩)] W fun e w' => e = .returned (.int .i64 (Vf.used S.now : Int)) ∧ W = w') ∧
    (Calls Try.prog 33 #[.pointer (some ⟨xs, 0, none⟩)] W fun e w' => e = .returned (.int .i64 (Vf.used S.now : Int)) ∧ W = w') ∧
    (Calls Try.prog 34 #[.pointer (some ⟨fs, 0, none⟩)] W fun e w' => e = .returned (.int .i64 (S.l.length : Int)) ∧ W = w') ∧
    (Calls Try.prog 35 #[.pointer (some ⟨xs, 0, none⟩)] W fun e w' => e = .returned (.int .i64 (S.l.length : Int)) ∧ W = w') := by
  obtain ⟨M, G, lr, nv, wv, lv, ys, h1, h2, h3, h4, _⟩ := h.below hb
  have i1 := h4.last
  have i2 := h4.room1
  have i3 := h4.len
  exact ⟨plist_any h1 hN, list_any h2 (by omega), pused_any h1, used_any h2 (by omega) (by omega), ppending_any h1 hN, pending_any h2 (by omega)⟩
end Vs

set_option maxRecDepth 100000 in
set_option maxHeartbeats 4000000 in
theorem alike_any {w : World} {U : Nat → Prop} {fs xs N c : Nat} {S : Sv} (h : Vs.Duo w U fs xs N c S S) (hN : N ≤ 1048576) (hc : c ≤ 4096) (hg : ∀ f ∈ S.now, is f.name = true) :
    Calls Try.prog 10 #[.pointer (some ⟨fs, 0, none⟩), .pointer (some ⟨xs, 0, none⟩)] w fun e w' => e = .returned (.bool true) ∧ Below w.heap.size w w' := by
  have HT := Lib.hid (fun (W : World) (hb : Below w.heap.size w W) => h.tells hN hc hb)
  have HNM : Hid (∀ k (hk : k < (names S.now).length), ∃ d : List UInt8, d.length ≤ 1073741824 ∧ ∀ W, Below w.heap.size w W →
      (Calls Try.prog 28 #[.pointer (some ⟨fs, 0, none⟩), .string ⟨(names S.now)[k].toArray⟩] W fun e w' => e = .returned (.tuple #[.int .i64 (d.length : Int), .int .i64 0]) ∧ W = w') ∧
      (Calls Try.prog 29 #[.pointer (some ⟨xs, 0, none⟩), .string ⟨(names S.now)[k].toArray⟩] W fun e w' => e = .returned (.tuple #[.int .i64 (d.length : Int), .int .i64 0]) ∧ W = w') ∧
      (Calls Try.prog 20 #[.pointer (some ⟨fs, 0, none⟩), .string ⟨(names S.now)[k].toArray⟩, .int .i64 0, .int .i64 (d.length : Int)] W (Vf.Handed W (d, 0))) ∧
      (Calls Try.prog 27 #[.pointer (some ⟨xs, 0, none⟩), .string ⟨(names S.now)[k].toArray⟩, .int .i64 0, .int .i64 (d.length : Int)] W (Vf.Handed W (d, 0)))) := Lib.hid (fun k hk => by
    obtain ⟨t1, t2⟩ := Vf.tell_name hg (List.getElem_mem hk)
    refine ⟨bytesAt S.now (names S.now)[k], ?_, fun W hb => ?_⟩
    · have := (h.reads (Below.refl _ _) (names S.now)[k] 0 ((bytesAt S.now (names S.now)[k]).length : Int) (by omega) (by omega)).2.2
      rw [t2] at this
      exact this
    · have hs := (h.below hb).sizes (names S.now)[k] (by omega)
      have hr := h.reads hb (names S.now)[k] 0 ((bytesAt S.now (names S.now)[k]).length : Int) (by omega) (by omega)
      rw [t1] at hs
      rw [t2] at hr
      exact ⟨hs.1, hs.2, hr.1, hr.2.1⟩)
  have HSAME := Lib.hid same_any
  have hLl : ((names S.now).length : Int) ≤ 4096 := by
    have h1 := Vf.names_len_take S.now S.now.length (Nat.le_refl _)
    rw [List.take_length] at h1
    obtain ⟨M, G, lr, nv, wv, lv, ys, _, _, _, h4, _⟩ := h
    have := h4.last
    omega
  clear h hg
  generalize names S.now = L at *
  generalize Vf.used S.now = us at *
  generalize S.l.length = pe at *
  go_enter Try.func10, Try.ntmps10
  go_wp2_with (first
    | (go_at_call 30; (with_reducible refine (HT.out _ (Below.refl _ _)).1.mono ?_); rintro e w1 ⟨v1, rfl, hs1, hb1⟩; have HB1 := Lib.hid hb1; obtain ⟨A1, c1, rfl, hc1, hm1, hr1⟩ := hs1; have HR1 := Lib.hid hr1; clear hr1 hb1)
    | (go_at_call 31; (with_reducible refine (HT.out _ HB1.out).2.1.mono ?_); rintro e w2 ⟨v2, rfl, hs2, hb2⟩; have HB2 := Lib.hid (HB1.out.trans (hb2.mono HB1.out.size)); have HB12 := Lib.hid hb2; obtain ⟨A2, c2, rfl, hc2, hm2, hr2⟩ := hs2; have HR2 := Lib.hid hr2; clear hr2 hb2)
    | (go_at_call 32; (with_reducible refine (HT.out _ HB2.out).2.2.1.mono ?_); rintro e w' ⟨rfl, rfl⟩)
    | (go_at_call 33; (with_reducible refine (HT.out _ HB2.out).2.2.2.1.mono ?_); rintro e w' ⟨rfl, rfl⟩)
    | (go_at_call 34; (with_reducible refine (HT.out _ HB2.out).2.2.2.2.1.mono ?_); rintro e w' ⟨rfl, rfl⟩)
    | (go_at_call 35; (with_reducible refine (HT.out _ HB2.out).2.2.2.2.2.mono ?_); rintro e w' ⟨rfl, rfl⟩))
  go_loopw [7] (fun i wr => ∃ k : Nat, k ≤ L.length ∧ i = .int .i64 k ∧ Below w2.heap.size w2 wr) (fun i _ => L.length - (intOf i).toNat)
  case atStart => exact ⟨0, Nat.zero_le _, rfl, Below.refl _ _⟩
  case round =>
    obtain ⟨k, hk, rfl, hb⟩ := hrel
    have HBR := Lib.hid hb
    by_cases hlt : k < L.length
    · obtain ⟨d, hd, hnm⟩ := HNM.out k hlt
      obtain ⟨lb, lo, rfl, hlb, _, hx1⟩ := (HR1.out.below HB12.out).lit k (by rw [byS_len]; omega)
      obtain ⟨mb, mo, rfl, hmb, _, hx2⟩ := HR2.out.lit k (by rw [byS_len]; omega)
      have HD : Hid (∀ W, Below w2.heap.size w2 W → W.cell? ⟨lb, lo + k, none⟩ = some (.string ⟨L[k].toArray⟩) ∧ W.cell? ⟨mb, mo + k, none⟩ = some (.string ⟨L[k].toArray⟩)) := Lib.hid (fun W hW => ⟨(hW.cell (p := ⟨lb, lo + k, none⟩) hlb).trans (hx1 k _ (byS_get L k hlt)), (hW.cell (p := ⟨mb, mo + k, none⟩) hmb).trans (hx2 k _ (byS_get L k hlt))⟩)
      have HNK := Lib.hid (fun (W : World) (hW : Below w2.heap.size w2 W) => hnm W (HB2.out.trans (hW.mono HB2.out.size)))
      clear hx1 hx2 hnm hlb hmb HT HNM
      generalize L[k] = n at *
      have hkI : (k : Int) < (L.length : Int) := by omega
      have hk0 : (0 : Int) ≤ (k : Int) := by omega
      obtain ⟨d0, e0⟩ := HD.out wr hb
      clear hb
      go_upto_region 11 with first
        | (go_at_call 28; (with_reducible refine (HNK.out _ HBR.out).1.mono ?_); rintro e w' ⟨rfl, rfl⟩)
        | (go_at_call 29; (with_reducible refine (HNK.out _ HBR.out).2.1.mono ?_); rintro e w' ⟨rfl, rfl⟩)
        | (go_at_call 20; (with_reducible refine (HNK.out _ HBR.out).2.2.1.mono ?_); rintro e w3 ⟨v3, rfl, hs3, hb3⟩; have HS3 := Lib.hid hs3; have HB3 := Lib.hid (HBR.out.trans (hb3.mono HBR.out.size)); obtain ⟨d3, e3⟩ := HD.out w3 HB3.out; obtain ⟨A3, c3, rfl, _⟩ := hs3; clear hb3)
        | (go_at_call 27; (with_reducible refine (HNK.out _ HB3.out).2.2.2.mono ?_); rintro e w4 ⟨v4, rfl, hs4, hb4⟩; have HS4 := Lib.hid hs4; have HS34 := Lib.hid (HS3.out.below hb4); have HB4 := Lib.hid (HB3.out.trans (hb4.mono HB3.out.size)); obtain ⟨A4, c4, rfl, _⟩ := hs4; clear hb4)
        | fail
      have HD4 : Hid (∀ W, Below w4.heap.size w4 W → W.cell? ⟨lb, lo + k, none⟩ = some (.string ⟨n.toArray⟩) ∧ W.cell? ⟨mb, mo + k, none⟩ = some (.string ⟨n.toArray⟩)) := Lib.hid (fun W hW => HD.out W (HB4.out.trans (hW.mono HB4.out.size)))
      have HSM : Hid (∀ W, Below w4.heap.size w4 W → Calls Try.prog 21 #[.slice A3 d.length c3, .slice A4 d.length c4] W fun e w' => ∃ v, e = .returned v ∧ v = .bool true ∧ Below W.heap.size W w') := Lib.hid (fun W hW => by
        refine (HSAME.out d d _ _ _ _ W (HS34.out.below hW) (HS4.out.below hW) (by omega)).mono ?_
        rintro e w' ⟨rfl, hb⟩
        exact ⟨_, rfl, by simp, hb⟩)
      refine Inv.region (fun W W' => Below W.heap.size W W') (fun i v W => match i with
        | 0 => v = .slice (some ⟨lb, lo, none⟩) L.length c1
        | 1 => v = .int .i64 (k : Int)
        | 2 => v = .pointer (some ⟨lb, lo + k, none⟩)
        | 3 => v = (.string ⟨n.toArray⟩)
        | 4 => v = .slice (some ⟨mb, mo, none⟩) L.length c2
        | 5 => v = .int .i64 (k : Int)
        | 6 => v = .pointer (some ⟨mb, mo + k, none⟩)
        | 7 => v = (.string ⟨n.toArray⟩)
        | 8 => v = .bool false
        | 9 => v = .bool false
        | 10 => v = .int .i64 (d.length : Int)
        | 11 => v = .int .i64 (d.length : Int)
        | 12 => v = .bool false
        | 13 => v = .bool false
        | 14 => v = .bool false
        | 15 => v = .int .i64 0
        | 16 => v = .bool false
        | 17 => v = .bool false
        | 18 => v = .bool false
        | 19 => v = .int .i64 0
        | 20 => v = .bool false
        | 21 => v = .bool false
        | 22 => v = .bool false
        | 23 => v = .slice A3 d.length c3
        | 24 => v = .slice A4 d.length c4
        | 25 => v = .bool true
        | 26 => v = .bool false
        | 27 => v = .bool false
        | _ => True) (by kernel_rfl) (by kernel_rfl) (by kernel_rfl) (fun W => Below.refl _ _) (fun a b c h k => h.trans (k.mono h.size)) (fun i v W W' h he => ?stab) ?obls ?fin
      case stab =>
        match i, h with
        | 0, h => exact h
        | 1, h => exact h
        | 2, h => exact h
        | 3, h => exact h
        | 4, h => exact h
        | 5, h => exact h
        | 6, h => exact h
        | 7, h => exact h
        | 8, h => exact h
        | 9, h => exact h
        | 10, h => exact h
        | 11, h => exact h
        | 12, h => exact h
        | 13, h => exact h
        | 14, h => exact h
        | 15, h => exact h
        | 16, h => exact h
        | 17, h => exact h
        | 18, h => exact h
        | 19, h => exact h
        | 20, h => exact h
        | 21, h => exact h
        | 22, h => exact h
        | 23, h => exact h
        | 24, h => exact h
        | 25, h => exact h
        | 26, h => exact h
        | 27, h => exact h
        | _ + 28, h => exact h
      case obls =>
        refine .cons ?_ (.cons ?_ (.cons ?_ (.cons ?_ (.cons ?_ (.cons ?_ (.cons ?_ (.cons ?_ (.cons ?_ (.cons ?_ (.cons ?_ (.cons ?_ (.cons ?_ (.cons ?_ (.cons ?_ (.cons ?_ (.cons ?_ (.cons ?_ (.cons ?_ (.cons ?_ (.cons ?_ (.cons ?_ (.cons ?_ (.cons ?_ (.cons ?_ (.cons ?_ (.cons ?_ (.cons ?_ .nil)))))))))))))))))))))))))))
        · intro ac wx hE hf hd
          have hB : Below w4.heap.size w4 wx := ⟨hE.os, hE.tape, hE.output, hE.size, hE.block⟩
          rw [if_pos (Inv.want0 rfl _)]
          have h5 : ac.eval (.tmp 5) = .slice (some ⟨lb, lo, none⟩) L.length c1 := hf 5 (by kernel_rfl)
          clear hf hd
          obtain ⟨g0, g1⟩ := HD4.out wx hB
          refine Inv.val (.slice (some ⟨lb, lo, none⟩) L.length c1) ?_ rfl rfl (Below.refl _ _)
          clear hE hB
          generalize ac.eval = ev at *
          simp [execOp, go_sem, *]
        · intro ac wx hE hf hd
          have hB : Below w4.heap.size w4 wx := ⟨hE.os, hE.tape, hE.output, hE.size, hE.block⟩
          rw [if_pos (Inv.want0 rfl _)]
          have h7 : ac.eval (.tmp 7) = .int .i64 (k : Int) := hf 7 (by kernel_rfl)
          clear hf hd
          obtain ⟨g0, g1⟩ := HD4.out wx hB
          refine Inv.val (.int .i64 (k : Int)) ?_ rfl rfl (Below.refl _ _)
          clear hE hB
          generalize ac.eval = ev at *
          simp [execOp, go_sem, *]
        · intro ac wx hE hf hd
          have hB : Below w4.heap.size w4 wx := ⟨hE.os, hE.tape, hE.output, hE.size, hE.block⟩
          rw [if_pos (Inv.want0 rfl _)]
          have h83 := hd 0 _ (by kernel_rfl) rfl
          change ac.eval (.tmp 83) = .slice (some ⟨lb, lo, none⟩) L.length c1 at h83
          have h84 := hd 1 _ (by kernel_rfl) rfl
          change ac.eval (.tmp 84) = .int .i64 (k : Int) at h84
          clear hf hd
          obtain ⟨g0, g1⟩ := HD4.out wx hB
          refine Inv.val (.pointer (some ⟨lb, lo + k, none⟩)) ?_ rfl rfl (Below.refl _ _)
          clear hE hB
          generalize ac.eval = ev at *
          simp [execOp, go_sem, *]
        · intro ac wx hE hf hd
          have hB : Below w4.heap.size w4 wx := ⟨hE.os, hE.tape, hE.output, hE.size, hE.block⟩
          rw [if_pos (Inv.want0 rfl _)]
          have h85 := hd 2 _ (by kernel_rfl) rfl
          change ac.eval (.tmp 85) = .pointer (some ⟨lb, lo + k, none⟩) at h85
          clear hf hd
          obtain ⟨g0, g1⟩ := HD4.out wx hB
          refine Inv.val ((.string ⟨n.toArray⟩)) ?_ rfl rfl (Below.refl _ _)
          clear hE hB
          generalize ac.eval = ev at *
          simp [execOp, go_sem, *]
        · intro ac wx hE hf hd
          have hB : Below w4.heap.size w4 wx := ⟨hE.os, hE.tape, hE.output, hE.size, hE.block⟩
          rw [if_pos (Inv.want0 rfl _)]
          have h6 : ac.eval (.tmp 6) = .slice (some ⟨mb, mo, none⟩) L.length c2 := hf 6 (by kernel_rfl)
          clear hf hd
          obtain ⟨g0, g1⟩ := HD4.out wx hB
          refine Inv.val (.slice (some ⟨mb, mo, none⟩) L.length c2) ?_ rfl rfl (Below.refl _ _)
          clear hE hB
          generalize ac.eval = ev at *
          simp [execOp, go_sem, *]
        · intro ac wx hE hf hd
          have hB : Below w4.heap.size w4 wx := ⟨hE.os, hE.tape, hE.output, hE.size, hE.block⟩
          rw [if_pos (Inv.want0 rfl _)]
          have h7 : ac.eval (.tmp 7) = .int .i64 (k : Int) := hf 7 (by kernel_rfl)
          clear hf hd
          obtain ⟨g0, g1⟩ := HD4.out wx hB
          refine Inv.val (.int .i64 (k : Int)) ?_ rfl rfl (Below.refl _ _)
          clear hE hB
          generalize ac.eval = ev at *
          simp [execOp, go_sem, *]
        · intro ac wx hE hf hd
          have hB : Below w4.heap.size w4 wx := ⟨hE.os, hE.tape, hE.output, hE.size, hE.block⟩
          rw [if_pos (Inv.want0 rfl _)]
          have h87 := hd 4 _ (by kernel_rfl) rfl
          change ac.eval (.tmp 87) = .slice (some ⟨mb, mo, none⟩) L.length c2 at h87
          have h88 := hd 5 _ (by kernel_rfl) rfl
          change ac.eval (.tmp 88) = .int .i64 (k : Int) at h88
          clear hf hd
          obtain ⟨g0, g1⟩ := HD4.out wx hB
          refine Inv.val (.pointer (some ⟨mb, mo + k, none⟩)) ?_ rfl rfl (Below.refl _ _)
          clear hE hB
          generalize ac.eval = ev at *
          simp [execOp, go_sem, *]
        · intro ac wx hE hf hd
          have hB : Below w4.heap.size w4 wx := ⟨hE.os, hE.tape, hE.output, hE.size, hE.block⟩
          rw [if_pos (Inv.want0 rfl _)]
          have h89 := hd 6 _ (by kernel_rfl) rfl
          change ac.eval (.tmp 89) = .pointer (some ⟨mb, mo + k, none⟩) at h89
          clear hf hd
          obtain ⟨g0, g1⟩ := HD4.out wx hB
          refine Inv.val ((.string ⟨n.toArray⟩)) ?_ rfl rfl (Below.refl _ _)
          clear hE hB
          generalize ac.eval = ev at *
          simp [execOp, go_sem, *]
        · intro ac wx hE hf hd
          have hB : Below w4.heap.size w4 wx := ⟨hE.os, hE.tape, hE.output, hE.size, hE.block⟩
          rw [if_pos (Inv.want0 rfl _)]
          have h86 := hd 3 _ (by kernel_rfl) rfl
          change ac.eval (.tmp 86) = (.string ⟨n.toArray⟩) at h86
          have h90 := hd 7 _ (by kernel_rfl) rfl
          change ac.eval (.tmp 90) = (.string ⟨n.toArray⟩) at h90
          clear hf hd
          obtain ⟨g0, g1⟩ := HD4.out wx hB
          refine Inv.val (.bool false) ?_ rfl rfl (Below.refl _ _)
          clear hE hB
          generalize ac.eval = ev at *
          simp [execOp, go_sem, *]
        · intro ac wx hE hf hd
          have hB : Below w4.heap.size w4 wx := ⟨hE.os, hE.tape, hE.output, hE.size, hE.block⟩
          rw [if_pos (Inv.want0 rfl _)]
          have h91 := hd 8 _ (by kernel_rfl) rfl
          change ac.eval (.tmp 91) = .bool false at h91
          clear hf hd
          obtain ⟨g0, g1⟩ := HD4.out wx hB
          refine Inv.val (.bool false) ?_ rfl rfl (Below.refl _ _)
          clear hE hB
          generalize ac.eval = ev at *
          simp [execOp, go_sem, *]
        · intro ac wx hE hf hd
          have hB : Below w4.heap.size w4 wx := ⟨hE.os, hE.tape, hE.output, hE.size, hE.block⟩
          have hg := hd 9 _ (by kernel_rfl) rfl
          change ac.eval (.tmp 92) = .bool false at hg
          rw [if_pos (Inv.want (j := 9) (b := false) (d := 92) rfl rfl rfl hg)]
          have h8 : ac.eval (.tmp 8) = .int .i64 (d.length : Int) := hf 8 (by kernel_rfl)
          clear hf hd
          obtain ⟨g0, g1⟩ := HD4.out wx hB
          refine Inv.val (.int .i64 (d.length : Int)) ?_ rfl rfl (Below.refl _ _)
          clear hE hB
          generalize ac.eval = ev at *
          simp [execOp, go_sem, *]
        · intro ac wx hE hf hd
          have hB : Below w4.heap.size w4 wx := ⟨hE.os, hE.tape, hE.output, hE.size, hE.block⟩
          have hg := hd 9 _ (by kernel_rfl) rfl
          change ac.eval (.tmp 92) = .bool false at hg
          rw [if_pos (Inv.want (j := 9) (b := false) (d := 92) rfl rfl rfl hg)]
          have h10 : ac.eval (.tmp 10) = .int .i64 (d.length : Int) := hf 10 (by kernel_rfl)
          clear hf hd
          obtain ⟨g0, g1⟩ := HD4.out wx hB
          refine Inv.val (.int .i64 (d.length : Int)) ?_ rfl rfl (Below.refl _ _)
          clear hE hB
          generalize ac.eval = ev at *
          simp [execOp, go_sem, *]
        · intro ac wx hE hf hd
          have hB : Below w4.heap.size w4 wx := ⟨hE.os, hE.tape, hE.output, hE.size, hE.block⟩
          have hg := hd 9 _ (by kernel_rfl) rfl
          change ac.eval (.tmp 92) = .bool false at hg
          rw [if_pos (Inv.want (j := 9) (b := false) (d := 92) rfl rfl rfl hg)]
          have h93 := hd 10 _ (by kernel_rfl) rfl
          change ac.eval (.tmp 93) = .int .i64 (d.length : Int) at h93
          have h94 := hd 11 _ (by kernel_rfl) rfl
          change ac.eval (.tmp 94) = .int .i64 (d.length : Int) at h94
          clear hf hd
          obtain ⟨g0, g1⟩ := HD4.out wx hB
          refine Inv.val (.bool false) ?_ rfl rfl (Below.refl _ _)
          clear hE hB
          generalize ac.eval = ev at *
          simp [execOp, go_sem, *]
        · intro ac wx hE hf hd
          have hB : Below w4.heap.size w4 wx := ⟨hE.os, hE.tape, hE.output, hE.size, hE.block⟩
          rw [if_pos (Inv.want0 rfl _)]
          have h92 := hd 9 _ (by kernel_rfl) rfl
          change ac.eval (.tmp 92) = .bool false at h92
          have h95 := hd 12 _ (by kernel_rfl) rfl
          change ac.eval (.tmp 95) = .bool false at h95
          clear hf hd
          obtain ⟨g0, g1⟩ := HD4.out wx hB
          refine Inv.val (.bool false) ?_ rfl rfl (Below.refl _ _)
          clear hE hB
          have hcst : ∀ v, ac.eval (.const v) = v := fun _ => rfl
          generalize ac.eval = ev at *
          simp [execOp, go_sem, *]
        · intro ac wx hE hf hd
          have hB : Below w4.heap.size w4 wx := ⟨hE.os, hE.tape, hE.output, hE.size, hE.block⟩
          rw [if_pos (Inv.want0 rfl _)]
          have h96 := hd 13 _ (by kernel_rfl) rfl
          change ac.eval (.tmp 96) = .bool false at h96
          clear hf hd
          obtain ⟨g0, g1⟩ := HD4.out wx hB
          refine Inv.val (.bool false) ?_ rfl rfl (Below.refl _ _)
          clear hE hB
          generalize ac.eval = ev at *
          simp [execOp, go_sem, *]
        · intro ac wx hE hf hd
          have hB : Below w4.heap.size w4 wx := ⟨hE.os, hE.tape, hE.output, hE.size, hE.block⟩
          have hg := hd 14 _ (by kernel_rfl) rfl
          change ac.eval (.tmp 97) = .bool false at hg
          rw [if_pos (Inv.want (j := 14) (b := false) (d := 97) rfl rfl rfl hg)]
          have h9 : ac.eval (.tmp 9) = .int .i64 0 := hf 9 (by kernel_rfl)
          clear hf hd
          obtain ⟨g0, g1⟩ := HD4.out wx hB
          refine Inv.val (.int .i64 0) ?_ rfl rfl (Below.refl _ _)
          clear hE hB
          generalize ac.eval = ev at *
          simp [execOp, go_sem, *]
        · intro ac wx hE hf hd
          have hB : Below w4.heap.size w4 wx := ⟨hE.os, hE.tape, hE.output, hE.size, hE.block⟩
          have hg := hd 14 _ (by kernel_rfl) rfl
          change ac.eval (.tmp 97) = .bool false at hg
          rw [if_pos (Inv.want (j := 14) (b := false) (d := 97) rfl rfl rfl hg)]
          have h98 := hd 15 _ (by kernel_rfl) rfl
          change ac.eval (.tmp 98) = .int .i64 0 at h98
          clear hf hd
          obtain ⟨g0, g1⟩ := HD4.out wx hB
          refine Inv.val (.bool false) ?_ rfl rfl (Below.refl _ _)
          clear hE hB
          have hcst : ∀ v, ac.eval (.const v) = v := fun _ => rfl
          generalize ac.eval = ev at *
          simp [execOp, go_sem, *]
        · intro ac wx hE hf hd
          have hB : Below w4.heap.size w4 wx := ⟨hE.os, hE.tape, hE.output, hE.size, hE.block⟩
          rw [if_pos (Inv.want0 rfl _)]
          have h97 := hd 14 _ (by kernel_rfl) rfl
          change ac.eval (.tmp 97) = .bool false at h97
          have h99 := hd 16 _ (by kernel_rfl) rfl
          change ac.eval (.tmp 99) = .bool false at h99
          clear hf hd
          obtain ⟨g0, g1⟩ := HD4.out wx hB
          refine Inv.val (.bool false) ?_ rfl rfl (Below.refl _ _)
          clear hE hB
          have hcst : ∀ v, ac.eval (.const v) = v := fun _ => rfl
          generalize ac.eval = ev at *
          simp [execOp, go_sem, *]
        · intro ac wx hE hf hd
          have hB : Below w4.heap.size w4 wx := ⟨hE.os, hE.tape, hE.output, hE.size, hE.block⟩
          rw [if_pos (Inv.want0 rfl _)]
          have h100 := hd 17 _ (by kernel_rfl) rfl
          change ac.eval (.tmp 100) = .bool false at h100
          clear hf hd
          obtain ⟨g0, g1⟩ := HD4.out wx hB
          refine Inv.val (.bool false) ?_ rfl rfl (Below.refl _ _)
          clear hE hB
          generalize ac.eval = ev at *
          simp [execOp, go_sem, *]
        · intro ac wx hE hf hd
          have hB : Below w4.heap.size w4 wx := ⟨hE.os, hE.tape, hE.output, hE.size, hE.block⟩
          have hg := hd 18 _ (by kernel_rfl) rfl
          change ac.eval (.tmp 101) = .bool false at hg
          rw [if_pos (Inv.want (j := 18) (b := false) (d := 101) rfl rfl rfl hg)]
          have h13 : ac.eval (.tmp 13) = .int .i64 0 := hf 13 (by kernel_rfl)
          clear hf hd
          obtain ⟨g0, g1⟩ := HD4.out wx hB
          refine Inv.val (.int .i64 0) ?_ rfl rfl (Below.refl _ _)
          clear hE hB
          generalize ac.eval = ev at *
          simp [execOp, go_sem, *]
        · intro ac wx hE hf hd
          have hB : Below w4.heap.size w4 wx := ⟨hE.os, hE.tape, hE.output, hE.size, hE.block⟩
          have hg := hd 18 _ (by kernel_rfl) rfl
          change ac.eval (.tmp 101) = .bool false at hg
          rw [if_pos (Inv.want (j := 18) (b := false) (d := 101) rfl rfl rfl hg)]
          have h102 := hd 19 _ (by kernel_rfl) rfl
          change ac.eval (.tmp 102) = .int .i64 0 at h102
          clear hf hd
          obtain ⟨g0, g1⟩ := HD4.out wx hB
          refine Inv.val (.bool false) ?_ rfl rfl (Below.refl _ _)
          clear hE hB
          have hcst : ∀ v, ac.eval (.const v) = v := fun _ => rfl
          generalize ac.eval = ev at *
          simp [execOp, go_sem, *]
        · intro ac wx hE hf hd
          have hB : Below w4.heap.size w4 wx := ⟨hE.os, hE.tape, hE.output, hE.size, hE.block⟩
          rw [if_pos (Inv.want0 rfl _)]
          have h101 := hd 18 _ (by kernel_rfl) rfl
          change ac.eval (.tmp 101) = .bool false at h101
          have h103 := hd 20 _ (by kernel_rfl) rfl
          change ac.eval (.tmp 103) = .bool false at h103
          clear hf hd
          obtain ⟨g0, g1⟩ := HD4.out wx hB
          refine Inv.val (.bool false) ?_ rfl rfl (Below.refl _ _)
          clear hE hB
          have hcst : ∀ v, ac.eval (.const v) = v := fun _ => rfl
          generalize ac.eval = ev at *
          simp [execOp, go_sem, *]
        · intro ac wx hE hf hd
          have hB : Below w4.heap.size w4 wx := ⟨hE.os, hE.tape, hE.output, hE.size, hE.block⟩
          rw [if_pos (Inv.want0 rfl _)]
          have h104 := hd 21 _ (by kernel_rfl) rfl
          change ac.eval (.tmp 104) = .bool false at h104
          clear hf hd
          obtain ⟨g0, g1⟩ := HD4.out wx hB
          refine Inv.val (.bool false) ?_ rfl rfl (Below.refl _ _)
          clear hE hB
          generalize ac.eval = ev at *
          simp [execOp, go_sem, *]
        · intro ac wx hE hf hd
          have hB : Below w4.heap.size w4 wx := ⟨hE.os, hE.tape, hE.output, hE.size, hE.block⟩
          have hg := hd 22 _ (by kernel_rfl) rfl
          change ac.eval (.tmp 105) = .bool false at hg
          rw [if_pos (Inv.want (j := 22) (b := false) (d := 105) rfl rfl rfl hg)]
          have h12 : ac.eval (.tmp 12) = .slice A3 d.length c3 := hf 12 (by kernel_rfl)
          clear hf hd
          obtain ⟨g0, g1⟩ := HD4.out wx hB
          refine Inv.val (.slice A3 d.length c3) ?_ rfl rfl (Below.refl _ _)
          clear hE hB
          generalize ac.eval = ev at *
          simp [execOp, go_sem, *]
        · intro ac wx hE hf hd
          have hB : Below w4.heap.size w4 wx := ⟨hE.os, hE.tape, hE.output, hE.size, hE.block⟩
          have hg := hd 22 _ (by kernel_rfl) rfl
          change ac.eval (.tmp 105) = .bool false at hg
          rw [if_pos (Inv.want (j := 22) (b := false) (d := 105) rfl rfl rfl hg)]
          have h14 : ac.eval (.tmp 14) = .slice A4 d.length c4 := hf 14 (by kernel_rfl)
          clear hf hd
          obtain ⟨g0, g1⟩ := HD4.out wx hB
          refine Inv.val (.slice A4 d.length c4) ?_ rfl rfl (Below.refl _ _)
          clear hE hB
          generalize ac.eval = ev at *
          simp [execOp, go_sem, *]
        · intro ac wx hE hf hd
          have hB : Below w4.heap.size w4 wx := ⟨hE.os, hE.tape, hE.output, hE.size, hE.block⟩
          have hg := hd 22 _ (by kernel_rfl) rfl
          change ac.eval (.tmp 105) = .bool false at hg
          rw [if_pos (Inv.want (j := 22) (b := false) (d := 105) rfl rfl rfl hg)]
          have h106 := hd 23 _ (by kernel_rfl) rfl
          change ac.eval (.tmp 106) = .slice A3 d.length c3 at h106
          have h107 := hd 24 _ (by kernel_rfl) rfl
          change ac.eval (.tmp 107) = .slice A4 d.length c4 at h107
          clear hf hd
          refine Inv.go (f := 21) (xs := #[.slice A3 d.length c3, .slice A4 d.length c4]) ?_ rfl ?_
          · clear hE hB
            have hfn : ac.eval (.func 21) = .func (.func 21) #[] #[] := rfl
            generalize ac.eval = ev at *
            simp [execOp, go_sem, *]
          · exact HSM.out wx hB
        · intro ac wx hE hf hd
          have hB : Below w4.heap.size w4 wx := ⟨hE.os, hE.tape, hE.output, hE.size, hE.block⟩
          have hg := hd 22 _ (by kernel_rfl) rfl
          change ac.eval (.tmp 105) = .bool false at hg
          rw [if_pos (Inv.want (j := 22) (b := false) (d := 105) rfl rfl rfl hg)]
          have h108 := hd 25 _ (by kernel_rfl) rfl
          change ac.eval (.tmp 108) = .bool true at h108
          clear hf hd
          obtain ⟨g0, g1⟩ := HD4.out wx hB
          refine Inv.val (.bool false) ?_ rfl rfl (Below.refl _ _)
          clear hE hB
          generalize ac.eval = ev at *
          simp [execOp, go_sem, *]
        · intro ac wx hE hf hd
          have hB : Below w4.heap.size w4 wx := ⟨hE.os, hE.tape, hE.output, hE.size, hE.block⟩
          rw [if_pos (Inv.want0 rfl _)]
          have h105 := hd 22 _ (by kernel_rfl) rfl
          change ac.eval (.tmp 105) = .bool false at h105
          have h109 := hd 26 _ (by kernel_rfl) rfl
          change ac.eval (.tmp 109) = .bool false at h109
          clear hf hd
          obtain ⟨g0, g1⟩ := HD4.out wx hB
          refine Inv.val (.bool false) ?_ rfl rfl (Below.refl _ _)
          clear hE hB
          have hcst : ∀ v, ac.eval (.const v) = v := fun _ => rfl
          generalize ac.eval = ev at *
          simp [execOp, go_sem, *]
      case fin =>
        intro ac wx hE ha hall
        have hB : Below w4.heap.size w4 wx := ⟨hE.os, hE.tape, hE.output, hE.size, hE.block⟩
        have h83 := hall 0 _ rfl
        change ac.eval (.tmp 83) = .slice (some ⟨lb, lo, none⟩) L.length c1 at h83
        have h84 := hall 1 _ rfl
        change ac.eval (.tmp 84) = .int .i64 (k : Int) at h84
        have h85 := hall 2 _ rfl
        change ac.eval (.tmp 85) = .pointer (some ⟨lb, lo + k, none⟩) at h85
        have h86 := hall 3 _ rfl
        change ac.eval (.tmp 86) = (.string ⟨n.toArray⟩) at h86
        have h87 := hall 4 _ rfl
        change ac.eval (.tmp 87) = .slice (some ⟨mb, mo, none⟩) L.length c2 at h87
        have h88 := hall 5 _ rfl
        change ac.eval (.tmp 88) = .int .i64 (k : Int) at h88
        have h89 := hall 6 _ rfl
        change ac.eval (.tmp 89) = .pointer (some ⟨mb, mo + k, none⟩) at h89
        have h90 := hall 7 _ rfl
        change ac.eval (.tmp 90) = (.string ⟨n.toArray⟩) at h90
        have h91 := hall 8 _ rfl
        change ac.eval (.tmp 91) = .bool false at h91
        have h92 := hall 9 _ rfl
        change ac.eval (.tmp 92) = .bool false at h92
        have h93 := hall 10 _ rfl
        change ac.eval (.tmp 93) = .int .i64 (d.length : Int) at h93
        have h94 := hall 11 _ rfl
        change ac.eval (.tmp 94) = .int .i64 (d.length : Int) at h94
        have h95 := hall 12 _ rfl
        change ac.eval (.tmp 95) = .bool false at h95
        have h96 := hall 13 _ rfl
        change ac.eval (.tmp 96) = .bool false at h96
        have h97 := hall 14 _ rfl
        change ac.eval (.tmp 97) = .bool false at h97
        have h98 := hall 15 _ rfl
        change ac.eval (.tmp 98) = .int .i64 0 at h98
        have h99 := hall 16 _ rfl
        change ac.eval (.tmp 99) = .bool false at h99
        have h100 := hall 17 _ rfl
        change ac.eval (.tmp 100) = .bool false at h100
        have h101 := hall 18 _ rfl
        change ac.eval (.tmp 101) = .bool false at h101
        have h102 := hall 19 _ rfl
        change ac.eval (.tmp 102) = .int .i64 0 at h102
        have h103 := hall 20 _ rfl
        change ac.eval (.tmp 103) = .bool false at h103
        have h104 := hall 21 _ rfl
        change ac.eval (.tmp 104) = .bool false at h104
        have h105 := hall 22 _ rfl
        change ac.eval (.tmp 105) = .bool false at h105
        have h106 := hall 23 _ rfl
        change ac.eval (.tmp 106) = .slice A3 d.length c3 at h106
        have h107 := hall 24 _ rfl
        change ac.eval (.tmp 107) = .slice A4 d.length c4 at h107
        have h108 := hall 25 _ rfl
        change ac.eval (.tmp 108) = .bool true at h108
        have h109 := hall 26 _ rfl
        change ac.eval (.tmp 109) = .bool false at h109
        have h110 := hall 27 _ rfl
        change ac.eval (.tmp 110) = .bool false at h110
        simp only [List.foldl, Inv.slot, Act.put] at ha
        change ac.tmps.getD 83 undef = _ at h83
        change ac.tmps.getD 84 undef = _ at h84
        change ac.tmps.getD 85 undef = _ at h85
        change ac.tmps.getD 86 undef = _ at h86
        change ac.tmps.getD 87 undef = _ at h87
        change ac.tmps.getD 88 undef = _ at h88
        change ac.tmps.getD 89 undef = _ at h89
        change ac.tmps.getD 90 undef = _ at h90
        change ac.tmps.getD 91 undef = _ at h91
        change ac.tmps.getD 92 undef = _ at h92
        change ac.tmps.getD 93 undef = _ at h93
        change ac.tmps.getD 94 undef = _ at h94
        change ac.tmps.getD 95 undef = _ at h95
        change ac.tmps.getD 96 undef = _ at h96
        change ac.tmps.getD 97 undef = _ at h97
        change ac.tmps.getD 98 undef = _ at h98
        change ac.tmps.getD 99 undef = _ at h99
        change ac.tmps.getD 100 undef = _ at h100
        change ac.tmps.getD 101 undef = _ at h101
        change ac.tmps.getD 102 undef = _ at h102
        change ac.tmps.getD 103 undef = _ at h103
        change ac.tmps.getD 104 undef = _ at h104
        change ac.tmps.getD 105 undef = _ at h105
        change ac.tmps.getD 106 undef = _ at h106
        change ac.tmps.getD 107 undef = _ at h107
        change ac.tmps.getD 108 undef = _ at h108
        change ac.tmps.getD 109 undef = _ at h109
        change ac.tmps.getD 110 undef = _ at h110
        simp only [h83, h84, h85, h86, h87, h88, h89, h90, h91, h92, h93, h94, h95, h96, h97, h98, h99, h100, h101, h102, h103, h104, h105, h106, h107, h108, h109, h110, List.setIfInBounds_toArray, List.set_cons_zero, List.set_cons_succ] at ha
        clear h83 h84 h85 h86 h87 h88 h89 h90 h91 h92 h93 h94 h95 h96 h97 h98 h99 h100 h101 h102 h103 h104 h105 h106 h107 h108 h109 h110 hall hE
        subst ha
        go_wp2_with fail
        go_roundw
        case rel =>
          exact ⟨k + 1, by omega, by go_num, HB4.out.trans (hB.mono HB4.out.size)⟩
        case measure => simp [intOf]; omega
    · obtain rfl : k = L.length := by omega
      go_wp2_with fail
      go_ret
      exact ⟨rfl, HB2.out.trans (HBR.out.mono HB2.out.size)⟩
end Go.Proofs.Ytiacpopgnmledaa
