/-
  VfsOwn: for every two rows of bytes the law's call returns true and leaves them as they were. No condition.
-/
import Derived.Test.YtiacpopgnmledaaVsOwnCt
import Derived.Deep.RegionLaw
import Derived.Test.YtiacpopgnmledaaInvL
namespace Go.Proofs.Ytiacpopgnmledaa
open Go.RowKit
open Me Vf
namespace Vs
theorem two_rows {w : World} {base : Nat} {v : Value} {b c : List UInt8} (h : w.ownsRow base 5 1 v (0 + c.length + (b.length - c.length)) ([] ++ by8 c ++ by8 (b.drop c.length))) : Bs w (fun i => base ≤ i) v (c ++ b.drop c.length) := by
  have e : 0 + c.length + (b.length - c.length) = (c ++ b.drop c.length).length := by simp
  rw [e, List.nil_append, ← by8_append] at h
  exact Bs.own h
end Vs
theorem owns_below {w w' : World} {base n : Nat} {e : TypeId} {s : Nat} {v : Value} {xs : List Value} (h : w.ownsRow base e s v n xs) (b : Below w.heap.size w w') : w'.ownsRow base e s v n xs := owns_keep h fun g hg => b.block g (h.lt g hg).2
theorem slice_from (W : World) (A : Option Addr) (n m cap : Nat) (hm : m ≤ n) (hn : n ≤ cap) :
    (Instr.slice 40 (.slice A n cap) (some (.int .i64 (m : Int))) none none).run Try.prog W = .ok (.slice (if cap = m then A else Option.map (fun x => x.add m) A) (n - m) (cap - m)) W := by
  have h1 : (m : Int) ≤ (n : Int) := by omega
  have h2 : ¬ (cap : Int) < (n : Int) := by omega
  have h3 : (0 : Int) ≤ (m : Int) := by omega
  cases A <;> simp [go_sem, *]

set_option maxRecDepth 100000 in
set_option maxHeartbeats 1600000 in
theorem lawOwn_any (b c : List UInt8) (bv cv : Value) (w : World) (hb : Bs w (Vs.Old w) bv b) (hc : Bs w (Vs.Old w) cv c) :
    Calls Try.prog 5 #[bv, cv] w fun e w' => e = .returned (.bool true) ∧ Below w.heap.size w w' := by
  obtain ⟨i0, hi0, hz0, hz1, hz2⟩ := info_parts u8info
  have HI := Lib.hid hi0
  have HZ := Lib.hid (And.intro hz0 (And.intro hz1 hz2))
  clear hi0 hz0 hz1 hz2
  have HB := Lib.hid hb
  have HC := Lib.hid hc
  obtain ⟨A1, c1, rfl, hc1, hcm1, hr1⟩ := hb
  obtain ⟨A2, c2, rfl, hc2, hcm2, hr2⟩ := hc
  have HRB : Hid (∀ W, Below w.heap.size w W → Rd W (Vs.Old w) (if c1 = c.length then A1 else Option.map (fun x => x.add c.length) A1) (by8 (b.drop c.length))) := Lib.hid fun W h => Vs.rd_drop8 (hr1.keep h.size (fun i hi _ => h.block i hi)) hc1
  have HRC : Hid (∀ W, Below w.heap.size w W → Rd W (Vs.Old w) A2 (by8 c)) := Lib.hid fun W h => hr2.keep h.size (fun i hi _ => h.block i hi)
  unfold maxLen at hcm1 hcm2
  clear hr1 hr2
  by_cases hl : (3000 : Int) < (b.length : Int)
  · go_enter Try.func5, Try.ntmps5
    go_wp2_with fail
    go_ret
    exact ⟨rfl, Below.refl _ _⟩
  · by_cases hcb : (b.length : Int) < (c.length : Int)
    · go_enter Try.func5, Try.ntmps5
      go_wp2_with fail
      go_ret
      exact ⟨rfl, Below.refl _ _⟩
    · have hl3 : b.length ≤ 3000 := by omega
      have hcl : c.length ≤ b.length := by omega
      have hclz : (c.length : Int) ≤ (b.length : Int) := by omega
      have hcz1 : (c.length : Int) ≤ (c1 : Int) := by omega
      have hbz1 : (b.length : Int) ≤ (c1 : Int) := by omega
      have hlen : Hid ((c ++ b.drop c.length).length = b.length) := Lib.hid (by simp; omega)
      have HN := Lib.hid (fo_new w)
      have HSAME : Hid (∀ (W : World) (v v' : Value) (G I : Nat → Prop), Bs W G v (c ++ b.drop c.length) → Bs W I v' (c ++ b.drop c.length) → Calls Try.prog 21 #[v, v'] W fun e w' => e = .returned (.bool true) ∧ Below W.heap.size W w') := Lib.hid fun W v v' G I h1 h2 => by
        have := same_any _ _ v v' G I W h1 h2 (by rw [hlen.out]; omega)
        rwa [beq_self_eq_true] at this
      have HK := Lib.hid known_any
      obtain ⟨fs, hfs⟩ : ∃ fs, fs = w.heap.size := ⟨_, rfl⟩
      rw [← hfs] at HN
      clear hfs
      go_enter Try.func5, Try.ntmps5
      go_wp2_with (first | (go_at_call 7; (with_reducible refine (HN.out).mono ?_); rintro e w1 ⟨rfl, H1⟩) | (go_at_call 15; (with_reducible refine (fo_roomy H1.out HB.out hl3).mono ?_); rintro e w2 ⟨g1, cap1, rfl, hcap1, H2⟩) | (go_at_call 15; (with_reducible refine (fo_roomy H2.out HC.out (Nat.le_trans hcl hl3)).mono ?_); rintro e w3 ⟨g2, cap2, rfl, hcap2, H3⟩) | (go_at_call 16; (with_reducible refine (fo_create H3.out (List.mem_cons_of_mem _ (List.mem_cons_self ..)) hl3).mono ?_); rintro e w4 ⟨rfl, H4⟩) | (go_at_call 17; (with_reducible refine (fo_write H4.out (List.mem_cons_self ..) hl3 hcl).mono ?_); rintro e w5 ⟨rfl, H5⟩) | (go_at_call 18; (with_reducible refine (fo_stands H5.out (List.mem_cons_of_mem _ (List.mem_cons_self ..)) HB.out hl3).mono ?_); rintro e w6 ⟨rfl, H6⟩) | (go_at_call 18; (with_reducible refine (fo_stands H6.out (List.mem_cons_self ..) HC.out (Nat.le_trans hcl hl3)).mono ?_); rintro e w7 ⟨rfl, H7⟩) | (go_at_call 19; (with_reducible refine (fo_spoil H7.out.swap (by rw [List.length_append]; simp; omega)).mono ?_); rintro e w8 ⟨rfl, H8⟩) | (go_at_call 19; (with_reducible refine (fo_spoil H8.out (by rw [List.length_append]; simp; omega)).mono ?_); rintro e w9 ⟨rfl, H9⟩) | (go_at_call 20; (with_reducible refine (fo_read H9.out hl3 hcl).mono ?_); rintro e w10 ⟨rfl, H10⟩))
      refine Inv.region_live 15 8 (fun W W' => Below w10.heap.size W W') (Inv.EB w10.heap.size 6 11) (fun i v W => match i with
        | 0 => v = .int .i64 0
        | 1 => v = .bool false
        | 2 => v = .bool false
        | 3 => v = .slice (some ⟨w9.heap.size, 0, none⟩) b.length b.length
        | 4 => W.ownsRow w10.heap.size 5 1 v 0 []
        | 5 => v = .slice A2 c.length c2
        | 6 => W.ownsRow w10.heap.size 5 1 v (0 + c.length) ([] ++ by8 c)
        | 7 => v = .slice A1 b.length c1
        | 8 => v = .slice A2 c.length c2
        | 9 => v = .int .i64 (c.length : Int)
        | 10 => v = .slice (if c1 = c.length then A1 else Option.map (fun x => x.add c.length) A1) (b.length - c.length) (c1 - c.length)
        | 11 => W.ownsRow w10.heap.size 5 1 v (0 + c.length + (b.length - c.length)) ([] ++ by8 c ++ by8 (b.drop c.length))
        | 12 => v = .bool true
        | 13 => v = .bool false
        | 14 => v = .bool false
        | _ => True) [(1, 0), (2, 1), (3, 2), (4, 2), (5, 2), (6, 4), (6, 5), (6, 2), (7, 2), (8, 2), (9, 8), (9, 2), (10, 7), (10, 9), (10, 2), (11, 6), (11, 10), (11, 2), (12, 3), (12, 11), (12, 2), (13, 12), (13, 2), (14, 2), (14, 13)] [0, 1, 2, 3, 5, 7, 8, 9, 10, 12, 13, 14] (by kernel_rfl) (by kernel_rfl) (by kernel_rfl) (by kernel_rfl) (by kernel_rfl) (by kernel_rfl) (fun W => Below.refl _ _) (fun a b c h k => h.trans k) ?eg ?stab ?obls ?fin
      
      case eg => exact fun k a b _ h => h.low
      case stab =>
        intro k i o p v W W' hki ho hp hl hg h he
        match i, h, hp, hl, hki with
        | 0, h, _, _, _ => exact h
        | 1, h, _, _, _ => exact h
        | 2, h, _, _, _ => exact h
        | 3, h, _, _, _ => exact h
        | 4, h, hp, hl, hki => exact owns_below h (he.2 (fun e => by subst e; obtain rfl := Option.some.inj ho; obtain rfl := Option.some.inj hp; cases (hl.symm.trans (by kernel_rfl : _ = false))) (fun e => by subst e; obtain rfl := Option.some.inj ho; obtain rfl := Option.some.inj hp; cases (hl.symm.trans (by kernel_rfl : _ = false))))
        | 5, h, _, _, _ => exact h
        | 6, h, hp, hl, hki => exact owns_below h (he.2 (fun e => hki e) (fun e => by subst e; obtain rfl := Option.some.inj ho; obtain rfl := Option.some.inj hp; cases (hl.symm.trans (by kernel_rfl : _ = false))))
        | 7, h, _, _, _ => exact h
        | 8, h, _, _, _ => exact h
        | 9, h, _, _, _ => exact h
        | 10, h, _, _, _ => exact h
        | 11, h, hp, hl, hki => exact owns_below h (he.2 (fun e => by subst e; obtain rfl := Option.some.inj ho; obtain rfl := Option.some.inj hp; cases (hl.symm.trans (by kernel_rfl : _ = false))) (fun e => hki e))
        | 12, h, _, _, _ => exact h
        | 13, h, _, _, _ => exact h
        | 14, h, _, _, _ => exact h
        | _ + 15, h, _, _, _ => exact h
      case obls =>
        refine .cons ?_ (.cons ?_ (.cons ?_ (.cons ?_ (.cons ?_ (.cons ?_ (.cons ?_ (.cons ?_ (.cons ?_ (.cons ?_ (.cons ?_ (.cons ?_ (.cons ?_ (.cons ?_ (.cons ?_ .nil))))))))))))))
        · intro ac wx hE hf hd
          have hB : Below w10.heap.size w10 wx := ⟨hE.os, hE.tape, hE.output, hE.size, hE.block⟩
          rw [if_pos (Inv.want0 rfl _)]
          have h12 : ac.eval (.tmp 12) = .int .i64 0 := hf 12 (by kernel_rfl)
          clear hf hd
          refine Inv.val (.int .i64 0) (w' := wx) ?_ rfl rfl ⟨Below.refl _ _, fun _ _ => Below.refl _ _⟩
          clear hE hB
          generalize ac.eval = ev at *
          simp [execOp, go_sem, *]
        · intro ac wx hE hf hd
          have hB : Below w10.heap.size w10 wx := ⟨hE.os, hE.tape, hE.output, hE.size, hE.block⟩
          rw [if_pos (Inv.want0 rfl _)]
          have h76 := hd 0 _ (by kernel_rfl) rfl
          change ac.eval (.tmp 76) = .int .i64 0 at h76
          clear hf hd
          refine Inv.val (.bool false) (w' := wx) ?_ rfl (rfl) (⟨Below.refl _ _, fun _ _ => Below.refl _ _⟩)
          clear hE hB
          have hcst : ∀ v, ac.eval (.const v) = v := fun _ => rfl
          generalize ac.eval = ev at *
          simp [execOp, go_sem, *]
        · intro ac wx hE hf hd
          have hB : Below w10.heap.size w10 wx := ⟨hE.os, hE.tape, hE.output, hE.size, hE.block⟩
          rw [if_pos (Inv.want0 rfl _)]
          have h77 := hd 1 _ (by kernel_rfl) rfl
          change ac.eval (.tmp 77) = .bool false at h77
          clear hf hd
          refine Inv.val (.bool false) (w' := wx) ?_ rfl rfl ⟨Below.refl _ _, fun _ _ => Below.refl _ _⟩
          clear hE hB
          generalize ac.eval = ev at *
          simp [execOp, go_sem, *]
        · intro ac wx hE hf hd
          have hB : Below w10.heap.size w10 wx := ⟨hE.os, hE.tape, hE.output, hE.size, hE.block⟩
          have hg := hd 2 _ (by kernel_rfl) rfl
          change ac.eval (.tmp 78) = .bool false at hg
          rw [if_pos (Inv.want (j := 2) (b := false) (d := 78) rfl rfl rfl hg)]
          have h11 : ac.eval (.tmp 11) = .slice (some ⟨w9.heap.size, 0, none⟩) b.length b.length := hf 11 (by kernel_rfl)
          clear hf hd
          refine Inv.val (.slice (some ⟨w9.heap.size, 0, none⟩) b.length b.length) (w' := wx) ?_ rfl rfl ⟨Below.refl _ _, fun _ _ => Below.refl _ _⟩
          clear hE hB
          generalize ac.eval = ev at *
          simp [execOp, go_sem, *]
        · intro ac wx hE hf hd
          have hB : Below w10.heap.size w10 wx := ⟨hE.os, hE.tape, hE.output, hE.size, hE.block⟩
          have hg := hd 2 _ (by kernel_rfl) rfl
          change ac.eval (.tmp 78) = .bool false at hg
          rw [if_pos (Inv.want (j := 2) (b := false) (d := 78) rfl rfl rfl hg)]
          clear hf hd
          refine Inv.val (.slice (some ⟨wx.heap.size, 0, none⟩) 0 0) (w' := wx.alloc (.cells #[] 5)) ?_ rfl (World.ownsRow_made wx #[] 0 hB.size (Nat.zero_le _) rfl) (⟨(Below.refl _ _).alloc hB.size _, fun _ _ => (Below.refl _ _).alloc (Nat.le_refl _) _⟩)
          clear hE hB
          generalize ac.eval = ev at *
          simp [execOp, go_sem, *]
        · intro ac wx hE hf hd
          have hB : Below w10.heap.size w10 wx := ⟨hE.os, hE.tape, hE.output, hE.size, hE.block⟩
          have hg := hd 2 _ (by kernel_rfl) rfl
          change ac.eval (.tmp 78) = .bool false at hg
          rw [if_pos (Inv.want (j := 2) (b := false) (d := 78) rfl rfl rfl hg)]
          have h1 : ac.eval (.tmp 1) = .slice A2 c.length c2 := hf 1 (by kernel_rfl)
          clear hf hd
          refine Inv.val (.slice A2 c.length c2) (w' := wx) ?_ rfl rfl ⟨Below.refl _ _, fun _ _ => Below.refl _ _⟩
          clear hE hB
          generalize ac.eval = ev at *
          simp [execOp, go_sem, *]
        · intro ac wx hE hf hd
          have hB : Below w10.heap.size w10 wx := ⟨hE.os, hE.tape, hE.output, hE.size, hE.block⟩
          have hg := hd 2 _ (by kernel_rfl) rfl
          change ac.eval (.tmp 78) = .bool false at hg
          rw [if_pos (Inv.want (j := 2) (b := false) (d := 78) rfl rfl rfl hg)]
          have h80 := hd 4 _ (by kernel_rfl) rfl
          change (fun v W => W.ownsRow w10.heap.size 5 1 v 0 []) (ac.eval (.tmp 80)) wx at h80
          try dsimp only at h80
          have h81 := hd 5 _ (by kernel_rfl) rfl
          change ac.eval (.tmp 81) = .slice A2 c.length c2 at h81
          clear hf hd
          have hw0 := h80
          obtain ⟨v', w', hrun, ho, hg, _, _⟩ := run_app (P := Try.prog) wx _ 40 40 5 i0 (.int .u8 0) 1 1 Try.underlying40 HI.out HZ.out.1 HZ.out.2.1 HZ.out.2.2 rfl (by decide) _ 0 [] hw0 (Vs.Old w) A2 c.length c2 (by8 c) (by rw [by8_len]; omega) (HRC.out wx (H10.out.below.trans (hB.mono H10.out.below.size))) (by8_one _) (by unfold maxLen; omega) (by omega) hB.size
          exact Inv.val v' (w' := w') (Inv.run_append2 rfl rfl h81 hrun) rfl ho ⟨(Below.refl _ _).grown hg hB.size (fun g e => (hw0.lt g e).1), fun h6 _ => (h6 rfl).elim⟩
        · intro ac wx hE hf hd
          have hB : Below w10.heap.size w10 wx := ⟨hE.os, hE.tape, hE.output, hE.size, hE.block⟩
          have hg := hd 2 _ (by kernel_rfl) rfl
          change ac.eval (.tmp 78) = .bool false at hg
          rw [if_pos (Inv.want (j := 2) (b := false) (d := 78) rfl rfl rfl hg)]
          have h0 : ac.eval (.tmp 0) = .slice A1 b.length c1 := hf 0 (by kernel_rfl)
          clear hf hd
          refine Inv.val (.slice A1 b.length c1) (w' := wx) ?_ rfl rfl ⟨Below.refl _ _, fun _ _ => Below.refl _ _⟩
          clear hE hB
          generalize ac.eval = ev at *
          simp [execOp, go_sem, *]
        · intro ac wx hE hf hd
          have hB : Below w10.heap.size w10 wx := ⟨hE.os, hE.tape, hE.output, hE.size, hE.block⟩
          have hg := hd 2 _ (by kernel_rfl) rfl
          change ac.eval (.tmp 78) = .bool false at hg
          rw [if_pos (Inv.want (j := 2) (b := false) (d := 78) rfl rfl rfl hg)]
          have h1 : ac.eval (.tmp 1) = .slice A2 c.length c2 := hf 1 (by kernel_rfl)
          clear hf hd
          refine Inv.val (.slice A2 c.length c2) (w' := wx) ?_ rfl rfl ⟨Below.refl _ _, fun _ _ => Below.refl _ _⟩
          clear hE hB
          generalize ac.eval = ev at *
          simp [execOp, go_sem, *]
        · intro ac wx hE hf hd
          have hB : Below w10.heap.size w10 wx := ⟨hE.os, hE.tape, hE.output, hE.size, hE.block⟩
          have hg := hd 2 _ (by kernel_rfl) rfl
          change ac.eval (.tmp 78) = .bool false at hg
          rw [if_pos (Inv.want (j := 2) (b := false) (d := 78) rfl rfl rfl hg)]
          have h84 := hd 8 _ (by kernel_rfl) rfl
          change ac.eval (.tmp 84) = .slice A2 c.length c2 at h84
          clear hf hd
          refine Inv.val (.int .i64 (c.length : Int)) (w' := wx) ?_ rfl rfl ⟨Below.refl _ _, fun _ _ => Below.refl _ _⟩
          clear hE hB
          generalize ac.eval = ev at *
          simp [go_sem, *]
        · intro ac wx hE hf hd
          have hB : Below w10.heap.size w10 wx := ⟨hE.os, hE.tape, hE.output, hE.size, hE.block⟩
          have hg := hd 2 _ (by kernel_rfl) rfl
          change ac.eval (.tmp 78) = .bool false at hg
          rw [if_pos (Inv.want (j := 2) (b := false) (d := 78) rfl rfl rfl hg)]
          have h83 := hd 7 _ (by kernel_rfl) rfl
          change ac.eval (.tmp 83) = .slice A1 b.length c1 at h83
          have h85 := hd 9 _ (by kernel_rfl) rfl
          change ac.eval (.tmp 85) = .int .i64 (c.length : Int) at h85
          clear hf hd
          have hsl := slice_from wx A1 b.length c.length c1 hcl hc1
          refine Inv.val (.slice (if c1 = c.length then A1 else Option.map (fun x => x.add c.length) A1) (b.length - c.length) (c1 - c.length)) (w' := wx) ?_ rfl (rfl) (⟨Below.refl _ _, fun _ _ => Below.refl _ _⟩)
          clear hE hB
          generalize ac.eval = ev at *
          simp [execOp, go_sem, h83, h85, hsl]
        · intro ac wx hE hf hd
          have hB : Below w10.heap.size w10 wx := ⟨hE.os, hE.tape, hE.output, hE.size, hE.block⟩
          have hg := hd 2 _ (by kernel_rfl) rfl
          change ac.eval (.tmp 78) = .bool false at hg
          rw [if_pos (Inv.want (j := 2) (b := false) (d := 78) rfl rfl rfl hg)]
          have h82 := hd 6 _ (by kernel_rfl) rfl
          change (fun v W => W.ownsRow w10.heap.size 5 1 v (0 + c.length) ([] ++ by8 c)) (ac.eval (.tmp 82)) wx at h82
          try dsimp only at h82
          have h86 := hd 10 _ (by kernel_rfl) rfl
          change ac.eval (.tmp 86) = .slice (if c1 = c.length then A1 else Option.map (fun x => x.add c.length) A1) (b.length - c.length) (c1 - c.length) at h86
          clear hf hd
          have hw0 := h82
          obtain ⟨v', w', hrun, ho, hg, _, _⟩ := run_app (P := Try.prog) wx _ 40 40 5 i0 (.int .u8 0) 1 1 Try.underlying40 HI.out HZ.out.1 HZ.out.2.1 HZ.out.2.2 rfl (by decide) _ (0 + c.length) _ hw0 (Vs.Old w) (if c1 = c.length then A1 else Option.map (fun x => x.add c.length) A1) (b.length - c.length) (c1 - c.length) (by8 (b.drop c.length)) (by rw [by8_len, List.length_drop]; omega) (HRB.out wx (H10.out.below.trans (hB.mono H10.out.below.size))) (by8_one _) (by unfold maxLen; omega) (by omega) hB.size
          exact Inv.val v' (w' := w') (Inv.run_append2 rfl rfl h86 hrun) rfl ho ⟨(Below.refl _ _).grown hg hB.size (fun g e => (hw0.lt g e).1), fun _ h11 => (h11 rfl).elim⟩
        · intro ac wx hE hf hd
          have hB : Below w10.heap.size w10 wx := ⟨hE.os, hE.tape, hE.output, hE.size, hE.block⟩
          have hg := hd 2 _ (by kernel_rfl) rfl
          change ac.eval (.tmp 78) = .bool false at hg
          rw [if_pos (Inv.want (j := 2) (b := false) (d := 78) rfl rfl rfl hg)]
          have h79 := hd 3 _ (by kernel_rfl) rfl
          change ac.eval (.tmp 79) = .slice (some ⟨w9.heap.size, 0, none⟩) b.length b.length at h79
          have h87 := hd 11 _ (by kernel_rfl) rfl
          change (fun v W => W.ownsRow w10.heap.size 5 1 v (0 + c.length + (b.length - c.length)) ([] ++ by8 c ++ by8 (b.drop c.length))) (ac.eval (.tmp 87)) wx at h87
          try dsimp only at h87
          clear hf hd
          refine Inv.go (f := 21) (xs := #[.slice (some ⟨w9.heap.size, 0, none⟩) b.length b.length, ac.eval (.tmp 87)]) ?_ rfl ?_
          · clear hE hB
            have hfn : ac.eval (.func 21) = .func (.func 21) #[] #[] := rfl
            generalize ac.eval = ev at *
            simp [execOp, go_sem, *]
          · exact (HSAME.out wx _ _ _ _ (Bs.own ((H10.out.under hB).rows _ (List.mem_cons_self ..))) (Vs.two_rows h87)).mono fun e w' ⟨he, hb⟩ => ⟨_, he, rfl, hb.mono hB.size, fun _ _ => hb⟩
        · intro ac wx hE hf hd
          have hB : Below w10.heap.size w10 wx := ⟨hE.os, hE.tape, hE.output, hE.size, hE.block⟩
          have hg := hd 2 _ (by kernel_rfl) rfl
          change ac.eval (.tmp 78) = .bool false at hg
          rw [if_pos (Inv.want (j := 2) (b := false) (d := 78) rfl rfl rfl hg)]
          have h88 := hd 12 _ (by kernel_rfl) rfl
          change ac.eval (.tmp 88) = .bool true at h88
          clear hf hd
          refine Inv.val (.bool false) (w' := wx) ?_ rfl (rfl) (⟨Below.refl _ _, fun _ _ => Below.refl _ _⟩)
          clear hE hB
          have hcst : ∀ v, ac.eval (.const v) = v := fun _ => rfl
          generalize ac.eval = ev at *
          simp [execOp, go_sem, *]
        · intro ac wx hE hf hd
          have hB : Below w10.heap.size w10 wx := ⟨hE.os, hE.tape, hE.output, hE.size, hE.block⟩
          rw [if_pos (Inv.want0 rfl _)]
          have h78 := hd 2 _ (by kernel_rfl) rfl
          change ac.eval (.tmp 78) = .bool false at h78
          have h89 := hd 13 _ (by kernel_rfl) rfl
          change ac.eval (.tmp 89) = .bool false at h89
          clear hf hd
          refine Inv.val (.bool false) (w' := wx) ?_ rfl (rfl) (⟨Below.refl _ _, fun _ _ => Below.refl _ _⟩)
          clear hE hB
          have hcst : ∀ v, ac.eval (.const v) = v := fun _ => rfl
          generalize ac.eval = ev at *
          simp [execOp, go_sem, *]
      case fin =>
        intro ac wx hE ha hall
        have hB : Below w10.heap.size w10 wx := ⟨hE.os, hE.tape, hE.output, hE.size, hE.block⟩
        have h76 := hall 0 _ (by decide) (by kernel_rfl) rfl
        change ac.eval (.tmp 76) = .int .i64 0 at h76
        have h77 := hall 1 _ (by decide) (by kernel_rfl) rfl
        change ac.eval (.tmp 77) = .bool false at h77
        have h78 := hall 2 _ (by decide) (by kernel_rfl) rfl
        change ac.eval (.tmp 78) = .bool false at h78
        have h79 := hall 3 _ (by decide) (by kernel_rfl) rfl
        change ac.eval (.tmp 79) = .slice (some ⟨w9.heap.size, 0, none⟩) b.length b.length at h79
        generalize hv80 : ac.eval (.tmp 80) = v80 at *
        have h81 := hall 5 _ (by decide) (by kernel_rfl) rfl
        change ac.eval (.tmp 81) = .slice A2 c.length c2 at h81
        generalize hv82 : ac.eval (.tmp 82) = v82 at *
        have h83 := hall 7 _ (by decide) (by kernel_rfl) rfl
        change ac.eval (.tmp 83) = .slice A1 b.length c1 at h83
        have h84 := hall 8 _ (by decide) (by kernel_rfl) rfl
        change ac.eval (.tmp 84) = .slice A2 c.length c2 at h84
        have h85 := hall 9 _ (by decide) (by kernel_rfl) rfl
        change ac.eval (.tmp 85) = .int .i64 (c.length : Int) at h85
        generalize hv86 : ac.eval (.tmp 86) = v86 at *
        generalize hv87 : ac.eval (.tmp 87) = v87 at *
        have h88 := hall 12 _ (by decide) (by kernel_rfl) rfl
        change ac.eval (.tmp 88) = .bool true at h88
        have h89 := hall 13 _ (by decide) (by kernel_rfl) rfl
        change ac.eval (.tmp 89) = .bool false at h89
        have h90 := hall 14 _ (by decide) (by kernel_rfl) rfl
        change ac.eval (.tmp 90) = .bool false at h90
        simp only [List.take_succ_cons, List.take_zero, List.foldl, Inv.slot, Act.put] at ha
        change ac.tmps.getD 76 undef = _ at h76
        change ac.tmps.getD 77 undef = _ at h77
        change ac.tmps.getD 78 undef = _ at h78
        change ac.tmps.getD 79 undef = _ at h79
        change ac.tmps.getD 80 undef = _ at hv80
        change ac.tmps.getD 81 undef = _ at h81
        change ac.tmps.getD 82 undef = _ at hv82
        change ac.tmps.getD 83 undef = _ at h83
        change ac.tmps.getD 84 undef = _ at h84
        change ac.tmps.getD 85 undef = _ at h85
        change ac.tmps.getD 86 undef = _ at hv86
        change ac.tmps.getD 87 undef = _ at hv87
        change ac.tmps.getD 88 undef = _ at h88
        change ac.tmps.getD 89 undef = _ at h89
        change ac.tmps.getD 90 undef = _ at h90
        simp only [h76, h77, h78, h79, hv80, h81, hv82, h83, h84, h85, hv86, hv87, h88, h89, h90, List.setIfInBounds_toArray, List.set_cons_zero, List.set_cons_succ] at ha
        clear h76 h77 h78 h79 hv80 h81 hv82 h83 h84 h85 hv86 hv87 h88 h89 h90 hall hE
        subst ha
        refine wpList_nil ?_
        have H13 := Lib.hid (H10.out.under hB)
        clear hB
        go_wp2_with (first | (go_at_call 19; (with_reducible refine (fo_spoil H13.out (by rw [hlen.out]; omega)).mono ?_); rintro e w14 ⟨rfl, H14⟩) | (go_at_call 20; (with_reducible refine (fo_read H14.out hl3 hcl).mono ?_); rintro e w15 ⟨rfl, H15⟩))
        refine Inv.region_live 14 8 (fun W W' => Below w15.heap.size W W') (Inv.EB w15.heap.size 3 8) (fun i v W => match i with
          | 0 => v = .slice (some ⟨w14.heap.size, 0, none⟩) b.length b.length
          | 1 => W.ownsRow w15.heap.size 5 1 v 0 []
          | 2 => v = .slice A2 c.length c2
          | 3 => W.ownsRow w15.heap.size 5 1 v (0 + c.length) ([] ++ by8 c)
          | 4 => v = .slice A1 b.length c1
          | 5 => v = .slice A2 c.length c2
          | 6 => v = .int .i64 (c.length : Int)
          | 7 => v = .slice (if c1 = c.length then A1 else Option.map (fun x => x.add c.length) A1) (b.length - c.length) (c1 - c.length)
          | 8 => W.ownsRow w15.heap.size 5 1 v (0 + c.length + (b.length - c.length)) ([] ++ by8 c ++ by8 (b.drop c.length))
          | 9 => v = .bool true
          | 10 => v = .bool true
          | 11 => v = .bool true
          | 12 => v = .bool true
          | 13 => v = .bool true
          | _ => True) [(3, 1), (3, 2), (6, 5), (7, 4), (7, 6), (8, 3), (8, 7), (9, 0), (9, 8), (10, 9), (11, 10), (12, 10), (12, 11), (13, 12)] [0, 2, 4, 5, 6, 7, 9, 10, 11, 12, 13] (by kernel_rfl) (by kernel_rfl) (by kernel_rfl) (by kernel_rfl) (by kernel_rfl) (by kernel_rfl) (fun W => Below.refl _ _) (fun a b c h k => h.trans k) ?eg ?stab ?obls ?fin
        
        case eg => exact fun k a b _ h => h.low
        case stab =>
          intro k i o p v W W' hki ho hp hl hg h he
          match i, h, hp, hl, hki with
          | 0, h, _, _, _ => exact h
          | 1, h, hp, hl, hki => exact owns_below h (he.2 (fun e => by subst e; obtain rfl := Option.some.inj ho; obtain rfl := Option.some.inj hp; cases (hl.symm.trans (by kernel_rfl : _ = false))) (fun e => by subst e; obtain rfl := Option.some.inj ho; obtain rfl := Option.some.inj hp; cases (hl.symm.trans (by kernel_rfl : _ = false))))
          | 2, h, _, _, _ => exact h
          | 3, h, hp, hl, hki => exact owns_below h (he.2 (fun e => hki e) (fun e => by subst e; obtain rfl := Option.some.inj ho; obtain rfl := Option.some.inj hp; cases (hl.symm.trans (by kernel_rfl : _ = false))))
          | 4, h, _, _, _ => exact h
          | 5, h, _, _, _ => exact h
          | 6, h, _, _, _ => exact h
          | 7, h, _, _, _ => exact h
          | 8, h, hp, hl, hki => exact owns_below h (he.2 (fun e => by subst e; obtain rfl := Option.some.inj ho; obtain rfl := Option.some.inj hp; cases (hl.symm.trans (by kernel_rfl : _ = false))) (fun e => hki e))
          | 9, h, _, _, _ => exact h
          | 10, h, _, _, _ => exact h
          | 11, h, _, _, _ => exact h
          | 12, h, _, _, _ => exact h
          | 13, h, _, _, _ => exact h
          | _ + 14, h, _, _, _ => exact h
        case obls =>
          refine .cons ?_ (.cons ?_ (.cons ?_ (.cons ?_ (.cons ?_ (.cons ?_ (.cons ?_ (.cons ?_ (.cons ?_ (.cons ?_ (.cons ?_ (.cons ?_ (.cons ?_ (.cons ?_ .nil)))))))))))))
          · intro ac wx hE hf hd
            have hB : Below w15.heap.size w15 wx := ⟨hE.os, hE.tape, hE.output, hE.size, hE.block⟩
            rw [if_pos (Inv.want0 rfl _)]
            have h13 : ac.eval (.tmp 13) = .slice (some ⟨w14.heap.size, 0, none⟩) b.length b.length := hf 13 (by kernel_rfl)
            clear hf hd
            refine Inv.val (.slice (some ⟨w14.heap.size, 0, none⟩) b.length b.length) (w' := wx) ?_ rfl rfl ⟨Below.refl _ _, fun _ _ => Below.refl _ _⟩
            clear hE hB
            generalize ac.eval = ev at *
            simp [execOp, go_sem, *]
          · intro ac wx hE hf hd
            have hB : Below w15.heap.size w15 wx := ⟨hE.os, hE.tape, hE.output, hE.size, hE.block⟩
            rw [if_pos (Inv.want0 rfl _)]
            clear hf hd
            refine Inv.val (.slice (some ⟨wx.heap.size, 0, none⟩) 0 0) (w' := wx.alloc (.cells #[] 5)) ?_ rfl (World.ownsRow_made wx #[] 0 hB.size (Nat.zero_le _) rfl) (⟨(Below.refl _ _).alloc hB.size _, fun _ _ => (Below.refl _ _).alloc (Nat.le_refl _) _⟩)
            clear hE hB
            generalize ac.eval = ev at *
            simp [execOp, go_sem, *]
          · intro ac wx hE hf hd
            have hB : Below w15.heap.size w15 wx := ⟨hE.os, hE.tape, hE.output, hE.size, hE.block⟩
            rw [if_pos (Inv.want0 rfl _)]
            have h1 : ac.eval (.tmp 1) = .slice A2 c.length c2 := hf 1 (by kernel_rfl)
            clear hf hd
            refine Inv.val (.slice A2 c.length c2) (w' := wx) ?_ rfl rfl ⟨Below.refl _ _, fun _ _ => Below.refl _ _⟩
            clear hE hB
            generalize ac.eval = ev at *
            simp [execOp, go_sem, *]
          · intro ac wx hE hf hd
            have hB : Below w15.heap.size w15 wx := ⟨hE.os, hE.tape, hE.output, hE.size, hE.block⟩
            rw [if_pos (Inv.want0 rfl _)]
            have h101 := hd 1 _ (by kernel_rfl) rfl
            change (fun v W => W.ownsRow w15.heap.size 5 1 v 0 []) (ac.eval (.tmp 101)) wx at h101
            try dsimp only at h101
            have h102 := hd 2 _ (by kernel_rfl) rfl
            change ac.eval (.tmp 102) = .slice A2 c.length c2 at h102
            clear hf hd
            have hw0 := h101
            obtain ⟨v', w', hrun, ho, hg, _, _⟩ := run_app (P := Try.prog) wx _ 40 40 5 i0 (.int .u8 0) 1 1 Try.underlying40 HI.out HZ.out.1 HZ.out.2.1 HZ.out.2.2 rfl (by decide) _ 0 [] hw0 (Vs.Old w) A2 c.length c2 (by8 c) (by rw [by8_len]; omega) (HRC.out wx (H15.out.below.trans (hB.mono H15.out.below.size))) (by8_one _) (by unfold maxLen; omega) (by omega) hB.size
            exact Inv.val v' (w' := w') (Inv.run_append2 rfl rfl h102 hrun) rfl ho ⟨(Below.refl _ _).grown hg hB.size (fun g e => (hw0.lt g e).1), fun h3 _ => (h3 rfl).elim⟩
          · intro ac wx hE hf hd
            have hB : Below w15.heap.size w15 wx := ⟨hE.os, hE.tape, hE.output, hE.size, hE.block⟩
            rw [if_pos (Inv.want0 rfl _)]
            have h0 : ac.eval (.tmp 0) = .slice A1 b.length c1 := hf 0 (by kernel_rfl)
            clear hf hd
            refine Inv.val (.slice A1 b.length c1) (w' := wx) ?_ rfl rfl ⟨Below.refl _ _, fun _ _ => Below.refl _ _⟩
            clear hE hB
            generalize ac.eval = ev at *
            simp [execOp, go_sem, *]
          · intro ac wx hE hf hd
            have hB : Below w15.heap.size w15 wx := ⟨hE.os, hE.tape, hE.output, hE.size, hE.block⟩
            rw [if_pos (Inv.want0 rfl _)]
            have h1 : ac.eval (.tmp 1) = .slice A2 c.length c2 := hf 1 (by kernel_rfl)
            clear hf hd
            refine Inv.val (.slice A2 c.length c2) (w' := wx) ?_ rfl rfl ⟨Below.refl _ _, fun _ _ => Below.refl _ _⟩
            clear hE hB
            generalize ac.eval = ev at *
            simp [execOp, go_sem, *]
          · intro ac wx hE hf hd
            have hB : Below w15.heap.size w15 wx := ⟨hE.os, hE.tape, hE.output, hE.size, hE.block⟩
            rw [if_pos (Inv.want0 rfl _)]
            have h105 := hd 5 _ (by kernel_rfl) rfl
            change ac.eval (.tmp 105) = .slice A2 c.length c2 at h105
            clear hf hd
            refine Inv.val (.int .i64 (c.length : Int)) (w' := wx) ?_ rfl rfl ⟨Below.refl _ _, fun _ _ => Below.refl _ _⟩
            clear hE hB
            generalize ac.eval = ev at *
            simp [go_sem, *]
          · intro ac wx hE hf hd
            have hB : Below w15.heap.size w15 wx := ⟨hE.os, hE.tape, hE.output, hE.size, hE.block⟩
            rw [if_pos (Inv.want0 rfl _)]
            have h104 := hd 4 _ (by kernel_rfl) rfl
            change ac.eval (.tmp 104) = .slice A1 b.length c1 at h104
            have h106 := hd 6 _ (by kernel_rfl) rfl
            change ac.eval (.tmp 106) = .int .i64 (c.length : Int) at h106
            clear hf hd
            have hsl := slice_from wx A1 b.length c.length c1 hcl hc1
            refine Inv.val (.slice (if c1 = c.length then A1 else Option.map (fun x => x.add c.length) A1) (b.length - c.length) (c1 - c.length)) (w' := wx) ?_ rfl (rfl) (⟨Below.refl _ _, fun _ _ => Below.refl _ _⟩)
            clear hE hB
            generalize ac.eval = ev at *
            simp [execOp, go_sem, h104, h106, hsl]
          · intro ac wx hE hf hd
            have hB : Below w15.heap.size w15 wx := ⟨hE.os, hE.tape, hE.output, hE.size, hE.block⟩
            rw [if_pos (Inv.want0 rfl _)]
            have h103 := hd 3 _ (by kernel_rfl) rfl
            change (fun v W => W.ownsRow w15.heap.size 5 1 v (0 + c.length) ([] ++ by8 c)) (ac.eval (.tmp 103)) wx at h103
            try dsimp only at h103
            have h107 := hd 7 _ (by kernel_rfl) rfl
            change ac.eval (.tmp 107) = .slice (if c1 = c.length then A1 else Option.map (fun x => x.add c.length) A1) (b.length - c.length) (c1 - c.length) at h107
            clear hf hd
            have hw0 := h103
            obtain ⟨v', w', hrun, ho, hg, _, _⟩ := run_app (P := Try.prog) wx _ 40 40 5 i0 (.int .u8 0) 1 1 Try.underlying40 HI.out HZ.out.1 HZ.out.2.1 HZ.out.2.2 rfl (by decide) _ (0 + c.length) _ hw0 (Vs.Old w) (if c1 = c.length then A1 else Option.map (fun x => x.add c.length) A1) (b.length - c.length) (c1 - c.length) (by8 (b.drop c.length)) (by rw [by8_len, List.length_drop]; omega) (HRB.out wx (H15.out.below.trans (hB.mono H15.out.below.size))) (by8_one _) (by unfold maxLen; omega) (by omega) hB.size
            exact Inv.val v' (w' := w') (Inv.run_append2 rfl rfl h107 hrun) rfl ho ⟨(Below.refl _ _).grown hg hB.size (fun g e => (hw0.lt g e).1), fun _ h8 => (h8 rfl).elim⟩
          · intro ac wx hE hf hd
            have hB : Below w15.heap.size w15 wx := ⟨hE.os, hE.tape, hE.output, hE.size, hE.block⟩
            rw [if_pos (Inv.want0 rfl _)]
            have h100 := hd 0 _ (by kernel_rfl) rfl
            change ac.eval (.tmp 100) = .slice (some ⟨w14.heap.size, 0, none⟩) b.length b.length at h100
            have h108 := hd 8 _ (by kernel_rfl) rfl
            change (fun v W => W.ownsRow w15.heap.size 5 1 v (0 + c.length + (b.length - c.length)) ([] ++ by8 c ++ by8 (b.drop c.length))) (ac.eval (.tmp 108)) wx at h108
            try dsimp only at h108
            clear hf hd
            refine Inv.go (f := 21) (xs := #[.slice (some ⟨w14.heap.size, 0, none⟩) b.length b.length, ac.eval (.tmp 108)]) ?_ rfl ?_
            · clear hE hB
              have hfn : ac.eval (.func 21) = .func (.func 21) #[] #[] := rfl
              generalize ac.eval = ev at *
              simp [execOp, go_sem, *]
            · exact (HSAME.out wx _ _ _ _ (Bs.own ((H15.out.under hB).rows _ (List.mem_cons_self ..))) (Vs.two_rows h108)).mono fun e w' ⟨he, hb⟩ => ⟨_, he, rfl, hb.mono hB.size, fun _ _ => hb⟩
          · intro ac wx hE hf hd
            have hB : Below w15.heap.size w15 wx := ⟨hE.os, hE.tape, hE.output, hE.size, hE.block⟩
            rw [if_pos (Inv.want0 rfl _)]
            have h109 := hd 9 _ (by kernel_rfl) rfl
            change ac.eval (.tmp 109) = .bool true at h109
            clear hf hd
            refine Inv.val (.bool true) (w' := wx) ?_ rfl rfl ⟨Below.refl _ _, fun _ _ => Below.refl _ _⟩
            clear hE hB
            generalize ac.eval = ev at *
            simp [execOp, go_sem, *]
          · intro ac wx hE hf hd
            have hB : Below w15.heap.size w15 wx := ⟨hE.os, hE.tape, hE.output, hE.size, hE.block⟩
            have hg := hd 10 _ (by kernel_rfl) rfl
            change ac.eval (.tmp 110) = .bool true at hg
            rw [if_pos (Inv.want (j := 10) (b := true) (d := 110) rfl rfl rfl hg)]
            clear hf hd
            refine Inv.go (f := 11) (xs := #[]) ?_ rfl ?_
            · clear hE hB
              have hfn : ac.eval (.func 11) = .func (.func 11) #[] #[] := rfl
              generalize ac.eval = ev at *
              simp [execOp, go_sem, *]
            · exact (HK.out wx).mono fun e w' ⟨he, hb⟩ => ⟨_, he, rfl, hb.mono hB.size, fun _ _ => hb⟩
          · intro ac wx hE hf hd
            have hB : Below w15.heap.size w15 wx := ⟨hE.os, hE.tape, hE.output, hE.size, hE.block⟩
            rw [if_pos (Inv.want0 rfl _)]
            have h110 := hd 10 _ (by kernel_rfl) rfl
            change ac.eval (.tmp 110) = .bool true at h110
            have h111 := hd 11 _ (by kernel_rfl) rfl
            change ac.eval (.tmp 111) = .bool true at h111
            clear hf hd
            refine Inv.val (.bool true) (w' := wx) ?_ rfl (rfl) (⟨Below.refl _ _, fun _ _ => Below.refl _ _⟩)
            clear hE hB
            have hcst : ∀ v, ac.eval (.const v) = v := fun _ => rfl
            generalize ac.eval = ev at *
            simp [execOp, go_sem, *]
          · intro ac wx hE hf hd
            have hB : Below w15.heap.size w15 wx := ⟨hE.os, hE.tape, hE.output, hE.size, hE.block⟩
            rw [if_pos (Inv.want0 rfl _)]
            have h112 := hd 12 _ (by kernel_rfl) rfl
            change ac.eval (.tmp 112) = .bool true at h112
            clear hf hd
            refine Inv.val (.bool true) (w' := wx) ?_ rfl rfl ⟨Below.refl _ _, fun _ _ => Below.refl _ _⟩
            clear hE hB
            generalize ac.eval = ev at *
            simp [execOp, go_sem, *]
        case fin =>
          intro ac wx hE ha hall
          have hB : Below w15.heap.size w15 wx := ⟨hE.os, hE.tape, hE.output, hE.size, hE.block⟩
          have h100 := hall 0 _ (by decide) (by kernel_rfl) rfl
          change ac.eval (.tmp 100) = .slice (some ⟨w14.heap.size, 0, none⟩) b.length b.length at h100
          generalize hv101 : ac.eval (.tmp 101) = v101 at *
          have h102 := hall 2 _ (by decide) (by kernel_rfl) rfl
          change ac.eval (.tmp 102) = .slice A2 c.length c2 at h102
          generalize hv103 : ac.eval (.tmp 103) = v103 at *
          have h104 := hall 4 _ (by decide) (by kernel_rfl) rfl
          change ac.eval (.tmp 104) = .slice A1 b.length c1 at h104
          have h105 := hall 5 _ (by decide) (by kernel_rfl) rfl
          change ac.eval (.tmp 105) = .slice A2 c.length c2 at h105
          have h106 := hall 6 _ (by decide) (by kernel_rfl) rfl
          change ac.eval (.tmp 106) = .int .i64 (c.length : Int) at h106
          generalize hv107 : ac.eval (.tmp 107) = v107 at *
          generalize hv108 : ac.eval (.tmp 108) = v108 at *
          have h109 := hall 9 _ (by decide) (by kernel_rfl) rfl
          change ac.eval (.tmp 109) = .bool true at h109
          have h110 := hall 10 _ (by decide) (by kernel_rfl) rfl
          change ac.eval (.tmp 110) = .bool true at h110
          have h111 := hall 11 _ (by decide) (by kernel_rfl) rfl
          change ac.eval (.tmp 111) = .bool true at h111
          have h112 := hall 12 _ (by decide) (by kernel_rfl) rfl
          change ac.eval (.tmp 112) = .bool true at h112
          have h4 := hall 13 _ (by decide) (by kernel_rfl) rfl
          change ac.eval (.tmp 4) = .bool true at h4
          simp only [List.take_succ_cons, List.take_zero, List.foldl, Inv.slot, Act.put] at ha
          change ac.tmps.getD 100 undef = _ at h100
          change ac.tmps.getD 101 undef = _ at hv101
          change ac.tmps.getD 102 undef = _ at h102
          change ac.tmps.getD 103 undef = _ at hv103
          change ac.tmps.getD 104 undef = _ at h104
          change ac.tmps.getD 105 undef = _ at h105
          change ac.tmps.getD 106 undef = _ at h106
          change ac.tmps.getD 107 undef = _ at hv107
          change ac.tmps.getD 108 undef = _ at hv108
          change ac.tmps.getD 109 undef = _ at h109
          change ac.tmps.getD 110 undef = _ at h110
          change ac.tmps.getD 111 undef = _ at h111
          change ac.tmps.getD 112 undef = _ at h112
          change ac.tmps.getD 4 undef = _ at h4
          simp only [h100, hv101, h102, hv103, h104, h105, h106, hv107, hv108, h109, h110, h111, h112, h4, List.setIfInBounds_toArray, List.set_cons_zero, List.set_cons_succ] at ha
          clear h100 hv101 h102 hv103 h104 h105 h106 hv107 hv108 h109 h110 h111 h112 h4 hall hE
          subst ha
          refine wpList_nil ?_
          have H19 := Lib.hid (H15.out.under hB)
          clear hB
          go_wp2_with fail
          go_ret
          exact ⟨rfl, H19.out.below⟩
end Go.Proofs.Ytiacpopgnmledaa
