/-
  GlAdd: CONTRACTS: chapter 9: limited; a piece more in a row.
-/
import Derived.Test.YtfmbbhcjnidcbaaGreatDoorJ23
import Derived.Test.YtfmbbhcjnidcbaaGreatDoorJ13
import Derived.Deep.RegionLaw
import Derived.Test.YtfmbbhcjnidcbaaGreatDoorJ24
import Derived.Test.YtfmbbhcjnidcbaaGreatDoorJ25

namespace Go.Proofs.YtfmbbhcjnidcbaaGreatDoor
open Go.RowKit Go.Sort
open Me

set_option maxHeartbeats 400000 in
theorem limited_any (n : Nat) (hn : n ≤ 4294967296) (w : World) :
    Calls Tryz.prog 119 #[.int .i64 n] w fun e w' => e = .returned (.int .i64 (Gl.lim n)) ∧ w' = w := by
  have HL : Hid ((Gl.lim n : Int) = min (n : Int) 513) := Lib.hid (by unfold Gl.lim; omega)
  generalize (Gl.lim n : Int) = R at *
  by_cases h : n ≤ 513
  · have h' : (n : Int) ≤ 513 := by omega
    have HQ : Hid ((n : Int) = R) := Lib.hid (by rw [HL.out]; omega)
    go_enter Tryz.func119, Tryz.ntmps119
    go_wp2_with fail
    go_ret
    exact ⟨by first | exact congrArg (fun x => Ending.returned (.int .i64 x)) HQ.out | (refine congrArg (fun x => Ending.returned (.int .i64 x)) ?_; rw [HL.out]), rfl⟩
  · have h' : ¬ (n : Int) ≤ 513 := by omega
    have HQ : Hid ((513 : Int) = R) := Lib.hid (by rw [HL.out]; omega)
    go_enter Tryz.func119, Tryz.ntmps119
    go_wp2_with fail
    go_ret
    exact ⟨by first | exact congrArg (fun x => Ending.returned (.int .i64 x)) HQ.out | (refine congrArg (fun x => Ending.returned (.int .i64 x)) ?_; rw [HL.out]), rfl⟩

theorem limited_below (n : Nat) (hn : n ≤ 4294967296) (w : World) :
    Calls Tryz.prog 119 #[.int .i64 n] w fun e w' => e = .returned (.int .i64 (Gl.lim n)) ∧ Below w.heap.size w w' := by
  refine (limited_any n hn w).mono ?_
  rintro e w' ⟨h1, rfl⟩
  exact ⟨h1, Below.refl _ _⟩
theorem pieceinfo : (Tryz.prog.info? 130).map (fun i => (i.zero, i.size, i.bytes)) = some (some (.agg #[.string ⟨#[]⟩, .slice none 0 0, .int .i64 0]), 3, 48) := by kernel_rfl
theorem rowinfo : (Tryz.prog.info? 101).map (fun i => (i.zero, i.size, i.bytes)) = some (some (.agg #[.slice none 0 0, .int .i64 0]), 2, 32) := by kernel_rfl

namespace Gl
theorem row_type {w : World} {base n : Nat} {e : TypeId} {size : Nat} {v : Value} {xs : List Value} (h : w.ownsRow base e size v n xs) {g : Nat} (hg : v.ownBlock = some g) : ∃ cur, w.heap[g]? = some (.cells cur e (0, 0)) := by
  rcases h.2 with ⟨rfl, _⟩ | ⟨g', cap, cur, rfl, _, hh, _⟩
  · cases hg
  · have : g' = g := by simpa [Value.ownBlock] using hg
    subst this
    exact ⟨cur, hh⟩
theorem own_form {w : World} {base : Nat} {e : TypeId} {size n : Nat} {v : Value} {xs : List Value} (h : w.ownsRow base e size v n xs) (hn : 0 < n) : ∃ g cap, v = .slice (some ⟨g, 0, none⟩) n cap := by
  rcases h.2 with ⟨_, h0⟩ | ⟨g, cap, cur, hv, _⟩
  · omega
  · exact ⟨g, cap, hv⟩
theorem own_slice {w : World} {base : Nat} {e : TypeId} {size n : Nat} {v : Value} {xs : List Value} (h : w.ownsRow base e size v n xs) : ∃ A c, v = .slice A n c := by
  rcases h.2 with ⟨rfl, rfl⟩ | ⟨g, cap, cur, rfl, _⟩
  · exact ⟨none, 0, rfl⟩
  · exact ⟨_, _, rfl⟩
/-- What an append onto the row in a box leaves: the box's other cell as it was. -/
def Grew (w : World) (base rb n : Nat) (t e : TypeId) (size : Nat) (lr : Option Nat) (zs : List Value) (u : Value) (w' : World) : Prop :=
  ∃ v' lr', RowAt w' rb t #[v', u] ∧ w'.ownsRow base e size v' n zs ∧ v'.ownBlock = lr' ∧ Kp (fun b => b = rb ∨ lr = some b) w w' ∧ (lr' = lr ∨ ∃ b, lr' = some b ∧ w.heap.size ≤ b)
theorem Grew.half {w W w2 : World} {base rb m size : Nat} {t e : TypeId} {v v2 u : Value} {zs : List Value} (hb : Below w.heap.size w W) (hrow : RowAt w rb t #[v, u]) (hne : v.ownBlock ≠ some rb)
    (hown : w2.ownsRow base e size v2 m zs) (hg : W.grownBy w2 v.ownBlock) (hat : v2.ownBlock = v.ownBlock ∨ v2.ownBlock = some W.heap.size) : Grew w base rb m t e size v.ownBlock zs u (w2.setCell ⟨rb, 0, none⟩ v2) := by
  have rl := hrow.lt
  have hf2 : RowAt w2 rb t #[v, u] := (hg.block rb (Nat.lt_of_lt_of_le rl hb.size) (fun e => hne e.symm)).trans ((hb.block rb rl).trans hrow)
  refine ⟨v2, v2.ownBlock, hf2.set_ 0 v2, ?_, rfl, ?_, ?_⟩
  · refine owns_keep hown (fun g hg' => Below.heap_setCell w2 ⟨rb, 0, none⟩ _ g ?_)
    show g ≠ rb
    rintro rfl
    rcases hat with e | e
    · exact hne (by rw [← e]; exact hg')
    · rw [hg'] at e
      have := Option.some.inj e
      have := hb.size
      omega
  · refine ((Kp.of_below hb).grown hg (fun g hg' => ?_)).setCell ⟨rb, 0, none⟩ (.inr (.inl rfl)) _
    exact .inr (.inr hg')
  · rcases hat with e | e
    · exact .inl e
    · exact .inr ⟨_, e, hb.size⟩
theorem Grew.put {w W : World} {base rb n size : Nat} {t e : TypeId} {lr : Option Nat} {zs : List Value} {u : Value} (h : Grew w base rb n t e size lr zs u W) {W2 : World} (hb : Below W.heap.size W W2) (hlr : lr ≠ some rb) (hrb : rb < w.heap.size) (u2 : Value) : Grew w base rb n t e size lr zs u2 (W2.setCell ⟨rb, 1, none⟩ u2) := by
  obtain ⟨v', lr', h1, h2, h3, h4, h5⟩ := h
  refine ⟨v', lr', (h1.below hb h1.lt).set_ 1 u2, ?_, h3, ?_, h5⟩
  · refine owns_keep (owns_keep h2 fun g hg => hb.block g (World.ownsRow.lt h2 g hg).2) (fun g hg' => Below.heap_setCell W2 ⟨rb, 1, none⟩ _ g ?_)
    show g ≠ rb
    rintro rfl
    rw [h3] at hg'
    rcases h5 with e | ⟨b, e, hb2⟩
    · exact hlr (by rw [← e]; exact hg')
    · rw [hg'] at e
      have := Option.some.inj e
      omega
  · refine Kp.setCell (h4.trans (Kp.of_below (O := fun _ => False) hb) (fun _ _ h => h.elim)) ⟨rb, 1, none⟩ (.inr (.inl rfl)) _
end Gl

set_option maxRecDepth 100000 in
set_option maxHeartbeats 2000000 in
theorem add_any {w : World} {base rb n k k2 : Nat} {v rs : Value} {b : List UInt8} {xs : List Value} (hrow : RowAt w rb 101 #[v, .int .i64 k]) (hown : w.ownsRow base 130 3 v n xs) (hn : n ≤ 8589934592) (hbase : base ≤ w.heap.size)
    (hk : k ≤ 513) (hk2 : k2 ≤ 513) (hrs : ∃ A m c, rs = .slice A m c) :
    Calls Tryz.prog 85 #[.pointer (some ⟨rb, 0, none⟩), .agg #[.string ⟨b.toArray⟩, rs, .int .i64 k2]] w fun e w' => e = .returned (.tuple #[]) ∧ Gl.Grew w base rb (n + 1) 101 130 3 v.ownBlock (xs ++ [.string ⟨b.toArray⟩, rs, .int .i64 k2]) (.int .i64 (Gl.lim (k * k2))) w' := by
  obtain ⟨i0, hi0, hz0, hz1, hz2⟩ := info_parts pieceinfo
  have HI := Lib.hid hi0
  have HZ := Lib.hid (And.intro hz0 (And.intro hz1 hz2))
  clear hi0 hz0 hz1 hz2
  obtain ⟨A, m, c, rfl⟩ := hrs
  have rl := hrow.lt
  have c0 : w.cell? ⟨rb, 0, none⟩ = some v := (hrow.cell 0).trans rfl
  have c1 : w.cell? ⟨rb, 1, none⟩ = some (.int .i64 k) := (hrow.cell 1).trans rfl
  have cf0 := hrow.frozen 0
  have HRow := Lib.hid hrow
  have hne : v.ownBlock ≠ some rb := fun e => by
    obtain ⟨cur, hc⟩ := Gl.row_type hown e
    unfold RowAt at hrow
    rw [hrow] at hc
    have := Option.some.inj hc
    simp at this
  have HNE := Lib.hid hne
  obtain ⟨Av, cv, rfl⟩ := Gl.own_slice hown
  have HO : ∀ o o' : Obj, ((w.alloc o).alloc o').ownsRow base 130 3 (.slice Av n cv) n xs := fun o o' => (hown.alloc o).alloc o'
  have HOW := Lib.hid (HO (.cells #[.string ⟨b.toArray⟩, .slice A m c, .int .i64 k2] 130) (.cells #[.string ⟨b.toArray⟩, .slice A m c, .int .i64 k2] 130))
  have HBW : Hid (Below w.heap.size w ((w.alloc (.cells #[.string ⟨b.toArray⟩, .slice A m c, .int .i64 k2] 130)).alloc (.cells #[.string ⟨b.toArray⟩, .slice A m c, .int .i64 k2] 130))) := Lib.hid (((Below.refl _ _).alloc (Nat.le_refl _) _).alloc (by simp) _)
  have HRD := Lib.hid (Rd.fresh (w.alloc (.cells #[.string ⟨b.toArray⟩, .slice A m c, .int .i64 k2] 130)) [.string ⟨b.toArray⟩, .slice A m c, .int .i64 k2] 130 (w.heap.size + 1) (by simp))
  have HBox : Hid (RowAt ((w.alloc (.cells #[.string ⟨b.toArray⟩, .slice A m c, .int .i64 k2] 130)).alloc (.cells #[.string ⟨b.toArray⟩, .slice A m c, .int .i64 k2] 130)) w.heap.size 130 #[.string ⟨b.toArray⟩, .slice A m c, .int .i64 k2]) := Lib.hid ((RowAt.new w _ _).alloc _)
  have HOwn := Lib.hid hown
  obtain ⟨K, hK⟩ : ∃ K, K = k * k2 := ⟨_, rfl⟩
  have hKle : K ≤ 513 * 513 := by rw [hK]; exact Nat.mul_le_mul hk hk2
  have hmul : IntKind.i64.wrap ((k : Int) * (k2 : Int)) = (K : Int) := by
    rw [show (k : Int) * (k2 : Int) = (K : Int) by rw [hK]; exact (Int.natCast_mul k k2).symm]
    exact IntWalk.i64_in _ (by omega)
  rw [← hK]
  clear hK
  have HLm := Lib.hid fun W => limited_below K (by omega) W
  clear hrow hown hne HO
  go_enter Tryz.func85, Tryz.ntmps85
  go_wp2_with fail
  go_region_law (refine step_app _ rfl (.tmp 8) (.tmp 10) 99 rfl base 130 i0 _ 3 48 Tryz.underlying99 HI.out HZ.out.1 HZ.out.2.1 HZ.out.2.2 rfl (by decide) (.slice Av n cv) n xs (by simp [Act.eval]) HOW.out (fun b => b = w.heap.size + 1) (some ⟨w.heap.size + 1, 0, none⟩) 1 1 [.string ⟨b.toArray⟩, .slice A m c, .int .i64 k2] (by simp [Act.eval]) (by simp) HRD.out (by intro u hu; simp at hu; rcases hu with rfl | rfl | rfl <;> rfl) (by unfold maxLen; omega) (by omega) (by simp; omega) ?_; intro v2 w2 hown2 hg2 hat2 hnil2; obtain ⟨g2, cap2, rfl⟩ := Gl.own_form hown2 (by omega); have d0 : w2.cell? ⟨rb, 0, none⟩ = some (.slice Av n cv) := (hg2.cell_far ⟨rb, 0, none⟩ (by show rb < _; simp; omega) (fun e => HNE.out e.symm)).trans ((HBW.out.cell (p := ⟨rb, 0, none⟩) rl).trans c0); have df : w2.frozen? ⟨rb, 0, none⟩ = false := (hg2.frozen_far ⟨rb, 0, none⟩ (by show rb < _; simp; omega) (fun e => HNE.out e.symm)).trans ((HBW.out.frozen (p := ⟨rb, 0, none⟩) rl).trans cf0); have HO2 := Lib.hid hown2; have HG2 := Lib.hid hg2; have HA2 := Lib.hid hat2; clear hown2 hg2 hat2 hnil2)
  all_goals
    have HH := Lib.hid (Gl.Grew.half (u := .int .i64 k) HBW.out.drew HRow.out HNE.out HO2.out HG2.out HA2.out)
    have hbx : RowAt (w2.setCell ⟨rb, 0, none⟩ (.slice (some ⟨g2, 0, none⟩) (n + 1) cap2)) w.heap.size 130 #[.string ⟨b.toArray⟩, .slice A m c, .int .i64 k2] := by
      refine RowAt.far (g := w.heap.size) ?_ (p := ⟨rb, 0, none⟩) (by show w.heap.size ≠ rb; omega) _
      exact (HG2.out.block w.heap.size (by show w.heap.size < _; simp; omega) (fun e => by have := (World.ownsRow.lt HOwn.out _ e.symm).2; omega)).trans HBox.out
    clear d0 df HO2 HG2 HA2
    generalize w2.setCell ⟨rb, 0, none⟩ (.slice (some ⟨g2, 0, none⟩) (n + 1) cap2) = wy at *
    obtain ⟨vy, hR⟩ : ∃ vy, RowAt wy rb 101 #[vy, .int .i64 k] := by
      obtain ⟨vy, _, hR, _⟩ := HH.out
      exact ⟨vy, hR⟩
    have y1 : wy.cell? ⟨rb, 1, none⟩ = some (.int .i64 k) := (hR.cell 1).trans rfl
    have yf := hR.frozen 1
    have yb : wy.cell? ⟨w.heap.size, 2, none⟩ = some (.int .i64 k2) := (hbx.cell 2).trans rfl
    have yl := hR.lt
    have ybl := hbx.lt
    have HRy := Lib.hid hR
    clear hR hbx c0 cf0 c1
    go_wp2_with fail
    -- INV
    have HRl := Lib.hid rl
    clear hn hbase hk hk2 hKle HI HZ HRow HOW HBW HRD HBox HOwn rl
    refine Inv.region_tail 9 8 (fun W W' => Below W.heap.size W W') (fun i v W => match i with
      | 0 => v = .pointer (some ⟨rb, 0, none⟩)
      | 1 => v = .pointer (some ⟨rb, 0, none⟩)
      | 2 => v = .pointer (some ⟨rb, 0, none⟩)
      | 3 => v = .pointer (some ⟨rb, 1, none⟩)
      | 4 => v = .int .i64 (k : Int)
      | 5 => v = .pointer (some ⟨w.heap.size, 2, none⟩)
      | 6 => v = .int .i64 (k2 : Int)
      | 7 => v = .int .i64 (K : Int)
      | 8 => v = .int .i64 (Gl.lim K : Int)
      | _ => True) (by kernel_rfl) (by kernel_rfl) (by kernel_rfl) (by kernel_rfl) (fun W => Below.refl _ _) (fun a b c h k => h.trans (k.mono h.size)) (fun i v W W' h he => ?stab) ?obls ?fin
    case stab =>
      match i, h with
      | 0, h => exact h
      | 1, h => exact h
      | 2, h => exact h
      | 3, h => exact h
      | 4, h => exact h
      | 5, h => exact h
      | 6, h => exact h
      | 7, h => exact h
      | 8, h => exact h
      | _ + 9, h => exact h
    case obls =>
      refine .cons ?_ (.cons ?_ (.cons ?_ (.cons ?_ (.cons ?_ (.cons ?_ (.cons ?_ (.cons ?_ (.cons ?_ .nil))))))))
      · intro ac wx hE hf hd
        have hB : Below wy.heap.size wy wx := ⟨hE.os, hE.tape, hE.output, hE.size, hE.block⟩
        rw [if_pos (Inv.want0 rfl _)]
        have h0 : ac.eval (.tmp 0) = .pointer (some ⟨rb, 0, none⟩) := hf 0 (by kernel_rfl)
        clear hf hd
        have q1 := (hB.cell (p := ⟨rb, 1, none⟩) yl).trans y1
        have q2 := (hB.cell (p := ⟨w.heap.size, 2, none⟩) ybl).trans yb
        refine Inv.val (.pointer (some ⟨rb, 0, none⟩)) ?_ rfl rfl (Below.refl _ _)
        clear hE hB
        generalize ac.eval = ev at *
        simp [execOp, go_sem, *]
      · intro ac wx hE hf hd
        have hB : Below wy.heap.size wy wx := ⟨hE.os, hE.tape, hE.output, hE.size, hE.block⟩
        rw [if_pos (Inv.want0 rfl _)]
        have h0 : ac.eval (.tmp 0) = .pointer (some ⟨rb, 0, none⟩) := hf 0 (by kernel_rfl)
        clear hf hd
        have q1 := (hB.cell (p := ⟨rb, 1, none⟩) yl).trans y1
        have q2 := (hB.cell (p := ⟨w.heap.size, 2, none⟩) ybl).trans yb
        refine Inv.val (.pointer (some ⟨rb, 0, none⟩)) ?_ rfl rfl (Below.refl _ _)
        clear hE hB
        generalize ac.eval = ev at *
        simp [execOp, go_sem, *]
      · intro ac wx hE hf hd
        have hB : Below wy.heap.size wy wx := ⟨hE.os, hE.tape, hE.output, hE.size, hE.block⟩
        rw [if_pos (Inv.want0 rfl _)]
        have h15 := hd 1 _ (by kernel_rfl) rfl
        change ac.eval (.tmp 15) = .pointer (some ⟨rb, 0, none⟩) at h15
        clear hf hd
        have q1 := (hB.cell (p := ⟨rb, 1, none⟩) yl).trans y1
        have q2 := (hB.cell (p := ⟨w.heap.size, 2, none⟩) ybl).trans yb
        refine Inv.val (.pointer (some ⟨rb, 0, none⟩)) ?_ rfl rfl (Below.refl _ _)
        clear hE hB
        generalize ac.eval = ev at *
        simp [execOp, go_sem, *]
      · intro ac wx hE hf hd
        have hB : Below wy.heap.size wy wx := ⟨hE.os, hE.tape, hE.output, hE.size, hE.block⟩
        rw [if_pos (Inv.want0 rfl _)]
        have h16 := hd 2 _ (by kernel_rfl) rfl
        change ac.eval (.tmp 16) = .pointer (some ⟨rb, 0, none⟩) at h16
        clear hf hd
        have q1 := (hB.cell (p := ⟨rb, 1, none⟩) yl).trans y1
        have q2 := (hB.cell (p := ⟨w.heap.size, 2, none⟩) ybl).trans yb
        refine Inv.val (.pointer (some ⟨rb, 1, none⟩)) ?_ rfl rfl (Below.refl _ _)
        clear hE hB
        generalize ac.eval = ev at *
        simp [execOp, go_sem, *]
      · intro ac wx hE hf hd
        have hB : Below wy.heap.size wy wx := ⟨hE.os, hE.tape, hE.output, hE.size, hE.block⟩
        rw [if_pos (Inv.want0 rfl _)]
        have h17 := hd 3 _ (by kernel_rfl) rfl
        change ac.eval (.tmp 17) = .pointer (some ⟨rb, 1, none⟩) at h17
        clear hf hd
        have q1 := (hB.cell (p := ⟨rb, 1, none⟩) yl).trans y1
        have q2 := (hB.cell (p := ⟨w.heap.size, 2, none⟩) ybl).trans yb
        refine Inv.val (.int .i64 (k : Int)) ?_ rfl rfl (Below.refl _ _)
        clear hE hB
        generalize ac.eval = ev at *
        simp [execOp, go_sem, *]
      · intro ac wx hE hf hd
        have hB : Below wy.heap.size wy wx := ⟨hE.os, hE.tape, hE.output, hE.size, hE.block⟩
        rw [if_pos (Inv.want0 rfl _)]
        have h3 : ac.eval (.tmp 3) = .pointer (some ⟨w.heap.size, 0, none⟩) := hf 3 (by kernel_rfl)
        clear hf hd
        have q1 := (hB.cell (p := ⟨rb, 1, none⟩) yl).trans y1
        have q2 := (hB.cell (p := ⟨w.heap.size, 2, none⟩) ybl).trans yb
        refine Inv.val (.pointer (some ⟨w.heap.size, 2, none⟩)) ?_ rfl rfl (Below.refl _ _)
        clear hE hB
        generalize ac.eval = ev at *
        simp [execOp, go_sem, *]
      · intro ac wx hE hf hd
        have hB : Below wy.heap.size wy wx := ⟨hE.os, hE.tape, hE.output, hE.size, hE.block⟩
        rw [if_pos (Inv.want0 rfl _)]
        have h19 := hd 5 _ (by kernel_rfl) rfl
        change ac.eval (.tmp 19) = .pointer (some ⟨w.heap.size, 2, none⟩) at h19
        clear hf hd
        have q1 := (hB.cell (p := ⟨rb, 1, none⟩) yl).trans y1
        have q2 := (hB.cell (p := ⟨w.heap.size, 2, none⟩) ybl).trans yb
        refine Inv.val (.int .i64 (k2 : Int)) ?_ rfl rfl (Below.refl _ _)
        clear hE hB
        generalize ac.eval = ev at *
        simp [execOp, go_sem, *]
      · intro ac wx hE hf hd
        have hB : Below wy.heap.size wy wx := ⟨hE.os, hE.tape, hE.output, hE.size, hE.block⟩
        rw [if_pos (Inv.want0 rfl _)]
        have h18 := hd 4 _ (by kernel_rfl) rfl
        change ac.eval (.tmp 18) = .int .i64 (k : Int) at h18
        have h20 := hd 6 _ (by kernel_rfl) rfl
        change ac.eval (.tmp 20) = .int .i64 (k2 : Int) at h20
        clear hf hd
        have q1 := (hB.cell (p := ⟨rb, 1, none⟩) yl).trans y1
        have q2 := (hB.cell (p := ⟨w.heap.size, 2, none⟩) ybl).trans yb
        refine Inv.val (.int .i64 (K : Int)) ?_ rfl rfl (Below.refl _ _)
        clear hE hB
        generalize ac.eval = ev at *
        simp [execOp, go_sem, *]
      · intro ac wx hE hf hd
        have hB : Below wy.heap.size wy wx := ⟨hE.os, hE.tape, hE.output, hE.size, hE.block⟩
        rw [if_pos (Inv.want0 rfl _)]
        have h21 := hd 7 _ (by kernel_rfl) rfl
        change ac.eval (.tmp 21) = .int .i64 (K : Int) at h21
        clear hf hd
        refine Inv.go (f := 119) (xs := #[.int .i64 (K : Int)]) ?_ rfl ?_
        · clear hE hB
          have hfn : ac.eval (.func 119) = .func (.func 119) #[] #[] := rfl
          generalize ac.eval = ev at *
          simp [execOp, go_sem, *]
        · exact (HLm.out wx).mono fun e w' ⟨he, hb⟩ => ⟨_, he, rfl, hb⟩
    case fin =>
      intro ac wx hE ha hall
      have hB : Below wy.heap.size wy wx := ⟨hE.os, hE.tape, hE.output, hE.size, hE.block⟩
      have h14 := hall 0 _ (by decide) rfl
      change ac.eval (.tmp 14) = .pointer (some ⟨rb, 0, none⟩) at h14
      have h15 := hall 1 _ (by decide) rfl
      change ac.eval (.tmp 15) = .pointer (some ⟨rb, 0, none⟩) at h15
      have h16 := hall 2 _ (by decide) rfl
      change ac.eval (.tmp 16) = .pointer (some ⟨rb, 0, none⟩) at h16
      have h17 := hall 3 _ (by decide) rfl
      change ac.eval (.tmp 17) = .pointer (some ⟨rb, 1, none⟩) at h17
      have h18 := hall 4 _ (by decide) rfl
      change ac.eval (.tmp 18) = .int .i64 (k : Int) at h18
      have h19 := hall 5 _ (by decide) rfl
      change ac.eval (.tmp 19) = .pointer (some ⟨w.heap.size, 2, none⟩) at h19
      have h20 := hall 6 _ (by decide) rfl
      change ac.eval (.tmp 20) = .int .i64 (k2 : Int) at h20
      have h21 := hall 7 _ (by decide) rfl
      change ac.eval (.tmp 21) = .int .i64 (K : Int) at h21
      have h22 := hall 8 _ (by decide) rfl
      change (fun v W => v = .int .i64 (Gl.lim K : Int)) (ac.eval (.tmp 22)) wx at h22
      try dsimp only at h22
      generalize hv22 : ac.eval (.tmp 22) = v22 at *
      simp only [List.take_succ_cons, List.take_zero, List.foldl, Inv.slot, Act.put] at ha
      change ac.tmps.getD 14 undef = _ at h14
      change ac.tmps.getD 15 undef = _ at h15
      change ac.tmps.getD 16 undef = _ at h16
      change ac.tmps.getD 17 undef = _ at h17
      change ac.tmps.getD 18 undef = _ at h18
      change ac.tmps.getD 19 undef = _ at h19
      change ac.tmps.getD 20 undef = _ at h20
      change ac.tmps.getD 21 undef = _ at h21
      change ac.tmps.getD 22 undef = _ at hv22
      simp only [h14, h15, h16, h17, h18, h19, h20, h21, hv22, List.setIfInBounds_toArray, List.set_cons_zero, List.set_cons_succ] at ha
      clear h14 h15 h16 h17 h18 h19 h20 h21 hv22 hall hE
      subst ha
      simp only [List.drop_succ_cons, List.drop_zero]
      have HBq := Lib.hid hB
      have RR := HRy.out.below hB yl
      have q1 := (RR.cell 1).trans (show #[vy, Value.int .i64 k][1]? = some (.int .i64 k) from rfl)
      have qf := RR.frozen 1
      clear RR hB
      go_wp2_with fail
      ((try simp only [Exit.inBlock, Exit.then]); first | (refine bodyPost_ret (results_none rfl _ _ _) rfl ?_) | (refine bodyPost_end (results_none rfl _ _ _) rfl ?_))
      exact ⟨rfl, HH.out.put HBq.out HNE.out HRl.out _⟩
end Go.Proofs.YtfmbbhcjnidcbaaGreatDoor
