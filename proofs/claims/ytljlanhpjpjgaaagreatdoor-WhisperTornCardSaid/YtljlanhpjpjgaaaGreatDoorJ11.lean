/- SlWr FxOps -/
import Derived.Test.YtljlanhpjpjgaaaGreatDoorJ1
import Derived.Test.YtljlanhpjpjgaaaGreatDoorJ9
import Derived.Test.YtljlanhpjpjgaaaGreatDoorJ10
import Derived.Deep.DeepCutAuto
import Derived.Test.YtljlanhpjpjgaaaGreatDoorJ4
import Derived.StillTailTactics
import Derived.Deep.RegionWith
namespace Go.Proofs.YtljlanhpjpjgaaaGreatDoor
set_option maxRecDepth 100000
set_option maxHeartbeats 8000000
section
open Go.RowKit Go.Sort
open Me
def BsT (base : Nat) (w : World) (v : Value) (l : List UInt8) : Prop := Bs w (fun i => base ≤ i) v l
theorem BsT.below {base : Nat} {w w' : World} {v : Value} {l : List UInt8} (h : BsT base w v l) (b : Below w.heap.size w w') : BsT base w' v l := by
 obtain ⟨A, c, e, h1, h2, hr⟩ := h
 exact ⟨A, c, e, h1, h2, hr.below b⟩
theorem BsT.own {w0 : Nat} {w : World} {base : Nat} {v : Value} {l : List UInt8} (h : OwnB base w v l) (hb : w0 ≤ base) : BsT w0 w v l := by
 obtain ⟨A, c, e, h1, h2, hr⟩ := Bs.own h
 exact ⟨A, c, e, h1, h2, hr.mono fun _ _ hi => Nat.le_trans hb hi⟩
def Wr3M (base : Nat) (w : World) (v : Value) (L2 L3 : List UInt8) : Prop := ∃ (g : Nat) (v1 v2 v3 : Value), v = .slice (some ⟨g, 0, none⟩) 3 3 ∧ base ≤ g ∧ RowAt w g 45 #[v1, v2, v3] ∧ BsT base w v1 [0, 0, 0, 0] ∧ BsT base w v2 L2 ∧ BsT base w v3 L3
theorem Wr3M.below {base : Nat} {w w' : World} {v : Value} {L2 L3 : List UInt8} (h : Wr3M base w v L2 L3) (b : Below w.heap.size w w') : Wr3M base w' v L2 L3 := by
 obtain ⟨g, v1, v2, v3, e, hg, hr, h1, h2, h3⟩ := h
 exact ⟨g, v1, v2, v3, e, hg, hr.below b hr.lt, h1.below b, h2.below b, h3.below b⟩
section
variable {w0 w : World} {g : Nat} {lr : Option Nat} {a n : Int} {L : List UInt8}
theorem put0_P (h : Sl.Pst w0 g lr a n L w) (hL : L.length ≤ 100) :
 Calls Tryz.prog 120 #[.pointer (some ⟨g, 0, none⟩), .int .i64 0, .int .i64 4] w fun e w' => e = .returned (.tuple #[]) ∧ Sl.Pst w0 g lr a n (L ++ [0, 0, 0, 0]) w' := by
 have e : Sl.beb 0 4 = [0, 0, 0, 0] := by decide
 have := sput_P h hL 0 4 (by omega)
 rw [e] at this
 exact this
end
theorem swrites_anyM (a n : Int) (w : World) :
 Calls Tryz.prog 105 #[.agg #[.int .i64 a, .int .i64 n]] w fun e w' => ∃ v, e = .returned v ∧ Wr3M w.heap.size w' v (Sl.beb n 8) (Sl.beb (Sl.lim a) 4) ∧ Below w.heap.size w w' := by
 go_enter Tryz.func105, Tryz.ntmps105
 go_wp2_with first
  | (go_at_call 119; (with_reducible refine (pointOf_P a n _).mono ?_); rintro e w1 ⟨g, rfl, hg, hp1, hb1⟩; have HP1 := Lib.hid hp1; have HB1 : Hid (Below w.heap.size w w1) := Lib.hid (lowBox' (hb1.mono (by simp))); have hg1 : w.heap.size ≤ g := Nat.le_trans (by simp) hg; have hz1 : w.heap.size ≤ w1.heap.size := Nat.le_trans (by simp) hb1.size; clear hp1 hb1 hg)
  | (go_at_call 120; (with_reducible refine (put0_P HP1.out (by simp)).mono ?_); rintro e w2 ⟨rfl, hp2⟩; have HP2 := Lib.hid hp2; clear hp2 HP1)
  | (go_at_call 121; (with_reducible refine (stake_P HP2.out).mono ?_); rintro e w3 ⟨v1, rfl, ho3, hk3, hp3, hne1⟩; have HO3 := Lib.hid ho3; have HK3 := Lib.hid hk3; have HP3 := Lib.hid hp3; have HNE1 := Lib.hid hne1; obtain ⟨A1, n1, c1, rfl⟩ := own_slice ho3; clear ho3 hk3 hp3 hne1 HP2)
  | (go_at_call 122; (with_reducible refine (putN_P HP3.out (by simp)).mono ?_); rintro e w4 ⟨rfl, hp4⟩; have HP4 := Lib.hid hp4; clear hp4 HP3)
  | (go_at_call 121; (with_reducible refine (stake_P HP4.out).mono ?_); rintro e w5 ⟨v2, rfl, ho5, hk5, hp5, hne2⟩; have HO5 := Lib.hid ho5; have HK5 := Lib.hid hk5; have HP5 := Lib.hid hp5; have HNE2 := Lib.hid hne2; obtain ⟨A2, n2, c2, rfl⟩ := own_slice ho5; clear ho5 hk5 hp5 hne2 HP4)
  | (go_at_call 123; (with_reducible refine (putAt_P HP5.out (by simp)).mono ?_); rintro e w6 ⟨rfl, hp6⟩; have HP6 := Lib.hid hp6; clear hp6 HP5)
  | (go_at_call 121; (with_reducible refine (stake_P HP6.out).mono ?_); rintro e w7 ⟨v3, rfl, ho7, hk7, hp7, hne3⟩; have HO7 := Lib.hid ho7; have HK7 := Lib.hid hk7; obtain ⟨A3, n3, c3, rfl⟩ := own_slice ho7; clear ho7 hk7 hp7 hne3 HP6)
 go_ret
 have r1 := (HO3.out.kp HK5.out (fun b hb e => HNE1.out (e ▸ hb))).kp HK7.out (fun b hb e => HNE1.out (e ▸ hb))
 have r2 := HO5.out.kp HK7.out (fun b hb e => HNE2.out (e ▸ hb))
 have bel : Below w.heap.size w w7 := HB1.out.trans (((HK3.out.trans HK5.out (fun i _ h => h)).trans HK7.out (fun i _ h => h)).below hz1 (fun i hi e => by omega))
 have ab : ∀ o, Below w7.heap.size w7 (w7.alloc o) := fun o => (Below.refl _ _).alloc (Nat.le_refl _) o
 exact ⟨_, rfl, ⟨_, _, _, _, rfl, bel.size, RowAt.new w7 _ _, (BsT.own r1 hz1).below (ab _), (BsT.own r2 (Nat.le_trans hz1 HK3.out.size)).below (ab _), (BsT.own HO7.out (Nat.le_trans hz1 (Nat.le_trans HK3.out.size HK5.out.size))).below (ab _)⟩, bel.alloc bel.size _⟩
theorem Sl.enc_drop (a n : Int) : (Sl.enc a n).drop 4 = Sl.beb n 8 := rfl
theorem Sl.enc_take (a n : Int) : (Sl.enc a n).take 4 = Sl.beb (Sl.lim a) 4 := rfl
theorem rswrites_anyM (a n : Int) (w : World) :
 Calls Tryz.prog 39 #[.agg #[.int .i64 a, .int .i64 n]] w fun e w' => ∃ v, e = .returned v ∧ Wr3M w.heap.size w' v (Sl.beb n 8) (Sl.beb (Sl.lim a) 4) ∧ Below w.heap.size w w' := by
 have HEn := Lib.hid (fun W => rsencode_any a n W)
 have hl := Sl.enc_len a n
 rw [← Sl.enc_drop a n, ← Sl.enc_take a n]
 generalize Sl.enc a n = E at *
 have hd8 : (E.drop 4).length = 8 := by rw [List.length_drop]; omega
 have ht4 : (E.take 4).length = 4 := by rw [List.length_take]; omega
 have HL := Lib.hid (And.intro hl (And.intro hd8 ht4))
 clear hl hd8 ht4
 go_enter Tryz.func39, Tryz.ntmps39
 go_upto_region 2 with (go_at_call 77; (with_reducible refine (HEn.out _).mono ?_); rintro e w1 ⟨v1, rfl, ho1, hb1⟩; have HB1 : Hid (Below w.heap.size w w1) := Lib.hid (lowBox' (hb1.mono (by simp))); have HR1 := Lib.hid (Reads.own ho1); obtain ⟨A1, c1, rfl, hr1⟩ := ho1.lit; have HRX := Lib.hid hr1; clear ho1 hb1 hr1)
 obtain ⟨hl, hd8, ht4⟩ := HL.out
 obtain ⟨b1, o1, rfl, hby⟩ := By.of HRX.out (by omega)
 rw [hl] at *
 obtain ⟨_, _, e1, hc1, hrd⟩ := HR1.out
 injection e1 with e1 e2 e3
 subst e1 e3
 have hc12 : 12 ≤ c1 := by omega
 have hcI : (12 : Int) ≤ (c1 : Int) := by omega
 have h4c : ¬ c1 = 4 := by omega
 have h4I : ¬ (c1 : Int) < 4 := by omega
 have hrd0 := hrd
 have HRT : Hid (∀ W, Below w1.heap.size w1 W → Rd W (fun _ => True) (some ⟨b1, o1, none⟩) (by8 (E.take 4))) := Lib.hid fun W hb => by
  obtain ⟨A', c', e, _, hr⟩ := (Reads.take (n := 4) (⟨some ⟨b1, o1, none⟩, c1, rfl, by omega, hrd.below hb⟩ : Reads W (.slice (some ⟨b1, o1, none⟩) E.length c1) E) (by omega))
  injection e with e1 e2 e3
  subst e1
  exact hr
 have HRD : Hid (∀ W, Below w1.heap.size w1 W → Rd W (fun _ => True) (some ⟨b1, o1 + 4, none⟩) (by8 (E.drop 4))) := Lib.hid fun W hb => by
  have h := Rd.sub (hrd.below hb) 4 8
  rw [Addr.add_lit] at h
  have e : ((by8 E).drop 4).take 8 = by8 (E.drop 4) := by
   rw [List.take_of_length_le (by rw [List.length_drop, by8_len]; omega)]
   unfold by8
   rw [List.map_drop]
  rw [e] at h
  exact h
 clear hrd hrd0 hby HEn HRX HR1 e2 hl hc1
 refine Inv.region (fun W W' => Below W.heap.size W W') (fun i v W => match i with
  | 0 => BsT w.heap.size W v [0, 0, 0, 0]
  | 1 => ∃ g : Nat, v = .slice (some ⟨g, 0, none⟩) 0 0
  | 2 => v = .slice (some ⟨b1, o1, none⟩) 12 c1
  | 3 => v = .slice (some ⟨b1, o1 + 4, none⟩) 8 (c1 - 4)
  | 4 => BsT w.heap.size W v (E.drop 4)
  | 5 => ∃ g : Nat, v = .slice (some ⟨g, 0, none⟩) 0 0
  | 6 => v = .slice (some ⟨b1, o1, none⟩) 12 c1
  | 7 => v = .slice (some ⟨b1, o1, none⟩) 4 c1
  | 8 => BsT w.heap.size W v (E.take 4)
  | 9 => Wr3M w.heap.size W v (E.drop 4) (E.take 4)
  | 10 => Wr3M w.heap.size W v (E.drop 4) (E.take 4)
  | _ => True) (by kernel_rfl) (by kernel_rfl) (by kernel_rfl) (fun W => Below.refl _ _) (fun a b c h k => h.trans (k.mono h.size)) (fun i v W W' h he => ?stab) ?obls ?fin
 case stab =>
  match i, h with
  | 0, h => exact h.below he
  | 1, h => exact h
  | 2, h => exact h
  | 3, h => exact h
  | 4, h => exact h.below he
  | 5, h => exact h
  | 6, h => exact h
  | 7, h => exact h
  | 8, h => exact h.below he
  | 9, h => exact h.below he
  | 10, h => exact h.below he
  | _ + 11, h => exact h
 case obls =>
  refine .cons ?_ (.cons ?_ (.cons ?_ (.cons ?_ (.cons ?_ (.cons ?_ (.cons ?_ (.cons ?_ (.cons ?_ (.cons ?_ (.cons ?_ .nil))))))))))
  ·intro ac wx hE hf hd
   have hB : Below w1.heap.size w1 wx := ⟨hE.1,hE.2,hE.3,hE.4,hE.5⟩
   rw [if_pos (Inv.want0 rfl _)]
   clear hf hd
   refine Inv.val (.slice (some ⟨wx.heap.size, 0, none⟩) 4 4) (w' := wx.alloc (.cells #[.int .u8 0, .int .u8 0, .int .u8 0, .int .u8 0] 5)) ?_ rfl (BsT.own (base := wx.heap.size) (OwnB.fresh wx [0, 0, 0, 0] _ (Nat.le_refl _) (by decide)) (Nat.le_trans HB1.out.size hB.size)) ((Below.refl _ _).alloc (Nat.le_refl _) _)
   clear hE hB
   have hcst : ∀ v, ac.eval (.const v) = v := fun _ => rfl
   generalize ac.eval = ev at *
   simp [execOp, go_sem, *]
  ·intro ac wx hE hf hd
   have hB : Below w1.heap.size w1 wx := ⟨hE.1,hE.2,hE.3,hE.4,hE.5⟩
   rw [if_pos (Inv.want0 rfl _)]
   clear hf hd
   refine Inv.val (.slice (some ⟨wx.heap.size, 0, none⟩) 0 0) (w' := wx.alloc (.cells #[] 5)) ?_ rfl ⟨_, rfl⟩ ((Below.refl _ _).alloc (Nat.le_refl _) _)
   clear hE hB
   have hcst : ∀ v, ac.eval (.const v) = v := fun _ => rfl
   generalize ac.eval = ev at *
   simp [execOp, go_sem, *]
  ·intro ac wx hE hf hd
   have hB : Below w1.heap.size w1 wx := ⟨hE.1,hE.2,hE.3,hE.4,hE.5⟩
   rw [if_pos (Inv.want0 rfl _)]
   have h3 : ac.eval (.tmp 3) = .slice (some ⟨b1, o1, none⟩) 12 c1 := hf 3 (by kernel_rfl)
   clear hf hd
   refine Inv.val (.slice (some ⟨b1, o1, none⟩) 12 c1) ?_ rfl rfl (Below.refl _ _)
   clear hE hB
   generalize ac.eval = ev at *
   simp [execOp, go_sem, *]
  ·intro ac wx hE hf hd
   have hB : Below w1.heap.size w1 wx := ⟨hE.1,hE.2,hE.3,hE.4,hE.5⟩
   rw [if_pos (Inv.want0 rfl _)]
   have h8 := hd 2 _ (by kernel_rfl) rfl
   change ac.eval (.tmp 8) = .slice (some ⟨b1, o1, none⟩) 12 c1 at h8
   clear hf hd
   refine Inv.val (.slice (some ⟨b1, o1 + 4, none⟩) 8 (c1 - 4)) ?_ rfl rfl (Below.refl _ _)
   clear hE hB
   have hcst : ∀ v, ac.eval (.const v) = v := fun _ => rfl
   generalize ac.eval = ev at *
   simp [execOp, go_sem, *]
  ·intro ac wx hE hf hd
   have hB : Below w1.heap.size w1 wx := ⟨hE.1,hE.2,hE.3,hE.4,hE.5⟩
   rw [if_pos (Inv.want0 rfl _)]
   have h7 := hd 1 _ (by kernel_rfl) rfl
   change (fun v W => ∃ g : Nat, v = .slice (some ⟨g, 0, none⟩) 0 0) (ac.eval (.tmp 7)) wx at h7
   try dsimp only at h7
   have h9 := hd 3 _ (by kernel_rfl) rfl
   change ac.eval (.tmp 9) = .slice (some ⟨b1, o1 + 4, none⟩) 8 (c1 - 4) at h9
   clear hf hd
   obtain ⟨g, hg⟩ := h7
   obtain ⟨cp, W', hrun, ho, hbl⟩ := app_empty (W := wx) ⟨g, 0, none⟩ _ (c1 - 4) (E.drop 4) 45 45 Tryz.underlying45 _ (HRD.out wx hB) (by rw [hd8]; omega) (by rw [hd8]; omega) wx.heap.size (Nat.le_refl _)
   rw [hd8] at hrun ho
   refine Inv.val (.slice (some ⟨wx.heap.size, 0, none⟩) 8 cp) (w' := W') (Inv.run_append2 rfl hg h9 hrun) rfl (BsT.own ho (Nat.le_trans HB1.out.size hB.size)) hbl
  ·intro ac wx hE hf hd
   have hB : Below w1.heap.size w1 wx := ⟨hE.1,hE.2,hE.3,hE.4,hE.5⟩
   rw [if_pos (Inv.want0 rfl _)]
   clear hf hd
   refine Inv.val (.slice (some ⟨wx.heap.size, 0, none⟩) 0 0) (w' := wx.alloc (.cells #[] 5)) ?_ rfl ⟨_, rfl⟩ ((Below.refl _ _).alloc (Nat.le_refl _) _)
   clear hE hB
   have hcst : ∀ v, ac.eval (.const v) = v := fun _ => rfl
   generalize ac.eval = ev at *
   simp [execOp, go_sem, *]
  ·intro ac wx hE hf hd
   have hB : Below w1.heap.size w1 wx := ⟨hE.1,hE.2,hE.3,hE.4,hE.5⟩
   rw [if_pos (Inv.want0 rfl _)]
   have h3 : ac.eval (.tmp 3) = .slice (some ⟨b1, o1, none⟩) 12 c1 := hf 3 (by kernel_rfl)
   clear hf hd
   refine Inv.val (.slice (some ⟨b1, o1, none⟩) 12 c1) ?_ rfl rfl (Below.refl _ _)
   clear hE hB
   generalize ac.eval = ev at *
   simp [execOp, go_sem, *]
  ·intro ac wx hE hf hd
   have hB : Below w1.heap.size w1 wx := ⟨hE.1,hE.2,hE.3,hE.4,hE.5⟩
   rw [if_pos (Inv.want0 rfl _)]
   have h12 := hd 6 _ (by kernel_rfl) rfl
   change ac.eval (.tmp 12) = .slice (some ⟨b1, o1, none⟩) 12 c1 at h12
   clear hf hd
   refine Inv.val (.slice (some ⟨b1, o1, none⟩) 4 c1) ?_ rfl rfl (Below.refl _ _)
   clear hE hB
   have hcst : ∀ v, ac.eval (.const v) = v := fun _ => rfl
   generalize ac.eval = ev at *
   simp [execOp, go_sem, *]
  ·intro ac wx hE hf hd
   have hB : Below w1.heap.size w1 wx := ⟨hE.1,hE.2,hE.3,hE.4,hE.5⟩
   rw [if_pos (Inv.want0 rfl _)]
   have h11 := hd 5 _ (by kernel_rfl) rfl
   change (fun v W => ∃ g : Nat, v = .slice (some ⟨g, 0, none⟩) 0 0) (ac.eval (.tmp 11)) wx at h11
   try dsimp only at h11
   have h13 := hd 7 _ (by kernel_rfl) rfl
   change ac.eval (.tmp 13) = .slice (some ⟨b1, o1, none⟩) 4 c1 at h13
   clear hf hd
   obtain ⟨g, hg⟩ := h11
   obtain ⟨cp, W', hrun, ho, hbl⟩ := app_empty (W := wx) ⟨g, 0, none⟩ _ c1 (E.take 4) 45 45 Tryz.underlying45 _ (HRT.out wx hB) (by rw [ht4]; omega) (by rw [ht4]; omega) wx.heap.size (Nat.le_refl _)
   rw [ht4] at hrun ho
   refine Inv.val (.slice (some ⟨wx.heap.size, 0, none⟩) 4 cp) (w' := W') (Inv.run_append2 rfl hg h13 hrun) rfl (BsT.own ho (Nat.le_trans HB1.out.size hB.size)) hbl
  ·intro ac wx hE hf hd
   have hB : Below w1.heap.size w1 wx := ⟨hE.1,hE.2,hE.3,hE.4,hE.5⟩
   rw [if_pos (Inv.want0 rfl _)]
   have h6 := hd 0 _ (by kernel_rfl) rfl
   change (fun v W => BsT w.heap.size W v [0, 0, 0, 0]) (ac.eval (.tmp 6)) wx at h6
   try dsimp only at h6
   have h10 := hd 4 _ (by kernel_rfl) rfl
   change (fun v W => BsT w.heap.size W v (E.drop 4)) (ac.eval (.tmp 10)) wx at h10
   try dsimp only at h10
   have h14 := hd 8 _ (by kernel_rfl) rfl
   change (fun v W => BsT w.heap.size W v (E.take 4)) (ac.eval (.tmp 14)) wx at h14
   try dsimp only at h14
   clear hf hd
   refine Inv.val (.slice (some ⟨wx.heap.size, 0, none⟩) 3 3) (w' := wx.alloc (.cells #[ac.eval (.tmp 6), ac.eval (.tmp 10), ac.eval (.tmp 14)] 45)) ?_ rfl ⟨_, _, _, _, rfl, Nat.le_trans HB1.out.size hB.size, RowAt.new wx _ _, h6.below ((Below.refl _ _).alloc (Nat.le_refl _) _), h10.below ((Below.refl _ _).alloc (Nat.le_refl _) _), h14.below ((Below.refl _ _).alloc (Nat.le_refl _) _)⟩ ((Below.refl _ _).alloc (Nat.le_refl _) _)
   clear hE hB
   obtain ⟨A6, c6, e6, _, _⟩ := h6
   obtain ⟨A10, c10, e10, _, _⟩ := h10
   obtain ⟨A14, c14, e14, _, _⟩ := h14
   generalize ac.eval = ev at *
   rw [e6, e10, e14]
   simp [execOp, go_sem, *]
  ·intro ac wx hE hf hd
   have hB : Below w1.heap.size w1 wx := ⟨hE.1,hE.2,hE.3,hE.4,hE.5⟩
   rw [if_pos (Inv.want0 rfl _)]
   have h15 := hd 9 _ (by kernel_rfl) rfl
   change (fun v W => Wr3M w.heap.size W v (E.drop 4) (E.take 4)) (ac.eval (.tmp 15)) wx at h15
   try dsimp only at h15
   clear hf hd
   have h15' := h15
   refine Inv.val (ac.eval (.tmp 15)) ?_ rfl h15 (Below.refl _ _)
   clear hE hB
   generalize ac.eval = ev at *
   simp [execOp, go_sem]
 case fin =>
  intro ac wx hE ha hall
  have hB : Below w1.heap.size w1 wx := ⟨hE.1,hE.2,hE.3,hE.4,hE.5⟩
  have h6 := hall 0 _ rfl
  change (fun v W => BsT w.heap.size W v [0, 0, 0, 0]) (ac.eval (.tmp 6)) wx at h6
  try dsimp only at h6
  generalize hv6 : ac.eval (.tmp 6) = v6 at *
  have h7 := hall 1 _ rfl
  change (fun v W => ∃ g : Nat, v = .slice (some ⟨g, 0, none⟩) 0 0) (ac.eval (.tmp 7)) wx at h7
  try dsimp only at h7
  generalize hv7 : ac.eval (.tmp 7) = v7 at *
  have h8 := hall 2 _ rfl
  change ac.eval (.tmp 8) = .slice (some ⟨b1, o1, none⟩) 12 c1 at h8
  have h9 := hall 3 _ rfl
  change ac.eval (.tmp 9) = .slice (some ⟨b1, o1 + 4, none⟩) 8 (c1 - 4) at h9
  have h10 := hall 4 _ rfl
  change (fun v W => BsT w.heap.size W v (E.drop 4)) (ac.eval (.tmp 10)) wx at h10
  try dsimp only at h10
  generalize hv10 : ac.eval (.tmp 10) = v10 at *
  have h11 := hall 5 _ rfl
  change (fun v W => ∃ g : Nat, v = .slice (some ⟨g, 0, none⟩) 0 0) (ac.eval (.tmp 11)) wx at h11
  try dsimp only at h11
  generalize hv11 : ac.eval (.tmp 11) = v11 at *
  have h12 := hall 6 _ rfl
  change ac.eval (.tmp 12) = .slice (some ⟨b1, o1, none⟩) 12 c1 at h12
  have h13 := hall 7 _ rfl
  change ac.eval (.tmp 13) = .slice (some ⟨b1, o1, none⟩) 4 c1 at h13
  have h14 := hall 8 _ rfl
  change (fun v W => BsT w.heap.size W v (E.take 4)) (ac.eval (.tmp 14)) wx at h14
  try dsimp only at h14
  generalize hv14 : ac.eval (.tmp 14) = v14 at *
  have h15 := hall 9 _ rfl
  change (fun v W => Wr3M w.heap.size W v (E.drop 4) (E.take 4)) (ac.eval (.tmp 15)) wx at h15
  try dsimp only at h15
  generalize hv15 : ac.eval (.tmp 15) = v15 at *
  have h2 := hall 10 _ rfl
  change (fun v W => Wr3M w.heap.size W v (E.drop 4) (E.take 4)) (ac.eval (.tmp 2)) wx at h2
  try dsimp only at h2
  generalize hv2 : ac.eval (.tmp 2) = v2 at *
  simp only [List.foldl, Inv.slot, Act.put] at ha
  change ac.tmps.getD 6 undef = _ at hv6
  change ac.tmps.getD 7 undef = _ at hv7
  change ac.tmps.getD 8 undef = _ at h8
  change ac.tmps.getD 9 undef = _ at h9
  change ac.tmps.getD 10 undef = _ at hv10
  change ac.tmps.getD 11 undef = _ at hv11
  change ac.tmps.getD 12 undef = _ at h12
  change ac.tmps.getD 13 undef = _ at h13
  change ac.tmps.getD 14 undef = _ at hv14
  change ac.tmps.getD 15 undef = _ at hv15
  change ac.tmps.getD 2 undef = _ at hv2
  simp only [hv6, hv7, h8, h9, hv10, hv11, h12, h13, hv14, hv15, hv2, List.setIfInBounds_toArray, List.set_cons_zero, List.set_cons_succ] at ha
  clear hv6 hv7 h8 h9 hv10 hv11 h12 h13 hv14 hv15 hv2 hall hE
  subst ha
  go_wp2_with fail
  refine bodyPost_ret (v := v2) ?_ rfl ⟨_, rfl, h2, HB1.out.trans (hB.mono HB1.out.size)⟩
  simp [results, Tryz.results39, go_sem]
end
section
open Go.RowKit
open Fx (Vl)
theorem plus_any (a : Bool) (m : Int) (b : Bool) (n : Int) (w : World) :
 Calls Tryz.prog 148 #[.agg #[.bool a, .int .i64 m], .agg #[.bool b, .int .i64 n]] w fun e w' => e = .returned (.agg #[.bool (Fx.plus ⟨a, m⟩ ⟨b, n⟩).ok, .int .i64 (Fx.plus ⟨a, m⟩ ⟨b, n⟩).n]) ∧ Below w.heap.size w w' := by
 cases h : Fx.num ⟨a, m⟩
 ·rw [Fx.plus_no1 h]
  go_enter Tryz.func148, Tryz.ntmps148
  go_wp2_with (go_at_call 145; go_must (refine (isNumber_any _ _ _).mono ?_; rintro e w' ⟨rfl, hb⟩; obtain ⟨hc, hf⟩ := bcell hb; (try have hz0 : w.heap.size < w'.heap.size := Bz hb); (try have hz1 : w.heap.size + 1 < w'.heap.size := Bz hb); (try have hz2 : w.heap.size + 1 + 1 < w'.heap.size := Bz hb); have hz := hb.size; (try simp at hz)))
  exact bodyPost_ret (v := .agg #[.bool false, .int .i64 0]) (by simp [results, Tryz.results148, go_sem, *]) rfl ⟨rfl, Bq⟩
 ·cases h2 : Fx.num ⟨b, n⟩
  ·rw [Fx.plus_no2 h2]
   go_enter Tryz.func148, Tryz.ntmps148
   go_wp2_with (go_at_call 145; go_must (refine (isNumber_any _ _ _).mono ?_; rintro e w' ⟨rfl, hb⟩; obtain ⟨hc, hf⟩ := bcell hb; (try have hz0 : w.heap.size < w'.heap.size := Bz hb); (try have hz1 : w.heap.size + 1 < w'.heap.size := Bz hb); (try have hz2 : w.heap.size + 1 + 1 < w'.heap.size := Bz hb); have hz := hb.size; (try simp at hz)))
   exact bodyPost_ret (v := .agg #[.bool false, .int .i64 0]) (by simp [results, Tryz.results148, go_sem, *]) rfl ⟨rfl, Bq⟩
  ·rw [Fx.plus_yes h h2]
   obtain ⟨rfl, m1, m2⟩ := Fx.num_iff.1 h
   obtain ⟨rfl, n1, n2⟩ := Fx.num_iff.1 h2
   have HW := Lib.hid (Fx.of_wrap (n := m + n) (by omega) (by omega))
   go_enter Tryz.func148, Tryz.ntmps148
   go_wp2_with first | (go_at_call 145; go_must (refine (isNumber_any _ _ _).mono ?_; rintro e w' ⟨rfl, hb⟩; obtain ⟨hc, hf⟩ := bcell hb; (try have hz0 : w.heap.size < w'.heap.size := Bz hb); (try have hz1 : w.heap.size + 1 < w'.heap.size := Bz hb); (try have hz2 : w.heap.size + 1 + 1 < w'.heap.size := Bz hb); have hz := hb.size; (try simp at hz))) | (go_at_call 72; go_must (refine (of_any _ _).mono ?_; rintro e w' ⟨rfl, hb⟩; obtain ⟨hc, hf⟩ := bcell hb; (try have hz0 : w.heap.size < w'.heap.size := Bz hb); (try have hz1 : w.heap.size + 1 < w'.heap.size := Bz hb); (try have hz2 : w.heap.size + 1 + 1 < w'.heap.size := Bz hb); have hz := hb.size; (try simp at hz)))
   exact bodyPost_ret (v := (.agg #[.bool (Fx.of (wrap64 (m + n))).ok, .int .i64 (Fx.of (wrap64 (m + n))).n])) (by simp [results, Tryz.results148, go_sem, *]) rfl ⟨by rw [HW.out], Bq⟩
theorem refPlus_any (a : Bool) (m : Int) (b : Bool) (n : Int) (w : World) :
 Calls Tryz.prog 142 #[.agg #[.bool a, .int .i64 m], .agg #[.bool b, .int .i64 n]] w fun e w' => e = .returned (.agg #[.bool (Fx.plus ⟨a, m⟩ ⟨b, n⟩).ok, .int .i64 (Fx.plus ⟨a, m⟩ ⟨b, n⟩).n]) ∧ Below w.heap.size w w' := by
 cases h : Fx.num ⟨a, m⟩
 ·rw [Fx.plus_no1 h]
  go_enter Tryz.func142, Tryz.ntmps142
  go_wp2_with (go_at_call 143; go_must (refine (two_any _ _ _ _ _).mono ?_; rintro e w' ⟨rfl, hb⟩; obtain ⟨hc, hf⟩ := bcell hb; (try have hz0 : w.heap.size < w'.heap.size := Bz hb); (try have hz1 : w.heap.size + 1 < w'.heap.size := Bz hb); (try have hz2 : w.heap.size + 1 + 1 < w'.heap.size := Bz hb); have hz := hb.size; (try simp at hz)))
  exact bodyPost_ret (v := .agg #[.bool false, .int .i64 0]) (by simp [results, Tryz.results142, go_sem, *]) rfl ⟨rfl, Bq⟩
 ·cases h2 : Fx.num ⟨b, n⟩
  ·rw [Fx.plus_no2 h2]
   go_enter Tryz.func142, Tryz.ntmps142
   go_wp2_with (go_at_call 143; go_must (refine (two_any _ _ _ _ _).mono ?_; rintro e w' ⟨rfl, hb⟩; obtain ⟨hc, hf⟩ := bcell hb; (try have hz0 : w.heap.size < w'.heap.size := Bz hb); (try have hz1 : w.heap.size + 1 < w'.heap.size := Bz hb); (try have hz2 : w.heap.size + 1 + 1 < w'.heap.size := Bz hb); have hz := hb.size; (try simp at hz)))
   exact bodyPost_ret (v := .agg #[.bool false, .int .i64 0]) (by simp [results, Tryz.results142, go_sem, *]) rfl ⟨rfl, Bq⟩
  ·rw [Fx.plus_yes h h2]
   obtain ⟨rfl, m1, m2⟩ := Fx.num_iff.1 h
   obtain ⟨rfl, n1, n2⟩ := Fx.num_iff.1 h2
   by_cases hp : 0 < n
   ·by_cases hq : 4611686018427387904 - n < m
    ·have HN := Lib.hid (Fx.of_no (Fx.inR_high (by omega : 4611686018427387904 < m + n)))
     go_enter Tryz.func142, Tryz.ntmps142
     go_wp2_with (go_at_call 143; go_must (refine (two_any _ _ _ _ _).mono ?_; rintro e w' ⟨rfl, hb⟩; obtain ⟨hc, hf⟩ := bcell hb; (try have hz0 : w.heap.size < w'.heap.size := Bz hb); (try have hz1 : w.heap.size + 1 < w'.heap.size := Bz hb); (try have hz2 : w.heap.size + 1 + 1 < w'.heap.size := Bz hb); have hz := hb.size; (try simp at hz)))
     exact bodyPost_ret (v := .agg #[.bool false, .int .i64 0]) (by simp [results, Tryz.results142, go_sem, *]) rfl ⟨by rw [HN.out]; rfl, Bq⟩
    ·go_enter Tryz.func142, Tryz.ntmps142
     go_wp2_with first | (go_at_call 143; go_must (refine (two_any _ _ _ _ _).mono ?_; rintro e w' ⟨rfl, hb⟩; obtain ⟨hc, hf⟩ := bcell hb; (try have hz0 : w.heap.size < w'.heap.size := Bz hb); (try have hz1 : w.heap.size + 1 < w'.heap.size := Bz hb); (try have hz2 : w.heap.size + 1 + 1 < w'.heap.size := Bz hb); have hz := hb.size; (try simp at hz))) | (go_at_call 111; go_must (refine (refOf_any _ _).mono ?_; rintro e w' ⟨rfl, hb⟩; obtain ⟨hc, hf⟩ := bcell hb; (try have hz0 : w.heap.size < w'.heap.size := Bz hb); (try have hz1 : w.heap.size + 1 < w'.heap.size := Bz hb); (try have hz2 : w.heap.size + 1 + 1 < w'.heap.size := Bz hb); have hz := hb.size; (try simp at hz)))
     exact bodyPost_ret (v := (.agg #[.bool (Fx.of (m + n)).ok, .int .i64 (Fx.of (m + n)).n])) (by simp [results, Tryz.results142, go_sem, *]) rfl ⟨rfl, Bq⟩
   ·by_cases hn : n < 0
    ·by_cases hq : m < -4611686018427387904 - n
     ·have HN := Lib.hid (Fx.of_no (Fx.inR_low (by omega : m + n < -4611686018427387904)))
      go_enter Tryz.func142, Tryz.ntmps142
      go_wp2_with (go_at_call 143; go_must (refine (two_any _ _ _ _ _).mono ?_; rintro e w' ⟨rfl, hb⟩; obtain ⟨hc, hf⟩ := bcell hb; (try have hz0 : w.heap.size < w'.heap.size := Bz hb); (try have hz1 : w.heap.size + 1 < w'.heap.size := Bz hb); (try have hz2 : w.heap.size + 1 + 1 < w'.heap.size := Bz hb); have hz := hb.size; (try simp at hz)))
      exact bodyPost_ret (v := .agg #[.bool false, .int .i64 0]) (by simp [results, Tryz.results142, go_sem, *]) rfl ⟨by rw [HN.out]; rfl, Bq⟩
     ·go_enter Tryz.func142, Tryz.ntmps142
      go_wp2_with first | (go_at_call 143; go_must (refine (two_any _ _ _ _ _).mono ?_; rintro e w' ⟨rfl, hb⟩; obtain ⟨hc, hf⟩ := bcell hb; (try have hz0 : w.heap.size < w'.heap.size := Bz hb); (try have hz1 : w.heap.size + 1 < w'.heap.size := Bz hb); (try have hz2 : w.heap.size + 1 + 1 < w'.heap.size := Bz hb); have hz := hb.size; (try simp at hz))) | (go_at_call 111; go_must (refine (refOf_any _ _).mono ?_; rintro e w' ⟨rfl, hb⟩; obtain ⟨hc, hf⟩ := bcell hb; (try have hz0 : w.heap.size < w'.heap.size := Bz hb); (try have hz1 : w.heap.size + 1 < w'.heap.size := Bz hb); (try have hz2 : w.heap.size + 1 + 1 < w'.heap.size := Bz hb); have hz := hb.size; (try simp at hz)))
      exact bodyPost_ret (v := (.agg #[.bool (Fx.of (m + n)).ok, .int .i64 (Fx.of (m + n)).n])) (by simp [results, Tryz.results142, go_sem, *]) rfl ⟨rfl, Bq⟩
    ·go_enter Tryz.func142, Tryz.ntmps142
     go_wp2_with first | (go_at_call 143; go_must (refine (two_any _ _ _ _ _).mono ?_; rintro e w' ⟨rfl, hb⟩; obtain ⟨hc, hf⟩ := bcell hb; (try have hz0 : w.heap.size < w'.heap.size := Bz hb); (try have hz1 : w.heap.size + 1 < w'.heap.size := Bz hb); (try have hz2 : w.heap.size + 1 + 1 < w'.heap.size := Bz hb); have hz := hb.size; (try simp at hz))) | (go_at_call 111; go_must (refine (refOf_any _ _).mono ?_; rintro e w' ⟨rfl, hb⟩; obtain ⟨hc, hf⟩ := bcell hb; (try have hz0 : w.heap.size < w'.heap.size := Bz hb); (try have hz1 : w.heap.size + 1 < w'.heap.size := Bz hb); (try have hz2 : w.heap.size + 1 + 1 < w'.heap.size := Bz hb); have hz := hb.size; (try simp at hz)))
     exact bodyPost_ret (v := (.agg #[.bool (Fx.of (m + n)).ok, .int .i64 (Fx.of (m + n)).n])) (by simp [results, Tryz.results142, go_sem, *]) rfl ⟨rfl, Bq⟩
theorem ofQuotient_yes (n : Int) (w : World) :
 Calls Tryz.prog 146 #[.int .i64 n, .bool true] w fun e w' => e = .returned (.agg #[.bool (Fx.of n).ok, .int .i64 (Fx.of n).n]) ∧ Below w.heap.size w w' := by
 go_enter Tryz.func146, Tryz.ntmps146
 go_wp2_with (go_at_call 72; go_must (refine (of_any _ _).mono ?_; rintro e w' ⟨rfl, hb⟩; obtain ⟨hc, hf⟩ := bcell hb; (try have hz0 : w.heap.size < w'.heap.size := Bz hb); (try have hz1 : w.heap.size + 1 < w'.heap.size := Bz hb); (try have hz2 : w.heap.size + 1 + 1 < w'.heap.size := Bz hb); have hz := hb.size; (try simp at hz)))
 exact bodyPost_ret (v := (.agg #[.bool (Fx.of n).ok, .int .i64 (Fx.of n).n])) (by simp [results, Tryz.results146, go_sem, *]) rfl ⟨rfl, Bq⟩
theorem ofQuotient_no (n : Int) (w : World) :
 Calls Tryz.prog 146 #[.int .i64 n, .bool false] w fun e w' => e = .returned (.agg #[.bool false, .int .i64 0]) ∧ Below w.heap.size w w' := by
 go_enter Tryz.func146, Tryz.ntmps146
 go_wp2
 exact bodyPost_ret (v := .agg #[.bool false, .int .i64 0]) (by simp [results, Tryz.results146, go_sem, *]) rfl ⟨rfl, Bq⟩
end
end Go.Proofs.YtljlanhpjpjgaaaGreatDoor
