/-
  SlotWrites: the walk, for every point and bytes.
-/
import Derived.Test.YtefegcmicnlphaaSlWr
import Derived.Test.YtefegcmicnlphaaSlPl
import Derived.Deep.RegionLaw
namespace Go.Proofs.Ytefegcmicnlphaa
open Go.RowKit Go.Sort
open Me

theorem wpList_app0 {ops : Array Oper} {rest : List Oper} {o : Oper} {a : Act} {Q : Exit → Act → World → Prop} {W : World} (hgd : o.guard = none) (s x : Operand) (ho : o.op = .call { callee := .builtin .append, args := #[s, x], argTypes := #[30, 30] })
    (b : Addr) (A : Option Addr) (c : Nat) (L : List UInt8) (hs : a.eval s = .slice (some b) 0 0) (hx : a.eval x = .slice A L.length c) (G : Nat → Prop) (hr : Rd W G A (by8 L)) (h0 : 0 < L.length) (hL : L.length ≤ 1048576)
    (h : ∀ cap W', OwnB W.heap.size W' (.slice (some ⟨W.heap.size, 0, none⟩) L.length cap) L → Below W.heap.size W W' → wpList Try.prog ops Q rest (a.put o.dst (.slice (some ⟨W.heap.size, 0, none⟩) L.length cap)) W') : wpList Try.prog ops Q (o :: rest) a W := by
  refine wpList_plain hgd fun _ hK => ?_
  obtain ⟨cap, W', hrun, hown, hb⟩ := app_empty b A c L 30 o.type Try.underlying30 G hr h0 hL W.heap.size (Nat.le_refl _)
  unfold Oper.wp
  rw [Inv.run_append2 ho hs hx hrun]
  exact hK _ _ (h cap W' hown hb)
theorem step_copy_own {ops : Array Oper} {o : Oper} {a : Act} {K : Act → World → Prop} {Q : Exit → Act → World → Prop} {E : Prop} {W : World} (hgd : o.guard = none) (d s : Operand) (ho : o.op = .call { callee := .builtin .copy, args := #[d, s], argTypes := #[30, 30] })
    (base g n cap : Nat) (D p : List UInt8) (off : Nat) (dLen dCap : Nat) (sp : Option Addr) (sCap : Nat) (hd : a.eval d = .slice (some ⟨g, off, none⟩) dLen dCap) (hs : a.eval s = .slice sp p.length sCap) (hown : OwnB base W (.slice (some ⟨g, 0, none⟩) n cap) D) (hp : 0 < p.length) (hfit : off + p.length ≤ D.length) (hdl : p.length ≤ dLen)
    (G : Nat → Prop) (hr : Rd W G sp (by8 p)) (h : ∀ W', OwnB base W' (.slice (some ⟨g, 0, none⟩) n cap) (ovr D off p) → Kp (fun b => b = g) W W' → K (a.put o.dst (goInt p.length)) W') :
    if Region.wanted o (yielded ops a.tmps) = true then Oper.wp Try.prog o a W K Q else E := by
  rw [if_pos (Inv.want0 hgd _)]
  obtain ⟨W', hrun, h1, h2⟩ := copy_own hown off hp hfit o.type sp sCap G hr dLen dCap hdl
  unfold Oper.wp
  rw [Inv.run_copy2 ho hd hs hrun]
  exact h W' h1 h2

namespace Sl
/-- The slot's bytes behind so many of the three writes. -/
def Dk (M L2 L3 : List UInt8) : Nat → List UInt8
  | 0 => M
  | 1 => ovr M 0 [0, 0, 0, 0]
  | 2 => ovr (ovr M 0 [0, 0, 0, 0]) 4 L2
  | _ => ovr (ovr (ovr M 0 [0, 0, 0, 0]) 4 L2) 0 L3
theorem Dk_end (M L2 L3 : List UInt8) (hM : M.length = 12) (h2 : L2.length = 8) (h3 : L3.length = 4) : Dk M L2 L3 3 = L3 ++ L2 := by
  show ovr (ovr (ovr M 0 [0, 0, 0, 0]) 4 L2) 0 L3 = _
  have e1 : ovr M 0 [0, 0, 0, 0] = [0, 0, 0, 0] ++ M.drop 4 := by simp [ovr]
  have e2 : ovr ([0, 0, 0, 0] ++ M.drop 4) 4 L2 = [0, 0, 0, 0] ++ L2 := by
    unfold ovr
    have : (([0, 0, 0, 0] : List UInt8) ++ M.drop 4).drop (4 + L2.length) = [] := List.drop_eq_nil_of_le (by simp; omega)
    rw [this]
    simp
  rw [e1, e2]
  unfold ovr
  rw [h3]
  simp
end Sl

set_option maxHeartbeats 4000000 in
theorem lawWrites_any (a n : Int) (M : List UInt8) (Am : Option Addr) (cm : Nat) (w : World) (hm : Reads w (.slice Am M.length cm) M) :
    Calls Try.prog 5 #[.agg #[.int .i64 a, .int .i64 n], .slice Am M.length cm] w fun e w' => e = .returned (.bool true) ∧ Below w.heap.size w w' := by
  by_cases h12 : M.length = 12
  case neg =>
    have h1 : ((M.length : Int) == 12) = false := by simp; omega
    have h2 : ¬ (M.length : Int) = 12 := by omega
    clear hm
    go_enter Try.func5, Try.ntmps5
    go_wp2_with (go_at_call 11; (((with_reducible refine (known_any _).mono ?_)); rintro e w1 ⟨rfl, hb1⟩; obtain ⟨hc1, hf1⟩ := bcell hb1; (try have hq1w : w.heap.size < w1.heap.size := Nat.lt_of_lt_of_le (by first | assumption | (simp; done) | (simp; omega)) hb1.size); have hs1 := hb1.size; (try simp at hs1)))
    go_ret
    exact ⟨rfl, (by repeat (first | exact Below.refl _ _ | assumption | refine Below.setCell ?_ (by first | (simp; done) | omega | (simp; omega) | (simp at *; omega)) _ | refine Below.alloc ?_ (by first | (simp; done) | omega | (simp; omega) | (simp at *; omega)) _ | refine Below.drew ?_ | (refine Below.trans ?_ (Below.mono (by assumption) (by first | (simp; done) | omega | (simp; omega) | (simp at *; omega)))) | (refine Below.trans ?_ (Below.mono (below_regrown _ _ _) (by first | (simp; done) | omega | (simp; omega) | (simp at *; omega))))))⟩
  have HW := Lib.hid (fun W => swrites_any a n W)
  have HV := Lib.hid (fun W => rswrites_any a n W)
  have HEn := Lib.hid (fun W => sencode_any a n W)
  have HLN : Hid ((Sl.beb n 8).length = 8 ∧ (Sl.beb (Sl.lim a) 4).length = 4 ∧ M.length = 12) := Lib.hid ⟨Sl.beb_len _ _, Sl.beb_len _ _, h12⟩
  have HDE : Hid (Sl.Dk M (Sl.beb n 8) (Sl.beb (Sl.lim a) 4) 3 = Sl.enc a n) := Lib.hid (Sl.Dk_end M _ _ h12 (Sl.beb_len _ _) (Sl.beb_len _ _))
  rw [h12] at hm ⊢
  have HM : Hid (∀ W, Below w.heap.size w W → Reads W (.slice Am 12 cm) M) := Lib.hid fun W hb => hm.below hb
  generalize Sl.enc a n = E at *
  generalize Sl.beb n 8 = L2 at *
  generalize Sl.beb (Sl.lim a) 4 = L3 at *
  clear hm h12
  go_enter Try.func5, Try.ntmps5
  go_upto_region 3 with (fail)
  have HX0 : Hid (Below (w.heap.size + 1) (w.alloc (.cells #[.int .i64 a, .int .i64 n] 29)) (w.alloc (.cells #[.int .i64 a, .int .i64 n] 29))) := Lib.hid (Below.refl _ _)
  have HXS : Hid ((w.alloc (.cells #[.int .i64 a, .int .i64 n] 29)).heap.size = w.heap.size + 1) := Lib.hid (by simp)
  have HXB : Hid (Below w.heap.size w (w.alloc (.cells #[.int .i64 a, .int .i64 n] 29))) := Lib.hid ((Below.refl _ _).alloc (Nat.le_refl _) _)
  have HBX : Hid (∀ W, Below (w.alloc (.cells #[.int .i64 a, .int .i64 n] 29)).heap.size (w.alloc (.cells #[.int .i64 a, .int .i64 n] 29)) W → W.cell? ⟨w.heap.size, 0, none⟩ = some (.int .i64 a) ∧ W.cell? ⟨w.heap.size, 1, none⟩ = some (.int .i64 n)) := Lib.hid fun W hb => by
    have r0 : RowAt W w.heap.size 29 #[.int .i64 a, .int .i64 n] := (RowAt.new w _ _).below hb (by simp)
    exact ⟨r0.cell 0, r0.cell 1⟩
  generalize w.alloc (.cells #[.int .i64 a, .int .i64 n] 29) = X at *
  clear HX0
  refine Inv.region (fun W W' => Below W.heap.size W W') (fun i v W => match i with
    | 0 => v = (.agg #[.int .i64 a, .int .i64 n])
    | 1 => Wr3 W v L2 L3
    | 2 => v = (.agg #[.int .i64 a, .int .i64 n])
    | 3 => Wr3 W v L2 L3
    | 4 => Wr3 W v L2 L3
    | 5 => Wr3 W v L2 L3
    | _ => True) (by kernel_rfl) (by kernel_rfl) (by kernel_rfl) (fun W => Below.refl _ _) (fun a b c h k => h.trans (k.mono h.size)) (fun i v W W' h he => ?stab) ?obls ?fin
  case stab =>
    match i, h with
    | 0, h => exact h
    | 1, h => exact h.below he
    | 2, h => exact h
    | 3, h => exact h.below he
    | 4, h => exact h.below he
    | 5, h => exact h.below he
    | _ + 6, h => exact h
  case obls =>
    refine .cons ?_ (.cons ?_ (.cons ?_ (.cons ?_ (.cons ?_ (.cons ?_ .nil)))))
    · intro ac wx hE hf hd
      have hB : Below X.heap.size X wx := ⟨hE.os, hE.tape, hE.output, hE.size, hE.block⟩
      rw [if_pos (Inv.want0 rfl _)]
      have h2 : ac.eval (.tmp 2) = .pointer (some ⟨w.heap.size, 0, none⟩) := hf 2 (by kernel_rfl)
      clear hf hd
      obtain ⟨f0, f1⟩ := HBX.out wx hB
      refine Inv.val ((.agg #[.int .i64 a, .int .i64 n])) ?_ rfl rfl (Below.refl _ _)
      clear hE hB
      generalize ac.eval = ev at *
      simp [execOp, go_sem, *]
    · intro ac wx hE hf hd
      have hB : Below X.heap.size X wx := ⟨hE.os, hE.tape, hE.output, hE.size, hE.block⟩
      rw [if_pos (Inv.want0 rfl _)]
      have h14 := hd 0 _ (by kernel_rfl) rfl
      change ac.eval (.tmp 14) = (.agg #[.int .i64 a, .int .i64 n]) at h14
      clear hf hd
      refine Inv.go (f := 16) (xs := #[(.agg #[.int .i64 a, .int .i64 n])]) ?_ rfl ?_
      · clear hE hB
        have hfn : ac.eval (.func 16) = .func (.func 16) #[] #[] := rfl
        generalize ac.eval = ev at *
        simp [execOp, go_sem, *]
      · exact (HW.out wx).mono fun e w' ⟨v, he, h, hb⟩ => ⟨v, he, h, hb⟩
    · intro ac wx hE hf hd
      have hB : Below X.heap.size X wx := ⟨hE.os, hE.tape, hE.output, hE.size, hE.block⟩
      rw [if_pos (Inv.want0 rfl _)]
      have h2 : ac.eval (.tmp 2) = .pointer (some ⟨w.heap.size, 0, none⟩) := hf 2 (by kernel_rfl)
      clear hf hd
      obtain ⟨f0, f1⟩ := HBX.out wx hB
      refine Inv.val ((.agg #[.int .i64 a, .int .i64 n])) ?_ rfl rfl (Below.refl _ _)
      clear hE hB
      generalize ac.eval = ev at *
      simp [execOp, go_sem, *]
    · intro ac wx hE hf hd
      have hB : Below X.heap.size X wx := ⟨hE.os, hE.tape, hE.output, hE.size, hE.block⟩
      rw [if_pos (Inv.want0 rfl _)]
      have h16 := hd 2 _ (by kernel_rfl) rfl
      change ac.eval (.tmp 16) = (.agg #[.int .i64 a, .int .i64 n]) at h16
      clear hf hd
      refine Inv.go (f := 17) (xs := #[(.agg #[.int .i64 a, .int .i64 n])]) ?_ rfl ?_
      · clear hE hB
        have hfn : ac.eval (.func 17) = .func (.func 17) #[] #[] := rfl
        generalize ac.eval = ev at *
        simp [execOp, go_sem, *]
      · exact (HV.out wx).mono fun e w' ⟨v, he, h, hb⟩ => ⟨v, he, h, hb⟩
    · intro ac wx hE hf hd
      have hB : Below X.heap.size X wx := ⟨hE.os, hE.tape, hE.output, hE.size, hE.block⟩
      rw [if_pos (Inv.want0 rfl _)]
      have h15 := hd 1 _ (by kernel_rfl) rfl
      change (fun v W => Wr3 W v L2 L3) (ac.eval (.tmp 15)) wx at h15
      try dsimp only at h15
      clear hf hd
      refine Inv.val (ac.eval (.tmp 15)) ?_ rfl h15 (Below.refl _ _)
      clear hE hB
      generalize ac.eval = ev at *
      simp [execOp, go_sem]
    · intro ac wx hE hf hd
      have hB : Below X.heap.size X wx := ⟨hE.os, hE.tape, hE.output, hE.size, hE.block⟩
      rw [if_pos (Inv.want0 rfl _)]
      have h17 := hd 3 _ (by kernel_rfl) rfl
      change (fun v W => Wr3 W v L2 L3) (ac.eval (.tmp 17)) wx at h17
      try dsimp only at h17
      clear hf hd
      refine Inv.val (ac.eval (.tmp 17)) ?_ rfl h17 (Below.refl _ _)
      clear hE hB
      generalize ac.eval = ev at *
      simp [execOp, go_sem]
  case fin =>
    intro ac wx hE ha hall
    have hB : Below X.heap.size X wx := ⟨hE.os, hE.tape, hE.output, hE.size, hE.block⟩
    have h14 := hall 0 _ rfl
    change ac.eval (.tmp 14) = (.agg #[.int .i64 a, .int .i64 n]) at h14
    have h15 := hall 1 _ rfl
    change (fun v W => Wr3 W v L2 L3) (ac.eval (.tmp 15)) wx at h15
    try dsimp only at h15
    generalize hv15 : ac.eval (.tmp 15) = v15 at *
    have h16 := hall 2 _ rfl
    change ac.eval (.tmp 16) = (.agg #[.int .i64 a, .int .i64 n]) at h16
    have h17 := hall 3 _ rfl
    change (fun v W => Wr3 W v L2 L3) (ac.eval (.tmp 17)) wx at h17
    try dsimp only at h17
    generalize hv17 : ac.eval (.tmp 17) = v17 at *
    have h5 := hall 4 _ rfl
    change (fun v W => Wr3 W v L2 L3) (ac.eval (.tmp 5)) wx at h5
    try dsimp only at h5
    generalize hv5 : ac.eval (.tmp 5) = v5 at *
    have h6 := hall 5 _ rfl
    change (fun v W => Wr3 W v L2 L3) (ac.eval (.tmp 6)) wx at h6
    try dsimp only at h6
    generalize hv6 : ac.eval (.tmp 6) = v6 at *
    simp only [List.foldl, Inv.slot, Act.put] at ha
    change ac.tmps.getD 14 undef = _ at h14
    change ac.tmps.getD 15 undef = _ at hv15
    change ac.tmps.getD 16 undef = _ at h16
    change ac.tmps.getD 17 undef = _ at hv17
    change ac.tmps.getD 5 undef = _ at hv5
    change ac.tmps.getD 6 undef = _ at hv6
    simp only [h14, hv15, h16, hv17, hv5, hv6, List.setIfInBounds_toArray, List.set_cons_zero, List.set_cons_succ] at ha
    clear h14 hv15 h16 hv17 hv5 hv6 hall hE
    subst ha
    clear h15 h17
    obtain ⟨g5, p1, p2, p3, rfl, r5, q1, q2, q3⟩ := h5
    obtain ⟨g6, s1, s2, s3, rfl, r6, y1, y2, y3⟩ := h6
    obtain ⟨A1, c1, rfl, k1, m1⟩ := q1
    obtain ⟨A2, c2, rfl, k2, m2⟩ := q2
    obtain ⟨A3, c3, rfl, k3, m3⟩ := q3
    obtain ⟨B1, d1, rfl, l1, n1⟩ := y1
    obtain ⟨B2, d2, rfl, l2, n2⟩ := y2
    obtain ⟨B3, d3, rfl, l3, n3⟩ := y3
    have q1 : Reads wx (.slice A1 4 c1) [0, 0, 0, 0] := ⟨A1, c1, rfl, k1, m1⟩
    have q2 : Reads wx (.slice A2 L2.length c2) L2 := ⟨A2, c2, rfl, k2, m2⟩
    have q3 : Reads wx (.slice A3 L3.length c3) L3 := ⟨A3, c3, rfl, k3, m3⟩
    have y1 : Reads wx (.slice B1 4 d1) [0, 0, 0, 0] := ⟨B1, d1, rfl, l1, n1⟩
    have y2 : Reads wx (.slice B2 L2.length d2) L2 := ⟨B2, d2, rfl, l2, n2⟩
    have y3 : Reads wx (.slice B3 L3.length d3) L3 := ⟨B3, d3, rfl, l3, n3⟩
    clear k1 k2 k3 l1 l2 l3 m1 m2 m3 n1 n2 n3
    rw [HLN.out.1] at q2 y2 r5 r6
    rw [HLN.out.2.1] at q3 y3 r5 r6
    have e4 : ([0, 0, 0, 0] : List UInt8).length = 4 := rfl
    rw [e4] at r5 r6
    have HR5 := Lib.hid r5
    have HR6 := Lib.hid r6
    have HQ := Lib.hid (And.intro q1 (And.intro q2 q3))
    have HY := Lib.hid (And.intro y1 (And.intro y2 y3))
    have HB := Lib.hid hB
    have hwx : w.heap.size < wx.heap.size := by have := hB.size; have := HXS.out; omega
    have hg5 := r5.lt
    have hg6 := r6.lt
    have HMW : Hid (Rd (wx.alloc (.cells #[] 5)) (fun _ => True) Am (by8 M)) := Lib.hid (by
      obtain ⟨A', c', e, _, hrd⟩ := (HM.out _ (HXB.out.trans (hB.mono HXB.out.size))).below ((Below.refl _ _).alloc (Nat.le_refl _) (.cells #[] 5))
      injection e with e1 e2 e3
      subst e1
      exact hrd)
    clear r5 r6 q1 q2 q3 y1 y2 y3 hB e4
    go_wp2_with (at_builtin; refine wpList_app0 rfl (.tmp 21) (.tmp 22) rfl ⟨wx.heap.size, 0, none⟩ Am cm M rfl (by rw [HLN.out.2.2]; rfl) (fun _ => True) HMW.out (by rw [HLN.out.2.2]; omega) (by rw [HLN.out.2.2]; omega) ?_; intro capb w5 hob hbb; rw [HLN.out.2.2] at hob; have HOB := Lib.hid hob; have HBB := Lib.hid hbb; clear hob hbb)
    rw [HLN.out.2.2]
    have hbY : Below wx.heap.size wx (w5.alloc (.cells #[.int .i64 0, .int .i64 4, .int .i64 0] 3)) := (((Below.refl _ _).alloc (Nat.le_refl _) (.cells #[] 5)).trans (HBB.out.mono (by simp))).alloc (by have := HBB.out.size; simp at this; omega) _
    have hiY : RowAt (w5.alloc (.cells #[.int .i64 0, .int .i64 4, .int .i64 0] 3)) w5.heap.size 3 #[.int .i64 0, .int .i64 4, .int .i64 0] := RowAt.new w5 _ _
    have hXs : (wx.alloc (.cells #[] 5)).heap.size = wx.heap.size + 1 := by simp
    have hob := HOB.out
    have hbz := HBB.out.size
    rw [hXs] at hob hbz
    have hoY : OwnB wx.heap.size (w5.alloc (.cells #[.int .i64 0, .int .i64 4, .int .i64 0] 3)) (.slice (some ⟨wx.heap.size + 1, 0, none⟩) 12 capb) M := OwnB.below (OwnB.base hob (by omega)) ((Below.refl _ _).alloc (Nat.le_refl _) _)
    have hgbl := own_lt hob (wx.heap.size + 1) rfl
    have hcb : 12 ≤ capb := by
      obtain ⟨_, c', e, hle, _, _⟩ := Bs.own hob
      injection e with _ e2 e3
      omega
    clear hob HOB HBB HMW hXs
    generalize hY : w5.alloc (.cells #[.int .i64 0, .int .i64 4, .int .i64 0] 3) = Y at *
    clear hY
    generalize hgi : w5.heap.size = gi at *
    generalize hgb : wx.heap.size + 1 = gb at *
    have hne : gi ≠ gb := by omega
    have hgw : wx.heap.size ≤ gb := by omega
    have hcbI : (12 : Int) ≤ (capb : Int) := by omega
    have hcb4 : ¬ capb = 4 := by omega
    have HOY := Lib.hid hoY
    have HIY := Lib.hid hiY
    have HBY := Lib.hid hbY
    clear hbY hiY hoY hbz hgbl hgi hgb
    go_loopw [9] (fun i wr => ∃ k : Nat, k ≤ 3 ∧ i = .int .i64 k ∧ Hid (Below wx.heap.size wx wr) ∧ Hid (RowAt wr gi 3 #[.int .i64 0, .int .i64 4, .int .i64 0]) ∧ Hid (OwnB wx.heap.size wr (.slice (some ⟨gb, 0, none⟩) 12 capb) (Sl.Dk M L2 L3 k))) (fun i _ => 3 - (intOf i).toNat)
    case atStart => exact ⟨0, Nat.zero_le _, rfl, HBY, HIY, HOY⟩
    case round =>
      obtain ⟨k, hk, rfl, hbr, hir, hor⟩ := hrel
      have hzr := hbr.out.size
      have hg5r : g5 < wr.heap.size := by omega
      have hg6r : g6 < wr.heap.size := by omega
      have hgir := hir.out.lt
      have hgbr := (own_lt hor.out gb rfl).2
      rcases (by omega : k = 0 ∨ k = 1 ∨ k = 2 ∨ k = 3) with rfl | rfl | rfl | rfl
      · have x5 : wr.cell? ⟨g5, 0, none⟩ = some (.slice A1 4 c1) := (HR5.out.below hbr.out hg5).cell 0
        have x6 : wr.cell? ⟨g6, 0, none⟩ = some (.slice B1 4 d1) := (HR6.out.below hbr.out hg6).cell 0
        have xi : wr.cell? ⟨gi, 0, none⟩ = some (.int .i64 0) := hir.out.cell 0
        have kp := (HQ.out.1.below hbr.out).conv
        have ks := (HY.out.1.below hbr.out).conv
        have kpd : (convert 30 9 (.slice A1 4 c1)).run Try.prog wr.drew = .ok (.string ⟨([0, 0, 0, 0] : List UInt8).toArray⟩) wr.drew := ((HQ.out.1.below hbr.out).drewN 1).conv
        have ksd : (convert 30 9 (.slice B1 4 d1)).run Try.prog wr.drew = .ok (.string ⟨([0, 0, 0, 0] : List UInt8).toArray⟩) wr.drew := ((HY.out.1.below hbr.out).drewN 1).conv
        have HRP : Hid (Rd wr (fun _ => True) A1 (by8 [0, 0, 0, 0])) := Lib.hid (by
          obtain ⟨A', c', e, _, hrd⟩ := HQ.out.1.below hbr.out
          injection e with e1 e2 e3
          subst e1
          exact hrd)
        have hDl : (Sl.Dk M L2 L3 0).length = 12 := by
          obtain ⟨_, _, e, _⟩ := hor.out.lit
          injection e with _ e2 _
          omega
        have HDL := Lib.hid hDl
        clear hDl
        go_wp2_with fail
        go_region_held3 (fun W => W.cell? ⟨g5, 0, none⟩ = some (.slice A1 4 c1) ∧ W.cell? ⟨g6, 0, none⟩ = some (.slice B1 4 d1) ∧ (convert 30 9 (.slice A1 4 c1)).run Try.prog W = .ok (.string ⟨([0, 0, 0, 0] : List UInt8).toArray⟩) W ∧ (convert 30 9 (.slice B1 4 d1)).run Try.prog W = .ok (.string ⟨([0, 0, 0, 0] : List UInt8).toArray⟩) W)
          (first | exact ⟨x5, x6, kp, ks⟩ | exact ⟨x5, x6, kpd, ksd⟩ | go_keep) (fail)
        clear kp ks kpd ksd
        go_wp2_with fail
        go_region_held3 (fun W => W.cell? ⟨gi, 0, none⟩ = some (.int .i64 0) ∧ W.cell? ⟨g5, 0, none⟩ = some (.slice A1 4 c1)) (first | exact ⟨xi, x5⟩ | exact ⟨xi', x5'⟩ | go_keep)
          (first
            | (refine step_copy_own (by rfl) (.tmp 45) (.tmp 49) (by rfl) wx.heap.size gb 12 capb (Sl.Dk M L2 L3 0) [0, 0, 0, 0] 0 12 capb A1 c1 (by rfl) (by first | rfl | (rw [HLN.out.1]; rfl) | (rw [HLN.out.2.1]; rfl)) hor.out (by first | decide | (rw [HLN.out.1]; omega) | (rw [HLN.out.2.1]; omega)) (by rw [HDL.out]; first | decide | (rw [HLN.out.1]; omega) | (rw [HLN.out.2.1]; omega)) (by first | decide | (rw [HLN.out.1]; omega) | (rw [HLN.out.2.1]; omega)) (fun _ => True) HRP.out ?_; intro W' ho' hk'; have xi' : W'.cell? ⟨gi, 0, none⟩ = some (.int .i64 0) := (hk'.cell (p := ⟨gi, 0, none⟩) hgir hne).trans xi; have x5' : W'.cell? ⟨g5, 0, none⟩ = some (.slice A1 4 c1) := (hk'.cell (p := ⟨g5, 0, none⟩) hg5r (by show g5 ≠ gb; omega)).trans x5; have HO' := Lib.hid ho'; have HK' : Hid (Kp (fun b => b = gb) wr W') := Lib.hid ⟨hk'.os, hk'.tape, hk'.output, hk'.size, hk'.block⟩; clear ho' hk')
            | fail)
        go_wp2_with fail
        go_roundw
        case rel => exact ⟨1, by omega, rfl, Lib.hid (hbr.out.trans (HK'.out.below hzr (fun i hi e => by omega))), Lib.hid ((HK'.out.block gi hgir hne).trans hir.out), HO'⟩
        case measure => simp [intOf]
      · have x5 : wr.cell? ⟨g5, 1, none⟩ = some (.slice A2 8 c2) := (HR5.out.below hbr.out hg5).cell 1
        have x6 : wr.cell? ⟨g6, 1, none⟩ = some (.slice B2 8 d2) := (HR6.out.below hbr.out hg6).cell 1
        have xi : wr.cell? ⟨gi, 1, none⟩ = some (.int .i64 4) := hir.out.cell 1
        have kp := (HQ.out.2.1.below hbr.out).conv
        have ks := (HY.out.2.1.below hbr.out).conv
        have kpd : (convert 30 9 (.slice A2 8 c2)).run Try.prog wr.drew = .ok (.string ⟨(L2 : List UInt8).toArray⟩) wr.drew := ((HQ.out.2.1.below hbr.out).drewN 1).conv
        have ksd : (convert 30 9 (.slice B2 8 d2)).run Try.prog wr.drew = .ok (.string ⟨(L2 : List UInt8).toArray⟩) wr.drew := ((HY.out.2.1.below hbr.out).drewN 1).conv
        have HRP : Hid (Rd wr (fun _ => True) A2 (by8 L2)) := Lib.hid (by
          obtain ⟨A', c', e, _, hrd⟩ := HQ.out.2.1.below hbr.out
          injection e with e1 e2 e3
          subst e1
          exact hrd)
        have hDl : (Sl.Dk M L2 L3 1).length = 12 := by
          obtain ⟨_, _, e, _⟩ := hor.out.lit
          injection e with _ e2 _
          omega
        have HDL := Lib.hid hDl
        clear hDl
        go_wp2_with fail
        go_region_held3 (fun W => W.cell? ⟨g5, 1, none⟩ = some (.slice A2 8 c2) ∧ W.cell? ⟨g6, 1, none⟩ = some (.slice B2 8 d2) ∧ (convert 30 9 (.slice A2 8 c2)).run Try.prog W = .ok (.string ⟨(L2 : List UInt8).toArray⟩) W ∧ (convert 30 9 (.slice B2 8 d2)).run Try.prog W = .ok (.string ⟨(L2 : List UInt8).toArray⟩) W)
          (first | exact ⟨x5, x6, kp, ks⟩ | exact ⟨x5, x6, kpd, ksd⟩ | go_keep) (fail)
        clear kp ks kpd ksd
        go_wp2_with fail
        go_region_held3 (fun W => W.cell? ⟨gi, 1, none⟩ = some (.int .i64 4) ∧ W.cell? ⟨g5, 1, none⟩ = some (.slice A2 8 c2)) (first | exact ⟨xi, x5⟩ | exact ⟨xi', x5'⟩ | go_keep)
          (first
            | (refine step_copy_own (by rfl) (.tmp 45) (.tmp 49) (by rfl) wx.heap.size gb 12 capb (Sl.Dk M L2 L3 1) L2 4 8 (capb - 4) A2 c2 (by rfl) (by first | rfl | (rw [HLN.out.1]; rfl) | (rw [HLN.out.2.1]; rfl)) hor.out (by first | decide | (rw [HLN.out.1]; omega) | (rw [HLN.out.2.1]; omega)) (by rw [HDL.out]; first | decide | (rw [HLN.out.1]; omega) | (rw [HLN.out.2.1]; omega)) (by first | decide | (rw [HLN.out.1]; omega) | (rw [HLN.out.2.1]; omega)) (fun _ => True) HRP.out ?_; intro W' ho' hk'; have xi' : W'.cell? ⟨gi, 1, none⟩ = some (.int .i64 4) := (hk'.cell (p := ⟨gi, 1, none⟩) hgir hne).trans xi; have x5' : W'.cell? ⟨g5, 1, none⟩ = some (.slice A2 8 c2) := (hk'.cell (p := ⟨g5, 1, none⟩) hg5r (by show g5 ≠ gb; omega)).trans x5; have HO' := Lib.hid ho'; have HK' : Hid (Kp (fun b => b = gb) wr W') := Lib.hid ⟨hk'.os, hk'.tape, hk'.output, hk'.size, hk'.block⟩; clear ho' hk')
            | fail)
        go_wp2_with fail
        go_roundw
        case rel => exact ⟨2, by omega, rfl, Lib.hid (hbr.out.trans (HK'.out.below hzr (fun i hi e => by omega))), Lib.hid ((HK'.out.block gi hgir hne).trans hir.out), HO'⟩
        case measure => simp [intOf]
      · have x5 : wr.cell? ⟨g5, 2, none⟩ = some (.slice A3 4 c3) := (HR5.out.below hbr.out hg5).cell 2
        have x6 : wr.cell? ⟨g6, 2, none⟩ = some (.slice B3 4 d3) := (HR6.out.below hbr.out hg6).cell 2
        have xi : wr.cell? ⟨gi, 2, none⟩ = some (.int .i64 0) := hir.out.cell 2
        have kp := (HQ.out.2.2.below hbr.out).conv
        have ks := (HY.out.2.2.below hbr.out).conv
        have kpd : (convert 30 9 (.slice A3 4 c3)).run Try.prog wr.drew = .ok (.string ⟨(L3 : List UInt8).toArray⟩) wr.drew := ((HQ.out.2.2.below hbr.out).drewN 1).conv
        have ksd : (convert 30 9 (.slice B3 4 d3)).run Try.prog wr.drew = .ok (.string ⟨(L3 : List UInt8).toArray⟩) wr.drew := ((HY.out.2.2.below hbr.out).drewN 1).conv
        have HRP : Hid (Rd wr (fun _ => True) A3 (by8 L3)) := Lib.hid (by
          obtain ⟨A', c', e, _, hrd⟩ := HQ.out.2.2.below hbr.out
          injection e with e1 e2 e3
          subst e1
          exact hrd)
        have hDl : (Sl.Dk M L2 L3 2).length = 12 := by
          obtain ⟨_, _, e, _⟩ := hor.out.lit
          injection e with _ e2 _
          omega
        have HDL := Lib.hid hDl
        clear hDl
        go_wp2_with fail
        go_region_held3 (fun W => W.cell? ⟨g5, 2, none⟩ = some (.slice A3 4 c3) ∧ W.cell? ⟨g6, 2, none⟩ = some (.slice B3 4 d3) ∧ (convert 30 9 (.slice A3 4 c3)).run Try.prog W = .ok (.string ⟨(L3 : List UInt8).toArray⟩) W ∧ (convert 30 9 (.slice B3 4 d3)).run Try.prog W = .ok (.string ⟨(L3 : List UInt8).toArray⟩) W)
          (first | exact ⟨x5, x6, kp, ks⟩ | exact ⟨x5, x6, kpd, ksd⟩ | go_keep) (fail)
        clear kp ks kpd ksd
        go_wp2_with fail
        go_region_held3 (fun W => W.cell? ⟨gi, 2, none⟩ = some (.int .i64 0) ∧ W.cell? ⟨g5, 2, none⟩ = some (.slice A3 4 c3)) (first | exact ⟨xi, x5⟩ | exact ⟨xi', x5'⟩ | go_keep)
          (first
            | (refine step_copy_own (by rfl) (.tmp 45) (.tmp 49) (by rfl) wx.heap.size gb 12 capb (Sl.Dk M L2 L3 2) L3 0 12 capb A3 c3 (by rfl) (by first | rfl | (rw [HLN.out.1]; rfl) | (rw [HLN.out.2.1]; rfl)) hor.out (by first | decide | (rw [HLN.out.1]; omega) | (rw [HLN.out.2.1]; omega)) (by rw [HDL.out]; first | decide | (rw [HLN.out.1]; omega) | (rw [HLN.out.2.1]; omega)) (by first | decide | (rw [HLN.out.1]; omega) | (rw [HLN.out.2.1]; omega)) (fun _ => True) HRP.out ?_; intro W' ho' hk'; have xi' : W'.cell? ⟨gi, 2, none⟩ = some (.int .i64 0) := (hk'.cell (p := ⟨gi, 2, none⟩) hgir hne).trans xi; have x5' : W'.cell? ⟨g5, 2, none⟩ = some (.slice A3 4 c3) := (hk'.cell (p := ⟨g5, 2, none⟩) hg5r (by show g5 ≠ gb; omega)).trans x5; have HO' := Lib.hid ho'; have HK' : Hid (Kp (fun b => b = gb) wr W') := Lib.hid ⟨hk'.os, hk'.tape, hk'.output, hk'.size, hk'.block⟩; clear ho' hk')
            | fail)
        go_wp2_with fail
        go_roundw
        case rel => exact ⟨3, by omega, rfl, Lib.hid (hbr.out.trans (HK'.out.below hzr (fun i hi e => by omega))), Lib.hid ((HK'.out.block gi hgir hne).trans hir.out), HO'⟩
        case measure => simp [intOf]
      · rw [HDE.out] at hor
        have HRO := Lib.hid (Reads.own hor.out)
        have HBZ : Hid (∀ W, Below wr.heap.size wr W → W.cell? ⟨w.heap.size, 0, none⟩ = some (.int .i64 a) ∧ W.cell? ⟨w.heap.size, 1, none⟩ = some (.int .i64 n)) := Lib.hid fun W hb => HBX.out W ((HB.out.trans (hbr.out.mono HB.out.size)).trans (hb.mono (by have := HB.out.size; omega)))
        clear hor hir
        go_wp2_with fail
        refine Inv.region (fun W W' => Below W.heap.size W W') (fun i v W => match i with
          | 0 => v = .slice (some ⟨gb, 0, none⟩) 12 capb
          | 1 => v = (.string ⟨E.toArray⟩)
          | 2 => v = (.agg #[.int .i64 a, .int .i64 n])
          | 3 => Reads W v E
          | 4 => v = (.string ⟨E.toArray⟩)
          | 5 => v = .bool true
          | 6 => v = .bool true
          | 7 => v = .bool true
          | 8 => v = .bool true
          | 9 => v = .bool true
          | _ => True) (by kernel_rfl) (by kernel_rfl) (by kernel_rfl) (fun W => Below.refl _ _) (fun a b c h k => h.trans (k.mono h.size)) (fun i v W W' h he => ?stab) ?obls ?fin
        case stab =>
          match i, h with
          | 0, h => exact h
          | 1, h => exact h
          | 2, h => exact h
          | 3, h => exact h.below he
          | 4, h => exact h
          | 5, h => exact h
          | 6, h => exact h
          | 7, h => exact h
          | 8, h => exact h
          | 9, h => exact h
          | _ + 10, h => exact h
        case obls =>
          refine .cons ?_ (.cons ?_ (.cons ?_ (.cons ?_ (.cons ?_ (.cons ?_ (.cons ?_ (.cons ?_ (.cons ?_ (.cons ?_ .nil)))))))))
          · intro ac wx hE hf hd
            have hB : Below wr.heap.size wr wx := ⟨hE.os, hE.tape, hE.output, hE.size, hE.block⟩
            rw [if_pos (Inv.want0 rfl _)]
            have h7 : ac.eval (.tmp 7) = .slice (some ⟨gb, 0, none⟩) 12 capb := hf 7 (by kernel_rfl)
            clear hf hd
            obtain ⟨f0, f1⟩ := HBZ.out wx hB
            refine Inv.val (.slice (some ⟨gb, 0, none⟩) 12 capb) ?_ rfl rfl (Below.refl _ _)
            clear hE hB
            generalize ac.eval = ev at *
            simp [execOp, go_sem, *]
          · intro ac wx hE hf hd
            have hB : Below wr.heap.size wr wx := ⟨hE.os, hE.tape, hE.output, hE.size, hE.block⟩
            rw [if_pos (Inv.want0 rfl _)]
            have h51 := hd 0 _ (by kernel_rfl) rfl
            change ac.eval (.tmp 51) = .slice (some ⟨gb, 0, none⟩) 12 capb at h51
            clear hf hd
            have kc := (HRO.out.below hB).conv
            refine Inv.val (.string ⟨E.toArray⟩) ?_ rfl rfl (Below.refl _ _)
            clear hE hB
            generalize ac.eval = ev at *
            simp [execOp, go_sem, *]
          · intro ac wx hE hf hd
            have hB : Below wr.heap.size wr wx := ⟨hE.os, hE.tape, hE.output, hE.size, hE.block⟩
            rw [if_pos (Inv.want0 rfl _)]
            have h2 : ac.eval (.tmp 2) = .pointer (some ⟨w.heap.size, 0, none⟩) := hf 2 (by kernel_rfl)
            clear hf hd
            obtain ⟨f0, f1⟩ := HBZ.out wx hB
            refine Inv.val ((.agg #[.int .i64 a, .int .i64 n])) ?_ rfl rfl (Below.refl _ _)
            clear hE hB
            generalize ac.eval = ev at *
            simp [execOp, go_sem, *]
          · intro ac wx hE hf hd
            have hB : Below wr.heap.size wr wx := ⟨hE.os, hE.tape, hE.output, hE.size, hE.block⟩
            rw [if_pos (Inv.want0 rfl _)]
            have h53 := hd 2 _ (by kernel_rfl) rfl
            change ac.eval (.tmp 53) = (.agg #[.int .i64 a, .int .i64 n]) at h53
            clear hf hd
            refine Inv.go (f := 12) (xs := #[(.agg #[.int .i64 a, .int .i64 n])]) ?_ rfl ?_
            · clear hE hB
              have hfn : ac.eval (.func 12) = .func (.func 12) #[] #[] := rfl
              generalize ac.eval = ev at *
              simp [execOp, go_sem, *]
            · exact (HEn.out wx).mono fun e w' ⟨v, he, ho, hb⟩ => ⟨v, he, Reads.own ho, hb⟩
          · intro ac wx hE hf hd
            have hB : Below wr.heap.size wr wx := ⟨hE.os, hE.tape, hE.output, hE.size, hE.block⟩
            rw [if_pos (Inv.want0 rfl _)]
            have h54 := hd 3 _ (by kernel_rfl) rfl
            change (fun v W => Reads W v E) (ac.eval (.tmp 54)) wx at h54
            try dsimp only at h54
            clear hf hd
            have kc := h54.conv
            refine Inv.val (.string ⟨E.toArray⟩) ?_ rfl rfl (Below.refl _ _)
            clear hE hB
            generalize ac.eval = ev at *
            simp [execOp, go_sem, *]
          · intro ac wx hE hf hd
            have hB : Below wr.heap.size wr wx := ⟨hE.os, hE.tape, hE.output, hE.size, hE.block⟩
            rw [if_pos (Inv.want0 rfl _)]
            have h52 := hd 1 _ (by kernel_rfl) rfl
            change ac.eval (.tmp 52) = (.string ⟨E.toArray⟩) at h52
            have h55 := hd 4 _ (by kernel_rfl) rfl
            change ac.eval (.tmp 55) = (.string ⟨E.toArray⟩) at h55
            clear hf hd
            refine Inv.val (.bool true) ?_ rfl rfl (Below.refl _ _)
            clear hE hB
            generalize ac.eval = ev at *
            simp [execOp, go_sem, *]
          · intro ac wx hE hf hd
            have hB : Below wr.heap.size wr wx := ⟨hE.os, hE.tape, hE.output, hE.size, hE.block⟩
            rw [if_pos (Inv.want0 rfl _)]
            have h56 := hd 5 _ (by kernel_rfl) rfl
            change ac.eval (.tmp 56) = .bool true at h56
            clear hf hd
            obtain ⟨f0, f1⟩ := HBZ.out wx hB
            refine Inv.val (.bool true) ?_ rfl rfl (Below.refl _ _)
            clear hE hB
            generalize ac.eval = ev at *
            simp [execOp, go_sem, *]
          · intro ac wx hE hf hd
            have hB : Below wr.heap.size wr wx := ⟨hE.os, hE.tape, hE.output, hE.size, hE.block⟩
            have hg := hd 6 _ (by kernel_rfl) rfl
            change ac.eval (.tmp 57) = .bool true at hg
            rw [if_pos (Inv.want (j := 6) (b := true) (d := 57) rfl rfl rfl hg)]
            clear hf hd
            refine Inv.go (f := 11) (xs := #[]) ?_ rfl ?_
            · clear hE hB
              have hfn : ac.eval (.func 11) = .func (.func 11) #[] #[] := rfl
              generalize ac.eval = ev at *
              simp [execOp, go_sem, *]
            · exact (known_any wx).mono fun e w' ⟨he, hb⟩ => ⟨_, he, rfl, hb⟩
          · intro ac wx hE hf hd
            have hB : Below wr.heap.size wr wx := ⟨hE.os, hE.tape, hE.output, hE.size, hE.block⟩
            rw [if_pos (Inv.want0 rfl _)]
            have h57 := hd 6 _ (by kernel_rfl) rfl
            change ac.eval (.tmp 57) = .bool true at h57
            have h58 := hd 7 _ (by kernel_rfl) rfl
            change (fun v W => v = .bool true) (ac.eval (.tmp 58)) wx at h58
            try dsimp only at h58
            clear hf hd
            refine Inv.val (.bool true) ?_ rfl rfl (Below.refl _ _)
            clear hE hB
            generalize ac.eval = ev at *
            simp [execOp, go_sem, *]
          · intro ac wx hE hf hd
            have hB : Below wr.heap.size wr wx := ⟨hE.os, hE.tape, hE.output, hE.size, hE.block⟩
            rw [if_pos (Inv.want0 rfl _)]
            have h59 := hd 8 _ (by kernel_rfl) rfl
            change ac.eval (.tmp 59) = .bool true at h59
            clear hf hd
            obtain ⟨f0, f1⟩ := HBZ.out wx hB
            refine Inv.val (.bool true) ?_ rfl rfl (Below.refl _ _)
            clear hE hB
            generalize ac.eval = ev at *
            simp [execOp, go_sem, *]
        case fin =>
          intro ac wx hE ha hall
          have hB : Below wr.heap.size wr wx := ⟨hE.os, hE.tape, hE.output, hE.size, hE.block⟩
          have h51 := hall 0 _ rfl
          change ac.eval (.tmp 51) = .slice (some ⟨gb, 0, none⟩) 12 capb at h51
          have h52 := hall 1 _ rfl
          change ac.eval (.tmp 52) = (.string ⟨E.toArray⟩) at h52
          have h53 := hall 2 _ rfl
          change ac.eval (.tmp 53) = (.agg #[.int .i64 a, .int .i64 n]) at h53
          have h54 := hall 3 _ rfl
          change (fun v W => Reads W v E) (ac.eval (.tmp 54)) wx at h54
          try dsimp only at h54
          generalize hv54 : ac.eval (.tmp 54) = v54 at *
          have h55 := hall 4 _ rfl
          change ac.eval (.tmp 55) = (.string ⟨E.toArray⟩) at h55
          have h56 := hall 5 _ rfl
          change ac.eval (.tmp 56) = .bool true at h56
          have h57 := hall 6 _ rfl
          change ac.eval (.tmp 57) = .bool true at h57
          have h58 := hall 7 _ rfl
          change (fun v W => v = .bool true) (ac.eval (.tmp 58)) wx at h58
          try dsimp only at h58
          generalize hv58 : ac.eval (.tmp 58) = v58 at *
          have h59 := hall 8 _ rfl
          change ac.eval (.tmp 59) = .bool true at h59
          have h4 := hall 9 _ rfl
          change ac.eval (.tmp 4) = .bool true at h4
          simp only [List.foldl, Inv.slot, Act.put] at ha
          change ac.tmps.getD 51 undef = _ at h51
          change ac.tmps.getD 52 undef = _ at h52
          change ac.tmps.getD 53 undef = _ at h53
          change ac.tmps.getD 54 undef = _ at hv54
          change ac.tmps.getD 55 undef = _ at h55
          change ac.tmps.getD 56 undef = _ at h56
          change ac.tmps.getD 57 undef = _ at h57
          change ac.tmps.getD 58 undef = _ at hv58
          change ac.tmps.getD 59 undef = _ at h59
          change ac.tmps.getD 4 undef = _ at h4
          simp only [h51, h52, h53, hv54, h55, h56, h57, hv58, h59, h4, List.setIfInBounds_toArray, List.set_cons_zero, List.set_cons_succ] at ha
          clear h51 h52 h53 hv54 h55 h56 h57 hv58 h59 h4 hall hE
          subst ha
          go_wp2_with fail
          go_ret
          exact ⟨rfl, ((HXB.out.trans (HB.out.mono HXB.out.size)).trans (hbr.out.mono (by omega))).trans (hB.mono (by omega))⟩
end Go.Proofs.Ytefegcmicnlphaa
