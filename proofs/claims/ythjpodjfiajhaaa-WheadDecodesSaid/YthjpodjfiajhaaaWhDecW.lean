/-
  WheadDecodes: the walk, for all bytes.
-/
import Derived.Test.YthjpodjfiajhaaaWhHds
import Derived.Test.YthjpodjfiajhaaaWhKnown
import Derived.Test.YthjpodjfiajhaaaWhRDecL
import Derived.Test.YthjpodjfiajhaaaByOf
import Derived.Deep.DeepCutAuto
namespace Go.Proofs.Ythjpodjfiajhaaa
open Go.RowKit Go.Sort
open Wh (At)
open Me

theorem low1a {w W : World} {o : Obj} (h : Below (w.heap.size + 1) (w.alloc o) W) (o' : Obj) : Below (w.heap.size + 1) (w.alloc o) (W.alloc o') := h.alloc (by have := h.size; simpa using this) o'
theorem low1s {w W : World} {o : Obj} (h : Below (w.heap.size + 1) (w.alloc o) W) : w.heap.size < W.heap.size := by have := h.size; simp at this; omega
/-- One append onto an empty row of the call's own. -/
theorem app_one {base : Nat} {w : World} {v : Value} {B : List UInt8} (h : w.ownsRow base 5 1 v (0 + B.length) ([] ++ by8 B)) : Reads w v B := by
  refine Reads.own (base := base) ?_
  unfold OwnB
  simpa using h
theorem rdecode_any (A : Option Addr) (L : List UInt8) (cap : Nat) (w : World) (h : Reads w (.slice A L.length cap) L) : Calls Try.prog 5 #[.slice A L.length cap] w (Decoded w L) := by
  by_cases h16 : L.length < 16
  · exact rdecode_short A L cap w h16
  · obtain ⟨A', c', e, hc, hr⟩ := h
    injection e with e1 e2 e3
    subst e1 e3
    obtain ⟨b, off, rfl, hb⟩ := By.of hr (by omega)
    exact rdecode_long L b off cap w hb hc (by omega)
theorem Wh.dl_len (L : List UInt8) : (Wh.dl L).length ≤ 8 := by
  cases h : Wh.dok L
  · rw [(Wh.dok_f h).2.2.1]; simp
  · rw [(Wh.dok_t h).2.2.1]
    unfold Wh.dok at h
    simp only [Bool.and_eq_true] at h
    have := (Wh.rok_t h.1.1).2.1
    unfold Wh.cand
    rw [Wh.archs_len]
    omega

set_option maxHeartbeats 4000000 in
theorem decodes_no (M : List UInt8) (Am : Option Addr) (cm : Nat) (w : World) (hm : Reads w (.slice Am M.length cm) M) (h2 : M.length ≤ 2000) (hd : Wh.dok M = false) :
    Calls Try.prog 3 #[.slice Am M.length cm] w fun e w' => e = .returned (.bool true) ∧ Below w.heap.size w w' := by
  have HM : Hid (∀ W, Below w.heap.size w W → Reads W (.slice Am M.length cm) M) := Lib.hid fun W hb => hm.below hb
  have hMI : (M.length : Int) ≤ 2000 := by omega
  obtain ⟨d1, d2, d3, d4⟩ := Wh.dok_f hd
  have HDe : Hid (∀ W A n c, Reads W (.slice A n c) M → Calls Try.prog 4 #[.slice A n c] W fun e w' => ∃ A c, e = .returned (.tuple #[.agg #[.int .i64 (Wh.dag M), .int .i64 (Wh.dxf M), .slice A (Wh.dl M).length c], .int .i64 (Wh.derr M)]) ∧ Row w' A (Wh.dl M) c ∧ Below W.heap.size W w') := Lib.hid fun W A n c hr => by
    obtain ⟨A', c', e, hc, hr'⟩ := hr
    injection e with e1 e2 e3
    subst e1 e2 e3
    exact decode_any A M c W ⟨A, c, rfl, hc, hr'⟩
  have HRe : Hid (∀ W, Below w.heap.size w W → Calls Try.prog 5 #[.slice Am M.length cm] W fun e w' => ∃ A c, e = .returned (.tuple #[.agg #[.int .i64 (Wh.dag M), .int .i64 (Wh.dxf M), .slice A (Wh.dl M).length c], .int .i64 (Wh.derr M)]) ∧ Row w' A (Wh.dl M) c ∧ Below W.heap.size W w') := Lib.hid fun W hb => rdecode_any Am M cm W (HM.out W hb)
  have h8 := Wh.dl_len M
  have HHd : Hid (∀ W A A' c c', Row W A (Wh.dl M) c → Row W A' (Wh.dl M) c' → Calls Try.prog 6 #[.agg #[.int .i64 (Wh.dag M), .int .i64 (Wh.dxf M), .slice A (Wh.dl M).length c], .agg #[.int .i64 (Wh.dag M), .int .i64 (Wh.dxf M), .slice A' (Wh.dl M).length c']] W fun e w' => e = .returned (.bool true) ∧ Below W.heap.size W w') := Lib.hid fun W A A' c c' hr hr' => headers_any (Wh.dag M) (Wh.dxf M) (Wh.dl M) A A' c c' W hr hr' h8
  rw [d4] at HDe HRe
  clear d1 d2 d3 d4 hd h8
  generalize Wh.dag M = ag at *
  generalize Wh.dxf M = xf at *
  generalize Wh.dl M = l at *
  obtain ⟨j0, hj0, hy0, hy1, hy2⟩ := info_parts u8info
  have HJ := Lib.hid hj0
  have HY := Lib.hid (And.intro hy0 (And.intro hy1 hy2))
  have HO8 : Hid ((w.alloc (.cells #[] 5)).ownsRow w.heap.size 5 1 (.slice (some ⟨w.heap.size, 0, none⟩) 0 0) 0 []) := Lib.hid (World.ownsRow_made w #[] 0 (Nat.le_refl _) (Nat.zero_le _) rfl)
  have HMS : Hid (Rd (w.alloc (.cells #[] 5)) (fun _ => True) Am (by8 M)) := Lib.hid (by
    obtain ⟨A', c', e, _, hrd⟩ := HM.out _ ((Below.refl _ _).alloc (Nat.le_refl _) (.cells #[] 5))
    injection e with e1 e2 e3
    subst e1
    exact hrd)
  clear hj0 hy0 hy1 hy2 hm h2
  go_enter Try.func3, Try.ntmps3
  go_wp2_with first
    | (at_builtin; refine wpList_app _ rfl (.tmp 13) (.tmp 14) 22 rfl w.heap.size 5 j0 (.int .u8 0) 1 1 Try.underlying22 HJ.out HY.out.1 HY.out.2.1 HY.out.2.2 rfl (by decide) (.slice (some ⟨w.heap.size, 0, none⟩) 0 0) 0 [] rfl HO8.out (fun _ => True) Am M.length cm (by8 M) rfl (by rw [by8_len]; omega) HMS.out (by8_one _) (by unfold maxLen; omega) (by omega) (by simp) ?_; intro v1 w1 hown1 hg1 hat1 hnil1; have hb1 : Below w.heap.size w w1 := ((Below.refl _ _).alloc (Nat.le_refl _) _).grown hg1 (by simp) (fun g e => by simp [Value.ownBlock] at e; omega); have HB1 := Lib.hid hb1; have HR1 := Lib.hid (app_one hown1); obtain ⟨A1, n1, c1, rfl⟩ := own_slice hown1; clear hown1 hg1 hat1 hnil1 hb1)
    | (go_at_call 4; (with_reducible refine (HDe.out w1 _ _ _ HR1.out).mono ?_); rintro e w2 ⟨A2, c2, rfl, hr2, hb2⟩; have HB2 := Lib.hid (HB1.out.trans (hb2.mono HB1.out.size)); have HW2 := Lib.hid hr2; clear hr2 hb2)
    | (go_at_call 5; have hpre : Below w.heap.size w (w2.alloc (.cells #[.int .i64 ag, .int .i64 xf, .slice A2 l.length c2] 25)) := HB2.out.alloc HB2.out.size _; (with_reducible refine (HRe.out _ hpre).mono ?_); rintro e w3 ⟨A3, c3, rfl, hr3, hb3⟩; have HB3 := Lib.hid (hpre.trans (hb3.mono hpre.size)); have hb3' : Below (w2.heap.size + 1) (w2.alloc (.cells #[.int .i64 ag, .int .i64 xf, .slice A2 l.length c2] 25)) w3 := hb3.mono (by simp); have HC3 := Lib.hid hb3'; have HW3 := Lib.hid hr3; have HW23 := Lib.hid ((HW2.out.below ((Below.refl _ _).alloc (Nat.le_refl _) _)).below hb3); have hz3 : w2.heap.size < w3.heap.size := low1s hb3'; obtain ⟨x0, x1, x2⟩ := box_cells hb3'; clear hr3 hb3 hb3' hpre)
    | (go_at_call 6; (with_reducible refine (HHd.out _ A2 A3 c2 c3 (HW23.out.below ((Below.refl _ _).alloc (Nat.le_refl _) _)) (HW3.out.below ((Below.refl _ _).alloc (Nat.le_refl _) _))).mono ?_); rintro e w4 ⟨rfl, hb4⟩; have HB4 := Lib.hid ((HB3.out.alloc HB3.out.size (.cells #[.int .i64 ag, .int .i64 xf, .slice A3 l.length c3] 25)).trans (hb4.mono (Nat.le_trans HB3.out.size (by simp)))); have hb4' : Below (w2.heap.size + 1) (w2.alloc (.cells #[.int .i64 ag, .int .i64 xf, .slice A2 l.length c2] 25)) w4 := (low1a HC3.out _).trans (hb4.mono (by simp; omega)); have hz4 : w2.heap.size < w4.heap.size := low1s hb4'; obtain ⟨y0, y1, y2⟩ := box_cells hb4'; have HW4 := Lib.hid ((HW23.out.below ((Below.refl _ _).alloc (Nat.le_refl _) _)).below hb4); clear hb4 hb4')
    | (go_at_call 7; (with_reducible refine (known_any _).mono ?_); rintro e w5 ⟨rfl, hb5⟩; have HB5 := Lib.hid hb5; clear hb5)
    | fail
  go_ret
  exact ⟨rfl, HB4.out.trans (HB5.out.mono HB4.out.size)⟩

set_option maxHeartbeats 4000000 in
theorem decodes_yes (M : List UInt8) (Am : Option Addr) (cm : Nat) (w : World) (hm : Reads w (.slice Am M.length cm) M) (h2 : M.length ≤ 2000) (hd : Wh.dok M = true) :
    Calls Try.prog 3 #[.slice Am M.length cm] w fun e w' => e = .returned (.bool true) ∧ Below w.heap.size w w' := by
  have HM : Hid (∀ W, Below w.heap.size w W → Reads W (.slice Am M.length cm) M) := Lib.hid fun W hb => hm.below hb
  have hMI : (M.length : Int) ≤ 2000 := by omega
  obtain ⟨d1, d2, d3, d4⟩ := Wh.dok_t hd
  have HDe : Hid (∀ W A n c, Reads W (.slice A n c) M → Calls Try.prog 4 #[.slice A n c] W fun e w' => ∃ A c, e = .returned (.tuple #[.agg #[.int .i64 (Wh.dag M), .int .i64 (Wh.dxf M), .slice A (Wh.dl M).length c], .int .i64 (Wh.derr M)]) ∧ Row w' A (Wh.dl M) c ∧ Below W.heap.size W w') := Lib.hid fun W A n c hr => by
    obtain ⟨A', c', e, hc, hr'⟩ := hr
    injection e with e1 e2 e3
    subst e1 e2 e3
    exact decode_any A M c W ⟨A, c, rfl, hc, hr'⟩
  have HRe : Hid (∀ W, Below w.heap.size w W → Calls Try.prog 5 #[.slice Am M.length cm] W fun e w' => ∃ A c, e = .returned (.tuple #[.agg #[.int .i64 (Wh.dag M), .int .i64 (Wh.dxf M), .slice A (Wh.dl M).length c], .int .i64 (Wh.derr M)]) ∧ Row w' A (Wh.dl M) c ∧ Below W.heap.size W w') := Lib.hid fun W hb => rdecode_any Am M cm W (HM.out W hb)
  have h8 := Wh.dl_len M
  have HHd : Hid (∀ W A A' c c', Row W A (Wh.dl M) c → Row W A' (Wh.dl M) c' → Calls Try.prog 6 #[.agg #[.int .i64 (Wh.dag M), .int .i64 (Wh.dxf M), .slice A (Wh.dl M).length c], .agg #[.int .i64 (Wh.dag M), .int .i64 (Wh.dxf M), .slice A' (Wh.dl M).length c']] W fun e w' => e = .returned (.bool true) ∧ Below W.heap.size W w') := Lib.hid fun W A A' c c' hr hr' => headers_any (Wh.dag M) (Wh.dxf M) (Wh.dl M) A A' c c' W hr hr' h8
  have hpt := hd
  unfold Wh.dok at hpt
  simp only [Bool.and_eq_true, decide_eq_true_eq] at hpt
  obtain ⟨⟨hro, hva⟩, hle, htk⟩ := hpt
  have h16 := (Wh.rok_t hro).1
  have HEn : Hid (∀ W A c, Row W A (Wh.dl M) c → Calls Try.prog 8 #[.agg #[.int .i64 (Wh.dag M), .int .i64 (Wh.dxf M), .slice A (Wh.dl M).length c]] W fun e w' => ∃ v, e = .returned (.tuple #[v, .int .i64 0]) ∧ OwnB W.heap.size w' v (Wh.encL M) ∧ Below W.heap.size W w') := Lib.hid fun W A c hr => by
    have := encode_any (Wh.dag M) (Wh.dxf M) (Wh.dl M) A c W hr
    have e1 : Wh.enc (Wh.dag M) (Wh.dxf M) (Wh.dl M) = Wh.encL M := by rw [d1, d2, d3]; rfl
    have e2 : Wh.val (Wh.dag M) (Wh.dxf M) (Wh.dl M) = true := by rw [d1, d2, d3]; exact hva
    rw [e1, e2] at this
    exact this
  rw [d4] at HDe HRe
  have HBE : Hid (∀ W, Below w.heap.size w W → Reads W (.slice Am (Wh.encL M).length cm) (Wh.encL M)) := Lib.hid fun W hb => by
    have := Reads.take (HM.out W hb) hle
    rw [htk] at this
    exact this
  obtain ⟨_, _, em, hcm, hrm⟩ := hm
  injection em with em1 em2 em3
  subst em1 em3
  obtain ⟨b, off, rfl, hby⟩ := By.of hrm (by omega)
  clear d1 d2 d3 d4 hd h8 hro hva htk h16 hby hrm
  generalize Wh.dag M = ag at *
  generalize Wh.dxf M = xf at *
  generalize Wh.dl M = l at *
  generalize Wh.encL M = E at *
  have hE1 := hle
  have hEI : (E.length : Int) ≤ (M.length : Int) := by omega
  obtain ⟨j0, hj0, hy0, hy1, hy2⟩ := info_parts u8info
  have HJ := Lib.hid hj0
  have HY := Lib.hid (And.intro hy0 (And.intro hy1 hy2))
  have HO8 : Hid ((w.alloc (.cells #[] 5)).ownsRow w.heap.size 5 1 (.slice (some ⟨w.heap.size, 0, none⟩) 0 0) 0 []) := Lib.hid (World.ownsRow_made w #[] 0 (Nat.le_refl _) (Nat.zero_le _) rfl)
  have HMS : Hid (Rd (w.alloc (.cells #[] 5)) (fun _ => True) (some ⟨b, off, none⟩) (by8 M)) := Lib.hid (by
    obtain ⟨A', c', e, _, hrd⟩ := HM.out _ ((Below.refl _ _).alloc (Nat.le_refl _) (.cells #[] 5))
    injection e with e1 e2 e3
    subst e1
    exact hrd)
  clear hj0 hy0 hy1 hy2 h2 hle
  go_enter Try.func3, Try.ntmps3
  go_upto_region 10 with first
    | (at_builtin; refine wpList_app _ rfl (.tmp 13) (.tmp 14) 22 rfl w.heap.size 5 j0 (.int .u8 0) 1 1 Try.underlying22 HJ.out HY.out.1 HY.out.2.1 HY.out.2.2 rfl (by decide) (.slice (some ⟨w.heap.size, 0, none⟩) 0 0) 0 [] rfl HO8.out (fun _ => True) (some ⟨b, off, none⟩) M.length cm (by8 M) rfl (by rw [by8_len]; omega) HMS.out (by8_one _) (by unfold maxLen; omega) (by omega) (by simp) ?_; intro v1 w1 hown1 hg1 hat1 hnil1; have hb1 : Below w.heap.size w w1 := ((Below.refl _ _).alloc (Nat.le_refl _) _).grown hg1 (by simp) (fun g e => by simp [Value.ownBlock] at e; omega); have HB1 := Lib.hid hb1; have HR1 := Lib.hid (app_one hown1); obtain ⟨A1, n1, c1, rfl⟩ := own_slice hown1; clear hown1 hg1 hat1 hnil1 hb1)
    | (go_at_call 4; (with_reducible refine (HDe.out w1 _ _ _ HR1.out).mono ?_); rintro e w2 ⟨A2, c2, rfl, hr2, hb2⟩; have HB2 := Lib.hid (HB1.out.trans (hb2.mono HB1.out.size)); have HW2 := Lib.hid hr2; clear hr2 hb2)
    | (go_at_call 5; have hpre : Below w.heap.size w (w2.alloc (.cells #[.int .i64 ag, .int .i64 xf, .slice A2 l.length c2] 25)) := HB2.out.alloc HB2.out.size _; (with_reducible refine (HRe.out _ hpre).mono ?_); rintro e w3 ⟨A3, c3, rfl, hr3, hb3⟩; have HB3 := Lib.hid (hpre.trans (hb3.mono hpre.size)); have hb3' : Below (w2.heap.size + 1) (w2.alloc (.cells #[.int .i64 ag, .int .i64 xf, .slice A2 l.length c2] 25)) w3 := hb3.mono (by simp); have HC3 := Lib.hid hb3'; have HW3 := Lib.hid hr3; have HW23 := Lib.hid ((HW2.out.below ((Below.refl _ _).alloc (Nat.le_refl _) _)).below hb3); have hz3 : w2.heap.size < w3.heap.size := low1s hb3'; obtain ⟨x0, x1, x2⟩ := box_cells hb3'; clear hr3 hb3 hb3' hpre)
    | (go_at_call 6; (with_reducible refine (HHd.out _ A2 A3 c2 c3 (HW23.out.below ((Below.refl _ _).alloc (Nat.le_refl _) _)) (HW3.out.below ((Below.refl _ _).alloc (Nat.le_refl _) _))).mono ?_); rintro e w4 ⟨rfl, hb4⟩; have HB4 := Lib.hid ((HB3.out.alloc HB3.out.size (.cells #[.int .i64 ag, .int .i64 xf, .slice A3 l.length c3] 25)).trans (hb4.mono (Nat.le_trans HB3.out.size (by simp)))); have hb4' : Below (w2.heap.size + 1) (w2.alloc (.cells #[.int .i64 ag, .int .i64 xf, .slice A2 l.length c2] 25)) w4 := (low1a HC3.out _).trans (hb4.mono (by simp; omega)); have hz4 : w2.heap.size < w4.heap.size := low1s hb4'; obtain ⟨y0, y1, y2⟩ := box_cells hb4'; have HW4 := Lib.hid ((HW23.out.below ((Below.refl _ _).alloc (Nat.le_refl _) _)).below hb4); clear hb4 hb4')
    | (go_at_call 8; (with_reducible refine (HEn.out w4 A2 c2 HW4.out).mono ?_); rintro e w6 ⟨v6, rfl, ho6, hb6⟩; have HB6 := Lib.hid (HB4.out.trans (hb6.mono HB4.out.size)); have HR6 := Lib.hid (Reads.own ho6); obtain ⟨A6, c6, rfl, _⟩ := Bs.own ho6; clear ho6 hb6)
    | fail
  have HCV : Hid (∀ W, Below w6.heap.size w6 W → (convert 22 9 (.slice A6 E.length c6)).run Try.prog W = .ok (.string ⟨E.toArray⟩) W ∧ (convert 22 9 (.slice (some ⟨b, off, none⟩) E.length cm)).run Try.prog W = .ok (.string ⟨E.toArray⟩) W) := Lib.hid fun W hb => ⟨(HR6.out.below hb).conv, (HBE.out W (HB6.out.trans (hb.mono HB6.out.size))).conv⟩
  refine Inv.region (fun W W' => Below W.heap.size W W') (fun i v W => match i with
    | 0 => v = .int .i64 0
    | 1 => v = .bool true
    | 2 => v = .bool true
    | 3 => v = .slice A6 E.length c6
    | 4 => v = .int .i64 (E.length : Int)
    | 5 => v = .slice (some ⟨b, off, none⟩) M.length cm
    | 6 => v = .int .i64 (M.length : Int)
    | 7 => v = .bool true
    | 8 => v = .bool true
    | 9 => v = .bool true
    | 10 => v = .slice A6 E.length c6
    | 11 => v = (.string ⟨E.toArray⟩)
    | 12 => v = .slice (some ⟨b, off, none⟩) M.length cm
    | 13 => v = .slice A6 E.length c6
    | 14 => v = .int .i64 (E.length : Int)
    | 15 => v = .slice (some ⟨b, off, none⟩) E.length cm
    | 16 => v = (.string ⟨E.toArray⟩)
    | 17 => v = .bool true
    | 18 => v = .bool true
    | 19 => v = .bool true
    | 20 => v = .bool true
    | 21 => v = .bool true
    | 22 => v = .bool true
    | _ => True) (by kernel_rfl) (by kernel_rfl) (by kernel_rfl) (fun W => Below.refl _ _) (fun a b c h k => h.trans (k.mono h.size)) (fun i v W W' h he => ?stab) ?obls ?fin
  case stab =>
    match i, h with
    | 0, h => exact h
    | 1, h => exact h
    | 2, h => exact h
    | 3, h => exact h
    | 4, h => exact h
    | 5, h => exact h
    | 6, h => exact h
    | 7, h => exact h
    | 8, h => exact h
    | 9, h => exact h
    | 10, h => exact h
    | 11, h => exact h
    | 12, h => exact h
    | 13, h => exact h
    | 14, h => exact h
    | 15, h => exact h
    | 16, h => exact h
    | 17, h => exact h
    | 18, h => exact h
    | 19, h => exact h
    | 20, h => exact h
    | 21, h => exact h
    | 22, h => exact h
    | _ + 23, h => exact h
  case obls =>
    refine .cons ?_ (.cons ?_ (.cons ?_ (.cons ?_ (.cons ?_ (.cons ?_ (.cons ?_ (.cons ?_ (.cons ?_ (.cons ?_ (.cons ?_ (.cons ?_ (.cons ?_ (.cons ?_ (.cons ?_ (.cons ?_ (.cons ?_ (.cons ?_ (.cons ?_ (.cons ?_ (.cons ?_ (.cons ?_ (.cons ?_ .nil))))))))))))))))))))))
    · intro ac wx hE hf hd
      have hB : Below w6.heap.size w6 wx := ⟨hE.os, hE.tape, hE.output, hE.size, hE.block⟩
      rw [if_pos (Inv.want0 rfl _)]
      have h8 : ac.eval (.tmp 8) = .int .i64 0 := hf 8 (by kernel_rfl)
      clear hf hd
      refine Inv.val (.int .i64 0) ?_ rfl rfl (Below.refl _ _)
      clear hE hB
      generalize ac.eval = ev at *
      simp [execOp, go_sem, *]
    · intro ac wx hE hf hd
      have hB : Below w6.heap.size w6 wx := ⟨hE.os, hE.tape, hE.output, hE.size, hE.block⟩
      rw [if_pos (Inv.want0 rfl _)]
      have h41 := hd 0 _ (by kernel_rfl) rfl
      change ac.eval (.tmp 41) = .int .i64 0 at h41
      clear hf hd
      refine Inv.val (.bool true) ?_ rfl rfl (Below.refl _ _)
      clear hE hB
      have hcst : ∀ v, ac.eval (.const v) = v := fun _ => rfl
      generalize ac.eval = ev at *
      simp [execOp, go_sem, h41, hcst]
    · intro ac wx hE hf hd
      have hB : Below w6.heap.size w6 wx := ⟨hE.os, hE.tape, hE.output, hE.size, hE.block⟩
      rw [if_pos (Inv.want0 rfl _)]
      have h42 := hd 1 _ (by kernel_rfl) rfl
      change ac.eval (.tmp 42) = .bool true at h42
      clear hf hd
      refine Inv.val (.bool true) ?_ rfl rfl (Below.refl _ _)
      clear hE hB
      generalize ac.eval = ev at *
      simp [execOp, go_sem, *]
    · intro ac wx hE hf hd
      have hB : Below w6.heap.size w6 wx := ⟨hE.os, hE.tape, hE.output, hE.size, hE.block⟩
      have hg := hd 2 _ (by kernel_rfl) rfl
      change ac.eval (.tmp 43) = .bool true at hg
      rw [if_pos (Inv.want (j := 2) (b := true) (d := 43) rfl rfl rfl hg)]
      have h7 : ac.eval (.tmp 7) = .slice A6 E.length c6 := hf 7 (by kernel_rfl)
      clear hf hd
      refine Inv.val (.slice A6 E.length c6) ?_ rfl rfl (Below.refl _ _)
      clear hE hB
      generalize ac.eval = ev at *
      simp [execOp, go_sem, *]
    · intro ac wx hE hf hd
      have hB : Below w6.heap.size w6 wx := ⟨hE.os, hE.tape, hE.output, hE.size, hE.block⟩
      have hg := hd 2 _ (by kernel_rfl) rfl
      change ac.eval (.tmp 43) = .bool true at hg
      rw [if_pos (Inv.want (j := 2) (b := true) (d := 43) rfl rfl rfl hg)]
      have h44 := hd 3 _ (by kernel_rfl) rfl
      change ac.eval (.tmp 44) = .slice A6 E.length c6 at h44
      clear hf hd
      refine Inv.val (.int .i64 (E.length : Int)) ?_ rfl rfl (Below.refl _ _)
      clear hE hB
      generalize ac.eval = ev at *
      simp [go_sem, *]
    · intro ac wx hE hf hd
      have hB : Below w6.heap.size w6 wx := ⟨hE.os, hE.tape, hE.output, hE.size, hE.block⟩
      have hg := hd 2 _ (by kernel_rfl) rfl
      change ac.eval (.tmp 43) = .bool true at hg
      rw [if_pos (Inv.want (j := 2) (b := true) (d := 43) rfl rfl rfl hg)]
      have h0 : ac.eval (.tmp 0) = .slice (some ⟨b, off, none⟩) M.length cm := hf 0 (by kernel_rfl)
      clear hf hd
      refine Inv.val (.slice (some ⟨b, off, none⟩) M.length cm) ?_ rfl rfl (Below.refl _ _)
      clear hE hB
      generalize ac.eval = ev at *
      simp [execOp, go_sem, *]
    · intro ac wx hE hf hd
      have hB : Below w6.heap.size w6 wx := ⟨hE.os, hE.tape, hE.output, hE.size, hE.block⟩
      have hg := hd 2 _ (by kernel_rfl) rfl
      change ac.eval (.tmp 43) = .bool true at hg
      rw [if_pos (Inv.want (j := 2) (b := true) (d := 43) rfl rfl rfl hg)]
      have h46 := hd 5 _ (by kernel_rfl) rfl
      change ac.eval (.tmp 46) = .slice (some ⟨b, off, none⟩) M.length cm at h46
      clear hf hd
      refine Inv.val (.int .i64 (M.length : Int)) ?_ rfl rfl (Below.refl _ _)
      clear hE hB
      generalize ac.eval = ev at *
      simp [go_sem, *]
    · intro ac wx hE hf hd
      have hB : Below w6.heap.size w6 wx := ⟨hE.os, hE.tape, hE.output, hE.size, hE.block⟩
      have hg := hd 2 _ (by kernel_rfl) rfl
      change ac.eval (.tmp 43) = .bool true at hg
      rw [if_pos (Inv.want (j := 2) (b := true) (d := 43) rfl rfl rfl hg)]
      have h45 := hd 4 _ (by kernel_rfl) rfl
      change ac.eval (.tmp 45) = .int .i64 (E.length : Int) at h45
      have h47 := hd 6 _ (by kernel_rfl) rfl
      change ac.eval (.tmp 47) = .int .i64 (M.length : Int) at h47
      clear hf hd
      refine Inv.val (.bool true) ?_ rfl rfl (Below.refl _ _)
      clear hE hB
      generalize ac.eval = ev at *
      simp [execOp, go_sem, *]
    · intro ac wx hE hf hd
      have hB : Below w6.heap.size w6 wx := ⟨hE.os, hE.tape, hE.output, hE.size, hE.block⟩
      rw [if_pos (Inv.want0 rfl _)]
      have h43 := hd 2 _ (by kernel_rfl) rfl
      change ac.eval (.tmp 43) = .bool true at h43
      have h48 := hd 7 _ (by kernel_rfl) rfl
      change ac.eval (.tmp 48) = .bool true at h48
      clear hf hd
      refine Inv.val (.bool true) ?_ rfl rfl (Below.refl _ _)
      clear hE hB
      have hcst : ∀ v, ac.eval (.const v) = v := fun _ => rfl
      generalize ac.eval = ev at *
      simp [execOp, go_sem, *]
    · intro ac wx hE hf hd
      have hB : Below w6.heap.size w6 wx := ⟨hE.os, hE.tape, hE.output, hE.size, hE.block⟩
      rw [if_pos (Inv.want0 rfl _)]
      have h49 := hd 8 _ (by kernel_rfl) rfl
      change ac.eval (.tmp 49) = .bool true at h49
      clear hf hd
      refine Inv.val (.bool true) ?_ rfl rfl (Below.refl _ _)
      clear hE hB
      generalize ac.eval = ev at *
      simp [execOp, go_sem, *]
    · intro ac wx hE hf hd
      have hB : Below w6.heap.size w6 wx := ⟨hE.os, hE.tape, hE.output, hE.size, hE.block⟩
      have hg := hd 9 _ (by kernel_rfl) rfl
      change ac.eval (.tmp 50) = .bool true at hg
      rw [if_pos (Inv.want (j := 9) (b := true) (d := 50) rfl rfl rfl hg)]
      have h7 : ac.eval (.tmp 7) = .slice A6 E.length c6 := hf 7 (by kernel_rfl)
      clear hf hd
      refine Inv.val (.slice A6 E.length c6) ?_ rfl rfl (Below.refl _ _)
      clear hE hB
      generalize ac.eval = ev at *
      simp [execOp, go_sem, *]
    · intro ac wx hE hf hd
      have hB : Below w6.heap.size w6 wx := ⟨hE.os, hE.tape, hE.output, hE.size, hE.block⟩
      have hg := hd 9 _ (by kernel_rfl) rfl
      change ac.eval (.tmp 50) = .bool true at hg
      rw [if_pos (Inv.want (j := 9) (b := true) (d := 50) rfl rfl rfl hg)]
      have h51 := hd 10 _ (by kernel_rfl) rfl
      change ac.eval (.tmp 51) = .slice A6 E.length c6 at h51
      clear hf hd
      obtain ⟨kc1, kc2⟩ := HCV.out wx hB
      refine Inv.val ((.string ⟨E.toArray⟩)) ?_ rfl rfl (Below.refl _ _)
      clear hE hB
      have hcst : ∀ v, ac.eval (.const v) = v := fun _ => rfl
      generalize ac.eval = ev at *
      simp [execOp, go_sem, *]
    · intro ac wx hE hf hd
      have hB : Below w6.heap.size w6 wx := ⟨hE.os, hE.tape, hE.output, hE.size, hE.block⟩
      have hg := hd 9 _ (by kernel_rfl) rfl
      change ac.eval (.tmp 50) = .bool true at hg
      rw [if_pos (Inv.want (j := 9) (b := true) (d := 50) rfl rfl rfl hg)]
      have h0 : ac.eval (.tmp 0) = .slice (some ⟨b, off, none⟩) M.length cm := hf 0 (by kernel_rfl)
      clear hf hd
      refine Inv.val (.slice (some ⟨b, off, none⟩) M.length cm) ?_ rfl rfl (Below.refl _ _)
      clear hE hB
      generalize ac.eval = ev at *
      simp [execOp, go_sem, *]
    · intro ac wx hE hf hd
      have hB : Below w6.heap.size w6 wx := ⟨hE.os, hE.tape, hE.output, hE.size, hE.block⟩
      have hg := hd 9 _ (by kernel_rfl) rfl
      change ac.eval (.tmp 50) = .bool true at hg
      rw [if_pos (Inv.want (j := 9) (b := true) (d := 50) rfl rfl rfl hg)]
      have h7 : ac.eval (.tmp 7) = .slice A6 E.length c6 := hf 7 (by kernel_rfl)
      clear hf hd
      refine Inv.val (.slice A6 E.length c6) ?_ rfl rfl (Below.refl _ _)
      clear hE hB
      generalize ac.eval = ev at *
      simp [execOp, go_sem, *]
    · intro ac wx hE hf hd
      have hB : Below w6.heap.size w6 wx := ⟨hE.os, hE.tape, hE.output, hE.size, hE.block⟩
      have hg := hd 9 _ (by kernel_rfl) rfl
      change ac.eval (.tmp 50) = .bool true at hg
      rw [if_pos (Inv.want (j := 9) (b := true) (d := 50) rfl rfl rfl hg)]
      have h54 := hd 13 _ (by kernel_rfl) rfl
      change ac.eval (.tmp 54) = .slice A6 E.length c6 at h54
      clear hf hd
      refine Inv.val (.int .i64 (E.length : Int)) ?_ rfl rfl (Below.refl _ _)
      clear hE hB
      generalize ac.eval = ev at *
      simp [go_sem, *]
    · intro ac wx hE hf hd
      have hB : Below w6.heap.size w6 wx := ⟨hE.os, hE.tape, hE.output, hE.size, hE.block⟩
      have hg := hd 9 _ (by kernel_rfl) rfl
      change ac.eval (.tmp 50) = .bool true at hg
      rw [if_pos (Inv.want (j := 9) (b := true) (d := 50) rfl rfl rfl hg)]
      have h53 := hd 12 _ (by kernel_rfl) rfl
      change ac.eval (.tmp 53) = .slice (some ⟨b, off, none⟩) M.length cm at h53
      have h55 := hd 14 _ (by kernel_rfl) rfl
      change ac.eval (.tmp 55) = .int .i64 (E.length : Int) at h55
      clear hf hd
      have hsl := slice_to wx b off M.length E.length cm hE1 hcm
      refine Inv.val (.slice (some ⟨b, off, none⟩) E.length cm) ?_ rfl rfl (Below.refl _ _)
      clear hE hB hE1 hcm
      generalize ac.eval = ev at *
      simp [execOp, go_sem, h53, h55, hsl]
    · intro ac wx hE hf hd
      have hB : Below w6.heap.size w6 wx := ⟨hE.os, hE.tape, hE.output, hE.size, hE.block⟩
      have hg := hd 9 _ (by kernel_rfl) rfl
      change ac.eval (.tmp 50) = .bool true at hg
      rw [if_pos (Inv.want (j := 9) (b := true) (d := 50) rfl rfl rfl hg)]
      have h56 := hd 15 _ (by kernel_rfl) rfl
      change ac.eval (.tmp 56) = .slice (some ⟨b, off, none⟩) E.length cm at h56
      clear hf hd
      obtain ⟨kc1, kc2⟩ := HCV.out wx hB
      refine Inv.val ((.string ⟨E.toArray⟩)) ?_ rfl rfl (Below.refl _ _)
      clear hE hB
      have hcst : ∀ v, ac.eval (.const v) = v := fun _ => rfl
      generalize ac.eval = ev at *
      simp [execOp, go_sem, *]
    · intro ac wx hE hf hd
      have hB : Below w6.heap.size w6 wx := ⟨hE.os, hE.tape, hE.output, hE.size, hE.block⟩
      have hg := hd 9 _ (by kernel_rfl) rfl
      change ac.eval (.tmp 50) = .bool true at hg
      rw [if_pos (Inv.want (j := 9) (b := true) (d := 50) rfl rfl rfl hg)]
      have h52 := hd 11 _ (by kernel_rfl) rfl
      change ac.eval (.tmp 52) = (.string ⟨E.toArray⟩) at h52
      have h57 := hd 16 _ (by kernel_rfl) rfl
      change ac.eval (.tmp 57) = (.string ⟨E.toArray⟩) at h57
      clear hf hd
      refine Inv.val (.bool true) ?_ rfl rfl (Below.refl _ _)
      clear hE hB
      generalize ac.eval = ev at *
      simp [execOp, go_sem, *]
    · intro ac wx hE hf hd
      have hB : Below w6.heap.size w6 wx := ⟨hE.os, hE.tape, hE.output, hE.size, hE.block⟩
      rw [if_pos (Inv.want0 rfl _)]
      have h50 := hd 9 _ (by kernel_rfl) rfl
      change ac.eval (.tmp 50) = .bool true at h50
      have h58 := hd 17 _ (by kernel_rfl) rfl
      change ac.eval (.tmp 58) = .bool true at h58
      clear hf hd
      refine Inv.val (.bool true) ?_ rfl rfl (Below.refl _ _)
      clear hE hB
      have hcst : ∀ v, ac.eval (.const v) = v := fun _ => rfl
      generalize ac.eval = ev at *
      simp [execOp, go_sem, *]
    · intro ac wx hE hf hd
      have hB : Below w6.heap.size w6 wx := ⟨hE.os, hE.tape, hE.output, hE.size, hE.block⟩
      rw [if_pos (Inv.want0 rfl _)]
      have h59 := hd 18 _ (by kernel_rfl) rfl
      change ac.eval (.tmp 59) = .bool true at h59
      clear hf hd
      refine Inv.val (.bool true) ?_ rfl rfl (Below.refl _ _)
      clear hE hB
      generalize ac.eval = ev at *
      simp [execOp, go_sem, *]
    · intro ac wx hE hf hd
      have hB : Below w6.heap.size w6 wx := ⟨hE.os, hE.tape, hE.output, hE.size, hE.block⟩
      have hg := hd 19 _ (by kernel_rfl) rfl
      change ac.eval (.tmp 60) = .bool true at hg
      rw [if_pos (Inv.want (j := 19) (b := true) (d := 60) rfl rfl rfl hg)]
      clear hf hd
      refine Inv.go (f := 7) (xs := #[]) ?_ rfl ?_
      · clear hE hB
        have hfn : ac.eval (.func 7) = .func (.func 7) #[] #[] := rfl
        generalize ac.eval = ev at *
        simp [execOp, go_sem, *]
      · exact (known_any wx).mono fun e w' ⟨he, hb⟩ => ⟨_, he, rfl, hb⟩
    · intro ac wx hE hf hd
      have hB : Below w6.heap.size w6 wx := ⟨hE.os, hE.tape, hE.output, hE.size, hE.block⟩
      rw [if_pos (Inv.want0 rfl _)]
      have h60 := hd 19 _ (by kernel_rfl) rfl
      change ac.eval (.tmp 60) = .bool true at h60
      have h61 := hd 20 _ (by kernel_rfl) rfl
      change (fun v W => v = .bool true) (ac.eval (.tmp 61)) wx at h61
      try dsimp only at h61
      clear hf hd
      refine Inv.val (.bool true) ?_ rfl rfl (Below.refl _ _)
      clear hE hB
      have hcst : ∀ v, ac.eval (.const v) = v := fun _ => rfl
      generalize ac.eval = ev at *
      simp [execOp, go_sem, *]
    · intro ac wx hE hf hd
      have hB : Below w6.heap.size w6 wx := ⟨hE.os, hE.tape, hE.output, hE.size, hE.block⟩
      rw [if_pos (Inv.want0 rfl _)]
      have h62 := hd 21 _ (by kernel_rfl) rfl
      change ac.eval (.tmp 62) = .bool true at h62
      clear hf hd
      refine Inv.val (.bool true) ?_ rfl rfl (Below.refl _ _)
      clear hE hB
      generalize ac.eval = ev at *
      simp [execOp, go_sem, *]
  case fin =>
    intro ac wx hE ha hall
    have hB : Below w6.heap.size w6 wx := ⟨hE.os, hE.tape, hE.output, hE.size, hE.block⟩
    have h41 := hall 0 _ rfl
    change ac.eval (.tmp 41) = .int .i64 0 at h41
    have h42 := hall 1 _ rfl
    change ac.eval (.tmp 42) = .bool true at h42
    have h43 := hall 2 _ rfl
    change ac.eval (.tmp 43) = .bool true at h43
    have h44 := hall 3 _ rfl
    change ac.eval (.tmp 44) = .slice A6 E.length c6 at h44
    have h45 := hall 4 _ rfl
    change ac.eval (.tmp 45) = .int .i64 (E.length : Int) at h45
    have h46 := hall 5 _ rfl
    change ac.eval (.tmp 46) = .slice (some ⟨b, off, none⟩) M.length cm at h46
    have h47 := hall 6 _ rfl
    change ac.eval (.tmp 47) = .int .i64 (M.length : Int) at h47
    have h48 := hall 7 _ rfl
    change ac.eval (.tmp 48) = .bool true at h48
    have h49 := hall 8 _ rfl
    change ac.eval (.tmp 49) = .bool true at h49
    have h50 := hall 9 _ rfl
    change ac.eval (.tmp 50) = .bool true at h50
    have h51 := hall 10 _ rfl
    change ac.eval (.tmp 51) = .slice A6 E.length c6 at h51
    have h52 := hall 11 _ rfl
    change ac.eval (.tmp 52) = (.string ⟨E.toArray⟩) at h52
    have h53 := hall 12 _ rfl
    change ac.eval (.tmp 53) = .slice (some ⟨b, off, none⟩) M.length cm at h53
    have h54 := hall 13 _ rfl
    change ac.eval (.tmp 54) = .slice A6 E.length c6 at h54
    have h55 := hall 14 _ rfl
    change ac.eval (.tmp 55) = .int .i64 (E.length : Int) at h55
    have h56 := hall 15 _ rfl
    change ac.eval (.tmp 56) = .slice (some ⟨b, off, none⟩) E.length cm at h56
    have h57 := hall 16 _ rfl
    change ac.eval (.tmp 57) = (.string ⟨E.toArray⟩) at h57
    have h58 := hall 17 _ rfl
    change ac.eval (.tmp 58) = .bool true at h58
    have h59 := hall 18 _ rfl
    change ac.eval (.tmp 59) = .bool true at h59
    have h60 := hall 19 _ rfl
    change ac.eval (.tmp 60) = .bool true at h60
    have h61 := hall 20 _ rfl
    change (fun v W => v = .bool true) (ac.eval (.tmp 61)) wx at h61
    try dsimp only at h61
    generalize hv61 : ac.eval (.tmp 61) = v61 at *
    have h62 := hall 21 _ rfl
    change ac.eval (.tmp 62) = .bool true at h62
    have h2 := hall 22 _ rfl
    change ac.eval (.tmp 2) = .bool true at h2
    simp only [List.foldl, Inv.slot, Act.put] at ha
    change ac.tmps.getD 41 undef = _ at h41
    change ac.tmps.getD 42 undef = _ at h42
    change ac.tmps.getD 43 undef = _ at h43
    change ac.tmps.getD 44 undef = _ at h44
    change ac.tmps.getD 45 undef = _ at h45
    change ac.tmps.getD 46 undef = _ at h46
    change ac.tmps.getD 47 undef = _ at h47
    change ac.tmps.getD 48 undef = _ at h48
    change ac.tmps.getD 49 undef = _ at h49
    change ac.tmps.getD 50 undef = _ at h50
    change ac.tmps.getD 51 undef = _ at h51
    change ac.tmps.getD 52 undef = _ at h52
    change ac.tmps.getD 53 undef = _ at h53
    change ac.tmps.getD 54 undef = _ at h54
    change ac.tmps.getD 55 undef = _ at h55
    change ac.tmps.getD 56 undef = _ at h56
    change ac.tmps.getD 57 undef = _ at h57
    change ac.tmps.getD 58 undef = _ at h58
    change ac.tmps.getD 59 undef = _ at h59
    change ac.tmps.getD 60 undef = _ at h60
    change ac.tmps.getD 61 undef = _ at hv61
    change ac.tmps.getD 62 undef = _ at h62
    change ac.tmps.getD 2 undef = _ at h2
    simp only [h41, h42, h43, h44, h45, h46, h47, h48, h49, h50, h51, h52, h53, h54, h55, h56, h57, h58, h59, h60, hv61, h62, h2, List.setIfInBounds_toArray, List.set_cons_zero, List.set_cons_succ] at ha
    clear h41 h42 h43 h44 h45 h46 h47 h48 h49 h50 h51 h52 h53 h54 h55 h56 h57 h58 h59 h60 hv61 h62 h2 hall hE
    subst ha
    go_wp2_with fail
    go_ret
    exact ⟨rfl, HB6.out.trans (hB.mono HB6.out.size)⟩

theorem decodes_any (M : List UInt8) (Am : Option Addr) (cm : Nat) (w : World) (hm : Reads w (.slice Am M.length cm) M) :
    Calls Try.prog 3 #[.slice Am M.length cm] w fun e w' => e = .returned (.bool true) ∧ Below w.heap.size w w' := by
  by_cases h2 : M.length ≤ 2000
  · cases hd : Wh.dok M
    · exact decodes_no M Am cm w hm h2 hd
    · exact decodes_yes M Am cm w hm h2 hd
  · have hI : (2000 : Int) < (M.length : Int) := by omega
    clear hm
    go_enter Try.func3, Try.ntmps3
    go_wp2_with fail
    go_ret
    exact ⟨rfl, (by repeat (first | exact Below.refl _ _ | assumption | refine Below.setCell ?_ (by first | (simp; done) | omega | (simp; omega) | (simp at *; omega)) _ | refine Below.alloc ?_ (by first | (simp; done) | omega | (simp; omega) | (simp at *; omega)) _ | refine Below.drew ?_ | (refine Below.trans ?_ (Below.mono (by assumption) (by first | (simp; done) | omega | (simp; omega) | (simp at *; omega)))) | (refine Below.trans ?_ (Below.mono (below_regrown _ _ _) (by first | (simp; done) | omega | (simp; omega) | (simp at *; omega))))))⟩
end Go.Proofs.Ythjpodjfiajhaaa
