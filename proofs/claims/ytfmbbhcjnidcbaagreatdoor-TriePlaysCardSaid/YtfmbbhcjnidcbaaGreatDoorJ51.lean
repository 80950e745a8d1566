/-
  TrPlays: CHAPTER 10: TriePlays' law.
-/
import Derived.Test.YtfmbbhcjnidcbaaGreatDoorJ50

namespace Go.Proofs.YtfmbbhcjnidcbaaGreatDoor
open Go.RowKit Go.Sort
open Me
set_option maxRecDepth 100000 in
set_option maxHeartbeats 60000000 in
theorem lawPlays10 (ys : List (Int × List UInt8)) (A : Option Addr) (c : Nat) (w : World) (hm : Mx w) (hr : Rd w (fun _ => True) A (Tr.avs ys)) :
    Calls Tryz.prog 3 #[.slice A ys.length c] w fun e w' => e = .returned (.bool true) ∧ Below w.heap.size w w' := by
  have HR := Lib.hid hr
  have HM : Hid (∀ W, Below w.heap.size w W → Mx W) := Lib.hid fun W h => hm.below h
  have HMx := Lib.hid hm
  have HHv := Lib.hid (heavy10_any ys A c w hr)
  have HKn := Lib.hid fun W (h : Below w.heap.size w W) => known10_any W (hm.below h)
  have HNew : Hid (∀ W, Below w.heap.size w W → Calls Tryz.prog 5 #[.slice none 0 0] W fun e w' => e = .returned (.pointer (some ⟨W.heap.size, 0, none⟩)) ∧ Tr.Own_ W w' W.heap.size 0 []) := Lib.hid fun W h => New_any [] none 0 W (Rd.none_ _ _ _) (by simp) (fun _ h => by cases h) (hm.below h)
  clear hr hm
  cases hH : Tr.hvB ys
  · have HO := Lib.hid (Tr.hvB_spec hH)
    rw [hH] at HHv
    clear hH
    go_enter Tryz.func3, Tryz.ntmps3
    go_wp2_with first
      | (go_at_call 4; go_must (refine HHv.out.mono ?_; rintro e w1 ⟨rfl, hb1⟩; have HB1 := Lib.hid hb1; clear hb1))
      | (go_at_call 5; go_must (refine (HNew.out _ HB1.out).mono ?_; rintro e w2 ⟨rfl, ho2⟩; have HS := Lib.hid (Tr.duo_start HB1.out ho2); clear ho2))
    clear HHv HNew
    generalize hxb : w2.heap.size = xb at *
    clear hxb
    generalize hwx : w2.alloc (.cells #[.slice none 0 0] 29) = wx at *
    clear hwx
    generalize htb : w1.heap.size = tb at *
    clear htb
    go_loopw [5] (fun i wr => ∃ (k : Nat) (L : List (List UInt8)), k ≤ ys.length ∧ k ≤ 100 ∧ i = .int .i64 k ∧ Hid (Tr.Duo w wr tb xb (2 * k) L L)) (fun i _ => 100 - (intOf i).toNat)
    case atStart => exact ⟨0, [], Nat.zero_le _, Nat.zero_le _, rfl, HS⟩
    case round =>
      obtain ⟨k, L, hk, hk1, rfl, HD⟩ := hrel
      have hk0 : (0 : Int) ≤ (k : Int) := by omega
      by_cases h1 : k < ys.length
      · have h1I : (k : Int) < (ys.length : Int) := by omega
        by_cases h2 : k < 100
        · have h2I : (k : Int) < (100 : Int) := by omega
          have hk2 : 2 * k ≤ 200 := by omega
          have hk3 : 2 * k + 1 ≤ 200 := by omega
          obtain ⟨lb, lo, rfl, hlb, _, hx⟩ := HR.out.lit (k * 2) (by rw [Tr.avs_len]; omega)
          have ea0 := hx (k * 2) _ (Tr.avs_get ys k h1).1
          have eb0 := hx (k * 2 + 1) _ (Tr.avs_get ys k h1).2
          rw [← Nat.add_assoc] at eb0
          have hsl := HO.out k h1 h2
          clear hx
          generalize ys[k].2 = s at *
          generalize ys[k].1 = kd at *
          have hsl2 : s.length ≤ 4294967200 := by omega
          have hsl3 : s.length ≤ 4294967270 := by omega
          have HEb : Hid (∀ W, Below w.heap.size w W → W.cell? ⟨lb, lo + k * 2 + 1, none⟩ = some (.string ⟨s.toArray⟩)) := Lib.hid fun W h => (h.cell (p := ⟨lb, lo + k * 2 + 1, none⟩) hlb).trans eb0
          have ea := (HD.out.b.cell (p := ⟨lb, lo + k * 2, none⟩) hlb).trans ea0
          have eb := HEb.out wr HD.out.b
          have HDd := Lib.hid (HD.out.below ((Below.refl _ _).drew))
          by_cases k1 : kd = 1
          · subst k1
            obtain ⟨er, her⟩ : ∃ er : Int, er = (if Nm.is s = true then 0 else 14) := ⟨_, rfl⟩
            have HPc : Hid (∀ W k L M, Tr.Duo w W tb xb k L M → k ≤ 200 → Calls Tryz.prog 6 #[.pointer (some ⟨tb, 0, none⟩), .string ⟨s.toArray⟩] W fun e w' => e = .returned (.int .i64 er) ∧ Tr.Duo w w' tb xb (k + 1) (Tr.insV L s) M) := Lib.hid fun W k L M h hk => by rw [her]; exact h.insP hk s hsl3 HMx.out
            have HRc : Hid (∀ W k L M, Tr.Duo w W tb xb k L M → k ≤ 200 → Calls Tryz.prog 7 #[.pointer (some ⟨xb, 0, none⟩), .string ⟨s.toArray⟩] W fun e w' => e = .returned (.int .i64 er) ∧ Tr.Duo w w' tb xb (k + 1) L (Tr.insV M s)) := Lib.hid fun W k L M h hk => by rw [her]; exact h.insR hk s hsl3
            clear her
            go_wp2_with fail
            go_region_law (go_simp; first
              | (go_at_call 6; refine (HPc.out _ _ _ _ HDd.out hk2).mono ?_; rintro e wp ⟨rfl, hd1⟩; have HDp := Lib.hid hd1; have ebp := HEb.out wp hd1.b; clear hd1)
              | (go_at_call 7; refine (HRc.out _ _ _ _ HDp.out hk3).mono ?_; rintro e wz ⟨rfl, hd2⟩; have HDz := Lib.hid hd2; clear hd2)
              | (go_at_call 7; refine (HRc.out _ _ _ _ HDd.out hk2).mono ?_; rintro e wq ⟨rfl, hd1⟩; have HDq := Lib.hid hd1; have ebq := HEb.out wq hd1.b; clear hd1)
              | (go_at_call 6; refine (HPc.out _ _ _ _ HDq.out hk3).mono ?_; rintro e wz ⟨rfl, hd2⟩; have HDz := Lib.hid hd2; clear hd2))
            all_goals
              try go_simp
              obtain ⟨A4, c4, x4, hr4, hxl⟩ := HDz.out.cell
              have HR4 := Lib.hid hr4
              have HCx : Hid (∀ W, Below wz.heap.size wz W → W.cell? ⟨xb, 0, none⟩ = some (.slice A4 (Tr.insV L s).length c4)) := Lib.hid fun W h => (h.cell (p := ⟨xb, 0, none⟩) hxl).trans x4
              have HLn := Lib.hid fun W (h : Below wz.heap.size wz W) => (HDz.out.below h).len
              have HNm := Lib.hid fun W (h : Below wz.heap.size wz W) => (HDz.out.below h).names
              have hLf : (Tr.insV L s).length ≤ 2 * (k + 1) := by obtain ⟨_, _, _, _, _, _, _, _, _, h, _⟩ := HDz.out; exact h
              have hLf2 : (Tr.insV L s).length ≤ 4294967296 := by omega
              have HTx := Lib.hid fun A A' c c' W => texts_same10 (Tr.insV L s) A A' c c' hLf2 W
              clear hr4
              have HLq : Hid (∀ W, Below wz.heap.size wz W → Calls Tryz.prog 15 #[.pointer (some ⟨tb, 0, none⟩)] W fun e w' => ∃ v, e = .returned v ∧ v = .int .i64 ((Tr.insV L s).length : Int) ∧ Below W.heap.size W w') := Lib.hid fun W h => (HLn.out W h).mono fun e w' ⟨he, hb⟩ => ⟨_, he, rfl, hb⟩
              have HNq : Hid (∀ W, Below wz.heap.size wz W → Calls Tryz.prog 17 #[.pointer (some ⟨tb, 0, none⟩)] W fun e w' => ∃ v, e = .returned v ∧ (∃ A6 c6, v = .slice A6 (Tr.insV L s).length c6 ∧ Rd w' (fun _ => True) A6 (byS (Tr.insV L s))) ∧ Below W.heap.size W w') := Lib.hid fun W h => (HNm.out W h).mono fun e w' ⟨A6, c6, he, hr, hb⟩ => ⟨_, he, ⟨A6, c6, rfl, hr⟩, hb⟩
              have HTq : Hid (∀ W, Below wz.heap.size wz W → ∀ A6 c6, Rd W (fun _ => True) A6 (byS (Tr.insV L s)) → Calls Tryz.prog 16 #[.slice A6 (Tr.insV L s).length c6, .slice A4 (Tr.insV L s).length c4] W fun e w' => ∃ v, e = .returned v ∧ v = .bool true ∧ Below W.heap.size W w') := Lib.hid fun W h A6 c6 hr => (HTx.out _ _ _ _ _ hr (HR4.out.below h)).mono fun e w' ⟨he, hb⟩ => ⟨_, he, rfl, hb⟩
              clear HTx HLn HNm HR4
              generalize (Tr.insV L s) = Lf at *
              go_wp2_with fail
              refine Inv.region (fun W W' => Below W.heap.size W W') (fun i v W => match i with
                | 0 => v = .bool true
                | 1 => v = .bool false
                | 2 => v = .bool false
                | 3 => v = .pointer (some ⟨tb, 0, none⟩)
                | 4 => v = .int .i64 (Lf.length : Int)
                | 5 => v = .pointer (some ⟨xb, 0, none⟩)
                | 6 => v = .pointer (some ⟨xb, 0, none⟩)
                | 7 => v = .pointer (some ⟨xb, 0, none⟩)
                | 8 => v = .slice A4 Lf.length c4
                | 9 => v = .int .i64 (Lf.length : Int)
                | 10 => v = .bool false
                | 11 => v = .bool false
                | 12 => v = .bool false
                | 13 => v = .pointer (some ⟨tb, 0, none⟩)
                | 14 => ∃ A6 c6, v = .slice A6 Lf.length c6 ∧ Rd W (fun _ => True) A6 (byS Lf)
                | 15 => v = .pointer (some ⟨xb, 0, none⟩)
                | 16 => v = .pointer (some ⟨xb, 0, none⟩)
                | 17 => v = .pointer (some ⟨xb, 0, none⟩)
                | 18 => v = .slice A4 Lf.length c4
                | 19 => v = .bool true
                | 20 => v = .bool false
                | 21 => v = .bool false
                | _ => True) (by kernel_rfl) (by kernel_rfl) (by kernel_rfl) (fun W => Below.refl _ _) (fun a b c h k => h.trans (k.mono h.size)) (fun i v W W' h he => ?stab) ?obls ?fin
              case stab =>
                match i, h with
                | 0, h => exact h
                | 1, h => exact h
                | 2, h => exact h
                | 3, h => exact h
                | 4, h => exact h
                | 5, h => exact h
                | 6, h => exact h
                | 7, h => exact h
                | 8, h => exact h
                | 9, h => exact h
                | 10, h => exact h
                | 11, h => exact h
                | 12, h => exact h
                | 13, h => exact h
                | 14, h => exact (by obtain ⟨A6, c6, e, hr⟩ := h; exact ⟨A6, c6, e, hr.below he⟩)
                | 15, h => exact h
                | 16, h => exact h
                | 17, h => exact h
                | 18, h => exact h
                | 19, h => exact h
                | 20, h => exact h
                | 21, h => exact h
                | _ + 22, h => exact h
              case obls =>
                refine .cons ?_ (.cons ?_ (.cons ?_ (.cons ?_ (.cons ?_ (.cons ?_ (.cons ?_ (.cons ?_ (.cons ?_ (.cons ?_ (.cons ?_ (.cons ?_ (.cons ?_ (.cons ?_ (.cons ?_ (.cons ?_ (.cons ?_ (.cons ?_ (.cons ?_ (.cons ?_ (.cons ?_ (.cons ?_ .nil)))))))))))))))))))))
                · intro ac wx hE hf hd
                  have hB : Below wz.heap.size wz wx := ⟨hE.os, hE.tape, hE.output, hE.size, hE.block⟩
                  rw [if_pos (Inv.want0 rfl _)]
                  have h6 : ac.eval (.tmp 6) = .bool true := hf 6 (by kernel_rfl)
                  clear hf hd
                  have g0 := HCx.out wx hB
                  refine Inv.val (.bool true) ?_ rfl rfl (Below.refl _ _)
                  clear hE hB
                  generalize ac.eval = ev at *
                  simp [execOp, go_sem, *]
                · intro ac wx hE hf hd
                  have hB : Below wz.heap.size wz wx := ⟨hE.os, hE.tape, hE.output, hE.size, hE.block⟩
                  rw [if_pos (Inv.want0 rfl _)]
                  have h110 := hd 0 _ (by kernel_rfl) rfl
                  change ac.eval (.tmp 110) = .bool true at h110
                  clear hf hd
                  have g0 := HCx.out wx hB
                  refine Inv.val (.bool false) ?_ rfl rfl (Below.refl _ _)
                  clear hE hB
                  generalize ac.eval = ev at *
                  simp [execOp, go_sem, *]
                · intro ac wx hE hf hd
                  have hB : Below wz.heap.size wz wx := ⟨hE.os, hE.tape, hE.output, hE.size, hE.block⟩
                  rw [if_pos (Inv.want0 rfl _)]
                  have h111 := hd 1 _ (by kernel_rfl) rfl
                  change ac.eval (.tmp 111) = .bool false at h111
                  clear hf hd
                  have g0 := HCx.out wx hB
                  refine Inv.val (.bool false) ?_ rfl rfl (Below.refl _ _)
                  clear hE hB
                  generalize ac.eval = ev at *
                  simp [execOp, go_sem, *]
                · intro ac wx hE hf hd
                  have hB : Below wz.heap.size wz wx := ⟨hE.os, hE.tape, hE.output, hE.size, hE.block⟩
                  have hg := hd 2 _ (by kernel_rfl) rfl
                  change ac.eval (.tmp 112) = .bool false at hg
                  rw [if_pos (Inv.want (j := 2) (b := false) (d := 112) rfl rfl rfl hg)]
                  have h3 : ac.eval (.tmp 3) = .pointer (some ⟨tb, 0, none⟩) := hf 3 (by kernel_rfl)
                  clear hf hd
                  have g0 := HCx.out wx hB
                  refine Inv.val (.pointer (some ⟨tb, 0, none⟩)) ?_ rfl rfl (Below.refl _ _)
                  clear hE hB
                  generalize ac.eval = ev at *
                  simp [execOp, go_sem, *]
                · intro ac wx hE hf hd
                  have hB : Below wz.heap.size wz wx := ⟨hE.os, hE.tape, hE.output, hE.size, hE.block⟩
                  have hg := hd 2 _ (by kernel_rfl) rfl
                  change ac.eval (.tmp 112) = .bool false at hg
                  rw [if_pos (Inv.want (j := 2) (b := false) (d := 112) rfl rfl rfl hg)]
                  have h113 := hd 3 _ (by kernel_rfl) rfl
                  change ac.eval (.tmp 113) = .pointer (some ⟨tb, 0, none⟩) at h113
                  clear hf hd
                  refine Inv.go (f := 15) (xs := #[.pointer (some ⟨tb, 0, none⟩)]) ?_ rfl ?_
                  · clear hE hB
                    have hfn : ac.eval (.func 15) = .func (.func 15) #[] #[] := rfl
                    generalize ac.eval = ev at *
                    simp [execOp, go_sem, *]
                  · exact HLq.out wx hB
                · intro ac wx hE hf hd
                  have hB : Below wz.heap.size wz wx := ⟨hE.os, hE.tape, hE.output, hE.size, hE.block⟩
                  have hg := hd 2 _ (by kernel_rfl) rfl
                  change ac.eval (.tmp 112) = .bool false at hg
                  rw [if_pos (Inv.want (j := 2) (b := false) (d := 112) rfl rfl rfl hg)]
                  have h4 : ac.eval (.tmp 4) = .pointer (some ⟨xb, 0, none⟩) := hf 4 (by kernel_rfl)
                  clear hf hd
                  have g0 := HCx.out wx hB
                  refine Inv.val (.pointer (some ⟨xb, 0, none⟩)) ?_ rfl rfl (Below.refl _ _)
                  clear hE hB
                  generalize ac.eval = ev at *
                  simp [execOp, go_sem, *]
                · intro ac wx hE hf hd
                  have hB : Below wz.heap.size wz wx := ⟨hE.os, hE.tape, hE.output, hE.size, hE.block⟩
                  have hg := hd 2 _ (by kernel_rfl) rfl
                  change ac.eval (.tmp 112) = .bool false at hg
                  rw [if_pos (Inv.want (j := 2) (b := false) (d := 112) rfl rfl rfl hg)]
                  have h115 := hd 5 _ (by kernel_rfl) rfl
                  change ac.eval (.tmp 115) = .pointer (some ⟨xb, 0, none⟩) at h115
                  clear hf hd
                  have g0 := HCx.out wx hB
                  refine Inv.val (.pointer (some ⟨xb, 0, none⟩)) ?_ rfl rfl (Below.refl _ _)
                  clear hE hB
                  generalize ac.eval = ev at *
                  simp [execOp, go_sem, *]
                · intro ac wx hE hf hd
                  have hB : Below wz.heap.size wz wx := ⟨hE.os, hE.tape, hE.output, hE.size, hE.block⟩
                  have hg := hd 2 _ (by kernel_rfl) rfl
                  change ac.eval (.tmp 112) = .bool false at hg
                  rw [if_pos (Inv.want (j := 2) (b := false) (d := 112) rfl rfl rfl hg)]
                  have h116 := hd 6 _ (by kernel_rfl) rfl
                  change ac.eval (.tmp 116) = .pointer (some ⟨xb, 0, none⟩) at h116
                  clear hf hd
                  have g0 := HCx.out wx hB
                  refine Inv.val (.pointer (some ⟨xb, 0, none⟩)) ?_ rfl rfl (Below.refl _ _)
                  clear hE hB
                  generalize ac.eval = ev at *
                  simp [execOp, go_sem, *]
                · intro ac wx hE hf hd
                  have hB : Below wz.heap.size wz wx := ⟨hE.os, hE.tape, hE.output, hE.size, hE.block⟩
                  have hg := hd 2 _ (by kernel_rfl) rfl
                  change ac.eval (.tmp 112) = .bool false at hg
                  rw [if_pos (Inv.want (j := 2) (b := false) (d := 112) rfl rfl rfl hg)]
                  have h117 := hd 7 _ (by kernel_rfl) rfl
                  change ac.eval (.tmp 117) = .pointer (some ⟨xb, 0, none⟩) at h117
                  clear hf hd
                  have g0 := HCx.out wx hB
                  refine Inv.val (.slice A4 Lf.length c4) ?_ rfl rfl (Below.refl _ _)
                  clear hE hB
                  generalize ac.eval = ev at *
                  simp [execOp, go_sem, *]
                · intro ac wx hE hf hd
                  have hB : Below wz.heap.size wz wx := ⟨hE.os, hE.tape, hE.output, hE.size, hE.block⟩
                  have hg := hd 2 _ (by kernel_rfl) rfl
                  change ac.eval (.tmp 112) = .bool false at hg
                  rw [if_pos (Inv.want (j := 2) (b := false) (d := 112) rfl rfl rfl hg)]
                  have h118 := hd 8 _ (by kernel_rfl) rfl
                  change ac.eval (.tmp 118) = .slice A4 Lf.length c4 at h118
                  clear hf hd
                  have g0 := HCx.out wx hB
                  refine Inv.val (.int .i64 (Lf.length : Int)) ?_ rfl rfl (Below.refl _ _)
                  clear hE hB
                  generalize ac.eval = ev at *
                  simp [go_sem, *]
                · intro ac wx hE hf hd
                  have hB : Below wz.heap.size wz wx := ⟨hE.os, hE.tape, hE.output, hE.size, hE.block⟩
                  have hg := hd 2 _ (by kernel_rfl) rfl
                  change ac.eval (.tmp 112) = .bool false at hg
                  rw [if_pos (Inv.want (j := 2) (b := false) (d := 112) rfl rfl rfl hg)]
                  have h114 := hd 4 _ (by kernel_rfl) rfl
                  change ac.eval (.tmp 114) = .int .i64 (Lf.length : Int) at h114
                  have h119 := hd 9 _ (by kernel_rfl) rfl
                  change ac.eval (.tmp 119) = .int .i64 (Lf.length : Int) at h119
                  clear hf hd
                  have g0 := HCx.out wx hB
                  refine Inv.val (.bool false) ?_ rfl rfl (Below.refl _ _)
                  clear hE hB
                  generalize ac.eval = ev at *
                  simp [execOp, go_sem, *]
                · intro ac wx hE hf hd
                  have hB : Below wz.heap.size wz wx := ⟨hE.os, hE.tape, hE.output, hE.size, hE.block⟩
                  rw [if_pos (Inv.want0 rfl _)]
                  have h112 := hd 2 _ (by kernel_rfl) rfl
                  change ac.eval (.tmp 112) = .bool false at h112
                  have h120 := hd 10 _ (by kernel_rfl) rfl
                  change ac.eval (.tmp 120) = .bool false at h120
                  clear hf hd
                  have g0 := HCx.out wx hB
                  refine Inv.val (.bool false) ?_ rfl rfl (Below.refl _ _)
                  clear hE hB
                  have hcst : ∀ v, ac.eval (.const v) = v := fun _ => rfl
                  generalize ac.eval = ev at *
                  simp [execOp, go_sem, *]
                · intro ac wx hE hf hd
                  have hB : Below wz.heap.size wz wx := ⟨hE.os, hE.tape, hE.output, hE.size, hE.block⟩
                  rw [if_pos (Inv.want0 rfl _)]
                  have h121 := hd 11 _ (by kernel_rfl) rfl
                  change ac.eval (.tmp 121) = .bool false at h121
                  clear hf hd
                  have g0 := HCx.out wx hB
                  refine Inv.val (.bool false) ?_ rfl rfl (Below.refl _ _)
                  clear hE hB
                  generalize ac.eval = ev at *
                  simp [execOp, go_sem, *]
                · intro ac wx hE hf hd
                  have hB : Below wz.heap.size wz wx := ⟨hE.os, hE.tape, hE.output, hE.size, hE.block⟩
                  have hg := hd 12 _ (by kernel_rfl) rfl
                  change ac.eval (.tmp 122) = .bool false at hg
                  rw [if_pos (Inv.want (j := 12) (b := false) (d := 122) rfl rfl rfl hg)]
                  have h3 : ac.eval (.tmp 3) = .pointer (some ⟨tb, 0, none⟩) := hf 3 (by kernel_rfl)
                  clear hf hd
                  have g0 := HCx.out wx hB
                  refine Inv.val (.pointer (some ⟨tb, 0, none⟩)) ?_ rfl rfl (Below.refl _ _)
                  clear hE hB
                  generalize ac.eval = ev at *
                  simp [execOp, go_sem, *]
                · intro ac wx hE hf hd
                  have hB : Below wz.heap.size wz wx := ⟨hE.os, hE.tape, hE.output, hE.size, hE.block⟩
                  have hg := hd 12 _ (by kernel_rfl) rfl
                  change ac.eval (.tmp 122) = .bool false at hg
                  rw [if_pos (Inv.want (j := 12) (b := false) (d := 122) rfl rfl rfl hg)]
                  have h123 := hd 13 _ (by kernel_rfl) rfl
                  change ac.eval (.tmp 123) = .pointer (some ⟨tb, 0, none⟩) at h123
                  clear hf hd
                  refine Inv.go (f := 17) (xs := #[.pointer (some ⟨tb, 0, none⟩)]) ?_ rfl ?_
                  · clear hE hB
                    have hfn : ac.eval (.func 17) = .func (.func 17) #[] #[] := rfl
                    generalize ac.eval = ev at *
                    simp [execOp, go_sem, *]
                  · exact HNq.out wx hB
                · intro ac wx hE hf hd
                  have hB : Below wz.heap.size wz wx := ⟨hE.os, hE.tape, hE.output, hE.size, hE.block⟩
                  have hg := hd 12 _ (by kernel_rfl) rfl
                  change ac.eval (.tmp 122) = .bool false at hg
                  rw [if_pos (Inv.want (j := 12) (b := false) (d := 122) rfl rfl rfl hg)]
                  have h4 : ac.eval (.tmp 4) = .pointer (some ⟨xb, 0, none⟩) := hf 4 (by kernel_rfl)
                  clear hf hd
                  have g0 := HCx.out wx hB
                  refine Inv.val (.pointer (some ⟨xb, 0, none⟩)) ?_ rfl rfl (Below.refl _ _)
                  clear hE hB
                  generalize ac.eval = ev at *
                  simp [execOp, go_sem, *]
                · intro ac wx hE hf hd
                  have hB : Below wz.heap.size wz wx := ⟨hE.os, hE.tape, hE.output, hE.size, hE.block⟩
                  have hg := hd 12 _ (by kernel_rfl) rfl
                  change ac.eval (.tmp 122) = .bool false at hg
                  rw [if_pos (Inv.want (j := 12) (b := false) (d := 122) rfl rfl rfl hg)]
                  have h125 := hd 15 _ (by kernel_rfl) rfl
                  change ac.eval (.tmp 125) = .pointer (some ⟨xb, 0, none⟩) at h125
                  clear hf hd
                  have g0 := HCx.out wx hB
                  refine Inv.val (.pointer (some ⟨xb, 0, none⟩)) ?_ rfl rfl (Below.refl _ _)
                  clear hE hB
                  generalize ac.eval = ev at *
                  simp [execOp, go_sem, *]
                · intro ac wx hE hf hd
                  have hB : Below wz.heap.size wz wx := ⟨hE.os, hE.tape, hE.output, hE.size, hE.block⟩
                  have hg := hd 12 _ (by kernel_rfl) rfl
                  change ac.eval (.tmp 122) = .bool false at hg
                  rw [if_pos (Inv.want (j := 12) (b := false) (d := 122) rfl rfl rfl hg)]
                  have h126 := hd 16 _ (by kernel_rfl) rfl
                  change ac.eval (.tmp 126) = .pointer (some ⟨xb, 0, none⟩) at h126
                  clear hf hd
                  have g0 := HCx.out wx hB
                  refine Inv.val (.pointer (some ⟨xb, 0, none⟩)) ?_ rfl rfl (Below.refl _ _)
                  clear hE hB
                  generalize ac.eval = ev at *
                  simp [execOp, go_sem, *]
                · intro ac wx hE hf hd
                  have hB : Below wz.heap.size wz wx := ⟨hE.os, hE.tape, hE.output, hE.size, hE.block⟩
                  have hg := hd 12 _ (by kernel_rfl) rfl
                  change ac.eval (.tmp 122) = .bool false at hg
                  rw [if_pos (Inv.want (j := 12) (b := false) (d := 122) rfl rfl rfl hg)]
                  have h127 := hd 17 _ (by kernel_rfl) rfl
                  change ac.eval (.tmp 127) = .pointer (some ⟨xb, 0, none⟩) at h127
                  clear hf hd
                  have g0 := HCx.out wx hB
                  refine Inv.val (.slice A4 Lf.length c4) ?_ rfl rfl (Below.refl _ _)
                  clear hE hB
                  generalize ac.eval = ev at *
                  simp [execOp, go_sem, *]
                · intro ac wx hE hf hd
                  have hB : Below wz.heap.size wz wx := ⟨hE.os, hE.tape, hE.output, hE.size, hE.block⟩
                  have hg := hd 12 _ (by kernel_rfl) rfl
                  change ac.eval (.tmp 122) = .bool false at hg
                  rw [if_pos (Inv.want (j := 12) (b := false) (d := 122) rfl rfl rfl hg)]
                  have h124 := hd 14 _ (by kernel_rfl) rfl
                  change (fun v W => ∃ A6 c6, v = .slice A6 Lf.length c6 ∧ Rd W (fun _ => True) A6 (byS Lf)) (ac.eval (.tmp 124)) wx at h124
                  try dsimp only at h124
                  have h128 := hd 18 _ (by kernel_rfl) rfl
                  change ac.eval (.tmp 128) = .slice A4 Lf.length c4 at h128
                  clear hf hd
                  obtain ⟨A6, c6, e6, hr6⟩ := h124
                  refine Inv.go (f := 16) (xs := #[.slice A6 Lf.length c6, .slice A4 Lf.length c4]) ?_ rfl ?_
                  · clear hE hB
                    have hfn : ac.eval (.func 16) = .func (.func 16) #[] #[] := rfl
                    generalize ac.eval = ev at *
                    simp [execOp, go_sem, *]
                  · exact HTq.out wx hB A6 c6 hr6
                · intro ac wx hE hf hd
                  have hB : Below wz.heap.size wz wx := ⟨hE.os, hE.tape, hE.output, hE.size, hE.block⟩
                  have hg := hd 12 _ (by kernel_rfl) rfl
                  change ac.eval (.tmp 122) = .bool false at hg
                  rw [if_pos (Inv.want (j := 12) (b := false) (d := 122) rfl rfl rfl hg)]
                  have h129 := hd 19 _ (by kernel_rfl) rfl
                  change ac.eval (.tmp 129) = .bool true at h129
                  clear hf hd
                  have g0 := HCx.out wx hB
                  refine Inv.val (.bool false) ?_ rfl rfl (Below.refl _ _)
                  clear hE hB
                  generalize ac.eval = ev at *
                  simp [execOp, go_sem, *]
                · intro ac wx hE hf hd
                  have hB : Below wz.heap.size wz wx := ⟨hE.os, hE.tape, hE.output, hE.size, hE.block⟩
                  rw [if_pos (Inv.want0 rfl _)]
                  have h122 := hd 12 _ (by kernel_rfl) rfl
                  change ac.eval (.tmp 122) = .bool false at h122
                  have h130 := hd 20 _ (by kernel_rfl) rfl
                  change ac.eval (.tmp 130) = .bool false at h130
                  clear hf hd
                  have g0 := HCx.out wx hB
                  refine Inv.val (.bool false) ?_ rfl rfl (Below.refl _ _)
                  clear hE hB
                  have hcst : ∀ v, ac.eval (.const v) = v := fun _ => rfl
                  generalize ac.eval = ev at *
                  simp [execOp, go_sem, *]
              case fin =>
                intro ac wx hE ha hall
                have hB : Below wz.heap.size wz wx := ⟨hE.os, hE.tape, hE.output, hE.size, hE.block⟩
                have h110 := hall 0 _ rfl
                change ac.eval (.tmp 110) = .bool true at h110
                have h111 := hall 1 _ rfl
                change ac.eval (.tmp 111) = .bool false at h111
                have h112 := hall 2 _ rfl
                change ac.eval (.tmp 112) = .bool false at h112
                have h113 := hall 3 _ rfl
                change ac.eval (.tmp 113) = .pointer (some ⟨tb, 0, none⟩) at h113
                have h114 := hall 4 _ rfl
                change ac.eval (.tmp 114) = .int .i64 (Lf.length : Int) at h114
                have h115 := hall 5 _ rfl
                change ac.eval (.tmp 115) = .pointer (some ⟨xb, 0, none⟩) at h115
                have h116 := hall 6 _ rfl
                change ac.eval (.tmp 116) = .pointer (some ⟨xb, 0, none⟩) at h116
                have h117 := hall 7 _ rfl
                change ac.eval (.tmp 117) = .pointer (some ⟨xb, 0, none⟩) at h117
                have h118 := hall 8 _ rfl
                change ac.eval (.tmp 118) = .slice A4 Lf.length c4 at h118
                have h119 := hall 9 _ rfl
                change ac.eval (.tmp 119) = .int .i64 (Lf.length : Int) at h119
                have h120 := hall 10 _ rfl
                change ac.eval (.tmp 120) = .bool false at h120
                have h121 := hall 11 _ rfl
                change ac.eval (.tmp 121) = .bool false at h121
                have h122 := hall 12 _ rfl
                change ac.eval (.tmp 122) = .bool false at h122
                have h123 := hall 13 _ rfl
                change ac.eval (.tmp 123) = .pointer (some ⟨tb, 0, none⟩) at h123
                have h124 := hall 14 _ rfl
                change (fun v W => ∃ A6 c6, v = .slice A6 Lf.length c6 ∧ Rd W (fun _ => True) A6 (byS Lf)) (ac.eval (.tmp 124)) wx at h124
                try dsimp only at h124
                generalize hv124 : ac.eval (.tmp 124) = v124 at *
                have h125 := hall 15 _ rfl
                change ac.eval (.tmp 125) = .pointer (some ⟨xb, 0, none⟩) at h125
                have h126 := hall 16 _ rfl
                change ac.eval (.tmp 126) = .pointer (some ⟨xb, 0, none⟩) at h126
                have h127 := hall 17 _ rfl
                change ac.eval (.tmp 127) = .pointer (some ⟨xb, 0, none⟩) at h127
                have h128 := hall 18 _ rfl
                change ac.eval (.tmp 128) = .slice A4 Lf.length c4 at h128
                have h129 := hall 19 _ rfl
                change ac.eval (.tmp 129) = .bool true at h129
                have h130 := hall 20 _ rfl
                change ac.eval (.tmp 130) = .bool false at h130
                have h131 := hall 21 _ rfl
                change ac.eval (.tmp 131) = .bool false at h131
                simp only [List.foldl, Inv.slot, Act.put] at ha
                change ac.tmps.getD 110 undef = _ at h110
                change ac.tmps.getD 111 undef = _ at h111
                change ac.tmps.getD 112 undef = _ at h112
                change ac.tmps.getD 113 undef = _ at h113
                change ac.tmps.getD 114 undef = _ at h114
                change ac.tmps.getD 115 undef = _ at h115
                change ac.tmps.getD 116 undef = _ at h116
                change ac.tmps.getD 117 undef = _ at h117
                change ac.tmps.getD 118 undef = _ at h118
                change ac.tmps.getD 119 undef = _ at h119
                change ac.tmps.getD 120 undef = _ at h120
                change ac.tmps.getD 121 undef = _ at h121
                change ac.tmps.getD 122 undef = _ at h122
                change ac.tmps.getD 123 undef = _ at h123
                change ac.tmps.getD 124 undef = _ at hv124
                change ac.tmps.getD 125 undef = _ at h125
                change ac.tmps.getD 126 undef = _ at h126
                change ac.tmps.getD 127 undef = _ at h127
                change ac.tmps.getD 128 undef = _ at h128
                change ac.tmps.getD 129 undef = _ at h129
                change ac.tmps.getD 130 undef = _ at h130
                change ac.tmps.getD 131 undef = _ at h131
                simp only [h110, h111, h112, h113, h114, h115, h116, h117, h118, h119, h120, h121, h122, h123, hv124, h125, h126, h127, h128, h129, h130, h131, List.setIfInBounds_toArray, List.set_cons_zero, List.set_cons_succ] at ha
                clear h110 h111 h112 h113 h114 h115 h116 h117 h118 h119 h120 h121 h122 h123 hv124 h125 h126 h127 h128 h129 h130 h131 hall hE
                subst ha
                go_wp2_with fail
                go_roundw
                case rel => exact ⟨k + 1, _, by omega, by omega, by go_num, Lib.hid (HDz.out.below hB)⟩
                case measure => simp [intOf]; omega
          by_cases k2 : kd = 2
          · subst k2
            have HPc : Hid (∀ W k L M b, Tr.Duo w W tb xb k L M → k ≤ 200 → decide (s ∈ L) = b → Calls Tryz.prog 8 #[.pointer (some ⟨tb, 0, none⟩), .string ⟨s.toArray⟩] W fun e w' => e = .returned (.bool b) ∧ Tr.Duo w w' tb xb (k + 1) (L.erase s) M) := Lib.hid fun W k L M b h hk e => by rw [← e]; exact h.remP s hsl3 HMx.out
            have HRc : Hid (∀ W k L M b, Tr.Duo w W tb xb k L M → k ≤ 200 → decide (s ∈ M) = b → Calls Tryz.prog 9 #[.pointer (some ⟨xb, 0, none⟩), .string ⟨s.toArray⟩] W fun e w' => e = .returned (.bool b) ∧ Tr.Duo w w' tb xb (k + 1) L (M.erase s)) := Lib.hid fun W k L M b h hk e => by rw [← e]; exact h.remR hk s
            obtain ⟨bq, hbq⟩ : ∃ bq, decide (s ∈ L) = bq := ⟨_, rfl⟩
            have HBq := Lib.hid hbq
            clear hbq
            cases bq
            all_goals
              go_wp2_with fail
              go_region_law (go_simp; first
                | (go_at_call 8; refine ((fun h hk => HPc.out _ _ _ _ _ h hk HBq.out) HDd.out hk2).mono ?_; rintro e wp ⟨rfl, hd1⟩; have HDp := Lib.hid hd1; have ebp := HEb.out wp hd1.b; clear hd1)
                | (go_at_call 9; refine ((fun h hk => HRc.out _ _ _ _ _ h hk HBq.out) HDp.out hk3).mono ?_; rintro e wz ⟨rfl, hd2⟩; have HDz := Lib.hid hd2; clear hd2)
                | (go_at_call 9; refine ((fun h hk => HRc.out _ _ _ _ _ h hk HBq.out) HDd.out hk2).mono ?_; rintro e wq ⟨rfl, hd1⟩; have HDq := Lib.hid hd1; have ebq := HEb.out wq hd1.b; clear hd1)
                | (go_at_call 8; refine ((fun h hk => HPc.out _ _ _ _ _ h hk HBq.out) HDq.out hk3).mono ?_; rintro e wz ⟨rfl, hd2⟩; have HDz := Lib.hid hd2; clear hd2))
              all_goals
                try go_simp
                obtain ⟨A4, c4, x4, hr4, hxl⟩ := HDz.out.cell
                have HR4 := Lib.hid hr4
                have HCx : Hid (∀ W, Below wz.heap.size wz W → W.cell? ⟨xb, 0, none⟩ = some (.slice A4 (L.erase s).length c4)) := Lib.hid fun W h => (h.cell (p := ⟨xb, 0, none⟩) hxl).trans x4
                have HLn := Lib.hid fun W (h : Below wz.heap.size wz W) => (HDz.out.below h).len
                have HNm := Lib.hid fun W (h : Below wz.heap.size wz W) => (HDz.out.below h).names
                have hLf : (L.erase s).length ≤ 2 * (k + 1) := by obtain ⟨_, _, _, _, _, _, _, _, _, h, _⟩ := HDz.out; exact h
                have hLf2 : (L.erase s).length ≤ 4294967296 := by omega
                have HTx := Lib.hid fun A A' c c' W => texts_same10 (L.erase s) A A' c c' hLf2 W
                clear hr4
                have HLq : Hid (∀ W, Below wz.heap.size wz W → Calls Tryz.prog 15 #[.pointer (some ⟨tb, 0, none⟩)] W fun e w' => ∃ v, e = .returned v ∧ v = .int .i64 ((L.erase s).length : Int) ∧ Below W.heap.size W w') := Lib.hid fun W h => (HLn.out W h).mono fun e w' ⟨he, hb⟩ => ⟨_, he, rfl, hb⟩
                have HNq : Hid (∀ W, Below wz.heap.size wz W → Calls Tryz.prog 17 #[.pointer (some ⟨tb, 0, none⟩)] W fun e w' => ∃ v, e = .returned v ∧ (∃ A6 c6, v = .slice A6 (L.erase s).length c6 ∧ Rd w' (fun _ => True) A6 (byS (L.erase s))) ∧ Below W.heap.size W w') := Lib.hid fun W h => (HNm.out W h).mono fun e w' ⟨A6, c6, he, hr, hb⟩ => ⟨_, he, ⟨A6, c6, rfl, hr⟩, hb⟩
                have HTq : Hid (∀ W, Below wz.heap.size wz W → ∀ A6 c6, Rd W (fun _ => True) A6 (byS (L.erase s)) → Calls Tryz.prog 16 #[.slice A6 (L.erase s).length c6, .slice A4 (L.erase s).length c4] W fun e w' => ∃ v, e = .returned v ∧ v = .bool true ∧ Below W.heap.size W w') := Lib.hid fun W h A6 c6 hr => (HTx.out _ _ _ _ _ hr (HR4.out.below h)).mono fun e w' ⟨he, hb⟩ => ⟨_, he, rfl, hb⟩
                clear HTx HLn HNm HR4
                generalize (L.erase s) = Lf at *
                go_wp2_with fail
                refine Inv.region (fun W W' => Below W.heap.size W W') (fun i v W => match i with
                  | 0 => v = .bool true
                  | 1 => v = .bool false
                  | 2 => v = .bool false
                  | 3 => v = .pointer (some ⟨tb, 0, none⟩)
                  | 4 => v = .int .i64 (Lf.length : Int)
                  | 5 => v = .pointer (some ⟨xb, 0, none⟩)
                  | 6 => v = .pointer (some ⟨xb, 0, none⟩)
                  | 7 => v = .pointer (some ⟨xb, 0, none⟩)
                  | 8 => v = .slice A4 Lf.length c4
                  | 9 => v = .int .i64 (Lf.length : Int)
                  | 10 => v = .bool false
                  | 11 => v = .bool false
                  | 12 => v = .bool false
                  | 13 => v = .pointer (some ⟨tb, 0, none⟩)
                  | 14 => ∃ A6 c6, v = .slice A6 Lf.length c6 ∧ Rd W (fun _ => True) A6 (byS Lf)
                  | 15 => v = .pointer (some ⟨xb, 0, none⟩)
                  | 16 => v = .pointer (some ⟨xb, 0, none⟩)
                  | 17 => v = .pointer (some ⟨xb, 0, none⟩)
                  | 18 => v = .slice A4 Lf.length c4
                  | 19 => v = .bool true
                  | 20 => v = .bool false
                  | 21 => v = .bool false
                  | _ => True) (by kernel_rfl) (by kernel_rfl) (by kernel_rfl) (fun W => Below.refl _ _) (fun a b c h k => h.trans (k.mono h.size)) (fun i v W W' h he => ?stab) ?obls ?fin
                case stab =>
                  match i, h with
                  | 0, h => exact h
                  | 1, h => exact h
                  | 2, h => exact h
                  | 3, h => exact h
                  | 4, h => exact h
                  | 5, h => exact h
                  | 6, h => exact h
                  | 7, h => exact h
                  | 8, h => exact h
                  | 9, h => exact h
                  | 10, h => exact h
                  | 11, h => exact h
                  | 12, h => exact h
                  | 13, h => exact h
                  | 14, h => exact (by obtain ⟨A6, c6, e, hr⟩ := h; exact ⟨A6, c6, e, hr.below he⟩)
                  | 15, h => exact h
                  | 16, h => exact h
                  | 17, h => exact h
                  | 18, h => exact h
                  | 19, h => exact h
                  | 20, h => exact h
                  | 21, h => exact h
                  | _ + 22, h => exact h
                case obls =>
                  refine .cons ?_ (.cons ?_ (.cons ?_ (.cons ?_ (.cons ?_ (.cons ?_ (.cons ?_ (.cons ?_ (.cons ?_ (.cons ?_ (.cons ?_ (.cons ?_ (.cons ?_ (.cons ?_ (.cons ?_ (.cons ?_ (.cons ?_ (.cons ?_ (.cons ?_ (.cons ?_ (.cons ?_ (.cons ?_ .nil)))))))))))))))))))))
                  · intro ac wx hE hf hd
                    have hB : Below wz.heap.size wz wx := ⟨hE.os, hE.tape, hE.output, hE.size, hE.block⟩
                    rw [if_pos (Inv.want0 rfl _)]
                    have h6 : ac.eval (.tmp 6) = .bool true := hf 6 (by kernel_rfl)
                    clear hf hd
                    have g0 := HCx.out wx hB
                    refine Inv.val (.bool true) ?_ rfl rfl (Below.refl _ _)
                    clear hE hB
                    generalize ac.eval = ev at *
                    simp [execOp, go_sem, *]
                  · intro ac wx hE hf hd
                    have hB : Below wz.heap.size wz wx := ⟨hE.os, hE.tape, hE.output, hE.size, hE.block⟩
                    rw [if_pos (Inv.want0 rfl _)]
                    have h110 := hd 0 _ (by kernel_rfl) rfl
                    change ac.eval (.tmp 110) = .bool true at h110
                    clear hf hd
                    have g0 := HCx.out wx hB
                    refine Inv.val (.bool false) ?_ rfl rfl (Below.refl _ _)
                    clear hE hB
                    generalize ac.eval = ev at *
                    simp [execOp, go_sem, *]
                  · intro ac wx hE hf hd
                    have hB : Below wz.heap.size wz wx := ⟨hE.os, hE.tape, hE.output, hE.size, hE.block⟩
                    rw [if_pos (Inv.want0 rfl _)]
                    have h111 := hd 1 _ (by kernel_rfl) rfl
                    change ac.eval (.tmp 111) = .bool false at h111
                    clear hf hd
                    have g0 := HCx.out wx hB
                    refine Inv.val (.bool false) ?_ rfl rfl (Below.refl _ _)
                    clear hE hB
                    generalize ac.eval = ev at *
                    simp [execOp, go_sem, *]
                  · intro ac wx hE hf hd
                    have hB : Below wz.heap.size wz wx := ⟨hE.os, hE.tape, hE.output, hE.size, hE.block⟩
                    have hg := hd 2 _ (by kernel_rfl) rfl
                    change ac.eval (.tmp 112) = .bool false at hg
                    rw [if_pos (Inv.want (j := 2) (b := false) (d := 112) rfl rfl rfl hg)]
                    have h3 : ac.eval (.tmp 3) = .pointer (some ⟨tb, 0, none⟩) := hf 3 (by kernel_rfl)
                    clear hf hd
                    have g0 := HCx.out wx hB
                    refine Inv.val (.pointer (some ⟨tb, 0, none⟩)) ?_ rfl rfl (Below.refl _ _)
                    clear hE hB
                    generalize ac.eval = ev at *
                    simp [execOp, go_sem, *]
                  · intro ac wx hE hf hd
                    have hB : Below wz.heap.size wz wx := ⟨hE.os, hE.tape, hE.output, hE.size, hE.block⟩
                    have hg := hd 2 _ (by kernel_rfl) rfl
                    change ac.eval (.tmp 112) = .bool false at hg
                    rw [if_pos (Inv.want (j := 2) (b := false) (d := 112) rfl rfl rfl hg)]
                    have h113 := hd 3 _ (by kernel_rfl) rfl
                    change ac.eval (.tmp 113) = .pointer (some ⟨tb, 0, none⟩) at h113
                    clear hf hd
                    refine Inv.go (f := 15) (xs := #[.pointer (some ⟨tb, 0, none⟩)]) ?_ rfl ?_
                    · clear hE hB
                      have hfn : ac.eval (.func 15) = .func (.func 15) #[] #[] := rfl
                      generalize ac.eval = ev at *
                      simp [execOp, go_sem, *]
                    · exact HLq.out wx hB
                  · intro ac wx hE hf hd
                    have hB : Below wz.heap.size wz wx := ⟨hE.os, hE.tape, hE.output, hE.size, hE.block⟩
                    have hg := hd 2 _ (by kernel_rfl) rfl
                    change ac.eval (.tmp 112) = .bool false at hg
                    rw [if_pos (Inv.want (j := 2) (b := false) (d := 112) rfl rfl rfl hg)]
                    have h4 : ac.eval (.tmp 4) = .pointer (some ⟨xb, 0, none⟩) := hf 4 (by kernel_rfl)
                    clear hf hd
                    have g0 := HCx.out wx hB
                    refine Inv.val (.pointer (some ⟨xb, 0, none⟩)) ?_ rfl rfl (Below.refl _ _)
                    clear hE hB
                    generalize ac.eval = ev at *
                    simp [execOp, go_sem, *]
                  · intro ac wx hE hf hd
                    have hB : Below wz.heap.size wz wx := ⟨hE.os, hE.tape, hE.output, hE.size, hE.block⟩
                    have hg := hd 2 _ (by kernel_rfl) rfl
                    change ac.eval (.tmp 112) = .bool false at hg
                    rw [if_pos (Inv.want (j := 2) (b := false) (d := 112) rfl rfl rfl hg)]
                    have h115 := hd 5 _ (by kernel_rfl) rfl
                    change ac.eval (.tmp 115) = .pointer (some ⟨xb, 0, none⟩) at h115
                    clear hf hd
                    have g0 := HCx.out wx hB
                    refine Inv.val (.pointer (some ⟨xb, 0, none⟩)) ?_ rfl rfl (Below.refl _ _)
                    clear hE hB
                    generalize ac.eval = ev at *
                    simp [execOp, go_sem, *]
                  · intro ac wx hE hf hd
                    have hB : Below wz.heap.size wz wx := ⟨hE.os, hE.tape, hE.output, hE.size, hE.block⟩
                    have hg := hd 2 _ (by kernel_rfl) rfl
                    change ac.eval (.tmp 112) = .bool false at hg
                    rw [if_pos (Inv.want (j := 2) (b := false) (d := 112) rfl rfl rfl hg)]
                    have h116 := hd 6 _ (by kernel_rfl) rfl
                    change ac.eval (.tmp 116) = .pointer (some ⟨xb, 0, none⟩) at h116
                    clear hf hd
                    have g0 := HCx.out wx hB
                    refine Inv.val (.pointer (some ⟨xb, 0, none⟩)) ?_ rfl rfl (Below.refl _ _)
                    clear hE hB
                    generalize ac.eval = ev at *
                    simp [execOp, go_sem, *]
                  · intro ac wx hE hf hd
                    have hB : Below wz.heap.size wz wx := ⟨hE.os, hE.tape, hE.output, hE.size, hE.block⟩
                    have hg := hd 2 _ (by kernel_rfl) rfl
                    change ac.eval (.tmp 112) = .bool false at hg
                    rw [if_pos (Inv.want (j := 2) (b := false) (d := 112) rfl rfl rfl hg)]
                    have h117 := hd 7 _ (by kernel_rfl) rfl
                    change ac.eval (.tmp 117) = .pointer (some ⟨xb, 0, none⟩) at h117
                    clear hf hd
                    have g0 := HCx.out wx hB
                    refine Inv.val (.slice A4 Lf.length c4) ?_ rfl rfl (Below.refl _ _)
                    clear hE hB
                    generalize ac.eval = ev at *
                    simp [execOp, go_sem, *]
                  · intro ac wx hE hf hd
                    have hB : Below wz.heap.size wz wx := ⟨hE.os, hE.tape, hE.output, hE.size, hE.block⟩
                    have hg := hd 2 _ (by kernel_rfl) rfl
                    change ac.eval (.tmp 112) = .bool false at hg
                    rw [if_pos (Inv.want (j := 2) (b := false) (d := 112) rfl rfl rfl hg)]
                    have h118 := hd 8 _ (by kernel_rfl) rfl
                    change ac.eval (.tmp 118) = .slice A4 Lf.length c4 at h118
                    clear hf hd
                    have g0 := HCx.out wx hB
                    refine Inv.val (.int .i64 (Lf.length : Int)) ?_ rfl rfl (Below.refl _ _)
                    clear hE hB
                    generalize ac.eval = ev at *
                    simp [go_sem, *]
                  · intro ac wx hE hf hd
                    have hB : Below wz.heap.size wz wx := ⟨hE.os, hE.tape, hE.output, hE.size, hE.block⟩
                    have hg := hd 2 _ (by kernel_rfl) rfl
                    change ac.eval (.tmp 112) = .bool false at hg
                    rw [if_pos (Inv.want (j := 2) (b := false) (d := 112) rfl rfl rfl hg)]
                    have h114 := hd 4 _ (by kernel_rfl) rfl
                    change ac.eval (.tmp 114) = .int .i64 (Lf.length : Int) at h114
                    have h119 := hd 9 _ (by kernel_rfl) rfl
                    change ac.eval (.tmp 119) = .int .i64 (Lf.length : Int) at h119
                    clear hf hd
                    have g0 := HCx.out wx hB
                    refine Inv.val (.bool false) ?_ rfl rfl (Below.refl _ _)
                    clear hE hB
                    generalize ac.eval = ev at *
                    simp [execOp, go_sem, *]
                  · intro ac wx hE hf hd
                    have hB : Below wz.heap.size wz wx := ⟨hE.os, hE.tape, hE.output, hE.size, hE.block⟩
                    rw [if_pos (Inv.want0 rfl _)]
                    have h112 := hd 2 _ (by kernel_rfl) rfl
                    change ac.eval (.tmp 112) = .bool false at h112
                    have h120 := hd 10 _ (by kernel_rfl) rfl
                    change ac.eval (.tmp 120) = .bool false at h120
                    clear hf hd
                    have g0 := HCx.out wx hB
                    refine Inv.val (.bool false) ?_ rfl rfl (Below.refl _ _)
                    clear hE hB
                    have hcst : ∀ v, ac.eval (.const v) = v := fun _ => rfl
                    generalize ac.eval = ev at *
                    simp [execOp, go_sem, *]
                  · intro ac wx hE hf hd
                    have hB : Below wz.heap.size wz wx := ⟨hE.os, hE.tape, hE.output, hE.size, hE.block⟩
                    rw [if_pos (Inv.want0 rfl _)]
                    have h121 := hd 11 _ (by kernel_rfl) rfl
                    change ac.eval (.tmp 121) = .bool false at h121
                    clear hf hd
                    have g0 := HCx.out wx hB
                    refine Inv.val (.bool false) ?_ rfl rfl (Below.refl _ _)
                    clear hE hB
                    generalize ac.eval = ev at *
                    simp [execOp, go_sem, *]
                  · intro ac wx hE hf hd
                    have hB : Below wz.heap.size wz wx := ⟨hE.os, hE.tape, hE.output, hE.size, hE.block⟩
                    have hg := hd 12 _ (by kernel_rfl) rfl
                    change ac.eval (.tmp 122) = .bool false at hg
                    rw [if_pos (Inv.want (j := 12) (b := false) (d := 122) rfl rfl rfl hg)]
                    have h3 : ac.eval (.tmp 3) = .pointer (some ⟨tb, 0, none⟩) := hf 3 (by kernel_rfl)
                    clear hf hd
                    have g0 := HCx.out wx hB
                    refine Inv.val (.pointer (some ⟨tb, 0, none⟩)) ?_ rfl rfl (Below.refl _ _)
                    clear hE hB
                    generalize ac.eval = ev at *
                    simp [execOp, go_sem, *]
                  · intro ac wx hE hf hd
                    have hB : Below wz.heap.size wz wx := ⟨hE.os, hE.tape, hE.output, hE.size, hE.block⟩
                    have hg := hd 12 _ (by kernel_rfl) rfl
                    change ac.eval (.tmp 122) = .bool false at hg
                    rw [if_pos (Inv.want (j := 12) (b := false) (d := 122) rfl rfl rfl hg)]
                    have h123 := hd 13 _ (by kernel_rfl) rfl
                    change ac.eval (.tmp 123) = .pointer (some ⟨tb, 0, none⟩) at h123
                    clear hf hd
                    refine Inv.go (f := 17) (xs := #[.pointer (some ⟨tb, 0, none⟩)]) ?_ rfl ?_
                    · clear hE hB
                      have hfn : ac.eval (.func 17) = .func (.func 17) #[] #[] := rfl
                      generalize ac.eval = ev at *
                      simp [execOp, go_sem, *]
                    · exact HNq.out wx hB
                  · intro ac wx hE hf hd
                    have hB : Below wz.heap.size wz wx := ⟨hE.os, hE.tape, hE.output, hE.size, hE.block⟩
                    have hg := hd 12 _ (by kernel_rfl) rfl
                    change ac.eval (.tmp 122) = .bool false at hg
                    rw [if_pos (Inv.want (j := 12) (b := false) (d := 122) rfl rfl rfl hg)]
                    have h4 : ac.eval (.tmp 4) = .pointer (some ⟨xb, 0, none⟩) := hf 4 (by kernel_rfl)
                    clear hf hd
                    have g0 := HCx.out wx hB
                    refine Inv.val (.pointer (some ⟨xb, 0, none⟩)) ?_ rfl rfl (Below.refl _ _)
                    clear hE hB
                    generalize ac.eval = ev at *
                    simp [execOp, go_sem, *]
                  · intro ac wx hE hf hd
                    have hB : Below wz.heap.size wz wx := ⟨hE.os, hE.tape, hE.output, hE.size, hE.block⟩
                    have hg := hd 12 _ (by kernel_rfl) rfl
                    change ac.eval (.tmp 122) = .bool false at hg
                    rw [if_pos (Inv.want (j := 12) (b := false) (d := 122) rfl rfl rfl hg)]
                    have h125 := hd 15 _ (by kernel_rfl) rfl
                    change ac.eval (.tmp 125) = .pointer (some ⟨xb, 0, none⟩) at h125
                    clear hf hd
                    have g0 := HCx.out wx hB
                    refine Inv.val (.pointer (some ⟨xb, 0, none⟩)) ?_ rfl rfl (Below.refl _ _)
                    clear hE hB
                    generalize ac.eval = ev at *
                    simp [execOp, go_sem, *]
                  · intro ac wx hE hf hd
                    have hB : Below wz.heap.size wz wx := ⟨hE.os, hE.tape, hE.output, hE.size, hE.block⟩
                    have hg := hd 12 _ (by kernel_rfl) rfl
                    change ac.eval (.tmp 122) = .bool false at hg
                    rw [if_pos (Inv.want (j := 12) (b := false) (d := 122) rfl rfl rfl hg)]
                    have h126 := hd 16 _ (by kernel_rfl) rfl
                    change ac.eval (.tmp 126) = .pointer (some ⟨xb, 0, none⟩) at h126
                    clear hf hd
                    have g0 := HCx.out wx hB
                    refine Inv.val (.pointer (some ⟨xb, 0, none⟩)) ?_ rfl rfl (Below.refl _ _)
                    clear hE hB
                    generalize ac.eval = ev at *
                    simp [execOp, go_sem, *]
                  · intro ac wx hE hf hd
                    have hB : Below wz.heap.size wz wx := ⟨hE.os, hE.tape, hE.output, hE.size, hE.block⟩
                    have hg := hd 12 _ (by kernel_rfl) rfl
                    change ac.eval (.tmp 122) = .bool false at hg
                    rw [if_pos (Inv.want (j := 12) (b := false) (d := 122) rfl rfl rfl hg)]
                    have h127 := hd 17 _ (by kernel_rfl) rfl
                    change ac.eval (.tmp 127) = .pointer (some ⟨xb, 0, none⟩) at h127
                    clear hf hd
                    have g0 := HCx.out wx hB
                    refine Inv.val (.slice A4 Lf.length c4) ?_ rfl rfl (Below.refl _ _)
                    clear hE hB
                    generalize ac.eval = ev at *
                    simp [execOp, go_sem, *]
                  · intro ac wx hE hf hd
                    have hB : Below wz.heap.size wz wx := ⟨hE.os, hE.tape, hE.output, hE.size, hE.block⟩
                    have hg := hd 12 _ (by kernel_rfl) rfl
                    change ac.eval (.tmp 122) = .bool false at hg
                    rw [if_pos (Inv.want (j := 12) (b := false) (d := 122) rfl rfl rfl hg)]
                    have h124 := hd 14 _ (by kernel_rfl) rfl
                    change (fun v W => ∃ A6 c6, v = .slice A6 Lf.length c6 ∧ Rd W (fun _ => True) A6 (byS Lf)) (ac.eval (.tmp 124)) wx at h124
                    try dsimp only at h124
                    have h128 := hd 18 _ (by kernel_rfl) rfl
                    change ac.eval (.tmp 128) = .slice A4 Lf.length c4 at h128
                    clear hf hd
                    obtain ⟨A6, c6, e6, hr6⟩ := h124
                    refine Inv.go (f := 16) (xs := #[.slice A6 Lf.length c6, .slice A4 Lf.length c4]) ?_ rfl ?_
                    · clear hE hB
                      have hfn : ac.eval (.func 16) = .func (.func 16) #[] #[] := rfl
                      generalize ac.eval = ev at *
                      simp [execOp, go_sem, *]
                    · exact HTq.out wx hB A6 c6 hr6
                  · intro ac wx hE hf hd
                    have hB : Below wz.heap.size wz wx := ⟨hE.os, hE.tape, hE.output, hE.size, hE.block⟩
                    have hg := hd 12 _ (by kernel_rfl) rfl
                    change ac.eval (.tmp 122) = .bool false at hg
                    rw [if_pos (Inv.want (j := 12) (b := false) (d := 122) rfl rfl rfl hg)]
                    have h129 := hd 19 _ (by kernel_rfl) rfl
                    change ac.eval (.tmp 129) = .bool true at h129
                    clear hf hd
                    have g0 := HCx.out wx hB
                    refine Inv.val (.bool false) ?_ rfl rfl (Below.refl _ _)
                    clear hE hB
                    generalize ac.eval = ev at *
                    simp [execOp, go_sem, *]
                  · intro ac wx hE hf hd
                    have hB : Below wz.heap.size wz wx := ⟨hE.os, hE.tape, hE.output, hE.size, hE.block⟩
                    rw [if_pos (Inv.want0 rfl _)]
                    have h122 := hd 12 _ (by kernel_rfl) rfl
                    change ac.eval (.tmp 122) = .bool false at h122
                    have h130 := hd 20 _ (by kernel_rfl) rfl
                    change ac.eval (.tmp 130) = .bool false at h130
                    clear hf hd
                    have g0 := HCx.out wx hB
                    refine Inv.val (.bool false) ?_ rfl rfl (Below.refl _ _)
                    clear hE hB
                    have hcst : ∀ v, ac.eval (.const v) = v := fun _ => rfl
                    generalize ac.eval = ev at *
                    simp [execOp, go_sem, *]
                case fin =>
                  intro ac wx hE ha hall
                  have hB : Below wz.heap.size wz wx := ⟨hE.os, hE.tape, hE.output, hE.size, hE.block⟩
                  have h110 := hall 0 _ rfl
                  change ac.eval (.tmp 110) = .bool true at h110
                  have h111 := hall 1 _ rfl
                  change ac.eval (.tmp 111) = .bool false at h111
                  have h112 := hall 2 _ rfl
                  change ac.eval (.tmp 112) = .bool false at h112
                  have h113 := hall 3 _ rfl
                  change ac.eval (.tmp 113) = .pointer (some ⟨tb, 0, none⟩) at h113
                  have h114 := hall 4 _ rfl
                  change ac.eval (.tmp 114) = .int .i64 (Lf.length : Int) at h114
                  have h115 := hall 5 _ rfl
                  change ac.eval (.tmp 115) = .pointer (some ⟨xb, 0, none⟩) at h115
                  have h116 := hall 6 _ rfl
                  change ac.eval (.tmp 116) = .pointer (some ⟨xb, 0, none⟩) at h116
                  have h117 := hall 7 _ rfl
                  change ac.eval (.tmp 117) = .pointer (some ⟨xb, 0, none⟩) at h117
                  have h118 := hall 8 _ rfl
                  change ac.eval (.tmp 118) = .slice A4 Lf.length c4 at h118
                  have h119 := hall 9 _ rfl
                  change ac.eval (.tmp 119) = .int .i64 (Lf.length : Int) at h119
                  have h120 := hall 10 _ rfl
                  change ac.eval (.tmp 120) = .bool false at h120
                  have h121 := hall 11 _ rfl
                  change ac.eval (.tmp 121) = .bool false at h121
                  have h122 := hall 12 _ rfl
                  change ac.eval (.tmp 122) = .bool false at h122
                  have h123 := hall 13 _ rfl
                  change ac.eval (.tmp 123) = .pointer (some ⟨tb, 0, none⟩) at h123
                  have h124 := hall 14 _ rfl
                  change (fun v W => ∃ A6 c6, v = .slice A6 Lf.length c6 ∧ Rd W (fun _ => True) A6 (byS Lf)) (ac.eval (.tmp 124)) wx at h124
                  try dsimp only at h124
                  generalize hv124 : ac.eval (.tmp 124) = v124 at *
                  have h125 := hall 15 _ rfl
                  change ac.eval (.tmp 125) = .pointer (some ⟨xb, 0, none⟩) at h125
                  have h126 := hall 16 _ rfl
                  change ac.eval (.tmp 126) = .pointer (some ⟨xb, 0, none⟩) at h126
                  have h127 := hall 17 _ rfl
                  change ac.eval (.tmp 127) = .pointer (some ⟨xb, 0, none⟩) at h127
                  have h128 := hall 18 _ rfl
                  change ac.eval (.tmp 128) = .slice A4 Lf.length c4 at h128
                  have h129 := hall 19 _ rfl
                  change ac.eval (.tmp 129) = .bool true at h129
                  have h130 := hall 20 _ rfl
                  change ac.eval (.tmp 130) = .bool false at h130
                  have h131 := hall 21 _ rfl
                  change ac.eval (.tmp 131) = .bool false at h131
                  simp only [List.foldl, Inv.slot, Act.put] at ha
                  change ac.tmps.getD 110 undef = _ at h110
                  change ac.tmps.getD 111 undef = _ at h111
                  change ac.tmps.getD 112 undef = _ at h112
                  change ac.tmps.getD 113 undef = _ at h113
                  change ac.tmps.getD 114 undef = _ at h114
                  change ac.tmps.getD 115 undef = _ at h115
                  change ac.tmps.getD 116 undef = _ at h116
                  change ac.tmps.getD 117 undef = _ at h117
                  change ac.tmps.getD 118 undef = _ at h118
                  change ac.tmps.getD 119 undef = _ at h119
                  change ac.tmps.getD 120 undef = _ at h120
                  change ac.tmps.getD 121 undef = _ at h121
                  change ac.tmps.getD 122 undef = _ at h122
                  change ac.tmps.getD 123 undef = _ at h123
                  change ac.tmps.getD 124 undef = _ at hv124
                  change ac.tmps.getD 125 undef = _ at h125
                  change ac.tmps.getD 126 undef = _ at h126
                  change ac.tmps.getD 127 undef = _ at h127
                  change ac.tmps.getD 128 undef = _ at h128
                  change ac.tmps.getD 129 undef = _ at h129
                  change ac.tmps.getD 130 undef = _ at h130
                  change ac.tmps.getD 131 undef = _ at h131
                  simp only [h110, h111, h112, h113, h114, h115, h116, h117, h118, h119, h120, h121, h122, h123, hv124, h125, h126, h127, h128, h129, h130, h131, List.setIfInBounds_toArray, List.set_cons_zero, List.set_cons_succ] at ha
                  clear h110 h111 h112 h113 h114 h115 h116 h117 h118 h119 h120 h121 h122 h123 hv124 h125 h126 h127 h128 h129 h130 h131 hall hE
                  subst ha
                  go_wp2_with fail
                  go_roundw
                  case rel => exact ⟨k + 1, _, by omega, by omega, by go_num, Lib.hid (HDz.out.below hB)⟩
                  case measure => simp [intOf]; omega
          by_cases k3 : kd = 3
          · subst k3
            obtain ⟨T, hT⟩ : ∃ T, Gl.bal 0 s = true → Gl.Gr false s T := by
              cases hb : Gl.bal 0 s
              · exact ⟨[], fun h => by cases h⟩
              · obtain ⟨T, h⟩ := Gl.parse s hb
                exact ⟨T, fun _ => h⟩
            have HPc := Lib.hid fun W (h : Tr.Duo w W tb xb (2 * k) L L) => h.findP s T hT hsl2 HMx.out
            have HRc := Lib.hid fun W (h : Tr.Duo w W tb xb (2 * k) L L) => h.findR' hk2 s T hT hsl2
            have hfl : (Tr.findR s T L).length ≤ 4294967296 := Nat.le_trans (Tr.findR_len s T L) (by omega)
            have HHt := Lib.hid fun A A' c c' W => hits_same10 (Tr.findR s T L) A A' c c' hfl W
            clear hT
            generalize Tr.findR s T L = FR at *
            generalize Tr.findErr s T L = FE at *
            go_wp2_with first
              | (go_at_call 10; go_must (refine (HPc.out _ HD.out).mono ?_; rintro e wp ⟨A1, c1, rfl, hr1, hb1⟩; have HDp := Lib.hid (HD.out.below hb1); have ebp := HEb.out wp HDp.out.b; have HR1 := Lib.hid hr1; clear hr1 hb1))
              | (go_at_call 11; go_must (refine (HRc.out _ HDp.out).mono ?_; rintro e wq ⟨A2, c2, rfl, hr2, hb2⟩; have HDq := Lib.hid (HDp.out.below hb2); have HR1b := Lib.hid (HR1.out.below hb2); have HR2 := Lib.hid hr2; clear hr2 hb2))
              | (go_at_call 12; go_must (refine (HHt.out _ _ _ _ _ HR1b.out HR2.out).mono ?_; rintro e wz ⟨rfl, hb3⟩; have HDz := Lib.hid (HDq.out.below hb3).more.more; clear hb3))
            obtain ⟨A4, c4, x4, hr4, hxl⟩ := HDz.out.cell
            have HR4 := Lib.hid hr4
            have HCx : Hid (∀ W, Below wz.heap.size wz W → W.cell? ⟨xb, 0, none⟩ = some (.slice A4 L.length c4)) := Lib.hid fun W h => (h.cell (p := ⟨xb, 0, none⟩) hxl).trans x4
            have HLn := Lib.hid fun W (h : Below wz.heap.size wz W) => (HDz.out.below h).len
            have HNm := Lib.hid fun W (h : Below wz.heap.size wz W) => (HDz.out.below h).names
            have hLf : L.length ≤ 2 * (k + 1) := by obtain ⟨_, _, _, _, _, _, _, _, _, h, _⟩ := HDz.out; exact h
            have hLf2 : L.length ≤ 4294967296 := by omega
            have HTx := Lib.hid fun A A' c c' W => texts_same10 L A A' c c' hLf2 W
            clear hr4
            have HLq : Hid (∀ W, Below wz.heap.size wz W → Calls Tryz.prog 15 #[.pointer (some ⟨tb, 0, none⟩)] W fun e w' => ∃ v, e = .returned v ∧ v = .int .i64 (L.length : Int) ∧ Below W.heap.size W w') := Lib.hid fun W h => (HLn.out W h).mono fun e w' ⟨he, hb⟩ => ⟨_, he, rfl, hb⟩
            have HNq : Hid (∀ W, Below wz.heap.size wz W → Calls Tryz.prog 17 #[.pointer (some ⟨tb, 0, none⟩)] W fun e w' => ∃ v, e = .returned v ∧ (∃ A6 c6, v = .slice A6 L.length c6 ∧ Rd w' (fun _ => True) A6 (byS L)) ∧ Below W.heap.size W w') := Lib.hid fun W h => (HNm.out W h).mono fun e w' ⟨A6, c6, he, hr, hb⟩ => ⟨_, he, ⟨A6, c6, rfl, hr⟩, hb⟩
            have HTq : Hid (∀ W, Below wz.heap.size wz W → ∀ A6 c6, Rd W (fun _ => True) A6 (byS L) → Calls Tryz.prog 16 #[.slice A6 L.length c6, .slice A4 L.length c4] W fun e w' => ∃ v, e = .returned v ∧ v = .bool true ∧ Below W.heap.size W w') := Lib.hid fun W h A6 c6 hr => (HTx.out _ _ _ _ _ hr (HR4.out.below h)).mono fun e w' ⟨he, hb⟩ => ⟨_, he, rfl, hb⟩
            clear HTx HLn HNm HR4
            skip
            go_wp2_with fail
            refine Inv.region (fun W W' => Below W.heap.size W W') (fun i v W => match i with
              | 0 => v = .bool true
              | 1 => v = .bool false
              | 2 => v = .bool false
              | 3 => v = .pointer (some ⟨tb, 0, none⟩)
              | 4 => v = .int .i64 (L.length : Int)
              | 5 => v = .pointer (some ⟨xb, 0, none⟩)
              | 6 => v = .pointer (some ⟨xb, 0, none⟩)
              | 7 => v = .pointer (some ⟨xb, 0, none⟩)
              | 8 => v = .slice A4 L.length c4
              | 9 => v = .int .i64 (L.length : Int)
              | 10 => v = .bool false
              | 11 => v = .bool false
              | 12 => v = .bool false
              | 13 => v = .pointer (some ⟨tb, 0, none⟩)
              | 14 => ∃ A6 c6, v = .slice A6 L.length c6 ∧ Rd W (fun _ => True) A6 (byS L)
              | 15 => v = .pointer (some ⟨xb, 0, none⟩)
              | 16 => v = .pointer (some ⟨xb, 0, none⟩)
              | 17 => v = .pointer (some ⟨xb, 0, none⟩)
              | 18 => v = .slice A4 L.length c4
              | 19 => v = .bool true
              | 20 => v = .bool false
              | 21 => v = .bool false
              | _ => True) (by kernel_rfl) (by kernel_rfl) (by kernel_rfl) (fun W => Below.refl _ _) (fun a b c h k => h.trans (k.mono h.size)) (fun i v W W' h he => ?stab) ?obls ?fin
            case stab =>
              match i, h with
              | 0, h => exact h
              | 1, h => exact h
              | 2, h => exact h
              | 3, h => exact h
              | 4, h => exact h
              | 5, h => exact h
              | 6, h => exact h
              | 7, h => exact h
              | 8, h => exact h
              | 9, h => exact h
              | 10, h => exact h
              | 11, h => exact h
              | 12, h => exact h
              | 13, h => exact h
              | 14, h => exact (by obtain ⟨A6, c6, e, hr⟩ := h; exact ⟨A6, c6, e, hr.below he⟩)
              | 15, h => exact h
              | 16, h => exact h
              | 17, h => exact h
              | 18, h => exact h
              | 19, h => exact h
              | 20, h => exact h
              | 21, h => exact h
              | _ + 22, h => exact h
            case obls =>
              refine .cons ?_ (.cons ?_ (.cons ?_ (.cons ?_ (.cons ?_ (.cons ?_ (.cons ?_ (.cons ?_ (.cons ?_ (.cons ?_ (.cons ?_ (.cons ?_ (.cons ?_ (.cons ?_ (.cons ?_ (.cons ?_ (.cons ?_ (.cons ?_ (.cons ?_ (.cons ?_ (.cons ?_ (.cons ?_ .nil)))))))))))))))))))))
              · intro ac wx hE hf hd
                have hB : Below wz.heap.size wz wx := ⟨hE.os, hE.tape, hE.output, hE.size, hE.block⟩
                rw [if_pos (Inv.want0 rfl _)]
                have h6 : ac.eval (.tmp 6) = .bool true := hf 6 (by kernel_rfl)
                clear hf hd
                have g0 := HCx.out wx hB
                refine Inv.val (.bool true) ?_ rfl rfl (Below.refl _ _)
                clear hE hB
                generalize ac.eval = ev at *
                simp [execOp, go_sem, *]
              · intro ac wx hE hf hd
                have hB : Below wz.heap.size wz wx := ⟨hE.os, hE.tape, hE.output, hE.size, hE.block⟩
                rw [if_pos (Inv.want0 rfl _)]
                have h110 := hd 0 _ (by kernel_rfl) rfl
                change ac.eval (.tmp 110) = .bool true at h110
                clear hf hd
                have g0 := HCx.out wx hB
                refine Inv.val (.bool false) ?_ rfl rfl (Below.refl _ _)
                clear hE hB
                generalize ac.eval = ev at *
                simp [execOp, go_sem, *]
              · intro ac wx hE hf hd
                have hB : Below wz.heap.size wz wx := ⟨hE.os, hE.tape, hE.output, hE.size, hE.block⟩
                rw [if_pos (Inv.want0 rfl _)]
                have h111 := hd 1 _ (by kernel_rfl) rfl
                change ac.eval (.tmp 111) = .bool false at h111
                clear hf hd
                have g0 := HCx.out wx hB
                refine Inv.val (.bool false) ?_ rfl rfl (Below.refl _ _)
                clear hE hB
                generalize ac.eval = ev at *
                simp [execOp, go_sem, *]
              · intro ac wx hE hf hd
                have hB : Below wz.heap.size wz wx := ⟨hE.os, hE.tape, hE.output, hE.size, hE.block⟩
                have hg := hd 2 _ (by kernel_rfl) rfl
                change ac.eval (.tmp 112) = .bool false at hg
                rw [if_pos (Inv.want (j := 2) (b := false) (d := 112) rfl rfl rfl hg)]
                have h3 : ac.eval (.tmp 3) = .pointer (some ⟨tb, 0, none⟩) := hf 3 (by kernel_rfl)
                clear hf hd
                have g0 := HCx.out wx hB
                refine Inv.val (.pointer (some ⟨tb, 0, none⟩)) ?_ rfl rfl (Below.refl _ _)
                clear hE hB
                generalize ac.eval = ev at *
                simp [execOp, go_sem, *]
              · intro ac wx hE hf hd
                have hB : Below wz.heap.size wz wx := ⟨hE.os, hE.tape, hE.output, hE.size, hE.block⟩
                have hg := hd 2 _ (by kernel_rfl) rfl
                change ac.eval (.tmp 112) = .bool false at hg
                rw [if_pos (Inv.want (j := 2) (b := false) (d := 112) rfl rfl rfl hg)]
                have h113 := hd 3 _ (by kernel_rfl) rfl
                change ac.eval (.tmp 113) = .pointer (some ⟨tb, 0, none⟩) at h113
                clear hf hd
                refine Inv.go (f := 15) (xs := #[.pointer (some ⟨tb, 0, none⟩)]) ?_ rfl ?_
                · clear hE hB
                  have hfn : ac.eval (.func 15) = .func (.func 15) #[] #[] := rfl
                  generalize ac.eval = ev at *
                  simp [execOp, go_sem, *]
                · exact HLq.out wx hB
              · intro ac wx hE hf hd
                have hB : Below wz.heap.size wz wx := ⟨hE.os, hE.tape, hE.output, hE.size, hE.block⟩
                have hg := hd 2 _ (by kernel_rfl) rfl
                change ac.eval (.tmp 112) = .bool false at hg
                rw [if_pos (Inv.want (j := 2) (b := false) (d := 112) rfl rfl rfl hg)]
                have h4 : ac.eval (.tmp 4) = .pointer (some ⟨xb, 0, none⟩) := hf 4 (by kernel_rfl)
                clear hf hd
                have g0 := HCx.out wx hB
                refine Inv.val (.pointer (some ⟨xb, 0, none⟩)) ?_ rfl rfl (Below.refl _ _)
                clear hE hB
                generalize ac.eval = ev at *
                simp [execOp, go_sem, *]
              · intro ac wx hE hf hd
                have hB : Below wz.heap.size wz wx := ⟨hE.os, hE.tape, hE.output, hE.size, hE.block⟩
                have hg := hd 2 _ (by kernel_rfl) rfl
                change ac.eval (.tmp 112) = .bool false at hg
                rw [if_pos (Inv.want (j := 2) (b := false) (d := 112) rfl rfl rfl hg)]
                have h115 := hd 5 _ (by kernel_rfl) rfl
                change ac.eval (.tmp 115) = .pointer (some ⟨xb, 0, none⟩) at h115
                clear hf hd
                have g0 := HCx.out wx hB
                refine Inv.val (.pointer (some ⟨xb, 0, none⟩)) ?_ rfl rfl (Below.refl _ _)
                clear hE hB
                generalize ac.eval = ev at *
                simp [execOp, go_sem, *]
              · intro ac wx hE hf hd
                have hB : Below wz.heap.size wz wx := ⟨hE.os, hE.tape, hE.output, hE.size, hE.block⟩
                have hg := hd 2 _ (by kernel_rfl) rfl
                change ac.eval (.tmp 112) = .bool false at hg
                rw [if_pos (Inv.want (j := 2) (b := false) (d := 112) rfl rfl rfl hg)]
                have h116 := hd 6 _ (by kernel_rfl) rfl
                change ac.eval (.tmp 116) = .pointer (some ⟨xb, 0, none⟩) at h116
                clear hf hd
                have g0 := HCx.out wx hB
                refine Inv.val (.pointer (some ⟨xb, 0, none⟩)) ?_ rfl rfl (Below.refl _ _)
                clear hE hB
                generalize ac.eval = ev at *
                simp [execOp, go_sem, *]
              · intro ac wx hE hf hd
                have hB : Below wz.heap.size wz wx := ⟨hE.os, hE.tape, hE.output, hE.size, hE.block⟩
                have hg := hd 2 _ (by kernel_rfl) rfl
                change ac.eval (.tmp 112) = .bool false at hg
                rw [if_pos (Inv.want (j := 2) (b := false) (d := 112) rfl rfl rfl hg)]
                have h117 := hd 7 _ (by kernel_rfl) rfl
                change ac.eval (.tmp 117) = .pointer (some ⟨xb, 0, none⟩) at h117
                clear hf hd
                have g0 := HCx.out wx hB
                refine Inv.val (.slice A4 L.length c4) ?_ rfl rfl (Below.refl _ _)
                clear hE hB
                generalize ac.eval = ev at *
                simp [execOp, go_sem, *]
              · intro ac wx hE hf hd
                have hB : Below wz.heap.size wz wx := ⟨hE.os, hE.tape, hE.output, hE.size, hE.block⟩
                have hg := hd 2 _ (by kernel_rfl) rfl
                change ac.eval (.tmp 112) = .bool false at hg
                rw [if_pos (Inv.want (j := 2) (b := false) (d := 112) rfl rfl rfl hg)]
                have h118 := hd 8 _ (by kernel_rfl) rfl
                change ac.eval (.tmp 118) = .slice A4 L.length c4 at h118
                clear hf hd
                have g0 := HCx.out wx hB
                refine Inv.val (.int .i64 (L.length : Int)) ?_ rfl rfl (Below.refl _ _)
                clear hE hB
                generalize ac.eval = ev at *
                simp [go_sem, *]
              · intro ac wx hE hf hd
                have hB : Below wz.heap.size wz wx := ⟨hE.os, hE.tape, hE.output, hE.size, hE.block⟩
                have hg := hd 2 _ (by kernel_rfl) rfl
                change ac.eval (.tmp 112) = .bool false at hg
                rw [if_pos (Inv.want (j := 2) (b := false) (d := 112) rfl rfl rfl hg)]
                have h114 := hd 4 _ (by kernel_rfl) rfl
                change ac.eval (.tmp 114) = .int .i64 (L.length : Int) at h114
                have h119 := hd 9 _ (by kernel_rfl) rfl
                change ac.eval (.tmp 119) = .int .i64 (L.length : Int) at h119
                clear hf hd
                have g0 := HCx.out wx hB
                refine Inv.val (.bool false) ?_ rfl rfl (Below.refl _ _)
                clear hE hB
                generalize ac.eval = ev at *
                simp [execOp, go_sem, *]
              · intro ac wx hE hf hd
                have hB : Below wz.heap.size wz wx := ⟨hE.os, hE.tape, hE.output, hE.size, hE.block⟩
                rw [if_pos (Inv.want0 rfl _)]
                have h112 := hd 2 _ (by kernel_rfl) rfl
                change ac.eval (.tmp 112) = .bool false at h112
                have h120 := hd 10 _ (by kernel_rfl) rfl
                change ac.eval (.tmp 120) = .bool false at h120
                clear hf hd
                have g0 := HCx.out wx hB
                refine Inv.val (.bool false) ?_ rfl rfl (Below.refl _ _)
                clear hE hB
                have hcst : ∀ v, ac.eval (.const v) = v := fun _ => rfl
                generalize ac.eval = ev at *
                simp [execOp, go_sem, *]
              · intro ac wx hE hf hd
                have hB : Below wz.heap.size wz wx := ⟨hE.os, hE.tape, hE.output, hE.size, hE.block⟩
                rw [if_pos (Inv.want0 rfl _)]
                have h121 := hd 11 _ (by kernel_rfl) rfl
                change ac.eval (.tmp 121) = .bool false at h121
                clear hf hd
                have g0 := HCx.out wx hB
                refine Inv.val (.bool false) ?_ rfl rfl (Below.refl _ _)
                clear hE hB
                generalize ac.eval = ev at *
                simp [execOp, go_sem, *]
              · intro ac wx hE hf hd
                have hB : Below wz.heap.size wz wx := ⟨hE.os, hE.tape, hE.output, hE.size, hE.block⟩
                have hg := hd 12 _ (by kernel_rfl) rfl
                change ac.eval (.tmp 122) = .bool false at hg
                rw [if_pos (Inv.want (j := 12) (b := false) (d := 122) rfl rfl rfl hg)]
                have h3 : ac.eval (.tmp 3) = .pointer (some ⟨tb, 0, none⟩) := hf 3 (by kernel_rfl)
                clear hf hd
                have g0 := HCx.out wx hB
                refine Inv.val (.pointer (some ⟨tb, 0, none⟩)) ?_ rfl rfl (Below.refl _ _)
                clear hE hB
                generalize ac.eval = ev at *
                simp [execOp, go_sem, *]
              · intro ac wx hE hf hd
                have hB : Below wz.heap.size wz wx := ⟨hE.os, hE.tape, hE.output, hE.size, hE.block⟩
                have hg := hd 12 _ (by kernel_rfl) rfl
                change ac.eval (.tmp 122) = .bool false at hg
                rw [if_pos (Inv.want (j := 12) (b := false) (d := 122) rfl rfl rfl hg)]
                have h123 := hd 13 _ (by kernel_rfl) rfl
                change ac.eval (.tmp 123) = .pointer (some ⟨tb, 0, none⟩) at h123
                clear hf hd
                refine Inv.go (f := 17) (xs := #[.pointer (some ⟨tb, 0, none⟩)]) ?_ rfl ?_
                · clear hE hB
                  have hfn : ac.eval (.func 17) = .func (.func 17) #[] #[] := rfl
                  generalize ac.eval = ev at *
                  simp [execOp, go_sem, *]
                · exact HNq.out wx hB
              · intro ac wx hE hf hd
                have hB : Below wz.heap.size wz wx := ⟨hE.os, hE.tape, hE.output, hE.size, hE.block⟩
                have hg := hd 12 _ (by kernel_rfl) rfl
                change ac.eval (.tmp 122) = .bool false at hg
                rw [if_pos (Inv.want (j := 12) (b := false) (d := 122) rfl rfl rfl hg)]
                have h4 : ac.eval (.tmp 4) = .pointer (some ⟨xb, 0, none⟩) := hf 4 (by kernel_rfl)
                clear hf hd
                have g0 := HCx.out wx hB
                refine Inv.val (.pointer (some ⟨xb, 0, none⟩)) ?_ rfl rfl (Below.refl _ _)
                clear hE hB
                generalize ac.eval = ev at *
                simp [execOp, go_sem, *]
              · intro ac wx hE hf hd
                have hB : Below wz.heap.size wz wx := ⟨hE.os, hE.tape, hE.output, hE.size, hE.block⟩
                have hg := hd 12 _ (by kernel_rfl) rfl
                change ac.eval (.tmp 122) = .bool false at hg
                rw [if_pos (Inv.want (j := 12) (b := false) (d := 122) rfl rfl rfl hg)]
                have h125 := hd 15 _ (by kernel_rfl) rfl
                change ac.eval (.tmp 125) = .pointer (some ⟨xb, 0, none⟩) at h125
                clear hf hd
                have g0 := HCx.out wx hB
                refine Inv.val (.pointer (some ⟨xb, 0, none⟩)) ?_ rfl rfl (Below.refl _ _)
                clear hE hB
                generalize ac.eval = ev at *
                simp [execOp, go_sem, *]
              · intro ac wx hE hf hd
                have hB : Below wz.heap.size wz wx := ⟨hE.os, hE.tape, hE.output, hE.size, hE.block⟩
                have hg := hd 12 _ (by kernel_rfl) rfl
                change ac.eval (.tmp 122) = .bool false at hg
                rw [if_pos (Inv.want (j := 12) (b := false) (d := 122) rfl rfl rfl hg)]
                have h126 := hd 16 _ (by kernel_rfl) rfl
                change ac.eval (.tmp 126) = .pointer (some ⟨xb, 0, none⟩) at h126
                clear hf hd
                have g0 := HCx.out wx hB
                refine Inv.val (.pointer (some ⟨xb, 0, none⟩)) ?_ rfl rfl (Below.refl _ _)
                clear hE hB
                generalize ac.eval = ev at *
                simp [execOp, go_sem, *]
              · intro ac wx hE hf hd
                have hB : Below wz.heap.size wz wx := ⟨hE.os, hE.tape, hE.output, hE.size, hE.block⟩
                have hg := hd 12 _ (by kernel_rfl) rfl
                change ac.eval (.tmp 122) = .bool false at hg
                rw [if_pos (Inv.want (j := 12) (b := false) (d := 122) rfl rfl rfl hg)]
                have h127 := hd 17 _ (by kernel_rfl) rfl
                change ac.eval (.tmp 127) = .pointer (some ⟨xb, 0, none⟩) at h127
                clear hf hd
                have g0 := HCx.out wx hB
                refine Inv.val (.slice A4 L.length c4) ?_ rfl rfl (Below.refl _ _)
                clear hE hB
                generalize ac.eval = ev at *
                simp [execOp, go_sem, *]
              · intro ac wx hE hf hd
                have hB : Below wz.heap.size wz wx := ⟨hE.os, hE.tape, hE.output, hE.size, hE.block⟩
                have hg := hd 12 _ (by kernel_rfl) rfl
                change ac.eval (.tmp 122) = .bool false at hg
                rw [if_pos (Inv.want (j := 12) (b := false) (d := 122) rfl rfl rfl hg)]
                have h124 := hd 14 _ (by kernel_rfl) rfl
                change (fun v W => ∃ A6 c6, v = .slice A6 L.length c6 ∧ Rd W (fun _ => True) A6 (byS L)) (ac.eval (.tmp 124)) wx at h124
                try dsimp only at h124
                have h128 := hd 18 _ (by kernel_rfl) rfl
                change ac.eval (.tmp 128) = .slice A4 L.length c4 at h128
                clear hf hd
                obtain ⟨A6, c6, e6, hr6⟩ := h124
                refine Inv.go (f := 16) (xs := #[.slice A6 L.length c6, .slice A4 L.length c4]) ?_ rfl ?_
                · clear hE hB
                  have hfn : ac.eval (.func 16) = .func (.func 16) #[] #[] := rfl
                  generalize ac.eval = ev at *
                  simp [execOp, go_sem, *]
                · exact HTq.out wx hB A6 c6 hr6
              · intro ac wx hE hf hd
                have hB : Below wz.heap.size wz wx := ⟨hE.os, hE.tape, hE.output, hE.size, hE.block⟩
                have hg := hd 12 _ (by kernel_rfl) rfl
                change ac.eval (.tmp 122) = .bool false at hg
                rw [if_pos (Inv.want (j := 12) (b := false) (d := 122) rfl rfl rfl hg)]
                have h129 := hd 19 _ (by kernel_rfl) rfl
                change ac.eval (.tmp 129) = .bool true at h129
                clear hf hd
                have g0 := HCx.out wx hB
                refine Inv.val (.bool false) ?_ rfl rfl (Below.refl _ _)
                clear hE hB
                generalize ac.eval = ev at *
                simp [execOp, go_sem, *]
              · intro ac wx hE hf hd
                have hB : Below wz.heap.size wz wx := ⟨hE.os, hE.tape, hE.output, hE.size, hE.block⟩
                rw [if_pos (Inv.want0 rfl _)]
                have h122 := hd 12 _ (by kernel_rfl) rfl
                change ac.eval (.tmp 122) = .bool false at h122
                have h130 := hd 20 _ (by kernel_rfl) rfl
                change ac.eval (.tmp 130) = .bool false at h130
                clear hf hd
                have g0 := HCx.out wx hB
                refine Inv.val (.bool false) ?_ rfl rfl (Below.refl _ _)
                clear hE hB
                have hcst : ∀ v, ac.eval (.const v) = v := fun _ => rfl
                generalize ac.eval = ev at *
                simp [execOp, go_sem, *]
            case fin =>
              intro ac wx hE ha hall
              have hB : Below wz.heap.size wz wx := ⟨hE.os, hE.tape, hE.output, hE.size, hE.block⟩
              have h110 := hall 0 _ rfl
              change ac.eval (.tmp 110) = .bool true at h110
              have h111 := hall 1 _ rfl
              change ac.eval (.tmp 111) = .bool false at h111
              have h112 := hall 2 _ rfl
              change ac.eval (.tmp 112) = .bool false at h112
              have h113 := hall 3 _ rfl
              change ac.eval (.tmp 113) = .pointer (some ⟨tb, 0, none⟩) at h113
              have h114 := hall 4 _ rfl
              change ac.eval (.tmp 114) = .int .i64 (L.length : Int) at h114
              have h115 := hall 5 _ rfl
              change ac.eval (.tmp 115) = .pointer (some ⟨xb, 0, none⟩) at h115
              have h116 := hall 6 _ rfl
              change ac.eval (.tmp 116) = .pointer (some ⟨xb, 0, none⟩) at h116
              have h117 := hall 7 _ rfl
              change ac.eval (.tmp 117) = .pointer (some ⟨xb, 0, none⟩) at h117
              have h118 := hall 8 _ rfl
              change ac.eval (.tmp 118) = .slice A4 L.length c4 at h118
              have h119 := hall 9 _ rfl
              change ac.eval (.tmp 119) = .int .i64 (L.length : Int) at h119
              have h120 := hall 10 _ rfl
              change ac.eval (.tmp 120) = .bool false at h120
              have h121 := hall 11 _ rfl
              change ac.eval (.tmp 121) = .bool false at h121
              have h122 := hall 12 _ rfl
              change ac.eval (.tmp 122) = .bool false at h122
              have h123 := hall 13 _ rfl
              change ac.eval (.tmp 123) = .pointer (some ⟨tb, 0, none⟩) at h123
              have h124 := hall 14 _ rfl
              change (fun v W => ∃ A6 c6, v = .slice A6 L.length c6 ∧ Rd W (fun _ => True) A6 (byS L)) (ac.eval (.tmp 124)) wx at h124
              try dsimp only at h124
              generalize hv124 : ac.eval (.tmp 124) = v124 at *
              have h125 := hall 15 _ rfl
              change ac.eval (.tmp 125) = .pointer (some ⟨xb, 0, none⟩) at h125
              have h126 := hall 16 _ rfl
              change ac.eval (.tmp 126) = .pointer (some ⟨xb, 0, none⟩) at h126
              have h127 := hall 17 _ rfl
              change ac.eval (.tmp 127) = .pointer (some ⟨xb, 0, none⟩) at h127
              have h128 := hall 18 _ rfl
              change ac.eval (.tmp 128) = .slice A4 L.length c4 at h128
              have h129 := hall 19 _ rfl
              change ac.eval (.tmp 129) = .bool true at h129
              have h130 := hall 20 _ rfl
              change ac.eval (.tmp 130) = .bool false at h130
              have h131 := hall 21 _ rfl
              change ac.eval (.tmp 131) = .bool false at h131
              simp only [List.foldl, Inv.slot, Act.put] at ha
              change ac.tmps.getD 110 undef = _ at h110
              change ac.tmps.getD 111 undef = _ at h111
              change ac.tmps.getD 112 undef = _ at h112
              change ac.tmps.getD 113 undef = _ at h113
              change ac.tmps.getD 114 undef = _ at h114
              change ac.tmps.getD 115 undef = _ at h115
              change ac.tmps.getD 116 undef = _ at h116
              change ac.tmps.getD 117 undef = _ at h117
              change ac.tmps.getD 118 undef = _ at h118
              change ac.tmps.getD 119 undef = _ at h119
              change ac.tmps.getD 120 undef = _ at h120
              change ac.tmps.getD 121 undef = _ at h121
              change ac.tmps.getD 122 undef = _ at h122
              change ac.tmps.getD 123 undef = _ at h123
              change ac.tmps.getD 124 undef = _ at hv124
              change ac.tmps.getD 125 undef = _ at h125
              change ac.tmps.getD 126 undef = _ at h126
              change ac.tmps.getD 127 undef = _ at h127
              change ac.tmps.getD 128 undef = _ at h128
              change ac.tmps.getD 129 undef = _ at h129
              change ac.tmps.getD 130 undef = _ at h130
              change ac.tmps.getD 131 undef = _ at h131
              simp only [h110, h111, h112, h113, h114, h115, h116, h117, h118, h119, h120, h121, h122, h123, hv124, h125, h126, h127, h128, h129, h130, h131, List.setIfInBounds_toArray, List.set_cons_zero, List.set_cons_succ] at ha
              clear h110 h111 h112 h113 h114 h115 h116 h117 h118 h119 h120 h121 h122 h123 hv124 h125 h126 h127 h128 h129 h130 h131 hall hE
              subst ha
              go_wp2_with fail
              go_roundw
              case rel => exact ⟨k + 1, _, by omega, by omega, by go_num, Lib.hid (HDz.out.below hB)⟩
              case measure => simp [intOf]; omega
          have hd4 : ¬ kd = 1 ∧ ¬ kd = 2 ∧ ¬ kd = 3 := ⟨k1, k2, k3⟩
          have HPc : Hid (∀ W b, Tr.Duo w W tb xb (2 * k) L L → decide (s ∈ L) = b → Calls Tryz.prog 13 #[.pointer (some ⟨tb, 0, none⟩), .string ⟨s.toArray⟩] W fun e w' => e = .returned (.bool b) ∧ Tr.Duo w w' tb xb (2 * k) L L) := Lib.hid fun W b h e => by rw [← e]; exact (h.hasP s hsl3 HMx.out).mono fun e w' ⟨he, hb⟩ => ⟨he, h.below hb⟩
          have HRc : Hid (∀ W b, Tr.Duo w W tb xb (2 * k) L L → decide (s ∈ L) = b → Calls Tryz.prog 14 #[.pointer (some ⟨xb, 0, none⟩), .string ⟨s.toArray⟩] W fun e w' => e = .returned (.bool b) ∧ Tr.Duo w w' tb xb (2 * k) L L) := Lib.hid fun W b h e => by rw [← e]; exact (h.hasR hk2 s).mono fun e w' ⟨he, hb⟩ => ⟨he, h.below hb⟩
          obtain ⟨bq, hbq⟩ : ∃ bq, decide (s ∈ L) = bq := ⟨_, rfl⟩
          have HBq := Lib.hid hbq
          clear hbq hd4
          cases bq
          all_goals
            go_wp2_with fail
            go_region_law (go_simp; first
              | (go_at_call 13; refine ((fun h (_ : _) => HPc.out _ _ h HBq.out) HDd.out hk2).mono ?_; rintro e wp ⟨rfl, hd1⟩; have HDp := Lib.hid hd1; have ebp := HEb.out wp hd1.b; clear hd1)
              | (go_at_call 14; refine ((fun h (_ : _) => HRc.out _ _ h HBq.out) HDp.out hk3).mono ?_; rintro e wz ⟨rfl, hd2⟩; have HDz := Lib.hid hd2.more.more; clear hd2)
              | (go_at_call 14; refine ((fun h (_ : _) => HRc.out _ _ h HBq.out) HDd.out hk2).mono ?_; rintro e wq ⟨rfl, hd1⟩; have HDq := Lib.hid hd1; have ebq := HEb.out wq hd1.b; clear hd1)
              | (go_at_call 13; refine ((fun h (_ : _) => HPc.out _ _ h HBq.out) HDq.out hk3).mono ?_; rintro e wz ⟨rfl, hd2⟩; have HDz := Lib.hid hd2.more.more; clear hd2))
            all_goals
              try go_simp
              obtain ⟨A4, c4, x4, hr4, hxl⟩ := HDz.out.cell
              have HR4 := Lib.hid hr4
              have HCx : Hid (∀ W, Below wz.heap.size wz W → W.cell? ⟨xb, 0, none⟩ = some (.slice A4 L.length c4)) := Lib.hid fun W h => (h.cell (p := ⟨xb, 0, none⟩) hxl).trans x4
              have HLn := Lib.hid fun W (h : Below wz.heap.size wz W) => (HDz.out.below h).len
              have HNm := Lib.hid fun W (h : Below wz.heap.size wz W) => (HDz.out.below h).names
              have hLf : L.length ≤ 2 * (k + 1) := by obtain ⟨_, _, _, _, _, _, _, _, _, h, _⟩ := HDz.out; exact h
              have hLf2 : L.length ≤ 4294967296 := by omega
              have HTx := Lib.hid fun A A' c c' W => texts_same10 L A A' c c' hLf2 W
              clear hr4
              have HLq : Hid (∀ W, Below wz.heap.size wz W → Calls Tryz.prog 15 #[.pointer (some ⟨tb, 0, none⟩)] W fun e w' => ∃ v, e = .returned v ∧ v = .int .i64 (L.length : Int) ∧ Below W.heap.size W w') := Lib.hid fun W h => (HLn.out W h).mono fun e w' ⟨he, hb⟩ => ⟨_, he, rfl, hb⟩
              have HNq : Hid (∀ W, Below wz.heap.size wz W → Calls Tryz.prog 17 #[.pointer (some ⟨tb, 0, none⟩)] W fun e w' => ∃ v, e = .returned v ∧ (∃ A6 c6, v = .slice A6 L.length c6 ∧ Rd w' (fun _ => True) A6 (byS L)) ∧ Below W.heap.size W w') := Lib.hid fun W h => (HNm.out W h).mono fun e w' ⟨A6, c6, he, hr, hb⟩ => ⟨_, he, ⟨A6, c6, rfl, hr⟩, hb⟩
              have HTq : Hid (∀ W, Below wz.heap.size wz W → ∀ A6 c6, Rd W (fun _ => True) A6 (byS L) → Calls Tryz.prog 16 #[.slice A6 L.length c6, .slice A4 L.length c4] W fun e w' => ∃ v, e = .returned v ∧ v = .bool true ∧ Below W.heap.size W w') := Lib.hid fun W h A6 c6 hr => (HTx.out _ _ _ _ _ hr (HR4.out.below h)).mono fun e w' ⟨he, hb⟩ => ⟨_, he, rfl, hb⟩
              clear HTx HLn HNm HR4
              skip
              go_wp2_with fail
              refine Inv.region (fun W W' => Below W.heap.size W W') (fun i v W => match i with
                | 0 => v = .bool true
                | 1 => v = .bool false
                | 2 => v = .bool false
                | 3 => v = .pointer (some ⟨tb, 0, none⟩)
                | 4 => v = .int .i64 (L.length : Int)
                | 5 => v = .pointer (some ⟨xb, 0, none⟩)
                | 6 => v = .pointer (some ⟨xb, 0, none⟩)
                | 7 => v = .pointer (some ⟨xb, 0, none⟩)
                | 8 => v = .slice A4 L.length c4
                | 9 => v = .int .i64 (L.length : Int)
                | 10 => v = .bool false
                | 11 => v = .bool false
                | 12 => v = .bool false
                | 13 => v = .pointer (some ⟨tb, 0, none⟩)
                | 14 => ∃ A6 c6, v = .slice A6 L.length c6 ∧ Rd W (fun _ => True) A6 (byS L)
                | 15 => v = .pointer (some ⟨xb, 0, none⟩)
                | 16 => v = .pointer (some ⟨xb, 0, none⟩)
                | 17 => v = .pointer (some ⟨xb, 0, none⟩)
                | 18 => v = .slice A4 L.length c4
                | 19 => v = .bool true
                | 20 => v = .bool false
                | 21 => v = .bool false
                | _ => True) (by kernel_rfl) (by kernel_rfl) (by kernel_rfl) (fun W => Below.refl _ _) (fun a b c h k => h.trans (k.mono h.size)) (fun i v W W' h he => ?stab) ?obls ?fin
              case stab =>
                match i, h with
                | 0, h => exact h
                | 1, h => exact h
                | 2, h => exact h
                | 3, h => exact h
                | 4, h => exact h
                | 5, h => exact h
                | 6, h => exact h
                | 7, h => exact h
                | 8, h => exact h
                | 9, h => exact h
                | 10, h => exact h
                | 11, h => exact h
                | 12, h => exact h
                | 13, h => exact h
                | 14, h => exact (by obtain ⟨A6, c6, e, hr⟩ := h; exact ⟨A6, c6, e, hr.below he⟩)
                | 15, h => exact h
                | 16, h => exact h
                | 17, h => exact h
                | 18, h => exact h
                | 19, h => exact h
                | 20, h => exact h
                | 21, h => exact h
                | _ + 22, h => exact h
              case obls =>
                refine .cons ?_ (.cons ?_ (.cons ?_ (.cons ?_ (.cons ?_ (.cons ?_ (.cons ?_ (.cons ?_ (.cons ?_ (.cons ?_ (.cons ?_ (.cons ?_ (.cons ?_ (.cons ?_ (.cons ?_ (.cons ?_ (.cons ?_ (.cons ?_ (.cons ?_ (.cons ?_ (.cons ?_ (.cons ?_ .nil)))))))))))))))))))))
                · intro ac wx hE hf hd
                  have hB : Below wz.heap.size wz wx := ⟨hE.os, hE.tape, hE.output, hE.size, hE.block⟩
                  rw [if_pos (Inv.want0 rfl _)]
                  have h6 : ac.eval (.tmp 6) = .bool true := hf 6 (by kernel_rfl)
                  clear hf hd
                  have g0 := HCx.out wx hB
                  refine Inv.val (.bool true) ?_ rfl rfl (Below.refl _ _)
                  clear hE hB
                  generalize ac.eval = ev at *
                  simp [execOp, go_sem, *]
                · intro ac wx hE hf hd
                  have hB : Below wz.heap.size wz wx := ⟨hE.os, hE.tape, hE.output, hE.size, hE.block⟩
                  rw [if_pos (Inv.want0 rfl _)]
                  have h110 := hd 0 _ (by kernel_rfl) rfl
                  change ac.eval (.tmp 110) = .bool true at h110
                  clear hf hd
                  have g0 := HCx.out wx hB
                  refine Inv.val (.bool false) ?_ rfl rfl (Below.refl _ _)
                  clear hE hB
                  generalize ac.eval = ev at *
                  simp [execOp, go_sem, *]
                · intro ac wx hE hf hd
                  have hB : Below wz.heap.size wz wx := ⟨hE.os, hE.tape, hE.output, hE.size, hE.block⟩
                  rw [if_pos (Inv.want0 rfl _)]
                  have h111 := hd 1 _ (by kernel_rfl) rfl
                  change ac.eval (.tmp 111) = .bool false at h111
                  clear hf hd
                  have g0 := HCx.out wx hB
                  refine Inv.val (.bool false) ?_ rfl rfl (Below.refl _ _)
                  clear hE hB
                  generalize ac.eval = ev at *
                  simp [execOp, go_sem, *]
                · intro ac wx hE hf hd
                  have hB : Below wz.heap.size wz wx := ⟨hE.os, hE.tape, hE.output, hE.size, hE.block⟩
                  have hg := hd 2 _ (by kernel_rfl) rfl
                  change ac.eval (.tmp 112) = .bool false at hg
                  rw [if_pos (Inv.want (j := 2) (b := false) (d := 112) rfl rfl rfl hg)]
                  have h3 : ac.eval (.tmp 3) = .pointer (some ⟨tb, 0, none⟩) := hf 3 (by kernel_rfl)
                  clear hf hd
                  have g0 := HCx.out wx hB
                  refine Inv.val (.pointer (some ⟨tb, 0, none⟩)) ?_ rfl rfl (Below.refl _ _)
                  clear hE hB
                  generalize ac.eval = ev at *
                  simp [execOp, go_sem, *]
                · intro ac wx hE hf hd
                  have hB : Below wz.heap.size wz wx := ⟨hE.os, hE.tape, hE.output, hE.size, hE.block⟩
                  have hg := hd 2 _ (by kernel_rfl) rfl
                  change ac.eval (.tmp 112) = .bool false at hg
                  rw [if_pos (Inv.want (j := 2) (b := false) (d := 112) rfl rfl rfl hg)]
                  have h113 := hd 3 _ (by kernel_rfl) rfl
                  change ac.eval (.tmp 113) = .pointer (some ⟨tb, 0, none⟩) at h113
                  clear hf hd
                  refine Inv.go (f := 15) (xs := #[.pointer (some ⟨tb, 0, none⟩)]) ?_ rfl ?_
                  · clear hE hB
                    have hfn : ac.eval (.func 15) = .func (.func 15) #[] #[] := rfl
                    generalize ac.eval = ev at *
                    simp [execOp, go_sem, *]
                  · exact HLq.out wx hB
                · intro ac wx hE hf hd
                  have hB : Below wz.heap.size wz wx := ⟨hE.os, hE.tape, hE.output, hE.size, hE.block⟩
                  have hg := hd 2 _ (by kernel_rfl) rfl
                  change ac.eval (.tmp 112) = .bool false at hg
                  rw [if_pos (Inv.want (j := 2) (b := false) (d := 112) rfl rfl rfl hg)]
                  have h4 : ac.eval (.tmp 4) = .pointer (some ⟨xb, 0, none⟩) := hf 4 (by kernel_rfl)
                  clear hf hd
                  have g0 := HCx.out wx hB
                  refine Inv.val (.pointer (some ⟨xb, 0, none⟩)) ?_ rfl rfl (Below.refl _ _)
                  clear hE hB
                  generalize ac.eval = ev at *
                  simp [execOp, go_sem, *]
                · intro ac wx hE hf hd
                  have hB : Below wz.heap.size wz wx := ⟨hE.os, hE.tape, hE.output, hE.size, hE.block⟩
                  have hg := hd 2 _ (by kernel_rfl) rfl
                  change ac.eval (.tmp 112) = .bool false at hg
                  rw [if_pos (Inv.want (j := 2) (b := false) (d := 112) rfl rfl rfl hg)]
                  have h115 := hd 5 _ (by kernel_rfl) rfl
                  change ac.eval (.tmp 115) = .pointer (some ⟨xb, 0, none⟩) at h115
                  clear hf hd
                  have g0 := HCx.out wx hB
                  refine Inv.val (.pointer (some ⟨xb, 0, none⟩)) ?_ rfl rfl (Below.refl _ _)
                  clear hE hB
                  generalize ac.eval = ev at *
                  simp [execOp, go_sem, *]
                · intro ac wx hE hf hd
                  have hB : Below wz.heap.size wz wx := ⟨hE.os, hE.tape, hE.output, hE.size, hE.block⟩
                  have hg := hd 2 _ (by kernel_rfl) rfl
                  change ac.eval (.tmp 112) = .bool false at hg
                  rw [if_pos (Inv.want (j := 2) (b := false) (d := 112) rfl rfl rfl hg)]
                  have h116 := hd 6 _ (by kernel_rfl) rfl
                  change ac.eval (.tmp 116) = .pointer (some ⟨xb, 0, none⟩) at h116
                  clear hf hd
                  have g0 := HCx.out wx hB
                  refine Inv.val (.pointer (some ⟨xb, 0, none⟩)) ?_ rfl rfl (Below.refl _ _)
                  clear hE hB
                  generalize ac.eval = ev at *
                  simp [execOp, go_sem, *]
                · intro ac wx hE hf hd
                  have hB : Below wz.heap.size wz wx := ⟨hE.os, hE.tape, hE.output, hE.size, hE.block⟩
                  have hg := hd 2 _ (by kernel_rfl) rfl
                  change ac.eval (.tmp 112) = .bool false at hg
                  rw [if_pos (Inv.want (j := 2) (b := false) (d := 112) rfl rfl rfl hg)]
                  have h117 := hd 7 _ (by kernel_rfl) rfl
                  change ac.eval (.tmp 117) = .pointer (some ⟨xb, 0, none⟩) at h117
                  clear hf hd
                  have g0 := HCx.out wx hB
                  refine Inv.val (.slice A4 L.length c4) ?_ rfl rfl (Below.refl _ _)
                  clear hE hB
                  generalize ac.eval = ev at *
                  simp [execOp, go_sem, *]
                · intro ac wx hE hf hd
                  have hB : Below wz.heap.size wz wx := ⟨hE.os, hE.tape, hE.output, hE.size, hE.block⟩
                  have hg := hd 2 _ (by kernel_rfl) rfl
                  change ac.eval (.tmp 112) = .bool false at hg
                  rw [if_pos (Inv.want (j := 2) (b := false) (d := 112) rfl rfl rfl hg)]
                  have h118 := hd 8 _ (by kernel_rfl) rfl
                  change ac.eval (.tmp 118) = .slice A4 L.length c4 at h118
                  clear hf hd
                  have g0 := HCx.out wx hB
                  refine Inv.val (.int .i64 (L.length : Int)) ?_ rfl rfl (Below.refl _ _)
                  clear hE hB
                  generalize ac.eval = ev at *
                  simp [go_sem, *]
                · intro ac wx hE hf hd
                  have hB : Below wz.heap.size wz wx := ⟨hE.os, hE.tape, hE.output, hE.size, hE.block⟩
                  have hg := hd 2 _ (by kernel_rfl) rfl
                  change ac.eval (.tmp 112) = .bool false at hg
                  rw [if_pos (Inv.want (j := 2) (b := false) (d := 112) rfl rfl rfl hg)]
                  have h114 := hd 4 _ (by kernel_rfl) rfl
                  change ac.eval (.tmp 114) = .int .i64 (L.length : Int) at h114
                  have h119 := hd 9 _ (by kernel_rfl) rfl
                  change ac.eval (.tmp 119) = .int .i64 (L.length : Int) at h119
                  clear hf hd
                  have g0 := HCx.out wx hB
                  refine Inv.val (.bool false) ?_ rfl rfl (Below.refl _ _)
                  clear hE hB
                  generalize ac.eval = ev at *
                  simp [execOp, go_sem, *]
                · intro ac wx hE hf hd
                  have hB : Below wz.heap.size wz wx := ⟨hE.os, hE.tape, hE.output, hE.size, hE.block⟩
                  rw [if_pos (Inv.want0 rfl _)]
                  have h112 := hd 2 _ (by kernel_rfl) rfl
                  change ac.eval (.tmp 112) = .bool false at h112
                  have h120 := hd 10 _ (by kernel_rfl) rfl
                  change ac.eval (.tmp 120) = .bool false at h120
                  clear hf hd
                  have g0 := HCx.out wx hB
                  refine Inv.val (.bool false) ?_ rfl rfl (Below.refl _ _)
                  clear hE hB
                  have hcst : ∀ v, ac.eval (.const v) = v := fun _ => rfl
                  generalize ac.eval = ev at *
                  simp [execOp, go_sem, *]
                · intro ac wx hE hf hd
                  have hB : Below wz.heap.size wz wx := ⟨hE.os, hE.tape, hE.output, hE.size, hE.block⟩
                  rw [if_pos (Inv.want0 rfl _)]
                  have h121 := hd 11 _ (by kernel_rfl) rfl
                  change ac.eval (.tmp 121) = .bool false at h121
                  clear hf hd
                  have g0 := HCx.out wx hB
                  refine Inv.val (.bool false) ?_ rfl rfl (Below.refl _ _)
                  clear hE hB
                  generalize ac.eval = ev at *
                  simp [execOp, go_sem, *]
                · intro ac wx hE hf hd
                  have hB : Below wz.heap.size wz wx := ⟨hE.os, hE.tape, hE.output, hE.size, hE.block⟩
                  have hg := hd 12 _ (by kernel_rfl) rfl
                  change ac.eval (.tmp 122) = .bool false at hg
                  rw [if_pos (Inv.want (j := 12) (b := false) (d := 122) rfl rfl rfl hg)]
                  have h3 : ac.eval (.tmp 3) = .pointer (some ⟨tb, 0, none⟩) := hf 3 (by kernel_rfl)
                  clear hf hd
                  have g0 := HCx.out wx hB
                  refine Inv.val (.pointer (some ⟨tb, 0, none⟩)) ?_ rfl rfl (Below.refl _ _)
                  clear hE hB
                  generalize ac.eval = ev at *
                  simp [execOp, go_sem, *]
                · intro ac wx hE hf hd
                  have hB : Below wz.heap.size wz wx := ⟨hE.os, hE.tape, hE.output, hE.size, hE.block⟩
                  have hg := hd 12 _ (by kernel_rfl) rfl
                  change ac.eval (.tmp 122) = .bool false at hg
                  rw [if_pos (Inv.want (j := 12) (b := false) (d := 122) rfl rfl rfl hg)]
                  have h123 := hd 13 _ (by kernel_rfl) rfl
                  change ac.eval (.tmp 123) = .pointer (some ⟨tb, 0, none⟩) at h123
                  clear hf hd
                  refine Inv.go (f := 17) (xs := #[.pointer (some ⟨tb, 0, none⟩)]) ?_ rfl ?_
                  · clear hE hB
                    have hfn : ac.eval (.func 17) = .func (.func 17) #[] #[] := rfl
                    generalize ac.eval = ev at *
                    simp [execOp, go_sem, *]
                  · exact HNq.out wx hB
                · intro ac wx hE hf hd
                  have hB : Below wz.heap.size wz wx := ⟨hE.os, hE.tape, hE.output, hE.size, hE.block⟩
                  have hg := hd 12 _ (by kernel_rfl) rfl
                  change ac.eval (.tmp 122) = .bool false at hg
                  rw [if_pos (Inv.want (j := 12) (b := false) (d := 122) rfl rfl rfl hg)]
                  have h4 : ac.eval (.tmp 4) = .pointer (some ⟨xb, 0, none⟩) := hf 4 (by kernel_rfl)
                  clear hf hd
                  have g0 := HCx.out wx hB
                  refine Inv.val (.pointer (some ⟨xb, 0, none⟩)) ?_ rfl rfl (Below.refl _ _)
                  clear hE hB
                  generalize ac.eval = ev at *
                  simp [execOp, go_sem, *]
                · intro ac wx hE hf hd
                  have hB : Below wz.heap.size wz wx := ⟨hE.os, hE.tape, hE.output, hE.size, hE.block⟩
                  have hg := hd 12 _ (by kernel_rfl) rfl
                  change ac.eval (.tmp 122) = .bool false at hg
                  rw [if_pos (Inv.want (j := 12) (b := false) (d := 122) rfl rfl rfl hg)]
                  have h125 := hd 15 _ (by kernel_rfl) rfl
                  change ac.eval (.tmp 125) = .pointer (some ⟨xb, 0, none⟩) at h125
                  clear hf hd
                  have g0 := HCx.out wx hB
                  refine Inv.val (.pointer (some ⟨xb, 0, none⟩)) ?_ rfl rfl (Below.refl _ _)
                  clear hE hB
                  generalize ac.eval = ev at *
                  simp [execOp, go_sem, *]
                · intro ac wx hE hf hd
                  have hB : Below wz.heap.size wz wx := ⟨hE.os, hE.tape, hE.output, hE.size, hE.block⟩
                  have hg := hd 12 _ (by kernel_rfl) rfl
                  change ac.eval (.tmp 122) = .bool false at hg
                  rw [if_pos (Inv.want (j := 12) (b := false) (d := 122) rfl rfl rfl hg)]
                  have h126 := hd 16 _ (by kernel_rfl) rfl
                  change ac.eval (.tmp 126) = .pointer (some ⟨xb, 0, none⟩) at h126
                  clear hf hd
                  have g0 := HCx.out wx hB
                  refine Inv.val (.pointer (some ⟨xb, 0, none⟩)) ?_ rfl rfl (Below.refl _ _)
                  clear hE hB
                  generalize ac.eval = ev at *
                  simp [execOp, go_sem, *]
                · intro ac wx hE hf hd
                  have hB : Below wz.heap.size wz wx := ⟨hE.os, hE.tape, hE.output, hE.size, hE.block⟩
                  have hg := hd 12 _ (by kernel_rfl) rfl
                  change ac.eval (.tmp 122) = .bool false at hg
                  rw [if_pos (Inv.want (j := 12) (b := false) (d := 122) rfl rfl rfl hg)]
                  have h127 := hd 17 _ (by kernel_rfl) rfl
                  change ac.eval (.tmp 127) = .pointer (some ⟨xb, 0, none⟩) at h127
                  clear hf hd
                  have g0 := HCx.out wx hB
                  refine Inv.val (.slice A4 L.length c4) ?_ rfl rfl (Below.refl _ _)
                  clear hE hB
                  generalize ac.eval = ev at *
                  simp [execOp, go_sem, *]
                · intro ac wx hE hf hd
                  have hB : Below wz.heap.size wz wx := ⟨hE.os, hE.tape, hE.output, hE.size, hE.block⟩
                  have hg := hd 12 _ (by kernel_rfl) rfl
                  change ac.eval (.tmp 122) = .bool false at hg
                  rw [if_pos (Inv.want (j := 12) (b := false) (d := 122) rfl rfl rfl hg)]
                  have h124 := hd 14 _ (by kernel_rfl) rfl
                  change (fun v W => ∃ A6 c6, v = .slice A6 L.length c6 ∧ Rd W (fun _ => True) A6 (byS L)) (ac.eval (.tmp 124)) wx at h124
                  try dsimp only at h124
                  have h128 := hd 18 _ (by kernel_rfl) rfl
                  change ac.eval (.tmp 128) = .slice A4 L.length c4 at h128
                  clear hf hd
                  obtain ⟨A6, c6, e6, hr6⟩ := h124
                  refine Inv.go (f := 16) (xs := #[.slice A6 L.length c6, .slice A4 L.length c4]) ?_ rfl ?_
                  · clear hE hB
                    have hfn : ac.eval (.func 16) = .func (.func 16) #[] #[] := rfl
                    generalize ac.eval = ev at *
                    simp [execOp, go_sem, *]
                  · exact HTq.out wx hB A6 c6 hr6
                · intro ac wx hE hf hd
                  have hB : Below wz.heap.size wz wx := ⟨hE.os, hE.tape, hE.output, hE.size, hE.block⟩
                  have hg := hd 12 _ (by kernel_rfl) rfl
                  change ac.eval (.tmp 122) = .bool false at hg
                  rw [if_pos (Inv.want (j := 12) (b := false) (d := 122) rfl rfl rfl hg)]
                  have h129 := hd 19 _ (by kernel_rfl) rfl
                  change ac.eval (.tmp 129) = .bool true at h129
                  clear hf hd
                  have g0 := HCx.out wx hB
                  refine Inv.val (.bool false) ?_ rfl rfl (Below.refl _ _)
                  clear hE hB
                  generalize ac.eval = ev at *
                  simp [execOp, go_sem, *]
                · intro ac wx hE hf hd
                  have hB : Below wz.heap.size wz wx := ⟨hE.os, hE.tape, hE.output, hE.size, hE.block⟩
                  rw [if_pos (Inv.want0 rfl _)]
                  have h122 := hd 12 _ (by kernel_rfl) rfl
                  change ac.eval (.tmp 122) = .bool false at h122
                  have h130 := hd 20 _ (by kernel_rfl) rfl
                  change ac.eval (.tmp 130) = .bool false at h130
                  clear hf hd
                  have g0 := HCx.out wx hB
                  refine Inv.val (.bool false) ?_ rfl rfl (Below.refl _ _)
                  clear hE hB
                  have hcst : ∀ v, ac.eval (.const v) = v := fun _ => rfl
                  generalize ac.eval = ev at *
                  simp [execOp, go_sem, *]
              case fin =>
                intro ac wx hE ha hall
                have hB : Below wz.heap.size wz wx := ⟨hE.os, hE.tape, hE.output, hE.size, hE.block⟩
                have h110 := hall 0 _ rfl
                change ac.eval (.tmp 110) = .bool true at h110
                have h111 := hall 1 _ rfl
                change ac.eval (.tmp 111) = .bool false at h111
                have h112 := hall 2 _ rfl
                change ac.eval (.tmp 112) = .bool false at h112
                have h113 := hall 3 _ rfl
                change ac.eval (.tmp 113) = .pointer (some ⟨tb, 0, none⟩) at h113
                have h114 := hall 4 _ rfl
                change ac.eval (.tmp 114) = .int .i64 (L.length : Int) at h114
                have h115 := hall 5 _ rfl
                change ac.eval (.tmp 115) = .pointer (some ⟨xb, 0, none⟩) at h115
                have h116 := hall 6 _ rfl
                change ac.eval (.tmp 116) = .pointer (some ⟨xb, 0, none⟩) at h116
                have h117 := hall 7 _ rfl
                change ac.eval (.tmp 117) = .pointer (some ⟨xb, 0, none⟩) at h117
                have h118 := hall 8 _ rfl
                change ac.eval (.tmp 118) = .slice A4 L.length c4 at h118
                have h119 := hall 9 _ rfl
                change ac.eval (.tmp 119) = .int .i64 (L.length : Int) at h119
                have h120 := hall 10 _ rfl
                change ac.eval (.tmp 120) = .bool false at h120
                have h121 := hall 11 _ rfl
                change ac.eval (.tmp 121) = .bool false at h121
                have h122 := hall 12 _ rfl
                change ac.eval (.tmp 122) = .bool false at h122
                have h123 := hall 13 _ rfl
                change ac.eval (.tmp 123) = .pointer (some ⟨tb, 0, none⟩) at h123
                have h124 := hall 14 _ rfl
                change (fun v W => ∃ A6 c6, v = .slice A6 L.length c6 ∧ Rd W (fun _ => True) A6 (byS L)) (ac.eval (.tmp 124)) wx at h124
                try dsimp only at h124
                generalize hv124 : ac.eval (.tmp 124) = v124 at *
                have h125 := hall 15 _ rfl
                change ac.eval (.tmp 125) = .pointer (some ⟨xb, 0, none⟩) at h125
                have h126 := hall 16 _ rfl
                change ac.eval (.tmp 126) = .pointer (some ⟨xb, 0, none⟩) at h126
                have h127 := hall 17 _ rfl
                change ac.eval (.tmp 127) = .pointer (some ⟨xb, 0, none⟩) at h127
                have h128 := hall 18 _ rfl
                change ac.eval (.tmp 128) = .slice A4 L.length c4 at h128
                have h129 := hall 19 _ rfl
                change ac.eval (.tmp 129) = .bool true at h129
                have h130 := hall 20 _ rfl
                change ac.eval (.tmp 130) = .bool false at h130
                have h131 := hall 21 _ rfl
                change ac.eval (.tmp 131) = .bool false at h131
                simp only [List.foldl, Inv.slot, Act.put] at ha
                change ac.tmps.getD 110 undef = _ at h110
                change ac.tmps.getD 111 undef = _ at h111
                change ac.tmps.getD 112 undef = _ at h112
                change ac.tmps.getD 113 undef = _ at h113
                change ac.tmps.getD 114 undef = _ at h114
                change ac.tmps.getD 115 undef = _ at h115
                change ac.tmps.getD 116 undef = _ at h116
                change ac.tmps.getD 117 undef = _ at h117
                change ac.tmps.getD 118 undef = _ at h118
                change ac.tmps.getD 119 undef = _ at h119
                change ac.tmps.getD 120 undef = _ at h120
                change ac.tmps.getD 121 undef = _ at h121
                change ac.tmps.getD 122 undef = _ at h122
                change ac.tmps.getD 123 undef = _ at h123
                change ac.tmps.getD 124 undef = _ at hv124
                change ac.tmps.getD 125 undef = _ at h125
                change ac.tmps.getD 126 undef = _ at h126
                change ac.tmps.getD 127 undef = _ at h127
                change ac.tmps.getD 128 undef = _ at h128
                change ac.tmps.getD 129 undef = _ at h129
                change ac.tmps.getD 130 undef = _ at h130
                change ac.tmps.getD 131 undef = _ at h131
                simp only [h110, h111, h112, h113, h114, h115, h116, h117, h118, h119, h120, h121, h122, h123, hv124, h125, h126, h127, h128, h129, h130, h131, List.setIfInBounds_toArray, List.set_cons_zero, List.set_cons_succ] at ha
                clear h110 h111 h112 h113 h114 h115 h116 h117 h118 h119 h120 h121 h122 h123 hv124 h125 h126 h127 h128 h129 h130 h131 hall hE
                subst ha
                go_wp2_with fail
                go_roundw
                case rel => exact ⟨k + 1, _, by omega, by omega, by go_num, Lib.hid (HDz.out.below hB)⟩
                case measure => simp [intOf]; omega
        · have h2I : ¬ (k : Int) < (100 : Int) := by omega
          go_wp2_with (go_at_call 18; go_must (refine (HKn.out _ HD.out.b).mono ?_; rintro e w9 ⟨rfl, hb9⟩; have HB9 := Lib.hid (HD.out.b.trans (hb9.mono HD.out.b.size)); clear hb9))
          go_ret
          exact ⟨rfl, HB9.out⟩
      · have h1I : ¬ (k : Int) < (ys.length : Int) := by omega
        go_wp2_with (go_at_call 18; go_must (refine (HKn.out _ HD.out.b).mono ?_; rintro e w9 ⟨rfl, hb9⟩; have HB9 := Lib.hid (HD.out.b.trans (hb9.mono HD.out.b.size)); clear hb9))
        go_ret
        exact ⟨rfl, HB9.out⟩
  · rw [hH] at HHv
    clear hH
    go_enter Tryz.func3, Tryz.ntmps3
    go_wp2_with (go_at_call 4; go_must (refine HHv.out.mono ?_; rintro e w1 ⟨rfl, hb1⟩))
    go_ret
    exact ⟨rfl, hb1⟩
end Go.Proofs.YtfmbbhcjnidcbaaGreatDoor
