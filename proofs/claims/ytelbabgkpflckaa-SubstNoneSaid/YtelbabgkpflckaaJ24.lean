/-
  PkStep: CONTRACTS: chapter 12: step: all paths are taken to the next offset.
-/
import Derived.Test.YtelbabgkpflckaaJ23

set_option linter.unusedSimpArgs false
set_option linter.unusedVariables false
namespace Go.Proofs.Ytelbabgkpflckaa
open Go.RowKit Go.Sort
open Me
open Pk

set_option maxRecDepth 100000 in
set_option maxHeartbeats 8000000 in
theorem step_any {W : World} {sb : Nat} {c : Pk.Cs} {k : Nat} {l : List (Int × Pk.Row)} {f : Option Pk.Row} (hk : k ≤ c.t.length) (hV : Pk.Sv c W sb k l f) :
    Calls Try.prog 26 #[.pointer (some ⟨sb, 0, none⟩), .int .i64 (k : Int)] W fun e W' => e = .returned (.tuple #[]) ∧ Below c.b0 W W' ∧ Pk.Stepped c sb k l f W' := by
  have qT : ∀ (w : World) (a : Option Addr) (n c : Nat), (binOp .eql 28 (.slice a n c) (.slice none 0 0)).run Try.prog w = .ok (.bool a.isNone) w := fun w a n c => Lib.run_eql_slice_nil w _ _ a n c _ _ Try.underlying28
  have hsl := hV.se.lt
  have hle := hV.se.le
  have hbL := hV.se.bL
  have hbw := hV.se.bw
  have htw := hV.se.tw
  -- what the loop begins with
  have HB0 : Hid (∀ w1 no nh l1, Se w1 sb { c with no := no, nh := nh, nofs := l1.flatMap (·.2), nhds := l1.map (·.1) } → (∀ e ∈ l1, e.2.length = c.wd) → Sp { c with no := no, nh := nh, nhds := l1.map (·.1) } l1 k w1 sb 0 c.dn c.tv c.ts c.xo c.xh [] []) := Lib.hid fun w1 no nh l1 h1 hl1 => by
    have e0 := exe_none hV.dle
    refine ⟨?_, by simp, (fun e he => by cases he), ?_, fun n hn => by have := hV.dle n hn; omega⟩
    · unfold Cs.up
      rw [List.drop_zero, List.flatMap_nil, List.map_nil]
      have e1 := hV.xofs
      have e2 := hV.xhds
      rw [e1, e2] at h1
      simpa using h1
    · show 0 + free c.L.length (exe c.dn k) ≤ _
      rw [e0, free_none]; show 0 + c.L.length ≤ c.L.length; omega
  have HV := Lib.hid hV
  have HK := Lib.hid hk
  cases f with
  | some r0 =>
    have c11 : W.cell? ⟨sb, 11, none⟩ = some c.fv := (hV.se.cell 11).trans rfl
    have hfl : c.fl = r0 ∧ r0.length = c.wd := hV.fnd
    obtain ⟨gf, cf, hfv, _⟩ := own_some hV.se.ofv (by rw [hfl.1, hfl.2]; omega)
    rw [hfv] at c11
    obtain ⟨l1, hl1⟩ : ∃ l1, l1 = l := ⟨_, rfl⟩
    have hse : Se W sb { c with no := c.no, nh := c.nh, nofs := l1.flatMap (·.2), nhds := l1.map (·.1) } := by
      rw [hl1]
      have h := hV.se
      have e1 := hV.nofs
      have e2 := hV.nhds
      cases c
      simp only at e1 e2
      subst e1 e2
      exact h
    have c6 : W.cell? ⟨sb, 6, none⟩ = some c.nh := (hV.se.cell 6).trans rfl
    obtain ⟨Ah, ch, hvh⟩ := own_form hse.onh
    have hvh : c.nh = .slice Ah (l1.map (·.1)).length ch := hvh
    rw [List.length_map] at hvh
    rw [hvh] at c6
    have hl1r : ∀ e ∈ l1, e.2.length = c.wd := by rw [hl1]; exact hV.rows
    have hl1c : l1.length ≤ c.L.length + 1 := by rw [hl1]; have := hV.cnt; omega
    have HL1 := Lib.hid hl1
    clear hl1
    have HSE := Lib.hid hse
    have HVH := Lib.hid hvh
    clear hV hfl hfv hse hvh hk
    go_enter Try.func26, Try.ntmps26
    go_wp2_with fail
    have HB1 : Hid (Below c.b0 W W) := Lib.hid (Below.refl c.b0 W)
    obtain ⟨c1, hc1⟩ : ∃ c1 : Cs, c1 = { c with no := c.no, nh := c.nh, nhds := l1.map (·.1) } := ⟨_, rfl⟩
    have hSp0 : Sp c1 l1 k W sb 0 c.dn c.tv c.ts c.xo c.xh [] [] := by rw [hc1]; exact HB0.out _ _ _ _ HSE.out hl1r
    obtain ⟨R, hR⟩ : ∃ R : Res1, R = lev c.L c.t k (fun _ => false) l1 := ⟨_, rfl⟩
    have HR := Lib.hid hR
    have HLT : Hid (c1.L = c.L ∧ c1.t = c.t ∧ c1.wd = c.wd ∧ c1.fv = c.fv ∧ c1.fl = c.fl ∧ c1.bl = c.bl) := Lib.hid (by rw [hc1]; exact ⟨rfl, rfl, rfl, rfl, rfl, rfl⟩)
    have HB00 : Hid (c1.b0 = c.b0) := Lib.hid (by rw [hc1])
    have H0 : Hid (∃ dn tv ts xo xh q P, Sp c1 l1 k W sb 0 dn tv ts xo xh q P ∧ Pk.due c1.L c1.t k (exe dn k) q (l1.drop 0) = R) := Lib.hid ⟨_, _, _, _, _, _, _, hSp0, by rw [HLT.out.1, HLT.out.2.1, hR, exe_none HV.out.dle, List.drop_zero]; unfold Pk.due; exact full_nil _⟩
    have HRW : Hid (∀ e ∈ l1, e.2.length = c1.wd) := Lib.hid (by rw [hc1]; exact hl1r)
    have hlc : l1.length ≤ 5000 := by omega
    have HNH : Hid (c1.nh = .slice Ah l1.length ch) := Lib.hid (by rw [hc1]; exact HVH.out)
    have HND : Hid (c1.nhds = l1.map (·.1)) := Lib.hid (by rw [hc1])
    clear hSp0 hc1 hR hl1r hl1c
    go_loopw [26, 4, 5, 6] (fun ix _ _ _ wr => ∃ i : Nat, ix = .int .i64 (i : Int) ∧ i ≤ l1.length ∧ Hid (Below c.b0 W wr) ∧ Hid (∃ dn tv ts xo xh q P, Sp c1 l1 k wr sb i dn tv ts xo xh q P ∧ Pk.due c1.L c1.t k (exe dn k) q (l1.drop i) = R)) (fun ix _ _ _ _ => l1.length - (intOf ix).toNat)
    case atStart => exact ⟨0, rfl, Nat.zero_le _, HB1, H0⟩
    case round =>
      obtain ⟨i, rfl, hi, HB, H1⟩ := hrel
      obtain ⟨dn, tv, ts, xo, xh, q, P, hSp, hD⟩ := H1.out
      clear H1 H0
      by_cases hlt : i < l1.length
      · have hiI : (i : Int) < (l1.length : Int) := by omega
        have hwd1 : c1.wd = c.wd := HLT.out.2.2.1
        have hki : k ≤ c1.t.length := by rw [HLT.out.2.1]; exact HK.out
        have hst := hSp.st HRW.out hlt
        have hrl : (l1[i].2).length = c1.wd := HRW.out _ (List.getElem_mem hlt)
        obtain ⟨g, cap, hvno⟩ := hst.block
        have hpl := hSp.pl
        have hnl : (P ++ (l1[i].2 ++ (l1.drop (i + 1)).flatMap (·.2))).length = l1.length * c1.wd := by
          rw [List.length_append, List.length_append, hpl, hrl, Pk.flat_rows (n := c1.wd) (fun e he => HRW.out e (List.mem_of_mem_drop he)), List.length_drop]
          have : l1.length = i + (1 + (l1.length - (i + 1))) := by omega
          rw [this, Nat.add_mul, Nat.add_mul, Nat.one_mul]
          have e2 : i + (1 + (l1.length - (i + 1))) - (i + 1) = l1.length - (i + 1) := by omega
          rw [e2]
        have hnw : l1.length * c1.wd ≤ 5000 * 4096 := by rw [hwd1]; exact Nat.mul_le_mul hlc hbw
        have hiw : (i + 1) * c1.wd ≤ l1.length * c1.wd := Nat.mul_le_mul_right _ (by omega)
        -- the list of heads, as it was when the loop began
        have hnh := hSp.se.onh
        have hnh : wr.ownsRow c1.b0 intT 1 c1.nh (l1.map (·.1)).length (iv (l1.map (·.1))) := by
          have := HND.out
          rw [← this]; exact hnh
        rw [List.length_map] at hnh
        obtain ⟨gh, chh, hvh2, _⟩ := own_some hnh (by omega)
        have hAh : Ah = some ⟨gh, 0, none⟩ := by
          have := HNH.out.symm.trans hvh2
          cases this
          rfl
        rw [hvh2] at hnh
        have hcell : wr.cell? ⟨gh, i, none⟩ = some (.int .i64 l1[i].1) := by
          rw [World.ownsRow.cellAt hnh i (by omega), iv_get _ _ (by rw [List.length_map]; exact hlt), List.getElem_map]
        subst hAh
        have HROW : Hid (Calls Try.prog 40 #[.pointer (some ⟨sb, 4, none⟩), .int .i64 (i : Int)] wr fun e W' => (∃ cp, e = .returned (.slice (some ⟨g, P.length, none⟩) c.wd cp)) ∧ Below wr.heap.size wr W') := by
          have := row_now hst.se hvno i (by show (i + 1) * c1.wd ≤ (P ++ (l1[i].2 ++ (l1.drop (i + 1)).flatMap (·.2))).length; omega) (by show (P ++ (l1[i].2 ++ (l1.drop (i + 1)).flatMap (·.2))).length ≤ _; omega)
          refine Lib.hid ?_
          rw [hpl, ← hwd1]
          exact this
        have HST := Lib.hid hst
        have HVN := Lib.hid hvno
        have HPL := Lib.hid hpl
        have HD : Hid ((match Pk.due c1.L c1.t k (exe dn k) q [l1[i]] with
          | (B, q, some r) => (B, q, some r)
          | (B, q, none) => Pk.due c1.L c1.t k B q (l1.drop (i + 1))) = R) := Lib.hid (by rw [← hD, List.drop_eq_getElem_cons hlt]; exact due_cons.symm)
        obtain ⟨Ri, hRi⟩ : ∃ Ri, Pk.due c1.L c1.t k (exe dn k) q [l1[i]] = Ri := ⟨_, rfl⟩
        rw [hRi] at HD
        have HRI : Hid (Pk.due c1.L c1.t k (exe dn k) q [(l1[i].1, l1[i].2)] = Ri) := Lib.hid hRi
        have HWD := Lib.hid hwd1
        have hrl5 : c1.wd ≤ 4096 := by omega
        clear hSp hD hst hvno hnl hnw hiw hvh2 hnh hRi hpl hrl hwd1
        go_wp2_with first
          | (go_at_call 40; go_must (refine HROW.out.mono ?_; rintro e w2 ⟨⟨cp, rfl⟩, hb2⟩; have HB2 := Lib.hid hb2; clear hb2))
          | (go_at_call 41; go_must (have hfol := follow_any (cp := cp) hki (HST.out.keep HB2.out) l1[i].1 HVN.out HRI.out; rw [HWD.out] at hfol; refine hfol.mono ?_; clear hfol; rintro e w3 ⟨b, rfl, hf⟩; have HF := Lib.hid hf; clear hf; cases b))
          | (go_at_call 42; go_must (obtain ⟨hb3, dn3, tv3, ts3, r3, xo3, xh3, q3, hS3, hR3⟩ := HF.out; have hrd := (hS3.rd (by rw [HVN.out]; congr 1; simp; rw [hS3.rl, HRW.out _ (List.getElem_mem hlt)])).1; refine (Pk.clone_any (r := r3) (o := P.length) (g := g) (n := c.wd) (HWD.out.symm.trans hS3.rl.symm) (by rw [hS3.rl]; omega) (fun j u hu => by obtain ⟨ad, ea, _, _, hc⟩ := hrd (by intro e; rw [e] at hu; cases hu); cases ea; have := hc j u hu; rwa [Addr.add_lit] at this)).mono ?_; rintro e w4 ⟨v4, rfl, hO4, hb4⟩; obtain ⟨A4, k4, rfl⟩ := own_form hO4; obtain ⟨Af, kf, hff⟩ := own_form hS3.se.ofv; have hkp := Se.kept hS3.se hb4 hO4; have HKP := Lib.hid hkp; have hl3 := hS3.se.lt; have g11 : w4.cell? ⟨sb, 11, none⟩ = some (.slice Af (c1.up P ((l1.drop (i + 1)).flatMap (·.2)) dn3 tv3 ts3 r3 xo3 xh3 q3).fl.length kf) := (hb4.cell (p := ⟨sb, 11, none⟩) hl3).trans ((hS3.se.cell 11).trans (congrArg some hff)); have k11 : w4.frozen? ⟨sb, 11, none⟩ = false := (hb4.frozen (p := ⟨sb, 11, none⟩) hl3).trans (hS3.se.row.frozen 11); have HS3 := Lib.hid hS3; have HR3 := Lib.hid hR3; have HB3 := Lib.hid hb3; clear hS3 hR3 hb3 hrd hO4 hb4 hkp hff))
        · obtain ⟨hb3, dn3, tv3, ts3, r3, xo3, xh3, q3, hS3, hR3⟩ := HF.out
          have hd2 := HD.out
          rw [hR3] at hd2
          refine ⟨⟨i + 1, by simp, by omega, Lib.hid ((HB.out.trans (HB2.out.mono (by have := HST.out.se.lt; omega))).trans (HB00.out ▸ hb3)), Lib.hid ⟨_, _, _, _, _, _, _, hS3.sp HPL.out, by simpa using hd2⟩⟩, ?_⟩
          simp [intOf]
          omega
        · have hrl3 : r3.length = c1.wd := HS3.out.rl
          have hd2 := HD.out
          rw [HR3.out] at hd2
          have hRe : R = (exe dn3 k, q3, some r3) := by simpa using hd2.symm
          have HBX : Hid (Below c.b0 W (w4.setCell ⟨sb, 11, none⟩ (.slice A4 r3.length k4))) := Lib.hid (((HB.out.trans (HB2.out.mono (by have := HST.out.se.lt; omega))).trans (HB00.out ▸ HB3.out)).trans (HB00.out ▸ (show Below c1.b0 w3 (w4.setCell ⟨sb, 11, none⟩ (.slice A4 r3.length k4)) from HKP.out.2)))
          have hse0 := HKP.out.1
          obtain ⟨c2, hc2⟩ : ∃ c2 : Cs, c2 = { c1.up P ((l1.drop (i + 1)).flatMap (·.2)) dn3 tv3 ts3 r3 xo3 xh3 q3 with fv := .slice A4 r3.length k4, fl := r3 } := ⟨_, rfl⟩
          rw [← hc2] at hse0
          have HC2 := Lib.hid hc2
          have HCB : Hid (c2.b0 = c.b0) := Lib.hid (by rw [hc2]; exact HB00.out)
          have HRE := Lib.hid hRe
          have HQ := Lib.hid HS3.out.ql
          have HDL := Lib.hid HS3.out.dle
          have HQN := Lib.hid HS3.out.qn
          have HRL3 := Lib.hid hrl3
          have HSE2 := Lib.hid hse0
          clear hd2 hRe hse0 hc2 HKP HS3 HR3 HB3 HF HD HRI HST HB2 HROW g11 k11 hcell
          generalize w4.setCell ⟨sb, 11, none⟩ (.slice A4 r3.length k4) = wx at *
          have HFIN : Hid (∀ w9 v8 v9, Se w9 sb { c2 with no := c2.xo, nh := c2.xh, nofs := c2.xofs, nhds := c2.xhds, xo := v8, xh := v9, xofs := [], xhds := [] } → Pk.Stepped c sb k l (some r0) w9) := Lib.hid fun w9 v8 v9 h9 => by
            refine ⟨_, ⟨h9, ?_, ?_, ?_, ?_, rfl, rfl, ?_, ?_, ?_⟩, ?_, ?_, ?_, ?_⟩
            · rw [show (if (some r0 : Option Pk.Row).isNone = true then [((0 : Int), Pk.blank c.wd)] else []) = [] from rfl, List.append_nil, ← HL1.out, ← HR.out, HRE.out, HC2.out]; rfl
            · rw [show (if (some r0 : Option Pk.Row).isNone = true then [((0 : Int), Pk.blank c.wd)] else []) = [] from rfl, List.append_nil, ← HL1.out, ← HR.out, HRE.out, HC2.out]; rfl
            · rw [show (if (some r0 : Option Pk.Row).isNone = true then [((0 : Int), Pk.blank c.wd)] else []) = [] from rfl, List.append_nil, ← HL1.out, ← HR.out, HRE.out, HC2.out]; exact HQ.out
            · rw [show (if (some r0 : Option Pk.Row).isNone = true then [((0 : Int), Pk.blank c.wd)] else []) = [] from rfl, List.append_nil, ← HL1.out, ← HR.out, HRE.out, HC2.out]; have := HQN.out; show q3.length ≤ c1.L.length; omega
            · rw [HC2.out]; exact HLT.out.2.2.2.2.2.trans (HV.out.bl.trans (by rw [← HLT.out.2.2.1]; rfl))
            · rw [HC2.out]; intro n hn; have := HDL.out n hn; omega
            · rw [show (if (some r0 : Option Pk.Row).isNone = true then [((0 : Int), Pk.blank c.wd)] else []) = [] from rfl, List.append_nil, ← HL1.out, ← HR.out, HRE.out, HC2.out]; exact ⟨rfl, HRL3.out⟩
            · rw [HC2.out]; exact HLT.out.1
            · rw [HC2.out]; exact HLT.out.2.1
            · rw [HC2.out]; exact HLT.out.2.2.1
            · rw [HC2.out]; exact HB00.out
          have hse2 := HSE2.out
          have d4 : wx.cell? ⟨sb, 4, none⟩ = some (.int .i64 c2.wd) := (hse2.cell 4).trans rfl
          have d5 : wx.cell? ⟨sb, 5, none⟩ = some c2.no := (hse2.cell 5).trans rfl
          have d6 : wx.cell? ⟨sb, 6, none⟩ = some c2.nh := (hse2.cell 6).trans rfl
          have d7 : wx.cell? ⟨sb, 7, none⟩ = some (.int .i64 c2.wd) := (hse2.cell 7).trans rfl
          have d8 : wx.cell? ⟨sb, 8, none⟩ = some c2.xo := (hse2.cell 8).trans rfl
          have d9 : wx.cell? ⟨sb, 9, none⟩ = some c2.xh := (hse2.cell 9).trans rfl
          obtain ⟨A5, k5, e5⟩ := own_form hse2.ono
          obtain ⟨A6, k6, e6⟩ := own_form hse2.onh
          obtain ⟨A8, k8, e8⟩ := own_form hse2.oxo
          obtain ⟨A9, k9, e9⟩ := own_form hse2.oxh
          have hz := Se.swap6 hse2
          have HZ1 := Lib.hid hz.1
          have HZ2 := Lib.hid hz.2
          rw [e5] at d5
          rw [e6] at d6
          rw [e8] at d8
          rw [e9] at d9
          have E5 := Lib.hid e5
          have E6 := Lib.hid e6
          have E8 := Lib.hid e8
          have E9 := Lib.hid e9
          generalize c2.nofs.length = n5 at *
          generalize c2.nhds.length = n6 at *
          generalize c2.xofs.length = n8 at *
          generalize c2.xhds.length = n9 at *
          have f4 := hse2.row.frozen 4
          have f5 := hse2.row.frozen 5
          have f6 := hse2.row.frozen 6
          have f7 := hse2.row.frozen 7
          have f8 := hse2.row.frozen 8
          have f9 := hse2.row.frozen 9
          have hs2 := hse2.lt
          clear hz hse2 e5 e6 e8 e9
          go_wp2_with fail
          go_region_law (fail)
          all_goals
            rw [← E5.out, ← E6.out, ← E8.out, ← E9.out]
            have hz1 := HZ1.out
            have hz2 := HZ2.out
            clear HZ1 HZ2 d4 d5 d6 d7 d8 d9 f4 f5 f6 f7 f8 f9 E5 E6 E8 E9
            generalize ((((((wx.setCell ⟨sb, 4, none⟩ (.int .i64 c2.wd)).setCell ⟨sb, 5, none⟩ c2.xo).setCell ⟨sb, 6, none⟩ c2.xh).setCell ⟨sb, 7, none⟩ (.int .i64 c2.wd)).setCell ⟨sb, 8, none⟩ c2.no).setCell ⟨sb, 9, none⟩ c2.nh).drew = wz at *
            have HZ1 := Lib.hid hz1
            have HZ2 := Lib.hid hz2
            clear hz1 hz2
            go_wp2_with (go_at_call 43; go_must (refine (clear_next HZ1.out).mono ?_; rintro e w9 ⟨rfl, hb9, v8, v9, hS9⟩; have HS9 := Lib.hid hS9; have HB9 := Lib.hid hb9; clear hS9 hb9))
            ((try simp only [Exit.inBlock, Exit.then]); first | (refine bodyPost_ret (results_none rfl _ _ _) rfl ?_) | (refine bodyPost_end (results_none rfl _ _ _) rfl ?_))
            refine ⟨rfl, (HBX.out.trans (HCB.out ▸ HZ2.out)).trans (HCB.out ▸ (show Below c2.b0 _ _ from HB9.out)), ?_⟩
            exact HFIN.out _ _ _ HS9.out
      · have hiI : ¬ (i : Int) < (l1.length : Int) := by omega
        obtain rfl : i = l1.length := by omega
        have hRe : R = (exe dn k, q, none) := by rw [← hD, List.drop_length]; exact due_nil
        obtain ⟨c2, hc2⟩ : ∃ c2 : Cs, c2 = c1.up P ((l1.drop l1.length).flatMap (·.2)) dn tv ts [] xo xh q := ⟨_, rfl⟩
        have HSE2 : Hid (Se wr sb c2) := Lib.hid (by rw [hc2]; exact hSp.se)
        have HC2 := Lib.hid hc2
        have HCB : Hid (c2.b0 = c.b0) := Lib.hid (by rw [hc2]; exact HB00.out)
        have HRE := Lib.hid hRe
        have HQ := Lib.hid hSp.ql
        have HDL := Lib.hid hSp.dle
        have HQN := Lib.hid hSp.qn
        clear hSp hD hc2 hRe
        have HFIN : Hid (∀ w9 v8 v9, Se w9 sb { c2 with no := c2.xo, nh := c2.xh, nofs := c2.xofs, nhds := c2.xhds, xo := v8, xh := v9, xofs := [], xhds := [] } → Pk.Stepped c sb k l (some r0) w9) := Lib.hid fun w9 v8 v9 h9 => by
          refine ⟨_, ⟨h9, ?_, ?_, ?_, ?_, rfl, rfl, ?_, ?_, ?_⟩, ?_, ?_, ?_, ?_⟩
          · rw [show (if (some r0 : Option Pk.Row).isNone = true then [((0 : Int), Pk.blank c.wd)] else []) = [] from rfl, List.append_nil, ← HL1.out, ← HR.out, HRE.out, HC2.out]; rfl
          · rw [show (if (some r0 : Option Pk.Row).isNone = true then [((0 : Int), Pk.blank c.wd)] else []) = [] from rfl, List.append_nil, ← HL1.out, ← HR.out, HRE.out, HC2.out]; rfl
          · rw [show (if (some r0 : Option Pk.Row).isNone = true then [((0 : Int), Pk.blank c.wd)] else []) = [] from rfl, List.append_nil, ← HL1.out, ← HR.out, HRE.out, HC2.out]; exact HQ.out
          · rw [show (if (some r0 : Option Pk.Row).isNone = true then [((0 : Int), Pk.blank c.wd)] else []) = [] from rfl, List.append_nil, ← HL1.out, ← HR.out, HRE.out, HC2.out]; have := HQN.out; show q.length ≤ c1.L.length; omega
          · rw [HC2.out]; exact HLT.out.2.2.2.2.2.trans (HV.out.bl.trans (by rw [← HLT.out.2.2.1]; rfl))
          · rw [HC2.out]; intro n hn; have := HDL.out n hn; omega
          · rw [show (if (some r0 : Option Pk.Row).isNone = true then [((0 : Int), Pk.blank c.wd)] else []) = [] from rfl, List.append_nil, ← HL1.out, ← HR.out, HRE.out, HC2.out]; exact ⟨HLT.out.2.2.2.2.1.trans HV.out.fnd.1, HV.out.fnd.2.trans HLT.out.2.2.1.symm⟩
          · rw [HC2.out]; exact HLT.out.1
          · rw [HC2.out]; exact HLT.out.2.1
          · rw [HC2.out]; exact HLT.out.2.2.1
          · rw [HC2.out]; exact HB00.out
        have hse2 := HSE2.out
        have d4 : wr.cell? ⟨sb, 4, none⟩ = some (.int .i64 c2.wd) := (hse2.cell 4).trans rfl
        have d5 : wr.cell? ⟨sb, 5, none⟩ = some c2.no := (hse2.cell 5).trans rfl
        have d6 : wr.cell? ⟨sb, 6, none⟩ = some c2.nh := (hse2.cell 6).trans rfl
        have d7 : wr.cell? ⟨sb, 7, none⟩ = some (.int .i64 c2.wd) := (hse2.cell 7).trans rfl
        have d8 : wr.cell? ⟨sb, 8, none⟩ = some c2.xo := (hse2.cell 8).trans rfl
        have d9 : wr.cell? ⟨sb, 9, none⟩ = some c2.xh := (hse2.cell 9).trans rfl
        obtain ⟨A5, k5, e5⟩ := own_form hse2.ono
        obtain ⟨A6, k6, e6⟩ := own_form hse2.onh
        obtain ⟨A8, k8, e8⟩ := own_form hse2.oxo
        obtain ⟨A9, k9, e9⟩ := own_form hse2.oxh
        have hz := Se.swap6 hse2
        have HZ1 := Lib.hid hz.1
        have HZ2 := Lib.hid hz.2
        rw [e5] at d5
        rw [e6] at d6
        rw [e8] at d8
        rw [e9] at d9
        have E5 := Lib.hid e5
        have E6 := Lib.hid e6
        have E8 := Lib.hid e8
        have E9 := Lib.hid e9
        generalize c2.nofs.length = n5 at *
        generalize c2.nhds.length = n6 at *
        generalize c2.xofs.length = n8 at *
        generalize c2.xhds.length = n9 at *
        have f4 := hse2.row.frozen 4
        have f5 := hse2.row.frozen 5
        have f6 := hse2.row.frozen 6
        have f7 := hse2.row.frozen 7
        have f8 := hse2.row.frozen 8
        have f9 := hse2.row.frozen 9
        have hs2 := hse2.lt
        clear hz hse2 e5 e6 e8 e9
        go_wp2_with fail
        go_region_law (fail)
        all_goals
          rw [← E5.out, ← E6.out, ← E8.out, ← E9.out]
          have hz1 := HZ1.out
          have hz2 := HZ2.out
          clear HZ1 HZ2 d4 d5 d6 d7 d8 d9 f4 f5 f6 f7 f8 f9 E5 E6 E8 E9
          generalize ((((((wr.setCell ⟨sb, 4, none⟩ (.int .i64 c2.wd)).setCell ⟨sb, 5, none⟩ c2.xo).setCell ⟨sb, 6, none⟩ c2.xh).setCell ⟨sb, 7, none⟩ (.int .i64 c2.wd)).setCell ⟨sb, 8, none⟩ c2.no).setCell ⟨sb, 9, none⟩ c2.nh).drew = wz at *
          have HZ1 := Lib.hid hz1
          have HZ2 := Lib.hid hz2
          clear hz1 hz2
          go_wp2_with (go_at_call 43; go_must (refine (clear_next HZ1.out).mono ?_; rintro e w9 ⟨rfl, hb9, v8, v9, hS9⟩; have HS9 := Lib.hid hS9; have HB9 := Lib.hid hb9; clear hS9 hb9))
          ((try simp only [Exit.inBlock, Exit.then]); first | (refine bodyPost_ret (results_none rfl _ _ _) rfl ?_) | (refine bodyPost_end (results_none rfl _ _ _) rfl ?_))
          refine ⟨rfl, (HB.out.trans (HCB.out ▸ HZ2.out)).trans (HCB.out ▸ (show Below c2.b0 _ _ from HB9.out)), ?_⟩
          exact HFIN.out _ _ _ HS9.out
  | none =>
    have c11 : W.cell? ⟨sb, 11, none⟩ = some (.slice none 0 0) := (hV.se.cell 11).trans (congrArg some hV.fnd.2)
    have c3 : W.cell? ⟨sb, 3, none⟩ = some c.bv := (hV.se.cell 3).trans rfl
    have hbl : c.bl.length = c.wd := by rw [hV.bl]; simp [Pk.blank]
    obtain ⟨gb, cb, hbv, hgb⟩ := own_some hV.se.obl (by omega)
    have hob := hV.se.obl
    rw [hbv] at c3 hob
    have hrd : Rd W (fun i => c.b0 ≤ i ∧ i ≠ sb) (some ⟨gb, 0, none⟩) (iv c.bl) := fun _ => ⟨_, rfl, hgb.2, ⟨hgb.1, fun e => hV.se.bvne (by rw [hbv, ← e]; rfl)⟩, fun j u hu => by
      have hj : j < c.bl.length := by have := (List.getElem?_eq_some_iff.1 hu).1; rwa [iv_len] at this
      rw [Addr.add_lit, Nat.zero_add, World.ownsRow.cellAt hob j (by omega)]
      exact hu⟩
    have hap : ∀ ad, some (⟨gb, 0, none⟩ : Addr) = some ad → c.nh.ownBlock ≠ some ad.block := fun ad he e => by
      cases he
      have hp := hV.se.own.apart
      unfold Cs.own at hp
      simp only [List.pairwise_cons] at hp
      exact hp.2.1 (oi c.nh c.nhds) (by simp) gb (by show c.bv.ownBlock = _; rw [hbv]; rfl) e
    have hln : c.nofs.length = l.length * c.wd := by rw [hV.nofs]; exact flat_rows hV.rows
    have hlw : l.length * c.wd ≤ 4096 * 4096 := Nat.mul_le_mul (by have := hV.cnt; omega) hbw
    have hld : c.nhds.length = l.length := by rw [hV.nhds, List.length_map]
    have hcnt := hV.cnt
    have HADD := Lib.hid (add_now (m := c.wd) hV.se.drew 0 (some ⟨gb, 0, none⟩) c.bl cb hbl.symm hrd hap (by omega) (by omega) (by omega))
    clear hV hbv hob hrd hap hk hln hlw hld
    go_enter Try.func26, Try.ntmps26
    go_wp2_with fail
    go_region_law (go_simp; go_at_call 39; go_must (refine HADD.out.mono ?_; rintro e w1 ⟨rfl, hb1, v1, v2, hS1⟩; have HB1 : Hid (Below c.b0 W w1) := Lib.hid ⟨hb1.os, hb1.tape, hb1.output, hb1.size, hb1.block⟩; have HS1 := Lib.hid hS1; clear hb1))
    all_goals
      obtain ⟨l1, hl1⟩ : ∃ l1 : List (Int × Row), l1 = l ++ [((0 : Int), Pk.blank c.wd)] := ⟨_, rfl⟩
      have hse : Se w1 sb { c with no := v1, nh := v2, nofs := l1.flatMap (·.2), nhds := l1.map (·.1) } := by
        have e1 := HV.out.nofs
        have e2 := HV.out.nhds
        have e3 := HV.out.bl
        rw [hl1, List.flatMap_append, List.map_append]
        cases c
        simp only at e1 e2 e3
        subst e1 e2 e3
        simpa using hS1
      have c6 : w1.cell? ⟨sb, 6, none⟩ = some v2 := (hse.cell 6).trans rfl
      obtain ⟨Ah, ch, hvh⟩ := own_form hse.onh
      have hvh : v2 = .slice Ah (l1.map (·.1)).length ch := hvh
      rw [List.length_map] at hvh
      rw [hvh] at c6
      have HSE := Lib.hid hse
      have HVH := Lib.hid hvh
      have hw1s := hse.lt
      have hl1r : ∀ e ∈ l1, e.2.length = c.wd := fun e he => by
        rw [hl1] at he
        rcases List.mem_append.1 he with he | he
        · exact HV.out.rows e he
        · rw [List.mem_singleton.1 he]; simp [Pk.blank]
      have hl1c : l1.length ≤ c.L.length + 1 := by rw [hl1]; have := HV.out.cnt; simp; omega
      have HL1 := Lib.hid hl1
      clear hS1 hse hvh hl1
      go_wp2_with fail
      obtain ⟨c1, hc1⟩ : ∃ c1 : Cs, c1 = { c with no := v1, nh := v2, nhds := l1.map (·.1) } := ⟨_, rfl⟩
      have hSp0 : Sp c1 l1 k w1 sb 0 c.dn c.tv c.ts c.xo c.xh [] [] := by rw [hc1]; exact HB0.out _ _ _ _ HSE.out hl1r
      obtain ⟨R, hR⟩ : ∃ R : Res1, R = lev c.L c.t k (fun _ => false) l1 := ⟨_, rfl⟩
      have HR := Lib.hid hR
      have HLT : Hid (c1.L = c.L ∧ c1.t = c.t ∧ c1.wd = c.wd ∧ c1.fv = c.fv ∧ c1.fl = c.fl ∧ c1.bl = c.bl) := Lib.hid (by rw [hc1]; exact ⟨rfl, rfl, rfl, rfl, rfl, rfl⟩)
      have HB00 : Hid (c1.b0 = c.b0) := Lib.hid (by rw [hc1])
      have H0 : Hid (∃ dn tv ts xo xh q P, Sp c1 l1 k w1 sb 0 dn tv ts xo xh q P ∧ Pk.due c1.L c1.t k (exe dn k) q (l1.drop 0) = R) := Lib.hid ⟨_, _, _, _, _, _, _, hSp0, by rw [HLT.out.1, HLT.out.2.1, hR, exe_none HV.out.dle, List.drop_zero]; unfold Pk.due; exact full_nil _⟩
      have HRW : Hid (∀ e ∈ l1, e.2.length = c1.wd) := Lib.hid (by rw [hc1]; exact hl1r)
      have hlc : l1.length ≤ 5000 := by omega
      have HNH : Hid (c1.nh = .slice Ah l1.length ch) := Lib.hid (by rw [hc1]; exact HVH.out)
      have HND : Hid (c1.nhds = l1.map (·.1)) := Lib.hid (by rw [hc1])
      clear hSp0 hc1 hR hl1r hl1c
      go_loopw [26, 4, 5, 6] (fun ix _ _ _ wr => ∃ i : Nat, ix = .int .i64 (i : Int) ∧ i ≤ l1.length ∧ Hid (Below c.b0 W wr) ∧ Hid (∃ dn tv ts xo xh q P, Sp c1 l1 k wr sb i dn tv ts xo xh q P ∧ Pk.due c1.L c1.t k (exe dn k) q (l1.drop i) = R)) (fun ix _ _ _ _ => l1.length - (intOf ix).toNat)
      case atStart => exact ⟨0, rfl, Nat.zero_le _, HB1, H0⟩
      case round =>
        obtain ⟨i, rfl, hi, HB, H1⟩ := hrel
        obtain ⟨dn, tv, ts, xo, xh, q, P, hSp, hD⟩ := H1.out
        clear H1 H0
        by_cases hlt : i < l1.length
        · have hiI : (i : Int) < (l1.length : Int) := by omega
          have hwd1 : c1.wd = c.wd := HLT.out.2.2.1
          have hki : k ≤ c1.t.length := by rw [HLT.out.2.1]; exact HK.out
          have hst := hSp.st HRW.out hlt
          have hrl : (l1[i].2).length = c1.wd := HRW.out _ (List.getElem_mem hlt)
          obtain ⟨g, cap, hvno⟩ := hst.block
          have hpl := hSp.pl
          have hnl : (P ++ (l1[i].2 ++ (l1.drop (i + 1)).flatMap (·.2))).length = l1.length * c1.wd := by
            rw [List.length_append, List.length_append, hpl, hrl, Pk.flat_rows (n := c1.wd) (fun e he => HRW.out e (List.mem_of_mem_drop he)), List.length_drop]
            have : l1.length = i + (1 + (l1.length - (i + 1))) := by omega
            rw [this, Nat.add_mul, Nat.add_mul, Nat.one_mul]
            have e2 : i + (1 + (l1.length - (i + 1))) - (i + 1) = l1.length - (i + 1) := by omega
            rw [e2]
          have hnw : l1.length * c1.wd ≤ 5000 * 4096 := by rw [hwd1]; exact Nat.mul_le_mul hlc hbw
          have hiw : (i + 1) * c1.wd ≤ l1.length * c1.wd := Nat.mul_le_mul_right _ (by omega)
          -- the list of heads, as it was when the loop began
          have hnh := hSp.se.onh
          have hnh : wr.ownsRow c1.b0 intT 1 c1.nh (l1.map (·.1)).length (iv (l1.map (·.1))) := by
            have := HND.out
            rw [← this]; exact hnh
          rw [List.length_map] at hnh
          obtain ⟨gh, chh, hvh2, _⟩ := own_some hnh (by omega)
          have hAh : Ah = some ⟨gh, 0, none⟩ := by
            have := HNH.out.symm.trans hvh2
            cases this
            rfl
          rw [hvh2] at hnh
          have hcell : wr.cell? ⟨gh, i, none⟩ = some (.int .i64 l1[i].1) := by
            rw [World.ownsRow.cellAt hnh i (by omega), iv_get _ _ (by rw [List.length_map]; exact hlt), List.getElem_map]
          subst hAh
          have HROW : Hid (Calls Try.prog 40 #[.pointer (some ⟨sb, 4, none⟩), .int .i64 (i : Int)] wr fun e W' => (∃ cp, e = .returned (.slice (some ⟨g, P.length, none⟩) c.wd cp)) ∧ Below wr.heap.size wr W') := by
            have := row_now hst.se hvno i (by show (i + 1) * c1.wd ≤ (P ++ (l1[i].2 ++ (l1.drop (i + 1)).flatMap (·.2))).length; omega) (by show (P ++ (l1[i].2 ++ (l1.drop (i + 1)).flatMap (·.2))).length ≤ _; omega)
            refine Lib.hid ?_
            rw [hpl, ← hwd1]
            exact this
          have HST := Lib.hid hst
          have HVN := Lib.hid hvno
          have HPL := Lib.hid hpl
          have HD : Hid ((match Pk.due c1.L c1.t k (exe dn k) q [l1[i]] with
            | (B, q, some r) => (B, q, some r)
            | (B, q, none) => Pk.due c1.L c1.t k B q (l1.drop (i + 1))) = R) := Lib.hid (by rw [← hD, List.drop_eq_getElem_cons hlt]; exact due_cons.symm)
          obtain ⟨Ri, hRi⟩ : ∃ Ri, Pk.due c1.L c1.t k (exe dn k) q [l1[i]] = Ri := ⟨_, rfl⟩
          rw [hRi] at HD
          have HRI : Hid (Pk.due c1.L c1.t k (exe dn k) q [(l1[i].1, l1[i].2)] = Ri) := Lib.hid hRi
          have HWD := Lib.hid hwd1
          have hrl5 : c1.wd ≤ 4096 := by omega
          clear hSp hD hst hvno hnl hnw hiw hvh2 hnh hRi hpl hrl hwd1
          go_wp2_with first
            | (go_at_call 40; go_must (refine HROW.out.mono ?_; rintro e w2 ⟨⟨cp, rfl⟩, hb2⟩; have HB2 := Lib.hid hb2; clear hb2))
            | (go_at_call 41; go_must (have hfol := follow_any (cp := cp) hki (HST.out.keep HB2.out) l1[i].1 HVN.out HRI.out; rw [HWD.out] at hfol; refine hfol.mono ?_; clear hfol; rintro e w3 ⟨b, rfl, hf⟩; have HF := Lib.hid hf; clear hf; cases b))
            | (go_at_call 42; go_must (obtain ⟨hb3, dn3, tv3, ts3, r3, xo3, xh3, q3, hS3, hR3⟩ := HF.out; have hrd := (hS3.rd (by rw [HVN.out]; congr 1; simp; rw [hS3.rl, HRW.out _ (List.getElem_mem hlt)])).1; refine (Pk.clone_any (r := r3) (o := P.length) (g := g) (n := c.wd) (HWD.out.symm.trans hS3.rl.symm) (by rw [hS3.rl]; omega) (fun j u hu => by obtain ⟨ad, ea, _, _, hc⟩ := hrd (by intro e; rw [e] at hu; cases hu); cases ea; have := hc j u hu; rwa [Addr.add_lit] at this)).mono ?_; rintro e w4 ⟨v4, rfl, hO4, hb4⟩; obtain ⟨A4, k4, rfl⟩ := own_form hO4; obtain ⟨Af, kf, hff⟩ := own_form hS3.se.ofv; have hkp := Se.kept hS3.se hb4 hO4; have HKP := Lib.hid hkp; have hl3 := hS3.se.lt; have g11 : w4.cell? ⟨sb, 11, none⟩ = some (.slice Af (c1.up P ((l1.drop (i + 1)).flatMap (·.2)) dn3 tv3 ts3 r3 xo3 xh3 q3).fl.length kf) := (hb4.cell (p := ⟨sb, 11, none⟩) hl3).trans ((hS3.se.cell 11).trans (congrArg some hff)); have k11 : w4.frozen? ⟨sb, 11, none⟩ = false := (hb4.frozen (p := ⟨sb, 11, none⟩) hl3).trans (hS3.se.row.frozen 11); have HS3 := Lib.hid hS3; have HR3 := Lib.hid hR3; have HB3 := Lib.hid hb3; clear hS3 hR3 hb3 hrd hO4 hb4 hkp hff))
          · obtain ⟨hb3, dn3, tv3, ts3, r3, xo3, xh3, q3, hS3, hR3⟩ := HF.out
            have hd2 := HD.out
            rw [hR3] at hd2
            refine ⟨⟨i + 1, by simp, by omega, Lib.hid ((HB.out.trans (HB2.out.mono (by have := HST.out.se.lt; omega))).trans (HB00.out ▸ hb3)), Lib.hid ⟨_, _, _, _, _, _, _, hS3.sp HPL.out, by simpa using hd2⟩⟩, ?_⟩
            simp [intOf]
            omega
          · have hrl3 : r3.length = c1.wd := HS3.out.rl
            have hd2 := HD.out
            rw [HR3.out] at hd2
            have hRe : R = (exe dn3 k, q3, some r3) := by simpa using hd2.symm
            have HBX : Hid (Below c.b0 W (w4.setCell ⟨sb, 11, none⟩ (.slice A4 r3.length k4))) := Lib.hid (((HB.out.trans (HB2.out.mono (by have := HST.out.se.lt; omega))).trans (HB00.out ▸ HB3.out)).trans (HB00.out ▸ (show Below c1.b0 w3 (w4.setCell ⟨sb, 11, none⟩ (.slice A4 r3.length k4)) from HKP.out.2)))
            have hse0 := HKP.out.1
            obtain ⟨c2, hc2⟩ : ∃ c2 : Cs, c2 = { c1.up P ((l1.drop (i + 1)).flatMap (·.2)) dn3 tv3 ts3 r3 xo3 xh3 q3 with fv := .slice A4 r3.length k4, fl := r3 } := ⟨_, rfl⟩
            rw [← hc2] at hse0
            have HC2 := Lib.hid hc2
            have HCB : Hid (c2.b0 = c.b0) := Lib.hid (by rw [hc2]; exact HB00.out)
            have HRE := Lib.hid hRe
            have HQ := Lib.hid HS3.out.ql
            have HDL := Lib.hid HS3.out.dle
            have HQN := Lib.hid HS3.out.qn
            have HRL3 := Lib.hid hrl3
            have HSE2 := Lib.hid hse0
            clear hd2 hRe hse0 hc2 HKP HS3 HR3 HB3 HF HD HRI HST HB2 HROW g11 k11 hcell
            generalize w4.setCell ⟨sb, 11, none⟩ (.slice A4 r3.length k4) = wx at *
            have HFIN : Hid (∀ w9 v8 v9, Se w9 sb { c2 with no := c2.xo, nh := c2.xh, nofs := c2.xofs, nhds := c2.xhds, xo := v8, xh := v9, xofs := [], xhds := [] } → Pk.Stepped c sb k l none w9) := Lib.hid fun w9 v8 v9 h9 => by
              refine ⟨_, ⟨h9, ?_, ?_, ?_, ?_, rfl, rfl, ?_, ?_, ?_⟩, ?_, ?_, ?_, ?_⟩
              · rw [show (if (none : Option Pk.Row).isNone = true then [((0 : Int), Pk.blank c.wd)] else []) = [((0 : Int), Pk.blank c.wd)] from rfl, ← HL1.out, ← HR.out, HRE.out, HC2.out]; rfl
              · rw [show (if (none : Option Pk.Row).isNone = true then [((0 : Int), Pk.blank c.wd)] else []) = [((0 : Int), Pk.blank c.wd)] from rfl, ← HL1.out, ← HR.out, HRE.out, HC2.out]; rfl
              · rw [show (if (none : Option Pk.Row).isNone = true then [((0 : Int), Pk.blank c.wd)] else []) = [((0 : Int), Pk.blank c.wd)] from rfl, ← HL1.out, ← HR.out, HRE.out, HC2.out]; exact HQ.out
              · rw [show (if (none : Option Pk.Row).isNone = true then [((0 : Int), Pk.blank c.wd)] else []) = [((0 : Int), Pk.blank c.wd)] from rfl, ← HL1.out, ← HR.out, HRE.out, HC2.out]; have := HQN.out; show q3.length ≤ c1.L.length; omega
              · rw [HC2.out]; exact HLT.out.2.2.2.2.2.trans (HV.out.bl.trans (by rw [← HLT.out.2.2.1]; rfl))
              · rw [HC2.out]; intro n hn; have := HDL.out n hn; omega
              · rw [show (if (none : Option Pk.Row).isNone = true then [((0 : Int), Pk.blank c.wd)] else []) = [((0 : Int), Pk.blank c.wd)] from rfl, ← HL1.out, ← HR.out, HRE.out, HC2.out]; exact ⟨rfl, HRL3.out⟩
              · rw [HC2.out]; exact HLT.out.1
              · rw [HC2.out]; exact HLT.out.2.1
              · rw [HC2.out]; exact HLT.out.2.2.1
              · rw [HC2.out]; exact HB00.out
            have hse2 := HSE2.out
            have d4 : wx.cell? ⟨sb, 4, none⟩ = some (.int .i64 c2.wd) := (hse2.cell 4).trans rfl
            have d5 : wx.cell? ⟨sb, 5, none⟩ = some c2.no := (hse2.cell 5).trans rfl
            have d6 : wx.cell? ⟨sb, 6, none⟩ = some c2.nh := (hse2.cell 6).trans rfl
            have d7 : wx.cell? ⟨sb, 7, none⟩ = some (.int .i64 c2.wd) := (hse2.cell 7).trans rfl
            have d8 : wx.cell? ⟨sb, 8, none⟩ = some c2.xo := (hse2.cell 8).trans rfl
            have d9 : wx.cell? ⟨sb, 9, none⟩ = some c2.xh := (hse2.cell 9).trans rfl
            obtain ⟨A5, k5, e5⟩ := own_form hse2.ono
            obtain ⟨A6, k6, e6⟩ := own_form hse2.onh
            obtain ⟨A8, k8, e8⟩ := own_form hse2.oxo
            obtain ⟨A9, k9, e9⟩ := own_form hse2.oxh
            have hz := Se.swap6 hse2
            have HZ1 := Lib.hid hz.1
            have HZ2 := Lib.hid hz.2
            rw [e5] at d5
            rw [e6] at d6
            rw [e8] at d8
            rw [e9] at d9
            have E5 := Lib.hid e5
            have E6 := Lib.hid e6
            have E8 := Lib.hid e8
            have E9 := Lib.hid e9
            generalize c2.nofs.length = n5 at *
            generalize c2.nhds.length = n6 at *
            generalize c2.xofs.length = n8 at *
            generalize c2.xhds.length = n9 at *
            have f4 := hse2.row.frozen 4
            have f5 := hse2.row.frozen 5
            have f6 := hse2.row.frozen 6
            have f7 := hse2.row.frozen 7
            have f8 := hse2.row.frozen 8
            have f9 := hse2.row.frozen 9
            have hs2 := hse2.lt
            clear hz hse2 e5 e6 e8 e9
            go_wp2_with fail
            go_region_law (fail)
            all_goals
              rw [← E5.out, ← E6.out, ← E8.out, ← E9.out]
              have hz1 := HZ1.out
              have hz2 := HZ2.out
              clear HZ1 HZ2 d4 d5 d6 d7 d8 d9 f4 f5 f6 f7 f8 f9 E5 E6 E8 E9
              generalize ((((((wx.setCell ⟨sb, 4, none⟩ (.int .i64 c2.wd)).setCell ⟨sb, 5, none⟩ c2.xo).setCell ⟨sb, 6, none⟩ c2.xh).setCell ⟨sb, 7, none⟩ (.int .i64 c2.wd)).setCell ⟨sb, 8, none⟩ c2.no).setCell ⟨sb, 9, none⟩ c2.nh).drew = wz at *
              have HZ1 := Lib.hid hz1
              have HZ2 := Lib.hid hz2
              clear hz1 hz2
              go_wp2_with (go_at_call 43; go_must (refine (clear_next HZ1.out).mono ?_; rintro e w9 ⟨rfl, hb9, v8, v9, hS9⟩; have HS9 := Lib.hid hS9; have HB9 := Lib.hid hb9; clear hS9 hb9))
              ((try simp only [Exit.inBlock, Exit.then]); first | (refine bodyPost_ret (results_none rfl _ _ _) rfl ?_) | (refine bodyPost_end (results_none rfl _ _ _) rfl ?_))
              refine ⟨rfl, (HBX.out.trans (HCB.out ▸ HZ2.out)).trans (HCB.out ▸ (show Below c2.b0 _ _ from HB9.out)), ?_⟩
              exact HFIN.out _ _ _ HS9.out
        · have hiI : ¬ (i : Int) < (l1.length : Int) := by omega
          obtain rfl : i = l1.length := by omega
          have hRe : R = (exe dn k, q, none) := by rw [← hD, List.drop_length]; exact due_nil
          obtain ⟨c2, hc2⟩ : ∃ c2 : Cs, c2 = c1.up P ((l1.drop l1.length).flatMap (·.2)) dn tv ts [] xo xh q := ⟨_, rfl⟩
          have HSE2 : Hid (Se wr sb c2) := Lib.hid (by rw [hc2]; exact hSp.se)
          have HC2 := Lib.hid hc2
          have HCB : Hid (c2.b0 = c.b0) := Lib.hid (by rw [hc2]; exact HB00.out)
          have HRE := Lib.hid hRe
          have HQ := Lib.hid hSp.ql
          have HDL := Lib.hid hSp.dle
          have HQN := Lib.hid hSp.qn
          clear hSp hD hc2 hRe
          have HFIN : Hid (∀ w9 v8 v9, Se w9 sb { c2 with no := c2.xo, nh := c2.xh, nofs := c2.xofs, nhds := c2.xhds, xo := v8, xh := v9, xofs := [], xhds := [] } → Pk.Stepped c sb k l none w9) := Lib.hid fun w9 v8 v9 h9 => by
            refine ⟨_, ⟨h9, ?_, ?_, ?_, ?_, rfl, rfl, ?_, ?_, ?_⟩, ?_, ?_, ?_, ?_⟩
            · rw [show (if (none : Option Pk.Row).isNone = true then [((0 : Int), Pk.blank c.wd)] else []) = [((0 : Int), Pk.blank c.wd)] from rfl, ← HL1.out, ← HR.out, HRE.out, HC2.out]; rfl
            · rw [show (if (none : Option Pk.Row).isNone = true then [((0 : Int), Pk.blank c.wd)] else []) = [((0 : Int), Pk.blank c.wd)] from rfl, ← HL1.out, ← HR.out, HRE.out, HC2.out]; rfl
            · rw [show (if (none : Option Pk.Row).isNone = true then [((0 : Int), Pk.blank c.wd)] else []) = [((0 : Int), Pk.blank c.wd)] from rfl, ← HL1.out, ← HR.out, HRE.out, HC2.out]; exact HQ.out
            · rw [show (if (none : Option Pk.Row).isNone = true then [((0 : Int), Pk.blank c.wd)] else []) = [((0 : Int), Pk.blank c.wd)] from rfl, ← HL1.out, ← HR.out, HRE.out, HC2.out]; have := HQN.out; show q.length ≤ c1.L.length; omega
            · rw [HC2.out]; exact HLT.out.2.2.2.2.2.trans (HV.out.bl.trans (by rw [← HLT.out.2.2.1]; rfl))
            · rw [HC2.out]; intro n hn; have := HDL.out n hn; omega
            · rw [show (if (none : Option Pk.Row).isNone = true then [((0 : Int), Pk.blank c.wd)] else []) = [((0 : Int), Pk.blank c.wd)] from rfl, ← HL1.out, ← HR.out, HRE.out, HC2.out]; exact ⟨HLT.out.2.2.2.2.1.trans HV.out.fnd.1, HLT.out.2.2.2.1.trans HV.out.fnd.2⟩
            · rw [HC2.out]; exact HLT.out.1
            · rw [HC2.out]; exact HLT.out.2.1
            · rw [HC2.out]; exact HLT.out.2.2.1
            · rw [HC2.out]; exact HB00.out
          have hse2 := HSE2.out
          have d4 : wr.cell? ⟨sb, 4, none⟩ = some (.int .i64 c2.wd) := (hse2.cell 4).trans rfl
          have d5 : wr.cell? ⟨sb, 5, none⟩ = some c2.no := (hse2.cell 5).trans rfl
          have d6 : wr.cell? ⟨sb, 6, none⟩ = some c2.nh := (hse2.cell 6).trans rfl
          have d7 : wr.cell? ⟨sb, 7, none⟩ = some (.int .i64 c2.wd) := (hse2.cell 7).trans rfl
          have d8 : wr.cell? ⟨sb, 8, none⟩ = some c2.xo := (hse2.cell 8).trans rfl
          have d9 : wr.cell? ⟨sb, 9, none⟩ = some c2.xh := (hse2.cell 9).trans rfl
          obtain ⟨A5, k5, e5⟩ := own_form hse2.ono
          obtain ⟨A6, k6, e6⟩ := own_form hse2.onh
          obtain ⟨A8, k8, e8⟩ := own_form hse2.oxo
          obtain ⟨A9, k9, e9⟩ := own_form hse2.oxh
          have hz := Se.swap6 hse2
          have HZ1 := Lib.hid hz.1
          have HZ2 := Lib.hid hz.2
          rw [e5] at d5
          rw [e6] at d6
          rw [e8] at d8
          rw [e9] at d9
          have E5 := Lib.hid e5
          have E6 := Lib.hid e6
          have E8 := Lib.hid e8
          have E9 := Lib.hid e9
          generalize c2.nofs.length = n5 at *
          generalize c2.nhds.length = n6 at *
          generalize c2.xofs.length = n8 at *
          generalize c2.xhds.length = n9 at *
          have f4 := hse2.row.frozen 4
          have f5 := hse2.row.frozen 5
          have f6 := hse2.row.frozen 6
          have f7 := hse2.row.frozen 7
          have f8 := hse2.row.frozen 8
          have f9 := hse2.row.frozen 9
          have hs2 := hse2.lt
          clear hz hse2 e5 e6 e8 e9
          go_wp2_with fail
          go_region_law (fail)
          all_goals
            rw [← E5.out, ← E6.out, ← E8.out, ← E9.out]
            have hz1 := HZ1.out
            have hz2 := HZ2.out
            clear HZ1 HZ2 d4 d5 d6 d7 d8 d9 f4 f5 f6 f7 f8 f9 E5 E6 E8 E9
            generalize ((((((wr.setCell ⟨sb, 4, none⟩ (.int .i64 c2.wd)).setCell ⟨sb, 5, none⟩ c2.xo).setCell ⟨sb, 6, none⟩ c2.xh).setCell ⟨sb, 7, none⟩ (.int .i64 c2.wd)).setCell ⟨sb, 8, none⟩ c2.no).setCell ⟨sb, 9, none⟩ c2.nh).drew = wz at *
            have HZ1 := Lib.hid hz1
            have HZ2 := Lib.hid hz2
            clear hz1 hz2
            go_wp2_with (go_at_call 43; go_must (refine (clear_next HZ1.out).mono ?_; rintro e w9 ⟨rfl, hb9, v8, v9, hS9⟩; have HS9 := Lib.hid hS9; have HB9 := Lib.hid hb9; clear hS9 hb9))
            ((try simp only [Exit.inBlock, Exit.then]); first | (refine bodyPost_ret (results_none rfl _ _ _) rfl ?_) | (refine bodyPost_end (results_none rfl _ _ _) rfl ?_))
            refine ⟨rfl, (HB.out.trans (HCB.out ▸ HZ2.out)).trans (HCB.out ▸ (show Below c2.b0 _ _ from HB9.out)), ?_⟩
            exact HFIN.out _ _ _ HS9.out
end Go.Proofs.Ytelbabgkpflckaa
