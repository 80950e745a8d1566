/-
  PkRun: CONTRACTS: chapter 12: run: a path, as far as it goes at an offset.
-/
import Derived.Test.YtelbabgkpflckaaJ21

set_option linter.unusedSimpArgs false
set_option linter.unusedVariables false
namespace Go.Proofs.Ytelbabgkpflckaa
open Go.RowKit Go.Sort
open Me
open Pk

set_option maxRecDepth 100000 in
set_option maxHeartbeats 8000000 in
theorem run_any {W : World} {sb : Nat} {c : Pk.Cs} {pre post : List Int} {k M : Nat} (hk : k ≤ c.t.length) (hM : M ≤ 100000) {dn : List Int} {tv : Value} {ts : List Pk.Tn} {r : Pk.Row} {xo xh : Value} {q : List (Int × Pk.Row)} (hS : Pk.St c pre post k M W sb dn tv ts r xo xh q) (hd : Int)
    {g cap cp : Nat} (hv : c.no = .slice (some ⟨g, 0, none⟩) (pre ++ (r ++ post)).length cap) {R : Pk.Res1} (hR : Pk.due c.L c.t k (Pk.exe dn k) q ((hd, r) :: Pk.den r ts) = R) :
    Calls Try.prog 54 #[.pointer (some ⟨sb, 0, none⟩), .int .i64 hd, .slice (some ⟨g, pre.length, none⟩) c.wd cp, .int .i64 (k : Int)] W fun e W' => ∃ b, e = .returned (.bool b) ∧ Pk.Ran c pre post k M W sb R b W' := by
  have hpl : (pre ++ (r ++ post)).length = pre.length + c.wd + post.length := by simp; have := hS.rl; omega
  rw [hpl] at hv
  have HV := Lib.hid hv
  have hbt : c.t.length ≤ 1048576 := hS.se.bt
  have hle : c.b0 ≤ sb := hS.se.le
  have HK := Lib.hid hk
  clear hv hpl
  have H0 : Hid (∃ dn tv ts r xo xh q, Pk.St c pre post k M W sb dn tv ts r xo xh q ∧ Pk.due c.L c.t k (Pk.exe dn k) q ((hd, r) :: Pk.den r ts) = R) := Lib.hid ⟨_, _, _, _, _, _, _, hS, hR⟩
  clear hS hR
  go_enter Try.func54, Try.ntmps54
  go_wp2_with fail
  go_loopw [1, 9] (fun h x wr => ∃ hd : Int, h = .int .i64 hd ∧ Hid (Below c.b0 W wr) ∧ Hid (∃ dn tv ts r xo xh q, Pk.St c pre post k M wr sb dn tv ts r xo xh q ∧ Pk.due c.L c.t k (Pk.exe dn k) q ((hd, r) :: Pk.den r ts) = R)) (fun h x w => Pk.left (Pk.blockOf c.dv) k c.L.length w)
  case atStart => exact ⟨hd, rfl, Lib.hid (Below.refl _ _), H0⟩
  case round =>
    obtain ⟨h, rfl, HB, H1⟩ := hrel
    obtain ⟨dn, tv, ts, r, xo, xh, q, hSt, hD⟩ := H1.out
    clear H1 H0
    rcases Pk.fetch_cases c.L h with ⟨e0, _⟩ | ⟨x, e0, h0, h1⟩
    · have HE : Hid (Calls Try.prog 62 #[.pointer (some ⟨sb, 0, none⟩), .int .i64 h, .int .i64 (k : Int)] wr fun e W' => e = .returned (.bool false) ∧ W' = wr) := Lib.hid (enter_no hSt.se h k hk (.inl e0))
      have HR : Hid (Pk.Ran c pre post k M W sb R false wr) := Lib.hid ⟨HB.out, _, _, _, _, _, _, _, hSt, by rw [if_neg (by simp), ← hD, Pk.due_out e0]⟩
      clear hSt hD e0 hk
      go_wp2_with (go_at_call 62; go_must (refine HE.out.mono ?_; rintro e w1 ⟨rfl, rfl⟩))
      go_ret
      exact ⟨_, rfl, HR.out⟩
    by_cases hs : Pk.exe dn k h.toNat = true
    · have HE : Hid (Calls Try.prog 62 #[.pointer (some ⟨sb, 0, none⟩), .int .i64 h, .int .i64 (k : Int)] wr fun e W' => e = .returned (.bool false) ∧ W' = wr) := Lib.hid (enter_no hSt.se h k hk (.inr hs))
      have HR : Hid (Pk.Ran c pre post k M W sb R false wr) := Lib.hid ⟨HB.out, _, _, _, _, _, _, _, hSt, by rw [if_neg (by simp), ← hD, Pk.due_seen hs]⟩
      clear hSt hD e0 hk hs
      go_wp2_with (go_at_call 62; go_must (refine HE.out.mono ?_; rintro e w1 ⟨rfl, rfl⟩))
      go_ret
      exact ⟨_, rfl, HR.out⟩
    have hs : Pk.exe dn k h.toNat = false := by simpa using hs
    have HE := Lib.hid (enter_yes hSt.se h k hk e0 hs)
    have HSt := Lib.hid hSt
    have HX := Lib.hid e0
    have HS := Lib.hid hs
    have HD := Lib.hid hD
    clear hSt hD e0 hs hk
    have hw1 : IntKind.i64.wrap (h + 1) = h + 1 := by have := HSt.out.se.bL; have : c.L.length ≤ 4096 := this; rw [IntKind.wrap_i64]; omega
    obtain ⟨xop, xx, xy, xp⟩ := x
    by_cases hop1 : xop = 1
    · subst hop1
      by_cases hkt : k < c.t.length
      · have hkI : (k : Int) < (c.t.length : Int) := by omega
        have z0 : k < (⟨c.t.toArray⟩ : ByteArray).size := by show k < c.t.toArray.size; simpa using hkt
        obtain ⟨b, g0⟩ : ∃ b, (⟨c.t.toArray⟩ : ByteArray)[k]'z0 = b := ⟨_, rfl⟩
        have htk : c.t[k]? = some b := by rw [List.getElem?_eq_getElem hkt, ← g0]; rfl
        have HHas : Hid (∀ W, Calls Try.prog 63 #[.string ⟨xp.toArray⟩, .int .u8 (b.toNat : Int)] W fun e W' => e = .returned (.bool (Rx.has xp b)) ∧ Below W.heap.size W W') := Lib.hid (fun W => (pkHas_any xp b W).mono fun e W' h => ⟨h.1, h.2 ▸ Below.refl _ _⟩)
        cases hh : Rx.has xp b with
        | true =>
          rw [hh] at HHas
          have hact : Pk.act c.t k ⟨1, xx, xy, xp⟩ h r = .next := by simp [Pk.act, htk, hh]
          have HACT := Lib.hid hact
          have HTK := Lib.hid htk
          have hq : q.length + 1 + Pk.free c.L.length (Pk.exe dn k) ≤ c.L.length + 1 := by have := HSt.out.qn; omega
          have hqf : (q.flatMap (·.2)).length ≤ 1073741824 := by
            rw [Pk.flat_rows HSt.out.ql]
            have h1 := HSt.out.qn
            have h2 : c.L.length ≤ 4096 := HSt.out.se.bL
            have h3 : c.wd ≤ 4096 := HSt.out.se.bw
            have := Nat.mul_le_mul (show q.length ≤ 4096 by omega) h3
            omega
          have HQF := Lib.hid hqf
          have hql : q.length ≤ 4096 := by
            have h1 := HSt.out.qn
            have h2 : c.L.length ≤ 4096 := HSt.out.se.bL
            omega
          have hwd : r.length = c.wd := HSt.out.rl
          have hw4 : c.wd ≤ 4096 := HSt.out.se.bw
          have HVr : Hid (c.no = .slice (some ⟨g, 0, none⟩) (pre ++ (r ++ post)).length cap) := Lib.hid (by rw [HV.out]; congr 1; simp; omega)
          clear hact htk hh hqf
          go_wp2_with first
            | (go_at_call 62; go_must (refine HE.out.mono ?_; rintro e w1 ⟨rfl, hS1, hb1⟩; have HM := Lib.hid (HSt.out.marked HX.out HS.out hS1); obtain ⟨pb, po, hpa, hpl, k0, k1, k2, k3⟩ := Pk.prog_cells hS1 HX.out; have hpa : c.pa = some ⟨pb, po, none⟩ := hpa; have d0 : w1.cell? ⟨sb, 0, none⟩ = some (.slice (some ⟨pb, po, none⟩) c.L.length c.pc) := (hS1.cell 0).trans (congrArg some (congrArg (fun z => Value.slice z c.L.length c.pc) hpa)); have d1 : w1.cell? ⟨sb, 1, none⟩ = some (.string ⟨c.t.toArray⟩) := (hS1.cell 1).trans rfl; have hl1 := hS1.lt; have HB1 := Lib.hid (HB.out.trans hb1); clear hS1 hb1 hpa))
            | fail
          have hk1 := (HM.out.1.keep ((Below.refl w1.heap.size w1).alloc (Nat.le_refl _) (.cells #[.int .i64 1, .int .i64 xx, .int .i64 xy, .string ⟨xp.toArray⟩] 56)))
          have hxl : w1.heap.size < (w1.alloc (.cells #[.int .i64 1, .int .i64 xx, .int .i64 xy, .string ⟨xp.toArray⟩] 56)).heap.size := by simp
          have x3 : (w1.alloc (.cells #[.int .i64 1, .int .i64 xx, .int .i64 xy, .string ⟨xp.toArray⟩] 56)).cell? ⟨w1.heap.size, 3, none⟩ = some (.string ⟨xp.toArray⟩) := ((RowAt.new w1 _ _).cell 3).trans rfl
          have x1 : (w1.alloc (.cells #[.int .i64 1, .int .i64 xx, .int .i64 xy, .string ⟨xp.toArray⟩] 56)).cell? ⟨sb, 1, none⟩ = some (.string ⟨c.t.toArray⟩) := (World.cell?_alloc_lt _ _ _ hl1).trans d1
          have hBX := (HB1.out.alloc (by omega) (.cells #[.int .i64 1, .int .i64 xx, .int .i64 xy, .string ⟨xp.toArray⟩] 56))
          have hsl : sb < (w1.alloc (.cells #[.int .i64 1, .int .i64 xx, .int .i64 xy, .string ⟨xp.toArray⟩] 56)).heap.size := by simp; omega
          clear k0 k1 k2 k3 d0 d1 hpl hl1
          generalize w1.heap.size = xb at *
          generalize w1.alloc (.cells #[.int .i64 1, .int .i64 xx, .int .i64 xy, .string ⟨xp.toArray⟩] 56) = wx at *
          have HK1 := Lib.hid hk1
          have HBX := Lib.hid hBX
          have HX3 := Lib.hid x3
          have HX1 := Lib.hid x1
          clear hk1 hBX
          obtain ⟨kc, kf⟩ := Pk.kgrown wx
          refine wp_region_quiet_below (by kernel_rfl) (by kernel_rfl) ?_
          repeat (go_big_quiet_step ((go_at_call 63; exact Calls.regrown_of (HHas.out _))))
          refine wpQuiet_nil ?_
          intro _ hw'
          obtain ⟨⟨dq, osq⟩, hw''⟩ := hw'
          subst hw''
          have hbq := below_regrown wx dq osq
          have HKq := Lib.hid (HK1.out.keep (hbq.mono (Nat.le_refl _)))
          have HBq := Lib.hid (HBX.out.trans (hbq.mono (by omega)))
          clear hbq kc kf
          generalize grow (redrawn wx dq) osq = wq at *
          go_wp2_with first
            | (go_at_call 39; go_must (have hk1 := HKq.out; refine (add_next (m := c.wd) hk1.se (h + 1) (some ⟨g, pre.length, none⟩) r cp hwd.symm (hk1.rd HVr.out).1 (fun ad he => by cases he; exact (hk1.rd HVr.out).2) (by show (q.map (·.1)).length ≤ _; simp; omega) HQF.out (by omega)).mono ?_; rintro e w3 ⟨rfl, hb3, v1, v2, hS3⟩; have HF := Lib.hid (hk1.added (by have := HM.out.2.2; have := HSt.out.qn; omega) hS3); have HBF := Lib.hid (HBq.out.trans hb3); clear hk1 hS3 hb3))
          go_ret
          exact ⟨_, rfl, HBF.out, _, _, _, _, _, _, _, HF.out, by rw [if_neg (by simp), ← HD.out, Pk.due_next HX.out HS.out HACT.out, HM.out.2.1]⟩
        | false =>
          rw [hh] at HHas
          have hact : Pk.act c.t k ⟨1, xx, xy, xp⟩ h r = .dead := by simp [Pk.act, htk, hh]
          have HACT := Lib.hid hact
          clear hact htk hh
          go_wp2_with first
            | (go_at_call 62; go_must (refine HE.out.mono ?_; rintro e w1 ⟨rfl, hS1, hb1⟩; have HM := Lib.hid (HSt.out.marked HX.out HS.out hS1); obtain ⟨pb, po, hpa, hpl, k0, k1, k2, k3⟩ := Pk.prog_cells hS1 HX.out; have hpa : c.pa = some ⟨pb, po, none⟩ := hpa; have d0 : w1.cell? ⟨sb, 0, none⟩ = some (.slice (some ⟨pb, po, none⟩) c.L.length c.pc) := (hS1.cell 0).trans (congrArg some (congrArg (fun z => Value.slice z c.L.length c.pc) hpa)); have d1 : w1.cell? ⟨sb, 1, none⟩ = some (.string ⟨c.t.toArray⟩) := (hS1.cell 1).trans rfl; have hl1 := hS1.lt; have HB1 := Lib.hid (HB.out.trans hb1); clear hS1 hb1 hpa))
          have hk1 := (HM.out.1.keep ((Below.refl w1.heap.size w1).alloc (Nat.le_refl _) (.cells #[.int .i64 1, .int .i64 xx, .int .i64 xy, .string ⟨xp.toArray⟩] 56)))
          have hxl : w1.heap.size < (w1.alloc (.cells #[.int .i64 1, .int .i64 xx, .int .i64 xy, .string ⟨xp.toArray⟩] 56)).heap.size := by simp
          have x3 : (w1.alloc (.cells #[.int .i64 1, .int .i64 xx, .int .i64 xy, .string ⟨xp.toArray⟩] 56)).cell? ⟨w1.heap.size, 3, none⟩ = some (.string ⟨xp.toArray⟩) := ((RowAt.new w1 _ _).cell 3).trans rfl
          have x1 : (w1.alloc (.cells #[.int .i64 1, .int .i64 xx, .int .i64 xy, .string ⟨xp.toArray⟩] 56)).cell? ⟨sb, 1, none⟩ = some (.string ⟨c.t.toArray⟩) := (World.cell?_alloc_lt _ _ _ hl1).trans d1
          have hBX := (HB1.out.alloc (by omega) (.cells #[.int .i64 1, .int .i64 xx, .int .i64 xy, .string ⟨xp.toArray⟩] 56))
          have hsl : sb < (w1.alloc (.cells #[.int .i64 1, .int .i64 xx, .int .i64 xy, .string ⟨xp.toArray⟩] 56)).heap.size := by simp; omega
          clear k0 k1 k2 k3 d0 d1 hpl hl1
          generalize w1.heap.size = xb at *
          generalize w1.alloc (.cells #[.int .i64 1, .int .i64 xx, .int .i64 xy, .string ⟨xp.toArray⟩] 56) = wx at *
          have HK1 := Lib.hid hk1
          have HBX := Lib.hid hBX
          have HX3 := Lib.hid x3
          have HX1 := Lib.hid x1
          clear hk1 hBX
          obtain ⟨kc, kf⟩ := Pk.kgrown wx
          refine wp_region_quiet_below (by kernel_rfl) (by kernel_rfl) ?_
          repeat (go_big_quiet_step ((go_at_call 63; exact Calls.regrown_of (HHas.out _))))
          refine wpQuiet_nil ?_
          intro _ hw'
          obtain ⟨⟨dq, osq⟩, hw''⟩ := hw'
          subst hw''
          have hbq := below_regrown wx dq osq
          have HKq := Lib.hid (HK1.out.keep (hbq.mono (Nat.le_refl _)))
          have HBq := Lib.hid (HBX.out.trans (hbq.mono (by omega)))
          clear hbq kc kf
          generalize grow (redrawn wx dq) osq = wq at *
          go_wp2_with fail
          go_ret
          exact ⟨_, rfl, HBq.out, _, _, _, _, _, _, _, HKq.out, by rw [if_neg (by simp), ← HD.out, Pk.due_dead HX.out HS.out HACT.out, HM.out.2.1]⟩
      · have hkI : ¬ (k : Int) < (c.t.length : Int) := by omega
        have htk : c.t[k]? = none := List.getElem?_eq_none (by omega)
        have HACT : Hid (Pk.act c.t k ⟨1, xx, xy, xp⟩ h r = .dead) := Lib.hid (by simp [Pk.act, htk])
        clear htk
        go_wp2_with first
          | (go_at_call 62; go_must (refine HE.out.mono ?_; rintro e w1 ⟨rfl, hS1, hb1⟩; have HM := Lib.hid (HSt.out.marked HX.out HS.out hS1); obtain ⟨pb, po, hpa, hpl, k0, k1, k2, k3⟩ := Pk.prog_cells hS1 HX.out; have hpa : c.pa = some ⟨pb, po, none⟩ := hpa; have d0 : w1.cell? ⟨sb, 0, none⟩ = some (.slice (some ⟨pb, po, none⟩) c.L.length c.pc) := (hS1.cell 0).trans (congrArg some (congrArg (fun z => Value.slice z c.L.length c.pc) hpa)); have d1 : w1.cell? ⟨sb, 1, none⟩ = some (.string ⟨c.t.toArray⟩) := (hS1.cell 1).trans rfl; have hl1 := hS1.lt; have HB1 := Lib.hid (HB.out.trans hb1); clear hS1 hb1 hpa))
        have hk1 := (HM.out.1.keep ((Below.refl w1.heap.size w1).alloc (Nat.le_refl _) (.cells #[.int .i64 1, .int .i64 xx, .int .i64 xy, .string ⟨xp.toArray⟩] 56)))
        have hxl : w1.heap.size < (w1.alloc (.cells #[.int .i64 1, .int .i64 xx, .int .i64 xy, .string ⟨xp.toArray⟩] 56)).heap.size := by simp
        have x3 : (w1.alloc (.cells #[.int .i64 1, .int .i64 xx, .int .i64 xy, .string ⟨xp.toArray⟩] 56)).cell? ⟨w1.heap.size, 3, none⟩ = some (.string ⟨xp.toArray⟩) := ((RowAt.new w1 _ _).cell 3).trans rfl
        have x1 : (w1.alloc (.cells #[.int .i64 1, .int .i64 xx, .int .i64 xy, .string ⟨xp.toArray⟩] 56)).cell? ⟨sb, 1, none⟩ = some (.string ⟨c.t.toArray⟩) := (World.cell?_alloc_lt _ _ _ hl1).trans d1
        have hBX := (HB1.out.alloc (by omega) (.cells #[.int .i64 1, .int .i64 xx, .int .i64 xy, .string ⟨xp.toArray⟩] 56))
        have hsl : sb < (w1.alloc (.cells #[.int .i64 1, .int .i64 xx, .int .i64 xy, .string ⟨xp.toArray⟩] 56)).heap.size := by simp; omega
        clear k0 k1 k2 k3 d0 d1 hpl hl1
        generalize w1.heap.size = xb at *
        generalize w1.alloc (.cells #[.int .i64 1, .int .i64 xx, .int .i64 xy, .string ⟨xp.toArray⟩] 56) = wx at *
        have HK1 := Lib.hid hk1
        have HBX := Lib.hid hBX
        have HX3 := Lib.hid x3
        have HX1 := Lib.hid x1
        clear hk1 hBX
        obtain ⟨kc, kf⟩ := Pk.kgrown wx
        refine wp_region_quiet_below (by kernel_rfl) (by kernel_rfl) ?_
        repeat (go_big_quiet_step (fail))
        refine wpQuiet_nil ?_
        intro _ hw'
        obtain ⟨⟨dq, osq⟩, hw''⟩ := hw'
        subst hw''
        have hbq := below_regrown wx dq osq
        have HKq := Lib.hid (HK1.out.keep (hbq.mono (Nat.le_refl _)))
        have HBq := Lib.hid (HBX.out.trans (hbq.mono (by omega)))
        clear hbq kc kf
        generalize grow (redrawn wx dq) osq = wq at *
        go_wp2_with fail
        go_ret
        exact ⟨_, rfl, HBq.out, _, _, _, _, _, _, _, HKq.out, by rw [if_neg (by simp), ← HD.out, Pk.due_dead HX.out HS.out HACT.out, HM.out.2.1]⟩
    by_cases hop2 : xop = 2
    · subst hop2
      have HACT : Hid (Pk.act c.t k ⟨2, xx, xy, xp⟩ h r = .go [(xx, r), (xy, r)]) := Lib.hid (by simp [Pk.act])
      obtain ⟨i0, hi0, hz0, hz1, hz2⟩ := info_parts Pk.turn_info
      have HI := Lib.hid hi0
      have HZ := Lib.hid (And.intro hz0 (And.intro hz1 hz2))
      clear hi0 hz0 hz1 hz2
      go_wp2_with (go_at_call 62; go_must (refine HE.out.mono ?_; rintro e w1 ⟨rfl, hS1, hb1⟩; have HM := Lib.hid (HSt.out.marked HX.out HS.out hS1); obtain ⟨pb, po, hpa, hpl, k0, k1, k2, k3⟩ := Pk.prog_cells hS1 HX.out; have hpa : c.pa = some ⟨pb, po, none⟩ := hpa; have d0 : w1.cell? ⟨sb, 0, none⟩ = some (.slice (some ⟨pb, po, none⟩) c.L.length c.pc) := (hS1.cell 0).trans (congrArg some (congrArg (fun z => Value.slice z c.L.length c.pc) hpa)); have d1 : w1.cell? ⟨sb, 1, none⟩ = some (.string ⟨c.t.toArray⟩) := (hS1.cell 1).trans rfl; have hl1 := hS1.lt; have HB1 := Lib.hid (HB.out.trans hb1); clear hS1 hb1 hpa))
      have hk1 := (HM.out.1.keep ((Below.refl w1.heap.size w1).alloc (Nat.le_refl _) (.cells #[.int .i64 2, .int .i64 xx, .int .i64 xy, .string ⟨xp.toArray⟩] 56)))
      have hxl : w1.heap.size < (w1.alloc (.cells #[.int .i64 2, .int .i64 xx, .int .i64 xy, .string ⟨xp.toArray⟩] 56)).heap.size := by simp
      have x1 : (w1.alloc (.cells #[.int .i64 2, .int .i64 xx, .int .i64 xy, .string ⟨xp.toArray⟩] 56)).cell? ⟨w1.heap.size, 1, none⟩ = some (.int .i64 xx) := ((RowAt.new w1 _ _).cell 1).trans rfl
      have x2 : (w1.alloc (.cells #[.int .i64 2, .int .i64 xx, .int .i64 xy, .string ⟨xp.toArray⟩] 56)).cell? ⟨w1.heap.size, 2, none⟩ = some (.int .i64 xy) := ((RowAt.new w1 _ _).cell 2).trans rfl
      have hBX := (HB1.out.alloc (by omega) (.cells #[.int .i64 2, .int .i64 xx, .int .i64 xy, .string ⟨xp.toArray⟩] 56))
      have htn : ∀ b, tv.ownBlock = some b → b ≠ sb ∧ b < w1.heap.size := fun b hb => ⟨fun e => HM.out.1.se.tvne (by rw [← e]; exact hb), (World.ownsRow.lt HM.out.1.se.otv b hb).2⟩
      have hsx : sb < w1.heap.size := hl1
      clear k0 k1 k2 k3 d0 d1 hpl hl1
      generalize w1.heap.size = xb at *
      generalize w1.alloc (.cells #[.int .i64 2, .int .i64 xx, .int .i64 xy, .string ⟨xp.toArray⟩] 56) = wx at *
      have hsl : sb < wx.heap.size := hk1.se.lt
      have c10 : wx.cell? ⟨sb, 10, none⟩ = some tv := (hk1.se.cell 10).trans rfl
      have f10 := hk1.se.row.frozen 10
      have hot : wx.ownsRow c.b0 107 4 tv ts.length (tcells ts.reverse) := hk1.se.otv
      obtain ⟨At, ct, htv⟩ := own_form hot
      have HTV := Lib.hid htv
      rw [htv] at c10
      have htl : ts.length ≤ 100000 := by have := hk1.tn; omega
      have HOT : Hid ((wx.alloc (.cells #[.int .i64 xy, .bool false, .int .i64 0, .int .i64 0] 107)).ownsRow c.b0 107 4 (.slice At ts.length ct) ts.length (tcells ts.reverse)) := Lib.hid (htv ▸ (owns_keep hot fun b hb => Below.heap_alloc _ _ _ (World.ownsRow.lt hot b hb).2))
      have HRD : Hid (Rd (wx.alloc (.cells #[.int .i64 xy, .bool false, .int .i64 0, .int .i64 0] 107)) (fun b => b = wx.heap.size) (some ⟨wx.heap.size, 0, none⟩) [.int .i64 xy, .bool false, .int .i64 0, .int .i64 0]) := Lib.hid (Rd.fresh wx [.int .i64 xy, .bool false, .int .i64 0, .int .i64 0] 107 _ rfl)
      have hlen1 : ts.length + 1 ≤ maxLen := by unfold maxLen; omega
      have HNE : Hid (∀ b, (Value.slice At ts.length ct).ownBlock = some b → b ≠ sb ∧ b < xb) := Lib.hid fun b hb => htn b (by rw [HTV.out]; exact hb)
      have HK1 := Lib.hid hk1
      have HBX := Lib.hid hBX
      have hM1 := HM.out.2.2
      have hM2 := HSt.out.tn
      clear hk1 hot htv htn hBX
      go_region_law (refine step_app _ rfl (.tmp 60) (.tmp 64) 65 rfl c.b0 107 i0 _ 4 32 Try.underlying65 HI.out HZ.out.1 HZ.out.2.1 HZ.out.2.2 rfl (by decide) (.slice At ts.length ct) ts.length (tcells ts.reverse) (by simp [Act.eval]) HOT.out (fun b => b = wx.heap.size) (some ⟨wx.heap.size, 0, none⟩) 1 1 [.int .i64 xy, .bool false, .int .i64 0, .int .i64 0] (by simp [Act.eval]) (by simp) HRD.out (by intro u hu; simp at hu; rcases hu with rfl | rfl | rfl | rfl <;> rfl) hlen1 (by omega) (by simp; omega) ?_; intro v2 w2 hown2 hg2 hat2 hnil2; have d0' : w2.cell? ⟨sb, 10, none⟩ = some (.slice At ts.length ct) := (hg2.cell_far ⟨sb, 10, none⟩ (by show sb < _; simp; omega) (fun e => by have := (HNE.out sb e.symm).1; omega)).trans ((World.cell?_alloc_lt _ _ _ hsl).trans c10); have df' : w2.frozen? ⟨sb, 10, none⟩ = false := (hg2.frozen_far ⟨sb, 10, none⟩ (by show sb < _; simp; omega) (fun e => by have := (HNE.out sb e.symm).1; omega)).trans ((World.frozen?_of_block (Below.heap_alloc _ _ sb hsl)).trans f10); have y1' : w2.cell? ⟨xb, 1, none⟩ = some (.int .i64 xx) := (hg2.cell_far ⟨xb, 1, none⟩ (by show xb < _; simp; omega) (fun e => by have := (HNE.out xb e.symm).2; omega)).trans ((World.cell?_alloc_lt _ _ _ hxl).trans x1); have HO2 := Lib.hid hown2; have HG2 := Lib.hid hg2; have HA2 := Lib.hid hat2; obtain ⟨A2, c2, rfl⟩ := own_form hown2; clear hown2 hg2 hat2 hnil2)
      all_goals
        have HPU := Lib.hid (Pk.Se.push (W2 := w2) HK1.out.se (.cells #[.int .i64 xy, .bool false, .int .i64 0, .int .i64 0] 107) (A2 := A2) (c2 := c2) (n2 := ts.length + 1) (ts2 := Tn.go xy :: ts) rfl (by rw [List.reverse_cons, tcells_append]; exact HO2.out)
          (by show World.grownBy _ _ tv.ownBlock; rw [HTV.out]; exact ⟨HG2.out.os, HG2.out.tape, HG2.out.output, HG2.out.size, HG2.out.block⟩) (by show _ = tv.ownBlock ∨ _; rw [HTV.out]; exact HA2.out) (HK1.out.se.fit.cons fun hb => by cases hb))
        have y1 : (w2.setCell ⟨sb, 10, none⟩ (.slice A2 (ts.length + 1) c2)).cell? ⟨xb, 1, none⟩ = some (.int .i64 xx) := (World.cell?_setCell_far w2 ⟨sb, 10, none⟩ ⟨xb, 1, none⟩ _ (by show sb ≠ xb; omega)).trans y1'
        have HF := Lib.hid (HK1.out.pushed (by have := HM.out.2.2; have := HSt.out.tn; omega) HPU.out.1)
        have HBF := Lib.hid (HBX.out.trans HPU.out.2)
        clear d0' df' HO2 HG2 HA2 HPU y1' x1 x2 c10 f10
        generalize w2.setCell ⟨sb, 10, none⟩ (.slice A2 (ts.length + 1) c2) = wy at *
        go_wp2_with fail
        go_roundw
        case rel => exact ⟨xx, rfl, HBF, Lib.hid ⟨_, _, _, _, _, _, _, HF.out, by rw [← HD.out, Pk.due_go HX.out HS.out HACT.out, HM.out.2.1, Pk.den_go]; rfl⟩⟩
        case measure => rw [HF.out.left, HSt.out.left]; have := HM.out.2.2; omega
    by_cases hop3 : xop = 3
    · subst hop3
      have HACT : Hid (Pk.act c.t k ⟨3, xx, xy, xp⟩ h r = .go [(xx, r)]) := Lib.hid (by simp [Pk.act])
      go_wp2_with (go_at_call 62; go_must (refine HE.out.mono ?_; rintro e w1 ⟨rfl, hS1, hb1⟩; have HM := Lib.hid (HSt.out.marked HX.out HS.out hS1); obtain ⟨pb, po, hpa, hpl, k0, k1, k2, k3⟩ := Pk.prog_cells hS1 HX.out; have hpa : c.pa = some ⟨pb, po, none⟩ := hpa; have d0 : w1.cell? ⟨sb, 0, none⟩ = some (.slice (some ⟨pb, po, none⟩) c.L.length c.pc) := (hS1.cell 0).trans (congrArg some (congrArg (fun z => Value.slice z c.L.length c.pc) hpa)); have d1 : w1.cell? ⟨sb, 1, none⟩ = some (.string ⟨c.t.toArray⟩) := (hS1.cell 1).trans rfl; have hl1 := hS1.lt; have HB1 := Lib.hid (HB.out.trans hb1); clear hS1 hb1 hpa))
      go_roundw
      case rel => exact ⟨xx, rfl, Lib.hid (HB1.out.alloc (by omega) (.cells #[.int .i64 3, .int .i64 xx, .int .i64 xy, .string ⟨xp.toArray⟩] 56)), Lib.hid ⟨_, _, _, _, _, _, _, (HM.out.1.keep ((Below.refl w1.heap.size w1).alloc (Nat.le_refl _) (.cells #[.int .i64 3, .int .i64 xx, .int .i64 xy, .string ⟨xp.toArray⟩] 56))), by rw [← HD.out, Pk.due_go HX.out HS.out HACT.out, HM.out.2.1]; rfl⟩⟩
      case measure => rw [((HM.out.1.keep ((Below.refl w1.heap.size w1).alloc (Nat.le_refl _) (.cells #[.int .i64 3, .int .i64 xx, .int .i64 xy, .string ⟨xp.toArray⟩] 56)))).left, HSt.out.left]; have := HM.out.2.2; omega
    by_cases hop4 : xop = 4
    · subst hop4
      have HACT : Hid (Pk.act c.t k ⟨4, xx, xy, xp⟩ h r = .go [(h + 1, Pk.put r xx k)]) := Lib.hid (by simp [Pk.act])
      by_cases hin : 0 ≤ xx ∧ xx < (c.wd : Int)
      · obtain ⟨hn0, hn1⟩ := hin
        have hrl : r.length = c.wd := HSt.out.rl
        have HVr : Hid (c.no = .slice (some ⟨g, 0, none⟩) (pre ++ (r ++ post)).length cap) := Lib.hid (by rw [HV.out]; congr 1; simp; omega)
        go_wp2_with first
          | (go_at_call 62; go_must (refine HE.out.mono ?_; rintro e w1 ⟨rfl, hS1, hb1⟩; have HM := Lib.hid (HSt.out.marked HX.out HS.out hS1); obtain ⟨pb, po, hpa, hpl, k0, k1, k2, k3⟩ := Pk.prog_cells hS1 HX.out; have hpa : c.pa = some ⟨pb, po, none⟩ := hpa; have d0 : w1.cell? ⟨sb, 0, none⟩ = some (.slice (some ⟨pb, po, none⟩) c.L.length c.pc) := (hS1.cell 0).trans (congrArg some (congrArg (fun z => Value.slice z c.L.length c.pc) hpa)); have d1 : w1.cell? ⟨sb, 1, none⟩ = some (.string ⟨c.t.toArray⟩) := (hS1.cell 1).trans rfl; have hl1 := hS1.lt; have HB1 := Lib.hid (HB.out.trans hb1); clear hS1 hb1 hpa))
          | (go_at_call 64; go_must (have hk1 := (HM.out.1.keep ((Below.refl w1.heap.size w1).alloc (Nat.le_refl _) (.cells #[.int .i64 4, .int .i64 xx, .int .i64 xy, .string ⟨xp.toArray⟩] 56))); refine (save_in hk1.se (by show ts.length ≤ _; have := hk1.tn; omega) HVr.out pre.length cp xx k hn0 hn1 (by show pre.length + c.wd ≤ (pre ++ (r ++ post)).length; simp; omega)).mono ?_; rintro e w3 ⟨rfl, hb3, tv3, hS3⟩; have HF := Lib.hid (hk1.saved (by have := HM.out.2.2; have := HSt.out.tn; omega) hn0 hn1 hS3); have HBF := Lib.hid ((HB1.out.alloc (by omega) (.cells #[.int .i64 4, .int .i64 xx, .int .i64 xy, .string ⟨xp.toArray⟩] 56)).trans hb3); clear hk1 hS3 hb3))
        go_roundw
        case rel => exact ⟨h + 1, rfl, HBF, Lib.hid ⟨_, _, _, _, _, _, _, HF.out, by rw [← HD.out, Pk.due_go HX.out HS.out HACT.out, HM.out.2.1, Pk.put_again _ _ _ hn0 (by omega)]; rfl⟩⟩
        case measure => rw [HF.out.left, HSt.out.left]; have := HM.out.2.2; omega
      · have hrl : r.length = c.wd := HSt.out.rl
        have HPO : Hid (Pk.put r xx k = r) := Lib.hid (by unfold Pk.put; rw [if_neg]; rw [hrl]; exact hin)
        have hout : xx < 0 ∨ (c.wd : Int) ≤ xx := by omega
        clear hin
        go_wp2_with first
          | (go_at_call 62; go_must (refine HE.out.mono ?_; rintro e w1 ⟨rfl, hS1, hb1⟩; have HM := Lib.hid (HSt.out.marked HX.out HS.out hS1); obtain ⟨pb, po, hpa, hpl, k0, k1, k2, k3⟩ := Pk.prog_cells hS1 HX.out; have hpa : c.pa = some ⟨pb, po, none⟩ := hpa; have d0 : w1.cell? ⟨sb, 0, none⟩ = some (.slice (some ⟨pb, po, none⟩) c.L.length c.pc) := (hS1.cell 0).trans (congrArg some (congrArg (fun z => Value.slice z c.L.length c.pc) hpa)); have d1 : w1.cell? ⟨sb, 1, none⟩ = some (.string ⟨c.t.toArray⟩) := (hS1.cell 1).trans rfl; have hl1 := hS1.lt; have HB1 := Lib.hid (HB.out.trans hb1); clear hS1 hb1 hpa))
          | (go_at_call 64; go_must (refine (save_out _ _ _ _ _ hout).mono ?_; rintro e w3 ⟨rfl, rfl⟩))
        go_roundw
        case rel => exact ⟨h + 1, rfl, Lib.hid (HB1.out.alloc (by omega) (.cells #[.int .i64 4, .int .i64 xx, .int .i64 xy, .string ⟨xp.toArray⟩] 56)), Lib.hid ⟨_, _, _, _, _, _, _, (HM.out.1.keep ((Below.refl w1.heap.size w1).alloc (Nat.le_refl _) (.cells #[.int .i64 4, .int .i64 xx, .int .i64 xy, .string ⟨xp.toArray⟩] 56))), by rw [← HD.out, Pk.due_go HX.out HS.out HACT.out, HM.out.2.1, HPO.out]; rfl⟩⟩
        case measure => rw [((HM.out.1.keep ((Below.refl w1.heap.size w1).alloc (Nat.le_refl _) (.cells #[.int .i64 4, .int .i64 xx, .int .i64 xy, .string ⟨xp.toArray⟩] 56)))).left, HSt.out.left]; have := HM.out.2.2; omega
    by_cases hop5 : xop = 5
    · subst hop5
      go_wp2_with (go_at_call 62; go_must (refine HE.out.mono ?_; rintro e w1 ⟨rfl, hS1, hb1⟩; have HM := Lib.hid (HSt.out.marked HX.out HS.out hS1); obtain ⟨pb, po, hpa, hpl, k0, k1, k2, k3⟩ := Pk.prog_cells hS1 HX.out; have hpa : c.pa = some ⟨pb, po, none⟩ := hpa; have d0 : w1.cell? ⟨sb, 0, none⟩ = some (.slice (some ⟨pb, po, none⟩) c.L.length c.pc) := (hS1.cell 0).trans (congrArg some (congrArg (fun z => Value.slice z c.L.length c.pc) hpa)); have d1 : w1.cell? ⟨sb, 1, none⟩ = some (.string ⟨c.t.toArray⟩) := (hS1.cell 1).trans rfl; have hl1 := hS1.lt; have HB1 := Lib.hid (HB.out.trans hb1); clear hS1 hb1 hpa))
      · rename_i hne
        have HACT : Hid (Pk.act c.t k ⟨5, xx, xy, xp⟩ h r = .dead) := Lib.hid (by
          have hk0 : ¬ k = 0 := by intro e; subst e; simp at hne
          simp [Pk.act, hk0])
        go_ret
        exact ⟨_, rfl, (HB1.out.alloc (by omega) (.cells #[.int .i64 5, .int .i64 xx, .int .i64 xy, .string ⟨xp.toArray⟩] 56)), _, _, _, _, _, _, _, (HM.out.1.keep ((Below.refl w1.heap.size w1).alloc (Nat.le_refl _) (.cells #[.int .i64 5, .int .i64 xx, .int .i64 xy, .string ⟨xp.toArray⟩] 56))), by rw [if_neg (by simp), ← HD.out, Pk.due_dead HX.out HS.out HACT.out, HM.out.2.1]⟩
      · rename_i hne
        have HACT : Hid (Pk.act c.t k ⟨5, xx, xy, xp⟩ h r = .go [(h + 1, r)]) := Lib.hid (by
          have hk0 : k = 0 := by simpa using hne
          simp [Pk.act, hk0])
        refine ⟨⟨h + 1, rfl, Lib.hid (HB1.out.alloc (by omega) (.cells #[.int .i64 5, .int .i64 xx, .int .i64 xy, .string ⟨xp.toArray⟩] 56)), Lib.hid ⟨_, _, _, _, _, _, _, (HM.out.1.keep ((Below.refl w1.heap.size w1).alloc (Nat.le_refl _) (.cells #[.int .i64 5, .int .i64 xx, .int .i64 xy, .string ⟨xp.toArray⟩] 56))), by rw [← HD.out, Pk.due_go HX.out HS.out HACT.out, HM.out.2.1]; rfl⟩⟩, ?_⟩
        rw [((HM.out.1.keep ((Below.refl w1.heap.size w1).alloc (Nat.le_refl _) (.cells #[.int .i64 5, .int .i64 xx, .int .i64 xy, .string ⟨xp.toArray⟩] 56)))).left, HSt.out.left]
        have := HM.out.2.2
        omega
    by_cases hop6 : xop = 6
    · subst hop6
      by_cases hkl : k = c.t.length
      · subst hkl
        have HACT : Hid (Pk.act c.t c.t.length ⟨6, xx, xy, xp⟩ h r = .go [(h + 1, r)]) := Lib.hid (by simp [Pk.act])
        go_wp2_with (go_at_call 62; go_must (refine HE.out.mono ?_; rintro e w1 ⟨rfl, hS1, hb1⟩; have HM := Lib.hid (HSt.out.marked HX.out HS.out hS1); obtain ⟨pb, po, hpa, hpl, k0, k1, k2, k3⟩ := Pk.prog_cells hS1 HX.out; have hpa : c.pa = some ⟨pb, po, none⟩ := hpa; have d0 : w1.cell? ⟨sb, 0, none⟩ = some (.slice (some ⟨pb, po, none⟩) c.L.length c.pc) := (hS1.cell 0).trans (congrArg some (congrArg (fun z => Value.slice z c.L.length c.pc) hpa)); have d1 : w1.cell? ⟨sb, 1, none⟩ = some (.string ⟨c.t.toArray⟩) := (hS1.cell 1).trans rfl; have hl1 := hS1.lt; have HB1 := Lib.hid (HB.out.trans hb1); clear hS1 hb1 hpa))
        go_roundw
        case rel => exact ⟨h + 1, rfl, Lib.hid (HB1.out.alloc (by omega) (.cells #[.int .i64 6, .int .i64 xx, .int .i64 xy, .string ⟨xp.toArray⟩] 56)), Lib.hid ⟨_, _, _, _, _, _, _, (HM.out.1.keep ((Below.refl w1.heap.size w1).alloc (Nat.le_refl _) (.cells #[.int .i64 6, .int .i64 xx, .int .i64 xy, .string ⟨xp.toArray⟩] 56))), by rw [← HD.out, Pk.due_go HX.out HS.out HACT.out, HM.out.2.1]; rfl⟩⟩
        case measure => rw [((HM.out.1.keep ((Below.refl w1.heap.size w1).alloc (Nat.le_refl _) (.cells #[.int .i64 6, .int .i64 xx, .int .i64 xy, .string ⟨xp.toArray⟩] 56)))).left, HSt.out.left]; have := HM.out.2.2; omega
      · have hkI : ¬ (k : Int) = (c.t.length : Int) := by omega
        have HACT : Hid (Pk.act c.t k ⟨6, xx, xy, xp⟩ h r = .dead) := Lib.hid (by simp [Pk.act, hkl])
        go_wp2_with first
          | (go_at_call 62; go_must (refine HE.out.mono ?_; rintro e w1 ⟨rfl, hS1, hb1⟩; have HM := Lib.hid (HSt.out.marked HX.out HS.out hS1); obtain ⟨pb, po, hpa, hpl, k0, k1, k2, k3⟩ := Pk.prog_cells hS1 HX.out; have hpa : c.pa = some ⟨pb, po, none⟩ := hpa; have d0 : w1.cell? ⟨sb, 0, none⟩ = some (.slice (some ⟨pb, po, none⟩) c.L.length c.pc) := (hS1.cell 0).trans (congrArg some (congrArg (fun z => Value.slice z c.L.length c.pc) hpa)); have d1 : w1.cell? ⟨sb, 1, none⟩ = some (.string ⟨c.t.toArray⟩) := (hS1.cell 1).trans rfl; have hl1 := hS1.lt; have HB1 := Lib.hid (HB.out.trans hb1); clear hS1 hb1 hpa))
        go_ret
        exact ⟨_, rfl, (HB1.out.alloc (by omega) (.cells #[.int .i64 6, .int .i64 xx, .int .i64 xy, .string ⟨xp.toArray⟩] 56)), _, _, _, _, _, _, _, (HM.out.1.keep ((Below.refl w1.heap.size w1).alloc (Nat.le_refl _) (.cells #[.int .i64 6, .int .i64 xx, .int .i64 xy, .string ⟨xp.toArray⟩] 56))), by rw [if_neg (by simp), ← HD.out, Pk.due_dead HX.out HS.out HACT.out, HM.out.2.1]⟩
    by_cases hop7 : xop = 7
    · subst hop7
      have HACT : Hid (Pk.act c.t k ⟨7, xx, xy, xp⟩ h r = .hit) := Lib.hid (by simp [Pk.act])
      go_wp2_with (go_at_call 62; go_must (refine HE.out.mono ?_; rintro e w1 ⟨rfl, hS1, hb1⟩; have HM := Lib.hid (HSt.out.marked HX.out HS.out hS1); obtain ⟨pb, po, hpa, hpl, k0, k1, k2, k3⟩ := Pk.prog_cells hS1 HX.out; have hpa : c.pa = some ⟨pb, po, none⟩ := hpa; have d0 : w1.cell? ⟨sb, 0, none⟩ = some (.slice (some ⟨pb, po, none⟩) c.L.length c.pc) := (hS1.cell 0).trans (congrArg some (congrArg (fun z => Value.slice z c.L.length c.pc) hpa)); have d1 : w1.cell? ⟨sb, 1, none⟩ = some (.string ⟨c.t.toArray⟩) := (hS1.cell 1).trans rfl; have hl1 := hS1.lt; have HB1 := Lib.hid (HB.out.trans hb1); clear hS1 hb1 hpa))
      go_ret
      exact ⟨_, rfl, (HB1.out.alloc (by omega) (.cells #[.int .i64 7, .int .i64 xx, .int .i64 xy, .string ⟨xp.toArray⟩] 56)), _, _, _, _, _, _, _, (HM.out.1.keep ((Below.refl w1.heap.size w1).alloc (Nat.le_refl _) (.cells #[.int .i64 7, .int .i64 xx, .int .i64 xy, .string ⟨xp.toArray⟩] 56))), by rw [if_pos rfl, ← HD.out, Pk.due_hit HX.out HS.out HACT.out, HM.out.2.1]⟩
    have HACT : Hid (Pk.act c.t k ⟨xop, xx, xy, xp⟩ h r = .dead) := Lib.hid (by unfold Pk.act; rw [if_neg hop1, if_neg hop2, if_neg hop3, if_neg hop4, if_neg hop5, if_neg hop6, if_neg hop7])
    go_wp2_with first
      | (go_at_call 62; go_must (refine HE.out.mono ?_; rintro e w1 ⟨rfl, hS1, hb1⟩; have HM := Lib.hid (HSt.out.marked HX.out HS.out hS1); obtain ⟨pb, po, hpa, hpl, k0, k1, k2, k3⟩ := Pk.prog_cells hS1 HX.out; have hpa : c.pa = some ⟨pb, po, none⟩ := hpa; have d0 : w1.cell? ⟨sb, 0, none⟩ = some (.slice (some ⟨pb, po, none⟩) c.L.length c.pc) := (hS1.cell 0).trans (congrArg some (congrArg (fun z => Value.slice z c.L.length c.pc) hpa)); have d1 : w1.cell? ⟨sb, 1, none⟩ = some (.string ⟨c.t.toArray⟩) := (hS1.cell 1).trans rfl; have hl1 := hS1.lt; have HB1 := Lib.hid (HB.out.trans hb1); clear hS1 hb1 hpa))
    go_ret
    exact ⟨_, rfl, (HB1.out.alloc (by omega) (.cells #[.int .i64 xop, .int .i64 xx, .int .i64 xy, .string ⟨xp.toArray⟩] 56)), _, _, _, _, _, _, _, (HM.out.1.keep ((Below.refl w1.heap.size w1).alloc (Nat.le_refl _) (.cells #[.int .i64 xop, .int .i64 xx, .int .i64 xy, .string ⟨xp.toArray⟩] 56))), by rw [if_neg (by simp [hop7]), ← HD.out, Pk.due_dead HX.out HS.out HACT.out, HM.out.2.1]⟩
end Go.Proofs.Ytelbabgkpflckaa
