/-
  RcClsF: CONTRACTS: chapter 12, the document's Compile: class: a later round.
-/
import Derived.Test.YtelbabgkpflckaaJ31

set_option linter.unusedSimpArgs false
set_option linter.unusedVariables false
namespace Go.Proofs.Ytelbabgkpflckaa
open Go.RowKit Go.Sort
open Me
open Pk

set_option linter.unusedVariables false in
set_option maxRecDepth 1000000 in
set_option maxHeartbeats 200000000 in
theorem cls_false {w wo : World} {b : Nat} {v : Value} {s : List UInt8} {i d : Nat} {er : Int} {g : Nat} {L : List Rx.In} {n0 j : Nat} {K : Act → World → Prop} {u3 u7 u8 u9 u10 u11 u30 u31 u32 u33 u34 u35 u36 u37 u38 u39 u40 u41 u42 u43 u44 u45 u46 u47 u48 u49 u50 u51 u52 u53 u54 u55 u56 u57 u58 u59 u60 u61 u62 u63 u64 u65 u66 u67 u68 u69 u70 u71 u72 u73 u74 u75 u76 u77 u78 u79 u80 u81 u82 u83 u84 u85 u86 u87 u88 u89 u90 u91 u92 u93 u94 u95 u96 u97 u98 u99 u100 u101 u102 u103 u104 u105 u106 u107 u108 u109 u110 u111 u112 u113 u114 u115 u116 u117 u118 u119 u120 u121 u122 u123 u124 u125 u126 u127 u128 u129 u130 u131 u132 u133 u134 u135 u136 u137 u138 u139 u140 k5 k13 k14 k15 k16 k17 k18 k19 k20 k21 k22 k23 k24 k25 k26 k27 k28 k29 : Value} (hb1 : b < n0) (HAW : Hid (Rc.At w b v ⟨s, i, d, er, g, L⟩)) (hl : s.length ≤ 1000000) (HN0 : Hid (n0 = w.heap.size)) (HMO : Hid (∀ (W : World) (j : Nat) (k : UInt8), Rc.Did w b v ⟨s, j, d, er, g, L⟩ v W → Calls Try.prog 50 #[.pointer (some ⟨b, 0, none⟩), .int .u8 (k.toNat : Int)] W fun e w' => e = .returned (.bool (Rc.more ⟨s, j, d, er, g, L⟩ k)) ∧ Below W.heap.size W w')) (HCI : Hid (Rc.ClsI w b v s i d er g L n0 j wo)) (hm93 : Rc.more ⟨s, j, d, er, g, L⟩ 93 = false) : Code.wp Try.prog Rc.cbody (Exit.then (fun a' w' => Rc.CW w b v s i d er g L n0 k5 k13 k14 k15 k16 k17 k18 k19 k20 k21 k22 k23 k24 k25 k26 k27 k28 k29 a' w' ∧ Rc.Cmu s b a' w' < Rc.Cmu s b ⟨#[.pointer (some ⟨b, 0, none⟩), undef, .pointer (some ⟨n0, 0, none⟩), u3, .pointer (some ⟨n0 + 1, 0, none⟩), k5, .bool false, u7, u8, u9, u10, u11, undef, k13, k14, k15, k16, k17, k18, k19, k20, k21, k22, k23, k24, k25, k26, k27, k28, k29, u30, u31, u32, u33, u34, u35, u36, u37, u38, u39, u40, u41, u42, u43, u44, u45, u46, u47, u48, u49, u50, u51, u52, u53, u54, u55, u56, u57, u58, u59, u60, u61, u62, u63, u64, u65, u66, u67, u68, u69, u70, u71, u72, u73, u74, u75, u76, u77, u78, u79, u80, u81, u82, u83, u84, u85, u86, u87, u88, u89, u90, u91, u92, u93, u94, u95, u96, u97, u98, u99, u100, u101, u102, u103, u104, u105, u106, u107, u108, u109, u110, u111, u112, u113, u114, u115, u116, u117, u118, u119, u120, u121, u122, u123, u124, u125, u126, u127, u128, u129, u130, u131, u132, u133, u134, u135, u136, u137, u138, u139, u140, undef, undef, undef, undef, undef, undef, undef, undef, undef, undef, undef, undef, undef, undef, undef, undef, undef, undef, undef], []⟩ wo) (Exit.inBlock 0 (Exit.then K (bodyPost Try.prog Try.f72 (Rc.ClsR w b v ⟨s, i, d, er, g, L⟩))))) ⟨#[.pointer (some ⟨b, 0, none⟩), undef, .pointer (some ⟨n0, 0, none⟩), u3, .pointer (some ⟨n0 + 1, 0, none⟩), k5, .bool false, u7, u8, u9, u10, u11, undef, k13, k14, k15, k16, k17, k18, k19, k20, k21, k22, k23, k24, k25, k26, k27, k28, k29, u30, u31, u32, u33, u34, u35, u36, u37, u38, u39, u40, u41, u42, u43, u44, u45, u46, u47, u48, u49, u50, u51, u52, u53, u54, u55, u56, u57, u58, u59, u60, u61, u62, u63, u64, u65, u66, u67, u68, u69, u70, u71, u72, u73, u74, u75, u76, u77, u78, u79, u80, u81, u82, u83, u84, u85, u86, u87, u88, u89, u90, u91, u92, u93, u94, u95, u96, u97, u98, u99, u100, u101, u102, u103, u104, u105, u106, u107, u108, u109, u110, u111, u112, u113, u114, u115, u116, u117, u118, u119, u120, u121, u122, u123, u124, u125, u126, u127, u128, u129, u130, u131, u132, u133, u134, u135, u136, u137, u138, u139, u140, undef, undef, undef, undef, undef, undef, undef, undef, undef, undef, undef, undef, undef, undef, undef, undef, undef, undef, undef], []⟩ wo := by
  unfold Rc.CW Rc.Cmu
  conv => arg 2; whnf
  try dsimp only
  have hjs := HCI.out.hi
  have hj0 : (0 : Int) ≤ (j : Int) := by omega
  have HIT := Lib.hid (item_any HCI.out.did.at_ hl hjs)
  have hbl : b < w.heap.size := HAW.out.lt
  have HM93 : Hid (Calls Try.prog 50 #[.pointer (some ⟨b, 0, none⟩), .int .u8 93] wo fun e w' => e = .returned (.bool false) ∧ Below wo.heap.size wo w') := Lib.hid (by have h := HMO.out _ j 93 HCI.out.did; rw [hm93] at h; exact h)
  clear hm93
  go_wp2_with fail
  go_at_call 50
  refine HM93.out.mono ?_
  rintro e w9 ⟨rfl, hb9⟩
  have HCI9 : Hid (Rc.ClsI w b v s i d er g L n0 j w9) := Lib.hid (by
    obtain ⟨h1, h2, ⟨m, h3⟩, h4, h5⟩ := HCI.out
    exact ⟨h1.on hb9, h2.below hb9 h2.lt, ⟨m, h3.below hb9 h3.lt⟩, h4, h5⟩)
  have HIT := Lib.hid (item_any HCI9.out.did.at_ hl hjs)
  have HAT9 : Hid (Rc.atOf wo b = j) := Lib.hid HCI.out.did.at_.atOf
  clear HCI hb9 HM93
  have HCI := HCI9
  clear HCI9
  go_wp2_with fail
  go_at_call 75
  refine HIT.out.mono ?_
  rintro e w4 ⟨a, x, ok, n, rfl, hd, hn, hk⟩
  have HD4 := Lib.hid (HCI.out.did.trans hd)
  have HR04 := Lib.hid (hd.row HCI.out.res (by omega) (fun e => by have := (HAW.out.olt n0 e).2; have := HN0.out; omega))
  have hR14 : ∃ m, RowAt w4 (n0 + 1) 125 (Rx.cel m) := by
    obtain ⟨m, hm⟩ := HCI.out.row
    exact ⟨m, hd.row hm (by omega) (fun e => by have := (HAW.out.olt (n0 + 1) e).2; have := HN0.out; omega)⟩
  obtain ⟨m, hm⟩ := hR14
  have HR14 := Lib.hid hm
  have HN4 := Lib.hid hn
  have HK4 := Lib.hid hk
  clear hd hn hk hm
  obtain ⟨n2, hn2⟩ : ∃ n2, n2 = w4.heap.size := ⟨_, rfl⟩
  have HN2 := Lib.hid hn2
  have hn21 : n0 + 1 < n2 := by rw [hn2]; exact HR14.out.lt
  have hsw : w.heap.size ≤ w4.heap.size := HD4.out.size
  have HX0 : Hid (RowAt (w4.alloc (.cells Try.zeroCells125 125)) n2 125 (Rx.cel Rx.none_)) := Lib.hid (by rw [← z_b256, hn2]; exact RowAt.new w4 _ _)
  have HXx : Hid (RowAt ((w4.alloc (.cells Try.zeroCells125 125)).setRow n2 (Rx.cel x)) n2 125 (Rx.cel x)) := Lib.hid (Rc.row_setRow HX0.out (Rx.cel x))
  have HR0x : Hid (RowAt ((w4.alloc (.cells Try.zeroCells125 125)).setRow n2 (Rx.cel x)) n0 125 (Rx.cel Rx.none_)) := Lib.hid (Rc.row_setRow_far (HR04.out.alloc _) (by omega) _)
  have HR1x : Hid (RowAt ((w4.alloc (.cells Try.zeroCells125 125)).setRow n2 (Rx.cel x)) (n0 + 1) 125 (Rx.cel m)) := Lib.hid (Rc.row_setRow_far (HR14.out.alloc _) (by omega) _)
  obtain ⟨j2, hj2⟩ : ∃ j2 : Nat, j2 = j + n := ⟨_, rfl⟩
  have HJ2 := Lib.hid hj2
  have HDx : Hid (Rc.Did w b v ⟨s, j2, d, er, g, L⟩ v ((w4.alloc (.cells Try.zeroCells125 125)).setRow n2 (Rx.cel x))) := Lib.hid (by rw [hj2]; exact Rc.Did.low HAW.out HD4.out (Rc.below_setRow ((Below.refl _ _).alloc hsw _) (by omega) _))
  have hj2s : j2 ≤ s.length := by rw [hj2]; exact HN4.out
  clear hj2
  cases ok
  · rw [hn2] at HX0 HXx HR0x HR1x HDx
    go_wp2_with first
      | ((with_reducible refine Rc.stset (Rx.cel x) (Rx.cel Rx.none_) (Rx.cel_size _) (Rx.cel_one _) (Rx.cel_size _) ?_ ?_ (HX0.out) ?_); (focus simp [Act.eval, Act.put]); (focus simp [Act.eval, Act.put]))
      | ((with_reducible refine Rc.ldset (Rx.cel m) (Rx.cel_size _) ?_ (HR1x.out) ?_); (focus simp [Act.eval, Act.put]))
      | ((with_reducible refine Rc.stset (Rx.cel m) (Rx.cel Rx.none_) (Rx.cel_size _) (Rx.cel_one _) (Rx.cel_size _) ?_ ?_ (HR0x.out) ?_); (focus simp [Act.eval, Act.put]); (focus simp [Act.eval, Act.put]))
    ((try simp only [Exit.inBlock, Exit.then]); refine bodyPost_ret (Rc.ret_set2 rfl _ ?_ (Rc.row_setRow HR0x.out _) (Rx.cel_size _)) rfl ?_; (focus simp); simp only [Array.getD_eq_getD_getElem?])
    have hnn := HN0.out
    refine ⟨m, false, j2 - i, rfl, ?_, by show i + (j2 - i) ≤ s.length; have h1 := HCI.out.lo; omega, fun _ => by have h0 := HCI.out.lo; have h4 := HJ2.out; omega⟩
    show Rc.Did w b v ⟨s, i + (j2 - i), d, er, g, L⟩ v _
    rw [show i + (j2 - i) = j2 by have h0 := HCI.out.lo; have h4 := HJ2.out; omega]
    exact Rc.Did.low HAW.out HDx.out (Rc.below_setRow (Below.refl _ _) (by omega) _)
  · go_wp2_with ((with_reducible refine Rc.stset (Rx.cel x) (Rx.cel Rx.none_) (Rx.cel_size _) (Rx.cel_one _) (Rx.cel_size _) ?_ ?_ (HX0.out) ?_); (focus simp [Act.eval, Act.put]); (focus simp [Act.eval, Act.put]))
    rw [← HN2.out]
    clear hn2
    generalize (w4.alloc (.cells Try.zeroCells125 125)).setRow n2 (Rx.cel x) = wx at *
    have hj20 : (0 : Int) ≤ (j2 : Int) := by omega
    obtain ⟨j3, hj3⟩ : ∃ j3 : Nat, j3 = j2 + 1 := ⟨_, rfl⟩
    have HJ3 := Lib.hid hj3
    have hwj3 : IntKind.i64.wrap ((j2 : Int) + 1) = (j3 : Int) := by rw [IntKind.wrap_i64]; omega
    have hj30 : (0 : Int) ≤ (j3 : Int) := by omega
    clear hj3
    have g0 := fun d' os' => cell_regrown (show wx.cell? ⟨b, 0, none⟩ = some (.string ⟨s.toArray⟩) from HDx.out.at_.c0) d' os'
    have g1 := fun d' os' => cell_regrown (show wx.cell? ⟨b, 1, none⟩ = some (.int .i64 (j2 : Int)) from HDx.out.at_.c1) d' os'
    cases hal : Rc.alike x Rx.none_
    · have HAL := Lib.hid hal
      clear hal
      refine wp_region_quiet_below (by kernel_rfl) (by kernel_rfl) ?_
      go_big_quiet_want
      refine Rc.quiet_ldset x rfl rfl (fun w' hw' => by obtain ⟨p, rfl⟩ := hw'; exact HXx.out.below (below_regrown _ p.d p.os) HXx.out.lt) ?_
      simp [Act.put]
      go_big_quiet_on
      go_big_quiet_want
      refine Rc.quiet_built rfl ?_
      simp [Act.put]
      go_big_quiet_on
      go_big_quiet_want
      refine Rc.quiet_eqlset x Rx.none_ _ rfl rfl rfl HAL.out ?_
      simp [Act.put]
      go_big_quiet_on
      repeat (go_big_quiet_step (first | (go_at_call 50; exact Calls.regrown_of (HMR.out _ _)) | (go_at_call 76; exact Calls.regrown_of (HSR.out _ _))))
      refine wpQuiet_nil ?_
      intro _ hw'
      obtain ⟨⟨dq, osq⟩, hw''⟩ := hw'
      subst hw''
      have HDl := Lib.hid (HDx.out.on (below_regrown wx dq osq))
      have HR0l := Lib.hid (HR0x.out.below (below_regrown wx dq osq) HR0x.out.lt)
      have HR1l := Lib.hid (HR1x.out.below (below_regrown wx dq osq) HR1x.out.lt)
      have HXl := Lib.hid (HXx.out.below (below_regrown wx dq osq) HXx.out.lt)
      generalize grow (redrawn wx dq) osq = wl at *
      go_wp2_with fail
      have hlb := HR1l.out.lt
      go_loopw [11] (fun y wz => ∃ k : Nat, y = .int .i64 (k : Int) ∧ k ≤ 256 ∧ Hid (∃ m', RowAt wz (n0 + 1) 125 (Rx.cel m')) ∧ Hid (Kp (fun i' => i' = n0 + 1) wl wz)) (fun y _ => 256 - (intOf y).toNat)
      case atStart => exact ⟨0, rfl, by omega, Lib.hid ⟨_, HR1l.out⟩, Lib.hid (Kp.refl _ _)⟩
      case round =>
        obtain ⟨k, rfl, hk, HM, HKQ⟩ := hrel
        obtain ⟨m', hm'⟩ := HM.out
        have HW := Lib.hid hm'
        clear HM
        by_cases hlt : k < 256
        · have hkI : (k : Int) < 256 := by omega
          have hk0 : (0 : Int) ≤ (k : Int) := by omega
          have hu8 : IntKind.u8.wrap (k : Int) = (k : Int) := by rw [IntKind.wrap_u8]; omega
          have hxr : RowAt wr n2 125 (Rx.cel x) := (HKQ.out.block n2 HXl.out.lt (by omega)).trans HXl.out
          have HXR := Lib.hid hxr
          have hc : wr.cell? ⟨n0 + 1, k, none⟩ = some (.bool (m' k)) := (hm'.cell k).trans (Rx.cel_at _ k hlt)
          have hf := hm'.frozen k
          have hcx : wr.cell? ⟨n2, k, none⟩ = some (.bool (x k)) := (hxr.cell k).trans (Rx.cel_at _ k hlt)
          clear hm' hxr
          generalize hmk : m' k = mk at hc
          generalize hxk : x k = xk at hcx
          clear hmk hxk
          cases mk
          · cases xk
            · have heq : ∀ w', (Op.equalIn 10000 125 (.agg (Rx.cel x)) (.agg (Rx.cel Rx.none_))).run Try.prog w' = .ok false w' := fun w' => by rw [Rc.eqcells, HAL.out]
              go_wp2_with first
                | ((with_reducible refine Rc.ldset_g rfl x rfl ?_ HXR.out ?_); (focus simp [Act.eval]))
                | ((with_reducible refine Rc.built_g rfl rfl ?_))
              go_roundw
              case rel => exact ⟨k + 1, by go_num, by omega, Lib.hid ⟨_, Rc.turned HW.out k _⟩, Lib.hid (HKQ.out.setCell _ (.inr rfl) _)⟩
              case measure => simp [intOf]; omega
            · go_wp2_with fail
              go_roundw
              case rel => exact ⟨k + 1, by go_num, by omega, Lib.hid ⟨_, Rc.turned HW.out k _⟩, Lib.hid (HKQ.out.setCell _ (.inr rfl) _)⟩
              case measure => simp [intOf]; omega
          · go_wp2_with fail
            go_roundw
            case rel => exact ⟨k + 1, by go_num, by omega, Lib.hid ⟨_, Rc.turned HW.out k _⟩, Lib.hid (HKQ.out.setCell _ (.inr rfl) _)⟩
            case measure => simp [intOf]; omega
        · obtain rfl : k = 256 := by omega
          clear hm'
          have HFIN : Hid (Rc.ClsI w b v s i d er g L n0 j2 wr) := Lib.hid ⟨Rc.Did.low HAW.out HDl.out (HKQ.out.below (by have := HDl.out.size; omega) (fun i' hi' e => by have e : i' = n0 + 1 := e; have := HN0.out; omega)), (HKQ.out.block n0 HR0l.out.lt (by omega)).trans HR0l.out, ⟨_, HW.out⟩, by have := HCI.out.lo; have := HJ2.out; omega, by have := HN4.out; have := HJ2.out; exact this.symm ▸ HN4.out⟩
          go_wp2_with fail
          go_roundw
          case rel => exact ⟨false, rfl, Lib.hid ⟨j2, HFIN.out⟩⟩
          case measure =>
            have h1 := HFIN.out.did.at_.atOf
            have h2 := HAT9.out
            have h1 : Rc.atOf wr b = j2 := h1
            have h2 : Rc.atOf wo b = j := h2
            rw [h1, h2]
            have := HK4.out (by first | trivial | rfl); have := HJ2.out; omega
    · have HAL := Lib.hid hal
      clear hal
      cases hm45 : Rc.more ⟨s, j2, d, er, g, L⟩ 45
      · have HMR : Hid (∀ dd os, Calls Try.prog 50 #[.pointer (some ⟨b, 0, none⟩), .int .u8 45] (grow (redrawn wx dd) os) fun e w' => e = .returned (.bool false) ∧ Below (grow (redrawn wx dd) os).heap.size (grow (redrawn wx dd) os) w') := Lib.hid fun dd os => by
          have h := HMO.out _ j2 45 (HDx.out.on (below_regrown wx dd os))
          rw [hm45] at h
          exact h
        clear hm45
        refine wp_region_quiet_below (by kernel_rfl) (by kernel_rfl) ?_
        go_big_quiet_want
        refine Rc.quiet_ldset x rfl rfl (fun w' hw' => by obtain ⟨p, rfl⟩ := hw'; exact HXx.out.below (below_regrown _ p.d p.os) HXx.out.lt) ?_
        simp [Act.put]
        go_big_quiet_on
        go_big_quiet_want
        refine Rc.quiet_built rfl ?_
        simp [Act.put]
        go_big_quiet_on
        go_big_quiet_want
        refine Rc.quiet_eqlset x Rx.none_ _ rfl rfl rfl HAL.out ?_
        simp [Act.put]
        go_big_quiet_on
        repeat (go_big_quiet_step (first | (go_at_call 50; exact Calls.regrown_of (HMR.out _ _)) | (go_at_call 76; exact Calls.regrown_of (HSR.out _ _))))
        refine wpQuiet_nil ?_
        intro _ hw'
        obtain ⟨⟨dq, osq⟩, hw''⟩ := hw'
        subst hw''
        have HDl := Lib.hid (HDx.out.on (below_regrown wx dq osq))
        have HR0l := Lib.hid (HR0x.out.below (below_regrown wx dq osq) HR0x.out.lt)
        have HR1l := Lib.hid (HR1x.out.below (below_regrown wx dq osq) HR1x.out.lt)
        have HXl := Lib.hid (HXx.out.below (below_regrown wx dq osq) HXx.out.lt)
        generalize grow (redrawn wx dq) osq = wl at *
        go_wp2_with fail
        have hlb := HR1l.out.lt
        go_loopw [11] (fun y wz => ∃ k : Nat, y = .int .i64 (k : Int) ∧ k ≤ 256 ∧ Hid (∃ m', RowAt wz (n0 + 1) 125 (Rx.cel m')) ∧ Hid (Kp (fun i' => i' = n0 + 1) wl wz)) (fun y _ => 256 - (intOf y).toNat)
        case atStart => exact ⟨0, rfl, by omega, Lib.hid ⟨_, HR1l.out⟩, Lib.hid (Kp.refl _ _)⟩
        case round =>
          obtain ⟨k, rfl, hk, HM, HKQ⟩ := hrel
          obtain ⟨m', hm'⟩ := HM.out
          have HW := Lib.hid hm'
          clear HM
          by_cases hlt : k < 256
          · have hkI : (k : Int) < 256 := by omega
            have hk0 : (0 : Int) ≤ (k : Int) := by omega
            have hu8 : IntKind.u8.wrap (k : Int) = (k : Int) := by rw [IntKind.wrap_u8]; omega
            have hxr : RowAt wr n2 125 (Rx.cel x) := (HKQ.out.block n2 HXl.out.lt (by omega)).trans HXl.out
            have HXR := Lib.hid hxr
            have hc : wr.cell? ⟨n0 + 1, k, none⟩ = some (.bool (m' k)) := (hm'.cell k).trans (Rx.cel_at _ k hlt)
            have hf := hm'.frozen k
            have hcx : wr.cell? ⟨n2, k, none⟩ = some (.bool (x k)) := (hxr.cell k).trans (Rx.cel_at _ k hlt)
            clear hm' hxr
            generalize hmk : m' k = mk at hc
            generalize hxk : x k = xk at hcx
            clear hmk hxk
            cases mk
            · cases xk
              · by_cases ga : a.toNat ≤ k
                · have gaI : (a.toNat : Int) ≤ (k : Int) := by omega
                  by_cases gb : k ≤ a.toNat
                  · have gbI : (k : Int) ≤ (a.toNat : Int) := by omega
                    have heq : ∀ w', (Op.equalIn 10000 125 (.agg (Rx.cel x)) (.agg (Rx.cel Rx.none_))).run Try.prog w' = .ok true w' := fun w' => by rw [Rc.eqcells, HAL.out]
                    go_wp2_with first
                      | ((with_reducible refine Rc.ldset_g rfl x rfl ?_ HXR.out ?_); (focus simp [Act.eval]))
                      | ((with_reducible refine Rc.built_g rfl rfl ?_))
                    go_roundw
                    case rel => exact ⟨k + 1, by go_num, by omega, Lib.hid ⟨_, Rc.turned HW.out k _⟩, Lib.hid (HKQ.out.setCell _ (.inr rfl) _)⟩
                    case measure => simp [intOf]; omega
                  · have gbI : ¬ (k : Int) ≤ (a.toNat : Int) := by omega
                    have heq : ∀ w', (Op.equalIn 10000 125 (.agg (Rx.cel x)) (.agg (Rx.cel Rx.none_))).run Try.prog w' = .ok true w' := fun w' => by rw [Rc.eqcells, HAL.out]
                    go_wp2_with first
                      | ((with_reducible refine Rc.ldset_g rfl x rfl ?_ HXR.out ?_); (focus simp [Act.eval]))
                      | ((with_reducible refine Rc.built_g rfl rfl ?_))
                    go_roundw
                    case rel => exact ⟨k + 1, by go_num, by omega, Lib.hid ⟨_, Rc.turned HW.out k _⟩, Lib.hid (HKQ.out.setCell _ (.inr rfl) _)⟩
                    case measure => simp [intOf]; omega
                · have gaI : ¬ (a.toNat : Int) ≤ (k : Int) := by omega
                  have heq : ∀ w', (Op.equalIn 10000 125 (.agg (Rx.cel x)) (.agg (Rx.cel Rx.none_))).run Try.prog w' = .ok true w' := fun w' => by rw [Rc.eqcells, HAL.out]
                  go_wp2_with first
                    | ((with_reducible refine Rc.ldset_g rfl x rfl ?_ HXR.out ?_); (focus simp [Act.eval]))
                    | ((with_reducible refine Rc.built_g rfl rfl ?_))
                  go_roundw
                  case rel => exact ⟨k + 1, by go_num, by omega, Lib.hid ⟨_, Rc.turned HW.out k _⟩, Lib.hid (HKQ.out.setCell _ (.inr rfl) _)⟩
                  case measure => simp [intOf]; omega
              · go_wp2_with fail
                go_roundw
                case rel => exact ⟨k + 1, by go_num, by omega, Lib.hid ⟨_, Rc.turned HW.out k _⟩, Lib.hid (HKQ.out.setCell _ (.inr rfl) _)⟩
                case measure => simp [intOf]; omega
            · go_wp2_with fail
              go_roundw
              case rel => exact ⟨k + 1, by go_num, by omega, Lib.hid ⟨_, Rc.turned HW.out k _⟩, Lib.hid (HKQ.out.setCell _ (.inr rfl) _)⟩
              case measure => simp [intOf]; omega
          · obtain rfl : k = 256 := by omega
            clear hm'
            have HFIN : Hid (Rc.ClsI w b v s i d er g L n0 j2 wr) := Lib.hid ⟨Rc.Did.low HAW.out HDl.out (HKQ.out.below (by have := HDl.out.size; omega) (fun i' hi' e => by have e : i' = n0 + 1 := e; have := HN0.out; omega)), (HKQ.out.block n0 HR0l.out.lt (by omega)).trans HR0l.out, ⟨_, HW.out⟩, by have := HCI.out.lo; have := HJ2.out; omega, by have := HN4.out; have := HJ2.out; exact this.symm ▸ HN4.out⟩
            go_wp2_with fail
            go_roundw
            case rel => exact ⟨false, rfl, Lib.hid ⟨j2, HFIN.out⟩⟩
            case measure =>
              have h1 := HFIN.out.did.at_.atOf
              have h2 := HAT9.out
              have h1 : Rc.atOf wr b = j2 := h1
              have h2 : Rc.atOf wo b = j := h2
              rw [h1, h2]
              have := HK4.out (by first | trivial | rfl); have := HJ2.out; omega
      · have HMR : Hid (∀ dd os, Calls Try.prog 50 #[.pointer (some ⟨b, 0, none⟩), .int .u8 45] (grow (redrawn wx dd) os) fun e w' => e = .returned (.bool true) ∧ Below (grow (redrawn wx dd) os).heap.size (grow (redrawn wx dd) os) w') := Lib.hid fun dd os => by
          have h := HMO.out _ j2 45 (HDx.out.on (below_regrown wx dd os))
          rw [hm45] at h
          exact h
        clear hm45
        by_cases hj3s : j3 < s.length
        · have hj3I : (j3 : Int) < (s.length : Int) := by omega
          obtain ⟨c3, hc3⟩ : ∃ c3, s[j3]? = some c3 := ⟨_, List.getElem?_eq_getElem hj3s⟩
          obtain ⟨z3, y3⟩ := Rc.byte_at hc3
          clear hc3
          by_cases h93 : c3 = 93
          · have k93 : ((c3.toNat : Int) = 93) = True := by rw [h93]; simp
            have k93b : ((c3.toNat : Int) != 93) = false := by rw [h93]; rfl
            clear h93
            refine wp_region_quiet_below (by kernel_rfl) (by kernel_rfl) ?_
            go_big_quiet_want
            refine Rc.quiet_ldset x rfl rfl (fun w' hw' => by obtain ⟨p, rfl⟩ := hw'; exact HXx.out.below (below_regrown _ p.d p.os) HXx.out.lt) ?_
            simp [Act.put]
            go_big_quiet_on
            go_big_quiet_want
            refine Rc.quiet_built rfl ?_
            simp [Act.put]
            go_big_quiet_on
            go_big_quiet_want
            refine Rc.quiet_eqlset x Rx.none_ _ rfl rfl rfl HAL.out ?_
            simp [Act.put]
            go_big_quiet_on
            repeat (go_big_quiet_step (first | (go_at_call 50; exact Calls.regrown_of (HMR.out _ _)) | (go_at_call 76; exact Calls.regrown_of (HSR.out _ _))))
            refine wpQuiet_nil ?_
            intro _ hw'
            obtain ⟨⟨dq, osq⟩, hw''⟩ := hw'
            subst hw''
            have HDl := Lib.hid (HDx.out.on (below_regrown wx dq osq))
            have HR0l := Lib.hid (HR0x.out.below (below_regrown wx dq osq) HR0x.out.lt)
            have HR1l := Lib.hid (HR1x.out.below (below_regrown wx dq osq) HR1x.out.lt)
            have HXl := Lib.hid (HXx.out.below (below_regrown wx dq osq) HXx.out.lt)
            generalize grow (redrawn wx dq) osq = wl at *
            go_wp2_with fail
            have hlb := HR1l.out.lt
            go_loopw [11] (fun y wz => ∃ k : Nat, y = .int .i64 (k : Int) ∧ k ≤ 256 ∧ Hid (∃ m', RowAt wz (n0 + 1) 125 (Rx.cel m')) ∧ Hid (Kp (fun i' => i' = n0 + 1) wl wz)) (fun y _ => 256 - (intOf y).toNat)
            case atStart => exact ⟨0, rfl, by omega, Lib.hid ⟨_, HR1l.out⟩, Lib.hid (Kp.refl _ _)⟩
            case round =>
              obtain ⟨k, rfl, hk, HM, HKQ⟩ := hrel
              obtain ⟨m', hm'⟩ := HM.out
              have HW := Lib.hid hm'
              clear HM
              by_cases hlt : k < 256
              · have hkI : (k : Int) < 256 := by omega
                have hk0 : (0 : Int) ≤ (k : Int) := by omega
                have hu8 : IntKind.u8.wrap (k : Int) = (k : Int) := by rw [IntKind.wrap_u8]; omega
                have hxr : RowAt wr n2 125 (Rx.cel x) := (HKQ.out.block n2 HXl.out.lt (by omega)).trans HXl.out
                have HXR := Lib.hid hxr
                have hc : wr.cell? ⟨n0 + 1, k, none⟩ = some (.bool (m' k)) := (hm'.cell k).trans (Rx.cel_at _ k hlt)
                have hf := hm'.frozen k
                have hcx : wr.cell? ⟨n2, k, none⟩ = some (.bool (x k)) := (hxr.cell k).trans (Rx.cel_at _ k hlt)
                clear hm' hxr
                generalize hmk : m' k = mk at hc
                generalize hxk : x k = xk at hcx
                clear hmk hxk
                cases mk
                · cases xk
                  · by_cases ga : a.toNat ≤ k
                    · have gaI : (a.toNat : Int) ≤ (k : Int) := by omega
                      by_cases gb : k ≤ a.toNat
                      · have gbI : (k : Int) ≤ (a.toNat : Int) := by omega
                        have heq : ∀ w', (Op.equalIn 10000 125 (.agg (Rx.cel x)) (.agg (Rx.cel Rx.none_))).run Try.prog w' = .ok true w' := fun w' => by rw [Rc.eqcells, HAL.out]
                        go_wp2_with first
                          | ((with_reducible refine Rc.ldset_g rfl x rfl ?_ HXR.out ?_); (focus simp [Act.eval]))
                          | ((with_reducible refine Rc.built_g rfl rfl ?_))
                        go_roundw
                        case rel => exact ⟨k + 1, by go_num, by omega, Lib.hid ⟨_, Rc.turned HW.out k _⟩, Lib.hid (HKQ.out.setCell _ (.inr rfl) _)⟩
                        case measure => simp [intOf]; omega
                      · have gbI : ¬ (k : Int) ≤ (a.toNat : Int) := by omega
                        have heq : ∀ w', (Op.equalIn 10000 125 (.agg (Rx.cel x)) (.agg (Rx.cel Rx.none_))).run Try.prog w' = .ok true w' := fun w' => by rw [Rc.eqcells, HAL.out]
                        go_wp2_with first
                          | ((with_reducible refine Rc.ldset_g rfl x rfl ?_ HXR.out ?_); (focus simp [Act.eval]))
                          | ((with_reducible refine Rc.built_g rfl rfl ?_))
                        go_roundw
                        case rel => exact ⟨k + 1, by go_num, by omega, Lib.hid ⟨_, Rc.turned HW.out k _⟩, Lib.hid (HKQ.out.setCell _ (.inr rfl) _)⟩
                        case measure => simp [intOf]; omega
                    · have gaI : ¬ (a.toNat : Int) ≤ (k : Int) := by omega
                      have heq : ∀ w', (Op.equalIn 10000 125 (.agg (Rx.cel x)) (.agg (Rx.cel Rx.none_))).run Try.prog w' = .ok true w' := fun w' => by rw [Rc.eqcells, HAL.out]
                      go_wp2_with first
                        | ((with_reducible refine Rc.ldset_g rfl x rfl ?_ HXR.out ?_); (focus simp [Act.eval]))
                        | ((with_reducible refine Rc.built_g rfl rfl ?_))
                      go_roundw
                      case rel => exact ⟨k + 1, by go_num, by omega, Lib.hid ⟨_, Rc.turned HW.out k _⟩, Lib.hid (HKQ.out.setCell _ (.inr rfl) _)⟩
                      case measure => simp [intOf]; omega
                  · go_wp2_with fail
                    go_roundw
                    case rel => exact ⟨k + 1, by go_num, by omega, Lib.hid ⟨_, Rc.turned HW.out k _⟩, Lib.hid (HKQ.out.setCell _ (.inr rfl) _)⟩
                    case measure => simp [intOf]; omega
                · go_wp2_with fail
                  go_roundw
                  case rel => exact ⟨k + 1, by go_num, by omega, Lib.hid ⟨_, Rc.turned HW.out k _⟩, Lib.hid (HKQ.out.setCell _ (.inr rfl) _)⟩
                  case measure => simp [intOf]; omega
              · obtain rfl : k = 256 := by omega
                clear hm'
                have HFIN : Hid (Rc.ClsI w b v s i d er g L n0 j2 wr) := Lib.hid ⟨Rc.Did.low HAW.out HDl.out (HKQ.out.below (by have := HDl.out.size; omega) (fun i' hi' e => by have e : i' = n0 + 1 := e; have := HN0.out; omega)), (HKQ.out.block n0 HR0l.out.lt (by omega)).trans HR0l.out, ⟨_, HW.out⟩, by have := HCI.out.lo; have := HJ2.out; omega, by have := HN4.out; have := HJ2.out; exact this.symm ▸ HN4.out⟩
                go_wp2_with fail
                go_roundw
                case rel => exact ⟨false, rfl, Lib.hid ⟨j2, HFIN.out⟩⟩
                case measure =>
                  have h1 := HFIN.out.did.at_.atOf
                  have h2 := HAT9.out
                  have h1 : Rc.atOf wr b = j2 := h1
                  have h2 : Rc.atOf wo b = j := h2
                  rw [h1, h2]
                  have := HK4.out (by first | trivial | rfl); have := HJ2.out; omega
          · have k93 : ¬ (c3.toNat : Int) = 93 := fun e => h93 (UInt8.toNat_inj.1 (by show c3.toNat = 93; omega))
            have k93b : ((c3.toNat : Int) != 93) = true := by simpa using k93
            clear h93
            have HSR0 : Hid (∀ dd os, Calls Try.prog 76 #[.pointer (some ⟨b, 0, none⟩), .int .i64 (j3 : Int)] (grow (redrawn wx dd) os) fun e w' => e = .returned (.bool (Rc.sixAtB s j3)) ∧ Below (grow (redrawn wx dd) os).heap.size (grow (redrawn wx dd) os) w') := Lib.hid fun dd os => sixAt_det (HDx.out.on (below_regrown wx dd os)).at_ hl j3 (by show j3 ≤ s.length; omega)
            generalize Rc.sixAtB s j3 = q6 at *
            cases q6
            · have HSR := HSR0
              clear HSR0
              refine wp_region_quiet_below (by kernel_rfl) (by kernel_rfl) ?_
              go_big_quiet_want
              refine Rc.quiet_ldset x rfl rfl (fun w' hw' => by obtain ⟨p, rfl⟩ := hw'; exact HXx.out.below (below_regrown _ p.d p.os) HXx.out.lt) ?_
              simp [Act.put]
              go_big_quiet_on
              go_big_quiet_want
              refine Rc.quiet_built rfl ?_
              simp [Act.put]
              go_big_quiet_on
              go_big_quiet_want
              refine Rc.quiet_eqlset x Rx.none_ _ rfl rfl rfl HAL.out ?_
              simp [Act.put]
              go_big_quiet_on
              repeat (go_big_quiet_step (first | (go_at_call 50; exact Calls.regrown_of (HMR.out _ _)) | (go_at_call 76; exact Calls.regrown_of (HSR.out _ _))))
              refine wpQuiet_nil ?_
              intro _ hw'
              obtain ⟨⟨dq, osq⟩, hw''⟩ := hw'
              subst hw''
              have HDl := Lib.hid (HDx.out.on (below_regrown wx dq osq))
              have HR0l := Lib.hid (HR0x.out.below (below_regrown wx dq osq) HR0x.out.lt)
              have HR1l := Lib.hid (HR1x.out.below (below_regrown wx dq osq) HR1x.out.lt)
              have HXl := Lib.hid (HXx.out.below (below_regrown wx dq osq) HXx.out.lt)
              generalize grow (redrawn wx dq) osq = wl at *
              have e1 : wl.cell? ⟨b, 1, none⟩ = some (.int .i64 (j2 : Int)) := HDl.out.at_.c1
              have e2 := HDl.out.at_.fz 1
              have HDm := Lib.hid (HDl.out.set1 j3)
              have HR0m : Hid (RowAt (wl.setCell ⟨b, 1, none⟩ (.int .i64 (j3 : Int))) n0 125 (Rx.cel Rx.none_)) := Lib.hid (HR0l.out.far (by show n0 ≠ b; omega) _)
              have HR1m : Hid (RowAt (wl.setCell ⟨b, 1, none⟩ (.int .i64 (j3 : Int))) (n0 + 1) 125 (Rx.cel m)) := Lib.hid (HR1l.out.far (by show n0 + 1 ≠ b; omega) _)
              have HXm : Hid (RowAt (wl.setCell ⟨b, 1, none⟩ (.int .i64 (j3 : Int))) n2 125 (Rx.cel x)) := Lib.hid (HXl.out.far (by show n2 ≠ b; omega) _)
              have HIT2 := Lib.hid (item_any HDm.out.at_ hl (by show j3 ≤ s.length; omega))
              clear HDl HR0l HR1l HXl
              go_wp2_with fail
              go_at_call 75
              refine HIT2.out.mono ?_
              rintro e w6 ⟨a2, x2, ok2, n3, rfl, hd6, hn6, hk6⟩
              have HDl := Lib.hid (HDm.out.trans hd6)
              have HR0l := Lib.hid (hd6.row HR0m.out (by omega) (fun e => by have := (HAW.out.olt n0 e).2; have := HN0.out; omega))
              have HR1l := Lib.hid (hd6.row HR1m.out (by omega) (fun e => by have := (HAW.out.olt (n0 + 1) e).2; have := HN0.out; omega))
              have HXl := Lib.hid (hd6.row HXm.out (by omega) (fun e => by have := (HAW.out.olt n2 e).2; have := HN0.out; omega))
              have HN6 := Lib.hid hn6
              clear hd6 hn6 hk6 e1 e2
              obtain ⟨j4, hj4⟩ : ∃ j4 : Nat, j4 = j3 + n3 := ⟨_, rfl⟩
              have HJ4 := Lib.hid hj4
              have HDl2 : Hid (Rc.Did w b v ⟨s, j4, d, er, g, L⟩ v w6) := Lib.hid (by rw [hj4]; exact HDl.out)
              clear HDl hj4
              have HDl := HDl2
              clear HDl2
              cases ok2
              · go_wp2_with first
                  | ((with_reducible refine Rc.ldset (Rx.cel m) (Rx.cel_size _) ?_ (HR1l.out) ?_); (focus simp [Act.eval, Act.put]))
                  | ((with_reducible refine Rc.stset (Rx.cel m) (Rx.cel Rx.none_) (Rx.cel_size _) (Rx.cel_one _) (Rx.cel_size _) ?_ ?_ (HR0l.out) ?_); (focus simp [Act.eval, Act.put]); (focus simp [Act.eval, Act.put]))
                ((try simp only [Exit.inBlock, Exit.then]); refine bodyPost_ret (Rc.ret_set2 rfl _ ?_ (Rc.row_setRow HR0l.out _) (Rx.cel_size _)) rfl ?_; (focus simp); simp only [Array.getD_eq_getD_getElem?])
                have hnn := HN0.out
                refine ⟨m, false, j4 - i, rfl, ?_, by show i + (j4 - i) ≤ s.length; have h1 := HN6.out; have h2 := HJ4.out; have h3 : j3 + n3 ≤ s.length := h1; have h0 := HCI.out.lo; have h4 := HJ3.out; have h5 := HJ2.out; omega, fun _ => by have h0 := HCI.out.lo; have h2 := HJ4.out; have h3 := HJ3.out; have h4 := HJ2.out; omega⟩
                show Rc.Did w b v ⟨s, i + (j4 - i), d, er, g, L⟩ v _
                rw [show i + (j4 - i) = j4 by have h0 := HCI.out.lo; have h2 := HJ4.out; have h3 := HJ3.out; have h4 := HJ2.out; omega]
                exact Rc.Did.low HAW.out HDl.out (Rc.below_setRow (Below.refl _ _) (by omega) _)
              · by_cases hba : a2.toNat < a.toNat
                · have hbaI : (a2.toNat : Int) < (a.toNat : Int) := by omega
                  go_wp2_with first
                    | ((with_reducible refine Rc.ldset (Rx.cel m) (Rx.cel_size _) ?_ (HR1l.out) ?_); (focus simp [Act.eval, Act.put]))
                    | ((with_reducible refine Rc.stset (Rx.cel m) (Rx.cel Rx.none_) (Rx.cel_size _) (Rx.cel_one _) (Rx.cel_size _) ?_ ?_ (HR0l.out) ?_); (focus simp [Act.eval, Act.put]); (focus simp [Act.eval, Act.put]))
                  ((try simp only [Exit.inBlock, Exit.then]); refine bodyPost_ret (Rc.ret_set2 rfl _ ?_ (Rc.row_setRow HR0l.out _) (Rx.cel_size _)) rfl ?_; (focus simp); simp only [Array.getD_eq_getD_getElem?])
                  have hnn := HN0.out
                  refine ⟨m, false, j4 - i, rfl, ?_, by show i + (j4 - i) ≤ s.length; have h1 := HN6.out; have h2 := HJ4.out; have h3 : j3 + n3 ≤ s.length := h1; have h0 := HCI.out.lo; have h4 := HJ3.out; have h5 := HJ2.out; omega, fun _ => by have h0 := HCI.out.lo; have h2 := HJ4.out; have h3 := HJ3.out; have h4 := HJ2.out; omega⟩
                  show Rc.Did w b v ⟨s, i + (j4 - i), d, er, g, L⟩ v _
                  rw [show i + (j4 - i) = j4 by have h0 := HCI.out.lo; have h2 := HJ4.out; have h3 := HJ3.out; have h4 := HJ2.out; omega]
                  exact Rc.Did.low HAW.out HDl.out (Rc.below_setRow (Below.refl _ _) (by omega) _)
                · have hbaI : ¬ (a2.toNat : Int) < (a.toNat : Int) := by omega
                  go_wp2_with fail
                  have hlb := HR1l.out.lt
                  go_loopw [11] (fun y wz => ∃ k : Nat, y = .int .i64 (k : Int) ∧ k ≤ 256 ∧ Hid (∃ m', RowAt wz (n0 + 1) 125 (Rx.cel m')) ∧ Hid (Kp (fun i' => i' = n0 + 1) w6 wz)) (fun y _ => 256 - (intOf y).toNat)
                  case atStart => exact ⟨0, rfl, by omega, Lib.hid ⟨_, HR1l.out⟩, Lib.hid (Kp.refl _ _)⟩
                  case round =>
                    obtain ⟨k, rfl, hk, HM, HKQ⟩ := hrel
                    obtain ⟨m', hm'⟩ := HM.out
                    have HW := Lib.hid hm'
                    clear HM
                    by_cases hlt : k < 256
                    · have hkI : (k : Int) < 256 := by omega
                      have hk0 : (0 : Int) ≤ (k : Int) := by omega
                      have hu8 : IntKind.u8.wrap (k : Int) = (k : Int) := by rw [IntKind.wrap_u8]; omega
                      have hxr : RowAt wr n2 125 (Rx.cel x) := (HKQ.out.block n2 HXl.out.lt (by omega)).trans HXl.out
                      have HXR := Lib.hid hxr
                      have hc : wr.cell? ⟨n0 + 1, k, none⟩ = some (.bool (m' k)) := (hm'.cell k).trans (Rx.cel_at _ k hlt)
                      have hf := hm'.frozen k
                      have hcx : wr.cell? ⟨n2, k, none⟩ = some (.bool (x k)) := (hxr.cell k).trans (Rx.cel_at _ k hlt)
                      clear hm' hxr
                      generalize hmk : m' k = mk at hc
                      generalize hxk : x k = xk at hcx
                      clear hmk hxk
                      cases mk
                      · cases xk
                        · by_cases ga : a.toNat ≤ k
                          · have gaI : (a.toNat : Int) ≤ (k : Int) := by omega
                            by_cases gb : k ≤ a2.toNat
                            · have gbI : (k : Int) ≤ (a2.toNat : Int) := by omega
                              have heq : ∀ w', (Op.equalIn 10000 125 (.agg (Rx.cel x)) (.agg (Rx.cel Rx.none_))).run Try.prog w' = .ok true w' := fun w' => by rw [Rc.eqcells, HAL.out]
                              go_wp2_with first
                                | ((with_reducible refine Rc.ldset_g rfl x rfl ?_ HXR.out ?_); (focus simp [Act.eval]))
                                | ((with_reducible refine Rc.built_g rfl rfl ?_))
                              go_roundw
                              case rel => exact ⟨k + 1, by go_num, by omega, Lib.hid ⟨_, Rc.turned HW.out k _⟩, Lib.hid (HKQ.out.setCell _ (.inr rfl) _)⟩
                              case measure => simp [intOf]; omega
                            · have gbI : ¬ (k : Int) ≤ (a2.toNat : Int) := by omega
                              have heq : ∀ w', (Op.equalIn 10000 125 (.agg (Rx.cel x)) (.agg (Rx.cel Rx.none_))).run Try.prog w' = .ok true w' := fun w' => by rw [Rc.eqcells, HAL.out]
                              go_wp2_with first
                                | ((with_reducible refine Rc.ldset_g rfl x rfl ?_ HXR.out ?_); (focus simp [Act.eval]))
                                | ((with_reducible refine Rc.built_g rfl rfl ?_))
                              go_roundw
                              case rel => exact ⟨k + 1, by go_num, by omega, Lib.hid ⟨_, Rc.turned HW.out k _⟩, Lib.hid (HKQ.out.setCell _ (.inr rfl) _)⟩
                              case measure => simp [intOf]; omega
                          · have gaI : ¬ (a.toNat : Int) ≤ (k : Int) := by omega
                            have heq : ∀ w', (Op.equalIn 10000 125 (.agg (Rx.cel x)) (.agg (Rx.cel Rx.none_))).run Try.prog w' = .ok true w' := fun w' => by rw [Rc.eqcells, HAL.out]
                            go_wp2_with first
                              | ((with_reducible refine Rc.ldset_g rfl x rfl ?_ HXR.out ?_); (focus simp [Act.eval]))
                              | ((with_reducible refine Rc.built_g rfl rfl ?_))
                            go_roundw
                            case rel => exact ⟨k + 1, by go_num, by omega, Lib.hid ⟨_, Rc.turned HW.out k _⟩, Lib.hid (HKQ.out.setCell _ (.inr rfl) _)⟩
                            case measure => simp [intOf]; omega
                        · go_wp2_with fail
                          go_roundw
                          case rel => exact ⟨k + 1, by go_num, by omega, Lib.hid ⟨_, Rc.turned HW.out k _⟩, Lib.hid (HKQ.out.setCell _ (.inr rfl) _)⟩
                          case measure => simp [intOf]; omega
                      · go_wp2_with fail
                        go_roundw
                        case rel => exact ⟨k + 1, by go_num, by omega, Lib.hid ⟨_, Rc.turned HW.out k _⟩, Lib.hid (HKQ.out.setCell _ (.inr rfl) _)⟩
                        case measure => simp [intOf]; omega
                    · obtain rfl : k = 256 := by omega
                      clear hm'
                      have HFIN : Hid (Rc.ClsI w b v s i d er g L n0 j4 wr) := Lib.hid ⟨Rc.Did.low HAW.out HDl.out (HKQ.out.below (by have := HDl.out.size; omega) (fun i' hi' e => by have e : i' = n0 + 1 := e; have := HN0.out; omega)), (HKQ.out.block n0 HR0l.out.lt (by omega)).trans HR0l.out, ⟨_, HW.out⟩, by have h0 := HCI.out.lo; have h2 := HJ4.out; have h3 := HJ3.out; have h4 := HJ2.out; omega, by have h1 := HN6.out; have h2 := HJ4.out; have h3 : j3 + n3 ≤ s.length := h1; omega⟩
                      go_wp2_with fail
                      go_roundw
                      case rel => exact ⟨false, rfl, Lib.hid ⟨j4, HFIN.out⟩⟩
                      case measure =>
                        have h1 := HFIN.out.did.at_.atOf
                        have h2 := HAT9.out
                        have h1 : Rc.atOf wr b = j4 := h1
                        have h2 : Rc.atOf wo b = j := h2
                        rw [h1, h2]
                        have h0 := HK4.out (by first | trivial | rfl); have h2 := HJ4.out; have h3 := HJ3.out; have h4 := HJ2.out; omega
            · have HSR := HSR0
              clear HSR0
              refine wp_region_quiet_below (by kernel_rfl) (by kernel_rfl) ?_
              go_big_quiet_want
              refine Rc.quiet_ldset x rfl rfl (fun w' hw' => by obtain ⟨p, rfl⟩ := hw'; exact HXx.out.below (below_regrown _ p.d p.os) HXx.out.lt) ?_
              simp [Act.put]
              go_big_quiet_on
              go_big_quiet_want
              refine Rc.quiet_built rfl ?_
              simp [Act.put]
              go_big_quiet_on
              go_big_quiet_want
              refine Rc.quiet_eqlset x Rx.none_ _ rfl rfl rfl HAL.out ?_
              simp [Act.put]
              go_big_quiet_on
              repeat (go_big_quiet_step (first | (go_at_call 50; exact Calls.regrown_of (HMR.out _ _)) | (go_at_call 76; exact Calls.regrown_of (HSR.out _ _))))
              refine wpQuiet_nil ?_
              intro _ hw'
              obtain ⟨⟨dq, osq⟩, hw''⟩ := hw'
              subst hw''
              have HDl := Lib.hid (HDx.out.on (below_regrown wx dq osq))
              have HR0l := Lib.hid (HR0x.out.below (below_regrown wx dq osq) HR0x.out.lt)
              have HR1l := Lib.hid (HR1x.out.below (below_regrown wx dq osq) HR1x.out.lt)
              have HXl := Lib.hid (HXx.out.below (below_regrown wx dq osq) HXx.out.lt)
              generalize grow (redrawn wx dq) osq = wl at *
              go_wp2_with fail
              have hlb := HR1l.out.lt
              go_loopw [11] (fun y wz => ∃ k : Nat, y = .int .i64 (k : Int) ∧ k ≤ 256 ∧ Hid (∃ m', RowAt wz (n0 + 1) 125 (Rx.cel m')) ∧ Hid (Kp (fun i' => i' = n0 + 1) wl wz)) (fun y _ => 256 - (intOf y).toNat)
              case atStart => exact ⟨0, rfl, by omega, Lib.hid ⟨_, HR1l.out⟩, Lib.hid (Kp.refl _ _)⟩
              case round =>
                obtain ⟨k, rfl, hk, HM, HKQ⟩ := hrel
                obtain ⟨m', hm'⟩ := HM.out
                have HW := Lib.hid hm'
                clear HM
                by_cases hlt : k < 256
                · have hkI : (k : Int) < 256 := by omega
                  have hk0 : (0 : Int) ≤ (k : Int) := by omega
                  have hu8 : IntKind.u8.wrap (k : Int) = (k : Int) := by rw [IntKind.wrap_u8]; omega
                  have hxr : RowAt wr n2 125 (Rx.cel x) := (HKQ.out.block n2 HXl.out.lt (by omega)).trans HXl.out
                  have HXR := Lib.hid hxr
                  have hc : wr.cell? ⟨n0 + 1, k, none⟩ = some (.bool (m' k)) := (hm'.cell k).trans (Rx.cel_at _ k hlt)
                  have hf := hm'.frozen k
                  have hcx : wr.cell? ⟨n2, k, none⟩ = some (.bool (x k)) := (hxr.cell k).trans (Rx.cel_at _ k hlt)
                  clear hm' hxr
                  generalize hmk : m' k = mk at hc
                  generalize hxk : x k = xk at hcx
                  clear hmk hxk
                  cases mk
                  · cases xk
                    · by_cases ga : a.toNat ≤ k
                      · have gaI : (a.toNat : Int) ≤ (k : Int) := by omega
                        by_cases gb : k ≤ a.toNat
                        · have gbI : (k : Int) ≤ (a.toNat : Int) := by omega
                          have heq : ∀ w', (Op.equalIn 10000 125 (.agg (Rx.cel x)) (.agg (Rx.cel Rx.none_))).run Try.prog w' = .ok true w' := fun w' => by rw [Rc.eqcells, HAL.out]
                          go_wp2_with first
                            | ((with_reducible refine Rc.ldset_g rfl x rfl ?_ HXR.out ?_); (focus simp [Act.eval]))
                            | ((with_reducible refine Rc.built_g rfl rfl ?_))
                          go_roundw
                          case rel => exact ⟨k + 1, by go_num, by omega, Lib.hid ⟨_, Rc.turned HW.out k _⟩, Lib.hid (HKQ.out.setCell _ (.inr rfl) _)⟩
                          case measure => simp [intOf]; omega
                        · have gbI : ¬ (k : Int) ≤ (a.toNat : Int) := by omega
                          have heq : ∀ w', (Op.equalIn 10000 125 (.agg (Rx.cel x)) (.agg (Rx.cel Rx.none_))).run Try.prog w' = .ok true w' := fun w' => by rw [Rc.eqcells, HAL.out]
                          go_wp2_with first
                            | ((with_reducible refine Rc.ldset_g rfl x rfl ?_ HXR.out ?_); (focus simp [Act.eval]))
                            | ((with_reducible refine Rc.built_g rfl rfl ?_))
                          go_roundw
                          case rel => exact ⟨k + 1, by go_num, by omega, Lib.hid ⟨_, Rc.turned HW.out k _⟩, Lib.hid (HKQ.out.setCell _ (.inr rfl) _)⟩
                          case measure => simp [intOf]; omega
                      · have gaI : ¬ (a.toNat : Int) ≤ (k : Int) := by omega
                        have heq : ∀ w', (Op.equalIn 10000 125 (.agg (Rx.cel x)) (.agg (Rx.cel Rx.none_))).run Try.prog w' = .ok true w' := fun w' => by rw [Rc.eqcells, HAL.out]
                        go_wp2_with first
                          | ((with_reducible refine Rc.ldset_g rfl x rfl ?_ HXR.out ?_); (focus simp [Act.eval]))
                          | ((with_reducible refine Rc.built_g rfl rfl ?_))
                        go_roundw
                        case rel => exact ⟨k + 1, by go_num, by omega, Lib.hid ⟨_, Rc.turned HW.out k _⟩, Lib.hid (HKQ.out.setCell _ (.inr rfl) _)⟩
                        case measure => simp [intOf]; omega
                    · go_wp2_with fail
                      go_roundw
                      case rel => exact ⟨k + 1, by go_num, by omega, Lib.hid ⟨_, Rc.turned HW.out k _⟩, Lib.hid (HKQ.out.setCell _ (.inr rfl) _)⟩
                      case measure => simp [intOf]; omega
                  · go_wp2_with fail
                    go_roundw
                    case rel => exact ⟨k + 1, by go_num, by omega, Lib.hid ⟨_, Rc.turned HW.out k _⟩, Lib.hid (HKQ.out.setCell _ (.inr rfl) _)⟩
                    case measure => simp [intOf]; omega
                · obtain rfl : k = 256 := by omega
                  clear hm'
                  have HFIN : Hid (Rc.ClsI w b v s i d er g L n0 j2 wr) := Lib.hid ⟨Rc.Did.low HAW.out HDl.out (HKQ.out.below (by have := HDl.out.size; omega) (fun i' hi' e => by have e : i' = n0 + 1 := e; have := HN0.out; omega)), (HKQ.out.block n0 HR0l.out.lt (by omega)).trans HR0l.out, ⟨_, HW.out⟩, by have := HCI.out.lo; have := HJ2.out; omega, by have := HN4.out; have := HJ2.out; exact this.symm ▸ HN4.out⟩
                  go_wp2_with fail
                  go_roundw
                  case rel => exact ⟨false, rfl, Lib.hid ⟨j2, HFIN.out⟩⟩
                  case measure =>
                    have h1 := HFIN.out.did.at_.atOf
                    have h2 := HAT9.out
                    have h1 : Rc.atOf wr b = j2 := h1
                    have h2 : Rc.atOf wo b = j := h2
                    rw [h1, h2]
                    have := HK4.out (by first | trivial | rfl); have := HJ2.out; omega
        · have hj3I : ¬ (j3 : Int) < (s.length : Int) := by omega
          refine wp_region_quiet_below (by kernel_rfl) (by kernel_rfl) ?_
          go_big_quiet_want
          refine Rc.quiet_ldset x rfl rfl (fun w' hw' => by obtain ⟨p, rfl⟩ := hw'; exact HXx.out.below (below_regrown _ p.d p.os) HXx.out.lt) ?_
          simp [Act.put]
          go_big_quiet_on
          go_big_quiet_want
          refine Rc.quiet_built rfl ?_
          simp [Act.put]
          go_big_quiet_on
          go_big_quiet_want
          refine Rc.quiet_eqlset x Rx.none_ _ rfl rfl rfl HAL.out ?_
          simp [Act.put]
          go_big_quiet_on
          repeat (go_big_quiet_step (first | (go_at_call 50; exact Calls.regrown_of (HMR.out _ _)) | (go_at_call 76; exact Calls.regrown_of (HSR.out _ _))))
          refine wpQuiet_nil ?_
          intro _ hw'
          obtain ⟨⟨dq, osq⟩, hw''⟩ := hw'
          subst hw''
          have HDl := Lib.hid (HDx.out.on (below_regrown wx dq osq))
          have HR0l := Lib.hid (HR0x.out.below (below_regrown wx dq osq) HR0x.out.lt)
          have HR1l := Lib.hid (HR1x.out.below (below_regrown wx dq osq) HR1x.out.lt)
          have HXl := Lib.hid (HXx.out.below (below_regrown wx dq osq) HXx.out.lt)
          generalize grow (redrawn wx dq) osq = wl at *
          go_wp2_with fail
          have hlb := HR1l.out.lt
          go_loopw [11] (fun y wz => ∃ k : Nat, y = .int .i64 (k : Int) ∧ k ≤ 256 ∧ Hid (∃ m', RowAt wz (n0 + 1) 125 (Rx.cel m')) ∧ Hid (Kp (fun i' => i' = n0 + 1) wl wz)) (fun y _ => 256 - (intOf y).toNat)
          case atStart => exact ⟨0, rfl, by omega, Lib.hid ⟨_, HR1l.out⟩, Lib.hid (Kp.refl _ _)⟩
          case round =>
            obtain ⟨k, rfl, hk, HM, HKQ⟩ := hrel
            obtain ⟨m', hm'⟩ := HM.out
            have HW := Lib.hid hm'
            clear HM
            by_cases hlt : k < 256
            · have hkI : (k : Int) < 256 := by omega
              have hk0 : (0 : Int) ≤ (k : Int) := by omega
              have hu8 : IntKind.u8.wrap (k : Int) = (k : Int) := by rw [IntKind.wrap_u8]; omega
              have hxr : RowAt wr n2 125 (Rx.cel x) := (HKQ.out.block n2 HXl.out.lt (by omega)).trans HXl.out
              have HXR := Lib.hid hxr
              have hc : wr.cell? ⟨n0 + 1, k, none⟩ = some (.bool (m' k)) := (hm'.cell k).trans (Rx.cel_at _ k hlt)
              have hf := hm'.frozen k
              have hcx : wr.cell? ⟨n2, k, none⟩ = some (.bool (x k)) := (hxr.cell k).trans (Rx.cel_at _ k hlt)
              clear hm' hxr
              generalize hmk : m' k = mk at hc
              generalize hxk : x k = xk at hcx
              clear hmk hxk
              cases mk
              · cases xk
                · by_cases ga : a.toNat ≤ k
                  · have gaI : (a.toNat : Int) ≤ (k : Int) := by omega
                    by_cases gb : k ≤ a.toNat
                    · have gbI : (k : Int) ≤ (a.toNat : Int) := by omega
                      have heq : ∀ w', (Op.equalIn 10000 125 (.agg (Rx.cel x)) (.agg (Rx.cel Rx.none_))).run Try.prog w' = .ok true w' := fun w' => by rw [Rc.eqcells, HAL.out]
                      go_wp2_with first
                        | ((with_reducible refine Rc.ldset_g rfl x rfl ?_ HXR.out ?_); (focus simp [Act.eval]))
                        | ((with_reducible refine Rc.built_g rfl rfl ?_))
                      go_roundw
                      case rel => exact ⟨k + 1, by go_num, by omega, Lib.hid ⟨_, Rc.turned HW.out k _⟩, Lib.hid (HKQ.out.setCell _ (.inr rfl) _)⟩
                      case measure => simp [intOf]; omega
                    · have gbI : ¬ (k : Int) ≤ (a.toNat : Int) := by omega
                      have heq : ∀ w', (Op.equalIn 10000 125 (.agg (Rx.cel x)) (.agg (Rx.cel Rx.none_))).run Try.prog w' = .ok true w' := fun w' => by rw [Rc.eqcells, HAL.out]
                      go_wp2_with first
                        | ((with_reducible refine Rc.ldset_g rfl x rfl ?_ HXR.out ?_); (focus simp [Act.eval]))
                        | ((with_reducible refine Rc.built_g rfl rfl ?_))
                      go_roundw
                      case rel => exact ⟨k + 1, by go_num, by omega, Lib.hid ⟨_, Rc.turned HW.out k _⟩, Lib.hid (HKQ.out.setCell _ (.inr rfl) _)⟩
                      case measure => simp [intOf]; omega
                  · have gaI : ¬ (a.toNat : Int) ≤ (k : Int) := by omega
                    have heq : ∀ w', (Op.equalIn 10000 125 (.agg (Rx.cel x)) (.agg (Rx.cel Rx.none_))).run Try.prog w' = .ok true w' := fun w' => by rw [Rc.eqcells, HAL.out]
                    go_wp2_with first
                      | ((with_reducible refine Rc.ldset_g rfl x rfl ?_ HXR.out ?_); (focus simp [Act.eval]))
                      | ((with_reducible refine Rc.built_g rfl rfl ?_))
                    go_roundw
                    case rel => exact ⟨k + 1, by go_num, by omega, Lib.hid ⟨_, Rc.turned HW.out k _⟩, Lib.hid (HKQ.out.setCell _ (.inr rfl) _)⟩
                    case measure => simp [intOf]; omega
                · go_wp2_with fail
                  go_roundw
                  case rel => exact ⟨k + 1, by go_num, by omega, Lib.hid ⟨_, Rc.turned HW.out k _⟩, Lib.hid (HKQ.out.setCell _ (.inr rfl) _)⟩
                  case measure => simp [intOf]; omega
              · go_wp2_with fail
                go_roundw
                case rel => exact ⟨k + 1, by go_num, by omega, Lib.hid ⟨_, Rc.turned HW.out k _⟩, Lib.hid (HKQ.out.setCell _ (.inr rfl) _)⟩
                case measure => simp [intOf]; omega
            · obtain rfl : k = 256 := by omega
              clear hm'
              have HFIN : Hid (Rc.ClsI w b v s i d er g L n0 j2 wr) := Lib.hid ⟨Rc.Did.low HAW.out HDl.out (HKQ.out.below (by have := HDl.out.size; omega) (fun i' hi' e => by have e : i' = n0 + 1 := e; have := HN0.out; omega)), (HKQ.out.block n0 HR0l.out.lt (by omega)).trans HR0l.out, ⟨_, HW.out⟩, by have := HCI.out.lo; have := HJ2.out; omega, by have := HN4.out; have := HJ2.out; exact this.symm ▸ HN4.out⟩
              go_wp2_with fail
              go_roundw
              case rel => exact ⟨false, rfl, Lib.hid ⟨j2, HFIN.out⟩⟩
              case measure =>
                have h1 := HFIN.out.did.at_.atOf
                have h2 := HAT9.out
                have h1 : Rc.atOf wr b = j2 := h1
                have h2 : Rc.atOf wo b = j := h2
                rw [h1, h2]
                have := HK4.out (by first | trivial | rfl); have := HJ2.out; omega
end Go.Proofs.Ytelbabgkpflckaa
