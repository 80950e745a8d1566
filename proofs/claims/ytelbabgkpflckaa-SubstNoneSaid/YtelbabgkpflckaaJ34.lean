/-
  RcCls: CONTRACTS: chapter 12, the document's Compile: class: without and with a roof ahead.
-/
import Derived.Test.YtelbabgkpflckaaJ32
import Derived.Test.YtelbabgkpflckaaJ33

set_option linter.unusedSimpArgs false
set_option linter.unusedVariables false
namespace Go.Proofs.Ytelbabgkpflckaa
open Go.RowKit Go.Sort
open Me
open Pk

set_option maxRecDepth 1000000 in
set_option maxHeartbeats 8000000 in
theorem class_no {w : World} {b : Nat} {v : Value} {r : Rc.Rr} (h : Rc.At w b v r) (hl : r.s.length ≤ 1000000) (ha : r.at_ < r.s.length) (hq0 : Rc.more { r with at_ := r.at_ + 1 } 94 = false) :
    Calls Try.prog 72 #[.pointer (some ⟨b, 0, none⟩)] w (Rc.ClsR w b v r) := by
  obtain ⟨n0, hn0⟩ : ∃ n0, n0 = w.heap.size := ⟨_, rfl⟩
  have hbl := h.lt
  have HAW := Lib.hid h
  have hb1 : b < n0 := by omega
  obtain ⟨s, i, d, er, g, L⟩ := r
  have d1 : w.cell? ⟨b, 1, none⟩ = some (.int .i64 (i : Int)) := HAW.out.c1
  have df1 := HAW.out.fz 1
  have hl : s.length ≤ 1000000 := hl
  have ha : i < s.length := ha
  have HN0 := Lib.hid hn0
  have hi0 : (0 : Int) ≤ (i : Int) := by omega
  obtain ⟨i1, hi1⟩ : ∃ i1 : Nat, i1 = i + 1 := ⟨_, rfl⟩
  have hwi : IntKind.i64.wrap ((i : Int) + 1) = (i1 : Int) := by rw [IntKind.wrap_i64]; omega
  have HI1 := Lib.hid hi1
  -- facts of any world behind
  have HMO : Hid (∀ (W : World) (j : Nat) (k : UInt8), Rc.Did w b v ⟨s, j, d, er, g, L⟩ v W → Calls Try.prog 50 #[.pointer (some ⟨b, 0, none⟩), .int .u8 (k.toNat : Int)] W fun e w' => e = .returned (.bool (Rc.more ⟨s, j, d, er, g, L⟩ k)) ∧ Below W.heap.size W w') := Lib.hid fun W j k hd => more_any hd.at_ k _ rfl
  clear h hn0 hi1
  obtain ⟨w1, hw1⟩ : ∃ w1, w1 = ((w.setCell ⟨b, 1, none⟩ (.int .i64 (i1 : Int))).alloc (.cells Try.zeroCells125 125)).alloc (.cells Try.zeroCells125 125) := ⟨_, rfl⟩
  have hsz : (w.setCell ⟨b, 1, none⟩ (.int .i64 (i1 : Int))).heap.size = n0 := by rw [HN0.out]; simp [World.setCell]
  have HD1 : Hid (Rc.Did w b v ⟨s, i1, d, er, g, L⟩ v w1) := Lib.hid (by rw [hw1]; exact ((Rc.Did.refl HAW.out).set1 i1).on (((Below.refl _ _).alloc (Nat.le_refl _) _).alloc (by simp) _))
  have HR0s : Hid (RowAt w1 n0 125 (Rx.cel Rx.none_)) := Lib.hid (by rw [hw1, ← z_b256, ← hsz]; exact (RowAt.new _ _ _).alloc _)
  have HR1s : Hid (RowAt w1 (n0 + 1) 125 (Rx.cel Rx.none_)) := Lib.hid (by rw [hw1, ← z_b256]; exact RowAt.new' (by simp [hsz]))
  clear hsz
  have HM1 : Hid (Calls Try.prog 50 #[.pointer (some ⟨b, 0, none⟩), .int .u8 94] w1 fun e w' => e = .returned (.bool (Rc.more ⟨s, i1, d, er, g, L⟩ 94)) ∧ Below w1.heap.size w1 w') := Lib.hid (HMO.out _ i1 94 HD1.out)
  go_enter Try.func72, Try.ntmps72
  go_wp2_with fail
  rw [← hw1, ← HN0.out]
  clear hw1 d1 df1
  go_at_call 50
  refine HM1.out.mono ?_
  rintro e w2 ⟨rfl, hb2⟩
  have HD2 := Lib.hid (HD1.out.on hb2)
  have HR02 := Lib.hid (HR0s.out.below hb2 HR0s.out.lt)
  have HR12 := Lib.hid (HR1s.out.below hb2 HR1s.out.lt)
  clear hb2
  have hq1 : Rc.more ⟨s, i1, d, er, g, L⟩ 94 = false := by rw [HI1.out]; exact hq0
  clear hq0
  rw [hq1]
  have hi10 : (0 : Int) ≤ (i1 : Int) := by omega
  have hi1s : i1 ≤ s.length := by have := HI1.out; omega
  have HS3 : Hid (Rc.ClsI w b v s i d er g L n0 i1 w2) := Lib.hid ⟨HD2.out, HR02.out, ⟨_, HR12.out⟩, by have := HI1.out; omega, hi1s⟩
  clear hq1 HM1 HD1 HR0s HR1s HD2 HR02 HR12
  go_wp2_with fail
  refine wp_loop (Rc.CW w b v s i d er g L n0 (.bool false) (.pointer (some ⟨b, 0, none⟩)) (.pointer (some ⟨b, 0, none⟩)) (.pointer (some ⟨b, 1, none⟩)) (.int .i64 (i : Int)) (.int .i64 (i1 : Int)) (.pointer (some ⟨b, 0, none⟩)) (.pointer (some ⟨b, 1, none⟩)) (.pointer (some ⟨b, 0, none⟩)) (.bool false) (.bool false) undef undef undef undef undef undef undef) (Rc.Cmu s b) ?_ ?_
  · unfold Rc.CW
    (repeat apply Exists.intro)
    refine ⟨?_, rfl⟩
    exact ⟨true, rfl, Lib.hid ⟨_, HS3.out⟩⟩
  · intro a0 wo hinv
    unfold Rc.CW at hinv
    obtain ⟨u3, hinv⟩ := hinv
    obtain ⟨u6, hinv⟩ := hinv
    obtain ⟨u7, hinv⟩ := hinv
    obtain ⟨u8, hinv⟩ := hinv
    obtain ⟨u9, hinv⟩ := hinv
    obtain ⟨u10, hinv⟩ := hinv
    obtain ⟨u11, hinv⟩ := hinv
    obtain ⟨u30, hinv⟩ := hinv
    obtain ⟨u31, hinv⟩ := hinv
    obtain ⟨u32, hinv⟩ := hinv
    obtain ⟨u33, hinv⟩ := hinv
    obtain ⟨u34, hinv⟩ := hinv
    obtain ⟨u35, hinv⟩ := hinv
    obtain ⟨u36, hinv⟩ := hinv
    obtain ⟨u37, hinv⟩ := hinv
    obtain ⟨u38, hinv⟩ := hinv
    obtain ⟨u39, hinv⟩ := hinv
    obtain ⟨u40, hinv⟩ := hinv
    obtain ⟨u41, hinv⟩ := hinv
    obtain ⟨u42, hinv⟩ := hinv
    obtain ⟨u43, hinv⟩ := hinv
    obtain ⟨u44, hinv⟩ := hinv
    obtain ⟨u45, hinv⟩ := hinv
    obtain ⟨u46, hinv⟩ := hinv
    obtain ⟨u47, hinv⟩ := hinv
    obtain ⟨u48, hinv⟩ := hinv
    obtain ⟨u49, hinv⟩ := hinv
    obtain ⟨u50, hinv⟩ := hinv
    obtain ⟨u51, hinv⟩ := hinv
    obtain ⟨u52, hinv⟩ := hinv
    obtain ⟨u53, hinv⟩ := hinv
    obtain ⟨u54, hinv⟩ := hinv
    obtain ⟨u55, hinv⟩ := hinv
    obtain ⟨u56, hinv⟩ := hinv
    obtain ⟨u57, hinv⟩ := hinv
    obtain ⟨u58, hinv⟩ := hinv
    obtain ⟨u59, hinv⟩ := hinv
    obtain ⟨u60, hinv⟩ := hinv
    obtain ⟨u61, hinv⟩ := hinv
    obtain ⟨u62, hinv⟩ := hinv
    obtain ⟨u63, hinv⟩ := hinv
    obtain ⟨u64, hinv⟩ := hinv
    obtain ⟨u65, hinv⟩ := hinv
    obtain ⟨u66, hinv⟩ := hinv
    obtain ⟨u67, hinv⟩ := hinv
    obtain ⟨u68, hinv⟩ := hinv
    obtain ⟨u69, hinv⟩ := hinv
    obtain ⟨u70, hinv⟩ := hinv
    obtain ⟨u71, hinv⟩ := hinv
    obtain ⟨u72, hinv⟩ := hinv
    obtain ⟨u73, hinv⟩ := hinv
    obtain ⟨u74, hinv⟩ := hinv
    obtain ⟨u75, hinv⟩ := hinv
    obtain ⟨u76, hinv⟩ := hinv
    obtain ⟨u77, hinv⟩ := hinv
    obtain ⟨u78, hinv⟩ := hinv
    obtain ⟨u79, hinv⟩ := hinv
    obtain ⟨u80, hinv⟩ := hinv
    obtain ⟨u81, hinv⟩ := hinv
    obtain ⟨u82, hinv⟩ := hinv
    obtain ⟨u83, hinv⟩ := hinv
    obtain ⟨u84, hinv⟩ := hinv
    obtain ⟨u85, hinv⟩ := hinv
    obtain ⟨u86, hinv⟩ := hinv
    obtain ⟨u87, hinv⟩ := hinv
    obtain ⟨u88, hinv⟩ := hinv
    obtain ⟨u89, hinv⟩ := hinv
    obtain ⟨u90, hinv⟩ := hinv
    obtain ⟨u91, hinv⟩ := hinv
    obtain ⟨u92, hinv⟩ := hinv
    obtain ⟨u93, hinv⟩ := hinv
    obtain ⟨u94, hinv⟩ := hinv
    obtain ⟨u95, hinv⟩ := hinv
    obtain ⟨u96, hinv⟩ := hinv
    obtain ⟨u97, hinv⟩ := hinv
    obtain ⟨u98, hinv⟩ := hinv
    obtain ⟨u99, hinv⟩ := hinv
    obtain ⟨u100, hinv⟩ := hinv
    obtain ⟨u101, hinv⟩ := hinv
    obtain ⟨u102, hinv⟩ := hinv
    obtain ⟨u103, hinv⟩ := hinv
    obtain ⟨u104, hinv⟩ := hinv
    obtain ⟨u105, hinv⟩ := hinv
    obtain ⟨u106, hinv⟩ := hinv
    obtain ⟨u107, hinv⟩ := hinv
    obtain ⟨u108, hinv⟩ := hinv
    obtain ⟨u109, hinv⟩ := hinv
    obtain ⟨u110, hinv⟩ := hinv
    obtain ⟨u111, hinv⟩ := hinv
    obtain ⟨u112, hinv⟩ := hinv
    obtain ⟨u113, hinv⟩ := hinv
    obtain ⟨u114, hinv⟩ := hinv
    obtain ⟨u115, hinv⟩ := hinv
    obtain ⟨u116, hinv⟩ := hinv
    obtain ⟨u117, hinv⟩ := hinv
    obtain ⟨u118, hinv⟩ := hinv
    obtain ⟨u119, hinv⟩ := hinv
    obtain ⟨u120, hinv⟩ := hinv
    obtain ⟨u121, hinv⟩ := hinv
    obtain ⟨u122, hinv⟩ := hinv
    obtain ⟨u123, hinv⟩ := hinv
    obtain ⟨u124, hinv⟩ := hinv
    obtain ⟨u125, hinv⟩ := hinv
    obtain ⟨u126, hinv⟩ := hinv
    obtain ⟨u127, hinv⟩ := hinv
    obtain ⟨u128, hinv⟩ := hinv
    obtain ⟨u129, hinv⟩ := hinv
    obtain ⟨u130, hinv⟩ := hinv
    obtain ⟨u131, hinv⟩ := hinv
    obtain ⟨u132, hinv⟩ := hinv
    obtain ⟨u133, hinv⟩ := hinv
    obtain ⟨u134, hinv⟩ := hinv
    obtain ⟨u135, hinv⟩ := hinv
    obtain ⟨u136, hinv⟩ := hinv
    obtain ⟨u137, hinv⟩ := hinv
    obtain ⟨u138, hinv⟩ := hinv
    obtain ⟨u139, hinv⟩ := hinv
    obtain ⟨u140, hinv⟩ := hinv
    obtain ⟨hrel, ha0⟩ := hinv
    subst ha0
    obtain ⟨f, rfl, hst⟩ := hrel
    obtain ⟨j, hI⟩ := hst.out
    have HCI := Lib.hid hI
    have hjs := hI.hi
    have hj0 : (0 : Int) ≤ (j : Int) := by omega
    clear hst hI
    cases f
    · cases hm93 : Rc.more ⟨s, j, d, er, g, L⟩ 93
      · exact cls_false hb1 HAW hl HN0 HMO HCI hm93
      · have HIT := Lib.hid (item_any HCI.out.did.at_ hl hjs)
        have HM93 : Hid (Calls Try.prog 50 #[.pointer (some ⟨b, 0, none⟩), .int .u8 93] wo fun e w' => e = .returned (.bool (Rc.more ⟨s, j, d, er, g, L⟩ 93)) ∧ Below wo.heap.size wo w') := Lib.hid (HMO.out _ j 93 HCI.out.did)
        unfold Rc.CW Rc.Cmu
        rw [hm93] at HM93
        have hjl : j < s.length := by
          have h : (s[j]? == some 93) = true := hm93
          have h : s[j]? = some 93 := by simpa using h
          exact (List.getElem?_eq_some_iff.1 h).1
        clear hm93
        go_wp2_with fail
        go_at_call 50
        refine HM93.out.mono ?_
        rintro e w9 ⟨rfl, hb9⟩
        have HD9 := Lib.hid (HCI.out.did.on hb9)
        have HR09 := Lib.hid (HCI.out.res.below hb9 HCI.out.res.lt)
        have hR19 : ∃ m, RowAt w9 (n0 + 1) 125 (Rx.cel m) := by
          obtain ⟨m, hm⟩ := HCI.out.row
          exact ⟨m, hm.below hb9 hm.lt⟩
        obtain ⟨m9, hm9⟩ := hR19
        have e1 : w9.cell? ⟨b, 1, none⟩ = some (.int .i64 (j : Int)) := HD9.out.at_.c1
        have e2 := HD9.out.at_.fz 1
        obtain ⟨j9, hj9⟩ : ∃ j9 : Nat, j9 = j + 1 := ⟨_, rfl⟩
        have hwj9 : IntKind.i64.wrap ((j : Int) + 1) = (j9 : Int) := by rw [IntKind.wrap_i64]; omega
        have HJ9 := Lib.hid hj9
        have HDl := Lib.hid (HD9.out.set1 j9)
        have HR0l : Hid (RowAt (w9.setCell ⟨b, 1, none⟩ (.int .i64 (j9 : Int))) n0 125 (Rx.cel Rx.none_)) := Lib.hid (HR09.out.far (by show n0 ≠ b; omega) _)
        have HR1l : Hid (RowAt (w9.setCell ⟨b, 1, none⟩ (.int .i64 (j9 : Int))) (n0 + 1) 125 (Rx.cel m9)) := Lib.hid (hm9.far (by show n0 + 1 ≠ b; omega) _)
        clear hm9 hb9 HM93 HIT hj9 HD9 HR09
        go_wp2_with fail
        generalize w9.setCell ⟨b, 1, none⟩ (.int .i64 (j9 : Int)) = wl at *
        clear e1 e2
        have hlb := HR1l.out.lt
        go_loopw [12] (fun y wz => ∃ k : Nat, y = .int .i64 (k : Int) ∧ k ≤ 256 ∧ Hid (∃ m', RowAt wz (n0 + 1) 125 (Rx.cel m')) ∧ Hid (Kp (fun i' => i' = n0 + 1) wl wz)) (fun y _ => 256 - (intOf y).toNat)
        case atStart => exact ⟨0, rfl, by omega, Lib.hid ⟨_, HR1l.out⟩, Lib.hid (Kp.refl _ _)⟩
        case round =>
          obtain ⟨k, rfl, hk, HM, HKQ⟩ := hrel
          obtain ⟨m', hm'⟩ := HM.out
          have HW := Lib.hid hm'
          clear HM
          by_cases hlt : k < 256
          · have hkI : (k : Int) < 256 := by omega
            have hk0 : (0 : Int) ≤ (k : Int) := by omega
            have hc : wr.cell? ⟨n0 + 1, k, none⟩ = some (.bool (m' k)) := (hm'.cell k).trans (Rx.cel_at _ k hlt)
            have hf := hm'.frozen k
            clear hm'
            generalize hmk : m' k = mk at hc
            clear hmk
            cases mk
            all_goals
              go_wp2_with fail
              go_roundw
              case rel => exact ⟨k + 1, by go_num, by omega, Lib.hid ⟨_, Rc.turned HW.out k _⟩, Lib.hid (HKQ.out.setCell _ (.inr rfl) _)⟩
              case measure => simp [intOf]; omega
          · obtain rfl : k = 256 := by omega
            clear hm'
            have HDz := Lib.hid (Rc.Did.low HAW.out HDl.out (HKQ.out.below (by have := HDl.out.size; omega) (fun i' hi' e => by have e : i' = n0 + 1 := e; have := HN0.out; omega)))
            have HR0z : Hid (RowAt wr n0 125 (Rx.cel Rx.none_)) := Lib.hid ((HKQ.out.block n0 HR0l.out.lt (by omega)).trans HR0l.out)
            go_wp2_with first
              | ((with_reducible refine Rc.ldset (Rx.cel m') (Rx.cel_size _) ?_ (HW.out) ?_); (focus simp [Act.eval, Act.put]))
              | ((with_reducible refine Rc.stset (Rx.cel m') (Rx.cel Rx.none_) (Rx.cel_size _) (Rx.cel_one _) (Rx.cel_size _) ?_ ?_ (HR0z.out) ?_); (focus simp [Act.eval, Act.put]); (focus simp [Act.eval, Act.put]))
            ((try simp only [Exit.inBlock, Exit.then]); refine bodyPost_ret (Rc.ret_set2 rfl _ ?_ (Rc.row_setRow HR0z.out _) (Rx.cel_size _)) rfl ?_; (focus simp); simp only [Array.getD_eq_getD_getElem?])
            have hnn := HN0.out
            refine ⟨m', true, j9 - i, rfl, ?_, by show i + (j9 - i) ≤ s.length; have h4 := HJ9.out; have h0 := HCI.out.lo; omega, fun _ => by have h0 := HCI.out.lo; have h4 := HJ9.out; omega⟩
            show Rc.Did w b v ⟨s, i + (j9 - i), d, er, g, L⟩ v _
            rw [show i + (j9 - i) = j9 by have h0 := HCI.out.lo; have h4 := HJ9.out; omega]
            exact Rc.Did.low HAW.out HDz.out (Rc.below_setRow (Below.refl _ _) (by omega) _)
    · exact cls_true hb1 HAW hl HN0 HMO HCI

set_option maxRecDepth 1000000 in
set_option maxHeartbeats 8000000 in
theorem class_yes {w : World} {b : Nat} {v : Value} {r : Rc.Rr} (h : Rc.At w b v r) (hl : r.s.length ≤ 1000000) (ha : r.at_ < r.s.length) (hq0 : Rc.more { r with at_ := r.at_ + 1 } 94 = true) :
    Calls Try.prog 72 #[.pointer (some ⟨b, 0, none⟩)] w (Rc.ClsR w b v r) := by
  obtain ⟨n0, hn0⟩ : ∃ n0, n0 = w.heap.size := ⟨_, rfl⟩
  have hbl := h.lt
  have HAW := Lib.hid h
  have hb1 : b < n0 := by omega
  obtain ⟨s, i, d, er, g, L⟩ := r
  have d1 : w.cell? ⟨b, 1, none⟩ = some (.int .i64 (i : Int)) := HAW.out.c1
  have df1 := HAW.out.fz 1
  have hl : s.length ≤ 1000000 := hl
  have ha : i < s.length := ha
  have HN0 := Lib.hid hn0
  have hi0 : (0 : Int) ≤ (i : Int) := by omega
  obtain ⟨i1, hi1⟩ : ∃ i1 : Nat, i1 = i + 1 := ⟨_, rfl⟩
  have hwi : IntKind.i64.wrap ((i : Int) + 1) = (i1 : Int) := by rw [IntKind.wrap_i64]; omega
  have HI1 := Lib.hid hi1
  -- facts of any world behind
  have HMO : Hid (∀ (W : World) (j : Nat) (k : UInt8), Rc.Did w b v ⟨s, j, d, er, g, L⟩ v W → Calls Try.prog 50 #[.pointer (some ⟨b, 0, none⟩), .int .u8 (k.toNat : Int)] W fun e w' => e = .returned (.bool (Rc.more ⟨s, j, d, er, g, L⟩ k)) ∧ Below W.heap.size W w') := Lib.hid fun W j k hd => more_any hd.at_ k _ rfl
  clear h hn0 hi1
  obtain ⟨w1, hw1⟩ : ∃ w1, w1 = ((w.setCell ⟨b, 1, none⟩ (.int .i64 (i1 : Int))).alloc (.cells Try.zeroCells125 125)).alloc (.cells Try.zeroCells125 125) := ⟨_, rfl⟩
  have hsz : (w.setCell ⟨b, 1, none⟩ (.int .i64 (i1 : Int))).heap.size = n0 := by rw [HN0.out]; simp [World.setCell]
  have HD1 : Hid (Rc.Did w b v ⟨s, i1, d, er, g, L⟩ v w1) := Lib.hid (by rw [hw1]; exact ((Rc.Did.refl HAW.out).set1 i1).on (((Below.refl _ _).alloc (Nat.le_refl _) _).alloc (by simp) _))
  have HR0s : Hid (RowAt w1 n0 125 (Rx.cel Rx.none_)) := Lib.hid (by rw [hw1, ← z_b256, ← hsz]; exact (RowAt.new _ _ _).alloc _)
  have HR1s : Hid (RowAt w1 (n0 + 1) 125 (Rx.cel Rx.none_)) := Lib.hid (by rw [hw1, ← z_b256]; exact RowAt.new' (by simp [hsz]))
  clear hsz
  have HM1 : Hid (Calls Try.prog 50 #[.pointer (some ⟨b, 0, none⟩), .int .u8 94] w1 fun e w' => e = .returned (.bool (Rc.more ⟨s, i1, d, er, g, L⟩ 94)) ∧ Below w1.heap.size w1 w') := Lib.hid (HMO.out _ i1 94 HD1.out)
  go_enter Try.func72, Try.ntmps72
  go_wp2_with fail
  rw [← hw1, ← HN0.out]
  clear hw1 d1 df1
  go_at_call 50
  refine HM1.out.mono ?_
  rintro e w2 ⟨rfl, hb2⟩
  have HD2 := Lib.hid (HD1.out.on hb2)
  have HR02 := Lib.hid (HR0s.out.below hb2 HR0s.out.lt)
  have HR12 := Lib.hid (HR1s.out.below hb2 HR1s.out.lt)
  clear hb2
  have hq1 : Rc.more ⟨s, i1, d, er, g, L⟩ 94 = true := by rw [HI1.out]; exact hq0
  clear hq0
  rw [hq1]
  have hi10 : (0 : Int) ≤ (i1 : Int) := by omega
  have hi1s : i1 ≤ s.length := by have := HI1.out; omega
  have hlt : i1 < s.length := by
    have h : (s[i1]? == some 94) = true := hq1
    have h : s[i1]? = some 94 := by simpa using h
    exact (List.getElem?_eq_some_iff.1 h).1
  have e1 : w2.cell? ⟨b, 1, none⟩ = some (.int .i64 (i1 : Int)) := HD2.out.at_.c1
  have e2 := HD2.out.at_.fz 1
  obtain ⟨i2, hi2⟩ : ∃ i2 : Nat, i2 = i1 + 1 := ⟨_, rfl⟩
  have hwi2 : IntKind.i64.wrap ((i1 : Int) + 1) = (i2 : Int) := by rw [IntKind.wrap_i64]; omega
  have HI2 := Lib.hid hi2
  clear hi2
  have HS3 : Hid (Rc.ClsI w b v s i d er g L n0 i2 (w2.setCell ⟨b, 1, none⟩ (.int .i64 (i2 : Int)))) := Lib.hid ⟨HD2.out.set1 i2, HR02.out.far (by show n0 ≠ b; omega) _, ⟨_, HR12.out.far (by show n0 + 1 ≠ b; omega) _⟩, by have := HI1.out; have := HI2.out; omega, by have := HI2.out; omega⟩
  clear hq1 HM1 HD1 HR0s HR1s HD2 HR02 HR12
  go_wp2_with fail
  refine wp_loop (Rc.CW w b v s i d er g L n0 (.bool true) (.pointer (some ⟨b, 0, none⟩)) (.pointer (some ⟨b, 0, none⟩)) (.pointer (some ⟨b, 1, none⟩)) (.int .i64 (i : Int)) (.int .i64 (i1 : Int)) (.pointer (some ⟨b, 0, none⟩)) (.pointer (some ⟨b, 1, none⟩)) (.pointer (some ⟨b, 0, none⟩)) (.bool true) (.bool true) (.pointer (some ⟨b, 0, none⟩)) (.pointer (some ⟨b, 0, none⟩)) (.pointer (some ⟨b, 1, none⟩)) (.int .i64 (i1 : Int)) (.int .i64 (i2 : Int)) (.pointer (some ⟨b, 0, none⟩)) (.pointer (some ⟨b, 1, none⟩))) (Rc.Cmu s b) ?_ ?_
  · unfold Rc.CW
    (repeat apply Exists.intro)
    refine ⟨?_, rfl⟩
    exact ⟨true, rfl, Lib.hid ⟨_, HS3.out⟩⟩
  · intro a0 wo hinv
    unfold Rc.CW at hinv
    obtain ⟨u3, hinv⟩ := hinv
    obtain ⟨u6, hinv⟩ := hinv
    obtain ⟨u7, hinv⟩ := hinv
    obtain ⟨u8, hinv⟩ := hinv
    obtain ⟨u9, hinv⟩ := hinv
    obtain ⟨u10, hinv⟩ := hinv
    obtain ⟨u11, hinv⟩ := hinv
    obtain ⟨u30, hinv⟩ := hinv
    obtain ⟨u31, hinv⟩ := hinv
    obtain ⟨u32, hinv⟩ := hinv
    obtain ⟨u33, hinv⟩ := hinv
    obtain ⟨u34, hinv⟩ := hinv
    obtain ⟨u35, hinv⟩ := hinv
    obtain ⟨u36, hinv⟩ := hinv
    obtain ⟨u37, hinv⟩ := hinv
    obtain ⟨u38, hinv⟩ := hinv
    obtain ⟨u39, hinv⟩ := hinv
    obtain ⟨u40, hinv⟩ := hinv
    obtain ⟨u41, hinv⟩ := hinv
    obtain ⟨u42, hinv⟩ := hinv
    obtain ⟨u43, hinv⟩ := hinv
    obtain ⟨u44, hinv⟩ := hinv
    obtain ⟨u45, hinv⟩ := hinv
    obtain ⟨u46, hinv⟩ := hinv
    obtain ⟨u47, hinv⟩ := hinv
    obtain ⟨u48, hinv⟩ := hinv
    obtain ⟨u49, hinv⟩ := hinv
    obtain ⟨u50, hinv⟩ := hinv
    obtain ⟨u51, hinv⟩ := hinv
    obtain ⟨u52, hinv⟩ := hinv
    obtain ⟨u53, hinv⟩ := hinv
    obtain ⟨u54, hinv⟩ := hinv
    obtain ⟨u55, hinv⟩ := hinv
    obtain ⟨u56, hinv⟩ := hinv
    obtain ⟨u57, hinv⟩ := hinv
    obtain ⟨u58, hinv⟩ := hinv
    obtain ⟨u59, hinv⟩ := hinv
    obtain ⟨u60, hinv⟩ := hinv
    obtain ⟨u61, hinv⟩ := hinv
    obtain ⟨u62, hinv⟩ := hinv
    obtain ⟨u63, hinv⟩ := hinv
    obtain ⟨u64, hinv⟩ := hinv
    obtain ⟨u65, hinv⟩ := hinv
    obtain ⟨u66, hinv⟩ := hinv
    obtain ⟨u67, hinv⟩ := hinv
    obtain ⟨u68, hinv⟩ := hinv
    obtain ⟨u69, hinv⟩ := hinv
    obtain ⟨u70, hinv⟩ := hinv
    obtain ⟨u71, hinv⟩ := hinv
    obtain ⟨u72, hinv⟩ := hinv
    obtain ⟨u73, hinv⟩ := hinv
    obtain ⟨u74, hinv⟩ := hinv
    obtain ⟨u75, hinv⟩ := hinv
    obtain ⟨u76, hinv⟩ := hinv
    obtain ⟨u77, hinv⟩ := hinv
    obtain ⟨u78, hinv⟩ := hinv
    obtain ⟨u79, hinv⟩ := hinv
    obtain ⟨u80, hinv⟩ := hinv
    obtain ⟨u81, hinv⟩ := hinv
    obtain ⟨u82, hinv⟩ := hinv
    obtain ⟨u83, hinv⟩ := hinv
    obtain ⟨u84, hinv⟩ := hinv
    obtain ⟨u85, hinv⟩ := hinv
    obtain ⟨u86, hinv⟩ := hinv
    obtain ⟨u87, hinv⟩ := hinv
    obtain ⟨u88, hinv⟩ := hinv
    obtain ⟨u89, hinv⟩ := hinv
    obtain ⟨u90, hinv⟩ := hinv
    obtain ⟨u91, hinv⟩ := hinv
    obtain ⟨u92, hinv⟩ := hinv
    obtain ⟨u93, hinv⟩ := hinv
    obtain ⟨u94, hinv⟩ := hinv
    obtain ⟨u95, hinv⟩ := hinv
    obtain ⟨u96, hinv⟩ := hinv
    obtain ⟨u97, hinv⟩ := hinv
    obtain ⟨u98, hinv⟩ := hinv
    obtain ⟨u99, hinv⟩ := hinv
    obtain ⟨u100, hinv⟩ := hinv
    obtain ⟨u101, hinv⟩ := hinv
    obtain ⟨u102, hinv⟩ := hinv
    obtain ⟨u103, hinv⟩ := hinv
    obtain ⟨u104, hinv⟩ := hinv
    obtain ⟨u105, hinv⟩ := hinv
    obtain ⟨u106, hinv⟩ := hinv
    obtain ⟨u107, hinv⟩ := hinv
    obtain ⟨u108, hinv⟩ := hinv
    obtain ⟨u109, hinv⟩ := hinv
    obtain ⟨u110, hinv⟩ := hinv
    obtain ⟨u111, hinv⟩ := hinv
    obtain ⟨u112, hinv⟩ := hinv
    obtain ⟨u113, hinv⟩ := hinv
    obtain ⟨u114, hinv⟩ := hinv
    obtain ⟨u115, hinv⟩ := hinv
    obtain ⟨u116, hinv⟩ := hinv
    obtain ⟨u117, hinv⟩ := hinv
    obtain ⟨u118, hinv⟩ := hinv
    obtain ⟨u119, hinv⟩ := hinv
    obtain ⟨u120, hinv⟩ := hinv
    obtain ⟨u121, hinv⟩ := hinv
    obtain ⟨u122, hinv⟩ := hinv
    obtain ⟨u123, hinv⟩ := hinv
    obtain ⟨u124, hinv⟩ := hinv
    obtain ⟨u125, hinv⟩ := hinv
    obtain ⟨u126, hinv⟩ := hinv
    obtain ⟨u127, hinv⟩ := hinv
    obtain ⟨u128, hinv⟩ := hinv
    obtain ⟨u129, hinv⟩ := hinv
    obtain ⟨u130, hinv⟩ := hinv
    obtain ⟨u131, hinv⟩ := hinv
    obtain ⟨u132, hinv⟩ := hinv
    obtain ⟨u133, hinv⟩ := hinv
    obtain ⟨u134, hinv⟩ := hinv
    obtain ⟨u135, hinv⟩ := hinv
    obtain ⟨u136, hinv⟩ := hinv
    obtain ⟨u137, hinv⟩ := hinv
    obtain ⟨u138, hinv⟩ := hinv
    obtain ⟨u139, hinv⟩ := hinv
    obtain ⟨u140, hinv⟩ := hinv
    obtain ⟨hrel, ha0⟩ := hinv
    subst ha0
    obtain ⟨f, rfl, hst⟩ := hrel
    obtain ⟨j, hI⟩ := hst.out
    have HCI := Lib.hid hI
    have hjs := hI.hi
    have hj0 : (0 : Int) ≤ (j : Int) := by omega
    clear hst hI
    cases f
    · cases hm93 : Rc.more ⟨s, j, d, er, g, L⟩ 93
      · exact cls_false hb1 HAW hl HN0 HMO HCI hm93
      · have HIT := Lib.hid (item_any HCI.out.did.at_ hl hjs)
        have HM93 : Hid (Calls Try.prog 50 #[.pointer (some ⟨b, 0, none⟩), .int .u8 93] wo fun e w' => e = .returned (.bool (Rc.more ⟨s, j, d, er, g, L⟩ 93)) ∧ Below wo.heap.size wo w') := Lib.hid (HMO.out _ j 93 HCI.out.did)
        unfold Rc.CW Rc.Cmu
        rw [hm93] at HM93
        have hjl : j < s.length := by
          have h : (s[j]? == some 93) = true := hm93
          have h : s[j]? = some 93 := by simpa using h
          exact (List.getElem?_eq_some_iff.1 h).1
        clear hm93
        go_wp2_with fail
        go_at_call 50
        refine HM93.out.mono ?_
        rintro e w9 ⟨rfl, hb9⟩
        have HD9 := Lib.hid (HCI.out.did.on hb9)
        have HR09 := Lib.hid (HCI.out.res.below hb9 HCI.out.res.lt)
        have hR19 : ∃ m, RowAt w9 (n0 + 1) 125 (Rx.cel m) := by
          obtain ⟨m, hm⟩ := HCI.out.row
          exact ⟨m, hm.below hb9 hm.lt⟩
        obtain ⟨m9, hm9⟩ := hR19
        have e1 : w9.cell? ⟨b, 1, none⟩ = some (.int .i64 (j : Int)) := HD9.out.at_.c1
        have e2 := HD9.out.at_.fz 1
        obtain ⟨j9, hj9⟩ : ∃ j9 : Nat, j9 = j + 1 := ⟨_, rfl⟩
        have hwj9 : IntKind.i64.wrap ((j : Int) + 1) = (j9 : Int) := by rw [IntKind.wrap_i64]; omega
        have HJ9 := Lib.hid hj9
        have HDl := Lib.hid (HD9.out.set1 j9)
        have HR0l : Hid (RowAt (w9.setCell ⟨b, 1, none⟩ (.int .i64 (j9 : Int))) n0 125 (Rx.cel Rx.none_)) := Lib.hid (HR09.out.far (by show n0 ≠ b; omega) _)
        have HR1l : Hid (RowAt (w9.setCell ⟨b, 1, none⟩ (.int .i64 (j9 : Int))) (n0 + 1) 125 (Rx.cel m9)) := Lib.hid (hm9.far (by show n0 + 1 ≠ b; omega) _)
        clear hm9 hb9 HM93 HIT hj9 HD9 HR09
        go_wp2_with fail
        generalize w9.setCell ⟨b, 1, none⟩ (.int .i64 (j9 : Int)) = wl at *
        clear e1 e2
        have hlb := HR1l.out.lt
        go_loopw [12] (fun y wz => ∃ k : Nat, y = .int .i64 (k : Int) ∧ k ≤ 256 ∧ Hid (∃ m', RowAt wz (n0 + 1) 125 (Rx.cel m')) ∧ Hid (Kp (fun i' => i' = n0 + 1) wl wz)) (fun y _ => 256 - (intOf y).toNat)
        case atStart => exact ⟨0, rfl, by omega, Lib.hid ⟨_, HR1l.out⟩, Lib.hid (Kp.refl _ _)⟩
        case round =>
          obtain ⟨k, rfl, hk, HM, HKQ⟩ := hrel
          obtain ⟨m', hm'⟩ := HM.out
          have HW := Lib.hid hm'
          clear HM
          by_cases hlt : k < 256
          · have hkI : (k : Int) < 256 := by omega
            have hk0 : (0 : Int) ≤ (k : Int) := by omega
            have hc : wr.cell? ⟨n0 + 1, k, none⟩ = some (.bool (m' k)) := (hm'.cell k).trans (Rx.cel_at _ k hlt)
            have hf := hm'.frozen k
            clear hm'
            generalize hmk : m' k = mk at hc
            clear hmk
            cases mk
            all_goals
              go_wp2_with fail
              go_roundw
              case rel => exact ⟨k + 1, by go_num, by omega, Lib.hid ⟨_, Rc.turned HW.out k _⟩, Lib.hid (HKQ.out.setCell _ (.inr rfl) _)⟩
              case measure => simp [intOf]; omega
          · obtain rfl : k = 256 := by omega
            clear hm'
            have HDz := Lib.hid (Rc.Did.low HAW.out HDl.out (HKQ.out.below (by have := HDl.out.size; omega) (fun i' hi' e => by have e : i' = n0 + 1 := e; have := HN0.out; omega)))
            have HR0z : Hid (RowAt wr n0 125 (Rx.cel Rx.none_)) := Lib.hid ((HKQ.out.block n0 HR0l.out.lt (by omega)).trans HR0l.out)
            go_wp2_with first
              | ((with_reducible refine Rc.ldset (Rx.cel m') (Rx.cel_size _) ?_ (HW.out) ?_); (focus simp [Act.eval, Act.put]))
              | ((with_reducible refine Rc.stset (Rx.cel m') (Rx.cel Rx.none_) (Rx.cel_size _) (Rx.cel_one _) (Rx.cel_size _) ?_ ?_ (HR0z.out) ?_); (focus simp [Act.eval, Act.put]); (focus simp [Act.eval, Act.put]))
            ((try simp only [Exit.inBlock, Exit.then]); refine bodyPost_ret (Rc.ret_set2 rfl _ ?_ (Rc.row_setRow HR0z.out _) (Rx.cel_size _)) rfl ?_; (focus simp); simp only [Array.getD_eq_getD_getElem?])
            have hnn := HN0.out
            refine ⟨m', true, j9 - i, rfl, ?_, by show i + (j9 - i) ≤ s.length; have h4 := HJ9.out; have h0 := HCI.out.lo; omega, fun _ => by have h0 := HCI.out.lo; have h4 := HJ9.out; omega⟩
            show Rc.Did w b v ⟨s, i + (j9 - i), d, er, g, L⟩ v _
            rw [show i + (j9 - i) = j9 by have h0 := HCI.out.lo; have h4 := HJ9.out; omega]
            exact Rc.Did.low HAW.out HDz.out (Rc.below_setRow (Below.refl _ _) (by omega) _)
    · exact cls_true hb1 HAW hl HN0 HMO HCI
end Go.Proofs.Ytelbabgkpflckaa
