/-
  TeRt: CONTRACTS: chapter 15: the document's text and Print.
  TeDep: CONTRACTS: chapter 15: the program's Depth.
-/
import Derived.Test.YtojmcndiooiehaaGreatDoorM1
import Derived.Test.YtojmcndiooiehaaGreatDoorJ26
import Derived.Test.YtojmcndiooiehaaGreatDoorM2
import Derived.Deep.RegionLaw

set_option linter.unusedSimpArgs false
set_option linter.unusedVariables false
namespace Go.Proofs.YtojmcndiooiehaaGreatDoor
open Go.RowKit Go.Sort
open Me

namespace Te
def RtC (G : Nat → Prop) (x : Nd) : Prop := ∀ (w : World) (v : Value), At w G x v → Calls Tryz.prog 26 #[val x v] w fun e w' => e = .returned (.string ⟨(txt x).toArray⟩) ∧ Below w.heap.size w w'
theorem cat_mk (a b : List UInt8) : (⟨a.toArray⟩ : ByteArray) ++ ⟨b.toArray⟩ = ⟨(a ++ b).toArray⟩ := by
  apply ByteArray.ext; simp
end Te

set_option maxRecDepth 100000 in
set_option maxHeartbeats 8000000 in
theorem rtext_call {G : Nat → Prop} (s : List UInt8) (n : Int) (ks : List Te.Nd) (hX : ∀ x ∈ ks, Te.RtC G x) (w : World) (v : Value) (hat : Te.At w G (.mk 1 s n ks) v) (hlen : (Te.txt (.mk 1 s n ks)).length ≤ 1073741824) :
    Calls Tryz.prog 26 #[.agg #[.int .i64 1, .string ⟨s.toArray⟩, .int .i64 n, v]] w fun e w' => e = .returned (.string ⟨(Te.txt (.mk 1 s n ks)).toArray⟩) ∧ Below w.heap.size w w' := by
  rw [Te.At] at hat
  obtain ⟨A, c, xs, rfl, hr, ha⟩ := hat
  have HX := Lib.hid hX
  have HRD := Lib.hid hr
  have HKS := Lib.hid ha
  obtain ⟨out, ho⟩ : ∃ out, out = Te.txt (.mk 1 s n ks) := ⟨_, rfl⟩
  rw [← ho] at hlen ⊢
  have hoe : out = (s ++ [40]) ++ (Te.txts (decide (0 = 0)) (ks.drop 0) ++ [41]) := by rw [ho, Te.txt, if_pos rfl]; simp
  have HO := Lib.hid hoe
  have hkl : ks.length ≤ 1073741825 := by
    have h1 := Te.txts_len ks true
    have h2 : (Te.txts true ks).length ≤ out.length := by rw [hoe]; simp only [List.length_append]; show (Te.txts true ks).length ≤ _ + ((Te.txts true ks).length + _); omega
    rw [if_pos rfl] at h1
    omega
  obtain ⟨t1, ht1⟩ : ∃ t1, t1 = s ++ [40] := ⟨_, rfl⟩
  have hol : t1.length ≤ out.length := by rw [hoe, ht1]; simp only [List.length_append]; omega
  have hc1 : (⟨s.toArray⟩ : ByteArray) ++ ⟨#[40]⟩ = ⟨t1.toArray⟩ := by rw [ht1]; apply ByteArray.ext; simp
  have hsl : s.length + 1 = t1.length := by rw [ht1]; simp
  have hA1 : ¬ 9223372036854775807 < s.length + 1 := by omega
  have HT1 := Lib.hid ht1
  have HLN := Lib.hid hlen
  obtain ⟨w0, hw0⟩ : ∃ w0, w0 = w.alloc (.cells #[.int .i64 1, .string ⟨s.toArray⟩, .int .i64 n, .slice A ks.length c] 24) := ⟨_, rfl⟩
  have HB0 : Hid (Below w.heap.size w w0) := Lib.hid (by rw [hw0]; exact (Below.refl w.heap.size w).alloc (Nat.le_refl _) _)
  have HR1 : Hid (RowAt w0 w.heap.size 24 #[.int .i64 1, .string ⟨s.toArray⟩, .int .i64 n, .slice A ks.length c]) := Lib.hid (by rw [hw0]; exact RowAt.new w _ _)
  have HZ : Hid (w0.heap.size = w.heap.size + 1) := Lib.hid (by rw [hw0]; simp)
  clear hX hr ha ho hoe ht1 hol hsl hlen
  go_enter Tryz.func26, Tryz.ntmps26
  go_wp2_with fail
  rw [← hw0]
  clear hw0
  go_loopw [3, 4] (fun y x wr => ∃ (k : Nat) (a : List UInt8), x = .int .i64 k ∧ y = .string ⟨a.toArray⟩ ∧ k ≤ ks.length ∧ Hid (out = a ++ (Te.txts (decide (k = 0)) (ks.drop k) ++ [41])) ∧ Hid (Below w0.heap.size w0 wr)) (fun _ x _ => ks.length - (intOf x).toNat)
  case atStart => exact ⟨0, t1, rfl, rfl, Nat.zero_le _, Lib.hid (by rw [HO.out, HT1.out]; simp), Lib.hid (Below.refl _ _)⟩
  case round =>
    obtain ⟨k, a, rfl, rfl, hk, HE, HW⟩ := hrel
    have hz0 := HZ.out
    have hbel : Below w.heap.size w wr := HB0.out.trans (HW.out.mono (by omega))
    have hws : w.heap.size + 1 ≤ wr.heap.size := by have := HW.out.size; omega
    have x3 : wr.cell? ⟨w.heap.size, 3, none⟩ = some (.slice A ks.length c) := ((HR1.out.below HW.out HR1.out.lt).cell 3).trans rfl
    by_cases hlt : k < ks.length
    · have hE2 := Te.txts_at ks k hlt
      obtain ⟨b1, o1, v, rfl, hb, _, hat, c0, c1, c2, c3⟩ := Te.rd_kid HRD.out HKS.out hlt
      have hmem : ks[k] ∈ ks := List.getElem_mem hlt
      generalize ks[k] = x at *
      obtain ⟨kk, ss, nn, kks⟩ := x
      obtain ⟨Ak, ck, xk, rfl, _, _⟩ := hat.form
      have d0 : wr.cell? ⟨b1, o1 + k * 4, none⟩ = some (.int .i64 kk) := (hbel.cell (p := ⟨b1, _, none⟩) hb).trans c0
      have d1 : wr.cell? ⟨b1, o1 + k * 4 + 1, none⟩ = some (.string ⟨ss.toArray⟩) := (hbel.cell (p := ⟨b1, _, none⟩) hb).trans c1
      have d2 : wr.cell? ⟨b1, o1 + k * 4 + 2, none⟩ = some (.int .i64 nn) := (hbel.cell (p := ⟨b1, _, none⟩) hb).trans c2
      have d3 : wr.cell? ⟨b1, o1 + k * 4 + 3, none⟩ = some (.slice Ak kks.length ck) := (hbel.cell (p := ⟨b1, _, none⟩) hb).trans c3
      clear c0 c1 c2 c3
      have hNC : Hid (∀ W, Below wr.heap.size wr W → Calls Tryz.prog 26 #[.agg #[.int .i64 kk, .string ⟨ss.toArray⟩, .int .i64 nn, .slice Ak kks.length ck]] W fun e w' => e = .returned (.string ⟨(Te.txt (.mk kk ss nn kks)).toArray⟩) ∧ Below W.heap.size W w') := Lib.hid fun W hW => HX.out _ hmem W _ (hat.below (hbel.trans (hW.mono (by omega))))
      have hkI : (k : Int) < (ks.length : Int) := by omega
      have h00 : (0 : Int) ≤ (k : Int) := by omega
      generalize Te.txt (.mk kk ss nn kks) = T at *
      have hle := HE.out
      rw [hE2] at hle
      have hll : out.length ≤ 1073741824 := HLN.out
      rw [hle] at hll
      simp only [List.length_append] at hll
      obtain ⟨b2, hb2⟩ : ∃ b2, b2 = a ++ [44] := ⟨_, rfl⟩
      obtain ⟨b3, hb3⟩ : ∃ b3, b3 = a ++ T := ⟨_, rfl⟩
      obtain ⟨b4, hb4⟩ : ∃ b4, b4 = b2 ++ T := ⟨_, rfl⟩
      have e2 : (⟨a.toArray⟩ : ByteArray) ++ ⟨#[44]⟩ = ⟨b2.toArray⟩ := by rw [hb2]; exact Te.cat_mk a [44]
      have e3 : (⟨a.toArray⟩ : ByteArray) ++ ⟨T.toArray⟩ = ⟨b3.toArray⟩ := by rw [hb3]; exact Te.cat_mk a T
      have e4 : (⟨b2.toArray⟩ : ByteArray) ++ ⟨T.toArray⟩ = ⟨b4.toArray⟩ := by rw [hb4]; exact Te.cat_mk b2 T
      have hA2 : ¬ 9223372036854775807 < a.length + 1 := by omega
      have hA3 : ¬ 9223372036854775807 < a.length + T.length := by omega
      have hA4 : ¬ 9223372036854775807 < b2.length + T.length := by rw [hb2]; simp; omega
      clear hat hmem hbel hE2 hll
      by_cases hk0 : k = 0
      · have HE3 : Hid (out = b3 ++ (Te.txts (decide (k + 1 = 0)) (ks.drop (k + 1)) ++ [41])) := Lib.hid (by rw [hle, hb3, if_pos hk0]; simp only [List.append_assoc, List.nil_append])
        have hkp : ¬ (0 : Int) < (k : Int) := by omega
        clear hle hb2 hb3 hb4 hk0
        go_wp2_with (go_at_call 26; go_must (refine (hNC.out _ (Below.refl _ _)).mono ?_; rintro e w6 ⟨rfl, hw6⟩; have HW6 : Hid (Below w0.heap.size w0 w6) := Lib.hid (HW.out.trans (hw6.mono HW.out.size)); clear hw6))
        go_roundw
        case rel => exact ⟨k + 1, b3, by go_num, rfl, by omega, HE3, HW6⟩
        case measure => simp [intOf]; omega
      · have HE3 : Hid (out = b4 ++ (Te.txts (decide (k + 1 = 0)) (ks.drop (k + 1)) ++ [41])) := Lib.hid (by rw [hle, hb4, hb2, if_neg hk0]; simp only [List.append_assoc])
        have hkp : (0 : Int) < (k : Int) := by omega
        clear hle hb2 hb3 hb4 hk0
        go_wp2_with (go_at_call 26; go_must (refine (hNC.out _ (Below.refl _ _)).mono ?_; rintro e w6 ⟨rfl, hw6⟩; have HW6 : Hid (Below w0.heap.size w0 w6) := Lib.hid (HW.out.trans (hw6.mono HW.out.size)); clear hw6))
        go_roundw
        case rel => exact ⟨k + 1, b4, by go_num, rfl, by omega, HE3, HW6⟩
        case measure => simp [intOf]; omega
    · have hkI : ¬ (k : Int) < (ks.length : Int) := by omega
      have hle := HE.out
      rw [List.drop_eq_nil_of_le (by omega), Te.txts, List.nil_append] at hle
      have HQ := Lib.hid hle
      have e5 : (⟨a.toArray⟩ : ByteArray) ++ ⟨#[41]⟩ = ⟨out.toArray⟩ := by rw [hle]; exact Te.cat_mk a [41]
      have hll : out.length ≤ 1073741824 := HLN.out
      have hA5 : ¬ 9223372036854775807 < a.length + 1 := by rw [hle] at hll; simp at hll; omega
      have HBL := Lib.hid hbel
      clear hle hll hbel
      go_wp2_with fail
      go_ret
      exact ⟨rfl, HBL.out⟩

set_option maxRecDepth 100000 in
set_option maxHeartbeats 8000000 in
theorem rtext_path (s : List UInt8) (n : Int) (A : Option Addr) (m c : Nat) (hs : s.length ≤ 4294967280) (w : World) :
    Calls Tryz.prog 26 #[.agg #[.int .i64 2, .string ⟨s.toArray⟩, .int .i64 n, .slice A m c]] w fun e w' => e = .returned (.string ⟨(s).toArray⟩) ∧ Below w.heap.size w w' := by
  go_enter Tryz.func26, Tryz.ntmps26
  go_wp2
  go_ret
  exact ⟨rfl, ((Below.refl w.heap.size w).alloc (Nat.le_refl _) _)⟩

set_option maxRecDepth 100000 in
set_option maxHeartbeats 8000000 in
theorem rtext_num (s : List UInt8) (n : Int) (A : Option Addr) (m c : Nat) (hs : s.length ≤ 4294967280) (w : World) :
    Calls Tryz.prog 26 #[.agg #[.int .i64 3, .string ⟨s.toArray⟩, .int .i64 n, .slice A m c]] w fun e w' => e = .returned (.string ⟨(Dc.pr true n).toArray⟩) ∧ Below w.heap.size w w' := by
  have HP := Lib.hid fun W => refPrint_any true n W
  generalize Dc.pr true n = out at *
  go_enter Tryz.func26, Tryz.ntmps26
  go_wp2_with (go_at_call 42; go_must (refine (HP.out _).mono ?_; rintro e w2 ⟨rfl, hb2⟩; have HB2 : Hid (Below w.heap.size w w2) := Lib.hid (((Below.refl w.heap.size w).alloc (Nat.le_refl _) _).trans (hb2.mono (by simp))); clear hb2))
  go_ret
  exact ⟨rfl, HB2.out⟩

set_option maxRecDepth 100000 in
set_option maxHeartbeats 8000000 in
theorem rtext_str (s : List UInt8) (n : Int) (A : Option Addr) (m c : Nat) (hs : s.length ≤ 4294967280) (w : World) :
    Calls Tryz.prog 26 #[.agg #[.int .i64 4, .string ⟨s.toArray⟩, .int .i64 n, .slice A m c]] w fun e w' => e = .returned (.string ⟨(Te.quoted s).toArray⟩) ∧ Below w.heap.size w w' := by
  have HB := Lib.hid fun W => rboth_any s hs W
  have HE : Hid (Te.quoted s = if s.contains 34 = true then [39] ++ s ++ [39] else [34] ++ s ++ [34]) := Lib.hid rfl
  generalize Te.quoted s = out at *
  generalize s.contains 34 = q1 at *
  generalize s.contains 39 = q2 at *
  have a1 : (⟨#[39]⟩ : ByteArray) ++ ⟨s.toArray⟩ = ⟨([39] ++ s).toArray⟩ := Te.cat_mk [39] s
  have a2 : (⟨([39] ++ s).toArray⟩ : ByteArray) ++ ⟨#[39]⟩ = ⟨([39] ++ s ++ [39]).toArray⟩ := Te.cat_mk _ [39]
  have a3 : (⟨#[34]⟩ : ByteArray) ++ ⟨s.toArray⟩ = ⟨([34] ++ s).toArray⟩ := Te.cat_mk [34] s
  have a4 : (⟨([34] ++ s).toArray⟩ : ByteArray) ++ ⟨#[34]⟩ = ⟨([34] ++ s ++ [34]).toArray⟩ := Te.cat_mk _ [34]
  obtain ⟨x1, hx1⟩ : ∃ x1, x1 = [39] ++ s := ⟨_, rfl⟩
  obtain ⟨x2, hx2⟩ : ∃ x2, x2 = x1 ++ [39] := ⟨_, rfl⟩
  obtain ⟨x3, hx3⟩ : ∃ x3, x3 = [34] ++ s := ⟨_, rfl⟩
  obtain ⟨x4, hx4⟩ : ∃ x4, x4 = x3 ++ [34] := ⟨_, rfl⟩
  rw [← hx1] at a1 a2
  rw [← hx2] at a2
  rw [← hx3] at a3 a4
  rw [← hx4] at a4
  have l1 : ¬ 9223372036854775807 < 1 + s.length := by omega
  have l2 : ¬ 9223372036854775807 < x1.length + 1 := by rw [hx1]; simp; omega
  have l3 : ¬ 9223372036854775807 < x3.length + 1 := by rw [hx3]; simp; omega
  have HX2 : Hid (x2 = [39] ++ s ++ [39]) := Lib.hid (by rw [hx2, hx1])
  have HX4 : Hid (x4 = [34] ++ s ++ [34]) := Lib.hid (by rw [hx4, hx3])
  clear hx1 hx2 hx3 hx4
  cases q1
  · have HQ : Hid (out = x4) := Lib.hid (by rw [HE.out, HX4.out]; rfl)
    go_enter Tryz.func26, Tryz.ntmps26
    go_wp2_with (go_at_call 43; go_must (refine (HB.out _).mono ?_; rintro e w2 ⟨rfl, rfl⟩))
    go_ret
    exact ⟨by rw [HQ.out]; rfl, ((Below.refl w.heap.size w).alloc (Nat.le_refl _) _)⟩
  · have HQ : Hid (out = x2) := Lib.hid (by rw [HE.out, HX2.out]; rfl)
    go_enter Tryz.func26, Tryz.ntmps26
    go_wp2_with (go_at_call 43; go_must (refine (HB.out _).mono ?_; rintro e w2 ⟨rfl, rfl⟩))
    go_ret
    exact ⟨by rw [HQ.out]; rfl, ((Below.refl w.heap.size w).alloc (Nat.le_refl _) _)⟩

set_option maxRecDepth 100000 in
set_option maxHeartbeats 8000000 in
theorem rtext_bool (s : List UInt8) (n : Int) (A : Option Addr) (m c : Nat) (w : World) :
    Calls Tryz.prog 26 #[.agg #[.int .i64 5, .string ⟨s.toArray⟩, .int .i64 n, .slice A m c]] w fun e w' => e = .returned (.string ⟨(Te.bword n).toArray⟩) ∧ Below w.heap.size w w' := by
  by_cases h : n = 1
  · subst h
    go_enter Tryz.func26, Tryz.ntmps26
    go_wp2
    go_ret
    exact ⟨rfl, ((Below.refl w.heap.size w).alloc (Nat.le_refl _) _)⟩
  · have HM : Hid (Te.bword n = [102, 97, 108, 115, 101]) := Lib.hid (if_neg h)
    have hb : (n == 1) = false := by simpa using h
    generalize Te.bword n = m at *
    go_enter Tryz.func26, Tryz.ntmps26
    go_wp2
    go_ret
    exact ⟨by rw [HM.out]; rfl, ((Below.refl w.heap.size w).alloc (Nat.le_refl _) _)⟩

theorem rtext_any (G : Nat → Prop) : ∀ (d : Nat) (x : Te.Nd), Te.ok d x = true → Te.wt x ≤ 1048576 → Te.RtC G x
  | 0, .mk k s n ks, h, _ => by rw [Te.ok] at h; simp at h
  | d + 1, .mk k s n ks, h, hw => fun w v hat => by
    have hl := Te.txt_len (.mk k s n ks)
    have hw' := hw
    rw [Te.wt_eq] at hw
    by_cases hk : k = 1
    · subst hk
      obtain ⟨_, _, _, h4⟩ := Te.ok_call h
      exact rtext_call s n ks (fun x hx => rtext_any G d x (Te.oks_mem d ks h4 x hx) (by have := Te.wts_mem ks x hx; omega)) w v hat (by omega)
    · obtain ⟨_, rfl, hlf⟩ := Te.ok_leaf hk h
      rw [Te.At] at hat
      obtain ⟨A, c, xs, rfl, _, _⟩ := hat
      rcases Te.leaf_kind hlf with rfl | rfl | rfl | rfl
      · rw [Te.txt_path]; exact rtext_path s n A 0 c (by omega) w
      · rw [Te.txt_num]; exact rtext_num s n A 0 c (by omega) w
      · rw [Te.txt_str]; exact rtext_str s n A 0 c (by omega) w
      · rw [Te.txt_bool]; exact rtext_bool s n A 0 c w

set_option maxRecDepth 100000 in
set_option maxHeartbeats 4000000 in
theorem rprint_any {G : Nat → Prop} (x : Te.Nd) (hw : Te.wt x ≤ 1048576) (v : Value) (w : World) (hat : Te.At w G x v) :
    Calls Tryz.prog 13 #[Te.val x v] w fun e w' => e = .returned (.string ⟨(Te.printS x).toArray⟩) ∧ Below w.heap.size w w' := by
  have HIS : Hid (∀ W, Below w.heap.size w W → Calls Tryz.prog 15 #[Te.val x v] W fun e w' => e = .returned (.bool (Te.isOk x)) ∧ Below W.heap.size W w') := Lib.hid fun W hW => ris_any x hw v W (hat.below hW)
  have HND : Hid (Te.isOk x = true → ∀ W, Below w.heap.size w W → Calls Tryz.prog 26 #[Te.val x v] W fun e w' => e = .returned (.string ⟨(Te.txt x).toArray⟩) ∧ Below W.heap.size W w') := Lib.hid fun hok W hW => rtext_any G 64 x hok hw W v (hat.below hW)
  have HE : Hid (Te.printS x = if Te.isOk x = true then Te.txt x else []) := Lib.hid rfl
  obtain ⟨k, s, n, ks⟩ := x
  obtain ⟨A, c, xs, rfl, hz1, hz2⟩ := hat.form
  have HIS2 : Hid (∀ W, Below w.heap.size w W → Calls Tryz.prog 15 #[.agg #[.int .i64 k, .string ⟨s.toArray⟩, .int .i64 n, .slice A ks.length c]] W fun e w' => e = .returned (.bool (Te.isOk (.mk k s n ks))) ∧ Below W.heap.size W w') := HIS
  have HND2 : Hid (Te.isOk (.mk k s n ks) = true → ∀ W, Below w.heap.size w W → Calls Tryz.prog 26 #[.agg #[.int .i64 k, .string ⟨s.toArray⟩, .int .i64 n, .slice A ks.length c]] W fun e w' => e = .returned (.string ⟨(Te.txt (.mk k s n ks)).toArray⟩) ∧ Below W.heap.size W w') := HND
  clear hz1 hz2 HIS HND hat hw
  show Calls Tryz.prog 13 #[.agg #[.int .i64 k, .string ⟨s.toArray⟩, .int .i64 n, .slice A ks.length c]] w _
  generalize Te.printS (.mk k s n ks) = R at *
  generalize Te.isOk (.mk k s n ks) = q at *
  generalize Te.txt (.mk k s n ks) = T at *
  have HB : Hid (Below w.heap.size w (w.alloc (.cells #[.int .i64 k, .string ⟨s.toArray⟩, .int .i64 n, .slice A ks.length c] 24))) := Lib.hid ((Below.refl w.heap.size w).alloc (Nat.le_refl _) _)
  cases q
  · have HQ : Hid (R = []) := Lib.hid (by rw [HE.out]; rfl)
    go_enter Tryz.func13, Tryz.ntmps13
    go_wp2_with (go_at_call 15; go_must (refine (HIS2.out _ HB.out).mono ?_; rintro e w6 ⟨rfl, hw6⟩; have HW6 : Hid (Below w.heap.size w w6) := Lib.hid (HB.out.trans (hw6.mono (by simp))); clear hw6))
    go_ret
    exact ⟨by rw [HQ.out]; rfl, HW6.out⟩
  · have HQ : Hid (R = T) := Lib.hid (by rw [HE.out]; rfl)
    have HND3 := Lib.hid (HND2.out rfl)
    go_enter Tryz.func13, Tryz.ntmps13
    go_wp2_with first
      | (go_at_call 15; go_must (refine (HIS2.out _ HB.out).mono ?_; rintro e w6 ⟨rfl, hw6⟩; have HW6 : Hid (Below w.heap.size w w6) := Lib.hid (HB.out.trans (hw6.mono (by simp))); have hr6 : RowAt w6 w.heap.size 24 #[.int .i64 k, .string ⟨s.toArray⟩, .int .i64 n, .slice A ks.length c] := (RowAt.new w _ _).below hw6 (by simp); have x0 : w6.cell? ⟨w.heap.size, 0, none⟩ = some (.int .i64 k) := (hr6.cell 0).trans rfl; have x1 : w6.cell? ⟨w.heap.size, 1, none⟩ = some (.string ⟨s.toArray⟩) := (hr6.cell 1).trans rfl; have x2 : w6.cell? ⟨w.heap.size, 2, none⟩ = some (.int .i64 n) := (hr6.cell 2).trans rfl; have x3 : w6.cell? ⟨w.heap.size, 3, none⟩ = some (.slice A ks.length c) := (hr6.cell 3).trans rfl; have l6 := hr6.lt; clear hw6 hr6))
      | (go_at_call 26; go_must (refine (HND3.out _ HW6.out).mono ?_; rintro e w7 ⟨rfl, hw7⟩; have HW7 : Hid (Below w.heap.size w w7) := Lib.hid (HW6.out.trans (hw7.mono HW6.out.size)); clear hw7))
    go_ret
    exact ⟨by rw [HQ.out]; rfl, HW7.out⟩
end Go.Proofs.YtojmcndiooiehaaGreatDoor

namespace Go.Proofs.YtojmcndiooiehaaGreatDoor
open Go.RowKit Go.Sort
open Me

namespace Te
theorem deps_at {ks : List Nd} {k : Nat} (h : k < ks.length) : deps (ks.drop k) = max (dep ks[k]) (deps (ks.drop (k + 1))) := by
  rw [List.drop_eq_getElem_cons h, deps]
mutual
theorem dep_wt : ∀ x : Nd, dep x ≤ wt x
  | .mk k s n ks => by
    have := deps_wt ks
    rw [dep, wt]
    split <;> omega
theorem deps_wt : ∀ l : List Nd, deps l ≤ wts l
  | [] => by rw [deps]; exact Nat.zero_le _
  | x :: r => by
    have h1 := dep_wt x
    have h2 := deps_wt r
    rw [deps, wts]; omega
end
def DepC (f : Nat) (G : Nat → Prop) (x : Nd) : Prop := ∀ (w : World) (v : Value), At w G x v → Calls Tryz.prog f #[val x v] w fun e w' => e = .returned (.int .i64 ((dep x : Nat) : Int)) ∧ Below w.heap.size w w'
end Te

set_option maxRecDepth 100000 in
set_option maxHeartbeats 8000000 in
theorem tdep_call {G : Nat → Prop} (s : List UInt8) (n : Int) (ks : List Te.Nd) (hX : ∀ x ∈ ks, Te.DepC 16 G x) (hw : Te.wts ks ≤ 1048576) (w : World) (v : Value) (hat : Te.At w G (.mk 1 s n ks) v) :
    Calls Tryz.prog 16 #[.agg #[.int .i64 1, .string ⟨s.toArray⟩, .int .i64 n, v]] w fun e w' => e = .returned (.int .i64 ((Te.dep (.mk 1 s n ks) : Nat) : Int)) ∧ Below w.heap.size w w' := by
  rw [Te.At] at hat
  obtain ⟨A, c, xs, rfl, hr, ha⟩ := hat
  have HX := Lib.hid hX
  have HRD := Lib.hid hr
  have HKS := Lib.hid ha
  have hkl : ks.length ≤ 1048576 := by have := Te.wts_len ks; omega
  have HE : Hid (Te.dep (.mk 1 s n ks) = Te.deps ks + 1) := Lib.hid (by rw [Te.dep, if_pos rfl])
  have hD := Te.deps_wt ks
  generalize Te.dep (.mk 1 s n ks) = D at *
  have HB0 : Hid (Below w.heap.size w (w.alloc (.cells #[.int .i64 1, .string ⟨s.toArray⟩, .int .i64 n, .slice A ks.length c] 24))) := Lib.hid ((Below.refl w.heap.size w).alloc (Nat.le_refl _) _)
  have HS : Hid (max 0 (Te.deps (ks.drop 0)) = Te.deps ks) := Lib.hid (Nat.zero_max _)
  generalize Te.deps ks = D0 at *
  clear hX hr ha
  go_enter Tryz.func16, Tryz.ntmps16
  go_wp2_with fail
  go_loopw [3, 5, 12] (fun y _ x wr => ∃ k bl : Nat, x = .int .i64 k ∧ y = .int .i64 bl ∧ k ≤ ks.length ∧ bl ≤ 1048576 ∧ Hid (max bl (Te.deps (ks.drop k)) = D0) ∧ Hid (Below w.heap.size w wr)) (fun _ _ x _ => ks.length - (intOf x).toNat)
  case atStart => exact ⟨0, 0, rfl, rfl, Nat.zero_le _, Nat.zero_le _, HS, HB0⟩
  case round =>
    obtain ⟨k, bl, rfl, rfl, hk, hbl, HM, HW⟩ := hrel
    have hbel := HW.out
    have hws := hbel.size
    by_cases hlt : k < ks.length
    · have hM := HM.out
      rw [Te.deps_at hlt] at hM
      obtain ⟨b1, o1, v, rfl, hb, _, hat, c0, c1, c2, c3⟩ := Te.rd_kid HRD.out HKS.out hlt
      have hmem : ks[k] ∈ ks := List.getElem_mem hlt
      generalize ks[k] = x at *
      obtain ⟨kk, ss, nn, kks⟩ := x
      obtain ⟨Ak, ck, xk, rfl, _, _⟩ := hat.form
      have d0 : wr.cell? ⟨b1, o1 + k * 4, none⟩ = some (.int .i64 kk) := (hbel.cell (p := ⟨b1, _, none⟩) hb).trans c0
      have d1 : wr.cell? ⟨b1, o1 + k * 4 + 1, none⟩ = some (.string ⟨ss.toArray⟩) := (hbel.cell (p := ⟨b1, _, none⟩) hb).trans c1
      have d2 : wr.cell? ⟨b1, o1 + k * 4 + 2, none⟩ = some (.int .i64 nn) := (hbel.cell (p := ⟨b1, _, none⟩) hb).trans c2
      have d3 : wr.cell? ⟨b1, o1 + k * 4 + 3, none⟩ = some (.slice Ak kks.length ck) := (hbel.cell (p := ⟨b1, _, none⟩) hb).trans c3
      clear c0 c1 c2 c3
      have hNC : Hid (∀ W, Below wr.heap.size wr W → Calls Tryz.prog 16 #[.agg #[.int .i64 kk, .string ⟨ss.toArray⟩, .int .i64 nn, .slice Ak kks.length ck]] W fun e w' => e = .returned (.int .i64 ((Te.dep (.mk kk ss nn kks) : Nat) : Int)) ∧ Below W.heap.size W w') := Lib.hid fun W hW => HX.out _ hmem W _ (hat.below (hbel.trans (hW.mono hws)))
      have hkI : (k : Int) < (ks.length : Int) := by omega
      have hbw : b1 ≠ wr.heap.size := by omega
      have HBA : Hid (Below w.heap.size w (wr.alloc (.cells #[.int .i64 kk, .string ⟨ss.toArray⟩, .int .i64 nn, .slice Ak kks.length ck] 24))) := Lib.hid (hbel.alloc hws _)
      generalize Te.dep (.mk kk ss nn kks) = q at *
      have hql : q ≤ 1048576 := by omega
      have HM2 : Hid (max (max bl q) (Te.deps (ks.drop (k + 1))) = D0) := Lib.hid (by rw [← hM]; omega)
      clear hat hmem hbel HW hM HM
      by_cases hk0 : k = 0
      · subst hk0
        simp only [Nat.zero_mul, Nat.add_zero] at d0 d1 d2 d3
        go_wp2_with (go_at_call 16; go_must (refine (hNC.out _ ((Below.refl _ _).alloc (Nat.le_refl _) _)).mono ?_; rintro e w6 ⟨rfl, hw6⟩; have HW6 : Hid (Below w.heap.size w w6) := Lib.hid (HBA.out.trans (hw6.mono (by simp; omega))); clear hw6))
        go_roundw
        case rel => exact ⟨0 + 1, max bl q, by go_num, congrArg _ (by omega), by omega, by omega, HM2, HW6⟩
        case measure => simp [intOf]; omega
      · go_wp2_with (go_at_call 16; go_must (refine (hNC.out _ ((Below.refl _ _).alloc (Nat.le_refl _) _)).mono ?_; rintro e w6 ⟨rfl, hw6⟩; have HW6 : Hid (Below w.heap.size w w6) := Lib.hid (HBA.out.trans (hw6.mono (by simp; omega))); clear hw6))
        go_roundw
        case rel => exact ⟨k + 1, max bl q, by go_num, congrArg _ (by omega), by omega, by omega, HM2, HW6⟩
        case measure => simp [intOf]; omega
    · have hkI : ¬ (k : Int) < (ks.length : Int) := by omega
      have HM2 : Hid (bl = D0) := Lib.hid (by have := HM.out; rw [List.drop_eq_nil_of_le (by omega), Te.deps] at this; omega)
      have kw : IntKind.i64.wrap (1 + (bl : Int)) = 1 + (bl : Int) := IntWalk.i64_in _ (by omega)
      clear hbel
      go_wp2_with fail
      go_ret
      exact ⟨by rw [HE.out, ← HM2.out]; simp; omega, HW.out⟩

set_option maxRecDepth 100000 in
set_option maxHeartbeats 8000000 in
theorem tdep_leaf (k : Int) (hk : k ≠ 1) (s : List UInt8) (n : Int) (ks : List Te.Nd) (A : Option Addr) (m c : Nat) (w : World) :
    Calls Tryz.prog 16 #[.agg #[.int .i64 k, .string ⟨s.toArray⟩, .int .i64 n, .slice A m c]] w fun e w' => e = .returned (.int .i64 ((Te.dep (.mk k s n ks) : Nat) : Int)) ∧ Below w.heap.size w w' := by
  have HE : Hid (Te.dep (.mk k s n ks) = 1) := Lib.hid (by rw [Te.dep, if_neg hk])
  generalize Te.dep (.mk k s n ks) = D at *
  have kb : (k == 1) = false := by simpa using hk
  go_enter Tryz.func16, Tryz.ntmps16
  go_wp2
  go_ret
  exact ⟨by rw [HE.out]; rfl, (Below.refl w.heap.size w).alloc (Nat.le_refl _) _⟩

theorem tdep_any (G : Nat → Prop) : ∀ (m : Nat) (x : Te.Nd), Te.wt x ≤ m → m ≤ 1048576 → Te.DepC 16 G x
  | 0, .mk k s n ks, h, _ => by rw [Te.wt_eq] at h; omega
  | m + 1, .mk k s n ks, h, hm => fun w v hat => by
    rw [Te.wt_eq] at h
    by_cases hk : k = 1
    · subst hk
      exact tdep_call s n ks (fun x hx => tdep_any G m x (by have := Te.wts_mem ks x hx; omega) (by omega)) (by omega) w v hat
    · rw [Te.At] at hat
      obtain ⟨A, c, xs, rfl, _, _⟩ := hat
      exact tdep_leaf k hk s n ks A ks.length c w
end Go.Proofs.YtojmcndiooiehaaGreatDoor
