/-
  TeIs: CONTRACTS: chapter 15: the program's Is, for every node.
  TePrt: CONTRACTS: chapter 15: the program's Print; the law's known.
  TeKn: CONTRACTS: chapter 15: the law's known.
-/
import Derived.Test.YtojmcndiooiehaaGreatDoorJ25
import Derived.Test.YtojmcndiooiehaaGreatDoorJ20

set_option linter.unusedSimpArgs false
set_option linter.unusedVariables false
namespace Go.Proofs.YtojmcndiooiehaaGreatDoor
open Go.RowKit Go.Sort
open Me

namespace Te
theorem oks_at {d : Nat} {ks : List Nd} {k : Nat} (h : k < ks.length) : oks d (ks.drop k) = (ok d ks[k] && oks d (ks.drop (k + 1))) := by
  rw [List.drop_eq_getElem_cons h, oks]
def IsC (G : Nat → Prop) (d : Nat) (x : Nd) : Prop := ∀ (w : World) (v : Value), At w G x v → Calls Tryz.prog 27 #[val x v, .int .i64 (d : Int)] w fun e w' => e = .returned (.bool (ok d x)) ∧ Below w.heap.size w w'
end Te

set_option maxRecDepth 100000 in
set_option maxHeartbeats 8000000 in
theorem tare_any {G : Nat → Prop} (ks : List Te.Nd) (d : Nat) (hX : ∀ x ∈ ks, Te.IsC G d x) (A : Option Addr) (c : Nat) (xs : List Value) (w : World) (hr : Rd w G A xs) (ha : Te.Ats w G ks xs) (hks : ks.length ≤ 1073741824) :
    Calls Tryz.prog 45 #[.slice A ks.length c, .int .i64 (d : Int)] w fun e w' => e = .returned (.bool (Te.oks d ks)) ∧ Below w.heap.size w w' := by
  have HX := Lib.hid hX
  have HRD := Lib.hid hr
  have HKS := Lib.hid ha
  obtain ⟨R, hR⟩ : ∃ R, R = Te.oks d ks := ⟨_, rfl⟩
  rw [← hR]
  have HQ : Hid (R = Te.oks d (ks.drop 0)) := Lib.hid hR
  clear hX hr ha hR
  go_enter Tryz.func45, Tryz.ntmps45
  go_wp2_with fail
  go_loopw [6, 9] (fun _ x wr => ∃ k : Nat, x = .int .i64 k ∧ k ≤ ks.length ∧ Hid (R = Te.oks d (ks.drop k)) ∧ Hid (Below w.heap.size w wr)) (fun _ x _ => ks.length - (intOf x).toNat)
  case atStart => exact ⟨0, rfl, Nat.zero_le _, HQ, Lib.hid (Below.refl _ _)⟩
  case round =>
    obtain ⟨k, rfl, hk, HR, HW⟩ := hrel
    have hbel := HW.out
    have hws := hbel.size
    by_cases hlt : k < ks.length
    · have hE := HR.out.trans (Te.oks_at hlt)
      obtain ⟨b1, o1, v, rfl, hb, _, hat, c0, c1, c2, c3⟩ := Te.rd_kid HRD.out HKS.out hlt
      have hmem : ks[k] ∈ ks := List.getElem_mem hlt
      generalize ks[k] = x at *
      obtain ⟨kk, ss, nn, kks⟩ := x
      obtain ⟨Ak, ck, xk, rfl, _, _⟩ := hat.form
      have d0 : wr.cell? ⟨b1, o1 + k * 4, none⟩ = some (.int .i64 kk) := (hbel.cell (p := ⟨b1, _, none⟩) hb).trans c0
      have d1 : wr.cell? ⟨b1, o1 + k * 4 + 1, none⟩ = some (.string ⟨ss.toArray⟩) := (hbel.cell (p := ⟨b1, _, none⟩) hb).trans c1
      have d2 : wr.cell? ⟨b1, o1 + k * 4 + 2, none⟩ = some (.int .i64 nn) := (hbel.cell (p := ⟨b1, _, none⟩) hb).trans c2
      have d3 : wr.cell? ⟨b1, o1 + k * 4 + 3, none⟩ = some (.slice Ak kks.length ck) := (hbel.cell (p := ⟨b1, _, none⟩) hb).trans c3
      clear c0 c1 c2 c3
      have hNC : Hid (∀ W, Below wr.heap.size wr W → Calls Tryz.prog 27 #[.agg #[.int .i64 kk, .string ⟨ss.toArray⟩, .int .i64 nn, .slice Ak kks.length ck], .int .i64 (d : Int)] W fun e w' => e = .returned (.bool (Te.ok d (.mk kk ss nn kks))) ∧ Below W.heap.size W w') := Lib.hid fun W hW => HX.out _ hmem W _ (hat.below (hbel.trans (hW.mono hws)))
      have hkI : (k : Int) < (ks.length : Int) := by omega
      have hbw : b1 ≠ wr.heap.size := by omega
      have HBA : Hid (Below w.heap.size w (wr.alloc (.cells #[.int .i64 kk, .string ⟨ss.toArray⟩, .int .i64 nn, .slice Ak kks.length ck] 24))) := Lib.hid (hbel.alloc hws _)
      clear hat hmem hbel HW
      by_cases hk0 : k = 0
      · subst hk0
        simp only [Nat.zero_mul, Nat.add_zero] at d0 d1 d2 d3
        generalize hq : Te.ok d (.mk kk ss nn kks) = q at *
        cases q
        · have HQ2 : Hid (R = false) := Lib.hid (by rw [hE]; rfl)
          clear hE
          go_wp2_with (go_at_call 27; go_must (refine (hNC.out _ ((Below.refl _ _).alloc (Nat.le_refl _) _)).mono ?_; rintro e w6 ⟨rfl, hw6⟩; have HW6 : Hid (Below w.heap.size w w6) := Lib.hid (HBA.out.trans (hw6.mono (by simp; omega))); clear hw6))
          go_ret
          exact ⟨by rw [HQ2.out]; rfl, HW6.out⟩
        · have HQ2 : Hid (R = Te.oks d (ks.drop (0 + 1))) := Lib.hid (by rw [hE, Bool.true_and])
          clear hE
          go_wp2_with (go_at_call 27; go_must (refine (hNC.out _ ((Below.refl _ _).alloc (Nat.le_refl _) _)).mono ?_; rintro e w6 ⟨rfl, hw6⟩; have HW6 : Hid (Below w.heap.size w w6) := Lib.hid (HBA.out.trans (hw6.mono (by simp; omega))); clear hw6))
          go_roundw
          case rel => exact ⟨0 + 1, by go_num, by omega, HQ2, HW6⟩
          case measure => simp [intOf]; omega
      · generalize hq : Te.ok d (.mk kk ss nn kks) = q at *
        cases q
        · have HQ2 : Hid (R = false) := Lib.hid (by rw [hE]; rfl)
          clear hE
          go_wp2_with (go_at_call 27; go_must (refine (hNC.out _ ((Below.refl _ _).alloc (Nat.le_refl _) _)).mono ?_; rintro e w6 ⟨rfl, hw6⟩; have HW6 : Hid (Below w.heap.size w w6) := Lib.hid (HBA.out.trans (hw6.mono (by simp; omega))); clear hw6))
          go_ret
          exact ⟨by rw [HQ2.out]; rfl, HW6.out⟩
        · have HQ2 : Hid (R = Te.oks d (ks.drop (k + 1))) := Lib.hid (by rw [hE, Bool.true_and])
          clear hE
          go_wp2_with (go_at_call 27; go_must (refine (hNC.out _ ((Below.refl _ _).alloc (Nat.le_refl _) _)).mono ?_; rintro e w6 ⟨rfl, hw6⟩; have HW6 : Hid (Below w.heap.size w w6) := Lib.hid (HBA.out.trans (hw6.mono (by simp; omega))); clear hw6))
          go_roundw
          case rel => exact ⟨k + 1, by go_num, by omega, HQ2, HW6⟩
          case measure => simp [intOf]; omega
    · have HQ2 : Hid (R = true) := Lib.hid (by rw [HR.out, List.drop_eq_nil_of_le (by omega), Te.oks])
      have hkI : ¬ (k : Int) < (ks.length : Int) := by omega
      clear HR hbel
      go_wp2_with fail
      go_ret
      exact ⟨by rw [HQ2.out]; rfl, HW.out⟩

set_option maxRecDepth 100000 in
set_option maxHeartbeats 8000000 in
theorem twithin_call {G : Nat → Prop} (s : List UInt8) (n : Int) (ks : List Te.Nd) (d : Nat) (hd : d ≤ 63) (hs : s.length ≤ 4294967280) (hX : ∀ x ∈ ks, Te.IsC G d x) (v : Value) (w : World) (hat : Te.At w G (.mk 1 s n ks) v) (hks : ks.length ≤ 1073741824) :
    Calls Tryz.prog 27 #[.agg #[.int .i64 1, .string ⟨s.toArray⟩, .int .i64 n, v], .int .i64 ((d + 1 : Nat) : Int)] w fun e w' => e = .returned (.bool (Te.ok (d + 1) (.mk 1 s n ks))) ∧ Below w.heap.size w w' := by
  rw [Te.At] at hat
  obtain ⟨A, c, xs, rfl, hr, ha⟩ := hat
  have HA : Hid (∀ W, Below w.heap.size w W → Calls Tryz.prog 45 #[.slice A ks.length c, .int .i64 (d : Int)] W fun e w' => e = .returned (.bool (Te.oks d ks)) ∧ Below W.heap.size W w') := Lib.hid fun W hW => tare_any ks d hX A c xs W (hr.below hW) (ha.below hW) hks
  have HI := Lib.hid fun W => ident_any s hs W
  have HE : Hid (Te.ok (d + 1) (.mk 1 s n ks) = (decide (n = 0) && (Lx.identOf s && Te.oks d ks))) := Lib.hid (by rw [Te.ok, if_pos rfl, decide_eq_true (Nat.succ_pos d), Bool.true_and]; rfl)
  obtain ⟨R, hR⟩ : ∃ R, R = Te.ok (d + 1) (.mk 1 s n ks) := ⟨_, rfl⟩
  rw [← hR] at HE ⊢
  clear hR hr ha hX
  generalize Lx.identOf s = q1 at *
  generalize Te.oks d ks = q2 at *
  have HB : Hid (Below w.heap.size w (w.alloc (.cells #[.int .i64 1, .string ⟨s.toArray⟩, .int .i64 n, .slice A ks.length c] 24))) := Lib.hid ((Below.refl w.heap.size w).alloc (Nat.le_refl _) _)
  have kd : IntKind.i64.wrap (((d + 1 : Nat) : Int) - 1) = (d : Int) := by rw [show (((d + 1 : Nat) : Int) - 1) = (d : Int) by omega]; exact IntWalk.i64_in _ (by omega)
  have kz : ((((d + 1 : Nat) : Int)) == 0) = false := by simp; omega
  obtain ⟨dd, hdd⟩ : ∃ dd : Int, dd = ((d + 1 : Nat) : Int) := ⟨_, rfl⟩
  rw [← hdd] at kd kz ⊢
  have kz2 : ¬ dd = 0 := by omega
  clear hdd
  by_cases hn : n = 0
  · have HE2 : Hid (R = (q1 && q2)) := Lib.hid (by rw [HE.out, decide_eq_true hn, Bool.true_and])
    subst hn
    cases q1
    · go_enter Tryz.func27, Tryz.ntmps27
      go_wp2_with (go_at_call 44; go_must (refine (HI.out _).mono ?_; rintro e wi ⟨rfl, rfl⟩))
      go_ret
      exact ⟨by rw [HE2.out]; rfl, HB.out⟩
    · go_enter Tryz.func27, Tryz.ntmps27
      go_wp2_with first
        | (go_at_call 44; go_must (refine (HI.out _).mono ?_; rintro e wi ⟨rfl, rfl⟩))
        | (go_at_call 45; go_must (refine (HA.out _ HB.out).mono ?_; rintro e w6 ⟨rfl, hw6⟩; have HW6 : Hid (Below w.heap.size w w6) := Lib.hid (HB.out.trans (hw6.mono (by simp))); clear hw6))
      go_ret
      exact ⟨by rw [HE2.out]; rfl, HW6.out⟩
  · have HE2 : Hid (R = false) := Lib.hid (by rw [HE.out, decide_eq_false hn]; rfl)
    have nb : (n == 0) = false := by simpa using hn
    go_enter Tryz.func27, Tryz.ntmps27
    go_wp2
    go_ret
    exact ⟨by rw [HE2.out]; rfl, HB.out⟩

set_option maxRecDepth 100000 in
set_option maxHeartbeats 8000000 in
theorem twithin_leaf {G : Nat → Prop} (k : Int) (hk : k ≠ 1) (s : List UInt8) (n : Int) (ks : List Te.Nd) (d : Nat) (hd : d ≤ 63) (hs : s.length ≤ 4294967280) (v : Value) (w : World) (hat : Te.At w G (.mk k s n ks) v) :
    Calls Tryz.prog 27 #[.agg #[.int .i64 k, .string ⟨s.toArray⟩, .int .i64 n, v], .int .i64 ((d + 1 : Nat) : Int)] w fun e w' => e = .returned (.bool (Te.ok (d + 1) (.mk k s n ks))) ∧ Below w.heap.size w w' := by
  rw [Te.At] at hat
  obtain ⟨A, c, xs, rfl, _, _⟩ := hat
  have HE : Hid (Te.ok (d + 1) (.mk k s n ks) = (ks.isEmpty && Te.leafOk k s n)) := Lib.hid (by rw [Te.ok, if_neg hk, decide_eq_true (Nat.succ_pos d), Bool.true_and])
  have HL := Lib.hid fun W => tleaf_any k s n A ks.length c hs W
  obtain ⟨R, hR⟩ : ∃ R, R = Te.ok (d + 1) (.mk k s n ks) := ⟨_, rfl⟩
  rw [← hR] at HE ⊢
  clear hR
  generalize Te.leafOk k s n = q at *
  have HB : Hid (Below w.heap.size w (w.alloc (.cells #[.int .i64 k, .string ⟨s.toArray⟩, .int .i64 n, .slice A ks.length c] 24))) := Lib.hid ((Below.refl w.heap.size w).alloc (Nat.le_refl _) _)
  have kz : ((((d + 1 : Nat) : Int)) == 0) = false := by simp; omega
  obtain ⟨dd, hdd⟩ : ∃ dd : Int, dd = ((d + 1 : Nat) : Int) := ⟨_, rfl⟩
  rw [← hdd] at kz ⊢
  have kz2 : ¬ dd = 0 := by omega
  have kb : (k == 1) = false := by simpa using hk
  clear hdd
  by_cases hn : ks.length = 0
  · have HE2 : Hid (R = q) := Lib.hid (by rw [HE.out, List.eq_nil_of_length_eq_zero hn]; rfl)
    generalize ks.length = m at *
    subst hn
    go_enter Tryz.func27, Tryz.ntmps27
    go_wp2_with (go_at_call 46; go_must (refine (HL.out _).mono ?_; rintro e w6 ⟨rfl, hw6⟩; have HW6 : Hid (Below w.heap.size w w6) := Lib.hid (HB.out.trans (hw6.mono (by simp))); clear hw6))
    go_ret
    exact ⟨by rw [HE2.out]; rfl, HW6.out⟩
  · have HE2 : Hid (R = false) := Lib.hid (by
      rw [HE.out]
      cases ks with
      | nil => exact absurd rfl hn
      | cons a r => rfl)
    generalize ks.length = m at *
    have nb : ((m : Int) == 0) = false := by simp; omega
    go_enter Tryz.func27, Tryz.ntmps27
    go_wp2
    go_ret
    exact ⟨by rw [HE2.out]; rfl, HB.out⟩

set_option maxRecDepth 100000 in
set_option maxHeartbeats 8000000 in
theorem twithin_zero (k : Int) (s : List UInt8) (n : Int) (ks : List Te.Nd) (A : Option Addr) (m c : Nat) (w : World) :
    Calls Tryz.prog 27 #[.agg #[.int .i64 k, .string ⟨s.toArray⟩, .int .i64 n, .slice A m c], .int .i64 0] w fun e w' => e = .returned (.bool (Te.ok 0 (.mk k s n ks))) ∧ Below w.heap.size w w' := by
  have HE : Hid (Te.ok 0 (.mk k s n ks) = false) := Lib.hid (by rw [Te.ok]; rfl)
  generalize Te.ok 0 (.mk k s n ks) = R at *
  go_enter Tryz.func27, Tryz.ntmps27
  go_wp2
  go_ret
  exact ⟨by rw [HE.out]; rfl, (Below.refl w.heap.size w).alloc (Nat.le_refl _) _⟩

theorem twithin_any (G : Nat → Prop) : ∀ (d : Nat) (x : Te.Nd), d ≤ 64 → Te.wt x ≤ 1048576 → Te.IsC G d x
  | 0, .mk k s n ks, _, _ => fun w v hat => by
    rw [Te.At] at hat
    obtain ⟨A, c, xs, rfl, _, _⟩ := hat
    exact twithin_zero k s n ks A ks.length c w
  | d + 1, .mk k s n ks, hd, hw => fun w v hat => by
    rw [Te.wt_eq] at hw
    by_cases hk : k = 1
    · subst hk
      exact twithin_call s n ks d (by omega) (by omega) (fun x hx => twithin_any G d x (by omega) (by have := Te.wts_mem ks x hx; omega)) v w hat (by have := Te.wts_len ks; omega)
    · exact twithin_leaf k hk s n ks d (by omega) (by omega) v w hat

namespace Te
def isOk (x : Nd) : Bool := ok 64 x
end Te
set_option maxRecDepth 100000 in
set_option maxHeartbeats 2000000 in
theorem tis_any {G : Nat → Prop} (x : Te.Nd) (hw : Te.wt x ≤ 1048576) (v : Value) (w : World) (hat : Te.At w G x v) :
    Calls Tryz.prog 14 #[Te.val x v] w fun e w' => e = .returned (.bool (Te.isOk x)) ∧ Below w.heap.size w w' := by
  have HW : Hid (∀ W, Below w.heap.size w W → Calls Tryz.prog 27 #[Te.val x v, .int .i64 64] W fun e w' => e = .returned (.bool (Te.ok 64 x)) ∧ Below W.heap.size W w') := Lib.hid fun W hW => twithin_any G 64 x (Nat.le_refl _) hw W v (hat.below hW)
  obtain ⟨k, s, n, ks⟩ := x
  obtain ⟨A, c, xs, rfl, _, _⟩ := hat.form
  have HW : Hid (∀ W, Below w.heap.size w W → Calls Tryz.prog 27 #[.agg #[.int .i64 k, .string ⟨s.toArray⟩, .int .i64 n, .slice A ks.length c], .int .i64 64] W fun e w' => e = .returned (.bool (Te.isOk (.mk k s n ks))) ∧ Below W.heap.size W w') := HW
  show Calls Tryz.prog 14 #[.agg #[.int .i64 k, .string ⟨s.toArray⟩, .int .i64 n, .slice A ks.length c]] w _
  generalize Te.isOk (.mk k s n ks) = R at *
  have HB : Hid (Below w.heap.size w (w.alloc (.cells #[.int .i64 k, .string ⟨s.toArray⟩, .int .i64 n, .slice A ks.length c] 24))) := Lib.hid ((Below.refl w.heap.size w).alloc (Nat.le_refl _) _)
  clear hat
  go_enter Tryz.func14, Tryz.ntmps14
  go_wp2_with (go_at_call 27; go_must (refine (HW.out _ HB.out).mono ?_; rintro e w6 ⟨rfl, hw6⟩; have HW6 : Hid (Below w.heap.size w w6) := Lib.hid (HB.out.trans (hw6.mono (by simp))); clear hw6))
  go_ret
  exact ⟨rfl, HW6.out⟩
end Go.Proofs.YtojmcndiooiehaaGreatDoor

namespace Go.Proofs.YtojmcndiooiehaaGreatDoor
open Go.RowKit Go.Sort
open Me

namespace Te
theorem plain_len (u : Nat) : (Dc.plain u).length ≤ 20 := Dc.plain_length u
theorem frac_len {n : Nat} (h : n < 1000000) : (Dc.fracText n).length ≤ 7 := by
  unfold Dc.fracText
  split
  · simp
  · have h1 := Dc.trim_len (Dc.six n)
    have h2 := Dc.six_len h
    simp; omega
theorem pr_len (n : Int) : (Dc.pr true n).length ≤ 28 := by
  unfold Dc.pr
  split
  · unfold Dc.sgn Dc.pbod
    have h1 := plain_len (n.natAbs / 1000000)
    have h2 := frac_len (n := n.natAbs % 1000000) (by omega)
    split <;> simp <;> omega
  · simp [Dc.noneText]
mutual
theorem txt_len : ∀ x : Nd, (txt x).length + 1 ≤ 6 * wt x
  | .mk k s n ks => by
    rw [txt, wt]
    have h := txts_len2 true ks
    split
    · simp only [List.length_append, List.length_singleton]; omega
    · split
      · omega
      · split
        · have := pr_len n; omega
        · split
          · rw [quoted_eq]; simp; omega
          · split
            · split
              · show 5 ≤ _; omega
              · show 6 ≤ _; omega
            · omega
theorem txts_len2 : ∀ (b : Bool) (l : List Nd), (txts b l).length ≤ 6 * wts l
  | _, [] => by rw [txts]; exact Nat.zero_le _
  | b, x :: r => by
    rw [txts, wts, List.length_append, List.length_append]
    have h1 := txt_len x
    have h2 := txts_len2 false r
    cases b
    · show 1 + _ ≤ _; omega
    · show 0 + _ ≤ _; omega
end
/-- A node's text, if it may be. -/
def printS (x : Nd) : List UInt8 := if isOk x = true then txt x else []
end Te

set_option maxRecDepth 100000 in
set_option maxHeartbeats 4000000 in
theorem tprint_any {G : Nat → Prop} (x : Te.Nd) (hw : Te.wt x ≤ 1048576) (v : Value) (w : World) (hat : Te.At w G x v) :
    Calls Tryz.prog 12 #[Te.val x v] w fun e w' => e = .returned (.string ⟨(Te.printS x).toArray⟩) ∧ Below w.heap.size w w' := by
  have HIS : Hid (∀ W, Below w.heap.size w W → Calls Tryz.prog 14 #[Te.val x v] W fun e w' => e = .returned (.bool (Te.isOk x)) ∧ Below W.heap.size W w') := Lib.hid fun W hW => tis_any x hw v W (hat.below hW)
  have htl := Te.txt_len x
  have HND : Hid (Te.isOk x = true → ∀ B r W, w.heap.size ≤ B → Below w.heap.size w W → Tb.Pr B r [] W → B ≤ W.heap.size → Calls Tryz.prog 24 #[.pointer (some ⟨r, 0, none⟩), Te.val x v] W fun e w' => e = .returned (.tuple #[]) ∧ Tb.Pw B r (Te.txt x) W w') := Lib.hid fun hok B r W hB hW hp hBW =>
    tnode_any B r 64 x hok [] W v hp hBW (Te.At.keep hW.size (fun i hi _ => Nat.lt_of_lt_of_le hi hB) (fun i hi _ => hW.block i hi) _ _ hat) (by simp; omega)
  have HE : Hid (Te.printS x = if Te.isOk x = true then Te.txt x else []) := Lib.hid rfl
  obtain ⟨k, s, n, ks⟩ := x
  obtain ⟨A, c, xs, rfl, _, _⟩ := hat.form
  have HIS : Hid (∀ W, Below w.heap.size w W → Calls Tryz.prog 14 #[.agg #[.int .i64 k, .string ⟨s.toArray⟩, .int .i64 n, .slice A ks.length c]] W fun e w' => e = .returned (.bool (Te.isOk (.mk k s n ks))) ∧ Below W.heap.size W w') := HIS
  have HND : Hid (Te.isOk (.mk k s n ks) = true → ∀ B r W, w.heap.size ≤ B → Below w.heap.size w W → Tb.Pr B r [] W → B ≤ W.heap.size → Calls Tryz.prog 24 #[.pointer (some ⟨r, 0, none⟩), .agg #[.int .i64 k, .string ⟨s.toArray⟩, .int .i64 n, .slice A ks.length c]] W fun e w' => e = .returned (.tuple #[]) ∧ Tb.Pw B r (Te.txt (.mk k s n ks)) W w') := HND
  show Calls Tryz.prog 12 #[.agg #[.int .i64 k, .string ⟨s.toArray⟩, .int .i64 n, .slice A ks.length c]] w _
  generalize Te.printS (.mk k s n ks) = R at *
  generalize Te.isOk (.mk k s n ks) = q at *
  generalize Te.txt (.mk k s n ks) = T at *
  have HB : Hid (Below w.heap.size w (w.alloc (.cells #[.int .i64 k, .string ⟨s.toArray⟩, .int .i64 n, .slice A ks.length c] 24))) := Lib.hid ((Below.refl w.heap.size w).alloc (Nat.le_refl _) _)
  clear hat htl hw
  cases q
  · have HQ : Hid (R = []) := Lib.hid (by rw [HE.out]; rfl)
    go_enter Tryz.func12, Tryz.ntmps12
    go_wp2_with (go_at_call 14; go_must (refine (HIS.out _ HB.out).mono ?_; rintro e w6 ⟨rfl, hw6⟩; have HW6 : Hid (Below w.heap.size w w6) := Lib.hid (HB.out.trans (hw6.mono (by simp))); clear hw6))
    go_ret
    exact ⟨by rw [HQ.out]; rfl, HW6.out⟩
  · have HQ : Hid (R = T) := Lib.hid (by rw [HE.out]; rfl)
    have HND2 := Lib.hid (HND.out rfl)
    go_enter Tryz.func12, Tryz.ntmps12
    go_wp2_with (go_at_call 14; go_must (refine (HIS.out _ HB.out).mono ?_; rintro e w6 ⟨rfl, hw6⟩; have HW6 : Hid (Below w.heap.size w w6) := Lib.hid (HB.out.trans (hw6.mono (by simp))); have hr6 : RowAt w6 w.heap.size 24 #[.int .i64 k, .string ⟨s.toArray⟩, .int .i64 n, .slice A ks.length c] := (RowAt.new w _ _).below hw6 (by simp); have x0 : w6.cell? ⟨w.heap.size, 0, none⟩ = some (.int .i64 k) := (hr6.cell 0).trans rfl; have x1 : w6.cell? ⟨w.heap.size, 1, none⟩ = some (.string ⟨s.toArray⟩) := (hr6.cell 1).trans rfl; have x2 : w6.cell? ⟨w.heap.size, 2, none⟩ = some (.int .i64 n) := (hr6.cell 2).trans rfl; have x3 : w6.cell? ⟨w.heap.size, 3, none⟩ = some (.slice A ks.length c) := (hr6.cell 3).trans rfl; have l6 := hr6.lt; clear hw6 hr6))
    go_at_call 24
    have hp : Tb.Pr w6.heap.size w6.heap.size [] (w6.alloc (.cells #[.pointer none, .slice none 0 0] 56)) := ⟨.pointer none, .slice none 0 0, ⟨Nat.le_refl _, RowAt.new w6 _ _, World.ownsRow_nil _ _ _ _⟩, .inl rfl⟩
    refine (HND2.out w6.heap.size w6.heap.size _ HW6.out.size (HW6.out.alloc HW6.out.size _) hp (by simp)).mono ?_
    rintro e w7 ⟨rfl, hw7⟩
    have HW7 := Lib.hid hw7
    have HB7 : Hid (Below w.heap.size w w7) := Lib.hid ((HW6.out.alloc HW6.out.size _).trans (hw7.bel.mono HW6.out.size))
    clear hw7 hp
    go_wp2_with fail
    go_at_call 25
    obtain ⟨p, v, hbl, _⟩ := HW7.out.pr
    refine (tbString_any hbl (by have := HW7.out.size; simp at this; omega)).mono ?_
    rintro e w8 ⟨rfl, hb8⟩
    have HB8 : Hid (Below w.heap.size w w8) := Lib.hid (HB7.out.trans (hb8.mono HW6.out.size))
    clear hb8 hbl
    go_wp2_with fail
    go_ret
    exact ⟨by rw [HQ.out]; rfl, HB8.out⟩
end Go.Proofs.YtojmcndiooiehaaGreatDoor

namespace Go.Proofs.YtojmcndiooiehaaGreatDoor
open Go.RowKit Go.Sort
open Me

namespace Te
def knownT : List UInt8 := [115, 99, 97, 108, 101, 40, 32, 97, 46, 42, 32, 44, 32, 49, 46, 53, 48, 41]
def knownP : List UInt8 := [115, 99, 97, 108, 101, 40, 97, 46, 42, 44, 49, 46, 53, 41]
def knownK : List Nd := [.mk 2 [97, 46, 42] 0 [], .mk 3 [] 1500000 []]
def knownS : List UInt8 := [115, 99, 97, 108, 101]
set_option maxRecDepth 100000 in
theorem known_parse : parseS knownT = .ok (.mk 1 knownS 0 knownK) := by kernel_rfl
set_option maxRecDepth 100000 in
theorem known_print : printS (.mk 1 knownS 0 knownK) = knownP := by kernel_rfl
set_option maxRecDepth 100000 in
theorem known_wt : wt (.mk 1 knownS 0 knownK) ≤ 1048576 := by decide +kernel
end Te

set_option maxRecDepth 100000 in
set_option maxHeartbeats 4000000 in
theorem known15_any (w : World) :
    Calls Tryz.prog 10 #[] w fun e w' => e = .returned (.bool true) ∧ Below w.heap.size w w' := by
  have HP : Hid (Calls Tryz.prog 7 #[.string ⟨#[115, 99, 97, 108, 101, 40, 32, 97, 46, 42, 32, 44, 32, 49, 46, 53, 48, 41]⟩] w fun e w' => ∃ v, e = .returned (.tuple #[.agg #[.int .i64 1, .string ⟨Te.knownS.toArray⟩, .int .i64 0, v], .int .i64 0]) ∧ Te.At w' (fun i => w.heap.size ≤ i) (.mk 1 Te.knownS 0 Te.knownK) v ∧ Below w.heap.size w w') := Lib.hid (by
    refine (tparse_any Te.knownT (by decide) w).mono ?_
    rintro e w' ⟨⟨k, s, n, ks, v, er, he, hr⟩, hb⟩
    rcases hr with ⟨rfl, h1, h2⟩ | ⟨_, h1, _⟩
    · rw [Te.known_parse] at h1
      injection h1 with h1
      rw [← h1] at h2
      injection h1 with e1 e2 e3 e4
      exact ⟨v, by rw [he, ← e1, ← e2, ← e3], h2, hb⟩
    · rw [Te.known_parse] at h1
      cases h1)
  have HPR : Hid (∀ W v, Te.At W (fun i => w.heap.size ≤ i) (.mk 1 Te.knownS 0 Te.knownK) v → Calls Tryz.prog 12 #[.agg #[.int .i64 1, .string ⟨Te.knownS.toArray⟩, .int .i64 0, v]] W fun e w' => e = .returned (.string ⟨#[115, 99, 97, 108, 101, 40, 97, 46, 42, 44, 49, 46, 53, 41]⟩) ∧ Below W.heap.size W w') := Lib.hid fun W v h => by
    have := tprint_any _ Te.known_wt v W h
    rw [Te.known_print] at this
    exact this
  generalize Te.knownS = ks at *
  generalize hK : Te.knownK = kk at *
  go_enter Tryz.func10, Tryz.ntmps10
  go_wp2_with fail
  go_at_call 7
  refine HP.out.mono ?_
  rintro e w1 ⟨v, rfl, hat, hb⟩
  have HB1 := Lib.hid hb
  obtain ⟨A, c, xs, rfl, _, _⟩ := hat.form
  have HA := Lib.hid hat
  clear hb hat
  go_wp2_with (go_at_call 12; go_must (refine (HPR.out _ _ (HA.out.below ((Below.refl _ _).alloc (Nat.le_refl _) _))).mono ?_; rintro e w2 ⟨rfl, hb2⟩; have HB2 : Hid (Below w.heap.size w w2) := Lib.hid ((HB1.out.alloc HB1.out.size _).trans (hb2.mono (by have := HB1.out.size; simp; omega))); clear hb2))
  go_ret
  exact ⟨rfl, HB2.out⟩
end Go.Proofs.YtojmcndiooiehaaGreatDoor
