/-
  SlotBytes: the walk, for every point and bytes.
-/
import Derived.Test.YtefegcmicnlphaaSlDecY
import Derived.Test.YtefegcmicnlphaaSlPl
import Derived.Test.YtefegcmicnlphaaInv
import Derived.Deep.DeepCutAuto
namespace Go.Proofs.Ytefegcmicnlphaa
open Go.RowKit Go.Sort
open Me

theorem sdecode_any (A : Option Addr) (L : List UInt8) (cap : Nat) (w : World) (h : Reads w (.slice A L.length cap) L) :
    Calls Try.prog 13 #[.slice A L.length cap] w fun e w' => e = .returned (.tuple #[.agg #[.int .i64 (Sl.dat L), .int .i64 (Sl.dnn L)], .bool (Sl.okd L)]) ∧ Below w.heap.size w w' := by
  obtain ⟨A', c', e, hc, hr⟩ := h
  injection e with e1 e2 e3
  subst e1 e3
  by_cases hL : L.length = 12
  · obtain ⟨b, off, rfl, hb⟩ := By.of hr (by omega)
    have e1 : Sl.dat L = Wh.nm L 0 := by unfold Sl.dat; rw [if_pos hL]
    have e2 : Sl.dnn L = Sl.dn L := by unfold Sl.dnn; rw [if_pos hL]
    have e3 : Sl.okd L = true := decide_eq_true hL
    rw [e1, e2, e3, hL]
    exact sdecode_12 L hL b off cap w hb (by omega)
  · have e1 : Sl.dat L = 0 := by unfold Sl.dat; rw [if_neg hL]
    have e2 : Sl.dnn L = 0 := by unfold Sl.dnn; rw [if_neg hL]
    have e3 : Sl.okd L = false := decide_eq_false hL
    rw [e1, e2, e3]
    exact sdecode_no A L.length cap hL w
theorem rsdecode_any (A : Option Addr) (L : List UInt8) (cap : Nat) (w : World) (h : Reads w (.slice A L.length cap) L) :
    Calls Try.prog 14 #[.slice A L.length cap] w fun e w' => e = .returned (.tuple #[.agg #[.int .i64 (Sl.dat L), .int .i64 (Sl.dnn L)], .bool (Sl.okd L)]) ∧ Below w.heap.size w w' := by
  obtain ⟨A', c', e, hc, hr⟩ := h
  injection e with e1 e2 e3
  subst e1 e3
  by_cases hL : L.length = 12
  · obtain ⟨b, off, rfl, hb⟩ := By.of hr (by omega)
    have e1 : Sl.dat L = Wh.nm L 0 := by unfold Sl.dat; rw [if_pos hL]
    have e2 : Sl.dnn L = Sl.dn L := by unfold Sl.dnn; rw [if_pos hL]
    have e3 : Sl.okd L = true := decide_eq_true hL
    rw [e1, e2, e3, hL]
    exact rsdecode_12 L hL b off cap w hb (by omega)
  · have e1 : Sl.dat L = 0 := by unfold Sl.dat; rw [if_neg hL]
    have e2 : Sl.dnn L = 0 := by unfold Sl.dnn; rw [if_neg hL]
    have e3 : Sl.okd L = false := decide_eq_false hL
    rw [e1, e2, e3]
    exact rsdecode_no A L.length cap hL w
/-- What was encoded, decoded. -/
theorem sdecode_enc (a n : Int) (n1 : -9223372036854775808 ≤ n) (n2 : n ≤ 9223372036854775807) (v : Value) (w : World) (h : Reads w v (Sl.enc a n)) :
    Calls Try.prog 13 #[v] w fun e w' => e = .returned (.tuple #[.agg #[.int .i64 (Sl.lim a), .int .i64 n], .bool true]) ∧ Below w.heap.size w w' := by
  obtain ⟨A, c, rfl, hc, hr⟩ := h
  have := sdecode_any A (Sl.enc a n) c w ⟨A, c, rfl, hc, hr⟩
  have hL : (Sl.enc a n).length = 12 := Sl.enc_len a n
  have e1 : Sl.dat (Sl.enc a n) = Sl.lim a := by unfold Sl.dat; rw [if_pos hL, Sl.back_at]
  have e2 : Sl.dnn (Sl.enc a n) = n := by unfold Sl.dnn; rw [if_pos hL, Sl.back_n a n n1 n2]
  have e3 : Sl.okd (Sl.enc a n) = true := decide_eq_true hL
  rw [e1, e2, e3] at this
  exact this

set_option maxHeartbeats 4000000 in
theorem lawBytes_any (a n : Int) (M : List UInt8) (Am : Option Addr) (cm : Nat) (n1 : -9223372036854775808 ≤ n) (n2 : n ≤ 9223372036854775807) (w : World) (hm : Reads w (.slice Am M.length cm) M) :
    Calls Try.prog 4 #[.agg #[.int .i64 a, .int .i64 n], .slice Am M.length cm] w fun e w' => e = .returned (.bool true) ∧ Below w.heap.size w w' := by
  by_cases h100 : 100 < M.length
  · have hI : (100 : Int) < (M.length : Int) := by omega
    clear hm
    go_enter Try.func4, Try.ntmps4
    go_wp2_with fail
    go_ret
    exact ⟨rfl, (by repeat (first | exact Below.refl _ _ | assumption | refine Below.setCell ?_ (by first | (simp; done) | omega | (simp; omega) | (simp at *; omega)) _ | refine Below.alloc ?_ (by first | (simp; done) | omega | (simp; omega) | (simp at *; omega)) _ | refine Below.drew ?_ | (refine Below.trans ?_ (Below.mono (by assumption) (by first | (simp; done) | omega | (simp; omega) | (simp at *; omega)))) | (refine Below.trans ?_ (Below.mono (below_regrown _ _ _) (by first | (simp; done) | omega | (simp; omega) | (simp at *; omega))))))⟩
  have hMI : (M.length : Int) ≤ 100 := by omega
  have HEn := Lib.hid (fun W => sencode_any a n W)
  have HRn := Lib.hid (fun W => rsencode_any a n W)
  have HDe : Hid (∀ W, Below w.heap.size w W → Calls Try.prog 13 #[.slice Am M.length cm] W fun e w' => e = .returned (.tuple #[.agg #[.int .i64 (Sl.dat M), .int .i64 (Sl.dnn M)], .bool (Sl.okd M)]) ∧ Below W.heap.size W w') := Lib.hid fun W hb => sdecode_any Am M cm W (hm.below hb)
  have HRe : Hid (∀ W, Below w.heap.size w W → Calls Try.prog 14 #[.slice Am M.length cm] W fun e w' => e = .returned (.tuple #[.agg #[.int .i64 (Sl.dat M), .int .i64 (Sl.dnn M)], .bool (Sl.okd M)]) ∧ Below W.heap.size W w') := Lib.hid fun W hb => rsdecode_any Am M cm W (hm.below hb)
  have HBk := Lib.hid (fun v W => sdecode_enc a n n1 n2 v W)
  generalize Sl.dat M = p at *
  generalize Sl.dnn M = q at *
  generalize Sl.okd M = r at *
  generalize Sl.enc a n = E at *
  clear hm h100
  go_enter Try.func4, Try.ntmps4
  go_upto_region 6 with (first
    | (go_at_call 12; (with_reducible refine (HEn.out _).mono ?_); rintro e w1 ⟨v1, rfl, ho1, hb1⟩; have HB1 : Hid (Below (w.heap.size + 1) (w.alloc (.cells #[.int .i64 a, .int .i64 n] 29)) w1) := Lib.hid (hb1.mono (by simp)); have HR1 := Lib.hid (Reads.own ho1); have hz1 : w.heap.size < w1.heap.size := Nat.lt_of_lt_of_le (by simp) hb1.size; obtain ⟨A1, n1', c1, rfl⟩ := own_slice ho1; clear ho1 hb1)
    | (go_at_call 13; (with_reducible refine (HDe.out w1 (lowBox' HB1.out)).mono ?_); rintro e w2 ⟨rfl, hb2⟩; have HB2 := Lib.hid hb2; clear hb2)
    | (go_at_call 14; have hpre : Below w.heap.size w (w2.alloc (.cells #[.int .i64 p, .int .i64 q] 29)) := lowBox' ((HB1.out.trans (HB2.out.mono hz1)).alloc (Nat.le_trans hz1 HB2.out.size) _); (with_reducible refine (HRe.out _ hpre).mono ?_); rintro e w3 ⟨rfl, hb3⟩; have HB3 := Lib.hid hb3; clear hb3 hpre)
    | fail)
  have hz2 : w1.heap.size ≤ w2.heap.size := HB2.out.size
  have hz3 : w2.heap.size + 1 ≤ w3.heap.size := by have := HB3.out.size; simp at this; omega
  have hB3 : Below (w.heap.size + 1) (w.alloc (.cells #[.int .i64 a, .int .i64 n] 29)) w3 := ((HB1.out.trans (HB2.out.mono hz1)).alloc (by omega) _).trans (HB3.out.mono (by simp; omega))
  have hR6 : RowAt (w3.alloc (.cells #[.int .i64 p, .int .i64 q] 29)) w2.heap.size 29 #[.int .i64 p, .int .i64 q] := ((RowAt.new w2 _ _).below HB3.out (by simp)).alloc _
  have hR8 : RowAt (w3.alloc (.cells #[.int .i64 p, .int .i64 q] 29)) w3.heap.size 29 #[.int .i64 p, .int .i64 q] := RowAt.new w3 _ _
  have hRD : Reads (w3.alloc (.cells #[.int .i64 p, .int .i64 q] 29)) (.slice A1 n1' c1) E :=
    (((HR1.out.below HB2.out).below ((Below.refl _ _).alloc (Nat.le_refl _) (.cells #[.int .i64 p, .int .i64 q] 29))).below HB3.out).below ((Below.refl _ _).alloc (Nat.le_refl _) _)
  have hBX := hB3.alloc (by omega) (.cells #[.int .i64 p, .int .i64 q] 29)
  have hX : w3.heap.size < (w3.alloc (.cells #[.int .i64 p, .int .i64 q] 29)).heap.size := by simp
  generalize w3.alloc (.cells #[.int .i64 p, .int .i64 q] 29) = X at *
  have HALL : Hid (∀ W, Below X.heap.size X W → W.cell? ⟨w.heap.size, 0, none⟩ = some (.int .i64 a) ∧ W.cell? ⟨w.heap.size, 1, none⟩ = some (.int .i64 n) ∧ W.cell? ⟨w2.heap.size, 0, none⟩ = some (.int .i64 p) ∧ W.cell? ⟨w2.heap.size, 1, none⟩ = some (.int .i64 q) ∧ W.cell? ⟨w3.heap.size, 0, none⟩ = some (.int .i64 p) ∧ W.cell? ⟨w3.heap.size, 1, none⟩ = some (.int .i64 q) ∧ (convert 30 9 (.slice A1 n1' c1)).run Try.prog W = .ok (.string ⟨E.toArray⟩) W) := Lib.hid fun W hb => by
    have r0 : RowAt W w.heap.size 29 #[.int .i64 a, .int .i64 n] := (RowAt.new w _ _).below (hBX.trans (hb.mono (by omega))) (Nat.lt_succ_self _)
    have r6 := hR6.below hb (by omega)
    have r8 := hR8.below hb (by omega)
    exact ⟨r0.cell 0, r0.cell 1, r6.cell 0, r6.cell 1, r8.cell 0, r8.cell 1, (hRD.below hb).conv⟩
  have HBX := Lib.hid hBX
  have HRD := Lib.hid hRD
  have HWS : Hid (∀ W, Below X.heap.size X W → Below w.heap.size w W) := Lib.hid fun W hb => lowBox' (hBX.trans (hb.mono (by omega)))
  obtain ⟨d0, d1, d2, d3, d4, d5, kd⟩ := HALL.out X (Below.refl _ _)
  obtain ⟨_, _, _, _, _, _, kd'⟩ := HALL.out X.drew ((Below.refl _ _).drew)
  have hxz : w.heap.size < X.heap.size := by omega
  have hxz2 : w2.heap.size < X.heap.size := by omega
  clear hB3 hR6 hR8 hRD hBX HB1 HB2 HB3 HR1 HDe HRe HEn
  refine Inv.region (fun W W' => Below W.heap.size W W') (fun i v W => match i with
    | 0 => v = .slice A1 n1' c1
    | 1 => v = (.string ⟨E.toArray⟩)
    | 2 => v = (.agg #[.int .i64 a, .int .i64 n])
    | 3 => Reads W v E
    | 4 => v = (.string ⟨E.toArray⟩)
    | 5 => v = .bool false
    | 6 => v = .bool false
    | 7 => v = (.agg #[.int .i64 p, .int .i64 q])
    | 8 => v = (.agg #[.int .i64 p, .int .i64 q])
    | 9 => v = .bool false
    | 10 => v = .bool false
    | 11 => v = .bool false
    | 12 => v = .bool r
    | 13 => v = .bool r
    | 14 => v = .bool false
    | 15 => v = .bool false
    | _ => True) (by kernel_rfl) (by kernel_rfl) (by kernel_rfl) (fun W => Below.refl _ _) (fun a b c h k => h.trans (k.mono h.size)) (fun i v W W' h he => ?stab) ?obls ?fin
  case stab =>
    match i, h with
    | 0, h => exact h
    | 1, h => exact h
    | 2, h => exact h
    | 3, h => exact h.below he
    | 4, h => exact h
    | 5, h => exact h
    | 6, h => exact h
    | 7, h => exact h
    | 8, h => exact h
    | 9, h => exact h
    | 10, h => exact h
    | 11, h => exact h
    | 12, h => exact h
    | 13, h => exact h
    | 14, h => exact h
    | 15, h => exact h
    | _ + 16, h => exact h
  case obls =>
    refine .cons ?_ (.cons ?_ (.cons ?_ (.cons ?_ (.cons ?_ (.cons ?_ (.cons ?_ (.cons ?_ (.cons ?_ (.cons ?_ (.cons ?_ (.cons ?_ (.cons ?_ (.cons ?_ (.cons ?_ (.cons ?_ .nil)))))))))))))))
    · intro ac wx hE hf hd
      have hB : Below X.heap.size X wx := ⟨hE.os, hE.tape, hE.output, hE.size, hE.block⟩
      rw [if_pos (Inv.want0 rfl _)]
      have h5 : ac.eval (.tmp 5) = .slice A1 n1' c1 := hf 5 (by kernel_rfl)
      clear hf hd
      obtain ⟨f0, f1, f2, f3, f4, f5, kf⟩ := HALL.out wx hB
      refine Inv.val (.slice A1 n1' c1) ?_ rfl rfl (Below.refl _ _)
      clear hE hB
      generalize ac.eval = ev at *
      simp [execOp, go_sem, *]
    · intro ac wx hE hf hd
      have hB : Below X.heap.size X wx := ⟨hE.os, hE.tape, hE.output, hE.size, hE.block⟩
      rw [if_pos (Inv.want0 rfl _)]
      have h27 := hd 0 _ (by kernel_rfl) rfl
      change ac.eval (.tmp 27) = .slice A1 n1' c1 at h27
      clear hf hd
      obtain ⟨f0, f1, f2, f3, f4, f5, kf⟩ := HALL.out wx hB
      refine Inv.val ((.string ⟨E.toArray⟩)) ?_ rfl rfl (Below.refl _ _)
      clear hE hB
      generalize ac.eval = ev at *
      simp [execOp, go_sem, *]
    · intro ac wx hE hf hd
      have hB : Below X.heap.size X wx := ⟨hE.os, hE.tape, hE.output, hE.size, hE.block⟩
      rw [if_pos (Inv.want0 rfl _)]
      have h2 : ac.eval (.tmp 2) = .pointer (some ⟨w.heap.size, 0, none⟩) := hf 2 (by kernel_rfl)
      clear hf hd
      obtain ⟨f0, f1, f2, f3, f4, f5, kf⟩ := HALL.out wx hB
      refine Inv.val ((.agg #[.int .i64 a, .int .i64 n])) ?_ rfl rfl (Below.refl _ _)
      clear hE hB
      generalize ac.eval = ev at *
      simp [execOp, go_sem, *]
    · intro ac wx hE hf hd
      have hB : Below X.heap.size X wx := ⟨hE.os, hE.tape, hE.output, hE.size, hE.block⟩
      rw [if_pos (Inv.want0 rfl _)]
      have h29 := hd 2 _ (by kernel_rfl) rfl
      change ac.eval (.tmp 29) = (.agg #[.int .i64 a, .int .i64 n]) at h29
      clear hf hd
      refine Inv.go (f := 15) (xs := #[.agg #[.int .i64 a, .int .i64 n]]) ?_ rfl ?_
      · clear hE hB
        have hfn : ac.eval (.func 15) = .func (.func 15) #[] #[] := rfl
        generalize ac.eval = ev at *
        simp [execOp, go_sem, *]
      · refine (HRn.out wx).mono ?_
        rintro e w' ⟨v, rfl, ho, hb⟩
        exact ⟨v, rfl, Reads.own ho, hb⟩
    · intro ac wx hE hf hd
      have hB : Below X.heap.size X wx := ⟨hE.os, hE.tape, hE.output, hE.size, hE.block⟩
      rw [if_pos (Inv.want0 rfl _)]
      have h30 := hd 3 _ (by kernel_rfl) rfl
      change (fun v W => Reads W v E) (ac.eval (.tmp 30)) wx at h30
      try dsimp only at h30
      clear hf hd
      have kc := h30.conv
      refine Inv.val (.string ⟨E.toArray⟩) ?_ rfl rfl (Below.refl _ _)
      clear hE hB
      generalize ac.eval = ev at *
      simp [execOp, go_sem, *]
    · intro ac wx hE hf hd
      have hB : Below X.heap.size X wx := ⟨hE.os, hE.tape, hE.output, hE.size, hE.block⟩
      rw [if_pos (Inv.want0 rfl _)]
      have h28 := hd 1 _ (by kernel_rfl) rfl
      change ac.eval (.tmp 28) = (.string ⟨E.toArray⟩) at h28
      have h31 := hd 4 _ (by kernel_rfl) rfl
      change ac.eval (.tmp 31) = (.string ⟨E.toArray⟩) at h31
      clear hf hd
      refine Inv.val (.bool false) ?_ rfl rfl (Below.refl _ _)
      clear hE hB
      generalize ac.eval = ev at *
      simp [execOp, go_sem, *]
    · intro ac wx hE hf hd
      have hB : Below X.heap.size X wx := ⟨hE.os, hE.tape, hE.output, hE.size, hE.block⟩
      rw [if_pos (Inv.want0 rfl _)]
      have h32 := hd 5 _ (by kernel_rfl) rfl
      change ac.eval (.tmp 32) = .bool false at h32
      clear hf hd
      obtain ⟨f0, f1, f2, f3, f4, f5, kf⟩ := HALL.out wx hB
      refine Inv.val (.bool false) ?_ rfl rfl (Below.refl _ _)
      clear hE hB
      generalize ac.eval = ev at *
      simp [execOp, go_sem, *]
    · intro ac wx hE hf hd
      have hB : Below X.heap.size X wx := ⟨hE.os, hE.tape, hE.output, hE.size, hE.block⟩
      have hg := hd 6 _ (by kernel_rfl) rfl
      change ac.eval (.tmp 33) = .bool false at hg
      rw [if_pos (Inv.want (j := 6) (b := false) (d := 33) rfl rfl rfl hg)]
      have h6 : ac.eval (.tmp 6) = .pointer (some ⟨w2.heap.size, 0, none⟩) := hf 6 (by kernel_rfl)
      clear hf hd
      obtain ⟨f0, f1, f2, f3, f4, f5, kf⟩ := HALL.out wx hB
      refine Inv.val ((.agg #[.int .i64 p, .int .i64 q])) ?_ rfl rfl (Below.refl _ _)
      clear hE hB
      generalize ac.eval = ev at *
      simp [execOp, go_sem, *]
    · intro ac wx hE hf hd
      have hB : Below X.heap.size X wx := ⟨hE.os, hE.tape, hE.output, hE.size, hE.block⟩
      have hg := hd 6 _ (by kernel_rfl) rfl
      change ac.eval (.tmp 33) = .bool false at hg
      rw [if_pos (Inv.want (j := 6) (b := false) (d := 33) rfl rfl rfl hg)]
      have h8 : ac.eval (.tmp 8) = .pointer (some ⟨w3.heap.size, 0, none⟩) := hf 8 (by kernel_rfl)
      clear hf hd
      obtain ⟨f0, f1, f2, f3, f4, f5, kf⟩ := HALL.out wx hB
      refine Inv.val ((.agg #[.int .i64 p, .int .i64 q])) ?_ rfl rfl (Below.refl _ _)
      clear hE hB
      generalize ac.eval = ev at *
      simp [execOp, go_sem, *]
    · intro ac wx hE hf hd
      have hB : Below X.heap.size X wx := ⟨hE.os, hE.tape, hE.output, hE.size, hE.block⟩
      have hg := hd 6 _ (by kernel_rfl) rfl
      change ac.eval (.tmp 33) = .bool false at hg
      rw [if_pos (Inv.want (j := 6) (b := false) (d := 33) rfl rfl rfl hg)]
      have h34 := hd 7 _ (by kernel_rfl) rfl
      change ac.eval (.tmp 34) = (.agg #[.int .i64 p, .int .i64 q]) at h34
      have h35 := hd 8 _ (by kernel_rfl) rfl
      change ac.eval (.tmp 35) = (.agg #[.int .i64 p, .int .i64 q]) at h35
      clear hf hd
      obtain ⟨f0, f1, f2, f3, f4, f5, kf⟩ := HALL.out wx hB
      refine Inv.val (.bool false) ?_ rfl rfl (Below.refl _ _)
      clear hE hB
      generalize ac.eval = ev at *
      simp [execOp, go_sem, *]
    · intro ac wx hE hf hd
      have hB : Below X.heap.size X wx := ⟨hE.os, hE.tape, hE.output, hE.size, hE.block⟩
      rw [if_pos (Inv.want0 rfl _)]
      have h33 := hd 6 _ (by kernel_rfl) rfl
      change ac.eval (.tmp 33) = .bool false at h33
      have h36 := hd 9 _ (by kernel_rfl) rfl
      change ac.eval (.tmp 36) = .bool false at h36
      clear hf hd
      obtain ⟨f0, f1, f2, f3, f4, f5, kf⟩ := HALL.out wx hB
      refine Inv.val (.bool false) ?_ rfl rfl (Below.refl _ _)
      clear hE hB
      have hcst : ∀ v, ac.eval (.const v) = v := fun _ => rfl
      generalize ac.eval = ev at *
      simp [execOp, go_sem, *]
    · intro ac wx hE hf hd
      have hB : Below X.heap.size X wx := ⟨hE.os, hE.tape, hE.output, hE.size, hE.block⟩
      rw [if_pos (Inv.want0 rfl _)]
      have h37 := hd 10 _ (by kernel_rfl) rfl
      change ac.eval (.tmp 37) = .bool false at h37
      clear hf hd
      obtain ⟨f0, f1, f2, f3, f4, f5, kf⟩ := HALL.out wx hB
      refine Inv.val (.bool false) ?_ rfl rfl (Below.refl _ _)
      clear hE hB
      generalize ac.eval = ev at *
      simp [execOp, go_sem, *]
    · intro ac wx hE hf hd
      have hB : Below X.heap.size X wx := ⟨hE.os, hE.tape, hE.output, hE.size, hE.block⟩
      have hg := hd 11 _ (by kernel_rfl) rfl
      change ac.eval (.tmp 38) = .bool false at hg
      rw [if_pos (Inv.want (j := 11) (b := false) (d := 38) rfl rfl rfl hg)]
      have h7 : ac.eval (.tmp 7) = .bool r := hf 7 (by kernel_rfl)
      clear hf hd
      obtain ⟨f0, f1, f2, f3, f4, f5, kf⟩ := HALL.out wx hB
      refine Inv.val (.bool r) ?_ rfl rfl (Below.refl _ _)
      clear hE hB
      generalize ac.eval = ev at *
      simp [execOp, go_sem, *]
    · intro ac wx hE hf hd
      have hB : Below X.heap.size X wx := ⟨hE.os, hE.tape, hE.output, hE.size, hE.block⟩
      have hg := hd 11 _ (by kernel_rfl) rfl
      change ac.eval (.tmp 38) = .bool false at hg
      rw [if_pos (Inv.want (j := 11) (b := false) (d := 38) rfl rfl rfl hg)]
      have h9 : ac.eval (.tmp 9) = .bool r := hf 9 (by kernel_rfl)
      clear hf hd
      obtain ⟨f0, f1, f2, f3, f4, f5, kf⟩ := HALL.out wx hB
      refine Inv.val (.bool r) ?_ rfl rfl (Below.refl _ _)
      clear hE hB
      generalize ac.eval = ev at *
      simp [execOp, go_sem, *]
    · intro ac wx hE hf hd
      have hB : Below X.heap.size X wx := ⟨hE.os, hE.tape, hE.output, hE.size, hE.block⟩
      have hg := hd 11 _ (by kernel_rfl) rfl
      change ac.eval (.tmp 38) = .bool false at hg
      rw [if_pos (Inv.want (j := 11) (b := false) (d := 38) rfl rfl rfl hg)]
      have h39 := hd 12 _ (by kernel_rfl) rfl
      change ac.eval (.tmp 39) = .bool r at h39
      have h40 := hd 13 _ (by kernel_rfl) rfl
      change ac.eval (.tmp 40) = .bool r at h40
      clear hf hd
      obtain ⟨f0, f1, f2, f3, f4, f5, kf⟩ := HALL.out wx hB
      refine Inv.val (.bool false) ?_ rfl rfl (Below.refl _ _)
      clear hE hB
      generalize ac.eval = ev at *
      simp [execOp, go_sem, *]
    · intro ac wx hE hf hd
      have hB : Below X.heap.size X wx := ⟨hE.os, hE.tape, hE.output, hE.size, hE.block⟩
      rw [if_pos (Inv.want0 rfl _)]
      have h38 := hd 11 _ (by kernel_rfl) rfl
      change ac.eval (.tmp 38) = .bool false at h38
      have h41 := hd 14 _ (by kernel_rfl) rfl
      change ac.eval (.tmp 41) = .bool false at h41
      clear hf hd
      obtain ⟨f0, f1, f2, f3, f4, f5, kf⟩ := HALL.out wx hB
      refine Inv.val (.bool false) ?_ rfl rfl (Below.refl _ _)
      clear hE hB
      have hcst : ∀ v, ac.eval (.const v) = v := fun _ => rfl
      generalize ac.eval = ev at *
      simp [execOp, go_sem, *]
  case fin =>
    intro ac wx hE ha hall
    have hB : Below X.heap.size X wx := ⟨hE.os, hE.tape, hE.output, hE.size, hE.block⟩
    have h27 := hall 0 _ rfl
    change ac.eval (.tmp 27) = .slice A1 n1' c1 at h27
    have h28 := hall 1 _ rfl
    change ac.eval (.tmp 28) = (.string ⟨E.toArray⟩) at h28
    have h29 := hall 2 _ rfl
    change ac.eval (.tmp 29) = (.agg #[.int .i64 a, .int .i64 n]) at h29
    have h30 := hall 3 _ rfl
    change (fun v W => Reads W v E) (ac.eval (.tmp 30)) wx at h30
    try dsimp only at h30
    generalize hv30 : ac.eval (.tmp 30) = v30 at *
    have h31 := hall 4 _ rfl
    change ac.eval (.tmp 31) = (.string ⟨E.toArray⟩) at h31
    have h32 := hall 5 _ rfl
    change ac.eval (.tmp 32) = .bool false at h32
    have h33 := hall 6 _ rfl
    change ac.eval (.tmp 33) = .bool false at h33
    have h34 := hall 7 _ rfl
    change ac.eval (.tmp 34) = (.agg #[.int .i64 p, .int .i64 q]) at h34
    have h35 := hall 8 _ rfl
    change ac.eval (.tmp 35) = (.agg #[.int .i64 p, .int .i64 q]) at h35
    have h36 := hall 9 _ rfl
    change ac.eval (.tmp 36) = .bool false at h36
    have h37 := hall 10 _ rfl
    change ac.eval (.tmp 37) = .bool false at h37
    have h38 := hall 11 _ rfl
    change ac.eval (.tmp 38) = .bool false at h38
    have h39 := hall 12 _ rfl
    change ac.eval (.tmp 39) = .bool r at h39
    have h40 := hall 13 _ rfl
    change ac.eval (.tmp 40) = .bool r at h40
    have h41 := hall 14 _ rfl
    change ac.eval (.tmp 41) = .bool false at h41
    have h42 := hall 15 _ rfl
    change ac.eval (.tmp 42) = .bool false at h42
    simp only [List.foldl, Inv.slot, Act.put] at ha
    change ac.tmps.getD 27 undef = _ at h27
    change ac.tmps.getD 28 undef = _ at h28
    change ac.tmps.getD 29 undef = _ at h29
    change ac.tmps.getD 30 undef = _ at hv30
    change ac.tmps.getD 31 undef = _ at h31
    change ac.tmps.getD 32 undef = _ at h32
    change ac.tmps.getD 33 undef = _ at h33
    change ac.tmps.getD 34 undef = _ at h34
    change ac.tmps.getD 35 undef = _ at h35
    change ac.tmps.getD 36 undef = _ at h36
    change ac.tmps.getD 37 undef = _ at h37
    change ac.tmps.getD 38 undef = _ at h38
    change ac.tmps.getD 39 undef = _ at h39
    change ac.tmps.getD 40 undef = _ at h40
    change ac.tmps.getD 41 undef = _ at h41
    change ac.tmps.getD 42 undef = _ at h42
    simp only [h27, h28, h29, hv30, h31, h32, h33, h34, h35, h36, h37, h38, h39, h40, h41, h42, List.setIfInBounds_toArray, List.set_cons_zero, List.set_cons_succ] at ha
    clear h27 h28 h29 hv30 h31 h32 h33 h34 h35 h36 h37 h38 h39 h40 h41 h42 hall hE
    subst ha
    have hM := Lib.hid hB
    clear hB
    obtain ⟨g0, g1, _, _, _, _, _⟩ := HALL.out wx hM.out
    have HRc := Lib.hid (HRD.out.below hM.out)
    have hzc := hM.out.size
    have hwz : w.heap.size < wx.heap.size := by omega
    clear kd kd' d0 d1 d2 d3 d4 d5 HRn h30
    rcases (by omega : a < 0 ∨ 4294967295 < a ∨ (0 ≤ a ∧ a ≤ 4294967295)) with ha | ha | ha
    case inr.inr =>
      have hla : Sl.lim a = a := by unfold Sl.lim; omega
      rw [hla] at HBk
      clear hla
      go_wp2_with first
        | (go_at_call 13; (with_reducible refine (HBk.out _ _ HRc.out).mono ?_); rintro e w6 ⟨rfl, hb6⟩; obtain ⟨k0, k1, _, _, _, _, _⟩ := HALL.out w6 (hM.out.trans (hb6.mono hzc)); have HB6 := Lib.hid hb6; have hz6 := hb6.size; have hwz6 : w.heap.size < w6.heap.size := Nat.lt_of_lt_of_le hwz hz6; clear hb6)
        | (go_at_call 11; (with_reducible refine (known_any _).mono ?_); rintro e w7 ⟨rfl, hb7⟩; have HB7 := Lib.hid hb7; clear hb7)
      go_ret
      exact ⟨rfl, (HWS.out _ ((hM.out.trans (HB6.out.mono hzc)).alloc (Nat.le_trans hzc hz6) _)).trans (HB7.out.mono (by simp; omega))⟩
    all_goals
      generalize Sl.lim a = x at *
      go_wp2_with first
        | (go_at_call 13; (with_reducible refine (HBk.out _ _ HRc.out).mono ?_); rintro e w6 ⟨rfl, hb6⟩; obtain ⟨k0, k1, _, _, _, _, _⟩ := HALL.out w6 (hM.out.trans (hb6.mono hzc)); have HB6 := Lib.hid hb6; have hz6 := hb6.size; have hwz6 : w.heap.size < w6.heap.size := Nat.lt_of_lt_of_le hwz hz6; clear hb6)
        | (go_at_call 11; (with_reducible refine (known_any _).mono ?_); rintro e w7 ⟨rfl, hb7⟩; have HB7 := Lib.hid hb7; clear hb7)
      go_ret
      exact ⟨rfl, (HWS.out _ ((hM.out.trans (HB6.out.mono hzc)).alloc (Nat.le_trans hzc hz6) _)).trans (HB7.out.mono (by simp; omega))⟩
end Go.Proofs.Ytefegcmicnlphaa
