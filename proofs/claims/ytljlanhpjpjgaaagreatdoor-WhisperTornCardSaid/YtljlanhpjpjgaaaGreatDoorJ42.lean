/- WqFe -/
import Derived.Test.YtljlanhpjpjgaaaGreatDoorJ1
import Derived.Test.YtljlanhpjpjgaaaGreatDoorJ34
import Derived.Test.YtljlanhpjpjgaaaGreatDoorJ37
import Derived.Test.YtljlanhpjpjgaaaGreatDoorJ29
import Derived.Test.YtljlanhpjpjgaaaGreatDoorJ26
import Derived.Test.YtljlanhpjpjgaaaGreatDoorJ41
import Derived.Test.YtljlanhpjpjgaaaGreatDoorJ24
namespace Go.Proofs.YtljlanhpjpjgaaaGreatDoor
set_option maxRecDepth 100000
set_option maxHeartbeats 8000000
section
open Go.RowKit Go.Sort
open Fx (Vl)
open Me
open Wp
theorem row_set5v {W : World} {g : Nat} {t : TypeId} {a0 a1 a2 a3 a4 b0 b1 b2 b3 b4 : Value} (h : RowAt W g t #[a0, a1, a2, a3, a4]) :
 RowAt (((((W.setCell ⟨g, 0, none⟩ b0).setCell ⟨g, 1, none⟩ b1).setCell ⟨g, 2, none⟩ b2).setCell ⟨g, 3, none⟩ b3).setCell ⟨g, 4, none⟩ b4) g t #[b0, b1, b2, b3, b4] := by
 have := ((((h.set_ 0 b0).set_ 1 b1).set_ 2 b2).set_ 3 b3).set_ 4 b4
 simpa using this
theorem ser_below {w w1 : World} {o : Obj} (h : Below (w.heap.size + 1) (w.alloc o) w1) : w.heap.size + 1 ≤ w1.heap.size := by have := h.size; simpa using this
theorem fetch_in7 {w : World} {V : Nat → Prop} {c fs : Nat} {S : Vf.Sv} (ro : PO w V fs c S) (n : List UInt8) (hnl : n.length ≤ 1048576) (now from_ until_ : Int) (h0 : (info S.now n).2 = 0) (hn1 : 1 ≤ now) (hn2 : now ≤ 4294967295) (ht : ¬ (until_ < from_ ∨ now < from_ ∨ until_ < 0 ∨ until_ < now - (info S.now n).1.span)) :
 Calls Tryz.prog 45 #[.pointer (some ⟨fs, 0, none⟩), .string ⟨n.toArray⟩, .int .i64 now, .int .i64 from_, .int .i64 until_] w (Fetched w n (fetch S.now n now from_ until_)) := by
 have HIN : Hid (∀ W, Below w.heap.size w W → Calls Tryz.prog 32 #[.pointer (some ⟨fs, 0, none⟩), .string ⟨n.toArray⟩] W (Opened W fs n (info S.now n))) := Lib.hid fun W hb => open_any (ro.below hb) n
 have HNW : Hid (∀ W, Calls Tryz.prog 33 #[.int .i64 now] W fun e w' => e = .returned (.bool true) ∧ W = w') := Lib.hid fun W => by
  have h := isnow_any now W
  rw [decide_eq_true ⟨hn1, hn2⟩] at h
  exact h
 have HRO := Lib.hid ro
 have HC := serCell w
 have HCL : Hid (∀ W, Calls Tryz.prog 63 #[.string ⟨n.toArray⟩] W fun e w' => e = .returned (.string ⟨n.toArray⟩) ∧ Below W.heap.size W w') := Lib.hid fun W => strClone_any n W hnl
 obtain ⟨B0, hF⟩ := info_file h0
 have HE4 := Lib.hid (fun i f u hf hu hi p e hp he K hK => fetch_yes (fs := S.now) (n := n) (now := now) (a := from_) (b := until_) (i := i) (f := f) (u := u) h0 hn1 hn2 ht hf hu hi (p := p) (e := e) hp he (K := K) hK)
 have HH0 := Lib.hid h0
 generalize hRR : info S.now n = R at *
 clear hRR h0 ro
 obtain ⟨H, er⟩ := R
 have her : er = 0 := HH0.out
 subst her
 dsimp only at ht hF HE4
 have hv := hF.val
 have hlen := Hd.len hv
 have hsb := Hd.span_bd hv
 obtain ⟨cb1, cb2, cb3⟩ := clip_bd (now := now) (a := from_) (b := until_) hv hn1 ht
 have hCL : clip H now from_ = max (max 0 from_) (now - H.span) := rfl
 obtain ⟨f, hf⟩ : ∃ f, clip H now from_ = f := ⟨_, rfl⟩
 obtain ⟨u, hu⟩ : ∃ u, min until_ now = u := ⟨_, rfl⟩
 rw [hf, hu] at cb2
 rw [hf] at cb1 cb3 hCL
 have hfirst : ∃ ix, first H (now - f - 1) H.l.length 0 = some ix := by
  cases e : first H (now - f - 1) H.l.length 0 with
  | some i => exact ⟨i, rfl⟩
  | none =>
    exfalso
    have key : ∀ m i, first H (now - f - 1) m i = none → ∀ j, i ≤ j → j < i + m → ¬ (now - f - 1 < H.step j * H.cnt j) := by
     intro m
     induction m with
     | zero => intro i _ j h1 h2; omega
     | succ m ih =>
       intro i e j h1 h2
       by_cases hc : now - f - 1 < H.step i * H.cnt i
       ·rw [first_yes hc] at e; cases e
       ·rw [first_no hc] at e
        by_cases hj : j = i
        ·subst hj; exact hc
        ·exact ih (i + 1) e j (by omega) (by omega)
    have h1 := key _ _ e (H.l.length - 1) (by omega) (by omega)
    rw [← Hd.span_eq hv] at h1
    omega
 obtain ⟨ix, hix⟩ := hfirst
 have hixl : ix < H.l.length := by have := first_lt _ _ hix; omega
 have hcovb : now - f - 1 < H.step ix * H.cnt ix := by
  have key : ∀ m i, first H (now - f - 1) m i = some ix → now - f - 1 < H.step ix * H.cnt ix := by
   intro m
   induction m with
   | zero => intro i e; cases e
   | succ m ih =>
     intro i e
     by_cases hc : now - f - 1 < H.step i * H.cnt i
     ·rw [first_yes hc] at e; injection e with e; subst e; exact hc
     ·rw [first_no hc] at e; exact ih (i + 1) e
  exact key _ _ hix
 obtain ⟨⟨n1, n2⟩, n3, n4⟩ := Hd.nums hv ix hixl
 obtain ⟨K, p, q', e, h1, h2, h3, h4, h5, h6, h7, h8, h9, h10, h11, h12⟩ := times_of (f := f) (u := u) (s := H.step ix) n1 n2 (by omega) (by omega) (by omega)
 have htm := times_max (f := f) (u := u) (now := now) (c := H.cnt ix) (s := H.step ix) n1 (by omega) (by omega) (by omega) n3 (by omega)
 have HQ := Lib.hid (HE4.out ix f u hf hu hix p e (by rw [h1]; exact h2) h3 K h5)
 rw [h1, h2, h3, h5] at htm
 obtain ⟨C, hC⟩ : ∃ C : Nat, H.cnt ix = (C : Int) := ⟨(H.cnt ix).toNat, by omega⟩
 have hal : Sl.al p (H.step ix) = p ∧ 0 ≤ p := by
  have hq1 : Sl.al q' (H.step ix) = q' := by
   rw [← h1, Sl.al_mul n1 (Sl.al_bd n1 (by omega)).1, Sl.al_div n1 (by omega), ← Sl.al_mul n1 (by omega)]
  have := al_step (k := 1) (s := H.step ix) (st := q') n1 h8 hq1
  rw [show ((1 : Nat) : Int) = 1 from rfl, Int.one_mul] at this
  rw [← h2]
  exact ⟨this.2.1, this.1⟩
 obtain ⟨P, hP⟩ : ∃ P : Nat, Sl.pl (H.step ix) (H.cnt ix) p = (P : Int) := ⟨(Sl.pl (H.step ix) (H.cnt ix) p).toNat, by have := Sl.pl_bd n1 n3 hal.2; omega⟩
 have hpb : p ≤ 4328521728 := by omega
 have HSEQ : Hid (seq S.now n H ix p K = held (H.step ix) p (round B0 (H.offs (ix : Int)).toNat C P K) K) := Lib.hid (by
  rw [hF.held_eq hixl hal.2 hal.1 hC (by omega) hP]
  rfl)
 have HVA0 : Hid (∀ W A1 c1, Below w.heap.size w W → Calls Tryz.prog 88 #[ringV H ix A1 c1 fs n, .int .i64 p, .int .i64 (K : Int)] W fun e w' => ∃ v, e = .returned v ∧ OwnV W.heap.size w' v (seq S.now n H ix p K) ∧ Below W.heap.size W w') := Lib.hid fun W A1 c1 hb => by
  rw [HSEQ.out]
  exact values_any (A := A1) (cap := c1) (HRO.out.below hb) hF ix hixl p hal.2 (by omega) K C P hC hP (by omega)
 have HRE0 : Hid (∀ W A1 c1, Row W A1 H.l c1 → Calls Tryz.prog 86 #[fileV H A1 c1 fs n, .int .i64 (now - f)] W fun e w' => e = .returned (.int .i64 (ix : Int)) ∧ Below W.heap.size W w') := Lib.hid fun W A1 c1 hr => by
  have h := reaching_any (fs := fs) (n := n) hr hv (now - f)
  rw [show find H (now - f - 1) = (ix : Int) from fnd_some hix] at h
  exact h
 have HRG0 : Hid (∀ W A1 c1, Row W A1 H.l c1 → Calls Tryz.prog 42 #[fileV H A1 c1 fs n, .int .i64 (ix : Int)] W fun e w' => e = .returned (ringV H ix A1 c1 fs n) ∧ Below W.heap.size W w') := Lib.hid fun W A1 c1 hr => ring_any hr hv ix hixl
 have HSP0 : Hid (∀ W A1 c1, Row W A1 H.l c1 → Calls Tryz.prog 85 #[.agg #[.int .i64 H.ag, .int .i64 H.xf, .slice A1 H.l.length c1]] W fun e w' => e = .returned (.int .i64 H.span) ∧ Below W.heap.size W w') := Lib.hid fun W A1 c1 hr => spn_any _ _ _ A1 c1 W hr
 have HAF : Hid (∀ W, Calls Tryz.prog 87 #[.int .i64 f, .int .i64 (H.step ix)] W fun e w' => e = .returned (.int .i64 q') ∧ W = w') := Lib.hid fun W => by
  have h := align_any f (H.step ix) (by omega) W
  rw [h1] at h
  exact h
 have HAU : Hid (∀ W, Calls Tryz.prog 87 #[.int .i64 u, .int .i64 (H.step ix)] W fun e w' => e = .returned (.int .i64 (Sl.al u (H.step ix))) ∧ W = w') := Lib.hid fun W => align_any u (H.step ix) (by omega) W
 obtain ⟨au, hau⟩ : ∃ au, au = Sl.al u (H.step ix) := ⟨_, rfl⟩
 rw [← hau] at HAU htm h11 h12
 obtain ⟨lo, hlo⟩ : ∃ lo, now - H.span = lo := ⟨_, rfl⟩
 obtain ⟨m, hm⟩ : ∃ m, (if from_ < 0 then 0 else from_) = m := ⟨_, rfl⟩
 have hf2 : (if m < lo then lo else m) = f := by rw [hCL, hlo, ← hm]; split <;> split <;> omega
 have hwl : IntKind.i64.wrap lo = lo := IntWalk.i64_in _ (by omega)
 obtain ⟨d, hd⟩ : ∃ d, now - f = d := ⟨_, rfl⟩
 have hwd : IntKind.i64.wrap d = d := IntWalk.i64_in _ (by omega)
 obtain ⟨t1, t2, t3, t4⟩ : ¬ until_ < from_ ∧ ¬ now < from_ ∧ ¬ until_ < 0 ∧ ¬ until_ < lo := ⟨fun e => ht (.inl e), fun e => ht (.inr (.inl e)), fun e => ht (.inr (.inr (.inl e))), fun e => ht (.inr (.inr (.inr (by omega))))⟩
 rw [hd] at HRE0
 have hwst : IntKind.i64.wrap p = p := IntWalk.i64_in _ (by omega)
 obtain ⟨eu, heu⟩ : ∃ eu, au + H.step ix = eu := ⟨_, rfl⟩
 have hweu : IntKind.i64.wrap eu = eu := IntWalk.i64_in _ (by omega)
 rw [heu] at htm
 obtain ⟨df, hdf⟩ : ∃ df, eu - p = df := ⟨_, rfl⟩
 rw [hdf] at htm
 have hwdf : IntKind.i64.wrap df = df := IntWalk.i64_in _ (by omega)
 have hdf0 : 0 ≤ df := by
  have hm1 : f / H.step ix ≤ u / H.step ix := Int.ediv_le_ediv (by omega) (by omega)
  have e1 := Sl.al_mul n1 (by omega : 0 ≤ f)
  have e2 := Sl.al_mul n1 (by omega : 0 ≤ u)
  have := Int.mul_le_mul_of_nonneg_left hm1 (by omega : 0 ≤ H.step ix)
  rw [← e1, ← e2, h1, ← hau] at this
  omega
 obtain ⟨qd, hqd⟩ : ∃ qd, df.tdiv (H.step ix) = qd := ⟨_, rfl⟩
 rw [← Int.tdiv_eq_ediv_of_nonneg hdf0, hqd] at htm
 have hqd0 : 0 ≤ qd ∧ qd ≤ df := by
  rw [← hqd, Int.tdiv_eq_ediv_of_nonneg hdf0]
  exact ⟨Int.ediv_nonneg hdf0 (by omega), Int.ediv_le_self _ hdf0⟩
 have hwqd : IntKind.i64.wrap qd = qd := IntWalk.i64_in _ (by omega)
 have hKm := htm.1
 have hs0 : ¬ H.step ix = 0 := by omega
 have HLEN : Hid ((seq S.now n H ix p K).length = K) := Lib.hid (seq_len _ _ _ _ _ _)
 have HOP : Hid (∀ W, Below w.heap.size w W → Calls Tryz.prog 32 #[.pointer (some ⟨fs, 0, none⟩), .string ⟨n.toArray⟩] W fun e w' => ∃ A1 c1, e = .returned (.tuple #[.agg #[.int .i64 H.ag, .int .i64 H.xf, .slice A1 H.l.length c1, .pointer (some ⟨fs, 0, none⟩), .string ⟨n.toArray⟩], .int .i64 0]) ∧ Row w' A1 H.l c1 ∧ Below W.heap.size W w') := Lib.hid fun W hb => (HIN.out W hb).mono fun e w' h => by
  obtain ⟨A1, c1, p1, s1, rfl, hps, hrow, _, hb1⟩ := h
  obtain ⟨rfl, rfl⟩ := hps rfl
  exact ⟨A1, c1, rfl, hrow, hb1⟩
 unfold fileV ringV at *
 clear HIN HSEQ hP hal hC htm h3 h4 h5 h6 h7 h10 h11 h12 hcovb hix hCL ht HE4 hF hdf0 hqd0 cb1 cb2 cb3 hsb HH0 hau hf n3 n4
 generalize seq S.now n H ix p K = vs at *
 generalize hss : H.step ix = s at *
 generalize H.cnt ix = k at *
 generalize H.offs (ix : Int) = o at *
 generalize H.span = sp at *
 obtain ⟨hln, hN⟩ : ∃ N, N = H.l.length := ⟨_, rfl⟩
 have HNN := Lib.hid hN
 generalize H.ag = ag at *
 generalize H.xf = xf at *
 rw [← hN] at HVA0 HRE0 HRG0 HSP0 HOP hixl hlen
 obtain ⟨nb, hnb⟩ : ∃ nb : ByteArray, nb = ⟨n.toArray⟩ := ⟨_, rfl⟩
 rw [← hnb] at HVA0 HRE0 HRG0 HOP HCL ⊢
 have HNB := Lib.hid hnb
 clear hN hnb hss
 go_enter Tryz.func45, Tryz.ntmps45
 go_wp2_with first
  | (go_at_call 32; (with_reducible refine (HOP.out _ ((Below.refl _ _).alloc (Nat.le_refl _) _)).mono ?_); rintro e w1 ⟨A1, c1, rfl, hrow, hb1⟩; have hbb : Below (w.heap.size + 1) (w.alloc (.cells #[.string ⟨#[]⟩, .int .i64 0, .int .i64 0, .slice none 0 0, .int .i64 0] 106)) w1 := hb1.mono (by simp); have HB1 := Lib.hid hbb; have HROW := Lib.hid hrow; have hs1 := ser_below hbb; clear hb1 hrow hbb)
  | (go_at_call 33; ((with_reducible refine (HNW.out _).mono ?_); rintro e w' ⟨rfl, rfl⟩))
  | (go_at_call 85; (with_reducible refine (HSP0.out _ A1 c1 (HROW.out.below ((Below.refl _ _).alloc (Nat.le_refl _) _))).mono ?_); rintro e w2 ⟨rfl, hb2⟩; have HB2 := Lib.hid hb2; clear hb2)
 obtain ⟨x, hx⟩ : ∃ x, x = w1.heap.size := ⟨_, rfl⟩
 obtain ⟨q, hq⟩ : ∃ q, q = w.heap.size := ⟨_, rfl⟩
 have HX2 : Hid (Below (w.heap.size + 1) (w.alloc (.cells #[.string ⟨#[]⟩, .int .i64 0, .int .i64 0, .slice none 0 0, .int .i64 0] 106)) w2) := Lib.hid ((HB1.out.alloc hs1 _).trans (HB2.out.mono (by simp; omega)))
 have HRX : Hid (RowAt w2 x 84 #[.int .i64 ag, .int .i64 xf, .slice A1 hln c1, .pointer (some ⟨fs, 0, none⟩), .string nb]) := Lib.hid (by rw [hx]; exact (RowAt.new w1 _ _).below HB2.out (by simp))
 have HROW2 : Hid (Row w2 A1 H.l c1) := Lib.hid (HROW.out.below (((Below.refl _ _).alloc (Nat.le_refl _) _).trans (HB2.out.mono (by simp))))
 rw [← hx, ← hq]
 have HXQ := Lib.hid hx
 have HQW := Lib.hid hq
 clear hx hq HROW HB1 HB2
 obtain ⟨X, hXw⟩ : ∃ X, X = w2 := ⟨_, rfl⟩
 rw [← hXw]
 rw [← hXw] at HX2 HRX HROW2
 clear hXw
 have HF : Hid (∀ W, Below X.heap.size X W → W.cell? ⟨x, 0, none⟩ = some (.int .i64 ag) ∧ W.cell? ⟨x, 1, none⟩ = some (.int .i64 xf) ∧ W.cell? ⟨x, 2, none⟩ = some (.slice A1 hln c1) ∧ W.cell? ⟨x, 3, none⟩ = some (.pointer (some ⟨fs, 0, none⟩)) ∧ W.cell? ⟨x, 4, none⟩ = some (.string nb)) := Lib.hid fun W hb => by
  have k1 := HRX.out.below hb HRX.out.lt
  exact ⟨k1.cell 0, k1.cell 1, k1.cell 2, k1.cell 3, k1.cell 4⟩
 have HRE : Hid (∀ W, Below X.heap.size X W → Calls Tryz.prog 86 #[.agg #[.int .i64 ag, .int .i64 xf, .slice A1 hln c1, .pointer (some ⟨fs, 0, none⟩), .string nb], .int .i64 d] W fun e w' => e = .returned (.int .i64 (ix : Int)) ∧ Below W.heap.size W w') := Lib.hid fun W hb => HRE0.out W A1 c1 (HROW2.out.below hb)
 have HRG : Hid (∀ W, Below X.heap.size X W → Calls Tryz.prog 42 #[.agg #[.int .i64 ag, .int .i64 xf, .slice A1 hln c1, .pointer (some ⟨fs, 0, none⟩), .string nb], .int .i64 (ix : Int)] W fun e w' => e = .returned (.agg #[.int .i64 s, .int .i64 k, .int .i64 ag, .int .i64 xf, .slice A1 hln c1, .pointer (some ⟨fs, 0, none⟩), .string nb, .int .i64 o]) ∧ Below W.heap.size W w') := Lib.hid fun W hb => HRG0.out W A1 c1 (HROW2.out.below hb)
 generalize decide (until_ < from_) = bb3 at *
 generalize decide (now < from_) = bb4 at *
 generalize decide (until_ < 0) = bb5 at *
 generalize decide (until_ < lo) = bb6 at *
 refine Inv.region_tail 8 8 (fun W W' => Below W.heap.size W W') (fun i v W => match i with
  | 0 => v = .agg #[.int .i64 ag, .int .i64 xf, .slice A1 hln c1, .pointer (some ⟨fs, 0, none⟩), .string nb]
  | 1 => v = .agg #[.int .i64 ag, .int .i64 xf, .slice A1 hln c1, .pointer (some ⟨fs, 0, none⟩), .string nb]
  | 2 => v = .int .i64 now
  | 3 => v = .int .i64 f
  | 4 => v = .int .i64 d
  | 5 => v = .int .i64 (ix : Int)
  | 6 => v = .agg #[.int .i64 s, .int .i64 k, .int .i64 ag, .int .i64 xf, .slice A1 hln c1, .pointer (some ⟨fs, 0, none⟩), .string nb, .int .i64 o]
  | 7 => ∃ r, v = .pointer (some ⟨r, 0, none⟩) ∧ X.heap.size ≤ r ∧ RowAt W r 100 #[.int .i64 0, .int .i64 0, .int .i64 0, .int .i64 0, .slice none 0 0, .pointer none, .string ⟨#[]⟩, .int .i64 0]
  | _ => True) (by kernel_rfl) (by kernel_rfl) (by kernel_rfl) (by kernel_rfl) (fun W => Below.refl _ _) (fun a b c h k => h.trans (k.mono h.size)) (fun i v W W' h he => ?stab) ?obls ?fin
 case stab =>
  match i, h with
  | 0, h => exact h
  | 1, h => exact h
  | 2, h => exact h
  | 3, h => exact h
  | 4, h => exact h
  | 5, h => exact h
  | 6, h => exact h
  | 7, h => exact (by obtain ⟨r, e, h1, h2⟩ := h; exact ⟨r, e, h1, h2.below (show Below _ _ _ from ⟨he.os, he.tape, he.output, he.size, he.block⟩) h2.lt⟩)
  | _ + 8, h => exact h
 case obls =>
  refine .cons ?_ (.cons ?_ (.cons ?_ (.cons ?_ (.cons ?_ (.cons ?_ (.cons ?_ (.cons ?_ .nil)))))))
  ·intro ac wx hE hf hd
   have hB : Below X.heap.size X wx := ⟨hE.1,hE.2,hE.3,hE.4,hE.5⟩
   rw [if_pos (Inv.want0 rfl _)]
   have h12 : ac.eval (.tmp 12) = .pointer (some ⟨x, 0, none⟩) := hf 12 (by kernel_rfl)
   clear hf hd
   obtain ⟨a0, a1, a2, a3, a4⟩ := HF.out wx hB
   refine Inv.val (.agg #[.int .i64 ag, .int .i64 xf, .slice A1 hln c1, .pointer (some ⟨fs, 0, none⟩), .string nb]) ?_ rfl rfl (Below.refl _ _)
   clear hE hB HF HRE HRG
   generalize ac.eval = ev at *
   simp [execOp, go_sem, *]
  ·intro ac wx hE hf hd
   have hB : Below X.heap.size X wx := ⟨hE.1,hE.2,hE.3,hE.4,hE.5⟩
   rw [if_pos (Inv.want0 rfl _)]
   have h12 : ac.eval (.tmp 12) = .pointer (some ⟨x, 0, none⟩) := hf 12 (by kernel_rfl)
   clear hf hd
   obtain ⟨a0, a1, a2, a3, a4⟩ := HF.out wx hB
   refine Inv.val (.agg #[.int .i64 ag, .int .i64 xf, .slice A1 hln c1, .pointer (some ⟨fs, 0, none⟩), .string nb]) ?_ rfl rfl (Below.refl _ _)
   clear hE hB HF HRE HRG
   generalize ac.eval = ev at *
   simp [execOp, go_sem, *]
  ·intro ac wx hE hf hd
   have hB : Below X.heap.size X wx := ⟨hE.1,hE.2,hE.3,hE.4,hE.5⟩
   rw [if_pos (Inv.want0 rfl _)]
   have h2 : ac.eval (.tmp 2) = .int .i64 now := hf 2 (by kernel_rfl)
   clear hf hd
   refine Inv.val (.int .i64 now) ?_ rfl rfl (Below.refl _ _)
   clear hE hB
   generalize ac.eval = ev at *
   simp [execOp, go_sem, *]
  ·intro ac wx hE hf hd
   have hB : Below X.heap.size X wx := ⟨hE.1,hE.2,hE.3,hE.4,hE.5⟩
   rw [if_pos (Inv.want0 rfl _)]
   have h3 : ac.eval (.tmp 3) = .int .i64 f := hf 3 (by kernel_rfl)
   clear hf hd
   refine Inv.val (.int .i64 f) ?_ rfl rfl (Below.refl _ _)
   clear hE hB
   generalize ac.eval = ev at *
   simp [execOp, go_sem, *]
  ·intro ac wx hE hf hd
   have hB : Below X.heap.size X wx := ⟨hE.1,hE.2,hE.3,hE.4,hE.5⟩
   rw [if_pos (Inv.want0 rfl _)]
   have h64 := hd 2 _ (by kernel_rfl) rfl
   change ac.eval (.tmp 64) = .int .i64 now at h64
   have h65 := hd 3 _ (by kernel_rfl) rfl
   change ac.eval (.tmp 65) = .int .i64 f at h65
   clear hf hd
   refine Inv.val (.int .i64 d) ?_ rfl rfl (Below.refl _ _)
   clear hE hB HF HRE HRG
   have hcst : ∀ v, ac.eval (.const v) = v := fun _ => rfl
   generalize ac.eval = ev at *
   simp [execOp, go_sem, *]
  ·intro ac wx hE hf hd
   have hB : Below X.heap.size X wx := ⟨hE.1,hE.2,hE.3,hE.4,hE.5⟩
   rw [if_pos (Inv.want0 rfl _)]
   have h63 := hd 1 _ (by kernel_rfl) rfl
   change ac.eval (.tmp 63) = .agg #[.int .i64 ag, .int .i64 xf, .slice A1 hln c1, .pointer (some ⟨fs, 0, none⟩), .string nb] at h63
   have h66 := hd 4 _ (by kernel_rfl) rfl
   change ac.eval (.tmp 66) = .int .i64 d at h66
   clear hf hd
   refine Inv.go (f := 86) (xs := #[.agg #[.int .i64 ag, .int .i64 xf, .slice A1 hln c1, .pointer (some ⟨fs, 0, none⟩), .string nb], .int .i64 d]) ?_ rfl ?_
   ·clear hE hB HF HRE HRG
    have hfn : ac.eval (.func 86) = .func (.func 86) #[] #[] := rfl
    generalize ac.eval = ev at *
    simp [execOp, go_sem, *]
   ·exact (HRE.out wx hB).mono fun e w' ⟨he, hb⟩ => ⟨_, he, rfl, hb⟩
  ·intro ac wx hE hf hd
   have hB : Below X.heap.size X wx := ⟨hE.1,hE.2,hE.3,hE.4,hE.5⟩
   rw [if_pos (Inv.want0 rfl _)]
   have h62 := hd 0 _ (by kernel_rfl) rfl
   change ac.eval (.tmp 62) = .agg #[.int .i64 ag, .int .i64 xf, .slice A1 hln c1, .pointer (some ⟨fs, 0, none⟩), .string nb] at h62
   have h67 := hd 5 _ (by kernel_rfl) rfl
   change (fun v W => v = .int .i64 (ix : Int)) (ac.eval (.tmp 67)) wx at h67
   try dsimp only at h67
   clear hf hd
   refine Inv.go (f := 42) (xs := #[.agg #[.int .i64 ag, .int .i64 xf, .slice A1 hln c1, .pointer (some ⟨fs, 0, none⟩), .string nb], .int .i64 (ix : Int)]) ?_ rfl ?_
   ·clear hE hB HF HRE HRG
    have hfn : ac.eval (.func 42) = .func (.func 42) #[] #[] := rfl
    generalize ac.eval = ev at *
    simp [execOp, go_sem, *]
   ·exact (HRG.out wx hB).mono fun e w' ⟨he, hb⟩ => ⟨_, he, rfl, hb⟩
  ·intro ac wx hE hf hd
   have hB : Below X.heap.size X wx := ⟨hE.1,hE.2,hE.3,hE.4,hE.5⟩
   rw [if_pos (Inv.want0 rfl _)]
   clear hf hd
   refine Inv.val (.pointer (some ⟨wx.heap.size, 0, none⟩)) (w' := wx.alloc (.cells #[.int .i64 0, .int .i64 0, .int .i64 0, .int .i64 0, .slice none 0 0, .pointer none, .string ⟨#[]⟩, .int .i64 0] 100)) ?_ rfl ⟨_, rfl, hB.size, RowAt.new _ _ _⟩ ((Below.refl _ _).alloc (Nat.le_refl _) _)
   clear hE hB HF HRE HRG
   generalize ac.eval = ev at *
   simp [execOp, go_sem, *]
 case fin =>
  intro ac wx hE ha hall
  have hB : Below X.heap.size X wx := ⟨hE.1,hE.2,hE.3,hE.4,hE.5⟩
  have h62 := hall 0 _ (by decide) rfl
  change ac.eval (.tmp 62) = .agg #[.int .i64 ag, .int .i64 xf, .slice A1 hln c1, .pointer (some ⟨fs, 0, none⟩), .string nb] at h62
  have h63 := hall 1 _ (by decide) rfl
  change ac.eval (.tmp 63) = .agg #[.int .i64 ag, .int .i64 xf, .slice A1 hln c1, .pointer (some ⟨fs, 0, none⟩), .string nb] at h63
  have h64 := hall 2 _ (by decide) rfl
  change ac.eval (.tmp 64) = .int .i64 now at h64
  have h65 := hall 3 _ (by decide) rfl
  change ac.eval (.tmp 65) = .int .i64 f at h65
  have h66 := hall 4 _ (by decide) rfl
  change ac.eval (.tmp 66) = .int .i64 d at h66
  have h67 := hall 5 _ (by decide) rfl
  change (fun v W => v = .int .i64 (ix : Int)) (ac.eval (.tmp 67)) wx at h67
  try dsimp only at h67
  generalize hv67 : ac.eval (.tmp 67) = v67 at *
  have h68 := hall 6 _ (by decide) rfl
  change (fun v W => v = .agg #[.int .i64 s, .int .i64 k, .int .i64 ag, .int .i64 xf, .slice A1 hln c1, .pointer (some ⟨fs, 0, none⟩), .string nb, .int .i64 o]) (ac.eval (.tmp 68)) wx at h68
  try dsimp only at h68
  generalize hv68 : ac.eval (.tmp 68) = v68 at *
  have h15 := hall 7 _ (by decide) rfl
  change (fun v W => ∃ r, v = .pointer (some ⟨r, 0, none⟩) ∧ X.heap.size ≤ r ∧ RowAt W r 100 #[.int .i64 0, .int .i64 0, .int .i64 0, .int .i64 0, .slice none 0 0, .pointer none, .string ⟨#[]⟩, .int .i64 0]) (ac.eval (.tmp 15)) wx at h15
  try dsimp only at h15
  generalize hv15 : ac.eval (.tmp 15) = v15 at *
  simp only [List.take_succ_cons, List.take_zero, List.foldl, Inv.slot, Act.put] at ha
  change ac.tmps.getD 62 undef = _ at h62
  change ac.tmps.getD 63 undef = _ at h63
  change ac.tmps.getD 64 undef = _ at h64
  change ac.tmps.getD 65 undef = _ at h65
  change ac.tmps.getD 66 undef = _ at h66
  change ac.tmps.getD 67 undef = _ at hv67
  change ac.tmps.getD 68 undef = _ at hv68
  change ac.tmps.getD 15 undef = _ at hv15
  simp only [h62, h63, h64, h65, h66, hv67, hv68, hv15, List.setIfInBounds_toArray, List.set_cons_zero, List.set_cons_succ] at ha
  clear h62 h63 h64 h65 h66 hv67 hv68 hv15 hall hE
  subst ha
  simp only [List.drop_succ_cons, List.drop_zero]
  subst h67 h68
  obtain ⟨r, rfl, hr1, hrow1⟩ := h15
  have HQR : Hid (w.heap.size + 1 ≤ r) := Lib.hid (by have := HX2.out.size; simp at this; omega)
  have hy1 : RowAt ((((((((wx.setCell ⟨r, 0, none⟩ (.int .i64 s)).setCell ⟨r, 1, none⟩ (.int .i64 k)).setCell ⟨r, 2, none⟩ (.int .i64 ag)).setCell ⟨r, 3, none⟩ (.int .i64 xf)).setCell ⟨r, 4, none⟩ (.slice A1 hln c1)).setCell ⟨r, 5, none⟩ (.pointer (some ⟨fs, 0, none⟩))).setCell ⟨r, 6, none⟩ (.string nb)).setCell ⟨r, 7, none⟩ (.int .i64 o)) r 100 #[.int .i64 s, .int .i64 k, .int .i64 ag, .int .i64 xf, .slice A1 hln c1, .pointer (some ⟨fs, 0, none⟩), .string nb, .int .i64 o] := row_set8 hrow1
  have hyB : Below X.heap.size X ((((((((wx.setCell ⟨r, 0, none⟩ (.int .i64 s)).setCell ⟨r, 1, none⟩ (.int .i64 k)).setCell ⟨r, 2, none⟩ (.int .i64 ag)).setCell ⟨r, 3, none⟩ (.int .i64 xf)).setCell ⟨r, 4, none⟩ (.slice A1 hln c1)).setCell ⟨r, 5, none⟩ (.pointer (some ⟨fs, 0, none⟩))).setCell ⟨r, 6, none⟩ (.string nb)).setCell ⟨r, 7, none⟩ (.int .i64 o)) := below_set8 hB hr1
  have y0 := hrow1.cell 0
  have y1 := hrow1.cell 1
  have y2 := hrow1.cell 2
  have y3 := hrow1.cell 3
  have y4 := hrow1.cell 4
  have y5 := hrow1.cell 5
  have y6 := hrow1.cell 6
  have y7 := hrow1.cell 7
  have fz1 := fun i => hrow1.frozen i
  have hl1 := hrow1.lt
  simp only [List.getElem?_toArray, List.getElem?_cons_succ, List.getElem?_cons_zero] at y0 y1 y2 y3 y4 y5 y6 y7
  clear HRE HRG HF hrow1 hB
  go_wp2_with fail
  clear y0 y1 y2 y3 y4 y5 y6 y7 fz1 hl1
  generalize ((((((((wx.setCell ⟨r, 0, none⟩ (.int .i64 s)).setCell ⟨r, 1, none⟩ (.int .i64 k)).setCell ⟨r, 2, none⟩ (.int .i64 ag)).setCell ⟨r, 3, none⟩ (.int .i64 xf)).setCell ⟨r, 4, none⟩ (.slice A1 hln c1)).setCell ⟨r, 5, none⟩ (.pointer (some ⟨fs, 0, none⟩))).setCell ⟨r, 6, none⟩ (.string nb)).setCell ⟨r, 7, none⟩ (.int .i64 o)) = Z at *
  have HZ : Hid (Below (w.heap.size + 1) (w.alloc (.cells #[.string ⟨#[]⟩, .int .i64 0, .int .i64 0, .slice none 0 0, .int .i64 0] 106)) Z) := Lib.hid (HX2.out.trans (hyB.mono (by have := HX2.out.size; simp at this; omega)))
  have HRZ := Lib.hid hy1
  have e0 : Z.cell? ⟨r, 0, none⟩ = some (.int .i64 s) := hy1.cell 0
  have hrl := hy1.lt
  have HAF' : Hid (∀ W, Calls Tryz.prog 87 #[.int .i64 f, .int .i64 s] W fun e w' => e = .returned (.int .i64 q') ∧ Below W.heap.size W w') := Lib.hid fun W => (HAF.out W).mono fun e w' ⟨h1, h2⟩ => ⟨h1, h2 ▸ Below.refl _ _⟩
  have HAU' : Hid (∀ W, Calls Tryz.prog 87 #[.int .i64 u, .int .i64 s] W fun e w' => e = .returned (.int .i64 au) ∧ Below W.heap.size W w') := Lib.hid fun W => (HAU.out W).mono fun e w' ⟨h1, h2⟩ => ⟨h1, h2 ▸ Below.refl _ _⟩
  obtain ⟨kc, kf⟩ := kgrown Z
  clear hy1 hyB HAF HAU
  refine wp_region_quiet_below (by kernel_rfl) (by kernel_rfl) ?_
  repeat (go_big_quiet_step (first
   | (go_at_call 87; exact Calls.regrown_of (HAF'.out _))))
  refine wpQuiet_nil ?_
  intro _ hw'
  obtain ⟨⟨dq, osq⟩, hw''⟩ := hw'
  subst hw''
  go_wp2_with fail
  obtain ⟨Z2, hZ2⟩ : ∃ Z2, Z2 = Go.Sort.grow (redrawn Z dq) osq := ⟨_, rfl⟩
  have hBz : Below Z.heap.size Z Z2 := by rw [hZ2]; exact below_regrown _ _ _
  rw [← hZ2]
  have HZ2 := Lib.hid (HZ.out.trans (hBz.mono (ser_below HZ.out)))
  have HRZ2 := Lib.hid (HRZ.out.below hBz hrl)
  have e1 : Z2.cell? ⟨r, 0, none⟩ = some (.int .i64 s) := HRZ2.out.cell 0
  have hrl2 := HRZ2.out.lt
  clear hBz hZ2 e0 kc kf HZ HRZ hrl
  obtain ⟨kc, kf⟩ := kgrown Z2
  refine wp_region_quiet_below (by kernel_rfl) (by kernel_rfl) ?_
  repeat (go_big_quiet_step (first
   | (go_at_call 87; exact Calls.regrown_of (HAU'.out _))))
  refine wpQuiet_nil ?_
  intro _ hw'
  obtain ⟨⟨dq2, osq2⟩, hw''⟩ := hw'
  subst hw''
  obtain ⟨Y, hY⟩ : ∃ Y, Y = Go.Sort.grow (redrawn Z2 dq2) osq2 := ⟨_, rfl⟩
  have hBy : Below Z2.heap.size Z2 Y := by rw [hY]; exact below_regrown _ _ _
  rw [← hY]
  have HY := Lib.hid (HZ2.out.trans (hBy.mono (ser_below HZ2.out)))
  have HRY := Lib.hid (HRZ2.out.below hBy hrl2)
  have e2 : Y.cell? ⟨r, 0, none⟩ = some (.int .i64 s) := HRY.out.cell 0
  have hrl3 := HRY.out.lt
  clear hBy hY e1 kc kf HZ2 HRZ2 hrl2
  go_wp2_with fail
  have HFY : Hid (∀ W, Below Y.heap.size Y W → W.cell? ⟨r, 0, none⟩ = some (.int .i64 s) ∧ W.cell? ⟨r, 1, none⟩ = some (.int .i64 k) ∧ W.cell? ⟨r, 2, none⟩ = some (.int .i64 ag) ∧ W.cell? ⟨r, 3, none⟩ = some (.int .i64 xf) ∧ W.cell? ⟨r, 4, none⟩ = some (.slice A1 hln c1) ∧ W.cell? ⟨r, 5, none⟩ = some (.pointer (some ⟨fs, 0, none⟩)) ∧ W.cell? ⟨r, 6, none⟩ = some (.string nb) ∧ W.cell? ⟨r, 7, none⟩ = some (.int .i64 o)) := Lib.hid fun W hb => by
   have k1 := HRY.out.below hb HRY.out.lt
   exact ⟨k1.cell 0, k1.cell 1, k1.cell 2, k1.cell 3, k1.cell 4, k1.cell 5, k1.cell 6, k1.cell 7⟩
  have HVA : Hid (∀ W, Below Y.heap.size Y W → Calls Tryz.prog 88 #[.agg #[.int .i64 s, .int .i64 k, .int .i64 ag, .int .i64 xf, .slice A1 hln c1, .pointer (some ⟨fs, 0, none⟩), .string nb, .int .i64 o], .int .i64 p, .int .i64 (K : Int)] W fun e w' => ∃ v, e = .returned v ∧ OwnV (w.heap.size + 1) w' v vs ∧ Below W.heap.size W w') := Lib.hid fun W hb => by
   have hbs : w.heap.size + 1 ≤ W.heap.size := Nat.le_trans (ser_below HY.out) hb.size
   have hbw : Below w.heap.size w W := lowBox' (HY.out.trans (hb.mono (ser_below HY.out)))
   refine (HVA0.out W A1 c1 hbw).mono fun e w' ⟨v, h1, h2, h3⟩ => ⟨v, h1, ⟨h2.1, ?_⟩, h3⟩
   rcases h2.2 with h | ⟨g, cap, cur, e, hb', rest⟩
   ·exact .inl h
   ·exact .inr ⟨g, cap, cur, e, Nat.le_trans hbs hb', rest⟩
  have HB0 := Lib.hid HY.out
  clear e2 hrl3
  refine Inv.region_tail 11 8 (fun W W' => Below W.heap.size W W') (fun i v W => match i with
   | 0 => v = .string nb
   | 1 => v = .string nb
   | 2 => v = .int .i64 p
   | 3 => v = .pointer (some ⟨r, 0, none⟩)
   | 4 => v = .pointer (some ⟨r, 0, none⟩)
   | 5 => v = .int .i64 s
   | 6 => v = .agg #[.int .i64 s, .int .i64 k, .int .i64 ag, .int .i64 xf, .slice A1 hln c1, .pointer (some ⟨fs, 0, none⟩), .string nb, .int .i64 o]
   | 7 => v = .int .i64 p
   | 8 => v = .int .i64 (K : Int)
   | 9 => OwnV (w.heap.size + 1) W v vs
   | 10 => ∃ A' c', v = .agg #[.string nb, .int .i64 p, .int .i64 s, .slice A' vs.length c', .int .i64 0] ∧ OwnV (w.heap.size + 1) W (.slice A' vs.length c') vs
   | _ => True) (by kernel_rfl) (by kernel_rfl) (by kernel_rfl) (by kernel_rfl) (fun W => Below.refl _ _) (fun a b c h k => h.trans (k.mono h.size)) (fun i v W W' h he => ?stab) ?obls ?fin
  case stab =>
   match i, h with
   | 0, h => exact h
   | 1, h => exact h
   | 2, h => exact h
   | 3, h => exact h
   | 4, h => exact h
   | 5, h => exact h
   | 6, h => exact h
   | 7, h => exact h
   | 8, h => exact h
   | 9, h => exact OwnV.below h (show Below _ _ _ from ⟨he.os, he.tape, he.output, he.size, he.block⟩)
   | 10, h => exact (by obtain ⟨A', c', e, h1⟩ := h; exact ⟨A', c', e, OwnV.below h1 (show Below _ _ _ from ⟨he.os, he.tape, he.output, he.size, he.block⟩)⟩)
   | _ + 11, h => exact h
  case obls =>
   refine .cons ?_ (.cons ?_ (.cons ?_ (.cons ?_ (.cons ?_ (.cons ?_ (.cons ?_ (.cons ?_ (.cons ?_ (.cons ?_ (.cons ?_ .nil))))))))))
   ·intro ac wx hE hf hd
    have hB : Below Y.heap.size Y wx := ⟨hE.1,hE.2,hE.3,hE.4,hE.5⟩
    rw [if_pos (Inv.want0 rfl _)]
    have h1 : ac.eval (.tmp 1) = .string nb := hf 1 (by kernel_rfl)
    clear hf hd
    refine Inv.val (.string nb) ?_ rfl rfl (Below.refl _ _)
    clear hE hB
    generalize ac.eval = ev at *
    simp [execOp, go_sem, *]
   ·intro ac wx hE hf hd
    have hB : Below Y.heap.size Y wx := ⟨hE.1,hE.2,hE.3,hE.4,hE.5⟩
    rw [if_pos (Inv.want0 rfl _)]
    have h95 := hd 0 _ (by kernel_rfl) rfl
    change ac.eval (.tmp 95) = .string nb at h95
    clear hf hd
    refine Inv.go (f := 63) (xs := #[.string nb]) ?_ rfl ?_
    ·clear hE hB HFY HCL HVA
     have hfn : ac.eval (.func 63) = .func (.func 63) #[] #[] := rfl
     generalize ac.eval = ev at *
     simp [execOp, go_sem, *]
    ·exact (HCL.out wx).mono fun e w' ⟨he, hb⟩ => ⟨_, he, rfl, hb⟩
   ·intro ac wx hE hf hd
    have hB : Below Y.heap.size Y wx := ⟨hE.1,hE.2,hE.3,hE.4,hE.5⟩
    rw [if_pos (Inv.want0 rfl _)]
    have h16 : ac.eval (.tmp 16) = .int .i64 p := hf 16 (by kernel_rfl)
    clear hf hd
    refine Inv.val (.int .i64 p) ?_ rfl rfl (Below.refl _ _)
    clear hE hB
    generalize ac.eval = ev at *
    simp [execOp, go_sem, *]
   ·intro ac wx hE hf hd
    have hB : Below Y.heap.size Y wx := ⟨hE.1,hE.2,hE.3,hE.4,hE.5⟩
    rw [if_pos (Inv.want0 rfl _)]
    have h15 : ac.eval (.tmp 15) = .pointer (some ⟨r, 0, none⟩) := hf 15 (by kernel_rfl)
    clear hf hd
    refine Inv.val (.pointer (some ⟨r, 0, none⟩)) ?_ rfl rfl (Below.refl _ _)
    clear hE hB HFY HCL HVA
    have hcst : ∀ v, ac.eval (.const v) = v := fun _ => rfl
    generalize ac.eval = ev at *
    simp [execOp, go_sem, *]
   ·intro ac wx hE hf hd
    have hB : Below Y.heap.size Y wx := ⟨hE.1,hE.2,hE.3,hE.4,hE.5⟩
    rw [if_pos (Inv.want0 rfl _)]
    have h98 := hd 3 _ (by kernel_rfl) rfl
    change ac.eval (.tmp 98) = .pointer (some ⟨r, 0, none⟩) at h98
    clear hf hd
    refine Inv.val (.pointer (some ⟨r, 0, none⟩)) ?_ rfl rfl (Below.refl _ _)
    clear hE hB HFY HCL HVA
    have hcst : ∀ v, ac.eval (.const v) = v := fun _ => rfl
    generalize ac.eval = ev at *
    simp [execOp, go_sem, *]
   ·intro ac wx hE hf hd
    have hB : Below Y.heap.size Y wx := ⟨hE.1,hE.2,hE.3,hE.4,hE.5⟩
    rw [if_pos (Inv.want0 rfl _)]
    have h99 := hd 4 _ (by kernel_rfl) rfl
    change ac.eval (.tmp 99) = .pointer (some ⟨r, 0, none⟩) at h99
    clear hf hd
    obtain ⟨a0, a1, a2, a3, a4, a5, a6, a7⟩ := HFY.out wx hB
    refine Inv.val (.int .i64 s) ?_ rfl rfl (Below.refl _ _)
    clear hE hB HFY HCL HVA
    generalize ac.eval = ev at *
    simp [execOp, go_sem, *]
   ·intro ac wx hE hf hd
    have hB : Below Y.heap.size Y wx := ⟨hE.1,hE.2,hE.3,hE.4,hE.5⟩
    rw [if_pos (Inv.want0 rfl _)]
    have h15 : ac.eval (.tmp 15) = .pointer (some ⟨r, 0, none⟩) := hf 15 (by kernel_rfl)
    clear hf hd
    obtain ⟨a0, a1, a2, a3, a4, a5, a6, a7⟩ := HFY.out wx hB
    refine Inv.val (.agg #[.int .i64 s, .int .i64 k, .int .i64 ag, .int .i64 xf, .slice A1 hln c1, .pointer (some ⟨fs, 0, none⟩), .string nb, .int .i64 o]) ?_ rfl rfl (Below.refl _ _)
    clear hE hB HFY HCL HVA
    generalize ac.eval = ev at *
    simp [execOp, go_sem, *]
   ·intro ac wx hE hf hd
    have hB : Below Y.heap.size Y wx := ⟨hE.1,hE.2,hE.3,hE.4,hE.5⟩
    rw [if_pos (Inv.want0 rfl _)]
    have h16 : ac.eval (.tmp 16) = .int .i64 p := hf 16 (by kernel_rfl)
    clear hf hd
    refine Inv.val (.int .i64 p) ?_ rfl rfl (Below.refl _ _)
    clear hE hB
    generalize ac.eval = ev at *
    simp [execOp, go_sem, *]
   ·intro ac wx hE hf hd
    have hB : Below Y.heap.size Y wx := ⟨hE.1,hE.2,hE.3,hE.4,hE.5⟩
    rw [if_pos (Inv.want0 rfl _)]
    have h18 : ac.eval (.tmp 18) = .int .i64 (K : Int) := hf 18 (by kernel_rfl)
    clear hf hd
    refine Inv.val (.int .i64 (K : Int)) ?_ rfl rfl (Below.refl _ _)
    clear hE hB
    generalize ac.eval = ev at *
    simp [execOp, go_sem, *]
   ·intro ac wx hE hf hd
    have hB : Below Y.heap.size Y wx := ⟨hE.1,hE.2,hE.3,hE.4,hE.5⟩
    rw [if_pos (Inv.want0 rfl _)]
    have h101 := hd 6 _ (by kernel_rfl) rfl
    change ac.eval (.tmp 101) = .agg #[.int .i64 s, .int .i64 k, .int .i64 ag, .int .i64 xf, .slice A1 hln c1, .pointer (some ⟨fs, 0, none⟩), .string nb, .int .i64 o] at h101
    have h102 := hd 7 _ (by kernel_rfl) rfl
    change ac.eval (.tmp 102) = .int .i64 p at h102
    have h103 := hd 8 _ (by kernel_rfl) rfl
    change ac.eval (.tmp 103) = .int .i64 (K : Int) at h103
    clear hf hd
    refine Inv.go (f := 88) (xs := #[.agg #[.int .i64 s, .int .i64 k, .int .i64 ag, .int .i64 xf, .slice A1 hln c1, .pointer (some ⟨fs, 0, none⟩), .string nb, .int .i64 o], .int .i64 p, .int .i64 (K : Int)]) ?_ rfl ?_
    ·clear hE hB HFY HCL HVA
     have hfn : ac.eval (.func 88) = .func (.func 88) #[] #[] := rfl
     generalize ac.eval = ev at *
     simp [execOp, go_sem, *]
    ·exact (HVA.out wx hB).mono fun e w' ⟨u, he, ho, hb⟩ => ⟨u, he, ho, hb⟩
   ·intro ac wx hE hf hd
    have hB : Below Y.heap.size Y wx := ⟨hE.1,hE.2,hE.3,hE.4,hE.5⟩
    rw [if_pos (Inv.want0 rfl _)]
    have h96 := hd 1 _ (by kernel_rfl) rfl
    change (fun v W => v = .string nb) (ac.eval (.tmp 96)) wx at h96
    try dsimp only at h96
    have h97 := hd 2 _ (by kernel_rfl) rfl
    change ac.eval (.tmp 97) = .int .i64 p at h97
    have h100 := hd 5 _ (by kernel_rfl) rfl
    change ac.eval (.tmp 100) = .int .i64 s at h100
    have h104 := hd 9 _ (by kernel_rfl) rfl
    change (fun v W => OwnV (w.heap.size + 1) W v vs) (ac.eval (.tmp 104)) wx at h104
    try dsimp only at h104
    clear hf hd
    obtain ⟨u104, hu104⟩ : ∃ u, u = ac.eval (.tmp 104) := ⟨_, rfl⟩
    rw [← hu104] at h104
    obtain ⟨A104, c104, hq104⟩ := h104.slice
    have h104' : ac.eval (.tmp 104) = .slice A104 vs.length c104 := by rw [← hu104]; exact hq104
    have hown : OwnV (w.heap.size + 1) wx (.slice A104 vs.length c104) vs := by rw [← hq104]; exact h104
    refine Inv.val (.agg #[.string nb, .int .i64 p, .int .i64 s, .slice A104 vs.length c104, .int .i64 0]) ?_ rfl ⟨A104, c104, rfl, hown⟩ (Below.refl _ _)
    clear hE hB HFY HCL HVA h104 hu104 hq104 hown
    generalize ac.eval = ev at *
    simp [execOp, go_sem, *]
  case fin =>
   intro ac wx hE ha hall
   have hB : Below Y.heap.size Y wx := ⟨hE.1,hE.2,hE.3,hE.4,hE.5⟩
   have h95 := hall 0 _ (by decide) rfl
   change ac.eval (.tmp 95) = .string nb at h95
   have h96 := hall 1 _ (by decide) rfl
   change (fun v W => v = .string nb) (ac.eval (.tmp 96)) wx at h96
   try dsimp only at h96
   generalize hv96 : ac.eval (.tmp 96) = v96 at *
   have h97 := hall 2 _ (by decide) rfl
   change ac.eval (.tmp 97) = .int .i64 p at h97
   have h98 := hall 3 _ (by decide) rfl
   change ac.eval (.tmp 98) = .pointer (some ⟨r, 0, none⟩) at h98
   have h99 := hall 4 _ (by decide) rfl
   change ac.eval (.tmp 99) = .pointer (some ⟨r, 0, none⟩) at h99
   have h100 := hall 5 _ (by decide) rfl
   change ac.eval (.tmp 100) = .int .i64 s at h100
   have h101 := hall 6 _ (by decide) rfl
   change ac.eval (.tmp 101) = .agg #[.int .i64 s, .int .i64 k, .int .i64 ag, .int .i64 xf, .slice A1 hln c1, .pointer (some ⟨fs, 0, none⟩), .string nb, .int .i64 o] at h101
   have h102 := hall 7 _ (by decide) rfl
   change ac.eval (.tmp 102) = .int .i64 p at h102
   have h103 := hall 8 _ (by decide) rfl
   change ac.eval (.tmp 103) = .int .i64 (K : Int) at h103
   have h104 := hall 9 _ (by decide) rfl
   change (fun v W => OwnV (w.heap.size + 1) W v vs) (ac.eval (.tmp 104)) wx at h104
   try dsimp only at h104
   generalize hv104 : ac.eval (.tmp 104) = v104 at *
   have h105 := hall 10 _ (by decide) rfl
   change (fun v W => ∃ A' c', v = .agg #[.string nb, .int .i64 p, .int .i64 s, .slice A' vs.length c', .int .i64 0] ∧ OwnV (w.heap.size + 1) W (.slice A' vs.length c') vs) (ac.eval (.tmp 105)) wx at h105
   try dsimp only at h105
   generalize hv105 : ac.eval (.tmp 105) = v105 at *
   simp only [List.take_succ_cons, List.take_zero, List.foldl, Inv.slot, Act.put] at ha
   change ac.tmps.getD 95 undef = _ at h95
   change ac.tmps.getD 96 undef = _ at hv96
   change ac.tmps.getD 97 undef = _ at h97
   change ac.tmps.getD 98 undef = _ at h98
   change ac.tmps.getD 99 undef = _ at h99
   change ac.tmps.getD 100 undef = _ at h100
   change ac.tmps.getD 101 undef = _ at h101
   change ac.tmps.getD 102 undef = _ at h102
   change ac.tmps.getD 103 undef = _ at h103
   change ac.tmps.getD 104 undef = _ at hv104
   change ac.tmps.getD 105 undef = _ at hv105
   simp only [h95, hv96, h97, h98, h99, h100, h101, h102, h103, hv104, hv105, List.setIfInBounds_toArray, List.set_cons_zero, List.set_cons_succ] at ha
   clear h95 hv96 h97 h98 h99 h100 h101 h102 h103 hv104 hv105 hall hE
   subst ha
   simp only [List.drop_succ_cons, List.drop_zero]
   subst h96
   obtain ⟨A5, c5, rfl, hown⟩ := h105
   have HOWN := Lib.hid hown
   have hbb : Below (w.heap.size + 1) (w.alloc (.cells #[.string ⟨#[]⟩, .int .i64 0, .int .i64 0, .slice none 0 0, .int .i64 0] 106)) wx := HY.out.trans (hB.mono (ser_below HY.out))
   obtain ⟨⟨z0, z1, z2, z3, z4⟩, ⟨g0, g1, g2, g3, g4⟩, hs4⟩ := HC.out wx hbb
   rw [← HQW.out] at z0 z1 z2 z3 z4 g0 g1 g2 g3 g4 hs4
   have HBB := Lib.hid hbb
   have HRS : Hid (RowAt wx q 106 #[.string ⟨#[]⟩, .int .i64 0, .int .i64 0, .slice none 0 0, .int .i64 0]) := Lib.hid (by rw [HQW.out]; exact (RowAt.new w _ _).below hbb (Nat.lt_succ_self _))
   have HFR : Hid (RowAt (((((wx.setCell ⟨q, 0, none⟩ (.string nb)).setCell ⟨q, 1, none⟩ (.int .i64 p)).setCell ⟨q, 2, none⟩ (.int .i64 s)).setCell ⟨q, 3, none⟩ (.slice A5 vs.length c5)).setCell ⟨q, 4, none⟩ (.int .i64 0)) q 106 #[.string nb, .int .i64 p, .int .i64 s, .slice A5 vs.length c5, .int .i64 0]) := Lib.hid (row_set5v HRS.out)
   have HFB : Hid (Below w.heap.size w (((((wx.setCell ⟨q, 0, none⟩ (.string nb)).setCell ⟨q, 1, none⟩ (.int .i64 p)).setCell ⟨q, 2, none⟩ (.int .i64 s)).setCell ⟨q, 3, none⟩ (.slice A5 vs.length c5)).setCell ⟨q, 4, none⟩ (.int .i64 0))) := Lib.hid (below_set5 (lowBox' HBB.out) (by rw [HQW.out]; exact Nat.le_refl _))
   have HFO : Hid (OwnV w.heap.size (((((wx.setCell ⟨q, 0, none⟩ (.string nb)).setCell ⟨q, 1, none⟩ (.int .i64 p)).setCell ⟨q, 2, none⟩ (.int .i64 s)).setCell ⟨q, 3, none⟩ (.slice A5 vs.length c5)).setCell ⟨q, 4, none⟩ (.int .i64 0)) (.slice A5 vs.length c5) vs) := Lib.hid (by
    have h1 : OwnV (w.heap.size + 1) (((((wx.setCell ⟨q, 0, none⟩ (.string nb)).setCell ⟨q, 1, none⟩ (.int .i64 p)).setCell ⟨q, 2, none⟩ (.int .i64 s)).setCell ⟨q, 3, none⟩ (.slice A5 vs.length c5)).setCell ⟨q, 4, none⟩ (.int .i64 0)) (.slice A5 vs.length c5) vs := owns_keep HOWN.out fun g hg => heap_set5 (by have := (HOWN.out.lt g hg).1; rw [HQW.out]; omega)
    refine ⟨h1.1, ?_⟩
    rcases h1.2 with h | ⟨g, cap, cur, e, hb', rest⟩
    ·exact .inl h
    ·exact .inr ⟨g, cap, cur, e, Nat.le_trans (Nat.le_succ _) hb', rest⟩)
   clear hown hB hbb HFY HCL HVA
   go_wp2_with fail
   clear z0 z1 z2 z3 z4 g0 g1 g2 g3 g4 hs4
   generalize (((((wx.setCell ⟨q, 0, none⟩ (.string nb)).setCell ⟨q, 1, none⟩ (.int .i64 p)).setCell ⟨q, 2, none⟩ (.int .i64 s)).setCell ⟨q, 3, none⟩ (.slice A5 vs.length c5)).setCell ⟨q, 4, none⟩ (.int .i64 0)) = YF at *
   have u0 := HFR.out.cell 0
   have u1 := HFR.out.cell 1
   have u2 := HFR.out.cell 2
   have u3 := HFR.out.cell 3
   have u4 := HFR.out.cell 4
   simp only [List.getElem?_toArray, List.getElem?_cons_succ, List.getElem?_cons_zero] at u0 u1 u2 u3 u4
   refine bodyPost_ret (v := .tuple #[.agg #[.string nb, .int .i64 p, .int .i64 s, .slice A5 vs.length c5, .int .i64 0], .int .i64 0]) (by simp [results, Tryz.results45, go_sem, u0, u1, u2, u3, u4]) rfl ?_
   rw [HQ.out]
   exact ⟨_, rfl, fun e => (by cases e), fun y e => by injection e with e; subst e; exact ⟨_, by rw [← HNB.out], HFO.out⟩, HFB.out⟩
end
end Go.Proofs.YtljlanhpjpjgaaaGreatDoor
