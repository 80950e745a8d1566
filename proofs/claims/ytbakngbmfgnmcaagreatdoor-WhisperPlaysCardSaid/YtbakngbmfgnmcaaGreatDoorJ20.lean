/- WqFe WqUp WpCr WqCr -/
import Derived.Test.YtbakngbmfgnmcaaGreatDoorJ1
import Derived.Test.YtbakngbmfgnmcaaGreatDoorJ16
import Derived.Test.YtbakngbmfgnmcaaGreatDoorJ17
import Derived.Test.YtbakngbmfgnmcaaGreatDoorJ14
import Derived.Test.YtbakngbmfgnmcaaGreatDoorJ19
import Derived.Test.YtbakngbmfgnmcaaGreatDoorJ12
import Derived.Test.YtbakngbmfgnmcaaGreatDoorJ7
import Derived.Test.YtbakngbmfgnmcaaGreatDoorJ11
import Derived.Test.YtbakngbmfgnmcaaGreatDoorJ3
namespace Go.Proofs.YtbakngbmfgnmcaaGreatDoor
set_option maxRecDepth 100000
set_option maxHeartbeats 8000000
section
open Go.RowKit Go.Sort
open Fx (Vl)
open Me
open Wp
theorem fetch_fail {w : World} {n : List UInt8} {f : Value} {g : Nat} {R : Hd × Int} {now a b : Int} (he : R.2 ≠ 0) (HIN : Hid (∀ W, Below w.heap.size w W → Calls Tryz.prog 44 #[f, .string ⟨n.toArray⟩] W (Opened W g n R))) :
 Calls Tryz.prog 36 #[f, .string ⟨n.toArray⟩, .int .i64 now, .int .i64 a, .int .i64 b] w (Fetched w n (none, R.2)) := by
 have HC := serCell w
 obtain ⟨⟨ag, xf, hl⟩, er⟩ := R
 have heb : (er == 0) = false := by simpa using he
 obtain ⟨nb, hnb⟩ : ∃ nb : ByteArray, nb = ⟨n.toArray⟩ := ⟨_, rfl⟩
 rw [← hnb] at HIN ⊢
 clear hnb
 go_enter Tryz.func36, Tryz.ntmps36
 go_wp2_with (go_at_call 44; (with_reducible refine (HIN.out _ ((Below.refl _ _).alloc (Nat.le_refl _) _)).mono ?_); rintro e w1 ⟨A1, c1, p1, s1, rfl, hps, hrow, hfr, hb1⟩; have hbb : Below (w.heap.size + 1) (w.alloc (.cells #[.string ⟨#[]⟩, .int .i64 0, .int .i64 0, .slice none 0 0, .int .i64 0] 88)) w1 := hb1.mono (by simp); obtain ⟨⟨r0, r1, r2, r3, r4⟩, ⟨f0, f1, f2, f3, f4⟩, hs4⟩ := HC.out _ (hbb.alloc (by have := hbb.size; simpa using this) (.cells #[.int .i64 ag, .int .i64 xf, .slice A1 hl.length c1, .pointer p1, .string s1] 100)); have HB1 := Lib.hid hbb; have hs1 := hbb.size; clear hb1 hrow hfr hps hbb)
 refine bodyPost_ret (v := .tuple #[.agg #[.string ⟨#[]⟩, .int .i64 0, .int .i64 0, .slice none 0 0, .int .i64 0], .int .i64 er]) (by simp [results, Tryz.results36, go_sem, *]) rfl (Fetched.no rfl ?_)
 exact below_set5 ((lowBox' HB1.out).alloc (by simp at hs1; omega) _) (Nat.le_refl _)
theorem row_set5v {W : World} {g : Nat} {t : TypeId} {a0 a1 a2 a3 a4 b0 b1 b2 b3 b4 : Value} (h : RowAt W g t #[a0, a1, a2, a3, a4]) :
 RowAt (((((W.setCell ⟨g, 0, none⟩ b0).setCell ⟨g, 1, none⟩ b1).setCell ⟨g, 2, none⟩ b2).setCell ⟨g, 3, none⟩ b3).setCell ⟨g, 4, none⟩ b4) g t #[b0, b1, b2, b3, b4] := by
 have := ((((h.set_ 0 b0).set_ 1 b1).set_ 2 b2).set_ 3 b3).set_ 4 b4
 simpa using this
theorem ser_below {w w1 : World} {o : Obj} (h : Below (w.heap.size + 1) (w.alloc o) w1) : w.heap.size + 1 ≤ w1.heap.size := by have := h.size; simpa using this
theorem fetch_in7 {w : World} {V : Nat → Prop} {c fs : Nat} {S : Vf.Sv} (ro : PO w V fs c S) (n : List UInt8) (hnl : n.length ≤ 1048576) (now from_ until_ : Int) (h0 : (info S.now n).2 = 0) (hn1 : 1 ≤ now) (hn2 : now ≤ 4294967295) (ht : ¬ (until_ < from_ ∨ now < from_ ∨ until_ < 0 ∨ until_ < now - (info S.now n).1.span)) :
 Calls Tryz.prog 36 #[.pointer (some ⟨fs, 0, none⟩), .string ⟨n.toArray⟩, .int .i64 now, .int .i64 from_, .int .i64 until_] w (Fetched w n (fetch S.now n now from_ until_)) := by
 have HIN : Hid (∀ W, Below w.heap.size w W → Calls Tryz.prog 44 #[.pointer (some ⟨fs, 0, none⟩), .string ⟨n.toArray⟩] W (Opened W fs n (info S.now n))) := Lib.hid fun W hb => open_any (ro.below hb) n
 have HNW : Hid (∀ W, Calls Tryz.prog 58 #[.int .i64 now] W fun e w' => e = .returned (.bool true) ∧ W = w') := Lib.hid fun W => by
  have h := isnow_any now W
  rw [decide_eq_true ⟨hn1, hn2⟩] at h
  exact h
 have HRO := Lib.hid ro
 have HC := serCell w
 have HCL : Hid (∀ W, Calls Tryz.prog 48 #[.string ⟨n.toArray⟩] W fun e w' => e = .returned (.string ⟨n.toArray⟩) ∧ Below W.heap.size W w') := Lib.hid fun W => strClone_any n W hnl
 obtain ⟨B0, hF⟩ := info_file h0
 have HE4 := Lib.hid (fun i f u hf hu hi p e hp he K hK => fetch_yes (fs := S.now) (n := n) (now := now) (a := from_) (b := until_) (i := i) (f := f) (u := u) h0 hn1 hn2 ht hf hu hi (p := p) (e := e) hp he (K := K) hK)
 have HH0 := Lib.hid h0
 generalize hRR : info S.now n = R at *
 clear hRR h0 ro
 obtain ⟨H, er⟩ := R
 have her : er = 0 := HH0.out
 subst her
 dsimp only at ht hF HE4
 have hv := hF.val
 have hlen := Hd.len hv
 have hsb := Hd.span_bd hv
 obtain ⟨cb1, cb2, cb3⟩ := clip_bd (now := now) (a := from_) (b := until_) hv hn1 ht
 have hCL : clip H now from_ = max (max 0 from_) (now - H.span) := rfl
 obtain ⟨f, hf⟩ : ∃ f, clip H now from_ = f := ⟨_, rfl⟩
 obtain ⟨u, hu⟩ : ∃ u, min until_ now = u := ⟨_, rfl⟩
 rw [hf, hu] at cb2
 rw [hf] at cb1 cb3 hCL
 have hfirst : ∃ ix, first H (now - f - 1) H.l.length 0 = some ix := by
  cases e : first H (now - f - 1) H.l.length 0 with
  | some i => exact ⟨i, rfl⟩
  | none =>
    exfalso
    have key : ∀ m i, first H (now - f - 1) m i = none → ∀ j, i ≤ j → j < i + m → ¬ (now - f - 1 < H.step j * H.cnt j) := by
     intro m
     induction m with
     | zero => intro i _ j h1 h2; omega
     | succ m ih =>
       intro i e j h1 h2
       by_cases hc : now - f - 1 < H.step i * H.cnt i
       ·rw [first_yes hc] at e; cases e
       ·rw [first_no hc] at e
        by_cases hj : j = i
        ·subst hj; exact hc
        ·exact ih (i + 1) e j (by omega) (by omega)
    have h1 := key _ _ e (H.l.length - 1) (by omega) (by omega)
    rw [← Hd.span_eq hv] at h1
    omega
 obtain ⟨ix, hix⟩ := hfirst
 have hixl : ix < H.l.length := by have := first_lt _ _ hix; omega
 have hcovb : now - f - 1 < H.step ix * H.cnt ix := by
  have key : ∀ m i, first H (now - f - 1) m i = some ix → now - f - 1 < H.step ix * H.cnt ix := by
   intro m
   induction m with
   | zero => intro i e; cases e
   | succ m ih =>
     intro i e
     by_cases hc : now - f - 1 < H.step i * H.cnt i
     ·rw [first_yes hc] at e; injection e with e; subst e; exact hc
     ·rw [first_no hc] at e; exact ih (i + 1) e
  exact key _ _ hix
 obtain ⟨⟨n1, n2⟩, n3, n4⟩ := Hd.nums hv ix hixl
 obtain ⟨K, p, q', e, h1, h2, h3, h4, h5, h6, h7, h8, h9, h10, h11, h12⟩ := times_of (f := f) (u := u) (s := H.step ix) n1 n2 (by omega) (by omega) (by omega)
 have htm := times_max (f := f) (u := u) (now := now) (c := H.cnt ix) (s := H.step ix) n1 (by omega) (by omega) (by omega) n3 (by omega)
 have HQ := Lib.hid (HE4.out ix f u hf hu hix p e (by rw [h1]; exact h2) h3 K h5)
 rw [h1, h2, h3, h5] at htm
 obtain ⟨C, hC⟩ : ∃ C : Nat, H.cnt ix = (C : Int) := ⟨(H.cnt ix).toNat, by omega⟩
 have hal : Sl.al p (H.step ix) = p ∧ 0 ≤ p := by
  have hq1 : Sl.al q' (H.step ix) = q' := by
   rw [← h1, Sl.al_mul n1 (Sl.al_bd n1 (by omega)).1, Sl.al_div n1 (by omega), ← Sl.al_mul n1 (by omega)]
  have := al_step (k := 1) (s := H.step ix) (st := q') n1 h8 hq1
  rw [show ((1 : Nat) : Int) = 1 from rfl, Int.one_mul] at this
  rw [← h2]
  exact ⟨this.2.1, this.1⟩
 obtain ⟨P, hP⟩ : ∃ P : Nat, Sl.pl (H.step ix) (H.cnt ix) p = (P : Int) := ⟨(Sl.pl (H.step ix) (H.cnt ix) p).toNat, by have := Sl.pl_bd n1 n3 hal.2; omega⟩
 have hpb : p ≤ 4328521728 := by omega
 have HSEQ : Hid (seq S.now n H ix p K = held (H.step ix) p (round B0 (H.offs (ix : Int)).toNat C P K) K) := Lib.hid (by
  rw [hF.held_eq hixl hal.2 hal.1 hC (by omega) hP]
  rfl)
 have HVA0 : Hid (∀ W A1 c1, Below w.heap.size w W → Calls Tryz.prog 79 #[ringV H ix A1 c1 fs n, .int .i64 p, .int .i64 (K : Int)] W fun e w' => ∃ v, e = .returned v ∧ OwnV W.heap.size w' v (seq S.now n H ix p K) ∧ Below W.heap.size W w') := Lib.hid fun W A1 c1 hb => by
  rw [HSEQ.out]
  exact values_any (A := A1) (cap := c1) (HRO.out.below hb) hF ix hixl p hal.2 (by omega) K C P hC hP (by omega)
 have HRE0 : Hid (∀ W A1 c1, Row W A1 H.l c1 → Calls Tryz.prog 77 #[fileV H A1 c1 fs n, .int .i64 (now - f)] W fun e w' => e = .returned (.int .i64 (ix : Int)) ∧ Below W.heap.size W w') := Lib.hid fun W A1 c1 hr => by
  have h := reaching_any (fs := fs) (n := n) hr hv (now - f)
  rw [show find H (now - f - 1) = (ix : Int) from fnd_some hix] at h
  exact h
 have HRG0 : Hid (∀ W A1 c1, Row W A1 H.l c1 → Calls Tryz.prog 65 #[fileV H A1 c1 fs n, .int .i64 (ix : Int)] W fun e w' => e = .returned (ringV H ix A1 c1 fs n) ∧ Below W.heap.size W w') := Lib.hid fun W A1 c1 hr => ring_any hr hv ix hixl
 have HSP0 : Hid (∀ W A1 c1, Row W A1 H.l c1 → Calls Tryz.prog 76 #[.agg #[.int .i64 H.ag, .int .i64 H.xf, .slice A1 H.l.length c1]] W fun e w' => e = .returned (.int .i64 H.span) ∧ Below W.heap.size W w') := Lib.hid fun W A1 c1 hr => spn_any _ _ _ A1 c1 W hr
 have HAF : Hid (∀ W, Calls Tryz.prog 78 #[.int .i64 f, .int .i64 (H.step ix)] W fun e w' => e = .returned (.int .i64 q') ∧ W = w') := Lib.hid fun W => by
  have h := align_any f (H.step ix) (by omega) W
  rw [h1] at h
  exact h
 have HAU : Hid (∀ W, Calls Tryz.prog 78 #[.int .i64 u, .int .i64 (H.step ix)] W fun e w' => e = .returned (.int .i64 (Sl.al u (H.step ix))) ∧ W = w') := Lib.hid fun W => align_any u (H.step ix) (by omega) W
 obtain ⟨au, hau⟩ : ∃ au, au = Sl.al u (H.step ix) := ⟨_, rfl⟩
 rw [← hau] at HAU htm h11 h12
 obtain ⟨lo, hlo⟩ : ∃ lo, now - H.span = lo := ⟨_, rfl⟩
 obtain ⟨m, hm⟩ : ∃ m, (if from_ < 0 then 0 else from_) = m := ⟨_, rfl⟩
 have hf2 : (if m < lo then lo else m) = f := by rw [hCL, hlo, ← hm]; split <;> split <;> omega
 have hwl : IntKind.i64.wrap lo = lo := IntWalk.i64_in _ (by omega)
 obtain ⟨d, hd⟩ : ∃ d, now - f = d := ⟨_, rfl⟩
 have hwd : IntKind.i64.wrap d = d := IntWalk.i64_in _ (by omega)
 obtain ⟨t1, t2, t3, t4⟩ : ¬ until_ < from_ ∧ ¬ now < from_ ∧ ¬ until_ < 0 ∧ ¬ until_ < lo := ⟨fun e => ht (.inl e), fun e => ht (.inr (.inl e)), fun e => ht (.inr (.inr (.inl e))), fun e => ht (.inr (.inr (.inr (by omega))))⟩
 rw [hd] at HRE0
 have hwst : IntKind.i64.wrap p = p := IntWalk.i64_in _ (by omega)
 obtain ⟨eu, heu⟩ : ∃ eu, au + H.step ix = eu := ⟨_, rfl⟩
 have hweu : IntKind.i64.wrap eu = eu := IntWalk.i64_in _ (by omega)
 rw [heu] at htm
 obtain ⟨df, hdf⟩ : ∃ df, eu - p = df := ⟨_, rfl⟩
 rw [hdf] at htm
 have hwdf : IntKind.i64.wrap df = df := IntWalk.i64_in _ (by omega)
 have hdf0 : 0 ≤ df := by
  have hm1 : f / H.step ix ≤ u / H.step ix := Int.ediv_le_ediv (by omega) (by omega)
  have e1 := Sl.al_mul n1 (by omega : 0 ≤ f)
  have e2 := Sl.al_mul n1 (by omega : 0 ≤ u)
  have := Int.mul_le_mul_of_nonneg_left hm1 (by omega : 0 ≤ H.step ix)
  rw [← e1, ← e2, h1, ← hau] at this
  omega
 obtain ⟨qd, hqd⟩ : ∃ qd, df.tdiv (H.step ix) = qd := ⟨_, rfl⟩
 rw [← Int.tdiv_eq_ediv_of_nonneg hdf0, hqd] at htm
 have hqd0 : 0 ≤ qd ∧ qd ≤ df := by
  rw [← hqd, Int.tdiv_eq_ediv_of_nonneg hdf0]
  exact ⟨Int.ediv_nonneg hdf0 (by omega), Int.ediv_le_self _ hdf0⟩
 have hwqd : IntKind.i64.wrap qd = qd := IntWalk.i64_in _ (by omega)
 have hKm := htm.1
 have hs0 : ¬ H.step ix = 0 := by omega
 have HLEN : Hid ((seq S.now n H ix p K).length = K) := Lib.hid (seq_len _ _ _ _ _ _)
 have HOP : Hid (∀ W, Below w.heap.size w W → Calls Tryz.prog 44 #[.pointer (some ⟨fs, 0, none⟩), .string ⟨n.toArray⟩] W fun e w' => ∃ A1 c1, e = .returned (.tuple #[.agg #[.int .i64 H.ag, .int .i64 H.xf, .slice A1 H.l.length c1, .pointer (some ⟨fs, 0, none⟩), .string ⟨n.toArray⟩], .int .i64 0]) ∧ Row w' A1 H.l c1 ∧ Below W.heap.size W w') := Lib.hid fun W hb => (HIN.out W hb).mono fun e w' h => by
  obtain ⟨A1, c1, p1, s1, rfl, hps, hrow, _, hb1⟩ := h
  obtain ⟨rfl, rfl⟩ := hps rfl
  exact ⟨A1, c1, rfl, hrow, hb1⟩
 unfold fileV ringV at *
 clear HIN HSEQ hP hal hC htm h3 h4 h5 h6 h7 h10 h11 h12 hcovb hix hCL ht HE4 hF hdf0 hqd0 cb1 cb2 cb3 hsb HH0 hau hf n3 n4
 generalize seq S.now n H ix p K = vs at *
 generalize hss : H.step ix = s at *
 generalize H.cnt ix = k at *
 generalize H.offs (ix : Int) = o at *
 generalize H.span = sp at *
 obtain ⟨hln, hN⟩ : ∃ N, N = H.l.length := ⟨_, rfl⟩
 have HNN := Lib.hid hN
 generalize H.ag = ag at *
 generalize H.xf = xf at *
 rw [← hN] at HVA0 HRE0 HRG0 HSP0 HOP hixl hlen
 obtain ⟨nb, hnb⟩ : ∃ nb : ByteArray, nb = ⟨n.toArray⟩ := ⟨_, rfl⟩
 rw [← hnb] at HVA0 HRE0 HRG0 HOP HCL ⊢
 have HNB := Lib.hid hnb
 clear hN hnb hss
 go_enter Tryz.func36, Tryz.ntmps36
 go_wp2_with first
  | (go_at_call 44; (with_reducible refine (HOP.out _ ((Below.refl _ _).alloc (Nat.le_refl _) _)).mono ?_); rintro e w1 ⟨A1, c1, rfl, hrow, hb1⟩; have hbb : Below (w.heap.size + 1) (w.alloc (.cells #[.string ⟨#[]⟩, .int .i64 0, .int .i64 0, .slice none 0 0, .int .i64 0] 88)) w1 := hb1.mono (by simp); have HB1 := Lib.hid hbb; have HROW := Lib.hid hrow; have hs1 := ser_below hbb; clear hb1 hrow hbb)
  | (go_at_call 58; ((with_reducible refine (HNW.out _).mono ?_); rintro e w' ⟨rfl, rfl⟩))
  | (go_at_call 76; (with_reducible refine (HSP0.out _ A1 c1 (HROW.out.below ((Below.refl _ _).alloc (Nat.le_refl _) _))).mono ?_); rintro e w2 ⟨rfl, hb2⟩; have HB2 := Lib.hid hb2; clear hb2)
 obtain ⟨x, hx⟩ : ∃ x, x = w1.heap.size := ⟨_, rfl⟩
 obtain ⟨q, hq⟩ : ∃ q, q = w.heap.size := ⟨_, rfl⟩
 have HX2 : Hid (Below (w.heap.size + 1) (w.alloc (.cells #[.string ⟨#[]⟩, .int .i64 0, .int .i64 0, .slice none 0 0, .int .i64 0] 88)) w2) := Lib.hid ((HB1.out.alloc hs1 _).trans (HB2.out.mono (by simp; omega)))
 have HRX : Hid (RowAt w2 x 100 #[.int .i64 ag, .int .i64 xf, .slice A1 hln c1, .pointer (some ⟨fs, 0, none⟩), .string nb]) := Lib.hid (by rw [hx]; exact (RowAt.new w1 _ _).below HB2.out (by simp))
 have HROW2 : Hid (Row w2 A1 H.l c1) := Lib.hid (HROW.out.below (((Below.refl _ _).alloc (Nat.le_refl _) _).trans (HB2.out.mono (by simp))))
 rw [← hx, ← hq]
 have HXQ := Lib.hid hx
 have HQW := Lib.hid hq
 clear hx hq HROW HB1 HB2
 obtain ⟨X, hXw⟩ : ∃ X, X = w2 := ⟨_, rfl⟩
 rw [← hXw]
 rw [← hXw] at HX2 HRX HROW2
 clear hXw
 have HF : Hid (∀ W, Below X.heap.size X W → W.cell? ⟨x, 0, none⟩ = some (.int .i64 ag) ∧ W.cell? ⟨x, 1, none⟩ = some (.int .i64 xf) ∧ W.cell? ⟨x, 2, none⟩ = some (.slice A1 hln c1) ∧ W.cell? ⟨x, 3, none⟩ = some (.pointer (some ⟨fs, 0, none⟩)) ∧ W.cell? ⟨x, 4, none⟩ = some (.string nb)) := Lib.hid fun W hb => by
  have k1 := HRX.out.below hb HRX.out.lt
  exact ⟨k1.cell 0, k1.cell 1, k1.cell 2, k1.cell 3, k1.cell 4⟩
 have HRE : Hid (∀ W, Below X.heap.size X W → Calls Tryz.prog 77 #[.agg #[.int .i64 ag, .int .i64 xf, .slice A1 hln c1, .pointer (some ⟨fs, 0, none⟩), .string nb], .int .i64 d] W fun e w' => e = .returned (.int .i64 (ix : Int)) ∧ Below W.heap.size W w') := Lib.hid fun W hb => HRE0.out W A1 c1 (HROW2.out.below hb)
 have HRG : Hid (∀ W, Below X.heap.size X W → Calls Tryz.prog 65 #[.agg #[.int .i64 ag, .int .i64 xf, .slice A1 hln c1, .pointer (some ⟨fs, 0, none⟩), .string nb], .int .i64 (ix : Int)] W fun e w' => e = .returned (.agg #[.int .i64 s, .int .i64 k, .int .i64 ag, .int .i64 xf, .slice A1 hln c1, .pointer (some ⟨fs, 0, none⟩), .string nb, .int .i64 o]) ∧ Below W.heap.size W w') := Lib.hid fun W hb => HRG0.out W A1 c1 (HROW2.out.below hb)
 generalize decide (until_ < from_) = bb3 at *
 generalize decide (now < from_) = bb4 at *
 generalize decide (until_ < 0) = bb5 at *
 generalize decide (until_ < lo) = bb6 at *
 refine Inv.region_tail 8 8 (fun W W' => Below W.heap.size W W') (fun i v W => match i with
  | 0 => v = .agg #[.int .i64 ag, .int .i64 xf, .slice A1 hln c1, .pointer (some ⟨fs, 0, none⟩), .string nb]
  | 1 => v = .agg #[.int .i64 ag, .int .i64 xf, .slice A1 hln c1, .pointer (some ⟨fs, 0, none⟩), .string nb]
  | 2 => v = .int .i64 now
  | 3 => v = .int .i64 f
  | 4 => v = .int .i64 d
  | 5 => v = .int .i64 (ix : Int)
  | 6 => v = .agg #[.int .i64 s, .int .i64 k, .int .i64 ag, .int .i64 xf, .slice A1 hln c1, .pointer (some ⟨fs, 0, none⟩), .string nb, .int .i64 o]
  | 7 => ∃ r, v = .pointer (some ⟨r, 0, none⟩) ∧ X.heap.size ≤ r ∧ RowAt W r 137 #[.int .i64 0, .int .i64 0, .int .i64 0, .int .i64 0, .slice none 0 0, .pointer none, .string ⟨#[]⟩, .int .i64 0]
  | _ => True) (by kernel_rfl) (by kernel_rfl) (by kernel_rfl) (by kernel_rfl) (fun W => Below.refl _ _) (fun a b c h k => h.trans (k.mono h.size)) (fun i v W W' h he => ?stab) ?obls ?fin
 case stab =>
  match i, h with
  | 0, h => exact h
  | 1, h => exact h
  | 2, h => exact h
  | 3, h => exact h
  | 4, h => exact h
  | 5, h => exact h
  | 6, h => exact h
  | 7, h => exact (by obtain ⟨r, e, h1, h2⟩ := h; exact ⟨r, e, h1, h2.below (show Below _ _ _ from ⟨he.os, he.tape, he.output, he.size, he.block⟩) h2.lt⟩)
  | _ + 8, h => exact h
 case obls =>
  refine .cons ?_ (.cons ?_ (.cons ?_ (.cons ?_ (.cons ?_ (.cons ?_ (.cons ?_ (.cons ?_ .nil)))))))
  ·intro ac wx hE hf hd
   have hB : Below X.heap.size X wx := ⟨hE.1,hE.2,hE.3,hE.4,hE.5⟩
   rw [if_pos (Inv.want0 rfl _)]
   have h12 : ac.eval (.tmp 12) = .pointer (some ⟨x, 0, none⟩) := hf 12 (by kernel_rfl)
   clear hf hd
   obtain ⟨a0, a1, a2, a3, a4⟩ := HF.out wx hB
   refine Inv.val (.agg #[.int .i64 ag, .int .i64 xf, .slice A1 hln c1, .pointer (some ⟨fs, 0, none⟩), .string nb]) ?_ rfl rfl (Below.refl _ _)
   clear hE hB HF HRE HRG
   generalize ac.eval = ev at *
   simp [execOp, go_sem, *]
  ·intro ac wx hE hf hd
   have hB : Below X.heap.size X wx := ⟨hE.1,hE.2,hE.3,hE.4,hE.5⟩
   rw [if_pos (Inv.want0 rfl _)]
   have h12 : ac.eval (.tmp 12) = .pointer (some ⟨x, 0, none⟩) := hf 12 (by kernel_rfl)
   clear hf hd
   obtain ⟨a0, a1, a2, a3, a4⟩ := HF.out wx hB
   refine Inv.val (.agg #[.int .i64 ag, .int .i64 xf, .slice A1 hln c1, .pointer (some ⟨fs, 0, none⟩), .string nb]) ?_ rfl rfl (Below.refl _ _)
   clear hE hB HF HRE HRG
   generalize ac.eval = ev at *
   simp [execOp, go_sem, *]
  ·intro ac wx hE hf hd
   have hB : Below X.heap.size X wx := ⟨hE.1,hE.2,hE.3,hE.4,hE.5⟩
   rw [if_pos (Inv.want0 rfl _)]
   have h2 : ac.eval (.tmp 2) = .int .i64 now := hf 2 (by kernel_rfl)
   clear hf hd
   refine Inv.val (.int .i64 now) ?_ rfl rfl (Below.refl _ _)
   clear hE hB
   generalize ac.eval = ev at *
   simp [execOp, go_sem, *]
  ·intro ac wx hE hf hd
   have hB : Below X.heap.size X wx := ⟨hE.1,hE.2,hE.3,hE.4,hE.5⟩
   rw [if_pos (Inv.want0 rfl _)]
   have h3 : ac.eval (.tmp 3) = .int .i64 f := hf 3 (by kernel_rfl)
   clear hf hd
   refine Inv.val (.int .i64 f) ?_ rfl rfl (Below.refl _ _)
   clear hE hB
   generalize ac.eval = ev at *
   simp [execOp, go_sem, *]
  ·intro ac wx hE hf hd
   have hB : Below X.heap.size X wx := ⟨hE.1,hE.2,hE.3,hE.4,hE.5⟩
   rw [if_pos (Inv.want0 rfl _)]
   have h64 := hd 2 _ (by kernel_rfl) rfl
   change ac.eval (.tmp 64) = .int .i64 now at h64
   have h65 := hd 3 _ (by kernel_rfl) rfl
   change ac.eval (.tmp 65) = .int .i64 f at h65
   clear hf hd
   refine Inv.val (.int .i64 d) ?_ rfl rfl (Below.refl _ _)
   clear hE hB HF HRE HRG
   have hcst : ∀ v, ac.eval (.const v) = v := fun _ => rfl
   generalize ac.eval = ev at *
   simp [execOp, go_sem, *]
  ·intro ac wx hE hf hd
   have hB : Below X.heap.size X wx := ⟨hE.1,hE.2,hE.3,hE.4,hE.5⟩
   rw [if_pos (Inv.want0 rfl _)]
   have h63 := hd 1 _ (by kernel_rfl) rfl
   change ac.eval (.tmp 63) = .agg #[.int .i64 ag, .int .i64 xf, .slice A1 hln c1, .pointer (some ⟨fs, 0, none⟩), .string nb] at h63
   have h66 := hd 4 _ (by kernel_rfl) rfl
   change ac.eval (.tmp 66) = .int .i64 d at h66
   clear hf hd
   refine Inv.go (f := 77) (xs := #[.agg #[.int .i64 ag, .int .i64 xf, .slice A1 hln c1, .pointer (some ⟨fs, 0, none⟩), .string nb], .int .i64 d]) ?_ rfl ?_
   ·clear hE hB HF HRE HRG
    have hfn : ac.eval (.func 77) = .func (.func 77) #[] #[] := rfl
    generalize ac.eval = ev at *
    simp [execOp, go_sem, *]
   ·exact (HRE.out wx hB).mono fun e w' ⟨he, hb⟩ => ⟨_, he, rfl, hb⟩
  ·intro ac wx hE hf hd
   have hB : Below X.heap.size X wx := ⟨hE.1,hE.2,hE.3,hE.4,hE.5⟩
   rw [if_pos (Inv.want0 rfl _)]
   have h62 := hd 0 _ (by kernel_rfl) rfl
   change ac.eval (.tmp 62) = .agg #[.int .i64 ag, .int .i64 xf, .slice A1 hln c1, .pointer (some ⟨fs, 0, none⟩), .string nb] at h62
   have h67 := hd 5 _ (by kernel_rfl) rfl
   change (fun v W => v = .int .i64 (ix : Int)) (ac.eval (.tmp 67)) wx at h67
   try dsimp only at h67
   clear hf hd
   refine Inv.go (f := 65) (xs := #[.agg #[.int .i64 ag, .int .i64 xf, .slice A1 hln c1, .pointer (some ⟨fs, 0, none⟩), .string nb], .int .i64 (ix : Int)]) ?_ rfl ?_
   ·clear hE hB HF HRE HRG
    have hfn : ac.eval (.func 65) = .func (.func 65) #[] #[] := rfl
    generalize ac.eval = ev at *
    simp [execOp, go_sem, *]
   ·exact (HRG.out wx hB).mono fun e w' ⟨he, hb⟩ => ⟨_, he, rfl, hb⟩
  ·intro ac wx hE hf hd
   have hB : Below X.heap.size X wx := ⟨hE.1,hE.2,hE.3,hE.4,hE.5⟩
   rw [if_pos (Inv.want0 rfl _)]
   clear hf hd
   refine Inv.val (.pointer (some ⟨wx.heap.size, 0, none⟩)) (w' := wx.alloc (.cells #[.int .i64 0, .int .i64 0, .int .i64 0, .int .i64 0, .slice none 0 0, .pointer none, .string ⟨#[]⟩, .int .i64 0] 137)) ?_ rfl ⟨_, rfl, hB.size, RowAt.new _ _ _⟩ ((Below.refl _ _).alloc (Nat.le_refl _) _)
   clear hE hB HF HRE HRG
   generalize ac.eval = ev at *
   simp [execOp, go_sem, *]
 case fin =>
  intro ac wx hE ha hall
  have hB : Below X.heap.size X wx := ⟨hE.1,hE.2,hE.3,hE.4,hE.5⟩
  have h62 := hall 0 _ (by decide) rfl
  change ac.eval (.tmp 62) = .agg #[.int .i64 ag, .int .i64 xf, .slice A1 hln c1, .pointer (some ⟨fs, 0, none⟩), .string nb] at h62
  have h63 := hall 1 _ (by decide) rfl
  change ac.eval (.tmp 63) = .agg #[.int .i64 ag, .int .i64 xf, .slice A1 hln c1, .pointer (some ⟨fs, 0, none⟩), .string nb] at h63
  have h64 := hall 2 _ (by decide) rfl
  change ac.eval (.tmp 64) = .int .i64 now at h64
  have h65 := hall 3 _ (by decide) rfl
  change ac.eval (.tmp 65) = .int .i64 f at h65
  have h66 := hall 4 _ (by decide) rfl
  change ac.eval (.tmp 66) = .int .i64 d at h66
  have h67 := hall 5 _ (by decide) rfl
  change (fun v W => v = .int .i64 (ix : Int)) (ac.eval (.tmp 67)) wx at h67
  try dsimp only at h67
  generalize hv67 : ac.eval (.tmp 67) = v67 at *
  have h68 := hall 6 _ (by decide) rfl
  change (fun v W => v = .agg #[.int .i64 s, .int .i64 k, .int .i64 ag, .int .i64 xf, .slice A1 hln c1, .pointer (some ⟨fs, 0, none⟩), .string nb, .int .i64 o]) (ac.eval (.tmp 68)) wx at h68
  try dsimp only at h68
  generalize hv68 : ac.eval (.tmp 68) = v68 at *
  have h15 := hall 7 _ (by decide) rfl
  change (fun v W => ∃ r, v = .pointer (some ⟨r, 0, none⟩) ∧ X.heap.size ≤ r ∧ RowAt W r 137 #[.int .i64 0, .int .i64 0, .int .i64 0, .int .i64 0, .slice none 0 0, .pointer none, .string ⟨#[]⟩, .int .i64 0]) (ac.eval (.tmp 15)) wx at h15
  try dsimp only at h15
  generalize hv15 : ac.eval (.tmp 15) = v15 at *
  simp only [List.take_succ_cons, List.take_zero, List.foldl, Inv.slot, Act.put] at ha
  change ac.tmps.getD 62 undef = _ at h62
  change ac.tmps.getD 63 undef = _ at h63
  change ac.tmps.getD 64 undef = _ at h64
  change ac.tmps.getD 65 undef = _ at h65
  change ac.tmps.getD 66 undef = _ at h66
  change ac.tmps.getD 67 undef = _ at hv67
  change ac.tmps.getD 68 undef = _ at hv68
  change ac.tmps.getD 15 undef = _ at hv15
  simp only [h62, h63, h64, h65, h66, hv67, hv68, hv15, List.setIfInBounds_toArray, List.set_cons_zero, List.set_cons_succ] at ha
  clear h62 h63 h64 h65 h66 hv67 hv68 hv15 hall hE
  subst ha
  simp only [List.drop_succ_cons, List.drop_zero]
  subst h67 h68
  obtain ⟨r, rfl, hr1, hrow1⟩ := h15
  have HQR : Hid (w.heap.size + 1 ≤ r) := Lib.hid (by have := HX2.out.size; simp at this; omega)
  have hy1 : RowAt ((((((((wx.setCell ⟨r, 0, none⟩ (.int .i64 s)).setCell ⟨r, 1, none⟩ (.int .i64 k)).setCell ⟨r, 2, none⟩ (.int .i64 ag)).setCell ⟨r, 3, none⟩ (.int .i64 xf)).setCell ⟨r, 4, none⟩ (.slice A1 hln c1)).setCell ⟨r, 5, none⟩ (.pointer (some ⟨fs, 0, none⟩))).setCell ⟨r, 6, none⟩ (.string nb)).setCell ⟨r, 7, none⟩ (.int .i64 o)) r 137 #[.int .i64 s, .int .i64 k, .int .i64 ag, .int .i64 xf, .slice A1 hln c1, .pointer (some ⟨fs, 0, none⟩), .string nb, .int .i64 o] := row_set8 hrow1
  have hyB : Below X.heap.size X ((((((((wx.setCell ⟨r, 0, none⟩ (.int .i64 s)).setCell ⟨r, 1, none⟩ (.int .i64 k)).setCell ⟨r, 2, none⟩ (.int .i64 ag)).setCell ⟨r, 3, none⟩ (.int .i64 xf)).setCell ⟨r, 4, none⟩ (.slice A1 hln c1)).setCell ⟨r, 5, none⟩ (.pointer (some ⟨fs, 0, none⟩))).setCell ⟨r, 6, none⟩ (.string nb)).setCell ⟨r, 7, none⟩ (.int .i64 o)) := below_set8 hB hr1
  have y0 := hrow1.cell 0
  have y1 := hrow1.cell 1
  have y2 := hrow1.cell 2
  have y3 := hrow1.cell 3
  have y4 := hrow1.cell 4
  have y5 := hrow1.cell 5
  have y6 := hrow1.cell 6
  have y7 := hrow1.cell 7
  have fz1 := fun i => hrow1.frozen i
  have hl1 := hrow1.lt
  simp only [List.getElem?_toArray, List.getElem?_cons_succ, List.getElem?_cons_zero] at y0 y1 y2 y3 y4 y5 y6 y7
  clear HRE HRG HF hrow1 hB
  go_wp2_with fail
  clear y0 y1 y2 y3 y4 y5 y6 y7 fz1 hl1
  generalize ((((((((wx.setCell ⟨r, 0, none⟩ (.int .i64 s)).setCell ⟨r, 1, none⟩ (.int .i64 k)).setCell ⟨r, 2, none⟩ (.int .i64 ag)).setCell ⟨r, 3, none⟩ (.int .i64 xf)).setCell ⟨r, 4, none⟩ (.slice A1 hln c1)).setCell ⟨r, 5, none⟩ (.pointer (some ⟨fs, 0, none⟩))).setCell ⟨r, 6, none⟩ (.string nb)).setCell ⟨r, 7, none⟩ (.int .i64 o)) = Z at *
  have HZ : Hid (Below (w.heap.size + 1) (w.alloc (.cells #[.string ⟨#[]⟩, .int .i64 0, .int .i64 0, .slice none 0 0, .int .i64 0] 88)) Z) := Lib.hid (HX2.out.trans (hyB.mono (by have := HX2.out.size; simp at this; omega)))
  have HRZ := Lib.hid hy1
  have e0 : Z.cell? ⟨r, 0, none⟩ = some (.int .i64 s) := hy1.cell 0
  have hrl := hy1.lt
  have HAF' : Hid (∀ W, Calls Tryz.prog 78 #[.int .i64 f, .int .i64 s] W fun e w' => e = .returned (.int .i64 q') ∧ Below W.heap.size W w') := Lib.hid fun W => (HAF.out W).mono fun e w' ⟨h1, h2⟩ => ⟨h1, h2 ▸ Below.refl _ _⟩
  have HAU' : Hid (∀ W, Calls Tryz.prog 78 #[.int .i64 u, .int .i64 s] W fun e w' => e = .returned (.int .i64 au) ∧ Below W.heap.size W w') := Lib.hid fun W => (HAU.out W).mono fun e w' ⟨h1, h2⟩ => ⟨h1, h2 ▸ Below.refl _ _⟩
  obtain ⟨kc, kf⟩ := kgrown Z
  clear hy1 hyB HAF HAU
  refine wp_region_quiet_below (by kernel_rfl) (by kernel_rfl) ?_
  repeat (go_big_quiet_step (first
   | (go_at_call 78; exact Calls.regrown_of (HAF'.out _))))
  refine wpQuiet_nil ?_
  intro _ hw'
  obtain ⟨⟨dq, osq⟩, hw''⟩ := hw'
  subst hw''
  go_wp2_with fail
  obtain ⟨Z2, hZ2⟩ : ∃ Z2, Z2 = Go.Sort.grow (redrawn Z dq) osq := ⟨_, rfl⟩
  have hBz : Below Z.heap.size Z Z2 := by rw [hZ2]; exact below_regrown _ _ _
  rw [← hZ2]
  have HZ2 := Lib.hid (HZ.out.trans (hBz.mono (ser_below HZ.out)))
  have HRZ2 := Lib.hid (HRZ.out.below hBz hrl)
  have e1 : Z2.cell? ⟨r, 0, none⟩ = some (.int .i64 s) := HRZ2.out.cell 0
  have hrl2 := HRZ2.out.lt
  clear hBz hZ2 e0 kc kf HZ HRZ hrl
  obtain ⟨kc, kf⟩ := kgrown Z2
  refine wp_region_quiet_below (by kernel_rfl) (by kernel_rfl) ?_
  repeat (go_big_quiet_step (first
   | (go_at_call 78; exact Calls.regrown_of (HAU'.out _))))
  refine wpQuiet_nil ?_
  intro _ hw'
  obtain ⟨⟨dq2, osq2⟩, hw''⟩ := hw'
  subst hw''
  obtain ⟨Y, hY⟩ : ∃ Y, Y = Go.Sort.grow (redrawn Z2 dq2) osq2 := ⟨_, rfl⟩
  have hBy : Below Z2.heap.size Z2 Y := by rw [hY]; exact below_regrown _ _ _
  rw [← hY]
  have HY := Lib.hid (HZ2.out.trans (hBy.mono (ser_below HZ2.out)))
  have HRY := Lib.hid (HRZ2.out.below hBy hrl2)
  have e2 : Y.cell? ⟨r, 0, none⟩ = some (.int .i64 s) := HRY.out.cell 0
  have hrl3 := HRY.out.lt
  clear hBy hY e1 kc kf HZ2 HRZ2 hrl2
  go_wp2_with fail
  have HFY : Hid (∀ W, Below Y.heap.size Y W → W.cell? ⟨r, 0, none⟩ = some (.int .i64 s) ∧ W.cell? ⟨r, 1, none⟩ = some (.int .i64 k) ∧ W.cell? ⟨r, 2, none⟩ = some (.int .i64 ag) ∧ W.cell? ⟨r, 3, none⟩ = some (.int .i64 xf) ∧ W.cell? ⟨r, 4, none⟩ = some (.slice A1 hln c1) ∧ W.cell? ⟨r, 5, none⟩ = some (.pointer (some ⟨fs, 0, none⟩)) ∧ W.cell? ⟨r, 6, none⟩ = some (.string nb) ∧ W.cell? ⟨r, 7, none⟩ = some (.int .i64 o)) := Lib.hid fun W hb => by
   have k1 := HRY.out.below hb HRY.out.lt
   exact ⟨k1.cell 0, k1.cell 1, k1.cell 2, k1.cell 3, k1.cell 4, k1.cell 5, k1.cell 6, k1.cell 7⟩
  have HVA : Hid (∀ W, Below Y.heap.size Y W → Calls Tryz.prog 79 #[.agg #[.int .i64 s, .int .i64 k, .int .i64 ag, .int .i64 xf, .slice A1 hln c1, .pointer (some ⟨fs, 0, none⟩), .string nb, .int .i64 o], .int .i64 p, .int .i64 (K : Int)] W fun e w' => ∃ v, e = .returned v ∧ OwnV (w.heap.size + 1) w' v vs ∧ Below W.heap.size W w') := Lib.hid fun W hb => by
   have hbs : w.heap.size + 1 ≤ W.heap.size := Nat.le_trans (ser_below HY.out) hb.size
   have hbw : Below w.heap.size w W := lowBox' (HY.out.trans (hb.mono (ser_below HY.out)))
   refine (HVA0.out W A1 c1 hbw).mono fun e w' ⟨v, h1, h2, h3⟩ => ⟨v, h1, ⟨h2.1, ?_⟩, h3⟩
   rcases h2.2 with h | ⟨g, cap, cur, e, hb', rest⟩
   ·exact .inl h
   ·exact .inr ⟨g, cap, cur, e, Nat.le_trans hbs hb', rest⟩
  have HB0 := Lib.hid HY.out
  clear e2 hrl3
  refine Inv.region_tail 11 8 (fun W W' => Below W.heap.size W W') (fun i v W => match i with
   | 0 => v = .string nb
   | 1 => v = .string nb
   | 2 => v = .int .i64 p
   | 3 => v = .pointer (some ⟨r, 0, none⟩)
   | 4 => v = .pointer (some ⟨r, 0, none⟩)
   | 5 => v = .int .i64 s
   | 6 => v = .agg #[.int .i64 s, .int .i64 k, .int .i64 ag, .int .i64 xf, .slice A1 hln c1, .pointer (some ⟨fs, 0, none⟩), .string nb, .int .i64 o]
   | 7 => v = .int .i64 p
   | 8 => v = .int .i64 (K : Int)
   | 9 => OwnV (w.heap.size + 1) W v vs
   | 10 => ∃ A' c', v = .agg #[.string nb, .int .i64 p, .int .i64 s, .slice A' vs.length c', .int .i64 0] ∧ OwnV (w.heap.size + 1) W (.slice A' vs.length c') vs
   | _ => True) (by kernel_rfl) (by kernel_rfl) (by kernel_rfl) (by kernel_rfl) (fun W => Below.refl _ _) (fun a b c h k => h.trans (k.mono h.size)) (fun i v W W' h he => ?stab) ?obls ?fin
  case stab =>
   match i, h with
   | 0, h => exact h
   | 1, h => exact h
   | 2, h => exact h
   | 3, h => exact h
   | 4, h => exact h
   | 5, h => exact h
   | 6, h => exact h
   | 7, h => exact h
   | 8, h => exact h
   | 9, h => exact OwnV.below h (show Below _ _ _ from ⟨he.os, he.tape, he.output, he.size, he.block⟩)
   | 10, h => exact (by obtain ⟨A', c', e, h1⟩ := h; exact ⟨A', c', e, OwnV.below h1 (show Below _ _ _ from ⟨he.os, he.tape, he.output, he.size, he.block⟩)⟩)
   | _ + 11, h => exact h
  case obls =>
   refine .cons ?_ (.cons ?_ (.cons ?_ (.cons ?_ (.cons ?_ (.cons ?_ (.cons ?_ (.cons ?_ (.cons ?_ (.cons ?_ (.cons ?_ .nil))))))))))
   ·intro ac wx hE hf hd
    have hB : Below Y.heap.size Y wx := ⟨hE.1,hE.2,hE.3,hE.4,hE.5⟩
    rw [if_pos (Inv.want0 rfl _)]
    have h1 : ac.eval (.tmp 1) = .string nb := hf 1 (by kernel_rfl)
    clear hf hd
    refine Inv.val (.string nb) ?_ rfl rfl (Below.refl _ _)
    clear hE hB
    generalize ac.eval = ev at *
    simp [execOp, go_sem, *]
   ·intro ac wx hE hf hd
    have hB : Below Y.heap.size Y wx := ⟨hE.1,hE.2,hE.3,hE.4,hE.5⟩
    rw [if_pos (Inv.want0 rfl _)]
    have h95 := hd 0 _ (by kernel_rfl) rfl
    change ac.eval (.tmp 95) = .string nb at h95
    clear hf hd
    refine Inv.go (f := 48) (xs := #[.string nb]) ?_ rfl ?_
    ·clear hE hB HFY HCL HVA
     have hfn : ac.eval (.func 48) = .func (.func 48) #[] #[] := rfl
     generalize ac.eval = ev at *
     simp [execOp, go_sem, *]
    ·exact (HCL.out wx).mono fun e w' ⟨he, hb⟩ => ⟨_, he, rfl, hb⟩
   ·intro ac wx hE hf hd
    have hB : Below Y.heap.size Y wx := ⟨hE.1,hE.2,hE.3,hE.4,hE.5⟩
    rw [if_pos (Inv.want0 rfl _)]
    have h16 : ac.eval (.tmp 16) = .int .i64 p := hf 16 (by kernel_rfl)
    clear hf hd
    refine Inv.val (.int .i64 p) ?_ rfl rfl (Below.refl _ _)
    clear hE hB
    generalize ac.eval = ev at *
    simp [execOp, go_sem, *]
   ·intro ac wx hE hf hd
    have hB : Below Y.heap.size Y wx := ⟨hE.1,hE.2,hE.3,hE.4,hE.5⟩
    rw [if_pos (Inv.want0 rfl _)]
    have h15 : ac.eval (.tmp 15) = .pointer (some ⟨r, 0, none⟩) := hf 15 (by kernel_rfl)
    clear hf hd
    refine Inv.val (.pointer (some ⟨r, 0, none⟩)) ?_ rfl rfl (Below.refl _ _)
    clear hE hB HFY HCL HVA
    have hcst : ∀ v, ac.eval (.const v) = v := fun _ => rfl
    generalize ac.eval = ev at *
    simp [execOp, go_sem, *]
   ·intro ac wx hE hf hd
    have hB : Below Y.heap.size Y wx := ⟨hE.1,hE.2,hE.3,hE.4,hE.5⟩
    rw [if_pos (Inv.want0 rfl _)]
    have h98 := hd 3 _ (by kernel_rfl) rfl
    change ac.eval (.tmp 98) = .pointer (some ⟨r, 0, none⟩) at h98
    clear hf hd
    refine Inv.val (.pointer (some ⟨r, 0, none⟩)) ?_ rfl rfl (Below.refl _ _)
    clear hE hB HFY HCL HVA
    have hcst : ∀ v, ac.eval (.const v) = v := fun _ => rfl
    generalize ac.eval = ev at *
    simp [execOp, go_sem, *]
   ·intro ac wx hE hf hd
    have hB : Below Y.heap.size Y wx := ⟨hE.1,hE.2,hE.3,hE.4,hE.5⟩
    rw [if_pos (Inv.want0 rfl _)]
    have h99 := hd 4 _ (by kernel_rfl) rfl
    change ac.eval (.tmp 99) = .pointer (some ⟨r, 0, none⟩) at h99
    clear hf hd
    obtain ⟨a0, a1, a2, a3, a4, a5, a6, a7⟩ := HFY.out wx hB
    refine Inv.val (.int .i64 s) ?_ rfl rfl (Below.refl _ _)
    clear hE hB HFY HCL HVA
    generalize ac.eval = ev at *
    simp [execOp, go_sem, *]
   ·intro ac wx hE hf hd
    have hB : Below Y.heap.size Y wx := ⟨hE.1,hE.2,hE.3,hE.4,hE.5⟩
    rw [if_pos (Inv.want0 rfl _)]
    have h15 : ac.eval (.tmp 15) = .pointer (some ⟨r, 0, none⟩) := hf 15 (by kernel_rfl)
    clear hf hd
    obtain ⟨a0, a1, a2, a3, a4, a5, a6, a7⟩ := HFY.out wx hB
    refine Inv.val (.agg #[.int .i64 s, .int .i64 k, .int .i64 ag, .int .i64 xf, .slice A1 hln c1, .pointer (some ⟨fs, 0, none⟩), .string nb, .int .i64 o]) ?_ rfl rfl (Below.refl _ _)
    clear hE hB HFY HCL HVA
    generalize ac.eval = ev at *
    simp [execOp, go_sem, *]
   ·intro ac wx hE hf hd
    have hB : Below Y.heap.size Y wx := ⟨hE.1,hE.2,hE.3,hE.4,hE.5⟩
    rw [if_pos (Inv.want0 rfl _)]
    have h16 : ac.eval (.tmp 16) = .int .i64 p := hf 16 (by kernel_rfl)
    clear hf hd
    refine Inv.val (.int .i64 p) ?_ rfl rfl (Below.refl _ _)
    clear hE hB
    generalize ac.eval = ev at *
    simp [execOp, go_sem, *]
   ·intro ac wx hE hf hd
    have hB : Below Y.heap.size Y wx := ⟨hE.1,hE.2,hE.3,hE.4,hE.5⟩
    rw [if_pos (Inv.want0 rfl _)]
    have h18 : ac.eval (.tmp 18) = .int .i64 (K : Int) := hf 18 (by kernel_rfl)
    clear hf hd
    refine Inv.val (.int .i64 (K : Int)) ?_ rfl rfl (Below.refl _ _)
    clear hE hB
    generalize ac.eval = ev at *
    simp [execOp, go_sem, *]
   ·intro ac wx hE hf hd
    have hB : Below Y.heap.size Y wx := ⟨hE.1,hE.2,hE.3,hE.4,hE.5⟩
    rw [if_pos (Inv.want0 rfl _)]
    have h101 := hd 6 _ (by kernel_rfl) rfl
    change ac.eval (.tmp 101) = .agg #[.int .i64 s, .int .i64 k, .int .i64 ag, .int .i64 xf, .slice A1 hln c1, .pointer (some ⟨fs, 0, none⟩), .string nb, .int .i64 o] at h101
    have h102 := hd 7 _ (by kernel_rfl) rfl
    change ac.eval (.tmp 102) = .int .i64 p at h102
    have h103 := hd 8 _ (by kernel_rfl) rfl
    change ac.eval (.tmp 103) = .int .i64 (K : Int) at h103
    clear hf hd
    refine Inv.go (f := 79) (xs := #[.agg #[.int .i64 s, .int .i64 k, .int .i64 ag, .int .i64 xf, .slice A1 hln c1, .pointer (some ⟨fs, 0, none⟩), .string nb, .int .i64 o], .int .i64 p, .int .i64 (K : Int)]) ?_ rfl ?_
    ·clear hE hB HFY HCL HVA
     have hfn : ac.eval (.func 79) = .func (.func 79) #[] #[] := rfl
     generalize ac.eval = ev at *
     simp [execOp, go_sem, *]
    ·exact (HVA.out wx hB).mono fun e w' ⟨u, he, ho, hb⟩ => ⟨u, he, ho, hb⟩
   ·intro ac wx hE hf hd
    have hB : Below Y.heap.size Y wx := ⟨hE.1,hE.2,hE.3,hE.4,hE.5⟩
    rw [if_pos (Inv.want0 rfl _)]
    have h96 := hd 1 _ (by kernel_rfl) rfl
    change (fun v W => v = .string nb) (ac.eval (.tmp 96)) wx at h96
    try dsimp only at h96
    have h97 := hd 2 _ (by kernel_rfl) rfl
    change ac.eval (.tmp 97) = .int .i64 p at h97
    have h100 := hd 5 _ (by kernel_rfl) rfl
    change ac.eval (.tmp 100) = .int .i64 s at h100
    have h104 := hd 9 _ (by kernel_rfl) rfl
    change (fun v W => OwnV (w.heap.size + 1) W v vs) (ac.eval (.tmp 104)) wx at h104
    try dsimp only at h104
    clear hf hd
    obtain ⟨u104, hu104⟩ : ∃ u, u = ac.eval (.tmp 104) := ⟨_, rfl⟩
    rw [← hu104] at h104
    obtain ⟨A104, c104, hq104⟩ := h104.slice
    have h104' : ac.eval (.tmp 104) = .slice A104 vs.length c104 := by rw [← hu104]; exact hq104
    have hown : OwnV (w.heap.size + 1) wx (.slice A104 vs.length c104) vs := by rw [← hq104]; exact h104
    refine Inv.val (.agg #[.string nb, .int .i64 p, .int .i64 s, .slice A104 vs.length c104, .int .i64 0]) ?_ rfl ⟨A104, c104, rfl, hown⟩ (Below.refl _ _)
    clear hE hB HFY HCL HVA h104 hu104 hq104 hown
    generalize ac.eval = ev at *
    simp [execOp, go_sem, *]
  case fin =>
   intro ac wx hE ha hall
   have hB : Below Y.heap.size Y wx := ⟨hE.1,hE.2,hE.3,hE.4,hE.5⟩
   have h95 := hall 0 _ (by decide) rfl
   change ac.eval (.tmp 95) = .string nb at h95
   have h96 := hall 1 _ (by decide) rfl
   change (fun v W => v = .string nb) (ac.eval (.tmp 96)) wx at h96
   try dsimp only at h96
   generalize hv96 : ac.eval (.tmp 96) = v96 at *
   have h97 := hall 2 _ (by decide) rfl
   change ac.eval (.tmp 97) = .int .i64 p at h97
   have h98 := hall 3 _ (by decide) rfl
   change ac.eval (.tmp 98) = .pointer (some ⟨r, 0, none⟩) at h98
   have h99 := hall 4 _ (by decide) rfl
   change ac.eval (.tmp 99) = .pointer (some ⟨r, 0, none⟩) at h99
   have h100 := hall 5 _ (by decide) rfl
   change ac.eval (.tmp 100) = .int .i64 s at h100
   have h101 := hall 6 _ (by decide) rfl
   change ac.eval (.tmp 101) = .agg #[.int .i64 s, .int .i64 k, .int .i64 ag, .int .i64 xf, .slice A1 hln c1, .pointer (some ⟨fs, 0, none⟩), .string nb, .int .i64 o] at h101
   have h102 := hall 7 _ (by decide) rfl
   change ac.eval (.tmp 102) = .int .i64 p at h102
   have h103 := hall 8 _ (by decide) rfl
   change ac.eval (.tmp 103) = .int .i64 (K : Int) at h103
   have h104 := hall 9 _ (by decide) rfl
   change (fun v W => OwnV (w.heap.size + 1) W v vs) (ac.eval (.tmp 104)) wx at h104
   try dsimp only at h104
   generalize hv104 : ac.eval (.tmp 104) = v104 at *
   have h105 := hall 10 _ (by decide) rfl
   change (fun v W => ∃ A' c', v = .agg #[.string nb, .int .i64 p, .int .i64 s, .slice A' vs.length c', .int .i64 0] ∧ OwnV (w.heap.size + 1) W (.slice A' vs.length c') vs) (ac.eval (.tmp 105)) wx at h105
   try dsimp only at h105
   generalize hv105 : ac.eval (.tmp 105) = v105 at *
   simp only [List.take_succ_cons, List.take_zero, List.foldl, Inv.slot, Act.put] at ha
   change ac.tmps.getD 95 undef = _ at h95
   change ac.tmps.getD 96 undef = _ at hv96
   change ac.tmps.getD 97 undef = _ at h97
   change ac.tmps.getD 98 undef = _ at h98
   change ac.tmps.getD 99 undef = _ at h99
   change ac.tmps.getD 100 undef = _ at h100
   change ac.tmps.getD 101 undef = _ at h101
   change ac.tmps.getD 102 undef = _ at h102
   change ac.tmps.getD 103 undef = _ at h103
   change ac.tmps.getD 104 undef = _ at hv104
   change ac.tmps.getD 105 undef = _ at hv105
   simp only [h95, hv96, h97, h98, h99, h100, h101, h102, h103, hv104, hv105, List.setIfInBounds_toArray, List.set_cons_zero, List.set_cons_succ] at ha
   clear h95 hv96 h97 h98 h99 h100 h101 h102 h103 hv104 hv105 hall hE
   subst ha
   simp only [List.drop_succ_cons, List.drop_zero]
   subst h96
   obtain ⟨A5, c5, rfl, hown⟩ := h105
   have HOWN := Lib.hid hown
   have hbb : Below (w.heap.size + 1) (w.alloc (.cells #[.string ⟨#[]⟩, .int .i64 0, .int .i64 0, .slice none 0 0, .int .i64 0] 88)) wx := HY.out.trans (hB.mono (ser_below HY.out))
   obtain ⟨⟨z0, z1, z2, z3, z4⟩, ⟨g0, g1, g2, g3, g4⟩, hs4⟩ := HC.out wx hbb
   rw [← HQW.out] at z0 z1 z2 z3 z4 g0 g1 g2 g3 g4 hs4
   have HBB := Lib.hid hbb
   have HRS : Hid (RowAt wx q 88 #[.string ⟨#[]⟩, .int .i64 0, .int .i64 0, .slice none 0 0, .int .i64 0]) := Lib.hid (by rw [HQW.out]; exact (RowAt.new w _ _).below hbb (Nat.lt_succ_self _))
   have HFR : Hid (RowAt (((((wx.setCell ⟨q, 0, none⟩ (.string nb)).setCell ⟨q, 1, none⟩ (.int .i64 p)).setCell ⟨q, 2, none⟩ (.int .i64 s)).setCell ⟨q, 3, none⟩ (.slice A5 vs.length c5)).setCell ⟨q, 4, none⟩ (.int .i64 0)) q 88 #[.string nb, .int .i64 p, .int .i64 s, .slice A5 vs.length c5, .int .i64 0]) := Lib.hid (row_set5v HRS.out)
   have HFB : Hid (Below w.heap.size w (((((wx.setCell ⟨q, 0, none⟩ (.string nb)).setCell ⟨q, 1, none⟩ (.int .i64 p)).setCell ⟨q, 2, none⟩ (.int .i64 s)).setCell ⟨q, 3, none⟩ (.slice A5 vs.length c5)).setCell ⟨q, 4, none⟩ (.int .i64 0))) := Lib.hid (below_set5 (lowBox' HBB.out) (by rw [HQW.out]; exact Nat.le_refl _))
   have HFO : Hid (OwnV w.heap.size (((((wx.setCell ⟨q, 0, none⟩ (.string nb)).setCell ⟨q, 1, none⟩ (.int .i64 p)).setCell ⟨q, 2, none⟩ (.int .i64 s)).setCell ⟨q, 3, none⟩ (.slice A5 vs.length c5)).setCell ⟨q, 4, none⟩ (.int .i64 0)) (.slice A5 vs.length c5) vs) := Lib.hid (by
    have h1 : OwnV (w.heap.size + 1) (((((wx.setCell ⟨q, 0, none⟩ (.string nb)).setCell ⟨q, 1, none⟩ (.int .i64 p)).setCell ⟨q, 2, none⟩ (.int .i64 s)).setCell ⟨q, 3, none⟩ (.slice A5 vs.length c5)).setCell ⟨q, 4, none⟩ (.int .i64 0)) (.slice A5 vs.length c5) vs := owns_keep HOWN.out fun g hg => heap_set5 (by have := (HOWN.out.lt g hg).1; rw [HQW.out]; omega)
    refine ⟨h1.1, ?_⟩
    rcases h1.2 with h | ⟨g, cap, cur, e, hb', rest⟩
    ·exact .inl h
    ·exact .inr ⟨g, cap, cur, e, Nat.le_trans (Nat.le_succ _) hb', rest⟩)
   clear hown hB hbb HFY HCL HVA
   go_wp2_with fail
   clear z0 z1 z2 z3 z4 g0 g1 g2 g3 g4 hs4
   generalize (((((wx.setCell ⟨q, 0, none⟩ (.string nb)).setCell ⟨q, 1, none⟩ (.int .i64 p)).setCell ⟨q, 2, none⟩ (.int .i64 s)).setCell ⟨q, 3, none⟩ (.slice A5 vs.length c5)).setCell ⟨q, 4, none⟩ (.int .i64 0)) = YF at *
   have u0 := HFR.out.cell 0
   have u1 := HFR.out.cell 1
   have u2 := HFR.out.cell 2
   have u3 := HFR.out.cell 3
   have u4 := HFR.out.cell 4
   simp only [List.getElem?_toArray, List.getElem?_cons_succ, List.getElem?_cons_zero] at u0 u1 u2 u3 u4
   refine bodyPost_ret (v := .tuple #[.agg #[.string nb, .int .i64 p, .int .i64 s, .slice A5 vs.length c5, .int .i64 0], .int .i64 0]) (by simp [results, Tryz.results36, go_sem, u0, u1, u2, u3, u4]) rfl ?_
   rw [HQ.out]
   exact ⟨_, rfl, fun e => (by cases e), fun y e => by injection e with e; subst e; exact ⟨_, by rw [← HNB.out], HFO.out⟩, HFB.out⟩
end
section
open Go.RowKit Go.Sort
open Fx (Vl)
open Me
open Wp
theorem update_any7 {w : World} {V : Nat → Prop} {c fs : Nat} {S : Vf.Sv} (ro : PO w V fs c S) (hg : Gv w) (hV0 : V 0) (n : List UInt8) (now : Int) (l : List (Int × Int)) (Ap : Option Addr) (capp : Nat) (hp : Row w Ap l capp) (hVp : 0 < l.length → ∀ a, Ap = some a → V a.block) (hc : c + 27 * l.length ≤ 497000) :
 Calls Tryz.prog 23 #[.pointer (some ⟨fs, 0, none⟩), .string ⟨n.toArray⟩, .int .i64 now, .slice Ap l.length capp] w fun e w' => e = .returned (.tuple #[.int .i64 (update S n now l).2.1, .int .i64 (update S n now l).2.2]) ∧ PO w' V fs (c + 27 * l.length) (update S n now l).1 ∧ Kp (fun b => ¬ V b) w w' := by
 have HIN := Lib.hid (open_any ro n)
 have HNW : Hid (∀ W, Calls Tryz.prog 58 #[.int .i64 now] W fun e w' => e = .returned (.bool (decide (1 ≤ now ∧ now ≤ 4294967295))) ∧ W = w') := Lib.hid fun W => isnow_any now W
 have HRO := Lib.hid ro
 have HP := Lib.hid hp
 have HG := Lib.hid hg
 have HE1 := Lib.hid (update_err (S := S) (n := n) (now := now) (l := l))
 have HE2 := Lib.hid (update_now (S := S) (n := n) (now := now) (l := l))
 have HE3 := Lib.hid (update_yes (S := S) (n := n) (now := now) (l := l))
 have HVL := Lib.hid (info_file (l := S.now) (n := n))
 clear ro hp hg
 generalize info S.now n = R at *
 generalize update S n now l = Q at *
 obtain ⟨⟨ag, xf, hl⟩, er⟩ := R
 by_cases he : er = 0
 ·subst he
  obtain ⟨B0, hB0⟩ := HVL.out rfl
  have hv := hB0.val
  have hlen := Hd.len hv
  by_cases ht : now < 1 ∨ 4294967295 < now
  ·have HQ := Lib.hid (HE2.out rfl ht)
   have hnb : decide (1 ≤ now ∧ now ≤ 4294967295) = false := decide_eq_false (by omega)
   rw [hnb] at HNW
   clear HE1 HE2 HE3 HVL ht hnb
   go_enter Tryz.func23, Tryz.ntmps23
   go_wp2_with first
    | (go_at_call 44; (with_reducible refine (HIN.out).mono ?_); rintro e w1 ⟨A1, c1, p1, s1, rfl, hps, hrow, hfr, hb1⟩; have HB1 := Lib.hid hb1; clear hb1 hrow hfr hps)
    | (go_at_call 58; ((with_reducible refine (HNW.out _).mono ?_); rintro e w' ⟨rfl, rfl⟩))
   ((try simp only [Exit.inBlock, Exit.then]); refine bodyPost_ret (results_tmp2 rfl _ _ _) rfl ?_)
   exact ⟨by rw [HQ.out]; rfl, by rw [HQ.out]; exact ((HRO.out.below HB1.out).below ((Below.refl _ _).alloc (Nat.le_refl _) _)).more (by omega) (fun _ h => h), Kp.of_below (HB1.out.alloc HB1.out.size _)⟩
  ·have hn1 : 1 ≤ now := by omega
   have hn2 : now ≤ 4294967295 := by omega
   have HQ := Lib.hid (HE3.out rfl hn1 hn2)
   have hnb : decide (1 ≤ now ∧ now ≤ 4294967295) = true := decide_eq_true ⟨hn1, hn2⟩
   rw [hnb] at HNW
   clear HE1 HE2 HE3 HVL ht hnb
   go_enter Tryz.func23, Tryz.ntmps23
   go_wp2_with first
    | (go_at_call 44; (with_reducible refine (HIN.out).mono ?_); rintro e w1 ⟨A1, c1, p1, s1, rfl, hps, hrow, hfr, hb1⟩; obtain ⟨rfl, rfl⟩ := hps rfl; have HB1 := Lib.hid hb1; have HROW := Lib.hid hrow; have HFR := Lib.hid hfr; have hs1 := hb1.size; clear hb1 hrow hfr)
    | (go_at_call 58; ((with_reducible refine (HNW.out _).mono ?_); rintro e w' ⟨rfl, rfl⟩))
   obtain ⟨X, hXe⟩ : ∃ X, X = w1.alloc (.cells #[.int .i64 ag, .int .i64 xf, .slice A1 hl.length c1, .pointer (some ⟨fs, 0, none⟩), .string ⟨n.toArray⟩] 100) := ⟨_, rfl⟩
   obtain ⟨x, hx⟩ : ∃ x, x = w1.heap.size := ⟨_, rfl⟩
   have HX : Hid (Below w.heap.size w X) := Lib.hid (by rw [hXe]; exact HB1.out.alloc hs1 _)
   have HRX : Hid (RowAt X x 100 #[.int .i64 ag, .int .i64 xf, .slice A1 hl.length c1, .pointer (some ⟨fs, 0, none⟩), .string ⟨n.toArray⟩]) := Lib.hid (by rw [hXe, hx]; exact RowAt.new _ _ _)
   have HRAX : Hid (Row X A1 hl c1) := Lib.hid (by rw [hXe]; exact HROW.out.below ((Below.refl _ _).alloc (Nat.le_refl _) _))
   have hxs : w.heap.size ≤ x ∧ x < X.heap.size := ⟨by omega, HRX.out.lt⟩
   rw [← hXe, ← hx]
   clear hXe hx
   obtain ⟨V', hV'⟩ : ∃ V' : Nat → Prop, ∀ i, V' i ↔ (V i ∨ (w.heap.size ≤ i ∧ i < X.heap.size)) := ⟨_, fun _ => Iff.rfl⟩
   have HV := Lib.hid hV'
   have HROX : Hid (PO X V' fs c S) := Lib.hid (HRO.out.add HX.out fun i hi => (hV' i).1 hi)
   have HVx : Hid (V' x ∧ V' 0) := Lib.hid ⟨(hV' x).2 (.inr hxs), (hV' 0).2 (.inl hV0)⟩
   have HVA : Hid (∀ a, A1 = some a → V' a.block) := Lib.hid fun a e => (hV' _).2 (.inr ⟨HFR.out a e, by
    obtain ⟨b, off, e2, ha⟩ := HRAX.out.2 (by omega)
    rw [e] at e2
    cases e2
    exact ha.lt⟩)
   have HVP : Hid (0 < l.length → ∀ a, Ap = some a → V' a.block) := Lib.hid fun h0 a e => (hV' _).2 (.inl (hVp h0 a e))
   have HPX := Lib.hid (HP.out.below HX.out)
   have HGX := Lib.hid (HG.out.below HX.out)
   clear hV' hs1
   obtain ⟨H, hH⟩ : ∃ H, Hid (H = (⟨ag, xf, hl⟩ : Hd)) := ⟨_, Lib.hid rfl⟩
   have hB0' : Fits S.now n H B0 := by rw [hH.out]; exact hB0
   have HB00 := Lib.hid hB0'
   rw [← hH.out] at HQ
   have HFV : Hid (fileV H A1 c1 fs n = .agg #[.int .i64 ag, .int .i64 xf, .slice A1 hl.length c1, .pointer (some ⟨fs, 0, none⟩), .string ⟨n.toArray⟩]) := Lib.hid (by rw [hH.out]; rfl)
   have HHL : Hid (H.l = hl) := Lib.hid (by rw [hH.out])
   clear hB0 hB0' hv HB1 HROW HFR HIN HRO HG HP hVp
   have hKB : Hid (∀ W, Kp (fun b => ¬ V' b) X W → RowAt W x 100 #[.int .i64 ag, .int .i64 xf, .slice A1 hl.length c1, .pointer (some ⟨fs, 0, none⟩), .string ⟨n.toArray⟩] ∧ Row W A1 H.l c1 ∧ Row W Ap l capp ∧ Gv W) := Lib.hid fun W hk => by
    refine ⟨(hk.block x HRX.out.lt (fun o => o HVx.out.1)).trans HRX.out, ?_, ?_, HGX.out.keep HVx.out.2 hk⟩
    ·rw [HHL.out]
     refine row_kept HRAX.out fun a e => hk.block _ ?_ (fun o => o (HVA.out a e))
     obtain ⟨b, off, e2, ha⟩ := HRAX.out.2 (by omega)
     rw [e] at e2
     cases e2
     exact ha.lt
    ·by_cases h0 : 0 < l.length
     ·refine row_kept HPX.out fun a e => hk.block _ ?_ (fun o => o (HVP.out h0 a e))
      obtain ⟨b, off, e2, ha⟩ := HPX.out.2 h0
      rw [e] at e2
      cases e2
      exact ha.lt
     ·exact ⟨HPX.out.1, fun h => absurd h h0⟩
   go_wp2_with fail
   go_loopw [12, 14, 29] (fun u _ v wr => ∃ (i : Nat) (Si : Vf.Sv) (k : Int) (Bi : List UInt8), i ≤ l.length ∧ v = .int .i64 i ∧ u = .int .i64 k ∧ 0 ≤ k ∧ k ≤ i ∧ Hid (PO wr V' fs (c + 27 * i) Si) ∧ Hid (Kp (fun b => ¬ V' b) X wr) ∧ Hid (layAll n H now l S 0 = layAll n H now (l.drop i) Si k) ∧ Hid (Fits Si.now n H Bi)) (fun _ _ v _ => l.length - (intOf v).toNat)
   case atStart => exact ⟨0, S, 0, B0, Nat.zero_le _, rfl, rfl, Int.le_refl _, Int.le_refl _, HROX, Lib.hid (Kp.refl _ _), Lib.hid rfl, HB00⟩
   case round =>
    obtain ⟨i, Si, k, Bi, hi, rfl, rfl, k0, k1, HRi, HKi, HLi, HFi⟩ := hrel
    obtain ⟨hrx, hra, hrp, hgv⟩ := hKB.out wr HKi.out
    have hll : (l.length : Int) ≤ 20000 := by omega
    by_cases hlt : i < l.length
    ·obtain ⟨b, off, rfl, har⟩ := hrp.2 (by omega)
     have c0 := har.st i hlt
     have c1' := har.ct i hlt
     have hbl := har.lt
     have e1 : Wh.At l i = l[i] := by unfold Wh.At; rw [List.getD_eq_getElem?_getD, List.getElem?_eq_getElem hlt]; rfl
     rw [e1] at c0 c1'
     have HST := Lib.hid (layAll_step (n := n) (h := H) (now := now) hlt (S := Si) (k := k))
     have hil : (i : Int) < (l.length : Int) := by omega
     have hi0 : (0 : Int) ≤ (i : Int) := by omega
     have HLY : Hid (∀ pa pn W, Below wr.heap.size wr W → Calls Tryz.prog 59 #[.agg #[.int .i64 ag, .int .i64 xf, .slice A1 hl.length c1, .pointer (some ⟨fs, 0, none⟩), .string ⟨n.toArray⟩], .int .i64 now, .agg #[.int .i64 pa, .int .i64 pn]] W fun e w' => e = .returned (.bool (lays Si n H now (pa, pn)).2) ∧ PO w' V' fs (c + 27 * i + 27) (lays Si n H now (pa, pn)).1 ∧ Kp (fun b => ¬ V' b) W w') := Lib.hid fun pa pn W hb => by
      have h := store_any (cap := c1) (HRi.out.below hb) (by omega) (hgv.below hb) HVx.out.2 HFi.out (hra.below hb) HVA.out now hn1 hn2 pa pn
      rw [HFV.out] at h
      exact h
     have HFN : Hid (∀ p, ∃ B', Fits (lays Si n H now p).1.now n H B') := Lib.hid fun p => HFi.out.lays now p
     have y0 : wr.cell? ⟨x, 0, none⟩ = some (.int .i64 ag) := hrx.cell 0
     have y1 : wr.cell? ⟨x, 1, none⟩ = some (.int .i64 xf) := hrx.cell 1
     have y2 : wr.cell? ⟨x, 2, none⟩ = some (.slice A1 hl.length c1) := hrx.cell 2
     have y3 : wr.cell? ⟨x, 3, none⟩ = some (.pointer (some ⟨fs, 0, none⟩)) := hrx.cell 3
     have y4 : wr.cell? ⟨x, 4, none⟩ = some (.string ⟨n.toArray⟩) := hrx.cell 4
     have hxl := hrx.lt
     clear hrx hra hrp hgv har e1
     generalize l[i] = pt at *
     obtain ⟨pa, pn⟩ := pt
     have HL1 := Lib.hid (HLY.out pa pn)
     obtain ⟨Bn, hBn⟩ := HFN.out (pa, pn)
     have HBN := Lib.hid hBn
     clear HLY HFN hBn
     generalize hgl : lays Si n H now (pa, pn) = R at *
     clear hgl
     obtain ⟨R1, R2⟩ := R
     have hwk : IntKind.i64.wrap (k + 1) = k + 1 := IntWalk.i64_in _ (by omega)
     have hwi : IntKind.i64.wrap ((i : Int) + 1) = (i : Int) + 1 := IntWalk.i64_in _ (by omega)
     cases R2
     ·go_wp2_with (go_at_call 59; (with_reducible refine (HL1.out _ ((Below.refl _ _).alloc (Nat.le_refl _) _)).mono ?_); rintro e w5 ⟨rfl, hro5, hk5⟩; have HRO5 := Lib.hid hro5; have HK5 : Hid (Kp (fun b => ¬ V' b) wr w5) := Lib.hid ((Kp.of_below ((Below.refl _ _).alloc (Nat.le_refl _) _)).trans hk5 (fun _ _ h => h)); clear hro5 hk5)
      go_roundw
      case rel => exact ⟨i + 1, R1, k, Bn, by omega, by go_num, rfl, k0, by omega, Lib.hid (HRO5.out.more (by omega) (fun _ h => h)), Lib.hid (HKi.out.trans HK5.out (fun _ _ h => h)), Lib.hid (by rw [HLi.out, HST.out]; rfl), HBN⟩
      case measure => simp [intOf]; omega
     ·go_wp2_with (go_at_call 59; (with_reducible refine (HL1.out _ ((Below.refl _ _).alloc (Nat.le_refl _) _)).mono ?_); rintro e w5 ⟨rfl, hro5, hk5⟩; have HRO5 := Lib.hid hro5; have HK5 : Hid (Kp (fun b => ¬ V' b) wr w5) := Lib.hid ((Kp.of_below ((Below.refl _ _).alloc (Nat.le_refl _) _)).trans hk5 (fun _ _ h => h)); clear hro5 hk5)
      go_roundw
      case rel => exact ⟨i + 1, R1, k + 1, Bn, by omega, by go_num, rfl, by omega, by omega, Lib.hid (HRO5.out.more (by omega) (fun _ h => h)), Lib.hid (HKi.out.trans HK5.out (fun _ _ h => h)), Lib.hid (by rw [HLi.out, HST.out]; rfl), HBN⟩
      case measure => simp [intOf]; omega
    ·have hil : i = l.length := by omega
     have HLE : Hid (layAll n H now l S 0 = (Si, k)) := Lib.hid (by rw [HLi.out, List.drop_of_length_le (by omega)]; rfl)
     have hiI : ¬ (i : Int) < (l.length : Int) := by omega
     have HSY := Lib.hid (posync HRi.out)
     clear hrx hra hrp hgv
     go_wp2_with (go_at_call 33; (with_reducible refine (HSY.out).mono ?_); rintro e w5 ⟨rfl, hro5, hk5⟩; have HRO5 := Lib.hid hro5; have HK5 := Lib.hid hk5; clear hro5 hk5)
     ((try simp only [Exit.inBlock, Exit.then]); refine bodyPost_ret (results_tmp2 rfl _ _ _) rfl ?_)
     exact ⟨by rw [HQ.out, HLE.out]; rfl, by rw [HQ.out, HLE.out]; exact HRO5.out.more (by omega) (fun i hi => (HV.out i).2 (.inl hi)), (Kp.of_below HX.out).trans ((HKi.out.trans HK5.out (fun _ _ h => h)).mono (fun i _ ho hv => ho ((HV.out i).2 (.inl hv)))) (fun _ _ h => h)⟩
 ·have HQ := Lib.hid (HE1.out he)
  have heb : (er == 0) = false := by simpa using he
  clear HE1 HE2 HE3 HVL
  go_enter Tryz.func23, Tryz.ntmps23
  go_wp2_with (go_at_call 44; (with_reducible refine (HIN.out).mono ?_); rintro e w1 ⟨A1, c1, p1, s1, rfl, hps, hrow, hfr, hb1⟩; have HB1 := Lib.hid hb1; clear hb1 hrow hfr hps)
  ((try simp only [Exit.inBlock, Exit.then]); refine bodyPost_ret (results_tmp2 rfl _ _ _) rfl ?_)
  exact ⟨by rw [HQ.out]; rfl, by rw [HQ.out]; exact ((HRO.out.below HB1.out).below ((Below.refl _ _).alloc (Nat.le_refl _) _)).more (by omega) (fun _ h => h), Kp.of_below (HB1.out.alloc HB1.out.size _)⟩
end
section
open Go.RowKit Go.Sort
open Fx (Vl)
open Me
open Wp
theorem zeros_made (n : Nat) : madeCells #[.int .u8 0] n = (by8 (List.replicate n 0)).toArray := by
 apply Array.ext
 ·rw [size_madeCells]; simp [by8_len]
 ·intro i h1 h2
  simp [madeCells, by8, Nat.mod_one]
theorem zeros_make (n : Nat) (hn : n ≤ 4294967296) (W : World) : (Instr.makeSlice 49 (.int .i64 (n : Int)) (.int .i64 (n : Int))).run Tryz.prog W = .ok (.slice (some ⟨W.heap.size, 0, none⟩) n n) (W.alloc (.cells (by8 (List.replicate n 0)).toArray 5)) := by
 obtain ⟨i0, hi0, hz0, hz1, hz2⟩ := info_parts u8info
 have h := run_make (P := Tryz.prog) W 49 5 i0 (.int .u8 0) Tryz.underlying49 hi0 hz0 .i64 .i64 (n : Int) (n : Int) (by omega) (by omega) (by rw [hz2]; omega) (by omega)
 rw [hz1, show (Value.int .u8 0).cells = #[.int .u8 0] from rfl, Nat.mul_one, Int.toNat_natCast, zeros_made] at h
 exact h
theorem ps_two {base base2 g : Nat} {w : World} {v v2 : Value} {L L2 : List UInt8} (h : BsT base w v L) (h2 : BsT base2 w v2 L2) (hg : RowAt w g 49 #[v, v2]) : Vf.Ps w (fun _ => True) (.slice (some ⟨g, 0, none⟩) 2 2) [L, L2] := by
 obtain ⟨A, c, e, k1, k2, hr⟩ := h
 obtain ⟨A', c', e', k1', k2', hr'⟩ := h2
 refine ⟨some ⟨g, 0, none⟩, 2, [v, v2], rfl, Nat.le_refl _, by unfold maxLen; omega, fun _ => ⟨_, rfl, hg.lt, trivial, fun j u hu => ?_⟩, ⟨[v], [v2], rfl, ⟨v, rfl, A, c, e, k1, k2, hr.mono fun _ _ _ => trivial⟩, [v2], [], rfl, ⟨v2, rfl, A', c', e', k1', k2', hr'.mono fun _ _ _ => trivial⟩, rfl⟩⟩
 rw [Addr.add_lit, Nat.zero_add, hg.cell]
 simpa using hu
theorem Wp.enc_size {h : Hd} (hv : h.val = true) : ∃ k : Nat, h.size = ((Wh.enc h.ag h.xf h.l).length : Int) + k ∧ k ≤ 1048576 ∧ (Wh.enc h.ag h.xf h.l).length ≤ 1048576 := by
 obtain ⟨_, _, _, ha⟩ := Wh.val_t hv
 obtain ⟨a1, a2, a3, a4, a5⟩ := Wh.av_t ha
 have he : (Wh.enc h.ag h.xf h.l).length = 16 + 12 * h.l.length := by
  unfold Wh.enc; rw [if_pos (show Wh.val h.ag h.xf h.l = true from hv), Wh.fours_len, Wh.ints_len]; omega
 have hs : h.size = Wh.ends h.l h.l.length := by unfold Hd.size Wh.size; rw [if_pos (show Wh.val h.ag h.xf h.l = true from hv)]
 have hsm := Wh.sm_bd (Wh.alls_cnt a3) h.l.length (Nat.le_refl _)
 have hen : Wh.ends h.l h.l.length = 16 + 12 * (h.l.length : Int) + Wh.sm h.l h.l.length := rfl
 refine ⟨(Wh.sm h.l h.l.length).toNat, ?_, by omega, by omega⟩
 rw [hs, he, hen]
 omega
theorem Wp.create_no {S : Vf.Sv} {n : List UInt8} {h : Hd} (hv : h.val = false) : Wp.create S n h = (S, 1) := by unfold Wp.create; rw [if_pos hv]
theorem Wp.create_yes {S : Vf.Sv} {n : List UInt8} {h : Hd} {k : Nat} (hv : h.val = true) (hk : h.size = ((Wh.enc h.ag h.xf h.l).length : Int) + k) :
 Wp.create S n h = if (Vf.create S n (Wh.enc h.ag h.xf h.l ++ List.replicate k 0)).2 = 0 then ({ (Vf.create S n (Wh.enc h.ag h.xf h.l ++ List.replicate k 0)).1 with was := (Vf.create S n (Wh.enc h.ag h.xf h.l ++ List.replicate k 0)).1.now, l := [] }, 0) else ((Vf.create S n (Wh.enc h.ag h.xf h.l ++ List.replicate k 0)).1, (Vf.create S n (Wh.enc h.ag h.xf h.l ++ List.replicate k 0)).2) := by
 have e : (h.size - ((Wh.enc h.ag h.xf h.l).length : Int)).toNat = k := by omega
 unfold Wp.create
 rw [if_neg (by rw [hv]; simp)]
 dsimp only
 rw [e]
theorem two_below {B : Nat} (w : World) (o o' : Obj) (hB : B ≤ w.heap.size) : Below B w ((w.alloc o).alloc o') := ((Below.refl _ _).alloc hB _).alloc (by simp; omega) _
theorem two_row (w : World) (o : Obj) (cs : Array Value) {t : TypeId} : RowAt ((w.alloc o).alloc (.cells cs t)) (w.heap.size + 1) t cs := by
 rw [show w.heap.size + 1 = (w.alloc o).heap.size by simp]
 exact RowAt.new _ _ _
theorem two_zero (w : World) (k : Nat) (hk : k ≤ 1048576) (o : Obj) : BsT 0 ((w.alloc (.cells (by8 (List.replicate k 0)).toArray 5)).alloc o) (.slice (some ⟨w.heap.size, 0, none⟩) k k) (List.replicate k 0) := by
 have h := OwnB.fresh w (List.replicate k 0) 0 (Nat.zero_le _) (by rw [List.length_replicate]; exact hk)
 rw [List.length_replicate] at h
 exact BsT.own (h.below ((Below.refl _ _).alloc (Nat.le_refl _) _)) (Nat.zero_le _)
theorem rcreate_any {w : World} {V : Nat → Prop} {c fs : Nat} {S : Vf.Sv} (ro : RO w V fs c S) (hc : c ≤ 999900) (n : List UInt8) (h : Hd) (A : Option Addr) (cap : Nat) (hrow : Row w A h.l cap) :
 Calls Tryz.prog 12 #[.pointer (some ⟨fs, 0, none⟩), .string ⟨n.toArray⟩, .agg #[.int .i64 h.ag, .int .i64 h.xf, .slice A h.l.length cap]] w fun e w' => e = .returned (.int .i64 (Wp.create S n h).2) ∧ RO w' V fs (c + 1) (Wp.create S n h).1 ∧ Kp (fun b => ¬ V b) w w' := by
 have HEN : Hid (∀ W, Below w.heap.size w W → Calls Tryz.prog 34 #[.agg #[.int .i64 h.ag, .int .i64 h.xf, .slice A h.l.length cap]] W (Coded W (Wh.enc h.ag h.xf h.l) (if Wh.val h.ag h.xf h.l = true then 0 else 1))) := Lib.hid fun W hb => rencode_any _ _ _ A cap W (hrow.below hb)
 have HSZ : Hid (∀ W, Below w.heap.size w W → Calls Tryz.prog 30 #[.agg #[.int .i64 h.ag, .int .i64 h.xf, .slice A h.l.length cap]] W fun e w' => e = .returned (.int .i64 h.size) ∧ Below W.heap.size W w') := Lib.hid fun W hb => rsize_any _ _ _ A cap W (hrow.below hb)
 have HRO := Lib.hid ro
 clear ro hrow
 have hX : Below w.heap.size w (w.alloc (.cells #[.int .i64 h.ag, .int .i64 h.xf, .slice A h.l.length cap] 24)) := (Below.refl _ _).alloc (Nat.le_refl _) _
 cases hv : h.val
 ·have HQ := Lib.hid (create_no (S := S) (n := n) hv)
  rw [show Wh.val h.ag h.xf h.l = false from hv] at HEN
  simp only [Bool.false_eq_true, if_false] at HEN
  clear hv HSZ
  generalize Wp.create S n h = Q at *
  generalize Wh.enc h.ag h.xf h.l = E at *
  generalize h.ag = ag at *
  generalize h.xf = xf at *
  go_enter Tryz.func12, Tryz.ntmps12
  go_wp2_with (go_at_call 34; (with_reducible refine (HEN.out _ hX).mono ?_); rintro e w1 ⟨v1, rfl, ho1, hb1⟩; have HB1 := Lib.hid (hX.trans (hb1.mono hX.size)); clear hb1 ho1)
  go_ret
  exact ⟨by rw [HQ.out]; rfl, by rw [HQ.out]; exact (HRO.out.below HB1.out).more (by omega) (fun _ h => h), Kp.of_below HB1.out⟩
 ·obtain ⟨k, hk, k1, k2⟩ := enc_size hv
  have HQ := Lib.hid (create_yes (S := S) (n := n) hv hk)
  rw [show Wh.val h.ag h.xf h.l = true from hv] at HEN
  simp only [if_true] at HEN
  rw [hk] at HSZ
  clear hv hk
  generalize Wp.create S n h = Q at *
  generalize hE : Wh.enc h.ag h.xf h.l = E at *
  clear hE
  have hmk := zeros_make k (by omega)
  generalize hCR : Vf.create S n (E ++ List.replicate k 0) = R at *
  have HCR := Lib.hid hCR
  clear hCR
  obtain ⟨m, hm⟩ : ∃ m, Hid (m = E.length) := ⟨_, Lib.hid rfl⟩
  rw [← hm.out] at HSZ k2
  have hsub : ((m : Int) + (k : Int)) - (m : Int) = (k : Int) := by omega
  have hwk : IntKind.i64.wrap (k : Int) = (k : Int) := IntWalk.i64_in _ (by omega)
  generalize h.ag = ag at *
  generalize h.xf = xf at *
  obtain ⟨sz, hsz⟩ : ∃ sz, (m : Int) + (k : Int) = sz := ⟨_, rfl⟩
  rw [hsz] at HSZ hsub
  have HFC : Hid (∀ W b0 v1 v2, Below w.heap.size w W → BsT 0 W v1 E → BsT 0 W v2 (List.replicate k 0) → RowAt W b0 49 #[v1, v2] → Calls Tryz.prog 20 #[.pointer (some ⟨fs, 0, none⟩), .string ⟨n.toArray⟩, .slice (some ⟨b0, 0, none⟩) 2 2] W fun e w' => e = .returned (.int .i64 R.2) ∧ RO w' V fs (c + 1) R.1 ∧ Kp (fun b => ¬ V b) W w') := Lib.hid fun W b0 v1 v2 hb h1 h2 hg => by
   have hfl : [E, List.replicate k 0].flatten = E ++ List.replicate k 0 := by simp
   have h := rocreate (HRO.out.below hb) (by omega) n [E, List.replicate k 0] _ (ps_two h1 h2 hg) (by simp) (by rw [hfl, List.length_append, List.length_replicate]; have := hm.out; omega)
   rw [hfl, HCR.out] at h
   exact h
  by_cases hr0 : R.2 = 0
  ·have HQ2 : Hid (Q = ({ R.1 with was := R.1.now, l := [] }, 0)) := Lib.hid (by rw [HQ.out, if_pos hr0])
   rw [hr0] at HFC
   clear HQ hr0
   go_enter Tryz.func12, Tryz.ntmps12
   go_wp2_with first
    | (go_at_call 34; (with_reducible refine (HEN.out _ hX).mono ?_); rintro e w1 ⟨v1, rfl, ho1, hb1⟩; have hbx := hb1; have HB1 := Lib.hid (hX.trans (hb1.mono hX.size)); have HO1 := Lib.hid ho1; obtain ⟨hc1, hf1⟩ := bcell hb1; have hq1 : w.heap.size < w1.heap.size := Nat.lt_of_lt_of_le (by simp) hb1.size; obtain ⟨A1, c1, rfl, _⟩ := ho1.lit; rw [← hm.out] at *; clear hb1 ho1 hbx)
    | (go_at_call 30; (with_reducible refine (HSZ.out _ HB1.out).mono ?_); rintro e w2 ⟨rfl, hb2⟩; have HB2 := Lib.hid (HB1.out.trans (hb2.mono HB1.out.size)); have HO2 := Lib.hid (HO1.out.below hb2); have hs2 := hb2.size; clear hb2)
    | (go_at_call 20; (with_reducible refine (HFC.out _ _ _ _ (HB2.out.trans (two_below w2 _ _ HB2.out.size)) (BsT.own (HO2.out.below (two_below w2 _ _ (Nat.le_refl _))) (Nat.zero_le _)) (two_zero w2 k (by omega) _) (two_row w2 _ _)).mono ?_); rintro e w3 ⟨rfl, hro3, hk3⟩; have HRO3 := Lib.hid hro3; have HK3 : Hid (Kp (fun b => ¬ V b) w w3) := Lib.hid ((Kp.of_below (HB2.out.trans (two_below w2 _ _ HB2.out.size))).trans hk3 (fun _ _ h => h)); clear hro3 hk3)
    | (go_at_call 35; (with_reducible refine (rosync HRO3.out).mono ?_); rintro e w4 ⟨rfl, hro4, hk4⟩)
   go_ret
   exact ⟨by rw [HQ2.out]; rfl, by rw [HQ2.out]; exact hro4, HK3.out.trans hk4 (fun _ _ h => h)⟩
  ·have HQ2 : Hid (Q = (R.1, R.2)) := Lib.hid (by rw [HQ.out, if_neg hr0])
   obtain ⟨R1, r⟩ := R
   have hrb : (r == 0) = false := by simpa using hr0
   clear HQ hr0
   go_enter Tryz.func12, Tryz.ntmps12
   go_wp2_with first
    | (go_at_call 34; (with_reducible refine (HEN.out _ hX).mono ?_); rintro e w1 ⟨v1, rfl, ho1, hb1⟩; have hbx := hb1; have HB1 := Lib.hid (hX.trans (hb1.mono hX.size)); have HO1 := Lib.hid ho1; obtain ⟨hc1, hf1⟩ := bcell hb1; have hq1 : w.heap.size < w1.heap.size := Nat.lt_of_lt_of_le (by simp) hb1.size; obtain ⟨A1, c1, rfl, _⟩ := ho1.lit; rw [← hm.out] at *; clear hb1 ho1 hbx)
    | (go_at_call 30; (with_reducible refine (HSZ.out _ HB1.out).mono ?_); rintro e w2 ⟨rfl, hb2⟩; have HB2 := Lib.hid (HB1.out.trans (hb2.mono HB1.out.size)); have HO2 := Lib.hid (HO1.out.below hb2); have hs2 := hb2.size; clear hb2)
    | (go_at_call 20; (with_reducible refine (HFC.out _ _ _ _ (HB2.out.trans (two_below w2 _ _ HB2.out.size)) (BsT.own (HO2.out.below (two_below w2 _ _ (Nat.le_refl _))) (Nat.zero_le _)) (two_zero w2 k (by omega) _) (two_row w2 _ _)).mono ?_); rintro e w3 ⟨rfl, hro3, hk3⟩; have HRO3 := Lib.hid hro3; have HK3 : Hid (Kp (fun b => ¬ V b) w w3) := Lib.hid ((Kp.of_below (HB2.out.trans (two_below w2 _ _ HB2.out.size))).trans hk3 (fun _ _ h => h)); clear hro3 hk3)
   go_ret
   exact ⟨by rw [HQ2.out]; rfl, by rw [HQ2.out]; exact HRO3.out, HK3.out⟩
end
section
open Go.RowKit Go.Sort
open Fx (Vl)
open Me
open Wp
theorem Wp.Ps.laid {w : World} {G : Nat → Prop} {v : Value} {ps : List (List UInt8)} (h : Vf.Ps w G v ps) : Vf.Ps w (fun b => b < w.heap.size) v ps := by
 obtain ⟨A, c, xs, e, h1, h2, h3, h4⟩ := h
 exact ⟨A, c, xs, e, h1, h2, h3.mono fun i hi _ => hi, h4.mono fun l cs hc => by
  obtain ⟨v, rfl, A', c', e', k1, k2, k3⟩ := hc
  exact ⟨v, rfl, A', c', e', k1, k2, k3.mono fun i hi _ => hi⟩⟩
theorem create_yes_any {w : World} {V : Nat → Prop} {c fs : Nat} {S : Vf.Sv} (ro : PO w V fs c S) (hc : c ≤ 499000) (n : List UInt8) (h : Hd) (A : Option Addr) (cap : Nat) (hrow : Row w A h.l cap) :
 Calls Tryz.prog 11 #[.pointer (some ⟨fs, 0, none⟩), .string ⟨n.toArray⟩, .agg #[.int .i64 h.ag, .int .i64 h.xf, .slice A h.l.length cap]] w fun e w' => e = .returned (.int .i64 (Wp.create S n h).2) ∧ PO w' V fs (c + 1) (Wp.create S n h).1 ∧ Kp (fun b => ¬ V b) w w' := by
 have HEN : Hid (∀ W, Below w.heap.size w W → Calls Tryz.prog 31 #[.agg #[.int .i64 h.ag, .int .i64 h.xf, .slice A h.l.length cap]] W (Coded W (Wh.enc h.ag h.xf h.l) (if Wh.val h.ag h.xf h.l = true then 0 else 1))) := Lib.hid fun W hb => encode_any _ _ _ A cap W (hrow.below hb)
 have HSZ : Hid (∀ W, Below w.heap.size w W → Calls Tryz.prog 32 #[.agg #[.int .i64 h.ag, .int .i64 h.xf, .slice A h.l.length cap]] W fun e w' => e = .returned (.int .i64 h.size) ∧ Below W.heap.size W w') := Lib.hid fun W hb => wsize_any _ _ _ A cap W (hrow.below hb)
 have HRO := Lib.hid ro
 clear ro hrow
 have hX : Below w.heap.size w (w.alloc (.cells #[.int .i64 h.ag, .int .i64 h.xf, .slice A h.l.length cap] 24)) := (Below.refl _ _).alloc (Nat.le_refl _) _
 cases hv : h.val
 ·have HQ := Lib.hid (create_no (S := S) (n := n) hv)
  rw [show Wh.val h.ag h.xf h.l = false from hv] at HEN
  simp only [Bool.false_eq_true, if_false] at HEN
  clear hv HSZ
  generalize Wp.create S n h = Q at *
  generalize Wh.enc h.ag h.xf h.l = E at *
  generalize h.ag = ag at *
  generalize h.xf = xf at *
  go_enter Tryz.func11, Tryz.ntmps11
  go_wp2_with (go_at_call 31; (with_reducible refine (HEN.out _ hX).mono ?_); rintro e w1 ⟨v1, rfl, ho1, hb1⟩; have HB1 := Lib.hid (hX.trans (hb1.mono hX.size)); clear hb1 ho1)
  go_ret
  exact ⟨by rw [HQ.out]; rfl, by rw [HQ.out]; exact (HRO.out.below HB1.out).more (by omega) (fun _ h => h), Kp.of_below HB1.out⟩
 ·obtain ⟨k, hk, k1, k2⟩ := enc_size hv
  have HQ := Lib.hid (create_yes (S := S) (n := n) hv hk)
  rw [show Wh.val h.ag h.xf h.l = true from hv] at HEN
  simp only [if_true] at HEN
  rw [hk] at HSZ
  clear hv hk
  generalize Wp.create S n h = Q at *
  generalize hE : Wh.enc h.ag h.xf h.l = E at *
  clear hE
  have hmk := zeros_make k (by omega)
  generalize hCR : Vf.create S n (E ++ List.replicate k 0) = R at *
  have HCR := Lib.hid hCR
  clear hCR
  obtain ⟨m, hm⟩ : ∃ m, Hid (m = E.length) := ⟨_, Lib.hid rfl⟩
  rw [← hm.out] at HSZ k2
  have hsub : ((m : Int) + (k : Int)) - (m : Int) = (k : Int) := by omega
  have hwk : IntKind.i64.wrap (k : Int) = (k : Int) := IntWalk.i64_in _ (by omega)
  generalize h.ag = ag at *
  generalize h.xf = xf at *
  obtain ⟨sz, hsz⟩ : ∃ sz, (m : Int) + (k : Int) = sz := ⟨_, rfl⟩
  rw [hsz] at HSZ hsub
  have HFC : Hid (∀ W b0 v1 v2, Below w.heap.size w W → BsT 0 W v1 E → BsT 0 W v2 (List.replicate k 0) → RowAt W b0 49 #[v1, v2] → Calls Tryz.prog 19 #[.pointer (some ⟨fs, 0, none⟩), .string ⟨n.toArray⟩, .slice (some ⟨b0, 0, none⟩) 2 2] W fun e w' => e = .returned (.int .i64 R.2) ∧ PO w' V fs (c + 1) R.1 ∧ Kp (fun b => ¬ V b) W w') := Lib.hid fun W b0 v1 v2 hb h1 h2 hg => by
   have hfl : [E, List.replicate k 0].flatten = E ++ List.replicate k 0 := by simp
   have h := pocreate (HRO.out.below hb) (by omega) n [E, List.replicate k 0] _ (Wp.Ps.laid (ps_two h1 h2 hg)) (by simp) (by rw [hfl, List.length_append, List.length_replicate]; have := hm.out; omega) (fun _ h => h)
   rw [hfl, HCR.out] at h
   exact h
  by_cases hr0 : R.2 = 0
  ·have HQ2 : Hid (Q = ({ R.1 with was := R.1.now, l := [] }, 0)) := Lib.hid (by rw [HQ.out, if_pos hr0])
   rw [hr0] at HFC
   clear HQ hr0
   go_enter Tryz.func11, Tryz.ntmps11
   go_wp2_with first
    | (go_at_call 31; (with_reducible refine (HEN.out _ hX).mono ?_); rintro e w1 ⟨v1, rfl, ho1, hb1⟩; have hbx := hb1; have HB1 := Lib.hid (hX.trans (hb1.mono hX.size)); have HO1 := Lib.hid ho1; obtain ⟨hc1, hf1⟩ := bcell hb1; have hq1 : w.heap.size < w1.heap.size := Nat.lt_of_lt_of_le (by simp) hb1.size; obtain ⟨A1, c1, rfl, _⟩ := ho1.lit; rw [← hm.out] at *; clear hb1 ho1 hbx)
    | (go_at_call 32; (with_reducible refine (HSZ.out _ HB1.out).mono ?_); rintro e w2 ⟨rfl, hb2⟩; have HB2 := Lib.hid (HB1.out.trans (hb2.mono HB1.out.size)); have HO2 := Lib.hid (HO1.out.below hb2); have hs2 := hb2.size; clear hb2)
    | (go_at_call 19; (with_reducible refine (HFC.out _ _ _ _ (HB2.out.trans (two_below w2 _ _ HB2.out.size)) (BsT.own (HO2.out.below (two_below w2 _ _ (Nat.le_refl _))) (Nat.zero_le _)) (two_zero w2 k (by omega) _) (two_row w2 _ _)).mono ?_); rintro e w3 ⟨rfl, hro3, hk3⟩; have HRO3 := Lib.hid hro3; have HK3 : Hid (Kp (fun b => ¬ V b) w w3) := Lib.hid ((Kp.of_below (HB2.out.trans (two_below w2 _ _ HB2.out.size))).trans hk3 (fun _ _ h => h)); clear hro3 hk3)
    | (go_at_call 33; (with_reducible refine (posync HRO3.out).mono ?_); rintro e w4 ⟨rfl, hro4, hk4⟩)
   go_ret
   exact ⟨by rw [HQ2.out]; rfl, by rw [HQ2.out]; exact hro4, HK3.out.trans hk4 (fun _ _ h => h)⟩
  ·have HQ2 : Hid (Q = (R.1, R.2)) := Lib.hid (by rw [HQ.out, if_neg hr0])
   obtain ⟨R1, r⟩ := R
   have hrb : (r == 0) = false := by simpa using hr0
   clear HQ hr0
   go_enter Tryz.func11, Tryz.ntmps11
   go_wp2_with first
    | (go_at_call 31; (with_reducible refine (HEN.out _ hX).mono ?_); rintro e w1 ⟨v1, rfl, ho1, hb1⟩; have hbx := hb1; have HB1 := Lib.hid (hX.trans (hb1.mono hX.size)); have HO1 := Lib.hid ho1; obtain ⟨hc1, hf1⟩ := bcell hb1; have hq1 : w.heap.size < w1.heap.size := Nat.lt_of_lt_of_le (by simp) hb1.size; obtain ⟨A1, c1, rfl, _⟩ := ho1.lit; rw [← hm.out] at *; clear hb1 ho1 hbx)
    | (go_at_call 32; (with_reducible refine (HSZ.out _ HB1.out).mono ?_); rintro e w2 ⟨rfl, hb2⟩; have HB2 := Lib.hid (HB1.out.trans (hb2.mono HB1.out.size)); have HO2 := Lib.hid (HO1.out.below hb2); have hs2 := hb2.size; clear hb2)
    | (go_at_call 19; (with_reducible refine (HFC.out _ _ _ _ (HB2.out.trans (two_below w2 _ _ HB2.out.size)) (BsT.own (HO2.out.below (two_below w2 _ _ (Nat.le_refl _))) (Nat.zero_le _)) (two_zero w2 k (by omega) _) (two_row w2 _ _)).mono ?_); rintro e w3 ⟨rfl, hro3, hk3⟩; have HRO3 := Lib.hid hro3; have HK3 : Hid (Kp (fun b => ¬ V b) w w3) := Lib.hid ((Kp.of_below (HB2.out.trans (two_below w2 _ _ HB2.out.size))).trans hk3 (fun _ _ h => h)); clear hro3 hk3)
   go_ret
   exact ⟨by rw [HQ2.out]; rfl, by rw [HQ2.out]; exact HRO3.out, HK3.out⟩
end
end Go.Proofs.YtbakngbmfgnmcaaGreatDoor
