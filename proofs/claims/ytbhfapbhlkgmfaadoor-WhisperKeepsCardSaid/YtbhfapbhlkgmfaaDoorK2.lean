/-
  WsKf: CONTRACTS: chapter 7's law of what is kept: the walk behind its conditions.
-/
import Derived.Test.YtbhfapbhlkgmfaaDoorK1
import Derived.Test.YtbhfapbhlkgmfaaDoorJ5
import Derived.Test.YtbhfapbhlkgmfaaDoorJ13

namespace Go.Proofs.YtbhfapbhlkgmfaaDoor
open Go.RowKit Go.Sort
open Fx (Vl)
open Me
open Wp
open Ws

theorem Ws.Kw.base {w0 W : World} {fs c : Nat} {S : Vf.Sv} (h : Kw w0 fs c S W) : Below w0.heap.size w0 W := by
  obtain ⟨h1, _⟩ := h
  exact h1
theorem Ws.Kw.fetch {w0 W : World} {fs c : Nat} {S : Vf.Sv} (h : Kw w0 fs c S W) (n : List UInt8) (hnl : n.length ≤ 1048576) (now from_ until_ : Int) :
    Calls Tryd.prog 13 #[.pointer (some ⟨fs, 0, none⟩), .string ⟨n.toArray⟩, .int .i64 now, .int .i64 from_, .int .i64 until_] W (Fetched W n (Wp.fetch S.now n now from_ until_)) := by
  obtain ⟨_, V, h2, _⟩ := h
  exact fetch_any7 h2 n hnl now from_ until_
/-- One point's update in a file that stands. -/
theorem Ws.Kw.one {w0 W : World} {fs c : Nat} {S : Vf.Sv} (h : Kw w0 fs c S W) (hg : Gv w0) (now a v : Int) (hc : c ≤ 490000) :
    Calls Tryd.prog 10 #[.pointer (some ⟨fs, 0, none⟩), .string ⟨#[97]⟩, .int .i64 now, .slice (some ⟨W.heap.size, 0, none⟩) 1 1] (W.alloc (.cells #[.int .i64 a, .int .i64 v] 26)) fun e w' => e = .returned (.tuple #[.int .i64 (Wp.update S [97] now [(a, v)]).2.1, .int .i64 (Wp.update S [97] now [(a, v)]).2.2]) ∧ Hid (Kw w0 fs (c + 27) (Wp.update S [97] now [(a, v)]).1 w') := by
  have hb : Below W.heap.size W (W.alloc (.cells #[.int .i64 a, .int .i64 v] 26)) := (Below.refl _ _).alloc (Nat.le_refl _) _
  have hr : RowAt (W.alloc (.cells #[.int .i64 a, .int .i64 v] 26)) W.heap.size 26 #[.int .i64 a, .int .i64 v] := RowAt.new W _ _
  have hrow : Row (W.alloc (.cells #[.int .i64 a, .int .i64 v] 26)) (some ⟨W.heap.size, 0, none⟩) [(a, v)] 1 := by
    refine ⟨Nat.le_refl _, fun _ => ⟨_, _, rfl, ⟨hr.lt, ?_, ?_⟩⟩⟩
    · intro i hi
      match i, hi with
      | 0, _ => exact hr.cell 0
    · intro i hi
      match i, hi with
      | 0, _ => exact hr.cell 1
  exact h.update hg hb [97] now [(a, v)] (some ⟨W.heap.size, 0, none⟩) 1 hrow (fun x e => by injection e with e; subst e; exact .inr ⟨Nat.le_refl _, by simp⟩) (by simp; omega)

set_option maxRecDepth 100000 in
set_option maxHeartbeats 8000000 in
theorem keeps_main (ag xf : Int) (l : List (Int × Int)) (A : Option Addr) (cap : Nat) (now pa pn : Int) (lp : List (Int × Int)) (Ap : Option Addr) (capp : Nat) (later : Int) (w : World) (hg : Gv w) (hr : Row w A l cap) (hp : Row w Ap lp capp)
    (H : Hd) (hH : H = ⟨ag, xf, l⟩) (hHv : H.val = true) (hHs : H.size ≤ 3000) (t1 : ¬ now < 1) (t2 : ¬ 4294867295 < now) (t3 : ¬ later < 0) (t4 : ¬ 100000 < later) (t5 : ¬ 20 < (lp.length : Int)) (t6 : ¬ pa < 1) (t7 : ¬ now < pa)
    (t8 : ¬ now - pa ≥ H.step 0 * H.cnt 0) (t9 : ¬ Sl.al pa (H.step 0) = 0) (t10 : ¬ pn < -4611686018427387904) (t11 : ¬ pn > 4611686018427387904) :
    Calls Tryd.prog 3 #[.agg #[.int .i64 ag, .int .i64 xf, .slice A l.length cap], .int .i64 now, .agg #[.int .i64 pa, .int .i64 pn], .slice Ap lp.length capp, .int .i64 later] w fun e w' => e = .returned (.bool true) ∧ Below w.heap.size w w' := by
  obtain ⟨X, hX⟩ : ∃ X, X = (w.alloc (.cells #[.int .i64 ag, .int .i64 xf, .slice A l.length cap] 24)).alloc (.cells #[.int .i64 pa, .int .i64 pn] 26) := ⟨_, rfl⟩
  have hbX : Below w.heap.size w X := by rw [hX]; exact ((Below.refl _ _).alloc (Nat.le_refl _) _).alloc (by simp) _
  have HX := Lib.hid hbX
  obtain ⟨p, hpw⟩ : ∃ p, p = w.heap.size := ⟨_, rfl⟩
  obtain ⟨q, hqw⟩ : ∃ q, q = w.heap.size + 1 := ⟨_, rfl⟩
  have hrx : RowAt X p 24 #[.int .i64 ag, .int .i64 xf, .slice A l.length cap] := by rw [hX, hpw]; exact (RowAt.new w _ _).below ((Below.refl _ _).alloc (Nat.le_refl _) _) (by simp)
  have hry : RowAt X q 26 #[.int .i64 pa, .int .i64 pn] := by rw [hX, hqw]; exact (by simpa using RowAt.new (w.alloc (.cells #[.int .i64 ag, .int .i64 xf, .slice A l.length cap] 24)) #[.int .i64 pa, .int .i64 pn] 26)
  have HRX := Lib.hid hrx
  have HRY := Lib.hid hry
  have HSM : Hid (∀ W, Below X.heap.size X W → Calls Tryd.prog 6 #[.agg #[.int .i64 ag, .int .i64 xf, .slice A l.length cap]] W fun e w' => e = .returned (.bool true) ∧ Below W.heap.size W w') := Lib.hid fun W hb => by
    have h := small_any ag xf l A cap W ((hr.below hbX).below hb)
    have e : (Wh.val ag xf l && decide (Wh.size ag xf l ≤ 3000)) = true := by subst hH; simp; exact ⟨hHv, hHs⟩
    rw [e] at h
    exact h
  have hlen := Hd.len hHv
  have hHl : H.l = l := by rw [hH]
  have HHL := Lib.hid hHl
  rw [hHl] at hlen
  obtain ⟨bA, off, rfl, har⟩ := hr.2 (by omega)
  have HRW : Hid (∀ W, Below X.heap.size X W → Row W (some ⟨bA, off, none⟩) H.l cap ∧ Row W Ap lp capp) := Lib.hid fun W hb => ⟨by rw [hHl]; exact (hr.below hbX).below hb, (hp.below hbX).below hb⟩
  obtain ⟨⟨n1, n2⟩, n3, n4⟩ := Hd.nums hHv 0 (by rw [hHl]; omega)
  -- the plain story
  obtain ⟨hc0, B1, hB1⟩ := create_new7 hHv hHs
  have hal := Sl.al_bd n1 (by omega : 0 ≤ pa)
  obtain ⟨u1, B2, hB2, hs2⟩ := lays_fine hB1 now (pa, pn) (by dsimp only; omega) (by dsimp only; omega) (by omega) (by unfold Fx.inR; simp; omega) (by dsimp only; omega) t9
  obtain ⟨u2, u3⟩ := update_one hB1 now (pa, pn) (by omega) (by omega)
  rw [u1, if_pos rfl] at u3
  rw [← u2] at hB2
  have HFT : Hid (∀ (S : Vf.Sv) (B : List UInt8), Stands S.now [97] H B → slot B (at_ H 0 pa).toNat = (Sl.al pa (H.step 0), pn) → now + later - (Sl.al pa (H.step 0) - 1) ≤ H.step 0 * H.cnt 0 → fetch S.now [97] (now + later) (Sl.al pa (H.step 0) - 1) (Sl.al pa (H.step 0)) = (some ⟨Sl.al pa (H.step 0), H.step 0, [⟨true, pn⟩]⟩, 0)) := Lib.hid fun S B hB hs hc =>
    fetch_slot hB (now + later) _ pn pa (by omega) rfl t9 hs (by unfold Fx.inR; simp; omega) (by omega) (by omega) hc
  have HKP : Hid (∀ (S : Vf.Sv) (B : List UInt8) (a v : Int), Stands S.now [97] H B → slot B (at_ H 0 pa).toNat = (Sl.al pa (H.step 0), pn) → (1 ≤ a → a ≤ now → Sl.pl (H.step 0) (H.cnt 0) a ≠ Sl.pl (H.step 0) (H.cnt 0) pa) → ∃ B', Stands (update S [97] now [(a, v)]).1.now [97] H B' ∧ slot B' (at_ H 0 pa).toNat = (Sl.al pa (H.step 0), pn)) := Lib.hid fun S B a v hB hs hne => by
    obtain ⟨v1, v2⟩ := update_one hB now (a, v) (by omega) (by omega)
    obtain ⟨B', hB', hs'⟩ := lays_keep hB now (a, v) pa (by omega) hne
    exact ⟨B', by rw [v1]; exact hB', hs'.trans hs⟩
  have HST : Hid (Stands (update (create Kt.s0 [97] H).1 [97] now [(pa, pn)]).1.now [97] H B2 ∧ slot B2 (at_ H 0 pa).toNat = (Sl.al pa (H.step 0), pn)) := Lib.hid ⟨hB2, hs2⟩
  have HCA : Hid (Calls Tryd.prog 12 #[] w fun _ _ => True) ∨ True := .inr trivial
  clear HCA hB1 hB2 hs2 u1 u2
  have hHag : H.ag = ag := by rw [hH]
  have hHxf : H.xf = xf := by rw [hH]
  obtain ⟨s, hs⟩ : ∃ s, s = H.step 0 := ⟨_, rfl⟩
  obtain ⟨k, hk⟩ : ∃ k, k = H.cnt 0 := ⟨_, rfl⟩
  have hs' : (Wh.At l 0).1 = s := by rw [hs, ← hHl]; rfl
  have hk' : (Wh.At l 0).2 = k := by rw [hk, ← hHl]; rfl
  rw [← hs, ← hk] at HFT HKP
  rw [← hs] at n1 n2 HST hal t9
  rw [← hk] at n3 n4
  rw [← hs, ← hk] at t8
  obtain ⟨t, ht⟩ : ∃ t, t = Sl.al pa s := ⟨_, rfl⟩
  rw [← ht] at HFT HKP HST hal t9
  obtain ⟨o, ho⟩ : ∃ o, o = (at_ H 0 pa).toNat := ⟨_, rfl⟩
  rw [← ho] at HFT HKP HST
  obtain ⟨S1, hS1⟩ : ∃ S1, S1 = (create Kt.s0 [97] H).1 := ⟨_, rfl⟩
  rw [← hS1] at u3 HST
  have HCR : Hid (∀ w0 fs W, Kw w0 fs 0 ⟨65536, [], [], []⟩ W → Below X.heap.size X W → Calls Tryd.prog 9 #[.pointer (some ⟨fs, 0, none⟩), .string ⟨#[97]⟩, .agg #[.int .i64 ag, .int .i64 xf, .slice (some ⟨bA, off, none⟩) l.length cap]] W fun e w' => e = .returned (.int .i64 0) ∧ Hid (Kw w0 fs 1 S1 w')) := Lib.hid fun w0 fs W h hb => by
    have h1 := h.create (Below.refl _ _) (by decide) [97] H (some ⟨bA, off, none⟩) cap (HRW.out W hb).1
    rw [show (⟨65536, [], [], []⟩ : Vf.Sv) = Kt.s0 from rfl, hc0, ← hS1, hHag, hHxf, hHl] at h1
    exact h1
  obtain ⟨S2, hS2⟩ : ∃ S2, S2 = (update S1 [97] now [(pa, pn)]).1 := ⟨_, rfl⟩
  rw [← hS2] at HST
  have HUP : Hid (∀ w0 fs W, Kw w0 fs 1 S1 W → Gv w0 → Calls Tryd.prog 10 #[.pointer (some ⟨fs, 0, none⟩), .string ⟨#[97]⟩, .int .i64 now, .slice (some ⟨W.heap.size, 0, none⟩) 1 1] (W.alloc (.cells #[.int .i64 pa, .int .i64 pn] 26)) fun e w' => e = .returned (.tuple #[.int .i64 1, .int .i64 0]) ∧ Hid (Kw w0 fs 28 S2 w')) := Lib.hid fun w0 fs W h hg0 => by
    have h1 := h.one hg0 now pa pn (by decide)
    rw [u3, ← hS2] at h1
    exact h1
  have HF1 : Hid (∀ W, Below X.heap.size X W → W.cell? ⟨bA, off, none⟩ = some (.int .i64 s) ∧ W.cell? ⟨bA, off + 1, none⟩ = some (.int .i64 k) ∧ W.cell? ⟨p, 0, none⟩ = some (.int .i64 ag) ∧ W.cell? ⟨p, 1, none⟩ = some (.int .i64 xf) ∧ W.cell? ⟨p, 2, none⟩ = some (.slice (some ⟨bA, off, none⟩) l.length cap)) := Lib.hid fun W hb => by
    have h1 := (har.below HX.out).below hb
    have h2 := HRX.out.below hb HRX.out.lt
    have c0 := h1.st 0 (by omega)
    have c1 := h1.ct 0 (by omega)
    rw [hs'] at c0
    rw [hk'] at c1
    exact ⟨by simpa using c0, by simpa using c1, h2.cell 0, h2.cell 1, h2.cell 2⟩
  have HF2 : Hid (∀ W, Below X.heap.size X W → W.cell? ⟨q, 0, none⟩ = some (.int .i64 pa) ∧ W.cell? ⟨q, 1, none⟩ = some (.int .i64 pn)) := Lib.hid fun W hb => by
    have h2 := HRY.out.below hb HRY.out.lt
    exact ⟨h2.cell 0, h2.cell 1⟩
  have hlI : ¬ ((l.length : Int) ≤ 0) := by omega
  have hsk : 1 ≤ s * k ∧ s * k ≤ 281474976710656 := Wh.mul_bd n1 n2 n3 n4
  have hwm : IntKind.i64.wrap (s * k) = s * k := IntWalk.i64_in _ (by omega)
  have hws : IntKind.i64.wrap (now - pa) = now - pa := IntWalk.i64_in _ (by omega)
  have HAL : Hid (∀ W, Calls Tryd.prog 7 #[.int .i64 pa, .int .i64 s] W fun e w' => e = .returned (.int .i64 t) ∧ W = w') := Lib.hid fun W => by
    rw [ht]
    exact ralign_any pa s (by omega) W
  have HPL : Hid (∀ a W, a ≤ 9223372036854775807 → Calls Tryd.prog 11 #[.agg #[.int .i64 s, .int .i64 k], .int .i64 a] W fun e w' => e = .returned (.int .i64 (Sl.pl s k a)) ∧ Below W.heap.size W w') := Lib.hid fun a W ha => rplace_any s k a ha W
  have HGX : Hid (Gv X) := Lib.hid (hg.below hbX)
  have t9b : (t == 0) = false := by simpa using t9
  have y0 : X.cell? ⟨p, 0, none⟩ = some (.int .i64 ag) := hrx.cell 0
  have y1 : X.cell? ⟨p, 1, none⟩ = some (.int .i64 xf) := hrx.cell 1
  have y2 : X.cell? ⟨p, 2, none⟩ = some (.slice (some ⟨bA, off, none⟩) l.length cap) := hrx.cell 2
  clear hbX hrx hry hg hr hp har hs hk hs' hk' ht ho hS1 hS2 u3 hc0 hH hHv hHs hHl hHag hHxf
  generalize l.length = nl at *
  obtain ⟨n, hn⟩ : ∃ n, n = lp.length := ⟨_, rfl⟩
  have HN := Lib.hid hn
  rw [← hn] at t5 ⊢
  clear hn
  go_enter Tryd.func3, Tryd.ntmps3
  go_wp2_with fail
  rw [← hX, ← hqw, ← hpw]
  clear hX hqw hpw
  go_wp2_with first
    | (go_at_call 6; (with_reducible refine (HSM.out _ (Below.refl _ _)).mono ?_); rintro e w1 ⟨rfl, hb1⟩; have HB1 := Lib.hid hb1; obtain ⟨v0, v1, v2, v3, v4⟩ := HF1.out _ hb1; obtain ⟨x0, x1⟩ := HF2.out (w1.alloc (.cells #[.int .i64 s, .int .i64 k] 30)) (hb1.alloc hb1.size _); clear hb1)
    | (go_at_call 7; ((with_reducible refine (HAL.out _).mono ?_); rintro e w' ⟨rfl, rfl⟩))
  obtain ⟨x, hx⟩ : ∃ x, x = w1.heap.size := ⟨_, rfl⟩
  obtain ⟨Y, hY⟩ : ∃ Y, Y = w1.alloc (.cells #[.int .i64 s, .int .i64 k] 30) := ⟨_, rfl⟩
  have hXY : Below X.heap.size X Y := by rw [hY]; exact HB1.out.alloc HB1.out.size _
  have HXY := Lib.hid hXY
  have HRA : Hid (RowAt Y x 30 #[.int .i64 s, .int .i64 k]) := Lib.hid (by rw [hY, hx]; exact RowAt.new w1 _ _)
  have HGY : Hid (Gv Y) := Lib.hid (HGX.out.below hXY)
  have HN0 := Lib.hid (new_any Y)
  obtain ⟨fs, hfs⟩ : ∃ fs, fs = Y.heap.size := ⟨_, rfl⟩
  rw [← hfs] at HN0
  rw [← hY, ← hx]
  clear hY hx hfs hXY v0 v1 v2 v3 v4 x0 x1
  have HF3 : Hid (∀ W, Below Y.heap.size Y W → W.cell? ⟨x, 0, none⟩ = some (.int .i64 s) ∧ W.cell? ⟨x, 1, none⟩ = some (.int .i64 k) ∧ W.cell? ⟨q, 0, none⟩ = some (.int .i64 pa) ∧ W.cell? ⟨q, 1, none⟩ = some (.int .i64 pn) ∧ W.cell? ⟨p, 0, none⟩ = some (.int .i64 ag) ∧ W.cell? ⟨p, 1, none⟩ = some (.int .i64 xf) ∧ W.cell? ⟨p, 2, none⟩ = some (.slice (some ⟨bA, off, none⟩) nl cap)) := Lib.hid fun W hb => by
    have h1 := HRA.out.below hb HRA.out.lt
    have hb2 := HXY.out.trans (hb.mono HXY.out.size)
    have h2 := HF1.out W hb2
    have h3 := HF2.out W hb2
    exact ⟨h1.cell 0, h1.cell 1, h3.1, h3.2, h2.2.2.1, h2.2.2.2.1, h2.2.2.2.2⟩
  go_wp2_with first
    | (go_at_call 8; (with_reducible refine (HN0.out).mono ?_); rintro e w2 ⟨rfl, h2⟩; obtain ⟨u0, u1, u2, u3, u4, u5, u6⟩ := HF3.out _ h2.out.base)
    | (go_at_call 9; (with_reducible refine (HCR.out _ _ _ h2.out (HXY.out.trans (h2.out.base.mono HXY.out.size))).mono ?_); rintro e w3 ⟨rfl, h3⟩; obtain ⟨z0, z1, z2, z3, z4, z5, z6⟩ := HF3.out _ h3.out.base)
    | (go_at_call 10; (with_reducible refine (HUP.out _ _ _ h3.out HGY.out).mono ?_); rintro e w4 ⟨rfl, h4⟩)
  go_loopw [17] (fun v wr => ∃ (j c : Nat) (S : Vf.Sv) (B : List UInt8), j ≤ n ∧ v = .int .i64 j ∧ c ≤ 28 + 27 * j ∧ Hid (Kw Y fs c S wr) ∧ Hid (Stands S.now [97] H B ∧ slot B o = (t, pn))) (fun v _ => n - (intOf v).toNat)
  case atStart => exact ⟨0, 28, S2, B2, Nat.zero_le _, rfl, by omega, h4, HST⟩
  case round =>
    obtain ⟨j, c, S, B, hj, rfl, hc, HKi, HSi⟩ := hrel
    have hbY := HKi.out.base
    have hn20 : n ≤ 20 := by omega
    by_cases hlt : j < n
    · have hrp := (HRW.out wr (HXY.out.trans (hbY.mono HXY.out.size))).2
      obtain ⟨bP, offP, rfl, harp⟩ := hrp.2 (by rw [← HN.out]; omega)
      have c0 := harp.st j (by rw [← HN.out]; exact hlt)
      have c1 := harp.ct j (by rw [← HN.out]; exact hlt)
      have hbl := harp.lt
      generalize (Wh.At lp j).1 = a at *
      generalize (Wh.At lp j).2 = b at *
      have HFA : Hid (∀ W, Below wr.heap.size wr W → W.cell? ⟨bP, offP + j * 2, none⟩ = some (.int .i64 a) ∧ W.cell? ⟨bP, offP + j * 2 + 1, none⟩ = some (.int .i64 b) ∧ W.cell? ⟨x, 0, none⟩ = some (.int .i64 s) ∧ W.cell? ⟨x, 1, none⟩ = some (.int .i64 k) ∧ W.cell? ⟨q, 0, none⟩ = some (.int .i64 pa) ∧ W.cell? ⟨q, 1, none⟩ = some (.int .i64 pn)) := Lib.hid fun W hb => by
        have h3 := HF3.out W (hbY.trans (hb.mono hbY.size))
        exact ⟨(hb.cell (p := ⟨bP, offP + j * 2, none⟩) hbl).trans c0, (hb.cell (p := ⟨bP, offP + j * 2 + 1, none⟩) hbl).trans c1, h3.1, h3.2.1, h3.2.2.1, h3.2.2.2.1⟩
      have hil : (j : Int) < (n : Int) := by omega
      have hi0 : (0 : Int) ≤ (j : Int) := by omega
      clear hrp harp c0 c1 hbY hbl
      go_wp2_with fail
      by_cases d1 : a ≤ 0
      · have e1 : decide (a > 0) = false := decide_eq_false (by omega)
        have e1' : decide (0 < a) = false := decide_eq_false (by omega)
        refine Inv.region (fun W W' => Below W.heap.size W W') (fun i v W => match i with
          | 0 => v = .slice (some ⟨bP, offP, none⟩) n capp
          | 1 => v = .int .i64 (j : Int)
          | 2 => v = .pointer (some ⟨bP, offP + j * 2, none⟩)
          | 3 => v = .pointer (some ⟨bP, offP + j * 2, none⟩)
          | 4 => v = .int .i64 a
          | 5 => v = .bool false
          | 6 => v = .bool false
          | 7 => v = undef
          | 8 => v = undef
          | 9 => v = undef
          | 10 => v = undef
          | 11 => v = undef
          | 12 => v = undef
          | 13 => v = undef
          | 14 => v = .bool false
          | 15 => v = .bool false
          | 16 => v = undef
          | 17 => v = undef
          | 18 => v = undef
          | 19 => v = undef
          | 20 => v = undef
          | 21 => v = undef
          | 22 => v = undef
          | 23 => v = undef
          | 24 => v = undef
          | 25 => v = undef
          | 26 => v = undef
          | 27 => v = undef
          | 28 => v = .bool false
          | _ => True) (by kernel_rfl) (by kernel_rfl) (by kernel_rfl) (fun W => Below.refl _ _) (fun a b c h k => h.trans (k.mono h.size)) (fun i v W W' h he => ?stab) ?obls ?fin
        case stab =>
          match i, h with
          | 0, h => exact h
          | 1, h => exact h
          | 2, h => exact h
          | 3, h => exact h
          | 4, h => exact h
          | 5, h => exact h
          | 6, h => exact h
          | 7, h => exact h
          | 8, h => exact h
          | 9, h => exact h
          | 10, h => exact h
          | 11, h => exact h
          | 12, h => exact h
          | 13, h => exact h
          | 14, h => exact h
          | 15, h => exact h
          | 16, h => exact h
          | 17, h => exact h
          | 18, h => exact h
          | 19, h => exact h
          | 20, h => exact h
          | 21, h => exact h
          | 22, h => exact h
          | 23, h => exact h
          | 24, h => exact h
          | 25, h => exact h
          | 26, h => exact h
          | 27, h => exact h
          | 28, h => exact h
          | _ + 29, h => exact h
        case obls =>
          refine .cons ?_ (.cons ?_ (.cons ?_ (.cons ?_ (.cons ?_ (.cons ?_ (.cons ?_ (.cons ?_ (.cons ?_ (.cons ?_ (.cons ?_ (.cons ?_ (.cons ?_ (.cons ?_ (.cons ?_ (.cons ?_ (.cons ?_ (.cons ?_ (.cons ?_ (.cons ?_ (.cons ?_ (.cons ?_ (.cons ?_ (.cons ?_ (.cons ?_ (.cons ?_ (.cons ?_ (.cons ?_ (.cons ?_ .nil))))))))))))))))))))))))))))
          · intro ac wx hE hf hd
            have hB : Below wr.heap.size wr wx := ⟨hE.os, hE.tape, hE.output, hE.size, hE.block⟩
            rw [if_pos (Inv.want0 rfl _)]
            have h3 : ac.eval (.tmp 3) = .slice (some ⟨bP, offP, none⟩) n capp := hf 3 (by kernel_rfl)
            clear hf hd
            refine Inv.val (.slice (some ⟨bP, offP, none⟩) n capp) ?_ rfl rfl (Below.refl _ _)
            clear hE hB
            generalize ac.eval = ev at *
            simp [execOp, go_sem, *]
          · intro ac wx hE hf hd
            have hB : Below wr.heap.size wr wx := ⟨hE.os, hE.tape, hE.output, hE.size, hE.block⟩
            rw [if_pos (Inv.want0 rfl _)]
            have h17 : ac.eval (.tmp 17) = .int .i64 (j : Int) := hf 17 (by kernel_rfl)
            clear hf hd
            refine Inv.val (.int .i64 (j : Int)) ?_ rfl rfl (Below.refl _ _)
            clear hE hB
            generalize ac.eval = ev at *
            simp [execOp, go_sem, *]
          · intro ac wx hE hf hd
            have hB : Below wr.heap.size wr wx := ⟨hE.os, hE.tape, hE.output, hE.size, hE.block⟩
            rw [if_pos (Inv.want0 rfl _)]
            have h121 := hd 0 _ (by kernel_rfl) rfl
            change ac.eval (.tmp 121) = .slice (some ⟨bP, offP, none⟩) n capp at h121
            have h122 := hd 1 _ (by kernel_rfl) rfl
            change ac.eval (.tmp 122) = .int .i64 (j : Int) at h122
            clear hf hd
            refine Inv.val (.pointer (some ⟨bP, offP + j * 2, none⟩)) ?_ rfl rfl (Below.refl _ _)
            clear hE hB HFA HPL
            have hcst : ∀ v, ac.eval (.const v) = v := fun _ => rfl
            generalize ac.eval = ev at *
            simp [execOp, go_sem, *]
          · intro ac wx hE hf hd
            have hB : Below wr.heap.size wr wx := ⟨hE.os, hE.tape, hE.output, hE.size, hE.block⟩
            rw [if_pos (Inv.want0 rfl _)]
            have h123 := hd 2 _ (by kernel_rfl) rfl
            change ac.eval (.tmp 123) = .pointer (some ⟨bP, offP + j * 2, none⟩) at h123
            clear hf hd
            refine Inv.val (.pointer (some ⟨bP, offP + j * 2, none⟩)) ?_ rfl rfl (Below.refl _ _)
            clear hE hB HFA HPL
            have hcst : ∀ v, ac.eval (.const v) = v := fun _ => rfl
            generalize ac.eval = ev at *
            simp [execOp, go_sem, *]
          · intro ac wx hE hf hd
            have hB : Below wr.heap.size wr wx := ⟨hE.os, hE.tape, hE.output, hE.size, hE.block⟩
            rw [if_pos (Inv.want0 rfl _)]
            have h124 := hd 3 _ (by kernel_rfl) rfl
            change ac.eval (.tmp 124) = .pointer (some ⟨bP, offP + j * 2, none⟩) at h124
            clear hf hd
            obtain ⟨a0, a1, a2, a3, a4, a5⟩ := HFA.out wx hB
            refine Inv.val (.int .i64 a) ?_ rfl rfl (Below.refl _ _)
            clear hE hB HFA HPL
            have hcst : ∀ v, ac.eval (.const v) = v := fun _ => rfl
            generalize ac.eval = ev at *
            simp [execOp, go_sem, *]
          · intro ac wx hE hf hd
            have hB : Below wr.heap.size wr wx := ⟨hE.os, hE.tape, hE.output, hE.size, hE.block⟩
            rw [if_pos (Inv.want0 rfl _)]
            have h125 := hd 4 _ (by kernel_rfl) rfl
            change ac.eval (.tmp 125) = .int .i64 a at h125
            clear hf hd
            refine Inv.val (.bool false) ?_ rfl rfl (Below.refl _ _)
            clear hE hB HFA HPL
            have hcst : ∀ v, ac.eval (.const v) = v := fun _ => rfl
            generalize ac.eval = ev at *
            simp [execOp, go_sem, *]
          · intro ac wx hE hf hd
            have hB : Below wr.heap.size wr wx := ⟨hE.os, hE.tape, hE.output, hE.size, hE.block⟩
            rw [if_pos (Inv.want0 rfl _)]
            have h126 := hd 5 _ (by kernel_rfl) rfl
            change ac.eval (.tmp 126) = .bool false at h126
            clear hf hd
            refine Inv.val (.bool false) ?_ rfl rfl (Below.refl _ _)
            clear hE hB
            generalize ac.eval = ev at *
            simp [execOp, go_sem, *]
          · intro ac wx hE hf hd
            have hB : Below wr.heap.size wr wx := ⟨hE.os, hE.tape, hE.output, hE.size, hE.block⟩
            have hg := hd 6 _ (by kernel_rfl) rfl
            change ac.eval (.tmp 127) = .bool false at hg
            rw [if_neg (Inv.unwant (j := 6) (b := true) (c := false) (d := 127) rfl rfl rfl hg rfl)]
            all_goals exact rfl
          · intro ac wx hE hf hd
            have hB : Below wr.heap.size wr wx := ⟨hE.os, hE.tape, hE.output, hE.size, hE.block⟩
            have hg := hd 6 _ (by kernel_rfl) rfl
            change ac.eval (.tmp 127) = .bool false at hg
            rw [if_neg (Inv.unwant (j := 6) (b := true) (c := false) (d := 127) rfl rfl rfl hg rfl)]
            all_goals exact rfl
          · intro ac wx hE hf hd
            have hB : Below wr.heap.size wr wx := ⟨hE.os, hE.tape, hE.output, hE.size, hE.block⟩
            have hg := hd 6 _ (by kernel_rfl) rfl
            change ac.eval (.tmp 127) = .bool false at hg
            rw [if_neg (Inv.unwant (j := 6) (b := true) (c := false) (d := 127) rfl rfl rfl hg rfl)]
            all_goals exact rfl
          · intro ac wx hE hf hd
            have hB : Below wr.heap.size wr wx := ⟨hE.os, hE.tape, hE.output, hE.size, hE.block⟩
            have hg := hd 6 _ (by kernel_rfl) rfl
            change ac.eval (.tmp 127) = .bool false at hg
            rw [if_neg (Inv.unwant (j := 6) (b := true) (c := false) (d := 127) rfl rfl rfl hg rfl)]
            all_goals exact rfl
          · intro ac wx hE hf hd
            have hB : Below wr.heap.size wr wx := ⟨hE.os, hE.tape, hE.output, hE.size, hE.block⟩
            have hg := hd 6 _ (by kernel_rfl) rfl
            change ac.eval (.tmp 127) = .bool false at hg
            rw [if_neg (Inv.unwant (j := 6) (b := true) (c := false) (d := 127) rfl rfl rfl hg rfl)]
            all_goals exact rfl
          · intro ac wx hE hf hd
            have hB : Below wr.heap.size wr wx := ⟨hE.os, hE.tape, hE.output, hE.size, hE.block⟩
            have hg := hd 6 _ (by kernel_rfl) rfl
            change ac.eval (.tmp 127) = .bool false at hg
            rw [if_neg (Inv.unwant (j := 6) (b := true) (c := false) (d := 127) rfl rfl rfl hg rfl)]
            all_goals exact rfl
          · intro ac wx hE hf hd
            have hB : Below wr.heap.size wr wx := ⟨hE.os, hE.tape, hE.output, hE.size, hE.block⟩
            have hg := hd 6 _ (by kernel_rfl) rfl
            change ac.eval (.tmp 127) = .bool false at hg
            rw [if_neg (Inv.unwant (j := 6) (b := true) (c := false) (d := 127) rfl rfl rfl hg rfl)]
            all_goals exact rfl
          · intro ac wx hE hf hd
            have hB : Below wr.heap.size wr wx := ⟨hE.os, hE.tape, hE.output, hE.size, hE.block⟩
            rw [if_pos (Inv.want0 rfl _)]
            have h127 := hd 6 _ (by kernel_rfl) rfl
            change ac.eval (.tmp 127) = .bool false at h127
            have h134 := hd 13 _ (by kernel_rfl) rfl
            change ac.eval (.tmp 134) = undef at h134
            clear hf hd
            refine Inv.val (.bool false) ?_ rfl rfl (Below.refl _ _)
            clear hE hB HFA HPL
            have hcst : ∀ v, ac.eval (.const v) = v := fun _ => rfl
            generalize ac.eval = ev at *
            simp [execOp, go_sem, *]
          · intro ac wx hE hf hd
            have hB : Below wr.heap.size wr wx := ⟨hE.os, hE.tape, hE.output, hE.size, hE.block⟩
            rw [if_pos (Inv.want0 rfl _)]
            have h135 := hd 14 _ (by kernel_rfl) rfl
            change ac.eval (.tmp 135) = .bool false at h135
            clear hf hd
            refine Inv.val (.bool false) ?_ rfl rfl (Below.refl _ _)
            clear hE hB
            generalize ac.eval = ev at *
            simp [execOp, go_sem, *]
          · intro ac wx hE hf hd
            have hB : Below wr.heap.size wr wx := ⟨hE.os, hE.tape, hE.output, hE.size, hE.block⟩
            have hg := hd 15 _ (by kernel_rfl) rfl
            change ac.eval (.tmp 136) = .bool false at hg
            rw [if_neg (Inv.unwant (j := 15) (b := true) (c := false) (d := 136) rfl rfl rfl hg rfl)]
            all_goals exact rfl
          · intro ac wx hE hf hd
            have hB : Below wr.heap.size wr wx := ⟨hE.os, hE.tape, hE.output, hE.size, hE.block⟩
            have hg := hd 15 _ (by kernel_rfl) rfl
            change ac.eval (.tmp 136) = .bool false at hg
            rw [if_neg (Inv.unwant (j := 15) (b := true) (c := false) (d := 136) rfl rfl rfl hg rfl)]
            all_goals exact rfl
          · intro ac wx hE hf hd
            have hB : Below wr.heap.size wr wx := ⟨hE.os, hE.tape, hE.output, hE.size, hE.block⟩
            have hg := hd 15 _ (by kernel_rfl) rfl
            change ac.eval (.tmp 136) = .bool false at hg
            rw [if_neg (Inv.unwant (j := 15) (b := true) (c := false) (d := 136) rfl rfl rfl hg rfl)]
            all_goals exact rfl
          · intro ac wx hE hf hd
            have hB : Below wr.heap.size wr wx := ⟨hE.os, hE.tape, hE.output, hE.size, hE.block⟩
            have hg := hd 15 _ (by kernel_rfl) rfl
            change ac.eval (.tmp 136) = .bool false at hg
            rw [if_neg (Inv.unwant (j := 15) (b := true) (c := false) (d := 136) rfl rfl rfl hg rfl)]
            all_goals exact rfl
          · intro ac wx hE hf hd
            have hB : Below wr.heap.size wr wx := ⟨hE.os, hE.tape, hE.output, hE.size, hE.block⟩
            have hg := hd 15 _ (by kernel_rfl) rfl
            change ac.eval (.tmp 136) = .bool false at hg
            rw [if_neg (Inv.unwant (j := 15) (b := true) (c := false) (d := 136) rfl rfl rfl hg rfl)]
            all_goals exact rfl
          · intro ac wx hE hf hd
            have hB : Below wr.heap.size wr wx := ⟨hE.os, hE.tape, hE.output, hE.size, hE.block⟩
            have hg := hd 15 _ (by kernel_rfl) rfl
            change ac.eval (.tmp 136) = .bool false at hg
            rw [if_neg (Inv.unwant (j := 15) (b := true) (c := false) (d := 136) rfl rfl rfl hg rfl)]
            all_goals exact rfl
          · intro ac wx hE hf hd
            have hB : Below wr.heap.size wr wx := ⟨hE.os, hE.tape, hE.output, hE.size, hE.block⟩
            have hg := hd 15 _ (by kernel_rfl) rfl
            change ac.eval (.tmp 136) = .bool false at hg
            rw [if_neg (Inv.unwant (j := 15) (b := true) (c := false) (d := 136) rfl rfl rfl hg rfl)]
            all_goals exact rfl
          · intro ac wx hE hf hd
            have hB : Below wr.heap.size wr wx := ⟨hE.os, hE.tape, hE.output, hE.size, hE.block⟩
            have hg := hd 15 _ (by kernel_rfl) rfl
            change ac.eval (.tmp 136) = .bool false at hg
            rw [if_neg (Inv.unwant (j := 15) (b := true) (c := false) (d := 136) rfl rfl rfl hg rfl)]
            all_goals exact rfl
          · intro ac wx hE hf hd
            have hB : Below wr.heap.size wr wx := ⟨hE.os, hE.tape, hE.output, hE.size, hE.block⟩
            have hg := hd 15 _ (by kernel_rfl) rfl
            change ac.eval (.tmp 136) = .bool false at hg
            rw [if_neg (Inv.unwant (j := 15) (b := true) (c := false) (d := 136) rfl rfl rfl hg rfl)]
            all_goals exact rfl
          · intro ac wx hE hf hd
            have hB : Below wr.heap.size wr wx := ⟨hE.os, hE.tape, hE.output, hE.size, hE.block⟩
            have hg := hd 15 _ (by kernel_rfl) rfl
            change ac.eval (.tmp 136) = .bool false at hg
            rw [if_neg (Inv.unwant (j := 15) (b := true) (c := false) (d := 136) rfl rfl rfl hg rfl)]
            all_goals exact rfl
          · intro ac wx hE hf hd
            have hB : Below wr.heap.size wr wx := ⟨hE.os, hE.tape, hE.output, hE.size, hE.block⟩
            have hg := hd 15 _ (by kernel_rfl) rfl
            change ac.eval (.tmp 136) = .bool false at hg
            rw [if_neg (Inv.unwant (j := 15) (b := true) (c := false) (d := 136) rfl rfl rfl hg rfl)]
            all_goals exact rfl
          · intro ac wx hE hf hd
            have hB : Below wr.heap.size wr wx := ⟨hE.os, hE.tape, hE.output, hE.size, hE.block⟩
            have hg := hd 15 _ (by kernel_rfl) rfl
            change ac.eval (.tmp 136) = .bool false at hg
            rw [if_neg (Inv.unwant (j := 15) (b := true) (c := false) (d := 136) rfl rfl rfl hg rfl)]
            all_goals exact rfl
          · intro ac wx hE hf hd
            have hB : Below wr.heap.size wr wx := ⟨hE.os, hE.tape, hE.output, hE.size, hE.block⟩
            rw [if_pos (Inv.want0 rfl _)]
            have h136 := hd 15 _ (by kernel_rfl) rfl
            change ac.eval (.tmp 136) = .bool false at h136
            have h148 := hd 27 _ (by kernel_rfl) rfl
            change ac.eval (.tmp 148) = undef at h148
            clear hf hd
            refine Inv.val (.bool false) ?_ rfl rfl (Below.refl _ _)
            clear hE hB HFA HPL
            have hcst : ∀ v, ac.eval (.const v) = v := fun _ => rfl
            generalize ac.eval = ev at *
            simp [execOp, go_sem, *]
        case fin =>
          intro ac wx hE ha hall
          have hB : Below wr.heap.size wr wx := ⟨hE.os, hE.tape, hE.output, hE.size, hE.block⟩
          have h121 := hall 0 _ rfl
          change ac.eval (.tmp 121) = .slice (some ⟨bP, offP, none⟩) n capp at h121
          have h122 := hall 1 _ rfl
          change ac.eval (.tmp 122) = .int .i64 (j : Int) at h122
          have h123 := hall 2 _ rfl
          change ac.eval (.tmp 123) = .pointer (some ⟨bP, offP + j * 2, none⟩) at h123
          have h124 := hall 3 _ rfl
          change ac.eval (.tmp 124) = .pointer (some ⟨bP, offP + j * 2, none⟩) at h124
          have h125 := hall 4 _ rfl
          change ac.eval (.tmp 125) = .int .i64 a at h125
          have h126 := hall 5 _ rfl
          change ac.eval (.tmp 126) = .bool false at h126
          have h127 := hall 6 _ rfl
          change ac.eval (.tmp 127) = .bool false at h127
          have h128 := hall 7 _ rfl
          change ac.eval (.tmp 128) = undef at h128
          have h129 := hall 8 _ rfl
          change ac.eval (.tmp 129) = undef at h129
          have h130 := hall 9 _ rfl
          change ac.eval (.tmp 130) = undef at h130
          have h131 := hall 10 _ rfl
          change ac.eval (.tmp 131) = undef at h131
          have h132 := hall 11 _ rfl
          change ac.eval (.tmp 132) = undef at h132
          have h133 := hall 12 _ rfl
          change ac.eval (.tmp 133) = undef at h133
          have h134 := hall 13 _ rfl
          change ac.eval (.tmp 134) = undef at h134
          have h135 := hall 14 _ rfl
          change ac.eval (.tmp 135) = .bool false at h135
          have h136 := hall 15 _ rfl
          change ac.eval (.tmp 136) = .bool false at h136
          have h137 := hall 16 _ rfl
          change ac.eval (.tmp 137) = undef at h137
          have h138 := hall 17 _ rfl
          change ac.eval (.tmp 138) = undef at h138
          have h139 := hall 18 _ rfl
          change ac.eval (.tmp 139) = undef at h139
          have h140 := hall 19 _ rfl
          change ac.eval (.tmp 140) = undef at h140
          have h141 := hall 20 _ rfl
          change ac.eval (.tmp 141) = undef at h141
          have h142 := hall 21 _ rfl
          change ac.eval (.tmp 142) = undef at h142
          have h143 := hall 22 _ rfl
          change ac.eval (.tmp 143) = undef at h143
          have h144 := hall 23 _ rfl
          change ac.eval (.tmp 144) = undef at h144
          have h145 := hall 24 _ rfl
          change ac.eval (.tmp 145) = undef at h145
          have h146 := hall 25 _ rfl
          change ac.eval (.tmp 146) = undef at h146
          have h147 := hall 26 _ rfl
          change ac.eval (.tmp 147) = undef at h147
          have h148 := hall 27 _ rfl
          change ac.eval (.tmp 148) = undef at h148
          have h149 := hall 28 _ rfl
          change ac.eval (.tmp 149) = .bool false at h149
          simp only [List.foldl, Inv.slot, Act.put] at ha
          change ac.tmps.getD 121 undef = _ at h121
          change ac.tmps.getD 122 undef = _ at h122
          change ac.tmps.getD 123 undef = _ at h123
          change ac.tmps.getD 124 undef = _ at h124
          change ac.tmps.getD 125 undef = _ at h125
          change ac.tmps.getD 126 undef = _ at h126
          change ac.tmps.getD 127 undef = _ at h127
          change ac.tmps.getD 128 undef = _ at h128
          change ac.tmps.getD 129 undef = _ at h129
          change ac.tmps.getD 130 undef = _ at h130
          change ac.tmps.getD 131 undef = _ at h131
          change ac.tmps.getD 132 undef = _ at h132
          change ac.tmps.getD 133 undef = _ at h133
          change ac.tmps.getD 134 undef = _ at h134
          change ac.tmps.getD 135 undef = _ at h135
          change ac.tmps.getD 136 undef = _ at h136
          change ac.tmps.getD 137 undef = _ at h137
          change ac.tmps.getD 138 undef = _ at h138
          change ac.tmps.getD 139 undef = _ at h139
          change ac.tmps.getD 140 undef = _ at h140
          change ac.tmps.getD 141 undef = _ at h141
          change ac.tmps.getD 142 undef = _ at h142
          change ac.tmps.getD 143 undef = _ at h143
          change ac.tmps.getD 144 undef = _ at h144
          change ac.tmps.getD 145 undef = _ at h145
          change ac.tmps.getD 146 undef = _ at h146
          change ac.tmps.getD 147 undef = _ at h147
          change ac.tmps.getD 148 undef = _ at h148
          change ac.tmps.getD 149 undef = _ at h149
          simp only [h121, h122, h123, h124, h125, h126, h127, h128, h129, h130, h131, h132, h133, h134, h135, h136, h137, h138, h139, h140, h141, h142, h143, h144, h145, h146, h147, h148, h149, List.setIfInBounds_toArray, List.set_cons_zero, List.set_cons_succ] at ha
          clear h121 h122 h123 h124 h125 h126 h127 h128 h129 h130 h131 h132 h133 h134 h135 h136 h137 h138 h139 h140 h141 h142 h143 h144 h145 h146 h147 h148 h149 hall hE
          subst ha
          go_wp2_with fail
          go_roundw
          case rel => exact ⟨j + 1, c, S, B, by omega, by go_num, by omega, Lib.hid (HKi.out.below ⟨hB.os, hB.tape, hB.output, hB.size, hB.block⟩), HSi⟩
          case measure => simp [intOf]; omega
      have e1 : decide (a > 0) = true := decide_eq_true (by omega)
      have e1' : decide (0 < a) = true := decide_eq_true (by omega)
      by_cases d2 : now < a
      · have e2 : decide (a ≤ now) = false := decide_eq_false (by omega)
        refine Inv.region (fun W W' => Below W.heap.size W W') (fun i v W => match i with
          | 0 => v = .slice (some ⟨bP, offP, none⟩) n capp
          | 1 => v = .int .i64 (j : Int)
          | 2 => v = .pointer (some ⟨bP, offP + j * 2, none⟩)
          | 3 => v = .pointer (some ⟨bP, offP + j * 2, none⟩)
          | 4 => v = .int .i64 a
          | 5 => v = .bool true
          | 6 => v = .bool true
          | 7 => v = .slice (some ⟨bP, offP, none⟩) n capp
          | 8 => v = .int .i64 (j : Int)
          | 9 => v = .pointer (some ⟨bP, offP + j * 2, none⟩)
          | 10 => v = .pointer (some ⟨bP, offP + j * 2, none⟩)
          | 11 => v = .int .i64 a
          | 12 => v = .int .i64 now
          | 13 => v = .bool false
          | 14 => v = .bool false
          | 15 => v = .bool false
          | 16 => v = undef
          | 17 => v = undef
          | 18 => v = undef
          | 19 => v = undef
          | 20 => v = undef
          | 21 => v = undef
          | 22 => v = undef
          | 23 => v = undef
          | 24 => v = undef
          | 25 => v = undef
          | 26 => v = undef
          | 27 => v = undef
          | 28 => v = .bool false
          | _ => True) (by kernel_rfl) (by kernel_rfl) (by kernel_rfl) (fun W => Below.refl _ _) (fun a b c h k => h.trans (k.mono h.size)) (fun i v W W' h he => ?stab) ?obls ?fin
        case stab =>
          match i, h with
          | 0, h => exact h
          | 1, h => exact h
          | 2, h => exact h
          | 3, h => exact h
          | 4, h => exact h
          | 5, h => exact h
          | 6, h => exact h
          | 7, h => exact h
          | 8, h => exact h
          | 9, h => exact h
          | 10, h => exact h
          | 11, h => exact h
          | 12, h => exact h
          | 13, h => exact h
          | 14, h => exact h
          | 15, h => exact h
          | 16, h => exact h
          | 17, h => exact h
          | 18, h => exact h
          | 19, h => exact h
          | 20, h => exact h
          | 21, h => exact h
          | 22, h => exact h
          | 23, h => exact h
          | 24, h => exact h
          | 25, h => exact h
          | 26, h => exact h
          | 27, h => exact h
          | 28, h => exact h
          | _ + 29, h => exact h
        case obls =>
          refine .cons ?_ (.cons ?_ (.cons ?_ (.cons ?_ (.cons ?_ (.cons ?_ (.cons ?_ (.cons ?_ (.cons ?_ (.cons ?_ (.cons ?_ (.cons ?_ (.cons ?_ (.cons ?_ (.cons ?_ (.cons ?_ (.cons ?_ (.cons ?_ (.cons ?_ (.cons ?_ (.cons ?_ (.cons ?_ (.cons ?_ (.cons ?_ (.cons ?_ (.cons ?_ (.cons ?_ (.cons ?_ (.cons ?_ .nil))))))))))))))))))))))))))))
          · intro ac wx hE hf hd
            have hB : Below wr.heap.size wr wx := ⟨hE.os, hE.tape, hE.output, hE.size, hE.block⟩
            rw [if_pos (Inv.want0 rfl _)]
            have h3 : ac.eval (.tmp 3) = .slice (some ⟨bP, offP, none⟩) n capp := hf 3 (by kernel_rfl)
            clear hf hd
            refine Inv.val (.slice (some ⟨bP, offP, none⟩) n capp) ?_ rfl rfl (Below.refl _ _)
            clear hE hB
            generalize ac.eval = ev at *
            simp [execOp, go_sem, *]
          · intro ac wx hE hf hd
            have hB : Below wr.heap.size wr wx := ⟨hE.os, hE.tape, hE.output, hE.size, hE.block⟩
            rw [if_pos (Inv.want0 rfl _)]
            have h17 : ac.eval (.tmp 17) = .int .i64 (j : Int) := hf 17 (by kernel_rfl)
            clear hf hd
            refine Inv.val (.int .i64 (j : Int)) ?_ rfl rfl (Below.refl _ _)
            clear hE hB
            generalize ac.eval = ev at *
            simp [execOp, go_sem, *]
          · intro ac wx hE hf hd
            have hB : Below wr.heap.size wr wx := ⟨hE.os, hE.tape, hE.output, hE.size, hE.block⟩
            rw [if_pos (Inv.want0 rfl _)]
            have h121 := hd 0 _ (by kernel_rfl) rfl
            change ac.eval (.tmp 121) = .slice (some ⟨bP, offP, none⟩) n capp at h121
            have h122 := hd 1 _ (by kernel_rfl) rfl
            change ac.eval (.tmp 122) = .int .i64 (j : Int) at h122
            clear hf hd
            refine Inv.val (.pointer (some ⟨bP, offP + j * 2, none⟩)) ?_ rfl rfl (Below.refl _ _)
            clear hE hB HFA HPL
            have hcst : ∀ v, ac.eval (.const v) = v := fun _ => rfl
            generalize ac.eval = ev at *
            simp [execOp, go_sem, *]
          · intro ac wx hE hf hd
            have hB : Below wr.heap.size wr wx := ⟨hE.os, hE.tape, hE.output, hE.size, hE.block⟩
            rw [if_pos (Inv.want0 rfl _)]
            have h123 := hd 2 _ (by kernel_rfl) rfl
            change ac.eval (.tmp 123) = .pointer (some ⟨bP, offP + j * 2, none⟩) at h123
            clear hf hd
            refine Inv.val (.pointer (some ⟨bP, offP + j * 2, none⟩)) ?_ rfl rfl (Below.refl _ _)
            clear hE hB HFA HPL
            have hcst : ∀ v, ac.eval (.const v) = v := fun _ => rfl
            generalize ac.eval = ev at *
            simp [execOp, go_sem, *]
          · intro ac wx hE hf hd
            have hB : Below wr.heap.size wr wx := ⟨hE.os, hE.tape, hE.output, hE.size, hE.block⟩
            rw [if_pos (Inv.want0 rfl _)]
            have h124 := hd 3 _ (by kernel_rfl) rfl
            change ac.eval (.tmp 124) = .pointer (some ⟨bP, offP + j * 2, none⟩) at h124
            clear hf hd
            obtain ⟨a0, a1, a2, a3, a4, a5⟩ := HFA.out wx hB
            refine Inv.val (.int .i64 a) ?_ rfl rfl (Below.refl _ _)
            clear hE hB HFA HPL
            have hcst : ∀ v, ac.eval (.const v) = v := fun _ => rfl
            generalize ac.eval = ev at *
            simp [execOp, go_sem, *]
          · intro ac wx hE hf hd
            have hB : Below wr.heap.size wr wx := ⟨hE.os, hE.tape, hE.output, hE.size, hE.block⟩
            rw [if_pos (Inv.want0 rfl _)]
            have h125 := hd 4 _ (by kernel_rfl) rfl
            change ac.eval (.tmp 125) = .int .i64 a at h125
            clear hf hd
            refine Inv.val (.bool true) ?_ rfl rfl (Below.refl _ _)
            clear hE hB HFA HPL
            have hcst : ∀ v, ac.eval (.const v) = v := fun _ => rfl
            generalize ac.eval = ev at *
            simp [execOp, go_sem, *]
          · intro ac wx hE hf hd
            have hB : Below wr.heap.size wr wx := ⟨hE.os, hE.tape, hE.output, hE.size, hE.block⟩
            rw [if_pos (Inv.want0 rfl _)]
            have h126 := hd 5 _ (by kernel_rfl) rfl
            change ac.eval (.tmp 126) = .bool true at h126
            clear hf hd
            refine Inv.val (.bool true) ?_ rfl rfl (Below.refl _ _)
            clear hE hB
            generalize ac.eval = ev at *
            simp [execOp, go_sem, *]
          · intro ac wx hE hf hd
            have hB : Below wr.heap.size wr wx := ⟨hE.os, hE.tape, hE.output, hE.size, hE.block⟩
            have hg := hd 6 _ (by kernel_rfl) rfl
            change ac.eval (.tmp 127) = .bool true at hg
            rw [if_pos (Inv.want (j := 6) (b := true) (d := 127) rfl rfl rfl hg)]
            have h3 : ac.eval (.tmp 3) = .slice (some ⟨bP, offP, none⟩) n capp := hf 3 (by kernel_rfl)
            clear hf hd
            refine Inv.val (.slice (some ⟨bP, offP, none⟩) n capp) ?_ rfl rfl (Below.refl _ _)
            clear hE hB
            generalize ac.eval = ev at *
            simp [execOp, go_sem, *]
          · intro ac wx hE hf hd
            have hB : Below wr.heap.size wr wx := ⟨hE.os, hE.tape, hE.output, hE.size, hE.block⟩
            have hg := hd 6 _ (by kernel_rfl) rfl
            change ac.eval (.tmp 127) = .bool true at hg
            rw [if_pos (Inv.want (j := 6) (b := true) (d := 127) rfl rfl rfl hg)]
            have h17 : ac.eval (.tmp 17) = .int .i64 (j : Int) := hf 17 (by kernel_rfl)
            clear hf hd
            refine Inv.val (.int .i64 (j : Int)) ?_ rfl rfl (Below.refl _ _)
            clear hE hB
            generalize ac.eval = ev at *
            simp [execOp, go_sem, *]
          · intro ac wx hE hf hd
            have hB : Below wr.heap.size wr wx := ⟨hE.os, hE.tape, hE.output, hE.size, hE.block⟩
            have hg := hd 6 _ (by kernel_rfl) rfl
            change ac.eval (.tmp 127) = .bool true at hg
            rw [if_pos (Inv.want (j := 6) (b := true) (d := 127) rfl rfl rfl hg)]
            have h128 := hd 7 _ (by kernel_rfl) rfl
            change ac.eval (.tmp 128) = .slice (some ⟨bP, offP, none⟩) n capp at h128
            have h129 := hd 8 _ (by kernel_rfl) rfl
            change ac.eval (.tmp 129) = .int .i64 (j : Int) at h129
            clear hf hd
            refine Inv.val (.pointer (some ⟨bP, offP + j * 2, none⟩)) ?_ rfl rfl (Below.refl _ _)
            clear hE hB HFA HPL
            have hcst : ∀ v, ac.eval (.const v) = v := fun _ => rfl
            generalize ac.eval = ev at *
            simp [execOp, go_sem, *]
          · intro ac wx hE hf hd
            have hB : Below wr.heap.size wr wx := ⟨hE.os, hE.tape, hE.output, hE.size, hE.block⟩
            have hg := hd 6 _ (by kernel_rfl) rfl
            change ac.eval (.tmp 127) = .bool true at hg
            rw [if_pos (Inv.want (j := 6) (b := true) (d := 127) rfl rfl rfl hg)]
            have h130 := hd 9 _ (by kernel_rfl) rfl
            change ac.eval (.tmp 130) = .pointer (some ⟨bP, offP + j * 2, none⟩) at h130
            clear hf hd
            refine Inv.val (.pointer (some ⟨bP, offP + j * 2, none⟩)) ?_ rfl rfl (Below.refl _ _)
            clear hE hB HFA HPL
            have hcst : ∀ v, ac.eval (.const v) = v := fun _ => rfl
            generalize ac.eval = ev at *
            simp [execOp, go_sem, *]
          · intro ac wx hE hf hd
            have hB : Below wr.heap.size wr wx := ⟨hE.os, hE.tape, hE.output, hE.size, hE.block⟩
            have hg := hd 6 _ (by kernel_rfl) rfl
            change ac.eval (.tmp 127) = .bool true at hg
            rw [if_pos (Inv.want (j := 6) (b := true) (d := 127) rfl rfl rfl hg)]
            have h131 := hd 10 _ (by kernel_rfl) rfl
            change ac.eval (.tmp 131) = .pointer (some ⟨bP, offP + j * 2, none⟩) at h131
            clear hf hd
            obtain ⟨a0, a1, a2, a3, a4, a5⟩ := HFA.out wx hB
            refine Inv.val (.int .i64 a) ?_ rfl rfl (Below.refl _ _)
            clear hE hB HFA HPL
            have hcst : ∀ v, ac.eval (.const v) = v := fun _ => rfl
            generalize ac.eval = ev at *
            simp [execOp, go_sem, *]
          · intro ac wx hE hf hd
            have hB : Below wr.heap.size wr wx := ⟨hE.os, hE.tape, hE.output, hE.size, hE.block⟩
            have hg := hd 6 _ (by kernel_rfl) rfl
            change ac.eval (.tmp 127) = .bool true at hg
            rw [if_pos (Inv.want (j := 6) (b := true) (d := 127) rfl rfl rfl hg)]
            have h1 : ac.eval (.tmp 1) = .int .i64 now := hf 1 (by kernel_rfl)
            clear hf hd
            refine Inv.val (.int .i64 now) ?_ rfl rfl (Below.refl _ _)
            clear hE hB
            generalize ac.eval = ev at *
            simp [execOp, go_sem, *]
          · intro ac wx hE hf hd
            have hB : Below wr.heap.size wr wx := ⟨hE.os, hE.tape, hE.output, hE.size, hE.block⟩
            have hg := hd 6 _ (by kernel_rfl) rfl
            change ac.eval (.tmp 127) = .bool true at hg
            rw [if_pos (Inv.want (j := 6) (b := true) (d := 127) rfl rfl rfl hg)]
            have h132 := hd 11 _ (by kernel_rfl) rfl
            change ac.eval (.tmp 132) = .int .i64 a at h132
            have h133 := hd 12 _ (by kernel_rfl) rfl
            change ac.eval (.tmp 133) = .int .i64 now at h133
            clear hf hd
            refine Inv.val (.bool false) ?_ rfl rfl (Below.refl _ _)
            clear hE hB HFA HPL
            have hcst : ∀ v, ac.eval (.const v) = v := fun _ => rfl
            generalize ac.eval = ev at *
            simp [execOp, go_sem, *]
          · intro ac wx hE hf hd
            have hB : Below wr.heap.size wr wx := ⟨hE.os, hE.tape, hE.output, hE.size, hE.block⟩
            rw [if_pos (Inv.want0 rfl _)]
            have h127 := hd 6 _ (by kernel_rfl) rfl
            change ac.eval (.tmp 127) = .bool true at h127
            have h134 := hd 13 _ (by kernel_rfl) rfl
            change ac.eval (.tmp 134) = .bool false at h134
            clear hf hd
            refine Inv.val (.bool false) ?_ rfl rfl (Below.refl _ _)
            clear hE hB HFA HPL
            have hcst : ∀ v, ac.eval (.const v) = v := fun _ => rfl
            generalize ac.eval = ev at *
            simp [execOp, go_sem, *]
          · intro ac wx hE hf hd
            have hB : Below wr.heap.size wr wx := ⟨hE.os, hE.tape, hE.output, hE.size, hE.block⟩
            rw [if_pos (Inv.want0 rfl _)]
            have h135 := hd 14 _ (by kernel_rfl) rfl
            change ac.eval (.tmp 135) = .bool false at h135
            clear hf hd
            refine Inv.val (.bool false) ?_ rfl rfl (Below.refl _ _)
            clear hE hB
            generalize ac.eval = ev at *
            simp [execOp, go_sem, *]
          · intro ac wx hE hf hd
            have hB : Below wr.heap.size wr wx := ⟨hE.os, hE.tape, hE.output, hE.size, hE.block⟩
            have hg := hd 15 _ (by kernel_rfl) rfl
            change ac.eval (.tmp 136) = .bool false at hg
            rw [if_neg (Inv.unwant (j := 15) (b := true) (c := false) (d := 136) rfl rfl rfl hg rfl)]
            all_goals exact rfl
          · intro ac wx hE hf hd
            have hB : Below wr.heap.size wr wx := ⟨hE.os, hE.tape, hE.output, hE.size, hE.block⟩
            have hg := hd 15 _ (by kernel_rfl) rfl
            change ac.eval (.tmp 136) = .bool false at hg
            rw [if_neg (Inv.unwant (j := 15) (b := true) (c := false) (d := 136) rfl rfl rfl hg rfl)]
            all_goals exact rfl
          · intro ac wx hE hf hd
            have hB : Below wr.heap.size wr wx := ⟨hE.os, hE.tape, hE.output, hE.size, hE.block⟩
            have hg := hd 15 _ (by kernel_rfl) rfl
            change ac.eval (.tmp 136) = .bool false at hg
            rw [if_neg (Inv.unwant (j := 15) (b := true) (c := false) (d := 136) rfl rfl rfl hg rfl)]
            all_goals exact rfl
          · intro ac wx hE hf hd
            have hB : Below wr.heap.size wr wx := ⟨hE.os, hE.tape, hE.output, hE.size, hE.block⟩
            have hg := hd 15 _ (by kernel_rfl) rfl
            change ac.eval (.tmp 136) = .bool false at hg
            rw [if_neg (Inv.unwant (j := 15) (b := true) (c := false) (d := 136) rfl rfl rfl hg rfl)]
            all_goals exact rfl
          · intro ac wx hE hf hd
            have hB : Below wr.heap.size wr wx := ⟨hE.os, hE.tape, hE.output, hE.size, hE.block⟩
            have hg := hd 15 _ (by kernel_rfl) rfl
            change ac.eval (.tmp 136) = .bool false at hg
            rw [if_neg (Inv.unwant (j := 15) (b := true) (c := false) (d := 136) rfl rfl rfl hg rfl)]
            all_goals exact rfl
          · intro ac wx hE hf hd
            have hB : Below wr.heap.size wr wx := ⟨hE.os, hE.tape, hE.output, hE.size, hE.block⟩
            have hg := hd 15 _ (by kernel_rfl) rfl
            change ac.eval (.tmp 136) = .bool false at hg
            rw [if_neg (Inv.unwant (j := 15) (b := true) (c := false) (d := 136) rfl rfl rfl hg rfl)]
            all_goals exact rfl
          · intro ac wx hE hf hd
            have hB : Below wr.heap.size wr wx := ⟨hE.os, hE.tape, hE.output, hE.size, hE.block⟩
            have hg := hd 15 _ (by kernel_rfl) rfl
            change ac.eval (.tmp 136) = .bool false at hg
            rw [if_neg (Inv.unwant (j := 15) (b := true) (c := false) (d := 136) rfl rfl rfl hg rfl)]
            all_goals exact rfl
          · intro ac wx hE hf hd
            have hB : Below wr.heap.size wr wx := ⟨hE.os, hE.tape, hE.output, hE.size, hE.block⟩
            have hg := hd 15 _ (by kernel_rfl) rfl
            change ac.eval (.tmp 136) = .bool false at hg
            rw [if_neg (Inv.unwant (j := 15) (b := true) (c := false) (d := 136) rfl rfl rfl hg rfl)]
            all_goals exact rfl
          · intro ac wx hE hf hd
            have hB : Below wr.heap.size wr wx := ⟨hE.os, hE.tape, hE.output, hE.size, hE.block⟩
            have hg := hd 15 _ (by kernel_rfl) rfl
            change ac.eval (.tmp 136) = .bool false at hg
            rw [if_neg (Inv.unwant (j := 15) (b := true) (c := false) (d := 136) rfl rfl rfl hg rfl)]
            all_goals exact rfl
          · intro ac wx hE hf hd
            have hB : Below wr.heap.size wr wx := ⟨hE.os, hE.tape, hE.output, hE.size, hE.block⟩
            have hg := hd 15 _ (by kernel_rfl) rfl
            change ac.eval (.tmp 136) = .bool false at hg
            rw [if_neg (Inv.unwant (j := 15) (b := true) (c := false) (d := 136) rfl rfl rfl hg rfl)]
            all_goals exact rfl
          · intro ac wx hE hf hd
            have hB : Below wr.heap.size wr wx := ⟨hE.os, hE.tape, hE.output, hE.size, hE.block⟩
            have hg := hd 15 _ (by kernel_rfl) rfl
            change ac.eval (.tmp 136) = .bool false at hg
            rw [if_neg (Inv.unwant (j := 15) (b := true) (c := false) (d := 136) rfl rfl rfl hg rfl)]
            all_goals exact rfl
          · intro ac wx hE hf hd
            have hB : Below wr.heap.size wr wx := ⟨hE.os, hE.tape, hE.output, hE.size, hE.block⟩
            have hg := hd 15 _ (by kernel_rfl) rfl
            change ac.eval (.tmp 136) = .bool false at hg
            rw [if_neg (Inv.unwant (j := 15) (b := true) (c := false) (d := 136) rfl rfl rfl hg rfl)]
            all_goals exact rfl
          · intro ac wx hE hf hd
            have hB : Below wr.heap.size wr wx := ⟨hE.os, hE.tape, hE.output, hE.size, hE.block⟩
            rw [if_pos (Inv.want0 rfl _)]
            have h136 := hd 15 _ (by kernel_rfl) rfl
            change ac.eval (.tmp 136) = .bool false at h136
            have h148 := hd 27 _ (by kernel_rfl) rfl
            change ac.eval (.tmp 148) = undef at h148
            clear hf hd
            refine Inv.val (.bool false) ?_ rfl rfl (Below.refl _ _)
            clear hE hB HFA HPL
            have hcst : ∀ v, ac.eval (.const v) = v := fun _ => rfl
            generalize ac.eval = ev at *
            simp [execOp, go_sem, *]
        case fin =>
          intro ac wx hE ha hall
          have hB : Below wr.heap.size wr wx := ⟨hE.os, hE.tape, hE.output, hE.size, hE.block⟩
          have h121 := hall 0 _ rfl
          change ac.eval (.tmp 121) = .slice (some ⟨bP, offP, none⟩) n capp at h121
          have h122 := hall 1 _ rfl
          change ac.eval (.tmp 122) = .int .i64 (j : Int) at h122
          have h123 := hall 2 _ rfl
          change ac.eval (.tmp 123) = .pointer (some ⟨bP, offP + j * 2, none⟩) at h123
          have h124 := hall 3 _ rfl
          change ac.eval (.tmp 124) = .pointer (some ⟨bP, offP + j * 2, none⟩) at h124
          have h125 := hall 4 _ rfl
          change ac.eval (.tmp 125) = .int .i64 a at h125
          have h126 := hall 5 _ rfl
          change ac.eval (.tmp 126) = .bool true at h126
          have h127 := hall 6 _ rfl
          change ac.eval (.tmp 127) = .bool true at h127
          have h128 := hall 7 _ rfl
          change ac.eval (.tmp 128) = .slice (some ⟨bP, offP, none⟩) n capp at h128
          have h129 := hall 8 _ rfl
          change ac.eval (.tmp 129) = .int .i64 (j : Int) at h129
          have h130 := hall 9 _ rfl
          change ac.eval (.tmp 130) = .pointer (some ⟨bP, offP + j * 2, none⟩) at h130
          have h131 := hall 10 _ rfl
          change ac.eval (.tmp 131) = .pointer (some ⟨bP, offP + j * 2, none⟩) at h131
          have h132 := hall 11 _ rfl
          change ac.eval (.tmp 132) = .int .i64 a at h132
          have h133 := hall 12 _ rfl
          change ac.eval (.tmp 133) = .int .i64 now at h133
          have h134 := hall 13 _ rfl
          change ac.eval (.tmp 134) = .bool false at h134
          have h135 := hall 14 _ rfl
          change ac.eval (.tmp 135) = .bool false at h135
          have h136 := hall 15 _ rfl
          change ac.eval (.tmp 136) = .bool false at h136
          have h137 := hall 16 _ rfl
          change ac.eval (.tmp 137) = undef at h137
          have h138 := hall 17 _ rfl
          change ac.eval (.tmp 138) = undef at h138
          have h139 := hall 18 _ rfl
          change ac.eval (.tmp 139) = undef at h139
          have h140 := hall 19 _ rfl
          change ac.eval (.tmp 140) = undef at h140
          have h141 := hall 20 _ rfl
          change ac.eval (.tmp 141) = undef at h141
          have h142 := hall 21 _ rfl
          change ac.eval (.tmp 142) = undef at h142
          have h143 := hall 22 _ rfl
          change ac.eval (.tmp 143) = undef at h143
          have h144 := hall 23 _ rfl
          change ac.eval (.tmp 144) = undef at h144
          have h145 := hall 24 _ rfl
          change ac.eval (.tmp 145) = undef at h145
          have h146 := hall 25 _ rfl
          change ac.eval (.tmp 146) = undef at h146
          have h147 := hall 26 _ rfl
          change ac.eval (.tmp 147) = undef at h147
          have h148 := hall 27 _ rfl
          change ac.eval (.tmp 148) = undef at h148
          have h149 := hall 28 _ rfl
          change ac.eval (.tmp 149) = .bool false at h149
          simp only [List.foldl, Inv.slot, Act.put] at ha
          change ac.tmps.getD 121 undef = _ at h121
          change ac.tmps.getD 122 undef = _ at h122
          change ac.tmps.getD 123 undef = _ at h123
          change ac.tmps.getD 124 undef = _ at h124
          change ac.tmps.getD 125 undef = _ at h125
          change ac.tmps.getD 126 undef = _ at h126
          change ac.tmps.getD 127 undef = _ at h127
          change ac.tmps.getD 128 undef = _ at h128
          change ac.tmps.getD 129 undef = _ at h129
          change ac.tmps.getD 130 undef = _ at h130
          change ac.tmps.getD 131 undef = _ at h131
          change ac.tmps.getD 132 undef = _ at h132
          change ac.tmps.getD 133 undef = _ at h133
          change ac.tmps.getD 134 undef = _ at h134
          change ac.tmps.getD 135 undef = _ at h135
          change ac.tmps.getD 136 undef = _ at h136
          change ac.tmps.getD 137 undef = _ at h137
          change ac.tmps.getD 138 undef = _ at h138
          change ac.tmps.getD 139 undef = _ at h139
          change ac.tmps.getD 140 undef = _ at h140
          change ac.tmps.getD 141 undef = _ at h141
          change ac.tmps.getD 142 undef = _ at h142
          change ac.tmps.getD 143 undef = _ at h143
          change ac.tmps.getD 144 undef = _ at h144
          change ac.tmps.getD 145 undef = _ at h145
          change ac.tmps.getD 146 undef = _ at h146
          change ac.tmps.getD 147 undef = _ at h147
          change ac.tmps.getD 148 undef = _ at h148
          change ac.tmps.getD 149 undef = _ at h149
          simp only [h121, h122, h123, h124, h125, h126, h127, h128, h129, h130, h131, h132, h133, h134, h135, h136, h137, h138, h139, h140, h141, h142, h143, h144, h145, h146, h147, h148, h149, List.setIfInBounds_toArray, List.set_cons_zero, List.set_cons_succ] at ha
          clear h121 h122 h123 h124 h125 h126 h127 h128 h129 h130 h131 h132 h133 h134 h135 h136 h137 h138 h139 h140 h141 h142 h143 h144 h145 h146 h147 h148 h149 hall hE
          subst ha
          go_wp2_with fail
          go_roundw
          case rel => exact ⟨j + 1, c, S, B, by omega, by go_num, by omega, Lib.hid (HKi.out.below ⟨hB.os, hB.tape, hB.output, hB.size, hB.block⟩), HSi⟩
          case measure => simp [intOf]; omega
      have e2 : decide (a ≤ now) = true := decide_eq_true (by omega)
      by_cases d3 : Sl.pl s k a = Sl.pl s k pa
      · have e3 : (Sl.pl s k a != Sl.pl s k pa) = false := by simpa using d3
        refine Inv.region (fun W W' => Below W.heap.size W W') (fun i v W => match i with
          | 0 => v = .slice (some ⟨bP, offP, none⟩) n capp
          | 1 => v = .int .i64 (j : Int)
          | 2 => v = .pointer (some ⟨bP, offP + j * 2, none⟩)
          | 3 => v = .pointer (some ⟨bP, offP + j * 2, none⟩)
          | 4 => v = .int .i64 a
          | 5 => v = .bool true
          | 6 => v = .bool true
          | 7 => v = .slice (some ⟨bP, offP, none⟩) n capp
          | 8 => v = .int .i64 (j : Int)
          | 9 => v = .pointer (some ⟨bP, offP + j * 2, none⟩)
          | 10 => v = .pointer (some ⟨bP, offP + j * 2, none⟩)
          | 11 => v = .int .i64 a
          | 12 => v = .int .i64 now
          | 13 => v = .bool true
          | 14 => v = .bool true
          | 15 => v = .bool true
          | 16 => v = .agg #[.int .i64 s, .int .i64 k]
          | 17 => v = .slice (some ⟨bP, offP, none⟩) n capp
          | 18 => v = .int .i64 (j : Int)
          | 19 => v = .pointer (some ⟨bP, offP + j * 2, none⟩)
          | 20 => v = .pointer (some ⟨bP, offP + j * 2, none⟩)
          | 21 => v = .int .i64 a
          | 22 => v = .int .i64 (Sl.pl s k a)
          | 23 => v = .agg #[.int .i64 s, .int .i64 k]
          | 24 => v = .pointer (some ⟨q, 0, none⟩)
          | 25 => v = .int .i64 pa
          | 26 => v = .int .i64 (Sl.pl s k pa)
          | 27 => v = .bool false
          | 28 => v = .bool false
          | _ => True) (by kernel_rfl) (by kernel_rfl) (by kernel_rfl) (fun W => Below.refl _ _) (fun a b c h k => h.trans (k.mono h.size)) (fun i v W W' h he => ?stab) ?obls ?fin
        case stab =>
          match i, h with
          | 0, h => exact h
          | 1, h => exact h
          | 2, h => exact h
          | 3, h => exact h
          | 4, h => exact h
          | 5, h => exact h
          | 6, h => exact h
          | 7, h => exact h
          | 8, h => exact h
          | 9, h => exact h
          | 10, h => exact h
          | 11, h => exact h
          | 12, h => exact h
          | 13, h => exact h
          | 14, h => exact h
          | 15, h => exact h
          | 16, h => exact h
          | 17, h => exact h
          | 18, h => exact h
          | 19, h => exact h
          | 20, h => exact h
          | 21, h => exact h
          | 22, h => exact h
          | 23, h => exact h
          | 24, h => exact h
          | 25, h => exact h
          | 26, h => exact h
          | 27, h => exact h
          | 28, h => exact h
          | _ + 29, h => exact h
        case obls =>
          refine .cons ?_ (.cons ?_ (.cons ?_ (.cons ?_ (.cons ?_ (.cons ?_ (.cons ?_ (.cons ?_ (.cons ?_ (.cons ?_ (.cons ?_ (.cons ?_ (.cons ?_ (.cons ?_ (.cons ?_ (.cons ?_ (.cons ?_ (.cons ?_ (.cons ?_ (.cons ?_ (.cons ?_ (.cons ?_ (.cons ?_ (.cons ?_ (.cons ?_ (.cons ?_ (.cons ?_ (.cons ?_ (.cons ?_ .nil))))))))))))))))))))))))))))
          · intro ac wx hE hf hd
            have hB : Below wr.heap.size wr wx := ⟨hE.os, hE.tape, hE.output, hE.size, hE.block⟩
            rw [if_pos (Inv.want0 rfl _)]
            have h3 : ac.eval (.tmp 3) = .slice (some ⟨bP, offP, none⟩) n capp := hf 3 (by kernel_rfl)
            clear hf hd
            refine Inv.val (.slice (some ⟨bP, offP, none⟩) n capp) ?_ rfl rfl (Below.refl _ _)
            clear hE hB
            generalize ac.eval = ev at *
            simp [execOp, go_sem, *]
          · intro ac wx hE hf hd
            have hB : Below wr.heap.size wr wx := ⟨hE.os, hE.tape, hE.output, hE.size, hE.block⟩
            rw [if_pos (Inv.want0 rfl _)]
            have h17 : ac.eval (.tmp 17) = .int .i64 (j : Int) := hf 17 (by kernel_rfl)
            clear hf hd
            refine Inv.val (.int .i64 (j : Int)) ?_ rfl rfl (Below.refl _ _)
            clear hE hB
            generalize ac.eval = ev at *
            simp [execOp, go_sem, *]
          · intro ac wx hE hf hd
            have hB : Below wr.heap.size wr wx := ⟨hE.os, hE.tape, hE.output, hE.size, hE.block⟩
            rw [if_pos (Inv.want0 rfl _)]
            have h121 := hd 0 _ (by kernel_rfl) rfl
            change ac.eval (.tmp 121) = .slice (some ⟨bP, offP, none⟩) n capp at h121
            have h122 := hd 1 _ (by kernel_rfl) rfl
            change ac.eval (.tmp 122) = .int .i64 (j : Int) at h122
            clear hf hd
            refine Inv.val (.pointer (some ⟨bP, offP + j * 2, none⟩)) ?_ rfl rfl (Below.refl _ _)
            clear hE hB HFA HPL
            have hcst : ∀ v, ac.eval (.const v) = v := fun _ => rfl
            generalize ac.eval = ev at *
            simp [execOp, go_sem, *]
          · intro ac wx hE hf hd
            have hB : Below wr.heap.size wr wx := ⟨hE.os, hE.tape, hE.output, hE.size, hE.block⟩
            rw [if_pos (Inv.want0 rfl _)]
            have h123 := hd 2 _ (by kernel_rfl) rfl
            change ac.eval (.tmp 123) = .pointer (some ⟨bP, offP + j * 2, none⟩) at h123
            clear hf hd
            refine Inv.val (.pointer (some ⟨bP, offP + j * 2, none⟩)) ?_ rfl rfl (Below.refl _ _)
            clear hE hB HFA HPL
            have hcst : ∀ v, ac.eval (.const v) = v := fun _ => rfl
            generalize ac.eval = ev at *
            simp [execOp, go_sem, *]
          · intro ac wx hE hf hd
            have hB : Below wr.heap.size wr wx := ⟨hE.os, hE.tape, hE.output, hE.size, hE.block⟩
            rw [if_pos (Inv.want0 rfl _)]
            have h124 := hd 3 _ (by kernel_rfl) rfl
            change ac.eval (.tmp 124) = .pointer (some ⟨bP, offP + j * 2, none⟩) at h124
            clear hf hd
            obtain ⟨a0, a1, a2, a3, a4, a5⟩ := HFA.out wx hB
            refine Inv.val (.int .i64 a) ?_ rfl rfl (Below.refl _ _)
            clear hE hB HFA HPL
            have hcst : ∀ v, ac.eval (.const v) = v := fun _ => rfl
            generalize ac.eval = ev at *
            simp [execOp, go_sem, *]
          · intro ac wx hE hf hd
            have hB : Below wr.heap.size wr wx := ⟨hE.os, hE.tape, hE.output, hE.size, hE.block⟩
            rw [if_pos (Inv.want0 rfl _)]
            have h125 := hd 4 _ (by kernel_rfl) rfl
            change ac.eval (.tmp 125) = .int .i64 a at h125
            clear hf hd
            refine Inv.val (.bool true) ?_ rfl rfl (Below.refl _ _)
            clear hE hB HFA HPL
            have hcst : ∀ v, ac.eval (.const v) = v := fun _ => rfl
            generalize ac.eval = ev at *
            simp [execOp, go_sem, *]
          · intro ac wx hE hf hd
            have hB : Below wr.heap.size wr wx := ⟨hE.os, hE.tape, hE.output, hE.size, hE.block⟩
            rw [if_pos (Inv.want0 rfl _)]
            have h126 := hd 5 _ (by kernel_rfl) rfl
            change ac.eval (.tmp 126) = .bool true at h126
            clear hf hd
            refine Inv.val (.bool true) ?_ rfl rfl (Below.refl _ _)
            clear hE hB
            generalize ac.eval = ev at *
            simp [execOp, go_sem, *]
          · intro ac wx hE hf hd
            have hB : Below wr.heap.size wr wx := ⟨hE.os, hE.tape, hE.output, hE.size, hE.block⟩
            have hg := hd 6 _ (by kernel_rfl) rfl
            change ac.eval (.tmp 127) = .bool true at hg
            rw [if_pos (Inv.want (j := 6) (b := true) (d := 127) rfl rfl rfl hg)]
            have h3 : ac.eval (.tmp 3) = .slice (some ⟨bP, offP, none⟩) n capp := hf 3 (by kernel_rfl)
            clear hf hd
            refine Inv.val (.slice (some ⟨bP, offP, none⟩) n capp) ?_ rfl rfl (Below.refl _ _)
            clear hE hB
            generalize ac.eval = ev at *
            simp [execOp, go_sem, *]
          · intro ac wx hE hf hd
            have hB : Below wr.heap.size wr wx := ⟨hE.os, hE.tape, hE.output, hE.size, hE.block⟩
            have hg := hd 6 _ (by kernel_rfl) rfl
            change ac.eval (.tmp 127) = .bool true at hg
            rw [if_pos (Inv.want (j := 6) (b := true) (d := 127) rfl rfl rfl hg)]
            have h17 : ac.eval (.tmp 17) = .int .i64 (j : Int) := hf 17 (by kernel_rfl)
            clear hf hd
            refine Inv.val (.int .i64 (j : Int)) ?_ rfl rfl (Below.refl _ _)
            clear hE hB
            generalize ac.eval = ev at *
            simp [execOp, go_sem, *]
          · intro ac wx hE hf hd
            have hB : Below wr.heap.size wr wx := ⟨hE.os, hE.tape, hE.output, hE.size, hE.block⟩
            have hg := hd 6 _ (by kernel_rfl) rfl
            change ac.eval (.tmp 127) = .bool true at hg
            rw [if_pos (Inv.want (j := 6) (b := true) (d := 127) rfl rfl rfl hg)]
            have h128 := hd 7 _ (by kernel_rfl) rfl
            change ac.eval (.tmp 128) = .slice (some ⟨bP, offP, none⟩) n capp at h128
            have h129 := hd 8 _ (by kernel_rfl) rfl
            change ac.eval (.tmp 129) = .int .i64 (j : Int) at h129
            clear hf hd
            refine Inv.val (.pointer (some ⟨bP, offP + j * 2, none⟩)) ?_ rfl rfl (Below.refl _ _)
            clear hE hB HFA HPL
            have hcst : ∀ v, ac.eval (.const v) = v := fun _ => rfl
            generalize ac.eval = ev at *
            simp [execOp, go_sem, *]
          · intro ac wx hE hf hd
            have hB : Below wr.heap.size wr wx := ⟨hE.os, hE.tape, hE.output, hE.size, hE.block⟩
            have hg := hd 6 _ (by kernel_rfl) rfl
            change ac.eval (.tmp 127) = .bool true at hg
            rw [if_pos (Inv.want (j := 6) (b := true) (d := 127) rfl rfl rfl hg)]
            have h130 := hd 9 _ (by kernel_rfl) rfl
            change ac.eval (.tmp 130) = .pointer (some ⟨bP, offP + j * 2, none⟩) at h130
            clear hf hd
            refine Inv.val (.pointer (some ⟨bP, offP + j * 2, none⟩)) ?_ rfl rfl (Below.refl _ _)
            clear hE hB HFA HPL
            have hcst : ∀ v, ac.eval (.const v) = v := fun _ => rfl
            generalize ac.eval = ev at *
            simp [execOp, go_sem, *]
          · intro ac wx hE hf hd
            have hB : Below wr.heap.size wr wx := ⟨hE.os, hE.tape, hE.output, hE.size, hE.block⟩
            have hg := hd 6 _ (by kernel_rfl) rfl
            change ac.eval (.tmp 127) = .bool true at hg
            rw [if_pos (Inv.want (j := 6) (b := true) (d := 127) rfl rfl rfl hg)]
            have h131 := hd 10 _ (by kernel_rfl) rfl
            change ac.eval (.tmp 131) = .pointer (some ⟨bP, offP + j * 2, none⟩) at h131
            clear hf hd
            obtain ⟨a0, a1, a2, a3, a4, a5⟩ := HFA.out wx hB
            refine Inv.val (.int .i64 a) ?_ rfl rfl (Below.refl _ _)
            clear hE hB HFA HPL
            have hcst : ∀ v, ac.eval (.const v) = v := fun _ => rfl
            generalize ac.eval = ev at *
            simp [execOp, go_sem, *]
          · intro ac wx hE hf hd
            have hB : Below wr.heap.size wr wx := ⟨hE.os, hE.tape, hE.output, hE.size, hE.block⟩
            have hg := hd 6 _ (by kernel_rfl) rfl
            change ac.eval (.tmp 127) = .bool true at hg
            rw [if_pos (Inv.want (j := 6) (b := true) (d := 127) rfl rfl rfl hg)]
            have h1 : ac.eval (.tmp 1) = .int .i64 now := hf 1 (by kernel_rfl)
            clear hf hd
            refine Inv.val (.int .i64 now) ?_ rfl rfl (Below.refl _ _)
            clear hE hB
            generalize ac.eval = ev at *
            simp [execOp, go_sem, *]
          · intro ac wx hE hf hd
            have hB : Below wr.heap.size wr wx := ⟨hE.os, hE.tape, hE.output, hE.size, hE.block⟩
            have hg := hd 6 _ (by kernel_rfl) rfl
            change ac.eval (.tmp 127) = .bool true at hg
            rw [if_pos (Inv.want (j := 6) (b := true) (d := 127) rfl rfl rfl hg)]
            have h132 := hd 11 _ (by kernel_rfl) rfl
            change ac.eval (.tmp 132) = .int .i64 a at h132
            have h133 := hd 12 _ (by kernel_rfl) rfl
            change ac.eval (.tmp 133) = .int .i64 now at h133
            clear hf hd
            refine Inv.val (.bool true) ?_ rfl rfl (Below.refl _ _)
            clear hE hB HFA HPL
            have hcst : ∀ v, ac.eval (.const v) = v := fun _ => rfl
            generalize ac.eval = ev at *
            simp [execOp, go_sem, *]
          · intro ac wx hE hf hd
            have hB : Below wr.heap.size wr wx := ⟨hE.os, hE.tape, hE.output, hE.size, hE.block⟩
            rw [if_pos (Inv.want0 rfl _)]
            have h127 := hd 6 _ (by kernel_rfl) rfl
            change ac.eval (.tmp 127) = .bool true at h127
            have h134 := hd 13 _ (by kernel_rfl) rfl
            change ac.eval (.tmp 134) = .bool true at h134
            clear hf hd
            refine Inv.val (.bool true) ?_ rfl rfl (Below.refl _ _)
            clear hE hB HFA HPL
            have hcst : ∀ v, ac.eval (.const v) = v := fun _ => rfl
            generalize ac.eval = ev at *
            simp [execOp, go_sem, *]
          · intro ac wx hE hf hd
            have hB : Below wr.heap.size wr wx := ⟨hE.os, hE.tape, hE.output, hE.size, hE.block⟩
            rw [if_pos (Inv.want0 rfl _)]
            have h135 := hd 14 _ (by kernel_rfl) rfl
            change ac.eval (.tmp 135) = .bool true at h135
            clear hf hd
            refine Inv.val (.bool true) ?_ rfl rfl (Below.refl _ _)
            clear hE hB
            generalize ac.eval = ev at *
            simp [execOp, go_sem, *]
          · intro ac wx hE hf hd
            have hB : Below wr.heap.size wr wx := ⟨hE.os, hE.tape, hE.output, hE.size, hE.block⟩
            have hg := hd 15 _ (by kernel_rfl) rfl
            change ac.eval (.tmp 136) = .bool true at hg
            rw [if_pos (Inv.want (j := 15) (b := true) (d := 136) rfl rfl rfl hg)]
            have h11 : ac.eval (.tmp 11) = .pointer (some ⟨x, 0, none⟩) := hf 11 (by kernel_rfl)
            clear hf hd
            obtain ⟨a0, a1, a2, a3, a4, a5⟩ := HFA.out wx hB
            refine Inv.val (.agg #[.int .i64 s, .int .i64 k]) ?_ rfl rfl (Below.refl _ _)
            clear hE hB HFA HPL
            have hcst : ∀ v, ac.eval (.const v) = v := fun _ => rfl
            generalize ac.eval = ev at *
            simp [execOp, go_sem, *]
          · intro ac wx hE hf hd
            have hB : Below wr.heap.size wr wx := ⟨hE.os, hE.tape, hE.output, hE.size, hE.block⟩
            have hg := hd 15 _ (by kernel_rfl) rfl
            change ac.eval (.tmp 136) = .bool true at hg
            rw [if_pos (Inv.want (j := 15) (b := true) (d := 136) rfl rfl rfl hg)]
            have h3 : ac.eval (.tmp 3) = .slice (some ⟨bP, offP, none⟩) n capp := hf 3 (by kernel_rfl)
            clear hf hd
            refine Inv.val (.slice (some ⟨bP, offP, none⟩) n capp) ?_ rfl rfl (Below.refl _ _)
            clear hE hB
            generalize ac.eval = ev at *
            simp [execOp, go_sem, *]
          · intro ac wx hE hf hd
            have hB : Below wr.heap.size wr wx := ⟨hE.os, hE.tape, hE.output, hE.size, hE.block⟩
            have hg := hd 15 _ (by kernel_rfl) rfl
            change ac.eval (.tmp 136) = .bool true at hg
            rw [if_pos (Inv.want (j := 15) (b := true) (d := 136) rfl rfl rfl hg)]
            have h17 : ac.eval (.tmp 17) = .int .i64 (j : Int) := hf 17 (by kernel_rfl)
            clear hf hd
            refine Inv.val (.int .i64 (j : Int)) ?_ rfl rfl (Below.refl _ _)
            clear hE hB
            generalize ac.eval = ev at *
            simp [execOp, go_sem, *]
          · intro ac wx hE hf hd
            have hB : Below wr.heap.size wr wx := ⟨hE.os, hE.tape, hE.output, hE.size, hE.block⟩
            have hg := hd 15 _ (by kernel_rfl) rfl
            change ac.eval (.tmp 136) = .bool true at hg
            rw [if_pos (Inv.want (j := 15) (b := true) (d := 136) rfl rfl rfl hg)]
            have h138 := hd 17 _ (by kernel_rfl) rfl
            change ac.eval (.tmp 138) = .slice (some ⟨bP, offP, none⟩) n capp at h138
            have h139 := hd 18 _ (by kernel_rfl) rfl
            change ac.eval (.tmp 139) = .int .i64 (j : Int) at h139
            clear hf hd
            refine Inv.val (.pointer (some ⟨bP, offP + j * 2, none⟩)) ?_ rfl rfl (Below.refl _ _)
            clear hE hB HFA HPL
            have hcst : ∀ v, ac.eval (.const v) = v := fun _ => rfl
            generalize ac.eval = ev at *
            simp [execOp, go_sem, *]
          · intro ac wx hE hf hd
            have hB : Below wr.heap.size wr wx := ⟨hE.os, hE.tape, hE.output, hE.size, hE.block⟩
            have hg := hd 15 _ (by kernel_rfl) rfl
            change ac.eval (.tmp 136) = .bool true at hg
            rw [if_pos (Inv.want (j := 15) (b := true) (d := 136) rfl rfl rfl hg)]
            have h140 := hd 19 _ (by kernel_rfl) rfl
            change ac.eval (.tmp 140) = .pointer (some ⟨bP, offP + j * 2, none⟩) at h140
            clear hf hd
            refine Inv.val (.pointer (some ⟨bP, offP + j * 2, none⟩)) ?_ rfl rfl (Below.refl _ _)
            clear hE hB HFA HPL
            have hcst : ∀ v, ac.eval (.const v) = v := fun _ => rfl
            generalize ac.eval = ev at *
            simp [execOp, go_sem, *]
          · intro ac wx hE hf hd
            have hB : Below wr.heap.size wr wx := ⟨hE.os, hE.tape, hE.output, hE.size, hE.block⟩
            have hg := hd 15 _ (by kernel_rfl) rfl
            change ac.eval (.tmp 136) = .bool true at hg
            rw [if_pos (Inv.want (j := 15) (b := true) (d := 136) rfl rfl rfl hg)]
            have h141 := hd 20 _ (by kernel_rfl) rfl
            change ac.eval (.tmp 141) = .pointer (some ⟨bP, offP + j * 2, none⟩) at h141
            clear hf hd
            obtain ⟨a0, a1, a2, a3, a4, a5⟩ := HFA.out wx hB
            refine Inv.val (.int .i64 a) ?_ rfl rfl (Below.refl _ _)
            clear hE hB HFA HPL
            have hcst : ∀ v, ac.eval (.const v) = v := fun _ => rfl
            generalize ac.eval = ev at *
            simp [execOp, go_sem, *]
          · intro ac wx hE hf hd
            have hB : Below wr.heap.size wr wx := ⟨hE.os, hE.tape, hE.output, hE.size, hE.block⟩
            have hg := hd 15 _ (by kernel_rfl) rfl
            change ac.eval (.tmp 136) = .bool true at hg
            rw [if_pos (Inv.want (j := 15) (b := true) (d := 136) rfl rfl rfl hg)]
            have h137 := hd 16 _ (by kernel_rfl) rfl
            change ac.eval (.tmp 137) = .agg #[.int .i64 s, .int .i64 k] at h137
            have h142 := hd 21 _ (by kernel_rfl) rfl
            change ac.eval (.tmp 142) = .int .i64 a at h142
            clear hf hd
            refine Inv.go (f := 11) (xs := #[.agg #[.int .i64 s, .int .i64 k], .int .i64 a]) ?_ rfl ?_
            · clear hE hB HFA HPL
              have hfn : ac.eval (.func 11) = .func (.func 11) #[] #[] := rfl
              generalize ac.eval = ev at *
              simp [execOp, go_sem, *]
            · exact (HPL.out a wx (by omega)).mono fun e w' ⟨he, hb⟩ => ⟨_, he, rfl, hb⟩
          · intro ac wx hE hf hd
            have hB : Below wr.heap.size wr wx := ⟨hE.os, hE.tape, hE.output, hE.size, hE.block⟩
            have hg := hd 15 _ (by kernel_rfl) rfl
            change ac.eval (.tmp 136) = .bool true at hg
            rw [if_pos (Inv.want (j := 15) (b := true) (d := 136) rfl rfl rfl hg)]
            have h11 : ac.eval (.tmp 11) = .pointer (some ⟨x, 0, none⟩) := hf 11 (by kernel_rfl)
            clear hf hd
            obtain ⟨a0, a1, a2, a3, a4, a5⟩ := HFA.out wx hB
            refine Inv.val (.agg #[.int .i64 s, .int .i64 k]) ?_ rfl rfl (Below.refl _ _)
            clear hE hB HFA HPL
            have hcst : ∀ v, ac.eval (.const v) = v := fun _ => rfl
            generalize ac.eval = ev at *
            simp [execOp, go_sem, *]
          · intro ac wx hE hf hd
            have hB : Below wr.heap.size wr wx := ⟨hE.os, hE.tape, hE.output, hE.size, hE.block⟩
            have hg := hd 15 _ (by kernel_rfl) rfl
            change ac.eval (.tmp 136) = .bool true at hg
            rw [if_pos (Inv.want (j := 15) (b := true) (d := 136) rfl rfl rfl hg)]
            have h7 : ac.eval (.tmp 7) = .pointer (some ⟨q, 0, none⟩) := hf 7 (by kernel_rfl)
            clear hf hd
            refine Inv.val (.pointer (some ⟨q, 0, none⟩)) ?_ rfl rfl (Below.refl _ _)
            clear hE hB HFA HPL
            have hcst : ∀ v, ac.eval (.const v) = v := fun _ => rfl
            generalize ac.eval = ev at *
            simp [execOp, go_sem, *]
          · intro ac wx hE hf hd
            have hB : Below wr.heap.size wr wx := ⟨hE.os, hE.tape, hE.output, hE.size, hE.block⟩
            have hg := hd 15 _ (by kernel_rfl) rfl
            change ac.eval (.tmp 136) = .bool true at hg
            rw [if_pos (Inv.want (j := 15) (b := true) (d := 136) rfl rfl rfl hg)]
            have h145 := hd 24 _ (by kernel_rfl) rfl
            change ac.eval (.tmp 145) = .pointer (some ⟨q, 0, none⟩) at h145
            clear hf hd
            obtain ⟨a0, a1, a2, a3, a4, a5⟩ := HFA.out wx hB
            refine Inv.val (.int .i64 pa) ?_ rfl rfl (Below.refl _ _)
            clear hE hB HFA HPL
            have hcst : ∀ v, ac.eval (.const v) = v := fun _ => rfl
            generalize ac.eval = ev at *
            simp [execOp, go_sem, *]
          · intro ac wx hE hf hd
            have hB : Below wr.heap.size wr wx := ⟨hE.os, hE.tape, hE.output, hE.size, hE.block⟩
            have hg := hd 15 _ (by kernel_rfl) rfl
            change ac.eval (.tmp 136) = .bool true at hg
            rw [if_pos (Inv.want (j := 15) (b := true) (d := 136) rfl rfl rfl hg)]
            have h144 := hd 23 _ (by kernel_rfl) rfl
            change ac.eval (.tmp 144) = .agg #[.int .i64 s, .int .i64 k] at h144
            have h146 := hd 25 _ (by kernel_rfl) rfl
            change ac.eval (.tmp 146) = .int .i64 pa at h146
            clear hf hd
            refine Inv.go (f := 11) (xs := #[.agg #[.int .i64 s, .int .i64 k], .int .i64 pa]) ?_ rfl ?_
            · clear hE hB HFA HPL
              have hfn : ac.eval (.func 11) = .func (.func 11) #[] #[] := rfl
              generalize ac.eval = ev at *
              simp [execOp, go_sem, *]
            · exact (HPL.out pa wx (by omega)).mono fun e w' ⟨he, hb⟩ => ⟨_, he, rfl, hb⟩
          · intro ac wx hE hf hd
            have hB : Below wr.heap.size wr wx := ⟨hE.os, hE.tape, hE.output, hE.size, hE.block⟩
            have hg := hd 15 _ (by kernel_rfl) rfl
            change ac.eval (.tmp 136) = .bool true at hg
            rw [if_pos (Inv.want (j := 15) (b := true) (d := 136) rfl rfl rfl hg)]
            have h143 := hd 22 _ (by kernel_rfl) rfl
            change (fun v W => v = .int .i64 (Sl.pl s k a)) (ac.eval (.tmp 143)) wx at h143
            try dsimp only at h143
            have h147 := hd 26 _ (by kernel_rfl) rfl
            change (fun v W => v = .int .i64 (Sl.pl s k pa)) (ac.eval (.tmp 147)) wx at h147
            try dsimp only at h147
            clear hf hd
            refine Inv.val (.bool false) ?_ rfl rfl (Below.refl _ _)
            clear hE hB HFA HPL
            have hcst : ∀ v, ac.eval (.const v) = v := fun _ => rfl
            generalize ac.eval = ev at *
            simp [execOp, go_sem, *]
          · intro ac wx hE hf hd
            have hB : Below wr.heap.size wr wx := ⟨hE.os, hE.tape, hE.output, hE.size, hE.block⟩
            rw [if_pos (Inv.want0 rfl _)]
            have h136 := hd 15 _ (by kernel_rfl) rfl
            change ac.eval (.tmp 136) = .bool true at h136
            have h148 := hd 27 _ (by kernel_rfl) rfl
            change ac.eval (.tmp 148) = .bool false at h148
            clear hf hd
            refine Inv.val (.bool false) ?_ rfl rfl (Below.refl _ _)
            clear hE hB HFA HPL
            have hcst : ∀ v, ac.eval (.const v) = v := fun _ => rfl
            generalize ac.eval = ev at *
            simp [execOp, go_sem, *]
        case fin =>
          intro ac wx hE ha hall
          have hB : Below wr.heap.size wr wx := ⟨hE.os, hE.tape, hE.output, hE.size, hE.block⟩
          have h121 := hall 0 _ rfl
          change ac.eval (.tmp 121) = .slice (some ⟨bP, offP, none⟩) n capp at h121
          have h122 := hall 1 _ rfl
          change ac.eval (.tmp 122) = .int .i64 (j : Int) at h122
          have h123 := hall 2 _ rfl
          change ac.eval (.tmp 123) = .pointer (some ⟨bP, offP + j * 2, none⟩) at h123
          have h124 := hall 3 _ rfl
          change ac.eval (.tmp 124) = .pointer (some ⟨bP, offP + j * 2, none⟩) at h124
          have h125 := hall 4 _ rfl
          change ac.eval (.tmp 125) = .int .i64 a at h125
          have h126 := hall 5 _ rfl
          change ac.eval (.tmp 126) = .bool true at h126
          have h127 := hall 6 _ rfl
          change ac.eval (.tmp 127) = .bool true at h127
          have h128 := hall 7 _ rfl
          change ac.eval (.tmp 128) = .slice (some ⟨bP, offP, none⟩) n capp at h128
          have h129 := hall 8 _ rfl
          change ac.eval (.tmp 129) = .int .i64 (j : Int) at h129
          have h130 := hall 9 _ rfl
          change ac.eval (.tmp 130) = .pointer (some ⟨bP, offP + j * 2, none⟩) at h130
          have h131 := hall 10 _ rfl
          change ac.eval (.tmp 131) = .pointer (some ⟨bP, offP + j * 2, none⟩) at h131
          have h132 := hall 11 _ rfl
          change ac.eval (.tmp 132) = .int .i64 a at h132
          have h133 := hall 12 _ rfl
          change ac.eval (.tmp 133) = .int .i64 now at h133
          have h134 := hall 13 _ rfl
          change ac.eval (.tmp 134) = .bool true at h134
          have h135 := hall 14 _ rfl
          change ac.eval (.tmp 135) = .bool true at h135
          have h136 := hall 15 _ rfl
          change ac.eval (.tmp 136) = .bool true at h136
          have h137 := hall 16 _ rfl
          change ac.eval (.tmp 137) = .agg #[.int .i64 s, .int .i64 k] at h137
          have h138 := hall 17 _ rfl
          change ac.eval (.tmp 138) = .slice (some ⟨bP, offP, none⟩) n capp at h138
          have h139 := hall 18 _ rfl
          change ac.eval (.tmp 139) = .int .i64 (j : Int) at h139
          have h140 := hall 19 _ rfl
          change ac.eval (.tmp 140) = .pointer (some ⟨bP, offP + j * 2, none⟩) at h140
          have h141 := hall 20 _ rfl
          change ac.eval (.tmp 141) = .pointer (some ⟨bP, offP + j * 2, none⟩) at h141
          have h142 := hall 21 _ rfl
          change ac.eval (.tmp 142) = .int .i64 a at h142
          have h143 := hall 22 _ rfl
          change (fun v W => v = .int .i64 (Sl.pl s k a)) (ac.eval (.tmp 143)) wx at h143
          try dsimp only at h143
          generalize hv143 : ac.eval (.tmp 143) = v143 at *
          have h144 := hall 23 _ rfl
          change ac.eval (.tmp 144) = .agg #[.int .i64 s, .int .i64 k] at h144
          have h145 := hall 24 _ rfl
          change ac.eval (.tmp 145) = .pointer (some ⟨q, 0, none⟩) at h145
          have h146 := hall 25 _ rfl
          change ac.eval (.tmp 146) = .int .i64 pa at h146
          have h147 := hall 26 _ rfl
          change (fun v W => v = .int .i64 (Sl.pl s k pa)) (ac.eval (.tmp 147)) wx at h147
          try dsimp only at h147
          generalize hv147 : ac.eval (.tmp 147) = v147 at *
          have h148 := hall 27 _ rfl
          change ac.eval (.tmp 148) = .bool false at h148
          have h149 := hall 28 _ rfl
          change ac.eval (.tmp 149) = .bool false at h149
          simp only [List.foldl, Inv.slot, Act.put] at ha
          change ac.tmps.getD 121 undef = _ at h121
          change ac.tmps.getD 122 undef = _ at h122
          change ac.tmps.getD 123 undef = _ at h123
          change ac.tmps.getD 124 undef = _ at h124
          change ac.tmps.getD 125 undef = _ at h125
          change ac.tmps.getD 126 undef = _ at h126
          change ac.tmps.getD 127 undef = _ at h127
          change ac.tmps.getD 128 undef = _ at h128
          change ac.tmps.getD 129 undef = _ at h129
          change ac.tmps.getD 130 undef = _ at h130
          change ac.tmps.getD 131 undef = _ at h131
          change ac.tmps.getD 132 undef = _ at h132
          change ac.tmps.getD 133 undef = _ at h133
          change ac.tmps.getD 134 undef = _ at h134
          change ac.tmps.getD 135 undef = _ at h135
          change ac.tmps.getD 136 undef = _ at h136
          change ac.tmps.getD 137 undef = _ at h137
          change ac.tmps.getD 138 undef = _ at h138
          change ac.tmps.getD 139 undef = _ at h139
          change ac.tmps.getD 140 undef = _ at h140
          change ac.tmps.getD 141 undef = _ at h141
          change ac.tmps.getD 142 undef = _ at h142
          change ac.tmps.getD 143 undef = _ at hv143
          change ac.tmps.getD 144 undef = _ at h144
          change ac.tmps.getD 145 undef = _ at h145
          change ac.tmps.getD 146 undef = _ at h146
          change ac.tmps.getD 147 undef = _ at hv147
          change ac.tmps.getD 148 undef = _ at h148
          change ac.tmps.getD 149 undef = _ at h149
          simp only [h121, h122, h123, h124, h125, h126, h127, h128, h129, h130, h131, h132, h133, h134, h135, h136, h137, h138, h139, h140, h141, h142, hv143, h144, h145, h146, hv147, h148, h149, List.setIfInBounds_toArray, List.set_cons_zero, List.set_cons_succ] at ha
          clear h121 h122 h123 h124 h125 h126 h127 h128 h129 h130 h131 h132 h133 h134 h135 h136 h137 h138 h139 h140 h141 h142 hv143 h144 h145 h146 hv147 h148 h149 hall hE
          subst ha
          go_wp2_with fail
          go_roundw
          case rel => exact ⟨j + 1, c, S, B, by omega, by go_num, by omega, Lib.hid (HKi.out.below ⟨hB.os, hB.tape, hB.output, hB.size, hB.block⟩), HSi⟩
          case measure => simp [intOf]; omega
      have e3 : (Sl.pl s k a != Sl.pl s k pa) = true := by simpa using d3
      obtain ⟨B', hB', hs'⟩ := HKP.out S B a b HSi.out.1 HSi.out.2 (fun _ _ => d3)
      have HUN : Hid (∀ W, Kw Y fs c S W → Calls Tryd.prog 10 #[.pointer (some ⟨fs, 0, none⟩), .string ⟨#[97]⟩, .int .i64 now, .slice (some ⟨W.heap.size, 0, none⟩) 1 1] (W.alloc (.cells #[.int .i64 a, .int .i64 b] 26)) fun e w' => (∃ u v : Int, e = .returned (.tuple #[.int .i64 u, .int .i64 v])) ∧ Hid (Kw Y fs (c + 27) (update S [97] now [(a, b)]).1 w')) := Lib.hid fun W h => (h.one HGY.out now a b (by omega)).mono fun e w' ⟨h1, h2⟩ => ⟨⟨_, _, h1⟩, h2⟩
      obtain ⟨R, hR⟩ : ∃ R, R = (update S [97] now [(a, b)]).1 := ⟨_, rfl⟩
      rw [← hR] at HUN hB'
      have HSN : Hid (Stands R.now [97] H B' ∧ slot B' o = (t, pn)) := Lib.hid ⟨hB', hs'⟩
      clear hR hB' hs'
      refine Inv.region (fun W W' => Below W.heap.size W W') (fun i v W => match i with
        | 0 => v = .slice (some ⟨bP, offP, none⟩) n capp
        | 1 => v = .int .i64 (j : Int)
        | 2 => v = .pointer (some ⟨bP, offP + j * 2, none⟩)
        | 3 => v = .pointer (some ⟨bP, offP + j * 2, none⟩)
        | 4 => v = .int .i64 a
        | 5 => v = .bool true
        | 6 => v = .bool true
        | 7 => v = .slice (some ⟨bP, offP, none⟩) n capp
        | 8 => v = .int .i64 (j : Int)
        | 9 => v = .pointer (some ⟨bP, offP + j * 2, none⟩)
        | 10 => v = .pointer (some ⟨bP, offP + j * 2, none⟩)
        | 11 => v = .int .i64 a
        | 12 => v = .int .i64 now
        | 13 => v = .bool true
        | 14 => v = .bool true
        | 15 => v = .bool true
        | 16 => v = .agg #[.int .i64 s, .int .i64 k]
        | 17 => v = .slice (some ⟨bP, offP, none⟩) n capp
        | 18 => v = .int .i64 (j : Int)
        | 19 => v = .pointer (some ⟨bP, offP + j * 2, none⟩)
        | 20 => v = .pointer (some ⟨bP, offP + j * 2, none⟩)
        | 21 => v = .int .i64 a
        | 22 => v = .int .i64 (Sl.pl s k a)
        | 23 => v = .agg #[.int .i64 s, .int .i64 k]
        | 24 => v = .pointer (some ⟨q, 0, none⟩)
        | 25 => v = .int .i64 pa
        | 26 => v = .int .i64 (Sl.pl s k pa)
        | 27 => v = .bool true
        | 28 => v = .bool true
        | _ => True) (by kernel_rfl) (by kernel_rfl) (by kernel_rfl) (fun W => Below.refl _ _) (fun a b c h k => h.trans (k.mono h.size)) (fun i v W W' h he => ?stab) ?obls ?fin
      case stab =>
        match i, h with
        | 0, h => exact h
        | 1, h => exact h
        | 2, h => exact h
        | 3, h => exact h
        | 4, h => exact h
        | 5, h => exact h
        | 6, h => exact h
        | 7, h => exact h
        | 8, h => exact h
        | 9, h => exact h
        | 10, h => exact h
        | 11, h => exact h
        | 12, h => exact h
        | 13, h => exact h
        | 14, h => exact h
        | 15, h => exact h
        | 16, h => exact h
        | 17, h => exact h
        | 18, h => exact h
        | 19, h => exact h
        | 20, h => exact h
        | 21, h => exact h
        | 22, h => exact h
        | 23, h => exact h
        | 24, h => exact h
        | 25, h => exact h
        | 26, h => exact h
        | 27, h => exact h
        | 28, h => exact h
        | _ + 29, h => exact h
      case obls =>
        refine .cons ?_ (.cons ?_ (.cons ?_ (.cons ?_ (.cons ?_ (.cons ?_ (.cons ?_ (.cons ?_ (.cons ?_ (.cons ?_ (.cons ?_ (.cons ?_ (.cons ?_ (.cons ?_ (.cons ?_ (.cons ?_ (.cons ?_ (.cons ?_ (.cons ?_ (.cons ?_ (.cons ?_ (.cons ?_ (.cons ?_ (.cons ?_ (.cons ?_ (.cons ?_ (.cons ?_ (.cons ?_ (.cons ?_ .nil))))))))))))))))))))))))))))
        · intro ac wx hE hf hd
          have hB : Below wr.heap.size wr wx := ⟨hE.os, hE.tape, hE.output, hE.size, hE.block⟩
          rw [if_pos (Inv.want0 rfl _)]
          have h3 : ac.eval (.tmp 3) = .slice (some ⟨bP, offP, none⟩) n capp := hf 3 (by kernel_rfl)
          clear hf hd
          refine Inv.val (.slice (some ⟨bP, offP, none⟩) n capp) ?_ rfl rfl (Below.refl _ _)
          clear hE hB
          generalize ac.eval = ev at *
          simp [execOp, go_sem, *]
        · intro ac wx hE hf hd
          have hB : Below wr.heap.size wr wx := ⟨hE.os, hE.tape, hE.output, hE.size, hE.block⟩
          rw [if_pos (Inv.want0 rfl _)]
          have h17 : ac.eval (.tmp 17) = .int .i64 (j : Int) := hf 17 (by kernel_rfl)
          clear hf hd
          refine Inv.val (.int .i64 (j : Int)) ?_ rfl rfl (Below.refl _ _)
          clear hE hB
          generalize ac.eval = ev at *
          simp [execOp, go_sem, *]
        · intro ac wx hE hf hd
          have hB : Below wr.heap.size wr wx := ⟨hE.os, hE.tape, hE.output, hE.size, hE.block⟩
          rw [if_pos (Inv.want0 rfl _)]
          have h121 := hd 0 _ (by kernel_rfl) rfl
          change ac.eval (.tmp 121) = .slice (some ⟨bP, offP, none⟩) n capp at h121
          have h122 := hd 1 _ (by kernel_rfl) rfl
          change ac.eval (.tmp 122) = .int .i64 (j : Int) at h122
          clear hf hd
          refine Inv.val (.pointer (some ⟨bP, offP + j * 2, none⟩)) ?_ rfl rfl (Below.refl _ _)
          clear hE hB HFA HPL
          have hcst : ∀ v, ac.eval (.const v) = v := fun _ => rfl
          generalize ac.eval = ev at *
          simp [execOp, go_sem, *]
        · intro ac wx hE hf hd
          have hB : Below wr.heap.size wr wx := ⟨hE.os, hE.tape, hE.output, hE.size, hE.block⟩
          rw [if_pos (Inv.want0 rfl _)]
          have h123 := hd 2 _ (by kernel_rfl) rfl
          change ac.eval (.tmp 123) = .pointer (some ⟨bP, offP + j * 2, none⟩) at h123
          clear hf hd
          refine Inv.val (.pointer (some ⟨bP, offP + j * 2, none⟩)) ?_ rfl rfl (Below.refl _ _)
          clear hE hB HFA HPL
          have hcst : ∀ v, ac.eval (.const v) = v := fun _ => rfl
          generalize ac.eval = ev at *
          simp [execOp, go_sem, *]
        · intro ac wx hE hf hd
          have hB : Below wr.heap.size wr wx := ⟨hE.os, hE.tape, hE.output, hE.size, hE.block⟩
          rw [if_pos (Inv.want0 rfl _)]
          have h124 := hd 3 _ (by kernel_rfl) rfl
          change ac.eval (.tmp 124) = .pointer (some ⟨bP, offP + j * 2, none⟩) at h124
          clear hf hd
          obtain ⟨a0, a1, a2, a3, a4, a5⟩ := HFA.out wx hB
          refine Inv.val (.int .i64 a) ?_ rfl rfl (Below.refl _ _)
          clear hE hB HFA HPL
          have hcst : ∀ v, ac.eval (.const v) = v := fun _ => rfl
          generalize ac.eval = ev at *
          simp [execOp, go_sem, *]
        · intro ac wx hE hf hd
          have hB : Below wr.heap.size wr wx := ⟨hE.os, hE.tape, hE.output, hE.size, hE.block⟩
          rw [if_pos (Inv.want0 rfl _)]
          have h125 := hd 4 _ (by kernel_rfl) rfl
          change ac.eval (.tmp 125) = .int .i64 a at h125
          clear hf hd
          refine Inv.val (.bool true) ?_ rfl rfl (Below.refl _ _)
          clear hE hB HFA HPL
          have hcst : ∀ v, ac.eval (.const v) = v := fun _ => rfl
          generalize ac.eval = ev at *
          simp [execOp, go_sem, *]
        · intro ac wx hE hf hd
          have hB : Below wr.heap.size wr wx := ⟨hE.os, hE.tape, hE.output, hE.size, hE.block⟩
          rw [if_pos (Inv.want0 rfl _)]
          have h126 := hd 5 _ (by kernel_rfl) rfl
          change ac.eval (.tmp 126) = .bool true at h126
          clear hf hd
          refine Inv.val (.bool true) ?_ rfl rfl (Below.refl _ _)
          clear hE hB
          generalize ac.eval = ev at *
          simp [execOp, go_sem, *]
        · intro ac wx hE hf hd
          have hB : Below wr.heap.size wr wx := ⟨hE.os, hE.tape, hE.output, hE.size, hE.block⟩
          have hg := hd 6 _ (by kernel_rfl) rfl
          change ac.eval (.tmp 127) = .bool true at hg
          rw [if_pos (Inv.want (j := 6) (b := true) (d := 127) rfl rfl rfl hg)]
          have h3 : ac.eval (.tmp 3) = .slice (some ⟨bP, offP, none⟩) n capp := hf 3 (by kernel_rfl)
          clear hf hd
          refine Inv.val (.slice (some ⟨bP, offP, none⟩) n capp) ?_ rfl rfl (Below.refl _ _)
          clear hE hB
          generalize ac.eval = ev at *
          simp [execOp, go_sem, *]
        · intro ac wx hE hf hd
          have hB : Below wr.heap.size wr wx := ⟨hE.os, hE.tape, hE.output, hE.size, hE.block⟩
          have hg := hd 6 _ (by kernel_rfl) rfl
          change ac.eval (.tmp 127) = .bool true at hg
          rw [if_pos (Inv.want (j := 6) (b := true) (d := 127) rfl rfl rfl hg)]
          have h17 : ac.eval (.tmp 17) = .int .i64 (j : Int) := hf 17 (by kernel_rfl)
          clear hf hd
          refine Inv.val (.int .i64 (j : Int)) ?_ rfl rfl (Below.refl _ _)
          clear hE hB
          generalize ac.eval = ev at *
          simp [execOp, go_sem, *]
        · intro ac wx hE hf hd
          have hB : Below wr.heap.size wr wx := ⟨hE.os, hE.tape, hE.output, hE.size, hE.block⟩
          have hg := hd 6 _ (by kernel_rfl) rfl
          change ac.eval (.tmp 127) = .bool true at hg
          rw [if_pos (Inv.want (j := 6) (b := true) (d := 127) rfl rfl rfl hg)]
          have h128 := hd 7 _ (by kernel_rfl) rfl
          change ac.eval (.tmp 128) = .slice (some ⟨bP, offP, none⟩) n capp at h128
          have h129 := hd 8 _ (by kernel_rfl) rfl
          change ac.eval (.tmp 129) = .int .i64 (j : Int) at h129
          clear hf hd
          refine Inv.val (.pointer (some ⟨bP, offP + j * 2, none⟩)) ?_ rfl rfl (Below.refl _ _)
          clear hE hB HFA HPL
          have hcst : ∀ v, ac.eval (.const v) = v := fun _ => rfl
          generalize ac.eval = ev at *
          simp [execOp, go_sem, *]
        · intro ac wx hE hf hd
          have hB : Below wr.heap.size wr wx := ⟨hE.os, hE.tape, hE.output, hE.size, hE.block⟩
          have hg := hd 6 _ (by kernel_rfl) rfl
          change ac.eval (.tmp 127) = .bool true at hg
          rw [if_pos (Inv.want (j := 6) (b := true) (d := 127) rfl rfl rfl hg)]
          have h130 := hd 9 _ (by kernel_rfl) rfl
          change ac.eval (.tmp 130) = .pointer (some ⟨bP, offP + j * 2, none⟩) at h130
          clear hf hd
          refine Inv.val (.pointer (some ⟨bP, offP + j * 2, none⟩)) ?_ rfl rfl (Below.refl _ _)
          clear hE hB HFA HPL
          have hcst : ∀ v, ac.eval (.const v) = v := fun _ => rfl
          generalize ac.eval = ev at *
          simp [execOp, go_sem, *]
        · intro ac wx hE hf hd
          have hB : Below wr.heap.size wr wx := ⟨hE.os, hE.tape, hE.output, hE.size, hE.block⟩
          have hg := hd 6 _ (by kernel_rfl) rfl
          change ac.eval (.tmp 127) = .bool true at hg
          rw [if_pos (Inv.want (j := 6) (b := true) (d := 127) rfl rfl rfl hg)]
          have h131 := hd 10 _ (by kernel_rfl) rfl
          change ac.eval (.tmp 131) = .pointer (some ⟨bP, offP + j * 2, none⟩) at h131
          clear hf hd
          obtain ⟨a0, a1, a2, a3, a4, a5⟩ := HFA.out wx hB
          refine Inv.val (.int .i64 a) ?_ rfl rfl (Below.refl _ _)
          clear hE hB HFA HPL
          have hcst : ∀ v, ac.eval (.const v) = v := fun _ => rfl
          generalize ac.eval = ev at *
          simp [execOp, go_sem, *]
        · intro ac wx hE hf hd
          have hB : Below wr.heap.size wr wx := ⟨hE.os, hE.tape, hE.output, hE.size, hE.block⟩
          have hg := hd 6 _ (by kernel_rfl) rfl
          change ac.eval (.tmp 127) = .bool true at hg
          rw [if_pos (Inv.want (j := 6) (b := true) (d := 127) rfl rfl rfl hg)]
          have h1 : ac.eval (.tmp 1) = .int .i64 now := hf 1 (by kernel_rfl)
          clear hf hd
          refine Inv.val (.int .i64 now) ?_ rfl rfl (Below.refl _ _)
          clear hE hB
          generalize ac.eval = ev at *
          simp [execOp, go_sem, *]
        · intro ac wx hE hf hd
          have hB : Below wr.heap.size wr wx := ⟨hE.os, hE.tape, hE.output, hE.size, hE.block⟩
          have hg := hd 6 _ (by kernel_rfl) rfl
          change ac.eval (.tmp 127) = .bool true at hg
          rw [if_pos (Inv.want (j := 6) (b := true) (d := 127) rfl rfl rfl hg)]
          have h132 := hd 11 _ (by kernel_rfl) rfl
          change ac.eval (.tmp 132) = .int .i64 a at h132
          have h133 := hd 12 _ (by kernel_rfl) rfl
          change ac.eval (.tmp 133) = .int .i64 now at h133
          clear hf hd
          refine Inv.val (.bool true) ?_ rfl rfl (Below.refl _ _)
          clear hE hB HFA HPL
          have hcst : ∀ v, ac.eval (.const v) = v := fun _ => rfl
          generalize ac.eval = ev at *
          simp [execOp, go_sem, *]
        · intro ac wx hE hf hd
          have hB : Below wr.heap.size wr wx := ⟨hE.os, hE.tape, hE.output, hE.size, hE.block⟩
          rw [if_pos (Inv.want0 rfl _)]
          have h127 := hd 6 _ (by kernel_rfl) rfl
          change ac.eval (.tmp 127) = .bool true at h127
          have h134 := hd 13 _ (by kernel_rfl) rfl
          change ac.eval (.tmp 134) = .bool true at h134
          clear hf hd
          refine Inv.val (.bool true) ?_ rfl rfl (Below.refl _ _)
          clear hE hB HFA HPL
          have hcst : ∀ v, ac.eval (.const v) = v := fun _ => rfl
          generalize ac.eval = ev at *
          simp [execOp, go_sem, *]
        · intro ac wx hE hf hd
          have hB : Below wr.heap.size wr wx := ⟨hE.os, hE.tape, hE.output, hE.size, hE.block⟩
          rw [if_pos (Inv.want0 rfl _)]
          have h135 := hd 14 _ (by kernel_rfl) rfl
          change ac.eval (.tmp 135) = .bool true at h135
          clear hf hd
          refine Inv.val (.bool true) ?_ rfl rfl (Below.refl _ _)
          clear hE hB
          generalize ac.eval = ev at *
          simp [execOp, go_sem, *]
        · intro ac wx hE hf hd
          have hB : Below wr.heap.size wr wx := ⟨hE.os, hE.tape, hE.output, hE.size, hE.block⟩
          have hg := hd 15 _ (by kernel_rfl) rfl
          change ac.eval (.tmp 136) = .bool true at hg
          rw [if_pos (Inv.want (j := 15) (b := true) (d := 136) rfl rfl rfl hg)]
          have h11 : ac.eval (.tmp 11) = .pointer (some ⟨x, 0, none⟩) := hf 11 (by kernel_rfl)
          clear hf hd
          obtain ⟨a0, a1, a2, a3, a4, a5⟩ := HFA.out wx hB
          refine Inv.val (.agg #[.int .i64 s, .int .i64 k]) ?_ rfl rfl (Below.refl _ _)
          clear hE hB HFA HPL
          have hcst : ∀ v, ac.eval (.const v) = v := fun _ => rfl
          generalize ac.eval = ev at *
          simp [execOp, go_sem, *]
        · intro ac wx hE hf hd
          have hB : Below wr.heap.size wr wx := ⟨hE.os, hE.tape, hE.output, hE.size, hE.block⟩
          have hg := hd 15 _ (by kernel_rfl) rfl
          change ac.eval (.tmp 136) = .bool true at hg
          rw [if_pos (Inv.want (j := 15) (b := true) (d := 136) rfl rfl rfl hg)]
          have h3 : ac.eval (.tmp 3) = .slice (some ⟨bP, offP, none⟩) n capp := hf 3 (by kernel_rfl)
          clear hf hd
          refine Inv.val (.slice (some ⟨bP, offP, none⟩) n capp) ?_ rfl rfl (Below.refl _ _)
          clear hE hB
          generalize ac.eval = ev at *
          simp [execOp, go_sem, *]
        · intro ac wx hE hf hd
          have hB : Below wr.heap.size wr wx := ⟨hE.os, hE.tape, hE.output, hE.size, hE.block⟩
          have hg := hd 15 _ (by kernel_rfl) rfl
          change ac.eval (.tmp 136) = .bool true at hg
          rw [if_pos (Inv.want (j := 15) (b := true) (d := 136) rfl rfl rfl hg)]
          have h17 : ac.eval (.tmp 17) = .int .i64 (j : Int) := hf 17 (by kernel_rfl)
          clear hf hd
          refine Inv.val (.int .i64 (j : Int)) ?_ rfl rfl (Below.refl _ _)
          clear hE hB
          generalize ac.eval = ev at *
          simp [execOp, go_sem, *]
        · intro ac wx hE hf hd
          have hB : Below wr.heap.size wr wx := ⟨hE.os, hE.tape, hE.output, hE.size, hE.block⟩
          have hg := hd 15 _ (by kernel_rfl) rfl
          change ac.eval (.tmp 136) = .bool true at hg
          rw [if_pos (Inv.want (j := 15) (b := true) (d := 136) rfl rfl rfl hg)]
          have h138 := hd 17 _ (by kernel_rfl) rfl
          change ac.eval (.tmp 138) = .slice (some ⟨bP, offP, none⟩) n capp at h138
          have h139 := hd 18 _ (by kernel_rfl) rfl
          change ac.eval (.tmp 139) = .int .i64 (j : Int) at h139
          clear hf hd
          refine Inv.val (.pointer (some ⟨bP, offP + j * 2, none⟩)) ?_ rfl rfl (Below.refl _ _)
          clear hE hB HFA HPL
          have hcst : ∀ v, ac.eval (.const v) = v := fun _ => rfl
          generalize ac.eval = ev at *
          simp [execOp, go_sem, *]
        · intro ac wx hE hf hd
          have hB : Below wr.heap.size wr wx := ⟨hE.os, hE.tape, hE.output, hE.size, hE.block⟩
          have hg := hd 15 _ (by kernel_rfl) rfl
          change ac.eval (.tmp 136) = .bool true at hg
          rw [if_pos (Inv.want (j := 15) (b := true) (d := 136) rfl rfl rfl hg)]
          have h140 := hd 19 _ (by kernel_rfl) rfl
          change ac.eval (.tmp 140) = .pointer (some ⟨bP, offP + j * 2, none⟩) at h140
          clear hf hd
          refine Inv.val (.pointer (some ⟨bP, offP + j * 2, none⟩)) ?_ rfl rfl (Below.refl _ _)
          clear hE hB HFA HPL
          have hcst : ∀ v, ac.eval (.const v) = v := fun _ => rfl
          generalize ac.eval = ev at *
          simp [execOp, go_sem, *]
        · intro ac wx hE hf hd
          have hB : Below wr.heap.size wr wx := ⟨hE.os, hE.tape, hE.output, hE.size, hE.block⟩
          have hg := hd 15 _ (by kernel_rfl) rfl
          change ac.eval (.tmp 136) = .bool true at hg
          rw [if_pos (Inv.want (j := 15) (b := true) (d := 136) rfl rfl rfl hg)]
          have h141 := hd 20 _ (by kernel_rfl) rfl
          change ac.eval (.tmp 141) = .pointer (some ⟨bP, offP + j * 2, none⟩) at h141
          clear hf hd
          obtain ⟨a0, a1, a2, a3, a4, a5⟩ := HFA.out wx hB
          refine Inv.val (.int .i64 a) ?_ rfl rfl (Below.refl _ _)
          clear hE hB HFA HPL
          have hcst : ∀ v, ac.eval (.const v) = v := fun _ => rfl
          generalize ac.eval = ev at *
          simp [execOp, go_sem, *]
        · intro ac wx hE hf hd
          have hB : Below wr.heap.size wr wx := ⟨hE.os, hE.tape, hE.output, hE.size, hE.block⟩
          have hg := hd 15 _ (by kernel_rfl) rfl
          change ac.eval (.tmp 136) = .bool true at hg
          rw [if_pos (Inv.want (j := 15) (b := true) (d := 136) rfl rfl rfl hg)]
          have h137 := hd 16 _ (by kernel_rfl) rfl
          change ac.eval (.tmp 137) = .agg #[.int .i64 s, .int .i64 k] at h137
          have h142 := hd 21 _ (by kernel_rfl) rfl
          change ac.eval (.tmp 142) = .int .i64 a at h142
          clear hf hd
          refine Inv.go (f := 11) (xs := #[.agg #[.int .i64 s, .int .i64 k], .int .i64 a]) ?_ rfl ?_
          · clear hE hB HFA HPL
            have hfn : ac.eval (.func 11) = .func (.func 11) #[] #[] := rfl
            generalize ac.eval = ev at *
            simp [execOp, go_sem, *]
          · exact (HPL.out a wx (by omega)).mono fun e w' ⟨he, hb⟩ => ⟨_, he, rfl, hb⟩
        · intro ac wx hE hf hd
          have hB : Below wr.heap.size wr wx := ⟨hE.os, hE.tape, hE.output, hE.size, hE.block⟩
          have hg := hd 15 _ (by kernel_rfl) rfl
          change ac.eval (.tmp 136) = .bool true at hg
          rw [if_pos (Inv.want (j := 15) (b := true) (d := 136) rfl rfl rfl hg)]
          have h11 : ac.eval (.tmp 11) = .pointer (some ⟨x, 0, none⟩) := hf 11 (by kernel_rfl)
          clear hf hd
          obtain ⟨a0, a1, a2, a3, a4, a5⟩ := HFA.out wx hB
          refine Inv.val (.agg #[.int .i64 s, .int .i64 k]) ?_ rfl rfl (Below.refl _ _)
          clear hE hB HFA HPL
          have hcst : ∀ v, ac.eval (.const v) = v := fun _ => rfl
          generalize ac.eval = ev at *
          simp [execOp, go_sem, *]
        · intro ac wx hE hf hd
          have hB : Below wr.heap.size wr wx := ⟨hE.os, hE.tape, hE.output, hE.size, hE.block⟩
          have hg := hd 15 _ (by kernel_rfl) rfl
          change ac.eval (.tmp 136) = .bool true at hg
          rw [if_pos (Inv.want (j := 15) (b := true) (d := 136) rfl rfl rfl hg)]
          have h7 : ac.eval (.tmp 7) = .pointer (some ⟨q, 0, none⟩) := hf 7 (by kernel_rfl)
          clear hf hd
          refine Inv.val (.pointer (some ⟨q, 0, none⟩)) ?_ rfl rfl (Below.refl _ _)
          clear hE hB HFA HPL
          have hcst : ∀ v, ac.eval (.const v) = v := fun _ => rfl
          generalize ac.eval = ev at *
          simp [execOp, go_sem, *]
        · intro ac wx hE hf hd
          have hB : Below wr.heap.size wr wx := ⟨hE.os, hE.tape, hE.output, hE.size, hE.block⟩
          have hg := hd 15 _ (by kernel_rfl) rfl
          change ac.eval (.tmp 136) = .bool true at hg
          rw [if_pos (Inv.want (j := 15) (b := true) (d := 136) rfl rfl rfl hg)]
          have h145 := hd 24 _ (by kernel_rfl) rfl
          change ac.eval (.tmp 145) = .pointer (some ⟨q, 0, none⟩) at h145
          clear hf hd
          obtain ⟨a0, a1, a2, a3, a4, a5⟩ := HFA.out wx hB
          refine Inv.val (.int .i64 pa) ?_ rfl rfl (Below.refl _ _)
          clear hE hB HFA HPL
          have hcst : ∀ v, ac.eval (.const v) = v := fun _ => rfl
          generalize ac.eval = ev at *
          simp [execOp, go_sem, *]
        · intro ac wx hE hf hd
          have hB : Below wr.heap.size wr wx := ⟨hE.os, hE.tape, hE.output, hE.size, hE.block⟩
          have hg := hd 15 _ (by kernel_rfl) rfl
          change ac.eval (.tmp 136) = .bool true at hg
          rw [if_pos (Inv.want (j := 15) (b := true) (d := 136) rfl rfl rfl hg)]
          have h144 := hd 23 _ (by kernel_rfl) rfl
          change ac.eval (.tmp 144) = .agg #[.int .i64 s, .int .i64 k] at h144
          have h146 := hd 25 _ (by kernel_rfl) rfl
          change ac.eval (.tmp 146) = .int .i64 pa at h146
          clear hf hd
          refine Inv.go (f := 11) (xs := #[.agg #[.int .i64 s, .int .i64 k], .int .i64 pa]) ?_ rfl ?_
          · clear hE hB HFA HPL
            have hfn : ac.eval (.func 11) = .func (.func 11) #[] #[] := rfl
            generalize ac.eval = ev at *
            simp [execOp, go_sem, *]
          · exact (HPL.out pa wx (by omega)).mono fun e w' ⟨he, hb⟩ => ⟨_, he, rfl, hb⟩
        · intro ac wx hE hf hd
          have hB : Below wr.heap.size wr wx := ⟨hE.os, hE.tape, hE.output, hE.size, hE.block⟩
          have hg := hd 15 _ (by kernel_rfl) rfl
          change ac.eval (.tmp 136) = .bool true at hg
          rw [if_pos (Inv.want (j := 15) (b := true) (d := 136) rfl rfl rfl hg)]
          have h143 := hd 22 _ (by kernel_rfl) rfl
          change (fun v W => v = .int .i64 (Sl.pl s k a)) (ac.eval (.tmp 143)) wx at h143
          try dsimp only at h143
          have h147 := hd 26 _ (by kernel_rfl) rfl
          change (fun v W => v = .int .i64 (Sl.pl s k pa)) (ac.eval (.tmp 147)) wx at h147
          try dsimp only at h147
          clear hf hd
          refine Inv.val (.bool true) ?_ rfl rfl (Below.refl _ _)
          clear hE hB HFA HPL
          have hcst : ∀ v, ac.eval (.const v) = v := fun _ => rfl
          generalize ac.eval = ev at *
          simp [execOp, go_sem, *]
        · intro ac wx hE hf hd
          have hB : Below wr.heap.size wr wx := ⟨hE.os, hE.tape, hE.output, hE.size, hE.block⟩
          rw [if_pos (Inv.want0 rfl _)]
          have h136 := hd 15 _ (by kernel_rfl) rfl
          change ac.eval (.tmp 136) = .bool true at h136
          have h148 := hd 27 _ (by kernel_rfl) rfl
          change ac.eval (.tmp 148) = .bool true at h148
          clear hf hd
          refine Inv.val (.bool true) ?_ rfl rfl (Below.refl _ _)
          clear hE hB HFA HPL
          have hcst : ∀ v, ac.eval (.const v) = v := fun _ => rfl
          generalize ac.eval = ev at *
          simp [execOp, go_sem, *]
      case fin =>
        intro ac wx hE ha hall
        have hB : Below wr.heap.size wr wx := ⟨hE.os, hE.tape, hE.output, hE.size, hE.block⟩
        have h121 := hall 0 _ rfl
        change ac.eval (.tmp 121) = .slice (some ⟨bP, offP, none⟩) n capp at h121
        have h122 := hall 1 _ rfl
        change ac.eval (.tmp 122) = .int .i64 (j : Int) at h122
        have h123 := hall 2 _ rfl
        change ac.eval (.tmp 123) = .pointer (some ⟨bP, offP + j * 2, none⟩) at h123
        have h124 := hall 3 _ rfl
        change ac.eval (.tmp 124) = .pointer (some ⟨bP, offP + j * 2, none⟩) at h124
        have h125 := hall 4 _ rfl
        change ac.eval (.tmp 125) = .int .i64 a at h125
        have h126 := hall 5 _ rfl
        change ac.eval (.tmp 126) = .bool true at h126
        have h127 := hall 6 _ rfl
        change ac.eval (.tmp 127) = .bool true at h127
        have h128 := hall 7 _ rfl
        change ac.eval (.tmp 128) = .slice (some ⟨bP, offP, none⟩) n capp at h128
        have h129 := hall 8 _ rfl
        change ac.eval (.tmp 129) = .int .i64 (j : Int) at h129
        have h130 := hall 9 _ rfl
        change ac.eval (.tmp 130) = .pointer (some ⟨bP, offP + j * 2, none⟩) at h130
        have h131 := hall 10 _ rfl
        change ac.eval (.tmp 131) = .pointer (some ⟨bP, offP + j * 2, none⟩) at h131
        have h132 := hall 11 _ rfl
        change ac.eval (.tmp 132) = .int .i64 a at h132
        have h133 := hall 12 _ rfl
        change ac.eval (.tmp 133) = .int .i64 now at h133
        have h134 := hall 13 _ rfl
        change ac.eval (.tmp 134) = .bool true at h134
        have h135 := hall 14 _ rfl
        change ac.eval (.tmp 135) = .bool true at h135
        have h136 := hall 15 _ rfl
        change ac.eval (.tmp 136) = .bool true at h136
        have h137 := hall 16 _ rfl
        change ac.eval (.tmp 137) = .agg #[.int .i64 s, .int .i64 k] at h137
        have h138 := hall 17 _ rfl
        change ac.eval (.tmp 138) = .slice (some ⟨bP, offP, none⟩) n capp at h138
        have h139 := hall 18 _ rfl
        change ac.eval (.tmp 139) = .int .i64 (j : Int) at h139
        have h140 := hall 19 _ rfl
        change ac.eval (.tmp 140) = .pointer (some ⟨bP, offP + j * 2, none⟩) at h140
        have h141 := hall 20 _ rfl
        change ac.eval (.tmp 141) = .pointer (some ⟨bP, offP + j * 2, none⟩) at h141
        have h142 := hall 21 _ rfl
        change ac.eval (.tmp 142) = .int .i64 a at h142
        have h143 := hall 22 _ rfl
        change (fun v W => v = .int .i64 (Sl.pl s k a)) (ac.eval (.tmp 143)) wx at h143
        try dsimp only at h143
        generalize hv143 : ac.eval (.tmp 143) = v143 at *
        have h144 := hall 23 _ rfl
        change ac.eval (.tmp 144) = .agg #[.int .i64 s, .int .i64 k] at h144
        have h145 := hall 24 _ rfl
        change ac.eval (.tmp 145) = .pointer (some ⟨q, 0, none⟩) at h145
        have h146 := hall 25 _ rfl
        change ac.eval (.tmp 146) = .int .i64 pa at h146
        have h147 := hall 26 _ rfl
        change (fun v W => v = .int .i64 (Sl.pl s k pa)) (ac.eval (.tmp 147)) wx at h147
        try dsimp only at h147
        generalize hv147 : ac.eval (.tmp 147) = v147 at *
        have h148 := hall 27 _ rfl
        change ac.eval (.tmp 148) = .bool true at h148
        have h149 := hall 28 _ rfl
        change ac.eval (.tmp 149) = .bool true at h149
        simp only [List.foldl, Inv.slot, Act.put] at ha
        change ac.tmps.getD 121 undef = _ at h121
        change ac.tmps.getD 122 undef = _ at h122
        change ac.tmps.getD 123 undef = _ at h123
        change ac.tmps.getD 124 undef = _ at h124
        change ac.tmps.getD 125 undef = _ at h125
        change ac.tmps.getD 126 undef = _ at h126
        change ac.tmps.getD 127 undef = _ at h127
        change ac.tmps.getD 128 undef = _ at h128
        change ac.tmps.getD 129 undef = _ at h129
        change ac.tmps.getD 130 undef = _ at h130
        change ac.tmps.getD 131 undef = _ at h131
        change ac.tmps.getD 132 undef = _ at h132
        change ac.tmps.getD 133 undef = _ at h133
        change ac.tmps.getD 134 undef = _ at h134
        change ac.tmps.getD 135 undef = _ at h135
        change ac.tmps.getD 136 undef = _ at h136
        change ac.tmps.getD 137 undef = _ at h137
        change ac.tmps.getD 138 undef = _ at h138
        change ac.tmps.getD 139 undef = _ at h139
        change ac.tmps.getD 140 undef = _ at h140
        change ac.tmps.getD 141 undef = _ at h141
        change ac.tmps.getD 142 undef = _ at h142
        change ac.tmps.getD 143 undef = _ at hv143
        change ac.tmps.getD 144 undef = _ at h144
        change ac.tmps.getD 145 undef = _ at h145
        change ac.tmps.getD 146 undef = _ at h146
        change ac.tmps.getD 147 undef = _ at hv147
        change ac.tmps.getD 148 undef = _ at h148
        change ac.tmps.getD 149 undef = _ at h149
        simp only [h121, h122, h123, h124, h125, h126, h127, h128, h129, h130, h131, h132, h133, h134, h135, h136, h137, h138, h139, h140, h141, h142, hv143, h144, h145, h146, hv147, h148, h149, List.setIfInBounds_toArray, List.set_cons_zero, List.set_cons_succ] at ha
        clear h121 h122 h123 h124 h125 h126 h127 h128 h129 h130 h131 h132 h133 h134 h135 h136 h137 h138 h139 h140 h141 h142 hv143 h144 h145 h146 hv147 h148 h149 hall hE
        subst ha
        obtain ⟨a0, a1, a2, a3, a4, a5⟩ := HFA.out wx hB
        have HW := Lib.hid (HKi.out.below hB)
        have HBX := Lib.hid hB
        clear hB
        go_wp2_with (go_at_call 10; (with_reducible refine (HUN.out wx HW.out).mono ?_); rintro e w5 ⟨⟨u, v, rfl⟩, h5⟩)
        go_roundw
        case rel => exact ⟨j + 1, c + 27, R, B', by omega, by go_num, by omega, h5, HSN⟩
        case measure => simp [intOf]; omega
    · have hjn : j = n := by omega
      have hil : ¬ (j : Int) < (n : Int) := by omega
      obtain ⟨z0, z1, z2, z3, z4, z5, z6⟩ := HF3.out wr hbY
      have hw1 : IntKind.i64.wrap (now + later) = now + later := IntWalk.i64_in _ (by omega)
      have hw2 : IntKind.i64.wrap (t - 1) = t - 1 := IntWalk.i64_in _ (by omega)
      have hw3 : IntKind.i64.wrap (now + later - (t - 1)) = now + later - (t - 1) := IntWalk.i64_in _ (by omega)
      have HBW : Hid (Below w.heap.size w wr) := Lib.hid (HX.out.trans ((HXY.out.trans (hbY.mono HXY.out.size)).mono HX.out.size))
      have HKN : Hid (Calls Tryd.prog 12 #[] wr fun e w' => e = .returned (.bool true) ∧ Below wr.heap.size wr w') := Lib.hid (known7_any wr (HGY.out.below hbY))
      have HBY := Lib.hid hbY
      clear hbY
      by_cases g1 : now + later - (t - 1) > s * k
      · go_wp2_with (go_at_call 12; (with_reducible refine (HKN.out).mono ?_); rintro e w6 ⟨rfl, hb6⟩; have HB6 := Lib.hid (HBW.out.trans (hb6.mono HBW.out.size)); clear hb6)
        go_ret
        exact ⟨rfl, HB6.out⟩
      have HFE : Hid (Calls Tryd.prog 13 #[.pointer (some ⟨fs, 0, none⟩), .string ⟨#[97]⟩, .int .i64 (now + later), .int .i64 (t - 1), .int .i64 t] wr fun e w' => ∃ b' off' cap', e = .returned (.tuple #[.agg #[.string ⟨#[97]⟩, .int .i64 t, .int .i64 s, .slice (some ⟨b', off', none⟩) 1 cap', .int .i64 0], .int .i64 0]) ∧ Hid (∀ W, Below w'.heap.size w' W → W.cell? ⟨b', off', none⟩ = some (.bool true) ∧ W.cell? ⟨b', off' + 1, none⟩ = some (.int .i64 pn)) ∧ Hid (Below wr.heap.size wr w')) := Lib.hid (by
        have h1 := HKi.out.fetch [97] (by decide) (now + later) (t - 1) t
        rw [HFT.out S B HSi.out.1 HSi.out.2 (by omega)] at h1
        refine h1.mono ?_
        rintro e w' ⟨v, rfl, -, h2, h3⟩
        obtain ⟨y, rfl, ho⟩ := h2 _ rfl
        obtain ⟨b', off', cap', rfl, hv⟩ := OwnV.vals ho (by simp)
        refine ⟨b', off', cap', rfl, Lib.hid fun W hb => ?_, Lib.hid h3⟩
        have hv2 := hv.below hb
        exact ⟨by simpa using hv2.ok 0 (by simp), by simpa using hv2.n 0 (by simp)⟩)
      go_wp2_with (go_at_call 13; (with_reducible refine (HFE.out).mono ?_); rintro e w6 ⟨b', off', cap', rfl, hv6, hb6⟩; have hb7 := hb6.out.alloc hb6.out.size (.cells #[.string ⟨#[97]⟩, .int .i64 t, .int .i64 s, .slice (some ⟨b', off', none⟩) 1 cap', .int .i64 0] 43); obtain ⟨s0, s1, s2, s3, s4, s5, s6⟩ := HF3.out _ (HBY.out.trans (hb7.mono HBY.out.size)); have HB7 := Lib.hid hb7; clear hb7)
      obtain ⟨zq, hzq⟩ : ∃ z, z = w6.heap.size := ⟨_, rfl⟩
      obtain ⟨Z, hZ⟩ : ∃ Z, Z = w6.alloc (.cells #[.string ⟨#[97]⟩, .int .i64 t, .int .i64 s, .slice (some ⟨b', off', none⟩) 1 cap', .int .i64 0] 43) := ⟨_, rfl⟩
      have HRZ : Hid (RowAt Z zq 43 #[.string ⟨#[97]⟩, .int .i64 t, .int .i64 s, .slice (some ⟨b', off', none⟩) 1 cap', .int .i64 0]) := Lib.hid (by rw [hZ, hzq]; exact RowAt.new w6 _ _)
      have HYZ : Hid (Below Y.heap.size Y Z) := Lib.hid (HBY.out.trans ((by rw [hZ]; exact HB7.out : Below wr.heap.size wr Z).mono HBY.out.size))
      have HWZ : Hid (Below w.heap.size w Z) := Lib.hid (HX.out.trans ((HXY.out.trans (HYZ.out.mono HXY.out.size)).mono HX.out.size))
      have HV7 : Hid (∀ W, Below Z.heap.size Z W → W.cell? ⟨b', off', none⟩ = some (.bool true) ∧ W.cell? ⟨b', off' + 1, none⟩ = some (.int .i64 pn)) := Lib.hid fun W hb => hv6.out W (by
        have h1 : Below w6.heap.size w6 Z := by rw [hZ]; exact (Below.refl _ _).alloc (Nat.le_refl _) _
        exact h1.trans (hb.mono h1.size))
      rw [← hZ, ← hzq]
      clear hZ hzq hv6 hb6 s0 s1 s2 s3 s4 s5 s6 HB7 z0 z1 z2 z3 z4 z5 z6
      have HFZ : Hid (∀ W, Below Z.heap.size Z W → W.cell? ⟨zq, 1, none⟩ = some (.int .i64 t) ∧ W.cell? ⟨zq, 2, none⟩ = some (.int .i64 s) ∧ W.cell? ⟨zq, 3, none⟩ = some (.slice (some ⟨b', off', none⟩) 1 cap') ∧ W.cell? ⟨q, 1, none⟩ = some (.int .i64 pn) ∧ W.cell? ⟨b', off', none⟩ = some (.bool true) ∧ W.cell? ⟨b', off' + 1, none⟩ = some (.int .i64 pn)) := Lib.hid fun W hb => by
        have h1 := HRZ.out.below hb HRZ.out.lt
        have h2 := HF3.out W (HYZ.out.trans (hb.mono HYZ.out.size))
        have h3 := HV7.out W hb
        exact ⟨h1.cell 1, h1.cell 2, h1.cell 3, h2.2.2.2.1, h3.1, h3.2⟩
      have HKZ : Hid (∀ W, Below Z.heap.size Z W → Calls Tryd.prog 12 #[] W fun e w' => e = .returned (.bool true) ∧ Below W.heap.size W w') := Lib.hid fun W hb => known7_any W ((HGY.out.below HYZ.out).below hb)
      have hw5 : IntKind.i64.wrap t = t := IntWalk.i64_in _ (by omega)
      go_loopw [20] (fun v wr => v = .int .i64 0 ∧ Hid (Below Z.heap.size Z wr)) (fun _ _ => 0)
      case atStart => exact ⟨rfl, Lib.hid (Below.refl _ _)⟩
      case round =>
        obtain ⟨rfl, HBZ⟩ := hrel
        have HFV : Hid (∀ W, Below wr.heap.size wr W → W.cell? ⟨zq, 1, none⟩ = some (.int .i64 t) ∧ W.cell? ⟨zq, 2, none⟩ = some (.int .i64 s) ∧ W.cell? ⟨zq, 3, none⟩ = some (.slice (some ⟨b', off', none⟩) 1 cap') ∧ W.cell? ⟨q, 1, none⟩ = some (.int .i64 pn) ∧ W.cell? ⟨b', off', none⟩ = some (.bool true) ∧ W.cell? ⟨b', off' + 1, none⟩ = some (.int .i64 pn)) := Lib.hid fun W hb => HFZ.out W (HBZ.out.trans (hb.mono HBZ.out.size))
        have HKV : Hid (∀ W, Below wr.heap.size wr W → Calls Tryd.prog 12 #[] W fun e w' => e = .returned (.bool true) ∧ Below W.heap.size W w') := Lib.hid fun W hb => HKZ.out W (HBZ.out.trans (hb.mono HBZ.out.size))
        obtain ⟨c1, c2, c3, c4, c5, c6⟩ := HFV.out wr (Below.refl _ _)
        go_wp2_with fail
        clear c1 c2 c3 c4 c5 c6
        refine Inv.region (fun W W' => Below W.heap.size W W') (fun i v W => match i with
          | 0 => v = .pointer (some ⟨zq, 3, none⟩)
          | 1 => v = .slice (some ⟨b', off', none⟩) 1 cap'
          | 2 => v = .int .i64 0
          | 3 => v = .pointer (some ⟨b', off', none⟩)
          | 4 => v = .agg #[.bool true, .int .i64 pn]
          | 5 => v = .pointer (some ⟨q, 1, none⟩)
          | 6 => v = .int .i64 pn
          | 7 => v = .agg #[.bool true, .int .i64 pn]
          | 8 => v = .bool true
          | 9 => v = .bool true
          | 10 => v = .bool true
          | 11 => v = .bool true
          | 12 => v = .bool true
          | _ => True) (by kernel_rfl) (by kernel_rfl) (by kernel_rfl) (fun W => Below.refl _ _) (fun a b c h k => h.trans (k.mono h.size)) (fun i v W W' h he => ?stab) ?obls ?fin
        case stab =>
          match i, h with
          | 0, h => exact h
          | 1, h => exact h
          | 2, h => exact h
          | 3, h => exact h
          | 4, h => exact h
          | 5, h => exact h
          | 6, h => exact h
          | 7, h => exact h
          | 8, h => exact h
          | 9, h => exact h
          | 10, h => exact h
          | 11, h => exact h
          | 12, h => exact h
          | _ + 13, h => exact h
        case obls =>
          refine .cons ?_ (.cons ?_ (.cons ?_ (.cons ?_ (.cons ?_ (.cons ?_ (.cons ?_ (.cons ?_ (.cons ?_ (.cons ?_ (.cons ?_ (.cons ?_ (.cons ?_ .nil))))))))))))
          · intro ac wx hE hf hd
            have hB : Below wr.heap.size wr wx := ⟨hE.os, hE.tape, hE.output, hE.size, hE.block⟩
            rw [if_pos (Inv.want0 rfl _)]
            have h18 : ac.eval (.tmp 18) = .pointer (some ⟨zq, 0, none⟩) := hf 18 (by kernel_rfl)
            clear hf hd
            refine Inv.val (.pointer (some ⟨zq, 3, none⟩)) ?_ rfl rfl (Below.refl _ _)
            clear hE hB HFV HKV
            have hcst : ∀ v, ac.eval (.const v) = v := fun _ => rfl
            generalize ac.eval = ev at *
            simp [execOp, go_sem, *]
          · intro ac wx hE hf hd
            have hB : Below wr.heap.size wr wx := ⟨hE.os, hE.tape, hE.output, hE.size, hE.block⟩
            rw [if_pos (Inv.want0 rfl _)]
            have h213 := hd 0 _ (by kernel_rfl) rfl
            change ac.eval (.tmp 213) = .pointer (some ⟨zq, 3, none⟩) at h213
            clear hf hd
            obtain ⟨a0, a1, a2, a3, a4, a5⟩ := HFV.out wx hB
            refine Inv.val (.slice (some ⟨b', off', none⟩) 1 cap') ?_ rfl rfl (Below.refl _ _)
            clear hE hB HFV HKV
            have hcst : ∀ v, ac.eval (.const v) = v := fun _ => rfl
            generalize ac.eval = ev at *
            simp [execOp, go_sem, *]
          · intro ac wx hE hf hd
            have hB : Below wr.heap.size wr wx := ⟨hE.os, hE.tape, hE.output, hE.size, hE.block⟩
            rw [if_pos (Inv.want0 rfl _)]
            have h20 : ac.eval (.tmp 20) = .int .i64 0 := hf 20 (by kernel_rfl)
            clear hf hd
            refine Inv.val (.int .i64 0) ?_ rfl rfl (Below.refl _ _)
            clear hE hB
            generalize ac.eval = ev at *
            simp [execOp, go_sem, *]
          · intro ac wx hE hf hd
            have hB : Below wr.heap.size wr wx := ⟨hE.os, hE.tape, hE.output, hE.size, hE.block⟩
            rw [if_pos (Inv.want0 rfl _)]
            have h214 := hd 1 _ (by kernel_rfl) rfl
            change ac.eval (.tmp 214) = .slice (some ⟨b', off', none⟩) 1 cap' at h214
            have h215 := hd 2 _ (by kernel_rfl) rfl
            change ac.eval (.tmp 215) = .int .i64 0 at h215
            clear hf hd
            refine Inv.val (.pointer (some ⟨b', off', none⟩)) ?_ rfl rfl (Below.refl _ _)
            clear hE hB HFV HKV
            have hcst : ∀ v, ac.eval (.const v) = v := fun _ => rfl
            generalize ac.eval = ev at *
            simp [execOp, go_sem, *]
          · intro ac wx hE hf hd
            have hB : Below wr.heap.size wr wx := ⟨hE.os, hE.tape, hE.output, hE.size, hE.block⟩
            rw [if_pos (Inv.want0 rfl _)]
            have h216 := hd 3 _ (by kernel_rfl) rfl
            change ac.eval (.tmp 216) = .pointer (some ⟨b', off', none⟩) at h216
            clear hf hd
            obtain ⟨a0, a1, a2, a3, a4, a5⟩ := HFV.out wx hB
            refine Inv.val (.agg #[.bool true, .int .i64 pn]) ?_ rfl rfl (Below.refl _ _)
            clear hE hB HFV HKV
            have hcst : ∀ v, ac.eval (.const v) = v := fun _ => rfl
            generalize ac.eval = ev at *
            simp [execOp, go_sem, *]
          · intro ac wx hE hf hd
            have hB : Below wr.heap.size wr wx := ⟨hE.os, hE.tape, hE.output, hE.size, hE.block⟩
            rw [if_pos (Inv.want0 rfl _)]
            have h7 : ac.eval (.tmp 7) = .pointer (some ⟨q, 0, none⟩) := hf 7 (by kernel_rfl)
            clear hf hd
            refine Inv.val (.pointer (some ⟨q, 1, none⟩)) ?_ rfl rfl (Below.refl _ _)
            clear hE hB HFV HKV
            have hcst : ∀ v, ac.eval (.const v) = v := fun _ => rfl
            generalize ac.eval = ev at *
            simp [execOp, go_sem, *]
          · intro ac wx hE hf hd
            have hB : Below wr.heap.size wr wx := ⟨hE.os, hE.tape, hE.output, hE.size, hE.block⟩
            rw [if_pos (Inv.want0 rfl _)]
            have h218 := hd 5 _ (by kernel_rfl) rfl
            change ac.eval (.tmp 218) = .pointer (some ⟨q, 1, none⟩) at h218
            clear hf hd
            obtain ⟨a0, a1, a2, a3, a4, a5⟩ := HFV.out wx hB
            refine Inv.val (.int .i64 pn) ?_ rfl rfl (Below.refl _ _)
            clear hE hB HFV HKV
            have hcst : ∀ v, ac.eval (.const v) = v := fun _ => rfl
            generalize ac.eval = ev at *
            simp [execOp, go_sem, *]
          · intro ac wx hE hf hd
            have hB : Below wr.heap.size wr wx := ⟨hE.os, hE.tape, hE.output, hE.size, hE.block⟩
            rw [if_pos (Inv.want0 rfl _)]
            have h219 := hd 6 _ (by kernel_rfl) rfl
            change ac.eval (.tmp 219) = .int .i64 pn at h219
            clear hf hd
            refine Inv.val (.agg #[.bool true, .int .i64 pn]) ?_ rfl rfl (Below.refl _ _)
            clear hE hB HFV HKV
            have hcst : ∀ v, ac.eval (.const v) = v := fun _ => rfl
            generalize ac.eval = ev at *
            simp [execOp, go_sem, *]
          · intro ac wx hE hf hd
            have hB : Below wr.heap.size wr wx := ⟨hE.os, hE.tape, hE.output, hE.size, hE.block⟩
            rw [if_pos (Inv.want0 rfl _)]
            have h217 := hd 4 _ (by kernel_rfl) rfl
            change ac.eval (.tmp 217) = .agg #[.bool true, .int .i64 pn] at h217
            have h220 := hd 7 _ (by kernel_rfl) rfl
            change ac.eval (.tmp 220) = .agg #[.bool true, .int .i64 pn] at h220
            clear hf hd
            refine Inv.val (.bool true) ?_ rfl rfl (Below.refl _ _)
            clear hE hB HFV HKV
            have hcst : ∀ v, ac.eval (.const v) = v := fun _ => rfl
            generalize ac.eval = ev at *
            simp [execOp, go_sem, *]
          · intro ac wx hE hf hd
            have hB : Below wr.heap.size wr wx := ⟨hE.os, hE.tape, hE.output, hE.size, hE.block⟩
            rw [if_pos (Inv.want0 rfl _)]
            have h221 := hd 8 _ (by kernel_rfl) rfl
            change ac.eval (.tmp 221) = .bool true at h221
            clear hf hd
            refine Inv.val (.bool true) ?_ rfl rfl (Below.refl _ _)
            clear hE hB
            generalize ac.eval = ev at *
            simp [execOp, go_sem, *]
          · intro ac wx hE hf hd
            have hB : Below wr.heap.size wr wx := ⟨hE.os, hE.tape, hE.output, hE.size, hE.block⟩
            have hg := hd 9 _ (by kernel_rfl) rfl
            change ac.eval (.tmp 222) = .bool true at hg
            rw [if_pos (Inv.want (j := 9) (b := true) (d := 222) rfl rfl rfl hg)]
            clear hf hd
            refine Inv.go (f := 12) (xs := #[]) ?_ rfl ?_
            · clear hE hB HFV HKV
              have hfn : ac.eval (.func 12) = .func (.func 12) #[] #[] := rfl
              generalize ac.eval = ev at *
              simp [execOp, go_sem, *]
            · exact (HKV.out wx hB).mono fun e w' ⟨he, hb⟩ => ⟨_, he, rfl, hb⟩
          · intro ac wx hE hf hd
            have hB : Below wr.heap.size wr wx := ⟨hE.os, hE.tape, hE.output, hE.size, hE.block⟩
            rw [if_pos (Inv.want0 rfl _)]
            have h222 := hd 9 _ (by kernel_rfl) rfl
            change ac.eval (.tmp 222) = .bool true at h222
            have h223 := hd 10 _ (by kernel_rfl) rfl
            change (fun v W => v = .bool true) (ac.eval (.tmp 223)) wx at h223
            try dsimp only at h223
            clear hf hd
            refine Inv.val (.bool true) ?_ rfl rfl (Below.refl _ _)
            clear hE hB HFV HKV
            have hcst : ∀ v, ac.eval (.const v) = v := fun _ => rfl
            generalize ac.eval = ev at *
            simp [execOp, go_sem, *]
          · intro ac wx hE hf hd
            have hB : Below wr.heap.size wr wx := ⟨hE.os, hE.tape, hE.output, hE.size, hE.block⟩
            rw [if_pos (Inv.want0 rfl _)]
            have h224 := hd 11 _ (by kernel_rfl) rfl
            change ac.eval (.tmp 224) = .bool true at h224
            clear hf hd
            refine Inv.val (.bool true) ?_ rfl rfl (Below.refl _ _)
            clear hE hB
            generalize ac.eval = ev at *
            simp [execOp, go_sem, *]
        case fin =>
          intro ac wx hE ha hall
          have hB : Below wr.heap.size wr wx := ⟨hE.os, hE.tape, hE.output, hE.size, hE.block⟩
          have h213 := hall 0 _ rfl
          change ac.eval (.tmp 213) = .pointer (some ⟨zq, 3, none⟩) at h213
          have h214 := hall 1 _ rfl
          change ac.eval (.tmp 214) = .slice (some ⟨b', off', none⟩) 1 cap' at h214
          have h215 := hall 2 _ rfl
          change ac.eval (.tmp 215) = .int .i64 0 at h215
          have h216 := hall 3 _ rfl
          change ac.eval (.tmp 216) = .pointer (some ⟨b', off', none⟩) at h216
          have h217 := hall 4 _ rfl
          change ac.eval (.tmp 217) = .agg #[.bool true, .int .i64 pn] at h217
          have h218 := hall 5 _ rfl
          change ac.eval (.tmp 218) = .pointer (some ⟨q, 1, none⟩) at h218
          have h219 := hall 6 _ rfl
          change ac.eval (.tmp 219) = .int .i64 pn at h219
          have h220 := hall 7 _ rfl
          change ac.eval (.tmp 220) = .agg #[.bool true, .int .i64 pn] at h220
          have h221 := hall 8 _ rfl
          change ac.eval (.tmp 221) = .bool true at h221
          have h222 := hall 9 _ rfl
          change ac.eval (.tmp 222) = .bool true at h222
          have h223 := hall 10 _ rfl
          change (fun v W => v = .bool true) (ac.eval (.tmp 223)) wx at h223
          try dsimp only at h223
          generalize hv223 : ac.eval (.tmp 223) = v223 at *
          have h224 := hall 11 _ rfl
          change ac.eval (.tmp 224) = .bool true at h224
          have h10 := hall 12 _ rfl
          change ac.eval (.tmp 10) = .bool true at h10
          simp only [List.foldl, Inv.slot, Act.put] at ha
          change ac.tmps.getD 213 undef = _ at h213
          change ac.tmps.getD 214 undef = _ at h214
          change ac.tmps.getD 215 undef = _ at h215
          change ac.tmps.getD 216 undef = _ at h216
          change ac.tmps.getD 217 undef = _ at h217
          change ac.tmps.getD 218 undef = _ at h218
          change ac.tmps.getD 219 undef = _ at h219
          change ac.tmps.getD 220 undef = _ at h220
          change ac.tmps.getD 221 undef = _ at h221
          change ac.tmps.getD 222 undef = _ at h222
          change ac.tmps.getD 223 undef = _ at hv223
          change ac.tmps.getD 224 undef = _ at h224
          change ac.tmps.getD 10 undef = _ at h10
          simp only [h213, h214, h215, h216, h217, h218, h219, h220, h221, h222, hv223, h224, h10, List.setIfInBounds_toArray, List.set_cons_zero, List.set_cons_succ] at ha
          clear h213 h214 h215 h216 h217 h218 h219 h220 h221 h222 hv223 h224 h10 hall hE
          subst ha
          go_wp2_with fail
          go_ret
          exact ⟨rfl, HWZ.out.trans ((HBZ.out.trans (Below.mono ⟨hB.os, hB.tape, hB.output, hB.size, hB.block⟩ HBZ.out.size)).mono HWZ.out.size)⟩
end Go.Proofs.YtbhfapbhlkgmfaaDoor
