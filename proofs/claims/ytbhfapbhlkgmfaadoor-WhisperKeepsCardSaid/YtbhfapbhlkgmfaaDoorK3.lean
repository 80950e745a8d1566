/-
  WsKe: CONTRACTS: chapter 7's law of what is kept: the walk up to its loop.
  WsOpen: POINTS THAT COME IN, AS DATA: a row of them, one of them.
-/
import Derived.Test.YtbhfapbhlkgmfaaDoorK1
import Derived.Test.YtbhfapbhlkgmfaaDoorK2
import Derived.Test.YtbhfapbhlkgmfaaDoorJ5
import Derived.Test.YtbhfapbhlkgmfaaDoorJ24

namespace Go.Proofs.YtbhfapbhlkgmfaaDoor
open Go.RowKit Go.Sort
open Fx (Vl)
open Me
open Wp

set_option maxRecDepth 100000 in
set_option maxHeartbeats 8000000 in
theorem lawKeeps7 (ag xf : Int) (l : List (Int × Int)) (A : Option Addr) (cap : Nat) (now pa pn : Int) (lp : List (Int × Int)) (Ap : Option Addr) (capp : Nat) (later : Int) (w : World) (hg : Gv w) (hr : Row w A l cap) (hp : Row w Ap lp capp) (hpa : pa ≤ 9223372036854775807) :
    Calls Tryd.prog 3 #[.agg #[.int .i64 ag, .int .i64 xf, .slice A l.length cap], .int .i64 now, .agg #[.int .i64 pa, .int .i64 pn], .slice Ap lp.length capp, .int .i64 later] w fun e w' => e = .returned (.bool true) ∧ Below w.heap.size w w' := by
  obtain ⟨X, hX⟩ : ∃ X, X = (w.alloc (.cells #[.int .i64 ag, .int .i64 xf, .slice A l.length cap] 24)).alloc (.cells #[.int .i64 pa, .int .i64 pn] 26) := ⟨_, rfl⟩
  have hbX : Below w.heap.size w X := by rw [hX]; exact ((Below.refl _ _).alloc (Nat.le_refl _) _).alloc (by simp) _
  have HX := Lib.hid hbX
  obtain ⟨p, hpw⟩ : ∃ p, p = w.heap.size := ⟨_, rfl⟩
  obtain ⟨q, hqw⟩ : ∃ q, q = w.heap.size + 1 := ⟨_, rfl⟩
  have hrx : RowAt X p 24 #[.int .i64 ag, .int .i64 xf, .slice A l.length cap] := by rw [hX, hpw]; exact (RowAt.new w _ _).below ((Below.refl _ _).alloc (Nat.le_refl _) _) (by simp)
  have hry : RowAt X q 26 #[.int .i64 pa, .int .i64 pn] := by rw [hX, hqw]; exact (by simpa using RowAt.new (w.alloc (.cells #[.int .i64 ag, .int .i64 xf, .slice A l.length cap] 24)) #[.int .i64 pa, .int .i64 pn] 26)
  have HRX := Lib.hid hrx
  have HRY := Lib.hid hry
  have HSM : Hid (∀ W, Below X.heap.size X W → Calls Tryd.prog 6 #[.agg #[.int .i64 ag, .int .i64 xf, .slice A l.length cap]] W fun e w' => e = .returned (.bool (Wh.val ag xf l && decide (Wh.size ag xf l ≤ 3000))) ∧ Below W.heap.size W w') := Lib.hid fun W hb => small_any ag xf l A cap W ((hr.below hbX).below hb)
  obtain ⟨b, hb⟩ : ∃ b, b = (Wh.val ag xf l && decide (Wh.size ag xf l ≤ 3000)) := ⟨_, rfl⟩
  rw [← hb] at HSM
  have HB := Lib.hid hb
  have HP := Lib.hid hp
  have HR := Lib.hid hr
  have HG := Lib.hid hg
  have y0 : X.cell? ⟨p, 0, none⟩ = some (.int .i64 ag) := hrx.cell 0
  have y1 : X.cell? ⟨p, 1, none⟩ = some (.int .i64 xf) := hrx.cell 1
  have y2 : X.cell? ⟨p, 2, none⟩ = some (.slice A l.length cap) := hrx.cell 2
  clear hb hbX hrx hry hg hr hp
  cases b
  · go_enter Tryd.func3, Tryd.ntmps3
    go_wp2_with fail
    rw [← hX, ← hqw, ← hpw]
    clear hX hqw hpw
    go_wp2_with first
      | (go_at_call 6; (with_reducible refine (HSM.out _ (Below.refl _ _)).mono ?_); rintro e w1 ⟨rfl, hb1⟩; have HB1 := Lib.hid hb1; clear hb1)
    go_ret
    exact ⟨rfl, HX.out.trans (HB1.out.mono HX.out.size)⟩
  · obtain ⟨hv, hsz⟩ : Wh.val ag xf l = true ∧ Wh.size ag xf l ≤ 3000 := by have := HB.out; simp at this; exact this
    obtain ⟨n, hn⟩ : ∃ n, n = lp.length := ⟨_, rfl⟩
    have HN := Lib.hid hn
    rw [← hn]
    clear hn HB
    obtain ⟨H, hH⟩ : ∃ H : Hd, H = ⟨ag, xf, l⟩ := ⟨_, rfl⟩
    have hHv : H.val = true := by rw [hH]; exact hv
    have hHs : H.size ≤ 3000 := by rw [hH]; exact hsz
    have hlen := Hd.len hHv
    have hHl : H.l = l := by rw [hH]
    rw [hHl] at hlen
    obtain ⟨bA, off, rfl, har⟩ := HR.out.2 (by omega)
    obtain ⟨⟨n1, n2⟩, n3, n4⟩ := Hd.nums hHv 0 (by rw [hHl]; omega)
    obtain ⟨s, hs⟩ : ∃ s, s = H.step 0 := ⟨_, rfl⟩
    obtain ⟨k, hk⟩ : ∃ k, k = H.cnt 0 := ⟨_, rfl⟩
    have hs' : (Wh.At l 0).1 = s := by rw [hs, ← hHl]; rfl
    have hk' : (Wh.At l 0).2 = k := by rw [hk, ← hHl]; rfl
    rw [← hs] at n1 n2
    rw [← hk] at n3 n4
    have HF1 : Hid (∀ W, Below X.heap.size X W → W.cell? ⟨bA, off, none⟩ = some (.int .i64 s) ∧ W.cell? ⟨bA, off + 1, none⟩ = some (.int .i64 k) ∧ W.cell? ⟨p, 0, none⟩ = some (.int .i64 ag) ∧ W.cell? ⟨p, 1, none⟩ = some (.int .i64 xf) ∧ W.cell? ⟨p, 2, none⟩ = some (.slice (some ⟨bA, off, none⟩) l.length cap)) := Lib.hid fun W hb => by
      have h1 := (har.below HX.out).below hb
      have h2 := HRX.out.below hb HRX.out.lt
      have c0 := h1.st 0 (by omega)
      have c1 := h1.ct 0 (by omega)
      rw [hs'] at c0
      rw [hk'] at c1
      exact ⟨by simpa using c0, by simpa using c1, h2.cell 0, h2.cell 1, h2.cell 2⟩
    have HF2 : Hid (∀ W, Below X.heap.size X W → W.cell? ⟨q, 0, none⟩ = some (.int .i64 pa) ∧ W.cell? ⟨q, 1, none⟩ = some (.int .i64 pn)) := Lib.hid fun W hb => by
      have h2 := HRY.out.below hb HRY.out.lt
      exact ⟨h2.cell 0, h2.cell 1⟩
    have hlI : ¬ ((l.length : Int) ≤ 0) := by omega
    have HS := Lib.hid hs
    have HK := Lib.hid hk
    have HH := Lib.hid hH
    have HHV := Lib.hid hHv
    have HHS := Lib.hid hHs
    clear hs hk hs' hk' hH hHv hHs hHl hv hsz har
    generalize hnl : l.length = nl at *
    have HNL := Lib.hid hnl
    clear hnl
    by_cases t1 : now < 1
    · go_enter Tryd.func3, Tryd.ntmps3
      go_wp2_with fail
      rw [← hX, ← hqw, ← hpw]
      clear hX hqw hpw
      go_wp2_with first
        | (go_at_call 6; (with_reducible refine (HSM.out _ (Below.refl _ _)).mono ?_); rintro e w1 ⟨rfl, hb1⟩; have HB1 := Lib.hid hb1; clear hb1)
      go_ret
      exact ⟨rfl, HX.out.trans (HB1.out.mono HX.out.size)⟩
    by_cases t2 : 4294867295 < now
    · go_enter Tryd.func3, Tryd.ntmps3
      go_wp2_with fail
      rw [← hX, ← hqw, ← hpw]
      clear hX hqw hpw
      go_wp2_with first
        | (go_at_call 6; (with_reducible refine (HSM.out _ (Below.refl _ _)).mono ?_); rintro e w1 ⟨rfl, hb1⟩; have HB1 := Lib.hid hb1; clear hb1)
      go_ret
      exact ⟨rfl, HX.out.trans (HB1.out.mono HX.out.size)⟩
    by_cases t3 : later < 0
    · go_enter Tryd.func3, Tryd.ntmps3
      go_wp2_with fail
      rw [← hX, ← hqw, ← hpw]
      clear hX hqw hpw
      go_wp2_with first
        | (go_at_call 6; (with_reducible refine (HSM.out _ (Below.refl _ _)).mono ?_); rintro e w1 ⟨rfl, hb1⟩; have HB1 := Lib.hid hb1; clear hb1)
      go_ret
      exact ⟨rfl, HX.out.trans (HB1.out.mono HX.out.size)⟩
    by_cases t4 : 100000 < later
    · go_enter Tryd.func3, Tryd.ntmps3
      go_wp2_with fail
      rw [← hX, ← hqw, ← hpw]
      clear hX hqw hpw
      go_wp2_with first
        | (go_at_call 6; (with_reducible refine (HSM.out _ (Below.refl _ _)).mono ?_); rintro e w1 ⟨rfl, hb1⟩; have HB1 := Lib.hid hb1; clear hb1)
      go_ret
      exact ⟨rfl, HX.out.trans (HB1.out.mono HX.out.size)⟩
    by_cases t5 : 20 < (n : Int)
    · go_enter Tryd.func3, Tryd.ntmps3
      go_wp2_with fail
      rw [← hX, ← hqw, ← hpw]
      clear hX hqw hpw
      go_wp2_with first
        | (go_at_call 6; (with_reducible refine (HSM.out _ (Below.refl _ _)).mono ?_); rintro e w1 ⟨rfl, hb1⟩; have HB1 := Lib.hid hb1; clear hb1)
      go_ret
      exact ⟨rfl, HX.out.trans (HB1.out.mono HX.out.size)⟩
    have hsk : 1 ≤ s * k ∧ s * k ≤ 281474976710656 := Wh.mul_bd n1 n2 n3 n4
    have hwm : IntKind.i64.wrap (s * k) = s * k := IntWalk.i64_in _ (by omega)
    obtain ⟨t, ht⟩ : ∃ t, t = Sl.al pa s := ⟨_, rfl⟩
    have HAL : Hid (∀ W, Calls Tryd.prog 7 #[.int .i64 pa, .int .i64 s] W fun e w' => e = .returned (.int .i64 t) ∧ W = w') := Lib.hid fun W => by
      rw [ht]
      exact ralign_any pa s hpa W
    have HT := Lib.hid ht
    clear ht
    by_cases t6 : pa < 1
    · go_enter Tryd.func3, Tryd.ntmps3
      go_wp2_with fail
      rw [← hX, ← hqw, ← hpw]
      clear hX hqw hpw
      go_wp2_with first
        | (go_at_call 6; (with_reducible refine (HSM.out _ (Below.refl _ _)).mono ?_); rintro e w1 ⟨rfl, hb1⟩; have HB1 := Lib.hid hb1; obtain ⟨v0, v1, v2, v3, v4⟩ := HF1.out _ hb1; obtain ⟨x0, x1⟩ := HF2.out (w1.alloc (.cells #[.int .i64 s, .int .i64 k] 30)) (hb1.alloc hb1.size _); clear hb1)
        | (go_at_call 7; ((with_reducible refine (HAL.out _).mono ?_); rintro e w' ⟨rfl, rfl⟩))
      go_ret
      exact ⟨rfl, HX.out.trans ((HB1.out.alloc HB1.out.size _).mono HX.out.size)⟩
    by_cases t7 : now < pa
    · go_enter Tryd.func3, Tryd.ntmps3
      go_wp2_with fail
      rw [← hX, ← hqw, ← hpw]
      clear hX hqw hpw
      go_wp2_with first
        | (go_at_call 6; (with_reducible refine (HSM.out _ (Below.refl _ _)).mono ?_); rintro e w1 ⟨rfl, hb1⟩; have HB1 := Lib.hid hb1; obtain ⟨v0, v1, v2, v3, v4⟩ := HF1.out _ hb1; obtain ⟨x0, x1⟩ := HF2.out (w1.alloc (.cells #[.int .i64 s, .int .i64 k] 30)) (hb1.alloc hb1.size _); clear hb1)
        | (go_at_call 7; ((with_reducible refine (HAL.out _).mono ?_); rintro e w' ⟨rfl, rfl⟩))
      go_ret
      exact ⟨rfl, HX.out.trans ((HB1.out.alloc HB1.out.size _).mono HX.out.size)⟩
    have hws : IntKind.i64.wrap (now - pa) = now - pa := IntWalk.i64_in _ (by omega)
    by_cases t8 : now - pa ≥ s * k
    · go_enter Tryd.func3, Tryd.ntmps3
      go_wp2_with fail
      rw [← hX, ← hqw, ← hpw]
      clear hX hqw hpw
      go_wp2_with first
        | (go_at_call 6; (with_reducible refine (HSM.out _ (Below.refl _ _)).mono ?_); rintro e w1 ⟨rfl, hb1⟩; have HB1 := Lib.hid hb1; obtain ⟨v0, v1, v2, v3, v4⟩ := HF1.out _ hb1; obtain ⟨x0, x1⟩ := HF2.out (w1.alloc (.cells #[.int .i64 s, .int .i64 k] 30)) (hb1.alloc hb1.size _); clear hb1)
        | (go_at_call 7; ((with_reducible refine (HAL.out _).mono ?_); rintro e w' ⟨rfl, rfl⟩))
      go_ret
      exact ⟨rfl, HX.out.trans ((HB1.out.alloc HB1.out.size _).mono HX.out.size)⟩
    by_cases t9 : t = 0
    · go_enter Tryd.func3, Tryd.ntmps3
      go_wp2_with fail
      rw [← hX, ← hqw, ← hpw]
      clear hX hqw hpw
      go_wp2_with first
        | (go_at_call 6; (with_reducible refine (HSM.out _ (Below.refl _ _)).mono ?_); rintro e w1 ⟨rfl, hb1⟩; have HB1 := Lib.hid hb1; obtain ⟨v0, v1, v2, v3, v4⟩ := HF1.out _ hb1; obtain ⟨x0, x1⟩ := HF2.out (w1.alloc (.cells #[.int .i64 s, .int .i64 k] 30)) (hb1.alloc hb1.size _); clear hb1)
        | (go_at_call 7; ((with_reducible refine (HAL.out _).mono ?_); rintro e w' ⟨rfl, rfl⟩))
      go_ret
      exact ⟨rfl, HX.out.trans ((HB1.out.alloc HB1.out.size _).mono HX.out.size)⟩
    by_cases t10 : pn < -4611686018427387904
    · go_enter Tryd.func3, Tryd.ntmps3
      go_wp2_with fail
      rw [← hX, ← hqw, ← hpw]
      clear hX hqw hpw
      go_wp2_with first
        | (go_at_call 6; (with_reducible refine (HSM.out _ (Below.refl _ _)).mono ?_); rintro e w1 ⟨rfl, hb1⟩; have HB1 := Lib.hid hb1; obtain ⟨v0, v1, v2, v3, v4⟩ := HF1.out _ hb1; obtain ⟨x0, x1⟩ := HF2.out (w1.alloc (.cells #[.int .i64 s, .int .i64 k] 30)) (hb1.alloc hb1.size _); clear hb1)
        | (go_at_call 7; ((with_reducible refine (HAL.out _).mono ?_); rintro e w' ⟨rfl, rfl⟩))
      go_ret
      exact ⟨rfl, HX.out.trans ((HB1.out.alloc HB1.out.size _).mono HX.out.size)⟩
    by_cases t11 : pn > 4611686018427387904
    · go_enter Tryd.func3, Tryd.ntmps3
      go_wp2_with fail
      rw [← hX, ← hqw, ← hpw]
      clear hX hqw hpw
      go_wp2_with first
        | (go_at_call 6; (with_reducible refine (HSM.out _ (Below.refl _ _)).mono ?_); rintro e w1 ⟨rfl, hb1⟩; have HB1 := Lib.hid hb1; obtain ⟨v0, v1, v2, v3, v4⟩ := HF1.out _ hb1; obtain ⟨x0, x1⟩ := HF2.out (w1.alloc (.cells #[.int .i64 s, .int .i64 k] 30)) (hb1.alloc hb1.size _); clear hb1)
        | (go_at_call 7; ((with_reducible refine (HAL.out _).mono ?_); rintro e w' ⟨rfl, rfl⟩))
      go_ret
      exact ⟨rfl, HX.out.trans ((HB1.out.alloc HB1.out.size _).mono HX.out.size)⟩
    have hnl := HNL.out
    have hnn := HN.out
    have e1 := HS.out
    have e2 := HK.out
    have e3 := HT.out
    clear HF1 HF2 HAL HSM HNL HN HS HK HT hwm hws hsk y0 y1 y2
    subst hnl hnn e3 e1 e2
    exact keeps_main ag xf l (some ⟨bA, off, none⟩) cap now pa pn lp Ap capp later w HG.out HR.out HP.out H HH.out HHV.out HHS.out t1 t2 t3 t4 t5 t6 t7 t8 t9 t10 t11
end Go.Proofs.YtbhfapbhlkgmfaaDoor

namespace Go.Proofs.YtbhfapbhlkgmfaaDoor
open Go.RowKit Go.Sort
open Wh (At)

set_option maxRecDepth 100000
namespace WsOpen
open Go.ChangeShapes Go.WideShapes Go.ChangeAt Go.RowKit Go.Deep Go.Joins
theorem pointsAt {H : Type} {enc : TypeId × Value → H} {w : World} {base : Nat} {spare : Nat → Bool} {held : Bool} {fuel : Nat} {x : Option Addr} {len cap : Nat} {y : DataW H × List MemPlace}
    (h : DataW.trod enc Tryd.prog w base spare held fuel 27 [.slice x len cap] = some y) :
    len ≤ cap ∧ ((x = none ∧ len = 0 ∧ cap = 0) ∨ (∃ a : Addr, x = some a ∧ ∀ i, i < len → ∃ (s c : Int), w.cell? (a.add (i * 2)) = some (.int .i64 s) ∧ w.cell? (a.add (i * 2 + 1)) = some (.int .i64 c))) := by
  rcases open_slice Tryd.underlying27 h with ⟨hcs, _⟩ | ⟨a, len', cap', m, n, D, Pl, hcs, _, hl, _, hm, _, hi⟩
  · simp at hcs
    obtain ⟨rfl, rfl, rfl⟩ := hcs
    exact ⟨Nat.le_refl _, .inl ⟨rfl, rfl, rfl⟩⟩
  · simp at hcs
    obtain ⟨rfl, rfl, rfl⟩ := hcs
    refine ⟨hl, .inr ⟨a, rfl, fun i hil => ?_⟩⟩
    have him : i < m := by rw [hm]; split <;> omega
    obtain ⟨cs', h1, h2⟩ := hi i him
    have hC : Tryd.prog.cellsOf 26 = 2 := by kernel_rfl
    rw [hC] at h1
    obtain ⟨_, hlen, hat⟩ := World.cells?_some h1
    match cs', hlen with
    | [c0, c1], _ =>
      obtain ⟨xs, n', _, _, _, _, hf⟩ := DataW.trod_struct Tryd.underlying26 h2
      have g0 := hf 0 _ rfl
      have g1 := hf 1 _ rfl
      have hn : Tryd.prog.cellsOf 3 = 1 := by kernel_rfl
      have hx2 : xs.length = 2 := by assumption
      have g0' : DataW.trod enc Tryd.prog w base spare held n' 3 [c0] = some (xs[0]'(by omega)) := by
        have e : xs[0]? = some (xs[0]'(by omega)) := List.getElem?_eq_getElem (by omega)
        rw [← e, ← g0]
        show _ = DataW.trod enc Tryd.prog w base spare held n' 3 (List.take (Tryd.prog.cellsOf 3) (List.drop 0 [c0, c1]))
        rw [hn]
        rfl
      have g1' : DataW.trod enc Tryd.prog w base spare held n' 3 [c1] = some (xs[1]'(by omega)) := by
        have e : xs[1]? = some (xs[1]'(by omega)) := List.getElem?_eq_getElem (by omega)
        rw [← e, ← g1]
        show _ = DataW.trod enc Tryd.prog w base spare held n' 3 (List.take (Tryd.prog.cellsOf 3) (List.drop 1 [c0, c1]))
        rw [hn]
        rfl
      obtain ⟨s, e0, _, _⟩ := DataW.trod_int Tryd.underlying3 g0'
      obtain ⟨c, e1, _, _⟩ := DataW.trod_int Tryd.underlying3 g1'
      simp at e0 e1
      subst e0 e1
      refine ⟨s, c, ?_, ?_⟩
      · have := hat 0 (by omega)
        simpa [Addr.add] using this
      · have := hat 1 (by omega)
        rw [Go.Deep.add_add] at this
        simpa using this


theorem points {H : Type} {enc : TypeId × Value → H} {w : World} {base : Nat} {spare : Nat → Bool} {held : Bool} {v : Value} {d : DataW H} {p : List MemPlace} {r : Reach} {b0 : Nat}
    (hv : Value.okWide Tryd.prog w r b0 27 v) (h : DataW.Trod enc Tryd.prog w base spare held 27 v d p) : ∃ (l : List (Int × Int)) (A : Option Addr) (cap : Nat), v = .slice A l.length cap ∧ Row w A l cap := by
  obtain ⟨a0, len0, cap0, rfl⟩ := okWide_slice Tryd.underlying27 hv
  obtain ⟨fuel, hf⟩ := h
  obtain ⟨hl, ho⟩ := pointsAt (by simpa [Value.cells] using hf)
  obtain ⟨l, rfl, hr⟩ := WhOpen.row_of hl ho
  exact ⟨l, a0, cap0, rfl, hr⟩
theorem point {H : Type} {enc : TypeId × Value → H} {w : World} {r : Reach} {b0 base : Nat} {spare : Nat → Bool} {held : Bool} {v : Value} {d : DataW H} {p : List MemPlace}
    (hv : Value.okWide Tryd.prog w r b0 26 v) (h : DataW.Trod enc Tryd.prog w base spare held 26 v d p) :
    ∃ (a n : Int), v = .agg #[.int .i64 a, .int .i64 n] ∧ (-9223372036854775808 ≤ a ∧ a ≤ 9223372036854775807) ∧ (-9223372036854775808 ≤ n ∧ n ≤ 9223372036854775807) := by
  obtain ⟨v0, v1, y0, y1, n, rfl, _, _, t0, t1⟩ := open_agg2 Tryd.underlying26 (by kernel_rfl) (by kernel_rfl) hv h
  obtain ⟨a, e0, _, g0⟩ := DataW.trod_int Tryd.underlying3 t0
  obtain ⟨b, e1, _, g1⟩ := DataW.trod_int Tryd.underlying3 t1
  simp at e0 e1
  subst e0 e1
  refine ⟨a, b, rfl, ?_, ?_⟩
  · simpa [Lit.wf, IntKind.min, IntKind.max, IntKind.signed, IntKind.bits] using g0
  · simpa [Lit.wf, IntKind.min, IntKind.max, IntKind.signed, IntKind.bits] using g1
end WsOpen
end Go.Proofs.YtbhfapbhlkgmfaaDoor
