/- WsBy WhOpen WsOpen OpB WsActOp -/
import Derived.Test.YtbakngbmfgnmcaaGreatDoorJ1
import Derived.Test.YtbakngbmfgnmcaaGreatDoorJ22
import Derived.Test.YtbakngbmfgnmcaaGreatDoorJ3
import Derived.Deep.Slices
import Derived.ProofKit
import Derived.OpenShut
import Derived.ChangeOld
import Derived.Lib.SmallJoins
import Derived.ChangeArms
namespace Go.Proofs.YtbakngbmfgnmcaaGreatDoor
set_option maxRecDepth 100000
set_option maxHeartbeats 8000000
section
open Go.RowKit Go.Sort
open Fx (Vl)
open Me
open Wp
open Ws
theorem Wp.info_len (fs : List Vf.Fl) (n : List UInt8) : (info fs n).1.l.length ≤ 8 := by
 by_cases h : (info fs n).2 = 0
 ·exact (Hd.len (info_val h)).2
 ·revert h
  unfold Wp.info
  dsimp only
  split
  ·intro _; exact Nat.zero_le _
  ·split
   ·intro _; exact Nat.zero_le _
   ·intro h; exact absurd rfl h
def Wp.actS (S : Vf.Sv) (hd : Hd) (k now : Int) (l : List (Int × Int)) : Vf.Sv := if k = 1 then (update S [97] now l).1 else if k = 4 then (create S [97] hd).1 else S
theorem Ws.Dx.more {w0 W : World} {fs xs c1 c2 c1' c2' : Nat} {S1 S2 : Vf.Sv} {Q : Nat → Prop} (h : Dx w0 fs xs c1 c2 S1 S2 Q W) (h1 : c1 ≤ c1') (h2 : c2 ≤ c2') : Dx w0 fs xs c1' c2' S1 S2 Q W := by
 obtain ⟨a, V1, V2, p, r, b, d⟩ := h
 exact ⟨a, V1, V2, p.more h1 (fun _ h => h), r.more h2 (fun _ h => h), b, d⟩
theorem act_any7 {w0 W : World} {fs xs c : Nat} {S : Vf.Sv} {Q : Nat → Prop} (h : Dx w0 fs xs c c S S Q W) (hg : Gv w0) (hd : Hd) (A : Option Addr) (cap : Nat) (hrow : Row W A hd.l cap) (hA : 0 < hd.l.length → ∀ a, A = some a → a.block < w0.heap.size ∨ Q a.block) (k now fr un ix : Int) (l : List (Int × Int)) (Ap : Option Addr) (capp : Nat) (hp : Row W Ap l capp) (hAp : 0 < l.length → ∀ a, Ap = some a → a.block < w0.heap.size ∨ Q a.block) (hc : c + 27 * l.length ≤ 490000) :
 Calls Tryz.prog 13 #[.pointer (some ⟨fs, 0, none⟩), .pointer (some ⟨xs, 0, none⟩), .agg #[.int .i64 hd.ag, .int .i64 hd.xf, .slice A hd.l.length cap], .agg #[.int .i64 k, .int .i64 now, .int .i64 fr, .int .i64 un, .int .i64 ix, .slice Ap l.length capp]] W fun e w' => e = .returned (.bool true) ∧ Hid (Dx w0 fs xs (c + 27 * l.length + 1) (c + 27 * l.length + 1) (actS S hd k now l) (actS S hd k now l) Q w') := by
 by_cases h1 : k = 1
 ·subst h1
  refine (act_one h hg hd A cap hrow hA now fr un ix l Ap capp hp hAp hc).mono ?_
  rintro e w' ⟨rfl, h2⟩
  exact ⟨rfl, Lib.hid (h2.out.more (by omega) (by omega))⟩
 ·by_cases h2 : k = 2
  ·subst h2
   refine (act_two h hg hd A cap hrow hA now fr un ix l Ap capp hp hAp hc).mono ?_
   rintro e w' ⟨rfl, h2⟩
   exact ⟨rfl, Lib.hid (h2.out.more (by omega) (by omega))⟩
  ·by_cases h3 : k = 3
   ·subst h3
    refine (act_three h hg hd A cap hrow hA now fr un ix l Ap capp hp hAp hc).mono ?_
    rintro e w' ⟨rfl, h2⟩
    exact ⟨rfl, Lib.hid (h2.out.more (by omega) (by omega))⟩
   ·by_cases h4 : k = 4
    ·subst h4
     refine (act_four h hg hd A cap hrow hA now fr un ix l Ap capp hp hAp hc).mono ?_
     rintro e w' ⟨rfl, h2⟩
     exact ⟨rfl, Lib.hid (h2.out.more (by omega) (by omega))⟩
    ·have e : actS S hd k now l = S := by unfold actS; rw [if_neg h1, if_neg h4]
     rw [e]
     refine (act_else h hg hd A cap hrow hA k now fr un ix l Ap capp hp hAp hc h1 h2 h3 h4).mono ?_
     rintro e w' ⟨rfl, h2⟩
     exact ⟨rfl, Lib.hid (h2.out.more (by omega) (by omega))⟩
theorem Me.Bs.reads {w : World} {G : Nat → Prop} {v : Value} {l : List UInt8} (h : Bs w G v l) : Reads w v l := by
 obtain ⟨A, c, e, h1, _, h3⟩ := h
 exact ⟨A, c, e, h1, h3.mono fun _ _ _ => trivial⟩
theorem bytes_any7 {w0 W : World} {fs xs c : Nat} {S : Vf.Sv} {Q : Nat → Prop} (h : Dx w0 fs xs c c S S Q W) (hc : c ≤ 490000) :
 Calls Tryz.prog 14 #[.pointer (some ⟨fs, 0, none⟩), .pointer (some ⟨xs, 0, none⟩)] W fun e w' => e = .returned (.bool true) ∧ Hid (Dx w0 fs xs c c S S Q w') := by
 have HD := Lib.hid h
 have H1 : Hid (Calls Tryz.prog 40 #[.pointer (some ⟨fs, 0, none⟩), .string ⟨#[97]⟩] W fun e w' => e = .returned (.tuple #[.int .i64 (Vf.size S.now [97]).1, .int .i64 (Vf.size S.now [97]).2]) ∧ W = w') := Lib.hid (by obtain ⟨V, ro⟩ := h.po; exact posize ro [97])
 have H2 : Hid (Calls Tryz.prog 24 #[.pointer (some ⟨xs, 0, none⟩), .string ⟨#[97]⟩] W fun e w' => e = .returned (.tuple #[.int .i64 (Vf.size S.now [97]).1, .int .i64 (Vf.size S.now [97]).2]) ∧ W = w') := Lib.hid (by obtain ⟨V, ro⟩ := h.ro; exact rosize ro (by omega) [97])
 have H3 : Hid (Calls Tryz.prog 41 #[.pointer (some ⟨fs, 0, none⟩), .string ⟨#[97]⟩, .int .i64 0, .int .i64 (Vf.size S.now [97]).1] W (Vf.Handed W (Vf.read S.now [97] 0 (Vf.size S.now [97]).1))) := Lib.hid (by obtain ⟨V, ro⟩ := h.po; exact poread ro [97] 0 _ (by omega))
 have H4 : Hid (∀ W', Below W.heap.size W W' → Calls Tryz.prog 25 #[.pointer (some ⟨xs, 0, none⟩), .string ⟨#[97]⟩, .int .i64 0, .int .i64 (Vf.size S.now [97]).1] W' (Vf.Handed W' (Vf.read S.now [97] 0 (Vf.size S.now [97]).1))) := Lib.hid fun W' hb => by obtain ⟨V, ro⟩ := h.ro; exact roread (ro.below hb) (by omega) [97] 0 _
 have H5 : Hid (∀ W', Below W.heap.size W W' → Calls Tryz.prog 42 #[.pointer (some ⟨fs, 0, none⟩)] W' fun e w' => e = .returned (.int .i64 (S.l.length : Int)) ∧ W' = w') := Lib.hid fun W' hb => by
  obtain ⟨V, ro⟩ := h.po
  obtain ⟨M, a1, a2, a3⟩ := ro.below hb
  exact ppending_any a1 (by omega)
 have H6 : Hid (∀ W', Below W.heap.size W W' → Calls Tryz.prog 43 #[.pointer (some ⟨xs, 0, none⟩)] W' fun e w' => e = .returned (.int .i64 (S.l.length : Int)) ∧ W' = w') := Lib.hid fun W' hb => by
  obtain ⟨V, ro⟩ := h.ro
  obtain ⟨G, lr, nv, wv, lv, ys, a1, a2, a3⟩ := ro.below hb
  have := a2.len
  exact pending_any a1 (by omega)
 clear h
 generalize Vf.read S.now [97] 0 (Vf.size S.now [97]).1 = R at *
 generalize (Vf.size S.now [97]).1 = sz at *
 generalize (Vf.size S.now [97]).2 = ec at *
 obtain ⟨bl, r2⟩ := R
 have hself : (bl == bl) = true := by simp
 go_enter Tryz.func14, Tryz.ntmps14
 go_wp2_with first
  | (go_at_call 40; go_must (refine (H1.out).mono ?_; rintro e w1 ⟨rfl, hw⟩; obtain rfl : W = w1 := hw))
  | (go_at_call 24; go_must (refine (H2.out).mono ?_; rintro e w1 ⟨rfl, hw⟩; obtain rfl : W = w1 := hw))
  | (go_at_call 41; go_must (refine (H3.out).mono ?_; rintro e w1 ⟨v1, rfl, hs1, hb1⟩; have HB1 := Lib.hid hb1; have HS1 := Lib.hid hs1.reads; clear hs1 hb1))
  | (go_at_call 25; go_must (refine (H4.out _ HB1.out).mono ?_; rintro e w2 ⟨v2, rfl, hs2, hb2⟩; have HB2 := Lib.hid hb2; have cv2 := hs2.reads.conv; have cv1 := (HS1.out.below hb2).conv; clear hs2 hb2))
  | (go_at_call 42; go_must (refine (H5.out _ (HB1.out.trans (HB2.out.mono HB1.out.size))).mono ?_; rintro e w3 ⟨rfl, hw⟩; obtain rfl : w2 = w3 := hw))
  | (go_at_call 43; go_must (refine (H6.out _ (HB1.out.trans (HB2.out.mono HB1.out.size))).mono ?_; rintro e w3 ⟨rfl, hw⟩; obtain rfl : w2 = w3 := hw))
 go_ret
 exact ⟨rfl, Lib.hid ((HD.out.below HB1.out).below HB2.out)⟩
end
section
open Go.RowKit Go.Sort
open Wh (At)
namespace WhOpen
open Go.ChangeShapes Go.WideShapes Go.ChangeAt Go.RowKit Go.Deep Go.Joins
theorem own : ownKnob Tryz.prog.godebug = none := by kernel_rfl
theorem laidOut : laidOutB Tryz.prog = true := by kernel_rfl
theorem adN (b off j : Nat) : (⟨b, off, none⟩ : Addr).add j = ⟨b, off + j, none⟩ := by simp [Addr.add]
theorem archives {H : Type} {enc : TypeId × Value → H} {w : World} {base : Nat} {spare : Nat → Bool} {held : Bool} {fuel : Nat} {x : Option Addr} {len cap : Nat} {y : DataW H × List MemPlace}
 (h : DataW.trod enc Tryz.prog w base spare held fuel 22 [.slice x len cap] = some y) :
 len ≤ cap ∧ ((x = none ∧ len = 0 ∧ cap = 0) ∨ (∃ a : Addr, x = some a ∧ ∀ i, i < len → ∃ (s c : Int), w.cell? (a.add (i * 2)) = some (.int .i64 s) ∧ w.cell? (a.add (i * 2 + 1)) = some (.int .i64 c))) := by
 rcases open_slice Tryz.underlying22 h with ⟨hcs, _⟩ | ⟨a, len', cap', m, n, D, Pl, hcs, _, hl, _, hm, _, hi⟩
 ·simp at hcs
  obtain ⟨rfl, rfl, rfl⟩ := hcs
  exact ⟨Nat.le_refl _, .inl ⟨rfl, rfl, rfl⟩⟩
 ·simp at hcs
  obtain ⟨rfl, rfl, rfl⟩ := hcs
  refine ⟨hl, .inr ⟨a, rfl, fun i hil => ?_⟩⟩
  have him : i < m := by rw [hm]; split <;> omega
  obtain ⟨cs', h1, h2⟩ := hi i him
  have hC : Tryz.prog.cellsOf 69 = 2 := by kernel_rfl
  rw [hC] at h1
  obtain ⟨_, hlen, hat⟩ := World.cells?_some h1
  match cs', hlen with
  | [c0, c1], _ =>
    obtain ⟨xs, n', _, _, _, _, hf⟩ := DataW.trod_struct Tryz.underlying69 h2
    have g0 := hf 0 _ rfl
    have g1 := hf 1 _ rfl
    have hn : Tryz.prog.cellsOf 3 = 1 := by kernel_rfl
    have hx2 : xs.length = 2 := by assumption
    have g0' : DataW.trod enc Tryz.prog w base spare held n' 3 [c0] = some (xs[0]'(by omega)) := by
     have e : xs[0]? = some (xs[0]'(by omega)) := List.getElem?_eq_getElem (by omega)
     rw [← e, ← g0]
     show _ = DataW.trod enc Tryz.prog w base spare held n' 3 (List.take (Tryz.prog.cellsOf 3) (List.drop 0 [c0, c1]))
     rw [hn]
     rfl
    have g1' : DataW.trod enc Tryz.prog w base spare held n' 3 [c1] = some (xs[1]'(by omega)) := by
     have e : xs[1]? = some (xs[1]'(by omega)) := List.getElem?_eq_getElem (by omega)
     rw [← e, ← g1]
     show _ = DataW.trod enc Tryz.prog w base spare held n' 3 (List.take (Tryz.prog.cellsOf 3) (List.drop 1 [c0, c1]))
     rw [hn]
     rfl
    obtain ⟨s, e0, _, _⟩ := DataW.trod_int Tryz.underlying3 g0'
    obtain ⟨c, e1, _, _⟩ := DataW.trod_int Tryz.underlying3 g1'
    simp at e0 e1
    subst e0 e1
    refine ⟨s, c, ?_, ?_⟩
    ·have := hat 0 (by omega)
     simpa [Addr.add] using this
    ·have := hat 1 (by omega)
     rw [Go.Deep.add_add] at this
     simpa using this
theorem listed {w : World} {b off : Nat} {n : Nat} (hc : ∀ i, i < n → ∃ (s c : Int), w.cell? ⟨b, off + i * 2, none⟩ = some (.int .i64 s) ∧ w.cell? ⟨b, off + i * 2 + 1, none⟩ = some (.int .i64 c)) :
 ∃ l : List (Int × Int), l.length = n ∧ ∀ i, i < n → w.cell? ⟨b, off + i * 2, none⟩ = some (.int .i64 (At l i).1) ∧ w.cell? ⟨b, off + i * 2 + 1, none⟩ = some (.int .i64 (At l i).2) := by
 induction n with
 | zero => exact ⟨[], rfl, fun i h => by omega⟩
 | succ m ih =>
   obtain ⟨l, e, hi⟩ := ih fun i h => hc i (by omega)
   obtain ⟨s, c, c0, c1⟩ := hc m (by omega)
   refine ⟨l ++ [(s, c)], by simp [e], fun i h => ?_⟩
   by_cases him : i < m
   ·have ea : At (l ++ [(s, c)]) i = At l i := by unfold At; rw [List.getD_eq_getElem?_getD, List.getD_eq_getElem?_getD, List.getElem?_append_left (by omega)]
    rw [ea]; exact hi i him
   ·obtain rfl : i = m := by omega
    have ea : At (l ++ [(s, c)]) i = (s, c) := by unfold At; rw [List.getD_eq_getElem?_getD, List.getElem?_append_right (by omega), e]; simp
    rw [ea]; exact ⟨c0, c1⟩
theorem row_of {w : World} {x : Option Addr} {len cap : Nat} (hl : len ≤ cap) (h : (x = none ∧ len = 0 ∧ cap = 0) ∨ (∃ a : Addr, x = some a ∧ ∀ i, i < len → ∃ (s c : Int), w.cell? (a.add (i * 2)) = some (.int .i64 s) ∧ w.cell? (a.add (i * 2 + 1)) = some (.int .i64 c))) :
 ∃ l : List (Int × Int), l.length = len ∧ Row w x l cap := by
 rcases h with ⟨rfl, rfl, rfl⟩ | ⟨a, rfl, hc⟩
 ·exact ⟨[], rfl, Nat.le_refl _, fun h => by cases h⟩
 ·by_cases h0 : len = 0
  ·subst h0; exact ⟨[], rfl, Nat.zero_le _, fun h => by cases h⟩
  ·obtain ⟨b, off, spot⟩ := a
   obtain ⟨s0, n0, hk0, _⟩ := hc 0 (by omega)
   have hspot : spot = none := by simpa [Addr.add] using World.cell?_spot hk0
   subst hspot
   obtain ⟨l, e, hi⟩ := listed (w := w) (b := b) (off := off) (n := len) fun i hil => by
    obtain ⟨s, c, c0, c1⟩ := hc i hil
    rw [adN] at c0 c1
    exact ⟨s, c, c0, by rw [Nat.add_assoc]; exact c1⟩
   refine ⟨l, e, by omega, fun _ => ⟨b, off, rfl, World.block_lt_of_cell? w _ (hi 0 (by omega)).1, fun i h => (hi i (by omega)).1, fun i h => (hi i (by omega)).2⟩⟩
theorem header {H : Type} {enc : TypeId × Value → H} {w : World} {r : Reach} {b0 base : Nat} {spare : Nat → Bool} {held : Bool} {v : Value} {d : DataW H} {p : List MemPlace}
 (hv : Value.okWide Tryz.prog w r b0 24 v) (h : DataW.Trod enc Tryz.prog w base spare held 24 v d p) :
 ∃ (ag xf : Int) (l : List (Int × Int)) (A : Option Addr) (cap : Nat), v = .agg #[.int .i64 ag, .int .i64 xf, .slice A l.length cap] ∧ Row w A l cap := by
 obtain ⟨v0, v1, v2, y0, y1, y2, n, rfl, _, _, t0, t1, t2⟩ := open_agg3 Tryz.underlying24 (by kernel_rfl) (by kernel_rfl) hv h
 obtain ⟨ag, e0, _, _⟩ := DataW.trod_int Tryz.underlying3 t0
 obtain ⟨xf, e1, _, _⟩ := DataW.trod_int Tryz.underlying3 t1
 simp at e0 e1
 subst e0 e1
 have hs : ∃ a len cap, v2 = .slice a len cap := by
  rcases open_slice Tryz.underlying22 t2 with ⟨hcs, _⟩ | ⟨a, len', cap', m, n, D, Pl, hcs, _⟩
  ·simp at hcs; exact ⟨_, _, _, hcs⟩
  ·simp at hcs; exact ⟨_, _, _, hcs⟩
 obtain ⟨a, len, cap, rfl⟩ := hs
 obtain ⟨hl, ho⟩ := archives t2
 obtain ⟨l, rfl, hr⟩ := row_of hl ho
 exact ⟨ag, xf, l, a, cap, rfl, hr⟩
end WhOpen
end
section
open Go.RowKit Go.Sort
open Wh (At)
namespace WsOpen
open Go.ChangeShapes Go.WideShapes Go.ChangeAt Go.RowKit Go.Deep Go.Joins
theorem pointsAt {H : Type} {enc : TypeId × Value → H} {w : World} {base : Nat} {spare : Nat → Bool} {held : Bool} {fuel : Nat} {x : Option Addr} {len cap : Nat} {y : DataW H × List MemPlace}
 (h : DataW.trod enc Tryz.prog w base spare held fuel 38 [.slice x len cap] = some y) :
 len ≤ cap ∧ ((x = none ∧ len = 0 ∧ cap = 0) ∨ (∃ a : Addr, x = some a ∧ ∀ i, i < len → ∃ (s c : Int), w.cell? (a.add (i * 2)) = some (.int .i64 s) ∧ w.cell? (a.add (i * 2 + 1)) = some (.int .i64 c))) := by
 rcases open_slice Tryz.underlying38 h with ⟨hcs, _⟩ | ⟨a, len', cap', m, n, D, Pl, hcs, _, hl, _, hm, _, hi⟩
 ·simp at hcs
  obtain ⟨rfl, rfl, rfl⟩ := hcs
  exact ⟨Nat.le_refl _, .inl ⟨rfl, rfl, rfl⟩⟩
 ·simp at hcs
  obtain ⟨rfl, rfl, rfl⟩ := hcs
  refine ⟨hl, .inr ⟨a, rfl, fun i hil => ?_⟩⟩
  have him : i < m := by rw [hm]; split <;> omega
  obtain ⟨cs', h1, h2⟩ := hi i him
  have hC : Tryz.prog.cellsOf 54 = 2 := by kernel_rfl
  rw [hC] at h1
  obtain ⟨_, hlen, hat⟩ := World.cells?_some h1
  match cs', hlen with
  | [c0, c1], _ =>
    obtain ⟨xs, n', _, _, _, _, hf⟩ := DataW.trod_struct Tryz.underlying54 h2
    have g0 := hf 0 _ rfl
    have g1 := hf 1 _ rfl
    have hn : Tryz.prog.cellsOf 3 = 1 := by kernel_rfl
    have hx2 : xs.length = 2 := by assumption
    have g0' : DataW.trod enc Tryz.prog w base spare held n' 3 [c0] = some (xs[0]'(by omega)) := by
     have e : xs[0]? = some (xs[0]'(by omega)) := List.getElem?_eq_getElem (by omega)
     rw [← e, ← g0]
     show _ = DataW.trod enc Tryz.prog w base spare held n' 3 (List.take (Tryz.prog.cellsOf 3) (List.drop 0 [c0, c1]))
     rw [hn]
     rfl
    have g1' : DataW.trod enc Tryz.prog w base spare held n' 3 [c1] = some (xs[1]'(by omega)) := by
     have e : xs[1]? = some (xs[1]'(by omega)) := List.getElem?_eq_getElem (by omega)
     rw [← e, ← g1]
     show _ = DataW.trod enc Tryz.prog w base spare held n' 3 (List.take (Tryz.prog.cellsOf 3) (List.drop 1 [c0, c1]))
     rw [hn]
     rfl
    obtain ⟨s, e0, _, _⟩ := DataW.trod_int Tryz.underlying3 g0'
    obtain ⟨c, e1, _, _⟩ := DataW.trod_int Tryz.underlying3 g1'
    simp at e0 e1
    subst e0 e1
    refine ⟨s, c, ?_, ?_⟩
    ·have := hat 0 (by omega)
     simpa [Addr.add] using this
    ·have := hat 1 (by omega)
     rw [Go.Deep.add_add] at this
     simpa using this
end WsOpen
end
section
open Go.RowKit Go.Sort
open Me
namespace OpB
open Go.ChangeShapes Go.WideShapes Go.ChangeAt Go.RowKit Go.Deep Go.Joins
theorem bytes {H : Type} {enc : TypeId × Value → H} {w : World} {base : Nat} {spare : Nat → Bool} {held : Bool} {fuel : Nat} {cs : List Value} {y : DataW H × List MemPlace}
 (h : DataW.trod enc Tryz.prog w base spare held fuel 49 cs = some y) : ∃ v l, cs = [v] ∧ Reads w v l := by
 rcases Go.ChangeShapes.open_ints Tryz.underlying49 Tryz.underlying5 (by kernel_rfl) h with ⟨rfl, _⟩ | ⟨a, len, cap, zs, rfl, hb, hl, hm, hzl, _, hc, hwf⟩
 ·exact ⟨_, [], rfl, none, 0, rfl, Nat.le_refl _, Rd.none_ _ _ _⟩
 ·have hlz : len ≤ zs.length := by rw [hzl]; split <;> omega
  have key : ∀ z ∈ zs, (((UInt8.ofNat z.toNat).toNat : Nat) : Int) = z := fun z hz => by
   have := hwf z hz
   simp [Lit.wf, IntKind.min, IntKind.max, IntKind.signed, IntKind.bits] at this
   simp
   omega
  have hlen : ((zs.take len).map (fun z => UInt8.ofNat z.toNat)).length = len := by simp; omega
  refine ⟨_, (zs.take len).map (fun z => UInt8.ofNat z.toNat), rfl, some a, cap, by rw [hlen], by rw [hlen]; exact hl, fun hn => ⟨a, rfl, ?_, trivial, fun j u hu => ?_⟩⟩
  ·have h0 : 0 < zs.length := by
    rcases Nat.eq_zero_or_pos len with e | e
    ·exfalso; apply hn; subst e; simp [by8]
    ·omega
   exact World.block_lt_of_cell? w _ (hc 0 h0)
  ·unfold by8 at hu
   rw [List.map_map, List.getElem?_map, List.getElem?_take] at hu
   split at hu
   ·rename_i hj
    have hjz : j < zs.length := by omega
    rw [List.getElem?_eq_getElem hjz] at hu
    simp only [Option.map_some, Function.comp_apply, Option.some.injEq] at hu
    rw [← hu, hc j hjz, key _ (List.getElem_mem hjz)]
    simp [hjz]
   ·cases hu
theorem bytesV {H : Type} {enc : TypeId × Value → H} {w : World} {base : Nat} {spare : Nat → Bool} {held : Bool} {v : Value} {d : DataW H} {p : List MemPlace} {r : Reach} {b0 : Nat}
 (hv : Value.okWide Tryz.prog w r b0 49 v) (h : DataW.Trod enc Tryz.prog w base spare held 49 v d p) : ∃ A c l, v = .slice A (List.length l) c ∧ Reads w v l := by
 obtain ⟨a0, len0, cap0, rfl⟩ := okWide_slice Tryz.underlying49 hv
 obtain ⟨fuel, hf⟩ := h
 obtain ⟨v, l, e, hr⟩ := bytes (by simpa [Value.cells] using hf)
 have e' : Value.slice a0 len0 cap0 = v := by simpa using e
 subst e'
 obtain ⟨A, c, e2, hc, hrd⟩ := hr
 exact ⟨A, c, l, e2, A, c, e2, hc, hrd⟩
end OpB
end
section
open Go.RowKit Go.Sort
open Me
open Wh (At)
namespace WsOpen
open Go.ChangeShapes Go.WideShapes Go.ChangeAt Go.RowKit Go.Deep Go.Joins
theorem act6 {H : Type} {enc : TypeId × Value → H} {w : World} {base : Nat} {spare : Nat → Bool} {held : Bool} {fuel : Nat} {c0 c1 c2 c3 c4 c5 : Value} {y : DataW H × List MemPlace}
 (h : DataW.trod enc Tryz.prog w base spare held fuel 40 [c0, c1, c2, c3, c4, c5] = some y) :
 ∃ (k now fr un ix : Int) (l : List (Int × Int)) (A : Option Addr) (cap : Nat), c0 = .int .i64 k ∧ c1 = .int .i64 now ∧ c2 = .int .i64 fr ∧ c3 = .int .i64 un ∧ c4 = .int .i64 ix ∧ c5 = .slice A l.length cap ∧ Row w A l cap := by
 obtain ⟨xs, n', _, _, _, _, hf⟩ := DataW.trod_struct Tryz.underlying40 h
 have hxl : xs.length = 6 := by assumption
 have cI : Tryz.prog.cellsOf 3 = 1 := by kernel_rfl
 have cR : Tryz.prog.cellsOf 38 = 1 := by kernel_rfl
 have key : ∀ (i : Nat) (hi : i < xs.length) (t : TypeId) (o : Nat), (DataW.trod enc Tryz.prog w base spare held n' t (List.take (Tryz.prog.cellsOf t) (List.drop o [c0, c1, c2, c3, c4, c5])) = xs[i]?) → Tryz.prog.cellsOf t = 1 → DataW.trod enc Tryz.prog w base spare held n' t (List.take 1 (List.drop o [c0, c1, c2, c3, c4, c5])) = some xs[i] := fun i hi t o h hc => by
  rw [hc, List.getElem?_eq_getElem hi] at h
  exact h
 obtain ⟨k0, e0, _, w0⟩ := DataW.trod_int Tryz.underlying3 (key 0 (by omega) _ 0 (hf 0 _ rfl) cI)
 obtain ⟨k1, e1, _, w1⟩ := DataW.trod_int Tryz.underlying3 (key 1 (by omega) _ 1 (hf 1 _ rfl) cI)
 obtain ⟨k2, e2, _, w2⟩ := DataW.trod_int Tryz.underlying3 (key 2 (by omega) _ 2 (hf 2 _ rfl) cI)
 obtain ⟨k3, e3, _, w3⟩ := DataW.trod_int Tryz.underlying3 (key 3 (by omega) _ 3 (hf 3 _ rfl) cI)
 obtain ⟨k4, e4, _, w4⟩ := DataW.trod_int Tryz.underlying3 (key 4 (by omega) _ 4 (hf 4 _ rfl) cI)
 have g5 := key 5 (by omega) _ 5 (hf 5 _ rfl) cR
 simp only [List.drop_zero, List.drop_succ_cons, List.take_succ_cons, List.take_zero, List.cons.injEq, and_true] at e0 e1 e2 e3 e4 g5
 obtain ⟨a, len, cap, e5⟩ := slice_form Tryz.underlying38 g5
 simp only [List.cons.injEq, and_true] at e5
 subst e0 e1 e2 e3 e4 e5
 obtain ⟨hl, ho⟩ := pointsAt g5
 obtain ⟨l, rfl, hr⟩ := WhOpen.row_of hl ho
 exact ⟨k0, k1, k2, k3, k4, l, a, cap, rfl, rfl, rfl, rfl, rfl, rfl, hr⟩
theorem array6 {α : Type} {cs : Array α} (h : cs.size = 6) : ∃ c0 c1 c2 c3 c4 c5, cs = #[c0, c1, c2, c3, c4, c5] := by
 obtain ⟨l⟩ := cs
 match l, h with
 | [c0, c1, c2, c3, c4, c5], _ => exact ⟨c0, c1, c2, c3, c4, c5, rfl⟩
theorem actV {H : Type} {enc : TypeId × Value → H} {w : World} {r : Reach} {b0 base : Nat} {spare : Nat → Bool} {held : Bool} {v : Value} {d : DataW H} {p : List MemPlace}
 (hv : Value.okWide Tryz.prog w r b0 40 v) (h : DataW.Trod enc Tryz.prog w base spare held 40 v d p) :
 ∃ (k now fr un ix : Int) (l : List (Int × Int)) (A : Option Addr) (cap : Nat), v = .agg #[.int .i64 k, .int .i64 now, .int .i64 fr, .int .i64 un, .int .i64 ix, .slice A l.length cap] ∧ Row w A l cap := by
 obtain ⟨cs, rfl, hsz⟩ := okWide_struct Tryz.underlying40 hv
 obtain ⟨c0, c1, c2, c3, c4, c5, rfl⟩ := array6 (hsz.trans (by kernel_rfl))
 obtain ⟨fuel, hf⟩ := h
 obtain ⟨k, now, fr, un, ix, l, A, cap, rfl, rfl, rfl, rfl, rfl, rfl, hr⟩ := act6 (by simpa [Value.cells] using hf)
 exact ⟨k, now, fr, un, ix, l, A, cap, rfl, hr⟩
theorem bytesM {H : Type} {enc : TypeId × Value → H} {w : World} {base : Nat} {spare : Nat → Bool} {held : Bool} {v : Value} {d : DataW H} {p : List MemPlace} {r : Reach} {b0 : Nat}
 (hv : Value.okWide Tryz.prog w r b0 49 v) (h : DataW.Trod enc Tryz.prog w base spare held 49 v d p) : ∃ A c l, v = .slice A (List.length l) c ∧ l.length ≤ c ∧ c ≤ maxLen ∧ Rd w (fun _ => True) A (by8 l) := by
 obtain ⟨A, c, l, rfl, A', c', e, hc, hr⟩ := OpB.bytesV hv h
 injection e with e1 e2 e3
 subst e1 e3
 refine ⟨A, c, l, rfl, hc, ?_, hr⟩
 obtain ⟨fuel, hf⟩ := h
 rcases Go.ChangeShapes.open_ints Tryz.underlying49 Tryz.underlying5 (by kernel_rfl) (by simpa [Value.cells] using hf) with ⟨hcs, _⟩ | ⟨a, len, cap, zs, hcs, hb, hl, hm, _⟩
 ·simp at hcs; rw [hcs.2.2]; exact Nat.zero_le _
 ·simp at hcs; rw [hcs.2.2]; exact hm
end WsOpen
end
end Go.Proofs.YtbakngbmfgnmcaaGreatDoor
