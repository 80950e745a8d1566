/- WqRd WqPt -/
import Derived.Test.YtljlanhpjpjgaaaGreatDoorJ1
import Derived.Maps.OwnIn
import Derived.Test.YtljlanhpjpjgaaaGreatDoorJ34
import Derived.Test.YtljlanhpjpjgaaaGreatDoorJ35
import Derived.Test.YtljlanhpjpjgaaaGreatDoorJ33
import Derived.Test.YtljlanhpjpjgaaaGreatDoorJ22
namespace Go.Proofs.YtljlanhpjpjgaaaGreatDoor
set_option maxRecDepth 100000
set_option maxHeartbeats 8000000
section
open Go.RowKit Go.Shelf
open Me
open Wp
attribute [local go_sem] Oper.semAt_some
theorem chunk_fn (A : Option Addr) (n c : Nat) (w : World) : Calls Tryz.prog 108 #[.slice A n c, .int .i64 12] w fun e w' => e = .returned (.func (.func 127) #[] #[.pointer (some ⟨w.heap.size, 0, none⟩), .pointer (some ⟨w.heap.size + 1, 0, none⟩)]) ∧ w' = (w.alloc (.cells #[.slice A n c] 45)).alloc (.cells #[.int .i64 12] 3) := by
 go_enter Tryz.func108, Tryz.ntmps108
 go_wp2_with fail
 go_ret
 exact ⟨by simp, rfl⟩
theorem chunk_stops (n : Nat) (hn : 1 ≤ n) (p q b off N cap : Nat) (A : Option Addr) (hA : 0 < N → A = some ⟨b, off, none⟩) (hcap : 12 * N ≤ cap) (hN : N ≤ 1000000) (w : World) (hpl : p < w.heap.size) (hql : q < w.heap.size) (hp : w.cell? ⟨p, 0, none⟩ = some (.slice A (12 * N) cap)) (hq : w.cell? ⟨q, 0, none⟩ = some (.int .i64 12)) :
 SeqStopsK Fence.wide n Tryz.prog 127 #[.pointer (some ⟨p, 0, none⟩), .pointer (some ⟨q, 0, none⟩)] (fun x : Fin N => #[Value.slice (some ⟨b, off + 12 * x.1, none⟩) 12 12]) (Boxes p q) (fun xs => xs = List.finRange N) (fun _ => True) N w := fun l J Jx W hW hJ _ hY h0 =>
 chunk_in n hn l p q b off N cap A hA hcap hN J Jx _ hJ hY W ((hW.cell (p := ⟨p, 0, none⟩) hpl).trans hp) ((hW.cell (p := ⟨q, 0, none⟩) hql).trans hq) h0
namespace Wp
theorem boxes_t {p q : Nat} {A B C : World} (h : Boxes p q A B) (k : Boxes p q B C) : Boxes p q A C := ⟨k.1.trans h.1, k.2.trans h.2⟩
theorem boxes_b {p q : Nat} {w : World} (hp : p < w.heap.size) (hq : q < w.heap.size) (W : World) (l : Nat) (o o' : Obj) (hl : w.heap.size ≤ l) (_ : W.heap[l]? = some o) (_ : o.isCells = false) (_ : o.isWalk = false) : Boxes p q W (W.putObj l o') := by
 have k : ∀ i, i ≠ l → (W.putObj l o').heap[i]? = W.heap[i]? := fun i hi => World.putObj_heap_other (by omega)
 exact ⟨World.cell?_of_block (k p (by omega)), World.cell?_of_block (k q (by omega))⟩
theorem boxes_keep {p q : Nat} {W W' : World} (h1 : W'.heap[p]? = W.heap[p]?) (h2 : W'.heap[q]? = W.heap[q]?) : Boxes p q W W' := ⟨World.cell?_of_block h1, World.cell?_of_block h2⟩
theorem read_step {W W3 w1 : World} {base B k m : Nat} {t e : TypeId} {v v' : Value} {xs ys : List Value} {s2 sx : Nat} (hv : Boxed W B t v) (hte : t ≠ e) (hrow : W.ownsRow base e 2 v k xs) (hG : ∀ g, v.ownBlock = some g → g < s2 ∨ sx ≤ g) (hB : base ≤ B) (hs : sx ≤ W.heap.size) (hbw : base ≤ W.heap.size)
 (hb : Below W.heap.size W W3) (hown : w1.ownsRow base e 2 v' m ys) (hg : W3.grownBy w1 v.ownBlock) (hat : v'.ownBlock = v.ownBlock ∨ v'.ownBlock = some W3.heap.size) :
 Boxed w1 B t v ∧ Boxed (w1.setCell ⟨B, 0, none⟩ v') B t v' ∧ (w1.setCell ⟨B, 0, none⟩ v').ownsRow base e 2 v' m ys ∧ KeepsOthers W (w1.setCell ⟨B, 0, none⟩ v') ∧ Below base W (w1.setCell ⟨B, 0, none⟩ v') ∧
  (∀ g, v'.ownBlock = some g → g < s2 ∨ sx ≤ g) ∧ (∀ j, j < W.heap.size → some j ≠ v.ownBlock → j ≠ B → (w1.setCell ⟨B, 0, none⟩ v').heap[j]? = W.heap[j]?) := by
 have hv3 : Boxed W3 B t v := (hb.block B hv.lt).trans hv
 have hr3 : W3.ownsRow base e 2 v k xs := owns_keep hrow fun g hgg => hb.block g (by
  rcases hrow.2 with ⟨rfl, _⟩ | ⟨g', cap, cur, rfl, _, hgb, _⟩
  ·cases hgg
  ·have : g' = g := by simpa [Value.ownBlock] using hgg
   subst this
   exact (Array.getElem?_eq_some_iff.1 hgb).1)
 have hv1 : Boxed w1 B t v := hv3.kept hg (hv3.not_row hte hr3)
 have hkeep : ∀ j, j < W.heap.size → some j ≠ v.ownBlock → j ≠ B → (w1.setCell ⟨B, 0, none⟩ v').heap[j]? = W.heap[j]? := fun j hj h1 h2 =>
  (Below.heap_setCell _ _ _ _ h2).trans ((hg.block j (Nat.lt_of_lt_of_le hj hb.size) h1).trans (hb.block j hj))
 refine ⟨hv1, hv1.set v', hown.kept (grownBy_setCell' w1 B v') (.inr (hv1.not_row hte hown).symm), ?_, ?_, ?_, hkeep⟩
 ·refine ⟨?_, fun j o hj ho => ?_⟩
  ·have h1 := hb.size
   have h2 := hg.size
   simp [World.setCell]; omega
  ·have hjl := (Array.getElem?_eq_some_iff.1 hj).1
   refine (hkeep j hjl (fun e' => ?_) (fun e' => ?_)).trans hj
   ·rcases hrow.2 with ⟨rfl, _⟩ | ⟨g, cap, cur, rfl, _, hgb, _⟩
    ·simp [Value.ownBlock] at e'
    ·obtain rfl : j = g := by simpa [Value.ownBlock] using e'
     rw [hgb] at hj; cases hj; cases ho
   ·subst e'
    rw [show W.heap[j]? = _ from hv] at hj; cases hj; cases ho
 ·refine ((hb.mono hbw).grown hg (Nat.le_trans hbw hb.size) fun j ej => ?_).setCell (p := ⟨B, 0, none⟩) hB v'
  rcases hrow.2 with ⟨rfl, _⟩ | ⟨g, cap, cur, rfl, hb', _, _⟩
  ·simp [Value.ownBlock] at ej
  ·obtain rfl : g = j := by simpa [Value.ownBlock] using ej
   exact hb'
 ·intro g hgg
  rcases hat with h | h
  ·exact hG g (h ▸ hgg)
  ·rw [h] at hgg
   obtain rfl : W3.heap.size = g := by simpa using hgg
   exact .inr (Nat.le_trans hs hb.size)
theorem own_cells {β : Type} (b off m : Nat) (w3 : World) : Own (fun (_ : β) W => ∀ j u, j < m → w3.cell? ⟨b, off + j, none⟩ = some u → W.cell? ⟨b, off + j, none⟩ = some u) := fun _ _ _ _ hs hg hr j u hj hu => cell_kept (hs j u hj hu) hg hr
theorem own_size {β : Type} (k : Nat) : Own (fun (_ : β) W => k ≤ W.heap.size) := fun _ _ _ _ hs hg _ => Nat.le_trans hs hg.size
theorem two_cells_new (w : World) (a b : Int) : ∀ j u, [(.int .i64 a : Value), .int .i64 b][j]? = some u → ((w.alloc (.cells #[.int .i64 a, .int .i64 b] 27)).alloc (.cells #[.int .i64 a, .int .i64 b] 27)).cell? ((⟨w.heap.size + 1, 0, none⟩ : Addr).add j) = some u := by
 intro j u hj
 have hr : RowAt ((w.alloc (.cells #[.int .i64 a, .int .i64 b] 27)).alloc (.cells #[.int .i64 a, .int .i64 b] 27)) (w.heap.size + 1) 27 #[.int .i64 a, .int .i64 b] := RowAt.new' (by simp)
 rw [Addr.add_lit, Nat.zero_add, hr.cell]
 simpa using hj
def ptsOf (B : List UInt8) (o N : Nat) (pre : List (Fin N)) : List (Int × Int) := pre.map fun x => slot B (o + 12 * x.1)
theorem ptsOf_all (B : List UInt8) (o N : Nat) : ptsOf B o N (List.finRange N) = side B o N := by
 unfold ptsOf side
 apply List.ext_getElem
 ·simp
 ·intro i h1 h2
  simp
theorem ptsOf_snoc (B : List UInt8) (o N : Nat) (pre : List (Fin N)) (x : Fin N) : ptsOf B o N (pre ++ [x]) = ptsOf B o N pre ++ [slot B (o + 12 * x.1)] := by unfold ptsOf; simp
theorem ptsOf_len (B : List UInt8) (o N : Nat) (pre : List (Fin N)) : (ptsOf B o N pre).length = pre.length := by unfold ptsOf; simp
end Wp
theorem read_any7 {w : World} {V : Nat → Prop} {c fs : Nat} {S : Vf.Sv} {n : List UInt8} {h : Hd} {B : List UInt8} {A : Option Addr} {cap : Nat} (ro : PO w V fs c S) (f : Fits S.now n h B) (ix : Nat) (hi : ix < h.l.length) (place m : Nat) (hpm : (place : Int) + (m : Int) ≤ h.cnt ix)
 (base : Nat) (v0 : Value) (l0 : List (Int × Int)) (hbase : base ≤ w.heap.size) (hrow : OwnP 27 base w v0 l0) (hl0 : l0.length + m ≤ 1000000) :
 Calls Tryz.prog 84 #[ringV h ix A cap fs n, v0, .int .i64 (place : Int), .int .i64 (m : Int)] w fun e w' => ∃ v, e = .returned v ∧ OwnP 27 base w' v (l0 ++ side B ((h.offs (ix : Int)).toNat + 12 * place) m) ∧ Below base w w' := by
 have hr := f.ring hi
 obtain ⟨⟨n1, n2⟩, n3, n4⟩ := Hd.nums f.val ix hi
 obtain ⟨o, ho⟩ : ∃ o : Nat, h.offs (ix : Int) = (o : Int) := ⟨(h.offs (ix : Int)).toNat, by omega⟩
 have hbl : o + 12 * (place + m) ≤ B.length := by omega
 have hB : B.length ≤ 4294967296 := by
  obtain ⟨_, _, _, ha⟩ := Wh.val_t f.val
  obtain ⟨a1, a2, a3, a4, a5⟩ := Wh.av_t ha
  have := size_eq f.val
  have := f.size
  omega
 have HRD : Hid (∀ W, Below w.heap.size w W → Calls Tryz.prog 70 #[.pointer (some ⟨fs, 0, none⟩), .string ⟨n.toArray⟩, .int .i64 ((o + 12 * place : Nat) : Int), .int .i64 ((12 * m : Nat) : Int)] W (Vf.Handed W (((B.drop (o + 12 * place)).take (12 * m)), 0))) := Lib.hid fun W hb => by
  have h := poread (ro.below hb) n ((o + 12 * place : Nat) : Int) ((12 * m : Nat) : Int) (by omega)
  rw [f.has.read_eq (by omega) (by omega) (by omega), Int.toNat_natCast, Int.toNat_natCast] at h
  exact h
 have HLEN : Hid (((B.drop (o + 12 * place)).take (12 * m)).length = 12 * m) := Lib.hid (by rw [List.length_take, List.length_drop]; omega)
 have HCUT : Hid (∀ k, k < m → (((B.drop (o + 12 * place)).take (12 * m)).drop (12 * k)).take 12 = (B.drop (o + 12 * place + 12 * k)).take 12) := Lib.hid fun k hk => slot_cut hk
 rw [ho]
 rw [Int.toNat_natCast]
 obtain ⟨a1, ha1⟩ : ∃ a1, 12 * (place : Int) = a1 := ⟨_, rfl⟩
 obtain ⟨a2, ha2⟩ : ∃ a2, (o : Int) + a1 = a2 := ⟨_, rfl⟩
 obtain ⟨a3, ha3⟩ : ∃ a3, 12 * (m : Int) = a3 := ⟨_, rfl⟩
 have hm1 : IntKind.i64.wrap a1 = a1 := IntWalk.i64_in _ (by omega)
 have hm2 : IntKind.i64.wrap a2 = a2 := IntWalk.i64_in _ (by omega)
 have hm3 : IntKind.i64.wrap a3 = a3 := IntWalk.i64_in _ (by omega)
 rw [show ((o + 12 * place : Nat) : Int) = a2 by omega, show ((12 * m : Nat) : Int) = a3 by omega] at HRD
 unfold ringV
 rw [ho]
 obtain ⟨A0, c0, rfl⟩ := hrow.slice
 have HROW := Lib.hid hrow
 clear hrow ro n1 n2 n3 n4 hr hpm hbl
 obtain ⟨L, hL⟩ : ∃ L, Hid (L = (B.drop (o + 12 * place)).take (12 * m)) := ⟨_, Lib.hid rfl⟩
 rw [← hL.out] at HRD HLEN
 have hlen := HLEN.out
 clear f ho
 generalize h.step ix = s at *
 generalize h.cnt ix = k at *
 generalize h.l.length = hln at *
 generalize h.ag = ag at *
 generalize h.xf = xf at *
 refine (callsIn_wide (n := 6)).1 ?_
 refine callsIn_of_wp_marks Tryz.func84 rfl trivial ?_ rfl
 simp only [Tryz.ntmps84, List.size_toArray, List.length_cons, List.length_nil, Nat.reduceAdd, Nat.reduceSub, Array.replicate_succ, Array.replicate_zero, List.push_toArray, List.append_toArray, List.nil_append, List.cons_append]
 obtain ⟨i0, hi0', hz0, hz1, hz2⟩ := info_parts infoPt
 have HI := Lib.hid hi0'
 have HZ := Lib.hid (And.intro hz0 (And.intro hz1 hz2))
 clear hi0' hz0 hz1 hz2
 have bO := (Boxed.new (w.alloc (.cells #[.int .i64 s, .int .i64 k, .int .i64 ag, .int .i64 xf, .slice A hln cap, .pointer (some ⟨fs, 0, none⟩), .string ⟨n.toArray⟩, .int .i64 (o : Int)] 100)) 25 (.slice A0 l0.length c0))
 rw [World.size_alloc] at bO
 have HX : Hid (Below w.heap.size w ((w.alloc (.cells #[.int .i64 s, .int .i64 k, .int .i64 ag, .int .i64 xf, .slice A hln cap, .pointer (some ⟨fs, 0, none⟩), .string ⟨n.toArray⟩, .int .i64 (o : Int)] 100)).alloc (.cells #[.slice A0 l0.length c0] 25))) := Lib.hid (((Below.refl _ _).alloc (Nat.le_refl _) _).alloc (by simp) _)
 gi_wp2_with (refine ⟨trivial, ?_⟩; first
  | (gi_at_call 70; (with_reducible refine (callsIn_wide.2 (HRD.out _ HX.out)).mono ?_); rintro e w3 ⟨v3, rfl, hv3, hb3⟩; have hs3 := hb3.size; obtain ⟨A3, c3, rfl, hc3, _, hrd3⟩ := hv3)
  | (gi_at_call 108; (with_reducible refine (callsIn_wide.2 (chunk_fn A3 (12 * m) c3 w3)).mono ?_); rintro e w4 ⟨rfl, rfl⟩))
 have hlc : 12 * m ≤ c3 := by rw [← hlen]; exact hc3
 obtain ⟨b, off, hA3, hb2, hb3', hby⟩ : ∃ b off, (0 < m → A3 = some ⟨b, off, none⟩) ∧ (0 < m → w.heap.size + 2 ≤ b) ∧ (0 < m → b < w3.heap.size) ∧ (0 < m → By w3 b off L) := by
  by_cases h0 : m = 0
  ·exact ⟨0, 0, fun h => by omega, fun h => by omega, fun h => by omega, fun h => by omega⟩
  ·obtain ⟨b, off, e, hby⟩ := By.of hrd3 (by omega)
   obtain ⟨ad, e2, hl, hg, _⟩ := hrd3 (by rw [Ne, ← List.length_eq_zero_iff, by8_len]; omega)
   rw [e] at e2
   cases e2
   simp at hg
   exact ⟨b, off, fun _ => e, fun _ => by omega, fun _ => hl, fun _ => hby⟩
 have hv3 : Boxed w3 (w.heap.size + 1) 25 (.slice A0 l0.length c0) := (hb3.block _ (by simp)).trans bO
 have hs3' : w.heap.size + 2 ≤ w3.heap.size := by simp at hs3; omega
 have hBw3 : Below w.heap.size w w3 := HX.out.trans (hb3.mono (by simp; omega))
 have hrow3 := HROW.out.below hBw3
 have hlt0 := HROW.out.lt
 obtain ⟨s2, hs2⟩ : ∃ s2, s2 = w.heap.size := ⟨_, rfl⟩
 clear hrd3 HRD bO hc3 hs3
 refine wpIn_rangeFunc_ownG rfl (by omega) (gf := 127) (lb := #[.pointer (some ⟨w3.heap.size, 0, none⟩), .pointer (some ⟨w3.heap.size + 1, 0, none⟩)]) rfl trivial (enters_of Tryz.func127 (by kernel_rfl) rfl)
  (chunk_stops _ (by omega) w3.heap.size (w3.heap.size + 1) b off m c3 A3 hA3 hlc (by omega) _ (by simp; omega) (by simp) ((Boxed.new w3 _ _).alloc _).cell (by simp)) boxes_t (boxes_b (by simp; omega) (by simp)) (Below.refl _ _) (fun _ => rfl)
  (fun pre W => (∃ v, Boxed W (w.heap.size + 1) 25 v ∧ W.ownsRow base 27 2 v (l0 ++ ptsOf B (o + 12 * place) m pre).length (Wh.cellsA (l0 ++ ptsOf B (o + 12 * place) m pre)) ∧ (∀ g, v.ownBlock = some g → g < w.heap.size ∨ w3.heap.size + 2 ≤ g)) ∧ (Below base w W ∧ (∀ j u, j < 12 * m → w3.cell? ⟨b, off + j, none⟩ = some u → W.cell? ⟨b, off + j, none⟩ = some u) ∧ w3.heap.size + 2 ≤ W.heap.size))
  (fun _ _ _ => False)
  (OwnFrom.and (Own.from (holdsRow_own base (w.heap.size + 1) 25 27 2 (fun pre => (l0 ++ ptsOf B (o + 12 * place) m pre).length) (fun pre => Wh.cellsA (l0 ++ ptsOf B (o + 12 * place) m pre)) (fun pre v => ∀ g, v.ownBlock = some g → g < w.heap.size ∨ w3.heap.size + 2 ≤ g)) _) (OwnFrom.and (ownFrom_below hbase (by simp; omega)) (OwnFrom.and (Own.from (own_cells b off (12 * m) w3) _) (Own.from (own_size (w3.heap.size + 2)) _))))
  (fun _ _ _ _ _ hs _ _ => hs)
  ?start
  (fun x => { tmps := #[.agg #[.int .i64 s, .int .i64 k, .int .i64 ag, .int .i64 xf, .slice A hln cap, .pointer (some ⟨fs, 0, none⟩), .string ⟨n.toArray⟩, .int .i64 (o : Int)], .slice A0 l0.length c0, .int .i64 (place : Int), .int .i64 (m : Int), .pointer (some ⟨w.heap.size, 0, none⟩), .pointer (some ⟨w.heap.size + 1, 0, none⟩), undef, undef, .slice none 0 0, .slice A3 (12 * m) c3, .int .i64 0, .slice (some ⟨b, off + 12 * x.1, none⟩) 12 12, undef, undef, .tuple #[.slice A3 (12 * m) c3, .int .i64 0], .pointer (some ⟨w.heap.size, 2, none⟩), .pointer (some ⟨w.heap.size, 5, none⟩), .pointer (some ⟨fs, 0, none⟩), .pointer (some ⟨w.heap.size, 2, none⟩), .pointer (some ⟨w.heap.size, 6, none⟩), .string ⟨n.toArray⟩, .pointer (some ⟨w.heap.size, 7, none⟩), .int .i64 (o : Int), .int .i64 (place : Int), .int .i64 a1, .int .i64 a2, .int .i64 (m : Int), .int .i64 a3, .tuple #[.slice A3 (12 * m) c3, .int .i64 0], .slice A3 (12 * m) c3, .int .i64 0, .slice A3 (12 * m) c3, .func (.func 127) #[] #[.pointer (some ⟨w3.heap.size, 0, none⟩), .pointer (some ⟨w3.heap.size + 1, 0, none⟩)], .slice (some ⟨b, off + 12 * x.1, none⟩) 12 12, undef, undef, undef, undef, undef, undef, undef, undef, undef, undef], defers := [] }) ?assign ?body ?done ?stop
 case start => exact ⟨⟨_, (hv3.alloc _).alloc _, (by
  have h := hrow3.below (((Below.refl w3.heap.size w3).alloc (Nat.le_refl _) (.cells #[.slice A3 (12 * m) c3] 45)).alloc (by simp) (.cells #[.int .i64 12] 3))
  unfold OwnP at h
  simpa [ptsOf] using h), fun g hg => .inl (hlt0 g hg).2⟩, (hBw3.mono hbase).alloc (by omega) _ |>.alloc (by simp; omega) _, fun j u hj hu => by
   have hbl : b < w3.heap.size := hb3' (by omega)
   exact ((((Below.refl w3.heap.size w3).alloc (Nat.le_refl _) _).alloc (by simp) _).cell (p := ⟨b, off + j, none⟩) hbl).trans hu, by simp⟩
 case assign =>
  intro l x W K hK
  gi_wp2
  exact hK
 case body =>
  rintro l pre x W ⟨⟨v, hv, hrow, hG⟩, hBW, hcells, hWs⟩ hlt
  have hx := x.2
  have hA := hA3 (by omega)
  have hby' := hby (by omega)
  have hbW : b < W.heap.size := by
   obtain ⟨u, hu⟩ : ∃ u, w3.cell? ⟨b, off + 0, none⟩ = some u := ⟨_, hby'.at_ 0 (by omega)⟩
   have h1 := hcells 0 u (by omega) hu
   have h2 : W.heap[b]? ≠ none := by
    intro e
    unfold World.cell? at h1
    rw [e] at h1
    cases h1
   exact Nat.lt_of_not_le fun e => h2 (by rw [Array.getElem?_eq_none_iff]; exact e)
  have hbyW : By W b off L := ⟨hbW, fun j hj => hcells j _ (by omega) (hby'.at_ j hj)⟩
  have hdec := sdecode_12 ((L.drop (12 * x.1)).take 12) (by rw [List.length_take, List.length_drop]; omega) b (off + 12 * x.1) 12 W ((hbyW.drop (12 * x.1)).take 12 (by rw [List.length_drop]; omega)) (Nat.le_refl _)
  have hKl : (l0 ++ ptsOf B (o + 12 * place) m pre).length ≤ 1000000 := by rw [List.length_append, ptsOf_len]; omega
  have HSN := Lib.hid (ptsOf_snoc B (o + 12 * place) m pre x)
  have HSL : Hid (slot B (o + 12 * place + 12 * x.1) = (Wh.nm ((L.drop (12 * x.1)).take 12) 0, Sl.dn ((L.drop (12 * x.1)).take 12))) := Lib.hid (by
   have hl12 : ((L.drop (12 * x.1)).take 12).length = 12 := by rw [List.length_take, List.length_drop]; omega
   unfold slot pt
   rw [← HCUT.out x.1 hx, ← hL.out]
   unfold Sl.dat Sl.dnn
   rw [if_pos hl12, if_pos hl12])
  generalize Wh.nm ((L.drop (12 * x.1)).take 12) 0 = pa at *
  generalize Sl.dn ((L.drop (12 * x.1)).take 12) = pn at *
  generalize hK : l0 ++ ptsOf B (o + 12 * place) m pre = K at *
  obtain ⟨Av, cv, rfl⟩ := OwnP.slice (t := 27) (l := K) hrow
  have hvc := hv.cell
  have hvl := hv.lt
  have HO : Hid (OwnP 27 base W (.slice Av K.length cv) K) := Lib.hid hrow
  have hbase2 : base ≤ W.heap.size := by omega
  gi_wp2_with first
   | (refine ⟨trivial, ?_⟩; gi_at_call 109; refine (CallsIn.inRound l (callsIn_wide.2 hdec)).mono ?_; rintro e w5 ⟨rfl, hb5⟩; have HB5 := Lib.hid hb5; have hv6 : (w5.alloc (.cells #[.int .i64 pa, .int .i64 pn] 27)).cell? ⟨w.heap.size + 1, 0, none⟩ = some (.slice Av K.length cv) := ((hb5.alloc hb5.size (.cells #[.int .i64 pa, .int .i64 pn] 27)).cell (p := ⟨w.heap.size + 1, 0, none⟩) hvl).trans hvc; have hs5 := hb5.size; clear hb5)
   | (gi_at_builtin; go_loud (have HW3 : Hid (Below W.heap.size W ((w5.alloc (.cells #[.int .i64 pa, .int .i64 pn] 27)).alloc (.cells #[.int .i64 pa, .int .i64 pn] 27))) := Lib.hid ((HB5.out.alloc hs5 _).alloc (by simp; omega) _); refine wpListIn_append_own_at _ rfl _ _ 25 rfl base 27 i0 (.agg #[.int .i64 0, .int .i64 0]) 2 16 Tryz.underlying25 HI.out HZ.out.1 HZ.out.2.1 HZ.out.2.2 rfl (by decide) (.slice Av K.length cv) K.length (Wh.cellsA K) rfl (HO.out.below HW3.out) ⟨w5.heap.size + 1, 0, none⟩ 1 1 [.int .i64 pa, .int .i64 pn] rfl rfl (two_cells_new w5 pa pn) (by intro u hu; simp at hu; rcases hu with rfl | rfl <;> rfl) (by unfold maxLen; omega) (by omega) (by have := HW3.out.size; omega) ?_; intro v' w7 hown7 hg7 hnil7 hat7; obtain ⟨g7, cap7, rfl⟩ := ownsRow_succ hown7; obtain ⟨q1, q2, q3, q4, q5, q6, q7⟩ := read_step hv (by decide) hrow hG (by omega) hWs hbase2 HW3.out hown7 hg7 hat7; have hc7 := q1.cell; have hf7 := q1.frozen))
  have hob : ∀ j, w.heap.size ≤ j → j < w3.heap.size + 2 → some j ≠ (Value.slice Av K.length cv).ownBlock := fun j h1 h2 e => by
   rcases hG j e.symm with h | h <;> omega
  have hKK : l0 ++ ptsOf B (o + 12 * place) m (pre ++ [x]) = K ++ [(pa, pn)] := by rw [HSN.out, HSL.out, ← List.append_assoc, hK]
  have hbs := hb2 (by omega)
  have hbs' := hb3' (by omega)
  refine ⟨q4.from _, boxes_keep (q7 _ (by omega) (hob _ (by omega) (by omega)) (by omega)) (q7 _ (by omega) (hob _ (by omega) (by omega)) (by omega)), ⟨_, q2, ?_, q6⟩, hBW.trans q5, fun j u hj hu => ?_, by have := q4.size; omega⟩
  ·rw [hKK]
   have h := OwnP.more (t := 27) (l := K) q3
   unfold OwnP at h
   exact h
  ·exact (World.cell?_of_block (q7 b (by omega) (hob b (by omega) (by omega)) (by omega))).trans (hcells j u hj hu)
 case done =>
  rintro D ys W hD rfl ⟨⟨v, hv, hrow, hG⟩, hBW, hcells, hWs⟩ hK
  rw [ptsOf_all] at hrow
  generalize hKe : l0 ++ side B (o + 12 * place) m = K at hrow
  have HKE := Lib.hid hKe
  clear hKe
  obtain ⟨Av, cv, rfl⟩ := OwnP.slice (t := 27) (l := K) hrow
  have hc := hv.cell
  gi_wp2
  refine ⟨by simp, .inl ⟨_, _, rfl, run_takeDeferred hK, ?_⟩⟩
  refine ⟨_, results_tmp rfl _ _ _, .slice Av K.length cv, rfl, ?_, ?_⟩
  ·rw [HKE.out]; exact ownsRow_putObj hrow (.deferred none) hK rfl
  ·exact hBW.trans (belowK_b (w := w) hbase W D _ _ (by simp at hD; omega) hK rfl rfl)
 case stop =>
  rintro D c pre W _ _ h _
  exact h.elim
end
section
open Go.RowKit Go.Sort
open Fx (Vl)
open Me
open Wp
theorem own_room {w : World} {base k : Nat} {t : TypeId} {CS : Array Value} (hb : base ≤ w.heap.size) (hk : k ≤ maxLen) (hcs : CS.size = k * 2) : OwnP t base (w.alloc (.cells CS t)) (.slice (some ⟨w.heap.size, 0, none⟩) 0 k) [] :=
 ⟨rfl, .inr ⟨w.heap.size, k, CS, rfl, hb, World.alloc_heap_new w _, Nat.zero_le _, hk, by omega, by simp [Wh.cellsA]⟩⟩
theorem own_weak {w : World} {a b : Nat} {t : TypeId} {v : Value} {l : List (Int × Int)} (h : OwnP t b w v l) (hab : a ≤ b) : OwnP t a w v l := by
 refine ⟨h.1, ?_⟩
 rcases h.2 with h | ⟨g, cap, cur, e, hb, rest⟩
 ·exact .inl h
 ·exact .inr ⟨g, cap, cur, e, Nat.le_trans hab hb, rest⟩
theorem points_any {w : World} {V : Nat → Prop} {c fs : Nat} {S : Vf.Sv} {n : List UInt8} {h : Hd} {B : List UInt8} {A : Option Addr} {cap : Nat} (ro : PO w V fs c S) (f : Fits S.now n h B) (ix : Nat) (hi : ix < h.l.length) (place m C : Nat) (hC : h.cnt ix = (C : Int)) (hp : place < C) (hm : m ≤ C) :
 Calls Tryz.prog 43 #[ringV h ix A cap fs n, .int .i64 (place : Int), .int .i64 (m : Int)] w fun e w' => ∃ v, e = .returned v ∧ OwnP 27 w.heap.size w' v (round B (h.offs (ix : Int)).toNat C place m) ∧ Below w.heap.size w w' := by
 have hcb := cnt_bd f.val ix hi
 have HRD : Hid (∀ W v0 l0 (pl k : Nat), Below w.heap.size w W → w.heap.size + 1 ≤ W.heap.size → OwnP 27 (w.heap.size + 1) W v0 l0 → pl + k ≤ C → l0.length + k ≤ 1000000 → Calls Tryz.prog 84 #[ringV h ix A cap fs n, v0, .int .i64 (pl : Int), .int .i64 (k : Int)] W fun e w' => ∃ v, e = .returned v ∧ OwnP 27 (w.heap.size + 1) w' v (l0 ++ side B ((h.offs (ix : Int)).toNat + 12 * pl) k) ∧ Below (w.heap.size + 1) W w') := Lib.hid fun W v0 l0 pl k hb hs ho h1 h2 =>
  read_any7 (ro.below hb) f ix hi pl k (by omega) (w.heap.size + 1) v0 l0 hs ho h2
 obtain ⟨i0, hi0, hz0, hz1, hz2⟩ := info_parts infoPt
 obtain ⟨CS, hmk, hcs⟩ : ∃ (CS : Array Value), (∀ W : World, (Instr.makeSlice 25 (.int .i64 0) (.int .i64 (m : Int))).run Tryz.prog W = .ok (.slice (some ⟨W.heap.size, 0, none⟩) 0 m) (W.alloc (.cells CS 27))) ∧ CS.size = m * 2 := by
  refine ⟨madeCells #[.int .i64 0, .int .i64 0] (m * 2), fun W => ?_, by rw [size_madeCells]⟩
  have h := run_make (P := Tryz.prog) W 25 27 i0 (.agg #[.int .i64 0, .int .i64 0]) Tryz.underlying25 hi0 hz0 .i64 .i64 0 (m : Int) (by omega) (by omega) (by rw [hz2]; omega) (by omega)
  have e : (Value.agg #[.int .i64 0, .int .i64 0]).cells = #[.int .i64 0, .int .i64 0] := by simp [Value.cells]
  rw [hz1, Int.toNat_natCast, e] at h
  exact h
 clear hi0 hz0 hz1 hz2 ro
 unfold ringV at *
 rw [hC] at HRD ⊢
 obtain ⟨o, ho⟩ : ∃ o : Nat, (h.offs (ix : Int)).toNat = o := ⟨_, rfl⟩
 rw [ho] at HRD ⊢
 obtain ⟨k1, hk1⟩ : ∃ k1 : Nat, k1 = min m (C - place) := ⟨_, rfl⟩
 have HRN : Hid (round B o C place m = (([] : List (Int × Int)) ++ side B (o + 12 * place) k1) ++ side B (o + 12 * 0) (m - k1)) := Lib.hid (by rw [hk1]; rfl)
 obtain ⟨LG, hLG⟩ : ∃ LG, LG = round B o C place m := ⟨_, rfl⟩
 rw [← hLG]
 have HLG : Hid (LG = (([] : List (Int × Int)) ++ side B (o + 12 * place) k1) ++ side B (o + 12 * 0) (m - k1)) := Lib.hid (by rw [hLG, HRN.out])
 clear hLG
 have hmin : min (m : Int) ((C : Int) - (place : Int)) = (k1 : Int) := by omega
 obtain ⟨d1, hd1⟩ : ∃ d1, (C : Int) - (place : Int) = d1 := ⟨_, rfl⟩
 rw [hd1] at hmin
 have hwd : IntKind.i64.wrap d1 = d1 := IntWalk.i64_in _ (by omega)
 obtain ⟨k2, hk2⟩ : ∃ k2 : Nat, k2 = m - k1 := ⟨_, rfl⟩
 rw [← hk2] at HLG
 have hsub : (m : Int) - (k1 : Int) = (k2 : Int) := by omega
 have hw2 : IntKind.i64.wrap (k2 : Int) = (k2 : Int) := IntWalk.i64_in _ (by omega)
 have HK1 : Hid (place + k1 ≤ C ∧ k1 ≤ 1000000 ∧ k1 + k2 ≤ 1000000 ∧ 0 + k2 ≤ C) := Lib.hid ⟨by omega, by omega, by omega, by omega⟩
 clear f HRN ho hk1 hk2
 generalize h.step ix = s at *
 generalize h.offs (ix : Int) = of_ at *
 generalize h.l.length = hln at *
 generalize h.ag = ag at *
 generalize h.xf = xf at *
 have HR0 : Hid (OwnP 27 (w.heap.size + 1) ((w.alloc (.cells #[.int .i64 s, .int .i64 (C : Int), .int .i64 ag, .int .i64 xf, .slice A hln cap, .pointer (some ⟨fs, 0, none⟩), .string ⟨n.toArray⟩, .int .i64 of_] 100)).alloc (.cells CS 27)) (.slice (some ⟨w.heap.size + 1, 0, none⟩) 0 m) []) := Lib.hid (by
  have h := own_room (w := w.alloc (.cells #[.int .i64 s, .int .i64 (C : Int), .int .i64 ag, .int .i64 xf, .slice A hln cap, .pointer (some ⟨fs, 0, none⟩), .string ⟨n.toArray⟩, .int .i64 of_] 100)) (base := w.heap.size + 1) (t := 27) (by simp) (by unfold maxLen; omega) hcs
  rw [World.size_alloc] at h
  exact h)
 have HB0 : Hid (Below w.heap.size w ((w.alloc (.cells #[.int .i64 s, .int .i64 (C : Int), .int .i64 ag, .int .i64 xf, .slice A hln cap, .pointer (some ⟨fs, 0, none⟩), .string ⟨n.toArray⟩, .int .i64 of_] 100)).alloc (.cells CS 27))) := Lib.hid (((Below.refl _ _).alloc (Nat.le_refl _) _).alloc (by simp) _)
 have HBX : Hid (∀ W, Below (w.heap.size + 1) ((w.alloc (.cells #[.int .i64 s, .int .i64 (C : Int), .int .i64 ag, .int .i64 xf, .slice A hln cap, .pointer (some ⟨fs, 0, none⟩), .string ⟨n.toArray⟩, .int .i64 of_] 100)).alloc (.cells CS 27)) W → RowAt W w.heap.size 100 #[.int .i64 s, .int .i64 (C : Int), .int .i64 ag, .int .i64 xf, .slice A hln cap, .pointer (some ⟨fs, 0, none⟩), .string ⟨n.toArray⟩, .int .i64 of_]) := Lib.hid fun W hb => ((RowAt.new w _ _).alloc _).below hb (Nat.lt_succ_self _)
 have HRD2 : Hid (∀ W v0 l0 (k : Nat), Below w.heap.size w W → w.heap.size + 1 ≤ W.heap.size → OwnP 27 (w.heap.size + 1) W v0 l0 → k ≤ C → l0.length + k ≤ 1000000 → Calls Tryz.prog 84 #[.agg #[.int .i64 s, .int .i64 (C : Int), .int .i64 ag, .int .i64 xf, .slice A hln cap, .pointer (some ⟨fs, 0, none⟩), .string ⟨n.toArray⟩, .int .i64 of_], v0, .int .i64 0, .int .i64 (k : Int)] W fun e w' => ∃ v, e = .returned v ∧ OwnP 27 (w.heap.size + 1) w' v (l0 ++ side B (o + 12 * 0) k) ∧ Below (w.heap.size + 1) W w') := Lib.hid fun W v0 l0 k hb hs ho h1 h2 => HRD.out W v0 l0 0 k hb hs ho (by omega) h2
 go_enter Tryz.func43, Tryz.ntmps43
 go_wp2_with first
  | (go_at_call 84; (with_reducible refine (HRD.out _ _ [] place k1 HB0.out (by simp) HR0.out HK1.out.1 (by simpa using HK1.out.2.1)).mono ?_); rintro e w1 ⟨v1, rfl, ho1, hb1⟩; obtain ⟨A1, c1, rfl⟩ := ho1.slice; have hl1 : (([] : List (Int × Int)) ++ side B (o + 12 * place) k1).length = k1 := (by simp [side_len]); have HO1 := Lib.hid ho1; rw [hl1] at *; have HB1 : Hid (Below w.heap.size w w1) := Lib.hid (HB0.out.trans (hb1.mono (Nat.le_succ _))); have hs1 := hb1.size; simp at hs1; have hrw := HBX.out w1 hb1; have hrl := hrw.lt; have y0 := hrw.cell 0; have y1 := hrw.cell 1; have y2 := hrw.cell 2; have y3 := hrw.cell 3; have y4 := hrw.cell 4; have y5 := hrw.cell 5; have y6 := hrw.cell 6; have y7 := hrw.cell 7; simp only [List.getElem?_toArray, List.getElem?_cons_succ, List.getElem?_cons_zero] at y0 y1 y2 y3 y4 y5 y6 y7; clear hb1 ho1 hrw)
  | (go_at_call 84; (with_reducible refine (HRD2.out w1 _ _ k2 HB1.out (by omega) HO1.out (by omega) (by simp only [List.nil_append, side_len]; omega)).mono ?_); rintro e w2 ⟨v2, rfl, ho2, hb2⟩; obtain ⟨LL, hLL⟩ : ∃ LL, LL = ([] ++ side B (o + 12 * place) k1) ++ side B (o + 12 * 0) k2 := ⟨_, rfl⟩; rw [← hLL] at ho2; have HLL := Lib.hid hLL; clear hLL; obtain ⟨A2, c2, rfl⟩ := ho2.slice; have HO2 := Lib.hid ho2; have HB2 : Hid (Below w.heap.size w w2) := Lib.hid (HB1.out.trans (hb2.mono (Nat.le_succ _))); clear hb2 ho2)
 go_ret
 have hE : LG = LL := by rw [HLL.out, HLG.out]
 rw [hE]
 exact ⟨_, rfl, own_weak HO2.out (Nat.le_succ _), HB2.out⟩
end
end Go.Proofs.YtljlanhpjpjgaaaGreatDoor
