/-
  WhRDecL: CONTRACT: the document's own Decode, every row of bytes.
  WpDec: CONTRACTS: the document's Decode of every row of bytes that reads: what it hands back lies in blocks of its own.
  WpInf: CONTRACTS: chapter 7, the document's Info.
  WpUp: CONTRACTS: chapter 7, the document's Update.
  WpFe: CONTRACTS: chapter 7, the document's Fetch.
  WqTm: THE PLAIN STATE of chapter 7: how many times a Fetch asks for, as the program counts them. No program is named here.
  WqIx: CONTRACTS: chapter 7, the program's search for an archive: the first that covers a time, the first that reaches far enough.
  WqCv: CONTRACTS: chapter 7, the program's search for an archive: slices.IndexFunc over archives, at both closures; covering, reaching.
-/
import Derived.Test.YtbakngbmfgnmcaaDoorJ12
import Derived.Deep.RegionLaw
import Derived.Test.YtbakngbmfgnmcaaDoorJ5
import Derived.Test.YtbakngbmfgnmcaaDoorJ7
import Derived.Test.YtbakngbmfgnmcaaDoorJ11
import Derived.Test.YtbakngbmfgnmcaaDoorJ3
import Derived.Test.YtbakngbmfgnmcaaDoorJ6

namespace Go.Proofs.YtbakngbmfgnmcaaDoor
open Go.RowKit Go.Sort
open Wh (At)
open Me

theorem arinfo2 : (Tryd.prog.info? 24).map (fun i => (i.zero, i.size, i.bytes)) = some (some (.agg #[.int .i64 0, .int .i64 0]), 2, 16) := by kernel_rfl

theorem step_go {P : Program} {ops : Array Oper} {o : Oper} {a : Act} {K : Act → World → Prop} {Q : Exit → Act → World → Prop} {E : Prop} {w : World} (hgd : o.guard = none) (f : FuncId) (xs : Array Value) (hrun : (execOp a.eval o).run P w = .ok (.enter f xs) w) (v : Value) (R : World → Prop) (hc : Calls P f xs w fun e w' => e = .returned v ∧ R w') (h : ∀ w', R w' → K (a.put o.dst v) w') :
    if Region.wanted o (yielded ops a.tmps) = true then Oper.wp P o a w K Q else E := by
  rw [if_pos (by simp [Region.wanted, hgd])]
  unfold Oper.wp
  rw [hrun, Oper.upon_enter]
  exact hc.mono fun e w' ⟨he, hr⟩ => by subst he; exact h w' hr

theorem by_reads {w : World} {b off cap : Nat} {L : List UInt8} (h : By w b off L) (hc : L.length ≤ cap) : Reads w (.slice (some ⟨b, off, none⟩) L.length cap) L :=
  ⟨_, _, rfl, hc, fun _ => ⟨_, rfl, h.lt, trivial, fun j u hu => by
    rw [Addr.add_lit]
    have hj : j < L.length := by
      rcases Nat.lt_or_ge j (by8 L).length with h1 | h1
      · rwa [by8_len] at h1
      · rw [List.getElem?_eq_none h1] at hu; cases hu
    rw [by8_get L j hj] at hu
    have := h.at_ j hj
    rw [this, ← hu]
    unfold Wh.byt
    rw [List.getD_eq_getElem?_getD, List.getElem?_eq_getElem hj]
    rfl⟩⟩
theorem DecodedF.yes' {w w' : World} {L : List UInt8} {e : Ending} {A : Option Addr} {c : Nat} (h : Wh.dok L = true) (he : e = .returned (.tuple #[.agg #[.int .i64 (Wh.nm L 0), .int .i64 (Wh.nm L 8), .slice A (Wh.cand L).length c], .int .i64 0])) (hr : Row w' A (Wh.cand L) c) (hb : Below w.heap.size w w') (hf : ∀ a, A = some a → w.heap.size ≤ a.block) : DecodedF w L e w' := by
  obtain ⟨e1, e2, e3, e4⟩ := Wh.dok_t h
  refine ⟨A, c, ?_, ?_, hb, hf⟩
  · rw [he, e1, e2, e3, e4]
  · rw [e3]; exact hr
theorem own_fresh {base b0 : Nat} {W : World} {A : Option Addr} {n c : Nat} {l : List (Int × Int)} (h : OwnAr base W (.slice A n c) l) (hb : b0 ≤ base) : ∀ a, A = some a → b0 ≤ a.block := fun a e => by
  subst e
  rcases h.2 with ⟨e, _⟩ | ⟨g, cap, cur, e, hg, _⟩
  · cases e
  · injection e with e1 _ _
    injection e1 with e1
    rw [e1]
    exact Nat.le_trans hb hg
theorem rf_of {w X wx : World} {L : List UInt8} (hX : X.heap.size = w.heap.size + 1) (hB : Below w.heap.size w X) (hR : RowAt X w.heap.size 27 #[.int .i64 0, .int .i64 0, .slice none 0 0])
    (hb : Below X.heap.size X wx) (h1 : RowAt wx X.heap.size 27 #[.int .i64 (Wh.nm L 0), .int .i64 (Wh.nm L 8), .slice none 0 0]) : RfMade w wx L 0 (.slice none 0 0) := by
  rw [hX] at h1
  have := h1.lt
  exact ⟨by omega, hB.trans (hb.mono (by omega)), hR.below hb (by omega), h1, rfl, .inl ⟨rfl, rfl⟩⟩

theorem RfMade.below {w wr W : World} {L : List UInt8} {j : Nat} {v : Value} (h : RfMade w wr L j v) (hb : Below wr.heap.size wr W) : RfMade w W L j v := by
  obtain ⟨sz, bel, rr, rh, own⟩ := h
  exact ⟨Nat.le_trans sz hb.size, bel.trans (hb.mono bel.size), rr.below hb rr.lt, rh.below hb rh.lt, own.keep fun g _ hg => hb.block g hg⟩
theorem RfMade.step2 {w wr w4 : World} {L : List UInt8} {j : Nat} {v v4 : Value} (hM : RfMade w wr L j v) (hg : wr.grownBy w4 v.ownBlock)
    (ho : w4.ownsRow (w.heap.size + 2) 24 2 v4 ((Wh.archs L j).length + 1) (Wh.cellsA (Wh.archs L j) ++ [.int .i64 (Wh.nm L (16 + 12 * j + 4)), .int .i64 (Wh.nm L (16 + 12 * j + 8))])) :
    w4.cell? ⟨w.heap.size + 1, 2, none⟩ = some v ∧ w4.frozen? ⟨w.heap.size + 1, 2, none⟩ = false ∧ RfMade w (w4.setCell ⟨w.heap.size + 1, 2, none⟩ v4) L (j + 1) v4 := by
  obtain ⟨sz, bel, rr, rh, own⟩ := hM
  have hlt := own.lt
  have hs4 : wr.heap.size ≤ w4.heap.size := hg.size
  have key : ∀ i, i < w.heap.size + 2 → w4.heap[i]? = wr.heap[i]? := fun i hi => hg.block i (by omega) (fun e => by have := (hlt i e.symm).1; omega)
  have rr4 : RowAt w4 w.heap.size 27 #[.int .i64 0, .int .i64 0, .slice none 0 0] := (key _ (by omega)).trans rr
  have rh4 : RowAt w4 (w.heap.size + 1) 27 #[.int .i64 (Wh.nm L 0), .int .i64 (Wh.nm L 8), v] := (key _ (by omega)).trans rh
  refine ⟨rh4.cell 2, rh4.frozen 2, by simpa [World.setCell] using (by omega : w.heap.size + 2 ≤ w4.heap.size), ?_, rr4.far (by show w.heap.size ≠ w.heap.size + 1; omega) _, ?_, ?_⟩
  · have b1 : Below w.heap.size w w4 := bel.grown hg bel.size (fun g e => by have := (hlt g e).1; omega)
    exact b1.setCell (by show _ ≤ w.heap.size + 1; omega) _
  · have := rh4.set_ 2 v4
    simpa using this
  · rw [Wh.archs_succ]
    have ho' : OwnAr (w.heap.size + 2) w4 v4 (Wh.archs L j ++ [(Wh.nm L (16 + 12 * j + 4), Wh.nm L (16 + 12 * j + 8))]) := by
      unfold OwnAr
      rw [List.length_append]
      unfold Wh.cellsA at ho ⊢
      rw [List.flatMap_append]
      exact ho
    exact ho'.keep fun g hg1 _ => Below.heap_setCell _ ⟨w.heap.size + 1, 2, none⟩ v4 g (by show g ≠ w.heap.size + 1; omega)
theorem rd_row {w : World} {g : Nat} {t : TypeId} {cs : List Value} (h : RowAt w g t cs.toArray) : Rd w (fun _ => True) (some ⟨g, 0, none⟩) cs := fun _ => by
  refine ⟨_, rfl, h.lt, trivial, fun j u hu => ?_⟩
  rw [Addr.add_lit, Nat.zero_add, h.cell]
  simpa using hu

theorem row_back {w W : World} {A : Option Addr} {l : List (Int × Int)} {c : Nat} (h : OwnAr (w.heap.size + 2) W (.slice A l.length c) l) (x y z : Value) : Row (((W.setCell ⟨w.heap.size, 0, none⟩ x).setCell ⟨w.heap.size, 1, none⟩ y).setCell ⟨w.heap.size, 2, none⟩ z) A l c := by
  have h2 : OwnAr (w.heap.size + 2) (((W.setCell ⟨w.heap.size, 0, none⟩ x).setCell ⟨w.heap.size, 1, none⟩ y).setCell ⟨w.heap.size, 2, none⟩ z) (.slice A l.length c) l := h.keep fun g hg _ =>
    (Below.heap_setCell _ ⟨w.heap.size, 2, none⟩ z g (by show g ≠ w.heap.size; omega)).trans ((Below.heap_setCell _ ⟨w.heap.size, 1, none⟩ y g (by show g ≠ w.heap.size; omega)).trans (Below.heap_setCell _ ⟨w.heap.size, 0, none⟩ x g (by show g ≠ w.heap.size; omega)))
  obtain ⟨A', c', e, hr⟩ := OwnAr.row h2
  injection e with e1 e2 e3
  subst e1 e3
  exact hr
end Go.Proofs.YtbakngbmfgnmcaaDoor

namespace Go.Proofs.YtbakngbmfgnmcaaDoor
open Go.RowKit
open Me

end Go.Proofs.YtbakngbmfgnmcaaDoor

namespace Go.Proofs.YtbakngbmfgnmcaaDoor
open Go.RowKit Go.Sort
open Fx (Vl)
open Me
open Wp

/-- A header handed back with an error, in blocks of the call's own. -/
def Wp.Informed (w : World) (R : Hd × Int) (e : Ending) (w' : World) : Prop :=
  ∃ A cap, e = .returned (.tuple #[.agg #[.int .i64 R.1.ag, .int .i64 R.1.xf, .slice A R.1.l.length cap], .int .i64 R.2]) ∧ Row w' A R.1.l cap ∧ (∀ a, A = some a → w.heap.size ≤ a.block) ∧ Below w.heap.size w w'
theorem Wp.Informed.zero {w w' : World} {R : Hd × Int} {k : Int} (hR : R = (Hd.zero, k)) (hb : Below w.heap.size w w') : Informed w R (.returned (.tuple #[.agg #[.int .i64 0, .int .i64 0, .slice none 0 0], .int .i64 k])) w' := by
  subst hR
  exact ⟨none, 0, rfl, ⟨Nat.le_refl _, fun h => (by cases h)⟩, fun a e => (by cases e), hb⟩

theorem below_set3 {B g : Nat} {w W : World} {a b c : Value} (h : Below B w W) (hg : B ≤ g) : Below B w (((W.setCell ⟨g, 0, none⟩ a).setCell ⟨g, 1, none⟩ b).setCell ⟨g, 2, none⟩ c) :=
  Below.setCell (Below.setCell (Below.setCell h hg _) hg _) hg _
theorem row_set3 {g : Nat} {W : World} {a b c : Value} {A : Option Addr} {l : List (Int × Int)} {cap : Nat} (h : Row W A l cap) (hg : ∀ x, A = some x → g < x.block) : Row (((W.setCell ⟨g, 0, none⟩ a).setCell ⟨g, 1, none⟩ b).setCell ⟨g, 2, none⟩ c) A l cap := by
  refine ⟨h.1, fun h0 => ?_⟩
  obtain ⟨bb, off, e, ha⟩ := h.2 h0
  have hlt := hg _ e
  have hne : bb ≠ g := fun e => by subst e; exact Nat.lt_irrefl _ hlt
  have hk : (((W.setCell ⟨g, 0, none⟩ a).setCell ⟨g, 1, none⟩ b).setCell ⟨g, 2, none⟩ c).heap[bb]? = W.heap[bb]? := (Below.heap_setCell _ _ _ _ hne).trans ((Below.heap_setCell _ _ _ _ hne).trans (Below.heap_setCell _ _ _ _ hne))
  exact ⟨bb, off, e, by simpa [World.setCell] using ha.lt, fun i hi => (World.cell?_of_block hk).trans (ha.st i hi), fun i hi => (World.cell?_of_block hk).trans (ha.ct i hi)⟩

end Go.Proofs.YtbakngbmfgnmcaaDoor

namespace Go.Proofs.YtbakngbmfgnmcaaDoor
open Go.RowKit Go.Sort
open Fx (Vl)
open Me
open Wp

namespace Wp
theorem info_val {fs : List Vf.Fl} {n : List UInt8} (h : (info fs n).2 = 0) : (info fs n).1.val = true := by
  unfold info at h ⊢
  split at h
  · rename_i hh; exact absurd h hh
  · rename_i hh
    rw [if_neg hh]
    dsimp only at h ⊢
    split at h
    · cases h
    · rename_i h2
      rw [if_neg h2]
      cases hd : Wh.dok (Vf.read fs n 0 (Vf.size fs n).1).1
      · exfalso
        apply h2
        left
        rw [(Wh.dok_f hd).2.2.2]; decide
      · obtain ⟨e1, e2, e3, _⟩ := Wh.dok_t hd
        unfold Hd.val hdOf
        dsimp only
        rw [e1, e2, e3]
        unfold Wh.dok at hd
        simp only [Bool.and_eq_true] at hd
        exact hd.1.2
theorem layAll_step {n : List UInt8} {h : Hd} {now : Int} {l : List (Int × Int)} {i : Nat} (hi : i < l.length) {S : Vf.Sv} {k : Int} :
    layAll n h now (l.drop i) S k = layAll n h now (l.drop (i + 1)) (lays S n h now l[i]).1 (if (lays S n h now l[i]).2 = true then k + 1 else k) := by
  rw [List.drop_eq_getElem_cons hi]
  conv => lhs; unfold layAll
theorem update_err {S : Vf.Sv} {n : List UInt8} {now : Int} {l : List (Int × Int)} (h : (info S.now n).2 ≠ 0) : update S n now l = (S, 0, (info S.now n).2) := by unfold update; dsimp only; rw [if_pos h]
theorem update_now {S : Vf.Sv} {n : List UInt8} {now : Int} {l : List (Int × Int)} (h : (info S.now n).2 = 0) (ht : now < 1 ∨ 4294967295 < now) : update S n now l = (S, 0, 1) := by
  unfold update; dsimp only; rw [if_neg (by rw [h]; simp), if_pos (by unfold time; simp; omega)]
theorem update_yes {S : Vf.Sv} {n : List UInt8} {now : Int} {l : List (Int × Int)} (h : (info S.now n).2 = 0) (h1 : 1 ≤ now) (h2 : now ≤ 4294967295) : update S n now l = ({ (layAll n (info S.now n).1 now l S 0).1 with was := (layAll n (info S.now n).1 now l S 0).1.now, l := [] }, (layAll n (info S.now n).1 now l S 0).2, 0) := by
  unfold update; dsimp only; rw [if_neg (by rw [h]; simp), if_neg (by unfold time; simp; omega)]
end Wp

end Go.Proofs.YtbakngbmfgnmcaaDoor

namespace Go.Proofs.YtbakngbmfgnmcaaDoor
open Go.RowKit Go.Sort
open Fx (Vl)
open Me
open Wp

namespace Wp
theorem fetch_err {fs : List Vf.Fl} {n : List UInt8} {now a b : Int} (h : (info fs n).2 ≠ 0) : fetch fs n now a b = (none, (info fs n).2) := by unfold fetch; dsimp only; rw [if_pos h]
theorem fetch_now {fs : List Vf.Fl} {n : List UInt8} {now a b : Int} (h : (info fs n).2 = 0) (ht : now < 1 ∨ 4294967295 < now) : fetch fs n now a b = (none, 1) := by
  unfold fetch; dsimp only; rw [if_neg (by rw [h]; simp), if_pos (by unfold time; simp; omega)]
theorem fetch_time {fs : List Vf.Fl} {n : List UInt8} {now a b : Int} (h : (info fs n).2 = 0) (h1 : 1 ≤ now) (h2 : now ≤ 4294967295) (ht : b < a ∨ now < a ∨ b < 0 ∨ b < now - (info fs n).1.span) : fetch fs n now a b = (none, 7) := by
  unfold fetch; dsimp only; rw [if_neg (by rw [h]; simp), if_neg (by unfold time; simp; omega), if_pos ht]
/-- Where the times end. -/
def fin_ (u s a : Int) : Int := if Sl.al u s + s ≤ a then a + s else Sl.al u s + s
def seq (fs : List Vf.Fl) (n : List UInt8) (h : Hd) (i : Nat) (a : Int) (k : Nat) : List Vl := (List.range k).map fun (j : Nat) => value fs n h i (a + (j : Int) * h.step i)
theorem seq_succ (fs : List Vf.Fl) (n : List UInt8) (h : Hd) (i : Nat) (a : Int) (k : Nat) : seq fs n h i a (k + 1) = seq fs n h i a k ++ [value fs n h i (a + (k : Int) * h.step i)] := by unfold seq; rw [List.range_succ, List.map_append]; rfl
theorem seq_len (fs : List Vf.Fl) (n : List UInt8) (h : Hd) (i : Nat) (a : Int) (k : Nat) : (seq fs n h i a k).length = k := by unfold seq; simp
theorem fetch_yes {fs : List Vf.Fl} {n : List UInt8} {now a b : Int} {i : Nat} (h : (info fs n).2 = 0) (h1 : 1 ≤ now) (h2 : now ≤ 4294967295) (ht : ¬ (b < a ∨ now < a ∨ b < 0 ∨ b < now - (info fs n).1.span)) {f u : Int} (hf : clip (info fs n).1 now a = f) (hu : min b now = u)
    (hi : first (info fs n).1 (now - f - 1) (info fs n).1.l.length 0 = some i) {p e : Int} (hp : Sl.al f ((info fs n).1.step i) + (info fs n).1.step i = p) (he : fin_ u ((info fs n).1.step i) p = e) {K : Nat} (hK : ((e - p) / (info fs n).1.step i).toNat = K) :
    fetch fs n now a b = (some ⟨p, (info fs n).1.step i, seq fs n (info fs n).1 i p K⟩, 0) := by
  unfold fetch; dsimp only
  rw [if_neg (by rw [h]; simp), if_neg (by unfold time; simp; omega), if_neg ht, hf, hu, hi]
  dsimp only
  rw [hp]
  unfold fin_ at he
  rw [he, hK]
  rfl
/-- The times, counted. -/
theorem times_of {f u s : Int} (hs : 1 ≤ s) (hs2 : s ≤ 16777216) (hf : 0 ≤ f) (hfu : f ≤ u) (hu : u ≤ 4294967295) :
    ∃ (K : Nat) (p q e : Int), Sl.al f s = q ∧ q + s = p ∧ fin_ u s p = e ∧ e = p + (K : Int) * s ∧ ((e - p) / s).toNat = K ∧ 1 ≤ K ∧ K ≤ 4294967296 ∧ 0 ≤ q ∧ q ≤ 4294967295 ∧ e ≤ 4328521728 ∧ 0 ≤ Sl.al u s ∧ Sl.al u s ≤ 4294967295 := by
  have e1 := Sl.al_mul hs hf
  have e2 := Sl.al_mul hs (by omega : 0 ≤ u)
  have m1 : 0 ≤ f / s := Int.ediv_nonneg hf (by omega)
  have m2 : f / s ≤ u / s := Int.ediv_le_ediv (by omega) hfu
  have m3 : u / s ≤ u := Int.ediv_le_self _ (by omega)
  have b1 : Sl.al f s ≤ f := by rw [Sl.al_eq hs hf]; have := Int.emod_nonneg f (by omega : s ≠ 0); omega
  have b2 : Sl.al u s ≤ u := by rw [Sl.al_eq hs (by omega)]; have := Int.emod_nonneg u (by omega : s ≠ 0); omega
  have c1 : 0 ≤ Sl.al f s := by rw [e1]; exact Int.mul_nonneg (by omega) m1
  have c2 : 0 ≤ Sl.al u s := by rw [e2]; exact Int.mul_nonneg (by omega) (by omega)
  by_cases hc : Sl.al u s + s ≤ Sl.al f s + s
  · refine ⟨1, _, _, _, rfl, rfl, rfl, ?_, ?_, by omega, by omega, c1, by omega, ?_, c2, by omega⟩
    · unfold fin_; rw [if_pos hc]; simp
    · unfold fin_; rw [if_pos hc, show Sl.al f s + s + s - (Sl.al f s + s) = s by omega, Int.ediv_self (by omega)]; rfl
    · unfold fin_; rw [if_pos hc]; omega
  · have hlt : f / s < u / s := by
      apply Int.lt_of_not_ge
      intro hge
      have : u / s = f / s := by omega
      rw [e1, e2, this] at hc
      omega
    have hd : Sl.al u s + s - (Sl.al f s + s) = s * (u / s - f / s) := by rw [e1, e2, Int.mul_sub]; omega
    refine ⟨(u / s - f / s).toNat, _, _, _, rfl, rfl, rfl, ?_, ?_, by omega, by omega, c1, by omega, ?_, c2, by omega⟩
    · unfold fin_; rw [if_neg hc, Int.toNat_of_nonneg (by omega), Int.mul_comm]; omega
    · unfold fin_; rw [if_neg hc, hd, Int.mul_ediv_cancel_left _ (by omega)]
    · unfold fin_; rw [if_neg hc]; omega
theorem Hd.span_eq {h : Hd} (hv : h.val = true) : h.span = h.step (h.l.length - 1) * h.cnt (h.l.length - 1) := by
  have hv' : Wh.val h.ag h.xf h.l = true := hv
  unfold Hd.span Wh.spn
  rw [if_pos hv']
  rfl
theorem Hd.span_bd {h : Hd} (hv : h.val = true) : 1 ≤ h.span ∧ h.span ≤ 4294967295 := by
  have hl := Hd.len hv
  obtain ⟨⟨n1, _⟩, n3, _⟩ := Hd.nums hv (h.l.length - 1) (by omega)
  have e := Hd.span_eq hv
  constructor
  · rw [e]
    have := Int.mul_le_mul n1 n3 (by omega) (by omega)
    omega
  · obtain ⟨_, _, _, ha⟩ := Wh.val_t hv
    obtain ⟨a1, a2, a3, a4, a5⟩ := Wh.av_t ha
    rw [e]
    exact a5
theorem clip_bd {h : Hd} {now a b : Int} (hv : h.val = true) (h1 : 1 ≤ now) (ht : ¬ (b < a ∨ now < a ∨ b < 0 ∨ b < now - h.span)) : 0 ≤ clip h now a ∧ clip h now a ≤ min b now ∧ now - h.span ≤ clip h now a := by
  have := Hd.span_bd hv
  unfold clip
  omega
end Wp

/-- What Fetch hands back. -/
def Wp.Fetched (w : World) (n : List UInt8) (R : Option Se × Int) (e : Ending) (w' : World) : Prop :=
  ∃ v, e = .returned (.tuple #[v, .int .i64 R.2]) ∧ (R.1 = none → v = .agg #[.string ⟨#[]⟩, .int .i64 0, .int .i64 0, .slice none 0 0, .int .i64 0]) ∧ (∀ s, R.1 = some s → ∃ x, v = .agg #[.string ⟨n.toArray⟩, .int .i64 s.start, .int .i64 s.step, x, .int .i64 0] ∧ OwnV w.heap.size w' x s.vals) ∧ Below w.heap.size w w'
theorem Wp.Fetched.no {w w' : World} {n : List UInt8} {R : Option Se × Int} {k : Int} (hR : R = (none, k)) (hb : Below w.heap.size w w') : Fetched w n R (.returned (.tuple #[.agg #[.string ⟨#[]⟩, .int .i64 0, .int .i64 0, .slice none 0 0, .int .i64 0], .int .i64 k])) w' := by
  subst hR
  exact ⟨_, rfl, fun _ => rfl, fun s e => (by cases e), hb⟩
theorem below_set5 {B g : Nat} {w W : World} {a b c d e : Value} (h : Below B w W) (hg : B ≤ g) : Below B w (((((W.setCell ⟨g, 0, none⟩ a).setCell ⟨g, 1, none⟩ b).setCell ⟨g, 2, none⟩ c).setCell ⟨g, 3, none⟩ d).setCell ⟨g, 4, none⟩ e) :=
  Below.setCell (Below.setCell (Below.setCell (Below.setCell (Below.setCell h hg _) hg _) hg _) hg _) hg _
/-- The result's cell: untouched in every world that is reached above it. -/
theorem serCell (w : World) : Hid (∀ W, Below (w.heap.size + 1) (w.alloc (.cells #[.string ⟨#[]⟩, .int .i64 0, .int .i64 0, .slice none 0 0, .int .i64 0] 39)) W →
    (W.cell? ⟨w.heap.size, 0, none⟩ = some (.string ⟨#[]⟩) ∧ W.cell? ⟨w.heap.size, 1, none⟩ = some (.int .i64 0) ∧ W.cell? ⟨w.heap.size, 2, none⟩ = some (.int .i64 0) ∧ W.cell? ⟨w.heap.size, 3, none⟩ = some (.slice none 0 0) ∧ W.cell? ⟨w.heap.size, 4, none⟩ = some (.int .i64 0)) ∧
    (W.frozen? ⟨w.heap.size, 0, none⟩ = false ∧ W.frozen? ⟨w.heap.size, 1, none⟩ = false ∧ W.frozen? ⟨w.heap.size, 2, none⟩ = false ∧ W.frozen? ⟨w.heap.size, 3, none⟩ = false ∧ W.frozen? ⟨w.heap.size, 4, none⟩ = false) ∧ w.heap.size < W.heap.size) := Lib.hid fun W hb =>
  ⟨⟨(hb.cell (p := ⟨w.heap.size, 0, none⟩) (Nat.lt_succ_self _)).trans (by simp [go_sem]), (hb.cell (p := ⟨w.heap.size, 1, none⟩) (Nat.lt_succ_self _)).trans (by simp [go_sem]), (hb.cell (p := ⟨w.heap.size, 2, none⟩) (Nat.lt_succ_self _)).trans (by simp [go_sem]), (hb.cell (p := ⟨w.heap.size, 3, none⟩) (Nat.lt_succ_self _)).trans (by simp [go_sem]), (hb.cell (p := ⟨w.heap.size, 4, none⟩) (Nat.lt_succ_self _)).trans (by simp [go_sem])⟩,
    ⟨(hb.frozen (p := ⟨w.heap.size, 0, none⟩) (Nat.lt_succ_self _)).trans (by simp [go_sem]), (hb.frozen (p := ⟨w.heap.size, 1, none⟩) (Nat.lt_succ_self _)).trans (by simp [go_sem]), (hb.frozen (p := ⟨w.heap.size, 2, none⟩) (Nat.lt_succ_self _)).trans (by simp [go_sem]), (hb.frozen (p := ⟨w.heap.size, 3, none⟩) (Nat.lt_succ_self _)).trans (by simp [go_sem]), (hb.frozen (p := ⟨w.heap.size, 4, none⟩) (Nat.lt_succ_self _)).trans (by simp [go_sem])⟩, Nat.lt_of_lt_of_le (by simp) hb.size⟩

end Go.Proofs.YtbakngbmfgnmcaaDoor

namespace Go.Proofs.YtbakngbmfgnmcaaDoor
open Go.RowKit
open Fx (Vl)
namespace Wp
theorem times_max {f u s now c : Int} (hs : 1 ≤ s) (hf : 0 ≤ f) (hfu : f ≤ u) (hu : u ≤ now) (hc : 1 ≤ c) (hsp : now - f ≤ s * c) :
    max ((Sl.al u s + s - (Sl.al f s + s)) / s) 1 = ((((fin_ u s (Sl.al f s + s) - (Sl.al f s + s)) / s).toNat : Nat) : Int) ∧ ((((fin_ u s (Sl.al f s + s) - (Sl.al f s + s)) / s).toNat : Nat) : Int) ≤ c := by
  have e1 := Sl.al_mul hs hf
  have e2 := Sl.al_mul hs (by omega : 0 ≤ u)
  have m2 : f / s ≤ u / s := Int.ediv_le_ediv (by omega) hfu
  have hd : Sl.al u s + s - (Sl.al f s + s) = s * (u / s - f / s) := by rw [e1, e2, Int.mul_sub]; omega
  have hq : (Sl.al u s + s - (Sl.al f s + s)) / s = u / s - f / s := by rw [hd, Int.mul_ediv_cancel_left _ (by omega)]
  have hm : u / s - f / s ≤ c := by
    have h1 : u / s ≤ (f + s * c) / s := Int.ediv_le_ediv (by omega) (by omega)
    rw [Int.add_mul_ediv_left _ _ (by omega : s ≠ 0)] at h1
    omega
  unfold fin_
  by_cases hcc : Sl.al u s + s ≤ Sl.al f s + s
  · rw [if_pos hcc, show Sl.al f s + s + s - (Sl.al f s + s) = s by omega, Int.ediv_self (by omega), hq]
    have : u / s ≤ f / s := by
      apply Int.not_lt.1
      intro hlt
      have := Int.mul_lt_mul_of_pos_left hlt (by omega : 0 < s)
      omega
    constructor
    · show max _ 1 = (1 : Int); omega
    · show (1 : Int) ≤ c; omega
  · have hlt : f / s < u / s := by
      apply Int.lt_of_not_ge
      intro hge
      have : u / s = f / s := by omega
      rw [e1, e2, this] at hcc
      omega
    rw [if_neg hcc, hq, Int.toNat_of_nonneg (by omega)]
    omega
/-- What the program's search for an archive finds. -/
def find (h : Hd) (d : Int) : Int := match first h d h.l.length 0 with | none => -1 | some i => (i : Int)
theorem info_file {l : List Vf.Fl} {n : List UInt8} (h : (info l n).2 = 0) : ∃ B, Fits l n (info l n).1 B := by
  have hv := info_val h
  unfold info at h hv ⊢
  by_cases e : (Vf.size l n).2 ≠ 0
  · rw [if_pos e] at h; exact absurd h e
  rw [if_neg e] at h hv ⊢
  dsimp only at h hv ⊢
  obtain ⟨B, hB, hz⟩ := Vf.Has.of_size (by omega : (Vf.size l n).2 = 0)
  by_cases e2 : Wh.derr (Vf.read l n 0 (Vf.size l n).1).1 ≠ 0 ∨ (hdOf (Vf.read l n 0 (Vf.size l n).1).1).size ≠ (Vf.size l n).1
  · rw [if_pos e2] at h; cases h
  rw [if_neg e2] at hv ⊢
  refine ⟨B, hB, hv, ?_⟩
  rw [← hz]
  exact (Decidable.not_not.1 (fun e => e2 (.inr e))).symm
/-- Of a long file no more is read than a head has. -/
theorem info_short {l : List Vf.Fl} {n : List UInt8} (h : (Vf.size l n).2 = 0) : ∃ L, Vf.read l n 0 (min (Vf.size l n).1 112) = (L, 0) ∧ 0 ≤ (Vf.size l n).1 ∧ info l n = if Wh.derr L ≠ 0 ∨ (hdOf L).size ≠ (Vf.size l n).1 then (Hd.zero, 2) else (hdOf L, 0) := by
  obtain ⟨B, hB, hz⟩ := Vf.Has.of_size h
  refine ⟨B.take (min (Vf.size l n).1 112).toNat, ?_, by omega, ?_⟩
  · rw [hB.read_eq (by omega) (by omega) (by omega)]; rfl
  · have e : (Vf.read l n 0 (Vf.size l n).1).1 = B := by
      rw [hB.read_eq (by omega) (by omega) (by omega), hz]
      show (B.drop 0).take _ = B
      rw [List.drop_zero, Int.toNat_natCast, List.take_length]
    unfold info
    rw [if_neg (by omega)]
    dsimp only
    rw [e]
    by_cases hl : B.length ≤ 112
    · rw [show (min (Vf.size l n).1 112).toNat = B.length by omega, List.take_length]
    · rw [show (min (Vf.size l n).1 112).toNat = 112 by omega]
      obtain ⟨h1, h2, h3, h4⟩ := Wh.heads_take (L := B) (k := 112) (Nat.le_refl _)
      unfold hdOf
      rw [h1, h2, h3, h4]
end Wp
end Go.Proofs.YtbakngbmfgnmcaaDoor

namespace Go.Proofs.YtbakngbmfgnmcaaDoor
open Go.RowKit Go.Sort
open Fx (Vl)
open Me
open Wp

namespace Wp
/-- The first place that passes a test, or -1. -/
def seek (p : Nat → Bool) : Nat → Nat → Int
  | 0, _ => -1
  | m + 1, i => if p i = true then (i : Int) else seek p m (i + 1)
theorem seek_yes {p : Nat → Bool} {m i : Nat} (h : p i = true) : seek p (m + 1) i = (i : Int) := by unfold seek; rw [if_pos h]
theorem seek_no {p : Nat → Bool} {m i : Nat} (h : p i = false) : seek p (m + 1) i = seek p m (i + 1) := by
  conv => lhs; unfold seek
  rw [if_neg (by rw [h]; exact Bool.false_ne_true)]
theorem seek_none {p : Nat → Bool} : ∀ (m i : Nat), (∀ k, p k = false) → seek p m i = -1
  | 0, _, _ => rfl
  | m + 1, i, h => by rw [seek_no (h i)]; exact seek_none m (i + 1) h
theorem seek_first {h : Hd} {d : Int} : ∀ (m i : Nat), seek (fun k => decide (d < h.step k * h.cnt k)) m i = match first h d m i with | none => -1 | some j => (j : Int)
  | 0, _ => rfl
  | m + 1, i => by
    by_cases e : d < h.step i * h.cnt i
    · rw [seek_yes (by simpa using e), first_yes e]
    · rw [seek_no (by simpa using e), first_no e]
      exact seek_first m (i + 1)
end Wp

set_option maxHeartbeats 400000 in
theorem span_prog (s c m : Int) (hm : s * c = m) (hw : IntKind.i64.wrap m = m) (w : World) :
    Calls Tryd.prog 43 #[.agg #[.int .i64 s, .int .i64 c]] w fun e w' => e = .returned (.int .i64 m) ∧ Below w.heap.size w w' := by
  go_enter Tryd.func43, Tryd.ntmps43
  go_wp2_with fail
  go_ret
  exact ⟨by first | rfl | simp [hm, hw], (by repeat (first | exact Below.refl _ _ | assumption | refine Below.setCell ?_ (by first | (simp; done) | omega | (simp; omega) | (simp at *; omega)) _ | refine Below.alloc ?_ (by first | (simp; done) | omega | (simp; omega) | (simp at *; omega)) _ | refine Below.drew ?_ | (refine Below.trans ?_ (Below.mono (by assumption) (by first | (simp; done) | omega | (simp; omega) | (simp at *; omega)))) | (refine Below.trans ?_ (Below.mono (below_regrown _ _ _) (by first | (simp; done) | omega | (simp; omega) | (simp at *; omega))))))⟩

set_option maxHeartbeats 1000000 in
/-- The closure that asks whether an archive reaches so far back. -/
theorem reach_fn (sec s c m : Int) (hm : s * c = m) (hw : IntKind.i64.wrap m = m) (p : Nat) (w : World) (hp : w.cell? ⟨p, 0, none⟩ = some (.int .i64 sec)) (hpl : p < w.heap.size) :
    Calls Tryd.prog 42 #[.agg #[.int .i64 s, .int .i64 c], .pointer (some ⟨p, 0, none⟩)] w fun e w' => e = .returned (.bool (decide (sec ≤ m))) ∧ Below w.heap.size w w' := by
  have HS : Hid (∀ W, Calls Tryd.prog 43 #[.agg #[.int .i64 s, .int .i64 c]] W fun e w' => e = .returned (.int .i64 m) ∧ Below W.heap.size W w') := Lib.hid fun W => span_prog s c m hm hw W
  have hne : p ≠ w.heap.size := by omega
  have e1 : (w.alloc (.cells #[.int .i64 s, .int .i64 c] 24)).cell? ⟨p, 0, none⟩ = some (.int .i64 sec) := (((Below.refl _ w).alloc (Nat.le_refl _) _).cell (p := ⟨p, 0, none⟩) hpl).trans hp
  have e3 : (w.alloc (.cells #[.int .i64 s, .int .i64 c] 24)).cell? ⟨w.heap.size, 0, none⟩ = some (.int .i64 s) := (RowAt.new w _ _).cell 0
  have e4 : (w.alloc (.cells #[.int .i64 s, .int .i64 c] 24)).cell? ⟨w.heap.size, 1, none⟩ = some (.int .i64 c) := (RowAt.new w _ _).cell 1
  clear hm hp
  obtain ⟨q, hq⟩ : ∃ q, q = decide (sec ≤ m) := ⟨_, rfl⟩
  have HQ := Lib.hid hq
  rw [← hq]
  clear hq
  go_enter Tryd.func42, Tryd.ntmps42
  go_wp2_with fail
  go_region_held3 (fun W => W.cell? ⟨p, 0, none⟩ = some (.int .i64 sec) ∧ W.cell? ⟨w.heap.size, 0, none⟩ = some (.int .i64 s) ∧ W.cell? ⟨w.heap.size, 1, none⟩ = some (.int .i64 c)) (first | exact ⟨e1, e3, e4⟩ | exact ⟨f1, f3, f4⟩ | go_keep)
    (first | (go_at_call 43; (with_reducible refine (HS.out _).mono ?_); rintro e w2 ⟨rfl, hb2⟩; have f1 : w2.cell? ⟨p, 0, none⟩ = some (.int .i64 sec) := (hb2.cell (p := ⟨p, 0, none⟩) (by simp; omega)).trans e1; have f3 : w2.cell? ⟨w.heap.size, 0, none⟩ = some (.int .i64 s) := (hb2.cell (p := ⟨w.heap.size, 0, none⟩) (by simp)).trans e3; have f4 : w2.cell? ⟨w.heap.size, 1, none⟩ = some (.int .i64 c) := (hb2.cell (p := ⟨w.heap.size, 1, none⟩) (by simp)).trans e4; have HB2 : Hid (Below w.heap.size w w2) := Lib.hid (below_via hb2 (by repeat (first | exact Below.refl _ _ | assumption | refine Below.setCell ?_ (by first | (simp; done) | omega | (simp; omega) | (simp at *; omega)) _ | refine Below.alloc ?_ (by first | (simp; done) | omega | (simp; omega) | (simp at *; omega)) _ | refine Below.drew ?_ | refine below_drewN ?_ _ | (refine Below.trans ?_ (Below.mono (by assumption) (by first | (simp; done) | omega | (simp; omega) | (simp at *; omega)))) | (refine Below.trans ?_ (Below.mono (below_regrown _ _ _) (by first | (simp; done) | omega | (simp; omega) | (simp at *; omega))))))); clear hb2))
  all_goals go_wp2_with fail
  all_goals go_ret
  all_goals exact ⟨by rw [HQ.out]; rfl, HB2.out⟩

set_option maxHeartbeats 1000000 in
/-- The closure that asks whether an archive covers a time. -/
theorem cover_fn (at_ now s c m : Int) (hm : s * c = m) (hw : IntKind.i64.wrap m = m) (d : Int) (hd : now - at_ = d) (hwd : at_ ≤ now → IntKind.i64.wrap d = d) (p1 p2 : Nat) (w : World) (h1 : w.cell? ⟨p1, 0, none⟩ = some (.int .i64 at_)) (hl1 : p1 < w.heap.size) (h2 : w.cell? ⟨p2, 0, none⟩ = some (.int .i64 now)) (hl2 : p2 < w.heap.size) :
    Calls Tryd.prog 54 #[.agg #[.int .i64 s, .int .i64 c], .pointer (some ⟨p1, 0, none⟩), .pointer (some ⟨p2, 0, none⟩)] w fun e w' => e = .returned (.bool (decide (at_ ≤ now) && decide (d < m))) ∧ Below w.heap.size w w' := by
  have HS : Hid (∀ W, Calls Tryd.prog 43 #[.agg #[.int .i64 s, .int .i64 c]] W fun e w' => e = .returned (.int .i64 m) ∧ Below W.heap.size W w') := Lib.hid fun W => span_prog s c m hm hw W
  have hne1 : p1 ≠ w.heap.size := by omega
  have hne2 : p2 ≠ w.heap.size := by omega
  have hB : Below w.heap.size w (w.alloc (.cells #[.int .i64 s, .int .i64 c] 24)) := (Below.refl _ w).alloc (Nat.le_refl _) _
  have e1 : (w.alloc (.cells #[.int .i64 s, .int .i64 c] 24)).cell? ⟨p1, 0, none⟩ = some (.int .i64 at_) := (hB.cell (p := ⟨p1, 0, none⟩) hl1).trans h1
  have e2 : (w.alloc (.cells #[.int .i64 s, .int .i64 c] 24)).cell? ⟨p2, 0, none⟩ = some (.int .i64 now) := (hB.cell (p := ⟨p2, 0, none⟩) hl2).trans h2
  have e3 : (w.alloc (.cells #[.int .i64 s, .int .i64 c] 24)).cell? ⟨w.heap.size, 0, none⟩ = some (.int .i64 s) := (RowAt.new w _ _).cell 0
  have e4 : (w.alloc (.cells #[.int .i64 s, .int .i64 c] 24)).cell? ⟨w.heap.size, 1, none⟩ = some (.int .i64 c) := (RowAt.new w _ _).cell 1
  clear hm h1 h2
  by_cases hle : at_ ≤ now
  · have hwd' := hwd hle
    obtain ⟨q, hq⟩ : ∃ q, q = (decide (at_ ≤ now) && decide (d < m)) := ⟨_, rfl⟩
    have HQ : Hid (q = decide (d < m)) := Lib.hid (by rw [hq, decide_eq_true hle, Bool.true_and])
    rw [← hq]
    clear hq hwd
    go_enter Tryd.func54, Tryd.ntmps54
    go_wp2_with fail
    go_region_held3 (fun W => W.cell? ⟨p1, 0, none⟩ = some (.int .i64 at_) ∧ W.cell? ⟨p2, 0, none⟩ = some (.int .i64 now) ∧ W.cell? ⟨w.heap.size, 0, none⟩ = some (.int .i64 s) ∧ W.cell? ⟨w.heap.size, 1, none⟩ = some (.int .i64 c)) (first | exact ⟨e1, e2, e3, e4⟩ | exact ⟨f1, f2, f3, f4⟩ | go_keep)
      (first | (go_at_call 43; (with_reducible refine (HS.out _).mono ?_); rintro e w2 ⟨rfl, hb2⟩; have f1 : w2.cell? ⟨p1, 0, none⟩ = some (.int .i64 at_) := (hb2.cell (p := ⟨p1, 0, none⟩) (by simp; omega)).trans e1; have f2 : w2.cell? ⟨p2, 0, none⟩ = some (.int .i64 now) := (hb2.cell (p := ⟨p2, 0, none⟩) (by simp; omega)).trans e2; have f3 : w2.cell? ⟨w.heap.size, 0, none⟩ = some (.int .i64 s) := (hb2.cell (p := ⟨w.heap.size, 0, none⟩) (by simp)).trans e3; have f4 : w2.cell? ⟨w.heap.size, 1, none⟩ = some (.int .i64 c) := (hb2.cell (p := ⟨w.heap.size, 1, none⟩) (by simp)).trans e4; have HB2 : Hid (Below w.heap.size w w2) := Lib.hid (below_via hb2 (by repeat (first | exact Below.refl _ _ | assumption | refine Below.setCell ?_ (by first | (simp; done) | omega | (simp; omega) | (simp at *; omega)) _ | refine Below.alloc ?_ (by first | (simp; done) | omega | (simp; omega) | (simp at *; omega)) _ | refine Below.drew ?_ | refine below_drewN ?_ _ | (refine Below.trans ?_ (Below.mono (by assumption) (by first | (simp; done) | omega | (simp; omega) | (simp at *; omega)))) | (refine Below.trans ?_ (Below.mono (below_regrown _ _ _) (by first | (simp; done) | omega | (simp; omega) | (simp at *; omega))))))); clear hb2))
    all_goals go_wp2_with fail
    all_goals go_ret
    all_goals exact ⟨by rw [HQ.out]; rfl, HB2.out⟩
  · obtain ⟨q, hq⟩ : ∃ q, q = (decide (at_ ≤ now) && decide (d < m)) := ⟨_, rfl⟩
    have HQ : Hid (q = false) := Lib.hid (by rw [hq, decide_eq_false hle, Bool.false_and])
    rw [← hq]
    have hleb : decide (at_ ≤ now) = false := decide_eq_false hle
    have hXl1 : p1 < (w.alloc (.cells #[.int .i64 s, .int .i64 c] 24)).heap.size := by simp; omega
    have hXl2 : p2 < (w.alloc (.cells #[.int .i64 s, .int .i64 c] 24)).heap.size := by simp; omega
    have hB0 := hB
    clear hq hwd hB e3 e4
    go_enter Tryd.func54, Tryd.ntmps54
    go_wp2_with fail
    generalize w.alloc (.cells #[.int .i64 s, .int .i64 c] 24) = X at *
    refine Inv.region (fun W W' => Below W.heap.size W W') (fun i v W => match i with
      | 0 => v = .int .i64 at_
      | 1 => v = .int .i64 now
      | 2 => v = .bool false
      | 3 => v = .bool false
      | 4 => v = undef
      | 5 => v = undef
      | 6 => v = undef
      | 7 => v = undef
      | 8 => v = undef
      | 9 => v = undef
      | 10 => v = .bool false
      | 11 => v = .bool false
      | _ => True) (by kernel_rfl) (by kernel_rfl) (by kernel_rfl) (fun W => Below.refl _ _) (fun a b c h k => h.trans (k.mono h.size)) (fun i v W W' h he => ?stab) ?obls ?fin
    case stab =>
      match i, h with
      | 0, h => exact h
      | 1, h => exact h
      | 2, h => exact h
      | 3, h => exact h
      | 4, h => exact h
      | 5, h => exact h
      | 6, h => exact h
      | 7, h => exact h
      | 8, h => exact h
      | 9, h => exact h
      | 10, h => exact h
      | 11, h => exact h
      | _ + 12, h => exact h
    case obls =>
      refine .cons ?_ (.cons ?_ (.cons ?_ (.cons ?_ (.cons ?_ (.cons ?_ (.cons ?_ (.cons ?_ (.cons ?_ (.cons ?_ (.cons ?_ (.cons ?_ .nil)))))))))))
      · intro ac wx hE hf hd
        have hB : Below X.heap.size X wx := ⟨hE.os, hE.tape, hE.output, hE.size, hE.block⟩
        rw [if_pos (Inv.want0 rfl _)]
        have h1 : ac.eval (.tmp 1) = .pointer (some ⟨p1, 0, none⟩) := hf 1 (by kernel_rfl)
        clear hf hd
        have k1 := (hB.cell (p := ⟨p1, 0, none⟩) hXl1).trans e1
        have k2 := (hB.cell (p := ⟨p2, 0, none⟩) hXl2).trans e2
        refine Inv.val (.int .i64 at_) ?_ rfl rfl (Below.refl _ _)
        clear hE hB
        generalize ac.eval = ev at *
        simp [execOp, go_sem, *]
      · intro ac wx hE hf hd
        have hB : Below X.heap.size X wx := ⟨hE.os, hE.tape, hE.output, hE.size, hE.block⟩
        rw [if_pos (Inv.want0 rfl _)]
        have h2 : ac.eval (.tmp 2) = .pointer (some ⟨p2, 0, none⟩) := hf 2 (by kernel_rfl)
        clear hf hd
        have k1 := (hB.cell (p := ⟨p1, 0, none⟩) hXl1).trans e1
        have k2 := (hB.cell (p := ⟨p2, 0, none⟩) hXl2).trans e2
        refine Inv.val (.int .i64 now) ?_ rfl rfl (Below.refl _ _)
        clear hE hB
        generalize ac.eval = ev at *
        simp [execOp, go_sem, *]
      · intro ac wx hE hf hd
        have hB : Below X.heap.size X wx := ⟨hE.os, hE.tape, hE.output, hE.size, hE.block⟩
        rw [if_pos (Inv.want0 rfl _)]
        have h5 := hd 0 _ (by kernel_rfl) rfl
        change ac.eval (.tmp 5) = .int .i64 at_ at h5
        have h6 := hd 1 _ (by kernel_rfl) rfl
        change ac.eval (.tmp 6) = .int .i64 now at h6
        clear hf hd
        refine Inv.val (.bool false) ?_ rfl rfl (Below.refl _ _)
        clear hE hB
        generalize ac.eval = ev at *
        simp [execOp, go_sem, *]
      · intro ac wx hE hf hd
        have hB : Below X.heap.size X wx := ⟨hE.os, hE.tape, hE.output, hE.size, hE.block⟩
        rw [if_pos (Inv.want0 rfl _)]
        have h7 := hd 2 _ (by kernel_rfl) rfl
        change ac.eval (.tmp 7) = .bool false at h7
        clear hf hd
        have k1 := (hB.cell (p := ⟨p1, 0, none⟩) hXl1).trans e1
        have k2 := (hB.cell (p := ⟨p2, 0, none⟩) hXl2).trans e2
        refine Inv.val (.bool false) ?_ rfl rfl (Below.refl _ _)
        clear hE hB
        generalize ac.eval = ev at *
        simp [execOp, go_sem, *]
      · intro ac wx hE hf hd
        have hB : Below X.heap.size X wx := ⟨hE.os, hE.tape, hE.output, hE.size, hE.block⟩
        have hg := hd 3 _ (by kernel_rfl) rfl
        change ac.eval (.tmp 8) = .bool false at hg
        rw [if_neg (Inv.unwant (j := 3) (b := true) (c := false) (d := 8) rfl rfl rfl hg rfl)]
        all_goals exact rfl
      · intro ac wx hE hf hd
        have hB : Below X.heap.size X wx := ⟨hE.os, hE.tape, hE.output, hE.size, hE.block⟩
        have hg := hd 3 _ (by kernel_rfl) rfl
        change ac.eval (.tmp 8) = .bool false at hg
        rw [if_neg (Inv.unwant (j := 3) (b := true) (c := false) (d := 8) rfl rfl rfl hg rfl)]
        all_goals exact rfl
      · intro ac wx hE hf hd
        have hB : Below X.heap.size X wx := ⟨hE.os, hE.tape, hE.output, hE.size, hE.block⟩
        have hg := hd 3 _ (by kernel_rfl) rfl
        change ac.eval (.tmp 8) = .bool false at hg
        rw [if_neg (Inv.unwant (j := 3) (b := true) (c := false) (d := 8) rfl rfl rfl hg rfl)]
        all_goals exact rfl
      · intro ac wx hE hf hd
        have hB : Below X.heap.size X wx := ⟨hE.os, hE.tape, hE.output, hE.size, hE.block⟩
        have hg := hd 3 _ (by kernel_rfl) rfl
        change ac.eval (.tmp 8) = .bool false at hg
        rw [if_neg (Inv.unwant (j := 3) (b := true) (c := false) (d := 8) rfl rfl rfl hg rfl)]
        all_goals exact rfl
      · intro ac wx hE hf hd
        have hB : Below X.heap.size X wx := ⟨hE.os, hE.tape, hE.output, hE.size, hE.block⟩
        have hg := hd 3 _ (by kernel_rfl) rfl
        change ac.eval (.tmp 8) = .bool false at hg
        rw [if_neg (Inv.unwant (j := 3) (b := true) (c := false) (d := 8) rfl rfl rfl hg rfl)]
        all_goals exact rfl
      · intro ac wx hE hf hd
        have hB : Below X.heap.size X wx := ⟨hE.os, hE.tape, hE.output, hE.size, hE.block⟩
        have hg := hd 3 _ (by kernel_rfl) rfl
        change ac.eval (.tmp 8) = .bool false at hg
        rw [if_neg (Inv.unwant (j := 3) (b := true) (c := false) (d := 8) rfl rfl rfl hg rfl)]
        all_goals exact rfl
      · intro ac wx hE hf hd
        have hB : Below X.heap.size X wx := ⟨hE.os, hE.tape, hE.output, hE.size, hE.block⟩
        rw [if_pos (Inv.want0 rfl _)]
        have h8 := hd 3 _ (by kernel_rfl) rfl
        change ac.eval (.tmp 8) = .bool false at h8
        have h14 := hd 9 _ (by kernel_rfl) rfl
        change ac.eval (.tmp 14) = undef at h14
        clear hf hd
        have k1 := (hB.cell (p := ⟨p1, 0, none⟩) hXl1).trans e1
        have k2 := (hB.cell (p := ⟨p2, 0, none⟩) hXl2).trans e2
        refine Inv.val (.bool false) ?_ rfl rfl (Below.refl _ _)
        clear hE hB
        have hcst : ∀ v, ac.eval (.const v) = v := fun _ => rfl
        generalize ac.eval = ev at *
        simp [execOp, go_sem, *]
      · intro ac wx hE hf hd
        have hB : Below X.heap.size X wx := ⟨hE.os, hE.tape, hE.output, hE.size, hE.block⟩
        rw [if_pos (Inv.want0 rfl _)]
        have h15 := hd 10 _ (by kernel_rfl) rfl
        change ac.eval (.tmp 15) = .bool false at h15
        clear hf hd
        have k1 := (hB.cell (p := ⟨p1, 0, none⟩) hXl1).trans e1
        have k2 := (hB.cell (p := ⟨p2, 0, none⟩) hXl2).trans e2
        refine Inv.val (.bool false) ?_ rfl rfl (Below.refl _ _)
        clear hE hB
        generalize ac.eval = ev at *
        simp [execOp, go_sem, *]
    case fin =>
      intro ac wx hE ha hall
      have hB : Below X.heap.size X wx := ⟨hE.os, hE.tape, hE.output, hE.size, hE.block⟩
      have h5 := hall 0 _ rfl
      change ac.eval (.tmp 5) = .int .i64 at_ at h5
      have h6 := hall 1 _ rfl
      change ac.eval (.tmp 6) = .int .i64 now at h6
      have h7 := hall 2 _ rfl
      change ac.eval (.tmp 7) = .bool false at h7
      have h8 := hall 3 _ rfl
      change ac.eval (.tmp 8) = .bool false at h8
      have h9 := hall 4 _ rfl
      change ac.eval (.tmp 9) = undef at h9
      have h10 := hall 5 _ rfl
      change ac.eval (.tmp 10) = undef at h10
      have h11 := hall 6 _ rfl
      change ac.eval (.tmp 11) = undef at h11
      have h12 := hall 7 _ rfl
      change ac.eval (.tmp 12) = undef at h12
      have h13 := hall 8 _ rfl
      change ac.eval (.tmp 13) = undef at h13
      have h14 := hall 9 _ rfl
      change ac.eval (.tmp 14) = undef at h14
      have h15 := hall 10 _ rfl
      change ac.eval (.tmp 15) = .bool false at h15
      have h4 := hall 11 _ rfl
      change ac.eval (.tmp 4) = .bool false at h4
      simp only [List.foldl, Inv.slot, Act.put] at ha
      change ac.tmps.getD 5 undef = _ at h5
      change ac.tmps.getD 6 undef = _ at h6
      change ac.tmps.getD 7 undef = _ at h7
      change ac.tmps.getD 8 undef = _ at h8
      change ac.tmps.getD 9 undef = _ at h9
      change ac.tmps.getD 10 undef = _ at h10
      change ac.tmps.getD 11 undef = _ at h11
      change ac.tmps.getD 12 undef = _ at h12
      change ac.tmps.getD 13 undef = _ at h13
      change ac.tmps.getD 14 undef = _ at h14
      change ac.tmps.getD 15 undef = _ at h15
      change ac.tmps.getD 4 undef = _ at h4
      simp only [h5, h6, h7, h8, h9, h10, h11, h12, h13, h14, h15, h4, List.setIfInBounds_toArray, List.set_cons_zero, List.set_cons_succ] at ha
      clear h5 h6 h7 h8 h9 h10 h11 h12 h13 h14 h15 h4 hall hE
      subst ha
      go_wp2_with fail
      go_ret
      exact ⟨by rw [HQ.out]; rfl, hB0.trans (hB.mono hB0.size)⟩
end Go.Proofs.YtbakngbmfgnmcaaDoor

namespace Go.Proofs.YtbakngbmfgnmcaaDoor
open Go.RowKit Go.Sort
open Fx (Vl)
open Me
open Wp

set_option maxHeartbeats 1000000 in
theorem index_cover (l : List (Int × Int)) (A : Option Addr) (cap : Nat) (p1 p2 : Nat) (pr : Nat → Bool) (w : World) (hr : Row w A l cap) (h0 : 0 < l.length) (h8 : l.length ≤ 8)
    (hc : ∀ W i, i < l.length → Below w.heap.size w W → Calls Tryd.prog 54 #[.agg #[.int .i64 (Wh.At l i).1, .int .i64 (Wh.At l i).2], .pointer (some ⟨p1, 0, none⟩), .pointer (some ⟨p2, 0, none⟩)] W fun e w' => e = .returned (.bool (pr i)) ∧ Below W.heap.size W w') :
    Calls Tryd.prog 41 #[.slice A l.length cap, .func (.func 54) #[] #[.pointer (some ⟨p1, 0, none⟩), .pointer (some ⟨p2, 0, none⟩)]] w fun e w' => e = .returned (.int .i64 (seek pr l.length 0)) ∧ Below w.heap.size w w' := by
  have HR := Lib.hid hr
  have HC := Lib.hid hc
  have hlen : l.length ≤ cap := hr.1
  clear hr hc
  obtain ⟨N, hN⟩ : ∃ N, Hid (N = l.length) := ⟨_, Lib.hid rfl⟩
  have hN8 : N ≤ 8 := by rw [hN.out]; exact h8
  rw [← hN.out] at hlen ⊢
  obtain ⟨b, off, rfl, ha⟩ := HR.out.2 (by omega)
  have hbl := ha.lt
  have HA : Hid (∀ W i, i < N → Below w.heap.size w W → W.cell? ⟨b, off + i * 2, none⟩ = some (.int .i64 (Wh.At l i).1) ∧ W.cell? ⟨b, off + i * 2 + 1, none⟩ = some (.int .i64 (Wh.At l i).2) ∧ b < W.heap.size) := Lib.hid fun W i hi hb =>
    ⟨(hb.cell (p := ⟨b, off + i * 2, none⟩) hbl).trans (ha.st i (by rw [← hN.out]; exact hi)), (hb.cell (p := ⟨b, off + i * 2 + 1, none⟩) hbl).trans (ha.ct i (by rw [← hN.out]; exact hi)), Nat.lt_of_lt_of_le hbl hb.size⟩
  clear ha
  go_enter Tryd.func41, Tryd.ntmps41
  go_wp2_with fail
  go_loopw [5, 8] (fun _ u wr => ∃ i : Nat, i ≤ N ∧ u = .int .i64 i ∧ Hid (seek pr N 0 = seek pr (N - i) i) ∧ Below w.heap.size w wr) (fun _ u _ => N - (intOf u).toNat)
  case atStart => exact ⟨0, Nat.zero_le _, rfl, Lib.hid rfl, Below.refl _ _⟩
  case round =>
    obtain ⟨i, hi, rfl, HS, hbel⟩ := hrel
    have HB := Lib.hid hbel
    clear hbel
    by_cases hlt : i < N
    · have hiI : (i : Int) < (N : Int) := by omega
      have hi0 : (0 : Int) ≤ (i : Int) := by omega
      obtain ⟨s0, s1, hbw⟩ := HA.out wr i hlt HB.out
      have HCi := Lib.hid (HC.out wr i (by rw [← hN.out]; exact hlt) HB.out)
      obtain ⟨m, hm⟩ : ∃ m, N - i = m + 1 := ⟨N - i - 1, by omega⟩
      rw [hm] at HS
      have HM := Lib.hid hm
      clear hm
      generalize Wh.At l i = x at *
      obtain ⟨x1, x2⟩ := x
      cases hq : pr i with
      | true =>
        rw [hq] at HCi
        have HQ : Hid (seek pr N 0 = (i : Int)) := Lib.hid (by rw [HS.out, seek_yes hq])
        clear hq
        go_wp2_with (go_at_call 54; (with_reducible refine (HCi.out).mono ?_); rintro e w2 ⟨rfl, hb2⟩; have HB2 : Hid (Below w.heap.size w w2) := Lib.hid (below_via hb2 HB.out); clear hb2)
        go_ret
        exact ⟨by rw [HQ.out]; rfl, HB2.out⟩
      | false =>
        rw [hq] at HCi
        have HQ : Hid (seek pr N 0 = seek pr (N - (i + 1)) (i + 1)) := Lib.hid (by rw [HS.out, seek_no hq]; congr 1; have := HM.out; omega)
        clear hq
        go_wp2_with (go_at_call 54; (with_reducible refine (HCi.out).mono ?_); rintro e w2 ⟨rfl, hb2⟩; have HB2 : Hid (Below w.heap.size w w2) := Lib.hid (below_via hb2 HB.out); clear hb2)
        go_roundw
        case rel => exact ⟨i + 1, by omega, by go_num, HQ, HB2.out⟩
        case measure => simp [intOf]; omega
    · have hiN : i = N := by omega
      have hiI : ¬ (i : Int) < (N : Int) := by omega
      have HQ : Hid (seek pr N 0 = -1) := Lib.hid (by rw [HS.out, hiN, Nat.sub_self]; rfl)
      go_wp2_with fail
      go_ret
      exact ⟨by rw [HQ.out]; rfl, HB.out⟩

set_option maxHeartbeats 1000000 in
theorem index_reach (l : List (Int × Int)) (A : Option Addr) (cap : Nat) (p1 : Nat) (pr : Nat → Bool) (w : World) (hr : Row w A l cap) (h0 : 0 < l.length) (h8 : l.length ≤ 8)
    (hc : ∀ W i, i < l.length → Below w.heap.size w W → Calls Tryd.prog 42 #[.agg #[.int .i64 (Wh.At l i).1, .int .i64 (Wh.At l i).2], .pointer (some ⟨p1, 0, none⟩)] W fun e w' => e = .returned (.bool (pr i)) ∧ Below W.heap.size W w') :
    Calls Tryd.prog 41 #[.slice A l.length cap, .func (.func 42) #[] #[.pointer (some ⟨p1, 0, none⟩)]] w fun e w' => e = .returned (.int .i64 (seek pr l.length 0)) ∧ Below w.heap.size w w' := by
  have HR := Lib.hid hr
  have HC := Lib.hid hc
  have hlen : l.length ≤ cap := hr.1
  clear hr hc
  obtain ⟨N, hN⟩ : ∃ N, Hid (N = l.length) := ⟨_, Lib.hid rfl⟩
  have hN8 : N ≤ 8 := by rw [hN.out]; exact h8
  rw [← hN.out] at hlen ⊢
  obtain ⟨b, off, rfl, ha⟩ := HR.out.2 (by omega)
  have hbl := ha.lt
  have HA : Hid (∀ W i, i < N → Below w.heap.size w W → W.cell? ⟨b, off + i * 2, none⟩ = some (.int .i64 (Wh.At l i).1) ∧ W.cell? ⟨b, off + i * 2 + 1, none⟩ = some (.int .i64 (Wh.At l i).2) ∧ b < W.heap.size) := Lib.hid fun W i hi hb =>
    ⟨(hb.cell (p := ⟨b, off + i * 2, none⟩) hbl).trans (ha.st i (by rw [← hN.out]; exact hi)), (hb.cell (p := ⟨b, off + i * 2 + 1, none⟩) hbl).trans (ha.ct i (by rw [← hN.out]; exact hi)), Nat.lt_of_lt_of_le hbl hb.size⟩
  clear ha
  go_enter Tryd.func41, Tryd.ntmps41
  go_wp2_with fail
  go_loopw [5, 8] (fun _ u wr => ∃ i : Nat, i ≤ N ∧ u = .int .i64 i ∧ Hid (seek pr N 0 = seek pr (N - i) i) ∧ Below w.heap.size w wr) (fun _ u _ => N - (intOf u).toNat)
  case atStart => exact ⟨0, Nat.zero_le _, rfl, Lib.hid rfl, Below.refl _ _⟩
  case round =>
    obtain ⟨i, hi, rfl, HS, hbel⟩ := hrel
    have HB := Lib.hid hbel
    clear hbel
    by_cases hlt : i < N
    · have hiI : (i : Int) < (N : Int) := by omega
      have hi0 : (0 : Int) ≤ (i : Int) := by omega
      obtain ⟨s0, s1, hbw⟩ := HA.out wr i hlt HB.out
      have HCi := Lib.hid (HC.out wr i (by rw [← hN.out]; exact hlt) HB.out)
      obtain ⟨m, hm⟩ : ∃ m, N - i = m + 1 := ⟨N - i - 1, by omega⟩
      rw [hm] at HS
      have HM := Lib.hid hm
      clear hm
      generalize Wh.At l i = x at *
      obtain ⟨x1, x2⟩ := x
      cases hq : pr i with
      | true =>
        rw [hq] at HCi
        have HQ : Hid (seek pr N 0 = (i : Int)) := Lib.hid (by rw [HS.out, seek_yes hq])
        clear hq
        go_wp2_with (go_at_call 42; (with_reducible refine (HCi.out).mono ?_); rintro e w2 ⟨rfl, hb2⟩; have HB2 : Hid (Below w.heap.size w w2) := Lib.hid (below_via hb2 HB.out); clear hb2)
        go_ret
        exact ⟨by rw [HQ.out]; rfl, HB2.out⟩
      | false =>
        rw [hq] at HCi
        have HQ : Hid (seek pr N 0 = seek pr (N - (i + 1)) (i + 1)) := Lib.hid (by rw [HS.out, seek_no hq]; congr 1; have := HM.out; omega)
        clear hq
        go_wp2_with (go_at_call 42; (with_reducible refine (HCi.out).mono ?_); rintro e w2 ⟨rfl, hb2⟩; have HB2 : Hid (Below w.heap.size w w2) := Lib.hid (below_via hb2 HB.out); clear hb2)
        go_roundw
        case rel => exact ⟨i + 1, by omega, by go_num, HQ, HB2.out⟩
        case measure => simp [intOf]; omega
    · have hiN : i = N := by omega
      have hiI : ¬ (i : Int) < (N : Int) := by omega
      have HQ : Hid (seek pr N 0 = -1) := Lib.hid (by rw [HS.out, hiN, Nat.sub_self]; rfl)
      go_wp2_with fail
      go_ret
      exact ⟨by rw [HQ.out]; rfl, HB.out⟩

namespace Wp
/-- A header's file as a value of the program. -/
def fileV (h : Hd) (A : Option Addr) (cap fs : Nat) (n : List UInt8) : Value := .agg #[.int .i64 h.ag, .int .i64 h.xf, .slice A h.l.length cap, .pointer (some ⟨fs, 0, none⟩), .string ⟨n.toArray⟩]
theorem span_num {h : Hd} (hv : h.val = true) {i : Nat} (hi : i < h.l.length) : 0 ≤ h.step i * h.cnt i ∧ IntKind.i64.wrap (h.step i * h.cnt i) = h.step i * h.cnt i := by
  obtain ⟨⟨n1, n2⟩, n3, n4⟩ := Hd.nums hv i hi
  have h1 : 0 ≤ h.step i * h.cnt i := Int.mul_nonneg (by omega) (by omega)
  have h2 := Int.mul_le_mul n2 n4 (by omega) (by omega)
  exact ⟨h1, IntWalk.i64_in _ (by omega)⟩
end Wp

set_option maxHeartbeats 1000000 in
theorem covering_any {w : World} {fs : Nat} {n : List UInt8} {h : Hd} {A : Option Addr} {cap : Nat} (hr : Row w A h.l cap) (hv : h.val = true) (now t d : Int) (h1 : 1 ≤ t) (h2 : now ≤ 4294967295) (hd : now - t = d) :
    Calls Tryd.prog 37 #[fileV h A cap fs n, .int .i64 now, .int .i64 t] w fun e w' => e = .returned (.int .i64 (if t ≤ now then find h d else -1)) ∧ Below w.heap.size w w' := by
  have HIX : Hid (∀ (W : World) (p1 p2 : Nat), Below w.heap.size w W → W.cell? ⟨p1, 0, none⟩ = some (.int .i64 t) → p1 < W.heap.size → W.cell? ⟨p2, 0, none⟩ = some (.int .i64 now) → p2 < W.heap.size → Calls Tryd.prog 41 #[.slice A h.l.length cap, .func (.func 54) #[] #[.pointer (some ⟨p1, 0, none⟩), .pointer (some ⟨p2, 0, none⟩)]] W fun e w' => e = .returned (.int .i64 (seek (fun i => decide (t ≤ now) && decide (d < h.step i * h.cnt i)) h.l.length 0)) ∧ Below W.heap.size W w') := Lib.hid fun W p1 p2 hb c1 l1 c2 l2 =>
    index_cover h.l A cap p1 p2 _ W (hr.below hb) (by have := Hd.len hv; omega) (by have := Hd.len hv; omega) fun X i hi hbx => cover_fn t now _ _ _ rfl (span_num hv hi).2 d hd (fun hle => IntWalk.i64_in _ (by omega)) p1 p2 X ((hbx.cell (p := ⟨p1, 0, none⟩) l1).trans c1) (Nat.lt_of_lt_of_le l1 hbx.size) ((hbx.cell (p := ⟨p2, 0, none⟩) l2).trans c2) (Nat.lt_of_lt_of_le l2 hbx.size)
  obtain ⟨q, hq⟩ : ∃ q, q = seek (fun i => decide (t ≤ now) && decide (d < h.step i * h.cnt i)) h.l.length 0 := ⟨_, rfl⟩
  rw [← hq] at HIX
  have HQ : Hid (q = if t ≤ now then find h d else -1) := Lib.hid (by
    rw [hq]
    by_cases hle : t ≤ now
    · rw [if_pos hle, decide_eq_true hle]
      simp only [Bool.true_and]
      exact seek_first _ _
    · rw [if_neg hle, decide_eq_false hle]
      exact seek_none _ _ fun _ => by simp)
  clear hq hr
  rw [← HQ.out]
  unfold fileV
  generalize h.l.length = N at *
  generalize h.ag = ag at *
  generalize h.xf = xf at *
  go_enter Tryd.func37, Tryd.ntmps37
  go_wp2_with (go_at_call 41; (with_reducible refine (HIX.out _ _ _ (by repeat (first | exact Below.refl _ _ | assumption | refine Below.setCell ?_ (by first | (simp; done) | omega | (simp; omega) | (simp at *; omega)) _ | refine Below.alloc ?_ (by first | (simp; done) | omega | (simp; omega) | (simp at *; omega)) _ | refine Below.drew ?_ | (refine Below.trans ?_ (Below.mono (by assumption) (by first | (simp; done) | omega | (simp; omega) | (simp at *; omega)))) | (refine Below.trans ?_ (Below.mono (below_regrown _ _ _) (by first | (simp; done) | omega | (simp; omega) | (simp at *; omega)))))) (by simp [go_sem]) (by simp) (by simp [go_sem]) (by simp)).mono ?_); rintro e w2 ⟨rfl, hb2⟩)
  go_ret
  exact ⟨rfl, (by repeat (first | exact Below.refl _ _ | assumption | refine Below.setCell ?_ (by first | (simp; done) | omega | (simp; omega) | (simp at *; omega)) _ | refine Below.alloc ?_ (by first | (simp; done) | omega | (simp; omega) | (simp at *; omega)) _ | refine Below.drew ?_ | (refine Below.trans ?_ (Below.mono (by assumption) (by first | (simp; done) | omega | (simp; omega) | (simp at *; omega)))) | (refine Below.trans ?_ (Below.mono (below_regrown _ _ _) (by first | (simp; done) | omega | (simp; omega) | (simp at *; omega))))))⟩

set_option maxHeartbeats 1000000 in
theorem reaching_any {w : World} {fs : Nat} {n : List UInt8} {h : Hd} {A : Option Addr} {cap : Nat} (hr : Row w A h.l cap) (hv : h.val = true) (sec : Int) :
    Calls Tryd.prog 18 #[fileV h A cap fs n, .int .i64 sec] w fun e w' => e = .returned (.int .i64 (find h (sec - 1))) ∧ Below w.heap.size w w' := by
  have HIX : Hid (∀ (W : World) (p1 : Nat), Below w.heap.size w W → W.cell? ⟨p1, 0, none⟩ = some (.int .i64 sec) → p1 < W.heap.size → Calls Tryd.prog 41 #[.slice A h.l.length cap, .func (.func 42) #[] #[.pointer (some ⟨p1, 0, none⟩)]] W fun e w' => e = .returned (.int .i64 (seek (fun i => decide (sec ≤ h.step i * h.cnt i)) h.l.length 0)) ∧ Below W.heap.size W w') := Lib.hid fun W p1 hb c1 l1 =>
    index_reach h.l A cap p1 _ W (hr.below hb) (by have := Hd.len hv; omega) (by have := Hd.len hv; omega) fun X i hi hbx => reach_fn sec _ _ _ rfl (span_num hv hi).2 p1 X ((hbx.cell (p := ⟨p1, 0, none⟩) l1).trans c1) (Nat.lt_of_lt_of_le l1 hbx.size)
  obtain ⟨q, hq⟩ : ∃ q, q = seek (fun i => decide (sec ≤ h.step i * h.cnt i)) h.l.length 0 := ⟨_, rfl⟩
  rw [← hq] at HIX
  have HQ : Hid (q = find h (sec - 1)) := Lib.hid (by
    rw [hq]
    have e : (fun i => decide (sec ≤ h.step i * h.cnt i)) = fun i => decide (sec - 1 < h.step i * h.cnt i) := funext fun i => by
      rw [Bool.eq_iff_iff]; simp only [decide_eq_true_eq]; omega
    rw [e]
    exact seek_first _ _)
  clear hq hr
  rw [← HQ.out]
  unfold fileV
  generalize h.l.length = N at *
  generalize h.ag = ag at *
  generalize h.xf = xf at *
  go_enter Tryd.func18, Tryd.ntmps18
  go_wp2_with (go_at_call 41; (with_reducible refine (HIX.out _ _ (by repeat (first | exact Below.refl _ _ | assumption | refine Below.setCell ?_ (by first | (simp; done) | omega | (simp; omega) | (simp at *; omega)) _ | refine Below.alloc ?_ (by first | (simp; done) | omega | (simp; omega) | (simp at *; omega)) _ | refine Below.drew ?_ | (refine Below.trans ?_ (Below.mono (by assumption) (by first | (simp; done) | omega | (simp; omega) | (simp at *; omega)))) | (refine Below.trans ?_ (Below.mono (below_regrown _ _ _) (by first | (simp; done) | omega | (simp; omega) | (simp at *; omega)))))) (by simp [go_sem]) (by simp)).mono ?_); rintro e w2 ⟨rfl, hb2⟩)
  go_ret
  exact ⟨rfl, (by repeat (first | exact Below.refl _ _ | assumption | refine Below.setCell ?_ (by first | (simp; done) | omega | (simp; omega) | (simp at *; omega)) _ | refine Below.alloc ?_ (by first | (simp; done) | omega | (simp; omega) | (simp at *; omega)) _ | refine Below.drew ?_ | (refine Below.trans ?_ (Below.mono (by assumption) (by first | (simp; done) | omega | (simp; omega) | (simp at *; omega)))) | (refine Below.trans ?_ (Below.mono (below_regrown _ _ _) (by first | (simp; done) | omega | (simp; omega) | (simp at *; omega))))))⟩
end Go.Proofs.YtbakngbmfgnmcaaDoor
