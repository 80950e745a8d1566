/-
  WsKf: CONTRACTS: chapter 7's law of what is kept: the walk behind its conditions.
  WsKx: CONTRACTS: chapter 7's laws: the program's files beside rows of the law's own; rows of ints.
  AgBet: THE PLAIN MATHEMATICS of agg's last two laws: the mean lies between the least and the greatest; in whatever order, the sum, the mean, the greatest and the least are the same.
  WrRoll: PLAIN: chapter 7's law of what rolls on: points that fill a slot of the next archive. No program is named here.
  WrUp: PLAIN: chapter 7's law of what rolls on: the file behind each point, and what is fetched of it. No program is named here.
-/
import Derived.Test.YtbakngbmfgnmcaaDoorJ23
import Derived.Test.YtbakngbmfgnmcaaDoorJ4
import Derived.Test.YtbakngbmfgnmcaaDoorJ12
import Derived.Test.YtbakngbmfgnmcaaDoorJ7

namespace Go.Proofs.YtbakngbmfgnmcaaDoor
open Go.RowKit Go.Sort
open Fx (Vl)
open Me
open Wp
open Ws

theorem Ws.Kw.base {w0 W : World} {fs c : Nat} {S : Vf.Sv} (h : Kw w0 fs c S W) : Below w0.heap.size w0 W := by
  obtain ⟨h1, _⟩ := h
  exact h1
theorem Ws.Kw.fetch {w0 W : World} {fs c : Nat} {S : Vf.Sv} (h : Kw w0 fs c S W) (n : List UInt8) (hnl : n.length ≤ 1048576) (now from_ until_ : Int) :
    Calls Tryd.prog 7 #[.pointer (some ⟨fs, 0, none⟩), .string ⟨n.toArray⟩, .int .i64 now, .int .i64 from_, .int .i64 until_] W (Fetched W n (Wp.fetch S.now n now from_ until_)) := by
  obtain ⟨_, V, h2, _⟩ := h
  exact fetch_any7 h2 n hnl now from_ until_
/-- One point's update in a file that stands. -/
theorem Ws.Kw.one {w0 W : World} {fs c : Nat} {S : Vf.Sv} (h : Kw w0 fs c S W) (hg : Gv w0) (now a v : Int) (hc : c ≤ 490000) :
    Calls Tryd.prog 6 #[.pointer (some ⟨fs, 0, none⟩), .string ⟨#[97]⟩, .int .i64 now, .slice (some ⟨W.heap.size, 0, none⟩) 1 1] (W.alloc (.cells #[.int .i64 a, .int .i64 v] 36)) fun e w' => e = .returned (.tuple #[.int .i64 (Wp.update S [97] now [(a, v)]).2.1, .int .i64 (Wp.update S [97] now [(a, v)]).2.2]) ∧ Hid (Kw w0 fs (c + 27) (Wp.update S [97] now [(a, v)]).1 w') := by
  have hb : Below W.heap.size W (W.alloc (.cells #[.int .i64 a, .int .i64 v] 36)) := (Below.refl _ _).alloc (Nat.le_refl _) _
  have hr : RowAt (W.alloc (.cells #[.int .i64 a, .int .i64 v] 36)) W.heap.size 36 #[.int .i64 a, .int .i64 v] := RowAt.new W _ _
  have hrow : Row (W.alloc (.cells #[.int .i64 a, .int .i64 v] 36)) (some ⟨W.heap.size, 0, none⟩) [(a, v)] 1 := by
    refine ⟨Nat.le_refl _, fun _ => ⟨_, _, rfl, ⟨hr.lt, ?_, ?_⟩⟩⟩
    · intro i hi
      match i, hi with
      | 0, _ => exact hr.cell 0
    · intro i hi
      match i, hi with
      | 0, _ => exact hr.cell 1
  exact h.update hg hb [97] now [(a, v)] (some ⟨W.heap.size, 0, none⟩) 1 hrow (fun x e => by injection e with e; subst e; exact .inr ⟨Nat.le_refl _, by simp⟩) (by simp; omega)

end Go.Proofs.YtbakngbmfgnmcaaDoor

namespace Go.Proofs.YtbakngbmfgnmcaaDoor
open Go.RowKit Go.Sort
open Fx (Vl)
open Me
open Wp

/-- Ints as cells. -/
def iv (l : List Int) : List Value := l.map fun n => .int .i64 n
theorem iv_len (l : List Int) : (iv l).length = l.length := by unfold iv; simp
theorem iv_append (a b : List Int) : iv (a ++ b) = iv a ++ iv b := by unfold iv; simp
theorem iv_get (l : List Int) (j : Nat) (h : j < l.length) : (iv l)[j]? = some (.int .i64 l[j]) := by unfold iv; simp [h]
/-- A row of ints of the call's own. -/
def OwnZ (base : Nat) (w : World) (v : Value) (l : List Int) : Prop := w.ownsRow base 3 1 v l.length (iv l)
theorem OwnZ.nil (a : Nat) (w : World) : OwnZ a w (.slice none 0 0) [] := ⟨rfl, .inl ⟨rfl, rfl⟩⟩
theorem OwnZ.lt {base : Nat} {w : World} {v : Value} {l : List Int} (h : OwnZ base w v l) : ∀ g, v.ownBlock = some g → base ≤ g ∧ g < w.heap.size := World.ownsRow.lt h
theorem OwnZ.kp {a : Nat} {w w' : World} {v : Value} {l : List Int} {O : Nat → Prop} (h : OwnZ a w v l) (k : Kp O w w') (hO : ∀ g, v.ownBlock = some g → ¬ O g) : OwnZ a w' v l :=
  owns_keep h fun g hg => k.block g (h.lt g hg).2 (hO g hg)
theorem OwnZ.below {a : Nat} {w w' : World} {v : Value} {l : List Int} (h : OwnZ a w v l) (k : Below w.heap.size w w') : OwnZ a w' v l :=
  owns_keep h fun g hg => k.block g (h.lt g hg).2
theorem OwnZ.slice {base : Nat} {w : World} {v : Value} {l : List Int} (h : OwnZ base w v l) : ∃ A c, v = .slice A l.length c := by
  rcases h.2 with ⟨rfl, h0⟩ | ⟨g', cap, cur, rfl, _⟩
  · exact ⟨none, 0, by rw [h0]⟩
  · exact ⟨_, _, rfl⟩
theorem OwnZ.more {base : Nat} {w2 : World} {v2 : Value} {D : List Int} {p : Int} (h : w2.ownsRow base 3 1 v2 (D.length + 1) (iv D ++ [.int .i64 p])) : OwnZ base w2 v2 (D ++ [p]) := by
  unfold OwnZ
  rw [List.length_append, List.length_singleton, iv_append]
  exact h
theorem OwnZ.form {base : Nat} {w : World} {v : Value} {l : List Int} (h : OwnZ base w v l) (hl : 0 < l.length) : ∃ g c, v = .slice (some ⟨g, 0, none⟩) l.length c := by
  rcases h.2 with ⟨_, h0⟩ | ⟨g', cap, cur, rfl, _⟩
  · omega
  · exact ⟨_, _, rfl⟩
theorem OwnZ.cell {base : Nat} {w : World} {g n c : Nat} {l : List Int} (h : OwnZ base w (.slice (some ⟨g, 0, none⟩) n c) l) (k : Nat) (hk : k < l.length) : w.cell? ⟨g, k, none⟩ = some (.int .i64 l[k]) := by
  obtain ⟨h1, h2⟩ := h
  rcases h2 with ⟨h', _⟩ | ⟨g', cap', cur, h', hb, hg, hnc, hcm, hcs, ht⟩
  · simp at h'
  · simp only [Value.slice.injEq, Option.some.injEq, Addr.mk.injEq, and_true] at h'
    obtain ⟨rfl, rfl, rfl⟩ := h'
    rw [cell_of_row w g k cur 3 (0, 0) hg, ← iv_get l k hk, show iv l = _ from ht.symm, List.getElem?_take, if_pos (by omega)]
    simp
theorem intinfoZ : (Tryd.prog.info? 3).map (fun i => (i.zero, i.size, i.bytes)) = some (some (.int .i64 0), 1, 8) := by kernel_rfl

theorem Wp.PO.kpadd {w w' : World} {V V' O : Nat → Prop} {fs c : Nat} {S : Vf.Sv} (h : PO w V fs c S) (k : Kp O w w') (hO : ∀ i, O i → V i) (hV : ∀ i, V' i → V i ∨ (w.heap.size ≤ i ∧ i < w'.heap.size)) : PO w' V' fs c S := by
  obtain ⟨M, h1, h2, h3⟩ := h
  refine ⟨_, (PO.tight h1).kp k (fun i ho hi => (h3 i (hO i ho)).2 hi.1), h2, fun i hi => ?_⟩
  rcases hV i hi with hv | ⟨ha, hb⟩
  · exact ⟨Nat.lt_of_lt_of_le (h3 i hv).1 k.size, fun hm => (h3 i hv).2 hm.1⟩
  · exact ⟨hb, fun hm => by have := hm.2; omega⟩

/-- The program's files in blocks behind w0's; w0's own blocks are as they were; and the blocks of Q are none of the files'. -/
def Ws.Kx (w0 : World) (fs c : Nat) (S : Vf.Sv) (Q : Nat → Prop) (W : World) : Prop := Below w0.heap.size w0 W ∧ ∃ V, PO W V fs c S ∧ (∀ b, b < w0.heap.size → V b) ∧ ∀ b, Q b → V b
open Ws
theorem Ws.Kw.kx {w0 W : World} {fs c : Nat} {S : Vf.Sv} (h : Kw w0 fs c S W) : Kx w0 fs c S (fun _ => False) W := by
  obtain ⟨h1, V, h2, h3⟩ := h
  exact ⟨h1, V, h2, h3, fun _ h => h.elim⟩
theorem Ws.Kx.base {w0 W : World} {fs c : Nat} {S : Vf.Sv} {Q : Nat → Prop} (h : Kx w0 fs c S Q W) : Below w0.heap.size w0 W := by
  obtain ⟨h1, _⟩ := h
  exact h1
theorem Ws.Kx.kw {w0 W : World} {fs c : Nat} {S : Vf.Sv} {Q : Nat → Prop} (h : Kx w0 fs c S Q W) : Kw w0 fs c S W := by
  obtain ⟨h1, V, h2, h3, _⟩ := h
  exact ⟨h1, V, h2, h3⟩
/-- What the law writes into rows of its own. -/
theorem Ws.Kx.wrote {w0 W W' : World} {fs c : Nat} {S : Vf.Sv} {Q Q' O : Nat → Prop} (h : Kx w0 fs c S Q W) (k : Kp O W W') (hO : ∀ i, O i → Q i ∧ w0.heap.size ≤ i) (hQ : ∀ i, Q' i → Q i ∨ (W.heap.size ≤ i ∧ i < W'.heap.size)) : Kx w0 fs c S Q' W' := by
  obtain ⟨h1, V, h2, h3, h4⟩ := h
  refine ⟨h1.trans (k.below h1.size (fun i hi ho => by have := (hO i ho).2; omega)), fun i => V i ∨ (W.heap.size ≤ i ∧ i < W'.heap.size), h2.kpadd k (fun i hi => h4 i (hO i hi).1) (fun i hi => hi), fun b hb => .inl (h3 b hb), fun b hb => ?_⟩
  rcases hQ b hb with h | h
  · exact .inl (h4 b h)
  · exact .inr h
/-- One point's update; the rows of the law's own stay. -/
theorem Ws.Kx.one {w0 W : World} {fs c : Nat} {S : Vf.Sv} {Q : Nat → Prop} (h : Kx w0 fs c S Q W) (hg : Gv w0) (now a v : Int) (hc : c ≤ 490000) :
    Calls Tryd.prog 6 #[.pointer (some ⟨fs, 0, none⟩), .string ⟨#[97]⟩, .int .i64 now, .slice (some ⟨W.heap.size, 0, none⟩) 1 1] (W.alloc (.cells #[.int .i64 a, .int .i64 v] 36)) fun e w' => e = .returned (.tuple #[.int .i64 (Wp.update S [97] now [(a, v)]).2.1, .int .i64 (Wp.update S [97] now [(a, v)]).2.2]) ∧ Hid (Kx w0 fs (c + 27) (Wp.update S [97] now [(a, v)]).1 Q w') ∧ Hid (Kp (fun b => ¬ Q b) W w') := by
  obtain ⟨h1, V, h2, h3, h4⟩ := h
  have hb : Below W.heap.size W (W.alloc (.cells #[.int .i64 a, .int .i64 v] 36)) := (Below.refl _ _).alloc (Nat.le_refl _) _
  have hr : RowAt (W.alloc (.cells #[.int .i64 a, .int .i64 v] 36)) W.heap.size 36 #[.int .i64 a, .int .i64 v] := RowAt.new W _ _
  have hrow : Row (W.alloc (.cells #[.int .i64 a, .int .i64 v] 36)) (some ⟨W.heap.size, 0, none⟩) [(a, v)] 1 := by
    refine ⟨Nat.le_refl _, fun _ => ⟨_, _, rfl, ⟨hr.lt, ?_, ?_⟩⟩⟩
    · intro i hi
      match i, hi with
      | 0, _ => exact hr.cell 0
    · intro i hi
      match i, hi with
      | 0, _ => exact hr.cell 1
  have hsz : (W.alloc (.cells #[.int .i64 a, .int .i64 v] 36)).heap.size = W.heap.size + 1 := by simp
  have h5 : Below w0.heap.size w0 (W.alloc (.cells #[.int .i64 a, .int .i64 v] 36)) := h1.trans (hb.mono h1.size)
  generalize hW1 : W.alloc (.cells #[.int .i64 a, .int .i64 v] 36) = W1 at *
  refine (update_any7 (V := fun i => V i ∨ (W.heap.size ≤ i ∧ i < W1.heap.size)) (h2.add hb (fun i hi => hi)) (hg.below h5) (.inl (h3 0 hg.lt)) [97] now [(a, v)] (some ⟨W.heap.size, 0, none⟩) 1 hrow (fun x e => by injection e with e; subst e; exact .inr ⟨Nat.le_refl _, by show W.heap.size < _; omega⟩) (by simp; omega)).mono ?_
  rintro e w' ⟨rfl, p, k⟩
  refine ⟨rfl, Lib.hid ⟨h5.trans (k.below h5.size (fun i hi ho => ho (.inl (h3 i hi)))), V, p.more (Nat.le_refl _) (fun i hi => .inl hi), h3, h4⟩, Lib.hid ?_⟩
  exact (Kp.of_below (O := fun b => ¬ Q b) hb).trans (k.mono (O' := fun b => ¬ Q b) fun i _ ho hq => ho (.inl (h4 i hq))) (fun i _ h => h)
end Go.Proofs.YtbakngbmfgnmcaaDoor

namespace Go.Proofs.YtbakngbmfgnmcaaDoor
open Go.RowKit
open Fx (Vl)
namespace Ag

def total (k : List Vl) : Int := match k with | [] => 0 | v :: k => v.n + total k
theorem total_append (k m : List Vl) : total (k ++ m) = total k + total m := by
  induction k with
  | nil => simp [total]
  | cons v k ih => simp only [List.cons_append, total, ih]; omega
theorem total_reverse (k : List Vl) : total k.reverse = total k := by
  induction k with
  | nil => rfl
  | cons v k ih => rw [List.reverse_cons, total_append, ih]; simp only [total]; omega
theorem total_ge (k : List Vl) (a : Int) (h : ∀ v ∈ k, a ≤ v.n) : a * (k.length : Int) ≤ total k := by
  induction k with
  | nil => simp [total]
  | cons v k ih =>
    have h1 := h v List.mem_cons_self
    have h2 := ih fun u hu => h u (List.mem_cons_of_mem _ hu)
    simp only [total, List.length_cons, Int.natCast_add, Int.mul_add, Int.natCast_one, Int.mul_one]
    omega
theorem total_le (k : List Vl) (a : Int) (h : ∀ v ∈ k, v.n ≤ a) : total k ≤ a * (k.length : Int) := by
  induction k with
  | nil => simp [total]
  | cons v k ih =>
    have h1 := h v List.mem_cons_self
    have h2 := ih fun u hu => h u (List.mem_cons_of_mem _ hu)
    simp only [total, List.length_cons, Int.natCast_add, Int.mul_add, Int.natCast_one, Int.mul_one]
    omega

theorem num_eta {v : Vl} (h : Fx.num v = true) : v = ⟨true, v.n⟩ ∧ Fx.inR v.n = true := by
  obtain ⟨o, n⟩ := v
  cases o
  · cases h
  · exact ⟨rfl, h⟩
theorem foldl_none (k : List Vl) : k.foldl Fx.plus Fx.none = Fx.none := by
  induction k with
  | nil => rfl
  | cons v k ih => rw [List.foldl_cons, Fx.plus_no1 (a := Fx.none) rfl, ih]
theorem foldl_cases (k : List Vl) : ∀ s : Vl, (∀ v ∈ k, Fx.num v = true) → Fx.num s = true → k.foldl Fx.plus s = Fx.none ∨ (k.foldl Fx.plus s = ⟨true, s.n + total k⟩ ∧ Fx.inR (s.n + total k) = true) := by
  induction k with
  | nil =>
    intro s _ hs
    obtain ⟨e, hr⟩ := num_eta hs
    right
    simp only [total, Int.add_zero, List.foldl_nil]
    exact ⟨e, hr⟩
  | cons v k ih =>
    intro s hk hs
    rw [List.foldl_cons, Fx.plus_yes hs (hk v List.mem_cons_self)]
    cases hr : Fx.inR (s.n + v.n)
    · rw [Fx.of_no hr]; exact .inl (foldl_none k)
    · rw [Fx.of_yes hr]
      have := ih ⟨true, s.n + v.n⟩ (fun u hu => hk u (List.mem_cons_of_mem _ hu)) (Fx.num_yes hr)
      simp only [total]
      rw [← Int.add_assoc]
      exact this
theorem sum_cases (k : List Vl) (hk : ∀ v ∈ k, Fx.num v = true) : sum k = Fx.none ∨ (sum k = ⟨true, total k⟩ ∧ Fx.inR (total k) = true) := by
  have h := foldl_cases k ⟨true, 0⟩ hk (by rfl)
  simp only [Int.zero_add] at h
  exact h
theorem foldl_small (k : List Vl) : ∀ s : Vl, (∀ v ∈ k, Fx.num v = true ∧ -1125899906842624 ≤ v.n ∧ v.n ≤ 1125899906842624) → Fx.num s = true → ∀ B : Int, -B ≤ s.n → s.n ≤ B → B + (k.length : Int) * 1125899906842624 ≤ 4611686018427387904 → k.foldl Fx.plus s = ⟨true, s.n + total k⟩ := by
  induction k with
  | nil =>
    intro s _ hs B _ _ _
    simp only [total, Int.add_zero, List.foldl_nil]
    exact (num_eta hs).1
  | cons v k ih =>
    intro s hk hs B h1 h2 h3
    obtain ⟨hv, v1, v2⟩ := hk v List.mem_cons_self
    simp only [List.length_cons, Int.natCast_add, Int.natCast_one, Int.add_mul, Int.one_mul] at h3
    have hl : (0 : Int) ≤ (k.length : Int) * 1125899906842624 := by omega
    have hr : Fx.inR (s.n + v.n) = true := Fx.inR_yes (by omega) (by omega)
    rw [List.foldl_cons, Fx.plus_yes hs hv, Fx.of_yes hr]
    have := ih ⟨true, s.n + v.n⟩ (fun u hu => hk u (List.mem_cons_of_mem _ hu)) (Fx.num_yes hr) (B + 1125899906842624) (by show -(B + 1125899906842624) ≤ s.n + v.n; omega) (by show s.n + v.n ≤ B + 1125899906842624; omega) (by omega)
    rw [this]
    simp only [total, Int.add_assoc]
theorem sum_small (k : List Vl) (hk : ∀ v ∈ k, Fx.num v = true ∧ -1125899906842624 ≤ v.n ∧ v.n ≤ 1125899906842624) (hl : k.length ≤ 200) : sum k = ⟨true, total k⟩ := by
  have h := foldl_small k ⟨true, 0⟩ hk (by rfl) 0 (by simp) (by simp) (by omega)
  simp only [Int.zero_add] at h
  exact h

theorem mx_fold (r : List Vl) : ∀ x : Vl, (∀ v ∈ x :: r, v.n ≤ (r.foldl mx1 x).n) ∧ r.foldl mx1 x ∈ x :: r := by
  induction r with
  | nil => intro x; simp
  | cons y r ih =>
    intro x
    rw [List.foldl_cons]
    obtain ⟨h1, h2⟩ := ih (mx1 x y)
    have hx : x.n ≤ (mx1 x y).n ∧ y.n ≤ (mx1 x y).n := by unfold mx1; split <;> omega
    have h0 := h1 (mx1 x y) List.mem_cons_self
    refine ⟨fun v hv => ?_, ?_⟩
    · rcases List.mem_cons.1 hv with rfl | hv
      · omega
      · rcases List.mem_cons.1 hv with rfl | hv
        · omega
        · exact h1 v (List.mem_cons_of_mem _ hv)
    · rcases List.mem_cons.1 h2 with e | h
      · rw [e]; unfold mx1; split
        · exact List.mem_cons_of_mem _ List.mem_cons_self
        · exact List.mem_cons_self
      · exact List.mem_cons_of_mem _ (List.mem_cons_of_mem _ h)
theorem mn_fold (r : List Vl) : ∀ x : Vl, (∀ v ∈ x :: r, (r.foldl mn1 x).n ≤ v.n) ∧ r.foldl mn1 x ∈ x :: r := by
  induction r with
  | nil => intro x; simp
  | cons y r ih =>
    intro x
    rw [List.foldl_cons]
    obtain ⟨h1, h2⟩ := ih (mn1 x y)
    have hx : (mn1 x y).n ≤ x.n ∧ (mn1 x y).n ≤ y.n := by unfold mn1; split <;> omega
    have h0 := h1 (mn1 x y) List.mem_cons_self
    refine ⟨fun v hv => ?_, ?_⟩
    · rcases List.mem_cons.1 hv with rfl | hv
      · omega
      · rcases List.mem_cons.1 hv with rfl | hv
        · omega
        · exact h1 v (List.mem_cons_of_mem _ hv)
    · rcases List.mem_cons.1 h2 with e | h
      · rw [e]; unfold mn1; split
        · exact List.mem_cons_of_mem _ List.mem_cons_self
        · exact List.mem_cons_self
      · exact List.mem_cons_of_mem _ (List.mem_cons_of_mem _ h)
theorem mx_ge {k : List Vl} : ∀ v ∈ k, v.n ≤ (mx k).n := by cases k with | nil => intro v hv; cases hv | cons x r => exact (mx_fold r x).1
theorem mn_le {k : List Vl} : ∀ v ∈ k, (mn k).n ≤ v.n := by cases k with | nil => intro v hv; cases hv | cons x r => exact (mn_fold r x).1
theorem mx_mem {k : List Vl} (h : 0 < k.length) : mx k ∈ k := by cases k with | nil => cases h | cons x r => exact (mx_fold r x).2
theorem mn_mem {k : List Vl} (h : 0 < k.length) : mn k ∈ k := by cases k with | nil => cases h | cons x r => exact (mn_fold r x).2

theorem rnd_le {p d h : Nat} (hd : 0 < d) (hp : p ≤ h * d) : Fx.rnd p d ≤ h := by
  have e := Nat.div_add_mod p d
  have hq : p / d ≤ h := by
    have := Nat.div_le_div_right (c := d) hp
    rwa [Nat.mul_div_cancel _ hd] at this
  unfold Fx.rnd
  split
  · rename_i hr
    have hr0 : 0 < p % d := by omega
    have hlt : d * (p / d) < h * d := by omega
    rw [Nat.mul_comm h d] at hlt
    exact Nat.lt_of_mul_lt_mul_left hlt
  · exact hq
theorem rnd_ge' {p d h : Nat} (hd : 0 < d) (hp : h * d ≤ p) : h ≤ Fx.rnd p d :=
  Nat.le_trans ((Nat.le_div_iff_mul_le hd).2 hp) (Fx.rnd_ge p d)
theorem mag_million : Fx.mag 1000000 = 1000000 := rfl
theorem mean_bd {S lo hi : Int} {n : Nat} (hn : 0 < n) (hok : Fx.mdok S 1000000 ((n : Int) * 1000000) = true) (h1 : lo * (n : Int) ≤ S) (h2 : S ≤ hi * (n : Int)) :
    lo ≤ Fx.mdn S 1000000 ((n : Int) * 1000000) ∧ Fx.mdn S 1000000 ((n : Int) * 1000000) ≤ hi := by
  have hn' : (0 : Int) < (n : Int) := by omega
  have hd : 0 < n * 1000000 := by omega
  have hmd : Fx.mag ((n : Int) * 1000000) = n * 1000000 := by unfold Fx.mag; omega
  have hq : Fx.mdq S 1000000 ((n : Int) * 1000000) = Fx.rnd (Fx.mag S * 1000000) (n * 1000000) := by unfold Fx.mdq; rw [hmd, mag_million]
  have cast : ∀ x : Nat, ∀ y : Int, (x : Int) = y → ∀ s : Nat, ((s : Int) ≤ y * (n : Int) → s * 1000000 ≤ x * (n * 1000000)) ∧ (y * (n : Int) ≤ (s : Int) → x * (n * 1000000) ≤ s * 1000000) := by
    intro x y e s
    have e2 : x * (n * 1000000) = x * n * 1000000 := by rw [Nat.mul_assoc]
    have e3 : y * (n : Int) = ((x * n : Nat) : Int) := by rw [← e, Int.natCast_mul]
    rw [e2, e3]
    generalize x * n = z
    exact ⟨fun h => by omega, fun h => by omega⟩
  by_cases hs : S < 0
  · have hneg : Fx.neg3 S 1000000 ((n : Int) * 1000000) = true := by unfold Fx.neg3; simp [hs]; omega
    rw [Fx.mdn_neg hok hneg, hq]
    have hms : ((Fx.mag S : Nat) : Int) = -S := by unfold Fx.mag; omega
    have hlo : lo < 0 := by
      rcases Int.lt_or_le lo 0 with h | h
      · exact h
      · have := Int.mul_nonneg h (Int.le_of_lt hn'); omega
    constructor
    · have := rnd_le hd ((cast (-lo).toNat (-lo) (by omega) (Fx.mag S)).1 (by rw [hms, Int.neg_mul]; omega))
      omega
    · rcases Int.lt_or_le hi 0 with h | h
      · have := rnd_ge' hd ((cast (-hi).toNat (-hi) (by omega) (Fx.mag S)).2 (by rw [hms, Int.neg_mul]; omega))
        omega
      · omega
  · have hneg : Fx.neg3 S 1000000 ((n : Int) * 1000000) = false := by unfold Fx.neg3; simp; omega
    rw [Fx.mdn_pos hok hneg, hq]
    have hms : ((Fx.mag S : Nat) : Int) = S := by unfold Fx.mag; omega
    have hhi : 0 ≤ hi := by
      rcases Int.lt_or_le hi 0 with h | h
      · have := Int.mul_neg_of_neg_of_pos h hn'; omega
      · exact h
    constructor
    · rcases Int.lt_or_le 0 lo with h | h
      · have := rnd_ge' hd ((cast lo.toNat lo (by omega) (Fx.mag S)).2 (by rw [hms]; exact h1))
        omega
      · omega
    · have := rnd_le hd ((cast hi.toNat hi (by omega) (Fx.mag S)).1 (by rw [hms]; exact h2))
      omega

/-- The mean, where there is one, lies between the least and the greatest. -/
theorem between (k : List Vl) (hk : ∀ v ∈ k, Fx.num v = true) (h0 : 0 < k.length) (hl : k.length ≤ 1000000) :
    tg 1 k = Fx.none ∨ ((mn k).n ≤ (tg 1 k).n ∧ (tg 1 k).n ≤ (mx k).n) := by
  rw [tg_1 h0]
  have hd : Fx.inR ((k.length : Int) * 1000000) = true := Fx.inR_yes (by omega) (by omega)
  rw [Fx.of_yes hd]
  rcases sum_cases k hk with h | ⟨h, hr⟩
  · left; rw [h]; exact Fx.div_no1 rfl
  · rw [h, Fx.div_yes (Fx.num_yes hr) (Fx.num_yes hd)]
    cases hok : Fx.mdok (total k) 1000000 ((k.length : Int) * 1000000)
    · left; exact Fx.mdv_no hok
    · rw [Fx.mdv_yes hok]
      obtain ⟨h1, h2⟩ := mean_bd h0 hok (total_ge k _ mn_le) (total_le k _ mx_ge)
      cases hin : Fx.inR (Fx.mdn (total k) 1000000 ((k.length : Int) * 1000000))
      · left; exact Fx.of_no hin
      · right; rw [Fx.of_yes hin]; exact ⟨h1, h2⟩

theorem vl_ext {a b : Vl} (h1 : a.ok = b.ok) (h2 : a.n = b.n) : a = b := by cases a; cases b; simp at h1 h2; rw [h1, h2]
theorem kn_reverse (l : List Vl) : kn l.reverse = (kn l).reverse := by unfold kn; exact List.filter_reverse
theorem mx_reverse (k : List Vl) (hk : ∀ v ∈ k, Fx.num v = true) (h0 : 0 < k.length) : mx k.reverse = mx k := by
  have m1 := mx_mem h0
  have m2 := List.mem_reverse.1 (mx_mem (k := k.reverse) (by rw [List.length_reverse]; exact h0))
  have g1 := mx_ge (k := k.reverse) _ (List.mem_reverse.2 m1)
  have g2 := mx_ge (k := k) _ m2
  exact vl_ext (by rw [(num_eta (hk _ m1)).1, (num_eta (hk _ m2)).1]) (by omega)
theorem mn_reverse (k : List Vl) (hk : ∀ v ∈ k, Fx.num v = true) (h0 : 0 < k.length) : mn k.reverse = mn k := by
  have m1 := mn_mem h0
  have m2 := List.mem_reverse.1 (mn_mem (k := k.reverse) (by rw [List.length_reverse]; exact h0))
  have g1 := mn_le (k := k.reverse) _ (List.mem_reverse.2 m1)
  have g2 := mn_le (k := k) _ m2
  exact vl_ext (by rw [(num_eta (hk _ m1)).1, (num_eta (hk _ m2)).1]) (by omega)
/-- Turned around. -/
theorem tg_reverse (kind : Int) (l : List Vl) (hl : l.length ≤ 200) (hb : ∀ v ∈ l, -1125899906842624 ≤ v.n ∧ v.n ≤ 1125899906842624) (h3 : kind ≠ 3) : tg kind (kn l.reverse) = tg kind (kn l) := by
  rw [kn_reverse]
  have hk := kn_num l
  have hm : ∀ v ∈ kn l, Fx.num v = true ∧ -1125899906842624 ≤ v.n ∧ v.n ≤ 1125899906842624 := fun v hv => ⟨hk v hv, hb v (kn_mem l v hv)⟩
  have hkl := Nat.le_trans (kn_len l) hl
  generalize kn l = k at *
  by_cases h0 : k.length = 0
  · have e := List.eq_nil_of_length_eq_zero h0
    rw [e]; rfl
  have h0' : 0 < k.length := by omega
  have hr : k.reverse.length = k.length := List.length_reverse
  have hs : sum k.reverse = sum k := by
    rw [sum_small k hm hkl, sum_small k.reverse (fun v hv => hm v (List.mem_reverse.1 hv)) (by rw [hr]; exact hkl), total_reverse]
  by_cases h1 : kind = 1
  · subst h1; rw [tg_1 h0', tg_1 (by rw [hr]; exact h0'), hs, hr]
  by_cases h2 : kind = 2
  · subst h2; rw [tg_2 h0', tg_2 (by rw [hr]; exact h0'), hs]
  by_cases h4 : kind = 4
  · subst h4; rw [tg_4 h0', tg_4 (by rw [hr]; exact h0'), mx_reverse k hk h0']
  by_cases h5 : kind = 5
  · subst h5; rw [tg_5 h0', tg_5 (by rw [hr]; exact h0'), mn_reverse k hk h0']
  rw [tg_no h1 h2 h3 h4 h5, tg_no h1 h2 h3 h4 h5]
end Ag
end Go.Proofs.YtbakngbmfgnmcaaDoor

namespace Go.Proofs.YtbakngbmfgnmcaaDoor
open Go.RowKit
open Fx (Vl)
open Vf (Has upd)
open Wp

namespace Wr
def H (kind : Int) : Hd := ⟨kind, 0, [(1, 20), (10, 6)]⟩
theorem five {k : Int} (h1 : 1 ≤ k) (h5 : k ≤ 5) {P : Int → Prop} (p1 : P 1) (p2 : P 2) (p3 : P 3) (p4 : P 4) (p5 : P 5) : P k := by
  have : k = 1 ∨ k = 2 ∨ k = 3 ∨ k = 4 ∨ k = 5 := by omega
  rcases this with rfl | rfl | rfl | rfl | rfl <;> assumption
theorem Hval {k : Int} (h1 : 1 ≤ k) (h5 : k ≤ 5) : (H k).val = true := five (P := fun k => (H k).val = true) h1 h5 (by decide +kernel) (by decide +kernel) (by decide +kernel) (by decide +kernel) (by decide +kernel)
theorem Hsize {k : Int} (h1 : 1 ≤ k) (h5 : k ≤ 5) : (H k).size = 352 := five (P := fun k => (H k).size = 352) h1 h5 (by decide +kernel) (by decide +kernel) (by decide +kernel) (by decide +kernel) (by decide +kernel)
theorem Hoff {k : Int} (h1 : 1 ≤ k) (h5 : k ≤ 5) : (H k).offs 0 = 40 ∧ (H k).offs 1 = 280 := five (P := fun k => (H k).offs 0 = 40 ∧ (H k).offs 1 = 280) h1 h5 (by decide +kernel) (by decide +kernel) (by decide +kernel) (by decide +kernel) (by decide +kernel)
theorem Hspan {k : Int} (h1 : 1 ≤ k) (h5 : k ≤ 5) : (H k).span = 60 := five (P := fun k => (H k).span = 60) h1 h5 (by decide +kernel) (by decide +kernel) (by decide +kernel) (by decide +kernel) (by decide +kernel)
theorem st0 (k : Int) : (H k).step 0 = 1 := rfl
theorem st1 (k : Int) : (H k).step 1 = 10 := rfl
theorem ct0 (k : Int) : (H k).cnt 0 = 20 := rfl
theorem ct1 (k : Int) : (H k).cnt 1 = 6 := rfl
theorem at0 {k : Int} (h1 : 1 ≤ k) (h5 : k ≤ 5) (j : Nat) (hj : j < 20) : at_ (H k) 0 (1000 + (j : Int)) = 40 + 12 * (j : Int) := by
  unfold at_
  rw [show (H k).offs ((0 : Nat) : Int) = 40 from (Hoff h1 h5).1, st0, ct0, Sl.pl_eq (by omega) (by omega) (by omega)]
  omega
theorem at1 {k : Int} (h1 : 1 ≤ k) (h5 : k ≤ 5) (j : Nat) (hj : j < 10) : at_ (H k) 1 (1000 + (j : Int)) = 328 := by
  unfold at_
  rw [show (H k).offs ((1 : Nat) : Int) = 280 from (Hoff h1 h5).2, st1, ct1, Sl.pl_eq (by omega) (by omega) (by omega)]
  omega
theorem al1 (t : Int) (h : 0 ≤ t) : Sl.al t 1 = t := by rw [Sl.al_eq (by omega) h]; omega
theorem al10 (j : Nat) (hj : j < 10) : Sl.al (1000 + (j : Int)) 10 = 1000 := by rw [Sl.al_eq (by omega) (by omega)]; omega

def vl (n : Int) : Vl := ⟨true, n⟩
/-- What the ten values are once these points lie there. -/
def pv (m : List Int) : List Vl := m.map vl ++ List.replicate (10 - m.length) Fx.none
def fits40 (m : List Int) : Prop := ∀ n ∈ m, -1099511627776 ≤ n ∧ n ≤ 1099511627776
theorem fits40.num {m : List Int} (h : fits40 m) : ∀ v ∈ m.map vl, Fx.num v = true ∧ -1099511627776 ≤ v.n ∧ v.n ≤ 1099511627776 := by
  intro v hv
  obtain ⟨n, hn, rfl⟩ := List.mem_map.1 hv
  have := h n hn
  exact ⟨Fx.num_yes (Fx.inR_yes (by omega) (by omega)), this.1, this.2⟩
theorem kn_pv {m : List Int} (h : fits40 m) : Ag.kn (pv m) = m.map vl := by
  unfold Ag.kn pv
  rw [List.filter_append, List.filter_eq_self.2 fun v hv => (h.num v hv).1]
  have : (List.replicate (10 - m.length) Fx.none).filter Fx.num = [] := by
    rw [List.filter_eq_nil_iff]
    intro v hv
    rw [List.eq_of_mem_replicate hv]
    decide
  rw [this, List.append_nil]
theorem pv_len {m : List Int} (h : m.length ≤ 10) : (pv m).length = 10 := by
  unfold pv; rw [List.length_append, List.length_map, List.length_replicate]; omega
theorem put_pv (k : Int) {m : List Int} (h : fits40 m) (h0 : 0 < m.length) (h10 : m.length ≤ 10) : Ag.put k 0 (pv m) = Ag.tg k (m.map vl) := by
  unfold Ag.put
  rw [kn_pv h, pv_len h10, List.length_map]
  have he : Ag.en 0 (m.length : Int) ((10 : Nat) : Int) = true := by
    unfold Ag.en
    have e1 : Ag.lim (m.length : Int) = m.length := by unfold Ag.lim; rw [if_neg (by omega), if_neg (by omega)]
    have e2 : Ag.lim ((10 : Nat) : Int) = 10 := by decide
    have e3 : Ag.lim 0 = 0 := by decide
    rw [e1, e2, e3]
    exact decide_eq_true ⟨by omega, by omega, by omega⟩
  rw [if_pos he]

/-- What the points are together. -/
def tot (m : List Int) : Int := m.foldl (· + ·) 0
theorem total_map (m : List Int) : ∀ s : Int, m.foldl (· + ·) s = s + Ag.total (m.map vl) := by
  induction m with
  | nil => intro s; simp [Ag.total]
  | cons a m ih => intro s; rw [List.foldl_cons, ih, List.map_cons]; simp only [Ag.total, vl]; omega
theorem tot_total (m : List Int) : tot m = Ag.total (m.map vl) := by unfold tot; rw [total_map]; omega
def hi (m : List Int) : Int := match m with | [] => 0 | a :: r => r.foldl max a
def lo (m : List Int) : Int := match m with | [] => 0 | a :: r => r.foldl min a
theorem mx_fold (r : List Int) : ∀ a : Int, (r.map vl).foldl Ag.mx1 (vl a) = vl (r.foldl max a) := by
  induction r with
  | nil => intro a; rfl
  | cons b r ih =>
    intro a
    rw [List.map_cons, List.foldl_cons, List.foldl_cons, ← ih]
    congr 1
    unfold Ag.mx1 vl
    dsimp only
    by_cases h : a < b
    · rw [if_pos h, show max a b = b by omega]
    · rw [if_neg h, show max a b = a by omega]
theorem mn_fold (r : List Int) : ∀ a : Int, (r.map vl).foldl Ag.mn1 (vl a) = vl (r.foldl min a) := by
  induction r with
  | nil => intro a; rfl
  | cons b r ih =>
    intro a
    rw [List.map_cons, List.foldl_cons, List.foldl_cons, ← ih]
    congr 1
    unfold Ag.mn1 vl
    dsimp only
    by_cases h : b < a
    · rw [if_pos h, show min a b = b by omega]
    · rw [if_neg h, show min a b = a by omega]
theorem mx_map {m : List Int} (h : 0 < m.length) : Ag.mx (m.map vl) = vl (hi m) := by
  cases m with
  | nil => cases h
  | cons a r => exact mx_fold r a
theorem mn_map {m : List Int} (h : 0 < m.length) : Ag.mn (m.map vl) = vl (lo m) := by
  cases m with
  | nil => cases h
  | cons a r => exact mn_fold r a
theorem total_bd (m : List Int) (h : fits40 m) (h10 : m.length ≤ 10) : -10995116277760 ≤ Ag.total (m.map vl) ∧ Ag.total (m.map vl) ≤ 10995116277760 := by
  have h1 := Ag.total_ge (m.map vl) (-1099511627776) (fun v hv => (h.num v hv).2.1)
  have h2 := Ag.total_le (m.map vl) 1099511627776 (fun v hv => (h.num v hv).2.2)
  rw [List.length_map] at h1 h2
  omega

theorem rnd_near (s n : Nat) (hn : 0 < n) : 2 * (Fx.rnd (s * 1000000) (n * 1000000) * n) ≤ 2 * s + n ∧ 2 * s ≤ 2 * (Fx.rnd (s * 1000000) (n * 1000000) * n) + n ∧ Fx.rnd (s * 1000000) (n * 1000000) ≤ s + 1 := by
  have e1 : s * 1000000 / (n * 1000000) = s / n := Nat.mul_div_mul_right _ _ (by omega)
  have e2 : s * 1000000 % (n * 1000000) = s % n * 1000000 := Nat.mul_mod_mul_right _ _ _
  have e := Nat.div_add_mod s n
  have hm := Nat.mod_lt s hn
  have hd := Nat.div_le_self s n
  rw [Nat.mul_comm] at e
  unfold Fx.rnd
  rw [e1, e2]
  split
  · rw [Nat.add_mul, Nat.one_mul]
    generalize s / n * n = x at *
    omega
  · generalize s / n * n = x at *
    omega
/-- The mean. -/
theorem mean (m : List Int) (h : fits40 m) (h0 : 0 < m.length) (h10 : m.length ≤ 10) : ∃ x, Ag.tg 1 (m.map vl) = ⟨true, x⟩ ∧ -10995116277761 ≤ x ∧ x ≤ 10995116277761 ∧ 2 * (x * (m.length : Int) - tot m) ≤ m.length ∧ -(2 * (x * (m.length : Int) - tot m)) ≤ m.length := by
  have hb := total_bd m h h10
  have hl : (m.map vl).length = m.length := List.length_map _
  rw [Ag.tg_1 (by rw [hl]; exact h0), Ag.sum_small _ (fun v hv => by have := h.num v hv; exact ⟨this.1, by omega, by omega⟩) (by omega), hl, ← tot_total]
  rw [← tot_total] at hb
  generalize tot m = S at *
  generalize m.length = n at *
  have hd : Fx.inR ((n : Int) * 1000000) = true := Fx.inR_yes (by omega) (by omega)
  have hr : Fx.inR S = true := Fx.inR_yes (by omega) (by omega)
  rw [Fx.of_yes hd, Fx.div_yes (Fx.num_yes hr) (Fx.num_yes hd)]
  dsimp only
  have hmd : Fx.mag ((n : Int) * 1000000) = n * 1000000 := by unfold Fx.mag; omega
  have hq : Fx.mdq S 1000000 ((n : Int) * 1000000) = Fx.rnd (Fx.mag S * 1000000) (n * 1000000) := by unfold Fx.mdq; rw [hmd]; rfl
  obtain ⟨r1, r2, r3⟩ := rnd_near (Fx.mag S) n h0
  have hmg : Fx.mag S ≤ 10995116277760 := by unfold Fx.mag; omega
  have hok := Fx.mdok_yes (a := S) (b := 1000000) (c := (n : Int) * 1000000) (by omega) (by rw [hq]; omega)
  rw [Fx.mdv_yes hok]
  generalize Fx.rnd (Fx.mag S * 1000000) (n * 1000000) = R at *
  have cast : ∀ z : Nat, ((R * n : Nat) : Int) = (R : Int) * (n : Int) := fun _ => Int.natCast_mul _ _
  have hc := cast 0
  by_cases hs : S < 0
  · have hneg : Fx.neg3 S 1000000 ((n : Int) * 1000000) = true := by unfold Fx.neg3; simp [hs]; omega
    rw [Fx.mdn_neg hok hneg, hq, Fx.of_yes (Fx.inR_yes (by omega) (by omega))]
    have hms : ((Fx.mag S : Nat) : Int) = -S := by unfold Fx.mag; omega
    refine ⟨_, rfl, by omega, by omega, ?_, ?_⟩
    · rw [Int.neg_mul, ← hc]; omega
    · rw [Int.neg_mul, ← hc]; omega
  · have hneg : Fx.neg3 S 1000000 ((n : Int) * 1000000) = false := by unfold Fx.neg3; simp; omega
    rw [Fx.mdn_pos hok hneg, hq, Fx.of_yes (Fx.inR_yes (by omega) (by omega))]
    have hms : ((Fx.mag S : Nat) : Int) = S := by unfold Fx.mag; omega
    refine ⟨_, rfl, by omega, by omega, ?_, ?_⟩
    · rw [← hc]; omega
    · rw [← hc]; omega
/-- What is asked of the put-together value. -/
structure Rolled (k : Int) (m : List Int) (x : Int) : Prop where
  r1 : k = 1 → 2 * (x * (m.length : Int) - tot m) ≤ m.length ∧ -(2 * (x * (m.length : Int) - tot m)) ≤ m.length
  r2 : k = 2 → x = tot m
  r3 : k = 3 → ∀ h : m.length - 1 < m.length, x = m[m.length - 1]
  r4 : k = 4 → x = hi m
  r5 : k = 5 → x = lo m
  bd : -10995116277761 ≤ x ∧ x ≤ 10995116277761
theorem hi_mem {m : List Int} (h : 0 < m.length) : hi m ∈ m := by
  have := Ag.mx_mem (k := m.map vl) (by simpa using h)
  rw [mx_map h] at this
  obtain ⟨n, hn, e⟩ := List.mem_map.1 this
  injection e with _ e
  rw [← e]; exact hn
theorem lo_mem {m : List Int} (h : 0 < m.length) : lo m ∈ m := by
  have := Ag.mn_mem (k := m.map vl) (by simpa using h)
  rw [mn_map h] at this
  obtain ⟨n, hn, e⟩ := List.mem_map.1 this
  injection e with _ e
  rw [← e]; exact hn
theorem rolled {k : Int} (h1 : 1 ≤ k) (h5 : k ≤ 5) (m : List Int) (h : fits40 m) (h0 : 0 < m.length) (h10 : m.length ≤ 10) : ∃ x, Ag.put k 0 (pv m) = ⟨true, x⟩ ∧ Rolled k m x := by
  rw [put_pv k h h0 h10]
  have hl : 0 < (m.map vl).length := by rw [List.length_map]; exact h0
  have hk : k = 1 ∨ k = 2 ∨ k = 3 ∨ k = 4 ∨ k = 5 := by omega
  rcases hk with rfl | rfl | rfl | rfl | rfl
  · obtain ⟨x, e, b1, b2, c1, c2⟩ := mean m h h0 h10
    exact ⟨x, e, ⟨fun _ => ⟨c1, c2⟩, fun e => absurd e (by decide), fun e => absurd e (by decide), fun e => absurd e (by decide), fun e => absurd e (by decide), ⟨b1, b2⟩⟩⟩
  · have hb := total_bd m h h10
    refine ⟨tot m, ?_, ⟨fun e => absurd e (by decide), fun _ => rfl, fun e => absurd e (by decide), fun e => absurd e (by decide), fun e => absurd e (by decide), by rw [tot_total]; omega⟩⟩
    rw [Ag.tg_2 hl, Ag.sum_small _ (fun v hv => by have := h.num v hv; exact ⟨this.1, by omega, by omega⟩) (by rw [List.length_map]; omega), tot_total]
  · have hm : m.length - 1 < m.length := by omega
    have hb := h _ (List.getElem_mem hm)
    refine ⟨m[m.length - 1], ?_, ⟨fun e => absurd e (by decide), fun e => absurd e (by decide), fun _ _ => rfl, fun e => absurd e (by decide), fun e => absurd e (by decide), by omega⟩⟩
    rw [Ag.tg_3 hl]
    simp [vl]
  · have hb := h _ (hi_mem h0)
    refine ⟨hi m, ?_, ⟨fun e => absurd e (by decide), fun e => absurd e (by decide), fun e => absurd e (by decide), fun _ => rfl, fun e => absurd e (by decide), by omega⟩⟩
    rw [Ag.tg_4 hl, mx_map h0]; rfl
  · have hb := h _ (lo_mem h0)
    refine ⟨lo m, ?_, ⟨fun e => absurd e (by decide), fun e => absurd e (by decide), fun e => absurd e (by decide), fun e => absurd e (by decide), fun _ => rfl, by omega⟩⟩
    rw [Ag.tg_5 hl, mn_map h0]; rfl
end Wr
end Go.Proofs.YtbakngbmfgnmcaaDoor

namespace Go.Proofs.YtbakngbmfgnmcaaDoor
open Go.RowKit
open Fx (Vl)
open Vf (Has upd)
open Wp

namespace Wr
/-- The file once these points were laid, one a second. -/
structure Up (k : Int) (m : List Int) (S : Vf.Sv) (B : List UInt8) : Prop where
  st : Stands S.now [97] (H k) B
  yes : ∀ j (h : j < m.length), slot B (40 + 12 * j) = (1000 + (j : Int), m[j])
  no : ∀ j, m.length ≤ j → j < 10 → slot B (40 + 12 * j) = (0, 0)
  up : 0 < m.length → ∀ x, Ag.put k 0 (pv m) = ⟨true, x⟩ → slot B 328 = (1000, x)
theorem pv_get (m : List Int) (j : Nat) (h : j < (pv m).length) : (pv m)[j] = if hj : j < m.length then vl m[j] else Fx.none := by
  have key : ∀ h2 : j < (m.map vl ++ List.replicate (10 - m.length) Fx.none).length, (m.map vl ++ List.replicate (10 - m.length) Fx.none)[j] = if hj : j < m.length then vl m[j] else Fx.none := by
    intro h2
    by_cases hj : j < m.length
    · rw [dif_pos hj, List.getElem_append_left (by rw [List.length_map]; exact hj), List.getElem_map]
    · rw [dif_neg hj, List.getElem_append_right (by rw [List.length_map]; omega), List.getElem_replicate]
  exact key h
theorem vals_get (fs : List Vf.Fl) (n : List UInt8) (h : Hd) (i : Nat) (t : Int) (k j : Nat) (hj : j < (vals fs n h i t k).length) : (vals fs n h i t k)[j] = value fs n h i (Sl.al t (h.step (i + 1)) + (j : Int) * h.step i) := by
  have key : ∀ h2 : j < ((List.range k).map fun (j : Nat) => value fs n h i (Sl.al t (h.step (i + 1)) + (j : Int) * h.step i)).length, ((List.range k).map fun (j : Nat) => value fs n h i (Sl.al t (h.step (i + 1)) + (j : Int) * h.step i))[j] = value fs n h i (Sl.al t (h.step (i + 1)) + (j : Int) * h.step i) := by
    intro h2
    rw [List.getElem_map, List.getElem_range]
  exact key hj
theorem Hlen (k : Int) : (H k).l.length = 2 := rfl
theorem many10 (k : Int) : many (H k) 0 = 10 := by unfold many; rw [show (0 : Nat) + 1 = 1 from rfl, st1, st0]; decide
theorem Up.next {k : Int} (h1 : 1 ≤ k) (h5 : k ≤ 5) {m : List Int} {S : Vf.Sv} {B : List UInt8} (u : Up k m S B) (n : Int) (hm : m.length < 10) (hf : fits40 (m ++ [n])) :
    (update S [97] (1000 + (m.length : Int)) [(1000 + (m.length : Int), n)]).2 = (1, 0) ∧ ∃ B', Up k (m ++ [n]) (update S [97] (1000 + (m.length : Int)) [(1000 + (m.length : Int), n)]).1 B' := by
  have hn := hf n (by simp)
  have hin : Fx.inR n = true := Fx.inR_yes (by omega) (by omega)
  obtain ⟨t, ht⟩ : ∃ t : Int, t = 1000 + (m.length : Int) := ⟨_, rfl⟩
  have at0' : (at_ (H k) 0 t).toNat = 40 + 12 * m.length := by rw [ht, at0 h1 h5 _ (by omega)]; omega
  have at1' : (at_ (H k) 1 t).toNat = 328 := by rw [ht, at1 h1 h5 _ hm]; rfl
  have hal0 : Sl.al t ((H k).step 0) = t := by rw [st0]; exact al1 t (by omega)
  have hal1 : Sl.al t ((H k).step 1) = 1000 := by rw [st1, ht]; exact al10 _ hm
  rw [← ht]
  obtain ⟨v1, v2⟩ := update_one u.st t (t, n) (by omega) (by omega)
  have hly := lays_yes (S := S) (n := [97]) (h := H k) (now := t) (p := (t, n)) (i := 0) (by rw [hin]; simp; omega) (first_yes (h := H k) (d := t - t) (m := 1) (i := 0) (by rw [st0, ct0]; omega)) (by rw [hal0]; omega)
  have f1 := u.st.write (i := 0) (by rw [Hlen]; omega) t n (by omega)
  rw [at0', hal0] at f1
  have b1 := u.st.fits.slot_in (i := 0) (by rw [Hlen]; omega) t (by omega)
  have b2 := u.st.fits.slot_in (i := 1) (by rw [Hlen]; omega) t (by omega)
  have at0i : at_ (H k) 0 t = 40 + 12 * (m.length : Int) := by rw [ht, at0 h1 h5 _ (by omega)]
  have at1i : at_ (H k) 1 t = 328 := by rw [ht, at1 h1 h5 _ hm]
  obtain ⟨S1, hS1⟩ : ∃ S1, S1 = write S [97] (H k) 0 t n := ⟨_, rfl⟩
  obtain ⟨B1, hB1⟩ : ∃ B1, B1 = put B (40 + 12 * m.length) t n := ⟨_, rfl⟩
  have hlen1 : B1.length = B.length := by rw [hB1]; exact put_len (by omega)
  have s1 : ∀ j, j < 10 → slot B1 (40 + 12 * j) = if hj : j < (m ++ [n]).length then (1000 + (j : Int), (m ++ [n])[j]) else (0, 0) := by
    intro j hj
    rw [hB1]
    by_cases e : j = m.length
    · subst e
      rw [dif_pos (by simp), slot_put (by omega) (by omega) (by omega) (by omega) (by omega), ht]
      simp
    · rw [slot_else (by omega) (by omega)]
      by_cases hl : j < m.length
      · rw [dif_pos (by rw [List.length_append]; simp; omega), u.yes j hl, List.getElem_append_left hl]
      · rw [dif_neg (by simp; omega), u.no j (by omega) hj]
  rw [← hS1, ← hB1] at f1
  have hvals : vals S1.now [97] (H k) 0 t (many (H k) 0) = pv (m ++ [n]) := by
    rw [many10]
    apply List.ext_getElem
    · rw [pv_len (by simp; omega)]; unfold vals; simp
    · intro j hj1 hj2
      have hj : j < 10 := by rw [pv_len (by simp; omega)] at hj2; exact hj2
      rw [pv_get]
      rw [vals_get, show (0 : Nat) + 1 = 1 from rfl, hal1, st0, Int.mul_one]
      rw [f1.fits.value_eq (i := 0) (by rw [Hlen]; omega) _ (by omega), st0, al1 _ (by omega)]
      have ea : (at_ (H k) 0 (1000 + (j : Int))).toNat = 40 + 12 * j := by rw [at0 h1 h5 _ (by omega)]; omega
      rw [ea, s1 j hj]
      by_cases hjm : j < (m ++ [n]).length
      · rw [dif_pos hjm, dif_pos hjm]
        have hb := hf _ (List.getElem_mem hjm)
        rw [if_neg (by dsimp only; omega)]
        exact Fx.of_yes (Fx.inR_yes (by omega) (by omega))
      · rw [dif_neg hjm, dif_neg hjm, if_pos (.inr (by dsimp only; omega))]
  obtain ⟨x, hx, hr⟩ := rolled h1 h5 (m ++ [n]) hf (by simp) (by simp; omega)
  have hput : Ag.put (H k).ag (H k).xf (pv (m ++ [n])) = ⟨true, x⟩ := hx
  have hpas : passes S1 [97] (H k) 0 t = (write S1 [97] (H k) 1 t x, true) := by
    unfold passes
    dsimp only
    rw [hvals, hput, show (0 : Nat) + 1 = 1 from rfl, if_neg (by rw [hal1]; simp)]
  have hcl : climb [97] (H k) t 1 S1 0 = write S1 [97] (H k) 1 t x := by
    rw [climb_yes (m := 0) (by rw [hpas]), hpas]
    rfl
  have hl2 : lays S [97] (H k) t (t, n) = (write S1 [97] (H k) 1 t x, true) := by
    rw [hly, ← hcl, hS1]
    rfl
  have f2 := f1.write (i := 1) (by rw [Hlen]; omega) t x (by omega)
  rw [at1', hal1] at f2
  have hxb := hr.bd
  refine ⟨by rw [v2, hl2]; rfl, put B1 328 1000 x, ⟨by rw [v1, hl2]; exact f2, fun j hj => ?_, fun j hj hj10 => ?_, fun _ y hy => ?_⟩⟩
  · have hj10 : j < 10 := by simp at hj; omega
    rw [slot_else (by omega) (by omega), s1 j hj10, dif_pos hj]
  · rw [slot_else (by omega) (by omega), s1 j hj10, dif_neg (by omega)]
  · rw [hx] at hy
    injection hy with _ hy
    subst hy
    rw [slot_put (by omega) (by omega) (by omega) (by omega) (by omega)]
/-- What is fetched of the slot that was filled. -/
theorem Up.last {k : Int} (h1 : 1 ≤ k) (h5 : k ≤ 5) {m : List Int} {S : Vf.Sv} {B : List UInt8} (u : Up k m S B) (h0 : 0 < m.length) {x : Int} (hx : Ag.put k 0 (pv m) = ⟨true, x⟩) (hr : Rolled k m x) :
    fetch S.now [97] 1030 995 1005 = (some ⟨1000, 10, [⟨true, x⟩]⟩, 0) := by
  have hxb := hr.bd
  have hi := u.st.info
  have hsp := Hspan h1 h5
  have hcl : clip (H k) 1030 995 = 995 := by unfold clip; rw [hsp]; omega
  have hfi : first (H k) (1030 - 995 - 1) (H k).l.length 0 = some 1 := by
    rw [Hlen]
    rw [first_no (m := 1) (i := 0) (by rw [st0, ct0]; omega)]
    exact first_yes (m := 0) (i := 0 + 1) (by rw [show (0 : Nat) + 1 = 1 from rfl, st1, ct1]; omega)
  have hval : value S.now [97] (H k) 1 1000 = ⟨true, x⟩ := by
    rw [u.st.fits.value_eq (i := 1) (by rw [Hlen]; omega) 1000 (by omega), st1, show Sl.al 1000 10 = 1000 by decide]
    have ea : (at_ (H k) 1 1000).toNat = 328 := by have := at1 h1 h5 0 (by omega); rw [show (1000 : Int) + ((0 : Nat) : Int) = 1000 from rfl] at this; rw [this]; rfl
    rw [ea, u.up h0 x hx]
    dsimp only
    rw [if_neg (by omega)]
    exact Fx.of_yes (Fx.inR_yes (by omega) (by omega))
  unfold fetch
  dsimp only
  rw [hi]
  dsimp only
  rw [if_neg (by omega), if_neg (by decide), if_neg (by rw [hsp]; omega), hcl, show min (1005 : Int) 1030 = 1005 by omega, hfi]
  dsimp only
  rw [st1, show Sl.al 995 10 + 10 = 1000 by decide, show Sl.al 1005 10 + 10 = 1010 by decide, if_neg (by omega), show ((1010 : Int) - 1000) / 10 = 1 by decide]
  show (some (⟨1000, 10, [value S.now [97] (H k) 1 (1000 + ((0 : Nat) : Int) * 10)]⟩ : Se), (0 : Int)) = _
  rw [show (1000 : Int) + ((0 : Nat) : Int) * 10 = 1000 from rfl, hval]

theorem fold_take (f : Int → Int → Int) (a : Int) (m : List Int) (j : Nat) (h : j < m.length) : (m.take (j + 1)).foldl f a = f ((m.take j).foldl f a) m[j] := by
  rw [List.take_succ_eq_append_getElem h, List.foldl_append]; rfl
theorem tot_bd {m : List Int} (h : fits40 m) (h10 : m.length ≤ 10) (j : Nat) : -10995116277760 ≤ tot (m.take j) ∧ tot (m.take j) ≤ 10995116277760 := by
  rw [tot_total]
  exact total_bd (m.take j) (fun n hn => h n (List.mem_of_mem_take hn)) (by rw [List.length_take]; omega)
theorem hi_fold {m : List Int} (h : 0 < m.length) : m.foldl max m[0] = hi m := by
  cases m with
  | nil => cases h
  | cons a r => show (a :: r).foldl max a = r.foldl max a; rw [List.foldl_cons, Int.max_self]
theorem lo_fold {m : List Int} (h : 0 < m.length) : m.foldl min m[0] = lo m := by
  cases m with
  | nil => cases h
  | cons a r => show (a :: r).foldl min a = r.foldl min a; rw [List.foldl_cons, Int.min_self]
/-- The new file: its slots are empty. -/
theorem pt_zero : pt (List.replicate 12 0) = (0, 0) := by decide +kernel
theorem start {k : Int} (h1 : 1 ≤ k) (h5 : k ≤ 5) : (create Kt.s0 [97] (H k)).2 = 0 ∧ ∃ B, Up k [] (create Kt.s0 [97] (H k)).1 B := by
  have hv := Hval h1 h5
  have hs := Hsize h1 h5
  have he := enc_len7 hv
  rw [Hlen] at he
  have key : ∀ b : List UInt8, (b.length : Int) ≤ 65536 → Vf.create Kt.s0 [97] b = (Kt.s0.act ⟨1, [97], 0, b⟩, 0) := fun b hb => by
    unfold Vf.create
    simp [Kt.s0, Vf.ix, Vf.ixFrom, Vf.used, Vf.is, hb]
  obtain ⟨b, hb⟩ : ∃ b, b = Wh.enc (H k).ag (H k).xf (H k).l ++ List.replicate ((H k).size - ((Wh.enc (H k).ag (H k).xf (H k).l).length : Int)).toNat (0 : UInt8) := ⟨_, rfl⟩
  have hbl : b.length = 352 := by rw [hb, List.length_append, List.length_replicate, hs, he]; rfl
  have hcr : create Kt.s0 [97] (H k) = ({ (Kt.s0.act ⟨1, [97], 0, b⟩) with was := (Kt.s0.act ⟨1, [97], 0, b⟩).now, l := [] }, 0) := by
    unfold Wp.create
    rw [if_neg (by rw [hv]; simp)]
    dsimp only
    rw [← hb, key b (by omega)]
    rfl
  rw [hcr]
  refine ⟨rfl, b, ⟨⟨⟨⟨by decide, 0, [97], rfl, rfl⟩, hv, by rw [hbl, hs]; rfl⟩, ⟨_, hb⟩⟩, fun j hj => absurd hj (by simp), fun j _ hj => ?_, fun h => absurd h (by simp)⟩⟩
  unfold slot
  have e : (b.drop (40 + 12 * j)).take 12 = List.replicate 12 0 := by
    rw [hb, List.drop_append, List.drop_of_length_le (by rw [he]; omega), List.nil_append, List.drop_replicate, List.take_replicate, hs, he]
    congr 1
    omega
  rw [e, pt_zero]
end Wr
end Go.Proofs.YtbakngbmfgnmcaaDoor
