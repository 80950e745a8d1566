/-
  CHAPTER 12, MEMORY: the state of a path's run.
-/
import Derived.Test.YtedppnejkjcplaaPkClr
import Derived.Test.YtedppnejkjcplaaPkSave
import Derived.Test.YtedppnejkjcplaaPkHas
import Derived.BigQuiet
import Derived.Laws.MakeOwn
namespace Go.Proofs.Ytedppnejkjcplaa
open Go.RowKit Go.Sort
open Me
namespace Pk
open Rx (In)
theorem kgrown (W : World) : (∀ d os b o, b < W.heap.size → (Go.Sort.grow (redrawn W d) os).cell? ⟨b, o, none⟩ = W.cell? ⟨b, o, none⟩) ∧ (∀ d os b o, b < W.heap.size → (Go.Sort.grow (redrawn W d) os).frozen? ⟨b, o, none⟩ = W.frozen? ⟨b, o, none⟩) :=
  ⟨fun d os b o h => (below_regrown W d os).cell (p := ⟨b, o, none⟩) h, fun d os b o h => (below_regrown W d os).frozen (p := ⟨b, o, none⟩) h⟩
/-- The object where a path's run has come to. -/
def Cs.up (c : Cs) (pre post : List Int) (dn : List Int) (tv : Value) (ts : List Tn) (r : Row) (xo xh : Value) (q : List (Int × Row)) : Cs :=
  { c with dn := dn, tv := tv, ts := ts, nofs := pre ++ (r ++ post), xo := xo, xh := xh, xofs := q.flatMap (·.2), xhds := q.map (·.1) }
structure St (c : Cs) (pre post : List Int) (k M : Nat) (W : World) (sb : Nat) (dn : List Int) (tv : Value) (ts : List Tn) (r : Row) (xo xh : Value) (q : List (Int × Row)) : Prop where
  se : Se W sb (c.up pre post dn tv ts r xo xh q)
  rl : r.length = c.wd
  ql : ∀ e ∈ q, e.2.length = c.wd
  qn : q.length + free c.L.length (exe dn k) ≤ c.L.length
  tn : ts.length + free c.L.length (exe dn k) ≤ M
  dle : ∀ n ∈ dn, n ≤ (k : Int) + 1
/-- What is left to be executed, read from memory. -/
def blockOf : Value → Nat
  | .slice (some a) _ _ => a.block
  | _ => 0
def left (g k n : Nat) (w : World) : Nat := free n fun p => match w.cell? ⟨g, p, none⟩ with
  | some (.int _ v) => decide (v = (k : Int) + 1)
  | _ => false
theorem left_is {W : World} {sb : Nat} {c : Cs} (h : Se W sb c) (k : Nat) : left (blockOf c.dv) k c.L.length W = free c.L.length (exe c.dn k) := by
  unfold left free
  apply List.countP_congr
  intro p hp
  have hp := List.mem_range.1 hp
  have hd : p < c.dn.length := by rw [h.dlen]; exact hp
  obtain ⟨g, cap, hv, _⟩ := own_some h.odn (by omega)
  have ho := h.odn
  rw [hv] at ho
  have : W.cell? ⟨blockOf c.dv, p, none⟩ = some (.int .i64 c.dn[p]) := by
    rw [hv]
    show W.cell? ⟨g, p, none⟩ = _
    rw [World.ownsRow.cellAt ho p (by omega), iv_get _ _ hd]
  simp only [this]
  unfold exe
  simp [hd]
theorem prog_cells {W : World} {sb : Nat} {c : Cs} (h : Se W sb c) {hd : Int} {x : In} (hx : fetch c.L hd = some x) : ∃ pb po, c.pa = some ⟨pb, po, none⟩ ∧ pb < c.b0 ∧
    W.cell? ⟨pb, po + hd.toNat * 4, none⟩ = some (.int .i64 x.op) ∧ W.cell? ⟨pb, po + hd.toNat * 4 + 1, none⟩ = some (.int .i64 x.x) ∧ W.cell? ⟨pb, po + hd.toNat * 4 + 2, none⟩ = some (.int .i64 x.y) ∧ W.cell? ⟨pb, po + hd.toNat * 4 + 3, none⟩ = some (.string ⟨x.p.toArray⟩) := by
  have hf := fetch_some hx
  have hlen : (icells c.L).length = c.L.length * 4 := flat_len icell 4 (fun _ => rfl) c.L
  obtain ⟨pb, po, hpa, _, hpg, hpc⟩ := h.prog.lit (hd.toNat * 4) (by rw [hlen]; omega)
  have hget : c.L[hd.toNat]'hf.2.1 = x := by have := hf.2.2; rw [List.getElem?_eq_getElem hf.2.1] at this; exact Option.some.inj this
  have key : ∀ j, j < 4 → (icells c.L)[hd.toNat * 4 + j]? = (icell x)[j]? := fun j hj => by
    have := flat_at icell 4 (fun _ => rfl) c.L hd.toNat j hf.2.1 hj
    rw [hget] at this
    exact this
  refine ⟨pb, po, hpa, hpg, ?_, ?_, ?_, ?_⟩
  · exact hpc _ _ ((key 0 (by omega)).trans rfl)
  · rw [Nat.add_assoc]; exact hpc _ _ ((key 1 (by omega)).trans rfl)
  · rw [Nat.add_assoc]; exact hpc _ _ ((key 2 (by omega)).trans rfl)
  · rw [Nat.add_assoc]; exact hpc _ _ ((key 3 (by omega)).trans rfl)
theorem flat_rows {q : List (Int × Row)} {n : Nat} (h : ∀ e ∈ q, e.2.length = n) : (q.flatMap (·.2)).length = q.length * n := by
  induction q with
  | nil => simp
  | cons e q ih =>
    rw [List.flatMap_cons, List.length_append, h e List.mem_cons_self, ih (fun e he => h e (List.mem_cons_of_mem _ he)), List.length_cons, Nat.add_mul, Nat.one_mul]
    omega
section
variable {c : Cs} {pre post : List Int} {k M : Nat} {W W' : World} {sb : Nat} {dn : List Int} {tv : Value} {ts : List Tn} {r : Row} {xo xh : Value} {q : List (Int × Row)}
theorem St.marked (h : St c pre post k M W sb dn tv ts r xo xh q) {hd : Int} {x : In} (hx : fetch c.L hd = some x) (hs : exe dn k hd.toNat = false) (h2 : Se W' sb (c.up pre post (dn.set hd.toNat ((k : Int) + 1)) tv ts r xo xh q)) :
    St c pre post k M W' sb (dn.set hd.toNat ((k : Int) + 1)) tv ts r xo xh q ∧ exe (dn.set hd.toNat ((k : Int) + 1)) k = mark (exe dn k) hd.toNat ∧ free c.L.length (exe (dn.set hd.toNat ((k : Int) + 1)) k) + 1 = free c.L.length (exe dn k) := by
  have hf := fetch_some hx
  have hl : dn.length = c.L.length := h.se.dlen
  have e := exe_set dn k hd.toNat (by rw [hl]; exact hf.2.1)
  have hm := free_mark c.L.length (exe dn k) hd.toNat hf.2.1 hs
  refine ⟨⟨h2, h.rl, h.ql, ?_, ?_, ?_⟩, e, by rw [e]; exact hm⟩
  · have := h.qn; rw [e]; omega
  · have := h.tn; rw [e]; omega
  · intro n hn
    rcases List.mem_or_eq_of_mem_set hn with hn | rfl
    · exact h.dle n hn
    · exact Int.le_refl _
/-- The row's block, and where in it. -/
theorem St.block (h : St c pre post k M W sb dn tv ts r xo xh q) : ∃ g cap, c.no = .slice (some ⟨g, 0, none⟩) (pre ++ (r ++ post)).length cap := by
  have hw := h.se.tw
  have hr := h.rl
  have hw : 2 ≤ c.wd := hw
  obtain ⟨g, cap, hv, _⟩ := own_some h.se.ono (by show 0 < (pre ++ (r ++ post)).length; simp; omega)
  exact ⟨g, cap, hv⟩
theorem St.keep (h : St c pre post k M W sb dn tv ts r xo xh q) (hb : Below W.heap.size W W') : St c pre post k M W' sb dn tv ts r xo xh q := ⟨h.se.keep hb, h.rl, h.ql, h.qn, h.tn, h.dle⟩
theorem St.left (h : St c pre post k M W sb dn tv ts r xo xh q) : left (blockOf c.dv) k c.L.length W = free c.L.length (exe dn k) := left_is h.se k
/-- The row as it is read. -/
theorem St.rd (h : St c pre post k M W sb dn tv ts r xo xh q) {g cap : Nat} (hv : c.no = .slice (some ⟨g, 0, none⟩) (pre ++ (r ++ post)).length cap) : Rd W (fun i => c.b0 ≤ i ∧ i ≠ sb) (some ⟨g, pre.length, none⟩) (iv r) ∧ xh.ownBlock ≠ some g := by
  have ho := h.se.ono
  have hv2 : (c.up pre post dn tv ts r xo xh q).no = .slice (some ⟨g, 0, none⟩) (pre ++ (r ++ post)).length cap := hv
  have hg := World.ownsRow.lt ho g (by rw [hv2]; rfl)
  rw [hv2] at ho
  refine ⟨fun _ => ⟨_, rfl, hg.2, ⟨hg.1, fun e => h.se.none_ (by show c.no.ownBlock = some sb; rw [hv, ← e]; rfl)⟩, fun j u hu => ?_⟩, ?_⟩
  · rw [Addr.add_lit]
    have hj : j < r.length := by have := (List.getElem?_eq_some_iff.1 hu).1; rwa [iv_len] at this
    have e := World.ownsRow.cellAt ho (pre.length + j) (by show pre.length + j < (pre ++ (r ++ post)).length * 1; simp; omega)
    rw [e, ← hu]
    show (iv (pre ++ (r ++ post)))[pre.length + j]? = _
    rw [iv_append, iv_append, List.getElem?_append_right (by rw [iv_len]; omega), iv_len, Nat.add_sub_cancel_left, List.getElem?_append_left (by rw [iv_len]; exact hj)]
  · have hp := h.se.own.apart
    unfold Cs.own at hp
    simp only [List.pairwise_cons] at hp
    intro e
    have := hp.2.2.1 (oi xh (q.map (·.1))) (by simp [Cs.up]) g (by show c.no.ownBlock = _; rw [hv]; rfl)
    exact this e
/-- .. where its memory lies. -/
theorem set_mid (pre r post : List Int) (j : Nat) (n : Int) (hj : j < r.length) : (pre ++ (r ++ post)).set (pre.length + j) n = pre ++ (r.set j n ++ post) := by
  rw [List.set_append_right _ _ (by omega), Nat.add_sub_cancel_left, List.set_append_left _ _ hj]
theorem getD_mid (pre r post : List Int) (j : Nat) (hj : j < r.length) : (pre ++ (r ++ post)).getD (pre.length + j) 0 = r.getD j 0 := by
  rw [List.getD_eq_getElem?_getD, List.getD_eq_getElem?_getD, List.getElem?_append_right (by omega), Nat.add_sub_cancel_left, List.getElem?_append_left hj]
theorem St.saved (h : St c pre post k M W sb dn tv ts r xo xh q) (hM : ts.length + 1 + free c.L.length (exe dn k) ≤ M) {n : Int} (h0 : 0 ≤ n) (h1 : n < (c.wd : Int)) {tv' : Value} (h2 : Se W' sb { c.up pre post dn tv ts r xo xh q with tv := tv', ts := Tn.again n ((pre ++ (r ++ post)).getD (pre.length + n.toNat) 0) :: ts, nofs := (pre ++ (r ++ post)).set (pre.length + n.toNat) (k : Int) }) :
    St c pre post k M W' sb dn tv' (Tn.again n (r.getD n.toNat 0) :: ts) (put r n k) xo xh q := by
  have hr := h.rl
  rw [getD_mid pre r post n.toNat (by omega), set_mid pre r post n.toNat (k : Int) (by omega)] at h2
  have hp : put r n k = r.set n.toNat (k : Int) := by unfold put; rw [if_pos ⟨h0, by omega⟩]
  exact ⟨by rw [hp]; exact h2, by rw [put_len]; exact hr, h.ql, h.qn, by rw [List.length_cons]; omega, h.dle⟩
theorem St.pushed (h : St c pre post k M W sb dn tv ts r xo xh q) (hM : ts.length + 1 + free c.L.length (exe dn k) ≤ M) {a : Tn} {tv' : Value} (h2 : Se W' sb { c.up pre post dn tv ts r xo xh q with tv := tv', ts := a :: ts }) :
    St c pre post k M W' sb dn tv' (a :: ts) r xo xh q := ⟨h2, h.rl, h.ql, h.qn, by rw [List.length_cons]; omega, h.dle⟩
theorem St.added (h : St c pre post k M W sb dn tv ts r xo xh q) (hq : q.length + 1 + free c.L.length (exe dn k) ≤ c.L.length) {n : Int} {v1 v2 : Value} (h2 : Se W' sb { c.up pre post dn tv ts r xo xh q with xo := v1, xh := v2, xofs := q.flatMap (·.2) ++ r, xhds := q.map (·.1) ++ [n] }) :
    St c pre post k M W' sb dn tv ts r v1 v2 (q ++ [(n, r)]) := by
  refine ⟨?_, h.rl, ?_, by rw [List.length_append, List.length_singleton]; omega, h.tn, h.dle⟩
  · unfold Cs.up at h2 ⊢
    rw [List.flatMap_append, List.map_append]
    simpa using h2
  · intro e he
    rcases List.mem_append.1 he with he | he
    · exact h.ql e he
    · rw [List.mem_singleton.1 he]; exact h.rl
/-- What a run leaves: true: a Match, false: the path has ended. -/
def Ran (c : Cs) (pre post : List Int) (k M : Nat) (W : World) (sb : Nat) (R : Res1) (b : Bool) (W' : World) : Prop :=
  Below c.b0 W W' ∧ ∃ dn tv ts r xo xh q, St c pre post k M W' sb dn tv ts r xo xh q ∧ (if b then R = (exe dn k, q, some r) else due c.L c.t k (exe dn k) q (den r ts) = R)
end
end Pk
end Go.Proofs.Ytedppnejkjcplaa
