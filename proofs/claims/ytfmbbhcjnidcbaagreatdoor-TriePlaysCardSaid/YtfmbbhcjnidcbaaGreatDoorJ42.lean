/-
  TrHits: CONTRACTS: package trie: hitsOf: the finds sorted, each of them as its hits.
-/
import Derived.Test.YtfmbbhcjnidcbaaGreatDoorJ41

namespace Go.Proofs.YtfmbbhcjnidcbaaGreatDoor
open Go.RowKit Go.Shelf
open Me
namespace Tr
def hvs (L : List DH) : List Value := L.flatMap fun h => [.string ⟨h.1.toArray⟩, .bool h.2]
theorem hvs_len (L : List DH) : (hvs L).length = L.length * 2 := by
  unfold hvs
  induction L with
  | nil => rfl
  | cons a r ih => rw [List.flatMap_cons, List.length_append, ih, List.length_cons]; simp; omega
theorem hvs_append (L M : List DH) : hvs (L ++ M) = hvs L ++ hvs M := by unfold hvs; simp
theorem hvs_snoc (L : List DH) (h : DH) : hvs (L ++ [h]) = hvs L ++ [.string ⟨h.1.toArray⟩, .bool h.2] := by unfold hvs; simp
theorem hvs_get : ∀ (L : List DH) (k : Nat) (h : k < L.length), (hvs L)[k * 2]? = some (.string ⟨L[k].1.toArray⟩) ∧ (hvs L)[k * 2 + 1]? = some (.bool L[k].2)
  | a :: r, 0, _ => ⟨rfl, rfl⟩
  | a :: r, k + 1, h => by
    obtain ⟨h1, h2⟩ := hvs_get r k (by simpa using h)
    have e : hvs (a :: r) = .string ⟨a.1.toArray⟩ :: .bool a.2 :: hvs r := rfl
    refine ⟨?_, ?_⟩
    · rw [e, show (k + 1) * 2 = k * 2 + 1 + 1 by omega, List.getElem?_cons_succ, List.getElem?_cons_succ, h1]; rfl
    · rw [e, show (k + 1) * 2 + 1 = k * 2 + 1 + 1 + 1 by omega, List.getElem?_cons_succ, List.getElem?_cons_succ, h2]; rfl
def OwnH (base : Nat) (w : World) (v : Value) (L : List DH) : Prop := w.ownsRow base 67 2 v L.length (hvs L)
theorem OwnH.nil (base : Nat) (w : World) : OwnH base w (.slice none 0 0) [] := ⟨rfl, .inl ⟨rfl, rfl⟩⟩
theorem hitinfo : (Tryz.prog.info? 67).map (fun i => (i.zero, i.size, i.bytes)) = some (some (.agg #[.string ⟨#[]⟩, .bool false]), 2, 24) := by kernel_rfl
/-- How many branches, wherever the map is read. -/
theorem Mp.size {w : World} {mb : Option Nat} {k : Nat} {m : List UInt8 → Option Nat} (h : Mp w mb k m) :
    ∃ s : Nat, s ≤ k ∧ (∀ ty W, (∀ b, mb = some b → W.heap[b]? = w.heap[b]?) → (Builtin.len_ #[46] ty #[.map mb]).run Tryz.prog W = .ok (.int .i64 s) W) ∧ (s = 0 ↔ ∀ n, m n = none) := by
  obtain ⟨s, h1, h2, h3⟩ := h.len
  refine ⟨s, h1, fun ty W hW => ?_, h3⟩
  obtain ⟨s', _, h2', _⟩ := (h.keep hW).len
  rcases h with ⟨rfl, _⟩ | ⟨b, D, rfl, hown, _⟩
  · have e1 := h2 0
    rw [Maps.len_nil Tryz.underlying46 0] at e1
    cases e1
    exact Maps.len_nil Tryz.underlying46 ty
  · have e1 := h2 0
    rw [hown.len Tryz.underlying46 0] at e1
    cases e1
    obtain ⟨es, clock, hb, rest⟩ := hown
    have hown' : W.ownsMap Tryz.prog 9 ptrR b k D := ⟨es, clock, (hW b rfl).trans hb, rest⟩
    exact hown'.len Tryz.underlying46 ty
/-- What a find reads: its branch's cells, how many branches it has. -/
structure FdAt (F : Ns) (w : World) (fb : Nat) (p : Path) (mb : Option Nat) (s : Nat) (lf : Bool) : Prop where
  c0 : w.cell? ⟨fb, 0, none⟩ = some (.map mb)
  c1 : w.cell? ⟨fb, 1, none⟩ = some (.bool lf)
  lt : fb < w.heap.size
  mlt : ∀ b, mb = some b → b < w.heap.size
  len : ∀ ty W, (∀ b, mb = some b → W.heap[b]? = w.heap[b]?) → (Builtin.len_ #[46] ty #[.map mb]).run Tryz.prog W = .ok (.int .i64 s) W
  br : isBr F p = decide (0 < s)
  lf : isLeaf F p = lf
  s9 : s ≤ 1099511627776
theorem FdAt.mk' {w : World} {T0 : TypeId} {x0 : Value} {c : Nat} {F : Ns} (hT : Tree w T0 x0 c F) (hc9 : c ≤ 1099511627776) {p : Path} {n : Nd} (hn : F p = some n) (hp : p ≠ []) : ∃ mb s, FdAt F w n.b p mb s n.lf := by
  obtain ⟨s, h1, h2, h3⟩ := Mp.size (hT.map p n hn)
  refine ⟨n.mb, s, (hT.cell hn).1, (hT.leafc hn hp).1, (hT.cell hn).2.2, fun b hb => ((hT.map p n hn).lt hb).1, h2, ?_, isLeaf_of hn, by omega⟩
  cases e : isBr F p with
  | true =>
    obtain ⟨k, hk⟩ := isBr_iff.1 e
    refine (decide_eq_true ?_).symm
    rcases Nat.eq_zero_or_pos s with h0 | h0
    · have := h3.1 h0 k
      cases e2 : F (p ++ [k]) with
      | none => exact absurd e2 hk
      | some y => rw [e2] at this; cases this
    · exact h0
  | false =>
    refine (decide_eq_false ?_).symm
    intro h0
    have h4 : ¬ ∃ k, F (p ++ [k]) ≠ none := fun h => by rw [isBr_iff.2 h] at e; cases e
    have h5 : s = 0 := h3.2 fun k => by
      cases e2 : F (p ++ [k]) with
      | none => rfl
      | some y => exact absurd ⟨k, by rw [e2]; simp⟩ h4
    omega
theorem FdAt.below {F : Ns} {w W : World} {fb : Nat} {p : Path} {mb : Option Nat} {s : Nat} {lf : Bool} (h : FdAt F w fb p mb s lf) (hb : Below w.heap.size w W) : FdAt F W fb p mb s lf :=
  { h with
    c0 := (hb.cell (p := ⟨fb, 0, none⟩) h.lt).trans h.c0
    c1 := (hb.cell (p := ⟨fb, 1, none⟩) h.lt).trans h.c1
    lt := Nat.lt_of_lt_of_le h.lt hb.size
    mlt := fun b hm => Nat.lt_of_lt_of_le (h.mlt b hm) hb.size
    len := fun ty W' hW => h.len ty W' fun b hm => (hW b hm).trans (hb.block b (h.mlt b hm)) }
theorem hits_step (F : Ns) (qs : List Path) (j : Nat) (h : j < qs.length) : hitsAll (isBr F) (isLeaf F) (qs.take (j + 1)) = hitsAll (isBr F) (isLeaf F) (qs.take j) ++ hitsOf (isBr F) (isLeaf F) qs[j] := by
  rw [List.take_succ_eq_append_getElem h, hitsAll_snoc]
/-- The finds, sorted, as hitsOf reads them. -/
structure Sd (F : Ns) (w : World) (g : Nat) (L : List Fd) : Prop where
  gl : g < w.heap.size
  c0 : ∀ j (h : j < L.length), w.cell? ⟨g, j * 2, none⟩ = some (.pointer (some ⟨L[j].b, 0, none⟩))
  c1 : ∀ j (h : j < L.length), w.cell? ⟨g, j * 2 + 1, none⟩ = some L[j].v
  own : ∀ j (h : j < L.length), ∃ b fg fc, L[j].v = .slice (some ⟨fg, 0, none⟩) L[j].q.length fc ∧ OwnS b w L[j].v L[j].q
  fd : ∀ j (h : j < L.length), ∃ mb s lf, FdAt F w L[j].b L[j].q mb s lf
  len : ∀ j (h : j < L.length), (Nm.jn L[j].q).length ≤ 1048576 ∧ L[j].q.length ≤ 1048576
/-- A find in its box. -/
structure Bx (w1 W : World) (bb fb : Nat) (fv : Value) : Prop where
  c0 : W.cell? ⟨bb, 0, none⟩ = some (.pointer (some ⟨fb, 0, none⟩))
  c1 : W.cell? ⟨bb, 1, none⟩ = some fv
  lt : bb < W.heap.size
  ge : w1.heap.size ≤ bb
  b : Below w1.heap.size w1 W
theorem Bx.start {w1 wr : World} (fb : Nat) (fv : Value) (hB : Below w1.heap.size w1 wr) : Bx w1 (wr.alloc (.cells #[.pointer (some ⟨fb, 0, none⟩), fv] 80)) wr.heap.size fb fv :=
  ⟨cells_new wr [.pointer (some ⟨fb, 0, none⟩), fv] 80 0 _ rfl, cells_new wr [.pointer (some ⟨fb, 0, none⟩), fv] 80 1 _ rfl, by simp, hB.size, hB.alloc hB.size _⟩
theorem Bx.below {w1 W W' : World} {bb fb : Nat} {fv : Value} (h : Bx w1 W bb fb fv) (hb : Below W.heap.size W W') : Bx w1 W' bb fb fv :=
  ⟨(hb.cell (p := ⟨bb, 0, none⟩) h.lt).trans h.c0, (hb.cell (p := ⟨bb, 1, none⟩) h.lt).trans h.c1, Nat.lt_of_lt_of_le h.lt hb.size, h.ge, h.b.trans (hb.mono h.b.size)⟩
theorem Bx.app {w1 W W' : World} {bb fb : Nat} {fv : Value} (h : Bx w1 W bb fb fv) {e : TypeId} {s n j : Nat} {v v' : Value} {xs news : List Value} (ha : App W w1.heap.size e s v n xs j news v' W') (hv : v.ownBlock ≠ some bb) : Bx w1 W' bb fb fv := by
  have hk := app_kp ha
  exact ⟨(hk.cell (p := ⟨bb, 0, none⟩) h.lt hv).trans h.c0, (hk.cell (p := ⟨bb, 1, none⟩) h.lt hv).trans h.c1, Nat.lt_of_lt_of_le h.lt hk.size, h.ge, App.below ha h.b h.b.size⟩
theorem OwnH.push {base : Nat} {W W' : World} {v v' : Value} {L : List DH} {nm : List UInt8} {b : Bool} (ha : App W base 67 2 v L.length (hvs L) 1 [.string ⟨nm.toArray⟩, .bool b] v' W') : OwnH base W' v' (L ++ [(nm, b)]) := by
  unfold OwnH
  rw [List.length_append, List.length_singleton, hvs_snoc]
  exact ha.own
theorem app_off {w : World} {base : Nat} {e : TypeId} {s n m bb : Nat} {v v' : Value} {xs news : List Value} {w' : World} (h : App w base e s v n xs m news v' w') (hv : v.ownBlock ≠ some bb) (hb : bb < w.heap.size) : v'.ownBlock ≠ some bb := fun e => by
  rcases h.lt bb e with h1 | h1
  · exact hv h1
  · omega
end Tr

set_option maxRecDepth 100000 in
set_option maxHeartbeats 2000000 in
/-- The finds are sorted; what is left. -/
theorem hits_at {w : World} {F : Tr.Ns} {g cap : Nat} {L : List Tr.Fd} (h9 : L.length ≤ 513) {Q : List Tr.Fd → World → Prop} (HSo : Hid (Calls Tryz.prog 41 #[.slice (some ⟨g, 0, none⟩) L.length cap, .func (.func 42) #[] #[]] w fun e w1 => e = .returned (.tuple #[]) ∧ ∃ L' : List Tr.Fd, L'.length = L.length ∧ Tr.Sd F w1 g L' ∧ Q L' w1)) :
    Calls Tryz.prog 26 #[.slice (some ⟨g, 0, none⟩) L.length cap] w fun e w' => ∃ v L' w1, e = .returned v ∧ Q L' w1 ∧ Tr.OwnH w1.heap.size w' v (Tr.hitsAll (Tr.isBr F) (Tr.isLeaf F) (L'.map (·.q))) ∧ Below w1.heap.size w1 w' := by
  obtain ⟨j0, hj0, hy0, hy1, hy2⟩ := info_parts Tr.hitinfo
  have HJ := Lib.hid hj0
  have HY := Lib.hid (And.intro hy0 (And.intro hy1 hy2))
  go_enter Tryz.func26, Tryz.ntmps26
  go_wp2_with (go_at_call 41; go_must (refine HSo.out.mono ?_; rintro e w1 ⟨rfl, L', hL, hS, hQ⟩))
  have HS := Lib.hid hS
  have HSt : Hid (∀ j (h : j < L'.length), Tr.hitsAll (Tr.isBr F) (Tr.isLeaf F) ((L'.map (·.q)).take (j + 1)) = Tr.hitsAll (Tr.isBr F) (Tr.isLeaf F) ((L'.map (·.q)).take j) ++ Tr.hitsOf (Tr.isBr F) (Tr.isLeaf F) L'[j].q) := Lib.hid fun j h => by
    have := Tr.hits_step F (L'.map (·.q)) j (by simpa using h)
    rwa [List.getElem_map] at this
  have HLe : Hid (∀ j, j ≤ L'.length → (Tr.hitsAll (Tr.isBr F) (Tr.isLeaf F) ((L'.map (·.q)).take j)).length ≤ 1026) := Lib.hid fun j h => by
    have := Tr.hitsAll_le (Tr.isBr F) (Tr.isLeaf F) ((L'.map (·.q)).take j)
    rw [List.length_take, List.length_map] at this
    omega
  have hall : Hid ((L'.map (·.q)).take L'.length = L'.map (·.q)) := Lib.hid (by rw [List.take_of_length_le (by simp)])
  clear hS hj0 hy0 hy1 hy2
  have hfin : Hid (∀ v w', Tr.OwnH w1.heap.size w' v (Tr.hitsAll (Tr.isBr F) (Tr.isLeaf F) (L'.map (·.q))) → Below w1.heap.size w1 w' → ∃ v0 L' w1, Ending.returned v = .returned v0 ∧ Q L' w1 ∧ Tr.OwnH w1.heap.size w' v0 (Tr.hitsAll (Tr.isBr F) (Tr.isLeaf F) (L'.map (·.q))) ∧ Below w1.heap.size w1 w') := Lib.hid fun v w' h1 h2 => ⟨v, L', w1, rfl, hQ, h1, h2⟩
  clear hQ
  generalize L'.map (·.q) = qs at *
  rw [← hL] at h9 ⊢
  clear HSo
  clear hL L
  go_loopw [3, 10] (fun lv i wr => ∃ (j : Nat) (v : Value), v = lv ∧ j ≤ L'.length ∧ i = .int .i64 j ∧ Hid (Tr.OwnH w1.heap.size wr v (Tr.hitsAll (Tr.isBr F) (Tr.isLeaf F) (qs.take j))) ∧ Hid (Below w1.heap.size w1 wr)) (fun _ i _ => L'.length - (intOf i).toNat)
  case atStart => exact ⟨0, _, rfl, Nat.zero_le _, rfl, Lib.hid (Tr.OwnH.nil _ _), Lib.hid (Below.refl _ _)⟩
  case round =>
    obtain ⟨j, v, rfl, hj, rfl, HO, HB⟩ := hrel
    have hj0 : (0 : Int) ≤ (j : Int) := by omega
    have hbs := HB.out.size
    by_cases hlt : j < L'.length
    · have hjl : (j : Int) < (L'.length : Int) := by omega
      obtain ⟨b0, fg, fc, hv, ho⟩ := HS.out.own j hlt
      obtain ⟨mb, s, lf, hfd⟩ := HS.out.fd j hlt
      obtain ⟨hn1, hn2⟩ := HS.out.len j hlt
      have ec0 := (HB.out.cell (p := ⟨g, j * 2, none⟩) HS.out.gl).trans (HS.out.c0 j hlt)
      have ec1 := (HB.out.cell (p := ⟨g, j * 2 + 1, none⟩) HS.out.gl).trans (HS.out.c1 j hlt)
      rw [hv] at ec1 ho
      have hst := HSt.out j hlt
      have hle := HLe.out j hj
      have HJn : Hid (∀ W, Below w1.heap.size w1 W → Calls Tryz.prog 44 #[.slice (some ⟨fg, 0, none⟩) L'[j].q.length fc] W fun e w' => e = .returned (.string ⟨(Nm.jn L'[j].q).toArray⟩) ∧ Below W.heap.size W w') := Lib.hid fun W h => Tr.join_own L'[j].q (by omega) hn2 b0 W _ fc (ho.below h)
      have hbr := hfd.br
      have hlf := hfd.lf
      unfold Tr.hitsOf at hst
      rw [hbr, hlf] at hst
      have HFd := Lib.hid (hfd.below HB.out)
      have HF1 := Lib.hid hfd
      clear hv ho hfd hbr hlf hn1 hn2
      generalize L'[j].b = fb at *
      generalize L'[j].q = p at *
      generalize Tr.hitsAll (Tr.isBr F) (Tr.isLeaf F) (qs.take j) = Hj at *
      generalize Nm.jn p = nm at *
      generalize p.length = pl at *
      have HBx := Lib.hid (Tr.Bx.start fb (.slice (some ⟨fg, 0, none⟩) pl fc) HB.out)
      have HCl : Hid (∀ W, Below w1.heap.size w1 W → W.cell? ⟨fb, 0, none⟩ = some (.map mb) ∧ W.cell? ⟨fb, 1, none⟩ = some (.bool lf) ∧ ∀ ty, (Builtin.len_ #[46] ty #[.map mb]).run Tryz.prog W = .ok (.int .i64 s) W) := Lib.hid fun W h => ⟨(HF1.out.below h).c0, (HF1.out.below h).c1, fun ty => (HF1.out.below h).len ty W fun _ _ => rfl⟩
      obtain ⟨x0, x1, x2⟩ := HCl.out _ HBx.out.b
      have HOb : Hid (Tr.OwnH w1.heap.size (wr.alloc (.cells #[.pointer (some ⟨fb, 0, none⟩), .slice (some ⟨fg, 0, none⟩) pl fc] 80)) v Hj) := Lib.hid (Tr.owns_below HO.out ((Below.refl _ _).alloc (Nat.le_refl _) _) rfl)
      have hvb : v.ownBlock ≠ some wr.heap.size := fun e => by have := (World.ownsRow.lt HO.out _ e).2; omega
      have HVb := Lib.hid hvb
      by_cases hs : 0 < s
      · have hsI : (0 : Int) < (s : Int) := by omega
        cases lf
        · have HSn : Hid (Tr.hitsAll (Tr.isBr F) (Tr.isLeaf F) (qs.take (j + 1)) = Hj ++ [(nm, false)]) := Lib.hid (by rw [hst]; simp [hs])
          clear hst HO
          go_wp2_with first
            | (have hq := HBx.out.b; go_at_call 44; go_must (refine (HJn.out _ hq).mono ?_; rintro e w3 ⟨rfl, hb3⟩; have HBx3 := Lib.hid (HBx.out.below hb3); have HO3 := Lib.hid (Tr.owns_below HOb.out hb3 rfl); have hb3s := HBx3.out.b.size; clear hq))
            | (have hq := HO3.out; at_builtin; go_must (refine wpList_push _ rfl _ _ 36 rfl w1.heap.size 67 j0 _ 2 24 Tryz.underlying36 HJ.out HY.out.1 HY.out.2.1 HY.out.2.2 rfl (by decide) v (Hj).length (Tr.hvs (Hj)) rfl (Tr.owns_below HO3.out ((Below.refl _ _).alloc (Nat.le_refl _) _) rfl) ⟨w3.heap.size, 0, none⟩ 1 1 [.string ⟨nm.toArray⟩, .bool false] rfl rfl (cells_new w3 [.string ⟨nm.toArray⟩, .bool false] 67) (fun u hu => by simp at hu; rcases hu with rfl | rfl <;> rfl) (by decide) (by unfold maxLen; (try simp only [List.length_append, List.length_singleton]); omega) (by (try simp only [List.length_append, List.length_singleton]); omega) (by simp; omega) ?_; intro v4 w4 hA4; have HBx4 := Lib.hid ((HBx3.out.below ((Below.refl _ _).alloc (Nat.le_refl _) _)).app hA4 HVb.out); have HV4 := Lib.hid (Tr.app_off hA4 HVb.out (Nat.lt_of_lt_of_le HBx3.out.lt (by simp))); have HO4 := Lib.hid (Tr.OwnH.push hA4); obtain ⟨z40, z41, z42⟩ := HCl.out _ HBx4.out.b; have z43 := HBx4.out.c0; have z44 := HBx4.out.c1; clear hq hA4))
          go_roundw
          case rel => exact ⟨j + 1, v4, rfl, by omega, by go_num, by rw [HSn.out]; exact HO4, Lib.hid HBx4.out.b⟩
          case measure => simp [intOf]; omega
        · have HSn : Hid (Tr.hitsAll (Tr.isBr F) (Tr.isLeaf F) (qs.take (j + 1)) = Hj ++ [(nm, false)] ++ [(nm, true)]) := Lib.hid (by rw [hst]; simp [hs])
          clear hst HO
          go_wp2_with first
            | (have hq := HO6.out; at_builtin; go_must (refine wpList_push _ rfl _ _ 36 rfl w1.heap.size 67 j0 _ 2 24 Tryz.underlying36 HJ.out HY.out.1 HY.out.2.1 HY.out.2.2 rfl (by decide) v4 (Hj ++ [(nm, false)]).length (Tr.hvs (Hj ++ [(nm, false)])) rfl (Tr.owns_below HO6.out ((Below.refl _ _).alloc (Nat.le_refl _) _) rfl) ⟨w6.heap.size, 0, none⟩ 1 1 [.string ⟨nm.toArray⟩, .bool true] rfl rfl (cells_new w6 [.string ⟨nm.toArray⟩, .bool true] 67) (fun u hu => by simp at hu; rcases hu with rfl | rfl <;> rfl) (by decide) (by unfold maxLen; (try simp only [List.length_append, List.length_singleton]); omega) (by (try simp only [List.length_append, List.length_singleton]); omega) (by simp; omega) ?_; intro v7 w7 hA7; have HBx7 := Lib.hid ((HBx6.out.below ((Below.refl _ _).alloc (Nat.le_refl _) _)).app hA7 HV4.out); have HV7 := Lib.hid (Tr.app_off hA7 HV4.out (Nat.lt_of_lt_of_le HBx6.out.lt (by simp))); have HO7 := Lib.hid (Tr.OwnH.push hA7); obtain ⟨z70, z71, z72⟩ := HCl.out _ HBx7.out.b; have z73 := HBx7.out.c0; have z74 := HBx7.out.c1; clear hq hA7))
            | (have hq := HBx4.out.b; go_at_call 44; go_must (refine (HJn.out _ hq).mono ?_; rintro e w6 ⟨rfl, hb6⟩; have HBx6 := Lib.hid (HBx4.out.below hb6); have HO6 := Lib.hid (Tr.owns_below HO4.out hb6 rfl); have hb6s := HBx6.out.b.size; clear hq))
            | (have hq := HO3.out; at_builtin; go_must (refine wpList_push _ rfl _ _ 36 rfl w1.heap.size 67 j0 _ 2 24 Tryz.underlying36 HJ.out HY.out.1 HY.out.2.1 HY.out.2.2 rfl (by decide) v (Hj).length (Tr.hvs (Hj)) rfl (Tr.owns_below HO3.out ((Below.refl _ _).alloc (Nat.le_refl _) _) rfl) ⟨w3.heap.size, 0, none⟩ 1 1 [.string ⟨nm.toArray⟩, .bool false] rfl rfl (cells_new w3 [.string ⟨nm.toArray⟩, .bool false] 67) (fun u hu => by simp at hu; rcases hu with rfl | rfl <;> rfl) (by decide) (by unfold maxLen; (try simp only [List.length_append, List.length_singleton]); omega) (by (try simp only [List.length_append, List.length_singleton]); omega) (by simp; omega) ?_; intro v4 w4 hA4; have HBx4 := Lib.hid ((HBx3.out.below ((Below.refl _ _).alloc (Nat.le_refl _) _)).app hA4 HVb.out); have HV4 := Lib.hid (Tr.app_off hA4 HVb.out (Nat.lt_of_lt_of_le HBx3.out.lt (by simp))); have HO4 := Lib.hid (Tr.OwnH.push hA4); obtain ⟨z40, z41, z42⟩ := HCl.out _ HBx4.out.b; have z43 := HBx4.out.c0; have z44 := HBx4.out.c1; clear hq hA4))
            | (have hq := HBx.out.b; go_at_call 44; go_must (refine (HJn.out _ hq).mono ?_; rintro e w3 ⟨rfl, hb3⟩; have HBx3 := Lib.hid (HBx.out.below hb3); have HO3 := Lib.hid (Tr.owns_below HOb.out hb3 rfl); have hb3s := HBx3.out.b.size; clear hq))
          go_roundw
          case rel => exact ⟨j + 1, v7, rfl, by omega, by go_num, by rw [HSn.out]; exact HO7, Lib.hid HBx7.out.b⟩
          case measure => simp [intOf]; omega
      · have hsI : ¬ (0 : Int) < (s : Int) := by omega
        cases lf
        · have HSn : Hid (Tr.hitsAll (Tr.isBr F) (Tr.isLeaf F) (qs.take (j + 1)) = Hj) := Lib.hid (by rw [hst]; simp [hs])
          clear hst HO
          go_wp2_with fail
          go_roundw
          case rel => exact ⟨j + 1, v, rfl, by omega, by go_num, by rw [HSn.out]; exact HOb, Lib.hid HBx.out.b⟩
          case measure => simp [intOf]; omega
        · have HSn : Hid (Tr.hitsAll (Tr.isBr F) (Tr.isLeaf F) (qs.take (j + 1)) = Hj ++ [(nm, true)]) := Lib.hid (by rw [hst]; simp [hs])
          clear hst HO
          go_wp2_with first
            | (have hq := HBx.out.b; go_at_call 44; go_must (refine (HJn.out _ hq).mono ?_; rintro e w3 ⟨rfl, hb3⟩; have HBx3 := Lib.hid (HBx.out.below hb3); have HO3 := Lib.hid (Tr.owns_below HOb.out hb3 rfl); have hb3s := HBx3.out.b.size; clear hq))
            | (have hq := HO3.out; at_builtin; go_must (refine wpList_push _ rfl _ _ 36 rfl w1.heap.size 67 j0 _ 2 24 Tryz.underlying36 HJ.out HY.out.1 HY.out.2.1 HY.out.2.2 rfl (by decide) v (Hj).length (Tr.hvs (Hj)) rfl (Tr.owns_below HO3.out ((Below.refl _ _).alloc (Nat.le_refl _) _) rfl) ⟨w3.heap.size, 0, none⟩ 1 1 [.string ⟨nm.toArray⟩, .bool true] rfl rfl (cells_new w3 [.string ⟨nm.toArray⟩, .bool true] 67) (fun u hu => by simp at hu; rcases hu with rfl | rfl <;> rfl) (by decide) (by unfold maxLen; (try simp only [List.length_append, List.length_singleton]); omega) (by (try simp only [List.length_append, List.length_singleton]); omega) (by simp; omega) ?_; intro v4 w4 hA4; have HBx4 := Lib.hid ((HBx3.out.below ((Below.refl _ _).alloc (Nat.le_refl _) _)).app hA4 HVb.out); have HV4 := Lib.hid (Tr.app_off hA4 HVb.out (Nat.lt_of_lt_of_le HBx3.out.lt (by simp))); have HO4 := Lib.hid (Tr.OwnH.push hA4); obtain ⟨z40, z41, z42⟩ := HCl.out _ HBx4.out.b; have z43 := HBx4.out.c0; have z44 := HBx4.out.c1; clear hq hA4))
          go_roundw
          case rel => exact ⟨j + 1, v4, rfl, by omega, by go_num, by rw [HSn.out]; exact HO4, Lib.hid HBx4.out.b⟩
          case measure => simp [intOf]; omega
    · obtain rfl : j = L'.length := by omega
      rw [hall.out] at HO
      go_wp2
      go_ret
      exact hfin.out _ _ HO.out HB.out

set_option maxRecDepth 100000 in
set_option maxHeartbeats 1000000 in
theorem hits_none (p : Option Addr) (cap : Nat) (w : World) :
    Calls Tryz.prog 26 #[.slice p 0 cap] w fun e w' => e = .returned (.slice none 0 0) ∧ w' = w := by
  have HSo := Lib.hid (AnyF.slices_SortFunc_none (P := Tryz.prog) Tryz.trSortF p cap (.func (.func 42) #[] #[]) w)
  go_enter Tryz.func26, Tryz.ntmps26
  go_wp2_with (go_at_call 41; go_must (refine HSo.out.mono ?_; rintro e w1 ⟨rfl, hw⟩; rw [hw]; clear hw w1))
  clear HSo
  go_loopw [3, 10] (fun lv i wr => lv = .slice none 0 0 ∧ i = .int .i64 0 ∧ wr = w) (fun _ _ _ => 0)
  case atStart => exact ⟨rfl, rfl, rfl⟩
  case round =>
    obtain ⟨rfl, rfl, rfl⟩ := hrel
    go_wp2
    go_ret
    exact ⟨rfl, rfl⟩

namespace Tr
theorem hitsOf_any {base : Nat} {w : World} {T0 : TypeId} {x0 : Value} {c : Nat} {F : Ns} (hT : Tree w T0 x0 c F) (hc9 : c ≤ 1099511627776) (hfb : ∀ i, own F i → i < base) (hbs : base ≤ w.heap.size) (L : List Fd) {vl : Value} (ho : OwnF base w vl L) (hfs : ∀ f ∈ L, OwnS base w f.v f.q)
    (hF : ∀ f ∈ L, ∃ n, F f.q = some n ∧ n.b = f.b) (hq : ∀ f ∈ L, f.q ≠ [] ∧ f.q.length ≤ 1048576 ∧ (Nm.jn f.q).length ≤ 1048576) (hn : (L.map (·.q)).Nodup) (h9 : L.length ≤ 513) :
    Calls Tryz.prog 26 #[vl] w fun e w' => ∃ v qs, e = .returned v ∧ qs.Perm (L.map (·.q)) ∧ qs.Pairwise (fun a b => ltP a b = true) ∧ OwnH w.heap.size w' v (hitsAll (isBr F) (isLeaf F) qs) ∧ Below base w w' := by
  by_cases h0 : L = []
  · subst h0
    obtain ⟨A, cap, rfl⟩ := row_form ho
    refine (hits_none A cap w).mono ?_
    rintro e w' ⟨rfl, rfl⟩
    exact ⟨_, [], rfl, List.Perm.refl _, List.Pairwise.nil, OwnH.nil _ _, Below.refl _ _⟩
  · obtain ⟨g, cap, rfl⟩ := row_form1 ho (List.length_pos_iff.2 h0)
    have hS := sortFinds L h0 ho hfs (fun f hf => ⟨(hq f hf).1, (hq f hf).2.1⟩) hn (by omega)
    refine (hits_at (F := F) h9 (Q := fun L' w1 => L'.Perm L ∧ L'.Pairwise (fun a b => ltP a.q b.q = true) ∧ Below base w w1) (Lib.hid (hS.mono ?_))).mono ?_
    · rintro e w1 ⟨he, L', hp, hs, hc, hk⟩
      refine ⟨he, L', hp.length_eq, ?_, hp, hs, hk.below hbs fun i hib hi => by have := (World.ownsRow.lt ho g rfl).1; omega⟩
      have hmem : ∀ j (h : j < L'.length), L'[j] ∈ L := fun j h => hp.subset (List.getElem_mem h)
      have hT1 : Tree w1 T0 x0 c F := hT.keep fun i hi => hk.block i (hT.lt hi) fun e => by have := hfb i hi; have := (World.ownsRow.lt ho g rfl).1; omega
      refine ⟨Nat.lt_of_lt_of_le (World.ownsRow.lt ho g rfl).2 hk.size, fun j h => (hc j h).1, fun j h => (hc j h).2, fun j h => ?_, fun j h => ?_, fun j h => ⟨(hq _ (hmem j h)).2.2, (hq _ (hmem j h)).2.1⟩⟩
      · have h1 := hfs _ (hmem j h)
        obtain ⟨fg, fc, e⟩ := OwnS.form h1 (List.length_pos_iff.2 (hq _ (hmem j h)).1)
        refine ⟨base, fg, fc, e, owns_keep h1 fun g' hg' => hk.block g' (own_at h1 hg').2 fun e2 => ?_⟩
        subst e2
        exact rows_ne h1 ho ne_str_find hg' rfl
      · obtain ⟨n, hn, hb⟩ := hF _ (hmem j h)
        obtain ⟨mb, s, hfd⟩ := FdAt.mk' hT1 hc9 hn (hq _ (hmem j h)).1
        rw [hb] at hfd
        exact ⟨mb, s, _, hfd⟩
    · rintro e w' ⟨v, L', w1, he, ⟨hp, hs, hb⟩, ho', hb'⟩
      have ho2 : OwnH w.heap.size w' v (hitsAll (isBr F) (isLeaf F) (L'.map (·.q))) := owns_base ho' hb.size
      exact ⟨v, L'.map (·.q), he, hp.map _, List.pairwise_map.2 hs, ho2, hb.trans (hb'.mono (Nat.le_trans hbs hb.size))⟩
end Tr
end Go.Proofs.YtfmbbhcjnidcbaaGreatDoor
