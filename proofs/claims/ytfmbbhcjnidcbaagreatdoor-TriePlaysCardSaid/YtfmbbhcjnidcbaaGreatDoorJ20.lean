/-
  TrNmP: What names builds, outside of its walk: paths in order; rows that grow beside a row that is read.
-/
import Derived.Test.YtfmbbhcjnidcbaaGreatDoorJ18
import Derived.Test.YtfmbbhcjnidcbaaGreatDoorJ19

namespace Go.Proofs.YtfmbbhcjnidcbaaGreatDoor
open Go.RowKit
open Me
namespace Tr

/-- The leaves behind q whose next part is one of K, in order. -/
def Part (F : Ns) (q : Path) (K : List (List UInt8)) (ps : List Path) : Prop := ps.Pairwise (fun a b => ltP a b = true) ∧ ∀ x, x ∈ ps ↔ isLeaf F x = true ∧ ∃ k ∈ K, q ++ [k] <+: x
theorem Part.start (F : Ns) (q : Path) : Part F q [] [] := ⟨List.Pairwise.nil, fun x => by simp⟩
theorem pre_snoc_inj {q x : Path} {k k' : List UInt8} (h : q ++ [k] <+: x) (h' : q ++ [k'] <+: x) : k = k' := by
  have h3 := List.prefix_of_prefix_length_le h h' (by simp)
  exact (snoc_inj (h3.eq_of_length (by simp))).2
theorem lt_of_pre {q x x' : Path} {k k' : List UInt8} (h : q ++ [k] <+: x) (h' : q ++ [k'] <+: x') (hl : k < k') : ltP x x' = true := by
  obtain ⟨r, rfl⟩ := h
  obtain ⟨r', rfl⟩ := h'
  rw [List.append_assoc, List.append_assoc]
  exact ltP_parts q r r' hl
theorem lt_of_beh {q x : Path} (h : Beh q x) : ltP q x = true := by
  obtain ⟨⟨r, rfl⟩, h2⟩ := h
  cases r with
  | nil => exact absurd (List.append_nil q) h2
  | cons a r => exact ltP_ahead q a r
theorem Part.step {F : Ns} {q : Path} {K : List (List UInt8)} {ps psc : List Path} {k : List UInt8} (h : Part F q K ps) (hK : ∀ k' ∈ K, k' < k) (hs : psc.Pairwise (fun a b => ltP a b = true)) (hm : ∀ x, x ∈ psc ↔ Beh (q ++ [k]) x ∧ isLeaf F x = true) :
    Part F q (K ++ [k]) (ps ++ ((if isLeaf F (q ++ [k]) = true then [q ++ [k]] else []) ++ psc)) := by
  have hmid : ∀ x, x ∈ (if isLeaf F (q ++ [k]) = true then [q ++ [k]] else []) ++ psc ↔ isLeaf F x = true ∧ q ++ [k] <+: x := by
    intro x
    rw [List.mem_append, hm]
    constructor
    · rintro (h1 | ⟨h1, h2⟩)
      · split at h1
        · rename_i hl
          rw [List.mem_singleton] at h1
          subst h1
          exact ⟨hl, List.prefix_refl _⟩
        · cases h1
      · exact ⟨h2, h1.1⟩
    · rintro ⟨h1, h2⟩
      by_cases e : x = q ++ [k]
      · subst e
        left
        rw [if_pos h1]
        exact List.mem_singleton.2 rfl
      · exact .inr ⟨⟨h2, e⟩, h1⟩
  refine ⟨List.pairwise_append.2 ⟨h.1, ?_, fun a ha b hb => ?_⟩, fun x => ?_⟩
  · refine List.pairwise_append.2 ⟨?_, hs, fun a ha b hb => ?_⟩
    · split
      · exact List.pairwise_singleton _ _
      · exact List.Pairwise.nil
    · split at ha
      · rw [List.mem_singleton] at ha
        subst ha
        exact lt_of_beh ((hm b).1 hb).1
      · cases ha
  · obtain ⟨_, k', hk', hp⟩ := (h.2 a).1 ha
    exact lt_of_pre hp ((hmid b).1 hb).2 (hK k' hk')
  · rw [List.mem_append, hmid, h.2]
    constructor
    · rintro (⟨h1, k', hk', hp⟩ | ⟨h1, hp⟩)
      · exact ⟨h1, k', List.mem_append_left _ hk', hp⟩
      · exact ⟨h1, k, List.mem_append_right _ (List.mem_singleton.2 rfl), hp⟩
    · rintro ⟨h1, k', hk', hp⟩
      rcases List.mem_append.1 hk' with hk' | hk'
      · exact .inl ⟨h1, k', hk', hp⟩
      · rw [List.mem_singleton] at hk'
        subst hk'
        exact .inr ⟨h1, hp⟩
theorem Part.done {F : Ns} (hc : Closed F) {q : Path} {K : List (List UInt8)} {ps : List Path} (h : Part F q K ps) (hK : ∀ k, F (q ++ [k]) ≠ none → k ∈ K) : ∀ x, x ∈ ps ↔ Beh q x ∧ isLeaf F x = true := by
  intro x
  rw [h.2]
  constructor
  · rintro ⟨h1, k, _, hp⟩
    refine ⟨⟨(List.prefix_append _ _).trans hp, ?_⟩, h1⟩
    rintro rfl
    have h9 := hp.length_le
    rw [List.length_append, List.length_singleton] at h9
    omega
  · rintro ⟨⟨⟨r, rfl⟩, h2⟩, h1⟩
    cases r with
    | nil => exact absurd (List.append_nil q) h2
    | cons a r =>
      have hp : q ++ [a] <+: q ++ a :: r := ⟨r, by simp⟩
      exact ⟨h1, a, hK a (hc.prefix hp (isLeaf_in h1)), hp⟩
/-- What was there ahead, and what is found: no path twice, each a leaf. -/
structure Ok (F : Ns) (q : Path) (P0 : List Path) : Prop where
  nodup : P0.Nodup
  leaf : ∀ x ∈ P0, isLeaf F x = true
  off : ∀ x ∈ P0, ¬ Beh q x
theorem ltP_nodup {ps : List Path} (h : ps.Pairwise (fun a b => ltP a b = true)) : ps.Nodup := nodup_of (R := fun a b => ltP a b = true) (fun a h => by rw [ltP_irr] at h; cases h) h
theorem Ok.step {F : Ns} {q : Path} {P0 : List Path} (h : Ok F q P0) {K : List (List UInt8)} {ps : List Path} (hp : Part F q K ps) {k : List UInt8} (hK : ∀ k' ∈ K, k' < k) : Ok F (q ++ [k]) (P0 ++ ps ++ (if isLeaf F (q ++ [k]) = true then [q ++ [k]] else [])) := by
  have hbeh : ∀ x k', q ++ [k'] <+: x → Beh q x := fun x k' hx => ⟨(List.prefix_append _ _).trans hx, by
    rintro rfl
    have h9 := hx.length_le
    rw [List.length_append, List.length_singleton] at h9
    omega⟩
  refine ⟨?_, ?_, ?_⟩
  · refine List.nodup_append.2 ⟨List.nodup_append.2 ⟨h.nodup, ltP_nodup hp.1, fun a ha b hb e => ?_⟩, ?_, fun a ha b hb e => ?_⟩
    · subst e
      obtain ⟨_, k', _, hx⟩ := (hp.2 a).1 hb
      exact h.off a ha (hbeh a k' hx)
    · split
      · simp
      · exact List.nodup_nil
    · subst e
      split at hb
      · rw [List.mem_singleton] at hb
        subst hb
        rcases List.mem_append.1 ha with ha | ha
        · exact h.off _ ha (beh_self q k)
        · obtain ⟨_, k', hk', hx⟩ := (hp.2 _).1 ha
          have := pre_snoc_inj hx (List.prefix_refl _)
          subst this
          exact bl_irr _ (hK _ hk')
      · cases hb
  · intro x hx
    rcases List.mem_append.1 hx with hx | hx
    · rcases List.mem_append.1 hx with hx | hx
      · exact h.leaf x hx
      · exact ((hp.2 x).1 hx).1
    · split at hx
      · rename_i hl
        rw [List.mem_singleton] at hx
        subst hx; exact hl
      · cases hx
  · intro x hx hb
    rcases List.mem_append.1 hx with hx | hx
    · rcases List.mem_append.1 hx with hx | hx
      · exact h.off x hx (beh_snoc hb)
      · obtain ⟨_, k', hk', hx'⟩ := (hp.2 x).1 hx
        have := pre_snoc_inj hx' hb.1
        subst this
        exact bl_irr _ (hK _ hk')
    · split at hx
      · rw [List.mem_singleton] at hx
        subst hx; exact hb.2 rfl
      · cases hx
theorem Ok.all {F : Ns} {q : Path} {P0 : List Path} (h : Ok F q P0) {K : List (List UInt8)} {ps : List Path} (hp : Part F q K ps) : (P0 ++ ps).Nodup ∧ ∀ x ∈ P0 ++ ps, isLeaf F x = true := by
  refine ⟨List.nodup_append.2 ⟨h.nodup, ltP_nodup hp.1, fun a ha b hb e => ?_⟩, fun x hx => ?_⟩
  · subst e
    obtain ⟨_, k', _, hx⟩ := (hp.2 a).1 hb
    refine h.off a ha ⟨(List.prefix_append _ _).trans hx, ?_⟩
    rintro rfl
    have h9 := hx.length_le
    rw [List.length_append, List.length_singleton] at h9
    omega
  · rcases List.mem_append.1 hx with hx | hx
    · exact h.leaf x hx
    · exact ((hp.2 x).1 hx).1
/-- So many leaves, no more; each path short. -/
structure Few (F : Ns) (N : Nat) : Prop where
  cnt : ∀ P : List Path, P.Nodup → (∀ x ∈ P, isLeaf F x = true) → P.length ≤ N
  len : ∀ x, F x ≠ none → (Nm.jn x).length ≤ 4294967270 ∧ x.length ≤ 1048576

/-! The rows. -/
structure NW (w0 : World) (base : Nat) (T0 : TypeId) (x0 : Value) (c : Nat) (F : Ns) (vl vp vk : Value) (ks : List (List UInt8)) (W : World) (lv : Value) (Pl : List Path) : Prop where
  tree : Tree W T0 x0 c F
  ob : ∀ i, own F i → i < base
  sz : base ≤ w0.heap.size
  kp : Kp (fun i => vl.ownBlock = some i ∨ vp.ownBlock = some i) w0 W
  l : OwnS base W lv (Pl.map Nm.jn)
  k : OwnS base W vk ks
  lat : ∀ g, lv.ownBlock = some g → vl.ownBlock = some g ∨ w0.heap.size ≤ g
  kat : ∀ g, vk.ownBlock = some g → w0.heap.size ≤ g ∧ lv.ownBlock ≠ some g
  pat : ∀ g, vp.ownBlock = some g → lv.ownBlock ≠ some g ∧ g < w0.heap.size ∧ base ≤ g
  vat : ∀ g, vl.ownBlock = some g → g < w0.heap.size ∧ base ≤ g
theorem own_at {base : Nat} {w : World} {v : Value} {l : List (List UInt8)} (h : OwnS base w v l) {g : Nat} (hg : v.ownBlock = some g) : base ≤ g ∧ g < w.heap.size := World.ownsRow.lt h g hg
theorem NW.szW {w0 : World} {base : Nat} {T0 : TypeId} {x0 : Value} {c : Nat} {F : Ns} {vl vp vk : Value} {ks : List (List UInt8)} {W : World} {lv : Value} {Pl : List Path} (h : NW w0 base T0 x0 c F vl vp vk ks W lv Pl) : base ≤ W.heap.size := Nat.le_trans h.sz h.kp.size
/-- Blocks turn that are none of these. -/
theorem NW.keep {w0 : World} {base : Nat} {T0 : TypeId} {x0 : Value} {c : Nat} {F : Ns} {vl vp vk : Value} {ks : List (List UInt8)} {W W' : World} {lv : Value} {Pl : List Path} (h : NW w0 base T0 x0 c F vl vp vk ks W lv Pl) {O : Nat → Prop} (k : Kp O W W')
    (hO : ∀ i, i < W.heap.size → O i → base ≤ i ∧ lv.ownBlock ≠ some i ∧ vk.ownBlock ≠ some i ∧ (vl.ownBlock = some i ∨ vp.ownBlock = some i ∨ w0.heap.size ≤ i)) : NW w0 base T0 x0 c F vl vp vk ks W' lv Pl :=
  { h with
    tree := h.tree.keep fun i hi => k.block i (h.tree.lt hi) fun ho => by have := (hO i (h.tree.lt hi) ho).1; have := h.ob i hi; omega
    kp := h.kp.trans k fun i hi ho => by
      rcases (hO i (Nat.lt_of_lt_of_le hi h.kp.size) ho).2.2.2 with h1 | h1 | h1
      · exact .inl h1
      · exact .inr h1
      · omega
    l := owns_keep h.l fun g hg => k.block g (own_at h.l hg).2 fun ho => (hO g (own_at h.l hg).2 ho).2.1 hg
    k := owns_keep h.k fun g hg => k.block g (own_at h.k hg).2 fun ho => (hO g (own_at h.k hg).2 ho).2.2.1 hg }
theorem NW.below {w0 : World} {base : Nat} {T0 : TypeId} {x0 : Value} {c : Nat} {F : Ns} {vl vp vk : Value} {ks : List (List UInt8)} {W W' : World} {lv : Value} {Pl : List Path} (h : NW w0 base T0 x0 c F vl vp vk ks W lv Pl) (b : Below W.heap.size W W') : NW w0 base T0 x0 c F vl vp vk ks W' lv Pl :=
  h.keep (Kp.of_below (O := fun _ => False) b) fun _ _ ho => ho.elim
/-- A way further: beside the others. -/
structure Wy (base : Nat) (vp vk : Value) (q : Path) (k : List UInt8) (w0 wa w3 : World) (lv u : Value) : Prop where
  app : App wa base 9 1 vp q.length (byS q) 1 [.string ⟨k.toArray⟩] u w3
  own : OwnS base w3 u (q ++ [k])
  at_ : ∀ g, u.ownBlock = some g → (vp.ownBlock = some g ∨ w0.heap.size ≤ g) ∧ lv.ownBlock ≠ some g ∧ vk.ownBlock ≠ some g
theorem way_of {base : Nat} {wa w3 : World} {vp u : Value} {q : Path} {k : List UInt8} (h : App wa base 9 1 vp q.length (byS q) 1 [.string ⟨k.toArray⟩] u w3) : OwnS base w3 u (q ++ [k]) := by
  unfold OwnS
  rw [List.length_append, byS_append]
  exact h.own
theorem NW.way {w0 : World} {base : Nat} {T0 : TypeId} {x0 : Value} {c : Nat} {F : Ns} {vl vp vk : Value} {ks : List (List UInt8)} {wr wa w3 : World} {lv u : Value} {Pl : List Path} {q : Path} {k : List UInt8} (h : NW w0 base T0 x0 c F vl vp vk ks wr lv Pl) (hb : Below wr.heap.size wr wa)
    (ha : App wa base 9 1 vp q.length (byS q) 1 [.string ⟨k.toArray⟩] u w3) : NW w0 base T0 x0 c F vl vp vk ks w3 lv Pl ∧ Wy base vp vk q k w0 wa w3 lv u := by
  have h1 := h.below hb
  have hk : Kp (fun i => vp.ownBlock = some i) wa w3 := (Kp.refl _ wa).grown ha.grown fun g hg => .inr hg
  refine ⟨h1.keep hk fun i _ ho => ⟨(h.pat i ho).2.2, (h.pat i ho).1, fun e => by have := (h.kat i e).1; have := (h.pat i ho).2.1; omega, .inr (.inl ho)⟩, ha, way_of ha, fun g hg => ?_⟩
  rcases ha.lt g hg with h2 | h2
  · exact ⟨.inl h2, (h.pat g h2).1, fun e => by have := (h.kat g e).1; have := (h.pat g h2).2.1; omega⟩
  · subst h2
    refine ⟨.inr (Nat.le_trans h.kp.size hb.size), fun e => ?_, fun e => ?_⟩
    · have := (own_at h1.l e).2; omega
    · have := (own_at h1.k e).2; omega
/-- A name more. -/
theorem NW.push {w0 : World} {base : Nat} {T0 : TypeId} {x0 : Value} {c : Nat} {F : Ns} {vl vp vk : Value} {ks : List (List UInt8)} {w3 wb w4 : World} {lv lv2 : Value} {Pl : List Path} {p : Path} (h : NW w0 base T0 x0 c F vl vp vk ks w3 lv Pl) (hb : Below w3.heap.size w3 wb)
    (ha : App wb base 9 1 lv (Pl.map Nm.jn).length (byS (Pl.map Nm.jn)) 1 [.string ⟨(Nm.jn p).toArray⟩] lv2 w4) : NW w0 base T0 x0 c F vl vp vk ks w4 lv2 (Pl ++ [p]) := by
  have h1 := h.below hb
  have hk : Kp (fun i => lv.ownBlock = some i) wb w4 := (Kp.refl _ wb).grown ha.grown fun g hg => .inr hg
  refine { h with tree := ?_, kp := ?_, l := ?_, k := ?_, lat := ?_, kat := ?_, pat := ?_ }
  · exact h1.tree.keep fun i hi => hk.block i (h1.tree.lt hi) fun ho => by have := (own_at h1.l ho).1; have := h.ob i hi; omega
  · refine h1.kp.trans hk fun i hi ho => ?_
    rcases h.lat i ho with h2 | h2
    · exact .inl h2
    · omega
  · unfold OwnS
    rw [List.map_append, List.length_append, byS_append]
    exact ha.own
  · exact owns_keep h1.k fun g hg => hk.block g (own_at h1.k hg).2 fun ho => (h.kat g hg).2 ho
  · intro g hg
    rcases ha.lt g hg with h2 | h2
    · exact h.lat g h2
    · exact .inr (by rw [h2]; exact Nat.le_trans h.kp.size hb.size)
  · intro g hg
    refine ⟨(h.kat g hg).1, fun e => ?_⟩
    rcases ha.lt g e with h2 | h2
    · exact (h.kat g hg).2 h2
    · have := (own_at h1.k hg).2; omega
  · intro g hg
    refine ⟨fun e => ?_, (h.pat g hg).2⟩
    rcases ha.lt g e with h2 | h2
    · exact (h.pat g hg).1 h2
    · have := (h.pat g hg).2.1
      have := Nat.le_trans h.kp.size hb.size
      omega
/-- The way is as it was, where other blocks turn. -/
theorem Wy.keep {base : Nat} {vp vk : Value} {q : Path} {k : List UInt8} {w0 wa w3 W : World} {lv u : Value} (h : Wy base vp vk q k w0 wa w3 lv u) (ho : OwnS base W u (q ++ [k])) (hk : ∀ g, vp.ownBlock = some g → u.ownBlock ≠ some g → W.heap[g]? = w3.heap[g]?) : OwnS base W vp q := by
  refine h.app.restore ?_ hk
  unfold OwnS at ho
  rw [List.length_append, byS_append] at ho
  exact ho
/-- Behind the branch's own names. -/
theorem NW.sub {w0 : World} {base : Nat} {T0 : TypeId} {x0 : Value} {c : Nat} {F : Ns} {vl vp vk : Value} {ks : List (List UInt8)} {w4 w5 : World} {lv v u : Value} {Pl Pl' : List Path} (h : NW w0 base T0 x0 c F vl vp vk ks w4 lv Pl) (hu : ∀ g, u.ownBlock = some g → g < w4.heap.size → (vp.ownBlock = some g ∨ w0.heap.size ≤ g) ∧ base ≤ g ∧ lv.ownBlock ≠ some g ∧ vk.ownBlock ≠ some g)
    (hk : Kp (fun i => lv.ownBlock = some i ∨ u.ownBlock = some i) w4 w5) (hl : OwnS base w5 v (Pl'.map Nm.jn)) (hv : ∀ g, v.ownBlock = some g → lv.ownBlock = some g ∨ w4.heap.size ≤ g) : NW w0 base T0 x0 c F vl vp vk ks w5 v Pl' := by
  refine { h with tree := ?_, kp := ?_, l := hl, k := ?_, lat := ?_, kat := ?_, pat := ?_ }
  · refine h.tree.keep fun i hi => hk.block i (h.tree.lt hi) fun ho => ?_
    have h9 := h.ob i hi
    rcases ho with ho | ho
    · have := (own_at h.l ho).1; omega
    · have := (hu i ho (h.tree.lt hi)).2.1; omega
  · refine h.kp.trans hk fun i hi ho => ?_
    rcases ho with ho | ho
    · rcases h.lat i ho with h2 | h2
      · exact .inl h2
      · omega
    · rcases (hu i ho (Nat.lt_of_lt_of_le hi h.kp.size)).1 with h2 | h2
      · exact .inr h2
      · omega
  · refine owns_keep h.k fun g hg => hk.block g (own_at h.k hg).2 fun ho => ?_
    rcases ho with ho | ho
    · exact (h.kat g hg).2 ho
    · exact (hu g ho (own_at h.k hg).2).2.2.2 hg
  · intro g hg
    rcases hv g hg with h2 | h2
    · exact h.lat g h2
    · exact .inr (Nat.le_trans h.kp.size h2)
  · intro g hg
    refine ⟨(h.kat g hg).1, fun e => ?_⟩
    rcases hv g e with h2 | h2
    · exact (h.kat g hg).2 h2
    · have := (own_at h.k hg).2; omega
  · intro g hg
    refine ⟨fun e => ?_, (h.pat g hg).2⟩
    rcases hv g e with h2 | h2
    · exact (h.pat g hg).1 h2
    · have := (h.pat g hg).2.1
      have := h.kp.size
      omega
end Tr
end Go.Proofs.YtfmbbhcjnidcbaaGreatDoor
