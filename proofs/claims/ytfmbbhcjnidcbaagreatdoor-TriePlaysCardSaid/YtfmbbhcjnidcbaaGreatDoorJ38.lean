/-
  TrSeP: What search builds, outside of its walk: what is found, whatever order the branches come in; rows that grow beside rows that are read.
  TrSeLib: CONTRACTS: the library's own functions as search calls them: whether a branch of a row is a leaf; a clone of a way.
-/
import Derived.Test.YtfmbbhcjnidcbaaGreatDoorJ37

namespace Go.Proofs.YtfmbbhcjnidcbaaGreatDoor
open Go.RowKit
open Me

namespace Tr
/-- A find: a branch's block, the row that says where it is, and where. -/
structure Fd where
  b : Nat
  v : Value
  q : Path
def GoalP (F G : Ns) (x : Path) : Prop := F x ≠ none ∧ ∃ y, At G x y ∧ isLeaf G y = true
structure Hits (F G : Ns) (L : List Fd) : Prop where
  nodup : (L.map (·.q)).Nodup
  at_ : ∀ f ∈ L, (∃ n, F f.q = some n ∧ n.b = f.b) ∧ GoalP F G f.q
/-- Under way: what is left of the branches is not looked at yet. -/
structure Res (F G : Ns) (q : Path) (n0 : Nat) (left : List UInt8 → Bool) (L : List Fd) : Prop where
  hits : Hits F G L
  key : ∀ f ∈ L, ∃ k, left k = false ∧ q ++ [k] <+: f.q
  all : 512 < n0 + L.length ∨ ∀ x, GoalP F G x → ∀ k, q ++ [k] <+: x → left k = false → x ∈ L.map (·.q)
/-- At the end. -/
structure Fin_ (F G : Ns) (q : Path) (n0 : Nat) (L : List Fd) : Prop where
  hits : Hits F G L
  beh : ∀ f ∈ L, Beh q f.q
  all : 512 < n0 + L.length ∨ ∀ x, GoalP F G x → Beh q x → x ∈ L.map (·.q)
theorem beh_of_snoc {q x : Path} {k : List UInt8} (h : q ++ [k] <+: x) : Beh q x := ⟨(List.prefix_append _ _).trans h, by
  rintro rfl
  have h9 := h.length_le
  rw [List.length_append, List.length_singleton] at h9
  omega⟩
theorem beh_key {q x : Path} (h : Beh q x) : ∃ k, q ++ [k] <+: x := by
  obtain ⟨⟨r, rfl⟩, h2⟩ := h
  cases r with
  | nil => exact absurd (List.append_nil q) h2
  | cons a r => exact ⟨a, r, by simp⟩
theorem Res.start {F G : Ns} {q : Path} {n0 : Nat} {left : List UInt8 → Bool} (h : ∀ x, GoalP F G x → ∀ k, q ++ [k] <+: x → left k = true) : Res F G q n0 left [] :=
  ⟨⟨List.nodup_nil, fun _ h => (by cases h)⟩, fun _ h => (by cases h), .inr fun x hx k hk hl => by rw [h x hx k hk] at hl; cases hl⟩
theorem Res.done {F G : Ns} {q : Path} {n0 : Nat} {left : List UInt8 → Bool} {L : List Fd} (h : Res F G q n0 left L) (hl : ∀ k, left k = false) : Fin_ F G q n0 L :=
  ⟨h.hits, fun f hf => by obtain ⟨k, _, hk⟩ := h.key f hf; exact beh_of_snoc hk, h.all.imp_right fun ha x hx hb => by obtain ⟨k, hk⟩ := beh_key hb; exact ha x hx k hk (hl k)⟩
theorem Res.full {F G : Ns} {q : Path} {n0 : Nat} {left : List UInt8 → Bool} {L : List Fd} (h : Res F G q n0 left L) (hl : 512 < n0 + L.length) : Fin_ F G q n0 L :=
  ⟨h.hits, fun f hf => by obtain ⟨k, _, hk⟩ := h.key f hf; exact beh_of_snoc hk, .inl hl⟩
theorem Res.step {F G : Ns} {q : Path} {n0 : Nat} {left : List UInt8 → Bool} {L L3 : List Fd} (h : Res F G q n0 left L) {k : List UInt8} (hk : left k = true) (h3 : Hits F G L3) (hp : ∀ f ∈ L3, q ++ [k] <+: f.q) (ha : 512 < n0 + (L ++ L3).length ∨ ∀ x, GoalP F G x → q ++ [k] <+: x → x ∈ L3.map (·.q)) :
    Res F G q n0 (fun n => left n && !decide (n = k)) (L ++ L3) := by
  refine ⟨⟨?_, fun f hf => (List.mem_append.1 hf).elim (h.hits.at_ f) (h3.at_ f)⟩, fun f hf => ?_, ?_⟩
  · rw [List.map_append]
    refine List.nodup_append.2 ⟨h.hits.nodup, h3.nodup, fun a ha b hb e => ?_⟩
    subst e
    obtain ⟨f, hf, rfl⟩ := List.mem_map.1 ha
    obtain ⟨f', hf', e⟩ := List.mem_map.1 hb
    obtain ⟨k', h4, h5⟩ := h.key f hf
    have h6 := hp f' hf'
    rw [e] at h6
    have h7 := pre_snoc_inj h5 h6
    subst h7
    rw [hk] at h4; cases h4
  · rcases List.mem_append.1 hf with hf | hf
    · obtain ⟨k', h4, h5⟩ := h.key f hf
      exact ⟨k', by rw [h4]; rfl, h5⟩
    · exact ⟨k, by simp, hp f hf⟩
  · rcases h.all with h4 | h4
    · left; rw [List.length_append]; omega
    · refine ha.imp_right fun h5 x hx k' hk' hl => ?_
      rw [List.map_append, List.mem_append]
      by_cases e : k' = k
      · subst e; exact .inr (h5 x hx hk')
      · refine .inl (h4 x hx k' hk' ?_)
        simpa [e] using hl
/-- Of one branch: it itself, and what is behind it. -/
theorem one_hits {F G : Ns} {p : Path} {n : Nd} (hn : F p = some n) {v : Value} {L4 : List Fd} {n0 m : Nat} (h : Fin_ F G p m L4) {lf : Bool} (hlf : lf = true ↔ ∃ y, At G p y ∧ isLeaf G y = true) (hm : m = n0 + (if lf = true then [(⟨n.b, v, p⟩ : Fd)] else []).length) :
    Hits F G ((if lf = true then [(⟨n.b, v, p⟩ : Fd)] else []) ++ L4) ∧ (∀ f ∈ (if lf = true then [(⟨n.b, v, p⟩ : Fd)] else []) ++ L4, p <+: f.q) ∧ (512 < n0 + ((if lf = true then [(⟨n.b, v, p⟩ : Fd)] else []) ++ L4).length ∨ ∀ x, GoalP F G x → p <+: x → x ∈ ((if lf = true then [(⟨n.b, v, p⟩ : Fd)] else []) ++ L4).map (·.q)) := by
  refine ⟨⟨?_, fun f hf => ?_⟩, fun f hf => ?_, ?_⟩
  · rw [List.map_append]
    refine List.nodup_append.2 ⟨?_, h.hits.nodup, fun a ha b hb e => ?_⟩
    · split <;> simp
    · subst e
      obtain ⟨f, hf, rfl⟩ := List.mem_map.1 hb
      split at ha
      · simp at ha
        exact (h.beh f hf).2 ha
      · cases ha
  · rcases List.mem_append.1 hf with hf | hf
    · split at hf
      · rename_i hl
        rw [List.mem_singleton] at hf
        subst hf
        exact ⟨⟨n, hn, rfl⟩, by rw [hn]; simp, hlf.1 hl⟩
      · cases hf
    · exact h.hits.at_ f hf
  · rcases List.mem_append.1 hf with hf | hf
    · split at hf
      · rw [List.mem_singleton] at hf
        subst hf; exact List.prefix_refl _
      · cases hf
    · exact (h.beh f hf).1
  · rcases h.all with h4 | h4
    · left; rw [List.length_append]; omega
    · right
      intro x hx hp
      rw [List.map_append, List.mem_append]
      by_cases e : x = p
      · subst e
        left
        rw [if_pos (hlf.2 hx.2)]
        simp
      · exact .inr (h4 x hx ⟨hp, e⟩)
/-- Nothing of patterns leads there. -/
theorem no_goal {F G : Ns} (hc : Closed G) {p x : Path} (h : ∀ y, ¬ At G p y) (hx : GoalP F G x) : ¬ p <+: x := by
  rintro ⟨r, rfl⟩
  obtain ⟨_, y, hy, _⟩ := hx
  exact At.none hc h r y hy
/-- What is not likely leads to nothing. -/
theorem likely_goal {F G : Ns} (hF : Closed F) (hG : Closed G) {q : Path} {X : List Path} (hX : ∀ x, x ∈ X ↔ At G q x) {C : List (Path × List UInt8)} (hW : Wild G X C) (hd : ∀ x a, G (x ++ [a]) ≠ none → Nm.noDot a = true) {m : List UInt8 → Option Nat} (hL : Lik F G q X (fun _ => C ≠ []) m) {x : Path} (hx : GoalP F G x) {k : List UInt8} (hk : q ++ [k] <+: x) : (m k).isSome = true := by
  obtain ⟨hf, y, hy, _⟩ := hx
  obtain ⟨z, hz⟩ := Option.ne_none_iff_exists'.1 (hF.prefix hk hf)
  have h1 : ∃ y, At G (q ++ [k]) y := Classical.byContradiction fun hn => by
    obtain ⟨r, rfl⟩ := hk
    exact At.none hG (fun y h => hn ⟨y, h⟩) r y hy
  obtain ⟨y', hy'⟩ := h1
  obtain ⟨x', a, rfl, h2, h3, h4⟩ := (At.snoc hG q k y').1 hy'
  rw [hL.all k z hz]
  · rfl
  · by_cases hC : C = []
    · left
      have hp : Gl.plainB a = true := by
        cases e : Gl.plainB a with
        | true => rfl
        | false =>
          have := (hW.mem x' a).2 ⟨(hX x').2 h2, h3, e⟩
          rw [hC] at this; cases this
      rw [plainB_key (hd _ _ h3)] at hp
      rw [Gl.gm_plain a k hp] at h4
      have e := of_decide_eq_true h4
      subst e
      exact ⟨x', (hX x').2 h2, h3⟩
    · exact .inr hC
theorem mt_at {G : Ns} (hG : Closed G) {q : Path} {X : List Path} (hX : ∀ x, x ∈ X ↔ At G q x) {k : List UInt8} {Y : List Path} (h : Mt G X k Y) : ∀ y, y ∈ Y ↔ At G (q ++ [k]) y := by
  intro y
  rw [h.mem, At.snoc hG]
  constructor
  · rintro ⟨x, hx, a, rfl, h1, h2⟩
    exact ⟨x, a, rfl, (hX x).1 hx, h1, h2⟩
  · rintro ⟨x, a, rfl, hx, h1, h2⟩
    exact ⟨x, (hX x).2 hx, a, rfl, h1, h2⟩

/-! The rows. -/
def fvs (L : List Fd) : List Value := L.flatMap fun f => [.pointer (some ⟨f.b, 0, none⟩), f.v]
theorem fvs_len (L : List Fd) : (fvs L).length = L.length * 2 := by
  unfold fvs
  induction L with
  | nil => rfl
  | cons a r ih => rw [List.flatMap_cons, List.length_append, ih, List.length_cons]; simp; omega
theorem fvs_snoc (L : List Fd) (f : Fd) : fvs (L ++ [f]) = fvs L ++ [.pointer (some ⟨f.b, 0, none⟩), f.v] := by unfold fvs; simp
def OwnF (base : Nat) (w : World) (v : Value) (L : List Fd) : Prop := w.ownsRow base 80 2 v L.length (fvs L)
theorem rows_ne {w : World} {b1 b2 : Nat} {e1 e2 : TypeId} {s1 s2 n1 n2 : Nat} {v1 v2 : Value} {xs1 xs2 : List Value} (h1 : w.ownsRow b1 e1 s1 v1 n1 xs1) (h2 : w.ownsRow b2 e2 s2 v2 n2 xs2) (he : e1 ≠ e2) {g : Nat} (hg : v1.ownBlock = some g) : v2.ownBlock ≠ some g := by
  intro hg2
  obtain ⟨c1, hb1⟩ := row_cells h1 hg
  obtain ⟨c2, hb2⟩ := row_cells h2 hg2
  rw [hb1] at hb2
  cases hb2
  exact he rfl
structure SW (w0 : World) (base : Nat) (T0 : TypeId) (x0 : Value) (c : Nat) (F : Ns) (c2 : Nat) (G : Ns) (vl vp vx vk : Value) (X : List Path) (C : List (Path × List UInt8)) (W : World) (lv : Value) (L : List Fd) : Prop where
  tf : Tree W T0 x0 c F
  tg : Tree W 55 (.bool false) c2 G
  fb : ∀ i, own F i → i < base
  gb : ∀ i, own G i → i < base
  sz : base ≤ w0.heap.size
  kp : Kp (fun i => vl.ownBlock = some i ∨ vp.ownBlock = some i) w0 W
  l : OwnF base W lv L
  fs : ∀ f ∈ L, OwnS base W f.v f.q ∧ ∀ g, f.v.ownBlock = some g → vp.ownBlock ≠ some g
  x : OwnP base W vx G X
  k : OwnC base W vk G C
  lat : ∀ g, lv.ownBlock = some g → vl.ownBlock = some g ∨ w0.heap.size ≤ g
  pat : ∀ g, vp.ownBlock = some g → g < w0.heap.size ∧ base ≤ g
theorem SW.szW {w0 : World} {base : Nat} {T0 : TypeId} {x0 : Value} {c : Nat} {F : Ns} {c2 : Nat} {G : Ns} {vl vp vx vk : Value} {X : List Path} {C : List (Path × List UInt8)} {W : World} {lv : Value} {L : List Fd} (h : SW w0 base T0 x0 c F c2 G vl vp vx vk X C W lv L) : base ≤ W.heap.size := Nat.le_trans h.sz h.kp.size
theorem SW.keep {w0 : World} {base : Nat} {T0 : TypeId} {x0 : Value} {c : Nat} {F : Ns} {c2 : Nat} {G : Ns} {vl vp vx vk : Value} {X : List Path} {C : List (Path × List UInt8)} {W W' : World} {lv : Value} {L : List Fd} (h : SW w0 base T0 x0 c F c2 G vl vp vx vk X C W lv L) {O : Nat → Prop} (k : Kp O W W')
    (hO : ∀ i, i < W.heap.size → O i → base ≤ i ∧ lv.ownBlock ≠ some i ∧ (∀ f ∈ L, f.v.ownBlock ≠ some i) ∧ vx.ownBlock ≠ some i ∧ vk.ownBlock ≠ some i ∧ (vl.ownBlock = some i ∨ vp.ownBlock = some i ∨ w0.heap.size ≤ i)) : SW w0 base T0 x0 c F c2 G vl vp vx vk X C W' lv L :=
  { h with
    tf := h.tf.keep fun i hi => k.block i (h.tf.lt hi) fun ho => by have := (hO i (h.tf.lt hi) ho).1; have := h.fb i hi; omega
    tg := h.tg.keep fun i hi => k.block i (h.tg.lt hi) fun ho => by have := (hO i (h.tg.lt hi) ho).1; have := h.gb i hi; omega
    kp := h.kp.trans k fun i hi ho => by
      rcases (hO i (Nat.lt_of_lt_of_le hi h.kp.size) ho).2.2.2.2.2 with h1 | h1 | h1
      · exact .inl h1
      · exact .inr h1
      · omega
    l := owns_keep h.l fun g hg => k.block g (World.ownsRow.lt h.l g hg).2 fun ho => (hO g (World.ownsRow.lt h.l g hg).2 ho).2.1 hg
    fs := fun f hf => ⟨owns_keep (h.fs f hf).1 fun g hg => k.block g (own_at (h.fs f hf).1 hg).2 fun ho => (hO g (own_at (h.fs f hf).1 hg).2 ho).2.2.1 f hf hg, (h.fs f hf).2⟩
    x := owns_keep h.x fun g hg => k.block g (World.ownsRow.lt h.x g hg).2 fun ho => (hO g (World.ownsRow.lt h.x g hg).2 ho).2.2.2.1 hg
    k := owns_keep h.k fun g hg => k.block g (World.ownsRow.lt h.k g hg).2 fun ho => (hO g (World.ownsRow.lt h.k g hg).2 ho).2.2.2.2.1 hg }
theorem SW.below {w0 : World} {base : Nat} {T0 : TypeId} {x0 : Value} {c : Nat} {F : Ns} {c2 : Nat} {G : Ns} {vl vp vx vk : Value} {X : List Path} {C : List (Path × List UInt8)} {W W' : World} {lv : Value} {L : List Fd} (h : SW w0 base T0 x0 c F c2 G vl vp vx vk X C W lv L) (b : Below W.heap.size W W') : SW w0 base T0 x0 c F c2 G vl vp vx vk X C W' lv L :=
  h.keep (Kp.of_below (O := fun _ => False) b) fun _ _ ho => ho.elim
theorem ne_str_find : 9 ≠ 80 := by decide
theorem ne_str_br : 9 ≠ 51 := by decide
theorem ne_str_ch : 9 ≠ 119 := by decide
theorem ne_find_br : 80 ≠ 51 := by decide
theorem ne_find_ch : 80 ≠ 119 := by decide
/-- The iterator goes on. -/
theorem SW.iter {w0 : World} {base : Nat} {T0 : TypeId} {x0 : Value} {c : Nat} {F : Ns} {c2 : Nat} {G : Ns} {vl vp vx vk : Value} {X : List Path} {C : List (Path × List UInt8)} {W W' : World} {lv : Value} {L : List Fd} (h : SW w0 base T0 x0 c F c2 G vl vp vx vk X C W lv L) {mb : Option Nat} {r k : Nat} {m : List UInt8 → Option Nat} {left : List UInt8 → Bool} {cnt : Nat} (hr : Rgs W mb r k m left cnt) (h0 : w0.heap.size ≤ r) (hg : W.grownBy W' (some r)) : SW w0 base T0 x0 c F c2 G vl vp vx vk X C W' lv L :=
  h.keep ((Kp.refl (fun i => i = r) W).grown hg fun g hg => .inr (Option.some.inj hg).symm) fun i _ ho => by
    subst ho
    exact ⟨Nat.le_trans h.sz h0, row_not_iter h.l hr, fun f hf => row_not_iter (h.fs f hf).1 hr, row_not_iter h.x hr, row_not_iter h.k hr, .inr (.inr h0)⟩
/-- A way further. -/
theorem SW.way {w0 : World} {base : Nat} {T0 : TypeId} {x0 : Value} {c : Nat} {F : Ns} {c2 : Nat} {G : Ns} {vl vp vx vk : Value} {X : List Path} {C : List (Path × List UInt8)} {wr wa w3 : World} {lv u : Value} {L : List Fd} {q : Path} {k : List UInt8} (h : SW w0 base T0 x0 c F c2 G vl vp vx vk X C wr lv L) (hb : Below wr.heap.size wr wa)
    (ha : App wa base 9 1 vp q.length (byS q) 1 [.string ⟨k.toArray⟩] u w3) : SW w0 base T0 x0 c F c2 G vl vp vx vk X C w3 lv L ∧ OwnS base w3 u (q ++ [k]) ∧ (∀ g, u.ownBlock = some g → vp.ownBlock = some g ∨ wr.heap.size ≤ g) ∧ (∀ f ∈ L, ∀ g, f.v.ownBlock = some g → u.ownBlock ≠ some g) := by
  have h1 := h.below hb
  have hk : Kp (fun i => vp.ownBlock = some i) wa w3 := (Kp.refl _ wa).grown ha.grown fun g hg => .inr hg
  have hu : ∀ g, u.ownBlock = some g → vp.ownBlock = some g ∨ wr.heap.size ≤ g := fun g hg => (ha.lt g hg).imp_right fun e => by rw [e]; exact hb.size
  refine ⟨h1.keep hk fun i _ ho => ⟨(h.pat i ho).2, fun e => rows_ne ha.old h1.l ne_str_find ho e, fun f hf e => (h.fs f hf).2 i e ho, fun e => rows_ne ha.old h1.x ne_str_br ho e, fun e => rows_ne ha.old h1.k ne_str_ch ho e, .inr (.inl ho)⟩, way_of ha, hu, fun f hf g hg e => ?_⟩
  rcases hu g e with h2 | h2
  · exact (h.fs f hf).2 g hg h2
  · have := (own_at (h.fs f hf).1 hg).2
    omega
/-- A find more. -/
theorem SW.push {w0 : World} {base : Nat} {T0 : TypeId} {x0 : Value} {c : Nat} {F : Ns} {c2 : Nat} {G : Ns} {vl vp vx vk : Value} {X : List Path} {C : List (Path × List UInt8)} {w3 wb w4 : World} {lv lv2 : Value} {L : List Fd} {f : Fd} (h : SW w0 base T0 x0 c F c2 G vl vp vx vk X C w3 lv L) (hb : Below w3.heap.size w3 wb) (hf : OwnS base wb f.v f.q) (hf2 : ∀ g, f.v.ownBlock = some g → w0.heap.size ≤ g)
    (ha : App wb base 80 2 lv L.length (fvs L) 1 [.pointer (some ⟨f.b, 0, none⟩), f.v] lv2 w4) : SW w0 base T0 x0 c F c2 G vl vp vx vk X C w4 lv2 (L ++ [f]) ∧ (∀ g, g < w3.heap.size → lv.ownBlock ≠ some g → w4.heap[g]? = w3.heap[g]?) := by
  have h1 := h.below hb
  have hk : Kp (fun i => lv.ownBlock = some i) wb w4 := (Kp.refl _ wb).grown ha.grown fun g hg => .inr hg
  refine ⟨{ h with tf := ?_, tg := ?_, kp := ?_, l := ?_, fs := ?_, x := ?_, k := ?_, lat := ?_ }, fun g hg hne => (hk.block g (Nat.lt_of_lt_of_le hg hb.size) hne).trans (hb.block g hg)⟩
  · exact h1.tf.keep fun i hi => hk.block i (h1.tf.lt hi) fun ho => by have := (World.ownsRow.lt h1.l i ho).1; have := h.fb i hi; omega
  · exact h1.tg.keep fun i hi => hk.block i (h1.tg.lt hi) fun ho => by have := (World.ownsRow.lt h1.l i ho).1; have := h.gb i hi; omega
  · refine h1.kp.trans hk fun i hi ho => ?_
    rcases h.lat i ho with h2 | h2
    · exact .inl h2
    · omega
  · unfold OwnF
    rw [List.length_append, fvs_snoc]
    exact ha.own
  · intro f' hf'
    rcases List.mem_append.1 hf' with hf' | hf'
    · exact ⟨owns_keep (h1.fs f' hf').1 fun g hg => hk.block g (own_at (h1.fs f' hf').1 hg).2 fun ho => rows_ne (h1.fs f' hf').1 h1.l ne_str_find hg ho, (h.fs f' hf').2⟩
    · rw [List.mem_singleton] at hf'
      subst hf'
      exact ⟨owns_keep hf fun g hg => hk.block g (own_at hf hg).2 fun ho => rows_ne hf h1.l ne_str_find hg ho, fun g hg e => by have := hf2 g hg; have := (h.pat g e).1; omega⟩
  · exact owns_keep h1.x fun g hg => hk.block g (World.ownsRow.lt h1.x g hg).2 fun ho => rows_ne h1.l h1.x ne_find_br ho hg
  · exact owns_keep h1.k fun g hg => hk.block g (World.ownsRow.lt h1.k g hg).2 fun ho => rows_ne h1.l h1.k ne_find_ch ho hg
  · intro g hg
    rcases ha.lt g hg with h2 | h2
    · exact h.lat g h2
    · exact .inr (by rw [h2]; exact Nat.le_trans h.kp.size hb.size)
/-- Behind what the branch itself finds. -/
theorem SW.sub {w0 : World} {base : Nat} {T0 : TypeId} {x0 : Value} {c : Nat} {F : Ns} {c2 : Nat} {G : Ns} {vl vp vx vk : Value} {X : List Path} {C : List (Path × List UInt8)} {w4 w5 : World} {lv v u : Value} {L L2 : List Fd} {p : Path} (h : SW w0 base T0 x0 c F c2 G vl vp vx vk X C w4 lv L) (hou : OwnS base w4 u p) (hu : ∀ g, u.ownBlock = some g → vp.ownBlock = some g ∨ w0.heap.size ≤ g)
    (hk : Kp (fun i => lv.ownBlock = some i ∨ u.ownBlock = some i) w4 w5) (hl : OwnF base w5 v (L ++ L2)) (hv : ∀ g, v.ownBlock = some g → lv.ownBlock = some g ∨ w4.heap.size ≤ g) (hfs : ∀ f ∈ L ++ L2, OwnS base w5 f.v f.q) (hf2 : ∀ f ∈ L2, ∀ g, f.v.ownBlock = some g → w4.heap.size ≤ g) : SW w0 base T0 x0 c F c2 G vl vp vx vk X C w5 v (L ++ L2) := by
  refine { h with tf := ?_, tg := ?_, kp := ?_, l := hl, fs := ?_, x := ?_, k := ?_, lat := ?_ }
  · refine h.tf.keep fun i hi => hk.block i (h.tf.lt hi) fun ho => ?_
    have h9 := h.fb i hi
    rcases ho with ho | ho
    · have := (World.ownsRow.lt h.l i ho).1; omega
    · have := (own_at hou ho).1; omega
  · refine h.tg.keep fun i hi => hk.block i (h.tg.lt hi) fun ho => ?_
    have h9 := h.gb i hi
    rcases ho with ho | ho
    · have := (World.ownsRow.lt h.l i ho).1; omega
    · have := (own_at hou ho).1; omega
  · refine h.kp.trans hk fun i hi ho => ?_
    rcases ho with ho | ho
    · rcases h.lat i ho with h2 | h2
      · exact .inl h2
      · omega
    · rcases hu i ho with h2 | h2
      · exact .inr h2
      · omega
  · intro f hf
    refine ⟨hfs f hf, fun g hg e => ?_⟩
    rcases List.mem_append.1 hf with hf | hf
    · exact (h.fs f hf).2 g hg e
    · have := hf2 f hf g hg
      have := (h.pat g e).1
      have := h.kp.size
      omega
  · refine owns_keep h.x fun g hg => hk.block g (World.ownsRow.lt h.x g hg).2 fun ho => ?_
    rcases ho with ho | ho
    · exact rows_ne h.l h.x ne_find_br ho hg
    · exact rows_ne hou h.x ne_str_br ho hg
  · refine owns_keep h.k fun g hg => hk.block g (World.ownsRow.lt h.k g hg).2 fun ho => ?_
    rcases ho with ho | ho
    · exact rows_ne h.l h.k ne_find_ch ho hg
    · exact rows_ne hou h.k ne_str_ch ho hg
  · intro g hg
    rcases hv g hg with h2 | h2
    · exact h.lat g h2
    · exact .inr (Nat.le_trans h.kp.size h2)
end Tr
end Go.Proofs.YtfmbbhcjnidcbaaGreatDoor

namespace Go.Proofs.YtfmbbhcjnidcbaaGreatDoor
open Go.RowKit Go.Shelf
open Me

set_option maxHeartbeats 1000000 in
theorem leafFn_any {yb : Nat} {lf : Bool} (W : World) (h : W.cell? ⟨yb, 1, none⟩ = some (.bool lf)) :
    Calls Tryz.prog 49 #[.pointer (some ⟨yb, 0, none⟩)] W fun e w' => e = .returned (.bool lf) ∧ ∃ q, w' = W.drewN q := by
  go_enter Tryz.func49, Tryz.ntmps49
  go_wp2_with fail
  go_ret
  exact ⟨rfl, 0, rfl⟩

namespace Tr
/-- Whether one of these is a leaf. -/
theorem anyLeaf {base : Nat} {w : World} {T0 : TypeId} {x0 : Value} {c : Nat} {G : Ns} (hT : Tree w T0 x0 c G) (Y : List Path) (hY : ∀ y ∈ Y, y ≠ [] ∧ G y ≠ none) (h0 : 0 < Y.length) (h9 : Y.length ≤ 1099511627776) {g n cap : Nat} (ho : OwnP base w (.slice (some ⟨g, 0, none⟩) n cap) G Y) :
    Calls Tryz.prog 48 #[.slice (some ⟨g, 0, none⟩) n cap, .func (.func 49) #[] #[]] w fun e w' => e = .returned (.bool (Y.any (isLeaf G))) ∧ Below w.heap.size w w' := by
  obtain ⟨y0, hy0⟩ : ∃ y0, y0 ∈ Y := ⟨Y[0], List.getElem_mem h0⟩
  let α := {x : Path // x ≠ [] ∧ G x ≠ none}
  haveI : Inhabited α := ⟨⟨y0, hY y0 hy0⟩⟩
  let zs : List α := Y.attach.map fun p => ⟨p.1, hY p.1 p.2⟩
  have hlen : zs.length = Y.length := by simp [zs]
  have hn : n = Y.length := by
    rcases ho.2 with ⟨h, _⟩ | ⟨g', cap', cur, h, _⟩
    · cases h
    · simp only [Value.slice.injEq] at h
      exact h.2.1
  subst hn
  have hget : ∀ j (hj : j < Y.length), (zs[j]!).1 = Y[j] := by
    intro j hj
    have h1 : j < zs.length := by rw [hlen]; exact hj
    rw [getElem!_pos zs j h1]
    simp [zs]
  have hc : ∀ j, j < zs.length → w.cell? ⟨g, 0 + j, none⟩ = some (pv G (zs[j]!).1) := by
    intro j hj
    have h1 : j < Y.length := by rw [← hlen]; exact hj
    obtain ⟨b, o, e1, _, _, h2⟩ := (Rd.own ho).lit j (by rw [pvs_len]; exact h1)
    simp only [Option.some.injEq, Addr.mk.injEq, and_true] at e1
    obtain ⟨rfl, rfl⟩ := e1
    rw [h2 j _ (pvs_get G Y j h1), hget j h1]
  have hp : PredAt Tryz.prog 49 #[] (fun x : α => pv G x.1) (fun x : α => isLeaf G x.1) w := by
    intro W x hW
    obtain ⟨x, hx1, hx2⟩ := x
    obtain ⟨y, hy⟩ := Option.ne_none_iff_exists'.1 hx2
    have h3 := leafFn_any W ((hT.below hW).leafc hy hx1).1
    show FnGives _ _ _ #[pv G x] (.bool (isLeaf G x)) W
    rw [pv_of hy, isLeaf_of hy]
    exact h3
  have hr := AnyE.slices_ContainsFunc (P := Tryz.prog) Tryz.trHas (fun x : α => pv G x.1) (fun x : α => isLeaf G x.1) 49 #[] (enters_of Tryz.func49 (by kernel_rfl) rfl) g 0 Y.length cap zs w hp (by omega) (by omega) hc
  refine hr.mono ?_
  rintro e w' ⟨rfl, q, rfl⟩
  refine ⟨?_, ⟨rfl, rfl, rfl, Nat.le_refl _, fun _ _ => rfl⟩⟩
  have e1 : (zs.take Y.length).any (fun x : α => isLeaf G x.1) = Y.any (isLeaf G) := by
    rw [← hlen, List.take_length]
    rw [show (fun x : α => isLeaf G x.1) = (isLeaf G) ∘ Subtype.val from rfl, ← List.any_map]
    congr 1
    simp [zs, Function.comp_def]
  rw [e1]
theorem sizeStr : ∀ w, (Go.sizeOf 9).run Tryz.prog w = .ok 1 w := fun w => Tryz.sizeOf9 w
/-- A clone of a way. -/
theorem clone_any {base : Nat} {w : World} {g n cap : Nat} {p : Path} (h : OwnS base w (.slice (some ⟨g, 0, none⟩) n cap) p) (hn : n = p.length) (h9 : p.length ≤ 1048576) :
    Calls Tryz.prog 50 #[.slice (some ⟨g, 0, none⟩) n cap] w fun e w' => ∃ v, e = .returned v ∧ OwnS w.heap.size w' v p ∧ Below w.heap.size w w' := by
  obtain ⟨i0, hi0, hz0, hz1, hz2⟩ := info_parts strinfoN
  subst hn
  have hr := AnyE.slices_Clone (P := Tryz.prog) Tryz.trClone i0 (.string ⟨#[]⟩) 1 16 hi0 hz0 hz1 hz2 rfl (by decide) sizeStr g 0 p.length cap (byS p) w (by rw [byS_len]; omega) (by unfold maxLen; omega) (by omega) (fun j u hu => by
    have hj : j < p.length := by
      have := (List.getElem?_eq_some_iff.1 hu).1
      rwa [byS_len] at this
    rw [byS_get p j hj] at hu
    rw [Nat.zero_add, ← Option.some.inj hu]
    exact h.cell j hj) (byS_one p)
  refine hr.mono ?_
  rintro e w' ⟨v, rfl, h1, _, h2⟩
  exact ⟨v, rfl, h1, h2⟩
end Tr
end Go.Proofs.YtfmbbhcjnidcbaaGreatDoor
