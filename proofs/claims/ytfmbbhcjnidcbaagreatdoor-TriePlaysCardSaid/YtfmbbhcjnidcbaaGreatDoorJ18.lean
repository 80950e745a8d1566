/-
  TrCut2: CONTRACTS: package trie: cut, whole.
  TrApp: append onto a row of one's own, and the way back: behind it the shorter slice reads as it did, if it lies in the same row or not. No program is named here.
-/
import Derived.Test.YtfmbbhcjnidcbaaGreatDoorJ17
import Derived.Test.YtfmbbhcjnidcbaaGreatDoorJ5

namespace Go.Proofs.YtfmbbhcjnidcbaaGreatDoor
open Go.RowKit
open Me

namespace Tr
/-- Strictly behind. -/
def Beh (q x : Path) : Prop := q <+: x ∧ x ≠ q
/-- Another leaf is at x or behind it. -/
def Alive (F : Ns) (p x : Path) : Prop := ∃ l, l ≠ p ∧ isLeaf F l = true ∧ x <+: l
/-- What is behind q is cut, as far as it leads to p alone. -/
structure CutP (F F' : Ns) (q p : Path) : Prop where
  dom : ∀ x, F' x ≠ none ↔ F x ≠ none ∧ (¬ Beh q x ∨ Alive F p x)
  leaf : ∀ x, isLeaf F' x = true ↔ isLeaf F x = true ∧ x ≠ p
  same : ∀ x n', F' x = some n' → ∃ n, F x = some n ∧ n.b = n'.b ∧ n.mb = n'.mb
def Live (F : Ns) : Prop := ∀ x, x ≠ [] → F x ≠ none → ∃ l, isLeaf F l = true ∧ x <+: l
theorem pre_eq {x y : Path} (h : x <+: y) (h2 : y <+: x) : x = y := h.eq_of_length (Nat.le_antisymm h.length_le h2.length_le)
theorem pre_cmp {x y p : Path} (h : x <+: p) (h2 : y <+: p) : x <+: y ∨ y <+: x := by
  rcases Nat.le_total x.length y.length with hl | hl
  · exact .inl (List.prefix_of_prefix_length_le h h2 hl)
  · exact .inr (List.prefix_of_prefix_length_le h2 h hl)
/-- Behind q, but on no way to p: alive. -/
theorem alive_off {F : Ns} (hL : Live F) {q p x : Path} {k : List UInt8} (hp : q ++ [k] <+: p) (hf : F x ≠ none) (hb : Beh q x) (hn : ¬ Beh (q ++ [k]) x) (hne : x ≠ q ++ [k]) : Alive F p x := by
  obtain ⟨l, hl, hx⟩ := hL x (by rintro rfl; exact hb.2 (pre_eq hb.1 (List.nil_prefix)).symm) hf
  refine ⟨l, ?_, hl, hx⟩
  rintro rfl
  rcases pre_cmp hx hp with h | h
  · rcases prefix_snoc_iff.1 h with h1 | h1
    · exact hb.2 (pre_eq h1 hb.1)
    · exact hne h1
  · exact hn ⟨h, hne⟩
theorem beh_snoc {q x : Path} {k : List UInt8} (h : Beh (q ++ [k]) x) : Beh q x := by
  refine ⟨(List.prefix_append _ _).trans h.1, ?_⟩
  rintro rfl
  have h9 := h.1.length_le
  rw [List.length_append, List.length_singleton] at h9
  omega
theorem beh_self (q : Path) (k : List UInt8) : Beh q (q ++ [k]) := ⟨List.prefix_append _ _, snoc_ne _ _⟩
/-- The branch at k stays. -/
theorem CutP.stay {F F1 : Ns} (hL : Live F) {q p : Path} {k : List UInt8} (hp : q ++ [k] <+: p) (h : CutP F F1 (q ++ [k]) p) (hs : isLeaf F1 (q ++ [k]) = true ∨ ∃ k', F1 (q ++ [k] ++ [k']) ≠ none) : CutP F F1 q p := by
  refine ⟨fun x => (h.dom x).trans (and_congr_right fun hf => ?_), h.leaf, h.same⟩
  constructor
  · rintro (hb | ha)
    · by_cases hq : Beh q x
      · right
        by_cases e : x = q ++ [k]
        · subst e
          rcases hs with hs | ⟨k', hs⟩
          · obtain ⟨h1, h2⟩ := (h.leaf _).1 hs
            exact ⟨_, h2, h1, List.prefix_refl _⟩
          · obtain ⟨_, h2⟩ := (h.dom _).1 hs
            rcases h2 with h2 | ⟨l, h3, h4, h5⟩
            · exact absurd (beh_self _ _) h2
            · exact ⟨l, h3, h4, (List.prefix_append _ _).trans h5⟩
        · exact alive_off hL hp hf hq hb e
      · exact .inl hq
    · exact .inr ha
  · rintro (hb | ha)
    · exact .inl fun h1 => hb (beh_snoc h1)
    · exact .inr ha
/-- It goes. -/
theorem CutP.go {F F1 : Ns} (hc : Closed F) (hL : Live F) {q p : Path} {k : List UInt8} (hp : q ++ [k] <+: p) (h : CutP F F1 (q ++ [k]) p) (h1 : isLeaf F1 (q ++ [k]) = false) (h2 : ∀ k', F1 (q ++ [k] ++ [k']) = none) : CutP F (setF F1 (q ++ [k]) none) q p := by
  refine ⟨fun x => ?_, fun x => ?_, fun x n' hx => ?_⟩
  · by_cases e : x = q ++ [k]
    · subst e
      rw [setF_same]
      refine ⟨fun h => absurd rfl h, ?_⟩
      rintro ⟨_, hb | ⟨l, h3, h4, h5⟩⟩
      · exact absurd (beh_self q k) hb
      · exfalso
        by_cases e : l = q ++ [k]
        · subst e
          have := (h.leaf _).2 ⟨h4, h3⟩
          rw [h1] at this; cases this
        · obtain ⟨t, rfl⟩ := h5
          cases t with
          | nil => exact e (List.append_nil _)
          | cons k' t =>
            have hpre : q ++ [k] ++ [k'] <+: q ++ [k] ++ k' :: t := ⟨t, by simp⟩
            exact (h.dom _).2 ⟨hc.prefix hpre (isLeaf_in h4), .inr ⟨_, h3, h4, hpre⟩⟩ (h2 k')
    · rw [setF_other _ _ e, h.dom]
      refine and_congr_right fun hf => ?_
      constructor
      · rintro (hb | ha)
        · by_cases hq : Beh q x
          · exact .inr (alive_off hL hp hf hq hb e)
          · exact .inl hq
        · exact .inr ha
      · rintro (hb | ha)
        · exact .inl fun h1 => hb (beh_snoc h1)
        · exact .inr ha
  · by_cases e : x = q ++ [k]
    · subst e
      unfold isLeaf at *
      rw [setF_same]
      refine ⟨fun h => (by cases h), ?_⟩
      intro h4
      have := (h.leaf _).2 h4
      unfold isLeaf at this
      rw [h1] at this; cases this
    · rw [← h.leaf]
      unfold isLeaf
      rw [setF_other _ _ e]
  · by_cases e : x = q ++ [k]
    · subst e; rw [setF_same] at hx; cases hx
    · rw [setF_other _ _ e] at hx; exact h.same x n' hx
/-- What cut leaves. -/
def CutR (w : World) (T0 : TypeId) (x0 : Value) (c : Nat) (F : Ns) (q p : Path) (w' : World) : Prop :=
  ∃ F', Tree w' T0 x0 c F' ∧ CutP F F' q p ∧ Kp (own F) w w' ∧ ∀ i, own F' i → own F i
theorem CutR.drew {w : World} {T0 : TypeId} {x0 : Value} {c : Nat} {F : Ns} {q p : Path} {w' : World} (h : CutR w T0 x0 c F q p w') : CutR w T0 x0 c F q p w'.drew := by
  obtain ⟨F', h1, h2, h3, h4⟩ := h
  exact ⟨F', h1.keep fun _ _ => rfl, h2, h3.drew, h4⟩
/-- How it ends, what is behind the branch at k being cut. -/
theorem cutEnd_of {w W : World} {T0 : TypeId} {x0 : Value} {c : Nat} (hc9 : c ≤ 1099511627776) {F : Ns} (hcl : Closed F) (hL : Live F) {q p : Path} {k : List UInt8} {n : Nd} (hn : F q = some n) {pb po : Nat} {r : Path} (hR : RowS w pb po (k :: r)) (hO : ¬ own F pb) (hp : q ++ [k] <+: p) {y : Nd} (hy : F (q ++ [k]) = some y) {mb : Nat} (hmb : n.mb = some mb)
    (h : CutR w T0 x0 c F (q ++ [k]) p W) : CutEnd W y.b n.b mb pb po c k (CutR w T0 x0 c F q p) := by
  obtain ⟨F1, hT, hP, hK, hN⟩ := h
  have hy1 : F1 (q ++ [k]) ≠ none := (hP.dom _).2 ⟨by rw [hy]; simp, .inl fun h => h.2 rfl⟩
  have hn1 : F1 q ≠ none := (hP.dom _).2 ⟨by rw [hn]; simp, .inl fun h => by have h9 := h.1.length_le; rw [List.length_append, List.length_singleton] at h9; omega⟩
  obtain ⟨y1, hy1⟩ := Option.ne_none_iff_exists'.1 hy1
  obtain ⟨n1, hn1⟩ := Option.ne_none_iff_exists'.1 hn1
  obtain ⟨y0, hy0, hyb, _⟩ := hP.same _ _ hy1
  rw [hy] at hy0
  obtain rfl := Option.some.inj hy0
  obtain ⟨n0, hn0, hnb, hnm⟩ := hP.same _ _ hn1
  rw [hn] at hn0
  obtain rfl := Option.some.inj hn0
  obtain ⟨s, hs1, hs2, hs3⟩ := (hT.map _ _ hy1).len
  obtain ⟨d0, _, _⟩ := hT.cell hn1
  obtain ⟨e0, _, _⟩ := hT.cell hy1
  obtain ⟨e1, _⟩ := hT.leafc hy1 (by simp)
  have hlf : isLeaf F1 (q ++ [k]) = y1.lf := isLeaf_of hy1
  have hch : (s = 0) ↔ ∀ k', F1 (q ++ [k] ++ [k']) = none := by
    rw [hs3]
    refine forall_congr' fun k' => ?_
    cases F1 (q ++ [k] ++ [k']) <;> simp
  rw [hyb, hnb]
  refine ⟨y1.lf, y1.mb, s, e1, e0, by omega, hs2, ?_, ?_⟩
  · intro h1
    refine ⟨F1, hT, hP.stay hL hp ?_, hK, hN⟩
    rcases h1 with h1 | h1
    · exact .inl (by rw [hlf]; exact h1)
    · right
      refine Classical.byContradiction fun h2 => h1 (hch.2 fun k' => ?_)
      cases e : F1 (q ++ [k] ++ [k']) with
      | none => rfl
      | some z => exact absurd ⟨k', by rw [e]; simp⟩ h2
  · intro h1 h2
    have hm := hT.map _ _ hn1
    rw [← hnm, hmb] at hm d0
    refine ⟨d0, (hR.kp hK hO).head, _, hm, fun W2 hm2 ht => ?_⟩
    obtain ⟨hk2, _⟩ := turned_kp ht
    refine ⟨_, hT.cut hn1 (hch.1 h2) (by rw [← hnm, hmb]) (fun i hi hne => hk2.block i (hT.lt hi) hne) hm2, hP.go hcl hL hp (by rw [hlf]; exact h1) (hch.1 h2), ?_, fun i hi => ?_⟩
    · refine (hK.drew).trans hk2 fun i _ hi => ?_
      subst hi
      exact ⟨q, n, hn, .inr hmb⟩
    · rcases own_setF hi with ⟨z, hz, _⟩ | hi
      · cases hz
      · exact hN i hi
end Tr

theorem cut_any {T0 : TypeId} {x0 : Value} {c : Nat} (hc9 : c ≤ 1099511627776) {F : Tr.Ns} (hL : Tr.Live F) : ∀ (r : Tr.Path) (q : Tr.Path) (n : Tr.Nd) (pb po cap : Nat) (w : World), Tr.Tree w T0 x0 c F → F q = some n → r ≠ [] → F (q ++ r) ≠ none → (∀ k ∈ r, k.length ≤ 1048576) → Tr.RowS w pb po r → ¬ Tr.own F pb → r.length ≤ cap →
    Calls Tryz.prog 24 #[.pointer (some ⟨n.b, 0, none⟩), .slice (some ⟨pb, po, none⟩) r.length cap] w fun e w' => e = .returned (.tuple #[]) ∧ Tr.CutR w T0 x0 c F q (q ++ r) w'
  | [], _, _, _, _, _, _, _, _, h, _, _, _, _, _ => absurd rfl h
  | k :: r, q, n, pb, po, cap, w, hT, hn, _, hf, hk, hR, hO, hc => by
    have hk1 : k.length ≤ 1048576 := hk k (List.mem_cons_self ..)
    obtain ⟨c0, f0, nl⟩ := hT.cell hn
    have c1 := hR.head
    have hl := (hT.keep (w' := w.drew) fun _ _ => rfl).look hn hk1
    have hcn : r.length + 1 ≤ cap := by rw [List.length_cons] at hc; exact hc
    have hpath : q ++ k :: r = q ++ [k] ++ r := by simp
    rw [hpath] at hf ⊢
    have hpre : q ++ [k] <+: q ++ [k] ++ r := List.prefix_append _ _
    obtain ⟨y, hy⟩ := Option.ne_none_iff_exists'.1 (hT.closed.prefix hpre hf)
    obtain ⟨m, hm⟩ : ∃ m, n.mb = some m := by
      rcases hT.map q n hn with ⟨_, h0⟩ | ⟨b, _, hb, _⟩
      · have h1 : (F (q ++ [k])).map (·.b) = none := h0 k
        rw [hy] at h1; cases h1
      · exact ⟨b, hb⟩
    rw [hy, hm] at hl
    rw [hm] at c0
    have fin : ∀ {e : Ending} {w' : World}, (e = .returned (.tuple #[]) ∧ ∃ W, Tr.CutR w T0 x0 c F q (q ++ [k] ++ r) W ∧ (w' = W ∨ w' = W.drew)) → e = .returned (.tuple #[]) ∧ Tr.CutR w T0 x0 c F q (q ++ [k] ++ r) w' := by
      rintro e w' ⟨he, W, hW, rfl | rfl⟩
      · exact ⟨he, hW⟩
      · exact ⟨he, hW.drew⟩
    cases r with
    | nil =>
      obtain ⟨y1, g1⟩ := hT.leafc hy (by simp)
      have hyl := (hT.cell hy).2.2
      rw [List.append_nil] at *
      have hb := hT.node _ _ hy
      rw [Tr.nodeC_child] at hb
      have hT1 : Tr.Tree (w.setCell ⟨y.b, 1, none⟩ (.bool false)).drew T0 x0 c (Tr.setF F (q ++ [k]) (some ⟨y.b, y.mb, false⟩)) :=
        hT.turn hy rfl (by
          rw [Tr.nodeC_child]
          show (w.setCell ⟨y.b, 1, none⟩ (.bool false)).heap[y.b]? = _
          rw [Tr.put_heap hb]; rfl) (fun i _ hne => Below.heap_setCell w ⟨y.b, 1, none⟩ _ i hne) ((hT.map _ _ hy).keep fun b hb => Below.heap_setCell w ⟨y.b, 1, none⟩ _ b (Ne.symm (hT.apart hy hy hb))) (.inl rfl)
      have hP1 : Tr.CutP F (Tr.setF F (q ++ [k]) (some ⟨y.b, y.mb, false⟩)) (q ++ [k]) (q ++ [k]) := by
        refine ⟨fun x => ?_, fun x => ?_, fun x n' hx => ?_⟩
        · by_cases e : x = q ++ [k]
          · subst e
            rw [Tr.setF_same, hy]
            simp [Tr.Beh]
          · rw [Tr.setF_other _ _ e]
            refine ⟨fun hf => ⟨hf, ?_⟩, fun h => h.1⟩
            by_cases hb : Tr.Beh (q ++ [k]) x
            · obtain ⟨l, hl, hx⟩ := hL x (by rintro rfl; have h9 := hb.1.length_le; rw [List.length_append, List.length_singleton, List.length_nil] at h9; omega) hf
              exact .inr ⟨l, fun e2 => e (Tr.pre_eq (e2 ▸ hx) hb.1), hl, hx⟩
            · exact .inl hb
        · by_cases e : x = q ++ [k]
          · subst e
            unfold Tr.isLeaf
            rw [Tr.setF_same]; simp
          · unfold Tr.isLeaf
            rw [Tr.setF_other _ _ e]
            simp [e]
        · by_cases e : x = q ++ [k]
          · subst e
            rw [Tr.setF_same] at hx
            obtain rfl := Option.some.inj hx
            exact ⟨y, hy, rfl, rfl⟩
          · rw [Tr.setF_other _ _ e] at hx
            exact ⟨n', hx, rfl, rfl⟩
      have hR1 : Tr.CutR w T0 x0 c F (q ++ [k]) (q ++ [k]) (w.setCell ⟨y.b, 1, none⟩ (.bool false)).drew :=
        ⟨_, hT1, hP1, ((Kp.refl _ w).setCell ⟨y.b, 1, none⟩ (.inr ⟨_, y, hy, .inl rfl⟩) _).drew, fun i hi => by
          rcases Tr.own_setF hi with ⟨z, hz, h3⟩ | hi
          · obtain rfl := Option.some.inj hz
            exact ⟨_, y, hy, h3⟩
          · exact hi⟩
      have hE := Tr.cutEnd_of hc9 hT.closed hL hn hR hO hpre hy hm hR1
      exact (cut_last w hk1 c0 c1 g1 y1 hl (Lib.hid hE)).mono fun e w' h => fin h
    | cons k2 r2 =>
      have hB : Below w.heap.size w w.drew.drew := (Below.refl _ _).drew.drew
      have IH := cut_any hc9 hL (k2 :: r2) (q ++ [k]) y pb (po + 1) (cap - 1) w.drew.drew (hT.below hB) hy (by simp) hf (fun x hx => hk x (List.mem_cons_of_mem _ hx)) (hR.below hB).tail hO (by omega)
      have HC := Lib.hid (IH.mono fun e w' h => (⟨h.1, (by
        obtain ⟨_, F1, a1, a2, a3, a4⟩ := h
        exact Tr.cutEnd_of hc9 hT.closed hL hn hR hO hpre hy hm ⟨F1, a1, a2, (Kp.of_below hB).trans a3 fun _ _ h => h, a4⟩)⟩ : e = .returned (.tuple #[]) ∧ Tr.CutEnd w' y.b n.b m pb po c k (Tr.CutR w T0 x0 c F q (q ++ [k] ++ k2 :: r2))))
      exact (cut_more w hk1 c0 c1 hl (by rw [List.length_cons]; omega) hcn HC).mono fun e w' h => fin h
end Go.Proofs.YtfmbbhcjnidcbaaGreatDoor

namespace Go.Proofs.YtfmbbhcjnidcbaaGreatDoor
open Go.RowKit
namespace Me
/-- What an append leaves. -/
structure App (w : World) (base : Nat) (e : TypeId) (size : Nat) (v : Value) (n : Nat) (xs : List Value) (m : Nat) (news : List Value) (v' : Value) (w' : World) : Prop where
  old : w.ownsRow base e size v n xs
  own : w'.ownsRow base e size v' (n + m) (xs ++ news)
  grown : w.grownBy w' v.ownBlock
  at_ : v'.ownBlock = v.ownBlock ∨ v'.ownBlock = some w.heap.size
  back : ∀ g cap, v = .slice (some ⟨g, 0, none⟩) n cap → v'.ownBlock = some g → v' = .slice (some ⟨g, 0, none⟩) (n + m) cap
  stay : ∀ g, v.ownBlock = some g → v'.ownBlock ≠ some g → w'.heap[g]? = w.heap[g]?
theorem App.restore {w : World} {base : Nat} {e : TypeId} {size : Nat} {v : Value} {n : Nat} {xs : List Value} {m : Nat} {news : List Value} {v' : Value} {w' W : World} (h : App w base e size v n xs m news v' w')
    (ho : W.ownsRow base e size v' (n + m) (xs ++ news)) (hk : ∀ g, v.ownBlock = some g → v'.ownBlock ≠ some g → W.heap[g]? = w'.heap[g]?) : W.ownsRow base e size v n xs := by
  refine ⟨h.old.1, ?_⟩
  rcases h.old.2 with hn | ⟨g, cap, cur, rfl, hb, hg, hnc, hcm, hcs, ht⟩
  · exact .inl hn
  · by_cases hv : v'.ownBlock = some g
    · have hv' := h.back g cap rfl hv
      subst hv'
      rcases ho.2 with ⟨h0, _⟩ | ⟨g', cap', cur', h1, _, hg', hnc', hcm', hcs', ht'⟩
      · cases h0
      · simp only [Value.slice.injEq, Option.some.injEq, Addr.mk.injEq, and_true, true_and] at h1
        obtain ⟨rfl, rfl⟩ := h1
        refine .inr ⟨g, cap, cur', rfl, hb, hg', hnc, hcm, hcs', ?_⟩
        have h2 := congrArg (List.take (n * size)) ht'
        rw [List.take_take, List.take_append_of_le_length (by rw [h.old.1]; exact Nat.le_refl _)] at h2
        rw [Nat.min_eq_left (Nat.mul_le_mul_right _ (Nat.le_add_right n m))] at h2
        rw [h2, ← h.old.1, List.take_length]
    · exact .inr ⟨g, cap, cur, rfl, hb, ((hk g rfl hv).trans (h.stay g rfl hv)).trans hg, hnc, hcm, hcs, ht⟩
/-- The shorter slice, at once. -/
theorem App.short {w : World} {base : Nat} {e : TypeId} {size : Nat} {v : Value} {n : Nat} {xs : List Value} {m : Nat} {news : List Value} {v' : Value} {w' : World} (h : App w base e size v n xs m news v' w') : w'.ownsRow base e size v n xs :=
  h.restore h.own fun _ _ _ => rfl
theorem App.lt {w : World} {base : Nat} {e : TypeId} {size : Nat} {v : Value} {n : Nat} {xs : List Value} {m : Nat} {news : List Value} {v' : Value} {w' : World} (h : App w base e size v n xs m news v' w') : ∀ g, v'.ownBlock = some g → v.ownBlock = some g ∨ g = w.heap.size := by
  intro g hg
  rcases h.at_ with h1 | h1
  · exact .inl (h1 ▸ hg)
  · rw [hg] at h1; exact .inr (Option.some.inj h1)

section
variable {P : Program} (w : World)
theorem run_app_back (base : Nat) (t ty e : TypeId) (i : TypeInfo) (z : Value) (size bytes : Nat) (ht : P.underlying t = some (.slice e)) (hi : P.info? e = some i) (hz : i.zero = some z)
    (hsize : i.size = size) (hby : i.bytes = bytes) (hzs : z.cells.size = size) (hsz : 0 < size)
    (v : Value) (n : Nat) (xs : List Value) (hown : w.ownsRow base e size v n xs)
    (ad : Addr) (m c : Nat) (news : List Value) (hl : news.length = m * size) (hnews : ∀ j u, news[j]? = some u → w.cell? (ad.add j) = some u) (h1 : ∀ u ∈ news, u.oneCell' = true)
    (hm : 0 < m) (h63 : n + m ≤ maxLen) (hbytes : (n + m) * bytes ≤ 140737488355328) (hbase : base ≤ w.heap.size) :
    ∃ v' w', (Builtin.append_ #[t, t] ty #[v, .slice (some ad) m c]).run P w = .ok v' w' ∧ App w base e size v n xs m news v' w' := by
  obtain ⟨v', w', hrun, h2, h3, _, h5⟩ := run_append_own_at (P := P) w base t ty e i z size bytes ht hi hz hsize hby hzs hsz v n xs hown ad m c news hl hnews h1 h63 hbytes hbase
  have key : ∀ g cap, v = .slice (some ⟨g, 0, none⟩) n cap → (v'.ownBlock = some g → v' = .slice (some ⟨g, 0, none⟩) (n + m) cap) ∧ (v'.ownBlock ≠ some g → w'.heap[g]? = w.heap[g]?) := by
    intro g cap hv
    subst hv
    rcases hown.2 with ⟨h0, _⟩ | ⟨g', cap', cur, h4, hb, hg, hnc, hcm, hcs, htake⟩
    · cases h0
    · simp only [Value.slice.injEq, Option.some.injEq, Addr.mk.injEq, and_true, true_and] at h4
      obtain ⟨rfl, rfl⟩ := h4
      have hgl : g < w.heap.size := (Array.getElem?_eq_some_iff.1 hg).1
      by_cases hroom : n + m ≤ cap
      · have hfit : n * i.size + news.length ≤ cur.size := by rw [hsize, hl, hcs, ← Nat.add_mul]; exact Nat.mul_le_mul_right _ hroom
        have hr := run_append_room (P := P) w t ty e i ht hi g n cap cur hg ad m c news (by rw [hsize]; exact hl) hnews h1 hroom hfit
        rw [hrun] at hr
        injection hr with e1 e2
        subst e1
        exact ⟨fun _ => rfl, fun h => absurd rfl h⟩
      · have holds : ∀ j u, xs[j]? = some u → w.cell? ((⟨g, 0, none⟩ : Addr).add j) = some u := hown.cells (g := g) rfl
        have hr := run_append_grow (P := P) w t ty e i z ht hi hz ⟨g, 0, none⟩ n cap xs (by rw [hsize]; exact hown.1) holds ad m c news (by rw [hsize]; exact hl) hnews (by omega) (by simp only [maxLen] at h63; omega) (growslice_fits (by omega) (by rw [hby]; exact hbytes))
        rw [hrun] at hr
        injection hr with e1 e2
        subst e1 e2
        refine ⟨fun h => ?_, fun _ => ?_⟩
        · have : w.heap.size = g := by simpa [Value.ownBlock] using h
          omega
        · exact Below.heap_alloc w.drew _ g hgl
  refine ⟨v', w', hrun, hown, h2, h3, h5, fun g cap hv => (key g cap hv).1, fun g hg hne => ?_⟩
  rcases hown.2 with ⟨rfl, _⟩ | ⟨g', cap', cur, rfl, _⟩
  · cases hg
  · have e1 : g' = g := by simpa [Value.ownBlock] using hg
    subst e1
    exact (key g' cap' rfl).2 hne

variable {o : Oper} {a : Act} {K : Act → World → Prop} {Q : Exit → Act → World → Prop}
theorem wp_push (s x : Operand) (t : TypeId) (ho : o.op = .call { callee := .builtin .append, args := #[s, x], argTypes := #[t, t] })
    (base : Nat) (e : TypeId) (i : TypeInfo) (z : Value) (size bytes : Nat) (ht : P.underlying t = some (.slice e)) (hi : P.info? e = some i) (hz : i.zero = some z)
    (hsize : i.size = size) (hby : i.bytes = bytes) (hzs : z.cells.size = size) (hsz : 0 < size)
    (v : Value) (n : Nat) (xs : List Value) (hs : a.eval s = v) (hown : w.ownsRow base e size v n xs)
    (ad : Addr) (m c : Nat) (news : List Value) (hx : a.eval x = .slice (some ad) m c) (hl : news.length = m * size) (hnews : ∀ j u, news[j]? = some u → w.cell? (ad.add j) = some u) (h1 : ∀ u ∈ news, u.oneCell' = true)
    (hm : 0 < m) (h63 : n + m ≤ maxLen) (hbytes : (n + m) * bytes ≤ 140737488355328) (hbase : base ≤ w.heap.size)
    (h : ∀ v' w', App w base e size v n xs m news v' w' → K (a.put o.dst v') w') : o.wp P a w K Q := by
  obtain ⟨v', w', hrun, h2⟩ := run_app_back (P := P) w base t o.type e i z size bytes ht hi hz hsize hby hzs hsz v n xs hown ad m c news hl hnews h1 hm h63 hbytes hbase
  unfold Oper.wp execOp
  simp only [ho, resolve, invoke, builtin, Sem.run_bind, Sem.run_pure, Result.andThen_ok, List.map_toArray, List.map_cons, List.map_nil, hs, hx, hrun]
  exact h v' w' h2
theorem wpList_push {ops : Array Oper} {rest : List Oper} (hgd : o.guard = none) (s x : Operand) (t : TypeId) (ho : o.op = .call { callee := .builtin .append, args := #[s, x], argTypes := #[t, t] })
    (base : Nat) (e : TypeId) (i : TypeInfo) (z : Value) (size bytes : Nat) (ht : P.underlying t = some (.slice e)) (hi : P.info? e = some i) (hz : i.zero = some z)
    (hsize : i.size = size) (hby : i.bytes = bytes) (hzs : z.cells.size = size) (hsz : 0 < size)
    (v : Value) (n : Nat) (xs : List Value) (hs : a.eval s = v) (hown : w.ownsRow base e size v n xs)
    (ad : Addr) (m c : Nat) (news : List Value) (hx : a.eval x = .slice (some ad) m c) (hl : news.length = m * size) (hnews : ∀ j u, news[j]? = some u → w.cell? (ad.add j) = some u) (h1 : ∀ u ∈ news, u.oneCell' = true)
    (hm : 0 < m) (h63 : n + m ≤ maxLen) (hbytes : (n + m) * bytes ≤ 140737488355328) (hbase : base ≤ w.heap.size)
    (h : ∀ v' w', App w base e size v n xs m news v' w' → wpList P ops Q rest (a.put o.dst v') w') : wpList P ops Q (o :: rest) a w :=
  wpList_plain hgd fun _ hK => wp_push w s x t ho base e i z size bytes ht hi hz hsize hby hzs hsz v n xs hs hown ad m c news hx hl hnews h1 hm h63 hbytes hbase fun v' w' h2 => hK _ _ (h v' w' h2)
theorem step_push {ops : Array Oper} {E : Prop} (hgd : o.guard = none) (s x : Operand) (t : TypeId) (ho : o.op = .call { callee := .builtin .append, args := #[s, x], argTypes := #[t, t] })
    (base : Nat) (e : TypeId) (i : TypeInfo) (z : Value) (size bytes : Nat) (ht : P.underlying t = some (.slice e)) (hi : P.info? e = some i) (hz : i.zero = some z)
    (hsize : i.size = size) (hby : i.bytes = bytes) (hzs : z.cells.size = size) (hsz : 0 < size)
    (v : Value) (n : Nat) (xs : List Value) (hs : a.eval s = v) (hown : w.ownsRow base e size v n xs)
    (ad : Addr) (m c : Nat) (news : List Value) (hx : a.eval x = .slice (some ad) m c) (hl : news.length = m * size) (hnews : ∀ j u, news[j]? = some u → w.cell? (ad.add j) = some u) (h1 : ∀ u ∈ news, u.oneCell' = true)
    (hm : 0 < m) (h63 : n + m ≤ maxLen) (hbytes : (n + m) * bytes ≤ 140737488355328) (hbase : base ≤ w.heap.size)
    (h : ∀ v' w', App w base e size v n xs m news v' w' → K (a.put o.dst v') w') :
    if Region.wanted o (yielded ops a.tmps) = true then Oper.wp P o a w K Q else E := by
  have hw : Region.wanted o (yielded ops a.tmps) = true := by simp [Region.wanted, hgd]
  rw [if_pos hw]
  exact wp_push w s x t ho base e i z size bytes ht hi hz hsize hby hzs hsz v n xs hs hown ad m c news hx hl hnews h1 hm h63 hbytes hbase h
end
/-- A block of two cells that was just laid. -/
theorem cells_new (w : World) (cs : List Value) (t : TypeId) : ∀ j u, cs[j]? = some u → (w.alloc (.cells cs.toArray t)).cell? ((⟨w.heap.size, 0, none⟩ : Addr).add j) = some u := by
  intro j u hu
  rw [Addr.add_lit, Nat.zero_add, World.cell?_alloc_new]
  simpa using hu
end Me
end Go.Proofs.YtfmbbhcjnidcbaaGreatDoor
