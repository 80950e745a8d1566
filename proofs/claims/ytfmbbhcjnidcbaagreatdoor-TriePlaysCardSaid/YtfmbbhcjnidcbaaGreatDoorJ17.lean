/-
  TrGrow2: CONTRACTS: package trie: grow, whole.
  TrCut: CONTRACTS: package trie: cut: a leaf is taken away, and what leads to nothing.
-/
import Derived.Test.YtfmbbhcjnidcbaaGreatDoorJ16

namespace Go.Proofs.YtfmbbhcjnidcbaaGreatDoor
open Go.RowKit
open Me

namespace Tr
/-- A path more; what was there is there, and as it was. -/
structure Grown (F F' : Ns) (p : Path) : Prop where
  dom : ∀ x, F' x ≠ none ↔ F x ≠ none ∨ x <+: p
  leaf : ∀ x, isLeaf F' x = isLeaf F x
  same : ∀ x n, F x = some n → ∃ n', F' x = some n' ∧ n'.b = n.b
theorem Grown.refl {F : Ns} (h : Closed F) {p : Path} (hp : F p ≠ none) : Grown F F p := ⟨fun _ => ⟨.inl, fun h1 => h1.elim id fun hx => h.prefix hx hp⟩, fun _ => rfl, fun _ n hn => ⟨n, hn, rfl⟩⟩
theorem Grown.trans {F F1 F2 : Ns} {p r : Path} (h : Grown F F1 p) (h2 : Grown F1 F2 (p ++ r)) : Grown F F2 (p ++ r) :=
  ⟨fun x => by
    rw [h2.dom, h.dom]
    constructor
    · rintro ((h1 | h1) | h1)
      · exact .inl h1
      · exact .inr (h1.trans (List.prefix_append _ _))
      · exact .inr h1
    · rintro (h1 | h1)
      · exact .inl (.inl h1)
      · exact .inr h1, fun x => (h2.leaf x).trans (h.leaf x), fun x n hn => by
    obtain ⟨n1, h3, h4⟩ := h.same x n hn
    obtain ⟨n2, h5, h6⟩ := h2.same x n1 h3
    exact ⟨n2, h5, h6.trans h4⟩⟩
theorem prefix_snoc_iff {x q : Path} {k : List UInt8} : x <+: q ++ [k] ↔ x <+: q ∨ x = q ++ [k] := by
  constructor
  · rintro ⟨t, ht⟩
    rcases List.eq_nil_or_concat t with rfl | ⟨t', a, rfl⟩
    · exact .inr (by simpa using ht)
    · rw [List.concat_eq_append, ← List.append_assoc] at ht
      exact .inl ⟨t', (snoc_inj ht).1⟩
  · rintro (h | h)
    · exact h.trans (List.prefix_append _ _)
    · rw [h]; exact List.prefix_refl _
theorem Grown.add {F F1 : Ns} (hc : Closed F) {q : Path} {k : List UInt8} {n n1 : Nd} (hn : F q = some n) (hnone : F (q ++ [k]) = none) (hb : n1.b = n.b) (hlf : n1.lf = n.lf) (id : Nat) (hF : F1 = setF (setF F q (some n1)) (q ++ [k]) (some ⟨id, none, false⟩)) : Grown F F1 (q ++ [k]) := by
  subst hF
  refine ⟨fun x => ?_, fun x => ?_, fun x y hx => ?_⟩
  · rw [prefix_snoc_iff]
    by_cases e : x = q ++ [k]
    · subst e; rw [setF_same]; simp
    · rw [setF_other _ _ e]
      by_cases e2 : x = q
      · subst e2; rw [setF_same, hn]; simp
      · rw [setF_other _ _ e2]
        refine ⟨.inl, fun h => h.elim (fun h => h) fun h => h.elim (fun h => hc.prefix h (by rw [hn]; simp)) (fun h => absurd h e)⟩
  · unfold isLeaf
    by_cases e : x = q ++ [k]
    · subst e; rw [setF_same, hnone]
    · rw [setF_other _ _ e]
      by_cases e2 : x = q
      · subst e2; rw [setF_same, hn]; exact hlf
      · rw [setF_other _ _ e2]
  · have e : x ≠ q ++ [k] := by rintro rfl; rw [hnone] at hx; cases hx
    rw [setF_other _ _ e]
    by_cases e2 : x = q
    · subst e2
      rw [hn] at hx
      obtain rfl := Option.some.inj hx
      exact ⟨n1, setF_same _ _ _, hb⟩
    · exact ⟨y, by rw [setF_other _ _ e2]; exact hx, rfl⟩
/-- What grow leaves. -/
def GrowR (w : World) (T0 : TypeId) (x0 : Value) (c : Nat) (F : Ns) (p : Path) (v : Value) (w' : World) : Prop :=
  ∃ F' y, v = .pointer (some ⟨y.b, 0, none⟩) ∧ F' p = some y ∧ Tree w' T0 x0 c F' ∧ Grown F F' p ∧ Kp (own F) w w' ∧ ∀ i, own F' i → own F i ∨ w.heap.size ≤ i
/-- One step of it: the branch at k is there, in the world w1. -/
structure Step (w w1 : World) (T0 : TypeId) (x0 : Value) (c : Nat) (F F1 : Ns) (q : Path) (k : List UInt8) (y : Nd) : Prop where
  tree : Tree w1 T0 x0 (c + 1) F1
  at_ : F1 (q ++ [k]) = some y
  grown : Grown F F1 (q ++ [k])
  kp : Kp (own F) w w1
  new : ∀ i, own F1 i → own F i ∨ w.heap.size ≤ i
theorem step_there {w : World} {T0 : TypeId} {x0 : Value} {c : Nat} {F : Ns} (h : Tree w T0 x0 c F) {q : Path} {k : List UInt8} {y : Nd} (hy : F (q ++ [k]) = some y) : Step w w T0 x0 c F F q k y :=
  ⟨h.mono (Nat.le_succ c), hy, Grown.refl h.closed (by rw [hy]; simp), Kp.refl _ _, fun _ => .inl⟩
theorem own_setF {F : Ns} {q : Path} {v : Option Nd} {i : Nat} (h : own (setF F q v) i) : (∃ n, v = some n ∧ (i = n.b ∨ n.mb = some i)) ∨ own F i := by
  obtain ⟨x, n, hn, hi⟩ := h
  by_cases e : x = q
  · subst e; rw [setF_same] at hn; exact .inl ⟨n, hn, hi⟩
  · rw [setF_other _ _ e] at hn; exact .inr ⟨x, n, hn, hi⟩
theorem setF_self {F : Ns} {q : Path} {n : Nd} (h : F q = some n) : setF F q (some n) = F := by
  funext x
  by_cases e : x = q
  · subst e; rw [setF_same, h]
  · rw [setF_other _ _ e]
theorem step_b {w : World} {T0 : TypeId} {x0 : Value} {c : Nat} {F : Ns} (h : Tree w T0 x0 c F) (hc : c < maxLen) {q : Path} {n : Nd} (hn : F q = some n) {k : List UInt8} (hk : k.length ≤ 1048576) (hnone : F (q ++ [k]) = none) {m : Nat} (hm : n.mb = some m) :
    ∃ w2, (Instr.mapUpdate 46 (.map (some m)) (.string ⟨k.toArray⟩) (.pointer (some ⟨w.heap.size, 0, none⟩))).run Tryz.prog (w.alloc (.cells #[.map none, .bool false] 55)).drew.drew = .ok () w2 ∧
      Step w w2 T0 x0 c F (setF (setF F q (some n)) (q ++ [k]) (some ⟨w.heap.size, none, false⟩)) q k ⟨w.heap.size, none, false⟩ := by
  obtain ⟨W0, hW0⟩ : ∃ W0, W0 = (w.alloc (.cells #[.map none, .bool false] 55)).drew.drew := ⟨_, rfl⟩
  have hB : Below w.heap.size w W0 := by rw [hW0]; exact ((Below.refl _ _).alloc (Nat.le_refl _) _).drew.drew
  have hT0 := h.below hB
  have hnew : W0.heap[w.heap.size]? = some (.cells #[.map none, .bool false] 55 (0, 0)) := by rw [hW0]; exact heap_alloc_new w _
  have hmp := hT0.map q n hn
  rw [hm] at hmp
  obtain ⟨w2, hrun, h1, h2⟩ := hmp.store hc hk w.heap.size
  obtain ⟨hkp, hsz⟩ := turned_kp h2
  have hmlt := ((h.map q n hn).lt hm).1
  have hw0 : w.heap.size < W0.heap.size := (Array.getElem?_eq_some_iff.1 hnew).1
  refine ⟨w2, by rw [← hW0]; exact hrun, ?_, setF_same _ _ _, Grown.add h.closed hn hnone rfl rfl _ rfl, ?_, fun i hi => ?_⟩
  · rw [setF_self hn]
    exact hT0.add hn hk hnone hm ((hkp.block _ hw0 (fun e => by omega)).trans hnew) (fun i hi e => by have := h.lt hi; omega) (fun i hi hne => hkp.block i (hT0.lt hi) hne) h1
  · exact (Kp.of_below hB).trans hkp fun i _ hi => by subst hi; exact ⟨q, n, hn, .inr hm⟩
  · rcases own_setF hi with ⟨y, hy, hi⟩ | hi
    · obtain rfl := Option.some.inj hy
      rcases hi with rfl | hi
      · exact .inr (Nat.le_refl _)
      · cases hi
    · rw [setF_self hn] at hi; exact .inl hi
theorem put_heap {w : World} {g i : Nat} {cs : Array Value} {t : TypeId} {fr : Nat × Nat} (h : w.heap[g]? = some (.cells cs t fr)) (u : Value) : (w.setCell ⟨g, i, none⟩ u).heap[g]? = some (.cells (cs.setIfInBounds i u) t fr) := by
  simp [World.setCell, Array.getElem?_modify, h]
theorem step_a {w : World} {T0 : TypeId} {x0 : Value} {c : Nat} {F : Ns} (h : Tree w T0 x0 c F) (hc : c < maxLen) {q : Path} {n : Nd} (hn : F q = some n) {k : List UInt8} (hk : k.length ≤ 1048576) (hnone : F (q ++ [k]) = none) (hm : n.mb = none) :
    ∃ w2, (Instr.mapUpdate 46 (.map (some w.heap.size)) (.string ⟨k.toArray⟩) (.pointer (some ⟨w.heap.size + 1, 0, none⟩))).run Tryz.prog (((w.setCell ⟨n.b, 0, none⟩ (.map (some w.heap.size))).alloc (.map #[] 0)).alloc (.cells #[.map none, .bool false] 55)).drew.drew = .ok () w2 ∧
      Step w w2 T0 x0 c F (setF (setF F q (some ⟨n.b, some w.heap.size, n.lf⟩)) (q ++ [k]) (some ⟨w.heap.size + 1, none, false⟩)) q k ⟨w.heap.size + 1, none, false⟩ := by
  have hs : (w.setCell ⟨n.b, 0, none⟩ (.map (some w.heap.size))).heap.size = w.heap.size := by simp [World.setCell]
  obtain ⟨W0, hW0⟩ : ∃ W0, W0 = (((w.setCell ⟨n.b, 0, none⟩ (.map (some w.heap.size))).alloc (.map #[] 0)).alloc (.cells #[.map none, .bool false] 55)).drew.drew := ⟨_, rfl⟩
  have hK0 : Kp (own F) w W0 := by rw [hW0]; exact (((((Kp.refl _ w).setCell ⟨n.b, 0, none⟩ (.inr ⟨q, n, hn, .inl rfl⟩) _).alloc _).alloc _).drew).drew
  have hbl := (h.cell hn).2.2
  have hother : ∀ i, i < w.heap.size → i ≠ n.b → W0.heap[i]? = w.heap[i]? := by
    intro i hi hne
    rw [hW0]
    show ((((w.setCell ⟨n.b, 0, none⟩ (.map (some w.heap.size))).alloc (.map #[] 0)).alloc (.cells #[.map none, .bool false] 55)).heap[i]?) = _
    rw [Below.heap_alloc _ _ i (by simp [World.setCell]; omega), Below.heap_alloc _ _ i (by rw [hs]; exact hi), Below.heap_setCell w ⟨n.b, 0, none⟩ _ i hne]
  have hself : W0.heap[n.b]? = some (nodeC T0 x0 q ⟨n.b, some w.heap.size, n.lf⟩) := by
    rw [hW0]
    show ((((w.setCell ⟨n.b, 0, none⟩ (.map (some w.heap.size))).alloc (.map #[] 0)).alloc (.cells #[.map none, .bool false] 55)).heap[n.b]?) = _
    rw [Below.heap_alloc _ _ n.b (by simp [World.setCell]; omega), Below.heap_alloc _ _ n.b (by rw [hs]; exact hbl)]
    have hb := h.node q n hn
    cases q with
    | nil =>
      have hb' : w.heap[n.b]? = some (.cells #[.map n.mb, x0] T0 (0, 0)) := hb
      rw [put_heap hb']
      rfl
    | cons a r =>
      have hb' : w.heap[n.b]? = some (.cells #[.map n.mb, .bool n.lf] 55 (0, 0)) := hb
      rw [put_heap hb']
      rfl
  have hmap : W0.heap[w.heap.size]? = some (.map #[] 0) := by
    rw [hW0]
    show ((((w.setCell ⟨n.b, 0, none⟩ (.map (some w.heap.size))).alloc (.map #[] 0)).alloc (.cells #[.map none, .bool false] 55)).heap[w.heap.size]?) = _
    rw [Below.heap_alloc _ _ w.heap.size (by simp [World.setCell])]
    have := heap_alloc_new (w.setCell ⟨n.b, 0, none⟩ (.map (some w.heap.size))) (.map #[] 0)
    rw [hs] at this
    exact this
  have hnew : W0.heap[w.heap.size + 1]? = some (.cells #[.map none, .bool false] 55 (0, 0)) := by
    rw [hW0]
    have := heap_alloc_new ((w.setCell ⟨n.b, 0, none⟩ (.map (some w.heap.size))).alloc (.map #[] 0)) (.cells #[.map none, .bool false] 55)
    have e : ((w.setCell ⟨n.b, 0, none⟩ (.map (some w.heap.size))).alloc (.map #[] 0)).heap.size = w.heap.size + 1 := by simp [World.setCell]
    rw [e] at this
    exact this
  have hchild : ∀ k', (F (q ++ [k'])).map (·.b) = none := by
    rcases h.map q n hn with ⟨_, h0⟩ | ⟨b, D, hb, _⟩
    · exact h0
    · rw [hm] at hb; cases hb
  have hmp0 : Mp W0 (some w.heap.size) c (fun k' => (F (q ++ [k'])).map (·.b)) := by
    have h1 := (Mp.made (w.setCell ⟨n.b, 0, none⟩ (.map (some w.heap.size)))).mono (Nat.zero_le c)
    rw [hs] at h1
    refine (h1.keep (w' := W0) fun b hb => ?_).congr fun k' => (hchild k').symm
    obtain rfl := Option.some.inj hb
    rw [hmap]
    have := heap_alloc_new (w.setCell ⟨n.b, 0, none⟩ (.map (some w.heap.size))) (.map #[] 0)
    rw [hs] at this
    exact this.symm
  have hT0 : Tree W0 T0 x0 c (setF F q (some ⟨n.b, some w.heap.size, n.lf⟩)) :=
    h.turn hn rfl hself (fun i hi hne => hother i (h.lt hi) hne) hmp0 (.inr fun m hm' q2 n2 hn2 e => by
      obtain rfl := Option.some.inj hm'
      have := ((h.map q2 n2 hn2).lt e).1
      omega)
  have hn1 : setF F q (some ⟨n.b, some w.heap.size, n.lf⟩) q = some ⟨n.b, some w.heap.size, n.lf⟩ := setF_same _ _ _
  have hnone1 : setF F q (some ⟨n.b, some w.heap.size, n.lf⟩) (q ++ [k]) = none := by rw [setF_other _ _ (snoc_ne _ _)]; exact hnone
  obtain ⟨w2, hrun, h1, h2⟩ := (hT0.map q _ hn1).store hc hk (w.heap.size + 1)
  obtain ⟨hkp, hsz⟩ := turned_kp h2
  have hw0 : w.heap.size + 1 < W0.heap.size := (Array.getElem?_eq_some_iff.1 hnew).1
  have hown1 : ∀ i, own (setF F q (some ⟨n.b, some w.heap.size, n.lf⟩)) i → own F i ∨ i = w.heap.size := by
    intro i hi
    rcases own_setF hi with ⟨y, hy, hi⟩ | hi
    · obtain rfl := Option.some.inj hy
      rcases hi with rfl | hi
      · exact .inl ⟨q, n, hn, .inl rfl⟩
      · exact .inr (Option.some.inj hi).symm
    · exact .inl hi
  refine ⟨w2, by rw [← hW0]; exact hrun, ?_, setF_same _ _ _, Grown.add (n1 := ⟨n.b, some w.heap.size, n.lf⟩) h.closed hn hnone rfl rfl _ rfl, ?_, fun i hi => ?_⟩
  · exact hT0.add hn1 hk hnone1 rfl ((hkp.block _ hw0 (fun e => by omega)).trans hnew) (fun i hi e => by
      rcases hown1 i hi with h3 | h3
      · have := h.lt h3; omega
      · omega) (fun i hi hne => hkp.block i (hT0.lt hi) hne) h1
  · exact hK0.trans hkp fun i hi e => by omega
  · rcases own_setF hi with ⟨y, hy, hi⟩ | hi
    · obtain rfl := Option.some.inj hy
      rcases hi with rfl | hi
      · exact .inr (Nat.le_succ _)
      · cases hi
    · rcases hown1 i hi with h3 | h3
      · exact .inl h3
      · exact .inr (by omega)
theorem RowS.kp {w w' : World} {O : Nat → Prop} {pb po : Nat} {r : Path} (h : RowS w pb po r) (k : Kp O w w') (hO : ¬ O pb) : RowS w' pb po r := h.keep k.size (k.block pb h.lt hO)
theorem GrowR.of_step {w w1 W : World} {T0 : TypeId} {x0 : Value} {c : Nat} {F F1 : Ns} {q : Path} {k : List UInt8} {y : Nd} (s : Step w w1 T0 x0 c F F1 q k y) (hW : Below w1.heap.size w1 W) : GrowR w T0 x0 (c + 1) F (q ++ [k]) (.pointer (some ⟨y.b, 0, none⟩)) W :=
  ⟨F1, y, rfl, s.at_, s.tree.below hW, s.grown, s.kp.trans (Kp.of_below (O := own F) hW) fun _ _ h => h, s.new⟩
theorem GrowR.trans {w w1 W W' : World} {T0 : TypeId} {x0 : Value} {c c' : Nat} {F F1 : Ns} {q r : Path} {k : List UInt8} {y : Nd} {v : Value} (s : Step w w1 T0 x0 c F F1 q k y) (hW : Below w1.heap.size w1 W) (h : GrowR W T0 x0 c' F1 (q ++ [k] ++ r) v W') : GrowR w T0 x0 c' F (q ++ [k] ++ r) v W' := by
  obtain ⟨F2, y2, hv, ha, ht, hg, hk, hn⟩ := h
  have hsz := Nat.le_trans s.kp.size hW.size
  refine ⟨F2, y2, hv, ha, ht, s.grown.trans hg, ?_, fun i hi => ?_⟩
  · refine (s.kp.trans (Kp.of_below (O := own F) hW) fun _ _ h => h).trans hk fun i hi ho => ?_
    rcases s.new i ho with h3 | h3
    · exact h3
    · omega
  · rcases hn i hi with h3 | h3
    · exact s.new i h3
    · exact .inr (by omega)
end Tr

theorem grow_any {T0 : TypeId} {x0 : Value} : ∀ (r : Tr.Path) {F : Tr.Ns} (q : Tr.Path) (n : Tr.Nd) (c pb po cap : Nat) (w : World), Tr.Tree w T0 x0 c F → F q = some n → r ≠ [] → (∀ k ∈ r, k.length ≤ 1048576) → Tr.RowS w pb po r → ¬ Tr.own F pb → r.length ≤ cap → c + r.length ≤ 1099511627776 →
    Calls Tryz.prog 20 #[.pointer (some ⟨n.b, 0, none⟩), .slice (some ⟨pb, po, none⟩) r.length cap] w fun e w' => ∃ v, e = .returned v ∧ Tr.GrowR w T0 x0 (c + r.length) F (q ++ r) v w'
  | [], _, _, _, _, _, _, _, _, _, _, h, _, _, _, _, _ => absurd rfl h
  | k :: r, F, q, n, c, pb, po, cap, w, hT, hn, _, hk, hR, hO, hc, hcc => by
    have hk1 : k.length ≤ 1048576 := hk k (List.mem_cons_self ..)
    obtain ⟨c0, f0, nl⟩ := hT.cell hn
    have c1 := hR.head
    have hl := (hT.keep (w' := w.drew) fun _ _ => rfl).look hn hk1
    have hcn : r.length + 1 ≤ cap := by rw [List.length_cons] at hc; exact hc
    have hpath : q ++ k :: r = q ++ [k] ++ r := by simp
    have hcl : c < maxLen := by rw [List.length_cons] at hcc; unfold maxLen; omega
    rw [hpath]
    have key : ∀ (w1 : World) (F1 : Tr.Ns) (y : Tr.Nd), Tr.Step w w1 T0 x0 c F F1 q k y → Tr.Gw w1 r.length y.b pb po cap (Tr.GrowR w T0 x0 (c + (k :: r).length) F (q ++ [k] ++ r)) := by
      intro w1 F1 y s
      refine ⟨fun h0 W hW => ?_, fun h1 W hW => ?_⟩
      · have hr : r = [] := List.eq_nil_of_length_eq_zero h0
        subst hr
        rw [List.append_nil]
        exact Tr.GrowR.of_step s hW
      · have hne : r ≠ [] := by rintro rfl; simp at h1
        have hpn : ¬ Tr.own F1 pb := fun h => by
          rcases s.new pb h with h3 | h3
          · exact hO h3
          · have := hR.lt; omega
        have h2 := grow_any r (F := F1) (q ++ [k]) y (c + 1) pb (po + 1) (cap - 1) W (s.tree.below hW) s.at_ hne (fun x hx => hk x (List.mem_cons_of_mem _ hx)) ((hR.kp s.kp hO).below hW).tail hpn (by omega) (by rw [List.length_cons] at hcc; omega)
        refine h2.mono fun e w' => ?_
        rintro ⟨v, he, hg⟩
        have e9 : c + (k :: r).length = c + 1 + r.length := by rw [List.length_cons]; omega
        rw [e9]
        exact ⟨v, he, Tr.GrowR.trans s hW hg⟩
    cases e : F (q ++ [k]) with
    | some y =>
      rw [e] at hl
      exact grow_c w c0 c1 hl hcn (Lib.hid (key w F y (Tr.step_there hT e)))
    | none =>
      rw [e] at hl
      cases hm : n.mb with
      | some m =>
        rw [hm] at hl c0
        obtain ⟨w2, hst, s⟩ := Tr.step_b hT hcl hn hk1 e hm
        exact grow_b w w2 nl hR.lt c0 c1 hl rfl hcn hst (Lib.hid (key w2 _ _ s))
      | none =>
        rw [hm] at hl c0
        obtain ⟨w2, hst, s⟩ := Tr.step_a hT hcl hn hk1 e hm
        exact grow_a w w2 nl hR.lt (fun e2 => hO (by rw [e2]; exact ⟨q, n, hn, .inl rfl⟩)) f0 c0 c1 hl rfl rfl hcn hst (Lib.hid (key w2 _ _ s))
end Go.Proofs.YtfmbbhcjnidcbaaGreatDoor

namespace Go.Proofs.YtfmbbhcjnidcbaaGreatDoor
open Go.RowKit
open Me

namespace Tr
section
variable {ops : Array Oper} {o : Oper} {a : Act} {w : World} {K : Act → World → Prop} {Q : Exit → Act → World → Prop} {E : Prop}
theorem step_del (hgd : o.guard = none) (m x : Operand) (hop : o.op = Op.call { callee := Callee.builtin Builtin.delete, args := #[m, x], argTypes := #[46, 9] }) (b k : Nat) (mf : List UInt8 → Option Nat) (n : List UInt8) (hm : a.eval m = .map (some b))
    (hmp : Mp w (some b) k mf) (hx : a.eval x = .string ⟨n.toArray⟩) (hn : n.length ≤ 1048576)
    (h : ∀ w', Mp w' (some b) k (setM mf n none) → w.mapTurned w' b → K (a.put o.dst (.tuple #[])) w') :
    if Region.wanted o (yielded ops a.tmps) = true then Oper.wp Tryz.prog o a w K Q else E := by
  have hw : Region.wanted o (yielded ops a.tmps) = true := by simp [Region.wanted, hgd]
  rw [if_pos hw]
  obtain ⟨w', hrun, h1, h2⟩ := hmp.drop hn o.type
  unfold Oper.wp
  simp [execOp, hop, resolve, invoke, builtin, hm, hx, hrun, Result.andThen]
  exact h w' h1 h2
end
/-- How cut ends, the branch at k being at yb: it stays, or it goes. -/
def CutEnd (W : World) (yb nb mb pb po c : Nat) (k : List UInt8) (R : World → Prop) : Prop :=
  ∃ (lf : Bool) (mb1 : Option Nat) (s : Nat), W.cell? ⟨yb, 1, none⟩ = some (.bool lf) ∧ W.cell? ⟨yb, 0, none⟩ = some (.map mb1) ∧ s ≤ 1099511627776 ∧ (∀ ty, (Builtin.len_ #[46] ty #[.map mb1]).run Tryz.prog W = .ok (.int .i64 s) W) ∧
    ((lf = true ∨ s ≠ 0) → R W) ∧ (lf = false → s = 0 → W.cell? ⟨nb, 0, none⟩ = some (.map (some mb)) ∧ W.cell? ⟨pb, po, none⟩ = some (.string ⟨k.toArray⟩) ∧ ∃ mf, Mp W (some mb) c mf ∧ ∀ W2, Mp W2 (some mb) c (setM mf k none) → W.drew.mapTurned W2 mb → R W2)
end Tr

set_option maxRecDepth 100000 in
set_option maxHeartbeats 1000000 in
theorem cut_last {nb yb pb po cap mb c : Nat} {k : List UInt8} {R : World → Prop} (w : World) (hk : k.length ≤ 1048576) (c0 : w.cell? ⟨nb, 0, none⟩ = some (.map (some mb))) (c1 : w.cell? ⟨pb, po, none⟩ = some (.string ⟨k.toArray⟩)) (f1 : w.frozen? ⟨yb, 1, none⟩ = false) {lf0 : Bool} (y1 : w.cell? ⟨yb, 1, none⟩ = some (.bool lf0))
    (hl : (Instr.lookup 46 (.map (some mb)) (.string ⟨k.toArray⟩) false).run Tryz.prog w.drew = .ok (.pointer (some ⟨yb, 0, none⟩)) w.drew)
    (HE : Hid (Tr.CutEnd (w.setCell ⟨yb, 1, none⟩ (.bool false)).drew yb nb mb pb po c k R)) :
    Calls Tryz.prog 24 #[.pointer (some ⟨nb, 0, none⟩), .slice (some ⟨pb, po, none⟩) 1 cap] w fun e w' => e = .returned (.tuple #[]) ∧ ∃ W, R W ∧ (w' = W ∨ w' = W.drew) := by
  obtain ⟨lf, mb1, s, e1, e0, hs9, hlen, hA, hB⟩ := HE.out
  have HA := Lib.hid hA
  have HB := Lib.hid hB
  clear hA hB HE
  cases lf with
  | true =>
    clear hlen
    have HR := Lib.hid (HA.out (.inl rfl))
    clear HA HB
    go_enter Tryz.func24, Tryz.ntmps24
    go_wp2_with fail
    go_region
    go_wp2_with fail
    ((try simp only [Exit.inBlock, Exit.then]); first | (refine bodyPost_ret (results_none rfl _ _ _) rfl ?_) | (refine bodyPost_end (results_none rfl _ _ _) rfl ?_))
    exact ⟨rfl, _, HR.out, .inl rfl⟩
  | false =>
    by_cases h0 : s = 0
    · subst h0
      obtain ⟨d0, d1, mf, hmp, hR⟩ := HB.out rfl rfl
      have HM := Lib.hid hmp
      have HR := Lib.hid hR
      clear HA HB hR hmp
      go_enter Tryz.func24, Tryz.ntmps24
      go_wp2_with fail
      go_region
      go_wp2_with fail
      go_region_law (refine Tr.step_del rfl (.tmp 42) (.tmp 45) rfl mb c mf k (by simp [Act.eval]) (HM.out.keep fun _ _ => rfl) (by simp [Act.eval]) hk ?_; intro w2 hm2 ht2; have HR2 := Lib.hid (HR.out _ hm2 ht2); clear hm2 ht2)
      all_goals
        go_wp2_with fail
        ((try simp only [Exit.inBlock, Exit.then]); first | (refine bodyPost_ret (results_none rfl _ _ _) rfl ?_) | (refine bodyPost_end (results_none rfl _ _ _) rfl ?_))
        exact ⟨rfl, _, HR2.out, .inl rfl⟩
    · have hs : ((s : Int) == 0) = false := by rw [beq_eq_false_iff_ne]; omega
      have HR := Lib.hid (HA.out (.inr h0))
      clear HA HB h0
      go_enter Tryz.func24, Tryz.ntmps24
      go_wp2_with fail
      go_region
      go_wp2_with fail
      ((try simp only [Exit.inBlock, Exit.then]); first | (refine bodyPost_ret (results_none rfl _ _ _) rfl ?_) | (refine bodyPost_end (results_none rfl _ _ _) rfl ?_))
      exact ⟨rfl, _, HR.out, .inl rfl⟩

set_option maxRecDepth 100000 in
set_option maxHeartbeats 1000000 in
theorem cut_more {nb yb pb po m cap mb c : Nat} {k : List UInt8} {R : World → Prop} (w : World) (hk : k.length ≤ 1048576) (c0 : w.cell? ⟨nb, 0, none⟩ = some (.map (some mb))) (c1 : w.cell? ⟨pb, po, none⟩ = some (.string ⟨k.toArray⟩))
    (hl : (Instr.lookup 46 (.map (some mb)) (.string ⟨k.toArray⟩) false).run Tryz.prog w.drew = .ok (.pointer (some ⟨yb, 0, none⟩)) w.drew) (hm1 : 1 ≤ m) (hmc : m + 1 ≤ cap)
    (HC : Hid (Calls Tryz.prog 24 #[.pointer (some ⟨yb, 0, none⟩), .slice (some ⟨pb, po + 1, none⟩) m (cap - 1)] w.drew.drew fun e w' => e = .returned (.tuple #[]) ∧ Tr.CutEnd w' yb nb mb pb po c k R)) :
    Calls Tryz.prog 24 #[.pointer (some ⟨nb, 0, none⟩), .slice (some ⟨pb, po, none⟩) (m + 1) cap] w fun e w' => e = .returned (.tuple #[]) ∧ ∃ W, R W ∧ (w' = W ∨ w' = W.drew) := by
  have hle : (1 : Int) ≤ (m : Int) + 1 := by omega
  have hcap : ¬ cap = 1 := by omega
  have hne : ((m : Int) + 1 == 1) = false := by rw [beq_eq_false_iff_ne]; omega
  go_enter Tryz.func24, Tryz.ntmps24
  go_wp2_with fail
  go_region
  go_wp2_with fail
  go_region_law (go_simp; go_at_call 24; refine HC.out.mono ?_; rintro e w1 ⟨rfl, HE⟩)
  obtain ⟨lf, mb1, s, e1, e0, hs9, hlen, hA, hB⟩ := HE
  have HA := Lib.hid hA
  have HB := Lib.hid hB
  clear hA hB
  cases lf with
  | true =>
    clear hlen
    have HR := Lib.hid (HA.out (.inl rfl))
    clear HA HB
    go_wp2_with fail
    ((try simp only [Exit.inBlock, Exit.then]); first | (refine bodyPost_ret (results_none rfl _ _ _) rfl ?_) | (refine bodyPost_end (results_none rfl _ _ _) rfl ?_))
    exact ⟨rfl, _, HR.out, .inl rfl⟩
  | false =>
    by_cases h0 : s = 0
    · subst h0
      obtain ⟨d0, d1, mf, hmp, hR⟩ := HB.out rfl rfl
      have HM := Lib.hid hmp
      have HR := Lib.hid hR
      clear HA HB hR hmp
      go_wp2_with fail
      go_region_law (refine Tr.step_del rfl (.tmp 42) (.tmp 45) rfl mb c mf k (by simp [Act.eval]) (HM.out.keep fun _ _ => rfl) (by simp [Act.eval]) hk ?_; intro w2 hm2 ht2; have HR2 := Lib.hid (HR.out _ hm2 ht2); clear hm2 ht2)
      all_goals
        go_wp2_with fail
        ((try simp only [Exit.inBlock, Exit.then]); first | (refine bodyPost_ret (results_none rfl _ _ _) rfl ?_) | (refine bodyPost_end (results_none rfl _ _ _) rfl ?_))
        exact ⟨rfl, _, HR2.out, .inl rfl⟩
    · have hs : ((s : Int) == 0) = false := by rw [beq_eq_false_iff_ne]; omega
      have HR := Lib.hid (HA.out (.inr h0))
      clear HA HB h0
      go_wp2_with fail
      ((try simp only [Exit.inBlock, Exit.then]); first | (refine bodyPost_ret (results_none rfl _ _ _) rfl ?_) | (refine bodyPost_end (results_none rfl _ _ _) rfl ?_))
      exact ⟨rfl, _, HR.out, .inl rfl⟩
end Go.Proofs.YtfmbbhcjnidcbaaGreatDoor
