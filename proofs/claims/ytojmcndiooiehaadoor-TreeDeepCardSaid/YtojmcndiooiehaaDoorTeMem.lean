/-
  CHAPTER 15, MEMORY: nodes as they lie in memory; the tokens that are left; next, takes.
-/
import Derived.Test.YtojmcndiooiehaaDoorTeP
import Derived.Test.YtojmcndiooiehaaDoorLxPath
namespace Go.Proofs.YtojmcndiooiehaaDoor
open Go.RowKit
open Me

namespace Te
abbrev ndT : TypeId := 25
theorem ndinfo : (Tryd.prog.info? 25).map (fun i => (i.zero, i.size, i.bytes)) = some (some (.agg #[.int .i64 0, .string ⟨#[]⟩, .int .i64 0, .slice none 0 0]), 4, 56) := by kernel_rfl
/-- A node as a value: v is what lies within. -/
abbrev val (x : Nd) (v : Value) : Value := .agg #[.int .i64 x.k, .string ⟨x.s.toArray⟩, .int .i64 x.n, v]
abbrev cel (x : Nd) (v : Value) : List Value := [.int .i64 x.k, .string ⟨x.s.toArray⟩, .int .i64 x.n, v]
mutual
/-- What lies within a node, as a slice in memory; its blocks are some of G. -/
def At (w : World) (G : Nat → Prop) : Nd → Value → Prop
  | .mk _ _ _ ks, v => ∃ A c xs, v = .slice A ks.length c ∧ Rd w G A xs ∧ Ats w G ks xs
def Ats (w : World) (G : Nat → Prop) : List Nd → List Value → Prop
  | [], xs => xs = []
  | x :: r, xs => ∃ v rest, xs = cel x v ++ rest ∧ At w G x v ∧ Ats w G r rest
end
mutual
theorem At.keep {w w' : World} {G G' : Nat → Prop} (hs : w.heap.size ≤ w'.heap.size) (hG : ∀ i, i < w.heap.size → G i → G' i) (hk : ∀ i, i < w.heap.size → G i → w'.heap[i]? = w.heap[i]?) : ∀ (x : Nd) (v : Value), At w G x v → At w' G' x v
  | .mk k s n ks, v, h => by
    rw [At] at h ⊢
    obtain ⟨A, c, xs, e, hr, ha⟩ := h
    exact ⟨A, c, xs, e, fun hn => by
      obtain ⟨ad, e1, hl, hg, hc⟩ := hr hn
      exact ⟨ad, e1, Nat.lt_of_lt_of_le hl hs, hG _ hl hg, fun j u hu => (World.cell?_of_block (w := w) (w' := w') (a := ad.add j) (by rw [block_add]; exact hk _ hl hg)).trans (hc j u hu)⟩, Ats.keep hs hG hk ks xs ha⟩
theorem Ats.keep {w w' : World} {G G' : Nat → Prop} (hs : w.heap.size ≤ w'.heap.size) (hG : ∀ i, i < w.heap.size → G i → G' i) (hk : ∀ i, i < w.heap.size → G i → w'.heap[i]? = w.heap[i]?) : ∀ (l : List Nd) (xs : List Value), Ats w G l xs → Ats w' G' l xs
  | [], xs, h => by rw [Ats] at h ⊢; exact h
  | x :: r, xs, h => by
    rw [Ats] at h ⊢
    obtain ⟨v, rest, e, ha, hr⟩ := h
    exact ⟨v, rest, e, At.keep hs hG hk x v ha, Ats.keep hs hG hk r rest hr⟩
end
theorem At.kp {w w' : World} {G O : Nat → Prop} {x : Nd} {v : Value} (h : At w G x v) (k : Kp O w w') (hO : ∀ i, i < w.heap.size → G i → ¬ O i) : At w' G x v :=
  At.keep k.size (fun _ _ h => h) (fun i hi hg => k.block i hi (hO i hi hg)) x v h
theorem At.below {w w' : World} {G : Nat → Prop} {x : Nd} {v : Value} (h : At w G x v) (k : Below w.heap.size w w') : At w' G x v :=
  At.keep k.size (fun _ _ h => h) (fun i hi _ => k.block i hi) x v h
theorem At.mono {w : World} {G G' : Nat → Prop} {x : Nd} {v : Value} (h : At w G x v) (hG : ∀ i, i < w.heap.size → G i → G' i) : At w G' x v :=
  At.keep (Nat.le_refl _) hG (fun _ _ _ => rfl) x v h
theorem Ats.below {w w' : World} {G : Nat → Prop} {l : List Nd} {xs : List Value} (h : Ats w G l xs) (k : Below w.heap.size w w') : Ats w' G l xs :=
  Ats.keep k.size (fun _ _ h => h) (fun i hi _ => k.block i hi) l xs h
theorem Ats.kp {w w' : World} {G O : Nat → Prop} {l : List Nd} {xs : List Value} (h : Ats w G l xs) (k : Kp O w w') (hO : ∀ i, i < w.heap.size → G i → ¬ O i) : Ats w' G l xs :=
  Ats.keep k.size (fun _ _ h => h) (fun i hi hg => k.block i hi (hO i hi hg)) l xs h
theorem Ats.mono {w : World} {G G' : Nat → Prop} {l : List Nd} {xs : List Value} (h : Ats w G l xs) (hG : ∀ i, i < w.heap.size → G i → G' i) : Ats w G' l xs :=
  Ats.keep (Nat.le_refl _) hG (fun _ _ _ => rfl) l xs h
theorem At.zero (w : World) (G : Nat → Prop) (k : Int) (s : List UInt8) (n : Int) : At w G (.mk k s n []) (.slice none 0 0) := by
  rw [At]; exact ⟨Option.none, 0, [], rfl, Rd.none_ _ _ _, by rw [Ats]⟩
theorem Ats.len {w : World} {G : Nat → Prop} : ∀ (l : List Nd) (xs : List Value), Ats w G l xs → xs.length = l.length * 4
  | [], xs, h => by rw [Ats] at h; subst h; rfl
  | x :: r, xs, h => by
    rw [Ats] at h
    obtain ⟨v, rest, rfl, _, hr⟩ := h
    rw [List.length_append, Ats.len r rest hr, List.length_cons]; simp; omega
theorem Ats.snoc {w : World} {G : Nat → Prop} {x : Nd} {v : Value} (hx : At w G x v) : ∀ (l : List Nd) (xs : List Value), Ats w G l xs → Ats w G (l ++ [x]) (xs ++ cel x v)
  | [], xs, h => by
    rw [Ats] at h; subst h
    show Ats w G [x] _
    rw [Ats]
    exact ⟨v, [], by simp, hx, by rw [Ats]⟩
  | y :: r, xs, h => by
    rw [Ats] at h
    obtain ⟨u, rest, rfl, hu, hr⟩ := h
    show Ats w G (y :: (r ++ [x])) _
    rw [Ats]
    exact ⟨u, rest ++ cel x v, by rw [List.append_assoc], hu, Ats.snoc hx r rest hr⟩
theorem Ats.get {w : World} {G : Nat → Prop} : ∀ (l : List Nd) (xs : List Value), Ats w G l xs → ∀ i (hi : i < l.length), ∃ v, At w G l[i] v ∧ xs[i * 4]? = some (.int .i64 l[i].k) ∧ xs[i * 4 + 1]? = some (.string ⟨l[i].s.toArray⟩) ∧ xs[i * 4 + 2]? = some (.int .i64 l[i].n) ∧ xs[i * 4 + 3]? = some v
  | [], _, _, i, hi => by cases hi
  | x :: r, xs, h, 0, _ => by
    rw [Ats] at h
    obtain ⟨v, rest, rfl, hx, _⟩ := h
    exact ⟨v, hx, rfl, rfl, rfl, rfl⟩
  | x :: r, xs, h, i + 1, hi => by
    rw [Ats] at h
    obtain ⟨v, rest, rfl, _, hr⟩ := h
    obtain ⟨u, h0, h1, h2, h3, h4⟩ := Ats.get r rest hr i (by simpa using hi)
    have e : ∀ j, (cel x v ++ rest)[(i + 1) * 4 + j]? = rest[i * 4 + j]? := fun j => by
      rw [List.getElem?_append_right (by simp; omega)]
      congr 1; simp; omega
    exact ⟨u, h0, (e 0).trans h1, (e 1).trans h2, (e 2).trans h3, (e 3).trans h4⟩
theorem Ats.one {w : World} {G : Nat → Prop} : ∀ (l : List Nd) (xs : List Value), Ats w G l xs → ∀ u ∈ xs, u.oneCell' = true
  | [], xs, h, u, hu => by rw [Ats] at h; subst h; cases hu
  | x :: r, xs, h, u, hu => by
    rw [Ats] at h
    obtain ⟨v, rest, rfl, hx, hr⟩ := h
    rcases List.mem_append.1 hu with hu | hu
    · obtain ⟨k, s, n, ks⟩ := x
      rw [At] at hx
      obtain ⟨A, c, ys, rfl, _, _⟩ := hx
      simp [cel] at hu
      rcases hu with rfl | rfl | rfl | rfl <;> rfl
    · exact Ats.one r rest hr u hu
theorem At.form {w : World} {G : Nat → Prop} {x : Nd} {v : Value} (h : At w G x v) : ∃ A c xs, v = .slice A x.ks.length c ∧ Rd w G A xs ∧ Ats w G x.ks xs := by
  obtain ⟨k, s, n, ks⟩ := x
  rw [At] at h
  exact h
/-- A node as it is answered: a value whose insides lie in new blocks. -/
def Gave (w : World) (x : Nd) (w' : World) (u : Value) : Prop := ∃ v, u = val x v ∧ At w' (fun i => w.heap.size ≤ i) x v
/-- A row of nodes of one's own, growing: v the slice. -/
def OwnK (base : Nat) (w : World) (v : Value) (l : List Nd) : Prop := ∃ xs, w.ownsRow base ndT 4 v l.length xs ∧ Ats w (fun i => base ≤ i ∧ v.ownBlock ≠ some i) l xs
theorem OwnK.nil (a : Nat) (w : World) : OwnK a w (.slice none 0 0) [] := ⟨[], ⟨rfl, .inl ⟨rfl, rfl⟩⟩, by rw [Ats]⟩
theorem OwnK.lt {base : Nat} {w : World} {v : Value} {l : List Nd} (h : OwnK base w v l) : ∀ g, v.ownBlock = some g → base ≤ g ∧ g < w.heap.size := by
  obtain ⟨xs, h, _⟩ := h
  exact fun g hg => World.ownsRow.lt h g hg
theorem OwnK.kp {base : Nat} {w w' : World} {v : Value} {l : List Nd} {O : Nat → Prop} (h : OwnK base w v l) (k : Kp O w w') (hO : ∀ i, base ≤ i → i < w.heap.size → ¬ O i) : OwnK base w' v l := by
  have hl := h.lt
  obtain ⟨xs, ho, ha⟩ := h
  exact ⟨xs, owns_keep ho fun g hg => k.block g (hl g hg).2 (hO g (hl g hg).1 (hl g hg).2), ha.kp k fun i hi hg => hO i hg.1 hi⟩
theorem OwnK.form {base : Nat} {w : World} {v : Value} {l : List Nd} (h : OwnK base w v l) : ∃ A c, v = .slice A l.length c := by
  obtain ⟨xs, ho, _⟩ := h
  rcases ho.2 with ⟨rfl, h0⟩ | ⟨g', cap, cur, rfl, _⟩
  · exact ⟨none, 0, by rw [h0]⟩
  · exact ⟨_, _, rfl⟩
theorem OwnK.at_ {base : Nat} {w : World} {v : Value} {l : List Nd} (h : OwnK base w v l) (k : Int) (s : List UInt8) (n : Int) : At w (fun i => base ≤ i) (.mk k s n l) v := by
  have hl := h.lt
  obtain ⟨A, c, rfl⟩ := h.form
  obtain ⟨xs, ho, ha⟩ := h
  rw [At]
  exact ⟨A, c, xs, rfl, (Rd.own ho).mono fun i _ hi => (hl i hi).1, ha.mono fun i _ hi => hi.1⟩
/-- One more behind it. -/
theorem OwnK.more {base : Nat} {w w' : World} {v v' kv : Value} {l : List Nd} {x : Nd} {xs : List Value} (ha : Ats w (fun i => base ≤ i ∧ v.ownBlock ≠ some i) l xs)
    (hx : At w (fun i => base ≤ i ∧ v.ownBlock ≠ some i) x kv) (h : w'.ownsRow base ndT 4 v' (l.length + 1) (xs ++ cel x kv)) (hg : w.grownBy w' v.ownBlock) (hb : v'.ownBlock = v.ownBlock ∨ v'.ownBlock = some w.heap.size) : OwnK base w' v' (l ++ [x]) := by
  refine ⟨_, by rw [List.length_append]; exact h, ?_⟩
  have hk : ∀ i, i < w.heap.size → (base ≤ i ∧ v.ownBlock ≠ some i) → (base ≤ i ∧ v'.ownBlock ≠ some i) := fun i hi h => ⟨h.1, by
    rcases hb with e | e
    · rw [e]; exact h.2
    · rw [e]; intro e; have := Option.some.inj e; omega⟩
  have hq : ∀ i, i < w.heap.size → (base ≤ i ∧ v.ownBlock ≠ some i) → w'.heap[i]? = w.heap[i]? := fun i hi h => hg.block i hi fun e => h.2 e.symm
  exact Ats.snoc (At.keep hg.size hk hq x kv hx) l xs (Ats.keep hg.size hk hq l xs ha)

/-! ## the tokens that are left -/
/-- A parser in memory: b its block, l what is left, c how many calls are open. -/
def Ps (w : World) (b : Nat) (l : List Tok) (c : Int) : Prop := ∃ A cp, RowAt w b 38 #[.slice A l.length cp, .int .i64 c] ∧ l.length ≤ cp ∧ Rd w (fun i => i < b) A (Lx.cellsT l)
structure PsD (w : World) (b : Nat) (l : List Tok) (c : Int) (w' : World) : Prop where
  ps : Ps w' b l c
  kp : Kp (fun i => i = b) w w'
theorem Ps.lt {w : World} {b : Nat} {l : List Tok} {c : Int} (h : Ps w b l c) : b < w.heap.size := by
  obtain ⟨A, cp, h, _⟩ := h
  exact h.lt
theorem Ps.kp {w w' : World} {b : Nat} {l : List Tok} {c : Int} (h : Ps w b l c) (k : Below w.heap.size w w') : Ps w' b l c := by
  obtain ⟨A, cp, h1, h2, h3⟩ := h
  exact ⟨A, cp, h1.below k h1.lt, h2, h3.below k⟩
theorem Ps.far {w w' : World} {b : Nat} {l : List Tok} {c : Int} (h : Ps w b l c) (k : Below (b + 1) w w') : Ps w' b l c := by
  obtain ⟨A, cp, h1, h2, h3⟩ := h
  exact ⟨A, cp, h1.below k (Nat.lt_succ_self b), h2, h3.keep k.size fun i _ hi => k.block i (Nat.lt_succ_of_lt hi)⟩
theorem PsD.on {w w1 w2 : World} {b : Nat} {l : List Tok} {c : Int} (h : PsD w b l c w1) (k : Below w1.heap.size w1 w2) : PsD w b l c w2 := ⟨h.ps.kp k, h.kp.trans (Kp.of_below (O := fun _ => False) k) fun _ _ e => e.elim⟩
theorem PsD.trans {w w1 w2 : World} {b : Nat} {l l2 : List Tok} {c c2 : Int} (h : PsD w b l c w1) (k : PsD w1 b l2 c2 w2) : PsD w b l2 c2 w2 := ⟨k.ps, h.kp.trans k.kp fun _ _ e => e⟩
theorem PsD.refl {w : World} {b : Nat} {l : List Tok} {c : Int} (h : Ps w b l c) : PsD w b l c w := ⟨h, Kp.refl _ _⟩
theorem PsD.size {w w1 : World} {b : Nat} {l : List Tok} {c : Int} (h : PsD w b l c w1) : w.heap.size ≤ w1.heap.size := h.kp.size
/-- What next answers. -/
def hdT : List Tok → Tok
  | [] => (0, [])
  | t :: _ => t
end Te
end Go.Proofs.YtojmcndiooiehaaDoor
