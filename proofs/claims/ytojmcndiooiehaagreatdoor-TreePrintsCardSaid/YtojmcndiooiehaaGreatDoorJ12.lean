/-
  TeMem: CHAPTER 15, MEMORY: nodes as they lie in memory; the tokens that are left; next, takes.
  TeTok: CONTRACTS: chapter 15: the tokens that are left: next, takes.
-/
import Derived.Test.YtojmcndiooiehaaGreatDoorJ4
import Derived.Test.YtojmcndiooiehaaGreatDoorJ11
import Derived.Laws.ResultCell

set_option linter.unusedSimpArgs false
set_option linter.unusedVariables false
namespace Go.Proofs.YtojmcndiooiehaaGreatDoor
open Go.RowKit
open Me

namespace Te
abbrev ndT : TypeId := 24
theorem ndinfo : (Tryz.prog.info? 24).map (fun i => (i.zero, i.size, i.bytes)) = some (some (.agg #[.int .i64 0, .string ⟨#[]⟩, .int .i64 0, .slice none 0 0]), 4, 56) := by kernel_rfl
/-- A node as a value: v is what lies within. -/
abbrev val (x : Nd) (v : Value) : Value := .agg #[.int .i64 x.k, .string ⟨x.s.toArray⟩, .int .i64 x.n, v]
abbrev cel (x : Nd) (v : Value) : List Value := [.int .i64 x.k, .string ⟨x.s.toArray⟩, .int .i64 x.n, v]
mutual
/-- What lies within a node, as a slice in memory; its blocks are some of G. -/
def At (w : World) (G : Nat → Prop) : Nd → Value → Prop
  | .mk _ _ _ ks, v => ∃ A c xs, v = .slice A ks.length c ∧ Rd w G A xs ∧ Ats w G ks xs
def Ats (w : World) (G : Nat → Prop) : List Nd → List Value → Prop
  | [], xs => xs = []
  | x :: r, xs => ∃ v rest, xs = cel x v ++ rest ∧ At w G x v ∧ Ats w G r rest
end
mutual
theorem At.keep {w w' : World} {G G' : Nat → Prop} (hs : w.heap.size ≤ w'.heap.size) (hG : ∀ i, i < w.heap.size → G i → G' i) (hk : ∀ i, i < w.heap.size → G i → w'.heap[i]? = w.heap[i]?) : ∀ (x : Nd) (v : Value), At w G x v → At w' G' x v
  | .mk k s n ks, v, h => by
    rw [At] at h ⊢
    obtain ⟨A, c, xs, e, hr, ha⟩ := h
    exact ⟨A, c, xs, e, fun hn => by
      obtain ⟨ad, e1, hl, hg, hc⟩ := hr hn
      exact ⟨ad, e1, Nat.lt_of_lt_of_le hl hs, hG _ hl hg, fun j u hu => (World.cell?_of_block (w := w) (w' := w') (a := ad.add j) (by rw [block_add]; exact hk _ hl hg)).trans (hc j u hu)⟩, Ats.keep hs hG hk ks xs ha⟩
theorem Ats.keep {w w' : World} {G G' : Nat → Prop} (hs : w.heap.size ≤ w'.heap.size) (hG : ∀ i, i < w.heap.size → G i → G' i) (hk : ∀ i, i < w.heap.size → G i → w'.heap[i]? = w.heap[i]?) : ∀ (l : List Nd) (xs : List Value), Ats w G l xs → Ats w' G' l xs
  | [], xs, h => by rw [Ats] at h ⊢; exact h
  | x :: r, xs, h => by
    rw [Ats] at h ⊢
    obtain ⟨v, rest, e, ha, hr⟩ := h
    exact ⟨v, rest, e, At.keep hs hG hk x v ha, Ats.keep hs hG hk r rest hr⟩
end
theorem At.kp {w w' : World} {G O : Nat → Prop} {x : Nd} {v : Value} (h : At w G x v) (k : Kp O w w') (hO : ∀ i, i < w.heap.size → G i → ¬ O i) : At w' G x v :=
  At.keep k.size (fun _ _ h => h) (fun i hi hg => k.block i hi (hO i hi hg)) x v h
theorem At.below {w w' : World} {G : Nat → Prop} {x : Nd} {v : Value} (h : At w G x v) (k : Below w.heap.size w w') : At w' G x v :=
  At.keep k.size (fun _ _ h => h) (fun i hi _ => k.block i hi) x v h
theorem At.mono {w : World} {G G' : Nat → Prop} {x : Nd} {v : Value} (h : At w G x v) (hG : ∀ i, i < w.heap.size → G i → G' i) : At w G' x v :=
  At.keep (Nat.le_refl _) hG (fun _ _ _ => rfl) x v h
theorem Ats.below {w w' : World} {G : Nat → Prop} {l : List Nd} {xs : List Value} (h : Ats w G l xs) (k : Below w.heap.size w w') : Ats w' G l xs :=
  Ats.keep k.size (fun _ _ h => h) (fun i hi _ => k.block i hi) l xs h
theorem Ats.kp {w w' : World} {G O : Nat → Prop} {l : List Nd} {xs : List Value} (h : Ats w G l xs) (k : Kp O w w') (hO : ∀ i, i < w.heap.size → G i → ¬ O i) : Ats w' G l xs :=
  Ats.keep k.size (fun _ _ h => h) (fun i hi hg => k.block i hi (hO i hi hg)) l xs h
theorem Ats.mono {w : World} {G G' : Nat → Prop} {l : List Nd} {xs : List Value} (h : Ats w G l xs) (hG : ∀ i, i < w.heap.size → G i → G' i) : Ats w G' l xs :=
  Ats.keep (Nat.le_refl _) hG (fun _ _ _ => rfl) l xs h
theorem At.zero (w : World) (G : Nat → Prop) (k : Int) (s : List UInt8) (n : Int) : At w G (.mk k s n []) (.slice none 0 0) := by
  rw [At]; exact ⟨Option.none, 0, [], rfl, Rd.none_ _ _ _, by rw [Ats]⟩
theorem Ats.len {w : World} {G : Nat → Prop} : ∀ (l : List Nd) (xs : List Value), Ats w G l xs → xs.length = l.length * 4
  | [], xs, h => by rw [Ats] at h; subst h; rfl
  | x :: r, xs, h => by
    rw [Ats] at h
    obtain ⟨v, rest, rfl, _, hr⟩ := h
    rw [List.length_append, Ats.len r rest hr, List.length_cons]; simp; omega
theorem Ats.snoc {w : World} {G : Nat → Prop} {x : Nd} {v : Value} (hx : At w G x v) : ∀ (l : List Nd) (xs : List Value), Ats w G l xs → Ats w G (l ++ [x]) (xs ++ cel x v)
  | [], xs, h => by
    rw [Ats] at h; subst h
    show Ats w G [x] _
    rw [Ats]
    exact ⟨v, [], by simp, hx, by rw [Ats]⟩
  | y :: r, xs, h => by
    rw [Ats] at h
    obtain ⟨u, rest, rfl, hu, hr⟩ := h
    show Ats w G (y :: (r ++ [x])) _
    rw [Ats]
    exact ⟨u, rest ++ cel x v, by rw [List.append_assoc], hu, Ats.snoc hx r rest hr⟩
theorem Ats.get {w : World} {G : Nat → Prop} : ∀ (l : List Nd) (xs : List Value), Ats w G l xs → ∀ i (hi : i < l.length), ∃ v, At w G l[i] v ∧ xs[i * 4]? = some (.int .i64 l[i].k) ∧ xs[i * 4 + 1]? = some (.string ⟨l[i].s.toArray⟩) ∧ xs[i * 4 + 2]? = some (.int .i64 l[i].n) ∧ xs[i * 4 + 3]? = some v
  | [], _, _, i, hi => by cases hi
  | x :: r, xs, h, 0, _ => by
    rw [Ats] at h
    obtain ⟨v, rest, rfl, hx, _⟩ := h
    exact ⟨v, hx, rfl, rfl, rfl, rfl⟩
  | x :: r, xs, h, i + 1, hi => by
    rw [Ats] at h
    obtain ⟨v, rest, rfl, _, hr⟩ := h
    obtain ⟨u, h0, h1, h2, h3, h4⟩ := Ats.get r rest hr i (by simpa using hi)
    have e : ∀ j, (cel x v ++ rest)[(i + 1) * 4 + j]? = rest[i * 4 + j]? := fun j => by
      rw [List.getElem?_append_right (by simp; omega)]
      congr 1; simp; omega
    exact ⟨u, h0, (e 0).trans h1, (e 1).trans h2, (e 2).trans h3, (e 3).trans h4⟩
theorem Ats.one {w : World} {G : Nat → Prop} : ∀ (l : List Nd) (xs : List Value), Ats w G l xs → ∀ u ∈ xs, u.oneCell' = true
  | [], xs, h, u, hu => by rw [Ats] at h; subst h; cases hu
  | x :: r, xs, h, u, hu => by
    rw [Ats] at h
    obtain ⟨v, rest, rfl, hx, hr⟩ := h
    rcases List.mem_append.1 hu with hu | hu
    · obtain ⟨k, s, n, ks⟩ := x
      rw [At] at hx
      obtain ⟨A, c, ys, rfl, _, _⟩ := hx
      simp [cel] at hu
      rcases hu with rfl | rfl | rfl | rfl <;> rfl
    · exact Ats.one r rest hr u hu
theorem At.form {w : World} {G : Nat → Prop} {x : Nd} {v : Value} (h : At w G x v) : ∃ A c xs, v = .slice A x.ks.length c ∧ Rd w G A xs ∧ Ats w G x.ks xs := by
  obtain ⟨k, s, n, ks⟩ := x
  rw [At] at h
  exact h
/-- A node as it is answered: a value whose insides lie in new blocks. -/
def Gave (w : World) (x : Nd) (w' : World) (u : Value) : Prop := ∃ v, u = val x v ∧ At w' (fun i => w.heap.size ≤ i) x v
/-- A row of nodes of one's own, growing: v the slice. -/
def OwnK (base : Nat) (w : World) (v : Value) (l : List Nd) : Prop := ∃ xs, w.ownsRow base ndT 4 v l.length xs ∧ Ats w (fun i => base ≤ i ∧ v.ownBlock ≠ some i) l xs
theorem OwnK.nil (a : Nat) (w : World) : OwnK a w (.slice none 0 0) [] := ⟨[], ⟨rfl, .inl ⟨rfl, rfl⟩⟩, by rw [Ats]⟩
theorem OwnK.lt {base : Nat} {w : World} {v : Value} {l : List Nd} (h : OwnK base w v l) : ∀ g, v.ownBlock = some g → base ≤ g ∧ g < w.heap.size := by
  obtain ⟨xs, h, _⟩ := h
  exact fun g hg => World.ownsRow.lt h g hg
theorem OwnK.kp {base : Nat} {w w' : World} {v : Value} {l : List Nd} {O : Nat → Prop} (h : OwnK base w v l) (k : Kp O w w') (hO : ∀ i, base ≤ i → i < w.heap.size → ¬ O i) : OwnK base w' v l := by
  have hl := h.lt
  obtain ⟨xs, ho, ha⟩ := h
  exact ⟨xs, owns_keep ho fun g hg => k.block g (hl g hg).2 (hO g (hl g hg).1 (hl g hg).2), ha.kp k fun i hi hg => hO i hg.1 hi⟩
theorem OwnK.form {base : Nat} {w : World} {v : Value} {l : List Nd} (h : OwnK base w v l) : ∃ A c, v = .slice A l.length c := by
  obtain ⟨xs, ho, _⟩ := h
  rcases ho.2 with ⟨rfl, h0⟩ | ⟨g', cap, cur, rfl, _⟩
  · exact ⟨none, 0, by rw [h0]⟩
  · exact ⟨_, _, rfl⟩
theorem OwnK.at_ {base : Nat} {w : World} {v : Value} {l : List Nd} (h : OwnK base w v l) (k : Int) (s : List UInt8) (n : Int) : At w (fun i => base ≤ i) (.mk k s n l) v := by
  have hl := h.lt
  obtain ⟨A, c, rfl⟩ := h.form
  obtain ⟨xs, ho, ha⟩ := h
  rw [At]
  exact ⟨A, c, xs, rfl, (Rd.own ho).mono fun i _ hi => (hl i hi).1, ha.mono fun i _ hi => hi.1⟩
/-- One more behind it. -/
theorem OwnK.more {base : Nat} {w w' : World} {v v' kv : Value} {l : List Nd} {x : Nd} {xs : List Value} (ha : Ats w (fun i => base ≤ i ∧ v.ownBlock ≠ some i) l xs)
    (hx : At w (fun i => base ≤ i ∧ v.ownBlock ≠ some i) x kv) (h : w'.ownsRow base ndT 4 v' (l.length + 1) (xs ++ cel x kv)) (hg : w.grownBy w' v.ownBlock) (hb : v'.ownBlock = v.ownBlock ∨ v'.ownBlock = some w.heap.size) : OwnK base w' v' (l ++ [x]) := by
  refine ⟨_, by rw [List.length_append]; exact h, ?_⟩
  have hk : ∀ i, i < w.heap.size → (base ≤ i ∧ v.ownBlock ≠ some i) → (base ≤ i ∧ v'.ownBlock ≠ some i) := fun i hi h => ⟨h.1, by
    rcases hb with e | e
    · rw [e]; exact h.2
    · rw [e]; intro e; have := Option.some.inj e; omega⟩
  have hq : ∀ i, i < w.heap.size → (base ≤ i ∧ v.ownBlock ≠ some i) → w'.heap[i]? = w.heap[i]? := fun i hi h => hg.block i hi fun e => h.2 e.symm
  exact Ats.snoc (At.keep hg.size hk hq x kv hx) l xs (Ats.keep hg.size hk hq l xs ha)

/-! ## the tokens that are left -/
/-- A parser in memory: b its block, l what is left, c how many calls are open. -/
def Ps (w : World) (b : Nat) (l : List Tok) (c : Int) : Prop := ∃ A cp, RowAt w b 42 #[.slice A l.length cp, .int .i64 c] ∧ l.length ≤ cp ∧ Rd w (fun i => i < b) A (Lx.cellsT l)
structure PsD (w : World) (b : Nat) (l : List Tok) (c : Int) (w' : World) : Prop where
  ps : Ps w' b l c
  kp : Kp (fun i => i = b) w w'
theorem Ps.lt {w : World} {b : Nat} {l : List Tok} {c : Int} (h : Ps w b l c) : b < w.heap.size := by
  obtain ⟨A, cp, h, _⟩ := h
  exact h.lt
theorem Ps.kp {w w' : World} {b : Nat} {l : List Tok} {c : Int} (h : Ps w b l c) (k : Below w.heap.size w w') : Ps w' b l c := by
  obtain ⟨A, cp, h1, h2, h3⟩ := h
  exact ⟨A, cp, h1.below k h1.lt, h2, h3.below k⟩
theorem Ps.far {w w' : World} {b : Nat} {l : List Tok} {c : Int} (h : Ps w b l c) (k : Below (b + 1) w w') : Ps w' b l c := by
  obtain ⟨A, cp, h1, h2, h3⟩ := h
  exact ⟨A, cp, h1.below k (Nat.lt_succ_self b), h2, h3.keep k.size fun i _ hi => k.block i (Nat.lt_succ_of_lt hi)⟩
theorem PsD.on {w w1 w2 : World} {b : Nat} {l : List Tok} {c : Int} (h : PsD w b l c w1) (k : Below w1.heap.size w1 w2) : PsD w b l c w2 := ⟨h.ps.kp k, h.kp.trans (Kp.of_below (O := fun _ => False) k) fun _ _ e => e.elim⟩
theorem PsD.trans {w w1 w2 : World} {b : Nat} {l l2 : List Tok} {c c2 : Int} (h : PsD w b l c w1) (k : PsD w1 b l2 c2 w2) : PsD w b l2 c2 w2 := ⟨k.ps, h.kp.trans k.kp fun _ _ e => e⟩
theorem PsD.refl {w : World} {b : Nat} {l : List Tok} {c : Int} (h : Ps w b l c) : PsD w b l c w := ⟨h, Kp.refl _ _⟩
theorem PsD.size {w w1 : World} {b : Nat} {l : List Tok} {c : Int} (h : PsD w b l c w1) : w.heap.size ≤ w1.heap.size := h.kp.size
/-- What next answers. -/
def hdT : List Tok → Tok
  | [] => (0, [])
  | t :: _ => t
end Te
end Go.Proofs.YtojmcndiooiehaaGreatDoor

namespace Go.Proofs.YtojmcndiooiehaaGreatDoor
open Go.RowKit
open Me

namespace Te
theorem results_c1 {fn : Func} {p : Tmp} {ty : TypeId} (h : fn.results = #[.cell p ty]) (tmps : Array Value) (P : Program) (w : World) :
    (results fn tmps).run P w = ((asAddr (tmps.getD p undef)).run P w).andThen fun a w₁ => ((loadVar ty a).run P w₁).andThen fun v w₂ => .ok v w₂ := by
  simp only [results, h]
  simp [Sem.run_bind, Result.andThen]
  cases Sem.run P (asAddr (tmps[p]?.getD undef)) w with
  | ok a w1 => cases h2 : Sem.run P (loadVar ty a) w1 <;> simp [h2]
  | halt h w1 => rfl
theorem slice_from1 (W : World) (A : Option Addr) (n c : Nat) (hq : 1 ≤ n) (hc : n ≤ c) (A9 : Option Addr) (h9 : A9 = (if c = 1 then A else Option.map (fun x => x.add 2) A)) :
    (Instr.slice 40 (.slice A n c) (some (.int .i64 1)) none none).run Tryz.prog W = .ok (.slice A9 (n - 1) (c - 1)) W := by
  have h1 : ¬ (n : Int) < 1 := by omega
  have h2 : ¬ n < 1 := by omega
  have h3 : (0 : Int) ≤ 1 := by omega
  have h4 : (1 : Int) ≤ (n : Int) := by omega
  have h5 : (n : Int) ≤ (c : Int) := by omega
  subst h9
  cases A <;> by_cases e : c = 1 <;> simp [go_sem, *]
theorem rd_drop1 {w : World} {G : Nat → Prop} {A : Option Addr} {l : List Tok} {c : Nat} (h : Rd w G A (Lx.cellsT l)) (h0 : 1 ≤ l.length) (hc : l.length ≤ c) : Rd w G (if c = 1 then A else Option.map (fun x => x.add 2) A) (Lx.cellsT (l.drop 1)) := by
  cases l with
  | nil => cases h0
  | cons t r =>
    show Rd w G _ (Lx.cellsT r)
    by_cases hr : r = []
    · subst hr; exact Rd.none_ _ _ _
    · have h1 : 0 < r.length := List.length_pos_iff.2 hr
      have h2 : 1 < c := by simp at hc; omega
      rw [if_neg (by omega)]
      intro hn
      obtain ⟨ad, rfl, h3⟩ := h (by simp [Lx.cellsT, Lx.cellT])
      have := (Rd.sub (w := w) (G := G) (ad := ad) (xs := Lx.cellsT (t :: r)) (fun _ => ⟨ad, rfl, h3⟩) 2 (r.length * 2))
      have e : (Lx.cellsT (t :: r)).drop 2 = Lx.cellsT r := rfl
      rw [e, List.take_of_length_le (by rw [Lx.cellsT_len]; exact Nat.le_refl _)] at this
      exact this hn
end Te

set_option maxRecDepth 100000 in
set_option maxHeartbeats 2000000 in
theorem tnext_any {w : World} {b : Nat} {l : List Te.Tok} {c : Int} (h : Te.Ps w b l c) :
    Calls Tryz.prog 54 #[.pointer (some ⟨b, 0, none⟩)] w fun e w' => e = .returned (.agg #[.int .i64 (Te.hdT l).1, .string ⟨(Te.hdT l).2.toArray⟩]) ∧ Te.PsD w b (l.drop 1) c w' := by
  have hbl := h.lt
  have hb0 : b ≠ w.heap.size := by omega
  have HP := Lib.hid h
  obtain ⟨A, cp, hrow, hcp, hrd⟩ := h
  have c0 : w.cell? ⟨b, 0, none⟩ = some (.slice A l.length cp) := (hrow.cell 0).trans rfl
  have f0 := hrow.frozen 0
  cases l with
  | nil =>
    clear hrow hrd
    go_enter Tryz.func54, Tryz.ntmps54
    go_wp2
    refine bodyPost_ret ((Te.results_c1 rfl _ _ _).trans (by simp [go_sem, *]; rfl)) rfl ?_
    refine ⟨rfl, (Te.PsD.refl HP.out).on ?_⟩
    exact ((Below.refl _ _).alloc (Nat.le_refl _) _)
  | cons t r =>
    obtain ⟨k, s⟩ := t
    obtain ⟨b1, o1, rfl, hb1, x0, x1⟩ := Lx.rd_tok (i := 0) hrd (by simp)
    have x0 : w.cell? ⟨b1, o1, none⟩ = some (.int .i64 k) := x0
    have x1 : w.cell? ⟨b1, o1 + 1, none⟩ = some (.string ⟨s.toArray⟩) := x1
    obtain ⟨A9, h9⟩ : ∃ A9 : Option Addr, A9 = (if cp = 1 then (some ⟨b1, o1, none⟩ : Option Addr) else Option.map (fun x : Addr => x.add 2) (some ⟨b1, o1, none⟩ : Option Addr)) := ⟨_, rfl⟩
    have hn1 : 1 ≤ (((k, s) :: r) : List Te.Tok).length := by simp
    have k9 := fun W => Te.slice_from1 W (some ⟨b1, o1, none⟩) (((k, s) :: r) : List Te.Tok).length cp hn1 hcp A9 h9
    have hd9 : Rd w (fun i => i < b) A9 (Lx.cellsT r) := by rw [h9]; exact Te.rd_drop1 hrd hn1 hcp
    have HRow := Lib.hid hrow
    have HR9 := Lib.hid hd9
    have HCP := Lib.hid hcp
    have hl0 : ((((k, s) :: r) : List Te.Tok).length : Int) ≠ 0 := by rw [List.length_cons]; omega
    have hl1 : (0 : Int) < ((((k, s) :: r) : List Te.Tok).length : Int) := by rw [List.length_cons]; omega
    have hlp : 0 < (((k, s) :: r) : List Te.Tok).length := hn1
    have hlm : (((k, s) :: r) : List Te.Tok).length - 1 = r.length := by simp
    generalize (((k, s) :: r) : List Te.Tok).length = N at *
    clear hrow hrd hd9 h9 hcp
    go_enter Tryz.func54, Tryz.ntmps54
    go_wp2
    refine bodyPost_ret ((Te.results_c1 rfl _ _ _).trans (by simp [go_sem, *]; rfl)) rfl ?_
    refine ⟨rfl, ⟨⟨A9, cp - 1, ((HRow.out.set_ 0 _).alloc _).alloc _, ?_, ?_⟩, (((Kp.refl (fun i => i = b) w).setCell ⟨b, 0, none⟩ (.inr rfl) _).alloc _).alloc _⟩⟩
    · have := HCP.out; show r.length ≤ _; omega
    · refine HR9.out.kp (O := fun i => i = b) ((((Kp.refl (fun i => i = b) w).setCell ⟨b, 0, none⟩ (.inr rfl) _).alloc _).alloc _) fun i _ h => Nat.ne_of_lt h

set_option maxRecDepth 100000 in
set_option maxHeartbeats 2000000 in
theorem ttakes_any {w : World} {b : Nat} {l : List Te.Tok} {c : Int} (h : Te.Ps w b l c) (k : Int) :
    Calls Tryz.prog 55 #[.pointer (some ⟨b, 0, none⟩), .int .i64 k] w fun e w' => e = .returned (.bool (Te.hd k l)) ∧ Te.PsD w b (if Te.hd k l = true then l.drop 1 else l) c w' := by
  have hbl := h.lt
  have HP := Lib.hid h
  have HN := Lib.hid (tnext_any h)
  obtain ⟨A, cp, hrow, hcp, hrd⟩ := h
  have c0 : w.cell? ⟨b, 0, none⟩ = some (.slice A l.length cp) := (hrow.cell 0).trans rfl
  obtain ⟨L2, hL2⟩ : ∃ L2, L2 = (if Te.hd k l = true then l.drop 1 else l) := ⟨_, rfl⟩
  obtain ⟨Q, hQ⟩ : ∃ Q, Q = Te.hd k l := ⟨_, rfl⟩
  rw [← hL2, ← hQ]
  cases l with
  | nil =>
    obtain rfl : L2 = [] := hL2
    obtain rfl : Q = false := hQ
    clear hrow hrd
    go_enter Tryz.func55, Tryz.ntmps55
    go_wp2
    go_ret
    exact ⟨rfl, Te.PsD.refl HP.out⟩
  | cons t r =>
    obtain ⟨q, s⟩ := t
    obtain ⟨b1, o1, rfl, hb1, x0, x1⟩ := Lx.rd_tok (i := 0) hrd (by simp)
    have x0 : w.cell? ⟨b1, o1, none⟩ = some (.int .i64 q) := x0
    have hl1 : (0 : Int) < ((((q, s) :: r) : List Te.Tok).length : Int) := by rw [List.length_cons]; omega
    have hlp : 0 < (((q, s) :: r) : List Te.Tok).length := by simp
    have HE : Hid (Te.hd k ((q, s) :: r) = decide (q = k)) := Lib.hid rfl
    by_cases hq : q = k
    · obtain rfl : Q = true := by rw [hQ, HE.out]; exact decide_eq_true hq
      have HL2 : Hid (L2 = r) := Lib.hid (by rw [hL2, ← hQ]; rfl)
      clear hQ hL2
      have hqb : (q == k) = true := by simpa using hq
      generalize (((q, s) :: r) : List Te.Tok).length = N at *
      clear hrow hrd
      go_enter Tryz.func55, Tryz.ntmps55
      go_wp2_with (go_at_call 54; go_must (refine HN.out.mono ?_; rintro e w2 ⟨rfl, hd⟩; have HD := Lib.hid hd; clear hd))
      go_ret
      exact ⟨rfl, by rw [HL2.out]; exact HD.out⟩
    · obtain rfl : Q = false := by rw [hQ, HE.out]; exact decide_eq_false hq
      have HL2 : Hid (L2 = (q, s) :: r) := Lib.hid (by rw [hL2, ← hQ]; rfl)
      clear hQ hL2
      have hqb : (q == k) = false := by simpa using hq
      generalize (((q, s) :: r) : List Te.Tok).length = N at *
      clear hrow hrd
      go_enter Tryz.func55, Tryz.ntmps55
      go_wp2_with fail
      go_ret
      exact ⟨rfl, by rw [HL2.out]; exact Te.PsD.refl HP.out⟩
end Go.Proofs.YtojmcndiooiehaaGreatDoor
