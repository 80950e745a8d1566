/-
  TrSearch: CONTRACTS: package trie: search: what is found from a branch on.
-/
import Derived.Test.YtfmbbhcjnidcbaaGreatDoorJ38

namespace Go.Proofs.YtfmbbhcjnidcbaaGreatDoor
open Go.RowKit
open Me
namespace Tr
theorem row_form {base : Nat} {w : World} {e : TypeId} {s : Nat} {v : Value} {n : Nat} {xs : List Value} (h : w.ownsRow base e s v n xs) : ∃ A c, v = .slice A n c := by
  rcases h.2 with ⟨rfl, rfl⟩ | ⟨g, cap, cur, rfl, _⟩
  · exact ⟨_, _, rfl⟩
  · exact ⟨_, _, rfl⟩
theorem row_form1 {base : Nat} {w : World} {e : TypeId} {s : Nat} {v : Value} {n : Nat} {xs : List Value} (h : w.ownsRow base e s v n xs) (hn : 0 < n) : ∃ g c, v = .slice (some ⟨g, 0, none⟩) n c := by
  rcases h.2 with ⟨_, rfl⟩ | ⟨g, cap, cur, rfl, _⟩
  · omega
  · exact ⟨_, _, rfl⟩
theorem Rgs.kp {w w' : World} {mb : Option Nat} {r k : Nat} {m : List UInt8 → Option Nat} {left : List UInt8 → Bool} {cnt : Nat} (h : Rgs w mb r k m left cnt) {O : Nat → Prop} (hk : Kp O w w') (hO : ∀ i, O i → ∃ cs e fr, w.heap[i]? = some (.cells cs e fr)) : Rgs w' mb r k m left cnt := by
  refine h.kept (hk.block r h.lt.1 fun ho => ?_) fun b hb => hk.block b (h.mp.lt hb).1 fun ho => ?_
  · obtain ⟨cs, e, fr, h1⟩ := hO r ho
    obtain ⟨_, x, y, z, u, h2⟩ := h.lt
    rw [h1] at h2; cases h2
  · obtain ⟨cs, e, fr, h1⟩ := hO b ho
    obtain ⟨_, es, cl, h2⟩ := h.mp.lt hb
    rw [h1] at h2; cases h2
theorem row_cs {base : Nat} {w : World} {e : TypeId} {s : Nat} {v : Value} {n : Nat} {xs : List Value} (h : w.ownsRow base e s v n xs) {g : Nat} (hg : v.ownBlock = some g) : ∃ cs e fr, w.heap[g]? = some (.cells cs e fr) := by
  obtain ⟨c, hc⟩ := row_cells h hg
  exact ⟨c, e, _, hc⟩
theorem app_kp {w : World} {base : Nat} {e : TypeId} {s : Nat} {v : Value} {n : Nat} {xs : List Value} {j : Nat} {news : List Value} {v' : Value} {w' : World} (ha : App w base e s v n xs j news v' w') : Kp (fun i => v.ownBlock = some i) w w' := (Kp.refl _ w).grown ha.grown fun g hg => .inr hg
/-- likely, whatever choices there are. -/
theorem likely_any {w : World} {T0 T1 : TypeId} {x0 x1 : Value} {c c2 : Nat} {F G : Ns} (hT : Tree w T0 x0 c F) (hc9 : c ≤ 1099511627776) {q : Path} {n : Nd} (hn : F q = some n) (hG : Tree w T1 x1 c2 G) (X : List Path) (A B : Option Addr) (cap cap2 : Nat) (hr : Rd w (fun _ => True) A (pvs G X)) (hXd : ∀ x ∈ X, G x ≠ none) (hX9 : X.length ≤ 1099511627776) (C : List (Path × List UInt8)) :
    Calls Tryz.prog 46 #[.pointer (some ⟨n.b, 0, none⟩), .slice A X.length cap, .slice B C.length cap2] w fun e w' => ∃ mb m, e = .returned (.map mb) ∧ Mp w' mb c m ∧ Lik F G q X (fun _ => C ≠ []) m ∧ Below w.heap.size w w' := by
  by_cases h0 : C = []
  · subst h0
    refine (likely_few hT hc9 hn hG X A B cap cap2 hr hXd hX9).mono ?_
    rintro e w' ⟨mb, m, rfl, _, h2, h3, h4⟩
    exact ⟨some mb, m, rfl, h2, ⟨h3.sound, fun k y hy hp => h3.all k y hy (hp.imp_right fun h => h rfl)⟩, h4⟩
  · have hp : 0 < C.length := List.length_pos_iff.2 h0
    refine (likely_some hT hn (.slice A X.length cap) B C.length cap2 hp).mono ?_
    rintro e w' ⟨rfl, h4⟩
    exact ⟨n.mb, _, rfl, (hT.below h4).map _ _ hn, ⟨fun _ _ h => h, fun k y hy _ => by rw [hy]; rfl⟩, h4⟩
def SePost (base : Nat) (F G : Ns) (q : Path) (vl vp : Value) (L : List Fd) (w : World) (e : Ending) (w' : World) : Prop :=
  ∃ v L2, e = .returned v ∧ Fin_ F G q L.length L2 ∧ OwnF base w' v (L ++ L2) ∧ (∀ f ∈ L ++ L2, OwnS base w' f.v f.q) ∧ (∀ f ∈ L2, ∀ g, f.v.ownBlock = some g → w.heap.size ≤ g) ∧ OwnS base w' vp q ∧
    Kp (fun i => vl.ownBlock = some i ∨ vp.ownBlock = some i) w w' ∧ (∀ g, v.ownBlock = some g → vl.ownBlock = some g ∨ w.heap.size ≤ g) ∧ (L ++ L2).length ≤ 513
def SeC (base : Nat) (T0 : TypeId) (x0 : Value) (c : Nat) (F : Ns) (c2 : Nat) (G : Ns) (q : Path) (n : Nd) : Prop :=
  ∀ (w : World) (vl vp vx : Value) (L : List Fd) (X : List Path), Tree w T0 x0 c F → Tree w 55 (.bool false) c2 G → (∀ i, own F i → i < base) → (∀ i, own G i → i < base) → base ≤ w.heap.size → OwnF base w vl L → (∀ f ∈ L, OwnS base w f.v f.q ∧ ∀ g, f.v.ownBlock = some g → vp.ownBlock ≠ some g) →
    OwnS base w vp q → OwnP base w vx G X → X.Nodup → (∀ x, x ∈ X ↔ At G q x) → L.length ≤ 513 → Mx w → 0 < base → Calls Tryz.prog 27 #[.pointer (some ⟨n.b, 0, none⟩), vl, vp, vx] w (SePost base F G q vl vp L w)
/-- What is asked of both trees. -/
structure Two (F G : Ns) (N : Nat) : Prop where
  fc : Closed F
  gc : Closed G
  ok : ∀ q k, F (q ++ [k]) ≠ none → Nm.okP k = true ∧ k.length ≤ 1048576 ∧ q.length ≤ 1000
  dot : ∀ x a, G (x ++ [a]) ≠ none → Nm.noDot a = true
  thin : Thin G N
  n9 : N ≤ 1048576
theorem findinfo : (Tryz.prog.info? 80).map (fun i => (i.zero, i.size, i.bytes)) = some (some (.agg #[.pointer none, .slice none 0 0]), 2, 32) := by kernel_rfl
theorem owns_base {w : World} {b base : Nat} {e : TypeId} {s : Nat} {v : Value} {n : Nat} {xs : List Value} (h : w.ownsRow b e s v n xs) (hb : base ≤ b) : w.ownsRow base e s v n xs :=
  ⟨h.1, h.2.imp id fun ⟨g, cap, cur, e1, e2, e3⟩ => ⟨g, cap, cur, e1, Nat.le_trans hb e2, e3⟩⟩
theorem own_form1 {base : Nat} {w : World} {v : Value} {p : Path} {m : Nat} (h : OwnS base w v p) (hp : p.length = m + 1) : ∃ g c, v = .slice (some ⟨g, 0, none⟩) (m + 1) c := by
  unfold OwnS at h
  rw [hp] at h
  exact row_form1 h (Nat.succ_pos _)
theorem new_apart {w7 W : World} {base : Nat} {v u : Value} {p p' : Path} (hv : OwnS w7.heap.size W v p) (hu : OwnS base w7 u p') : ∀ g, v.ownBlock = some g → u.ownBlock ≠ some g := fun g hg e => by
  have h1 := (own_at hv hg).1
  have h2 := (own_at hu e).2
  omega
/-- Behind the branch's own finds. -/
theorem SW.after {w0 : World} {base : Nat} {T0 : TypeId} {x0 : Value} {c : Nat} {F : Ns} {c2 : Nat} {G : Ns} {vl vp vx vk : Value} {X : List Path} {C : List (Path × List UInt8)} {wa w3 w5 w6 : World} {lv u : Value} {L : List Fd} {q : Path} {k : List UInt8} {e : Ending} (h : SW w0 base T0 x0 c F c2 G vl vp vx vk X C w5 lv L) (ho : OwnS base w5 u (q ++ [k]))
    (hu : ∀ g, u.ownBlock = some g → vp.ownBlock = some g ∨ w0.heap.size ≤ g) (ha : App wa base 9 1 vp q.length (byS q) 1 [.string ⟨k.toArray⟩] u w3) (h35 : ∀ g, vp.ownBlock = some g → w5.heap[g]? = w3.heap[g]?) {mb : Option Nat} {r kk : Nat} {m : List UInt8 → Option Nat} {left : List UInt8 → Bool} {cnt : Nat} (hr : Rgs w5 mb r kk m left cnt)
    (hp : SePost base F G (q ++ [k]) lv u L w5 e w6) : ∃ v L4, e = .returned v ∧ Fin_ F G (q ++ [k]) L.length L4 ∧ SW w0 base T0 x0 c F c2 G vl vp vx vk X C w6 v (L ++ L4) ∧ OwnS base w6 vp q ∧ Rgs w6 mb r kk m left cnt ∧ (L ++ L4).length ≤ 513 ∧ (∀ f ∈ L4, ∀ g, f.v.ownBlock = some g → w0.heap.size ≤ g) := by
  obtain ⟨v, L4, he, h1, h2, h3, h4, h5, h6, h7, h8⟩ := hp
  refine ⟨v, L4, he, h1, h.sub ho hu h6 h2 h7 h3 h4, ?_, hr.kp h6 fun i hi => hi.elim (row_cs h.l) (row_cs ho), h8, fun f hf g hg => Nat.le_trans h.kp.size (h4 f hf g hg)⟩
  have h5' : w6.ownsRow base 9 1 u (q.length + 1) (byS q ++ [.string ⟨k.toArray⟩]) := by
    have h9 := h5
    unfold OwnS at h9
    rw [List.length_append, byS_append] at h9
    exact h9
  refine ha.restore h5' fun g hg hne => ?_
  have hlt := Nat.lt_of_lt_of_le (h.pat g hg).1 h.kp.size
  exact (h6.block g hlt (fun hh => hh.elim (fun e2 => rows_ne (owns_keep ha.short h35) h.l ne_str_find hg e2) hne)).trans (h35 g hg)
end Tr
end Go.Proofs.YtfmbbhcjnidcbaaGreatDoor
