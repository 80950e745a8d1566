/-
  CHAPTER 12, MEMORY: a search's object as newSearch lays it.
-/
import Derived.Test.YtedppnejkjcplaaPkStep
import Derived.Test.YtedppnejkjcplaaPkRep
namespace Go.Proofs.Ytedppnejkjcplaa
open Go.RowKit Go.Sort
open Me
open Pk
namespace Pk
open Rx (In)
theorem cell_new {w : World} {g : Nat} {v : Value} {t : TypeId} (h : g = w.heap.size) : (w.alloc (.cells #[v] t)).cell? ⟨g, 0, none⟩ = some v := by
  subst h
  exact ((RowAt.new w _ _).cell 0).trans rfl
theorem kept_heap {X Y : World} (h : Below X.heap.size X Y) : ∀ (g : Nat) (o : Obj), X.heap[g]? = some o → Y.heap[g]? = some o := fun g _ e => (h.block g (Array.getElem?_eq_some_iff.1 e).1).trans e
theorem chain {W X Y : World} (h : Below X.heap.size X Y) (k : Below W.heap.size W X) : Below W.heap.size W Y := k.trans (h.mono k.size)
theorem hnew {w : World} {g : Nat} {cs : Array Value} {t : TypeId} (h : g = w.heap.size) : (w.alloc (.cells cs t)).heap[g]? = some (.cells cs t (0, 0)) := by
  subst h
  exact heap_alloc_new w _
/-- What newSearch leaves. -/
def Newed (W : World) (L : List In) (t : List UInt8) (w : Nat) (e : Ending) (W' : World) : Prop :=
  ∃ sb c, e = .returned (.pointer (some ⟨sb, 0, none⟩)) ∧ Below W.heap.size W W' ∧ (∀ k, Sv c W' sb k [] none) ∧ c.L = L ∧ c.t = t ∧ c.wd = w ∧ c.b0 = W.heap.size
theorem fresh {W X : World} {A : Option Addr} {cp : Nat} {L : List In} {t : List UInt8} {w gz g1 k1 B sb n : Nat} (hsb : sb = X.heap.size) (hn : n = L.length) (hbX : Below W.heap.size W X) (hp : Rd W (fun _ => True) A (icells L))
    (hz : X.heap[gz]? = some (.cells (iv (List.replicate L.length 0)).toArray 3 (0, 0))) (hgz : W.heap.size ≤ gz) (ho : X.ownsRow B intT 1 (.slice (some ⟨g1, 0, none⟩) w k1) w (iv (List.replicate w (-1)))) (hB : W.heap.size ≤ B) (hne : gz ≠ g1)
    (hw2 : 2 ≤ w) (hw4 : w ≤ 4096) (hL : L.length ≤ 4096) (ht : t.length ≤ 1048576) :
    Newed W L t w (.returned (.pointer (some ⟨sb, 0, none⟩))) (X.alloc (.cells #[.slice A n cp, .string ⟨t.toArray⟩, .slice (some ⟨gz, 0, none⟩) n n, .slice (some ⟨g1, 0, none⟩) w k1, .int .i64 (w : Int), .slice none 0 0, .slice none 0 0, .int .i64 (w : Int), .slice none 0 0, .slice none 0 0, .slice none 0 0, .slice none 0 0] 71)) := by
  subst hsb
  subst hn
  have hzl : gz < X.heap.size := (Array.getElem?_eq_some_iff.1 hz).1
  have hgl := World.ownsRow.lt ho g1 rfl
  refine ⟨X.heap.size, { b0 := W.heap.size, pa := A, pc := cp, dv := .slice (some ⟨gz, 0, none⟩) L.length L.length, bv := .slice (some ⟨g1, 0, none⟩) w k1, no := .slice none 0 0, nh := .slice none 0 0, xo := .slice none 0 0, xh := .slice none 0 0, tv := .slice none 0 0, fv := .slice none 0 0, L := L, t := t, wd := w, dn := List.replicate L.length 0, bl := blank w, nofs := [], nhds := [], xofs := [], xhds := [], ts := [], fl := [] }, rfl, hbX.alloc hbX.size _, fun k => ?_, rfl, rfl, rfl, rfl⟩
  have hnil : ∀ (e : TypeId) (s : Nat) (V : World) (b : Nat), V.ownsRow b e s (.slice none 0 0) 0 [] := fun e s V b => ⟨by simp, .inl ⟨rfl, rfl⟩⟩
  refine ⟨⟨RowAt.new X _ _, ?_, ?_, ?_, hL, ht, hw4, hw2, fun a ha => by cases ha⟩, rfl, rfl, (fun e he => by cases he), Nat.zero_le _, rfl, rfl, rfl, ?_, ⟨rfl, rfl⟩⟩
  · refine ⟨?_, ?_, ?_, hbX.size⟩
    · intro o ho2
      unfold Cs.own at ho2
      simp only [List.mem_cons, List.not_mem_nil, or_false] at ho2
      rcases ho2 with rfl | rfl | rfl | rfl | rfl | rfl | rfl | rfl
      · show World.ownsRow _ W.heap.size intT 1 (.slice (some ⟨gz, 0, none⟩) L.length L.length) (List.replicate L.length 0).length (iv (List.replicate L.length 0))
        rw [List.length_replicate]
        refine ⟨by rw [iv_len, List.length_replicate, Nat.mul_one], .inr ⟨gz, L.length, _, rfl, hgz, (Below.heap_alloc X _ gz hzl).trans hz, Nat.le_refl _, by unfold maxLen; omega, by simp [iv], by simp [iv]⟩⟩
      · show World.ownsRow _ W.heap.size intT 1 (.slice (some ⟨g1, 0, none⟩) w k1) (blank w).length (iv (blank w))
        unfold blank
        rw [List.length_replicate]
        have h2 := ho.alloc (.cells #[.slice A L.length cp, .string ⟨t.toArray⟩, .slice (some ⟨gz, 0, none⟩) L.length L.length, .slice (some ⟨g1, 0, none⟩) w k1, .int .i64 (w : Int), .slice none 0 0, .slice none 0 0, .int .i64 (w : Int), .slice none 0 0, .slice none 0 0, .slice none 0 0, .slice none 0 0] 71)
        refine ⟨h2.1, ?_⟩
        rcases h2.2 with hn | ⟨g, cap, cur, hv, hb, rest⟩
        · exact .inl hn
        · exact .inr ⟨g, cap, cur, hv, by omega, rest⟩
      all_goals exact hnil _ _ _ _
    · unfold Cs.own
      have ap : ∀ v : Value, Apart v (.slice none 0 0) := fun v g _ e => by cases e
      have pa : ∀ v : Value, Apart (.slice none 0 0) v := fun v g e => by cases e
      simp only [List.pairwise_cons, List.mem_cons, List.not_mem_nil, or_false, List.Pairwise.nil, and_true]
      refine ⟨?_, ?_, ?_, ?_, ?_, ?_, ?_, ?_⟩
      · intro o ho2
        rcases ho2 with rfl | rfl | rfl | rfl | rfl | rfl | rfl
        · intro g e1 e2
          have e1 : some gz = some g := e1
          have e2 : some g1 = some g := e2
          apply hne
          have := Option.some.inj (e1.trans e2.symm)
          exact this
        all_goals exact ap _
      · intro o ho2
        rcases ho2 with rfl | rfl | rfl | rfl | rfl | rfl <;> exact ap _
      all_goals intro o ho2
      all_goals exact pa _
    · intro o ho2
      unfold Cs.own at ho2
      simp only [List.mem_cons, List.not_mem_nil, or_false] at ho2
      rcases ho2 with rfl | rfl | rfl | rfl | rfl | rfl | rfl | rfl
      · intro e
        have : some gz = some X.heap.size := e
        have := Option.some.inj this
        omega
      · intro e
        have : some g1 = some X.heap.size := e
        have := Option.some.inj this
        omega
      all_goals intro e; cases e
  · intro hn
    obtain ⟨ad, e, hl, _, hc⟩ := hp hn
    have hs := hbX.size
    refine ⟨ad, e, by rw [alloc_size]; omega, hl, fun j u hu => ?_⟩
    refine (World.cell?_of_block (w := W) (a := ad.add j) ?_).trans (hc j u hu)
    rw [Me.block_add]
    exact (Below.heap_alloc X _ _ (by omega)).trans (hbX.block _ hl)
  · exact List.length_replicate
  · intro n hn
    have := List.eq_of_mem_replicate hn
    omega
end Pk
end Go.Proofs.Ytedppnejkjcplaa
