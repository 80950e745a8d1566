/-
  TeOp: WHAT COMES IN: a node as it is handed to a law, as a tree.
-/
import Derived.Test.YtojmcndiooiehaaGreatDoorM4
import Derived.ProofKit
import Derived.OpenShut
import Derived.ChangeOld
import Derived.ChangeSlices
import Derived.ChangeArms
import Derived.SizedLaws
import Derived.Lib.SmallJoins
import Derived.SliceStrings
import Derived.Deep.Slices

set_option linter.unusedSimpArgs false
set_option linter.unusedVariables false
namespace Go.Proofs.YtojmcndiooiehaaGreatDoor
open Go.RowKit Go.Sort
open Me
namespace TeOpen
open Go.ChangeShapes Go.WideShapes Go.ChangeAt Go.RowKit Go.Deep Go.Joins
theorem els (w : World) (a : Addr) : ∀ (len : Nat), (∀ i, i < len → ∃ x v, (∀ j u, (Te.cel x v)[j]? = some u → w.cell? ((a.add (i * 4)).add j) = some u) ∧ Te.At w (fun _ => True) x v ∧ Te.Tl x) →
    ∃ ks xs, ks.length = len ∧ Te.Ats w (fun _ => True) ks xs ∧ (∀ j u, xs[j]? = some u → w.cell? (a.add j) = some u) ∧ Te.Tls ks
  | 0, _ => ⟨[], [], rfl, by rw [Te.Ats], fun j u hu => by simp at hu, by rw [Te.Tls]; trivial⟩
  | n + 1, h => by
    obtain ⟨ks, xs, h1, h2, h3, h4⟩ := els w a n (fun i hi => h i (by omega))
    obtain ⟨x, v, g1, g2, g3⟩ := h n (by omega)
    refine ⟨ks ++ [x], xs ++ Te.cel x v, by simp [h1], Te.Ats.snoc g2 ks xs h2, fun j u hu => ?_, ?_⟩
    · have hl := Te.Ats.len ks xs h2
      rcases Nat.lt_or_ge j xs.length with hj | hj
      · rw [List.getElem?_append_left hj] at hu
        exact h3 j u hu
      · rw [List.getElem?_append_right hj] at hu
        have := g1 _ u hu
        rw [Me.add_add] at this
        rwa [show n * 4 + (j - xs.length) = j by omega] at this
    · have key : ∀ l : List Te.Nd, Te.Tls l → Te.Tls (l ++ [x]) := by
        intro l hl
        induction l with
        | nil => show Te.Tls [x]; rw [Te.Tls, Te.Tls]; exact ⟨g3, trivial⟩
        | cons y r ih =>
          rw [Te.Tls] at hl
          show Te.Tls (y :: (r ++ [x]))
          rw [Te.Tls]
          exact ⟨hl.1, ih hl.2⟩
      exact key ks h4
theorem all_mem {H : Type} {P : Program} {e : TypeId} : ∀ {l : List (DataW H)} {d : DataW H} {m : Nat}, d ∈ l → m ∈ d.weights P e → m ∈ DataW.weightsAll P e l
  | [], d, m, h, _ => by cases h
  | x :: r, d, m, h, hm => by
    rw [DataW.weightsAll, List.mem_append]
    rcases List.mem_cons.1 h with rfl | h
    · exact .inl hm
    · exact .inr (all_mem h hm)
set_option maxRecDepth 100000 in
set_option maxHeartbeats 2000000 in
theorem node {H : Type} {enc : TypeId × Value → H} {w : World} {base : Nat} {spare : Nat → Bool} {held : Bool} : ∀ (fuel : Nat) {cs : List Value} {y : DataW H × List MemPlace} (_ : DataW.trod enc Tryz.prog w base spare held fuel 24 cs = some y) (_ : ∀ m ∈ y.1.weights Tryz.prog 24, m ≤ reachBytes),
    ∃ x v, cs = Te.cel x v ∧ Te.At w (fun _ => True) x v ∧ Te.Tl x
  | 0, cs, y, h, _ => by simp [DataW.trod] at h
  | fuel + 1, cs, y, h, hs => by
    obtain ⟨zs, n', hfu, rfl, hlen, hzl, hf⟩ := DataW.trod_struct Tryz.underlying24 h
    obtain rfl : fuel = n' := by omega
    have hxl : zs.length = 4 := hzl
    have hcl : cs.length = 4 := by rw [hlen]; kernel_rfl
    match cs, hcl, zs, hxl with
    | [v0, v1, v2, v3], _, [z0, z1, z2, z3], _ =>
      have cI : Tryz.prog.cellsOf 3 = 1 := by kernel_rfl
      have cS : Tryz.prog.cellsOf 9 = 1 := by kernel_rfl
      have cK : Tryz.prog.cellsOf 22 = 1 := by kernel_rfl
      have key : ∀ (i : Nat) (hi : i < [z0, z1, z2, z3].length) (t : TypeId) (o : Nat), (DataW.trod enc Tryz.prog w base spare held fuel t (List.take (Tryz.prog.cellsOf t) (List.drop o [v0, v1, v2, v3])) = [z0, z1, z2, z3][i]?) → Tryz.prog.cellsOf t = 1 → DataW.trod enc Tryz.prog w base spare held fuel t (List.take 1 (List.drop o [v0, v1, v2, v3])) = some ([z0, z1, z2, z3][i]'hi) := fun i hi t o h hc => by
        rw [hc, List.getElem?_eq_getElem hi] at h
        exact h
      obtain ⟨k0, e0, d0, w0⟩ := DataW.trod_int Tryz.underlying3 (key 0 (by simp) _ 0 (hf 0 _ rfl) cI)
      obtain ⟨s, e1, d1, w1⟩ := DataW.trod_string Tryz.underlying9 (key 1 (by simp) _ 1 (hf 1 _ rfl) cS)
      obtain ⟨k2, e2, d2, w2⟩ := DataW.trod_int Tryz.underlying3 (key 2 (by simp) _ 2 (hf 2 _ rfl) cI)
      have t3 := key 3 (by simp) _ 3 (hf 3 _ rfl) cK
      simp only [List.drop_zero, List.drop_succ_cons, List.take_succ_cons, List.take_zero, List.cons.injEq, and_true] at e0 e1 e2 t3
      simp only [List.getElem_cons_zero, List.getElem_cons_succ] at d0 d1 d2 t3
      subst e0 e1 e2 d0 d1 d2
      obtain ⟨nl, rfl⟩ : ∃ l : List UInt8, s = ⟨l.toArray⟩ := ⟨s.data.toList, by cases s; simp⟩
      have hw : ∀ m, m ∈ (DataW.lit (Lit.string (⟨nl.toArray⟩ : ByteArray).data.toList) : DataW H).weights Tryz.prog 9 ∨ m ∈ z3.1.weights Tryz.prog 22 → m ≤ reachBytes := fun m hm => hs m (by
        show m ∈ DataW.weights Tryz.prog 24 (DataW.agg [_, _, _, z3.1])
        rw [DataW.weights, Tryz.underlying24]
        show m ∈ _ ++ (_ ++ (_ ++ (_ ++ _)))
        simp only [List.mem_append]
        rcases hm with hm | hm
        · exact .inr (.inl hm)
        · exact .inr (.inr (.inr (.inl hm))))
      have hnl : nl.length ≤ 140737488355328 := by
        have := hw nl.length (.inl (by rw [DataW.weights]; simp))
        have h2 := reachBytes_lt
        omega
      rcases DataW.trod_slice Tryz.underlying22 t3 with ⟨e3, _⟩ | ⟨a, len, cap, elems, rest, n, hfn, e3, d3, _, hl, hcm, hle, hel, _, _⟩
      · obtain rfl : v3 = .slice none 0 0 := by simpa using e3
        exact ⟨.mk k0 nl k2 [], .slice none 0 0, rfl, Te.At.zero _ _ _ _ _, by rw [Te.Tl, Te.Tls]; exact ⟨hnl, trivial⟩⟩
      · obtain rfl : v3 = .slice (some a) len cap := by simpa using e3
        have hC : Tryz.prog.cellsOf 24 = 4 := by kernel_rfl
        obtain ⟨ks, xs, h1, h2, h3, h4⟩ := els w a len (fun i hil => by
          have g0 := hel i hil
          rw [List.getElem?_eq_getElem (by omega)] at g0
          obtain ⟨cs', g1, g2⟩ := Option.bind_eq_some_iff.1 g0
          rw [hC] at g1
          obtain ⟨x, v, rfl, g4, g5⟩ := node n g2 (fun m hm => hw m (.inr (by
            rw [d3, DataW.weights, Tryz.underlying22]
            show m ∈ _ :: (_ ++ _)
            rw [List.mem_cons, List.mem_append]
            exact .inr (.inl (all_mem (List.mem_map_of_mem (List.getElem_mem _)) hm)))))
          obtain ⟨_, hlen4, hat⟩ := World.cells?_some g1
          refine ⟨x, v, fun j u hu => ?_, g4, g5⟩
          have hj : j < 4 := by
            rcases Nat.lt_or_ge j 4 with h | h
            · exact h
            · rw [List.getElem?_eq_none (by simpa using h)] at hu; cases hu
          have := hat j hj
          rw [this]
          exact hu)
        refine ⟨.mk k0 nl k2 ks, .slice (some a) len cap, rfl, ?_, by rw [Te.Tl]; exact ⟨hnl, h4⟩⟩
        rw [Te.At]
        refine ⟨some a, cap, xs, by rw [h1], fun hn => ⟨a, rfl, ?_, trivial, h3⟩, h2⟩
        have h0 : 0 < xs.length := List.length_pos_iff.2 hn
        have := World.block_lt_of_cell? w _ (h3 0 _ (List.getElem?_eq_getElem h0))
        rwa [Me.block_add] at this
  termination_by fuel => fuel
  decreasing_by omega
set_option maxRecDepth 100000 in
theorem nodeV {H : Type} {enc : TypeId × Value → H} {w : World} {base : Nat} {spare : Nat → Bool} {held : Bool} {v : Value} {d : DataW H} {p : List MemPlace} {r : Reach} {b0 : Nat}
    (hv : Value.okWide Tryz.prog w r b0 24 v) (h : DataW.Trod enc Tryz.prog w base spare held 24 v d p) (hs : ∀ m ∈ d.weights Tryz.prog 24, m ≤ reachBytes) : ∃ x kv, v = Te.val x kv ∧ Te.At w (fun _ => True) x kv ∧ Te.Tl x := by
  obtain ⟨cs, rfl, _⟩ := okWide_struct Tryz.underlying24 hv
  obtain ⟨fuel, hf2⟩ := h
  obtain ⟨x, kv, e, h1, h2⟩ := node fuel hf2 hs
  refine ⟨x, kv, ?_, h1, h2⟩
  have e : cs.toList = Te.cel x kv := e
  show Value.agg cs = Value.agg #[_, _, _, _]
  congr 1
  apply Array.toList_inj.1
  rw [e]
/-- Of a sized call: what argument j weighs. -/
theorem sized {H : Type} {P : Program} {ts : List TypeId} {ds : List (DataW H)} (h : (DataW.weightsEach P ts ds).all (· ≤ reachBytes) = true) {j : Nat} {t : TypeId} {d : DataW H} (ht : ts[j]? = some t) (hd : ds[j]? = some d) : ∀ m ∈ d.weights P t, m ≤ reachBytes := fun m hm => by
  have := List.all_eq_true.1 h _ (DataW.weights_mem_each ht hd m hm)
  simpa using this
end TeOpen
end Go.Proofs.YtojmcndiooiehaaGreatDoor
