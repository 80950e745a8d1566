/-
  TrActOp: WHAT COMES IN: a script's acts as a list.
  MxRow: ROWS WHOSE CALLS READ A VARIABLE OF THE LIBRARY's OWN: the wrap that keeps both what is laid and the world's shape; internal/bytealg.MaxLen's cell out of the shape.
-/
import Derived.Test.YtfmbbhcjnidcbaaGreatDoorJ50
import Derived.ProofKit
import Derived.OpenShut
import Derived.ChangeOld
import Derived.ChangeSlices
import Derived.ChangeArms
import Derived.Lib.SmallJoins
import Derived.SliceStrings
import Derived.Deep.Slices
import Derived.Test.YtfmbbhcjnidcbaaGreatDoorJ6
import Derived.Handed
import Derived.HandedShaped
import Derived.Shelf.Vars

namespace Go.Proofs.YtfmbbhcjnidcbaaGreatDoor
open Go.RowKit Go.Sort
open Me
namespace TrOpen
open Go.ChangeShapes Go.WideShapes Go.ChangeAt Go.RowKit Go.Deep Go.Joins
theorem els (w : World) (a : Addr) : ∀ (len : Nat), (∀ i, i < len → ∃ x : Int × List UInt8, ∀ j u, ([.int .i64 x.1, .string ⟨x.2.toArray⟩] : List Value)[j]? = some u → w.cell? ((a.add (i * 2)).add j) = some u) →
    ∃ ys, ys.length = len ∧ ∀ j u, (Tr.avs ys)[j]? = some u → w.cell? (a.add j) = some u
  | 0, _ => ⟨[], rfl, fun j u hu => by simp [Tr.avs] at hu⟩
  | n + 1, h => by
    obtain ⟨ys, h1, h4⟩ := els w a n (fun i hi => h i (by omega))
    obtain ⟨x, g3⟩ := h n (by omega)
    have e : Tr.avs (ys ++ [x]) = Tr.avs ys ++ [.int .i64 x.1, .string ⟨x.2.toArray⟩] := by unfold Tr.avs; simp
    refine ⟨ys ++ [x], by simp [h1], fun j u hu => ?_⟩
    rw [e] at hu
    have hl : (Tr.avs ys).length = n * 2 := by rw [Tr.avs_len, h1]
    rcases Nat.lt_or_ge j (Tr.avs ys).length with hj | hj
    · rw [List.getElem?_append_left hj] at hu
      exact h4 j u hu
    · rw [List.getElem?_append_right hj] at hu
      have := g3 _ u hu
      rw [Me.add_add] at this
      rwa [show n * 2 + (j - (Tr.avs ys).length) = j by omega] at this
theorem acts {H : Type} {enc : TypeId × Value → H} {w : World} {base : Nat} {spare : Nat → Bool} {held : Bool} {fuel : Nat} {cs : List Value} {y : DataW H × List MemPlace} (h : DataW.trod enc Tryz.prog w base spare held fuel 22 cs = some y) :
    ∃ A ys c, cs = [.slice A (List.length ys) c] ∧ Rd w (fun _ => True) A (Tr.avs ys) := by
  rcases Go.Deep.open_slice Tryz.underlying22 h with ⟨rfl, _⟩ | ⟨a, len, cap, m, n, D, Pl, rfl, _, hl, hcm, hm, _, hi⟩
  · exact ⟨none, [], 0, rfl, Rd.none_ _ _ _⟩
  · have hC : Tryz.prog.cellsOf 31 = 2 := by kernel_rfl
    obtain ⟨ys, h1, h4⟩ := els w a len (fun i hil => by
      obtain ⟨cs', g1, g2⟩ := hi i (by rw [hm]; split <;> omega)
      rw [hC] at g1
      obtain ⟨_, hlen, hat⟩ := World.cells?_some g1
      match cs', hlen with
      | [c0, c1], _ =>
        obtain ⟨xs, n', _, _, _, _, hf⟩ := DataW.trod_struct Tryz.underlying31 g2
        have hxl : xs.length = 2 := by assumption
        have cI : Tryz.prog.cellsOf 3 = 1 := by kernel_rfl
        have cS : Tryz.prog.cellsOf 9 = 1 := by kernel_rfl
        have key : ∀ (i : Nat) (hi : i < xs.length) (t : TypeId) (o : Nat), (DataW.trod enc Tryz.prog w base spare held n' t (List.take (Tryz.prog.cellsOf t) (List.drop o [c0, c1])) = xs[i]?) → Tryz.prog.cellsOf t = 1 → DataW.trod enc Tryz.prog w base spare held n' t (List.take 1 (List.drop o [c0, c1])) = some (xs[i]'hi) := fun i hi t o h hc => by
          rw [hc, List.getElem?_eq_getElem hi] at h
          exact h
        obtain ⟨k0, e0, _, w0⟩ := DataW.trod_int Tryz.underlying3 (key 0 (by omega) _ 0 (hf 0 _ rfl) cI)
        obtain ⟨s, e1, _, w1⟩ := DataW.trod_string Tryz.underlying9 (key 1 (by omega) _ 1 (hf 1 _ rfl) cS)
        simp only [List.drop_zero, List.drop_succ_cons, List.take_succ_cons, List.take_zero, List.cons.injEq, and_true] at e0 e1
        subst e0 e1
        obtain ⟨nl, rfl⟩ : ∃ l : List UInt8, s = ⟨l.toArray⟩ := ⟨s.data.toList, by cases s; simp⟩
        refine ⟨(k0, nl), fun j u hu => ?_⟩
        have hj : j < 2 := by
          rcases Nat.lt_or_ge j 2 with h | h
          · exact h
          · rw [List.getElem?_eq_none (by simpa using h)] at hu; cases hu
        have := hat j hj
        rw [this]
        exact hu)
    refine ⟨some a, ys, cap, by rw [h1], fun hn => ⟨a, rfl, ?_, trivial, h4⟩⟩
    have h0 : 0 < (Tr.avs ys).length := List.length_pos_iff.2 hn
    have := World.block_lt_of_cell? w _ (h4 0 _ (List.getElem?_eq_getElem h0))
    rwa [Me.block_add] at this
set_option maxRecDepth 100000 in
theorem actsV {H : Type} {enc : TypeId × Value → H} {w : World} {base : Nat} {spare : Nat → Bool} {held : Bool} {v : Value} {d : DataW H} {p : List MemPlace} {r : Reach} {b0 : Nat}
    (hv : Value.okWide Tryz.prog w r b0 22 v) (h : DataW.Trod enc Tryz.prog w base spare held 22 v d p) : ∃ A c l, v = .slice A (List.length l) c ∧ Rd w (fun _ => True) A (Tr.avs l) := by
  obtain ⟨a0, len0, cap0, rfl⟩ := okWide_slice Tryz.underlying22 hv
  obtain ⟨fuel, hf⟩ := h
  obtain ⟨A, ys, c, e, hs⟩ := acts (by simpa [Value.cells] using hf)
  simp at e
  obtain ⟨rfl, rfl, rfl⟩ := e
  exact ⟨_, _, ys, rfl, hs⟩
end TrOpen
end Go.Proofs.YtfmbbhcjnidcbaaGreatDoor

namespace Go.Proofs.YtfmbbhcjnidcbaaGreatDoor
open Go Go.RowKit

theorem returns_shaped_and {H : Type} {enc : TypeId × Value → H} {a : Assume} {C : Checked} {os : Os} {f : FuncId} {fn : Func} {s : ChangeSpec} {conds : List PathCond} {apart fresh handsOn again : Bool} {X : World → Array Value → Prop}
    (hX : ∀ (w w' : World) (args : Array Value), w.heap = w'.heap → X w args → X w' args)
    (own : ownKnob C.prog.godebug = none) (started : os.Started) (noInit : C.prog.inits.idxOf? f = none) (hfn : C.prog.funcs[f]? = some fn)
    (witness : ∃ (w : World) (tape : Tape) (i : Input), w.os = os ∧ (w.forCall tape i).Shaped C.prog ∧ i.vars = [] ∧ Input.okWide C.prog (w.forCall tape i) .any w.heap.size f i ∧
      ((s.pre enc C.prog fn conds apart (w.forCall tape i).memory i.args ∧ X (w.forCall tape i).memory i.args) ∧ sizedMet enc C.prog fn (OpenSpec.ofChange s) apart (w.forCall tape i).memory i.args) ∧ a.holds C.prog (lone (Frame.enter C.prog f i.args .normal) [] (w.forCall tape i)))
    (contract : ∀ (W : World) (base : Nat) (args : Array Value) (ds gs : List (DataW H)) (before : List MemPlace),
      (∀ (j : Nat) t v, fn.params[j]? = some t → args[j]? = some v → Value.okWide C.prog W .any base t v) →
      DataW.Whole enc C.prog fn.params.toList s.vars apart W args.toList ds gs before →
      conds.all (PathCond.test C.prog ⟨fn.params.toList, ds, s.plain.varTypes C.prog, gs⟩) = true →
      (DataW.weightsEach C.prog (fn.params.toList ++ s.plain.varTypes C.prog) (ds ++ gs)).all (· ≤ reachBytes) = true → X W args →
      W.ShapedOpen C.prog →
      a.holds C.prog (lone (Frame.enter C.prog f args .normal) [] W) →
      Calls C.prog f args W fun e W' => ∃ v, e = .returned v ∧ s.post enc C.prog fn apart fresh handsOn again W args v W') :
    ReturnsInHanded a C os f .any (fun w args => (s.pre enc C.prog fn conds apart w args ∧ X w args) ∧ sizedMet enc C.prog fn (OpenSpec.ofChange s) apart w args) (s.post enc C.prog fn apart fresh handsOn again) := by
  refine returnsInHanded_of_calls own started noInit witness ?_
  intro w tape i _ hsh _ hok hpre hholds
  obtain ⟨_, _, _, fn', hfn', _, _, _, _, hval⟩ := hok
  have e : fn' = fn := Option.some.inj (hfn'.symm.trans hfn)
  subst e
  obtain ⟨⟨⟨ds, gs, before, hw, hc⟩, hx⟩, hz⟩ := hpre
  have hw' := DataW.Whole.of_heap (w' := w.forCall tape i) (by rfl) hw
  refine (contract (w.forCall tape i) w.heap.size i.args ds gs before hval hw' hc (hz.weights hw) (hX _ _ _ (by rfl) hx) hsh hholds).mono fun e W' ⟨v, he, hp⟩ => ?_
  subst he
  exact ChangeSpec.post_blind hp

theorem mx_shaped {w : World} (h : w.ShapedOpen Tryz.prog) : Mx w :=
  cell_of_shapedOpen_int (zero := #[.int .i64 0]) (t := 3) h (of_decide_eq_true (by kernel_rfl)) (by kernel_rfl) rfl (by kernel_rfl) (by kernel_rfl) Tryz.underlying3
end Go.Proofs.YtfmbbhcjnidcbaaGreatDoor
