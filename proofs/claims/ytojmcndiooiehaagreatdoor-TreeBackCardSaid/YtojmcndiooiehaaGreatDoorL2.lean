/-
  TeHv: CONTRACTS: chapter 15: the law's heavy.
  TeOp: WHAT COMES IN: a node as it is handed to a law, as a tree.
  TeBk: PLAIN: chapter 15: a node that may be, printed and parsed, is it. No program.
-/
import Derived.Test.YtojmcndiooiehaaGreatDoorJ25
import Derived.ProofKit
import Derived.OpenShut
import Derived.ChangeOld
import Derived.ChangeSlices
import Derived.ChangeArms
import Derived.SizedLaws
import Derived.Lib.SmallJoins
import Derived.SliceStrings
import Derived.Deep.Slices
import Derived.Test.YtojmcndiooiehaaGreatDoorJ4

set_option linter.unusedSimpArgs false
set_option linter.unusedVariables false
namespace Go.Proofs.YtojmcndiooiehaaGreatDoor
open Go.RowKit Go.Sort
open Me

namespace Te
mutual
/-- Texts that fit a machine. -/
def Tl : Nd → Prop
  | .mk _ s _ ks => s.length ≤ 140737488355328 ∧ Tls ks
def Tls : List Nd → Prop
  | [] => True
  | x :: r => Tl x ∧ Tls r
end
theorem Tls.mem : ∀ {l : List Nd}, Tls l → ∀ x ∈ l, Tl x
  | [], _, x, hx => by cases hx
  | y :: r, h, x, hx => by
    rw [Tls] at h
    rcases List.mem_cons.1 hx with rfl | hx
    · exact h.1
    · exact Tls.mem h.2 x hx
theorem wts_take (l : List Nd) (k : Nat) (h : k < l.length) : wts (l.take (k + 1)) = wts (l.take k) + wt l[k] := by
  induction l generalizing k with
  | nil => cases h
  | cons x r ih =>
    cases k with
    | zero =>
      show wts (x :: r.take 0) = wts [] + wt x
      rw [List.take_zero]
      simp only [wts]; omega
    | succ k =>
      have hk : k < r.length := by simpa using h
      have := ih k hk
      show wts (x :: r.take (k + 1)) = wts (x :: r.take k) + wt r[k]
      rw [wts, wts, this]; omega
theorem wts_take_len (l : List Nd) (k : Nat) (h : k ≤ l.length) : 5 * k ≤ wts (l.take k) := by
  have := wts_len (l.take k)
  rw [List.length_take, Nat.min_eq_left h] at this
  exact this
def HvC (G : Nat → Prop) (x : Nd) : Prop := ∀ (w : World) (v : Value) (left : Int), 0 ≤ left → left ≤ 300 → At w G x v → Calls Tryz.prog 11 #[val x v, .int .i64 left] w fun e w' => ∃ r : Int, e = .returned (.int .i64 r) ∧ r ≤ 300 ∧ -281474976710656 ≤ r ∧ (0 ≤ r → r = left - (wt x : Int)) ∧ Below w.heap.size w w'
end Te

set_option maxRecDepth 100000 in
set_option maxHeartbeats 8000000 in
theorem heavy_call {G : Nat → Prop} (kd : Int) (s : List UInt8) (n : Int) (ks : List Te.Nd) (hX : ∀ x ∈ ks, Te.HvC G x) (hs : s.length ≤ 140737488355328) (w : World) (v : Value) (left : Int) (hl0 : 0 ≤ left) (hl1 : left ≤ 300) (hat : Te.At w G (.mk kd s n ks) v) :
    Calls Tryz.prog 11 #[.agg #[.int .i64 kd, .string ⟨s.toArray⟩, .int .i64 n, v], .int .i64 left] w fun e w' => ∃ r : Int, e = .returned (.int .i64 r) ∧ r ≤ 300 ∧ -281474976710656 ≤ r ∧ (0 ≤ r → r = left - (Te.wt (.mk kd s n ks) : Int)) ∧ Below w.heap.size w w' := by
  rw [Te.At] at hat
  obtain ⟨A, c, xs, rfl, hr, ha⟩ := hat
  have HX := Lib.hid hX
  have HRD := Lib.hid hr
  have HKS := Lib.hid ha
  have HWT : Hid (Te.wt (.mk kd s n ks) = 5 + s.length + Te.wts ks) := Lib.hid (Te.wt_eq kd s n ks)
  generalize Te.wt (.mk kd s n ks) = Wt at *
  obtain ⟨w0, hw0⟩ : ∃ w0, w0 = w.alloc (.cells #[.int .i64 kd, .string ⟨s.toArray⟩, .int .i64 n, .slice A ks.length c] 24) := ⟨_, rfl⟩
  have HB0 : Hid (Below w.heap.size w w0) := Lib.hid (by rw [hw0]; exact (Below.refl w.heap.size w).alloc (Nat.le_refl _) _)
  have HR1 : Hid (RowAt w0 w.heap.size 24 #[.int .i64 kd, .string ⟨s.toArray⟩, .int .i64 n, .slice A ks.length c]) := Lib.hid (by rw [hw0]; exact RowAt.new w _ _)
  have HZ : Hid (w0.heap.size = w.heap.size + 1) := Lib.hid (by rw [hw0]; simp)
  have k5 : IntKind.i64.wrap (left - 5) = left - 5 := IntWalk.i64_in _ (by omega)
  have k6 : IntKind.i64.wrap (left - 5 - (s.length : Int)) = left - 5 - (s.length : Int) := IntWalk.i64_in _ (by omega)
  clear hX hr ha
  go_enter Tryz.func11, Tryz.ntmps11
  go_wp2_with fail
  rw [← hw0]
  clear hw0
  go_loopw [1, 5] (fun y x wr => ∃ (k : Nat) (r : Int), x = .int .i64 k ∧ y = .int .i64 r ∧ k ≤ ks.length ∧ r ≤ 300 ∧ -281474976710656 ≤ r ∧ Hid (0 ≤ r → r = left - 5 - (s.length : Int) - (Te.wts (ks.take k) : Int)) ∧ Hid (Below w0.heap.size w0 wr)) (fun _ x _ => ks.length - (intOf x).toNat)
  case atStart => exact ⟨0, left - 5 - (s.length : Int), rfl, by first | rfl | go_num, Nat.zero_le _, by omega, by omega, Lib.hid (fun _ => by rw [List.take_zero, Te.wts]; simp), Lib.hid (Below.refl _ _)⟩
  case round =>
    obtain ⟨k, r, rfl, rfl, hk, hr3, hrl, HM, HW⟩ := hrel
    have hz0 := HZ.out
    have hbel : Below w.heap.size w wr := HB0.out.trans (HW.out.mono (by omega))
    have hws : w.heap.size + 1 ≤ wr.heap.size := by have := HW.out.size; omega
    have x3 : wr.cell? ⟨w.heap.size, 3, none⟩ = some (.slice A ks.length c) := ((HR1.out.below HW.out HR1.out.lt).cell 3).trans rfl
    by_cases hlt : k < ks.length
    · have hkI : (k : Int) < (ks.length : Int) := by omega
      by_cases hr0 : 0 ≤ r
      · have hM := HM.out hr0
        have h5k := Te.wts_take_len ks k hk
        have hk60 : k ≤ 60 := by omega
        have hT := Te.wts_take ks k hlt
        obtain ⟨b1, o1, v, rfl, hb, _, hat, c0, c1, c2, c3⟩ := Te.rd_kid HRD.out HKS.out hlt
        have hmem : ks[k] ∈ ks := List.getElem_mem hlt
        generalize ks[k] = x at *
        obtain ⟨kk, ss, nn, kks⟩ := x
        obtain ⟨Ak, ck, xk, rfl, _, _⟩ := hat.form
        have d0 : wr.cell? ⟨b1, o1 + k * 4, none⟩ = some (.int .i64 kk) := (hbel.cell (p := ⟨b1, _, none⟩) hb).trans c0
        have d1 : wr.cell? ⟨b1, o1 + k * 4 + 1, none⟩ = some (.string ⟨ss.toArray⟩) := (hbel.cell (p := ⟨b1, _, none⟩) hb).trans c1
        have d2 : wr.cell? ⟨b1, o1 + k * 4 + 2, none⟩ = some (.int .i64 nn) := (hbel.cell (p := ⟨b1, _, none⟩) hb).trans c2
        have d3 : wr.cell? ⟨b1, o1 + k * 4 + 3, none⟩ = some (.slice Ak kks.length ck) := (hbel.cell (p := ⟨b1, _, none⟩) hb).trans c3
        clear c0 c1 c2 c3
        have hNC : Hid (∀ W, Below wr.heap.size wr W → Calls Tryz.prog 11 #[.agg #[.int .i64 kk, .string ⟨ss.toArray⟩, .int .i64 nn, .slice Ak kks.length ck], .int .i64 r] W fun e w' => ∃ r2 : Int, e = .returned (.int .i64 r2) ∧ r2 ≤ 300 ∧ -281474976710656 ≤ r2 ∧ (0 ≤ r2 → r2 = r - (Te.wt (.mk kk ss nn kks) : Int)) ∧ Below W.heap.size W w') := Lib.hid fun W hW => HX.out _ hmem W _ r hr0 hr3 (hat.below (hbel.trans (hW.mono (by omega))))
        generalize Te.wt (.mk kk ss nn kks) = q at *
        have HT := Lib.hid hT
        have HMM := Lib.hid hM
        have h00 : (0 : Int) ≤ (k : Int) := by omega
        clear hat hmem hbel hT hM h5k HM
        have hdo : o1 + k * 4 = o1 + k * 4 := rfl
        go_wp2_with (go_at_call 11; go_must (refine (hNC.out _ (Below.refl _ _)).mono ?_; rintro e w6 ⟨r2, rfl, hr23, hr2l, hr2e, hw6⟩; have HW6 : Hid (Below w0.heap.size w0 w6) := Lib.hid (HW.out.trans (hw6.mono HW.out.size)); have HE2 := Lib.hid hr2e; clear hw6 hr2e))
        go_roundw
        case rel => exact ⟨k + 1, r2, by go_num, rfl, by omega, hr23, hr2l, Lib.hid (fun h => by have h1 := HE2.out h; have h2 := HMM.out; have h3 := HT.out; rw [h3]; push_cast; omega), HW6⟩
        case measure => simp [intOf]; omega
      · have HN := Lib.hid hr0
        go_wp2_with fail
        go_ret
        exact ⟨r, rfl, hr3, hrl, fun h => by have := HN.out; omega, hbel⟩
    · have hkI : ¬ (k : Int) < (ks.length : Int) := by omega
      have HQ : Hid (0 ≤ r → r = left - (Wt : Int)) := Lib.hid fun h => by
        have h1 := HM.out h
        rw [List.take_of_length_le (by omega)] at h1
        have h2 := HWT.out
        rw [h2]; push_cast; omega
      go_wp2_with fail
      go_ret
      exact ⟨r, rfl, hr3, hrl, HQ.out, hbel⟩

theorem heavy_any (G : Nat → Prop) : ∀ (m : Nat) (x : Te.Nd), Te.wt x ≤ m → Te.Tl x → Te.HvC G x
  | 0, .mk k s n ks, h, _ => by rw [Te.wt_eq] at h; omega
  | m + 1, .mk k s n ks, h, ht => fun w v left h0 h1 hat => by
    rw [Te.wt_eq] at h
    rw [Te.Tl] at ht
    exact heavy_call k s n ks (fun x hx => heavy_any G m x (by have := Te.wts_mem ks x hx; omega) (ht.2.mem x hx)) ht.1 w v left h0 h1 hat
end Go.Proofs.YtojmcndiooiehaaGreatDoor

namespace Go.Proofs.YtojmcndiooiehaaGreatDoor
open Go.RowKit Go.Sort
open Me
namespace TeOpen
open Go.ChangeShapes Go.WideShapes Go.ChangeAt Go.RowKit Go.Deep Go.Joins
theorem els (w : World) (a : Addr) : ∀ (len : Nat), (∀ i, i < len → ∃ x v, (∀ j u, (Te.cel x v)[j]? = some u → w.cell? ((a.add (i * 4)).add j) = some u) ∧ Te.At w (fun _ => True) x v ∧ Te.Tl x) →
    ∃ ks xs, ks.length = len ∧ Te.Ats w (fun _ => True) ks xs ∧ (∀ j u, xs[j]? = some u → w.cell? (a.add j) = some u) ∧ Te.Tls ks
  | 0, _ => ⟨[], [], rfl, by rw [Te.Ats], fun j u hu => by simp at hu, by rw [Te.Tls]; trivial⟩
  | n + 1, h => by
    obtain ⟨ks, xs, h1, h2, h3, h4⟩ := els w a n (fun i hi => h i (by omega))
    obtain ⟨x, v, g1, g2, g3⟩ := h n (by omega)
    refine ⟨ks ++ [x], xs ++ Te.cel x v, by simp [h1], Te.Ats.snoc g2 ks xs h2, fun j u hu => ?_, ?_⟩
    · have hl := Te.Ats.len ks xs h2
      rcases Nat.lt_or_ge j xs.length with hj | hj
      · rw [List.getElem?_append_left hj] at hu
        exact h3 j u hu
      · rw [List.getElem?_append_right hj] at hu
        have := g1 _ u hu
        rw [Me.add_add] at this
        rwa [show n * 4 + (j - xs.length) = j by omega] at this
    · have key : ∀ l : List Te.Nd, Te.Tls l → Te.Tls (l ++ [x]) := by
        intro l hl
        induction l with
        | nil => show Te.Tls [x]; rw [Te.Tls, Te.Tls]; exact ⟨g3, trivial⟩
        | cons y r ih =>
          rw [Te.Tls] at hl
          show Te.Tls (y :: (r ++ [x]))
          rw [Te.Tls]
          exact ⟨hl.1, ih hl.2⟩
      exact key ks h4
theorem all_mem {H : Type} {P : Program} {e : TypeId} : ∀ {l : List (DataW H)} {d : DataW H} {m : Nat}, d ∈ l → m ∈ d.weights P e → m ∈ DataW.weightsAll P e l
  | [], d, m, h, _ => by cases h
  | x :: r, d, m, h, hm => by
    rw [DataW.weightsAll, List.mem_append]
    rcases List.mem_cons.1 h with rfl | h
    · exact .inl hm
    · exact .inr (all_mem h hm)
set_option maxRecDepth 100000 in
set_option maxHeartbeats 2000000 in
theorem node {H : Type} {enc : TypeId × Value → H} {w : World} {base : Nat} {spare : Nat → Bool} {held : Bool} : ∀ (fuel : Nat) {cs : List Value} {y : DataW H × List MemPlace} (_ : DataW.trod enc Tryz.prog w base spare held fuel 24 cs = some y) (_ : ∀ m ∈ y.1.weights Tryz.prog 24, m ≤ reachBytes),
    ∃ x v, cs = Te.cel x v ∧ Te.At w (fun _ => True) x v ∧ Te.Tl x
  | 0, cs, y, h, _ => by simp [DataW.trod] at h
  | fuel + 1, cs, y, h, hs => by
    obtain ⟨zs, n', hfu, rfl, hlen, hzl, hf⟩ := DataW.trod_struct Tryz.underlying24 h
    obtain rfl : fuel = n' := by omega
    have hxl : zs.length = 4 := hzl
    have hcl : cs.length = 4 := by rw [hlen]; kernel_rfl
    match cs, hcl, zs, hxl with
    | [v0, v1, v2, v3], _, [z0, z1, z2, z3], _ =>
      have cI : Tryz.prog.cellsOf 3 = 1 := by kernel_rfl
      have cS : Tryz.prog.cellsOf 9 = 1 := by kernel_rfl
      have cK : Tryz.prog.cellsOf 22 = 1 := by kernel_rfl
      have key : ∀ (i : Nat) (hi : i < [z0, z1, z2, z3].length) (t : TypeId) (o : Nat), (DataW.trod enc Tryz.prog w base spare held fuel t (List.take (Tryz.prog.cellsOf t) (List.drop o [v0, v1, v2, v3])) = [z0, z1, z2, z3][i]?) → Tryz.prog.cellsOf t = 1 → DataW.trod enc Tryz.prog w base spare held fuel t (List.take 1 (List.drop o [v0, v1, v2, v3])) = some ([z0, z1, z2, z3][i]'hi) := fun i hi t o h hc => by
        rw [hc, List.getElem?_eq_getElem hi] at h
        exact h
      obtain ⟨k0, e0, d0, w0⟩ := DataW.trod_int Tryz.underlying3 (key 0 (by simp) _ 0 (hf 0 _ rfl) cI)
      obtain ⟨s, e1, d1, w1⟩ := DataW.trod_string Tryz.underlying9 (key 1 (by simp) _ 1 (hf 1 _ rfl) cS)
      obtain ⟨k2, e2, d2, w2⟩ := DataW.trod_int Tryz.underlying3 (key 2 (by simp) _ 2 (hf 2 _ rfl) cI)
      have t3 := key 3 (by simp) _ 3 (hf 3 _ rfl) cK
      simp only [List.drop_zero, List.drop_succ_cons, List.take_succ_cons, List.take_zero, List.cons.injEq, and_true] at e0 e1 e2 t3
      simp only [List.getElem_cons_zero, List.getElem_cons_succ] at d0 d1 d2 t3
      subst e0 e1 e2 d0 d1 d2
      obtain ⟨nl, rfl⟩ : ∃ l : List UInt8, s = ⟨l.toArray⟩ := ⟨s.data.toList, by cases s; simp⟩
      have hw : ∀ m, m ∈ (DataW.lit (Lit.string (⟨nl.toArray⟩ : ByteArray).data.toList) : DataW H).weights Tryz.prog 9 ∨ m ∈ z3.1.weights Tryz.prog 22 → m ≤ reachBytes := fun m hm => hs m (by
        show m ∈ DataW.weights Tryz.prog 24 (DataW.agg [_, _, _, z3.1])
        rw [DataW.weights, Tryz.underlying24]
        show m ∈ _ ++ (_ ++ (_ ++ (_ ++ _)))
        simp only [List.mem_append]
        rcases hm with hm | hm
        · exact .inr (.inl hm)
        · exact .inr (.inr (.inr (.inl hm))))
      have hnl : nl.length ≤ 140737488355328 := by
        have := hw nl.length (.inl (by rw [DataW.weights]; simp))
        have h2 := reachBytes_lt
        omega
      rcases DataW.trod_slice Tryz.underlying22 t3 with ⟨e3, _⟩ | ⟨a, len, cap, elems, rest, n, hfn, e3, d3, _, hl, hcm, hle, hel, _, _⟩
      · obtain rfl : v3 = .slice none 0 0 := by simpa using e3
        exact ⟨.mk k0 nl k2 [], .slice none 0 0, rfl, Te.At.zero _ _ _ _ _, by rw [Te.Tl, Te.Tls]; exact ⟨hnl, trivial⟩⟩
      · obtain rfl : v3 = .slice (some a) len cap := by simpa using e3
        have hC : Tryz.prog.cellsOf 24 = 4 := by kernel_rfl
        obtain ⟨ks, xs, h1, h2, h3, h4⟩ := els w a len (fun i hil => by
          have g0 := hel i hil
          rw [List.getElem?_eq_getElem (by omega)] at g0
          obtain ⟨cs', g1, g2⟩ := Option.bind_eq_some_iff.1 g0
          rw [hC] at g1
          obtain ⟨x, v, rfl, g4, g5⟩ := node n g2 (fun m hm => hw m (.inr (by
            rw [d3, DataW.weights, Tryz.underlying22]
            show m ∈ _ :: (_ ++ _)
            rw [List.mem_cons, List.mem_append]
            exact .inr (.inl (all_mem (List.mem_map_of_mem (List.getElem_mem _)) hm)))))
          obtain ⟨_, hlen4, hat⟩ := World.cells?_some g1
          refine ⟨x, v, fun j u hu => ?_, g4, g5⟩
          have hj : j < 4 := by
            rcases Nat.lt_or_ge j 4 with h | h
            · exact h
            · rw [List.getElem?_eq_none (by simpa using h)] at hu; cases hu
          have := hat j hj
          rw [this]
          exact hu)
        refine ⟨.mk k0 nl k2 ks, .slice (some a) len cap, rfl, ?_, by rw [Te.Tl]; exact ⟨hnl, h4⟩⟩
        rw [Te.At]
        refine ⟨some a, cap, xs, by rw [h1], fun hn => ⟨a, rfl, ?_, trivial, h3⟩, h2⟩
        have h0 : 0 < xs.length := List.length_pos_iff.2 hn
        have := World.block_lt_of_cell? w _ (h3 0 _ (List.getElem?_eq_getElem h0))
        rwa [Me.block_add] at this
  termination_by fuel => fuel
  decreasing_by omega
set_option maxRecDepth 100000 in
theorem nodeV {H : Type} {enc : TypeId × Value → H} {w : World} {base : Nat} {spare : Nat → Bool} {held : Bool} {v : Value} {d : DataW H} {p : List MemPlace} {r : Reach} {b0 : Nat}
    (hv : Value.okWide Tryz.prog w r b0 24 v) (h : DataW.Trod enc Tryz.prog w base spare held 24 v d p) (hs : ∀ m ∈ d.weights Tryz.prog 24, m ≤ reachBytes) : ∃ x kv, v = Te.val x kv ∧ Te.At w (fun _ => True) x kv ∧ Te.Tl x := by
  obtain ⟨cs, rfl, _⟩ := okWide_struct Tryz.underlying24 hv
  obtain ⟨fuel, hf2⟩ := h
  obtain ⟨x, kv, e, h1, h2⟩ := node fuel hf2 hs
  refine ⟨x, kv, ?_, h1, h2⟩
  have e : cs.toList = Te.cel x kv := e
  show Value.agg cs = Value.agg #[_, _, _, _]
  congr 1
  apply Array.toList_inj.1
  rw [e]
/-- Of a sized call: what argument j weighs. -/
theorem sized {H : Type} {P : Program} {ts : List TypeId} {ds : List (DataW H)} (h : (DataW.weightsEach P ts ds).all (· ≤ reachBytes) = true) {j : Nat} {t : TypeId} {d : DataW H} (ht : ts[j]? = some t) (hd : ds[j]? = some d) : ∀ m ∈ d.weights P t, m ≤ reachBytes := fun m hm => by
  have := List.all_eq_true.1 h _ (DataW.weights_mem_each ht hd m hm)
  simpa using this
end TeOpen
end Go.Proofs.YtojmcndiooiehaaGreatDoor

namespace Go.Proofs.YtojmcndiooiehaaGreatDoor
open Go.RowKit

namespace Te
mutual
/-- The tokens of a node's text. -/
def toks : Nd → List Tok
  | .mk k s n ks => if k = 1 then (1, s) :: (3, []) :: (tokss true ks ++ [(4, [])]) else if k = 4 then [(2, s)] else [(1, txt (.mk k s n ks))]
def tokss : Bool → List Nd → List Tok
  | _, [] => []
  | b, x :: r => (if b = true then [] else [(5, [])]) ++ (toks x ++ tokss false r)
end
/-! ## one word -/
def wc (c : UInt8) : Prop := Lx.may c 0 = true ∧ c ≠ 123 ∧ c ≠ 125
theorem scan_plain : ∀ l : List UInt8, (∀ c ∈ l, wc c) → Lx.scan l 0 = some l.length
  | [], _ => rfl
  | c :: r, h => by
    obtain ⟨h1, h2, h3⟩ := h c (by simp)
    have hd : Lx.dep c 0 = 0 := by unfold Lx.dep; rw [if_neg h2, if_neg h3]
    rw [Lx.scan, if_pos h1, hd, if_neg (by decide), scan_plain r fun x hx => h x (List.mem_cons_of_mem _ hx)]
    rfl
theorem lex_plain {l : List UInt8} (h : ∀ c ∈ l, wc c) (h0 : l ≠ []) : Lx.lex l = some [(1, l)] := (Lx.one_word l).2 ⟨scan_plain l h, List.length_pos_iff.2 h0⟩
theorem u8_all {P : UInt8 → Prop} (h : ∀ n : Fin 256, P (UInt8.ofNat n.val)) (c : UInt8) : P c := by
  have := h ⟨c.toNat, c.toNat_lt⟩
  simpa using this
theorem wc_all : ∀ c : UInt8, Lx.isI c = true → wc c := u8_all (P := fun c => Lx.isI c = true → Lx.may c 0 = true ∧ c ≠ 123 ∧ c ≠ 125) (by decide +kernel)
theorem wc_digit : ∀ c : UInt8, Dc.isD c = true → wc c := u8_all (P := fun c => Dc.isD c = true → Lx.may c 0 = true ∧ c ≠ 123 ∧ c ≠ 125) (by decide +kernel)
theorem ident_word {s : List UInt8} (h : Lx.identOf s = true) : Lx.lex s = some [(1, s)] := by
  unfold Lx.identOf at h
  rw [Bool.and_eq_true] at h
  refine lex_plain (fun c hc => wc_all c (List.all_eq_true.1 h.1 c hc)) ?_
  rintro rfl
  exact absurd h.2 (by decide)
theorem path_word {s : List UInt8} (h : pathB s = true) : Lx.lex s = some [(1, s)] := by
  unfold pathB Lx.pathOf at h
  rw [Bool.and_eq_true, Bool.and_eq_true, Bool.and_eq_true] at h
  exact (Lx.one_word s).2 ⟨of_decide_eq_true h.2.1.1, of_decide_eq_true h.2.1.2⟩
theorem allD_mem {l : List UInt8} (h : Dc.allD l = true) : ∀ c ∈ l, wc c := fun c hc => wc_digit c (List.all_eq_true.1 h c hc)
theorem pr_known {n : Int} (h : Dc.knownB true n = true) : n.natAbs ≤ 4611686018427387904 := by
  unfold Dc.knownB at h
  rw [Bool.true_and] at h
  have := of_decide_eq_true h
  omega
theorem pr_word {n : Int} (h : Dc.knownB true n = true) : Lx.lex (Dc.pr true n) = some [(1, Dc.pr true n)] := by
  have hn := pr_known h
  have hp : Dc.allD (Dc.plain (n.natAbs / 1000000)) = true := Dc.plain_all (Dc.lt20 (by omega))
  refine lex_plain (fun c hc => ?_) (fun e => ?_)
  · unfold Dc.pr at hc
    rw [if_pos h] at hc
    unfold Dc.sgn Dc.pbod Dc.fracText at hc
    rcases List.mem_append.1 hc with hc | hc
    · split at hc
      · rw [List.mem_singleton] at hc; subst hc; unfold wc; decide
      · cases hc
    · rcases List.mem_append.1 hc with hc | hc
      · exact allD_mem hp c hc
      · split at hc
        · cases hc
        · rcases List.mem_cons.1 hc with rfl | hc
          · unfold wc; decide
          · exact allD_mem (Dc.allD_trim (Dc.six_all (by omega))) c hc
  · unfold Dc.pr at e
    rw [if_pos h] at e
    unfold Dc.pbod at e
    have h1 := (List.append_eq_nil_iff.1 e).2
    exact Dc.plain_ne _ (List.append_eq_nil_iff.1 h1).1
/-! ## a quoted text -/
theorem idx_here (q : UInt8) : ∀ s : List UInt8, s.contains q = false → Lx.idx q (s ++ [q]) = s.length
  | [], _ => by unfold Lx.idx; simp
  | a :: r, h => by
    rw [List.contains_cons, Bool.or_eq_false_iff] at h
    have ih := idx_here q r h.2
    have ha : (a != q) = true := by
      have := h.1
      simp at this ⊢
      exact fun e => this e.symm
    unfold Lx.idx at ih ⊢
    rw [List.cons_append, List.takeWhile_cons, if_pos ha, List.length_cons, ih, List.length_cons]
theorem lex_quote {q : UInt8} (hq : q = 34 ∨ q = 39) {s : List UInt8} (h : s.contains q = false) : Lx.lex (q :: (s ++ [q])) = some [(2, s)] := by
  have hb : Lx.blank q = false := by rcases hq with rfl | rfl <;> decide
  have ht : Lx.token q (s ++ [q]) = some ((2, s), s.length + 1) := by
    unfold Lx.token
    rw [if_neg (by rcases hq with rfl | rfl <;> decide), if_neg (by rcases hq with rfl | rfl <;> decide), if_neg (by rcases hq with rfl | rfl <;> decide), if_pos hq, idx_here q s h, if_pos (by simp), List.take_left']
    rfl
  rw [Lx.lex_tok hb ht]
  have : (s ++ [q]).drop (s.length + 1) = [] := List.drop_eq_nil_of_le (by simp)
  rw [this, Lx.lex_nil]
  rfl
theorem str_word {s : List UInt8} (h : (s.contains 34 && s.contains 39) = false) : Lx.lex (quoted s) = some [(2, s)] := by
  unfold quoted
  cases h1 : s.contains 34
  · rw [if_neg (by decide)]; exact lex_quote (.inl rfl) h1
  · rw [h1, Bool.true_and] at h
    rw [if_pos rfl]; exact lex_quote (.inr rfl) h
/-! ## a node's text, in tokens -/
theorem lex_open (m : List UInt8) : Lx.lex (40 :: m) = (Lx.lex m).map ([(3, [])] ++ ·) := Lx.lex_tok (by decide) (t := (3, [])) (n := 0) (by unfold Lx.token; rfl)
theorem lex_close (m : List UInt8) : Lx.lex (41 :: m) = (Lx.lex m).map ([(4, [])] ++ ·) := Lx.lex_tok (by decide) (t := (4, [])) (n := 0) (by unfold Lx.token; rfl)
theorem lex_comma (m : List UInt8) : Lx.lex (44 :: m) = (Lx.lex m).map ([(5, [])] ++ ·) := Lx.lex_tok (by decide) (t := (5, [])) (n := 0) (by unfold Lx.token; rfl)
theorem rest_stop : ∀ ks : List Nd, ∃ c m, txts false ks ++ [41] = c :: m ∧ Lx.stop c = true
  | [] => ⟨41, [], by rw [txts]; rfl, by decide⟩
  | x :: r => ⟨44, txt x ++ txts false r ++ [41], by rw [txts]; simp, by decide⟩
theorem lex_txts : ∀ (ks : List Nd) (b : Bool), (∀ x ∈ ks, Lx.lex (txt x) = some (toks x)) → Lx.lex (txts b ks ++ [41]) = some (tokss b ks ++ [(4, [])])
  | [], b, _ => by rw [txts, tokss]; exact (lex_close []).trans rfl
  | x :: r, b, h => by
    have ih := lex_txts r false fun y hy => h y (List.mem_cons_of_mem _ hy)
    obtain ⟨c, m, e, hc⟩ := rest_stop r
    have h1 : Lx.lex (txt x ++ (txts false r ++ [41])) = some (toks x ++ (tokss false r ++ [(4, [])])) := by
      rw [e, Lx.lex_app hc m _ _ _ (Nat.le_refl _) (h x (by simp)), ← e, ih]; rfl
    rw [txts, tokss]
    cases b
    · rw [if_neg (by decide), if_neg (by decide)]
      have e2 : [44] ++ (txt x ++ txts false r) ++ [41] = 44 :: (txt x ++ (txts false r ++ [41])) := by simp
      rw [e2, lex_comma, h1]; simp
    · rw [if_pos rfl, if_pos rfl]
      have e2 : [] ++ (txt x ++ txts false r) ++ [41] = txt x ++ (txts false r ++ [41]) := by simp
      rw [e2, h1]; simp
theorem lex_true : Lx.lex trueT = some [(1, trueT)] := by decide +kernel
theorem lex_false : Lx.lex falseT = some [(1, falseT)] := by decide +kernel
end Te
end Go.Proofs.YtojmcndiooiehaaGreatDoor
