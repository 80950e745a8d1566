/-
  GlWrite: CONTRACTS: chapter 9: the program's two functions that write one text of all that come out.
-/
import Derived.Test.YtfmbbhcjnidcbaaGreatDoorJ30
import Derived.Test.YtfmbbhcjnidcbaaGreatDoorJ25
import Derived.Shelf.Strings.BuilderK

namespace Go.Proofs.YtfmbbhcjnidcbaaGreatDoor
open Go.RowKit
open Me

namespace Gl
theorem comb_get (A B : List (List UInt8)) (i : Nat) (hi : i < A.length * B.length) (h : i < (comb A B).length) (h1 : i / B.length < A.length) (h2 : i % B.length < B.length) : (comb A B)[i] = A[i / B.length] ++ B[i % B.length] := by
  induction A generalizing i with
  | nil => simp at hi
  | cons a A ih =>
    have e : comb (a :: A) B = B.map (fun b => a ++ b) ++ comb A B := rfl
    by_cases hlt : i < B.length
    · have e1 : i / B.length = 0 := Nat.div_eq_of_lt hlt
      have e2 : i % B.length = i := Nat.mod_eq_of_lt hlt
      have g : (comb (a :: A) B)[i]? = some (a ++ B[i]) := by
        rw [e, List.getElem?_append_left (by rw [List.length_map]; exact hlt), List.getElem?_map, List.getElem?_eq_getElem hlt]; rfl
      rw [List.getElem?_eq_getElem h] at g
      have g := Option.some.inj g
      rw [g]
      have e3 : (a :: A)[i / B.length] = a := by simp only [e1]; rfl
      have e4 : B[i % B.length] = B[i] := by simp only [e2]
      rw [e3, e4]
    · have hB : 0 < B.length := by omega
      have hi2 : i - B.length < A.length * B.length := by rw [List.length_cons, Nat.succ_mul] at hi; omega
      have e1 : i / B.length = (i - B.length) / B.length + 1 := by
        conv => lhs; rw [show i = (i - B.length) + B.length by omega]
        exact Nat.add_div_right _ hB
      have e2 : i % B.length = (i - B.length) % B.length := by
        conv => lhs; rw [show i = (i - B.length) + B.length by omega]
        exact Nat.add_mod_right _ _
      have h' : i - B.length < (comb A B).length := by rw [comb_len]; exact hi2
      have h1' : (i - B.length) / B.length < A.length := by rw [e1, List.length_cons] at h1; omega
      have h2' : (i - B.length) % B.length < B.length := Nat.mod_lt _ hB
      have := ih (i - B.length) hi2 h' h1' h2'
      have g : (comb (a :: A) B)[i]? = some ((comb A B)[i - B.length]) := by
        rw [e, List.getElem?_append_right (by rw [List.length_map]; omega), List.length_map, List.getElem?_eq_getElem h']
      rw [List.getElem?_eq_getElem h] at g
      have g := Option.some.inj g
      rw [g, this]
      have e3 : (a :: A)[i / B.length] = A[(i - B.length) / B.length] := by simp only [e1]; rfl
      have e4 : B[i % B.length] = B[(i - B.length) % B.length] := by simp only [e2]
      rw [e3, e4]
/-- The texts that come out of the pieces from place j on. -/
def rest (pcs : List Pi) (j : Nat) : List (List UInt8) := prod ((pcs.drop j).map Pi.M)
theorem rest_step (pcs : List Pi) (j : Nat) (h : j < pcs.length) : rest pcs j = comb pcs[j].M (rest pcs (j + 1)) := by
  unfold rest
  rw [List.drop_eq_getElem_cons h]; rfl
theorem rest_end (pcs : List Pi) : rest pcs pcs.length = [[]] := by unfold rest; rw [List.drop_length]; rfl
def restR (rows : List Ro) (j : Nat) : List (List UInt8) := ((rows.drop j).map Ro.L).flatten
theorem restR_step (rows : List Ro) (j : Nat) (h : j < rows.length) : restR rows j = rows[j].L ++ restR rows (j + 1) := by
  unfold restR
  rw [List.drop_eq_getElem_cons h]; rfl
theorem restR_end (rows : List Ro) : restR rows rows.length = [] := by unfold restR; rw [List.drop_length]; rfl
end Gl

/-! ## a Builder, and what it keeps -/
def BldK (base : Nat) (b : Nat) (l : List UInt8) (w : World) : Prop := Lib.IsBuilderF 107 5 base b (Lib.byteCells l) w
def Oth (b : Nat) (w w' : World) : Prop := Lib.OthersKept 5 (some b) w w'
theorem BldK.of {base b : Nat} {l : List UInt8} {w : World} (h : Bld base b l w) : BldK base b l w := Lib.IsBuilderF.of h
theorem Oth.row {b : Nat} {w w' : World} (h : Oth b w w') {g : Nat} {t : TypeId} {cs : Array Value} (hr : RowAt w g t cs) (hg : g ≠ b) (ht : t ≠ 5) : RowAt w' g t cs :=
  h g _ hr (fun e => hg (Option.some.inj e)) fun c fz e => ht (by injection e)
theorem Oth.refl (b : Nat) (w : World) : Oth b w w := Lib.OthersKept.refl _ _ _
theorem Oth.trans {b : Nat} {u v w : World} (h : Oth b u v) (k : Oth b v w) : Oth b u w := Lib.OthersKept.trans h k
theorem Oth.alloc {b : Nat} {u w : World} (h : Oth b u w) (o : Obj) : Oth b u (w.alloc o) := Lib.OthersKept.alloc h o
theorem Oth.of_below {b : Nat} {u w : World} (h : Below u.heap.size u w) : Oth b u w := fun k _ hk _ _ => (h.block k (Array.getElem?_eq_some_iff.1 hk).1).trans hk
theorem Oth.drew {b : Nat} {u w : World} (h : Oth b u w) : Oth b u w.drew := h
theorem BldK.below {base b : Nat} {l : List UInt8} {w w' : World} (h : BldK base b l w) (hb : Below w.heap.size w w') : BldK base b l w' := by
  have key : ∀ p, Lib.BuilderAtF 107 5 base b p (Lib.byteCells l) w → Lib.BuilderAtF 107 5 base b p (Lib.byteCells l) w' := fun p hp => by
    obtain ⟨h1, v, h2, h3, h4⟩ := hp
    have hlt : b < w.heap.size := (Array.getElem?_eq_some_iff.1 h2).1
    refine ⟨h1, v, (hb.block b hlt).trans h2, ?_, h4⟩
    refine ⟨h3.1, ?_⟩
    rcases h3.2 with hn | hs
    · exact .inl hn
    · right
      obtain ⟨g, cap, cur, fz, rfl, hs1, hs2, hs3⟩ := hs
      exact ⟨g, cap, cur, fz, rfl, hs1, (hb.block g (Array.getElem?_eq_some_iff.1 hs2).1).trans hs2, hs3⟩
  rcases h with h | h
  · exact .inl (key _ h)
  · exact .inr (key _ h)
theorem BldK.lt {base b : Nat} {l : List UInt8} {w : World} (h : BldK base b l w) : base ≤ b ∧ b < w.heap.size := by
  rcases h with ⟨h1, v, h2, _⟩ | ⟨h1, v, h2, _⟩
  · exact ⟨h1, (Array.getElem?_eq_some_iff.1 h2).1⟩
  · exact ⟨h1, (Array.getElem?_eq_some_iff.1 h2).1⟩
theorem write_k {base b : Nat} {l : List UInt8} {w : World} (h : BldK base b l w) (s : List UInt8) (hl : l.length + s.length ≤ 140737488355328) (hB : base ≤ w.heap.size) :
    Calls Tryz.prog 71 #[.pointer (some ⟨b, 0, none⟩), .string ⟨s.toArray⟩] w fun e w' => e = .returned (.tuple #[.int .i64 s.length, .nilIface]) ∧ BldK base b (l ++ s) w' ∧ Below base w w' ∧ Oth b w w' := by
  refine (Any.Builder_WriteString_k (ρ := Tryz.lays155_ren) { Tryz.lays155 with } Tryz.Builder_Extra_155 base b _ ⟨s.toArray⟩ w h (by rw [Lib.byteCells_length]; show l.length + s.toArray.size ≤ _; simpa using hl) hB).mono ?_
  rintro e w' ⟨rfl, h1, h2, h3⟩
  refine ⟨?_, .inr ?_, h2, h3⟩
  · show Ending.returned (.tuple #[.int .i64 ((s.toArray.size : Nat) : Int), .nilIface]) = _
    rw [List.size_toArray]
  · rw [Lib.byteCells_append]; exact h1
theorem string_k {base b : Nat} {l : List UInt8} {w : World} (h : BldK base b l w) (hB : base ≤ w.heap.size) :
    Calls Tryz.prog 64 #[.pointer (some ⟨b, 0, none⟩)] w fun e w' => e = .returned (.string ⟨l.toArray⟩) ∧ Below base w w' ∧ Oth b w w' := by
  refine (Any.Builder_String_any_k Tryz.lays169 Tryz.Builder_Extra_169 base b l w h hB).mono ?_
  rintro e w' ⟨rfl, _, h2, h3⟩
  exact ⟨rfl, h2, h3⟩

/-- Writing one text of a row so deep; of a piece. -/
def RowW (d : Nat) : Prop := ∀ (base bb : Nat) (l : List UInt8) (w : World) (A : Option Addr) (m c k : Nat) (L : List (List UInt8)) (i : Nat) (x : List UInt8), L[i]? = some x → Gl.RowM w (fun b => b < base) d ⟨.slice A m c, k, L⟩ → BldK base bb l w → base ≤ w.heap.size → L.length ≤ 512 → l.length + x.length ≤ 140737488355328 →
  Calls Tryz.prog 63 #[.agg #[.slice A m c, .int .i64 k], .pointer (some ⟨bb, 0, none⟩), .int .i64 i] w fun e w' => e = .returned (.tuple #[]) ∧ BldK base bb (l ++ x) w' ∧ Below base w w' ∧ Oth bb w w'
def PieceW (d : Nat) : Prop := ∀ (base bb : Nat) (l : List UInt8) (w : World) (b : List UInt8) (A : Option Addr) (m c k : Nat) (M : List (List UInt8)) (i : Nat) (x : List UInt8), M[i]? = some x → Gl.PieceM w (fun b => b < base) d ⟨b, .slice A m c, k, M⟩ → BldK base bb l w → base ≤ w.heap.size → M.length ≤ 512 → l.length + x.length ≤ 140737488355328 →
  Calls Tryz.prog 88 #[.agg #[.string ⟨b.toArray⟩, .slice A m c, .int .i64 k], .pointer (some ⟨bb, 0, none⟩), .int .i64 i] w fun e w' => e = .returned (.tuple #[]) ∧ BldK base bb (l ++ x) w' ∧ Below base w w' ∧ Oth bb w w'

theorem rd_below {base : Nat} {w w' : World} (hb : Below base w w') (A : Option Addr) (xs : List Value) (h : Rd w (fun b => b < base) A xs) : Rd w' (fun b => b < base) A xs :=
  h.keep hb.size fun i _ hi => hb.block i hi

namespace Gl
theorem RowM.form {w : World} {G : Nat → Prop} {n : Nat} {r : Ro} (h : RowM w G n r) : ∃ A m c, r.ps = .slice A m c := by
  cases n with
  | zero => exact h.elim
  | succ n =>
    obtain ⟨_, _, pcs, A, c, h2, _⟩ := h
    exact ⟨A, pcs.length, c, h2⟩
theorem len_of_mem {rows : List Ro} {r : Ro} (h : r ∈ rows) : r.L.length ≤ ((rows.map Ro.L).flatten).length := by
  induction rows with
  | nil => cases h
  | cons q rows ih =>
    show _ ≤ (q.L ++ (rows.map Ro.L).flatten).length
    rw [List.length_append]
    rcases List.mem_cons.1 h with rfl | h
    · omega
    · have := ih h; omega
end Gl

set_option maxRecDepth 100000 in
set_option maxHeartbeats 4000000 in
theorem pieceW_of (d : Nat) (hR : RowW d) : PieceW d := by
  intro base bb l w b A m c k M i x hx hpm hbl hbase hM512 hlen
  have HR := Lib.hid hR
  obtain ⟨hk, hpos, hcase⟩ := hpm
  have hbb := hbl.lt
  have HBx : Hid (∀ o : Obj, BldK base bb l (w.alloc o)) := Lib.hid fun o => hbl.below ((Below.refl _ _).alloc (Nat.le_refl _) _)
  clear hR
  rcases hcase with ⟨hrs, hM⟩ | ⟨rows, A', c', hb, hrs, hrd, hrl, hM, hall⟩
  · have hrs : Value.slice A m c = .slice none 0 0 := hrs
    simp only [Value.slice.injEq] at hrs
    obtain ⟨rfl, rfl, rfl⟩ := hrs
    have hM : M = [b] := hM
    have hxb : x = b := by
      rw [hM] at hx
      cases i with
      | zero => exact (Option.some.inj hx).symm
      | succ i => simp at hx
    subst hxb
    clear hM hx hk hpos hM512 hbl
    go_enter Tryz.func88, Tryz.ntmps88
    go_wp2_with (go_at_call 71; go_must (refine (write_k (HBx.out _) x hlen (by simp; omega)).mono ?_; rintro e w1 ⟨rfl, hb1, hbb1, ho1⟩; have hB1 : Below base w w1 := (((Below.refl w.heap.size w).alloc (Nat.le_refl _) _).mono hbase).trans hbb1; have hO1 : Oth bb w w1 := ((Oth.refl bb w).alloc _).trans ho1; have hRW := ho1.row (RowAt.new w #[.string ⟨x.toArray⟩, .slice none 0 0, .int .i64 k] 130) (by omega) (by decide); have c1 : w1.cell? ⟨w.heap.size, 1, none⟩ = some (.slice none 0 0) := (hRW.cell 1).trans rfl; have HB1 := Lib.hid hB1; have HO1 := Lib.hid hO1; have HBL := Lib.hid hb1; clear hB1 hO1 hb1 hbb1 ho1 hRW))
    go_loopw [15] (fun y wr => y = .int .i64 0 ∧ wr = w1) (fun _ _ => 0)
    case atStart => exact ⟨rfl, rfl⟩
    case round =>
      obtain ⟨rfl, rfl⟩ := hrel
      go_wp2_with fail
      ((try simp only [Exit.inBlock, Exit.then]); first | (refine bodyPost_ret (results_none rfl _ _ _) rfl ?_) | (refine bodyPost_end (results_none rfl _ _ _) rfl ?_))
      exact ⟨rfl, HBL.out, HB1.out, HO1.out⟩
  · have hb0 : b = [] := hb
    subst hb0
    have hrs : Value.slice A m c = .slice A' rows.length c' := hrs
    simp only [Value.slice.injEq] at hrs
    obtain ⟨rfl, rfl, rfl⟩ := hrs
    have hM : M = (rows.map Gl.Ro.L).flatten := hM
    have HX0 : Hid ((Gl.restR rows 0)[i]? = some x) := Lib.hid (by rw [← hx, hM]; rfl)
    have HLm : Hid (∀ j (h : j < rows.length), rows[j].L.length ≤ 512) := Lib.hid fun j h => by
      have := Gl.len_of_mem (List.getElem_mem h)
      rw [← hM] at this; omega
    have HAll := Lib.hid hall
    have HRd := Lib.hid hrd
    have hi9 : (i : Int) ≤ 512 := by
      have := (List.getElem?_eq_some_iff.1 hx).1; omega
    have hrl9 : (rows.length : Int) ≤ 4294967296 := by omega
    clear hM hx hk hpos hM512 hbl hall hrd hrl
    go_enter Tryz.func88, Tryz.ntmps88
    go_wp2_with (go_at_call 71; go_must (refine (write_k (HBx.out _) [] (by simp; omega) (by simp; omega)).mono ?_; rintro e w1 ⟨rfl, hb1, hbb1, ho1⟩; have hB1 : Below base w w1 := (((Below.refl w.heap.size w).alloc (Nat.le_refl _) _).mono hbase).trans hbb1; have hO1 : Oth bb w w1 := ((Oth.refl bb w).alloc _).trans ho1; have hRW := ho1.row (RowAt.new w #[.string ⟨#[]⟩, .slice A rows.length c, .int .i64 k] 130) (by omega) (by decide); have c1 : w1.cell? ⟨w.heap.size, 1, none⟩ = some (.slice A rows.length c) := (hRW.cell 1).trans rfl; rw [List.append_nil] at hb1; have HB1 := Lib.hid hB1; have HO1 := Lib.hid hO1; have HBL := Lib.hid hb1; clear hB1 hO1 hb1 hbb1 ho1 hRW))
    go_loopw [2, 15] (fun y2 y wr => ∃ (j ij : Nat), y = .int .i64 j ∧ y2 = .int .i64 ij ∧ j ≤ rows.length ∧ ij ≤ 512 ∧ Hid ((Gl.restR rows j)[ij]? = some x) ∧ Hid (BldK base bb l wr) ∧ Hid (Below base w wr) ∧ Hid (Oth bb w wr)) (fun _ y _ => rows.length - (intOf y).toNat)
    case atStart => exact ⟨0, i, rfl, rfl, Nat.zero_le _, by omega, HX0, HBL, HB1, HO1⟩
    case round =>
      obtain ⟨j, ij, rfl, rfl, hj, hij, HX, HBr, HBw, HOw⟩ := hrel
      have hjr : j < rows.length := by
        rcases Nat.lt_or_ge j rows.length with h | h
        · exact h
        · obtain rfl : j = rows.length := by omega
          have := HX.out
          rw [Gl.restR_end] at this
          simp at this
      have hjr' : (j : Int) < (rows.length : Int) := by omega
      have hj0 : (0 : Int) ≤ (j : Int) := by omega
      obtain ⟨rb, ro, rfl, hrb, hrg, hrc⟩ := (rd_below HBw.out _ _ HRd.out).lit (j * 2) (by rw [Gl.cellsR_len]; omega)
      have e0 := hrc _ _ (Gl.cellsR_get rows j hjr).1
      have e1 := hrc _ _ (Gl.cellsR_get rows j hjr).2
      rw [← Nat.add_assoc] at e1
      have hrm := HAll.out rows[j] (List.getElem_mem hjr)
      have hlm := HLm.out j hjr
      have hst := HX.out
      rw [Gl.restR_step rows j hjr] at hst
      have hrm2 : Gl.RowM wr (fun b => b < base) d rows[j] := hrm.more (fun A xs h => rd_below HBw.out A xs h) (Nat.le_refl _)
      have hkl := hrm2.lim.1
      clear hrc hrm
      generalize rows[j] = r at *
      obtain ⟨ps, kr, Lr⟩ := r
      obtain ⟨A2, m2, c2, hps⟩ := hrm2.form
      have hps : ps = .slice A2 m2 c2 := hps
      subst hps
      have hkl : kr = Lr.length := by
        have hkl : kr = Gl.lim Lr.length := hkl
        rw [hkl, Gl.lim_id hlm]
      have hlm : Lr.length ≤ 512 := hlm
      have e0 : wr.cell? ⟨rb, ro + j * 2, none⟩ = some (.slice A2 m2 c2) := e0
      have e1 : wr.cell? ⟨rb, ro + j * 2 + 1, none⟩ = some (.int .i64 (kr : Int)) := e1
      have hbr := HBr.out.lt
      have hws := HBw.out.size
      have HAl : Hid (∀ o : Obj, BldK base bb l (wr.alloc o) ∧ Gl.RowM (wr.alloc o) (fun b => b < base) d ⟨.slice A2 m2 c2, kr, Lr⟩) := Lib.hid fun o =>
        ⟨HBr.out.below ((Below.refl _ _).alloc (Nat.le_refl _) _), hrm2.more (fun A xs h => rd_below (((Below.refl wr.heap.size wr).alloc (Nat.le_refl _) _).mono (Nat.le_trans hbase hws)) A xs h) (Nat.le_refl _)⟩
      by_cases hlt : ij < kr
      · have hlt' : (ij : Int) < (kr : Int) := by omega
        have hxe : Lr[ij]? = some x := by
          rw [List.getElem?_append_left (by show ij < Lr.length; omega)] at hst
          exact hst
        have HC := Lib.hid fun o => HR.out base bb l (wr.alloc o) A2 m2 c2 kr Lr ij x hxe (HAl.out o).2 (HAl.out o).1 (by simp; omega) hlm hlen
        clear hst hxe hkl hrm2
        go_wp2_with (go_at_call 63; go_must (refine (HC.out _).mono ?_; rintro e w3 ⟨rfl, hb3, hbb3, ho3⟩))
        ((try simp only [Exit.inBlock, Exit.then]); first | (refine bodyPost_ret (results_none rfl _ _ _) rfl ?_) | (refine bodyPost_end (results_none rfl _ _ _) rfl ?_))
        exact ⟨rfl, hb3, HBw.out.trans ((((Below.refl wr.heap.size wr).alloc (Nat.le_refl _) _).mono (Nat.le_trans hbase hws)).trans hbb3), HOw.out.trans (((Oth.refl bb wr).alloc _).trans ho3)⟩
      · have hlt' : ¬ (ij : Int) < (kr : Int) := by omega
        have hxe : Hid ((Gl.restR rows (j + 1))[ij - kr]? = some x) := Lib.hid (by
          rw [List.getElem?_append_right (by show Lr.length ≤ ij; omega)] at hst
          rw [hkl]; exact hst)
        have hsub : IntKind.i64.wrap ((ij : Int) - (kr : Int)) = ((ij - kr : Nat) : Int) := (IntWalk.i64_in _ (by omega)).trans (by omega)
        have HAl2 := Lib.hid fun o => (HAl.out o).1
        clear hst hkl hrm2 HAl
        go_wp2_with fail
        go_roundw
        case rel => exact ⟨j + 1, ij - kr, by go_num, by go_num, by omega, by omega, hxe, Lib.hid (HAl2.out _), Lib.hid (HBw.out.trans (((Below.refl wr.heap.size wr).alloc (Nat.le_refl _) _).mono (Nat.le_trans hbase hws))), Lib.hid (HOw.out.alloc _)⟩
        case measure => simp [intOf]; omega

namespace Gl
theorem wrap_small (q : Nat) (h : q ≤ 512) : IntKind.i64.wrap (q : Int) = (q : Int) := IntWalk.i64_in _ (by omega)
theorem wrap64_small (q : Nat) (h : q ≤ 512) : wrap64 (q : Int) = (q : Int) := IntWalk.wrap64_in _ (by omega)
theorem comb_some {A B : List (List UInt8)} {i : Nat} {x : List UInt8} (h : (comb A B)[i]? = some x) : ∃ y z, A[i / B.length]? = some y ∧ B[i % B.length]? = some z ∧ x = y ++ z ∧ i / B.length < A.length ∧ i % B.length < B.length := by
  obtain ⟨hi, hx⟩ := List.getElem?_eq_some_iff.1 h
  have hi2 : i < A.length * B.length := by rw [comb_len] at hi; exact hi
  have hB : 0 < B.length := by
    rcases Nat.eq_zero_or_pos B.length with h0 | h0
    · rw [h0, Nat.mul_zero] at hi2; omega
    · exact h0
  have h1 : i / B.length < A.length := (Nat.div_lt_iff_lt_mul hB).2 hi2
  have h2 : i % B.length < B.length := Nat.mod_lt _ hB
  refine ⟨A[i / B.length], B[i % B.length], List.getElem?_eq_getElem h1, List.getElem?_eq_getElem h2, ?_, h1, h2⟩
  rw [← hx]
  exact comb_get A B i hi2 hi h1 h2
end Gl

set_option maxRecDepth 100000 in
set_option maxHeartbeats 4000000 in
theorem rowW_of (d : Nat) (hP : PieceW d) : RowW (d + 1) := by
  intro base bb l w A m c k L i x hx hrm hbl hbase hL512 hlen
  have HP := Lib.hid hP
  obtain ⟨hk, hpos, pcs, A', c', hps, hrd, hpl, hL, hall⟩ := hrm
  have hps : Value.slice A m c = .slice A' pcs.length c' := hps
  simp only [Value.slice.injEq] at hps
  obtain ⟨rfl, rfl, rfl⟩ := hps
  have hL : L = Gl.prod (pcs.map Gl.Pi.M) := hL
  have hbb := hbl.lt
  have hkl : k = L.length := by
    have hk : k = Gl.lim L.length := hk
    rw [hk, Gl.lim_id hL512]
  have hil := (List.getElem?_eq_some_iff.1 hx).1
  have hr0 : Gl.rest pcs 0 = L := by rw [hL]; rfl
  have HX0 : Hid (∃ dn z, (Gl.rest pcs 0)[i]? = some z ∧ x = dn ++ z ∧ BldK base bb (l ++ dn) (w.alloc (.cells #[.slice A pcs.length c, .int .i64 k] 101))) := Lib.hid ⟨[], x, by rw [hr0]; exact hx, rfl, by rw [List.append_nil]; exact hbl.below ((Below.refl _ _).alloc (Nat.le_refl _) _)⟩
  have HK0 : Hid (k = (Gl.rest pcs 0).length) := Lib.hid (by rw [hr0]; exact hkl)
  have HB0 : Hid (Below base w (w.alloc (.cells #[.slice A pcs.length c, .int .i64 k] 101))) := Lib.hid (((Below.refl _ _).alloc (Nat.le_refl _) _).mono hbase)
  have HO0 : Hid (Oth bb w (w.alloc (.cells #[.slice A pcs.length c, .int .i64 k] 101))) := Lib.hid ((Oth.refl bb w).alloc _)
  have HAll := Lib.hid hall
  have HRd := Lib.hid hrd
  have hk9 : k ≤ 512 := by omega
  have hik : i < k := by omega
  have hpl9 : (pcs.length : Int) ≤ 8589934592 := by omega
  clear hL hr0 hx hk hpos hall hrd hpl hkl hil hbl
  go_enter Tryz.func63, Tryz.ntmps63
  go_wp2_with fail
  generalize hw0 : w.alloc (.cells #[.slice A pcs.length c, .int .i64 k] 101) = ws at *
  clear hw0
  go_loopw [2, 6, 14] (fun y2 y6 y wr => ∃ (j ij ej : Nat), y = .int .i64 j ∧ y2 = .int .i64 ij ∧ y6 = .int .i64 ej ∧ j ≤ pcs.length ∧ ij < ej ∧ ej ≤ 512 ∧ Hid (ej = (Gl.rest pcs j).length) ∧ Hid (∃ dn z, (Gl.rest pcs j)[ij]? = some z ∧ x = dn ++ z ∧ BldK base bb (l ++ dn) wr) ∧ Hid (Below base w wr) ∧ Hid (Oth bb w wr)) (fun _ _ y _ => pcs.length - (intOf y).toNat)
  case atStart => exact ⟨0, i, k, rfl, rfl, rfl, Nat.zero_le _, hik, hk9, HK0, HX0, HB0, HO0⟩
  case round =>
    obtain ⟨j, ij, ej, rfl, rfl, rfl, hj, hie, he9, HE, HX, HBw, HOw⟩ := hrel
    have hws := HBw.out.size
    by_cases hjr : j < pcs.length
    · have hjr' : (j : Int) < (pcs.length : Int) := by omega
      have hj0 : (0 : Int) ≤ (j : Int) := by omega
      obtain ⟨rb, ro, rfl, hrb, hrg, hrc⟩ := (rd_below HBw.out _ _ HRd.out).lit (j * 3) (by rw [Gl.cellsP_len]; omega)
      have e0 := hrc _ _ (Gl.cellsP_get pcs j hjr).1
      have e1 := hrc _ _ (Gl.cellsP_get pcs j hjr).2.1
      have e2 := hrc _ _ (Gl.cellsP_get pcs j hjr).2.2
      rw [← Nat.add_assoc] at e1 e2
      have hpm := HAll.out pcs[j] (List.getElem_mem hjr)
      have hst := HX.out
      have hel := HE.out
      rw [Gl.rest_step pcs j hjr] at hst hel
      rw [Gl.comb_len] at hel
      have hpm2 : Gl.PieceM wr (fun b => b < base) d pcs[j] := Gl.PieceM.more (fun A xs h => rd_below HBw.out A xs h) (Nat.le_refl _) hpm
      have hkp := hpm2.1
      have hmp := hpm2.2.1
      clear hrc hpm
      generalize pcs[j] = p at *
      obtain ⟨pb, prs, kp, Mp⟩ := p
      obtain ⟨A2, m2, c2, hprs⟩ : ∃ A m c, prs = .slice A m c := by
        rcases hpm2.2.2 with ⟨h1, _⟩ | ⟨rows, A, c, _, h1, _⟩
        · exact ⟨none, 0, 0, h1⟩
        · exact ⟨A, rows.length, c, h1⟩
      subst hprs
      replace hmp : 0 < Mp.length := hmp
      replace hel : ej = Mp.length * (Gl.rest pcs (j + 1)).length := hel
      obtain ⟨dn, z, hz, hxz, hbz⟩ := hst
      obtain ⟨y, z', hy, hz', hzz, hq1, hq2⟩ := Gl.comb_some hz
      obtain ⟨e', he'⟩ : ∃ e', e' = (Gl.rest pcs (j + 1)).length := ⟨_, rfl⟩
      rw [← he'] at hel hy hz' hq1 hq2
      have he1 : 0 < e' := by
        rcases Nat.eq_zero_or_pos e' with h | h
        · omega
        · exact h
      have hM512 : Mp.length ≤ 512 := by
        have := Nat.le_mul_of_pos_right Mp.length he1
        omega
      replace hkp : kp = Mp.length := by
        replace hkp : kp = Gl.lim Mp.length := hkp
        rw [hkp, Gl.lim_id hM512]
      have hkp0 : 0 < kp := by omega
      have hee : ej / kp = e' := by rw [hkp, hel]; exact Nat.mul_div_cancel_left _ hmp
      have he'9 : e' ≤ 512 := by
        have := Nat.le_mul_of_pos_left e' hmp
        omega
      have hz0 : ((kp : Int) == 0) = false := by simp; omega
      have hz1 : ((e' : Int) == 0) = false := by simp; omega
      have hd1 : Int.tdiv (ej : Int) (kp : Int) = (e' : Int) := by rw [← hee]; exact (Int.ofNat_tdiv ej kp).symm
      have hd2 : (ej : Int) / (kp : Int) = (e' : Int) := by rw [← hee]; exact (Int.natCast_ediv ej kp).symm
      obtain ⟨q, hq⟩ : ∃ q, q = ij / e' := ⟨_, rfl⟩
      obtain ⟨r, hr⟩ : ∃ r, r = ij % e' := ⟨_, rfl⟩
      have hd3 : Int.tdiv (ij : Int) (e' : Int) = (q : Int) := by rw [hq]; exact (Int.ofNat_tdiv ij e').symm
      have hd4 : (ij : Int) / (e' : Int) = (q : Int) := by rw [hq]; exact (Int.natCast_ediv ij e').symm
      have hd5 : Int.tmod (ij : Int) (e' : Int) = (r : Int) := by rw [hr]; exact (Int.ofNat_tmod ij e').symm
      have hd6 : (ij : Int) % (e' : Int) = (r : Int) := by rw [hr]; exact (Int.natCast_emod ij e').symm
      have hq29 : q ≤ 512 := by rw [hq]; exact Nat.le_trans (Nat.div_le_self _ _) (by omega)
      have hw3 : IntKind.i64.wrap (Int.tdiv (ij : Int) (e' : Int)) = (q : Int) := by rw [hd3]; exact Gl.wrap_small q hq29
      have hw4 : wrap64 (Int.tdiv (ij : Int) (e' : Int)) = (q : Int) := by rw [hd3]; exact Gl.wrap64_small q hq29
      have hwq : IntKind.i64.wrap (q : Int) = (q : Int) := Gl.wrap_small q hq29
      have hne3 : ¬ e' = 0 := Nat.ne_of_gt he1
      have hne4 : ¬ kp = 0 := Nat.ne_of_gt hkp0
      rw [← hq] at hy hq1
      rw [← hr] at hz' hq2
      have HBz := Lib.hid hbz
      have HPm := Lib.hid hpm2
      have hylen : (l ++ dn).length + y.length ≤ 140737488355328 := by
        rw [hxz, hzz] at hlen
        rw [List.length_append] at hlen ⊢
        rw [List.length_append] at hlen
        omega
      have HW : Hid (∀ W : World, Below wr.heap.size wr W → Calls Tryz.prog 88 #[.agg #[.string ⟨pb.toArray⟩, .slice A2 m2 c2, .int .i64 kp], .pointer (some ⟨bb, 0, none⟩), .int .i64 q] W fun e w' => e = .returned (.tuple #[]) ∧ BldK base bb (l ++ dn ++ y) w' ∧ Below base W w' ∧ Oth bb W w') := Lib.hid fun W hb =>
        HP.out base bb (l ++ dn) W pb A2 m2 c2 kp Mp q y hy (Gl.PieceM.more (fun A xs h => rd_below (hb.mono (Nat.le_trans hbase hws)) A xs h) (Nat.le_refl _) HPm.out) (HBz.out.below hb) (Nat.le_trans (Nat.le_trans hbase hws) hb.size) hM512 hylen
      have HXn : Hid (∀ W, BldK base bb (l ++ dn ++ y) W → ∃ dn' z, (Gl.rest pcs (j + 1))[r]? = some z ∧ x = dn' ++ z ∧ BldK base bb (l ++ dn') W) := Lib.hid fun W h => ⟨dn ++ y, z', hz', by rw [hxz, hzz, List.append_assoc], by rw [← List.append_assoc]; exact h⟩
      have HEn := Lib.hid he'
      have hq29' : r < e' := hq2
      replace e0 : wr.cell? ⟨rb, ro + j * 3, none⟩ = some (.string ⟨pb.toArray⟩) := e0
      replace e1 : wr.cell? ⟨rb, ro + j * 3 + 1, none⟩ = some (.slice A2 m2 c2) := e1
      replace e2 : wr.cell? ⟨rb, ro + j * 3 + 2, none⟩ = some (.int .i64 (kp : Int)) := e2
      have hbbr := hbz.lt
      clear hz hxz hbz hy hz' hzz hq1 hq2 hel he' hee hkp hpm2 hmp hq hr HX HE
      go_wp2_with fail
      have hbx : RowAt (wr.alloc (.cells #[.string ⟨pb.toArray⟩, .slice A2 m2 c2, .int .i64 (kp : Int)] 130)) wr.heap.size 130 #[.string ⟨pb.toArray⟩, .slice A2 m2 c2, .int .i64 (kp : Int)] := RowAt.new _ _ _
      have hbw : Below wr.heap.size wr (wr.alloc (.cells #[.string ⟨pb.toArray⟩, .slice A2 m2 c2, .int .i64 (kp : Int)] 130)) := (Below.refl _ _).alloc (Nat.le_refl _) _
      have HOx := Lib.hid ((Oth.refl bb wr).alloc (.cells #[.string ⟨pb.toArray⟩, .slice A2 m2 c2, .int .i64 (kp : Int)] 130))
      have HBx := Lib.hid hbw
      have HRx := Lib.hid hbx
      clear hbx hbw
      generalize wr.alloc (.cells #[.string ⟨pb.toArray⟩, .slice A2 m2 c2, .int .i64 (kp : Int)] 130) = wa at *
      have x0 : wa.cell? ⟨wr.heap.size, 0, none⟩ = some (.string ⟨pb.toArray⟩) := (HRx.out.cell 0).trans rfl
      have x1 : wa.cell? ⟨wr.heap.size, 1, none⟩ = some (.slice A2 m2 c2) := (HRx.out.cell 1).trans rfl
      have x2 : wa.cell? ⟨wr.heap.size, 2, none⟩ = some (.int .i64 (kp : Int)) := (HRx.out.cell 2).trans rfl
      -- INV
      have wal := HRx.out.lt
      refine Inv.region_tail 5 8 (fun W W' => Below W.heap.size W W') (fun i v W => match i with
        | 0 => v = .agg #[.string ⟨pb.toArray⟩, .slice A2 m2 c2, .int .i64 (kp : Int)]
        | 1 => v = .pointer (some ⟨bb, 0, none⟩)
        | 2 => v = .int .i64 (ij : Int)
        | 3 => v = .int .i64 (e' : Int)
        | 4 => v = .int .i64 (q : Int)
        | _ => True) (by kernel_rfl) (by kernel_rfl) (by kernel_rfl) (by kernel_rfl) (fun W => Below.refl _ _) (fun a b c h k => h.trans (k.mono h.size)) (fun i v W W' h he => ?stab) ?obls ?fin
      case stab =>
        match i, h with
        | 0, h => exact h
        | 1, h => exact h
        | 2, h => exact h
        | 3, h => exact h
        | 4, h => exact h
        | _ + 5, h => exact h
      case obls =>
        refine .cons ?_ (.cons ?_ (.cons ?_ (.cons ?_ (.cons ?_ .nil))))
        · intro ac wx hE hf hd
          have hB : Below wa.heap.size wa wx := ⟨hE.os, hE.tape, hE.output, hE.size, hE.block⟩
          rw [if_pos (Inv.want0 rfl _)]
          have h8 : ac.eval (.tmp 8) = .pointer (some ⟨wr.heap.size, 0, none⟩) := hf 8 (by kernel_rfl)
          clear hf hd
          have q0 := (hB.cell (p := ⟨wr.heap.size, 0, none⟩) wal).trans x0
          have q1 := (hB.cell (p := ⟨wr.heap.size, 1, none⟩) wal).trans x1
          have q2 := (hB.cell (p := ⟨wr.heap.size, 2, none⟩) wal).trans x2
          refine Inv.val (.agg #[.string ⟨pb.toArray⟩, .slice A2 m2 c2, .int .i64 (kp : Int)]) ?_ rfl rfl (Below.refl _ _)
          clear hE hB
          generalize ac.eval = ev at *
          simp [execOp, go_sem, *]
        · intro ac wx hE hf hd
          have hB : Below wa.heap.size wa wx := ⟨hE.os, hE.tape, hE.output, hE.size, hE.block⟩
          rw [if_pos (Inv.want0 rfl _)]
          have h1 : ac.eval (.tmp 1) = .pointer (some ⟨bb, 0, none⟩) := hf 1 (by kernel_rfl)
          clear hf hd
          have q0 := (hB.cell (p := ⟨wr.heap.size, 0, none⟩) wal).trans x0
          have q1 := (hB.cell (p := ⟨wr.heap.size, 1, none⟩) wal).trans x1
          have q2 := (hB.cell (p := ⟨wr.heap.size, 2, none⟩) wal).trans x2
          refine Inv.val (.pointer (some ⟨bb, 0, none⟩)) ?_ rfl rfl (Below.refl _ _)
          clear hE hB
          generalize ac.eval = ev at *
          simp [execOp, go_sem, *]
        · intro ac wx hE hf hd
          have hB : Below wa.heap.size wa wx := ⟨hE.os, hE.tape, hE.output, hE.size, hE.block⟩
          rw [if_pos (Inv.want0 rfl _)]
          have h2 : ac.eval (.tmp 2) = .int .i64 (ij : Int) := hf 2 (by kernel_rfl)
          clear hf hd
          have q0 := (hB.cell (p := ⟨wr.heap.size, 0, none⟩) wal).trans x0
          have q1 := (hB.cell (p := ⟨wr.heap.size, 1, none⟩) wal).trans x1
          have q2 := (hB.cell (p := ⟨wr.heap.size, 2, none⟩) wal).trans x2
          refine Inv.val (.int .i64 (ij : Int)) ?_ rfl rfl (Below.refl _ _)
          clear hE hB
          generalize ac.eval = ev at *
          simp [execOp, go_sem, *]
        · intro ac wx hE hf hd
          have hB : Below wa.heap.size wa wx := ⟨hE.os, hE.tape, hE.output, hE.size, hE.block⟩
          rw [if_pos (Inv.want0 rfl _)]
          have h6 : ac.eval (.tmp 6) = .int .i64 (e' : Int) := hf 6 (by kernel_rfl)
          clear hf hd
          have q0 := (hB.cell (p := ⟨wr.heap.size, 0, none⟩) wal).trans x0
          have q1 := (hB.cell (p := ⟨wr.heap.size, 1, none⟩) wal).trans x1
          have q2 := (hB.cell (p := ⟨wr.heap.size, 2, none⟩) wal).trans x2
          refine Inv.val (.int .i64 (e' : Int)) ?_ rfl rfl (Below.refl _ _)
          clear hE hB
          generalize ac.eval = ev at *
          simp [execOp, go_sem, *]
        · intro ac wx hE hf hd
          have hB : Below wa.heap.size wa wx := ⟨hE.os, hE.tape, hE.output, hE.size, hE.block⟩
          rw [if_pos (Inv.want0 rfl _)]
          have h24 := hd 2 _ (by kernel_rfl) rfl
          change ac.eval (.tmp 24) = .int .i64 (ij : Int) at h24
          have h25 := hd 3 _ (by kernel_rfl) rfl
          change ac.eval (.tmp 25) = .int .i64 (e' : Int) at h25
          clear hf hd
          have q0 := (hB.cell (p := ⟨wr.heap.size, 0, none⟩) wal).trans x0
          have q1 := (hB.cell (p := ⟨wr.heap.size, 1, none⟩) wal).trans x1
          have q2 := (hB.cell (p := ⟨wr.heap.size, 2, none⟩) wal).trans x2
          refine Inv.val (.int .i64 (q : Int)) ?_ rfl rfl (Below.refl _ _)
          clear hE hB
          generalize ac.eval = ev at *
          simp [execOp, go_sem, *]
      case fin =>
        intro ac wx hE ha hall
        have hB : Below wa.heap.size wa wx := ⟨hE.os, hE.tape, hE.output, hE.size, hE.block⟩
        have h22 := hall 0 _ (by decide) rfl
        change ac.eval (.tmp 22) = .agg #[.string ⟨pb.toArray⟩, .slice A2 m2 c2, .int .i64 (kp : Int)] at h22
        have h23 := hall 1 _ (by decide) rfl
        change ac.eval (.tmp 23) = .pointer (some ⟨bb, 0, none⟩) at h23
        have h24 := hall 2 _ (by decide) rfl
        change ac.eval (.tmp 24) = .int .i64 (ij : Int) at h24
        have h25 := hall 3 _ (by decide) rfl
        change ac.eval (.tmp 25) = .int .i64 (e' : Int) at h25
        have h26 := hall 4 _ (by decide) rfl
        change ac.eval (.tmp 26) = .int .i64 (q : Int) at h26
        simp only [List.take_succ_cons, List.take_zero, List.foldl, Inv.slot, Act.put] at ha
        change ac.tmps.getD 22 undef = _ at h22
        change ac.tmps.getD 23 undef = _ at h23
        change ac.tmps.getD 24 undef = _ at h24
        change ac.tmps.getD 25 undef = _ at h25
        change ac.tmps.getD 26 undef = _ at h26
        simp only [h22, h23, h24, h25, h26, List.setIfInBounds_toArray, List.set_cons_zero, List.set_cons_succ] at ha
        clear h22 h23 h24 h25 h26 hall hE
        subst ha
        simp only [List.drop_succ_cons, List.drop_zero]
        have HRx2 := Lib.hid (HRx.out.below hB wal)
        have HBx2 := Lib.hid (HBx.out.trans (hB.mono HBx.out.size))
        have HOB : Hid (Oth bb wa wx) := Lib.hid (Oth.of_below hB)
        clear x0 x1 x2 HRx HBx
        go_wp2_with (go_at_call 88; go_must (refine (HW.out _ HBx2.out).mono ?_; rintro e w3 ⟨rfl, hb3, hbb3, ho3⟩))
        go_roundw
        case rel =>
          refine ⟨j + 1, r, e', by go_num, by go_num, by go_num, by omega, hq29', he'9, HEn, Lib.hid (HXn.out _ hb3), Lib.hid (HBw.out.trans ((HBx2.out.mono (Nat.le_trans hbase hws)).trans hbb3)), Lib.hid (HOw.out.trans (HOx.out.trans (HOB.out.trans ho3)))⟩
        case measure => simp [intOf]; omega
    · obtain rfl : j = pcs.length := by omega
      obtain ⟨dn, z, hz, hxz, hbz⟩ := HX.out
      rw [Gl.rest_end] at hz
      have hz0 : z = [] := by
        cases ij with
        | zero => exact (Option.some.inj hz).symm
        | succ n => simp at hz
      have HBz : Hid (BldK base bb (l ++ x) wr) := Lib.hid (by rw [hxz, hz0, List.append_nil]; exact hbz)
      clear hz hxz hbz
      go_wp2_with fail
      ((try simp only [Exit.inBlock, Exit.then]); first | (refine bodyPost_ret (results_none rfl _ _ _) rfl ?_) | (refine bodyPost_end (results_none rfl _ _ _) rfl ?_))
      exact ⟨rfl, HBz.out, HBw.out, HOw.out⟩

theorem writers (d : Nat) : RowW d := by
  induction d with
  | zero => intro base bb l w A m c k L i x _ h; exact h.elim
  | succ d ih => exact rowW_of d (pieceW_of d ih)
end Go.Proofs.YtfmbbhcjnidcbaaGreatDoor
