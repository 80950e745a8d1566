/-
  PkFol: CONTRACTS: chapter 12: follow: a path, and all that it splits into, at an offset.
  PkStepP: CHAPTER 12, MEMORY: the state between two offsets.
  Shelf4: LAID BY THE SHELF's COMMAND: where the library's own slices.Clone stands at this seat.
  PkLay: CONTRACTS: the library's slices.Clone over ints, as chapter 12 calls it.
-/
import Derived.Test.YtelbabgkpflckaaJ22
import Derived.Shelf.SlGeneric
import Derived.Shelf.SlicesE.Clone
import Derived.Test.YtelbabgkpflckaaProg
import Derived.Test.YtelbabgkpflckaaJ5

set_option linter.unusedSimpArgs false
set_option linter.unusedVariables false
namespace Go.Proofs.Ytelbabgkpflckaa
open Go.RowKit Go.Sort
open Me
open Pk

namespace Pk
/-- How many turns are due, read from memory. -/
def turnsOf (sb : Nat) (w : World) : Nat := match w.cell? ⟨sb, 10, none⟩ with
  | some (.slice _ n _) => n
  | _ => 0
theorem turnsOf_is {W : World} {sb : Nat} {c : Cs} (h : Se W sb c) : turnsOf sb W = c.ts.length := by
  have e : W.cell? ⟨sb, 10, none⟩ = some c.tv := (h.cell 10).trans rfl
  obtain ⟨A, cp, hv⟩ := own_form h.otv
  unfold turnsOf
  rw [e, hv]
theorem tcells_pop {w : World} {base g n cap : Nat} {a : Tn} {ts : List Tn} (hn : n = ts.length) (h : w.ownsRow base turnT 4 (.slice (some ⟨g, 0, none⟩) (n + 1) cap) (n + 1) (tcells (a :: ts).reverse)) : w.ownsRow base turnT 4 (.slice (some ⟨g, 0, none⟩) n cap) n (tcells ts.reverse) := by
  subst hn
  rw [List.reverse_cons, tcells_append] at h
  exact ownsRow_pop (by rw [tcells_len, List.length_reverse]) h
theorem tcells_top {w : World} {base g n cap : Nat} {a : Tn} {ts : List Tn} (hn : n = ts.length) (h : w.ownsRow base turnT 4 (.slice (some ⟨g, 0, none⟩) (n + 1) cap) (n + 1) (tcells (a :: ts).reverse)) :
    w.cell? ⟨g, n * 4, none⟩ = some (.int .i64 a.head) ∧ w.cell? ⟨g, n * 4 + 1, none⟩ = some (.bool a.back) ∧ w.cell? ⟨g, n * 4 + 2, none⟩ = some (.int .i64 a.num) ∧ w.cell? ⟨g, n * 4 + 3, none⟩ = some (.int .i64 a.off) := by
  subst hn
  rw [List.reverse_cons, tcells_append] at h
  have key : ∀ j, j < 4 → w.cell? ⟨g, ts.length * 4 + j, none⟩ = (tcell a)[j]? := fun j hj => by
    rw [World.ownsRow.cellAt h (ts.length * 4 + j) (by omega), List.getElem?_append_right (by rw [tcells_len, List.length_reverse]; omega), tcells_len, List.length_reverse, Nat.add_sub_cancel_left]
    show ([a].flatMap tcell)[j]? = _
    rw [List.flatMap_cons, List.flatMap_nil, List.append_nil]
  exact ⟨(key 0 (by omega)).trans rfl, (key 1 (by omega)).trans rfl, (key 2 (by omega)).trans rfl, (key 3 (by omega)).trans rfl⟩
section
variable {c : Cs} {pre post : List Int} {k M : Nat} {W W' : World} {sb : Nat} {dn : List Int} {tv : Value} {ts : List Tn} {r : Row} {xo xh : Value} {q : List (Int × Row)} {a : Tn}
/-- A turn is taken off. -/
theorem St.popped (h : St c pre post k M W sb dn tv (a :: ts) r xo xh q) {g cap : Nat} (hv : tv = .slice (some ⟨g, 0, none⟩) (ts.length + 1) cap) : St c pre post k M (W.setCell ⟨sb, 10, none⟩ (.slice (some ⟨g, 0, none⟩) ts.length cap)) sb dn (.slice (some ⟨g, 0, none⟩) ts.length cap) ts r xo xh q := by
  have ho : W.ownsRow c.b0 turnT 4 tv (ts.length + 1) (tcells (a :: ts).reverse) := h.se.otv
  rw [hv] at ho
  refine ⟨?_, h.rl, h.ql, h.qn, by have := h.tn; rw [List.length_cons] at this; omega, h.dle⟩
  exact Se.swap (W2 := W) h.se (c.up pre post dn (.slice (some ⟨g, 0, none⟩) ts.length cap) ts r xo xh q) 10 (l1 := [oi c.dv dn, oi c.bv c.bl, oi c.no (pre ++ (r ++ post)), oi c.nh c.nhds, oi xo (q.flatMap (·.2)), oi xh (q.map (·.1))]) (l2 := [oi c.fv c.fl]) (x := ⟨turnT, 4, tv, (a :: ts).length, tcells (a :: ts).reverse⟩) ⟨turnT, 4, .slice (some ⟨g, 0, none⟩) ts.length cap, ts.length, tcells ts.reverse⟩ rfl rfl rfl (Nat.le_refl _) (fun _ _ _ => rfl) (tcells_pop rfl ho) (fun b hb => .inl (by rw [hv]; exact hb)) rfl rfl rfl rfl rfl h.se.fit.tail
/-- An offset that is put back. -/
theorem St.back (h : St c pre post k M W sb dn tv ts r xo xh q) {g cap : Nat} (hv : c.no = .slice (some ⟨g, 0, none⟩) (pre ++ (r ++ post)).length cap) (n : Nat) (v : Int) (hn : n < c.wd) : St c pre post k M (W.setCell ⟨g, pre.length + n, none⟩ (.int .i64 v)) sb dn tv ts (r.set n v) xo xh q ∧ Below c.b0 W (W.setCell ⟨g, pre.length + n, none⟩ (.int .i64 v)) := by
  have hr := h.rl
  have := Se.store h.se (c.up pre post dn tv ts (r.set n v) xo xh q) (l1 := [oi c.dv dn, oi c.bv c.bl]) (l2 := [oi c.nh c.nhds, oi xo (q.flatMap (·.2)), oi xh (q.map (·.1)), ⟨turnT, 4, tv, ts.length, tcells ts.reverse⟩, oi c.fv c.fl]) (v := c.no) (l := pre ++ (r ++ post)) hv (pre.length + n) v rfl rfl (by
    rw [set_mid pre r post n v (by omega)]
    rfl) rfl rfl rfl rfl rfl h.se.fit
  exact ⟨⟨this.1, by rw [List.length_set]; exact hr, h.ql, h.qn, h.tn, h.dle⟩, this.2⟩
end
/-- What follow leaves. -/
def Folw (c : Cs) (pre post : List Int) (k : Nat) (W : World) (sb : Nat) (R : Res1) (b : Bool) (W' : World) : Prop :=
  Below c.b0 W W' ∧ ∃ dn tv ts r xo xh q, St c pre post k 100000 W' sb dn tv ts r xo xh q ∧ R = (exe dn k, q, if b then some r else none)
theorem St.low {c : Cs} {pre post : List Int} {k M : Nat} {W : World} {sb : Nat} {dn : List Int} {tv : Value} {ts : List Tn} {r : Row} {xo xh : Value} {q : List (Int × Row)} (h : St c pre post k M W sb dn tv ts r xo xh q) {M2 : Nat} (hM : ts.length + free c.L.length (exe dn k) ≤ M2) : St c pre post k M2 W sb dn tv ts r xo xh q := ⟨h.se, h.rl, h.ql, h.qn, hM, h.dle⟩
end Pk

set_option maxRecDepth 100000 in
set_option maxHeartbeats 8000000 in
theorem follow_any {W : World} {sb : Nat} {c : Pk.Cs} {pre post : List Int} {k M0 : Nat} (hk : k ≤ c.t.length) {dn : List Int} {tv : Value} {ts : List Pk.Tn} {r : Pk.Row} {xo xh : Value} {q : List (Int × Pk.Row)} (hS : Pk.St c pre post k M0 W sb dn tv ts r xo xh q) (hd : Int)
    {g cap cp : Nat} (hv : c.no = .slice (some ⟨g, 0, none⟩) (pre ++ (r ++ post)).length cap) {R : Pk.Res1} (hR : Pk.due c.L c.t k (Pk.exe dn k) q [(hd, r)] = R) :
    Calls Try.prog 41 #[.pointer (some ⟨sb, 0, none⟩), .int .i64 hd, .slice (some ⟨g, pre.length, none⟩) c.wd cp, .int .i64 (k : Int)] W fun e W' => ∃ b, e = .returned (.bool b) ∧ Pk.Folw c pre post k W sb R b W' := by
  obtain ⟨i0, hi0, hz0, hz1, hz2⟩ := info_parts Pk.turn_info
  have HI := Lib.hid hi0
  have HZ := Lib.hid (And.intro hz0 (And.intro hz1 hz2))
  clear hi0 hz0 hz1 hz2
  have hpl : (pre ++ (r ++ post)).length = pre.length + c.wd + post.length := by simp; have := hS.rl; omega
  rw [hpl] at hv
  have HV := Lib.hid hv
  have HK := Lib.hid hk
  have hfree : 1 + Pk.free c.L.length (Pk.exe dn k) ≤ 100000 := by have h1 := hS.qn; have h2 : c.L.length ≤ 4096 := hS.se.bL; omega
  have hbt : c.t.length ≤ 1048576 := hS.se.bt
  clear hv hpl hk
  have hsl := hS.se.lt
  have hle : c.b0 ≤ sb := hS.se.le
  have c10 : W.cell? ⟨sb, 10, none⟩ = some tv := (hS.se.cell 10).trans rfl
  have f10 := hS.se.row.frozen 10
  have hot : W.ownsRow c.b0 turnT 4 tv ts.length (tcells ts.reverse) := hS.se.otv
  have HS := Lib.hid hS
  have HR := Lib.hid hR
  have hnx : ∃ V0 : Value, W.ownsRow c.b0 turnT 4 V0 0 [] ∧ V0.ownBlock = tv.ownBlock ∧ ((tv = .slice none 0 0 ∧ V0 = .slice none 0 0) ∨ ∃ g cap, tv = .slice (some ⟨g, 0, none⟩) ts.length cap ∧ V0 = .slice (some ⟨g, 0, none⟩) 0 cap) := by
    rcases own_two hot with ⟨e, _, o1⟩ | ⟨g1, k1, e, o1, _, _⟩
    · exact ⟨_, o1, by rw [e], .inl ⟨e, rfl⟩⟩
    · exact ⟨_, o1, by rw [e] <;> rfl, .inr ⟨g1, k1, e, rfl⟩⟩
  obtain ⟨V0, ho0, hob, hform⟩ := hnx
  have HOB := Lib.hid hob
  have HLT : Hid (∀ b, V0.ownBlock = some b → b ≠ sb ∧ b < W.heap.size) := Lib.hid fun b hb => ⟨fun e => HS.out.se.tvne (by rw [← e]; exact hob.symm.trans hb), (World.ownsRow.lt ho0 b hb).2⟩
  have HOT : Hid ((W.alloc (.cells #[.int .i64 hd, .bool false, .int .i64 0, .int .i64 0] 107)).ownsRow c.b0 107 4 V0 0 []) := Lib.hid (owns_keep ho0 fun b hb => Below.heap_alloc _ _ _ (World.ownsRow.lt ho0 b hb).2)
  have HRD : Hid (Rd (W.alloc (.cells #[.int .i64 hd, .bool false, .int .i64 0, .int .i64 0] 107)) (fun b => b = W.heap.size) (some ⟨W.heap.size, 0, none⟩) [.int .i64 hd, .bool false, .int .i64 0, .int .i64 0]) := Lib.hid (Rd.fresh W [.int .i64 hd, .bool false, .int .i64 0, .int .i64 0] 107 _ rfl)
  -- the loop, from the state behind the first turn on
  have HL : Hid (∀ w1, Below c.b0 W w1 → (∃ tv1, Pk.St c pre post k 100000 w1 sb dn tv1 [Tn.go hd] r xo xh q) → Hid (Below c.b0 W w1) ∧ Hid (∃ dn tv ts r xo xh q, Pk.St c pre post k 100000 w1 sb dn tv ts r xo xh q ∧ Pk.due c.L c.t k (Pk.exe dn k) q (Pk.den r ts) = R)) := Lib.hid fun w1 hb h => by
    obtain ⟨tv1, h⟩ := h
    exact ⟨Lib.hid hb, Lib.hid ⟨_, _, _, _, _, _, _, h, by rw [Pk.den_go]; exact HR.out⟩⟩
  clear hS hR hot hob ho0
  rcases hform with ⟨e1, e2⟩ | ⟨gt, ct, e1, e2⟩
  all_goals
    subst e1
    subst e2
    go_enter Try.func41, Try.ntmps41
    go_wp2_with (at_builtin; go_must (refine wpList_app _ rfl (.tmp 16) (.tmp 19) 65 rfl c.b0 107 i0 _ 4 32 Try.underlying65 HI.out HZ.out.1 HZ.out.2.1 HZ.out.2.2 rfl (by decide) _ 0 [] (by simp [Act.eval] <;> rfl) HOT.out (fun b => b = W.heap.size) (some ⟨W.heap.size, 0, none⟩) 1 1 [.int .i64 hd, .bool false, .int .i64 0, .int .i64 0] (by simp [Act.eval]) (by simp) HRD.out (by intro u hu; simp at hu; rcases hu with rfl | rfl | rfl | rfl <;> rfl) (by unfold maxLen; omega) (by omega) (by simp; omega) ?_; intro v2 w2 hown2 hg2 hat2 hnil2; have d0' := (hg2.cell_far ⟨sb, 10, none⟩ (by show sb < _; simp; omega) (fun e => by have := (HLT.out sb e.symm).1; omega)).trans ((World.cell?_alloc_lt _ _ _ hsl).trans c10); have df' : w2.frozen? ⟨sb, 10, none⟩ = false := (hg2.frozen_far ⟨sb, 10, none⟩ (by show sb < _; simp; omega) (fun e => by have := (HLT.out sb e.symm).1; omega)).trans ((World.frozen?_of_block (Below.heap_alloc _ _ sb hsl)).trans f10); have HO2 := Lib.hid hown2; have HG2 := Lib.hid hg2; have HA2 := Lib.hid hat2; obtain ⟨A2, c2, rfl⟩ := own_form hown2; clear hown2 hg2 hat2 hnil2))
    have HPU := Pk.Se.push (W2 := w2) HS.out.se (.cells #[.int .i64 hd, .bool false, .int .i64 0, .int .i64 0] 107) (A2 := A2) (c2 := c2) (n2 := 1) (ts2 := [Tn.go hd]) rfl HO2.out ⟨HG2.out.os, HG2.out.tape, HG2.out.output, HG2.out.size, HG2.out.block⟩ HA2.out (fun b hb hbb => by rw [List.mem_singleton.1 hb] at hbb; cases hbb)
    obtain ⟨HB1, HL1⟩ := HL.out _ HPU.2 ⟨_, ⟨HPU.1, HS.out.rl, HS.out.ql, HS.out.qn, by rw [List.length_singleton]; exact hfree, HS.out.dle⟩⟩
    clear HPU d0' df' HO2 HG2 HA2 HL HOT HRD HLT c10 f10 HS
    generalize w2.setCell ⟨sb, 10, none⟩ (.slice A2 (0 + 1) c2) = wy at *
    go_loopw [9, 10] (fun _ _ wr => Hid (Below c.b0 W wr) ∧ Hid (∃ dn tv ts r xo xh q, Pk.St c pre post k 100000 wr sb dn tv ts r xo xh q ∧ Pk.due c.L c.t k (Pk.exe dn k) q (Pk.den r ts) = R)) (fun _ _ w => Pk.left (Pk.blockOf c.dv) k c.L.length w + Pk.turnsOf sb w)
    case atStart => exact ⟨HB1, HL1⟩
    case round =>
      obtain ⟨HB, H1⟩ := hrel
      obtain ⟨dn, tv, ts, r, xo, xh, q, hSt, hD⟩ := H1.out
      clear H1 HL1 HB1
      have HSt := Lib.hid hSt
      have HD := Lib.hid hD
      have c10 : wr.cell? ⟨sb, 10, none⟩ = some tv := (hSt.se.cell 10).trans rfl
      have f10 := hSt.se.row.frozen 10
      have hsr := hSt.se.lt
      cases ts with
      | nil =>
        obtain ⟨A, cv, hv0⟩ := own_form hSt.se.otv
        have hv0 : tv = .slice A 0 cv := hv0
        rw [hv0] at c10
        have HE : Hid (R = (Pk.exe dn k, q, none)) := Lib.hid (by rw [← hD]; exact Pk.due_nil)
        clear hSt hD hv0
        go_wp2_with fail
        go_ret
        exact ⟨_, rfl, HB.out, _, _, _, _, _, _, _, HSt.out, HE.out⟩
      | cons a ts =>
        have hot : wr.ownsRow c.b0 turnT 4 tv (ts.length + 1) (tcells (a :: ts).reverse) := hSt.se.otv
        obtain ⟨gt, ct, hvt, hgt1, hgt2⟩ := own_some hot (by omega)
        have hv1 : tv = .slice (some ⟨gt, 0, none⟩) (ts.length + 1) ct := hvt
        rw [hv1] at c10 hot
        obtain ⟨k0, k1, k2, k3⟩ := tcells_top rfl hot
        have hct : ts.length + 1 ≤ ct := by
          rcases own_two hot with ⟨e, _, _⟩ | ⟨g', k, e, _, hk, _⟩
          · cases e
          · cases e; exact hk
        have htl : ts.length ≤ 100000 := by have := hSt.tn; rw [List.length_cons] at this; omega
        have hltI : (ts.length : Int) ≤ (ct : Int) := by omega
        have HV1 := Lib.hid hv1
        obtain ⟨ah, ab, an, ao⟩ := a
        cases ab with
        | true =>
          have hfit := hSt.se.fit ⟨ah, true, an, ao⟩ List.mem_cons_self rfl
          have hfit : 0 ≤ an ∧ an < (c.wd : Int) := hfit
          obtain ⟨hn0, hn1⟩ := hfit
          have hrl := hSt.rl
          have HVr : Hid (c.no = .slice (some ⟨g, 0, none⟩) (pre ++ (r ++ post)).length cap) := Lib.hid (by rw [HV.out]; congr 1; simp; omega)
          obtain ⟨rc, rf⟩ := hSt.se.rowcell HVr.out (pre.length + an.toNat) (by show _ < (pre ++ (r ++ post)).length; simp; omega)
          have hgl := (World.ownsRow.lt hSt.se.ono g (by show c.no.ownBlock = _; rw [HVr.out]; rfl))
          have hgn : ¬ g = sb := fun e => hSt.se.none_ (by show c.no.ownBlock = some sb; rw [HVr.out, ← e]; rfl)
          have hgn2 : ¬ sb = g := fun e => hgn e.symm
          generalize hq0 : (c.up pre post dn tv (⟨ah, true, an, ao⟩ :: ts) r xo xh q).nofs[pre.length + an.toNat]'(by show _ < (pre ++ (r ++ post)).length; simp; omega) = q0 at rc
          have hp1 := HSt.out.popped HV1.out
          have hf1 := hp1.back HVr.out an.toNat ao (by omega)
          have hbb : Below c.b0 W ((wr.setCell ⟨sb, 10, none⟩ (.slice (some ⟨gt, 0, none⟩) ts.length ct)).setCell ⟨g, pre.length + an.toNat, none⟩ (.int .i64 ao)) := (HB.out.setCell hle _).trans hf1.2
          have HF := Lib.hid (hf1.1.keep ((Below.refl _ _).alloc (Nat.le_refl _) (.cells #[.int .i64 ah, .bool true, .int .i64 an, .int .i64 ao] 107)))
          have HBF := Lib.hid (hbb.alloc (by have := hf1.1.se.lt; omega) (.cells #[.int .i64 ah, .bool true, .int .i64 an, .int .i64 ao] 107))
          clear hSt hD hv1 hot hp1 hf1 hbb hq0 hvt
          go_wp2_with fail
          go_roundw
          case rel => exact ⟨Lib.hid HBF.out, Lib.hid ⟨_, _, _, _, _, _, _, HF.out, by rw [← HD.out, Pk.den_back _ _ rfl]⟩⟩
          case measure => rw [HF.out.left, HSt.out.left, turnsOf_is HF.out.se, turnsOf_is HSt.out.se]; show _ + ts.length < _ + (ts.length + 1); omega
        | false =>
          have hrl := hSt.rl
          have HVr : Hid (c.no = .slice (some ⟨g, 0, none⟩) (pre ++ (r ++ post)).length cap) := Lib.hid (by rw [HV.out]; congr 1; simp; omega)
          have hp1 := HSt.out.popped HV1.out
          have hbb : Below c.b0 W (wr.setCell ⟨sb, 10, none⟩ (.slice (some ⟨gt, 0, none⟩) ts.length ct)) := HB.out.setCell hle _
          have HP := Lib.hid (hp1.keep ((Below.refl _ _).alloc (Nat.le_refl _) (.cells #[.int .i64 ah, .bool false, .int .i64 an, .int .i64 ao] 107)))
          have HBF := Lib.hid (hbb.alloc (by have := hp1.se.lt; omega) (.cells #[.int .i64 ah, .bool false, .int .i64 an, .int .i64 ao] 107))
          have htn : ts.length + 1 + Pk.free c.L.length (Pk.exe dn k) ≤ 100000 := hSt.tn
          have HRR : Hid (Pk.due c.L c.t k (Pk.exe dn k) q ((ah, r) :: Pk.den r ts) = R) := Lib.hid (by rw [← hD, Pk.den_head _ _ rfl])
          clear hSt hD hv1 hot hp1 hbb hvt
          go_wp2_with (go_at_call 54; go_must (refine (run_any HK.out (M := ts.length + Pk.free c.L.length (Pk.exe dn k)) (by omega) (HP.out.low (Nat.le_refl _)) ah HVr.out HRR.out).mono ?_; rintro e w3 ⟨b, rfl, hran⟩; have HRan := Lib.hid hran; clear hran; cases b))
          · obtain ⟨hb3, dn3, tv3, ts3, r3, xo3, xh3, q3, hS3, hR3⟩ := HRan.out
            rw [if_neg (by simp)] at hR3
            refine ⟨⟨Lib.hid (HBF.out.trans hb3), Lib.hid ⟨_, _, _, _, _, _, _, hS3.low (by have := hS3.tn; omega), hR3⟩⟩, ?_⟩
            rw [hS3.left, HSt.out.left, turnsOf_is hS3.se, turnsOf_is HSt.out.se]
            show _ + ts3.length < _ + (ts.length + 1)
            have := hS3.tn
            omega
          · go_ret
            obtain ⟨hb3, dn3, tv3, ts3, r3, xo3, xh3, q3, hS3, hR3⟩ := HRan.out
            rw [if_pos rfl] at hR3
            exact ⟨_, rfl, HBF.out.trans hb3, _, _, _, _, _, _, _, hS3.low (by have := hS3.tn; omega), by rw [hR3]; rfl⟩
end Go.Proofs.Ytelbabgkpflckaa

namespace Go.Proofs.Ytelbabgkpflckaa
open Go.RowKit Go.Sort
open Me
namespace Pk
open Rx (In)
theorem apart_symm {a b : Value} (h : Apart a b) : Apart b a := fun g hb ha => h g ha hb
theorem Own.perm {w : World} {base sb : Nat} {l l' : List Ow} (h : Own w base sb l) (p : l.Perm l') : Own w base sb l' :=
  ⟨fun o ho => h.each o (p.symm.subset ho), (p.pairwise_iff (fun h => apart_symm h)).1 h.apart, fun o ho => h.ne o (p.symm.subset ho), h.le⟩
/-- This offset's list and the next one's change places. -/
theorem Se.swapped {W : World} {sb : Nat} {c : Cs} (h : Se W sb c) {W2 : World} (hr : RowAt W2 sb 67 ({ c with no := c.xo, nh := c.xh, nofs := c.xofs, nhds := c.xhds, xo := c.no, xh := c.nh, xofs := c.nofs, xhds := c.nhds } : Cs).cells)
    (hk : ∀ g, g ≠ sb → W2.heap[g]? = W.heap[g]?) (hs : W2.heap.size = W.heap.size) : Se W2 sb { c with no := c.xo, nh := c.xh, nofs := c.xofs, nhds := c.xhds, xo := c.no, xh := c.nh, xofs := c.nofs, xhds := c.nhds } := by
  refine ⟨hr, ?_, ?_, h.dlen, h.bL, h.bt, h.bw, h.tw, h.fit⟩
  · have h1 := h.own.keep (w' := W2) fun g _ _ hg => hk g hg
    refine h1.perm ?_
    unfold Cs.own
    refine .cons _ (.cons _ ?_)
    have p : ∀ (a b x y : Ow) (r : List Ow), (a :: b :: x :: y :: r).Perm (x :: y :: a :: b :: r) := fun a b x y r => by
      have := List.perm_append_comm (l₁ := [a, b]) (l₂ := [x, y])
      exact this.append_right r
    exact p _ _ _ _ _
  · refine h.prog.keep (by omega) fun i hi hg => hk i (by have := h.le; have hg : i < c.b0 := hg; omega)
theorem set6 (a0 a1 a2 a3 a4 a5 a6 a7 a8 a9 a10 a11 v4 v5 v6 v7 v8 v9 : Value) : ((((((#[a0, a1, a2, a3, a4, a5, a6, a7, a8, a9, a10, a11].setIfInBounds 4 v4).setIfInBounds 5 v5).setIfInBounds 6 v6).setIfInBounds 7 v7).setIfInBounds 8 v8).setIfInBounds 9 v9) = #[a0, a1, a2, a3, v4, v5, v6, v7, v8, v9, a10, a11] := by
  simp [Array.setIfInBounds]
theorem Se.swap6 {W : World} {sb : Nat} {c : Cs} (h : Se W sb c) : Se ((((((W.setCell ⟨sb, 4, none⟩ (.int .i64 c.wd)).setCell ⟨sb, 5, none⟩ c.xo).setCell ⟨sb, 6, none⟩ c.xh).setCell ⟨sb, 7, none⟩ (.int .i64 c.wd)).setCell ⟨sb, 8, none⟩ c.no).setCell ⟨sb, 9, none⟩ c.nh).drew sb { c with no := c.xo, nh := c.xh, nofs := c.xofs, nhds := c.xhds, xo := c.no, xh := c.nh, xofs := c.nofs, xhds := c.nhds } ∧
    Below c.b0 W ((((((W.setCell ⟨sb, 4, none⟩ (.int .i64 c.wd)).setCell ⟨sb, 5, none⟩ c.xo).setCell ⟨sb, 6, none⟩ c.xh).setCell ⟨sb, 7, none⟩ (.int .i64 c.wd)).setCell ⟨sb, 8, none⟩ c.no).setCell ⟨sb, 9, none⟩ c.nh).drew := by
  have hb : Below c.b0 W ((((((W.setCell ⟨sb, 4, none⟩ (.int .i64 c.wd)).setCell ⟨sb, 5, none⟩ c.xo).setCell ⟨sb, 6, none⟩ c.xh).setCell ⟨sb, 7, none⟩ (.int .i64 c.wd)).setCell ⟨sb, 8, none⟩ c.no).setCell ⟨sb, 9, none⟩ c.nh) :=
    ((((((Below.refl c.b0 W).setCell h.le _).setCell h.le _).setCell h.le _).setCell h.le _).setCell h.le _).setCell h.le _
  have hr := (((((h.row.set_ 4 (.int .i64 c.wd)).set_ 5 c.xo).set_ 6 c.xh).set_ 7 (.int .i64 c.wd)).set_ 8 c.no).set_ 9 c.nh
  have hg : ∀ g, g ≠ sb → ((((((W.setCell ⟨sb, 4, none⟩ (.int .i64 c.wd)).setCell ⟨sb, 5, none⟩ c.xo).setCell ⟨sb, 6, none⟩ c.xh).setCell ⟨sb, 7, none⟩ (.int .i64 c.wd)).setCell ⟨sb, 8, none⟩ c.no).setCell ⟨sb, 9, none⟩ c.nh).heap[g]? = W.heap[g]? := fun g hg => by
    rw [Below.heap_setCell _ _ _ g hg, Below.heap_setCell _ _ _ g hg, Below.heap_setCell _ _ _ g hg, Below.heap_setCell _ _ _ g hg, Below.heap_setCell _ _ _ g hg, Below.heap_setCell _ _ _ g hg]
  have hs : ((((((W.setCell ⟨sb, 4, none⟩ (.int .i64 c.wd)).setCell ⟨sb, 5, none⟩ c.xo).setCell ⟨sb, 6, none⟩ c.xh).setCell ⟨sb, 7, none⟩ (.int .i64 c.wd)).setCell ⟨sb, 8, none⟩ c.no).setCell ⟨sb, 9, none⟩ c.nh).heap.size = W.heap.size := by simp [World.setCell]
  generalize ((((((W.setCell ⟨sb, 4, none⟩ (.int .i64 c.wd)).setCell ⟨sb, 5, none⟩ c.xo).setCell ⟨sb, 6, none⟩ c.xh).setCell ⟨sb, 7, none⟩ (.int .i64 c.wd)).setCell ⟨sb, 8, none⟩ c.no).setCell ⟨sb, 9, none⟩ c.nh) = X at *
  unfold Cs.cells at hr
  rw [set6] at hr
  exact ⟨(h.swapped hr hg hs).drew, hb.drew⟩
/-- The best path is kept. -/
theorem Se.kept {W W2 : World} {sb : Nat} {c : Cs} (h : Se W sb c) (hb : Below W.heap.size W W2) {v : Value} {r : List Int} (ho : W2.ownsRow W.heap.size intT 1 v r.length (iv r)) : Se (W2.setCell ⟨sb, 11, none⟩ v) sb { c with fv := v, fl := r } ∧ Below c.b0 W (W2.setCell ⟨sb, 11, none⟩ v) := by
  have hl := h.lt
  have hle := h.le
  have ho2 : W2.ownsRow c.b0 intT 1 v r.length (iv r) := by
    refine ⟨ho.1, ?_⟩
    rcases ho.2 with hn | ⟨g, cap, cur, hv, hb, rest⟩
    · exact .inl hn
    · exact .inr ⟨g, cap, cur, hv, by omega, rest⟩
  refine ⟨Se.swap (W2 := W2) h _ 11 (l1 := [oi c.dv c.dn, oi c.bv c.bl, oi c.no c.nofs, oi c.nh c.nhds, oi c.xo c.xofs, oi c.xh c.xhds, ⟨turnT, 4, c.tv, c.ts.length, tcells c.ts.reverse⟩]) (l2 := []) (x := oi c.fv c.fl) (oi v r) rfl rfl rfl hb.size (fun g hg _ => hb.block g hg) ho2 (fun g hg => .inr (World.ownsRow.lt ho g hg).1) rfl rfl rfl rfl rfl h.fit, (hb.mono (by omega)).setCell h.le _⟩
/-- Between two offsets. -/
structure Sv (c : Cs) (W : World) (sb k : Nat) (l : List (Int × Row)) (f : Option Row) : Prop where
  se : Se W sb c
  nofs : c.nofs = l.flatMap (·.2)
  nhds : c.nhds = l.map (·.1)
  rows : ∀ e ∈ l, e.2.length = c.wd
  cnt : l.length ≤ c.L.length
  xofs : c.xofs = []
  xhds : c.xhds = []
  bl : c.bl = blank c.wd
  dle : ∀ n ∈ c.dn, n ≤ (k : Int)
  fnd : match f with
    | none => c.fl = [] ∧ c.fv = .slice none 0 0
    | some r => c.fl = r ∧ r.length = c.wd
theorem exe_none {dn : List Int} {k : Nat} (h : ∀ n ∈ dn, n ≤ (k : Int)) : exe dn k = fun _ => false := by
  funext p
  unfold exe
  apply decide_eq_false
  intro e
  have := h _ (List.mem_of_getElem? e)
  omega
/-- Within an offset: i paths are followed. -/
structure Sp (c : Cs) (l : List (Int × Row)) (k : Nat) (W : World) (sb i : Nat) (dn : List Int) (tv : Value) (ts : List Tn) (xo xh : Value) (q : List (Int × Row)) (P : List Int) : Prop where
  se : Se W sb (c.up P ((l.drop i).flatMap (·.2)) dn tv ts [] xo xh q)
  pl : P.length = i * c.wd
  ql : ∀ e ∈ q, e.2.length = c.wd
  qn : q.length + free c.L.length (exe dn k) ≤ c.L.length
  dle : ∀ n ∈ dn, n ≤ (k : Int) + 1
theorem Sp.st {c : Cs} {l : List (Int × Row)} {k : Nat} {W : World} {sb i : Nat} {dn : List Int} {tv : Value} {ts : List Tn} {xo xh : Value} {q : List (Int × Row)} {P : List Int} (h : Sp c l k W sb i dn tv ts xo xh q P) (hl : ∀ e ∈ l, e.2.length = c.wd) (hi : i < l.length) :
    St c P ((l.drop (i + 1)).flatMap (·.2)) k (ts.length + free c.L.length (exe dn k)) W sb dn tv ts l[i].2 xo xh q := by
  refine ⟨?_, hl _ (List.getElem_mem hi), h.ql, h.qn, Nat.le_refl _, h.dle⟩
  have h1 := h.se
  rw [List.drop_eq_getElem_cons hi, List.flatMap_cons] at h1
  unfold Cs.up at h1 ⊢
  simpa using h1
theorem St.sp {c : Cs} {l : List (Int × Row)} {k : Nat} {W : World} {sb i : Nat} {dn : List Int} {tv : Value} {ts : List Tn} {r : Row} {xo xh : Value} {q : List (Int × Row)} {P : List Int} (h : St c P ((l.drop (i + 1)).flatMap (·.2)) k 100000 W sb dn tv ts r xo xh q) (hP : P.length = i * c.wd) :
    Sp c l k W sb (i + 1) dn tv ts xo xh q (P ++ r) := by
  refine ⟨?_, by rw [List.length_append, hP, h.rl, Nat.add_mul, Nat.one_mul], h.ql, h.qn, h.dle⟩
  have h1 := h.se
  unfold Cs.up at h1 ⊢
  simpa using h1
/-- What step leaves. -/
def Stepped (c : Cs) (sb k : Nat) (l : List (Int × Row)) (f : Option Row) (W' : World) : Prop :=
  ∃ c', Sv c' W' sb (k + 1) (lev c.L c.t k (fun _ => false) (l ++ if f.isNone then [(0, blank c.wd)] else [])).2.1 (((lev c.L c.t k (fun _ => false) (l ++ if f.isNone then [(0, blank c.wd)] else [])).2.2).or f) ∧ c'.L = c.L ∧ c'.t = c.t ∧ c'.wd = c.wd ∧ c'.b0 = c.b0
end Pk
end Go.Proofs.Ytelbabgkpflckaa

namespace Go.Proofs
open Go.Shelf
def Try.pkClone_ren : Go.Shelf.Ren := ⟨fun | 41 => 42 | n => n, fun | 22 => 28 | 23 => 3 | 4 => 4 | n => n, fun | n => n⟩
theorem Try.pkClone : Go.Proofs.SlLaysE0.n41 Try.prog Try.pkClone_ren := {
  mixed := by kernel_rfl
  f41 := ⟨Try.f42.name, by decide, Try.func42.trans (congrArg some (by kernel_rfl))⟩
  t4 := Try.underlying4
  a4 := Try.isAgg4
  z4 := Try.sizeOf4
  v4 := Try.zeroValue4
  t22 := Try.underlying28
  a22 := Try.isAgg28
  z22 := Try.sizeOf28
  v22 := Try.zeroValue28 }
end Go.Proofs

namespace Go.Proofs.Ytelbabgkpflckaa
open Go.RowKit Go.Shelf
open Me
namespace Pk
theorem int_info0 : (Try.prog.info? 3).map (fun i => (i.zero, i.size, i.bytes)) = some (some (.int .i64 0), 1, 8) := by kernel_rfl
theorem sizeInt : ∀ w, (Go.sizeOf 3).run Try.prog w = .ok 1 w := fun w => Try.sizeOf3 w
theorem clone_any {w : World} {g o n cap : Nat} {r : List Int} (hn : n = r.length) (h9 : r.length ≤ 1048576) (hc : ∀ j u, (iv r)[j]? = some u → w.cell? ⟨g, o + j, none⟩ = some u) :
    Calls Try.prog 42 #[.slice (some ⟨g, o, none⟩) n cap] w fun e w' => ∃ v, e = .returned v ∧ w'.ownsRow w.heap.size intT 1 v r.length (iv r) ∧ Below w.heap.size w w' := by
  obtain ⟨i0, hi0, hz0, hz1, hz2⟩ := info_parts int_info0
  subst hn
  have hr := AnyE.slices_Clone (P := Try.prog) Try.pkClone i0 (.int .i64 0) 1 8 hi0 hz0 hz1 hz2 rfl (by decide) sizeInt g o r.length cap (iv r) w (by rw [iv_len]; omega) (by unfold maxLen; omega) (by omega) hc (iv_one r)
  refine hr.mono ?_
  rintro e w' ⟨v, rfl, h1, _, h2⟩
  exact ⟨v, rfl, h1, h2⟩
end Pk
end Go.Proofs.Ytelbabgkpflckaa
