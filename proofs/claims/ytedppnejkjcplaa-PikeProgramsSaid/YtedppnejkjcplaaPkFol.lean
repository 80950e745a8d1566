/-
  CONTRACTS: chapter 12: follow: a path, and all that it splits into, at an offset.
-/
import Derived.Test.YtedppnejkjcplaaPkRun
namespace Go.Proofs.Ytedppnejkjcplaa
open Go.RowKit Go.Sort
open Me
open Pk

namespace Pk
/-- How many turns are due, read from memory. -/
def turnsOf (sb : Nat) (w : World) : Nat := match w.cell? ⟨sb, 10, none⟩ with
  | some (.slice _ n _) => n
  | _ => 0
theorem turnsOf_is {W : World} {sb : Nat} {c : Cs} (h : Se W sb c) : turnsOf sb W = c.ts.length := by
  have e : W.cell? ⟨sb, 10, none⟩ = some c.tv := (h.cell 10).trans rfl
  obtain ⟨A, cp, hv⟩ := own_form h.otv
  unfold turnsOf
  rw [e, hv]
theorem tcells_pop {w : World} {base g n cap : Nat} {a : Tn} {ts : List Tn} (hn : n = ts.length) (h : w.ownsRow base turnT 4 (.slice (some ⟨g, 0, none⟩) (n + 1) cap) (n + 1) (tcells (a :: ts).reverse)) : w.ownsRow base turnT 4 (.slice (some ⟨g, 0, none⟩) n cap) n (tcells ts.reverse) := by
  subst hn
  rw [List.reverse_cons, tcells_append] at h
  exact ownsRow_pop (by rw [tcells_len, List.length_reverse]) h
theorem tcells_top {w : World} {base g n cap : Nat} {a : Tn} {ts : List Tn} (hn : n = ts.length) (h : w.ownsRow base turnT 4 (.slice (some ⟨g, 0, none⟩) (n + 1) cap) (n + 1) (tcells (a :: ts).reverse)) :
    w.cell? ⟨g, n * 4, none⟩ = some (.int .i64 a.head) ∧ w.cell? ⟨g, n * 4 + 1, none⟩ = some (.bool a.back) ∧ w.cell? ⟨g, n * 4 + 2, none⟩ = some (.int .i64 a.num) ∧ w.cell? ⟨g, n * 4 + 3, none⟩ = some (.int .i64 a.off) := by
  subst hn
  rw [List.reverse_cons, tcells_append] at h
  have key : ∀ j, j < 4 → w.cell? ⟨g, ts.length * 4 + j, none⟩ = (tcell a)[j]? := fun j hj => by
    rw [World.ownsRow.cellAt h (ts.length * 4 + j) (by omega), List.getElem?_append_right (by rw [tcells_len, List.length_reverse]; omega), tcells_len, List.length_reverse, Nat.add_sub_cancel_left]
    show ([a].flatMap tcell)[j]? = _
    rw [List.flatMap_cons, List.flatMap_nil, List.append_nil]
  exact ⟨(key 0 (by omega)).trans rfl, (key 1 (by omega)).trans rfl, (key 2 (by omega)).trans rfl, (key 3 (by omega)).trans rfl⟩
section
variable {c : Cs} {pre post : List Int} {k M : Nat} {W W' : World} {sb : Nat} {dn : List Int} {tv : Value} {ts : List Tn} {r : Row} {xo xh : Value} {q : List (Int × Row)} {a : Tn}
/-- A turn is taken off. -/
theorem St.popped (h : St c pre post k M W sb dn tv (a :: ts) r xo xh q) {g cap : Nat} (hv : tv = .slice (some ⟨g, 0, none⟩) (ts.length + 1) cap) : St c pre post k M (W.setCell ⟨sb, 10, none⟩ (.slice (some ⟨g, 0, none⟩) ts.length cap)) sb dn (.slice (some ⟨g, 0, none⟩) ts.length cap) ts r xo xh q := by
  have ho : W.ownsRow c.b0 turnT 4 tv (ts.length + 1) (tcells (a :: ts).reverse) := h.se.otv
  rw [hv] at ho
  refine ⟨?_, h.rl, h.ql, h.qn, by have := h.tn; rw [List.length_cons] at this; omega, h.dle⟩
  exact Se.swap (W2 := W) h.se (c.up pre post dn (.slice (some ⟨g, 0, none⟩) ts.length cap) ts r xo xh q) 10 (l1 := [oi c.dv dn, oi c.bv c.bl, oi c.no (pre ++ (r ++ post)), oi c.nh c.nhds, oi xo (q.flatMap (·.2)), oi xh (q.map (·.1))]) (l2 := [oi c.fv c.fl]) (x := ⟨turnT, 4, tv, (a :: ts).length, tcells (a :: ts).reverse⟩) ⟨turnT, 4, .slice (some ⟨g, 0, none⟩) ts.length cap, ts.length, tcells ts.reverse⟩ rfl rfl rfl (Nat.le_refl _) (fun _ _ _ => rfl) (tcells_pop rfl ho) (fun b hb => .inl (by rw [hv]; exact hb)) rfl rfl rfl rfl rfl h.se.fit.tail
/-- An offset that is put back. -/
theorem St.back (h : St c pre post k M W sb dn tv ts r xo xh q) {g cap : Nat} (hv : c.no = .slice (some ⟨g, 0, none⟩) (pre ++ (r ++ post)).length cap) (n : Nat) (v : Int) (hn : n < c.wd) : St c pre post k M (W.setCell ⟨g, pre.length + n, none⟩ (.int .i64 v)) sb dn tv ts (r.set n v) xo xh q ∧ Below c.b0 W (W.setCell ⟨g, pre.length + n, none⟩ (.int .i64 v)) := by
  have hr := h.rl
  have := Se.store h.se (c.up pre post dn tv ts (r.set n v) xo xh q) (l1 := [oi c.dv dn, oi c.bv c.bl]) (l2 := [oi c.nh c.nhds, oi xo (q.flatMap (·.2)), oi xh (q.map (·.1)), ⟨turnT, 4, tv, ts.length, tcells ts.reverse⟩, oi c.fv c.fl]) (v := c.no) (l := pre ++ (r ++ post)) hv (pre.length + n) v rfl rfl (by
    rw [set_mid pre r post n v (by omega)]
    rfl) rfl rfl rfl rfl rfl h.se.fit
  exact ⟨⟨this.1, by rw [List.length_set]; exact hr, h.ql, h.qn, h.tn, h.dle⟩, this.2⟩
end
/-- What follow leaves. -/
def Folw (c : Cs) (pre post : List Int) (k : Nat) (W : World) (sb : Nat) (R : Res1) (b : Bool) (W' : World) : Prop :=
  Below c.b0 W W' ∧ ∃ dn tv ts r xo xh q, St c pre post k 100000 W' sb dn tv ts r xo xh q ∧ R = (exe dn k, q, if b then some r else none)
theorem St.low {c : Cs} {pre post : List Int} {k M : Nat} {W : World} {sb : Nat} {dn : List Int} {tv : Value} {ts : List Tn} {r : Row} {xo xh : Value} {q : List (Int × Row)} (h : St c pre post k M W sb dn tv ts r xo xh q) {M2 : Nat} (hM : ts.length + free c.L.length (exe dn k) ≤ M2) : St c pre post k M2 W sb dn tv ts r xo xh q := ⟨h.se, h.rl, h.ql, h.qn, hM, h.dle⟩
end Pk

set_option maxRecDepth 100000 in
set_option maxHeartbeats 8000000 in
theorem follow_any {W : World} {sb : Nat} {c : Pk.Cs} {pre post : List Int} {k M0 : Nat} (hk : k ≤ c.t.length) {dn : List Int} {tv : Value} {ts : List Pk.Tn} {r : Pk.Row} {xo xh : Value} {q : List (Int × Pk.Row)} (hS : Pk.St c pre post k M0 W sb dn tv ts r xo xh q) (hd : Int)
    {g cap cp : Nat} (hv : c.no = .slice (some ⟨g, 0, none⟩) (pre ++ (r ++ post)).length cap) {R : Pk.Res1} (hR : Pk.due c.L c.t k (Pk.exe dn k) q [(hd, r)] = R) :
    Calls Try.prog 47 #[.pointer (some ⟨sb, 0, none⟩), .int .i64 hd, .slice (some ⟨g, pre.length, none⟩) c.wd cp, .int .i64 (k : Int)] W fun e W' => ∃ b, e = .returned (.bool b) ∧ Pk.Folw c pre post k W sb R b W' := by
  obtain ⟨i0, hi0, hz0, hz1, hz2⟩ := info_parts Pk.turn_info
  have HI := Lib.hid hi0
  have HZ := Lib.hid (And.intro hz0 (And.intro hz1 hz2))
  clear hi0 hz0 hz1 hz2
  have hpl : (pre ++ (r ++ post)).length = pre.length + c.wd + post.length := by simp; have := hS.rl; omega
  rw [hpl] at hv
  have HV := Lib.hid hv
  have HK := Lib.hid hk
  have hfree : 1 + Pk.free c.L.length (Pk.exe dn k) ≤ 100000 := by have h1 := hS.qn; have h2 : c.L.length ≤ 4096 := hS.se.bL; omega
  have hbt : c.t.length ≤ 1048576 := hS.se.bt
  clear hv hpl hk
  have hsl := hS.se.lt
  have hle : c.b0 ≤ sb := hS.se.le
  have c10 : W.cell? ⟨sb, 10, none⟩ = some tv := (hS.se.cell 10).trans rfl
  have f10 := hS.se.row.frozen 10
  have hot : W.ownsRow c.b0 turnT 4 tv ts.length (tcells ts.reverse) := hS.se.otv
  have HS := Lib.hid hS
  have HR := Lib.hid hR
  have hnx : ∃ V0 : Value, W.ownsRow c.b0 turnT 4 V0 0 [] ∧ V0.ownBlock = tv.ownBlock ∧ ((tv = .slice none 0 0 ∧ V0 = .slice none 0 0) ∨ ∃ g cap, tv = .slice (some ⟨g, 0, none⟩) ts.length cap ∧ V0 = .slice (some ⟨g, 0, none⟩) 0 cap) := by
    rcases own_two hot with ⟨e, _, o1⟩ | ⟨g1, k1, e, o1, _, _⟩
    · exact ⟨_, o1, by rw [e], .inl ⟨e, rfl⟩⟩
    · exact ⟨_, o1, by rw [e] <;> rfl, .inr ⟨g1, k1, e, rfl⟩⟩
  obtain ⟨V0, ho0, hob, hform⟩ := hnx
  have HOB := Lib.hid hob
  have HLT : Hid (∀ b, V0.ownBlock = some b → b ≠ sb ∧ b < W.heap.size) := Lib.hid fun b hb => ⟨fun e => HS.out.se.tvne (by rw [← e]; exact hob.symm.trans hb), (World.ownsRow.lt ho0 b hb).2⟩
  have HOT : Hid ((W.alloc (.cells #[.int .i64 hd, .bool false, .int .i64 0, .int .i64 0] 111)).ownsRow c.b0 111 4 V0 0 []) := Lib.hid (owns_keep ho0 fun b hb => Below.heap_alloc _ _ _ (World.ownsRow.lt ho0 b hb).2)
  have HRD : Hid (Rd (W.alloc (.cells #[.int .i64 hd, .bool false, .int .i64 0, .int .i64 0] 111)) (fun b => b = W.heap.size) (some ⟨W.heap.size, 0, none⟩) [.int .i64 hd, .bool false, .int .i64 0, .int .i64 0]) := Lib.hid (Rd.fresh W [.int .i64 hd, .bool false, .int .i64 0, .int .i64 0] 111 _ rfl)
  -- the loop, from the state behind the first turn on
  have HL : Hid (∀ w1, Below c.b0 W w1 → (∃ tv1, Pk.St c pre post k 100000 w1 sb dn tv1 [Tn.go hd] r xo xh q) → Hid (Below c.b0 W w1) ∧ Hid (∃ dn tv ts r xo xh q, Pk.St c pre post k 100000 w1 sb dn tv ts r xo xh q ∧ Pk.due c.L c.t k (Pk.exe dn k) q (Pk.den r ts) = R)) := Lib.hid fun w1 hb h => by
    obtain ⟨tv1, h⟩ := h
    exact ⟨Lib.hid hb, Lib.hid ⟨_, _, _, _, _, _, _, h, by rw [Pk.den_go]; exact HR.out⟩⟩
  clear hS hR hot hob ho0
  rcases hform with ⟨e1, e2⟩ | ⟨gt, ct, e1, e2⟩
  all_goals
    subst e1
    subst e2
    go_enter Try.func47, Try.ntmps47
    go_wp2_with (at_builtin; go_must (refine wpList_app _ rfl (.tmp 16) (.tmp 19) 69 rfl c.b0 111 i0 _ 4 32 Try.underlying69 HI.out HZ.out.1 HZ.out.2.1 HZ.out.2.2 rfl (by decide) _ 0 [] (by simp [Act.eval] <;> rfl) HOT.out (fun b => b = W.heap.size) (some ⟨W.heap.size, 0, none⟩) 1 1 [.int .i64 hd, .bool false, .int .i64 0, .int .i64 0] (by simp [Act.eval]) (by simp) HRD.out (by intro u hu; simp at hu; rcases hu with rfl | rfl | rfl | rfl <;> rfl) (by unfold maxLen; omega) (by omega) (by simp; omega) ?_; intro v2 w2 hown2 hg2 hat2 hnil2; have d0' := (hg2.cell_far ⟨sb, 10, none⟩ (by show sb < _; simp; omega) (fun e => by have := (HLT.out sb e.symm).1; omega)).trans ((World.cell?_alloc_lt _ _ _ hsl).trans c10); have df' : w2.frozen? ⟨sb, 10, none⟩ = false := (hg2.frozen_far ⟨sb, 10, none⟩ (by show sb < _; simp; omega) (fun e => by have := (HLT.out sb e.symm).1; omega)).trans ((World.frozen?_of_block (Below.heap_alloc _ _ sb hsl)).trans f10); have HO2 := Lib.hid hown2; have HG2 := Lib.hid hg2; have HA2 := Lib.hid hat2; obtain ⟨A2, c2, rfl⟩ := own_form hown2; clear hown2 hg2 hat2 hnil2))
    have HPU := Pk.Se.push (W2 := w2) HS.out.se (.cells #[.int .i64 hd, .bool false, .int .i64 0, .int .i64 0] 111) (A2 := A2) (c2 := c2) (n2 := 1) (ts2 := [Tn.go hd]) rfl HO2.out ⟨HG2.out.os, HG2.out.tape, HG2.out.output, HG2.out.size, HG2.out.block⟩ HA2.out (fun b hb hbb => by rw [List.mem_singleton.1 hb] at hbb; cases hbb)
    obtain ⟨HB1, HL1⟩ := HL.out _ HPU.2 ⟨_, ⟨HPU.1, HS.out.rl, HS.out.ql, HS.out.qn, by rw [List.length_singleton]; exact hfree, HS.out.dle⟩⟩
    clear HPU d0' df' HO2 HG2 HA2 HL HOT HRD HLT c10 f10 HS
    generalize w2.setCell ⟨sb, 10, none⟩ (.slice A2 (0 + 1) c2) = wy at *
    go_loopw [9, 10] (fun _ _ wr => Hid (Below c.b0 W wr) ∧ Hid (∃ dn tv ts r xo xh q, Pk.St c pre post k 100000 wr sb dn tv ts r xo xh q ∧ Pk.due c.L c.t k (Pk.exe dn k) q (Pk.den r ts) = R)) (fun _ _ w => Pk.left (Pk.blockOf c.dv) k c.L.length w + Pk.turnsOf sb w)
    case atStart => exact ⟨HB1, HL1⟩
    case round =>
      obtain ⟨HB, H1⟩ := hrel
      obtain ⟨dn, tv, ts, r, xo, xh, q, hSt, hD⟩ := H1.out
      clear H1 HL1 HB1
      have HSt := Lib.hid hSt
      have HD := Lib.hid hD
      have c10 : wr.cell? ⟨sb, 10, none⟩ = some tv := (hSt.se.cell 10).trans rfl
      have f10 := hSt.se.row.frozen 10
      have hsr := hSt.se.lt
      cases ts with
      | nil =>
        obtain ⟨A, cv, hv0⟩ := own_form hSt.se.otv
        have hv0 : tv = .slice A 0 cv := hv0
        rw [hv0] at c10
        have HE : Hid (R = (Pk.exe dn k, q, none)) := Lib.hid (by rw [← hD]; exact Pk.due_nil)
        clear hSt hD hv0
        go_wp2_with fail
        go_ret
        exact ⟨_, rfl, HB.out, _, _, _, _, _, _, _, HSt.out, HE.out⟩
      | cons a ts =>
        have hot : wr.ownsRow c.b0 turnT 4 tv (ts.length + 1) (tcells (a :: ts).reverse) := hSt.se.otv
        obtain ⟨gt, ct, hvt, hgt1, hgt2⟩ := own_some hot (by omega)
        have hv1 : tv = .slice (some ⟨gt, 0, none⟩) (ts.length + 1) ct := hvt
        rw [hv1] at c10 hot
        obtain ⟨k0, k1, k2, k3⟩ := tcells_top rfl hot
        have hct : ts.length + 1 ≤ ct := by
          rcases own_two hot with ⟨e, _, _⟩ | ⟨g', k, e, _, hk, _⟩
          · cases e
          · cases e; exact hk
        have htl : ts.length ≤ 100000 := by have := hSt.tn; rw [List.length_cons] at this; omega
        have hltI : (ts.length : Int) ≤ (ct : Int) := by omega
        have HV1 := Lib.hid hv1
        obtain ⟨ah, ab, an, ao⟩ := a
        cases ab with
        | true =>
          have hfit := hSt.se.fit ⟨ah, true, an, ao⟩ List.mem_cons_self rfl
          have hfit : 0 ≤ an ∧ an < (c.wd : Int) := hfit
          obtain ⟨hn0, hn1⟩ := hfit
          have hrl := hSt.rl
          have HVr : Hid (c.no = .slice (some ⟨g, 0, none⟩) (pre ++ (r ++ post)).length cap) := Lib.hid (by rw [HV.out]; congr 1; simp; omega)
          obtain ⟨rc, rf⟩ := hSt.se.rowcell HVr.out (pre.length + an.toNat) (by show _ < (pre ++ (r ++ post)).length; simp; omega)
          have hgl := (World.ownsRow.lt hSt.se.ono g (by show c.no.ownBlock = _; rw [HVr.out]; rfl))
          have hgn : ¬ g = sb := fun e => hSt.se.none_ (by show c.no.ownBlock = some sb; rw [HVr.out, ← e]; rfl)
          have hgn2 : ¬ sb = g := fun e => hgn e.symm
          generalize hq0 : (c.up pre post dn tv (⟨ah, true, an, ao⟩ :: ts) r xo xh q).nofs[pre.length + an.toNat]'(by show _ < (pre ++ (r ++ post)).length; simp; omega) = q0 at rc
          have hp1 := HSt.out.popped HV1.out
          have hf1 := hp1.back HVr.out an.toNat ao (by omega)
          have hbb : Below c.b0 W ((wr.setCell ⟨sb, 10, none⟩ (.slice (some ⟨gt, 0, none⟩) ts.length ct)).setCell ⟨g, pre.length + an.toNat, none⟩ (.int .i64 ao)) := (HB.out.setCell hle _).trans hf1.2
          have HF := Lib.hid (hf1.1.keep ((Below.refl _ _).alloc (Nat.le_refl _) (.cells #[.int .i64 ah, .bool true, .int .i64 an, .int .i64 ao] 111)))
          have HBF := Lib.hid (hbb.alloc (by have := hf1.1.se.lt; omega) (.cells #[.int .i64 ah, .bool true, .int .i64 an, .int .i64 ao] 111))
          clear hSt hD hv1 hot hp1 hf1 hbb hq0 hvt
          go_wp2_with fail
          go_roundw
          case rel => exact ⟨Lib.hid HBF.out, Lib.hid ⟨_, _, _, _, _, _, _, HF.out, by rw [← HD.out, Pk.den_back _ _ rfl]⟩⟩
          case measure => rw [HF.out.left, HSt.out.left, turnsOf_is HF.out.se, turnsOf_is HSt.out.se]; show _ + ts.length < _ + (ts.length + 1); omega
        | false =>
          have hrl := hSt.rl
          have HVr : Hid (c.no = .slice (some ⟨g, 0, none⟩) (pre ++ (r ++ post)).length cap) := Lib.hid (by rw [HV.out]; congr 1; simp; omega)
          have hp1 := HSt.out.popped HV1.out
          have hbb : Below c.b0 W (wr.setCell ⟨sb, 10, none⟩ (.slice (some ⟨gt, 0, none⟩) ts.length ct)) := HB.out.setCell hle _
          have HP := Lib.hid (hp1.keep ((Below.refl _ _).alloc (Nat.le_refl _) (.cells #[.int .i64 ah, .bool false, .int .i64 an, .int .i64 ao] 111)))
          have HBF := Lib.hid (hbb.alloc (by have := hp1.se.lt; omega) (.cells #[.int .i64 ah, .bool false, .int .i64 an, .int .i64 ao] 111))
          have htn : ts.length + 1 + Pk.free c.L.length (Pk.exe dn k) ≤ 100000 := hSt.tn
          have HRR : Hid (Pk.due c.L c.t k (Pk.exe dn k) q ((ah, r) :: Pk.den r ts) = R) := Lib.hid (by rw [← hD, Pk.den_head _ _ rfl])
          clear hSt hD hv1 hot hp1 hbb hvt
          go_wp2_with (go_at_call 60; go_must (refine (run_any HK.out (M := ts.length + Pk.free c.L.length (Pk.exe dn k)) (by omega) (HP.out.low (Nat.le_refl _)) ah HVr.out HRR.out).mono ?_; rintro e w3 ⟨b, rfl, hran⟩; have HRan := Lib.hid hran; clear hran; cases b))
          · obtain ⟨hb3, dn3, tv3, ts3, r3, xo3, xh3, q3, hS3, hR3⟩ := HRan.out
            rw [if_neg (by simp)] at hR3
            refine ⟨⟨Lib.hid (HBF.out.trans hb3), Lib.hid ⟨_, _, _, _, _, _, _, hS3.low (by have := hS3.tn; omega), hR3⟩⟩, ?_⟩
            rw [hS3.left, HSt.out.left, turnsOf_is hS3.se, turnsOf_is HSt.out.se]
            show _ + ts3.length < _ + (ts.length + 1)
            have := hS3.tn
            omega
          · go_ret
            obtain ⟨hb3, dn3, tv3, ts3, r3, xo3, xh3, q3, hS3, hR3⟩ := HRan.out
            rw [if_pos rfl] at hR3
            exact ⟨_, rfl, HBF.out.trans hb3, _, _, _, _, _, _, _, hS3.low (by have := hS3.tn; omega), by rw [hR3]; rfl⟩
end Go.Proofs.Ytedppnejkjcplaa
