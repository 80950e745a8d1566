/-
  AggTurns: for every slice of Vals (nil too, of whatever length) the law's call returns true and leaves its argument as it was. No condition.
-/
import Derived.Test.YtjaclmhfagdfhaaAgLaw
import Derived.Test.YtjaclmhfagdfhaaAgBet
import Derived.Test.YtjaclmhfagdfhaaAgOp
import Derived.ProofKit
import Derived.OpenShut
import Derived.ChangeOld
import Derived.Below
import Derived.Lib.SmallJoins
import Derived.ChangeArms
namespace Go.Proofs.Ytjaclmhfagdfhaa
open Go.RowKit Go.Sort
open Fx (Vl)
open Me

def Ag.Small (l : List Vl) (j : Nat) : Prop := ∀ t (h : t < l.length), j ≤ t → -1125899906842624 ≤ l[t].n ∧ l[t].n ≤ 1125899906842624
theorem Ag.small_all {l : List Vl} (h : Ag.Small l 0) : ∀ v ∈ l, -1125899906842624 ≤ v.n ∧ v.n ≤ 1125899906842624 := by
  intro v hv
  obtain ⟨t, ht, rfl⟩ := List.getElem_of_mem hv
  exact h t ht (Nat.zero_le _)
theorem Ag.small_more {l : List Vl} {j : Nat} (h : Ag.Small l (j + 1)) (hj : j < l.length) (h1 : -1125899906842624 ≤ l[j].n) (h2 : l[j].n ≤ 1125899906842624) : Ag.Small l j := by
  intro t ht hle
  by_cases e : t = j
  · subst e; exact ⟨h1, h2⟩
  · exact h t ht (by omega)
theorem Ag.rev_more {l : List Vl} {j : Nat} (hj : j < l.length) : (l.drop j).reverse = (l.drop (j + 1)).reverse ++ [l[j]] := by
  rw [List.drop_eq_getElem_cons hj, List.reverse_cons]

set_option maxHeartbeats 4000000 in
theorem turns_any (l : List Vl) (A : Option Addr) (c : Nat) (w : World) (hv : Sl w (.slice A l.length c) l) :
    Calls Try.prog 7 #[.slice A l.length c] w fun e w' => e = .returned (.bool true) ∧ Below w.heap.size w w' := by
  by_cases hlong : 200 < (l.length : Int)
  · clear hv
    go_enter Try.func7, Try.ntmps7
    go_wp2
    go_ret
    exact ⟨rfl, Below.refl _ _⟩
  have hl : l.length ≤ 200 := by omega
  obtain ⟨j0, hj0, hy0, hy1, hy2⟩ := info_parts infoVal
  have HJ := Lib.hid hj0
  have HY := Lib.hid (And.intro hy0 (And.intro hy1 hy2))
  have HS := Lib.hid (fun W (hb : Below w.heap.size w W) => hv.below hb)
  have O1 : Hid (∀ kind v W, Sl W v l → Calls Try.prog 8 #[.int .i64 kind, v] W fun e w' => e = .returned (.agg #[.bool (Ag.tg kind (Ag.kn l)).ok, .int .i64 (Ag.tg kind (Ag.kn l)).n]) ∧ Below W.heap.size W w') := Lib.hid fun kind v W h => of_v kind l (by omega) v W h
  have O2 : Hid (∀ kind v W, Sl W v l.reverse → Calls Try.prog 8 #[.int .i64 kind, v] W fun e w' => e = .returned (.agg #[.bool (Ag.tg kind (Ag.kn l.reverse)).ok, .int .i64 (Ag.tg kind (Ag.kn l.reverse)).n]) ∧ Below W.heap.size W w') := Lib.hid fun kind v W h => of_v kind l.reverse (by rw [List.length_reverse]; omega) v W h
  clear hj0 hy0 hy1 hy2 hv
  go_enter Try.func7, Try.ntmps7
  go_wp2_with fail
  go_loopw [3, 4] (fun v i wr => ∃ j : Nat, j ≤ l.length ∧ i = .int .i64 ((j : Int) - 1) ∧ OwnV w.heap.size wr v (l.drop j).reverse ∧ Below w.heap.size w wr ∧ Hid (Ag.Small l j)) (fun _ i _ => (intOf i + 1).toNat)
  case atStart => exact ⟨l.length, Nat.le_refl _, by go_num, by rw [List.drop_length]; exact OwnV.nil _ _, Below.refl _ _, Lib.hid fun t h1 h2 => by omega⟩
  case round =>
    obtain ⟨j, hj, rfl, hown, hbel, HSM⟩ := hrel
    obtain ⟨m, hm⟩ : ∃ m, Hid (m = (l.drop j).reverse) := ⟨_, Lib.hid rfl⟩
    rw [← hm.out] at hown
    have hml : m.length ≤ 200 := by rw [hm.out, List.length_reverse, List.length_drop]; omega
    obtain ⟨A3, c3, rfl⟩ := hown.slice
    have HB := Lib.hid hbel
    have HO := Lib.hid hown
    have hws := hbel.size
    cases j with
    | zero =>
      have HLR : Hid (∀ W, Below wr.heap.size wr W → Sl W (.slice A3 m.length c3) l.reverse) := Lib.hid fun W hb => by
        have h := hown.sl
        have e : m = l.reverse := by rw [hm.out, List.drop_zero]
        rw [e] at h ⊢
        exact h.below hb
      have HLL : Hid (∀ W, Below wr.heap.size wr W → Sl W (.slice A l.length c) l) := Lib.hid fun W hb => HS.out W (HB.out.trans (hb.mono HB.out.size))
      have HQ := Lib.hid (fun kind h3 => Ag.tg_reverse kind l hl (Ag.small_all HSM.out) h3)
      clear hown hbel
      obtain ⟨wo, hwo⟩ : ∃ wo, wo = wr := ⟨_, rfl⟩
      subst hwo
      have e0 : (((0 : Nat) : Int) - 1) = -1 := rfl
      rw [e0]
      clear e0
      go_wp2_with fail
      go_loopw [5] (fun i wq => ∃ k : Nat, 1 ≤ k ∧ k ≤ 6 ∧ i = .int .i64 k ∧ Below wo.heap.size wo wq) (fun i _ => 6 - (intOf i).toNat)
      case atStart => exact ⟨1, Nat.le_refl _, by omega, rfl, Below.refl _ _⟩
      case round =>
        obtain ⟨k, hk1, hk6, rfl, hbq⟩ := hrel
        have HBQ := Lib.hid hbq
        have hqs := hbq.size
        clear hbq
        by_cases h6 : k = 6
        · subst h6
          go_wp2_with (go_at_call 13; go_must (refine (known6_any _).mono ?_; rintro e w' ⟨rfl, hb⟩))
          go_ret
          exact ⟨rfl, HB.out.trans ((HBQ.out.trans (hb.mono hqs)).mono hws)⟩
        by_cases h3 : k = 3
        · subst h3
          go_wp2_with fail
          go_roundw
          case rel => exact ⟨4, by omega, by omega, by go_num, HBQ.out⟩
          case measure => simp [intOf]
        have h3' : ((k : Int) == 3) = false := by simpa using fun e : (k : Int) = 3 => h3 (by omega)
        have C1 : Hid (∀ W, Below wo.heap.size wo W → Calls Try.prog 8 #[.int .i64 (k : Int), .slice A l.length c] W fun e w' => e = .returned (.agg #[.bool (Ag.tg (k : Int) (Ag.kn l)).ok, .int .i64 (Ag.tg (k : Int) (Ag.kn l)).n]) ∧ Below W.heap.size W w') := Lib.hid fun W hb => O1.out _ _ W (HLL.out W hb)
        have C2 : Hid (∀ W, Below wo.heap.size wo W → Calls Try.prog 8 #[.int .i64 (k : Int), .slice A3 m.length c3] W fun e w' => e = .returned (.agg #[.bool (Ag.tg (k : Int) (Ag.kn l)).ok, .int .i64 (Ag.tg (k : Int) (Ag.kn l)).n]) ∧ Below W.heap.size W w') := Lib.hid fun W hb => by
          have h := O2.out (k : Int) _ W (HLR.out W hb)
          rw [HQ.out (k : Int) (by omega)] at h
          exact h
        generalize Ag.tg (k : Int) (Ag.kn l) = q at *
        obtain ⟨qo, qn⟩ := q
        go_wp2_with first | (go_at_call 8; ((with_reducible refine (C1.out _ HBQ.out).mono ?_); rintro e w1 ⟨rfl, hb1⟩; have hs1 := hb1.size)) | (go_at_call 8; ((with_reducible refine (C2.out _ (HBQ.out.trans (hb1.mono hqs))).mono ?_); rintro e w2 ⟨rfl, hb2⟩; have hs2 := hb2.size))
        go_roundw
        case rel => exact ⟨k + 1, by omega, by omega, by go_num, HBQ.out.trans ((hb1.trans (hb2.mono hs1)).mono hqs)⟩
        case measure => simp [intOf]; omega
    | succ j =>
      have hlt : j < l.length := by omega
      have e1 : (((j + 1 : Nat) : Int) - 1) = (j : Int) := by omega
      rw [e1]
      obtain ⟨b, off, rfl, hv⟩ : ∃ b off, A = some ⟨b, off, none⟩ ∧ Vals w b off l := by
        rcases HS.out w (Below.refl _ _) with ⟨e, _⟩ | ⟨_, b, off, cap, e, hv⟩
        · rw [e] at hlt; cases hlt
        · injection e with e1 e2 e3
          exact ⟨b, off, e1, hv⟩
      have hvr := hv.below hbel
      have ec0 := hvr.ok j hlt
      have ec1 := hvr.n j hlt
      have hbr := hvr.lt
      have HV := Lib.hid (fun W (hb : Below w.heap.size w W) => (hv.below hb).n j hlt)
      have HRV := Lib.hid (Ag.rev_more hlt)
      have HSN := Lib.hid (fun h1 h2 => Ag.small_more HSM.out hlt h1 h2)
      have hkl : (j : Int) < (l.length : Int) := by omega
      have hk0 : (0 : Int) ≤ (j : Int) := by omega
      clear hown hbel hvr hv e1
      rw [← hm.out] at HRV
      generalize l[j] = ek at *
      obtain ⟨eo, en⟩ := ek
      by_cases hbig : 1125899906842624 < en
      · go_wp2_with first | (at_builtin; refine wpList_app _ rfl (.tmp 16) (.tmp 21) 22 rfl w.heap.size 24 j0 (.agg #[.bool false, .int .i64 0]) 2 16 Try.underlying22 HJ.out HY.out.1 HY.out.2.1 HY.out.2.2 rfl (by decide) (.slice A3 m.length c3) m.length (cellsOf m) rfl (HO.out.below ((Below.refl _ _).alloc (Nat.le_refl _) _)) (fun b => b = wr.heap.size) (some ⟨wr.heap.size, 0, none⟩) 1 1 [.bool eo, .int .i64 en] rfl rfl (Rd.fresh _ _ _ _ rfl) (by intro u hu; simp at hu; rcases hu with rfl | rfl <;> rfl) (by unfold maxLen; omega) (by omega) (by simp; omega) ?_; intro v2 w2 hown2 hg2 hat2 hnil2; have HN := Lib.hid (own_append (HB.out.alloc hws _) (HO.out.below ((Below.refl _ _).alloc (Nat.le_refl _) _)) hown2 hg2); have ed1 : w2.cell? ⟨b, off + j * 2 + 1, none⟩ = some (.int .i64 en) := HV.out w2 HN.out.2; have hbd := World.block_lt_of_cell? w2 _ ed1; obtain ⟨A2, n2, c2, rfl⟩ := own_slice hown2; clear hown2 hg2 hat2 hnil2) | (go_at_call 13; (((with_reducible refine (known6_any _).mono ?_)); rintro e w3 ⟨rfl, hb3⟩; obtain ⟨hc3, hf3⟩ := bcell hb3; (try have hq3w : w.heap.size < w3.heap.size := Nat.lt_of_lt_of_le (by first | assumption | (simp; done) | (simp; omega)) hb3.size); have hs3 := hb3.size; (try simp at hs3)))
        go_ret
        exact ⟨rfl, HN.out.2.trans (hb3.mono HN.out.2.size)⟩
      by_cases hneg : en < -1125899906842624
      · go_wp2_with first | (at_builtin; refine wpList_app _ rfl (.tmp 16) (.tmp 21) 22 rfl w.heap.size 24 j0 (.agg #[.bool false, .int .i64 0]) 2 16 Try.underlying22 HJ.out HY.out.1 HY.out.2.1 HY.out.2.2 rfl (by decide) (.slice A3 m.length c3) m.length (cellsOf m) rfl (HO.out.below ((Below.refl _ _).alloc (Nat.le_refl _) _)) (fun b => b = wr.heap.size) (some ⟨wr.heap.size, 0, none⟩) 1 1 [.bool eo, .int .i64 en] rfl rfl (Rd.fresh _ _ _ _ rfl) (by intro u hu; simp at hu; rcases hu with rfl | rfl <;> rfl) (by unfold maxLen; omega) (by omega) (by simp; omega) ?_; intro v2 w2 hown2 hg2 hat2 hnil2; have HN := Lib.hid (own_append (HB.out.alloc hws _) (HO.out.below ((Below.refl _ _).alloc (Nat.le_refl _) _)) hown2 hg2); have ed1 : w2.cell? ⟨b, off + j * 2 + 1, none⟩ = some (.int .i64 en) := HV.out w2 HN.out.2; have hbd := World.block_lt_of_cell? w2 _ ed1; obtain ⟨A2, n2, c2, rfl⟩ := own_slice hown2; clear hown2 hg2 hat2 hnil2) | (go_at_call 13; (((with_reducible refine (known6_any _).mono ?_)); rintro e w3 ⟨rfl, hb3⟩; obtain ⟨hc3, hf3⟩ := bcell hb3; (try have hq3w : w.heap.size < w3.heap.size := Nat.lt_of_lt_of_le (by first | assumption | (simp; done) | (simp; omega)) hb3.size); have hs3 := hb3.size; (try simp at hs3)))
        go_ret
        exact ⟨rfl, HN.out.2.trans (hb3.mono HN.out.2.size)⟩
      go_wp2_with (at_builtin; refine wpList_app _ rfl (.tmp 16) (.tmp 21) 22 rfl w.heap.size 24 j0 (.agg #[.bool false, .int .i64 0]) 2 16 Try.underlying22 HJ.out HY.out.1 HY.out.2.1 HY.out.2.2 rfl (by decide) (.slice A3 m.length c3) m.length (cellsOf m) rfl (HO.out.below ((Below.refl _ _).alloc (Nat.le_refl _) _)) (fun b => b = wr.heap.size) (some ⟨wr.heap.size, 0, none⟩) 1 1 [.bool eo, .int .i64 en] rfl rfl (Rd.fresh _ _ _ _ rfl) (by intro u hu; simp at hu; rcases hu with rfl | rfl <;> rfl) (by unfold maxLen; omega) (by omega) (by simp; omega) ?_; intro v2 w2 hown2 hg2 hat2 hnil2; have HN := Lib.hid (own_append (HB.out.alloc hws _) (HO.out.below ((Below.refl _ _).alloc (Nat.le_refl _) _)) hown2 hg2); have ed1 : w2.cell? ⟨b, off + j * 2 + 1, none⟩ = some (.int .i64 en) := HV.out w2 HN.out.2; have hbd := World.block_lt_of_cell? w2 _ ed1; obtain ⟨A2, n2, c2, rfl⟩ := own_slice hown2; clear hown2 hg2 hat2 hnil2)
      go_roundw
      case rel => exact ⟨j, by omega, by go_num, by rw [HRV.out]; exact HN.out.1, HN.out.2, Lib.hid (HSN.out (by show _ ≤ en; omega) (by show en ≤ _; omega))⟩
      case measure => simp [intOf]


namespace RowAggTurns
open Go.ChangeShapes Go.WideShapes Go.ChangeAt Go.RowKit Go.Joins
theorem own : ownKnob Try.prog.godebug = none := by kernel_rfl
theorem laidOut : laidOutB Try.prog = true := by kernel_rfl
set_option maxRecDepth 100000 in
theorem lifted (os : Os) (started : os.Started) (H : Type) (enc : TypeId × Value → H) :
    ReturnsInHanded {} Try.checked os 7 .any (Rows.aggTurnsSpec.pre6 enc Try.prog Try.f7 Rows.aggTurnsRow.domain false) (Rows.aggTurnsSpec.post enc Try.prog Try.f7 false true false false) := by
  refine returnsInHanded_of_change (C := Try.checked) own started (by kernel_rfl) Try.func7
    (ChangeSpec.witness6 (enc := enc) (C := Try.checked) false ⟨#[], #[.slice none 0 0], []⟩ 8 (by kernel_rfl) (by kernel_rfl) (by kernel_rfl) (by kernel_rfl)) ?_
  intro W base args ds gs before hval0 hW hcnd _
  have hval : ∀ (j : Nat) t v, Try.f7.params[j]? = some t → args[j]? = some v → Value.okWide Try.prog W .any base t v := hval0
  have hW' := hW
  obtain ⟨p, q, hA0, hV, rfl, hfz, hnd⟩ := hW
  have hA : DataW.TrodAll enc Try.prog W 0 (fun _ => true) true Try.f7.params.toList args.toList ds p := hA0
  rw [Try.params7] at hA hval
  obtain ⟨v0, vs0, d0, ds0, p0, q0, hargs, rfl, rfl, h0, r0⟩ := trodAll_cons hA
  obtain ⟨rfl, rfl, rfl⟩ := trodAll_nil r0
  obtain rfl : args = #[v0] := by cases args; simp_all
  obtain ⟨rfl, rfl⟩ := trodVars_none hV
  have k0 := h0
  have lt0 : ∀ x ∈ p0, x.block < W.heap.size := by obtain ⟨m, hm⟩ := k0; exact DataW.trod_lt m _ _ _ hm
  obtain ⟨A0, cp0, M0, e0, hm0⟩ := OpV.valsV (hval 0 22 v0 rfl rfl) h0
  subst e0
  clear hA0 hval0
  refine (turns_any M0 A0 cp0 W hm0).mono fun e W' ⟨he, bel⟩ => ?_
  subst he
  exact ⟨_, rfl, _, _, _, [], _, [], hW', trodAll_mk1 (shut_bool Try.underlying4 _), (trodAll_cons_mk (Below.trod laidOut (by kernel_rfl) (of_decide_eq_true (by kernel_rfl)) k0 bel lt0) trodAll_mk0), rfl, bel.frame _, fun h => by cases h⟩
end RowAggTurns

theorem aggTurns_holds : Rows.AggTurnsSaid :=
  OpenClaim.holds_of_wide 7 Try.f7 rfl rfl rfl rfl rfl rfl rfl ⟨rfl, rfl, rfl, rfl, rfl⟩ rfl rfl rfl rfl rfl (by kernel_rfl) Try.func7 (by kernel_rfl)
    (of_decide_eq_true (by kernel_rfl)) (by unfold Func.isWrapper; first | (rw [if_pos (by decide +kernel)]; kernel_rfl) | (rw [if_neg (by decide +kernel)]; exact ⟨rfl, rfl⟩))
    (fun os started H enc _ => RowAggTurns.lifted os started H enc)

#print axioms aggTurns_holds
end Go.Proofs.Ytjaclmhfagdfhaa
