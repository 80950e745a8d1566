/-
  SbAl: CONTRACTS: chapter 13: the plain side of All: what is found lies in the text; one match after the other.
  SbRep: CONTRACTS: chapter 13: replace: what becomes of the text up to the end of the next match.
-/
import Derived.Test.YtelbabgkpflckaaK3
import Derived.Test.YtelbabgkpflckaaJ27

set_option linter.unusedSimpArgs false
set_option linter.unusedVariables false
namespace Go.Proofs.Ytelbabgkpflckaa
open Go.RowKit Go.Sort
open Me
open Pk

namespace Sb
def Vals (n : Nat) (r : Row) : Prop := ∀ v ∈ r, v ≤ (n : Int)
theorem put_vals {n k : Nat} {r : Row} (h : Vals n r) (hk : k ≤ n) (i : Int) : Vals n (Pk.put r i k) := by
  unfold Pk.put
  split
  · intro v hv
    rcases List.mem_or_eq_of_mem_set hv with hv | rfl
    · exact h v hv
    · omega
  · exact h
theorem act_vals {t : List UInt8} {k : Nat} {x : Rx.In} {h : Int} {r : Row} {m : List (Int × Row)} (hk : k ≤ t.length) (hr : Vals t.length r) (e : Pk.act t k x h r = .go m) : ∀ y ∈ m, Vals t.length y.2 := by
  unfold Pk.act at e
  repeat' split at e
  all_goals first | (cases e; done) | (cases e; intro y hy; simp at hy; first | (rcases hy with rfl | rfl <;> exact hr) | (subst hy; first | exact hr | exact put_vals hr hk _))
theorem dfs_vals {L : List Rx.In} {t : List UInt8} (S : Seen) (l : List Ent) (hl : ∀ e ∈ l, Vals t.length e.2.2) : ∀ r, (dfs L t S l).1 = some r → Vals t.length r := by
  induction hn : mu L t S l using Nat.strongRecOn generalizing S l with
  | _ n' ih =>
    subst hn
    match l with
    | [] => rw [dfs_nil]; intro r h; cases h
    | (h, k, r) :: l =>
      have hk : Vals t.length r := hl _ List.mem_cons_self
      have hl2 : ∀ e ∈ l, Vals t.length e.2.2 := fun e he => hl e (List.mem_cons_of_mem _ he)
      cases hx : fetch L h with
      | none =>
        rw [dfs_out hx]
        exact ih _ (by unfold mu; simp) S l hl2 rfl
      | some x =>
        by_cases hs : S h.toNat k = true ∨ t.length < k
        · rw [dfs_seen hs]
          exact ih _ (by unfold mu; simp) S l hl2 rfl
        · have hs1 : S h.toNat k = false := by cases e : S h.toNat k <;> simp_all
          have hs2 : k ≤ t.length := by omega
          rw [dfs_act hx hs1 hs2]
          have hm := mu_see L t (fetch_some hx).2.1 hs2 hs1
          cases ha : Pk.act t k x h r with
          | dead => exact ih _ (by unfold mu; simp only [List.length_cons]; omega) _ _ hl2 rfl
          | hit => intro q hq; cases hq; exact hk
          | next =>
            refine ih _ (by unfold mu; simp only [List.length_cons]; omega) _ _ ?_ rfl
            intro e he
            rcases List.mem_cons.1 he with rfl | he
            · exact hk
            · exact hl2 e he
          | go m =>
            have h2 := act_go_len ha
            refine ih _ (by unfold mu; simp only [List.length_cons, List.length_append, List.length_map]; omega) _ _ ?_ rfl
            intro e he
            rcases List.mem_append.1 he with he | he
            · obtain ⟨y, hy, rfl⟩ := List.mem_map.1 he
              exact act_vals hs2 hk ha y hy
            · exact hl2 e he
theorem first_vals {L : List Rx.In} {t : List UInt8} {w : Nat} : ∀ (n k : Nat) (r : Row), first L t w k n = some r → Vals t.length r
  | 0, _, _, h => by cases h
  | n + 1, k, r, h => by
    unfold first walk at h
    cases hd : (dfs L t nothing [((0 : Int), k, Pk.blank w)]).1 with
    | none => rw [hd] at h; exact first_vals n (k + 1) r h
    | some q =>
      rw [hd] at h
      obtain rfl : q = r := Option.some.inj h
      refine dfs_vals _ _ (fun e he => ?_) _ hd
      rw [List.mem_singleton.1 he]
      intro v hv
      have : v = -1 := by
        have hv2 : v ∈ Pk.blank w := hv
        unfold Pk.blank at hv2
        exact List.eq_of_mem_replicate hv2
      omega
/-- What is found: two values at least, none beyond the text. -/
theorem findP_some {G : Int} {L : List Rx.In} {t : List UInt8} {fr : Int} {r : Row} (h : findP G L t fr = some r) : 2 ≤ r.length ∧ r.length ≤ 1048576 ∧ Vals t.length r := by
  have h2 := findP_rows G L t fr
  rw [h] at h2
  unfold findP at h
  split at h
  · cases h
  · have h1 := first_rows _ _ _ h
    exact ⟨by omega, h2, first_vals _ _ _ h⟩

/-- Where a match lies; none where there is none that can be taken. -/
def x0 (r : Row) : Int := r.getD 0 0
def x1 (r : Row) : Int := r.getD 1 0
def Good (r : Row) (k : Nat) : Prop := (k : Int) ≤ x0 r ∧ x0 r ≤ x1 r
instance (r : Row) (k : Nat) : Decidable (Good r k) := by unfold Good; infer_instance
/-- What becomes of the text from a place on, up to the end of the next match, and where it goes on. -/
def mid (t T : List UInt8) (r : Row) (k : Nat) : List UInt8 :=
  (t.drop k).take ((x0 r).toNat - k) ++ (ex (sub t r) T ++ (if x0 r < x1 r then [] else (t.drop (x1 r).toNat).take 1))
def nxt (r : Row) : Nat := if x0 r < x1 r then (x1 r).toNat else (x1 r).toNat + 1
def stp (F : Nat → Option Row) (t T : List UInt8) (k : Nat) : List UInt8 × Nat := match F k with
  | none => (t.drop k, t.length + 1)
  | some r => if Good r k then (mid t T r k, nxt r) else (t.drop k, t.length + 1)
theorem stp_gt {F : Nat → Option Row} {t T : List UInt8} {k : Nat} (hk : k ≤ t.length) : k < (stp F t T k).2 := by
  unfold stp
  cases F k with
  | none => show k < t.length + 1; omega
  | some r =>
    show k < (if Good r k then (mid t T r k, nxt r) else (t.drop k, t.length + 1)).2
    split
    · rename_i h
      obtain ⟨h1, h2⟩ := h
      show k < nxt r
      unfold nxt
      split <;> omega
    · show k < t.length + 1; omega
def alN (F : Nat → Option Row) (t T : List UInt8) : Nat → Nat → List UInt8
  | 0, _ => []
  | n + 1, k => if k ≤ t.length then (stp F t T k).1 ++ alN F t T n (stp F t T k).2 else []
theorem alN_same {F : Nat → Option Row} {t T : List UInt8} : ∀ n m k, t.length + 1 - k ≤ n → t.length + 1 - k ≤ m → alN F t T n k = alN F t T m k
  | 0, 0, _, _, _ => rfl
  | 0, m + 1, k, h, _ => by unfold alN; rw [if_neg (by omega)]
  | n + 1, 0, k, _, h => by unfold alN; rw [if_neg (by omega)]
  | n + 1, m + 1, k, h, h2 => by
    unfold alN
    by_cases hk : k ≤ t.length
    · rw [if_pos hk, if_pos hk]
      have := stp_gt (F := F) (T := T) hk
      rw [alN_same n m _ (by omega) (by omega)]
    · rw [if_neg hk, if_neg hk]
/-- The whole from a place on. -/
def al (F : Nat → Option Row) (t T : List UInt8) (k : Nat) : List UInt8 := alN F t T (t.length + 1) k
theorem al_step {F : Nat → Option Row} {t T : List UInt8} {k : Nat} (hk : k ≤ t.length) : al F t T k = (stp F t T k).1 ++ al F t T (stp F t T k).2 := by
  unfold al
  rw [show alN F t T (t.length + 1) k = (stp F t T k).1 ++ alN F t T t.length (stp F t T k).2 by conv => lhs; unfold alN; rw [if_pos hk]]
  have := stp_gt (F := F) (T := T) hk
  rw [alN_same t.length (t.length + 1) _ (by omega) (by omega)]
theorem al_end {F : Nat → Option Row} {t T : List UInt8} {k : Nat} (hk : t.length < k) : al F t T k = [] := by
  unfold al alN
  rw [if_neg (by omega)]
end Sb
end Go.Proofs.Ytelbabgkpflckaa

namespace Go.Proofs.Ytelbabgkpflckaa
open Go.RowKit Go.Sort
open Me
open Pk

namespace Sb
theorem below_drewN (w : World) (n : Nat) (B : Nat) : Below B w (w.drewN n) := ⟨rfl, rfl, rfl, Nat.le_refl _, fun _ _ => rfl⟩
theorem own_lets {w w' : World} {base n c : Nat} {A : Option Addr} {l : List Int} (h : w.ownsRow base Pk.intT 1 (.slice A n c) n (iv l)) (hl : Lets w w') : Rd w' (fun _ => True) A (iv l) := by
  have h2 : w'.ownsRow base Pk.intT 1 (.slice A n c) n (iv l) := by
    refine ⟨h.1, ?_⟩
    rcases h.2 with hn | ⟨g, cap, cur, hv, hb, hg, rest⟩
    · exact .inl hn
    · exact .inr ⟨g, cap, cur, hv, hb, hl g cur _ _ hg (by decide) (by decide), rest⟩
  exact (Rd.own h2).mono fun _ _ _ => trivial
theorem text_from (t : List UInt8) (k : Nat) : (⟨t.toArray⟩ : ByteArray).extract k t.length = ⟨(t.drop k).toArray⟩ := by
  rw [Pk.extr, List.take_of_length_le (by rw [List.length_drop]; exact Nat.le_refl _)]
end Sb

theorem sbFind_any {W : World} {A : Option Addr} {cp : Nat} {L : List Rx.In} {t : List UInt8} {G fr : Int} (hp : Rd W (fun _ => True) A (icells L)) (hL : L.length ≤ 4096) (ht : t.length ≤ 1048576) :
    Calls Try.prog 9 #[.agg #[.int .i64 G, .slice A L.length cp], .string ⟨t.toArray⟩, .int .i64 fr] W fun e W' => ∃ A2 c2, e = .returned (.tuple #[.slice A2 ((findP G L t fr).getD []).length c2, .bool (findP G L t fr).isSome]) ∧ Below W.heap.size W W' ∧ ∀ W'', Sb.Lets W' W'' → Rd W'' (fun _ => True) A2 (iv ((findP G L t fr).getD [])) := by
  refine (find_any hp hL ht).mono ?_
  rintro e W' ⟨v, bb, rfl, hb, hm⟩
  cases hr : findP G L t fr with
  | none =>
    rw [hr] at hm
    obtain ⟨rfl, rfl⟩ := hm
    exact ⟨none, 0, rfl, hb, fun _ _ => Rd.none_ _ _ _⟩
  | some r =>
    rw [hr] at hm
    obtain ⟨hm1, rfl, _⟩ := hm
    obtain ⟨A2, c2, rfl⟩ := own_form hm1
    exact ⟨A2, c2, rfl, hb, fun W'' hl => Sb.own_lets hm1 hl⟩

set_option maxHeartbeats 8000000 in
set_option maxRecDepth 100000 in
theorem sbReplace_none {B r R : Nat} {y T t : List UInt8} {L : List Rx.In} {G : Int} {A : Option Addr} {cp k : Nat} {w : World} (h : Sb.Res B r R y w) (hp : ∀ w', Below B w w' → Rd w' (fun _ => True) A (icells L)) (hL : L.length ≤ 4096) (ht : t.length ≤ 100000) (hk : k ≤ t.length) (hlen : y.length + t.length ≤ 1073741824) (hBw : B ≤ w.heap.size) (hR : R ≤ 9223372036854775807)
    (hbad : ∀ q, findP G L t (k : Int) = some q → ¬ Sb.Good q k) :
    Calls Try.prog 34 #[.pointer (some ⟨r, 0, none⟩), .agg #[.int .i64 G, .slice A L.length cp], .string ⟨T.toArray⟩, .string ⟨t.toArray⟩, .int .i64 (k : Int)] w fun e w' => e = .returned (.int .i64 ((t.length : Int) + 1)) ∧ Sb.Res B r R (y ++ t.drop k) w' ∧ Below B w w' ∧ Sb.Lets w w' := by
  have HF := Lib.hid fun W (hW : Rd W (fun _ => True) A (icells L)) => sbFind_any (cp := cp) (fr := (k : Int)) (G := G) (t := t) hW hL (by omega)
  have HA := Lib.hid fun W (hW : Sb.Res B r R y W) (hB : B ≤ W.heap.size) => sbAdd1 (x := t.drop k) hW (by rw [List.length_drop]; omega) hB hR
  have HP := Lib.hid hp
  have H := Lib.hid h
  have HS := Lib.hid fun q (hq : findP G L t (k : Int) = some q) => Sb.findP_some hq
  have hkI : (k : Int) ≤ (t.length : Int) := by omega
  have hk0 : (0 : Int) ≤ (k : Int) := by omega
  have hx := Sb.text_from t k
  have hwl : IntKind.i64.wrap ((t.length : Int) + 1) = (t.length : Int) + 1 := by rw [IntKind.wrap_i64]; omega
  generalize findP G L t (k : Int) = fd at *
  generalize t.drop k = td at *
  clear h hp
  have HB := Lib.hid hbad
  clear hbad
  cases fd with
  | none =>
    go_enter Try.func34, Try.ntmps34
    go_wp2_with (go_at_call 9; go_must (refine (HF.out _ (HP.out _ ((Below.refl _ _).alloc hBw _))).mono ?_; rintro e w2 ⟨A2, c2, rfl, hb2, hrd2⟩))
    have HWF : Hid (Below w.heap.size w w2) := Lib.hid (((Below.refl w.heap.size w).alloc (Nat.le_refl _) _).trans (hb2.mono (by simp)))
    go_quiet (fail)
    go_wp2_with (go_at_call 45; go_must (refine (HA.out _ (H.out.keep (HWF.out.trans (Sb.below_drewN _ _ _))) (Nat.le_trans hBw HWF.out.size)).mono ?_; rintro e w3 ⟨rfl, hr3, hb3, hl3⟩))
    go_ret
    exact ⟨rfl, hr3, (HWF.out.mono hBw).trans ((Sb.below_drewN _ _ _).trans hb3), (Sb.Lets.below HWF.out).trans ((Sb.Lets.below (Sb.below_drewN _ _ _)).trans hl3)⟩
  | some q =>
    obtain ⟨hs1, hs2, _⟩ := HS.out q rfl
    have hng := HB.out q rfl
    obtain ⟨u0, hu0⟩ : ∃ u0, Sb.x0 q = u0 := ⟨_, rfl⟩
    obtain ⟨u1, hu1⟩ : ∃ u1, Sb.x1 q = u1 := ⟨_, rfl⟩
    unfold Sb.Good at hng
    rw [hu0, hu1] at hng
    by_cases h0 : u0 < (k : Int)
    · clear hng
      go_enter Try.func34, Try.ntmps34
      go_wp2_with (go_at_call 9; go_must (refine (HF.out _ (HP.out _ ((Below.refl _ _).alloc hBw _))).mono ?_; rintro e w2 ⟨A2, c2, rfl, hb2, hrd2⟩))
      have HWF : Hid (Below w.heap.size w w2) := Lib.hid (((Below.refl w.heap.size w).alloc (Nat.le_refl _) _).trans (hb2.mono (by simp)))
      obtain ⟨b, o, rfl, hbl, _, hq⟩ := (hrd2 w2 (Sb.Lets.refl _)).lit 0 (by rw [iv_len]; show 0 < q.length; omega)
      have r1 : w2.cell? ⟨b, o, none⟩ = some (.int .i64 u0) := by
        refine hq 0 _ ?_
        show (iv q)[0]? = _
        rw [iv_get q 0 (by omega), ← hu0]
        unfold Sb.x0
        rw [List.getD_eq_getElem?_getD, List.getElem?_eq_getElem (by omega : 0 < q.length)]
        rfl
      have r2 : w2.cell? ⟨b, o + 1, none⟩ = some (.int .i64 u1) := by
        refine hq 1 _ ?_
        show (iv q)[1]? = _
        rw [iv_get q 1 (by omega), ← hu1]
        unfold Sb.x1
        rw [List.getD_eq_getElem?_getD, List.getElem?_eq_getElem (by omega : 1 < q.length)]
        rfl
      have hqI : (0 : Int) < (q.length : Int) := by omega
      have hqJ : (1 : Int) < (q.length : Int) := by omega
      have hqK : 1 < q.length := by omega
      have hqM : o + 1 = o + 1 := rfl
      clear hq hrd2 hu0 hu1
      go_quiet (fail)
      go_wp2_with (go_at_call 45; go_must (refine (HA.out _ (H.out.keep (HWF.out.trans (Sb.below_drewN _ _ _))) (Nat.le_trans hBw HWF.out.size)).mono ?_; rintro e w3 ⟨rfl, hr3, hb3, hl3⟩))
      go_ret
      exact ⟨rfl, hr3, (HWF.out.mono hBw).trans ((Sb.below_drewN _ _ _).trans hb3), (Sb.Lets.below HWF.out).trans ((Sb.Lets.below (Sb.below_drewN _ _ _)).trans hl3)⟩
    · have h1 : u1 < u0 := by omega
      have h0B : decide (u0 < (k : Int)) = false := decide_eq_false h0
      have h1B : decide (u1 < u0) = true := decide_eq_true h1
      clear hng
      go_enter Try.func34, Try.ntmps34
      go_wp2_with (go_at_call 9; go_must (refine (HF.out _ (HP.out _ ((Below.refl _ _).alloc hBw _))).mono ?_; rintro e w2 ⟨A2, c2, rfl, hb2, hrd2⟩))
      have HWF : Hid (Below w.heap.size w w2) := Lib.hid (((Below.refl w.heap.size w).alloc (Nat.le_refl _) _).trans (hb2.mono (by simp)))
      obtain ⟨b, o, rfl, hbl, _, hq⟩ := (hrd2 w2 (Sb.Lets.refl _)).lit 0 (by rw [iv_len]; show 0 < q.length; omega)
      have r1 : w2.cell? ⟨b, o, none⟩ = some (.int .i64 u0) := by
        refine hq 0 _ ?_
        show (iv q)[0]? = _
        rw [iv_get q 0 (by omega), ← hu0]
        unfold Sb.x0
        rw [List.getD_eq_getElem?_getD, List.getElem?_eq_getElem (by omega : 0 < q.length)]
        rfl
      have r2 : w2.cell? ⟨b, o + 1, none⟩ = some (.int .i64 u1) := by
        refine hq 1 _ ?_
        show (iv q)[1]? = _
        rw [iv_get q 1 (by omega), ← hu1]
        unfold Sb.x1
        rw [List.getD_eq_getElem?_getD, List.getElem?_eq_getElem (by omega : 1 < q.length)]
        rfl
      have hqI : (0 : Int) < (q.length : Int) := by omega
      have hqJ : (1 : Int) < (q.length : Int) := by omega
      have hqK : 1 < q.length := by omega
      have hqM : o + 1 = o + 1 := rfl
      clear hq hrd2 hu0 hu1
      go_quiet (fail)
      go_wp2_with (go_at_call 45; go_must (refine (HA.out _ (H.out.keep (HWF.out.trans (Sb.below_drewN _ _ _))) (Nat.le_trans hBw HWF.out.size)).mono ?_; rintro e w3 ⟨rfl, hr3, hb3, hl3⟩))
      go_ret
      exact ⟨rfl, hr3, (HWF.out.mono hBw).trans ((Sb.below_drewN _ _ _).trans hb3), (Sb.Lets.below HWF.out).trans ((Sb.Lets.below (Sb.below_drewN _ _ _)).trans hl3)⟩

namespace Sb
theorem text_mid (t : List UInt8) (k u : Nat) : (⟨t.toArray⟩ : ByteArray).extract k u = ⟨((t.drop k).take (u - k)).toArray⟩ := Pk.extr t k u
theorem text_one (t : List UInt8) (v : Nat) : (⟨t.toArray⟩ : ByteArray).extract v (min (v + 1) t.length) = ⟨((t.drop v).take 1).toArray⟩ := by
  rw [Pk.extr]
  congr 2
  by_cases h : v < t.length
  · rw [show min (v + 1) t.length - v = 1 by omega]
  · rw [List.drop_eq_nil_of_le (by omega)]
    simp
end Sb

set_option maxHeartbeats 8000000 in
set_option maxRecDepth 100000 in
theorem sbReplace_some {B r R : Nat} {y T t : List UInt8} {L : List Rx.In} {G : Int} {A : Option Addr} {cp k u v : Nat} {q : Row} {w : World} (h : Sb.Res B r R y w) (hp : ∀ w', Below B w w' → Rd w' (fun _ => True) A (icells L)) (hL : L.length ≤ 4096) (hT : T.length ≤ 1048576) (ht : t.length ≤ 100000) (hlen : y.length + (Sb.mid t T q k).length ≤ 1073741824) (hBw : B ≤ w.heap.size) (hR : R ≤ 9223372036854775807)
    (hf : findP G L t (k : Int) = some q) (hu : Sb.x0 q = (u : Int)) (hv : Sb.x1 q = (v : Int)) (hku : k ≤ u) (huv : u ≤ v) (hvt : v ≤ t.length) :
    Calls Try.prog 34 #[.pointer (some ⟨r, 0, none⟩), .agg #[.int .i64 G, .slice A L.length cp], .string ⟨T.toArray⟩, .string ⟨t.toArray⟩, .int .i64 (k : Int)] w fun e w' => e = .returned (.int .i64 (Sb.nxt q : Int)) ∧ Sb.Res B r R (y ++ Sb.mid t T q k) w' ∧ Below B w w' ∧ Sb.Lets w w' := by
  have HF := Lib.hid fun W (hW : Rd W (fun _ => True) A (icells L)) => sbFind_any (cp := cp) (fr := (k : Int)) (G := G) (t := t) hW hL (by omega)
  have HP := Lib.hid hp
  have H := Lib.hid h
  obtain ⟨hs1, hs2, _⟩ := Sb.findP_some hf
  rw [hf] at HF
  have hmd : Sb.mid t T q k = (t.drop k).take (u - k) ++ (Sb.ex (Sb.sub t q) T ++ (if u < v then [] else (t.drop v).take 1)) := by
    unfold Sb.mid
    rw [hu, hv, Int.toNat_natCast, Int.toNat_natCast]
    by_cases h9 : u < v
    · rw [if_pos h9, if_pos (by omega)]
    · rw [if_neg h9, if_neg (by omega)]
  have hnx : Sb.nxt q = if u < v then v else v + 1 := by
    unfold Sb.nxt
    rw [hu, hv, Int.toNat_natCast]
    by_cases h9 : u < v
    · rw [if_pos h9, if_pos (by omega)]
    · rw [if_neg h9, if_neg (by omega)]
  have hml := congrArg List.length hmd
  rw [List.length_append, List.length_append] at hml
  obtain ⟨m1, hm1⟩ : ∃ m1, (t.drop k).take (u - k) = m1 := ⟨_, rfl⟩
  obtain ⟨m2, hm2⟩ : ∃ m2, Sb.ex (Sb.sub t q) T = m2 := ⟨_, rfl⟩
  obtain ⟨m3, hm3⟩ : ∃ m3, (t.drop v).take 1 = m3 := ⟨_, rfl⟩
  have hx1 : (⟨t.toArray⟩ : ByteArray).extract k u = ⟨m1.toArray⟩ := by rw [Sb.text_mid, hm1]
  have HX3 : Hid ((⟨t.toArray⟩ : ByteArray).extract v (min (v + 1) t.length) = ⟨m3.toArray⟩) := Lib.hid (by rw [Sb.text_one, hm3])
  have HA1 := Lib.hid fun W (hW : Sb.Res B r R y W) (hB : B ≤ W.heap.size) => sbAdd1 (x := m1) hW (by rw [← hm1]; omega) hB hR
  have HEX := Lib.hid fun W A2 c2 (hW : Sb.Res B r R (y ++ m1) W) (hrd : ∀ w', Below B W w' → Sb.Lets W w' → Rd w' (fun _ => True) A2 (iv q)) (hB : B ≤ W.heap.size) => sbExpand_any (cp := c2) (t := T) (tx := t) hW hrd hT (by omega) hs2 (by rw [List.length_append, ← hm1]; omega) hB hR
  rw [hm2] at HEX
  have HA3 := Lib.hid fun W (hlt : ¬ u < v) (hW : Sb.Res B r R (y ++ m1 ++ m2) W) (hB : B ≤ W.heap.size) => sbAdd1 (x := m3) hW (by rw [if_neg hlt] at hml; rw [List.length_append, List.length_append, ← hm1, ← hm2, ← hm3]; omega) hB hR
  rw [hm1, hm2, hm3] at hmd
  have HMD := Lib.hid hmd
  have HNX := Lib.hid hnx
  have hkI : (k : Int) ≤ (u : Int) := by omega
  have huI : (u : Int) ≤ (v : Int) := by omega
  have hvI : (v : Int) ≤ (t.length : Int) := by omega
  have hk0 : (0 : Int) ≤ (k : Int) := by omega
  have hkN : ¬ (u : Int) < (k : Int) := by omega
  have hvN : ¬ (v : Int) < (u : Int) := by omega
  have hkB : decide ((u : Int) < (k : Int)) = false := decide_eq_false hkN
  have hvB : decide ((v : Int) < (u : Int)) = false := decide_eq_false hvN
  have hwl : IntKind.i64.wrap ((v : Int) + 1) = (v : Int) + 1 := by rw [IntKind.wrap_i64]; omega
  clear h hp hml hmd hnx hm1 hm2 hm3 hlen hf
  by_cases hlt : u < v
  · have hltI : (u : Int) < (v : Int) := by omega
    have hltB : decide ((u : Int) < (v : Int)) = true := decide_eq_true hltI
    go_enter Try.func34, Try.ntmps34
    go_wp2_with (go_at_call 9; go_must (refine (HF.out _ (HP.out _ ((Below.refl _ _).alloc hBw _))).mono ?_; rintro e w2 ⟨A2, c2, rfl, hb2, hrd2⟩))
    have HWF : Hid (Below w.heap.size w w2) := Lib.hid (((Below.refl w.heap.size w).alloc (Nat.le_refl _) _).trans (hb2.mono (by simp)))
    obtain ⟨b, o, rfl, hbl, _, hq⟩ := (hrd2 w2 (Sb.Lets.refl _)).lit 0 (by rw [iv_len]; show 0 < q.length; omega)
    have r1 : w2.cell? ⟨b, o, none⟩ = some (.int .i64 (u : Int)) := by
      refine hq 0 _ ?_
      show (iv q)[0]? = _
      rw [iv_get q 0 (by omega), ← hu]
      unfold Sb.x0
      rw [List.getD_eq_getElem?_getD, List.getElem?_eq_getElem (by omega : 0 < q.length)]
      rfl
    have r2 : w2.cell? ⟨b, o + 1, none⟩ = some (.int .i64 (v : Int)) := by
      refine hq 1 _ ?_
      show (iv q)[1]? = _
      rw [iv_get q 1 (by omega), ← hv]
      unfold Sb.x1
      rw [List.getD_eq_getElem?_getD, List.getElem?_eq_getElem (by omega : 1 < q.length)]
      rfl
    have hqI : (0 : Int) < (q.length : Int) := by omega
    have hqJ : (1 : Int) < (q.length : Int) := by omega
    have hqK : 1 < q.length := by omega
    have hkN2 : ¬ u < k := by omega
    have hvN2 : ¬ v < u := by omega
    have HRD : Hid (∀ W'', Sb.Lets w2 W'' → Rd W'' (fun _ => True) (some ⟨b, o, none⟩) (iv q)) := Lib.hid hrd2
    clear hq hrd2 hu hv
    go_quiet (fail)
    go_wp2_with fail
    go_quiet (fail)
    go_wp2_with first | (go_at_call 45; go_must (refine (HA1.out _ (H.out.keep (HWF.out.trans (Sb.below_drewN _ _ _))) (Nat.le_trans hBw HWF.out.size)).mono ?_; rintro e w3 ⟨rfl, hr3, hb3, hl3⟩; have HR3 := Lib.hid hr3; have HB3 := Lib.hid ((HWF.out.mono hBw).trans ((Sb.below_drewN _ _ _).trans hb3)); have HL4 := Lib.hid ((Sb.Lets.below (Sb.below_drewN _ _ _)).trans hl3); have HL3 := Lib.hid ((Sb.Lets.below HWF.out).trans HL4.out); clear hr3 hb3 hl3)) | (go_at_call 28; go_must (refine (HEX.out _ _ _ HR3.out (fun w' h1 h2 => HRD.out w' (HL4.out.trans h2)) (Nat.le_trans hBw HB3.out.size)).mono ?_; rintro e w4 ⟨rfl, hr4, hb4, hl4⟩; have HR4 := Lib.hid hr4; have HB4 := Lib.hid (HB3.out.trans hb4); have HL5 := Lib.hid (HL3.out.trans hl4); clear hr4 hb4 hl4))
    go_ret
    rw [HMD.out, HNX.out, if_pos hlt, if_pos hlt, List.append_nil, ← List.append_assoc]
    exact ⟨rfl, HR4.out, HB4.out, HL5.out⟩
  · have hltI : ¬ (u : Int) < (v : Int) := by omega
    have hltB : decide ((u : Int) < (v : Int)) = false := decide_eq_false hltI
    obtain rfl : u = v := by omega
    have hx3 := HX3.out
    have hmin : min ((u : Int) + 1) (t.length : Int) = ((min (u + 1) t.length : Nat) : Int) := by omega
    have hm0 : (u : Int) ≤ ((min (u + 1) t.length : Nat) : Int) := by omega
    have hm1 : ((min (u + 1) t.length : Nat) : Int) ≤ (t.length : Int) := by omega
    go_enter Try.func34, Try.ntmps34
    go_wp2_with (go_at_call 9; go_must (refine (HF.out _ (HP.out _ ((Below.refl _ _).alloc hBw _))).mono ?_; rintro e w2 ⟨A2, c2, rfl, hb2, hrd2⟩))
    have HWF : Hid (Below w.heap.size w w2) := Lib.hid (((Below.refl w.heap.size w).alloc (Nat.le_refl _) _).trans (hb2.mono (by simp)))
    obtain ⟨b, o, rfl, hbl, _, hq⟩ := (hrd2 w2 (Sb.Lets.refl _)).lit 0 (by rw [iv_len]; show 0 < q.length; omega)
    have r1 : w2.cell? ⟨b, o, none⟩ = some (.int .i64 (u : Int)) := by
      refine hq 0 _ ?_
      show (iv q)[0]? = _
      rw [iv_get q 0 (by omega), ← hu]
      unfold Sb.x0
      rw [List.getD_eq_getElem?_getD, List.getElem?_eq_getElem (by omega : 0 < q.length)]
      rfl
    have r2 : w2.cell? ⟨b, o + 1, none⟩ = some (.int .i64 (u : Int)) := by
      refine hq 1 _ ?_
      show (iv q)[1]? = _
      rw [iv_get q 1 (by omega), ← hv]
      unfold Sb.x1
      rw [List.getD_eq_getElem?_getD, List.getElem?_eq_getElem (by omega : 1 < q.length)]
      rfl
    have hqI : (0 : Int) < (q.length : Int) := by omega
    have hqJ : (1 : Int) < (q.length : Int) := by omega
    have hqK : 1 < q.length := by omega
    have hkN2 : ¬ u < k := by omega
    have hvN2 : ¬ u < u := by omega
    have HRD : Hid (∀ W'', Sb.Lets w2 W'' → Rd W'' (fun _ => True) (some ⟨b, o, none⟩) (iv q)) := Lib.hid hrd2
    clear hq hrd2 hu hv
    go_quiet (fail)
    go_wp2_with fail
    go_quiet (fail)
    go_wp2_with first | (go_at_call 45; ((with_reducible refine (HA3.out _ hlt HR4.out (Nat.le_trans hBw HB4.out.size)).mono ?_); rintro e w5 ⟨rfl, hr5, hb5, hl5⟩)) | (go_at_call 45; go_must (refine (HA1.out _ (H.out.keep (HWF.out.trans (Sb.below_drewN _ _ _))) (Nat.le_trans hBw HWF.out.size)).mono ?_; rintro e w3 ⟨rfl, hr3, hb3, hl3⟩; have HR3 := Lib.hid hr3; have HB3 := Lib.hid ((HWF.out.mono hBw).trans ((Sb.below_drewN _ _ _).trans hb3)); have HL4 := Lib.hid ((Sb.Lets.below (Sb.below_drewN _ _ _)).trans hl3); have HL3 := Lib.hid ((Sb.Lets.below HWF.out).trans HL4.out); clear hr3 hb3 hl3)) | (go_at_call 28; go_must (refine (HEX.out _ _ _ HR3.out (fun w' h1 h2 => HRD.out w' (HL4.out.trans h2)) (Nat.le_trans hBw HB3.out.size)).mono ?_; rintro e w4 ⟨rfl, hr4, hb4, hl4⟩; have HR4 := Lib.hid hr4; have HB4 := Lib.hid (HB3.out.trans hb4); have HL5 := Lib.hid (HL3.out.trans hl4); clear hr4 hb4 hl4))
    go_ret
    rw [HMD.out, HNX.out, if_neg hlt, if_neg hlt]
    refine ⟨rfl, ?_, HB4.out.trans hb5, HL5.out.trans hl5⟩
    have h9 := hr5
    rw [List.append_assoc, List.append_assoc] at h9
    exact h9

namespace Sb
abbrev Fd (G : Int) (L : List Rx.In) (t : List UInt8) : Nat → Option Row := fun k => findP G L t (k : Int)
end Sb

theorem sbReplace_any {B r R : Nat} {y T t : List UInt8} {L : List Rx.In} {G : Int} {A : Option Addr} {cp k : Nat} {w : World} (h : Sb.Res B r R y w) (hp : ∀ w', Below B w w' → Rd w' (fun _ => True) A (icells L)) (hL : L.length ≤ 4096) (hT : T.length ≤ 1048576) (ht : t.length ≤ 100000) (hk : k ≤ t.length) (hlen : y.length + t.length + (Sb.stp (Sb.Fd G L t) t T k).1.length ≤ 1073741824) (hBw : B ≤ w.heap.size) (hR : R ≤ 9223372036854775807) :
    Calls Try.prog 34 #[.pointer (some ⟨r, 0, none⟩), .agg #[.int .i64 G, .slice A L.length cp], .string ⟨T.toArray⟩, .string ⟨t.toArray⟩, .int .i64 (k : Int)] w fun e w' => e = .returned (.int .i64 ((Sb.stp (Sb.Fd G L t) t T k).2 : Int)) ∧ Sb.Res B r R (y ++ (Sb.stp (Sb.Fd G L t) t T k).1) w' ∧ Below B w w' ∧ Sb.Lets w w' := by
  cases hf : findP G L t (k : Int) with
  | none =>
    have e : Sb.stp (Sb.Fd G L t) t T k = (t.drop k, t.length + 1) := by unfold Sb.stp Sb.Fd; rw [hf]
    rw [e]
    exact sbReplace_none h hp hL ht hk (by omega) hBw hR (fun q hq => by rw [hf] at hq; cases hq)
  | some q =>
    by_cases hg : Sb.Good q k
    · have e : Sb.stp (Sb.Fd G L t) t T k = (Sb.mid t T q k, Sb.nxt q) := by unfold Sb.stp Sb.Fd; rw [hf]; exact if_pos hg
      rw [e] at hlen ⊢
      obtain ⟨h1, h2⟩ := hg
      obtain ⟨hs1, hs2, hs3⟩ := Sb.findP_some hf
      have hv : Sb.x1 q ≤ (t.length : Int) := by
        refine hs3 _ ?_
        unfold Sb.x1
        rw [List.getD_eq_getElem?_getD, List.getElem?_eq_getElem (by omega : 1 < q.length)]
        exact List.getElem_mem _
      refine sbReplace_some (u := (Sb.x0 q).toNat) (v := (Sb.x1 q).toNat) h hp hL hT ht (by simp only at hlen; omega) hBw hR hf (by omega) (by omega) (by omega) (by omega) (by omega)
    · have e : Sb.stp (Sb.Fd G L t) t T k = (t.drop k, t.length + 1) := by unfold Sb.stp Sb.Fd; rw [hf]; exact if_neg hg
      rw [e]
      exact sbReplace_none h hp hL ht hk (by omega) hBw hR (fun p hp2 => by rw [hf] at hp2; cases hp2; exact hg)
end Go.Proofs.Ytelbabgkpflckaa
