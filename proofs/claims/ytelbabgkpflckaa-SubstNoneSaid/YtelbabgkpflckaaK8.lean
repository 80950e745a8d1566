/-
  SbKn: CHAPTER 13, LAWS: known: what All answers at one expression, template and text; SubstExpands.
  SbLaw: CHAPTER 13, LAWS: SubstAll, SubstNone.
-/
import Derived.Test.YtelbabgkpflckaaK6
import Derived.Test.YtelbabgkpflckaaK7
import Derived.Test.YtelbabgkpflckaaJ35

set_option linter.unusedSimpArgs false
set_option linter.unusedVariables false
namespace Go.Proofs.Ytelbabgkpflckaa
open Go.RowKit Go.Sort
open Me
open Pk

namespace Sb
/-- From a place on, by fuel. -/
theorem findP_at {g : Nat} {L : List Rx.In} {t : List UInt8} (f k : Nat) {x : Option Row} (hk : k ≤ t.length) (hg : g ≤ 1024) (h : firstF L t (2 * g + 2) f k (t.length + 1 - k) = some x) : findP (g : Int) L t (k : Int) = x := by
  unfold findP
  rw [if_neg (by omega)]
  have := firstF_ok _ _ _ h
  simpa using this
def kt : List UInt8 := [98, 97, 97, 99]
def kF : Nat → Option Row := Fd 0 starL kt
theorem k0 : kF 0 = some [0, 0] := findP_at (g := 0) (t := kt) 100 0 (by decide) (by decide) (by decide +kernel)
theorem k1 : kF 1 = some [1, 3] := findP_at (g := 0) (t := kt) 100 1 (by decide) (by decide) (by decide +kernel)
theorem k3 : kF 3 = some [3, 3] := findP_at (g := 0) (t := kt) 100 3 (by decide) (by decide) (by decide +kernel)
theorem k4 : kF 4 = some [4, 4] := findP_at (g := 0) (t := kt) 100 4 (by decide) (by decide) (by decide +kernel)
theorem known_al : al kF kt [120] 0 = [120, 98, 120, 120, 99, 120] := by
  rw [al_step (by decide), stp_some k0 (by decide)]
  rw [show nxt [0, 0] = 1 by decide, al_step (by decide), stp_some k1 (by decide)]
  rw [show nxt [1, 3] = 3 by decide, al_step (by decide), stp_some k3 (by decide)]
  rw [show nxt [3, 3] = 4 by decide, al_step (by decide), stp_some k4 (by decide)]
  rw [show nxt [4, 4] = 5 by decide, al_end (by decide)]
  decide
theorem star_sm : Rc.Sm starE := by unfold Rc.Sm starE; decide
end Sb

set_option maxRecDepth 100000 in
set_option maxHeartbeats 8000000 in
theorem known13_any (W : World) : Calls Try.prog 19 #[] W fun e W' => e = .returned (.bool true) ∧ Below W.heap.size W W' := by
  have HO : Hid (Calls Try.prog 20 #[.string ⟨#[97, 42]⟩] W fun e W' => ∃ (A : Option Addr) (c : Nat) (A1 : Option Addr) (c1 : Nat), e = .returned (.tuple #[.agg #[.int .i64 0, .slice A starL.length c], .agg #[.int .i64 0, .slice A1 starL.length c1], .bool true]) ∧ Below W.heap.size W W' ∧ Rd W' (fun _ => True) A (icells starL)) := Lib.hid (by
    refine (of3_any set_any (s := starE) trivial (by decide)).mono ?_
    rintro e W' ⟨g, L, A, c, A1, c1, ok, rfl, hb, hr, hr1, hf, hq⟩
    have h := (hq Sb.star_sm).symm.trans star_of
    injection h with h1 h2
    injection h2 with h2 h3
    subst h1 h2 h3
    exact ⟨A, c, A1, c1, rfl, hb, hr.mono fun _ _ _ => trivial⟩)
  have HA : Hid (∀ X (A : Option Addr) (c : Nat), (∀ w', Below X.heap.size X w' → Rd w' (fun _ => True) A (icells starL)) → Calls Try.prog 21 #[.agg #[.int .i64 0, .slice A starL.length c], .string ⟨#[120]⟩, .string ⟨#[98, 97, 97, 99]⟩] X fun e w' => e = .returned (.tuple #[.string ⟨#[120, 98, 120, 120, 99, 120]⟩, .int .i64 0]) ∧ Below X.heap.size X w') := Lib.hid fun X A c h => by
    have h1 := sbAll_any (T := [120]) (t := Sb.kt) (G := 0) (cp := c) h (by decide) (by decide) (by decide) (by rw [show Sb.al (Sb.Fd 0 starL Sb.kt) Sb.kt [120] 0 = _ from Sb.known_al]; decide)
    rw [show Sb.al (Sb.Fd 0 starL Sb.kt) Sb.kt [120] 0 = _ from Sb.known_al] at h1
    exact h1
  generalize starL = L at *
  go_enter Try.func19, Try.ntmps19
  go_wp2_with first
    | (go_at_call 20; go_must (refine HO.out.mono ?_; rintro e w1 ⟨A, c, A1, c1, rfl, hb1, hr1⟩; have HB1 := Lib.hid hb1; have HR1 := Lib.hid hr1; clear hb1 hr1))
    | (go_at_call 21; go_must (refine (HA.out _ _ _ (fun w' h => (HR1.out.below (((Below.refl _ _).alloc (Nat.le_refl _) _).alloc (by simp) _)).below h)).mono ?_; rintro e w2 ⟨rfl, hb2⟩; have HB2 := Lib.hid (((HB1.out.alloc HB1.out.size _).alloc (by have := HB1.out.size; simp; omega) _).trans (hb2.mono (by have := HB1.out.size; simp; omega))); clear hb2))
  go_ret
  exact ⟨rfl, HB2.out⟩

namespace Sb
theorem grp_len (t : List UInt8) (pl : List Int) (k : Int) : (Pk.grp t pl k).length ≤ t.length := by
  unfold Pk.grp
  split
  · simp
  · split
    · simp
    · rw [List.length_take, List.length_drop]; omega
theorem sub_len (t : List UInt8) (pl : List Int) (b : UInt8) : (sub t pl b).length ≤ t.length + 1 := by
  unfold sub
  split
  · simp
  · have := grp_len t pl ((b.toNat : Int) - 48); omega
theorem ex_len {g : UInt8 → List UInt8} {n : Nat} (hg : ∀ b, (g b).length ≤ n + 1) : ∀ t, (ex g t).length ≤ t.length * (n + 1)
  | [] => Nat.zero_le _
  | [a] => by show 1 ≤ 1 * (n + 1); omega
  | a :: b :: l => by
    rw [ex2]
    have e : (a :: b :: l).length * (n + 1) = l.length * (n + 1) + (n + 1) + (n + 1) := by
      show (l.length + 1 + 1) * (n + 1) = _
      rw [Nat.add_mul, Nat.add_mul, Nat.one_mul]
    by_cases h : two a b = true
    · rw [if_pos h, List.length_append, e]
      have := hg b
      have := ex_len hg l
      omega
    · rw [if_neg h, List.length_cons, e]
      have h1 := ex_len hg (b :: l)
      have e2 : (b :: l).length * (n + 1) = l.length * (n + 1) + (n + 1) := by show (l.length + 1) * (n + 1) = _; rw [Nat.add_mul, Nat.one_mul]
      rw [e2] at h1
      omega
theorem ex_60 {t tx : List UInt8} {pl : List Int} (ht : t.length ≤ 60) (htx : tx.length ≤ 60) : (ex (sub tx pl) t).length ≤ 3660 := by
  have h := ex_len (n := 60) (fun b => Nat.le_trans (sub_len tx pl b) (by omega)) t
  have : t.length * (60 + 1) ≤ 60 * (60 + 1) := Nat.mul_le_mul_right _ ht
  omega
end Sb

set_option maxRecDepth 100000 in
set_option maxHeartbeats 8000000 in
theorem lawExpands13 (t tx : List UInt8) (pl : List Int) (A : Option Addr) (cp : Nat) (W : World) (hr : Rd W (fun _ => True) A (iv pl)) :
    Calls Try.prog 4 #[.string ⟨t.toArray⟩, .string ⟨tx.toArray⟩, .slice A pl.length cp] W fun e W' => e = .returned (.bool true) ∧ Below W.heap.size W W' := by
  by_cases h1 : 60 < t.length
  · have h1I : (60 : Int) < (t.length : Int) := by omega
    go_enter Try.func4, Try.ntmps4
    go_wp2_with fail
    go_ret
    exact ⟨rfl, Below.refl _ _⟩
  have h1I : ¬ (60 : Int) < (t.length : Int) := by omega
  by_cases h2 : 60 < tx.length
  · have h2I : (60 : Int) < (tx.length : Int) := by omega
    go_enter Try.func4, Try.ntmps4
    go_wp2_with fail
    go_ret
    exact ⟨rfl, Below.refl _ _⟩
  have h2I : ¬ (60 : Int) < (tx.length : Int) := by omega
  by_cases h3 : 60 < pl.length
  · have h3I : (60 : Int) < (pl.length : Int) := by omega
    go_enter Try.func4, Try.ntmps4
    go_wp2_with fail
    go_ret
    exact ⟨rfl, Below.refl _ _⟩
  have h3I : ¬ (60 : Int) < (pl.length : Int) := by omega
  have HK := Lib.hid fun W => known13_any W
  have h60 := Sb.ex_60 (pl := pl) (t := t) (tx := tx) (by omega) (by omega)
  have HE := Lib.hid fun X (hX : Below W.heap.size W X) => sbExpandF_any (cp := cp) (t := t) (tx := tx) (w := X) (fun w' h => hr.below (hX.trans (h.mono hX.size))) (by omega) (by omega) (by omega) (by omega)
  have HR := Lib.hid fun X (hX : Below W.heap.size W X) => sbRefExpand_any (cp := cp) (t := t) (tx := tx) (w := X) (fun w' h => hr.below (hX.trans (h.mono hX.size))) (by omega) (by omega) (by omega) (by omega)
  have HC := Lib.hid fun X => sbChk_any t (by omega) X
  have HD := Lib.hid fun X => sbRefCheck_any t (by omega) X
  generalize Sb.ex (Sb.sub tx pl) t = z at *
  generalize Sb.bad t = bd at *
  have hzz : (z == z) = true := by simp
  have hbb : (bd == bd) = true := by simp
  clear h1 h2 h3 h60
  go_enter Try.func4, Try.ntmps4
  go_wp2_with first
    | (go_at_call 15; go_must (refine (HE.out _ (Below.refl _ _)).mono ?_; rintro e w1 ⟨rfl, hb1⟩; have HB1 := Lib.hid hb1; clear hb1))
    | (go_at_call 16; go_must (refine (HR.out _ HB1.out).mono ?_; rintro e w2 ⟨rfl, hb2⟩; have HB2 := Lib.hid (HB1.out.trans (hb2.mono HB1.out.size)); clear hb2))
    | (go_at_call 17; go_must (refine (HC.out _).mono ?_; rintro e w3 ⟨rfl, hb3⟩; have HB3 := Lib.hid (HB2.out.trans (hb3.mono HB2.out.size)); clear hb3))
    | (go_at_call 18; go_must (refine (HD.out _).mono ?_; rintro e w4 ⟨rfl, rfl⟩))
    | (go_at_call 19; go_must (refine (HK.out _).mono ?_; rintro e w5 ⟨rfl, hb5⟩; have HB5 := Lib.hid (HB3.out.trans (hb5.mono HB3.out.size)); clear hb5))
  go_ret
  exact ⟨rfl, HB5.out⟩
end Go.Proofs.Ytelbabgkpflckaa

namespace Go.Proofs.Ytelbabgkpflckaa
open Go.RowKit Go.Sort
open Me
open Pk

namespace Sb
/-- What a finder finds lies in the text. -/
def Sound (F : Nat → Option Row) (n : Nat) : Prop := ∀ k q, F k = some q → 2 ≤ q.length ∧ x1 q ≤ (n : Int)
theorem Fd_sound (G : Int) (L : List Rx.In) (t : List UInt8) : Sound (Fd G L t) t.length := fun k q h => by
  obtain ⟨h1, _, h3⟩ := findP_some h
  refine ⟨h1, h3 _ ?_⟩
  unfold x1
  rw [List.getD_eq_getElem?_getD, List.getElem?_eq_getElem (by omega : 1 < q.length)]
  exact List.getElem_mem _
theorem seg (t : List UInt8) {a b : Nat} (h : a ≤ b) : (t.drop a).take (b - a) ++ t.drop b = t.drop a := by
  have h1 := List.take_append_drop (b - a) (t.drop a)
  rw [List.drop_drop, show a + (b - a) = b by omega] at h1
  exact h1
theorem mid_back {t : List UInt8} {r : Row} {k : Nat} (hg : Good r k) (h2 : 2 ≤ r.length) (hv : x1 r ≤ (t.length : Int)) : mid t [92, 48] r k ++ t.drop (nxt r) = t.drop k := by
  obtain ⟨g1, g2⟩ := hg
  have he : ex (sub t r) [92, 48] = (t.drop (x0 r).toNat).take ((x1 r).toNat - (x0 r).toNat) := by
    rw [ex2, if_pos (by decide), show ex (sub t r) [] = [] from rfl, List.append_nil, sub_grp (by decide)]
    show Pk.grp t r 0 = _
    unfold Pk.grp
    rw [if_neg (by omega)]
    show (if x0 r < 0 ∨ x1 r < x0 r ∨ (t.length : Int) < x1 r then [] else (t.drop (x0 r).toNat).take ((x1 r).toNat - (x0 r).toNat)) = _
    rw [if_neg (by omega)]
  unfold mid nxt
  rw [he]
  by_cases hlt : x0 r < x1 r
  · rw [if_pos hlt, if_pos hlt, List.append_nil, List.append_assoc, seg t (by omega), seg t (by omega)]
  · rw [if_neg hlt, if_neg hlt, List.append_assoc, List.append_assoc, show (x1 r).toNat = (x0 r).toNat by omega]
    have h1 := seg t (Nat.le_succ (x0 r).toNat)
    rw [show (x0 r).toNat.succ - (x0 r).toNat = 1 by omega] at h1
    rw [show (x0 r).toNat + 1 = (x0 r).toNat.succ from rfl, h1, seg t (Nat.le_refl _), seg t (by omega)]
theorem alN_back {F : Nat → Option Row} {t : List UInt8} (hF : Sound F t.length) : ∀ n k, t.length + 1 - k ≤ n → alN F t [92, 48] n k = t.drop k
  | 0, k, h => by rw [List.drop_eq_nil_of_le (by omega)]; rfl
  | n + 1, k, h => by
    unfold alN
    by_cases hk : k ≤ t.length
    · rw [if_pos hk]
      have hgt := stp_gt (F := F) (T := [92, 48]) hk
      rw [alN_back hF n _ (by omega)]
      cases hf : F k with
      | none =>
        have e : stp F t [92, 48] k = (t.drop k, t.length + 1) := by unfold stp; rw [hf]
        rw [e, show t.drop (t.length + 1) = [] from List.drop_eq_nil_of_le (by omega), List.append_nil]
      | some q =>
        by_cases hg : Good q k
        · rw [stp_some hf hg]
          exact mid_back hg (hF k q hf).1 (hF k q hf).2
        · have e : stp F t [92, 48] k = (t.drop k, t.length + 1) := by unfold stp; rw [hf]; exact if_neg hg
          rw [e, show t.drop (t.length + 1) = [] from List.drop_eq_nil_of_le (by omega), List.append_nil]
    · rw [if_neg hk, List.drop_eq_nil_of_le (by omega)]
theorem al_back {F : Nat → Option Row} {t : List UInt8} (hF : Sound F t.length) : al F t [92, 48] 0 = t := by
  unfold al
  rw [alN_back hF _ _ (by omega)]
  rfl
theorem stp_len {F : Nat → Option Row} {t T : List UInt8} {M : Nat} (hM : ∀ r, (ex (sub t r) T).length ≤ M) (k : Nat) : (stp F t T k).1.length ≤ t.length + M + 1 := by
  unfold stp
  cases F k with
  | none => show (t.drop k).length ≤ _; rw [List.length_drop]; omega
  | some q =>
    show (if Good q k then (mid t T q k, nxt q) else (t.drop k, t.length + 1)).1.length ≤ _
    split
    · show (mid t T q k).length ≤ _
      unfold mid
      rw [List.length_append, List.length_append, List.length_take, List.length_drop]
      have h1 := hM q
      have h2 : (if x0 q < x1 q then ([] : List UInt8) else (t.drop (x1 q).toNat).take 1).length ≤ 1 := by
        split
        · simp
        · rw [List.length_take]; omega
      omega
    · show (t.drop k).length ≤ _
      rw [List.length_drop]
      omega
theorem alN_len {F : Nat → Option Row} {t T : List UInt8} {M : Nat} (hM : ∀ r, (ex (sub t r) T).length ≤ M) : ∀ n k, (alN F t T n k).length ≤ n * (t.length + M + 1)
  | 0, _ => Nat.zero_le _
  | n + 1, k => by
    unfold alN
    split
    · rw [List.length_append, Nat.add_mul, Nat.one_mul]
      have h1 := stp_len (F := F) hM k
      have h2 := alN_len (F := F) hM n (stp F t T k).2
      omega
    · exact Nat.zero_le _
theorem al_60 {F : Nat → Option Row} {t T : List UInt8} (ht : t.length ≤ 60) (hT : T.length ≤ 60) : (al F t T 0).length ≤ 1000000 := by
  have h := alN_len (F := F) (t := t) (T := T) (M := 3660) (fun r => ex_60 hT ht) (t.length + 1) 0
  have : (t.length + 1) * (t.length + 3660 + 1) ≤ 61 * 3721 := Nat.mul_le_mul (by omega) (by omega)
  unfold al
  omega
theorem mid_none {t : List UInt8} {r : Row} {k : Nat} (hg : Good r k) (hv : x1 r ≤ (t.length : Int)) : (mid t [] r k).length + (t.length - nxt r) ≤ t.length - k := by
  obtain ⟨g1, g2⟩ := hg
  unfold mid nxt
  rw [show ex (sub t r) [] = [] from rfl, List.nil_append, List.length_append, List.length_take, List.length_drop]
  by_cases hlt : x0 r < x1 r
  · rw [if_pos hlt, if_pos hlt, List.length_nil]; omega
  · rw [if_neg hlt, if_neg hlt, List.length_take, List.length_drop]; omega
theorem alN_none {F : Nat → Option Row} {t : List UInt8} (hF : Sound F t.length) : ∀ n k, (alN F t [] n k).length ≤ t.length - k
  | 0, _ => Nat.zero_le _
  | n + 1, k => by
    unfold alN
    by_cases hk : k ≤ t.length
    · rw [if_pos hk, List.length_append]
      have h2 := alN_none hF n (stp F t [] k).2
      cases hf : F k with
      | none =>
        have e : stp F t [] k = (t.drop k, t.length + 1) := by unfold stp; rw [hf]
        rw [e] at h2 ⊢
        rw [List.length_drop]
        simp only at h2 ⊢
        omega
      | some q =>
        by_cases hg : Good q k
        · rw [stp_some hf hg] at h2 ⊢
          have h3 := mid_none hg (hF k q hf).2
          simp only at h2 ⊢
          omega
        · have e : stp F t [] k = (t.drop k, t.length + 1) := by unfold stp; rw [hf]; exact if_neg hg
          rw [e] at h2 ⊢
          rw [List.length_drop]
          simp only at h2 ⊢
          omega
    · rw [if_neg hk]; exact Nat.zero_le _
theorem ans_back {F : Nat → Option Row} {t : List UInt8} (hF : Sound F t.length) (ht : t.length ≤ 60) : ans [92, 48] t (al F t [92, 48] 0) = (t, 0) := by
  rw [al_back hF]
  unfold ans
  rw [if_pos (by decide), if_neg (by omega), if_neg (by omega)]
theorem ans_none {F : Nat → Option Row} {t : List UInt8} (hF : Sound F t.length) (ht : t.length ≤ 60) : ans [] t (al F t [] 0) = (al F t [] 0, 0) := by
  have h := alN_none hF (t.length + 1) 0
  have h2 : (al F t [] 0).length ≤ 60 := by unfold al; omega
  unfold ans
  rw [if_pos (by decide), if_neg (by omega), if_neg (by omega)]
end Sb

set_option maxRecDepth 100000 in
set_option maxHeartbeats 8000000 in
theorem lawAll13 (s T t : List UInt8) (W : World) :
    Calls Try.prog 5 #[.string ⟨s.toArray⟩, .string ⟨T.toArray⟩, .string ⟨t.toArray⟩] W fun e W' => e = .returned (.bool true) ∧ Below W.heap.size W W' := by
  have HK := Lib.hid fun W => known13_any W
  by_cases h1 : 60 < s.length
  · have h1I : (60 : Int) < (s.length : Int) := by omega
    go_enter Try.func5, Try.ntmps5
    go_wp2_with fail
    go_ret
    exact ⟨rfl, Below.refl _ _⟩
  have h1I : ¬ (60 : Int) < (s.length : Int) := by omega
  by_cases h2 : 60 < T.length
  · have h2I : (60 : Int) < (T.length : Int) := by omega
    go_enter Try.func5, Try.ntmps5
    go_wp2_with fail
    go_ret
    exact ⟨rfl, Below.refl _ _⟩
  have h2I : ¬ (60 : Int) < (T.length : Int) := by omega
  by_cases h3 : 60 < t.length
  · have h3I : (60 : Int) < (t.length : Int) := by omega
    go_enter Try.func5, Try.ntmps5
    go_wp2_with fail
    go_ret
    exact ⟨rfl, Below.refl _ _⟩
  have h3I : ¬ (60 : Int) < (t.length : Int) := by omega
  have HT : Hid (t.length ≤ 60 ∧ T.length ≤ 60) := Lib.hid (by omega)
  have HOF := Lib.hid (of3_any set_any (W := W) (s := s) trivial (by omega))
  clear h1 h2 h3
  go_enter Try.func5, Try.ntmps5
  go_wp2_with fail
  go_at_call 20
  refine HOF.out.mono ?_
  rintro e w1 ⟨g, L, A, cp, A1, c1, ok, rfl, hb1, hr1, hr2, hf1, _⟩
  have HB0 := Lib.hid hb1
  have hs1 := hb1.size
  cases ok
  · clear hb1 hr1 hr2 hf1
    go_wp2_with (go_at_call 19; go_must (refine (HK.out _).mono ?_; rintro e w5 ⟨rfl, hb5⟩; have HB5 := Lib.hid ((((HB0.out.alloc HB0.out.size (.cells #[.int .i64 (g : Int), .slice A L.length cp] 24))).alloc (by have := HB0.out.size; simp; omega) (.cells #[.int .i64 (g : Int), .slice A1 L.length c1] 34)).trans (hb5.mono (by have := HB0.out.size; simp; omega))); clear hb5))
    go_ret
    exact ⟨rfl, HB5.out⟩
  · have hL : L.length ≤ 1024 := hf1.len
    have HALL : Hid (∀ x ∈ L, x.p.length ≤ 1048576) := Lib.hid fun x hx => by have := hf1.p x hx; omega
    obtain ⟨pb, hpb⟩ : ∃ pb, pb = w1.heap.size := ⟨_, rfl⟩
    obtain ⟨wb, hwb⟩ : ∃ wb, wb = (w1.alloc (.cells #[.int .i64 (g : Int), .slice A L.length cp] 24)).alloc (.cells #[.int .i64 (g : Int), .slice A1 L.length c1] 34) := ⟨_, rfl⟩
    have HBN : Hid (Below w1.heap.size w1 wb) := Lib.hid (by rw [hwb]; exact ((Below.refl _ _).alloc (Nat.le_refl _) _).alloc (by simp) _)
    have HBW : Hid (Below W.heap.size W wb) := Lib.hid (HB0.out.trans (HBN.out.mono HB0.out.size))
    have HP1 : Hid (Rd wb (fun _ => True) A (icells L)) := Lib.hid ((hr1.below HBN.out).mono fun _ _ _ => trivial)
    have HP2 : Hid (Rd wb (fun _ => True) A1 (icells L)) := Lib.hid ((hr2.below HBN.out).mono fun _ _ _ => trivial)
    have HRW2 : Hid (RowAt wb (pb + 1) 34 #[.int .i64 (g : Int), .slice A1 L.length c1]) := Lib.hid (by rw [hwb, hpb]; exact RowAt.new' (by simp))
    have h60 := Sb.al_60 (F := Sb.Fd (g : Int) L t) HT.out.1 HT.out.2
    have HA := Lib.hid (sbAll_any (w := wb) (T := T) (t := t) (G := (g : Int)) (cp := cp) (A := A) (fun w' h => HP1.out.below h) (by omega) (by have := HT.out.2; omega) (by have := HT.out.1; omega) (by omega))
    have HR := Lib.hid fun X (hX : Below wb.heap.size wb X) => sbRefAll_any (w := X) (T := T) (t := t) (G := (g : Int)) (cp := c1) (A := A1) (fun w' h => (HP2.out.below hX).below h) HALL.out (by omega) (by have := HT.out.2; omega) (by have := HT.out.1; omega) (by omega)
    generalize (Sb.ans T t (Sb.al (Sb.Fd (g : Int) L t) t T 0)).1 = a1 at *
    generalize (Sb.ans T t (Sb.al (Sb.Fd (g : Int) L t) t T 0)).2 = a2 at *
    have haa : (a1 == a1) = true := by simp
    have hbb : (a2 == a2) = true := by simp
    clear hb1 hr1 hr2 hf1 h60
    go_wp2_with fail
    rw [← hwb, ← hpb]
    clear hwb hpb
    go_wp2_with first
      | (go_at_call 21; go_must (refine HA.out.mono ?_; rintro e w2 ⟨rfl, hb2⟩; have HB2 := Lib.hid hb2; have HRX := HRW2.out.below hb2 HRW2.out.lt; have x0 := (HRX.cell 0).trans rfl; have x1 := (HRX.cell 1).trans rfl; clear hb2))
      | (go_at_call 22; go_must (refine (HR.out _ HB2.out).mono ?_; rintro e w3 ⟨rfl, hb3⟩; have HB3 := Lib.hid (HBW.out.trans ((HB2.out.mono HBW.out.size).trans (hb3.mono (Nat.le_trans HBW.out.size HB2.out.size)))); clear hb3))
      | (go_at_call 19; go_must (refine (HK.out _).mono ?_; rintro e w5 ⟨rfl, hb5⟩; have HB5 := Lib.hid (HB3.out.trans (hb5.mono HB3.out.size)); clear hb5))
    go_ret
    exact ⟨rfl, HB5.out⟩

set_option maxRecDepth 100000 in
set_option maxHeartbeats 8000000 in
theorem lawNone13 (s t : List UInt8) (W : World) :
    Calls Try.prog 6 #[.string ⟨s.toArray⟩, .string ⟨t.toArray⟩] W fun e W' => e = .returned (.bool true) ∧ Below W.heap.size W W' := by
  have HK := Lib.hid fun W => known13_any W
  by_cases h1 : 60 < s.length
  · have h1I : (60 : Int) < (s.length : Int) := by omega
    go_enter Try.func6, Try.ntmps6
    go_wp2_with fail
    go_ret
    exact ⟨rfl, Below.refl _ _⟩
  have h1I : ¬ (60 : Int) < (s.length : Int) := by omega
  by_cases h3 : 60 < t.length
  · have h3I : (60 : Int) < (t.length : Int) := by omega
    go_enter Try.func6, Try.ntmps6
    go_wp2_with fail
    go_ret
    exact ⟨rfl, Below.refl _ _⟩
  have h3I : ¬ (60 : Int) < (t.length : Int) := by omega
  have HT : Hid (t.length ≤ 60) := Lib.hid (by omega)
  have HOF := Lib.hid (of3_any set_any (W := W) (s := s) trivial (by omega))
  clear h1 h3
  go_enter Try.func6, Try.ntmps6
  go_wp2_with fail
  go_at_call 20
  refine HOF.out.mono ?_
  rintro e w1 ⟨g, L, A, cp, A1, c1, ok, rfl, hb1, hr1, hr2, hf1, _⟩
  have HB0 := Lib.hid hb1
  have hs1 := hb1.size
  cases ok
  · clear hb1 hr1 hr2 hf1
    go_wp2_with (go_at_call 19; go_must (refine (HK.out _).mono ?_; rintro e w5 ⟨rfl, hb5⟩; have HB5 := Lib.hid ((((HB0.out.alloc HB0.out.size (.cells #[.int .i64 (g : Int), .slice A L.length cp] 24))).alloc (by have := HB0.out.size; simp; omega) (.cells #[.int .i64 (g : Int), .slice A1 L.length c1] 34)).trans (hb5.mono (by have := HB0.out.size; simp; omega))); clear hb5))
    go_ret
    exact ⟨rfl, HB5.out⟩
  · have hL : L.length ≤ 1024 := hf1.len
    have HALL : Hid (∀ x ∈ L, x.p.length ≤ 1048576) := Lib.hid fun x hx => by have := hf1.p x hx; omega
    obtain ⟨pb, hpb⟩ : ∃ pb, pb = w1.heap.size := ⟨_, rfl⟩
    obtain ⟨wb, hwb⟩ : ∃ wb, wb = (w1.alloc (.cells #[.int .i64 (g : Int), .slice A L.length cp] 24)).alloc (.cells #[.int .i64 (g : Int), .slice A1 L.length c1] 34) := ⟨_, rfl⟩
    have HBN : Hid (Below w1.heap.size w1 wb) := Lib.hid (by rw [hwb]; exact ((Below.refl _ _).alloc (Nat.le_refl _) _).alloc (by simp) _)
    have HBW : Hid (Below W.heap.size W wb) := Lib.hid (HB0.out.trans (HBN.out.mono HB0.out.size))
    have HP1 : Hid (Rd wb (fun _ => True) A (icells L)) := Lib.hid ((hr1.below HBN.out).mono fun _ _ _ => trivial)
    have HP2 : Hid (Rd wb (fun _ => True) A1 (icells L)) := Lib.hid ((hr2.below HBN.out).mono fun _ _ _ => trivial)
    have HRW2 : Hid (RowAt wb (pb + 1) 34 #[.int .i64 (g : Int), .slice A1 L.length c1]) := Lib.hid (by rw [hwb, hpb]; exact RowAt.new' (by simp))
    have HRW : Hid (RowAt wb pb 24 #[.int .i64 (g : Int), .slice A L.length cp]) := Lib.hid (by rw [hwb, hpb]; exact (RowAt.new w1 _ _).alloc _)
    have hso := Sb.Fd_sound (g : Int) L t
    have HA : Hid (Calls Try.prog 21 #[.agg #[.int .i64 (g : Int), .slice A L.length cp], .string ⟨#[92, 48]⟩, .string ⟨t.toArray⟩] wb fun e w' => e = .returned (.tuple #[.string ⟨t.toArray⟩, .int .i64 0]) ∧ Below wb.heap.size wb w') := Lib.hid (by
      have h1 := sbAll_any (w := wb) (T := [92, 48]) (t := t) (G := (g : Int)) (cp := cp) (A := A) (fun w' h => HP1.out.below h) (by omega) (by decide) (by have := HT.out; omega) (by rw [Sb.al_back hso]; have := HT.out; omega)
      rw [Sb.ans_back hso HT.out] at h1
      exact h1)
    obtain ⟨z, hz⟩ : ∃ z, Sb.al (Sb.Fd (g : Int) L t) t [] 0 = z := ⟨_, rfl⟩
    have hzl : (Sb.al (Sb.Fd (g : Int) L t) t [] 0).length ≤ 1073000000 := by have h1 := Sb.al_60 (F := Sb.Fd (g : Int) L t) (t := t) (T := []) HT.out (by decide); omega
    have HR : Hid (∀ X, Below wb.heap.size wb X → Calls Try.prog 22 #[.agg #[.int .i64 (g : Int), .slice A1 L.length c1], .string ⟨#[]⟩, .string ⟨t.toArray⟩] X fun e w' => e = .returned (.tuple #[.string ⟨z.toArray⟩, .int .i64 0]) ∧ Below X.heap.size X w') := Lib.hid fun X hX => by
      have h1 := sbRefAll_any (w := X) (T := []) (t := t) (G := (g : Int)) (cp := c1) (A := A1) (fun w' h => (HP2.out.below hX).below h) HALL.out (by omega) (by decide) (by have := HT.out; omega) hzl
      rw [Sb.ans_none hso HT.out, hz] at h1
      exact h1
    have HA3 : Hid (∀ X, Below wb.heap.size wb X → Calls Try.prog 21 #[.agg #[.int .i64 (g : Int), .slice A L.length cp], .string ⟨#[]⟩, .string ⟨t.toArray⟩] X fun e w' => e = .returned (.tuple #[.string ⟨z.toArray⟩, .int .i64 0]) ∧ Below X.heap.size X w') := Lib.hid fun X hX => by
      have h1 := sbAll_any (w := X) (T := []) (t := t) (G := (g : Int)) (cp := cp) (A := A) (fun w' h => (HP1.out.below hX).below h) (by omega) (by decide) (by have := HT.out; omega) hzl
      rw [Sb.ans_none hso HT.out, hz] at h1
      exact h1
    have hzz : (z == z) = true := by simp
    have htt : (t == t) = true := by simp
    clear hb1 hr1 hr2 hf1 hz hso hzl
    go_wp2_with fail
    rw [← hwb, ← hpb]
    clear hwb hpb
    go_wp2_with first
      | (go_at_call 21; ((with_reducible refine (HA3.out _ HB3.out).mono ?_); rintro e w4 ⟨rfl, hb4⟩; have HB4 := Lib.hid (HBW.out.trans ((HB3.out.mono HBW.out.size).trans (hb4.mono (Nat.le_trans HBW.out.size HB3.out.size)))); clear hb4))
      | (go_at_call 21; go_must (refine HA.out.mono ?_; rintro e w2 ⟨rfl, hb2⟩; have HB2 := Lib.hid hb2; have HRX := HRW2.out.below hb2 HRW2.out.lt; have x0 := (HRX.cell 0).trans rfl; have x1 := (HRX.cell 1).trans rfl; have HRY := Lib.hid (HRW.out.below hb2 HRW.out.lt); clear hb2))
      | (go_at_call 22; go_must (refine (HR.out _ HB2.out).mono ?_; rintro e w3 ⟨rfl, hb3⟩; have HB3 := Lib.hid (HB2.out.trans (hb3.mono HB2.out.size)); have HRZ := HRY.out.below hb3 HRY.out.lt; have y0 := (HRZ.cell 0).trans rfl; have y1 := (HRZ.cell 1).trans rfl; clear hb3))
      | (go_at_call 19; go_must (refine (HK.out _).mono ?_; rintro e w5 ⟨rfl, hb5⟩; have HB5 := Lib.hid (HB4.out.trans (hb5.mono HB4.out.size)); clear hb5))
    go_ret
    exact ⟨rfl, HB5.out⟩
end Go.Proofs.Ytelbabgkpflckaa
