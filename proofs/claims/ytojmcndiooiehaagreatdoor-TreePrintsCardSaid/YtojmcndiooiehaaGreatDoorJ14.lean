/-
  DcLib: CONTRACTS: what the program calls of package strings, where the second text is one byte of ASCII.
  DcProg: CONTRACTS: the program's own functions of chapter 2, whole numbers first.
  FxPure: THE PLAIN MATHEMATICS of fixed's values: what each function comes to, over whole numbers of any size. No program is named here.
-/
import Derived.Test.YtojmcndiooiehaaGreatDoorJ13
import Derived.Test.YtojmcndiooiehaaGreatDoorJ3
import Derived.Lib.Bytealg
import Derived.Laws.Strings3
import Derived.Laws.RangeAny
import Derived.WalkKit

set_option linter.unusedSimpArgs false
set_option linter.unusedVariables false
namespace Go.Proofs.YtojmcndiooiehaaGreatDoor
set_option maxRecDepth 20000
open Go.RowKit

namespace Dc
def headIs (c : UInt8) (l : List UInt8) : Bool := match l with | x :: _ => x == c | [] => false
def cutHead (c : UInt8) (l : List UInt8) : List UInt8 := if headIs c l then l.drop 1 else l
theorem minus_head (l : List UInt8) : headIs 45 l = minus l := by cases l <;> rfl
theorem body_cut (l : List UInt8) : cutHead 45 l = body l := by unfold cutHead body; rw [minus_head]
theorem cut_hit {c : UInt8} {l : List UInt8} (h : headIs c l = true) : cutHead c l = l.drop 1 := by unfold cutHead; rw [if_pos h]
theorem cut_miss {c : UInt8} {l : List UInt8} (h : headIs c l = false) : cutHead c l = l := by unfold cutHead; rw [if_neg (by simp [h])]
theorem headIs_pos {c : UInt8} {l : List UInt8} (h : headIs c l = true) : 1 ≤ l.length := by
  match l with
  | [] => cases h
  | _ :: _ => simp
theorem cut_len (c : UInt8) (l : List UInt8) : (cutHead c l).length ≤ l.length := by
  unfold cutHead; split <;> simp
/-- The first place of a dot. -/
theorem index_dot (l : List UInt8) : Lib.indexByte l 46 = if dotted l then ((ahead l).length : Int) else -1 := by
  induction l with
  | nil => rfl
  | cons b r ih =>
    unfold Lib.indexByte
    by_cases hb : b = 46
    · subst hb
      rfl
    · have h1 : (b == 46) = false := by simpa using hb
      have h2 : (b != 46) = true := by simpa using hb
      have e1 : dotted (b :: r) = dotted r := by unfold dotted tail46; rw [List.dropWhile_cons, h2]; rfl
      have e2 : (ahead (b :: r)).length = (ahead r).length + 1 := by unfold ahead; rw [List.takeWhile_cons, h2]; rfl
      rw [h1, ih, e1, e2]
      simp only [Bool.false_eq_true, if_false]
      by_cases hd : dotted r = true
      · rw [if_pos hd, if_pos hd]
        have : (((ahead r).length : Int) == -1) = false := by rw [beq_eq_false_iff_ne]; omega
        rw [this]
        simp
      · rw [if_neg hd, if_neg hd]
        rfl
theorem ahead_tail (l : List UInt8) : ahead l ++ tail46 l = l := List.takeWhile_append_dropWhile
theorem ahead_take (l : List UInt8) : l.take (ahead l).length = ahead l := by
  conv => lhs; arg 2; rw [← ahead_tail l]
  rw [List.take_left]
theorem behind_drop (l : List UInt8) : l.drop ((ahead l).length + 1) = behind l := by
  conv => lhs; arg 2; rw [← ahead_tail l]
  rw [← List.drop_drop, List.drop_left]
  rfl
theorem dotted_len {l : List UInt8} (h : dotted l = true) : (ahead l).length + 1 ≤ l.length := by
  have e := congrArg List.length (ahead_tail l)
  rw [List.length_append] at e
  have : (tail46 l).length ≠ 0 := by
    intro h0
    unfold dotted at h
    rw [List.eq_nil_of_length_eq_zero h0] at h
    cases h
  omega
theorem undotted {l : List UInt8} (h : dotted l = false) : ahead l = l ∧ behind l = [] := by
  have h0 : tail46 l = [] := by
    unfold dotted at h
    cases ht : tail46 l with
    | nil => rfl
    | cons => rw [ht] at h; cases h
  have e := ahead_tail l
  rw [h0, List.append_nil] at e
  exact ⟨e, by unfold behind; rw [h0]; rfl⟩
theorem trimZ_nil : trimZ [] = [] := rfl
theorem take_last {l : List UInt8} (h : 0 < l.length) : l.take (l.length - 1) ++ [l[l.length - 1]] = l := by
  rw [List.take_append_getElem, List.take_of_length_le (by omega)]
theorem trimZ_last {l : List UInt8} (h : 0 < l.length) (hc : l[l.length - 1] = 48) : trimZ (l.take (l.length - 1)) = trimZ l := by
  have e := take_last h
  rw [hc] at e
  conv => rhs; rw [← e]
  rw [trimZ_snoc]
theorem trimZ_stop {l : List UInt8} (h : 0 < l.length) (hc : l[l.length - 1] ≠ 48) : trimZ l = l := by
  have e := take_last h
  have := trimZ_keep (l.take (l.length - 1)) (l[l.length - 1]) hc
  rw [e] at this
  exact this
end Dc

theorem one_eq (x c : UInt8) (r : List UInt8) : ((((⟨(x :: r).toArray⟩ : ByteArray).extract 0 1).toList == [c]) : Bool) = (x == c) := by
  rw [Lib.extract_toList]
  simp

set_option maxHeartbeats 400000 in
theorem hasPrefix1 (l : List UInt8) (c : UInt8) (w : World) :
    Calls Tryz.prog 107 #[.string ⟨l.toArray⟩, .string ⟨[c].toArray⟩] w fun e w' => e = .returned (.bool (Dc.headIs c l)) ∧ w = w' := by
  match l with
  | [] =>
    go_enter Tryz.func107, Tryz.ntmps107
    go_wp2
    go_ret
    exact ⟨rfl, rfl⟩
  | x :: r =>
    have hn : (1 : Int) ≤ ((x :: r).length : Int) := by simp; omega
    go_enter Tryz.func107, Tryz.ntmps107
    go_wp2
    go_ret
    exact ⟨ret_bool (one_eq x c r), rfl⟩

theorem ret2_sb {a b : ByteArray} {c d : Bool} (h : a = b) (k : c = d) : Ending.returned (.tuple #[.string a, .bool c]) = .returned (.tuple #[.string b, .bool d]) := by rw [h, k]
theorem ret3_ssb {a b a' b' : ByteArray} {c d : Bool} (h : a = b) (h' : a' = b') (k : c = d) : Ending.returned (.tuple #[.string a, .string a', .bool c]) = .returned (.tuple #[.string b, .string b', .bool d]) := by rw [h, h', k]

set_option maxHeartbeats 400000 in
theorem sCutPrefix1 (l : List UInt8) (c : UInt8) (w : World) :
    Calls Tryz.prog 93 #[.string ⟨l.toArray⟩, .string ⟨[c].toArray⟩] w fun e w' => e = .returned (.tuple #[.string ⟨(Dc.cutHead c l).toArray⟩, .bool (Dc.headIs c l)]) ∧ w = w' := by
  have H := Lib.hid (fun W => hasPrefix1 l c W)
  cases h : Dc.headIs c l
  · have HM := Lib.hid (Dc.cut_miss h)
    rw [h] at H
    clear h
    go_enter Tryz.func93, Tryz.ntmps93
    go_wp2_with (go_at_call 107; go_must (refine (H.out _).mono ?_; rintro e w' ⟨rfl, rfl⟩))
    ((try simp only [Exit.inBlock, Exit.then]); refine bodyPost_ret (results_tmp2 rfl _ _ _) rfl ?_)
    exact ⟨ret2_sb (by rw [HM.out]) rfl, rfl⟩
  · have HM := Lib.hid (Dc.cut_hit h)
    have hl := Dc.headIs_pos h
    rw [h] at H
    clear h
    go_enter Tryz.func93, Tryz.ntmps93
    go_wp2_with (go_at_call 107; go_must (refine (H.out _).mono ?_; rintro e w' ⟨rfl, rfl⟩))
    ((try simp only [Exit.inBlock, Exit.then]); refine bodyPost_ret (results_tmp2 rfl _ _ _) rfl ?_)
    exact ⟨ret2_sb (by rw [HM.out]; exact ext_from l 1 _ (Nat.le_refl _)) rfl, rfl⟩

set_option maxHeartbeats 400000 in
theorem cutPrefix1 (l : List UInt8) (c : UInt8) (w : World) :
    Calls Tryz.prog 78 #[.string ⟨l.toArray⟩, .string ⟨[c].toArray⟩] w fun e w' => e = .returned (.tuple #[.string ⟨(Dc.cutHead c l).toArray⟩, .bool (Dc.headIs c l)]) ∧ w = w' := by
  go_enter Tryz.func78, Tryz.ntmps78
  go_wp2_with (go_at_call 93; go_must (refine (sCutPrefix1 _ _ _).mono ?_; rintro e w' ⟨rfl, rfl⟩))
  ((try simp only [Exit.inBlock, Exit.then]); refine bodyPost_ret (results_tmp2 rfl _ _ _) rfl ?_)
  exact ⟨rfl, rfl⟩

set_option maxHeartbeats 400000 in
theorem sTrimPrefix1 (l : List UInt8) (c : UInt8) (w : World) :
    Calls Tryz.prog 113 #[.string ⟨l.toArray⟩, .string ⟨[c].toArray⟩] w fun e w' => e = .returned (.string ⟨(Dc.cutHead c l).toArray⟩) ∧ w = w' := by
  have H := Lib.hid (fun W => hasPrefix1 l c W)
  cases h : Dc.headIs c l
  · have HM := Lib.hid (Dc.cut_miss h)
    rw [h] at H
    clear h
    go_enter Tryz.func113, Tryz.ntmps113
    go_wp2_with (go_at_call 107; go_must (refine (H.out _).mono ?_; rintro e w' ⟨rfl, rfl⟩))
    go_ret
    exact ⟨ret_str (by rw [HM.out]), rfl⟩
  · have HM := Lib.hid (Dc.cut_hit h)
    have hl := Dc.headIs_pos h
    rw [h] at H
    clear h
    go_enter Tryz.func113, Tryz.ntmps113
    go_wp2_with (go_at_call 107; go_must (refine (H.out _).mono ?_; rintro e w' ⟨rfl, rfl⟩))
    go_ret
    exact ⟨ret_str (by rw [HM.out]; exact ext_from l 1 _ (Nat.le_refl _)), rfl⟩

set_option maxHeartbeats 400000 in
theorem trimPrefix1 (l : List UInt8) (c : UInt8) (w : World) :
    Calls Tryz.prog 97 #[.string ⟨l.toArray⟩, .string ⟨[c].toArray⟩] w fun e w' => e = .returned (.string ⟨(Dc.cutHead c l).toArray⟩) ∧ w = w' := by
  go_enter Tryz.func97, Tryz.ntmps97
  go_wp2_with (go_at_call 113; go_must (refine (sTrimPrefix1 _ _ _).mono ?_; rintro e w' ⟨rfl, rfl⟩))
  go_ret
  exact ⟨rfl, rfl⟩

set_option maxHeartbeats 400000 in
theorem indexByte1 (l : List UInt8) (c : Int) (w : World) :
    Calls Tryz.prog 108 #[.string ⟨l.toArray⟩, .int .u8 c] w fun e w' => e = .returned (.int .i64 (Lib.indexByte l c.toNat.toUInt8)) ∧ w = w' := by
  go_enter Tryz.func108, Tryz.ntmps108
  go_wp2
  rw [run_callFunc_extern Tryz.func118 (by kernel_rfl) (by kernel_rfl) (by kernel_rfl) (e := Extern.BytealgIndexByte.indexByte) (by kernel_rfl), Lib.run_indexByteString]
  simp only [Result.andThen]
  rw [Oper.upon_value]
  go_wp2
  go_ret
  exact ⟨rfl, rfl⟩

set_option maxHeartbeats 400000 in
set_option maxRecDepth 100000 in
theorem index46 (l : List UInt8) (w : World) :
    Calls Tryz.prog 94 #[.string ⟨l.toArray⟩, .string ⟨[46].toArray⟩] w fun e w' => e = .returned (.int .i64 (Lib.indexByte l 46)) ∧ w = w' := by
  have H : Hid (∀ W, Calls Tryz.prog 108 #[.string ⟨l.toArray⟩, .int .u8 46] W fun e w' => e = .returned (.int .i64 (Lib.indexByte l 46)) ∧ W = w') := Lib.hid fun W => indexByte1 l 46 W
  by_cases hl : l = [46]
  · subst hl
    go_enter Tryz.func94, Tryz.ntmps94
    go_wp2
    go_ret
    exact ⟨ret_i64 (by decide), rfl⟩
  · have h1 : (([46] : List UInt8) == l) = false := by
      rw [beq_eq_false_iff_ne]; exact fun e => hl e.symm
    go_enter Tryz.func94, Tryz.ntmps94
    go_wp2_with (go_at_call 108; go_must (refine (H.out _).mono ?_; rintro e w' ⟨rfl, rfl⟩))
    go_ret
    exact ⟨rfl, rfl⟩

theorem below_drewN {B : Nat} {a w : World} (h : Below B a w) (n : Nat) : Below B a (w.drewN n) := ⟨h.os, h.tape, h.output, h.size, h.block⟩

set_option maxHeartbeats 400000 in
theorem sCut46 (l : List UInt8) (hl : l.length ≤ 4611686018427387904) (w : World) :
    Calls Tryz.prog 114 #[.string ⟨l.toArray⟩, .string ⟨[46].toArray⟩] w fun e w' => e = .returned (.tuple #[.string ⟨(Dc.ahead l).toArray⟩, .string ⟨(Dc.behind l).toArray⟩, .bool (Dc.dotted l)]) ∧ Below w.heap.size w w' := by
  have hi := Dc.index_dot l
  have H := Lib.hid (fun W => index46 l W)
  rw [hi] at H
  clear hi
  cases h : Dc.dotted l
  · rw [h] at H
    have H2 : Hid (∀ W, Calls Tryz.prog 94 #[.string ⟨l.toArray⟩, .string ⟨[46].toArray⟩] W fun e w' => e = .returned (.int .i64 (-1)) ∧ W = w') := H
    have HU := Lib.hid (Dc.undotted h)
    clear h H
    go_enter Tryz.func114, Tryz.ntmps114
    go_wp2_with (go_at_call 94; go_must (refine (H2.out _).mono ?_; rintro e w' ⟨rfl, rfl⟩))
    ((try simp only [Exit.inBlock, Exit.then]); refine bodyPost_ret (results_tmp3 rfl _ _ _) rfl ?_)
    exact ⟨ret3_ssb (by rw [HU.out.1]) (by rw [HU.out.2]) rfl, Below.refl _ _⟩
  · rw [h] at H
    have hlen := Dc.dotted_len h
    have HA := Lib.hid (Dc.ahead_take l)
    have HB := Lib.hid (Dc.behind_drop l)
    obtain ⟨k, hk⟩ : ∃ k : Nat, (Dc.ahead l).length = k := ⟨_, rfl⟩
    rw [hk] at hlen HA HB H
    have H2 : Hid (∀ W, Calls Tryz.prog 94 #[.string ⟨l.toArray⟩, .string ⟨[46].toArray⟩] W fun e w' => e = .returned (.int .i64 (k : Int)) ∧ W = w') := H
    clear h hk H
    have k0 : (0 : Int) ≤ (k : Int) := by omega
    have hw : IntKind.i64.wrap ((k : Int) + 1) = (k : Int) + 1 := IntWalk.i64_in _ (by omega)
    have hn : ((k : Int) + 1).toNat = k + 1 := by omega
    go_enter Tryz.func114, Tryz.ntmps114
    go_wp2_with (go_at_call 94; go_must (refine (H2.out _).mono ?_; rintro e w' ⟨rfl, rfl⟩))
    go_quiet (fail)
    go_wp2
    ((try simp only [Exit.inBlock, Exit.then]); refine bodyPost_ret (results_tmp3 rfl _ _ _) rfl ?_)
    exact ⟨ret3_ssb (by rw [ext_mk, ← HA.out]; rfl) (by rw [ext_from _ _ _ (Nat.le_refl _), HB.out]) rfl, below_drewN (Below.refl _ _) _⟩

set_option maxHeartbeats 400000 in
theorem cut46 (l : List UInt8) (hl : l.length ≤ 4611686018427387904) (w : World) :
    Calls Tryz.prog 98 #[.string ⟨l.toArray⟩, .string ⟨[46].toArray⟩] w fun e w' => e = .returned (.tuple #[.string ⟨(Dc.ahead l).toArray⟩, .string ⟨(Dc.behind l).toArray⟩, .bool (Dc.dotted l)]) ∧ Below w.heap.size w w' := by
  go_enter Tryz.func98, Tryz.ntmps98
  go_wp2_with (go_at_call 114; go_must (refine (sCut46 _ hl _).mono ?_; rintro e w' ⟨rfl, hb⟩))
  ((try simp only [Exit.inBlock, Exit.then]); refine bodyPost_ret (results_tmp3 rfl _ _ _) rfl ?_)
  exact ⟨rfl, hb⟩

set_option maxHeartbeats 400000 in
theorem trimRight1 (l : List UInt8) (hl : l.length ≤ 4611686018427387904) (w : World) :
    Calls Tryz.prog 102 #[.string ⟨l.toArray⟩, .int .u8 48] w fun e w' => e = .returned (.string ⟨(Dc.trimZ l).toArray⟩) ∧ w = w' := by
  go_enter Tryz.func102, Tryz.ntmps102
  go_wp2_with fail
  go_loop [0] (fun s => ∃ m : List UInt8, m.length ≤ l.length ∧ s = .string ⟨m.toArray⟩ ∧ Hid (Dc.trimZ m = Dc.trimZ l)) (fun s => strLen s)
  case atStart => exact ⟨l, Nat.le_refl _, rfl, Lib.hid rfl⟩
  case round =>
    obtain ⟨m, hm, rfl, hs⟩ := hrel
    by_cases h0 : 0 < m.length
    · have hx : m.length - 1 < m.length := by omega
      have h0' : (0 : Int) < (m.length : Int) := by omega
      by_cases hc : m[m.length - 1] = 48
      · have hb : (((⟨m.toArray⟩ : ByteArray)[m.length - 1]'hx).toNat == 48) = true := by
          show (m[m.length - 1].toNat == 48) = true
          rw [hc]; rfl
        have HT := Lib.hid (Dc.trimZ_last h0 hc)
        clear hc
        go_wp2
        go_round
        case rel =>
          refine ⟨m.take (m.length - 1), by simp; omega, ?_, Lib.hid (HT.out.trans hs.out)⟩
          rw [ext_mk]; rfl
        case measure => simp [strLen, ByteArray.size]; omega
      · have hb : (((⟨m.toArray⟩ : ByteArray)[m.length - 1]'hx).toNat == 48) = false := by
          show (m[m.length - 1].toNat == 48) = false
          simp
          intro h
          exact hc (UInt8.toNat_inj.1 h)
        have HT := Lib.hid (Dc.trimZ_stop h0 hc)
        clear hc
        go_wp2
        go_ret
        exact ⟨ret_str (by rw [← hs.out, HT.out]), rfl⟩
    · have h0' : ¬ (0 : Int) < (m.length : Int) := by omega
      have hn : Hid (m = []) := Lib.hid (List.eq_nil_of_length_eq_zero (by omega))
      go_wp2
      go_ret
      exact ⟨ret_str (by rw [← hs.out, hn.out]; rfl), rfl⟩

set_option maxHeartbeats 400000 in
set_option maxRecDepth 100000 in
theorem trimRight48 (l : List UInt8) (hl : l.length ≤ 4611686018427387904) (w : World) :
    Calls Tryz.prog 87 #[.string ⟨l.toArray⟩, .string ⟨[48].toArray⟩] w fun e w' => e = .returned (.string ⟨(Dc.trimZ l).toArray⟩) ∧ w = w' := by
  by_cases h0 : l = []
  · subst h0
    go_enter Tryz.func87, Tryz.ntmps87
    go_wp2
    go_ret
    exact ⟨rfl, rfl⟩
  · have h1 : l.isEmpty = false := by cases l with
      | nil => exact absurd rfl h0
      | cons => rfl
    clear h0
    go_enter Tryz.func87, Tryz.ntmps87
    go_wp2_with (go_at_call 102; go_must (refine (trimRight1 _ hl _).mono ?_; rintro e w' ⟨rfl, rfl⟩))
    go_ret
    exact ⟨rfl, rfl⟩

end Go.Proofs.YtojmcndiooiehaaGreatDoor

namespace Go.Proofs.YtojmcndiooiehaaGreatDoor
set_option maxRecDepth 20000
open Go.RowKit

namespace Dc
theorem allD_snoc_false {l : List UInt8} {k : Nat} (h : k < l.length) (hd : isD l[k] = false) : all l = false := by
  unfold all; rw [allD_false h hd]; rfl
theorem numFrom_take_succ (n : Nat) (l : List UInt8) (k : Nat) (h : k < l.length) : numFrom n (l.take (k + 1)) = numFrom n (l.take k) * 10 + (l[k].toNat - 48) := by
  rw [List.take_succ_eq_append_getElem h]
  unfold numFrom
  rw [List.foldl_append]
  rfl
theorem numFrom_take_le (n : Nat) (l : List UInt8) (k : Nat) : numFrom n (l.take k) ≤ numFrom n l := by
  have h : numFrom n l = numFrom (numFrom n (l.take k)) (l.drop k) := by
    unfold numFrom
    rw [← List.foldl_append, List.take_append_drop]
  rw [h, numFrom_eq (l.drop k)]
  have : 1 ≤ 10 ^ (l.drop k).length := Nat.one_le_pow _ _ (by decide)
  have := Nat.mul_le_mul_left (numFrom n (l.take k)) this
  omega
/-- Digits written behind a number: whether that is up to the greatest, and what it is. -/
def exB (n : Nat) (l : List UInt8) : Bool := decide (numFrom n l ≤ 4611686018427387904)
def exN (n : Nat) (l : List UInt8) : Int := if exB n l then (numFrom n l : Int) else 0
theorem ex_no {n : Nat} {l : List UInt8} {k : Nat} (h : 4611686018427387904 < numFrom n (l.take k)) : exB n l = false ∧ exN n l = 0 := by
  have h1 := numFrom_take_le n l k
  have h2 : exB n l = false := by unfold exB; rw [decide_eq_false_iff_not]; omega
  exact ⟨h2, by unfold exN; rw [h2]; rfl⟩
theorem ex_yes {n : Nat} {l : List UInt8} (h : numFrom n l ≤ 4611686018427387904) : exB n l = true ∧ exN n l = numFrom n l := by
  have h2 : exB n l = true := by unfold exB; rw [decide_eq_true_eq]; exact h
  exact ⟨h2, by unfold exN; rw [h2]; rfl⟩
end Dc

theorem notD_high {c : UInt8} (h : 128 ≤ c.toNat) : Dc.isD c = false := by
  cases hd : Dc.isD c
  · rfl
  · have := Dc.isD_iff.1 hd; omega

set_option maxHeartbeats 400000 in
theorem areDigits_any (l : List UInt8) (hl : l.length ≤ 4611686018427387904) (w : World) :
    Calls Tryz.prog 99 #[.string ⟨l.toArray⟩] w fun e w' => e = .returned (.bool (Dc.all l)) ∧ Below w.heap.size w w' := by
  go_enter Tryz.func99, Tryz.ntmps99
  go_wp2
  go_loopw [2] (fun _ wr => ∃ k : Nat, k ≤ l.length ∧ wr = w.iter ⟨l.toArray⟩ k ∧ Hid (Dc.allD (l.take k) = true)) (fun _ wr => l.length - wr.iterPos w.heap.size)
  case atStart => exact ⟨0, Nat.zero_le _, rfl, Lib.hid rfl⟩
  case round =>
    obtain ⟨k, hk, rfl, HD⟩ := hrel
    by_cases hlt : k < l.length
    · have hn := Lib.hid (Dc.allD_take_succ l k hlt)
      by_cases ha : (((⟨l.toArray⟩ : ByteArray)[k]'hlt).toNat) < 128
      · have hnx : ∀ ty, (Instr.next (.pointer (some ⟨w.heap.size, 0, none⟩)) true ty).run Tryz.prog (w.iter ⟨l.toArray⟩ k) = _ := fun ty => run_next_ascii w ⟨l.toArray⟩ k ty hlt ha
        cases hc : Dc.isD l[k]
        · have hf := Lib.hid (Dc.allD_snoc_false hlt hc)
          by_cases h48 : (48 : Int) ≤ (((⟨l.toArray⟩ : ByteArray)[k]'hlt).toNat : Int)
          · have h57 : (57 : Int) < (((⟨l.toArray⟩ : ByteArray)[k]'hlt).toNat : Int) := by
              have g : ¬ (48 ≤ l[k].toNat ∧ l[k].toNat ≤ 57) := fun h => by rw [Dc.isD_iff.2 h] at hc; cases hc
              have g2 : (48 : Int) ≤ (l[k].toNat : Int) := h48
              show (57 : Int) < (l[k].toNat : Int)
              omega
            clear hc
            go_wp2
            go_ret
            exact ⟨ret_bool (by rw [hf.out]), (Below.refl _ _).alloc (Nat.le_refl _) _⟩
          · have h48' : (((⟨l.toArray⟩ : ByteArray)[k]'hlt).toNat : Int) < 48 := by omega
            clear hc
            go_wp2
            go_ret
            exact ⟨ret_bool (by rw [hf.out]), (Below.refl _ _).alloc (Nat.le_refl _) _⟩
        · have hb := Dc.isD_iff.1 hc
          have b0 : (48 : Int) ≤ (((⟨l.toArray⟩ : ByteArray)[k]'hlt).toNat : Int) := by have := hb.1; show (48 : Int) ≤ (l[k].toNat : Int); omega
          have b1 : (((⟨l.toArray⟩ : ByteArray)[k]'hlt).toNat : Int) ≤ 57 := by have := hb.2; show (l[k].toNat : Int) ≤ 57; omega
          have HC := Lib.hid hc
          clear hc hb
          go_wp2
          go_roundw
          case rel => exact ⟨k + 1, by omega, rfl, Lib.hid (by rw [hn.out, HD.out, HC.out]; rfl)⟩
          case measure => simp; omega
      · have hdh := decode_high (⟨l.toArray⟩ : ByteArray) k hlt (by omega)
        have hf := Lib.hid (Dc.allD_snoc_false hlt (notD_high (c := l[k]) (Nat.not_lt.1 ha)))
        have hnx : ∀ ty, (Instr.next (.pointer (some ⟨w.heap.size, 0, none⟩)) true ty).run Tryz.prog (w.iter ⟨l.toArray⟩ k) = _ := fun ty => run_next_any w ⟨l.toArray⟩ k ty hlt
        have h57 : (57 : Int) < ((Utf8.decode (⟨l.toArray⟩ : ByteArray) k).1 : Int) := by have := hdh.1; omega
        clear hdh
        generalize Utf8.decode (⟨l.toArray⟩ : ByteArray) k = dk at *
        go_wp2
        go_ret
        exact ⟨ret_bool (by rw [hf.out]), (Below.refl _ _).alloc (Nat.le_refl _) _⟩
    · obtain rfl : k = l.length := by omega
      rw [List.take_length] at HD
      have hnx : ∀ ty, (Instr.next (.pointer (some ⟨w.heap.size, 0, none⟩)) true ty).run Tryz.prog (w.iter ⟨l.toArray⟩ l.length) = _ := fun ty => run_next_end w ⟨l.toArray⟩ l.length ty hlt
      go_wp2
      go_ret
      exact ⟨ret_bool (by unfold Dc.all; rw [HD.out]; cases l <;> simp), (Below.refl _ _).alloc (Nat.le_refl _) _⟩

set_option maxHeartbeats 400000 in
theorem extend_any (n : Nat) (hn : n ≤ 4611686018427387904) (l : List UInt8) (hD : Hid (Dc.allD l = true)) (w : World) :
    Calls Tryz.prog 115 #[.int .i64 n, .string ⟨l.toArray⟩] w fun e w' => e = .returned (.tuple #[.int .i64 (Dc.exN n l), .bool (Dc.exB n l)]) ∧ Below w.heap.size w w' := by
  go_enter Tryz.func115, Tryz.ntmps115
  go_wp2
  go_loopw [0] (fun n0 wr => ∃ (k : Nat) (x : Int), k ≤ l.length ∧ wr = w.iter ⟨l.toArray⟩ k ∧ n0 = .int .i64 x ∧ 0 ≤ x ∧ x ≤ 4611686018427387904 ∧ Hid (x = (Dc.numFrom n (l.take k) : Int))) (fun _ wr => l.length - wr.iterPos w.heap.size)
  case atStart => exact ⟨0, n, Nat.zero_le _, rfl, rfl, by omega, by omega, Lib.hid rfl⟩
  case round =>
    obtain ⟨k, x, hk, rfl, rfl, x0, x1, hx⟩ := hrel
    by_cases hlt : k < l.length
    · have hs := Lib.hid (Dc.numFrom_take_succ n l k hlt)
      have hb := Dc.isD_iff.1 (Dc.isD_of_allD hD.out k hlt)
      have b0 : (48 : Int) ≤ (((⟨l.toArray⟩ : ByteArray)[k]'hlt).toNat : Int) := by have := hb.1; show (48 : Int) ≤ (l[k].toNat : Int); omega
      have b1 : (((⟨l.toArray⟩ : ByteArray)[k]'hlt).toNat : Int) ≤ 57 := by have := hb.2; show (l[k].toNat : Int) ≤ 57; omega
      have ha : (((⟨l.toArray⟩ : ByteArray)[k]'hlt).toNat) < 128 := by have := hb.2; show l[k].toNat < 128; omega
      have hnx : ∀ ty, (Instr.next (.pointer (some ⟨w.heap.size, 0, none⟩)) true ty).run Tryz.prog (w.iter ⟨l.toArray⟩ k) = _ := fun ty => run_next_ascii w ⟨l.toArray⟩ k ty hlt ha
      have hd : Hid ((((⟨l.toArray⟩ : ByteArray)[k]'hlt).toNat : Int) = (l[k].toNat : Int)) := Lib.hid rfl
      clear hb ha
      generalize hc : (((⟨l.toArray⟩ : ByteArray)[k]'hlt).toNat : Int) = c at *
      clear hc
      by_cases hcap : x * 10 + (c - 48) ≤ 4611686018427387904
      · have hcap' : x ≤ (4611686018427387904 - (c - 48)) / 10 := by omega
        go_wp2
        go_roundw
        case rel =>
          refine ⟨k + 1, _, by omega, rfl, rfl, by omega, by omega, Lib.hid ?_⟩
          rw [hs.out]
          have := hx.out
          have := hd.out
          omega
        case measure => simp; omega
      · have hcap' : (4611686018427387904 - (c - 48)) / 10 < x := by omega
        have hno : Hid (Dc.exB n l = false ∧ Dc.exN n l = 0) := by
          apply Lib.hid
          apply Dc.ex_no (k := k + 1)
          rw [hs.out]
          have := hx.out
          have := hd.out
          omega
        go_wp2
        ((try simp only [Exit.inBlock, Exit.then]); refine bodyPost_ret (results_tmp2 rfl _ _ _) rfl ?_)
        exact ⟨ret2_ib hno.out.2.symm hno.out.1.symm, (Below.refl _ _).alloc (Nat.le_refl _) _⟩
    · obtain rfl : k = l.length := by omega
      rw [List.take_length] at hx
      have hnx : ∀ ty, (Instr.next (.pointer (some ⟨w.heap.size, 0, none⟩)) true ty).run Tryz.prog (w.iter ⟨l.toArray⟩ l.length) = _ := fun ty => run_next_end w ⟨l.toArray⟩ l.length ty hlt
      have hy : Hid (Dc.exB n l = true ∧ Dc.exN n l = Dc.numFrom n l) := Lib.hid (Dc.ex_yes (by have := hx.out; omega))
      go_wp2
      ((try simp only [Exit.inBlock, Exit.then]); refine bodyPost_ret (results_tmp2 rfl _ _ _) rfl ?_)
      exact ⟨ret2_ib (by rw [hy.out.2]; exact hx.out) hy.out.1.symm, (Below.refl _ _).alloc (Nat.le_refl _) _⟩

namespace Dc
theorem body_len (l : List UInt8) : (body l).length ≤ l.length := by unfold body; split <;> simp
theorem all_split {l : List UInt8} (h : all l = true) : allD l = true ∧ l ≠ [] := by
  unfold all at h; simpa using h
theorem num_ex (l : List UInt8) : numFrom 0 l = num l := rfl
theorem wh_no1 {l : List UInt8} (h : all (body l) = false) : whOk l = false ∧ whN l = 0 := by
  have h2 : whOk l = false := by unfold whOk; rw [h]; rfl
  exact ⟨h2, by unfold whN; rw [h2]; rfl⟩
theorem wh_ex {l : List UInt8} (h : all (body l) = true) : whOk l = exB 0 (body l) ∧ whN l = if minus l then -exN 0 (body l) else exN 0 (body l) := by
  have h2 : whOk l = exB 0 (body l) := by unfold whOk exB; rw [h]; rfl
  refine ⟨h2, ?_⟩
  unfold whN exN
  rw [h2, num_ex]
  cases exB 0 (body l) <;> cases minus l <;> rfl
theorem exN_le (n : Nat) (l : List UInt8) : 0 ≤ exN n l ∧ exN n l ≤ 4611686018427387904 := by
  unfold exN
  split
  · rename_i h
    unfold exB at h
    rw [decide_eq_true_eq] at h
    omega
  · omega
end Dc

end Go.Proofs.YtojmcndiooiehaaGreatDoor

namespace Go.Proofs.YtojmcndiooiehaaGreatDoor
namespace Fx

/-- A value: whether it is known, and its millionths. -/
structure Vl where
  ok : Bool
  n : Int

def inR (n : Int) : Bool := decide (-4611686018427387904 ≤ n ∧ n ≤ 4611686018427387904)
def none : Vl := ⟨false, 0⟩
/-- Of: the value of n millionths, or none. -/
def of (n : Int) : Vl := if inR n then ⟨true, n⟩ else none
def num (v : Vl) : Bool := v.ok && inR v.n
def isV (v : Vl) : Bool := if v.ok then inR v.n else decide (v.n = 0)
def plus (a b : Vl) : Vl := if num a && num b then of (a.n + b.n) else none
def sub (a b : Vl) : Vl := if num a && num b then of (a.n - b.n) else none
def abs (a : Vl) : Vl := if num a then of (if 0 ≤ a.n then a.n else -a.n) else none
def less (a b : Vl) : Bool := (num a && num b) && decide (a.n < b.n)

theorem inR_yes {n : Int} (h1 : -4611686018427387904 ≤ n) (h2 : n ≤ 4611686018427387904) : inR n = true := by unfold inR; simp; omega
theorem inR_low {n : Int} (h : n < -4611686018427387904) : inR n = false := by unfold inR; simp; omega
theorem inR_high {n : Int} (h : 4611686018427387904 < n) : inR n = false := by unfold inR; simp; omega
theorem inR_iff {n : Int} : inR n = true ↔ -4611686018427387904 ≤ n ∧ n ≤ 4611686018427387904 := by unfold inR; simp
theorem inR_not {n : Int} (h : inR n = false) : n < -4611686018427387904 ∨ 4611686018427387904 < n := by
  by_cases h1 : n < -4611686018427387904
  · exact .inl h1
  · by_cases h2 : 4611686018427387904 < n
    · exact .inr h2
    · rw [inR_yes (by omega) (by omega)] at h; cases h
theorem of_yes {n : Int} (h : inR n = true) : of n = ⟨true, n⟩ := by unfold of; rw [if_pos h]
theorem of_no {n : Int} (h : inR n = false) : of n = none := by unfold of; rw [if_neg (by simp [h])]
theorem num_yes {n : Int} (h : inR n = true) : num ⟨true, n⟩ = true := by simp [num, h]
theorem num_no {n : Int} (h : inR n = false) : num ⟨true, n⟩ = false := by simp [num, h]
theorem num_off {n : Int} : num ⟨false, n⟩ = false := rfl
theorem num_iff {b : Bool} {n : Int} : num ⟨b, n⟩ = true ↔ b = true ∧ -4611686018427387904 ≤ n ∧ n ≤ 4611686018427387904 := by
  unfold num; simp [inR_iff]
theorem isV_on {n : Int} : isV ⟨true, n⟩ = inR n := rfl
theorem isV_off {n : Int} : isV ⟨false, n⟩ = decide (n = 0) := rfl
theorem plus_yes {a b : Vl} (h1 : num a = true) (h2 : num b = true) : plus a b = of (a.n + b.n) := by unfold plus; simp [h1, h2]
theorem plus_no1 {a b : Vl} (h1 : num a = false) : plus a b = none := by unfold plus; simp [h1]
theorem plus_no2 {a b : Vl} (h2 : num b = false) : plus a b = none := by unfold plus; simp [h2]
theorem sub_yes {a b : Vl} (h1 : num a = true) (h2 : num b = true) : sub a b = of (a.n - b.n) := by unfold sub; simp [h1, h2]
theorem sub_no1 {a b : Vl} (h1 : num a = false) : sub a b = none := by unfold sub; simp [h1]
theorem sub_no2 {a b : Vl} (h2 : num b = false) : sub a b = none := by unfold sub; simp [h2]
theorem abs_pos {a : Vl} (h : num a = true) (h0 : 0 ≤ a.n) : abs a = of a.n := by unfold abs; simp [h, h0]
theorem abs_neg {a : Vl} (h : num a = true) (h0 : a.n < 0) : abs a = of (-a.n) := by unfold abs; rw [if_pos h, if_neg (by omega)]
theorem abs_no {a : Vl} (h : num a = false) : abs a = none := by unfold abs; simp [h]
theorem of_wrap {n : Int} (h1 : -9223372036854775808 ≤ n) (h2 : n ≤ 9223372036854775808) : of (Go.RowKit.wrap64 n) = of n := by
  unfold Go.RowKit.wrap64
  by_cases h : n = 9223372036854775808
  · subst h; rw [of_no (n := 9223372036854775808) (inR_high (by omega))]; exact of_no (inR_low (by omega))
  · congr 1; omega
/-- A number without its sign. -/
def mag (n : Int) : Nat := n.natAbs
end Fx
end Go.Proofs.YtojmcndiooiehaaGreatDoor
