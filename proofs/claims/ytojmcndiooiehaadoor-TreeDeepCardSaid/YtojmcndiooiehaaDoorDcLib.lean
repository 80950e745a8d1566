/-
  CONTRACTS: what the program calls of package strings, where the second text is one byte of ASCII.
-/
import Derived.Test.YtojmcndiooiehaaDoorDcRef
import Derived.Test.YtojmcndiooiehaaDoorDcPrint
import Derived.Lib.Bytealg
import Derived.Laws.Strings3
import Derived.Laws.RangeAny
namespace Go.Proofs.YtojmcndiooiehaaDoor
set_option maxRecDepth 20000
open Go.RowKit

namespace Dc
def headIs (c : UInt8) (l : List UInt8) : Bool := match l with | x :: _ => x == c | [] => false
def cutHead (c : UInt8) (l : List UInt8) : List UInt8 := if headIs c l then l.drop 1 else l
theorem minus_head (l : List UInt8) : headIs 45 l = minus l := by cases l <;> rfl
theorem body_cut (l : List UInt8) : cutHead 45 l = body l := by unfold cutHead body; rw [minus_head]
theorem cut_hit {c : UInt8} {l : List UInt8} (h : headIs c l = true) : cutHead c l = l.drop 1 := by unfold cutHead; rw [if_pos h]
theorem cut_miss {c : UInt8} {l : List UInt8} (h : headIs c l = false) : cutHead c l = l := by unfold cutHead; rw [if_neg (by simp [h])]
theorem headIs_pos {c : UInt8} {l : List UInt8} (h : headIs c l = true) : 1 ≤ l.length := by
  match l with
  | [] => cases h
  | _ :: _ => simp
theorem cut_len (c : UInt8) (l : List UInt8) : (cutHead c l).length ≤ l.length := by
  unfold cutHead; split <;> simp
/-- The first place of a dot. -/
theorem index_dot (l : List UInt8) : Lib.indexByte l 46 = if dotted l then ((ahead l).length : Int) else -1 := by
  induction l with
  | nil => rfl
  | cons b r ih =>
    unfold Lib.indexByte
    by_cases hb : b = 46
    · subst hb
      rfl
    · have h1 : (b == 46) = false := by simpa using hb
      have h2 : (b != 46) = true := by simpa using hb
      have e1 : dotted (b :: r) = dotted r := by unfold dotted tail46; rw [List.dropWhile_cons, h2]; rfl
      have e2 : (ahead (b :: r)).length = (ahead r).length + 1 := by unfold ahead; rw [List.takeWhile_cons, h2]; rfl
      rw [h1, ih, e1, e2]
      simp only [Bool.false_eq_true, if_false]
      by_cases hd : dotted r = true
      · rw [if_pos hd, if_pos hd]
        have : (((ahead r).length : Int) == -1) = false := by rw [beq_eq_false_iff_ne]; omega
        rw [this]
        simp
      · rw [if_neg hd, if_neg hd]
        rfl
theorem ahead_tail (l : List UInt8) : ahead l ++ tail46 l = l := List.takeWhile_append_dropWhile
theorem ahead_take (l : List UInt8) : l.take (ahead l).length = ahead l := by
  conv => lhs; arg 2; rw [← ahead_tail l]
  rw [List.take_left]
theorem behind_drop (l : List UInt8) : l.drop ((ahead l).length + 1) = behind l := by
  conv => lhs; arg 2; rw [← ahead_tail l]
  rw [← List.drop_drop, List.drop_left]
  rfl
theorem dotted_len {l : List UInt8} (h : dotted l = true) : (ahead l).length + 1 ≤ l.length := by
  have e := congrArg List.length (ahead_tail l)
  rw [List.length_append] at e
  have : (tail46 l).length ≠ 0 := by
    intro h0
    unfold dotted at h
    rw [List.eq_nil_of_length_eq_zero h0] at h
    cases h
  omega
theorem undotted {l : List UInt8} (h : dotted l = false) : ahead l = l ∧ behind l = [] := by
  have h0 : tail46 l = [] := by
    unfold dotted at h
    cases ht : tail46 l with
    | nil => rfl
    | cons => rw [ht] at h; cases h
  have e := ahead_tail l
  rw [h0, List.append_nil] at e
  exact ⟨e, by unfold behind; rw [h0]; rfl⟩
theorem trimZ_nil : trimZ [] = [] := rfl
theorem take_last {l : List UInt8} (h : 0 < l.length) : l.take (l.length - 1) ++ [l[l.length - 1]] = l := by
  rw [List.take_append_getElem, List.take_of_length_le (by omega)]
theorem trimZ_last {l : List UInt8} (h : 0 < l.length) (hc : l[l.length - 1] = 48) : trimZ (l.take (l.length - 1)) = trimZ l := by
  have e := take_last h
  rw [hc] at e
  conv => rhs; rw [← e]
  rw [trimZ_snoc]
theorem trimZ_stop {l : List UInt8} (h : 0 < l.length) (hc : l[l.length - 1] ≠ 48) : trimZ l = l := by
  have e := take_last h
  have := trimZ_keep (l.take (l.length - 1)) (l[l.length - 1]) hc
  rw [e] at this
  exact this
end Dc

theorem one_eq (x c : UInt8) (r : List UInt8) : ((((⟨(x :: r).toArray⟩ : ByteArray).extract 0 1).toList == [c]) : Bool) = (x == c) := by
  rw [Lib.extract_toList]
  simp

set_option maxHeartbeats 400000 in
theorem hasPrefix1 (l : List UInt8) (c : UInt8) (w : World) :
    Calls Tryd.prog 72 #[.string ⟨l.toArray⟩, .string ⟨[c].toArray⟩] w fun e w' => e = .returned (.bool (Dc.headIs c l)) ∧ w = w' := by
  match l with
  | [] =>
    go_enter Tryd.func72, Tryd.ntmps72
    go_wp2
    go_ret
    exact ⟨rfl, rfl⟩
  | x :: r =>
    have hn : (1 : Int) ≤ ((x :: r).length : Int) := by simp; omega
    go_enter Tryd.func72, Tryd.ntmps72
    go_wp2
    go_ret
    exact ⟨ret_bool (one_eq x c r), rfl⟩

theorem ret2_sb {a b : ByteArray} {c d : Bool} (h : a = b) (k : c = d) : Ending.returned (.tuple #[.string a, .bool c]) = .returned (.tuple #[.string b, .bool d]) := by rw [h, k]
theorem ret3_ssb {a b a' b' : ByteArray} {c d : Bool} (h : a = b) (h' : a' = b') (k : c = d) : Ending.returned (.tuple #[.string a, .string a', .bool c]) = .returned (.tuple #[.string b, .string b', .bool d]) := by rw [h, h', k]

set_option maxHeartbeats 400000 in
theorem sCutPrefix1 (l : List UInt8) (c : UInt8) (w : World) :
    Calls Tryd.prog 58 #[.string ⟨l.toArray⟩, .string ⟨[c].toArray⟩] w fun e w' => e = .returned (.tuple #[.string ⟨(Dc.cutHead c l).toArray⟩, .bool (Dc.headIs c l)]) ∧ w = w' := by
  have H := Lib.hid (fun W => hasPrefix1 l c W)
  cases h : Dc.headIs c l
  · have HM := Lib.hid (Dc.cut_miss h)
    rw [h] at H
    clear h
    go_enter Tryd.func58, Tryd.ntmps58
    go_wp2_with (go_at_call 72; go_must (refine (H.out _).mono ?_; rintro e w' ⟨rfl, rfl⟩))
    ((try simp only [Exit.inBlock, Exit.then]); refine bodyPost_ret (results_tmp2 rfl _ _ _) rfl ?_)
    exact ⟨ret2_sb (by rw [HM.out]) rfl, rfl⟩
  · have HM := Lib.hid (Dc.cut_hit h)
    have hl := Dc.headIs_pos h
    rw [h] at H
    clear h
    go_enter Tryd.func58, Tryd.ntmps58
    go_wp2_with (go_at_call 72; go_must (refine (H.out _).mono ?_; rintro e w' ⟨rfl, rfl⟩))
    ((try simp only [Exit.inBlock, Exit.then]); refine bodyPost_ret (results_tmp2 rfl _ _ _) rfl ?_)
    exact ⟨ret2_sb (by rw [HM.out]; exact ext_from l 1 _ (Nat.le_refl _)) rfl, rfl⟩

set_option maxHeartbeats 400000 in
theorem cutPrefix1 (l : List UInt8) (c : UInt8) (w : World) :
    Calls Tryd.prog 43 #[.string ⟨l.toArray⟩, .string ⟨[c].toArray⟩] w fun e w' => e = .returned (.tuple #[.string ⟨(Dc.cutHead c l).toArray⟩, .bool (Dc.headIs c l)]) ∧ w = w' := by
  go_enter Tryd.func43, Tryd.ntmps43
  go_wp2_with (go_at_call 58; go_must (refine (sCutPrefix1 _ _ _).mono ?_; rintro e w' ⟨rfl, rfl⟩))
  ((try simp only [Exit.inBlock, Exit.then]); refine bodyPost_ret (results_tmp2 rfl _ _ _) rfl ?_)
  exact ⟨rfl, rfl⟩

set_option maxHeartbeats 400000 in
theorem sTrimPrefix1 (l : List UInt8) (c : UInt8) (w : World) :
    Calls Tryd.prog 78 #[.string ⟨l.toArray⟩, .string ⟨[c].toArray⟩] w fun e w' => e = .returned (.string ⟨(Dc.cutHead c l).toArray⟩) ∧ w = w' := by
  have H := Lib.hid (fun W => hasPrefix1 l c W)
  cases h : Dc.headIs c l
  · have HM := Lib.hid (Dc.cut_miss h)
    rw [h] at H
    clear h
    go_enter Tryd.func78, Tryd.ntmps78
    go_wp2_with (go_at_call 72; go_must (refine (H.out _).mono ?_; rintro e w' ⟨rfl, rfl⟩))
    go_ret
    exact ⟨ret_str (by rw [HM.out]), rfl⟩
  · have HM := Lib.hid (Dc.cut_hit h)
    have hl := Dc.headIs_pos h
    rw [h] at H
    clear h
    go_enter Tryd.func78, Tryd.ntmps78
    go_wp2_with (go_at_call 72; go_must (refine (H.out _).mono ?_; rintro e w' ⟨rfl, rfl⟩))
    go_ret
    exact ⟨ret_str (by rw [HM.out]; exact ext_from l 1 _ (Nat.le_refl _)), rfl⟩

set_option maxHeartbeats 400000 in
theorem trimPrefix1 (l : List UInt8) (c : UInt8) (w : World) :
    Calls Tryd.prog 62 #[.string ⟨l.toArray⟩, .string ⟨[c].toArray⟩] w fun e w' => e = .returned (.string ⟨(Dc.cutHead c l).toArray⟩) ∧ w = w' := by
  go_enter Tryd.func62, Tryd.ntmps62
  go_wp2_with (go_at_call 78; go_must (refine (sTrimPrefix1 _ _ _).mono ?_; rintro e w' ⟨rfl, rfl⟩))
  go_ret
  exact ⟨rfl, rfl⟩

set_option maxHeartbeats 400000 in
theorem indexByte1 (l : List UInt8) (c : Int) (w : World) :
    Calls Tryd.prog 73 #[.string ⟨l.toArray⟩, .int .u8 c] w fun e w' => e = .returned (.int .i64 (Lib.indexByte l c.toNat.toUInt8)) ∧ w = w' := by
  go_enter Tryd.func73, Tryd.ntmps73
  go_wp2
  rw [run_callFunc_extern Tryd.func83 (by kernel_rfl) (by kernel_rfl) (by kernel_rfl) (e := Extern.BytealgIndexByte.indexByte) (by kernel_rfl), Lib.run_indexByteString]
  simp only [Result.andThen]
  rw [Oper.upon_value]
  go_wp2
  go_ret
  exact ⟨rfl, rfl⟩

set_option maxHeartbeats 400000 in
set_option maxRecDepth 100000 in
theorem index46 (l : List UInt8) (w : World) :
    Calls Tryd.prog 59 #[.string ⟨l.toArray⟩, .string ⟨[46].toArray⟩] w fun e w' => e = .returned (.int .i64 (Lib.indexByte l 46)) ∧ w = w' := by
  have H : Hid (∀ W, Calls Tryd.prog 73 #[.string ⟨l.toArray⟩, .int .u8 46] W fun e w' => e = .returned (.int .i64 (Lib.indexByte l 46)) ∧ W = w') := Lib.hid fun W => indexByte1 l 46 W
  by_cases hl : l = [46]
  · subst hl
    go_enter Tryd.func59, Tryd.ntmps59
    go_wp2
    go_ret
    exact ⟨ret_i64 (by decide), rfl⟩
  · have h1 : (([46] : List UInt8) == l) = false := by
      rw [beq_eq_false_iff_ne]; exact fun e => hl e.symm
    go_enter Tryd.func59, Tryd.ntmps59
    go_wp2_with (go_at_call 73; go_must (refine (H.out _).mono ?_; rintro e w' ⟨rfl, rfl⟩))
    go_ret
    exact ⟨rfl, rfl⟩

theorem below_drewN {B : Nat} {a w : World} (h : Below B a w) (n : Nat) : Below B a (w.drewN n) := ⟨h.os, h.tape, h.output, h.size, h.block⟩

set_option maxHeartbeats 400000 in
theorem sCut46 (l : List UInt8) (hl : l.length ≤ 4611686018427387904) (w : World) :
    Calls Tryd.prog 79 #[.string ⟨l.toArray⟩, .string ⟨[46].toArray⟩] w fun e w' => e = .returned (.tuple #[.string ⟨(Dc.ahead l).toArray⟩, .string ⟨(Dc.behind l).toArray⟩, .bool (Dc.dotted l)]) ∧ Below w.heap.size w w' := by
  have hi := Dc.index_dot l
  have H := Lib.hid (fun W => index46 l W)
  rw [hi] at H
  clear hi
  cases h : Dc.dotted l
  · rw [h] at H
    have H2 : Hid (∀ W, Calls Tryd.prog 59 #[.string ⟨l.toArray⟩, .string ⟨[46].toArray⟩] W fun e w' => e = .returned (.int .i64 (-1)) ∧ W = w') := H
    have HU := Lib.hid (Dc.undotted h)
    clear h H
    go_enter Tryd.func79, Tryd.ntmps79
    go_wp2_with (go_at_call 59; go_must (refine (H2.out _).mono ?_; rintro e w' ⟨rfl, rfl⟩))
    ((try simp only [Exit.inBlock, Exit.then]); refine bodyPost_ret (results_tmp3 rfl _ _ _) rfl ?_)
    exact ⟨ret3_ssb (by rw [HU.out.1]) (by rw [HU.out.2]) rfl, Below.refl _ _⟩
  · rw [h] at H
    have hlen := Dc.dotted_len h
    have HA := Lib.hid (Dc.ahead_take l)
    have HB := Lib.hid (Dc.behind_drop l)
    obtain ⟨k, hk⟩ : ∃ k : Nat, (Dc.ahead l).length = k := ⟨_, rfl⟩
    rw [hk] at hlen HA HB H
    have H2 : Hid (∀ W, Calls Tryd.prog 59 #[.string ⟨l.toArray⟩, .string ⟨[46].toArray⟩] W fun e w' => e = .returned (.int .i64 (k : Int)) ∧ W = w') := H
    clear h hk H
    have k0 : (0 : Int) ≤ (k : Int) := by omega
    have hw : IntKind.i64.wrap ((k : Int) + 1) = (k : Int) + 1 := IntWalk.i64_in _ (by omega)
    have hn : ((k : Int) + 1).toNat = k + 1 := by omega
    go_enter Tryd.func79, Tryd.ntmps79
    go_wp2_with (go_at_call 59; go_must (refine (H2.out _).mono ?_; rintro e w' ⟨rfl, rfl⟩))
    go_quiet (fail)
    go_wp2
    ((try simp only [Exit.inBlock, Exit.then]); refine bodyPost_ret (results_tmp3 rfl _ _ _) rfl ?_)
    exact ⟨ret3_ssb (by rw [ext_mk, ← HA.out]; rfl) (by rw [ext_from _ _ _ (Nat.le_refl _), HB.out]) rfl, below_drewN (Below.refl _ _) _⟩

set_option maxHeartbeats 400000 in
theorem cut46 (l : List UInt8) (hl : l.length ≤ 4611686018427387904) (w : World) :
    Calls Tryd.prog 63 #[.string ⟨l.toArray⟩, .string ⟨[46].toArray⟩] w fun e w' => e = .returned (.tuple #[.string ⟨(Dc.ahead l).toArray⟩, .string ⟨(Dc.behind l).toArray⟩, .bool (Dc.dotted l)]) ∧ Below w.heap.size w w' := by
  go_enter Tryd.func63, Tryd.ntmps63
  go_wp2_with (go_at_call 79; go_must (refine (sCut46 _ hl _).mono ?_; rintro e w' ⟨rfl, hb⟩))
  ((try simp only [Exit.inBlock, Exit.then]); refine bodyPost_ret (results_tmp3 rfl _ _ _) rfl ?_)
  exact ⟨rfl, hb⟩

set_option maxHeartbeats 400000 in
theorem trimRight1 (l : List UInt8) (hl : l.length ≤ 4611686018427387904) (w : World) :
    Calls Tryd.prog 67 #[.string ⟨l.toArray⟩, .int .u8 48] w fun e w' => e = .returned (.string ⟨(Dc.trimZ l).toArray⟩) ∧ w = w' := by
  go_enter Tryd.func67, Tryd.ntmps67
  go_wp2_with fail
  go_loop [0] (fun s => ∃ m : List UInt8, m.length ≤ l.length ∧ s = .string ⟨m.toArray⟩ ∧ Hid (Dc.trimZ m = Dc.trimZ l)) (fun s => strLen s)
  case atStart => exact ⟨l, Nat.le_refl _, rfl, Lib.hid rfl⟩
  case round =>
    obtain ⟨m, hm, rfl, hs⟩ := hrel
    by_cases h0 : 0 < m.length
    · have hx : m.length - 1 < m.length := by omega
      have h0' : (0 : Int) < (m.length : Int) := by omega
      by_cases hc : m[m.length - 1] = 48
      · have hb : (((⟨m.toArray⟩ : ByteArray)[m.length - 1]'hx).toNat == 48) = true := by
          show (m[m.length - 1].toNat == 48) = true
          rw [hc]; rfl
        have HT := Lib.hid (Dc.trimZ_last h0 hc)
        clear hc
        go_wp2
        go_round
        case rel =>
          refine ⟨m.take (m.length - 1), by simp; omega, ?_, Lib.hid (HT.out.trans hs.out)⟩
          rw [ext_mk]; rfl
        case measure => simp [strLen, ByteArray.size]; omega
      · have hb : (((⟨m.toArray⟩ : ByteArray)[m.length - 1]'hx).toNat == 48) = false := by
          show (m[m.length - 1].toNat == 48) = false
          simp
          intro h
          exact hc (UInt8.toNat_inj.1 h)
        have HT := Lib.hid (Dc.trimZ_stop h0 hc)
        clear hc
        go_wp2
        go_ret
        exact ⟨ret_str (by rw [← hs.out, HT.out]), rfl⟩
    · have h0' : ¬ (0 : Int) < (m.length : Int) := by omega
      have hn : Hid (m = []) := Lib.hid (List.eq_nil_of_length_eq_zero (by omega))
      go_wp2
      go_ret
      exact ⟨ret_str (by rw [← hs.out, hn.out]; rfl), rfl⟩

set_option maxHeartbeats 400000 in
set_option maxRecDepth 100000 in
theorem trimRight48 (l : List UInt8) (hl : l.length ≤ 4611686018427387904) (w : World) :
    Calls Tryd.prog 54 #[.string ⟨l.toArray⟩, .string ⟨[48].toArray⟩] w fun e w' => e = .returned (.string ⟨(Dc.trimZ l).toArray⟩) ∧ w = w' := by
  by_cases h0 : l = []
  · subst h0
    go_enter Tryd.func54, Tryd.ntmps54
    go_wp2
    go_ret
    exact ⟨rfl, rfl⟩
  · have h1 : l.isEmpty = false := by cases l with
      | nil => exact absurd rfl h0
      | cons => rfl
    clear h0
    go_enter Tryd.func54, Tryd.ntmps54
    go_wp2_with (go_at_call 67; go_must (refine (trimRight1 _ hl _).mono ?_; rintro e w' ⟨rfl, rfl⟩))
    go_ret
    exact ⟨rfl, rfl⟩

end Go.Proofs.YtojmcndiooiehaaDoor
