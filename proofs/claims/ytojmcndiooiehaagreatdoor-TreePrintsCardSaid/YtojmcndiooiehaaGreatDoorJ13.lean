/-
  DcRef: CONTRACTS: the document's own functions of chapter 2.
-/
import Derived.Test.YtojmcndiooiehaaGreatDoorRows
import Derived.Test.YtojmcndiooiehaaGreatDoorJ2
import Derived.WalkKit
import Derived.WalkSpells
import Derived.WalkLawsBesides
import Derived.Deep.QuietTactic
import Derived.BigQuiet
import Derived.Lib.QuietBelow
import Derived.Lib.Hide

set_option linter.unusedSimpArgs false
set_option linter.unusedVariables false
namespace Go.Proofs.YtojmcndiooiehaaGreatDoor
open Go.RowKit

theorem ret2_ib {a b : Int} {c d : Bool} (h : a = b) (k : c = d) : Ending.returned (.tuple #[.int .i64 a, .bool c]) = .returned (.tuple #[.int .i64 b, .bool d]) := by rw [h, k]
theorem ret_i64 {a b : Int} (h : a = b) : Ending.returned (.int .i64 a) = .returned (.int .i64 b) := by rw [h]
theorem ret_str {a b : ByteArray} (h : a = b) : Ending.returned (.string a) = .returned (.string b) := by rw [h]
theorem ret_bool {a b : Bool} (h : a = b) : Ending.returned (.bool a) = .returned (.bool b) := by rw [h]

set_option maxHeartbeats 400000 in
theorem digit_any (c : UInt8) (w : World) :
    Calls Tryz.prog 89 #[.int .u8 c.toNat] w fun e w' => e = .returned (.bool (Dc.isD c)) ∧ w = w' := by
  by_cases h1 : (48 : Int) ≤ (c.toNat : Int)
  · by_cases h2 : (c.toNat : Int) ≤ 57
    · have H := Lib.hid (Dc.isD_iff.2 ⟨by omega, by omega⟩ : Dc.isD c = true)
      go_enter Tryz.func89, Tryz.ntmps89
      go_wp2
      go_ret
      exact ⟨by rw [H.out]; rfl, rfl⟩
    · have H : Hid (Dc.isD c = false) := Lib.hid (by unfold Dc.isD; simp; omega)
      go_enter Tryz.func89, Tryz.ntmps89
      go_wp2
      go_ret
      exact ⟨by rw [H.out]; rfl, rfl⟩
  · have H : Hid (Dc.isD c = false) := Lib.hid (by unfold Dc.isD; simp; omega)
    go_enter Tryz.func89, Tryz.ntmps89
    go_wp2
    go_ret
    exact ⟨by rw [H.out]; rfl, rfl⟩

set_option maxHeartbeats 400000 in
theorem all_any (l : List UInt8) (hl : l.length ≤ 4611686018427387904) (w : World) :
    Calls Tryz.prog 69 #[.string ⟨l.toArray⟩] w fun e w' => e = .returned (.bool (Dc.all l)) ∧ w = w' := by
  go_enter Tryz.func69, Tryz.ntmps69
  go_wp2_with fail
  go_loop [3] (fun i => ∃ k : Nat, k ≤ l.length ∧ i = .int .i64 k ∧ Dc.allD (l.take k) = true) (fun i => l.length - (intOf i).toNat)
  case atStart => exact ⟨0, Nat.zero_le _, rfl, rfl⟩
  case round =>
    obtain ⟨k, hk, rfl, hd⟩ := hrel
    have HD := Lib.hid hd
    clear hd
    by_cases hlt : k < l.length
    · have hn := Lib.hid (Dc.allD_take_succ l k hlt)
      have hx : (⟨l.toArray⟩ : ByteArray)[k]'hlt = l[k] := rfl
      cases hc : Dc.isD l[k]
      · have hf := Lib.hid (Dc.allD_false hlt hc)
        have HC := Lib.hid hc
        clear hc
        have HDg : Hid (∀ W, Calls Tryz.prog 89 #[.int .u8 ((⟨l.toArray⟩ : ByteArray)[k]'hlt).toNat] W fun e w' => e = .returned (.bool false) ∧ W = w') := by
          apply Lib.hid; intro W
          have := digit_any l[k] W
          rw [HC.out] at this
          exact this
        clear hx
        go_wp2_with (go_at_call 89; go_must (refine (HDg.out _).mono ?_; rintro e w' ⟨rfl, rfl⟩))
        go_ret
        exact ⟨by unfold Dc.all; rw [hf.out]; rfl, rfl⟩
      · have HC := Lib.hid hc
        clear hc
        have HDg : Hid (∀ W, Calls Tryz.prog 89 #[.int .u8 ((⟨l.toArray⟩ : ByteArray)[k]'hlt).toNat] W fun e w' => e = .returned (.bool true) ∧ W = w') := by
          apply Lib.hid; intro W
          have := digit_any l[k] W
          rw [HC.out] at this
          exact this
        clear hx
        go_wp2_with (go_at_call 89; go_must (refine (HDg.out _).mono ?_; rintro e w' ⟨rfl, rfl⟩))
        go_round
        case rel => exact ⟨k + 1, by omega, by go_num, by rw [hn.out, HD.out, HC.out]; rfl⟩
        case measure => simp [intOf]; omega
    · obtain rfl : k = l.length := by omega
      rw [List.take_length] at HD
      go_wp2
      go_ret
      exact ⟨ret_bool (by unfold Dc.all; rw [HD.out]; cases l <;> simp), rfl⟩

/-- How long a string is: for a loop's measure. -/
def strLen : Value → Nat | .string b => b.size | _ => 0
theorem cat_mk (a b : List UInt8) : (⟨a.toArray⟩ : ByteArray) ++ ⟨b.toArray⟩ = ⟨(a ++ b).toArray⟩ := by
  apply ByteArray.ext
  simp
theorem ext_mk (l : List UInt8) (a b : Nat) : (⟨l.toArray⟩ : ByteArray).extract a b = ⟨((l.drop a).take (b - a)).toArray⟩ := by
  apply ByteArray.ext
  rw [ByteArray.data_extract, List.extract_toArray]
theorem ext_from (l : List UInt8) (a b : Nat) (h : l.length ≤ b) : (⟨l.toArray⟩ : ByteArray).extract a b = ⟨(l.drop a).toArray⟩ := by
  rw [ext_mk, List.take_of_length_le (by rw [List.length_drop]; omega)]

set_option maxHeartbeats 400000 in
theorem strip_any (l : List UInt8) (w : World) :
    Calls Tryz.prog 71 #[.string ⟨l.toArray⟩] w fun e w' => e = .returned (.string ⟨(Dc.strip l).toArray⟩) ∧ w = w' := by
  go_enter Tryz.func71, Tryz.ntmps71
  go_wp2_with fail
  go_loop [0] (fun s => ∃ m : List UInt8, m.length ≤ l.length ∧ s = .string ⟨m.toArray⟩ ∧ Dc.strip m = Dc.strip l) (fun s => strLen s)
  case atStart => exact ⟨l, Nat.le_refl _, rfl, rfl⟩
  case round =>
    obtain ⟨m, hm, rfl, hs⟩ := hrel
    have HS := Lib.hid hs
    clear hs
    match m with
    | [] =>
      go_wp2
      go_ret
      exact ⟨by rw [← HS.out]; rfl, rfl⟩
    | [c] =>
      go_wp2
      go_ret
      exact ⟨by rw [← HS.out]; rfl, rfl⟩
    | c :: d :: r =>
      have hn : (1 : Int) < ((c :: d :: r).length : Int) := by simp; omega
      by_cases hc : c = 48
      · have hb : (((⟨(c :: d :: r).toArray⟩ : ByteArray)[0]'(by simp [ByteArray.size])).toNat == 48) = true := by subst hc; rfl
        have HC := Lib.hid hc
        clear hc
        go_wp2
        go_round
        case rel =>
          refine ⟨d :: r, by simp at hm ⊢; omega, ?_, ?_⟩
          · rw [ext_from _ _ _ (by simp)]; rfl
          · rw [← HS.out, Dc.strip, if_pos HC.out]
        case measure => simp [strLen, ByteArray.size]
      · have hb : (((⟨(c :: d :: r).toArray⟩ : ByteArray)[0]'(by simp [ByteArray.size])).toNat == 48) = false := by
          show (c.toNat == 48) = false
          simp
          intro h
          exact hc (UInt8.toNat_inj.1 h)
        have HC := Lib.hid hc
        clear hc
        go_wp2
        go_ret
        exact ⟨by rw [← HS.out, Dc.strip, if_neg HC.out]; rfl, rfl⟩

/-- What holds at every turn of whole. -/
def WRel (l : List UInt8) (k : Nat) (n : Int) : Prop := ∃ m : Nat, n = (m : Int) ∧ Dc.wholeGo 0 l = Dc.wholeGo m (l.drop k) ∧ m ≤ 4611686018427387899

set_option maxHeartbeats 400000 in
theorem whole_any (l : List UInt8) (hl : l.length ≤ 4611686018427387904) (w : World) :
    Calls Tryz.prog 70 #[.string ⟨l.toArray⟩] w fun e w' => e = .returned (.tuple #[.int .i64 (Dc.wholeN l), .bool (Dc.wholeB l)]) ∧ w = w' := by
  go_enter Tryz.func70, Tryz.ntmps70
  go_wp2_with fail
  go_loop [4, 5] (fun n i => ∃ (k : Nat) (x : Int), k ≤ l.length ∧ i = .int .i64 k ∧ n = .int .i64 x ∧ WRel l k x) (fun _ i => l.length - (intOf i).toNat)
  case atStart => exact ⟨0, 0, Nat.zero_le _, rfl, rfl, 0, rfl, rfl, by omega⟩
  case round =>
    obtain ⟨k, x, hk, rfl, rfl, hW⟩ := hrel
    have x0 : 0 ≤ x := by obtain ⟨m, rfl, _⟩ := hW; omega
    have x1 : x ≤ 4611686018427387899 := by obtain ⟨m, rfl, _, h⟩ := hW; omega
    have HW := Lib.hid hW
    clear hW
    by_cases hlt : k < l.length
    · have hdr : Hid (l.drop k = l[k] :: l.drop (k + 1)) := Lib.hid (List.drop_eq_getElem_cons hlt)
      have HDg : Hid (∀ W, Calls Tryz.prog 89 #[.int .u8 ((⟨l.toArray⟩ : ByteArray)[k]'hlt).toNat] W fun e w' => e = .returned (.bool (Dc.isD l[k])) ∧ W = w') := Lib.hid fun W => digit_any l[k] W
      cases hc : Dc.isD l[k]
      · have HC := Lib.hid hc
        go_wp2_with (go_at_call 89; go_must (refine (HDg.out _).mono ?_; rintro e w' ⟨rfl, rfl⟩))
        ((try simp only [Exit.inBlock, Exit.then]); refine bodyPost_ret (results_tmp2 rfl _ _ _) rfl ?_)
        have hno : Dc.wholeGo 0 l = none := by
          obtain ⟨m, _, h, _⟩ := HW.out
          rw [h, hdr.out, Dc.wholeGo, if_neg (by simp [HC.out])]
        exact ⟨by unfold Dc.wholeN Dc.wholeB; rw [hno]; rfl, rfl⟩
      · have HC := Lib.hid hc
        by_cases hcap : 461168601842738789 < x
        · go_wp2_with (go_at_call 89; go_must (refine (HDg.out _).mono ?_; rintro e w' ⟨rfl, rfl⟩))
          ((try simp only [Exit.inBlock, Exit.then]); refine bodyPost_ret (results_tmp2 rfl _ _ _) rfl ?_)
          have hno : Dc.wholeGo 0 l = none := by
            obtain ⟨m, hm, h, _⟩ := HW.out
            rw [h, hdr.out, Dc.wholeGo, if_neg (by intro hh; omega)]
          exact ⟨by unfold Dc.wholeN Dc.wholeB; rw [hno]; rfl, rfl⟩
        · have hb := Dc.isD_iff.1 hc
          have b0 : (48 : Int) ≤ (((⟨l.toArray⟩ : ByteArray)[k]'hlt).toNat : Int) := by have := hb.1; show (48 : Int) ≤ (l[k].toNat : Int); omega
          have b1 : (((⟨l.toArray⟩ : ByteArray)[k]'hlt).toNat : Int) ≤ 57 := by have := hb.2; show (l[k].toNat : Int) ≤ 57; omega
          go_wp2_with (go_at_call 89; go_must (refine (HDg.out _).mono ?_; rintro e w' ⟨rfl, rfl⟩))
          go_round
          case rel =>
            refine ⟨k + 1, _, by omega, by go_num, rfl, ?_⟩
            obtain ⟨m, hm, h, hm2⟩ := HW.out
            refine ⟨m * 10 + (l[k].toNat - 48), ?_, ?_, ?_⟩
            · show x * 10 + (l[k].toNat : Int) - 48 = _; omega
            · rw [h, hdr.out, Dc.wholeGo, if_pos ⟨HC.out, by omega⟩]
            · omega
          case measure => simp [intOf]; omega
    · obtain rfl : k = l.length := by omega
      have hend : Hid (Dc.wholeGo 0 l = some x.toNat) := by
        apply Lib.hid
        obtain ⟨m, hm, h, _⟩ := HW.out
        rw [h, List.drop_length, hm]; rfl
      go_wp2
      ((try simp only [Exit.inBlock, Exit.then]); refine bodyPost_ret (results_tmp2 rfl _ _ _) rfl ?_)
      exact ⟨ret2_ib (by unfold Dc.wholeN; rw [hend.out]; show x = (x.toNat : Int); omega) (by unfold Dc.wholeB; rw [hend.out]; cases l <;> simp), rfl⟩

set_option maxHeartbeats 400000 in
theorem fraction_any (l : List UInt8) (hl : l.length ≤ 4611686018427387904) (hD : Hid (Dc.allD l = true)) (w : World) :
    Calls Tryz.prog 73 #[.string ⟨l.toArray⟩] w fun e w' => e = .returned (.int .i64 (Dc.frac l : Int)) ∧ w = w' := by
  go_enter Tryz.func73, Tryz.ntmps73
  go_wp2_with fail
  go_loop [3, 4] (fun n i => ∃ (k : Nat) (x : Int), k ≤ 6 ∧ i = .int .i64 k ∧ n = .int .i64 x ∧ Hid (x = (Dc.fr l k : Int))) (fun _ i => 6 - (intOf i).toNat)
  case atStart => exact ⟨0, 0, by omega, rfl, rfl, Lib.hid rfl⟩
  case round =>
    obtain ⟨k, x, hk, rfl, rfl, hx⟩ := hrel
    have hb := Dc.fr_lt hD.out k
    have hp : 10 ^ k ≤ 10 ^ 6 := Nat.pow_le_pow_right (by decide) hk
    have x0 : 0 ≤ x := by rw [hx.out]; omega
    have x1 : x ≤ 999999 := by rw [hx.out]; omega
    clear hb hp
    by_cases hlt : k < 6
    · by_cases hin : k < l.length
      · have hd := Dc.isD_iff.1 (Dc.isD_of_allD hD.out k hin)
        have b0 : (48 : Int) ≤ (((⟨l.toArray⟩ : ByteArray)[k]'hin).toNat : Int) := by have := hd.1; show (48 : Int) ≤ (l[k].toNat : Int); omega
        have b1 : (((⟨l.toArray⟩ : ByteArray)[k]'hin).toNat : Int) ≤ 57 := by have := hd.2; show (l[k].toNat : Int) ≤ 57; omega
        have hg := Lib.hid (Dc.dg_in hin)
        clear hd
        go_wp2
        go_round
        case rel =>
          refine ⟨k + 1, _, by omega, by go_num, rfl, Lib.hid ?_⟩
          rw [Dc.fr, hg.out]
          have := hx.out
          have : (48 : Int) ≤ (l[k].toNat : Int) := b0
          show x * 10 + (l[k].toNat : Int) - 48 = _
          omega
        case measure => simp [intOf]; omega
      · have hg := Lib.hid (Dc.dg_out (l := l) (i := k) (by omega))
        go_wp2
        go_round
        case rel =>
          refine ⟨k + 1, _, by omega, by go_num, rfl, Lib.hid ?_⟩
          rw [Dc.fr, hg.out]
          have := hx.out
          omega
        case measure => simp [intOf]; omega
    · obtain rfl : k = 6 := by omega
      by_cases h6 : 6 < l.length
      · have h6' : (6 : Int) < (l.length : Int) := by omega
        have hg := Lib.hid (Dc.dg_in h6)
        by_cases h5 : (53 : Int) ≤ (((⟨l.toArray⟩ : ByteArray)[6]'h6).toNat : Int)
        · go_wp2
          go_ret
          refine ⟨ret_i64 ?_, rfl⟩
          have : (53 : Int) ≤ (l[6].toNat : Int) := h5
          unfold Dc.frac
          rw [hg.out, if_pos ⟨h6, by omega⟩, hx.out]
          rfl
        · have H5 : Hid ((l[6].toNat : Int) < 53) := Lib.hid (Int.not_le.1 h5)
          go_wp2
          go_ret
          refine ⟨ret_i64 ?_, rfl⟩
          have := H5.out
          unfold Dc.frac
          rw [hg.out, if_neg (by omega), hx.out]
      · have h6' : ¬ (6 : Int) < (l.length : Int) := by omega
        go_wp2
        go_ret
        refine ⟨ret_i64 ?_, rfl⟩
        unfold Dc.frac
        rw [if_neg (by omega), hx.out]

set_option maxHeartbeats 400000 in
set_option maxRecDepth 20000 in
theorem plain_any (u : Nat) (hu : u ≤ 18446744073709551615) (w : World) :
    Calls Tryz.prog 88 #[.int .u64 u] w fun e w' => e = .returned (.string ⟨(Dc.plain u).toArray⟩) ∧ Below w.heap.size w w' := by
  go_enter Tryz.func88, Tryz.ntmps88
  go_wp2_with fail
  go_loopw [0, 3] (fun x s wr => ∃ (g v : Nat) (l : List UInt8), v ≤ 18446744073709551615 ∧ v < 10 ^ (g + 1) ∧ l.length + g = 19 ∧ x = .int .u64 v ∧ s = .string ⟨l.toArray⟩ ∧ Hid (Dc.plainGo (g + 1) v l = Dc.plain u) ∧ Below w.heap.size w wr) (fun x _ _ => (intOf x).toNat)
  case atStart => exact ⟨19, u, [], hu, Nat.lt_of_le_of_lt hu (by decide), rfl, rfl, rfl, Lib.hid rfl, Below.refl _ _⟩
  case round =>
    obtain ⟨g, v, l, hv, hvf, hlf, rfl, rfl, hp, hb⟩ := hrel
    have HVF := Lib.hid hvf
    have HLF := Lib.hid hlf
    have hll : l.length ≤ 20 := by omega
    clear hvf hlf
    obtain ⟨c, hc⟩ : ∃ c, c = UInt8.ofNat (48 + v % 10) := ⟨_, rfl⟩
    have hcn : c.toNat = 48 + v % 10 := by rw [hc]; exact UInt8.toNat_ofNat_of_lt' (by show 48 + v % 10 < 256; omega)
    have kc : (convert 52 9 (.slice (some ⟨wr.heap.size, 0, none⟩) 1 1)).run Tryz.prog (wr.alloc (.cells #[.int .u8 (48 + (v : Int) % 10)] 5)) = .ok (.string ⟨[c].toArray⟩) (wr.alloc (.cells #[.int .u8 (48 + (v : Int) % 10)] 5)) := by
      refine run_convert_bytes_back _ _ _ 5 ⟨wr.heap.size, 0, none⟩ 1 [c] Tryz.underlying52 Tryz.underlying5 Tryz.underlying9 fun j hj => ?_
      obtain rfl : j = 0 := by simp at hj; omega
      have e : ((48 : Int) + (v : Int) % 10) = ((c.toNat : Nat) : Int) := by rw [hcn]; omega
      rw [e]
      simp [go_sem, Addr.add]
    have HC := Lib.hid hc
    clear hc hcn
    have hcat : (⟨[c].toArray⟩ : ByteArray) ++ ⟨l.toArray⟩ = ⟨(c :: l).toArray⟩ := by
      apply ByteArray.ext
      simp
    have HCAT := Lib.hid hcat
    clear hcat
    by_cases h0 : v / 10 = 0
    · have hv9 : v ≤ 9 := by omega
      have H0 := Lib.hid h0
      clear h0
      go_wp2
      go_ret
      refine ⟨ret_str ?_, hb.alloc hb.size _⟩
      rw [← hp.out, Dc.plainGo, if_pos H0.out, ← HC.out]
      exact HCAT.out
    · have hv10 : 10 ≤ v := by omega
      have H0 := Lib.hid h0
      clear h0
      go_wp2
      go_roundw
      case rel =>
        have hvf := HVF.out
        have hlf := HLF.out
        cases g with
        | zero => simp at hvf; omega
        | succ g =>
          refine ⟨g, v / 10, c :: l, by omega, ?_, by simp; omega, rfl, by rw [← HCAT.out], Lib.hid ?_, hb.alloc hb.size _⟩
          · rw [Nat.pow_succ] at hvf; omega
          · have h := hp.out
            rw [Dc.plainGo, if_neg H0.out, ← HC.out] at h
            exact h
      case measure => simp [intOf]; omega

set_option maxHeartbeats 400000 in
theorem digits_any (n : Int) (h1 : -9223372036854775808 ≤ n) (h2 : n ≤ 9223372036854775807) (w : World) :
    Calls Tryz.prog 65 #[.int .i64 n] w fun e w' => e = .returned (.string ⟨(Dc.digits n).toArray⟩) ∧ Below w.heap.size w w' := by
  obtain ⟨u, hu⟩ : ∃ u : Int, u = (n.natAbs : Int) := ⟨_, rfl⟩
  have HP : Hid (∀ W, Calls Tryz.prog 88 #[.int .u64 u] W fun e w' => e = .returned (.string ⟨(Dc.plain n.natAbs).toArray⟩) ∧ Below W.heap.size W w') := by
    apply Lib.hid; intro W; rw [hu]; exact plain_any n.natAbs (by omega) W
  by_cases h : n < 0
  · have eu : -(n + 1) + 1 = u := by omega
    have HU := Lib.hid hu
    clear hu
    have hd : Hid (Dc.digits n = 45 :: Dc.plain n.natAbs) := Lib.hid (by unfold Dc.digits; rw [if_pos h])
    have hlen := Dc.plain_length n.natAbs
    have hd2 : Hid ((⟨(Dc.digits n).toArray⟩ : ByteArray) = ⟨(45 :: Dc.plain n.natAbs).toArray⟩) := Lib.hid (by rw [hd.out])
    clear hd
    generalize Dc.plain n.natAbs = pl at *
    go_enter Tryz.func65, Tryz.ntmps65
    go_wp2_with (go_at_call 88; go_must (refine (HP.out _).mono ?_; rintro e w' ⟨rfl, hb⟩))
    go_ret
    exact ⟨ret_str (by rw [hd2.out]; exact cat_mk [45] pl), hb⟩
  · obtain rfl : u = n := by omega
    have hd : Hid (Dc.digits u = Dc.plain u.natAbs) := Lib.hid (by unfold Dc.digits; rw [if_neg h])
    clear hu
    go_enter Tryz.func65, Tryz.ntmps65
    go_wp2_with (go_at_call 88; go_must (refine (HP.out _).mono ?_; rintro e w' ⟨rfl, hb⟩))
    go_ret
    exact ⟨by rw [hd.out]; rfl, hb⟩

theorem head_mk (c : UInt8) (r : List UInt8) : (((⟨(c :: r).toArray⟩ : ByteArray)[0]'(by simp [ByteArray.size])).toNat == 45) = (c == 45) := by
  show (c.toNat == 45) = (c == 45)
  rw [Bool.eq_iff_iff, beq_iff_eq, beq_iff_eq]
  exact ⟨fun h => UInt8.toNat_inj.1 h, fun h => by rw [h]; rfl⟩

end Go.Proofs.YtojmcndiooiehaaGreatDoor
