/-
  SbP: CONTRACTS: chapter 13: the plain side: a template parted at its escapes; what it makes; whether it may be.
  SbCut: CONTRACTS: chapter 13: isEscaped, cut, Check of the program.
-/
import Derived.Test.YtelbabgkpflckaaJ26
import Derived.RegionTactic
import Derived.Deep.RegionLaw
import Derived.Lib.IndexBytes
import Derived.Lib.IndexAny
import Derived.OwnWalk

set_option linter.unusedSimpArgs false
set_option linter.unusedVariables false
namespace Go.Proofs.Ytelbabgkpflckaa
open Go.RowKit
open Me

namespace Sb
/-- A byte of a text. -/
theorem byte_at {s : List UInt8} {i : Nat} {c : UInt8} (h : s[i]? = some c) : ∃ z : i < (⟨s.toArray⟩ : ByteArray).size, (⟨s.toArray⟩ : ByteArray)[i]'z = c := by
  obtain ⟨hi, hc⟩ := List.getElem?_eq_some_iff.1 h
  have zl : (⟨s.toArray⟩ : ByteArray).size = s.length := by show s.toArray.size = _; simp
  exact ⟨by omega, hc⟩
theorem eq_nat (c k : UInt8) : (c == k) = decide (c.toNat = k.toNat) := by
  by_cases h : c = k
  · subst h; simp
  · rw [decide_eq_false (fun e => h (UInt8.toNat_inj.1 e))]
    simpa using h
theorem ret_bool {a b : Bool} (h : a = b) : (Ending.returned (.bool a) : Ending) = .returned (.bool b) := by rw [h]
/-- May this byte stand behind a stroke? -/
def esc (c : UInt8) : Bool := (decide (48 ≤ c.toNat) && decide (c.toNat ≤ 57)) || decide (c.toNat = 92)
/-- Do these two bytes make an escape? -/
def two (a b : UInt8) : Bool := decide (a.toNat = 92) && esc b
/-- May it be? -/
def chk : List UInt8 → Bool
  | [] => true
  | [a] => !decide (a.toNat = 92)
  | a :: b :: l => if a.toNat = 92 then esc b && chk l else chk (b :: l)
/-- What it makes, g being what stands for an escape. -/
def ex (g : UInt8 → List UInt8) : List UInt8 → List UInt8
  | [] => []
  | [a] => [a]
  | a :: b :: l => if two a b = true then g b ++ ex g l else a :: ex g (b :: l)
/-- The bytes ahead of the first escape, the byte behind its stroke, and the rest. -/
def kp : List UInt8 → List UInt8
  | [] => []
  | [a] => [a]
  | a :: b :: l => if two a b = true then [] else a :: kp (b :: l)
def eb : List UInt8 → UInt8
  | [] => 0
  | [_] => 0
  | a :: b :: l => if two a b = true then b else eb (b :: l)
def rs : List UInt8 → List UInt8
  | [] => []
  | [_] => []
  | a :: b :: l => if two a b = true then l else rs (b :: l)
/-- What stands for an escape; nothing where there is none. -/
def one (g : UInt8 → List UInt8) (b : UInt8) : List UInt8 := if b.toNat = 0 then [] else g b
theorem chk2 (a b : UInt8) (l : List UInt8) : chk (a :: b :: l) = if a.toNat = 92 then esc b && chk l else chk (b :: l) := by rw [chk]
theorem ex2 (g : UInt8 → List UInt8) (a b : UInt8) (l : List UInt8) : ex g (a :: b :: l) = if two a b = true then g b ++ ex g l else a :: ex g (b :: l) := by rw [ex]
theorem kp2 (a b : UInt8) (l : List UInt8) : kp (a :: b :: l) = if two a b = true then [] else a :: kp (b :: l) := by rw [kp]
theorem eb2 (a b : UInt8) (l : List UInt8) : eb (a :: b :: l) = if two a b = true then b else eb (b :: l) := by rw [eb]
theorem rs2 (a b : UInt8) (l : List UInt8) : rs (a :: b :: l) = if two a b = true then l else rs (b :: l) := by rw [rs]
theorem two_esc {a b : UInt8} (h : two a b = true) : esc b = true := by unfold two at h; simp at h; exact h.2
theorem esc_pos {b : UInt8} (h : esc b = true) : b.toNat ≠ 0 := by unfold esc at h; simp at h; omega
theorem ex_cut (g : UInt8 → List UInt8) : ∀ t, ex g t = kp t ++ one g (eb t) ++ ex g (rs t)
  | [] => rfl
  | [a] => rfl
  | a :: b :: l => by
    rw [ex2, kp2, eb2, rs2]
    by_cases h : two a b = true
    · rw [if_pos h, if_pos h, if_pos h, if_pos h]
      unfold one
      rw [if_neg (esc_pos (two_esc h))]
      rfl
    · rw [if_neg h, if_neg h, if_neg h, if_neg h, ex_cut g (b :: l)]
      simp
theorem chk_cut : ∀ t, chk t = (!((kp t).contains 92) && chk (rs t))
  | [] => rfl
  | [a] => by
    show (!decide (a.toNat = 92)) = (!([a] : List UInt8).contains 92 && true)
    rw [List.contains_cons, List.contains_nil, Bool.or_false, Bool.and_true, eq_nat]
    congr 1
    exact decide_eq_decide.2 ⟨fun h => h.symm, fun h => h.symm⟩
  | a :: b :: l => by
    rw [chk2, kp2, rs2]
    by_cases h : a.toNat = 92
    · rw [if_pos h]
      by_cases he : esc b = true
      · have h2 : two a b = true := by unfold two; rw [he, decide_eq_true h]; rfl
        rw [if_pos h2, if_pos h2, he]
        rfl
      · have h2 : ¬ two a b = true := by unfold two; rw [Bool.eq_false_iff.2 he]; simp
        have ha : a = 92 := UInt8.toNat_inj.1 h
        rw [if_neg h2, if_neg h2, Bool.eq_false_iff.2 he, ha]
        simp
    · have h2 : ¬ two a b = true := by unfold two; rw [decide_eq_false h]; simp
      have ha : ((92 : UInt8) == a) = false := by rw [eq_nat]; exact decide_eq_false (fun e => h e.symm)
      rw [if_neg h, if_neg h2, if_neg h2, chk_cut (b :: l), List.contains_cons, ha, Bool.false_or]
theorem rs_lt : ∀ t, (rs t).length ≤ t.length ∧ (t ≠ [] → (rs t).length < t.length)
  | [] => ⟨Nat.le_refl _, fun h => absurd rfl h⟩
  | [a] => ⟨by unfold rs; simp, fun _ => by unfold rs; simp⟩
  | a :: b :: l => by
    rw [rs2]
    have := rs_lt (b :: l)
    by_cases h : two a b = true
    · rw [if_pos h]; simp; omega
    · rw [if_neg h]
      have h1 := this.1
      simp at h1 ⊢
      omega
theorem kp_lt : ∀ t, (kp t).length ≤ t.length
  | [] => Nat.le_refl _
  | [a] => by unfold kp; simp
  | a :: b :: l => by
    rw [kp2]
    have := kp_lt (b :: l)
    by_cases h : two a b = true
    · rw [if_pos h]; simp
    · rw [if_neg h]
      simp at this ⊢
      omega
/-- From a place on: one round of the search. -/
theorem drop2 {t : List UInt8} {k : Nat} {a b : UInt8} (ha : t[k]? = some a) (hb : t[k + 1]? = some b) : t.drop k = a :: b :: t.drop (k + 2) := by
  obtain ⟨h1, e1⟩ := List.getElem?_eq_some_iff.1 ha
  obtain ⟨h2, e2⟩ := List.getElem?_eq_some_iff.1 hb
  rw [List.drop_eq_getElem_cons h1, List.drop_eq_getElem_cons h2, e1, e2]
theorem take_one {t : List UInt8} {k : Nat} {a : UInt8} (ha : t[k]? = some a) : t.take (k + 1) = t.take k ++ [a] := by
  obtain ⟨h1, e1⟩ := List.getElem?_eq_some_iff.1 ha
  rw [List.take_succ_eq_append_getElem h1, e1]
/-- What a search from a place on makes of the whole. -/
def From (t : List UInt8) (k : Nat) : Prop := kp t = t.take k ++ kp (t.drop k) ∧ eb t = eb (t.drop k) ∧ rs t = rs (t.drop k)
theorem From.zero (t : List UInt8) : From t 0 := ⟨rfl, rfl, rfl⟩
theorem From.next {t : List UInt8} {k : Nat} {a b : UInt8} (h : From t k) (ha : t[k]? = some a) (hb : t[k + 1]? = some b) (hn : ¬ two a b = true) : From t (k + 1) := by
  have hd := drop2 ha hb
  have hd1 : t.drop (k + 1) = b :: t.drop (k + 2) := by
    obtain ⟨h2, e2⟩ := List.getElem?_eq_some_iff.1 hb
    rw [List.drop_eq_getElem_cons h2, e2]
  obtain ⟨h1, h2, h3⟩ := h
  rw [hd] at h1 h2 h3
  rw [kp2] at h1
  rw [eb2] at h2
  rw [rs2] at h3
  rw [if_neg hn] at h1 h2 h3
  refine ⟨?_, ?_, ?_⟩
  · rw [← hd1] at h1
    rw [take_one ha, List.append_assoc]
    exact h1
  · rw [hd1]; exact h2
  · rw [hd1]; exact h3
theorem From.hit {t : List UInt8} {k : Nat} {a b : UInt8} (h : From t k) (ha : t[k]? = some a) (hb : t[k + 1]? = some b) (hn : two a b = true) : kp t = t.take k ∧ eb t = b ∧ rs t = t.drop (k + 2) := by
  have hd := drop2 ha hb
  obtain ⟨h1, h2, h3⟩ := h
  rw [hd] at h1 h2 h3
  rw [kp2] at h1
  rw [eb2] at h2
  rw [rs2] at h3
  rw [if_pos hn] at h1 h2 h3
  exact ⟨by rw [h1, List.append_nil], h2, h3⟩
theorem From.end_ {t : List UInt8} {k : Nat} (h : From t k) (hk : t.length ≤ k + 1) : kp t = t ∧ eb t = 0 ∧ rs t = [] := by
  obtain ⟨h1, h2, h3⟩ := h
  have hc : t.drop k = [] ∨ ∃ a, t.drop k = [a] := by
    have hl : (t.drop k).length ≤ 1 := by rw [List.length_drop]; omega
    match t.drop k, hl with
    | [], _ => exact .inl rfl
    | [a], _ => exact .inr ⟨a, rfl⟩
  have he : kp (t.drop k) = t.drop k ∧ eb (t.drop k) = 0 ∧ rs (t.drop k) = [] := by
    rcases hc with hc | ⟨a, hc⟩ <;> rw [hc] <;> exact ⟨rfl, rfl, rfl⟩
  rw [he.1, List.take_append_drop] at h1
  exact ⟨h1, by rw [h2, he.2.1], by rw [h3, he.2.2]⟩
end Sb
end Go.Proofs.Ytelbabgkpflckaa

namespace Go.Proofs.Ytelbabgkpflckaa
open Go.RowKit Go.Sort
open Me

set_option maxHeartbeats 1000000 in
theorem sbEsc_any (c : UInt8) (w : World) :
    Calls Try.prog 47 #[.int .u8 (c.toNat : Int)] w fun e w' => e = .returned (.bool (Sb.esc c)) ∧ w = w' := by
  have HQ : Hid (Sb.esc c = ((decide (48 ≤ c.toNat) && decide (c.toNat ≤ 57)) || decide (c.toNat = 92))) := Lib.hid rfl
  generalize Sb.esc c = R at *
  generalize c.toNat = n at *
  go_enter Try.func47, Try.ntmps47
  go_wp2_with fail
  all_goals
    go_ret
    refine ⟨Sb.ret_bool ?_, rfl⟩
    rw [HQ.out, Bool.eq_iff_iff]
    simp
    try omega

set_option maxHeartbeats 4000000 in
theorem sbCut_any (t : List UInt8) (ht : t.length ≤ 1048576) (w : World) :
    Calls Try.prog 32 #[.string ⟨t.toArray⟩] w fun e w' => e = .returned (.tuple #[.string ⟨(Sb.kp t).toArray⟩, .int .u8 ((Sb.eb t).toNat : Int), .string ⟨(Sb.rs t).toArray⟩]) ∧ Below w.heap.size w w' := by
  have HE := Lib.hid fun c W => sbEsc_any c W
  go_enter Try.func32, Try.ntmps32
  go_wp2_with fail
  go_loopw [5] (fun x wr => ∃ k : Nat, x = .int .i64 ((k : Int) + 1) ∧ k ≤ t.length ∧ Hid (Sb.From t k) ∧ Hid (w = wr)) (fun x _ => t.length + 1 - (intOf x).toNat)
  case atStart => exact ⟨0, rfl, by omega, Lib.hid (Sb.From.zero t), Lib.hid rfl⟩
  case round =>
    obtain ⟨k, rfl, hk, HF, HW⟩ := hrel
    by_cases hlt : k + 1 < t.length
    · obtain ⟨a, ha⟩ : ∃ a, t[k]? = some a := ⟨t[k], List.getElem?_eq_getElem (by omega)⟩
      obtain ⟨b, hb⟩ : ∃ b, t[k + 1]? = some b := ⟨t[k + 1], List.getElem?_eq_getElem hlt⟩
      obtain ⟨z0, g0⟩ := Sb.byte_at ha
      obtain ⟨z1, g1⟩ := Sb.byte_at hb
      have hkI : (k : Int) + 1 < (t.length : Int) := by omega
      have hk0 : (0 : Int) ≤ (k : Int) := by omega
      have hkl : (k : Int) < (t.length : Int) := by omega
      have hk1 : (0 : Int) ≤ (k : Int) + 1 := by omega
      have hk2 : (k : Int) + 2 ≤ (t.length : Int) := by omega
      have hkt : ((k : Int) + 1).toNat = k + 1 := by omega
      have hw1 : IntKind.i64.wrap ((k : Int) + 1 - 1) = (k : Int) := by rw [IntKind.wrap_i64]; omega
      have HB := Lib.hid (HE.out b)
      by_cases h92 : a.toNat = 92
      · have h92I : ((a.toNat : Int) == 92) = true := by rw [h92]; rfl
        have h92J : (a.toNat : Int) = 92 := by omega
        by_cases he : Sb.esc b = true
        · have h2 : Sb.two a b = true := by unfold Sb.two; rw [he, decide_eq_true h92]; rfl
          obtain ⟨q1, q2, q3⟩ := HF.out.hit ha hb h2
          have HQ1 := Lib.hid q1
          have HQ2 := Lib.hid q2
          have HQ3 := Lib.hid q3
          rw [he] at HB
          clear q1 q2 q3 h2 he h92 ha hb HF
          go_wp2_with (go_at_call 47; go_must (refine (HB.out _).mono ?_; rintro e w2 ⟨rfl, rfl⟩))
          go_quiet (fail)
          go_wp2_with fail
          ((try simp only [Exit.inBlock, Exit.then]); refine bodyPost_ret (results_tmp3 rfl _ _ _) rfl ?_)
          refine ⟨?_, by rw [HW.out]; exact ⟨rfl, rfl, rfl, Nat.le_refl _, fun _ _ => rfl⟩⟩
          rw [HQ1.out, HQ2.out, HQ3.out]
          have hx1 : (⟨t.toArray⟩ : ByteArray).extract 0 k = ⟨(t.take k).toArray⟩ := by rw [Pk.extr]; rfl
          have hx2 : (⟨t.toArray⟩ : ByteArray).extract (k + 1 + 1) t.length = ⟨(t.drop (k + 2)).toArray⟩ := by
            rw [Pk.extr, List.take_of_length_le (by rw [List.length_drop]; exact Nat.le_refl _)]
          show Ending.returned (.tuple #[.string ((⟨t.toArray⟩ : ByteArray).extract 0 k), .int .u8 (b.toNat : Int), .string ((⟨t.toArray⟩ : ByteArray).extract (k + 1 + 1) t.length)]) = _
          rw [hx1, hx2]
        · have h2 : ¬ Sb.two a b = true := by unfold Sb.two; rw [Bool.eq_false_iff.2 he]; simp
          have HF2 := Lib.hid (HF.out.next ha hb h2)
          rw [Bool.eq_false_iff.2 he] at HB
          clear h2 he h92 ha hb HF
          go_wp2_with (go_at_call 47; go_must (refine (HB.out _).mono ?_; rintro e w2 ⟨rfl, rfl⟩))
          go_roundw
          case rel => exact ⟨k + 1, by go_num, by omega, HF2, HW⟩
          case measure => simp [intOf]; omega
      · have h2 : ¬ Sb.two a b = true := by unfold Sb.two; rw [decide_eq_false h92]; simp
        have HF2 := Lib.hid (HF.out.next ha hb h2)
        have h92I : ((a.toNat : Int) == 92) = false := by simp; omega
        have h92J : ¬ (a.toNat : Int) = 92 := by omega
        clear h2 h92 ha hb HF
        go_wp2_with fail
        go_roundw
        case rel => exact ⟨k + 1, by go_num, by omega, HF2, HW⟩
        case measure => simp [intOf]; omega
    · obtain ⟨q1, q2, q3⟩ := HF.out.end_ (by omega)
      have hkI : ¬ (k : Int) + 1 < (t.length : Int) := by omega
      go_wp2_with fail
      ((try simp only [Exit.inBlock, Exit.then]); refine bodyPost_ret (results_tmp3 rfl _ _ _) rfl ?_)
      exact ⟨rfl, by rw [HW.out]; exact Below.refl _ _⟩

theorem sbIndex_any (l : List UInt8) (c : UInt8) (w : World) :
    Calls Try.prog 33 #[.string ⟨l.toArray⟩, .int .u8 (c.toNat : Int)] w fun e w' => e = .returned (.int .i64 (Lib.indexByte l c)) ∧ w = w' := by
  have HX : Hid (∀ W, Calls Try.prog 48 #[.string ⟨l.toArray⟩, .int .u8 (c.toNat : Int)] W fun e w' => e = .returned (.int .i64 (Lib.indexByte l c)) ∧ W = w') := Lib.hid fun W => by
    go_enter Try.func48, Try.ntmps48
    go_wp2
    rw [run_callFunc_extern Try.func57 (by kernel_rfl) (by kernel_rfl) (by kernel_rfl) (e := Extern.BytealgIndexByte.indexByte) (by kernel_rfl), Lib.run_indexByteString]
    simp only [Result.andThen]
    rw [Oper.upon_value, show ((c.toNat : Int).toNat.toUInt8) = c by rw [Int.toNat_natCast]; exact UInt8.ofNat_toNat]
    go_wp2
    go_ret
    exact ⟨rfl, rfl⟩
  generalize Lib.indexByte l c = R at *
  go_enter Try.func33, Try.ntmps33
  go_wp2_with (go_at_call 48; go_must (refine (HX.out _).mono ?_; rintro e w' ⟨rfl, rfl⟩))
  go_ret
  exact ⟨rfl, rfl⟩

namespace Sb
def bad (t : List UInt8) : Int := if chk t = true then 0 else 8
end Sb
set_option maxHeartbeats 4000000 in
theorem sbChk_any (t : List UInt8) (ht : t.length ≤ 1048576) (w : World) :
    Calls Try.prog 17 #[.string ⟨t.toArray⟩] w fun e w' => e = .returned (.int .i64 (Sb.bad t)) ∧ Below w.heap.size w w' := by
  have HC := Lib.hid fun (t : List UInt8) (h : t.length ≤ 1048576) W => sbCut_any t h W
  have HX : Hid (∀ (t : List UInt8) W, Calls Try.prog 33 #[.string ⟨t.toArray⟩, .int .u8 92] W fun e w' => e = .returned (.int .i64 (Lib.indexByte t 92)) ∧ W = w') := Lib.hid fun (t : List UInt8) W => sbIndex_any t 92 W
  obtain ⟨R, hR⟩ : ∃ R, Sb.bad t = R := ⟨_, rfl⟩
  rw [hR]
  have HR := Lib.hid hR
  clear hR
  go_enter Try.func17, Try.ntmps17
  go_wp2_with fail
  go_loopw [0, 3, 4, 5] (fun x _ _ _ wr => ∃ u : List UInt8, x = .string ⟨u.toArray⟩ ∧ u.length ≤ 1048576 ∧ Hid (Sb.bad u = R) ∧ Hid (Below w.heap.size w wr)) (fun x _ _ _ _ => match x with | .string s => s.size | _ => 0)
  case atStart => exact ⟨t, rfl, ht, HR, Lib.hid (Below.refl _ _)⟩
  case round =>
    obtain ⟨u, rfl, hu, HM, HW⟩ := hrel
    by_cases hn : u = []
    · have HQ : Hid (R = 0) := Lib.hid (by rw [← HM.out, hn]; rfl)
      have hne : (u == ([] : List UInt8)) = true := by rw [hn]; rfl
      have hne2 : (u != ([] : List UInt8)) = false := by rw [hn]; rfl
      clear hn HM
      go_wp2_with fail
      go_ret
      exact ⟨by rw [HQ.out]; rfl, HW.out⟩
    · have hne : (u == ([] : List UInt8)) = false := by simpa using hn
      have hne2 : (u != ([] : List UInt8)) = true := by simpa using hn
      have hlt := (Sb.rs_lt u).2 hn
      have HCU := Lib.hid (HC.out u hu)
      have HXU := Lib.hid (HX.out (Sb.kp u))
      have HIX : Hid ((Sb.kp u).contains 92 = decide (0 ≤ Lib.indexByte (Sb.kp u) 92)) := Lib.hid (Lib.contains_iff_indexByte _ _)
      have HM2 : Hid (R = if (Sb.kp u).contains 92 = true then 8 else Sb.bad (Sb.rs u)) := Lib.hid (by
        rw [← HM.out]
        unfold Sb.bad
        rw [Sb.chk_cut]
        cases (Sb.kp u).contains 92 <;> rfl)
      clear hn HM
      generalize Lib.indexByte (Sb.kp u) 92 = y at *
      generalize Sb.kp u = kpu at *
      generalize Sb.rs u = rsu at *
      generalize Sb.eb u = ebu at *
      rw [HIX.out] at HM2
      clear HIX
      by_cases hy : 0 ≤ y
      · have HQ : Hid (R = 8) := Lib.hid (by rw [HM2.out, if_pos (decide_eq_true hy)])
        clear HM2
        go_wp2_with first | (go_at_call 32; ((with_reducible refine (HCU.out _).mono ?_); rintro e w' ⟨rfl, hb⟩)) | (go_at_call 33; ((with_reducible refine (HXU.out _).mono ?_); rintro e w' ⟨rfl, rfl⟩))
        go_ret
        exact ⟨by rw [HQ.out]; rfl, HW.out.trans (hb.mono HW.out.size)⟩
      · have HQ : Hid (R = Sb.bad rsu) := Lib.hid (by rw [HM2.out, if_neg (by simpa using hy)])
        clear HM2
        go_wp2_with first | (go_at_call 32; ((with_reducible refine (HCU.out _).mono ?_); rintro e w' ⟨rfl, hb⟩)) | (go_at_call 33; ((with_reducible refine (HXU.out _).mono ?_); rintro e w' ⟨rfl, rfl⟩))
        go_roundw
        case rel => exact ⟨rsu, rfl, by omega, Lib.hid HQ.out.symm, Lib.hid (HW.out.trans (hb.mono HW.out.size))⟩
        case measure =>
          show rsu.toArray.size < u.toArray.size
          simpa using hlt
end Go.Proofs.Ytelbabgkpflckaa
