/-
  SbExp: CONTRACTS: chapter 13: expand: a template behind what a result holds.
  SbRef: CONTRACTS: chapter 13: the document's side: digit, Check, Expand.
  SbTop: CONTRACTS: chapter 13: the program's Expand.
-/
import Derived.Test.YtelbabgkpflckaaK2

set_option linter.unusedSimpArgs false
set_option linter.unusedVariables false
namespace Go.Proofs.Ytelbabgkpflckaa
open Go.RowKit Go.Sort
open Me
open Pk

namespace Sb
theorem Res.alloc {B r R : Nat} {s : List UInt8} {w : World} (h : Res B r R s w) (o : Obj) : Res B r R s (w.alloc o) := h.keep ((Below.refl _ _).alloc (Nat.le_refl _) o)
theorem Lets.alloc (w : World) (o : Obj) : Lets w (w.alloc o) := Lets.below ((Below.refl _ _).alloc (Nat.le_refl _) o)
/-- Where it is over it stays so, whatever comes. -/
theorem Res.more {B r R : Nat} {s : List UInt8} {w : World} (h : Res B r R s w) (ho : R < s.length) (z : List UInt8) : Res B r R (s ++ z) w := by
  obtain ⟨p, v, m, l, h1, h2, h3, h4, h5⟩ := h
  have hl : (s ++ z).length = s.length + z.length := List.length_append
  refine ⟨p, v, m, l, ?_, h2, h3, by omega, fun h9 => by omega⟩
  rw [show decide (R < (s ++ z).length) = decide (R < s.length) by rw [decide_eq_true ho, decide_eq_true (by omega)]]
  exact h1
/-- What stands for an escape. -/
def sub (t : List UInt8) (pl : List Int) (b : UInt8) : List UInt8 := if b.toNat = 92 then [92] else Pk.grp t pl ((b.toNat : Int) - 48)
theorem eb_esc : ∀ t, (eb t).toNat = 0 ∨ (eb t).toNat = 92 ∨ (48 ≤ (eb t).toNat ∧ (eb t).toNat ≤ 57)
  | [] => .inl rfl
  | [a] => .inl rfl
  | a :: b :: l => by
    rw [eb2]
    by_cases h : two a b = true
    · rw [if_pos h]
      have := two_esc h
      unfold esc at this
      simp at this
      omega
    · rw [if_neg h]
      exact eb_esc (b :: l)
end Sb

theorem sbAdd1 {B r R : Nat} {s x : List UInt8} {w : World} (h : Sb.Res B r R s w) (hlen : s.length + x.length ≤ 1073741824) (hBw : B ≤ w.heap.size) (hR : R ≤ 9223372036854775807) :
    Calls Try.prog 45 #[.pointer (some ⟨r, 0, none⟩), .slice (some ⟨w.heap.size, 0, none⟩) 1 1] (w.alloc (Obj.cells #[.string ⟨x.toArray⟩] 9 (0, 0))) fun e w' => e = .returned (.tuple #[]) ∧ Sb.Res B r R (s ++ x) w' ∧ Below B w w' ∧ Sb.Lets w w' := by
  refine (sbAdd_any (g := w.heap.size) (ps := [x]) (h.alloc _) (by show (w.heap.push _)[w.heap.size]? = _; simp [Sb.str]) (by simp) (by simpa using hlen) (by simp; omega) hR).mono ?_
  rintro e w' ⟨rfl, h1, h2, h3⟩
  exact ⟨rfl, by simpa using h1, ((Below.refl _ _).alloc hBw _).trans h2, (Sb.Lets.alloc w _).trans h3⟩

theorem sbAdd2 {B r R : Nat} {s x y : List UInt8} {w : World} (h : Sb.Res B r R s w) (hlen : s.length + (x.length + y.length) ≤ 1073741824) (hBw : B ≤ w.heap.size) (hR : R ≤ 9223372036854775807) :
    Calls Try.prog 45 #[.pointer (some ⟨r, 0, none⟩), .slice (some ⟨w.heap.size, 0, none⟩) 2 2] (w.alloc (Obj.cells #[.string ⟨x.toArray⟩, .string ⟨y.toArray⟩] 9 (0, 0))) fun e w' => e = .returned (.tuple #[]) ∧ Sb.Res B r R (s ++ (x ++ y)) w' ∧ Below B w w' ∧ Sb.Lets w w' := by
  refine (sbAdd_any (g := w.heap.size) (ps := [x, y]) (h.alloc _) (by show (w.heap.push _)[w.heap.size]? = _; simp [Sb.str]) (by simp) (by simpa using hlen) (by simp; omega) hR).mono ?_
  rintro e w' ⟨rfl, h1, h2, h3⟩
  exact ⟨rfl, by simpa using h1, ((Below.refl _ _).alloc hBw _).trans h2, (Sb.Lets.alloc w _).trans h3⟩

set_option maxHeartbeats 4000000 in
set_option maxRecDepth 100000 in
theorem sbExpand_any {B r R : Nat} {s t tx : List UInt8} {pl : List Int} {A : Option Addr} {cp : Nat} {w : World} (h : Sb.Res B r R s w) (hrd : ∀ w', Below B w w' → Sb.Lets w w' → Rd w' (fun _ => True) A (iv pl)) (ht : t.length ≤ 1048576) (htx : tx.length ≤ 1048576) (hpl : pl.length ≤ 1048576) (hlen : s.length + (Sb.ex (Sb.sub tx pl) t).length ≤ 1073741824) (hBw : B ≤ w.heap.size) (hR : R ≤ 9223372036854775807) :
    Calls Try.prog 28 #[.pointer (some ⟨r, 0, none⟩), .string ⟨t.toArray⟩, .string ⟨tx.toArray⟩, .slice A pl.length cp] w fun e w' => e = .returned (.tuple #[]) ∧ Sb.Res B r R (s ++ Sb.ex (Sb.sub tx pl) t) w' ∧ Below B w w' ∧ Sb.Lets w w' := by
  have H := Lib.hid h
  have HRD := Lib.hid hrd
  have HC := Lib.hid fun (t : List UInt8) (h : t.length ≤ 1048576) W => sbCut_any t h W
  obtain ⟨z, hz⟩ : ∃ z, s ++ Sb.ex (Sb.sub tx pl) t = z := ⟨_, rfl⟩
  have hzl : z.length ≤ 1073741824 := by rw [← hz, List.length_append]; exact hlen
  rw [hz]
  have HZ := Lib.hid hz
  clear h hrd hz hlen
  go_enter Try.func28, Try.ntmps28
  go_wp2_with fail
  go_loopw [1, 8, 9, 10] (fun x _ _ _ wr => ∃ u y : List UInt8, x = .string ⟨u.toArray⟩ ∧ u.length ≤ 1048576 ∧ Hid (y ++ Sb.ex (Sb.sub tx pl) u = z) ∧ Hid (Sb.Res B r R y wr) ∧ Hid (Below B w wr) ∧ Hid (Sb.Lets w wr)) (fun x _ _ _ _ => match x with | .string s => s.size | _ => 0)
  case atStart => exact ⟨t, s, rfl, ht, HZ, H, Lib.hid (Below.refl _ _), Lib.hid (Sb.Lets.refl _)⟩
  case round =>
    obtain ⟨u, y, rfl, hu, HY, HS, HW, HL⟩ := hrel
    have hc3 : wr.cell? ⟨r, 3, none⟩ = some (.bool (decide (R < y.length))) := by
      obtain ⟨p, v, m, l, h1, _⟩ := HS.out
      exact h1.cell.2.2.2.1
    by_cases hn : u = []
    · have HQ : Hid (Sb.Res B r R z wr) := Lib.hid (by have := HY.out; rw [hn] at this; rw [← this, show Sb.ex (Sb.sub tx pl) [] = [] from rfl, List.append_nil]; exact HS.out)
      have hne : (u == ([] : List UInt8)) = true := by rw [hn]; rfl
      have hne2 : (u != ([] : List UInt8)) = false := by rw [hn]; rfl
      clear hn HY HS hc3
      go_wp2_with fail
      ((try simp only [Exit.inBlock, Exit.then]); first | (refine bodyPost_ret (results_none rfl _ _ _) rfl ?_) | (refine bodyPost_end (results_none rfl _ _ _) rfl ?_))
      exact ⟨rfl, HQ.out, HW.out, HL.out⟩
    have hne : (u == ([] : List UInt8)) = false := by simpa using hn
    have hne2 : (u != ([] : List UInt8)) = true := by simpa using hn
    by_cases hov : R < y.length
    · rw [decide_eq_true hov] at hc3
      have HQ : Hid (Sb.Res B r R z wr) := Lib.hid (by rw [← HY.out]; exact HS.out.more hov _)
      clear hn HY HS
      go_wp2_with fail
      ((try simp only [Exit.inBlock, Exit.then]); first | (refine bodyPost_ret (results_none rfl _ _ _) rfl ?_) | (refine bodyPost_end (results_none rfl _ _ _) rfl ?_))
      exact ⟨rfl, HQ.out, HW.out, HL.out⟩
    rw [decide_eq_false hov] at hc3
    have hlt := (Sb.rs_lt u).2 hn
    have HCU := Lib.hid (HC.out u hu)
    have HE := Lib.hid (Sb.eb_esc u)
    have HX := Lib.hid (Sb.ex_cut (Sb.sub tx pl) u)
    have hBr : B ≤ wr.heap.size := Nat.le_trans hBw HW.out.size
    clear hn hov
    generalize Sb.kp u = k at *
    generalize Sb.rs u = q at *
    generalize Sb.eb u = b at *
    have HZ2 : Hid ((y ++ (k ++ Sb.one (Sb.sub tx pl) b)) ++ Sb.ex (Sb.sub tx pl) q = z) := Lib.hid (by rw [← HY.out, HX.out]; simp)
    clear HY HX
    rcases HE.out with h0 | h92 | hd
    · have h0I : (b.toNat : Int) = 0 := by omega
      have h0J : ((b.toNat : Int) == 0) = true := by rw [h0]; rfl
      have HY2 : Hid ((y ++ k) ++ Sb.ex (Sb.sub tx pl) q = z) := Lib.hid (by have := HZ2.out; unfold Sb.one at this; rw [if_pos h0, List.append_nil] at this; exact this)
      have hyl : y.length + k.length ≤ 1073741824 := by have := congrArg List.length HY2.out; simp at this; omega
      have HA := Lib.hid fun W (hW : Sb.Res B r R y W) (hB : B ≤ W.heap.size) => sbAdd1 (x := k) hW hyl hB hR
      clear h0 HZ2 HE
      go_wp2_with first | (go_at_call 32; ((with_reducible refine (HCU.out _).mono ?_); rintro e w' ⟨rfl, hb⟩)) | (go_at_call 45; go_must (refine (HA.out _ (HS.out.keep hb) (Nat.le_trans hBr hb.size)).mono ?_; rintro e w3 ⟨rfl, hr3, hb3, hl3⟩))
      go_roundw
      case rel => exact ⟨q, y ++ k, rfl, by omega, HY2, Lib.hid hr3, Lib.hid (HW.out.trans ((hb.mono hBr).trans hb3)), Lib.hid (HL.out.trans ((Sb.Lets.below hb).trans hl3))⟩
      case measure =>
        show q.toArray.size < u.toArray.size
        simpa using hlt
    · have h0I : ¬ (b.toNat : Int) = 0 := by omega
      have h0J : ((b.toNat : Int) == 0) = false := by rw [h92]; rfl
      have h9I : (b.toNat : Int) = 92 := by omega
      have h9J : ((b.toNat : Int) == 92) = true := by rw [h92]; rfl
      have HY2 : Hid ((y ++ (k ++ [92])) ++ Sb.ex (Sb.sub tx pl) q = z) := Lib.hid (by have := HZ2.out; unfold Sb.one Sb.sub at this; rw [if_neg (by omega), if_pos h92] at this; exact this)
      have hyl : y.length + (k.length + ([92] : List UInt8).length) ≤ 1073741824 := by have := congrArg List.length HY2.out; simp at this; simp; omega
      have HA : Hid (∀ W, Sb.Res B r R y W → B ≤ W.heap.size → Calls Try.prog 45 #[.pointer (some ⟨r, 0, none⟩), .slice (some ⟨W.heap.size, 0, none⟩) 2 2] (W.alloc (Obj.cells #[.string ⟨k.toArray⟩, .string ⟨#[92]⟩] 9 (0, 0))) fun e w' => e = .returned (.tuple #[]) ∧ Sb.Res B r R (y ++ (k ++ [92])) w' ∧ Below B W w' ∧ Sb.Lets W w') := Lib.hid fun W (hW : Sb.Res B r R y W) (hB : B ≤ W.heap.size) => sbAdd2 (x := k) (y := [92]) hW hyl hB hR
      clear h92 HZ2 HE
      go_wp2_with first | (go_at_call 32; ((with_reducible refine (HCU.out _).mono ?_); rintro e w' ⟨rfl, hb⟩)) | (go_at_call 45; go_must (refine (HA.out _ (HS.out.keep hb) (Nat.le_trans hBr hb.size)).mono ?_; rintro e w3 ⟨rfl, hr3, hb3, hl3⟩))
      go_roundw
      case rel => exact ⟨q, _, rfl, by omega, HY2, Lib.hid hr3, Lib.hid (HW.out.trans ((hb.mono hBr).trans hb3)), Lib.hid (HL.out.trans ((Sb.Lets.below hb).trans hl3))⟩
      case measure =>
        show q.toArray.size < u.toArray.size
        simpa using hlt
    · have h0I : ¬ (b.toNat : Int) = 0 := by omega
      have h0J : ((b.toNat : Int) == 0) = false := by simp; omega
      have h9I : ¬ (b.toNat : Int) = 92 := by omega
      have h9J : ((b.toNat : Int) == 92) = false := by simp; omega
      have hw1 : IntKind.u8.wrap ((b.toNat : Int) - 48) = (b.toNat : Int) - 48 := by rw [IntKind.wrap_u8]; omega
      have hw2 : IntKind.i64.wrap ((b.toNat : Int) - 48) = (b.toNat : Int) - 48 := by rw [IntKind.wrap_i64]; omega
      have HY2 : Hid ((y ++ (k ++ Pk.grp tx pl ((b.toNat : Int) - 48))) ++ Sb.ex (Sb.sub tx pl) q = z) := Lib.hid (by have := HZ2.out; unfold Sb.one Sb.sub at this; rw [if_neg (by omega), if_neg (by omega)] at this; exact this)
      have HG := Lib.hid fun W (hr : Rd W (fun _ => True) A (iv pl)) => group_any (cp := cp) (k := (b.toNat : Int) - 48) hr htx hpl (by omega)
      generalize Pk.grp tx pl ((b.toNat : Int) - 48) = gr at *
      have hyl : y.length + (k.length + gr.length) ≤ 1073741824 := by have := congrArg List.length HY2.out; simp at this; omega
      have HA := Lib.hid fun W (hW : Sb.Res B r R y W) (hB : B ≤ W.heap.size) => sbAdd2 (x := k) (y := gr) hW hyl hB hR
      clear HZ2 HE
      go_wp2_with first | (go_at_call 32; ((with_reducible refine (HCU.out _).mono ?_); rintro e w' ⟨rfl, hb⟩)) | (go_at_call 46; go_must (refine (HG.out _ (HRD.out _ (HW.out.trans (hb.mono hBr)) (HL.out.trans (Sb.Lets.below hb)))).mono ?_; rintro e w2 ⟨rfl, hb2⟩)) | (go_at_call 45; go_must (refine (HA.out _ ((HS.out.keep hb).keep hb2) (Nat.le_trans (Nat.le_trans hBr hb.size) hb2.size)).mono ?_; rintro e w3 ⟨rfl, hr3, hb3, hl3⟩))
      go_roundw
      case rel => exact ⟨q, _, rfl, by omega, HY2, Lib.hid hr3, Lib.hid (HW.out.trans ((hb.mono hBr).trans ((hb2.mono (Nat.le_trans hBr hb.size)).trans hb3))), Lib.hid (HL.out.trans ((Sb.Lets.below hb).trans ((Sb.Lets.below hb2).trans hl3)))⟩
      case measure =>
        show q.toArray.size < u.toArray.size
        simpa using hlt
end Go.Proofs.Ytelbabgkpflckaa

namespace Go.Proofs.Ytelbabgkpflckaa
open Go.RowKit Go.Sort
open Me
open Pk

namespace Sb
def dig (n : Nat) : Bool := decide (48 ≤ n) && decide (n ≤ 57)
theorem cat_mk (a b : List UInt8) : (⟨a.toArray⟩ : ByteArray) ++ ⟨b.toArray⟩ = ⟨(a ++ b).toArray⟩ := by
  apply ByteArray.ext
  simp
theorem drop1 {t : List UInt8} {k : Nat} {a : UInt8} (ha : t[k]? = some a) : t.drop k = a :: t.drop (k + 1) := by
  obtain ⟨h1, e1⟩ := List.getElem?_eq_some_iff.1 ha
  rw [List.drop_eq_getElem_cons h1, e1]
theorem chk_cons {a : UInt8} {l : List UInt8} (ha : ¬ a.toNat = 92) : chk (a :: l) = chk l := by
  cases l with
  | nil => show (!decide (a.toNat = 92)) = true; rw [decide_eq_false ha]; rfl
  | cons b l => rw [chk2, if_neg ha]
theorem sub92 {tx : List UInt8} {pl : List Int} {b : UInt8} (h : b.toNat = 92) : sub tx pl b = [92] := by unfold sub; rw [if_pos h]
theorem sub_grp {tx : List UInt8} {pl : List Int} {b : UInt8} (h : ¬ b.toNat = 92) : sub tx pl b = Pk.grp tx pl ((b.toNat : Int) - 48) := by unfold sub; rw [if_neg h]
theorem ex_cons (g : UInt8 → List UInt8) {a : UInt8} {l : List UInt8} (h : ∀ b m, l = b :: m → ¬ two a b = true) : ex g (a :: l) = a :: ex g l := by
  cases l with
  | nil => rfl
  | cons b l => rw [ex2, if_neg (h b l rfl)]
end Sb

set_option maxHeartbeats 1000000 in
theorem sbDigit_any (n : Nat) (w : World) :
    Calls Try.prog 30 #[.int .u8 (n : Int)] w fun e w' => e = .returned (.bool (Sb.dig n)) ∧ w = w' := by
  have HQ : Hid (Sb.dig n = (decide (48 ≤ n) && decide (n ≤ 57))) := Lib.hid rfl
  generalize Sb.dig n = R at *
  go_enter Try.func30, Try.ntmps30
  go_wp2_with fail
  all_goals
    go_ret
    refine ⟨Sb.ret_bool ?_, rfl⟩
    rw [HQ.out, Bool.eq_iff_iff]
    simp
    try omega

set_option maxHeartbeats 4000000 in
theorem sbRefCheck_any (t : List UInt8) (ht : t.length ≤ 1048576) (w : World) :
    Calls Try.prog 18 #[.string ⟨t.toArray⟩] w fun e w' => e = .returned (.int .i64 (Sb.bad t)) ∧ w = w' := by
  have HD := Lib.hid fun n W => sbDigit_any n W
  obtain ⟨R, hR⟩ : ∃ R, Sb.bad t = R := ⟨_, rfl⟩
  rw [hR]
  have HR := Lib.hid hR
  clear hR
  go_enter Try.func18, Try.ntmps18
  go_wp2_with fail
  go_loopw [3] (fun x wr => ∃ k : Nat, x = .int .i64 k ∧ k ≤ t.length ∧ Hid (Sb.bad (t.drop k) = R) ∧ Hid (w = wr)) (fun x _ => t.length - (intOf x).toNat)
  case atStart => exact ⟨0, rfl, by omega, HR, Lib.hid rfl⟩
  case round =>
    obtain ⟨k, rfl, hk, HM, HW⟩ := hrel
    by_cases hlt : k < t.length
    · obtain ⟨a, ha⟩ : ∃ a, t[k]? = some a := ⟨t[k], List.getElem?_eq_getElem hlt⟩
      obtain ⟨z0, g0⟩ := Sb.byte_at ha
      have hkI : (k : Int) < (t.length : Int) := by omega
      have hk0 : (0 : Int) ≤ (k : Int) := by omega
      have HM2 : Hid (Sb.bad (a :: t.drop (k + 1)) = R) := Lib.hid (by rw [← Sb.drop1 ha]; exact HM.out)
      clear HM
      by_cases h92 : a.toNat = 92
      · have h92J : (a.toNat : Int) = 92 := by omega
        by_cases he : k + 1 = t.length
        · have heI : (k : Int) + 1 = (t.length : Int) := by omega
          have HQ : Hid (R = 8) := Lib.hid (by
            rw [← HM2.out, List.drop_eq_nil_of_le (by omega)]
            unfold Sb.bad
            rw [show Sb.chk [a] = !decide (a.toNat = 92) from rfl, decide_eq_true h92]
            rfl)
          clear HM2 ha h92
          go_wp2_with fail
          go_ret
          exact ⟨by rw [HQ.out]; rfl, HW.out⟩
        · have heI : ¬ (k : Int) + 1 = (t.length : Int) := by omega
          obtain ⟨b, hb⟩ : ∃ b, t[k + 1]? = some b := ⟨t[k + 1], List.getElem?_eq_getElem (by omega)⟩
          obtain ⟨z1, g1⟩ := Sb.byte_at hb
          have hk1 : (0 : Int) ≤ (k : Int) + 1 := by omega
          have hk2 : (k : Int) + 1 < (t.length : Int) := by omega
          have hkt : ((k : Int) + 1).toNat = k + 1 := by omega
          have HDB := Lib.hid (HD.out b.toNat)
          have HM3 : Hid (R = if Sb.esc b = true then Sb.bad (t.drop (k + 2)) else 8) := Lib.hid (by
            rw [← HM2.out, Sb.drop1 hb]
            unfold Sb.bad
            rw [Sb.chk2, if_pos h92]
            cases Sb.esc b <;> rfl)
          have HES : Hid (Sb.esc b = (Sb.dig b.toNat || decide (b.toNat = 92))) := Lib.hid rfl
          clear HM2 ha hb h92
          by_cases hb92 : b.toNat = 92
          · have hbJ : (b.toNat : Int) = 92 := by omega
            have HQ : Hid (Sb.bad (t.drop (k + 2)) = R) := Lib.hid (by rw [HM3.out, HES.out, decide_eq_true hb92, Bool.or_true, if_pos rfl])
            clear HM3 HES hb92
            go_wp2_with fail
            go_roundw
            case rel => exact ⟨k + 2, by go_num, by omega, HQ, HW⟩
            case measure => simp [intOf]; omega
          · have hbJ : ¬ (b.toNat : Int) = 92 := by omega
            have HES2 : Hid (Sb.esc b = Sb.dig b.toNat) := Lib.hid (by rw [HES.out, decide_eq_false hb92, Bool.or_false])
            clear HES hb92
            by_cases hdg : Sb.dig b.toNat = true
            · have HQ : Hid (Sb.bad (t.drop (k + 2)) = R) := Lib.hid (by rw [HM3.out, HES2.out, if_pos hdg])
              rw [hdg] at HDB
              clear hdg HES2 HM3
              go_wp2_with (go_at_call 30; go_must (refine (HDB.out _).mono ?_; rintro e w2 ⟨rfl, rfl⟩))
              go_roundw
              case rel => exact ⟨k + 2, by go_num, by omega, HQ, HW⟩
              case measure => simp [intOf]; omega
            · have HQ : Hid (R = 8) := Lib.hid (by rw [HM3.out, HES2.out, if_neg hdg])
              have hbB : ((b.toNat : Int) != 92) = true := by simpa using hbJ
              rw [Bool.eq_false_iff.2 hdg] at HDB
              clear hdg HES2 HM3
              go_wp2_with (go_at_call 30; go_must (refine (HDB.out _).mono ?_; rintro e w2 ⟨rfl, rfl⟩))
              go_ret
              exact ⟨by rw [HQ.out]; rfl, HW.out⟩
      · have h92J : ¬ (a.toNat : Int) = 92 := by omega
        have HQ : Hid (Sb.bad (t.drop (k + 1)) = R) := Lib.hid (by rw [← HM2.out]; unfold Sb.bad; rw [Sb.chk_cons h92])
        clear HM2 ha h92
        go_wp2_with fail
        go_roundw
        case rel => exact ⟨k + 1, by go_num, by omega, HQ, HW⟩
        case measure => simp [intOf]; omega
    · obtain rfl : k = t.length := by omega
      have HQ : Hid (R = 0) := Lib.hid (by rw [← HM.out, List.drop_length]; rfl)
      clear HM
      go_wp2_with fail
      go_ret
      exact ⟨by rw [HQ.out]; rfl, HW.out⟩

set_option maxHeartbeats 8000000 in
set_option maxRecDepth 100000 in
theorem sbRefExpand_any {t tx : List UInt8} {pl : List Int} {A : Option Addr} {cp : Nat} {w : World} (hrd : ∀ w', Below w.heap.size w w' → Rd w' (fun _ => True) A (iv pl)) (ht : t.length ≤ 1048576) (htx : tx.length ≤ 1048576) (hpl : pl.length ≤ 1048576) (hlen : (Sb.ex (Sb.sub tx pl) t).length ≤ 1073741824) :
    Calls Try.prog 16 #[.string ⟨t.toArray⟩, .string ⟨tx.toArray⟩, .slice A pl.length cp] w fun e w' => e = .returned (.string ⟨(Sb.ex (Sb.sub tx pl) t).toArray⟩) ∧ Below w.heap.size w w' := by
  have HD := Lib.hid fun n W => sbDigit_any n W
  have HRD := Lib.hid hrd
  obtain ⟨z, hz⟩ : ∃ z, Sb.ex (Sb.sub tx pl) t = z := ⟨_, rfl⟩
  rw [hz] at hlen ⊢
  have HZ := Lib.hid hz
  clear hz hrd
  go_enter Try.func16, Try.ntmps16
  go_wp2_with fail
  go_loopw [7, 8] (fun s x wr => ∃ (k : Nat) (y : List UInt8), s = .string ⟨y.toArray⟩ ∧ x = .int .i64 k ∧ k ≤ t.length ∧ Hid (y ++ Sb.ex (Sb.sub tx pl) (t.drop k) = z) ∧ Hid (Below w.heap.size w wr)) (fun _ x _ => t.length - (intOf x).toNat)
  case atStart => exact ⟨0, [], rfl, rfl, by omega, Lib.hid HZ.out, Lib.hid (Below.refl _ _)⟩
  case round =>
    obtain ⟨k, y, rfl, rfl, hk, HM, HW⟩ := hrel
    have hyl : y.length ≤ 1073741824 := by have := congrArg List.length HM.out; simp at this; omega
    by_cases hlt : k < t.length
    · obtain ⟨a, ha⟩ : ∃ a, t[k]? = some a := ⟨t[k], List.getElem?_eq_getElem hlt⟩
      obtain ⟨z0, g0⟩ := Sb.byte_at ha
      have hkI : (k : Int) < (t.length : Int) := by omega
      have hk0 : (0 : Int) ≤ (k : Int) := by omega
      have HM2 : Hid (y ++ Sb.ex (Sb.sub tx pl) (a :: t.drop (k + 1)) = z) := Lib.hid (by rw [← Sb.drop1 ha]; exact HM.out)
      have hcv : ∀ W : World, (convert 69 9 (.slice (some ⟨W.heap.size, 0, none⟩) 1 1)).run Try.prog (W.alloc (.cells #[.int .u8 (a.toNat : Int)] 5)) = .ok (.string ⟨#[a]⟩) (W.alloc (.cells #[.int .u8 (a.toNat : Int)] 5)) := fun W =>
        run_convert_bytes_back _ _ _ 5 ⟨W.heap.size, 0, none⟩ 1 [a] Try.underlying69 Try.underlying5 Try.underlying9 (fun j hj => by
          have hj : j = 0 := by simp at hj; omega
          subst hj
          simp [go_sem, Addr.add])
      have hcat : (⟨y.toArray⟩ : ByteArray) ++ ⟨#[a]⟩ = ⟨(y ++ [a]).toArray⟩ := Sb.cat_mk y [a]
      clear HM
      by_cases h92 : a.toNat = 92
      · have h92J : (a.toNat : Int) = 92 := by omega
        have h92B : ((a.toNat : Int) == 92) = true := by rw [h92]; rfl
        rw [h92J] at hcv
        by_cases he : k + 1 = t.length
        · have heI : ¬ (k : Int) + 1 < (t.length : Int) := by omega
          have HQ : Hid ((y ++ [a]) ++ Sb.ex (Sb.sub tx pl) (t.drop (k + 1)) = z) := Lib.hid (by
            rw [← HM2.out, List.drop_eq_nil_of_le (by omega)]
            rw [show Sb.ex (Sb.sub tx pl) [] = [] from rfl, show Sb.ex (Sb.sub tx pl) [a] = [a] from rfl, List.append_nil])
          have HC := Lib.hid (hcv wr)
          clear HM2 ha h92 hcv he
          have hcv := HC.out
          go_wp2_with fail
          go_roundw
          case rel => exact ⟨k + 1, _, rfl, by go_num, by omega, HQ, Lib.hid (HW.out.alloc HW.out.size _)⟩
          case measure => simp [intOf]; omega
        · have heI : (k : Int) + 1 < (t.length : Int) := by omega
          obtain ⟨b, hb⟩ : ∃ b, t[k + 1]? = some b := ⟨t[k + 1], List.getElem?_eq_getElem (by omega)⟩
          obtain ⟨z1, g1⟩ := Sb.byte_at hb
          have hk1 : (0 : Int) ≤ (k : Int) + 1 := by omega
          have hkt : ((k : Int) + 1).toNat = k + 1 := by omega
          have HDB := Lib.hid (HD.out b.toNat)
          have hbt := b.toNat_lt
          have HTW : Hid (Sb.two a b = (Sb.dig b.toNat || decide (b.toNat = 92))) := Lib.hid (by unfold Sb.two; rw [decide_eq_true h92, Bool.true_and]; rfl)
          have HM3 : Hid (z = if Sb.two a b = true then y ++ (Sb.sub tx pl b ++ Sb.ex (Sb.sub tx pl) (t.drop (k + 2))) else (y ++ [a]) ++ Sb.ex (Sb.sub tx pl) (t.drop (k + 1))) := Lib.hid (by
            rw [← HM2.out, Sb.drop1 hb, Sb.ex2]
            cases Sb.two a b <;> simp)
          clear HM2
          by_cases hdg : Sb.dig b.toNat = true
          · have hd1 : 48 ≤ b.toNat ∧ b.toNat ≤ 57 := by unfold Sb.dig at hdg; simpa using hdg
            have hw1 : IntKind.i64.wrap ((b.toNat : Int) - 48) = (b.toNat : Int) - 48 := by rw [IntKind.wrap_i64]; omega
            have HQ0 : Hid (y ++ (Pk.grp tx pl ((b.toNat : Int) - 48) ++ Sb.ex (Sb.sub tx pl) (t.drop (k + 2))) = z) := Lib.hid (by
              have h1 := HM3.out
              rw [HTW.out, hdg, Bool.true_or, if_pos rfl] at h1
              rw [Sb.sub_grp (by omega)] at h1
              exact h1.symm)
            have HG := Lib.hid (refGroup_any (cp := cp) (k := (b.toNat : Int) - 48) (HRD.out _ HW.out) htx hpl (by omega))
            generalize Pk.grp tx pl ((b.toNat : Int) - 48) = gr at *
            have hcat2 : (⟨y.toArray⟩ : ByteArray) ++ ⟨gr.toArray⟩ = ⟨(y ++ gr).toArray⟩ := Sb.cat_mk y gr
            have HQ : Hid ((y ++ gr) ++ Sb.ex (Sb.sub tx pl) (t.drop (k + 2)) = z) := Lib.hid (by rw [← HQ0.out]; simp)
            have hgl : y.length + gr.length ≤ 1073741824 := by have := congrArg List.length HQ.out; simp at this; omega
            rw [hdg] at HDB
            clear hdg HTW HM3 hcv hcat ha hb h92 he HQ0 hd1
            go_wp2_with first | (go_at_call 30; go_must (refine (HDB.out _).mono ?_; rintro e w2 ⟨rfl, rfl⟩)) | (go_at_call 31; go_must (refine HG.out.mono ?_; rintro e w3 ⟨rfl, hb3⟩))
            go_roundw
            case rel => exact ⟨k + 2, _, rfl, by go_num, by omega, HQ, Lib.hid (HW.out.trans (hb3.mono HW.out.size))⟩
            case measure => simp [intOf]; omega
          · by_cases hb92 : b.toNat = 92
            · have hbJ : (b.toNat : Int) = 92 := by omega
              have hbB : ((b.toNat : Int) == 92) = true := by rw [hb92]; rfl
              have hcat2 : (⟨y.toArray⟩ : ByteArray) ++ ⟨#[92]⟩ = ⟨(y ++ [92]).toArray⟩ := Sb.cat_mk y [92]
              have HQ : Hid ((y ++ [92]) ++ Sb.ex (Sb.sub tx pl) (t.drop (k + 2)) = z) := Lib.hid (by
                have h1 := HM3.out
                rw [HTW.out, decide_eq_true hb92, Bool.or_true, if_pos rfl] at h1
                rw [Sb.sub92 hb92] at h1
                rw [h1, List.append_assoc])
              rw [Bool.eq_false_iff.2 hdg, hbJ] at HDB
              clear hdg HTW HM3 hcv hcat ha hb h92 he hb92
              go_wp2_with (go_at_call 30; go_must (refine (HDB.out _).mono ?_; rintro e w2 ⟨rfl, rfl⟩))
              go_roundw
              case rel => exact ⟨k + 2, _, rfl, by go_num, by omega, HQ, HW⟩
              case measure => simp [intOf]; omega
            · have hbJ : ¬ (b.toNat : Int) = 92 := by omega
              have hbB : ((b.toNat : Int) == 92) = false := by simpa using hbJ
              have HQ : Hid ((y ++ [a]) ++ Sb.ex (Sb.sub tx pl) (t.drop (k + 1)) = z) := Lib.hid (by
                have h1 := HM3.out
                rw [HTW.out, decide_eq_false hb92, Bool.or_false, if_neg hdg] at h1
                exact h1.symm)
              rw [Bool.eq_false_iff.2 hdg] at HDB
              have HC := Lib.hid (hcv wr)
              clear hdg HTW HM3 hcv ha hb h92 he hb92
              have hcv := HC.out
              go_wp2_with (go_at_call 30; go_must (refine (HDB.out _).mono ?_; rintro e w2 ⟨rfl, rfl⟩))
              go_roundw
              case rel => exact ⟨k + 1, _, rfl, by go_num, by omega, HQ, Lib.hid (HW.out.alloc HW.out.size _)⟩
              case measure => simp [intOf]; omega
      · have h92J : ¬ (a.toNat : Int) = 92 := by omega
        have HQ : Hid ((y ++ [a]) ++ Sb.ex (Sb.sub tx pl) (t.drop (k + 1)) = z) := Lib.hid (by
          rw [← HM2.out, Sb.ex_cons _ (fun b m _ => by unfold Sb.two; rw [decide_eq_false h92]; simp)]
          simp)
        have HC := Lib.hid (hcv wr)
        clear HM2 ha h92 hcv
        have hcv := HC.out
        go_wp2_with fail
        go_roundw
        case rel => exact ⟨k + 1, _, rfl, by go_num, by omega, HQ, Lib.hid (HW.out.alloc HW.out.size _)⟩
        case measure => simp [intOf]; omega
    · obtain rfl : k = t.length := by omega
      have HQ : Hid (y = z) := Lib.hid (by rw [← HM.out, List.drop_length]; simp [Sb.ex])
      clear HM
      go_wp2_with fail
      go_ret
      exact ⟨by rw [← HQ.out]; rfl, HW.out⟩
end Go.Proofs.Ytelbabgkpflckaa

namespace Go.Proofs.Ytelbabgkpflckaa
open Go.RowKit Go.Sort
open Me
open Pk

namespace Sb
/-- A new result. -/
def cells0 (R : Nat) : Array Value := #[.pointer none, .slice none 0 0, .int .i64 (R : Int), .bool false]
theorem Res.new {B r R : Nat} {w : World} (hB : B ≤ r) (h : w.heap[r]? = some (Obj.cells (cells0 R) rT (0, 0))) : Res B r R [] w :=
  ⟨.pointer none, .slice none 0 0, R, [], ⟨hB, h, World.ownsRow_nil _ _ _ _⟩, .inl rfl, by simp, Nat.le_refl _, fun _ => rfl⟩
end Sb

theorem sbStr_any {B r R : Nat} {s : List UInt8} {w : World} (h : Sb.Res B r R s w) (hs : s.length ≤ R) (hB : B ≤ w.heap.size) :
    Calls Try.prog 29 #[.pointer (some ⟨r, 0, none⟩)] w fun e w' => e = .returned (.string ⟨s.toArray⟩) ∧ Below B w w' := by
  obtain ⟨p, v, m, l, h1, _, _, _, h2⟩ := h
  rw [h2 hs] at h1
  exact sbString_any h1 hB

set_option maxHeartbeats 4000000 in
set_option maxRecDepth 100000 in
theorem sbExpandF_any {t tx : List UInt8} {pl : List Int} {A : Option Addr} {cp : Nat} {w : World} (hrd : ∀ w', Below w.heap.size w w' → Rd w' (fun _ => True) A (iv pl)) (ht : t.length ≤ 1048576) (htx : tx.length ≤ 1048576) (hpl : pl.length ≤ 1048576) (hlen : (Sb.ex (Sb.sub tx pl) t).length ≤ 1073741824) :
    Calls Try.prog 15 #[.string ⟨t.toArray⟩, .string ⟨tx.toArray⟩, .slice A pl.length cp] w fun e w' => e = .returned (.string ⟨(Sb.ex (Sb.sub tx pl) t).toArray⟩) ∧ Below w.heap.size w w' := by
  have HRD := Lib.hid hrd
  have HEX := Lib.hid fun W (hres : Sb.Res w.heap.size w.heap.size 9223372036854775807 [] W) (hW : Below w.heap.size w W) => sbExpand_any (cp := cp) hres (fun w' h1 _ => hrd w' (hW.trans h1)) ht htx hpl (by simpa using hlen) hW.size (Nat.le_refl _)
  clear hrd
  obtain ⟨z, hz⟩ : ∃ z, Sb.ex (Sb.sub tx pl) t = z := ⟨_, rfl⟩
  rw [hz] at hlen ⊢
  simp only [hz] at HEX
  simp only [List.nil_append] at HEX
  have HST := Lib.hid fun W (h : Sb.Res w.heap.size w.heap.size 9223372036854775807 z W) (hB : w.heap.size ≤ W.heap.size) => sbStr_any h (by omega) hB
  have HN := Lib.hid (Sb.Res.new (B := w.heap.size) (Nat.le_refl _) (heap_alloc_new w (Obj.cells (Sb.cells0 9223372036854775807) Sb.rT (0, 0))))
  have HB0 := Lib.hid ((Below.refl w.heap.size w).alloc (Nat.le_refl _) (Obj.cells (Sb.cells0 9223372036854775807) Sb.rT (0, 0)))
  go_enter Try.func15, Try.ntmps15
  go_wp2_with first | (go_at_call 28; go_must (refine (HEX.out _ HN.out HB0.out).mono ?_; rintro e w2 ⟨rfl, hr2, hb2, _⟩; have HB2 := Lib.hid (HB0.out.trans hb2); have HR2 := Lib.hid hr2; clear hb2 hr2)) | (go_at_call 29; go_must (refine (HST.out _ HR2.out HB2.out.size).mono ?_; rintro e w3 ⟨rfl, hb3⟩))
  go_ret
  exact ⟨rfl, HB2.out.trans hb3⟩
end Go.Proofs.Ytelbabgkpflckaa
