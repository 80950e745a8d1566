/-
  LxLex: CONTRACTS: chapter 14: the program's Lex.
  LxRefW: CONTRACTS: chapter 14: the document's word.
-/
import Derived.Test.YtojmcndiooiehaaGreatDoorJ8

set_option linter.unusedSimpArgs false
set_option linter.unusedVariables false
namespace Go.Proofs.YtojmcndiooiehaaGreatDoor
open Go.RowKit
open Me

namespace Lx
/-- What Lex answers. -/
def lexErr (s : List UInt8) : Int := if 4096 < s.length then 13 else if (lex s).isSome = true then 0 else 8
def lexL (s : List UInt8) : List Tok := if 4096 < s.length then [] else (lex s).getD []
/-- What Lex leaves. -/
def LexR (t : TypeId) (w : World) (s : List UInt8) (e : Ending) (w' : World) : Prop := ∃ v, e = .returned (.tuple #[v, .int .i64 (lexErr s)]) ∧ OwnT t w.heap.size w' v (lexL s) ∧ Below w.heap.size w w'
theorem lex_long {s : List UInt8} (h : 4096 < s.length) : lexErr s = 13 ∧ lexL s = [] := by unfold lexErr lexL; rw [if_pos h, if_pos h]; exact ⟨rfl, rfl⟩
theorem lex_no {s : List UInt8} (h : ¬ 4096 < s.length) (hn : lex s = none) : lexErr s = 8 ∧ lexL s = [] := by unfold lexErr lexL; rw [if_neg h, if_neg h, hn]; exact ⟨rfl, rfl⟩
theorem lex_yes {s : List UInt8} (h : ¬ 4096 < s.length) {x : List Tok} (hn : lex s = some x) : lexErr s = 0 ∧ lexL s = x := by unfold lexErr lexL; rw [if_neg h, if_neg h, hn]; exact ⟨rfl, rfl⟩
/-- How many bytes are left. -/
def left (W : World) (b : Nat) : Nat := match W.cell? ⟨b, 0, none⟩ with
  | some (.string s) => s.size
  | _ => 0
theorem Tx.left {W : World} {b : Nat} {v : Value} {r : List UInt8} (h : Tx W b v r) : left W b = r.length := by
  unfold Lx.left
  rw [h.c0]
  show r.toArray.size = _
  simp
theorem tk_tok {c : UInt8} {r r' : List UInt8} {t : Tok} (h : tk c r = some (t, r')) : ∃ n, token c r = some (t, n) ∧ r' = r.drop n := by
  unfold tk at h
  cases hk : token c r with
  | none => rw [hk] at h; cases h
  | some p =>
    rw [hk] at h
    have := Option.some.inj h
    injection this with h1 h2
    exact ⟨p.2, by rw [← h1], h2.symm⟩
theorem tk_none {c : UInt8} {r : List UInt8} (h : tk c r = none) : token c r = none := by
  unfold tk at h
  cases hk : token c r with
  | none => rfl
  | some p => rw [hk] at h; cases h
/-- Lex under way: the tokens that were read, what is left. -/
structure LxS (w wr : World) (s : List UInt8) (v : Value) (acc : List Tok) (rest : List UInt8) : Prop where
  below : Below w.heap.size w wr
  tx : Tx wr w.heap.size v rest
  own : OwnT 67 (w.heap.size + 1) wr v acc
  eq : lex s = (lex rest).map (acc ++ ·)
  hd : ∀ c r, rest = c :: r → blank c = false
  len : rest.length ≤ s.length
  cnt : acc.length + rest.length ≤ s.length
theorem LxS.bad {w wr : World} {s : List UInt8} {v : Value} {acc : List Tok} {rest : List UInt8} (h : LxS w wr s v acc rest) {c : UInt8} {r : List UInt8} (hc : rest = c :: r) (hk : tk c r = none) : lex s = none := by
  rw [h.eq, hc, lex_bad (h.hd c r hc) (tk_none hk)]; rfl
theorem LxS.more {w wr : World} {s : List UInt8} {v : Value} {acc : List Tok} {rest : List UInt8} (h : LxS w wr s v acc rest) {c : UInt8} {r r' : List UInt8} {t : Tok} (hc : rest = c :: r) (hk : tk c r = some (t, r')) :
    lex s = (lex (skipB r')).map ((acc ++ [t]) ++ ·) ∧ (skipB r').length < rest.length := by
  obtain ⟨n, hn, rfl⟩ := tk_tok hk
  constructor
  · rw [h.eq, hc, lex_tok (h.hd c r hc) hn, lex_skip]
    cases lex (r.drop n) with
    | none => rfl
    | some x => simp
  · have := skipB_len (r.drop n)
    rw [hc]
    simp at this ⊢
    omega
theorem LxS.done {w wr : World} {s : List UInt8} {v : Value} {acc : List Tok} (h : LxS w wr s v acc []) : lex s = some acc := by
  rw [h.eq, lex_nil]
  simp
end Lx

set_option maxRecDepth 100000 in
set_option maxHeartbeats 8000000 in
theorem llex_any (s : List UInt8) (hs : s.length ≤ 4294967280) (w : World) :
    Calls Tryz.prog 19 #[.string ⟨s.toArray⟩] w (Lx.LexR 67 w s) := by
  by_cases hlong : 4096 < s.length
  · have hI : (4096 : Int) < (s.length : Int) := by omega
    have HQ := Lib.hid (Lx.lex_long hlong)
    clear hlong
    go_enter Tryz.func19, Tryz.ntmps19
    go_wp2_with fail
    ((try simp only [Exit.inBlock, Exit.then]); refine bodyPost_ret (results_tmp2 rfl _ _ _) rfl ?_)
    exact ⟨.slice none 0 0, by rw [HQ.out.1]; rfl, by rw [HQ.out.2]; exact Lx.OwnT.nil _ _, Below.refl _ _⟩
  · have hI : ¬ (4096 : Int) < (s.length : Int) := by omega
    have HLN := Lib.hid hlong
    have hs4 : s.length ≤ 4096 := by omega
    obtain ⟨i0, hi0, hz0, hz1, hz2⟩ := info_parts Lx.tokinfo
    have HI := Lib.hid hi0
    have HZ := Lib.hid (And.intro hz0 (And.intro hz1 hz2))
    clear hi0 hz0 hz1 hz2
    have hX : Lx.Tx (w.alloc (.cells #[.string ⟨s.toArray⟩, .slice none 0 0] 64)) w.heap.size (.slice none 0 0) s := RowAt.new w _ _
    have HB1 : Hid (Below w.heap.size w (w.alloc (.cells #[.string ⟨s.toArray⟩, .slice none 0 0] 64))) := Lib.hid ((Below.refl _ _).alloc (Nat.le_refl _) _)
    have HSK := Lib.hid (lskip_any hX)
    clear hX hlong
    go_enter Tryz.func19, Tryz.ntmps19
    go_wp2_with (go_at_call 30; go_must (refine HSK.out.mono ?_; rintro e w1 ⟨rfl, hd1⟩; have HD1 := Lib.hid hd1; clear hd1))
    have HS0 : Hid (Lx.LxS w w1 s (.slice none 0 0) [] (Lx.skipB s)) := Lib.hid ⟨HB1.out.trans (HD1.out.kp.below (by simp) (fun i hi e => by have e : i = w.heap.size := e; omega)), HD1.out.row, Lx.OwnT.nil _ _, by rw [Lx.lex_skip]; cases Lx.lex s <;> rfl, fun c r h => Lx.skipB_head h, Lx.skipB_len s, by have := Lx.skipB_len s; simpa using this⟩
    clear HD1 HSK HB1
    have hb1 : w.heap.size < w1.heap.size := HS0.out.tx.lt
    go_loopw [6] (fun _ wr => Hid (∃ v acc rest, Lx.LxS w wr s v acc rest)) (fun _ wr => Lx.left wr w.heap.size)
    case atStart => exact Lib.hid ⟨_, _, _, HS0.out⟩
    case round =>
      obtain ⟨v, acc, rest, hst⟩ := hrel.out
      have HST := Lib.hid hst
      have c0 := hst.tx.c0
      have hbr := hst.tx.lt
      have hlf := hst.tx.left
      obtain ⟨A, cp, rfl⟩ := hst.own.form
      clear hrel
      by_cases hne : rest = []
      · have HDN : Hid (Lx.lex s = some acc) := Lib.hid (Lx.LxS.done (by rw [← hne]; exact HST.out))
        have HQ := Lib.hid (Lx.lex_yes HLN.out HDN.out)
        have e1 : (rest == ([] : List UInt8)) = true := by rw [hne]; rfl
        have e2 : (rest != ([] : List UInt8)) = false := by rw [hne]; rfl
        have c1 := hst.tx.c1
        clear hst hne
        go_wp2_with fail
        ((try simp only [Exit.inBlock, Exit.then]); refine bodyPost_ret (results_tmp2 rfl _ _ _) rfl ?_)
        exact ⟨.slice A acc.length cp, by rw [HQ.out.1]; rfl, by rw [HQ.out.2]; exact HST.out.own.base (Nat.le_succ _), HST.out.below⟩
      · obtain ⟨c, r, hcr⟩ : ∃ c r, rest = c :: r := by
          cases rest with
          | nil => exact absurd rfl hne
          | cons c r => exact ⟨c, r, rfl⟩
        have e1 : (rest == ([] : List UInt8)) = false := by simpa using hne
        have e2 : (rest != ([] : List UInt8)) = true := by simpa using hne
        have HCR := Lib.hid hcr
        have htx2 : Lx.Tx wr w.heap.size (.slice A acc.length cp) (c :: r) := by rw [← hcr]; exact hst.tx
        have HTK := Lib.hid (ltoken_any htx2 (by have := hst.len; rw [hcr] at this; simp at this; omega))
        have hcnt : acc.length + 1 ≤ 4096 := by have := hst.cnt; rw [hcr] at this; simp at this; omega
        clear hst hne htx2 hcr
        go_wp2_with fail
        go_at_call 31
        refine HTK.out.mono ?_
        rintro e w2 ⟨k, t, r', ok, rfl, hd, ho⟩
        have HD2 := Lib.hid hd
        have HO2 := Lib.hid ho
        have hs2 := hd.size
        clear hd ho
        cases ok
        · have HBD := Lib.hid (Lx.lex_no HLN.out (HST.out.bad HCR.out (by have := HO2.out; rwa [if_neg (by simp)] at this)))
          go_wp2_with fail
          ((try simp only [Exit.inBlock, Exit.then]); refine bodyPost_ret (results_tmp2 rfl _ _ _) rfl ?_)
          refine ⟨.slice none 0 0, by rw [HBD.out.1]; rfl, by rw [HBD.out.2]; exact Lx.OwnT.nil _ _, ?_⟩
          have h1 := HST.out.below
          have h2 := HD2.out.kp
          exact (h1.trans (h2.below h1.size (fun i hi e => by have e : i = w.heap.size := e; omega))).alloc (Nat.le_trans h1.size hs2) _
        · have HMR := Lib.hid (HST.out.more HCR.out (by have := HO2.out; rwa [if_pos rfl] at this))
          have hlt2 : w.heap.size < w2.heap.size := by omega
          have hOA : (((w2.alloc (.cells #[.int .i64 k, .string ⟨t.toArray⟩] 67)).alloc (.cells #[.int .i64 k, .string ⟨t.toArray⟩] 67)).ownsRow (w.heap.size + 1) 67 2 (.slice A acc.length cp) acc.length (Lx.cellsT acc)) :=
            ((HST.out.own.kp HD2.out.kp (fun g hg e => by have e : g = w.heap.size := e; have := (HST.out.own.lt g hg).1; omega)).alloc _).alloc _
          have HOA := Lib.hid hOA
          have HRD : Hid (Rd ((w2.alloc (.cells #[.int .i64 k, .string ⟨t.toArray⟩] 67)).alloc (.cells #[.int .i64 k, .string ⟨t.toArray⟩] 67)) (fun b => b = w2.heap.size + 1) (some ⟨w2.heap.size + 1, 0, none⟩) [.int .i64 k, .string ⟨t.toArray⟩]) := Lib.hid (Rd.fresh (w2.alloc (.cells #[.int .i64 k, .string ⟨t.toArray⟩] 67)) [.int .i64 k, .string ⟨t.toArray⟩] 67 _ (by simp))
          have hlen : acc.length + 1 ≤ maxLen := by unfold maxLen; omega
          have d1 : w2.cell? ⟨w.heap.size, 1, none⟩ = some (.slice A acc.length cp) := HD2.out.row.c1
          have f1 := HD2.out.row.fz 1
          clear hOA
          go_wp2_with first
            | (at_builtin; go_must (refine wpList_app _ rfl (.tmp 28) (.tmp 30) 37 rfl (w.heap.size + 1) 67 i0 _ 2 24 Tryz.underlying37 HI.out HZ.out.1 HZ.out.2.1 HZ.out.2.2 rfl (by decide) (.slice A acc.length cp) acc.length (Lx.cellsT acc) (by simp [Act.eval]) HOA.out (fun b => b = w2.heap.size + 1) (some ⟨w2.heap.size + 1, 0, none⟩) 1 1 [.int .i64 k, .string ⟨t.toArray⟩] (by simp [Act.eval]) (by simp) HRD.out (by intro u hu; simp at hu; rcases hu with rfl | rfl <;> rfl) hlen (by omega) (by simp; omega) ?_; intro v2 w3 hown2 hg2 hat2 hnil2; have hO3 := Lx.OwnT.more rfl hown2; obtain ⟨A3, c3, rfl⟩ := hO3.form; have hrow3 : RowAt w3 w.heap.size 64 #[.string ⟨r'.toArray⟩, .slice A acc.length cp] := (hg2.block w.heap.size (by simp; omega) (fun e => by have := (World.ownsRow.lt HOA.out w.heap.size e.symm).1; omega)).trans (RowAt.alloc (RowAt.alloc HD2.out.row _) _); have d3 : w3.cell? ⟨w.heap.size, 1, none⟩ = some (.slice A acc.length cp) := (hrow3.cell 1).trans rfl; have f3 := hrow3.frozen 1; have hlt3 := hrow3.lt; have HB3 : Hid (Below w.heap.size w w3) := Lib.hid ((((HST.out.below.trans (HD2.out.kp.below HST.out.below.size (fun i hi e => by have e : i = w.heap.size := e; omega))).alloc (by omega) _).alloc (by simp; omega) _).grown hg2 (by simp; omega) (fun g e => by have := (World.ownsRow.lt HOA.out g e).1; omega)); have HO3 := Lib.hid hO3; have hx4 : Lx.Tx (w3.setCell ⟨w.heap.size, 1, none⟩ (.slice A3 (acc ++ [(k, t)]).length c3)) w.heap.size (.slice A3 (acc ++ [(k, t)]).length c3) r' := hrow3.set_ 1 _; have HSK4 := Lib.hid (lskip_any hx4); have HB4 : Hid (Below w.heap.size w (w3.setCell ⟨w.heap.size, 1, none⟩ (.slice A3 (acc ++ [(k, t)]).length c3))) := Lib.hid (HB3.out.setCell (Nat.le_refl _) _); have HO4 : Hid (Lx.OwnT 67 (w.heap.size + 1) (w3.setCell ⟨w.heap.size, 1, none⟩ (.slice A3 (acc ++ [(k, t)]).length c3)) (.slice A3 (acc ++ [(k, t)]).length c3) (acc ++ [(k, t)])) := Lib.hid (owns_keep hO3 fun g hg => Below.heap_setCell _ _ _ g (by have := (hO3.lt g hg).1; show g ≠ w.heap.size; omega)); clear hown2 hg2 hat2 hnil2 hO3 hrow3 hx4 HO3 HB3; generalize (acc ++ [(k, t)]).length = m3 at *))
            | (go_at_call 30; go_must (refine HSK4.out.mono ?_; rintro e w5 ⟨rfl, hd5⟩; have HD5 := Lib.hid hd5; clear hd5))
          go_roundw
          case rel => exact Lib.hid ⟨_, acc ++ [(k, t)], Lx.skipB r', ⟨HB4.out.trans (HD5.out.kp.below HB4.out.size (fun i hi e => by have e : i = w.heap.size := e; omega)), HD5.out.row, HO4.out.kp HD5.out.kp (fun g hg e => by have e : g = w.heap.size := e; have := (HO4.out.lt g hg).1; omega), HMR.out.1, fun c r h => Lx.skipB_head h, by have := HMR.out.2; have := HST.out.len; omega, by have h1 := HMR.out.2; have h2 := HST.out.cnt; rw [List.length_append]; simp; omega⟩⟩
          case measure =>
            have h1 := HD5.out.row.left
            have h2 := HST.out.tx.left
            have h3 := HMR.out.2
            omega
end Go.Proofs.YtojmcndiooiehaaGreatDoor

namespace Go.Proofs.YtojmcndiooiehaaGreatDoor
open Go.RowKit
open Me

set_option maxRecDepth 100000 in
set_option maxHeartbeats 8000000 in
theorem lrefWord_any (s : List UInt8) (k : Nat) (hk : k ≤ s.length) (hl : s.length ≤ 1000000) (w : World) :
    Calls Tryz.prog 33 #[.string ⟨s.toArray⟩, .int .i64 (k : Int)] w fun e w' => e = .returned (.int .i64 (match Lx.scan (s.drop k) 0 with | some (n + 1) => ((k + (n + 1) : Nat) : Int) | _ => -1)) ∧ w = w' := by
  have HIN := Lib.hid fun c W => lrefIn_any c W
  have HFS := Lib.hid (Lx.Far.start (s.drop k))
  have HA1 : Hid (Lx.scan (s.drop k) 0 = none → (match Lx.scan (s.drop k) 0 with | some (n + 1) => ((k + (n + 1) : Nat) : Int) | _ => -1) = -1) := Lib.hid fun h => by rw [h]
  have HA2 : Hid (Lx.scan (s.drop k) 0 = some 0 → (match Lx.scan (s.drop k) 0 with | some (n + 1) => ((k + (n + 1) : Nat) : Int) | _ => -1) = -1) := Lib.hid fun h => by rw [h]
  have HA3 : Hid (∀ n, 0 < n → Lx.scan (s.drop k) 0 = some n → (match Lx.scan (s.drop k) 0 with | some (n + 1) => ((k + (n + 1) : Nat) : Int) | _ => -1) = ((k + n : Nat) : Int)) := Lib.hid fun n hn h => by
    obtain ⟨m, rfl⟩ : ∃ m, n = m + 1 := ⟨n - 1, by omega⟩
    rw [h]
  generalize (match Lx.scan (s.drop k) 0 with | some (n + 1) => ((k + (n + 1) : Nat) : Int) | _ => -1) = R at *
  have hk0 : (0 : Int) ≤ (k : Int) := by omega
  go_enter Tryz.func33, Tryz.ntmps33
  go_wp2_with fail
  go_loopw [5, 6] (fun y x wr => ∃ (i : Nat) (d : Nat), x = .int .i64 ((k + i : Nat) : Int) ∧ y = .int .i64 (d : Int) ∧ k + i ≤ s.length ∧ d ≤ i ∧ Hid (Lx.Far (s.drop k) i (d : Int)) ∧ Hid (w = wr)) (fun _ x _ => s.length - (intOf x).toNat)
  case atStart => exact ⟨0, 0, rfl, rfl, hk, Nat.le_refl _, HFS, Lib.hid rfl⟩
  case round =>
    obtain ⟨i, d, rfl, rfl, hi, hdi, HF, HW⟩ := hrel
    obtain rfl := HW.out
    clear HW
    obtain ⟨j, hj⟩ : ∃ j, j = k + i := ⟨_, rfl⟩
    rw [← hj] at hi ⊢
    have HJ := Lib.hid hj
    have hdb : d ≤ s.length := by omega
    have hi0 : (0 : Int) ≤ (j : Int) := by omega
    by_cases hlt : j < s.length
    · obtain ⟨a, ha⟩ : ∃ a, s[j] = a := ⟨_, rfl⟩
      have hget : s[j]? = some a := by rw [List.getElem?_eq_getElem hlt, ha]
      obtain ⟨z0, g0⟩ := Lx.byte_at hget
      have hiI : (j : Int) < (s.length : Int) := by omega
      have HDR : Hid ((s.drop k).drop i = a :: (s.drop k).drop (i + 1)) := Lib.hid (by
        rw [List.drop_drop, List.drop_drop, ← hj, List.drop_eq_getElem_cons hlt, ha]
        congr 2
        omega)
      have HMA := Lib.hid (HIN.out a)
      have HMY : Hid (Lx.may a (d : Int) = (Lx.inW a || (decide ((0 : Int) < (d : Int)) && a == 44))) := Lib.hid rfl
      clear hget ha hj
      cases hm : Lx.may a (d : Int)
      · have HSC : Hid (Lx.scan (s.drop k) 0 = if (d : Int) = 0 then some i else none) := Lib.hid (HF.out.end_ (by rw [HDR.out, Lx.scan_stop hm]))
        have hinw : Lx.inW a = false := by
          cases hw : Lx.inW a
          · rfl
          · rw [HMY.out, hw] at hm; simp at hm
        rw [hinw] at HMA
        by_cases h44 : a = 44
        · have hd0 : d = 0 := by
            rw [HMY.out, hinw, h44] at hm
            have : ¬ (0 : Int) < (d : Int) := by simpa using hm
            omega
          have k1 : ((a.toNat : Int) = 44) = True := by rw [h44]; simp
          have k1b : ((a.toNat : Int) == 44) = true := by rw [h44]; rfl
          have k2 : ¬ (0 : Int) < (d : Int) := by omega
          have q1 : ((d : Int) = 0) = True := eq_true (by omega)
          have q1b : ((d : Int) != 0) = false := by rw [hd0]; rfl
          clear hm hinw h44
          by_cases hi1 : 0 < i
          · have HQ : Hid (R = (j : Int)) := Lib.hid (by rw [HA3.out i hi1 (by rw [HSC.out, if_pos (by omega)]), HJ.out])
            have q2 : ¬ (j : Int) = (k : Int) := by have := HJ.out; omega
            have q2b : ((j : Int) == (k : Int)) = false := by simpa using q2
            clear hd0
            go_wp2_with (go_at_call 58; go_must (refine (HMA.out _).mono ?_; rintro e w2 ⟨rfl, rfl⟩))
            go_ret
            exact ⟨by rw [HQ.out]; rfl, rfl⟩
          · have HQ := Lib.hid (HA2.out (by rw [HSC.out, if_pos (by omega), show i = 0 by omega]))
            have q2 : ((j : Int) = (k : Int)) = True := eq_true (by have := HJ.out; omega)
            have q2b : ((j : Int) == (k : Int)) = true := by simp [q2]
            clear hd0
            go_wp2_with (go_at_call 58; go_must (refine (HMA.out _).mono ?_; rintro e w2 ⟨rfl, rfl⟩))
            go_ret
            exact ⟨by rw [HQ.out]; rfl, rfl⟩
        · have k1 : ¬ (a.toNat : Int) = 44 := fun e => h44 (UInt8.toNat_inj.1 (by show a.toNat = 44; omega))
          have k1b : ((a.toNat : Int) == 44) = false := by simpa using k1
          clear hm hinw h44
          by_cases hd0 : d = 0
          · have q1 : ((d : Int) = 0) = True := eq_true (by omega)
            have q1b : ((d : Int) != 0) = false := by rw [hd0]; rfl
            by_cases hi1 : 0 < i
            · have HQ : Hid (R = (j : Int)) := Lib.hid (by rw [HA3.out i hi1 (by rw [HSC.out, if_pos (by omega)]), HJ.out])
              have q2 : ¬ (j : Int) = (k : Int) := by have := HJ.out; omega
              have q2b : ((j : Int) == (k : Int)) = false := by simpa using q2
              clear hd0
              go_wp2_with (go_at_call 58; go_must (refine (HMA.out _).mono ?_; rintro e w2 ⟨rfl, rfl⟩))
              go_ret
              exact ⟨by rw [HQ.out]; rfl, rfl⟩
            · have HQ := Lib.hid (HA2.out (by rw [HSC.out, if_pos (by omega), show i = 0 by omega]))
              have q2 : ((j : Int) = (k : Int)) = True := eq_true (by have := HJ.out; omega)
              have q2b : ((j : Int) == (k : Int)) = true := by simp [q2]
              clear hd0
              go_wp2_with (go_at_call 58; go_must (refine (HMA.out _).mono ?_; rintro e w2 ⟨rfl, rfl⟩))
              go_ret
              exact ⟨by rw [HQ.out]; rfl, rfl⟩
          · have q1 : ¬ (d : Int) = 0 := by omega
            have q1b : ((d : Int) != 0) = true := by simpa using q1
            have HQ := Lib.hid (HA1.out (by rw [HSC.out, if_neg (by omega)]))
            clear hd0
            go_wp2_with (go_at_call 58; go_must (refine (HMA.out _).mono ?_; rintro e w2 ⟨rfl, rfl⟩))
            go_ret
            exact ⟨by rw [HQ.out]; rfl, rfl⟩
      · have HM := Lib.hid hm
        rw [HMY.out] at hm
        have HCS : Hid (∀ (h : Lx.inW a = false), a = 44 ∧ 0 < d) := Lib.hid fun h => by
          rw [h] at hm
          have : (0 : Int) < (d : Int) ∧ a = 44 := by simpa using hm
          exact ⟨this.2, by omega⟩
        clear hm
        cases hw : Lx.inW a
        · obtain ⟨h44, hdp⟩ := HCS.out hw
          have k1 : ((a.toNat : Int) = 44) = True := by rw [h44]; simp
          have k1b : ((a.toNat : Int) == 44) = true := by rw [h44]; rfl
          have k3 : ¬ (a.toNat : Int) = 123 := by rw [h44]; decide
          have k3b : ((a.toNat : Int) == 123) = false := by rw [h44]; rfl
          have k4 : ¬ (a.toNat : Int) = 125 := by rw [h44]; decide
          have k4b : ((a.toNat : Int) == 125) = false := by rw [h44]; rfl
          have k2 : (0 : Int) < (d : Int) := by omega
          have e1 : Lx.dep a (d : Int) = (d : Int) := by rw [h44]; rfl
          have HF2 : Hid (Lx.Far (s.drop k) (i + 1) (d : Int)) := Lib.hid (by have := HF.out.next HDR.out HM.out (by rw [e1]; omega); rwa [e1] at this)
          have hw1 : ¬ ((d : Int) < 0) := by omega
          rw [hw] at HMA
          clear e1 h44 hw
          go_wp2_with (go_at_call 58; go_must (refine (HMA.out _).mono ?_; rintro e w2 ⟨rfl, rfl⟩))
          go_roundw
          case rel => exact ⟨i + 1, d, by have := HJ.out; go_num, by go_num, by have := HJ.out; omega, by omega, HF2, Lib.hid (by first | trivial | rfl)⟩
          case measure => simp [intOf]; omega
        · rw [hw] at HMA
          clear hw
          by_cases h123 : a = 123
          · have k1 : ((a.toNat : Int) = 123) = True := by rw [h123]; simp
            have k1b : ((a.toNat : Int) == 123) = true := by rw [h123]; rfl
            have e1 : Lx.dep a (d : Int) = ((d + 1 : Nat) : Int) := by unfold Lx.dep; rw [if_pos h123]; omega
            have HF2 : Hid (Lx.Far (s.drop k) (i + 1) ((d + 1 : Nat) : Int)) := Lib.hid (by have := HF.out.next HDR.out HM.out (by rw [e1]; omega); rwa [e1] at this)
            have hw1 : ¬ ((d : Int) + 1 < 0) := by omega
            clear e1 h123
            go_wp2_with (go_at_call 58; go_must (refine (HMA.out _).mono ?_; rintro e w2 ⟨rfl, rfl⟩))
            go_roundw
            case rel => exact ⟨i + 1, d + 1, by have := HJ.out; go_num, by go_num, by have := HJ.out; omega, by omega, HF2, Lib.hid (by first | trivial | rfl)⟩
            case measure => simp [intOf]; omega
          · have k1 : ¬ (a.toNat : Int) = 123 := fun e => h123 (UInt8.toNat_inj.1 (by show a.toNat = 123; omega))
            have k1b : ((a.toNat : Int) == 123) = false := by simpa using k1
            by_cases h125 : a = 125
            · have k2 : ((a.toNat : Int) = 125) = True := by rw [h125]; simp
              have k2b : ((a.toNat : Int) == 125) = true := by rw [h125]; rfl
              have e1 : Lx.dep a (d : Int) = (d : Int) - 1 := by unfold Lx.dep; rw [if_neg h123, if_pos h125]
              by_cases hz : d = 0
              · have HSC : Hid (Lx.scan (s.drop k) 0 = none) := Lib.hid (HF.out.bad HDR.out HM.out (by rw [e1]; omega))
                have HQ := Lib.hid (HA1.out HSC.out)
                have hw1 : (d : Int) - 1 < 0 := by omega
                clear e1 h123 h125 hz
                go_wp2_with (go_at_call 58; go_must (refine (HMA.out _).mono ?_; rintro e w2 ⟨rfl, rfl⟩))
                go_ret
                exact ⟨by rw [HQ.out]; rfl, rfl⟩
              · obtain ⟨m, rfl⟩ : ∃ m, d = m + 1 := ⟨d - 1, by omega⟩
                have hw1 : ((m + 1 : Nat) : Int) - 1 = (m : Int) := by omega
                have HF2 : Hid (Lx.Far (s.drop k) (i + 1) (m : Int)) := Lib.hid (by have := HF.out.next HDR.out HM.out (by rw [e1]; omega); rwa [e1, hw1] at this)
                have hw2 : IntKind.i64.wrap (((m + 1 : Nat) : Int) - 1) = (m : Int) := by rw [IntKind.wrap_i64]; omega
                have hw3 : ¬ ((m : Int) < 0) := by omega
                clear e1 h123 h125 hz hw1
                go_wp2_with (go_at_call 58; go_must (refine (HMA.out _).mono ?_; rintro e w2 ⟨rfl, rfl⟩))
                go_roundw
                case rel => exact ⟨i + 1, m, by have := HJ.out; go_num, by go_num, by have := HJ.out; omega, by omega, HF2, Lib.hid (by first | trivial | rfl)⟩
                case measure => simp [intOf]; omega
            · have k2 : ¬ (a.toNat : Int) = 125 := fun e => h125 (UInt8.toNat_inj.1 (by show a.toNat = 125; omega))
              have k2b : ((a.toNat : Int) == 125) = false := by simpa using k2
              have e1 : Lx.dep a (d : Int) = (d : Int) := by unfold Lx.dep; rw [if_neg h123, if_neg h125]
              have HF2 : Hid (Lx.Far (s.drop k) (i + 1) (d : Int)) := Lib.hid (by have := HF.out.next HDR.out HM.out (by rw [e1]; omega); rwa [e1] at this)
              have hw1 : ¬ ((d : Int) < 0) := by omega
              clear e1 h123 h125
              go_wp2_with (go_at_call 58; go_must (refine (HMA.out _).mono ?_; rintro e w2 ⟨rfl, rfl⟩))
              go_roundw
              case rel => exact ⟨i + 1, d, by have := HJ.out; go_num, by go_num, by have := HJ.out; omega, by omega, HF2, Lib.hid (by first | trivial | rfl)⟩
              case measure => simp [intOf]; omega
    · have hiI : ¬ (j : Int) < (s.length : Int) := by omega
      have HSC : Hid (Lx.scan (s.drop k) 0 = if (d : Int) = 0 then some i else none) := Lib.hid (HF.out.end_ (by rw [List.drop_eq_nil_of_le (by simp; omega)]; rfl))
      clear hj
      by_cases hd0 : d = 0
      · have q1 : ((d : Int) = 0) = True := eq_true (by omega)
        have q1b : ((d : Int) != 0) = false := by rw [hd0]; rfl
        by_cases hi1 : 0 < i
        · have HQ : Hid (R = (j : Int)) := Lib.hid (by rw [HA3.out i hi1 (by rw [HSC.out, if_pos (by omega)]), HJ.out])
          have q2 : ¬ (j : Int) = (k : Int) := by have := HJ.out; omega
          have q2b : ((j : Int) == (k : Int)) = false := by simpa using q2
          clear hd0
          go_wp2_with fail
          go_ret
          exact ⟨by rw [HQ.out]; rfl, rfl⟩
        · have HQ := Lib.hid (HA2.out (by rw [HSC.out, if_pos (by omega), show i = 0 by omega]))
          have q2 : ((j : Int) = (k : Int)) = True := eq_true (by have := HJ.out; omega)
          have q2b : ((j : Int) == (k : Int)) = true := by simp [q2]
          clear hd0
          go_wp2_with fail
          go_ret
          exact ⟨by rw [HQ.out]; rfl, rfl⟩
      · have q1 : ¬ (d : Int) = 0 := by omega
        have q1b : ((d : Int) != 0) = true := by simpa using q1
        have HQ := Lib.hid (HA1.out (by rw [HSC.out, if_neg (by omega)]))
        clear hd0
        go_wp2_with fail
        go_ret
        exact ⟨by rw [HQ.out]; rfl, rfl⟩
end Go.Proofs.YtojmcndiooiehaaGreatDoor
