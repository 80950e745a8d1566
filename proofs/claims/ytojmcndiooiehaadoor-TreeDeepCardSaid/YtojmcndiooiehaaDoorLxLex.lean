/-
  CONTRACTS: chapter 14: the program's Lex.
-/
import Derived.Test.YtojmcndiooiehaaDoorLxTk
namespace Go.Proofs.YtojmcndiooiehaaDoor
open Go.RowKit
open Me

namespace Lx
/-- What Lex answers. -/
def lexErr (s : List UInt8) : Int := if 4096 < s.length then 13 else if (lex s).isSome = true then 0 else 8
def lexL (s : List UInt8) : List Tok := if 4096 < s.length then [] else (lex s).getD []
/-- What Lex leaves. -/
def LexR (t : TypeId) (w : World) (s : List UInt8) (e : Ending) (w' : World) : Prop := ∃ v, e = .returned (.tuple #[v, .int .i64 (lexErr s)]) ∧ OwnT t w.heap.size w' v (lexL s) ∧ Below w.heap.size w w'
theorem lex_long {s : List UInt8} (h : 4096 < s.length) : lexErr s = 13 ∧ lexL s = [] := by unfold lexErr lexL; rw [if_pos h, if_pos h]; exact ⟨rfl, rfl⟩
theorem lex_no {s : List UInt8} (h : ¬ 4096 < s.length) (hn : lex s = none) : lexErr s = 8 ∧ lexL s = [] := by unfold lexErr lexL; rw [if_neg h, if_neg h, hn]; exact ⟨rfl, rfl⟩
theorem lex_yes {s : List UInt8} (h : ¬ 4096 < s.length) {x : List Tok} (hn : lex s = some x) : lexErr s = 0 ∧ lexL s = x := by unfold lexErr lexL; rw [if_neg h, if_neg h, hn]; exact ⟨rfl, rfl⟩
/-- How many bytes are left. -/
def left (W : World) (b : Nat) : Nat := match W.cell? ⟨b, 0, none⟩ with
  | some (.string s) => s.size
  | _ => 0
theorem Tx.left {W : World} {b : Nat} {v : Value} {r : List UInt8} (h : Tx W b v r) : left W b = r.length := by
  unfold Lx.left
  rw [h.c0]
  show r.toArray.size = _
  simp
theorem tk_tok {c : UInt8} {r r' : List UInt8} {t : Tok} (h : tk c r = some (t, r')) : ∃ n, token c r = some (t, n) ∧ r' = r.drop n := by
  unfold tk at h
  cases hk : token c r with
  | none => rw [hk] at h; cases h
  | some p =>
    rw [hk] at h
    have := Option.some.inj h
    injection this with h1 h2
    exact ⟨p.2, by rw [← h1], h2.symm⟩
theorem tk_none {c : UInt8} {r : List UInt8} (h : tk c r = none) : token c r = none := by
  unfold tk at h
  cases hk : token c r with
  | none => rfl
  | some p => rw [hk] at h; cases h
/-- Lex under way: the tokens that were read, what is left. -/
structure LxS (w wr : World) (s : List UInt8) (v : Value) (acc : List Tok) (rest : List UInt8) : Prop where
  below : Below w.heap.size w wr
  tx : Tx wr w.heap.size v rest
  own : OwnT 55 (w.heap.size + 1) wr v acc
  eq : lex s = (lex rest).map (acc ++ ·)
  hd : ∀ c r, rest = c :: r → blank c = false
  len : rest.length ≤ s.length
  cnt : acc.length + rest.length ≤ s.length
theorem LxS.bad {w wr : World} {s : List UInt8} {v : Value} {acc : List Tok} {rest : List UInt8} (h : LxS w wr s v acc rest) {c : UInt8} {r : List UInt8} (hc : rest = c :: r) (hk : tk c r = none) : lex s = none := by
  rw [h.eq, hc, lex_bad (h.hd c r hc) (tk_none hk)]; rfl
theorem LxS.more {w wr : World} {s : List UInt8} {v : Value} {acc : List Tok} {rest : List UInt8} (h : LxS w wr s v acc rest) {c : UInt8} {r r' : List UInt8} {t : Tok} (hc : rest = c :: r) (hk : tk c r = some (t, r')) :
    lex s = (lex (skipB r')).map ((acc ++ [t]) ++ ·) ∧ (skipB r').length < rest.length := by
  obtain ⟨n, hn, rfl⟩ := tk_tok hk
  constructor
  · rw [h.eq, hc, lex_tok (h.hd c r hc) hn, lex_skip]
    cases lex (r.drop n) with
    | none => rfl
    | some x => simp
  · have := skipB_len (r.drop n)
    rw [hc]
    simp at this ⊢
    omega
theorem LxS.done {w wr : World} {s : List UInt8} {v : Value} {acc : List Tok} (h : LxS w wr s v acc []) : lex s = some acc := by
  rw [h.eq, lex_nil]
  simp
end Lx

set_option maxRecDepth 100000 in
set_option maxHeartbeats 8000000 in
theorem llex_any (s : List UInt8) (hs : s.length ≤ 4294967280) (w : World) :
    Calls Tryd.prog 9 #[.string ⟨s.toArray⟩] w (Lx.LexR 55 w s) := by
  by_cases hlong : 4096 < s.length
  · have hI : (4096 : Int) < (s.length : Int) := by omega
    have HQ := Lib.hid (Lx.lex_long hlong)
    clear hlong
    go_enter Tryd.func9, Tryd.ntmps9
    go_wp2_with fail
    ((try simp only [Exit.inBlock, Exit.then]); refine bodyPost_ret (results_tmp2 rfl _ _ _) rfl ?_)
    exact ⟨.slice none 0 0, by rw [HQ.out.1]; rfl, by rw [HQ.out.2]; exact Lx.OwnT.nil _ _, Below.refl _ _⟩
  · have hI : ¬ (4096 : Int) < (s.length : Int) := by omega
    have HLN := Lib.hid hlong
    have hs4 : s.length ≤ 4096 := by omega
    obtain ⟨i0, hi0, hz0, hz1, hz2⟩ := info_parts Lx.tokinfo
    have HI := Lib.hid hi0
    have HZ := Lib.hid (And.intro hz0 (And.intro hz1 hz2))
    clear hi0 hz0 hz1 hz2
    have hX : Lx.Tx (w.alloc (.cells #[.string ⟨s.toArray⟩, .slice none 0 0] 52)) w.heap.size (.slice none 0 0) s := RowAt.new w _ _
    have HB1 : Hid (Below w.heap.size w (w.alloc (.cells #[.string ⟨s.toArray⟩, .slice none 0 0] 52))) := Lib.hid ((Below.refl _ _).alloc (Nat.le_refl _) _)
    have HSK := Lib.hid (lskip_any hX)
    clear hX hlong
    go_enter Tryd.func9, Tryd.ntmps9
    go_wp2_with (go_at_call 14; go_must (refine HSK.out.mono ?_; rintro e w1 ⟨rfl, hd1⟩; have HD1 := Lib.hid hd1; clear hd1))
    have HS0 : Hid (Lx.LxS w w1 s (.slice none 0 0) [] (Lx.skipB s)) := Lib.hid ⟨HB1.out.trans (HD1.out.kp.below (by simp) (fun i hi e => by have e : i = w.heap.size := e; omega)), HD1.out.row, Lx.OwnT.nil _ _, by rw [Lx.lex_skip]; cases Lx.lex s <;> rfl, fun c r h => Lx.skipB_head h, Lx.skipB_len s, by have := Lx.skipB_len s; simpa using this⟩
    clear HD1 HSK HB1
    have hb1 : w.heap.size < w1.heap.size := HS0.out.tx.lt
    go_loopw [6] (fun _ wr => Hid (∃ v acc rest, Lx.LxS w wr s v acc rest)) (fun _ wr => Lx.left wr w.heap.size)
    case atStart => exact Lib.hid ⟨_, _, _, HS0.out⟩
    case round =>
      obtain ⟨v, acc, rest, hst⟩ := hrel.out
      have HST := Lib.hid hst
      have c0 := hst.tx.c0
      have hbr := hst.tx.lt
      have hlf := hst.tx.left
      obtain ⟨A, cp, rfl⟩ := hst.own.form
      clear hrel
      by_cases hne : rest = []
      · have HDN : Hid (Lx.lex s = some acc) := Lib.hid (Lx.LxS.done (by rw [← hne]; exact HST.out))
        have HQ := Lib.hid (Lx.lex_yes HLN.out HDN.out)
        have e1 : (rest == ([] : List UInt8)) = true := by rw [hne]; rfl
        have e2 : (rest != ([] : List UInt8)) = false := by rw [hne]; rfl
        have c1 := hst.tx.c1
        clear hst hne
        go_wp2_with fail
        ((try simp only [Exit.inBlock, Exit.then]); refine bodyPost_ret (results_tmp2 rfl _ _ _) rfl ?_)
        exact ⟨.slice A acc.length cp, by rw [HQ.out.1]; rfl, by rw [HQ.out.2]; exact HST.out.own.base (Nat.le_succ _), HST.out.below⟩
      · obtain ⟨c, r, hcr⟩ : ∃ c r, rest = c :: r := by
          cases rest with
          | nil => exact absurd rfl hne
          | cons c r => exact ⟨c, r, rfl⟩
        have e1 : (rest == ([] : List UInt8)) = false := by simpa using hne
        have e2 : (rest != ([] : List UInt8)) = true := by simpa using hne
        have HCR := Lib.hid hcr
        have htx2 : Lx.Tx wr w.heap.size (.slice A acc.length cp) (c :: r) := by rw [← hcr]; exact hst.tx
        have HTK := Lib.hid (ltoken_any htx2 (by have := hst.len; rw [hcr] at this; simp at this; omega))
        have hcnt : acc.length + 1 ≤ 4096 := by have := hst.cnt; rw [hcr] at this; simp at this; omega
        clear hst hne htx2 hcr
        go_wp2_with fail
        go_at_call 15
        refine HTK.out.mono ?_
        rintro e w2 ⟨k, t, r', ok, rfl, hd, ho⟩
        have HD2 := Lib.hid hd
        have HO2 := Lib.hid ho
        have hs2 := hd.size
        clear hd ho
        cases ok
        · have HBD := Lib.hid (Lx.lex_no HLN.out (HST.out.bad HCR.out (by have := HO2.out; rwa [if_neg (by simp)] at this)))
          go_wp2_with fail
          ((try simp only [Exit.inBlock, Exit.then]); refine bodyPost_ret (results_tmp2 rfl _ _ _) rfl ?_)
          refine ⟨.slice none 0 0, by rw [HBD.out.1]; rfl, by rw [HBD.out.2]; exact Lx.OwnT.nil _ _, ?_⟩
          have h1 := HST.out.below
          have h2 := HD2.out.kp
          exact (h1.trans (h2.below h1.size (fun i hi e => by have e : i = w.heap.size := e; omega))).alloc (Nat.le_trans h1.size hs2) _
        · have HMR := Lib.hid (HST.out.more HCR.out (by have := HO2.out; rwa [if_pos rfl] at this))
          have hlt2 : w.heap.size < w2.heap.size := by omega
          have hOA : (((w2.alloc (.cells #[.int .i64 k, .string ⟨t.toArray⟩] 55)).alloc (.cells #[.int .i64 k, .string ⟨t.toArray⟩] 55)).ownsRow (w.heap.size + 1) 55 2 (.slice A acc.length cp) acc.length (Lx.cellsT acc)) :=
            ((HST.out.own.kp HD2.out.kp (fun g hg e => by have e : g = w.heap.size := e; have := (HST.out.own.lt g hg).1; omega)).alloc _).alloc _
          have HOA := Lib.hid hOA
          have HRD : Hid (Rd ((w2.alloc (.cells #[.int .i64 k, .string ⟨t.toArray⟩] 55)).alloc (.cells #[.int .i64 k, .string ⟨t.toArray⟩] 55)) (fun b => b = w2.heap.size + 1) (some ⟨w2.heap.size + 1, 0, none⟩) [.int .i64 k, .string ⟨t.toArray⟩]) := Lib.hid (Rd.fresh (w2.alloc (.cells #[.int .i64 k, .string ⟨t.toArray⟩] 55)) [.int .i64 k, .string ⟨t.toArray⟩] 55 _ (by simp))
          have hlen : acc.length + 1 ≤ maxLen := by unfold maxLen; omega
          have d1 : w2.cell? ⟨w.heap.size, 1, none⟩ = some (.slice A acc.length cp) := HD2.out.row.c1
          have f1 := HD2.out.row.fz 1
          clear hOA
          go_wp2_with first
            | (at_builtin; go_must (refine wpList_app _ rfl (.tmp 28) (.tmp 30) 33 rfl (w.heap.size + 1) 55 i0 _ 2 24 Tryd.underlying33 HI.out HZ.out.1 HZ.out.2.1 HZ.out.2.2 rfl (by decide) (.slice A acc.length cp) acc.length (Lx.cellsT acc) (by simp [Act.eval]) HOA.out (fun b => b = w2.heap.size + 1) (some ⟨w2.heap.size + 1, 0, none⟩) 1 1 [.int .i64 k, .string ⟨t.toArray⟩] (by simp [Act.eval]) (by simp) HRD.out (by intro u hu; simp at hu; rcases hu with rfl | rfl <;> rfl) hlen (by omega) (by simp; omega) ?_; intro v2 w3 hown2 hg2 hat2 hnil2; have hO3 := Lx.OwnT.more rfl hown2; obtain ⟨A3, c3, rfl⟩ := hO3.form; have hrow3 : RowAt w3 w.heap.size 52 #[.string ⟨r'.toArray⟩, .slice A acc.length cp] := (hg2.block w.heap.size (by simp; omega) (fun e => by have := (World.ownsRow.lt HOA.out w.heap.size e.symm).1; omega)).trans (RowAt.alloc (RowAt.alloc HD2.out.row _) _); have d3 : w3.cell? ⟨w.heap.size, 1, none⟩ = some (.slice A acc.length cp) := (hrow3.cell 1).trans rfl; have f3 := hrow3.frozen 1; have hlt3 := hrow3.lt; have HB3 : Hid (Below w.heap.size w w3) := Lib.hid ((((HST.out.below.trans (HD2.out.kp.below HST.out.below.size (fun i hi e => by have e : i = w.heap.size := e; omega))).alloc (by omega) _).alloc (by simp; omega) _).grown hg2 (by simp; omega) (fun g e => by have := (World.ownsRow.lt HOA.out g e).1; omega)); have HO3 := Lib.hid hO3; have hx4 : Lx.Tx (w3.setCell ⟨w.heap.size, 1, none⟩ (.slice A3 (acc ++ [(k, t)]).length c3)) w.heap.size (.slice A3 (acc ++ [(k, t)]).length c3) r' := hrow3.set_ 1 _; have HSK4 := Lib.hid (lskip_any hx4); have HB4 : Hid (Below w.heap.size w (w3.setCell ⟨w.heap.size, 1, none⟩ (.slice A3 (acc ++ [(k, t)]).length c3))) := Lib.hid (HB3.out.setCell (Nat.le_refl _) _); have HO4 : Hid (Lx.OwnT 55 (w.heap.size + 1) (w3.setCell ⟨w.heap.size, 1, none⟩ (.slice A3 (acc ++ [(k, t)]).length c3)) (.slice A3 (acc ++ [(k, t)]).length c3) (acc ++ [(k, t)])) := Lib.hid (owns_keep hO3 fun g hg => Below.heap_setCell _ _ _ g (by have := (hO3.lt g hg).1; show g ≠ w.heap.size; omega)); clear hown2 hg2 hat2 hnil2 hO3 hrow3 hx4 HO3 HB3; generalize (acc ++ [(k, t)]).length = m3 at *))
            | (go_at_call 14; go_must (refine HSK4.out.mono ?_; rintro e w5 ⟨rfl, hd5⟩; have HD5 := Lib.hid hd5; clear hd5))
          go_roundw
          case rel => exact Lib.hid ⟨_, acc ++ [(k, t)], Lx.skipB r', ⟨HB4.out.trans (HD5.out.kp.below HB4.out.size (fun i hi e => by have e : i = w.heap.size := e; omega)), HD5.out.row, HO4.out.kp HD5.out.kp (fun g hg e => by have e : g = w.heap.size := e; have := (HO4.out.lt g hg).1; omega), HMR.out.1, fun c r h => Lx.skipB_head h, by have := HMR.out.2; have := HST.out.len; omega, by have h1 := HMR.out.2; have h2 := HST.out.cnt; rw [List.length_append]; simp; omega⟩⟩
          case measure =>
            have h1 := HD5.out.row.left
            have h2 := HST.out.tx.left
            have h3 := HMR.out.2
            omega
end Go.Proofs.YtojmcndiooiehaaDoor
