/-
  LxRef: CONTRACTS: chapter 14: the document's Lex.
-/
import Derived.Test.YtojmcndiooiehaaGreatDoorJ9

set_option linter.unusedSimpArgs false
set_option linter.unusedVariables false
namespace Go.Proofs.YtojmcndiooiehaaGreatDoor
open Go.RowKit
open Me

namespace Lx
theorem idx_cons (q a : UInt8) (l : List UInt8) : idx q (a :: l) = if a = q then 0 else idx q l + 1 := by
  unfold idx
  rw [List.takeWhile_cons]
  by_cases h : a = q
  · subst h; simp
  · rw [if_pos (by simpa using h), if_neg h]; rfl
theorem ext_mid (s : List UInt8) (i k : Nat) : (⟨s.toArray⟩ : ByteArray).extract i k = ⟨((s.drop i).take (k - i)).toArray⟩ := by
  apply ByteArray.ext
  rw [ByteArray.data_extract]
  apply Array.toList_inj.1
  simp
/-- The document's Lex under way. -/
structure LxD (w wr : World) (s : List UInt8) (v : Value) (acc : List Tok) (i : Nat) : Prop where
  below : Below w.heap.size w wr
  own : OwnT 71 w.heap.size wr v acc
  eq : lex s = (lex (s.drop i)).map (acc ++ ·)
  cnt : acc.length ≤ i
theorem LxD.bad {w wr : World} {s : List UInt8} {v : Value} {acc : List Tok} {i : Nat} (h : LxD w wr s v acc i) {c : UInt8} (hc : s.drop i = c :: s.drop (i + 1)) (hb : blank c = false) (hk : token c (s.drop (i + 1)) = none) : lex s = none := by
  rw [h.eq, hc, lex_bad hb hk]; rfl
theorem LxD.blank {w wr : World} {s : List UInt8} {v : Value} {acc : List Tok} {i : Nat} (h : LxD w wr s v acc i) {c : UInt8} (hc : s.drop i = c :: s.drop (i + 1)) (hb : Lx.blank c = true) : LxD w wr s v acc (i + 1) :=
  ⟨h.below, h.own, by rw [h.eq, hc, lex_blank hb], by have := h.cnt; omega⟩
theorem LxD.more {w wr w2 : World} {s : List UInt8} {v v2 : Value} {acc : List Tok} {i : Nat} (h : LxD w wr s v acc i) {c : UInt8} {t : Tok} {n : Nat} (hc : s.drop i = c :: s.drop (i + 1)) (hb : Lx.blank c = false) (hk : token c (s.drop (i + 1)) = some (t, n)) (hb2 : Below w.heap.size w w2) (ho : OwnT 71 w.heap.size w2 v2 (acc ++ [t])) : LxD w w2 s v2 (acc ++ [t]) (i + 1 + n) :=
  ⟨hb2, ho, by
    rw [h.eq, hc, lex_tok hb hk, List.drop_drop]
    cases lex (s.drop (i + 1 + n)) with
    | none => rfl
    | some x => simp, by have := h.cnt; rw [List.length_append]; simp; omega⟩
theorem LxD.done {w wr : World} {s : List UInt8} {v : Value} {acc : List Tok} (h : LxD w wr s v acc s.length) : lex s = some acc := by
  rw [h.eq, List.drop_length, lex_nil]
  simp
end Lx

set_option maxRecDepth 100000 in
set_option maxHeartbeats 16000000 in
theorem lrefLex_any (s : List UInt8) (hs : s.length ≤ 4294967280) (w : World) :
    Calls Tryz.prog 21 #[.string ⟨s.toArray⟩] w (Lx.LexR 71 w s) := by
  by_cases hlong : 4096 < s.length
  · have hI : (4096 : Int) < (s.length : Int) := by omega
    have HQ := Lib.hid (Lx.lex_long hlong)
    clear hlong
    go_enter Tryz.func21, Tryz.ntmps21
    go_wp2_with fail
    ((try simp only [Exit.inBlock, Exit.then]); refine bodyPost_ret (results_tmp2 rfl _ _ _) rfl ?_)
    exact ⟨.slice none 0 0, by rw [HQ.out.1]; rfl, by rw [HQ.out.2]; exact Lx.OwnT.nil _ _, Below.refl _ _⟩
  · have hI : ¬ (4096 : Int) < (s.length : Int) := by omega
    have HLN := Lib.hid hlong
    have hs4 : s.length ≤ 4096 := by omega
    obtain ⟨i0, hi0, hz0, hz1, hz2⟩ := info_parts Lx.reftokinfo
    have HI := Lib.hid hi0
    have HZ := Lib.hid (And.intro hz0 (And.intro hz1 hz2))
    clear hi0 hz0 hz1 hz2 hlong
    have HS0 : Hid (Lx.LxD w w s (.slice none 0 0) [] 0) := Lib.hid ⟨Below.refl _ _, Lx.OwnT.nil _ _, by rw [List.drop_zero]; cases Lx.lex s <;> rfl, Nat.le_refl _⟩
    go_enter Tryz.func21, Tryz.ntmps21
    go_wp2_with fail
    go_loopw [4, 5] (fun v x wr => ∃ i : Nat, x = .int .i64 (i : Int) ∧ i ≤ s.length ∧ Hid (∃ acc, Lx.LxD w wr s v acc i)) (fun _ x _ => s.length - (intOf x).toNat)
    case atStart => exact ⟨0, rfl, Nat.zero_le _, Lib.hid ⟨[], HS0.out⟩⟩
    case round =>
      obtain ⟨i, rfl, hi, hst0⟩ := hrel
      obtain ⟨acc, hst⟩ := hst0.out
      have HST := Lib.hid hst
      obtain ⟨A, cp, rfl⟩ := hst.own.form
      have hcnt := hst.cnt
      have hsz := hst.below.size
      clear hst0 hst
      have hi0 : (0 : Int) ≤ (i : Int) := by omega
      by_cases hlt : i < s.length
      · obtain ⟨c, ha⟩ : ∃ c, s[i] = c := ⟨_, rfl⟩
        have hget : s[i]? = some c := by rw [List.getElem?_eq_getElem hlt, ha]
        obtain ⟨z0, g0⟩ := Lx.byte_at hget
        have hiI : (i : Int) < (s.length : Int) := by omega
        have HDR : Hid (s.drop i = c :: s.drop (i + 1)) := Lib.hid (by rw [List.drop_eq_getElem_cons hlt, ha])
        obtain ⟨i1, hi1⟩ : ∃ i1 : Nat, i1 = i + 1 := ⟨_, rfl⟩
        have hwi : IntKind.i64.wrap ((i : Int) + 1) = (i1 : Int) := by rw [IntKind.wrap_i64]; omega
        have HI1 := Lib.hid hi1
        have hlen : acc.length + 1 ≤ maxLen := by unfold maxLen; omega
        have hi1le : i1 ≤ s.length := by omega
        clear hget ha hi1
        by_cases hc : c = 32
        · have k32 : ((c.toNat : Int) = 32) = True := by rw [hc]; simp
          have k32b : ((c.toNat : Int) == 32) = true := by rw [hc]; rfl
          have k9 : ¬ (c.toNat : Int) = 9 := by rw [hc]; decide
          have k9b : ((c.toNat : Int) == 9) = false := by rw [hc]; rfl
          have k40 : ¬ (c.toNat : Int) = 40 := by rw [hc]; decide
          have k40b : ((c.toNat : Int) == 40) = false := by rw [hc]; rfl
          have k41 : ¬ (c.toNat : Int) = 41 := by rw [hc]; decide
          have k41b : ((c.toNat : Int) == 41) = false := by rw [hc]; rfl
          have k44 : ¬ (c.toNat : Int) = 44 := by rw [hc]; decide
          have k44b : ((c.toNat : Int) == 44) = false := by rw [hc]; rfl
          have k34 : ¬ (c.toNat : Int) = 34 := by rw [hc]; decide
          have k34b : ((c.toNat : Int) == 34) = false := by rw [hc]; rfl
          have k39 : ¬ (c.toNat : Int) = 39 := by rw [hc]; decide
          have k39b : ((c.toNat : Int) == 39) = false := by rw [hc]; rfl
          have HN : Hid (Lx.LxD w wr s (.slice A acc.length cp) acc i1) := Lib.hid (by rw [HI1.out]; exact HST.out.blank HDR.out (by rw [hc]; rfl))
          clear hc
          go_wp2_with fail
          go_roundw
          case rel => exact ⟨i1, rfl, hi1le, Lib.hid ⟨acc, HN.out⟩⟩
          case measure => have := HI1.out; simp [intOf]; omega
        have n32 : c ≠ 32 := hc
        clear hc
        by_cases hc : c = 9
        · have k32 : ¬ (c.toNat : Int) = 32 := by rw [hc]; decide
          have k32b : ((c.toNat : Int) == 32) = false := by rw [hc]; rfl
          have k9 : ((c.toNat : Int) = 9) = True := by rw [hc]; simp
          have k9b : ((c.toNat : Int) == 9) = true := by rw [hc]; rfl
          have k40 : ¬ (c.toNat : Int) = 40 := by rw [hc]; decide
          have k40b : ((c.toNat : Int) == 40) = false := by rw [hc]; rfl
          have k41 : ¬ (c.toNat : Int) = 41 := by rw [hc]; decide
          have k41b : ((c.toNat : Int) == 41) = false := by rw [hc]; rfl
          have k44 : ¬ (c.toNat : Int) = 44 := by rw [hc]; decide
          have k44b : ((c.toNat : Int) == 44) = false := by rw [hc]; rfl
          have k34 : ¬ (c.toNat : Int) = 34 := by rw [hc]; decide
          have k34b : ((c.toNat : Int) == 34) = false := by rw [hc]; rfl
          have k39 : ¬ (c.toNat : Int) = 39 := by rw [hc]; decide
          have k39b : ((c.toNat : Int) == 39) = false := by rw [hc]; rfl
          have HN : Hid (Lx.LxD w wr s (.slice A acc.length cp) acc i1) := Lib.hid (by rw [HI1.out]; exact HST.out.blank HDR.out (by rw [hc]; rfl))
          clear hc
          go_wp2_with fail
          go_roundw
          case rel => exact ⟨i1, rfl, hi1le, Lib.hid ⟨acc, HN.out⟩⟩
          case measure => have := HI1.out; simp [intOf]; omega
        have n9 : c ≠ 9 := hc
        clear hc
        by_cases hc : c = 40
        · have k32 : ¬ (c.toNat : Int) = 32 := by rw [hc]; decide
          have k32b : ((c.toNat : Int) == 32) = false := by rw [hc]; rfl
          have k9 : ¬ (c.toNat : Int) = 9 := by rw [hc]; decide
          have k9b : ((c.toNat : Int) == 9) = false := by rw [hc]; rfl
          have k40 : ((c.toNat : Int) = 40) = True := by rw [hc]; simp
          have k40b : ((c.toNat : Int) == 40) = true := by rw [hc]; rfl
          have k41 : ¬ (c.toNat : Int) = 41 := by rw [hc]; decide
          have k41b : ((c.toNat : Int) == 41) = false := by rw [hc]; rfl
          have k44 : ¬ (c.toNat : Int) = 44 := by rw [hc]; decide
          have k44b : ((c.toNat : Int) == 44) = false := by rw [hc]; rfl
          have k34 : ¬ (c.toNat : Int) = 34 := by rw [hc]; decide
          have k34b : ((c.toNat : Int) == 34) = false := by rw [hc]; rfl
          have k39 : ¬ (c.toNat : Int) = 39 := by rw [hc]; decide
          have k39b : ((c.toNat : Int) == 39) = false := by rw [hc]; rfl
          have HTK : Hid (Lx.token c (s.drop (i + 1)) = some ((3, []), 0) ∧ Lx.blank c = false) := Lib.hid (by rw [hc]; exact ⟨by unfold Lx.token; rfl, by decide⟩)
          have HOA : Hid ((wr.alloc (.cells #[.int .i64 3, .string ⟨#[]⟩] 71)).ownsRow w.heap.size 71 2 (.slice A acc.length cp) acc.length (Lx.cellsT acc)) := Lib.hid (HST.out.own.alloc _)
          have HRD : Hid (Rd (wr.alloc (.cells #[.int .i64 3, .string ⟨#[]⟩] 71)) (fun b => b = wr.heap.size) (some ⟨wr.heap.size, 0, none⟩) [.int .i64 3, .string ⟨#[]⟩]) := Lib.hid (Rd.fresh wr [.int .i64 3, .string ⟨#[]⟩] 71 _ rfl)
          clear hc
          go_wp2_with (at_builtin; go_must (refine wpList_app _ rfl (.tmp 58) (.tmp 61) 44 rfl w.heap.size 71 i0 _ 2 24 Tryz.underlying44 HI.out HZ.out.1 HZ.out.2.1 HZ.out.2.2 rfl (by decide) (.slice A acc.length cp) acc.length (Lx.cellsT acc) (by simp [Act.eval]) HOA.out (fun b => b = wr.heap.size) (some ⟨wr.heap.size, 0, none⟩) 1 1 [.int .i64 3, .string ⟨#[]⟩] (by simp [Act.eval]) (by simp) HRD.out (by intro u hu; simp at hu; rcases hu with rfl | rfl <;> rfl) hlen (by omega) (by simp; omega) ?_; intro v2 w3 hown2 hg2 hat2 hnil2; have hO3 := Lx.OwnT.more rfl hown2; obtain ⟨A3, c3, rfl⟩ := hO3.form; have HB3 : Hid (Below w.heap.size w w3) := Lib.hid ((HST.out.below.alloc hsz _).grown hg2 (by simp; omega) (fun g e => (World.ownsRow.lt HOA.out g e).1)); have HO3 := Lib.hid hO3; clear hown2 hg2 hat2 hnil2 hO3; generalize (acc ++ [(3, [])]).length = m3 at *))
          go_roundw
          case rel => exact ⟨i1, rfl, hi1le, Lib.hid ⟨acc ++ [(3, [])], by rw [HI1.out]; exact HST.out.more HDR.out HTK.out.2 HTK.out.1 HB3.out HO3.out⟩⟩
          case measure => have := HI1.out; simp [intOf]; omega
        have n40 : c ≠ 40 := hc
        clear hc
        by_cases hc : c = 41
        · have k32 : ¬ (c.toNat : Int) = 32 := by rw [hc]; decide
          have k32b : ((c.toNat : Int) == 32) = false := by rw [hc]; rfl
          have k9 : ¬ (c.toNat : Int) = 9 := by rw [hc]; decide
          have k9b : ((c.toNat : Int) == 9) = false := by rw [hc]; rfl
          have k40 : ¬ (c.toNat : Int) = 40 := by rw [hc]; decide
          have k40b : ((c.toNat : Int) == 40) = false := by rw [hc]; rfl
          have k41 : ((c.toNat : Int) = 41) = True := by rw [hc]; simp
          have k41b : ((c.toNat : Int) == 41) = true := by rw [hc]; rfl
          have k44 : ¬ (c.toNat : Int) = 44 := by rw [hc]; decide
          have k44b : ((c.toNat : Int) == 44) = false := by rw [hc]; rfl
          have k34 : ¬ (c.toNat : Int) = 34 := by rw [hc]; decide
          have k34b : ((c.toNat : Int) == 34) = false := by rw [hc]; rfl
          have k39 : ¬ (c.toNat : Int) = 39 := by rw [hc]; decide
          have k39b : ((c.toNat : Int) == 39) = false := by rw [hc]; rfl
          have HTK : Hid (Lx.token c (s.drop (i + 1)) = some ((4, []), 0) ∧ Lx.blank c = false) := Lib.hid (by rw [hc]; exact ⟨by unfold Lx.token; rfl, by decide⟩)
          have HOA : Hid ((wr.alloc (.cells #[.int .i64 4, .string ⟨#[]⟩] 71)).ownsRow w.heap.size 71 2 (.slice A acc.length cp) acc.length (Lx.cellsT acc)) := Lib.hid (HST.out.own.alloc _)
          have HRD : Hid (Rd (wr.alloc (.cells #[.int .i64 4, .string ⟨#[]⟩] 71)) (fun b => b = wr.heap.size) (some ⟨wr.heap.size, 0, none⟩) [.int .i64 4, .string ⟨#[]⟩]) := Lib.hid (Rd.fresh wr [.int .i64 4, .string ⟨#[]⟩] 71 _ rfl)
          clear hc
          go_wp2_with (at_builtin; go_must (refine wpList_app _ rfl (.tmp 58) (.tmp 61) 44 rfl w.heap.size 71 i0 _ 2 24 Tryz.underlying44 HI.out HZ.out.1 HZ.out.2.1 HZ.out.2.2 rfl (by decide) (.slice A acc.length cp) acc.length (Lx.cellsT acc) (by simp [Act.eval]) HOA.out (fun b => b = wr.heap.size) (some ⟨wr.heap.size, 0, none⟩) 1 1 [.int .i64 4, .string ⟨#[]⟩] (by simp [Act.eval]) (by simp) HRD.out (by intro u hu; simp at hu; rcases hu with rfl | rfl <;> rfl) hlen (by omega) (by simp; omega) ?_; intro v2 w3 hown2 hg2 hat2 hnil2; have hO3 := Lx.OwnT.more rfl hown2; obtain ⟨A3, c3, rfl⟩ := hO3.form; have HB3 : Hid (Below w.heap.size w w3) := Lib.hid ((HST.out.below.alloc hsz _).grown hg2 (by simp; omega) (fun g e => (World.ownsRow.lt HOA.out g e).1)); have HO3 := Lib.hid hO3; clear hown2 hg2 hat2 hnil2 hO3; generalize (acc ++ [(4, [])]).length = m3 at *))
          go_roundw
          case rel => exact ⟨i1, rfl, hi1le, Lib.hid ⟨acc ++ [(4, [])], by rw [HI1.out]; exact HST.out.more HDR.out HTK.out.2 HTK.out.1 HB3.out HO3.out⟩⟩
          case measure => have := HI1.out; simp [intOf]; omega
        have n41 : c ≠ 41 := hc
        clear hc
        by_cases hc : c = 44
        · have k32 : ¬ (c.toNat : Int) = 32 := by rw [hc]; decide
          have k32b : ((c.toNat : Int) == 32) = false := by rw [hc]; rfl
          have k9 : ¬ (c.toNat : Int) = 9 := by rw [hc]; decide
          have k9b : ((c.toNat : Int) == 9) = false := by rw [hc]; rfl
          have k40 : ¬ (c.toNat : Int) = 40 := by rw [hc]; decide
          have k40b : ((c.toNat : Int) == 40) = false := by rw [hc]; rfl
          have k41 : ¬ (c.toNat : Int) = 41 := by rw [hc]; decide
          have k41b : ((c.toNat : Int) == 41) = false := by rw [hc]; rfl
          have k44 : ((c.toNat : Int) = 44) = True := by rw [hc]; simp
          have k44b : ((c.toNat : Int) == 44) = true := by rw [hc]; rfl
          have k34 : ¬ (c.toNat : Int) = 34 := by rw [hc]; decide
          have k34b : ((c.toNat : Int) == 34) = false := by rw [hc]; rfl
          have k39 : ¬ (c.toNat : Int) = 39 := by rw [hc]; decide
          have k39b : ((c.toNat : Int) == 39) = false := by rw [hc]; rfl
          have HTK : Hid (Lx.token c (s.drop (i + 1)) = some ((5, []), 0) ∧ Lx.blank c = false) := Lib.hid (by rw [hc]; exact ⟨by unfold Lx.token; rfl, by decide⟩)
          have HOA : Hid ((wr.alloc (.cells #[.int .i64 5, .string ⟨#[]⟩] 71)).ownsRow w.heap.size 71 2 (.slice A acc.length cp) acc.length (Lx.cellsT acc)) := Lib.hid (HST.out.own.alloc _)
          have HRD : Hid (Rd (wr.alloc (.cells #[.int .i64 5, .string ⟨#[]⟩] 71)) (fun b => b = wr.heap.size) (some ⟨wr.heap.size, 0, none⟩) [.int .i64 5, .string ⟨#[]⟩]) := Lib.hid (Rd.fresh wr [.int .i64 5, .string ⟨#[]⟩] 71 _ rfl)
          clear hc
          go_wp2_with (at_builtin; go_must (refine wpList_app _ rfl (.tmp 58) (.tmp 61) 44 rfl w.heap.size 71 i0 _ 2 24 Tryz.underlying44 HI.out HZ.out.1 HZ.out.2.1 HZ.out.2.2 rfl (by decide) (.slice A acc.length cp) acc.length (Lx.cellsT acc) (by simp [Act.eval]) HOA.out (fun b => b = wr.heap.size) (some ⟨wr.heap.size, 0, none⟩) 1 1 [.int .i64 5, .string ⟨#[]⟩] (by simp [Act.eval]) (by simp) HRD.out (by intro u hu; simp at hu; rcases hu with rfl | rfl <;> rfl) hlen (by omega) (by simp; omega) ?_; intro v2 w3 hown2 hg2 hat2 hnil2; have hO3 := Lx.OwnT.more rfl hown2; obtain ⟨A3, c3, rfl⟩ := hO3.form; have HB3 : Hid (Below w.heap.size w w3) := Lib.hid ((HST.out.below.alloc hsz _).grown hg2 (by simp; omega) (fun g e => (World.ownsRow.lt HOA.out g e).1)); have HO3 := Lib.hid hO3; clear hown2 hg2 hat2 hnil2 hO3; generalize (acc ++ [(5, [])]).length = m3 at *))
          go_roundw
          case rel => exact ⟨i1, rfl, hi1le, Lib.hid ⟨acc ++ [(5, [])], by rw [HI1.out]; exact HST.out.more HDR.out HTK.out.2 HTK.out.1 HB3.out HO3.out⟩⟩
          case measure => have := HI1.out; simp [intOf]; omega
        have n44 : c ≠ 44 := hc
        clear hc
        by_cases hc : c = 34
        · have k32 : ¬ (c.toNat : Int) = 32 := by rw [hc]; decide
          have k32b : ((c.toNat : Int) == 32) = false := by rw [hc]; rfl
          have k9 : ¬ (c.toNat : Int) = 9 := by rw [hc]; decide
          have k9b : ((c.toNat : Int) == 9) = false := by rw [hc]; rfl
          have k40 : ¬ (c.toNat : Int) = 40 := by rw [hc]; decide
          have k40b : ((c.toNat : Int) == 40) = false := by rw [hc]; rfl
          have k41 : ¬ (c.toNat : Int) = 41 := by rw [hc]; decide
          have k41b : ((c.toNat : Int) == 41) = false := by rw [hc]; rfl
          have k44 : ¬ (c.toNat : Int) = 44 := by rw [hc]; decide
          have k44b : ((c.toNat : Int) == 44) = false := by rw [hc]; rfl
          have k34 : ((c.toNat : Int) = 34) = True := by rw [hc]; simp
          have k34b : ((c.toNat : Int) == 34) = true := by rw [hc]; rfl
          have k39 : ¬ (c.toNat : Int) = 39 := by rw [hc]; decide
          have k39b : ((c.toNat : Int) == 39) = false := by rw [hc]; rfl
          have HBL : Hid (Lx.blank c = false) := Lib.hid (by rw [hc]; rfl)
          have HTK : Hid (Lx.token c (s.drop i1) = if Lx.idx c (s.drop i1) < (s.drop i1).length then some ((2, (s.drop i1).take (Lx.idx c (s.drop i1))), Lx.idx c (s.drop i1) + 1) else none) := Lib.hid (by
            unfold Lx.token
            rw [if_neg (by rw [hc]; decide), if_neg (by rw [hc]; decide), if_neg (by rw [hc]; decide), if_pos (.inl hc)])
          clear hc
          go_wp2_with fail
          go_loopw [8] (fun x wq => ∃ j : Nat, x = .int .i64 ((i1 + j : Nat) : Int) ∧ i1 + j ≤ s.length ∧ Hid (Lx.idx c (s.drop i1) = j + Lx.idx c (s.drop (i1 + j))) ∧ Hid (wr = wq)) (fun x _ => s.length - (intOf x).toNat)
          case atStart => exact ⟨0, rfl, hi1le, Lib.hid (by rw [Nat.zero_add]; rfl), Lib.hid rfl⟩
          case round =>
            obtain ⟨j, rfl, hj, HJ, HW⟩ := hrel
            obtain rfl := HW.out
            clear HW
            obtain ⟨m, hm⟩ : ∃ m, m = i1 + j := ⟨_, rfl⟩
            rw [← hm] at hj ⊢
            have HM := Lib.hid hm
            have hm0 : (0 : Int) ≤ (m : Int) := by omega
            by_cases hlm : m < s.length
            · obtain ⟨a, ha⟩ : ∃ a, s[m] = a := ⟨_, rfl⟩
              have hget : s[m]? = some a := by rw [List.getElem?_eq_getElem hlm, ha]
              obtain ⟨z1, g1⟩ := Lx.byte_at hget
              have hmI : (m : Int) < (s.length : Int) := by omega
              have HDM : Hid (s.drop m = a :: s.drop (m + 1)) := Lib.hid (by rw [List.drop_eq_getElem_cons hlm, ha])
              by_cases he : a = c
              · have heI : ((a.toNat : Int) = (c.toNat : Int)) = True := by rw [he]; simp
                have heB : ((a.toNat : Int) != (c.toNat : Int)) = false := by rw [he]; simp
                have hne : ¬ (m : Int) = (s.length : Int) := by omega
                have hneB : ((m : Int) == (s.length : Int)) = false := by simpa using hne
                have HID : Hid (Lx.idx c (s.drop i1) = j) := Lib.hid (by rw [HJ.out, ← HM.out, HDM.out, Lx.idx_cons, if_pos he]; rfl)
                obtain ⟨t, ht⟩ : ∃ t, t = (s.drop i1).take j := ⟨_, rfl⟩
                have HEX : (⟨s.toArray⟩ : ByteArray).extract i1 m = ⟨t.toArray⟩ := by rw [Lx.ext_mid s i1 m, ht, hm]; congr 2; congr 1; omega
                have HTK2 : Hid (Lx.token c (s.drop (i + 1)) = some ((2, t), j + 1)) := Lib.hid (by
                  rw [← HI1.out, HTK.out, HID.out, if_pos (by simp; omega), ht])
                have hle1 : (i1 : Int) ≤ (m : Int) := by omega
                have hle2 : (m : Int) ≤ (s.length : Int) := by omega
                obtain ⟨m1, hm1⟩ : ∃ m1 : Nat, m1 = m + 1 := ⟨_, rfl⟩
                have hwm : IntKind.i64.wrap ((m : Int) + 1) = (m1 : Int) := by rw [IntKind.wrap_i64]; omega
                have HM1 := Lib.hid hm1
                have hm1le : m1 ≤ s.length := by omega
                have HOA : Hid ((wr.alloc (.cells #[.int .i64 2, .string ⟨t.toArray⟩] 71)).ownsRow w.heap.size 71 2 (.slice A acc.length cp) acc.length (Lx.cellsT acc)) := Lib.hid (HST.out.own.alloc _)
                have HRD : Hid (Rd (wr.alloc (.cells #[.int .i64 2, .string ⟨t.toArray⟩] 71)) (fun b => b = wr.heap.size) (some ⟨wr.heap.size, 0, none⟩) [.int .i64 2, .string ⟨t.toArray⟩]) := Lib.hid (Rd.fresh wr [.int .i64 2, .string ⟨t.toArray⟩] 71 _ rfl)
                clear hget ha he hm ht hm1
                go_wp2_with (at_builtin; go_must (refine wpList_app _ rfl (.tmp 91) (.tmp 98) 44 rfl w.heap.size 71 i0 _ 2 24 Tryz.underlying44 HI.out HZ.out.1 HZ.out.2.1 HZ.out.2.2 rfl (by decide) (.slice A acc.length cp) acc.length (Lx.cellsT acc) (by simp [Act.eval]) HOA.out (fun b => b = wr.heap.size) (some ⟨wr.heap.size, 0, none⟩) 1 1 [.int .i64 2, .string ⟨t.toArray⟩] (by simp [Act.eval]) (by simp) HRD.out (by intro u hu; simp at hu; rcases hu with rfl | rfl <;> rfl) hlen (by omega) (by simp; omega) ?_; intro v2 w3 hown2 hg2 hat2 hnil2; have hO3 := Lx.OwnT.more rfl hown2; obtain ⟨A3, c3, rfl⟩ := hO3.form; have HB3 : Hid (Below w.heap.size w w3) := Lib.hid ((HST.out.below.alloc hsz _).grown hg2 (by simp; omega) (fun g e => (World.ownsRow.lt HOA.out g e).1)); have HO3 := Lib.hid hO3; clear hown2 hg2 hat2 hnil2 hO3; generalize (acc ++ [(2, t)]).length = m3 at *))
                go_roundw
                case rel =>
                  have h := HST.out.more HDR.out HBL.out HTK2.out HB3.out HO3.out
                  rw [show i + 1 + (j + 1) = m1 by have h1 := HM1.out; have h2 := HM.out; have h3 := HI1.out; omega] at h
                  exact ⟨m1, rfl, hm1le, Lib.hid ⟨acc ++ [(2, t)], h⟩⟩
                case measure => have := HI1.out; have := HM1.out; have := HM.out; simp [intOf]; omega
              · have heI : ¬ (a.toNat : Int) = (c.toNat : Int) := fun e => he (UInt8.toNat_inj.1 (by omega))
                have heB : ((a.toNat : Int) != (c.toNat : Int)) = true := by simpa using heI
                obtain ⟨m1, hm1⟩ : ∃ m1 : Nat, m1 = m + 1 := ⟨_, rfl⟩
                have hwm : IntKind.i64.wrap ((m : Int) + 1) = (m1 : Int) := by rw [IntKind.wrap_i64]; omega
                have HM1 := Lib.hid hm1
                have HID : Hid (Lx.idx c (s.drop i1) = (j + 1) + Lx.idx c (s.drop (i1 + (j + 1)))) := Lib.hid (by
                  have e : i1 + (j + 1) = m + 1 := by omega
                  rw [HJ.out, ← HM.out, HDM.out, Lx.idx_cons, if_neg he, e]
                  omega)
                clear hget ha he hm hm1
                go_wp2_with fail
                go_roundw
                case rel => exact ⟨j + 1, by have := HM1.out; have := HM.out; rw [show i1 + (j + 1) = m1 by omega], by have := HM.out; omega, HID, Lib.hid (by first | trivial | rfl)⟩
                case measure => have := HM1.out; simp [intOf]; omega
            · have hmI : ¬ (m : Int) < (s.length : Int) := by omega
              have hme : ((m : Int) = (s.length : Int)) = True := eq_true (by omega)
              have hmeB : ((m : Int) == (s.length : Int)) = true := by simp [hme]
              have HBD := Lib.hid (Lx.lex_no HLN.out (HST.out.bad HDR.out HBL.out (by
                have e := HJ.out
                rw [← HM.out, List.drop_eq_nil_of_le (show s.length ≤ m by omega)] at e
                rw [← HI1.out, HTK.out, e, if_neg (by have := HM.out; simp [Lx.idx]; omega)])))
              clear hm
              go_wp2_with fail
              ((try simp only [Exit.inBlock, Exit.then]); refine bodyPost_ret (results_tmp2 rfl _ _ _) rfl ?_)
              exact ⟨.slice none 0 0, by rw [HBD.out.1]; rfl, by rw [HBD.out.2]; exact Lx.OwnT.nil _ _, HST.out.below⟩
        have n34 : c ≠ 34 := hc
        clear hc
        by_cases hc : c = 39
        · have k32 : ¬ (c.toNat : Int) = 32 := by rw [hc]; decide
          have k32b : ((c.toNat : Int) == 32) = false := by rw [hc]; rfl
          have k9 : ¬ (c.toNat : Int) = 9 := by rw [hc]; decide
          have k9b : ((c.toNat : Int) == 9) = false := by rw [hc]; rfl
          have k40 : ¬ (c.toNat : Int) = 40 := by rw [hc]; decide
          have k40b : ((c.toNat : Int) == 40) = false := by rw [hc]; rfl
          have k41 : ¬ (c.toNat : Int) = 41 := by rw [hc]; decide
          have k41b : ((c.toNat : Int) == 41) = false := by rw [hc]; rfl
          have k44 : ¬ (c.toNat : Int) = 44 := by rw [hc]; decide
          have k44b : ((c.toNat : Int) == 44) = false := by rw [hc]; rfl
          have k34 : ¬ (c.toNat : Int) = 34 := by rw [hc]; decide
          have k34b : ((c.toNat : Int) == 34) = false := by rw [hc]; rfl
          have k39 : ((c.toNat : Int) = 39) = True := by rw [hc]; simp
          have k39b : ((c.toNat : Int) == 39) = true := by rw [hc]; rfl
          have HBL : Hid (Lx.blank c = false) := Lib.hid (by rw [hc]; rfl)
          have HTK : Hid (Lx.token c (s.drop i1) = if Lx.idx c (s.drop i1) < (s.drop i1).length then some ((2, (s.drop i1).take (Lx.idx c (s.drop i1))), Lx.idx c (s.drop i1) + 1) else none) := Lib.hid (by
            unfold Lx.token
            rw [if_neg (by rw [hc]; decide), if_neg (by rw [hc]; decide), if_neg (by rw [hc]; decide), if_pos (.inr hc)])
          clear hc
          go_wp2_with fail
          go_loopw [8] (fun x wq => ∃ j : Nat, x = .int .i64 ((i1 + j : Nat) : Int) ∧ i1 + j ≤ s.length ∧ Hid (Lx.idx c (s.drop i1) = j + Lx.idx c (s.drop (i1 + j))) ∧ Hid (wr = wq)) (fun x _ => s.length - (intOf x).toNat)
          case atStart => exact ⟨0, rfl, hi1le, Lib.hid (by rw [Nat.zero_add]; rfl), Lib.hid rfl⟩
          case round =>
            obtain ⟨j, rfl, hj, HJ, HW⟩ := hrel
            obtain rfl := HW.out
            clear HW
            obtain ⟨m, hm⟩ : ∃ m, m = i1 + j := ⟨_, rfl⟩
            rw [← hm] at hj ⊢
            have HM := Lib.hid hm
            have hm0 : (0 : Int) ≤ (m : Int) := by omega
            by_cases hlm : m < s.length
            · obtain ⟨a, ha⟩ : ∃ a, s[m] = a := ⟨_, rfl⟩
              have hget : s[m]? = some a := by rw [List.getElem?_eq_getElem hlm, ha]
              obtain ⟨z1, g1⟩ := Lx.byte_at hget
              have hmI : (m : Int) < (s.length : Int) := by omega
              have HDM : Hid (s.drop m = a :: s.drop (m + 1)) := Lib.hid (by rw [List.drop_eq_getElem_cons hlm, ha])
              by_cases he : a = c
              · have heI : ((a.toNat : Int) = (c.toNat : Int)) = True := by rw [he]; simp
                have heB : ((a.toNat : Int) != (c.toNat : Int)) = false := by rw [he]; simp
                have hne : ¬ (m : Int) = (s.length : Int) := by omega
                have hneB : ((m : Int) == (s.length : Int)) = false := by simpa using hne
                have HID : Hid (Lx.idx c (s.drop i1) = j) := Lib.hid (by rw [HJ.out, ← HM.out, HDM.out, Lx.idx_cons, if_pos he]; rfl)
                obtain ⟨t, ht⟩ : ∃ t, t = (s.drop i1).take j := ⟨_, rfl⟩
                have HEX : (⟨s.toArray⟩ : ByteArray).extract i1 m = ⟨t.toArray⟩ := by rw [Lx.ext_mid s i1 m, ht, hm]; congr 2; congr 1; omega
                have HTK2 : Hid (Lx.token c (s.drop (i + 1)) = some ((2, t), j + 1)) := Lib.hid (by
                  rw [← HI1.out, HTK.out, HID.out, if_pos (by simp; omega), ht])
                have hle1 : (i1 : Int) ≤ (m : Int) := by omega
                have hle2 : (m : Int) ≤ (s.length : Int) := by omega
                obtain ⟨m1, hm1⟩ : ∃ m1 : Nat, m1 = m + 1 := ⟨_, rfl⟩
                have hwm : IntKind.i64.wrap ((m : Int) + 1) = (m1 : Int) := by rw [IntKind.wrap_i64]; omega
                have HM1 := Lib.hid hm1
                have hm1le : m1 ≤ s.length := by omega
                have HOA : Hid ((wr.alloc (.cells #[.int .i64 2, .string ⟨t.toArray⟩] 71)).ownsRow w.heap.size 71 2 (.slice A acc.length cp) acc.length (Lx.cellsT acc)) := Lib.hid (HST.out.own.alloc _)
                have HRD : Hid (Rd (wr.alloc (.cells #[.int .i64 2, .string ⟨t.toArray⟩] 71)) (fun b => b = wr.heap.size) (some ⟨wr.heap.size, 0, none⟩) [.int .i64 2, .string ⟨t.toArray⟩]) := Lib.hid (Rd.fresh wr [.int .i64 2, .string ⟨t.toArray⟩] 71 _ rfl)
                clear hget ha he hm ht hm1
                go_wp2_with (at_builtin; go_must (refine wpList_app _ rfl (.tmp 91) (.tmp 98) 44 rfl w.heap.size 71 i0 _ 2 24 Tryz.underlying44 HI.out HZ.out.1 HZ.out.2.1 HZ.out.2.2 rfl (by decide) (.slice A acc.length cp) acc.length (Lx.cellsT acc) (by simp [Act.eval]) HOA.out (fun b => b = wr.heap.size) (some ⟨wr.heap.size, 0, none⟩) 1 1 [.int .i64 2, .string ⟨t.toArray⟩] (by simp [Act.eval]) (by simp) HRD.out (by intro u hu; simp at hu; rcases hu with rfl | rfl <;> rfl) hlen (by omega) (by simp; omega) ?_; intro v2 w3 hown2 hg2 hat2 hnil2; have hO3 := Lx.OwnT.more rfl hown2; obtain ⟨A3, c3, rfl⟩ := hO3.form; have HB3 : Hid (Below w.heap.size w w3) := Lib.hid ((HST.out.below.alloc hsz _).grown hg2 (by simp; omega) (fun g e => (World.ownsRow.lt HOA.out g e).1)); have HO3 := Lib.hid hO3; clear hown2 hg2 hat2 hnil2 hO3; generalize (acc ++ [(2, t)]).length = m3 at *))
                go_roundw
                case rel =>
                  have h := HST.out.more HDR.out HBL.out HTK2.out HB3.out HO3.out
                  rw [show i + 1 + (j + 1) = m1 by have h1 := HM1.out; have h2 := HM.out; have h3 := HI1.out; omega] at h
                  exact ⟨m1, rfl, hm1le, Lib.hid ⟨acc ++ [(2, t)], h⟩⟩
                case measure => have := HI1.out; have := HM1.out; have := HM.out; simp [intOf]; omega
              · have heI : ¬ (a.toNat : Int) = (c.toNat : Int) := fun e => he (UInt8.toNat_inj.1 (by omega))
                have heB : ((a.toNat : Int) != (c.toNat : Int)) = true := by simpa using heI
                obtain ⟨m1, hm1⟩ : ∃ m1 : Nat, m1 = m + 1 := ⟨_, rfl⟩
                have hwm : IntKind.i64.wrap ((m : Int) + 1) = (m1 : Int) := by rw [IntKind.wrap_i64]; omega
                have HM1 := Lib.hid hm1
                have HID : Hid (Lx.idx c (s.drop i1) = (j + 1) + Lx.idx c (s.drop (i1 + (j + 1)))) := Lib.hid (by
                  have e : i1 + (j + 1) = m + 1 := by omega
                  rw [HJ.out, ← HM.out, HDM.out, Lx.idx_cons, if_neg he, e]
                  omega)
                clear hget ha he hm hm1
                go_wp2_with fail
                go_roundw
                case rel => exact ⟨j + 1, by have := HM1.out; have := HM.out; rw [show i1 + (j + 1) = m1 by omega], by have := HM.out; omega, HID, Lib.hid (by first | trivial | rfl)⟩
                case measure => have := HM1.out; simp [intOf]; omega
            · have hmI : ¬ (m : Int) < (s.length : Int) := by omega
              have hme : ((m : Int) = (s.length : Int)) = True := eq_true (by omega)
              have hmeB : ((m : Int) == (s.length : Int)) = true := by simp [hme]
              have HBD := Lib.hid (Lx.lex_no HLN.out (HST.out.bad HDR.out HBL.out (by
                have e := HJ.out
                rw [← HM.out, List.drop_eq_nil_of_le (show s.length ≤ m by omega)] at e
                rw [← HI1.out, HTK.out, e, if_neg (by have := HM.out; simp [Lx.idx]; omega)])))
              clear hm
              go_wp2_with fail
              ((try simp only [Exit.inBlock, Exit.then]); refine bodyPost_ret (results_tmp2 rfl _ _ _) rfl ?_)
              exact ⟨.slice none 0 0, by rw [HBD.out.1]; rfl, by rw [HBD.out.2]; exact Lx.OwnT.nil _ _, HST.out.below⟩
        have n39 : c ≠ 39 := hc
        clear hc
        have k32 : ¬ (c.toNat : Int) = 32 := fun e => n32 (UInt8.toNat_inj.1 (by show c.toNat = 32; omega))
        have k32b : ((c.toNat : Int) == 32) = false := by simpa using k32
        have k9 : ¬ (c.toNat : Int) = 9 := fun e => n9 (UInt8.toNat_inj.1 (by show c.toNat = 9; omega))
        have k9b : ((c.toNat : Int) == 9) = false := by simpa using k9
        have k40 : ¬ (c.toNat : Int) = 40 := fun e => n40 (UInt8.toNat_inj.1 (by show c.toNat = 40; omega))
        have k40b : ((c.toNat : Int) == 40) = false := by simpa using k40
        have k41 : ¬ (c.toNat : Int) = 41 := fun e => n41 (UInt8.toNat_inj.1 (by show c.toNat = 41; omega))
        have k41b : ((c.toNat : Int) == 41) = false := by simpa using k41
        have k44 : ¬ (c.toNat : Int) = 44 := fun e => n44 (UInt8.toNat_inj.1 (by show c.toNat = 44; omega))
        have k44b : ((c.toNat : Int) == 44) = false := by simpa using k44
        have k34 : ¬ (c.toNat : Int) = 34 := fun e => n34 (UInt8.toNat_inj.1 (by show c.toNat = 34; omega))
        have k34b : ((c.toNat : Int) == 34) = false := by simpa using k34
        have k39 : ¬ (c.toNat : Int) = 39 := fun e => n39 (UInt8.toNat_inj.1 (by show c.toNat = 39; omega))
        have k39b : ((c.toNat : Int) == 39) = false := by simpa using k39
        have HBL : Hid (Lx.blank c = false) := Lib.hid (by unfold Lx.blank; simp [n32, n9])
        have HTK : Hid (Lx.token c (s.drop (i + 1)) = match Lx.scan (s.drop i) 0 with
            | some (n + 1) => some ((1, (s.drop i).take (n + 1)), n)
            | _ => none) := Lib.hid (by
          unfold Lx.token
          rw [if_neg n40, if_neg n41, if_neg n44, if_neg (fun e => e.elim n34 n39), HDR.out]
          cases Lx.scan (c :: s.drop (i + 1)) 0 with
          | none => rfl
          | some n => cases n <;> rfl)
        have HWC := Lib.hid (lrefWord_any s i hi (by omega) wr)
        have HLE := Lib.hid fun n h => Lx.scan_le (s.drop i) 0 n h
        clear n32 n9 n40 n41 n44 n34 n39
        have hcase : (Lx.scan (s.drop i) 0 = none ∨ Lx.scan (s.drop i) 0 = some 0) ∨ ∃ n, Lx.scan (s.drop i) 0 = some (n + 1) := by
          cases Lx.scan (s.drop i) 0 with
          | none => exact .inl (.inl rfl)
          | some n =>
            cases n with
            | zero => exact .inl (.inr rfl)
            | succ n => exact .inr ⟨n, rfl⟩
        rcases hcase with hno | ⟨n, hyes⟩
        · have HWN : Hid (Calls Tryz.prog 33 #[.string ⟨s.toArray⟩, .int .i64 (i : Int)] wr fun e w' => e = .returned (.int .i64 (-1)) ∧ wr = w') := Lib.hid (by
            have h := HWC.out
            rcases hno with hno | hno <;> (rw [hno] at h; exact h))
          have HBD := Lib.hid (Lx.lex_no HLN.out (HST.out.bad HDR.out HBL.out (by rw [HTK.out]; rcases hno with hno | hno <;> rw [hno])))
          clear hno
          go_wp2_with (go_at_call 33; go_must (refine HWN.out.mono ?_; rintro e w2 ⟨rfl, rfl⟩))
          ((try simp only [Exit.inBlock, Exit.then]); refine bodyPost_ret (results_tmp2 rfl _ _ _) rfl ?_)
          exact ⟨.slice none 0 0, by rw [HBD.out.1]; rfl, by rw [HBD.out.2]; exact Lx.OwnT.nil _ _, HST.out.below⟩
        · obtain ⟨m, hm⟩ : ∃ m, m = i + (n + 1) := ⟨_, rfl⟩
          have hml : m ≤ s.length := by have := HLE.out _ hyes; simp at this; omega
          have HWN : Hid (Calls Tryz.prog 33 #[.string ⟨s.toArray⟩, .int .i64 (i : Int)] wr fun e w' => e = .returned (.int .i64 (m : Int)) ∧ wr = w') := Lib.hid (by
            have h := HWC.out
            rw [hyes] at h
            rw [hm]; exact h)
          obtain ⟨t, ht⟩ : ∃ t, t = (s.drop i).take (n + 1) := ⟨_, rfl⟩
          have HTK2 : Hid (Lx.token c (s.drop (i + 1)) = some ((1, t), n)) := Lib.hid (by rw [HTK.out, hyes, ht])
          have HEX : (⟨s.toArray⟩ : ByteArray).extract i m = ⟨t.toArray⟩ := by rw [Lx.ext_mid s i m, ht, hm]; congr 2; congr 1; omega
          have hle1 : (i : Int) ≤ (m : Int) := by omega
          have hle2 : (m : Int) ≤ (s.length : Int) := by omega
          have hm0 : (0 : Int) ≤ (m : Int) := by omega
          have HM := Lib.hid hm
          have HOA : Hid ((wr.alloc (.cells #[.int .i64 1, .string ⟨t.toArray⟩] 71)).ownsRow w.heap.size 71 2 (.slice A acc.length cp) acc.length (Lx.cellsT acc)) := Lib.hid (HST.out.own.alloc _)
          have HRD : Hid (Rd (wr.alloc (.cells #[.int .i64 1, .string ⟨t.toArray⟩] 71)) (fun b => b = wr.heap.size) (some ⟨wr.heap.size, 0, none⟩) [.int .i64 1, .string ⟨t.toArray⟩]) := Lib.hid (Rd.fresh wr [.int .i64 1, .string ⟨t.toArray⟩] 71 _ rfl)
          clear hyes ht hm
          go_wp2_with first
            | (go_at_call 33; go_must (refine HWN.out.mono ?_; rintro e w2 ⟨rfl, rfl⟩))
            | (at_builtin; go_must (refine wpList_app _ rfl (.tmp 25) (.tmp 31) 44 rfl w.heap.size 71 i0 _ 2 24 Tryz.underlying44 HI.out HZ.out.1 HZ.out.2.1 HZ.out.2.2 rfl (by decide) (.slice A acc.length cp) acc.length (Lx.cellsT acc) (by simp [Act.eval]) HOA.out (fun b => b = wr.heap.size) (some ⟨wr.heap.size, 0, none⟩) 1 1 [.int .i64 1, .string ⟨t.toArray⟩] (by simp [Act.eval]) (by simp) HRD.out (by intro u hu; simp at hu; rcases hu with rfl | rfl <;> rfl) hlen (by omega) (by simp; omega) ?_; intro v2 w3 hown2 hg2 hat2 hnil2; have hO3 := Lx.OwnT.more rfl hown2; obtain ⟨A3, c3, rfl⟩ := hO3.form; have HB3 : Hid (Below w.heap.size w w3) := Lib.hid ((HST.out.below.alloc hsz _).grown hg2 (by simp; omega) (fun g e => (World.ownsRow.lt HOA.out g e).1)); have HO3 := Lib.hid hO3; clear hown2 hg2 hat2 hnil2 hO3; generalize (acc ++ [(1, t)]).length = m3 at *))
          go_roundw
          case rel =>
            have h := HST.out.more HDR.out HBL.out HTK2.out HB3.out HO3.out
            rw [show i + 1 + n = m by have h2 := HM.out; omega] at h
            exact ⟨m, rfl, hml, Lib.hid ⟨acc ++ [(1, t)], h⟩⟩
          case measure => have := HM.out; simp [intOf]; omega
      · have hiI : ¬ (i : Int) < (s.length : Int) := by omega
        obtain rfl : i = s.length := by omega
        have HQ := Lib.hid (Lx.lex_yes HLN.out HST.out.done)
        go_wp2_with fail
        ((try simp only [Exit.inBlock, Exit.then]); refine bodyPost_ret (results_tmp2 rfl _ _ _) rfl ?_)
        exact ⟨.slice A acc.length cp, by rw [HQ.out.1]; rfl, by rw [HQ.out.2]; exact HST.out.own, HST.out.below⟩
end Go.Proofs.YtojmcndiooiehaaGreatDoor
