/-
  CHAPTER 11: RexClasses' law.
-/
import Derived.Test.YtajijcnfhijanaaRxLawD
import Derived.Test.YtajijcnfhijanaaRxRuns
import Derived.Test.YtajijcnfhijanaaOpB
namespace Go.Proofs.Ytajijcnfhijanaa
open Go.RowKit
open Me

namespace Rx
theorem toks_take (l : List UInt8) (k : Nat) (b : UInt8) (h : l[k]? = some b) : toks (l.take (k + 1)) = toks (l.take k) ++ tok b := by
  obtain ⟨h1, h2⟩ := List.getElem?_eq_some_iff.1 h
  unfold toks
  rw [List.take_succ_eq_append_getElem h1, List.flatMap_append, h2]
  simp
theorem any_take (l : List UInt8) (c : UInt8) (k : Nat) (b : UInt8) (h : l[k]? = some b) : ((l.take (k + 1)).any fun x => x == c) = ((l.take k).any (fun x => x == c) || b == c) := by
  obtain ⟨h1, h2⟩ := List.getElem?_eq_some_iff.1 h
  rw [List.take_succ_eq_append_getElem h1, List.any_append, h2]
  simp
theorem toks_len (l : List UInt8) : (toks l).length ≤ 2 * l.length := by
  induction l with
  | nil => simp [toks]
  | cons b r ih =>
    rw [toks_cons, List.length_append, List.length_cons]
    have : (tok b).length ≤ 2 := by unfold tok; split <;> simp
    omega
theorem told_any (l : List UInt8) (c : UInt8) : told none_ l c.toNat = l.any fun x => x == c := by
  rw [told_at]
  show (false || _) = _
  rw [Bool.false_or]
  congr 1
  funext b
  by_cases h : b = c
  · subst h; simp
  · rw [beq_eq_false_iff_ne.2 h, beq_eq_false_iff_ne.2 (fun e => h (UInt8.toNat_inj.1 e))]
theorem set_cell {W : World} {base : Nat} {A : Option Addr} {c : Nat} {L : List In} {x : In} (h : RdC W base (.slice A L.length c) L) (h4 : L.length = 4) (hx : L[1]? = some x) : ∃ q o, A = some ⟨q, o, none⟩ ∧ q < W.heap.size ∧ base ≤ q ∧ W.cell? ⟨q, o + 7, none⟩ = some (.string ⟨x.p.toArray⟩) := by
  obtain ⟨A2, c2, e, hr⟩ := h
  cases e
  obtain ⟨q, o, rfl, h1, h2, h3⟩ := hr.lit 0 (by rw [cellsI_len]; omega)
  exact ⟨q, o, rfl, h1, h2, h3 7 _ (cellsI_get L 1 x hx).2.2.2⟩
theorem one_str (W : World) (b : UInt8) : (convert 38 9 (.slice (some ⟨W.heap.size, 0, none⟩) 1 1)).run Try.prog (W.alloc (.cells #[.int .u8 (b.toNat : Int)] 5)) = .ok (.string ⟨[b].toArray⟩) (W.alloc (.cells #[.int .u8 (b.toNat : Int)] 5)) := by
  refine run_convert_bytes_back _ _ _ 5 ⟨W.heap.size, 0, none⟩ 1 [b] Try.underlying38 Try.underlying5 Try.underlying9 fun j hj => ?_
  obtain rfl : j = 0 := by simp at hj; omega
  simp [go_sem, Addr.add]
theorem two_str (W : World) (b : UInt8) : (convert 38 9 (.slice (some ⟨W.heap.size, 0, none⟩) 2 2)).run Try.prog (W.alloc (.cells #[.int .u8 92, .int .u8 (b.toNat : Int)] 5)) = .ok (.string ⟨[92, b].toArray⟩) (W.alloc (.cells #[.int .u8 92, .int .u8 (b.toNat : Int)] 5)) := by
  refine run_convert_bytes_back _ _ _ 5 ⟨W.heap.size, 0, none⟩ 2 [92, b] Try.underlying38 Try.underlying5 Try.underlying9 fun j hj => ?_
  have : j = 0 ∨ j = 1 := by simp at hj; omega
  rcases this with rfl | rfl <;> simp [go_sem, Addr.add]
end Rx

set_option maxRecDepth 100000 in
set_option maxHeartbeats 16000000 in
theorem lawClasses11 (l : List UInt8) (A : Option Addr) (cp : Nat) (c : UInt8) (w : World) (hr : Reads w (.slice A l.length cp) l) :
    Calls Try.prog 5 #[.slice A l.length cp, .int .u8 (c.toNat : Int)] w fun e w' => e = .returned (.bool true) ∧ Below w.heap.size w w' := by
  by_cases h0 : l.length < 1
  · have h0I : (l.length : Int) < 1 := by omega
    go_enter Try.func5, Try.ntmps5
    go_wp2_with fail
    go_ret
    exact ⟨rfl, Below.refl _ _⟩
  by_cases h20 : 20 < l.length
  · have h0I : ¬ (l.length : Int) < 1 := by omega
    have h20I : (20 : Int) < (l.length : Int) := by omega
    go_enter Try.func5, Try.ntmps5
    go_wp2_with fail
    go_ret
    exact ⟨rfl, Below.refl _ _⟩
  have h0I : ¬ (l.length : Int) < 1 := by omega
  have h20I : ¬ (20 : Int) < (l.length : Int) := by omega
  have hl0 : l ≠ [] := by rintro rfl; simp at h0
  obtain ⟨A2, cp2, e2, hcp, hrd⟩ := hr
  cases e2
  obtain ⟨g, o, rfl, hg, _, hcc⟩ := hrd.lit 0 (by rw [by8_len]; omega)
  have HCC : Hid (∀ k b, l[k]? = some b → w.cell? ⟨g, o + k, none⟩ = some (.int .u8 (b.toNat : Int))) := Lib.hid fun k b h => hcc k _ (by unfold by8; rw [List.getElem?_map, h]; rfl)
  have HK := Lib.hid fun W => known11_any W
  have HB1 := Lib.hid (Rx.comp_bracket (Rx.bracket_toks l hl0) (by have := Rx.toks_len l; simp; omega))
  have HB2 := Lib.hid (Rx.comp_bracket (Rx.bracket_roof l hl0) (by have := Rx.toks_len l; simp; omega))
  have HH1 : Hid (∀ W, Calls Try.prog 7 #[.string ⟨(Rx.pairs (Rx.told Rx.none_ l)).toArray⟩, .int .u8 (c.toNat : Int)] W fun e w' => e = .returned (.bool (l.any fun x => x == c)) ∧ W = w') := Lib.hid fun W => by
    have := has_any (Rx.pairs (Rx.told Rx.none_ l)) c W
    rw [Rx.has_pairs, Rx.told_any] at this
    exact this
  have HH2 : Hid (∀ W, Calls Try.prog 7 #[.string ⟨(Rx.pairs (Rx.inv (Rx.told Rx.none_ l))).toArray⟩, .int .u8 (c.toNat : Int)] W fun e w' => e = .returned (.bool (!(l.any fun x => x == c))) ∧ W = w') := Lib.hid fun W => by
    have := has_any (Rx.pairs (Rx.inv (Rx.told Rx.none_ l))) c W
    rw [Rx.has_pairs] at this
    rw [show Rx.inv (Rx.told Rx.none_ l) c.toNat = !(l.any fun x => x == c) by unfold Rx.inv; rw [Rx.told_any]] at this
    exact this
  generalize Rx.pairs (Rx.told Rx.none_ l) = P1 at *
  generalize Rx.pairs (Rx.inv (Rx.told Rx.none_ l)) = P2 at *
  have HCo := Lib.hid fun s W => compile_any s W
  clear hcc hrd h0 h20 hl0
  go_enter Try.func5, Try.ntmps5
  go_wp2_with fail
  go_loopw [5, 6, 7, 8] (fun s t i _ wr => ∃ k : Nat, s = .string ⟨(Rx.toks (l.take k)).toArray⟩ ∧ t = .bool ((l.take k).any fun x => x == c) ∧ i = .int .i64 k ∧ k ≤ l.length ∧ Hid (Below w.heap.size w wr)) (fun _ _ i _ _ => l.length - (intOf i).toNat)
  case atStart => exact ⟨0, rfl, rfl, rfl, Nat.zero_le _, Lib.hid (Below.refl _ _)⟩
  case round =>
    obtain ⟨k, rfl, rfl, rfl, hk, HW⟩ := hrel
    have hwz := HW.out.size
    by_cases hgo : k < l.length
    · have hkI : (k : Int) < (l.length : Int) := by omega
      have hk0 : (0 : Int) ≤ (k : Int) := by omega
      obtain ⟨b, Hb⟩ : ∃ b, Hid (l[k]? = some b) := ⟨l[k], Lib.hid (List.getElem?_eq_getElem hgo)⟩
      have hc := (HW.out.cell (p := ⟨g, o + k, none⟩) hg).trans (HCC.out k b Hb.out)
      obtain ⟨S2, HS2⟩ : ∃ S2, Hid (S2 = Rx.toks (l.take (k + 1))) := ⟨_, Lib.hid rfl⟩
      obtain ⟨t2, Ht2⟩ : ∃ t2, Hid (t2 = (l.take (k + 1)).any fun x => x == c) := ⟨_, Lib.hid rfl⟩
      have HT := Lib.hid (HS2.out.trans (Rx.toks_take l k b Hb.out))
      have HA := Lib.hid (Ht2.out.trans (Rx.any_take l c k b Hb.out))
      have hL : ((Rx.toks (l.take k)).length : Int) ≤ 40 := by have := Rx.toks_len (l.take k); rw [List.length_take] at this; omega
      have hSs : (⟨(Rx.toks (l.take k)).toArray⟩ : ByteArray).size = (Rx.toks (l.take k)).length := by show (Rx.toks (l.take k)).toArray.size = _; simp
      have k1 := Rx.one_str wr b
      have k2 := Rx.two_str wr b
      have HW7 := Rx.word7 b
      have HTk : Hid (Rx.tok b = if Rx.wordB b = true then [b] else [92, b]) := Lib.hid rfl
      generalize Rx.toks (l.take k) = S at *
      generalize ((l.take k).any fun x => x == c) = t1 at *
      by_cases hbc : b = c
      · subst hbc
        have HA2 : Hid (t2 = true) := Lib.hid (by rw [HA.out]; simp)
        clear HA
        cases t1
        · rcases HW7 with ⟨h, hw⟩ | ⟨⟨h, h2⟩, hw⟩ | ⟨⟨h, h2⟩, hw⟩ | ⟨⟨h, h2⟩, hw⟩ | ⟨⟨h, h2⟩, hw⟩ | ⟨⟨h, h2⟩, hw⟩ | ⟨h, hw⟩
          · have HC2 : Hid ((⟨S.toArray⟩ : ByteArray) ++ ⟨[92, b].toArray⟩ = ⟨S2.toArray⟩) := Lib.hid (by rw [Rx.cat, HT.out, HTk.out, hw]; rfl)
            have j0 : ¬ (97 : Int) ≤ (b.toNat : Int) := by omega
            have j1 : ¬ (65 : Int) ≤ (b.toNat : Int) := by omega
            have j2 : ¬ (48 : Int) ≤ (b.toNat : Int) := by omega
            clear hw HT HTk
            go_wp2_with fail
            go_roundw
            case rel => exact ⟨k + 1, by rw [← HS2.out]; exact congrArg Value.string HC2.out, by rw [← Ht2.out, HA2.out]; try rw [beq_eq_false_iff_ne.2 hbcI], by go_num, by omega, Lib.hid (HW.out.alloc hwz _)⟩
            case measure => simp [intOf]; omega
          · have HC2 : Hid ((⟨S.toArray⟩ : ByteArray) ++ ⟨[b].toArray⟩ = ⟨S2.toArray⟩) := Lib.hid (by rw [Rx.cat, HT.out, HTk.out, hw]; rfl)
            have j0 : ¬ (97 : Int) ≤ (b.toNat : Int) := by omega
            have j1 : ¬ (65 : Int) ≤ (b.toNat : Int) := by omega
            have j2 : (48 : Int) ≤ (b.toNat : Int) := by omega
            have j3 : (b.toNat : Int) ≤ (57 : Int) := by omega
            clear hw HT HTk
            go_wp2_with fail
            go_roundw
            case rel => exact ⟨k + 1, by rw [← HS2.out]; exact congrArg Value.string HC2.out, by rw [← Ht2.out, HA2.out]; try rw [beq_eq_false_iff_ne.2 hbcI], by go_num, by omega, Lib.hid (HW.out.alloc hwz _)⟩
            case measure => simp [intOf]; omega
          · have HC2 : Hid ((⟨S.toArray⟩ : ByteArray) ++ ⟨[92, b].toArray⟩ = ⟨S2.toArray⟩) := Lib.hid (by rw [Rx.cat, HT.out, HTk.out, hw]; rfl)
            have j0 : ¬ (97 : Int) ≤ (b.toNat : Int) := by omega
            have j1 : ¬ (65 : Int) ≤ (b.toNat : Int) := by omega
            have j2 : (48 : Int) ≤ (b.toNat : Int) := by omega
            have j3 : ¬ (b.toNat : Int) ≤ (57 : Int) := by omega
            clear hw HT HTk
            go_wp2_with fail
            go_roundw
            case rel => exact ⟨k + 1, by rw [← HS2.out]; exact congrArg Value.string HC2.out, by rw [← Ht2.out, HA2.out]; try rw [beq_eq_false_iff_ne.2 hbcI], by go_num, by omega, Lib.hid (HW.out.alloc hwz _)⟩
            case measure => simp [intOf]; omega
          · have HC2 : Hid ((⟨S.toArray⟩ : ByteArray) ++ ⟨[b].toArray⟩ = ⟨S2.toArray⟩) := Lib.hid (by rw [Rx.cat, HT.out, HTk.out, hw]; rfl)
            have j0 : ¬ (97 : Int) ≤ (b.toNat : Int) := by omega
            have j1 : (65 : Int) ≤ (b.toNat : Int) := by omega
            have j2 : (b.toNat : Int) ≤ (90 : Int) := by omega
            clear hw HT HTk
            go_wp2_with fail
            go_roundw
            case rel => exact ⟨k + 1, by rw [← HS2.out]; exact congrArg Value.string HC2.out, by rw [← Ht2.out, HA2.out]; try rw [beq_eq_false_iff_ne.2 hbcI], by go_num, by omega, Lib.hid (HW.out.alloc hwz _)⟩
            case measure => simp [intOf]; omega
          · have HC2 : Hid ((⟨S.toArray⟩ : ByteArray) ++ ⟨[92, b].toArray⟩ = ⟨S2.toArray⟩) := Lib.hid (by rw [Rx.cat, HT.out, HTk.out, hw]; rfl)
            have j0 : ¬ (97 : Int) ≤ (b.toNat : Int) := by omega
            have j1 : (65 : Int) ≤ (b.toNat : Int) := by omega
            have j2 : ¬ (b.toNat : Int) ≤ (90 : Int) := by omega
            have j3 : (48 : Int) ≤ (b.toNat : Int) := by omega
            have j4 : ¬ (b.toNat : Int) ≤ (57 : Int) := by omega
            clear hw HT HTk
            go_wp2_with fail
            go_roundw
            case rel => exact ⟨k + 1, by rw [← HS2.out]; exact congrArg Value.string HC2.out, by rw [← Ht2.out, HA2.out]; try rw [beq_eq_false_iff_ne.2 hbcI], by go_num, by omega, Lib.hid (HW.out.alloc hwz _)⟩
            case measure => simp [intOf]; omega
          · have HC2 : Hid ((⟨S.toArray⟩ : ByteArray) ++ ⟨[b].toArray⟩ = ⟨S2.toArray⟩) := Lib.hid (by rw [Rx.cat, HT.out, HTk.out, hw]; rfl)
            have j0 : (97 : Int) ≤ (b.toNat : Int) := by omega
            have j1 : (b.toNat : Int) ≤ (122 : Int) := by omega
            clear hw HT HTk
            go_wp2_with fail
            go_roundw
            case rel => exact ⟨k + 1, by rw [← HS2.out]; exact congrArg Value.string HC2.out, by rw [← Ht2.out, HA2.out]; try rw [beq_eq_false_iff_ne.2 hbcI], by go_num, by omega, Lib.hid (HW.out.alloc hwz _)⟩
            case measure => simp [intOf]; omega
          · have HC2 : Hid ((⟨S.toArray⟩ : ByteArray) ++ ⟨[92, b].toArray⟩ = ⟨S2.toArray⟩) := Lib.hid (by rw [Rx.cat, HT.out, HTk.out, hw]; rfl)
            have j0 : (97 : Int) ≤ (b.toNat : Int) := by omega
            have j1 : ¬ (b.toNat : Int) ≤ (122 : Int) := by omega
            have j2 : (65 : Int) ≤ (b.toNat : Int) := by omega
            have j3 : ¬ (b.toNat : Int) ≤ (90 : Int) := by omega
            have j4 : (48 : Int) ≤ (b.toNat : Int) := by omega
            have j5 : ¬ (b.toNat : Int) ≤ (57 : Int) := by omega
            clear hw HT HTk
            go_wp2_with fail
            go_roundw
            case rel => exact ⟨k + 1, by rw [← HS2.out]; exact congrArg Value.string HC2.out, by rw [← Ht2.out, HA2.out]; try rw [beq_eq_false_iff_ne.2 hbcI], by go_num, by omega, Lib.hid (HW.out.alloc hwz _)⟩
            case measure => simp [intOf]; omega
        · rcases HW7 with ⟨h, hw⟩ | ⟨⟨h, h2⟩, hw⟩ | ⟨⟨h, h2⟩, hw⟩ | ⟨⟨h, h2⟩, hw⟩ | ⟨⟨h, h2⟩, hw⟩ | ⟨⟨h, h2⟩, hw⟩ | ⟨h, hw⟩
          · have HC2 : Hid ((⟨S.toArray⟩ : ByteArray) ++ ⟨[92, b].toArray⟩ = ⟨S2.toArray⟩) := Lib.hid (by rw [Rx.cat, HT.out, HTk.out, hw]; rfl)
            have j0 : ¬ (97 : Int) ≤ (b.toNat : Int) := by omega
            have j1 : ¬ (65 : Int) ≤ (b.toNat : Int) := by omega
            have j2 : ¬ (48 : Int) ≤ (b.toNat : Int) := by omega
            clear hw HT HTk
            go_wp2_with fail
            go_roundw
            case rel => exact ⟨k + 1, by rw [← HS2.out]; exact congrArg Value.string HC2.out, by rw [← Ht2.out, HA2.out]; try rw [beq_eq_false_iff_ne.2 hbcI], by go_num, by omega, Lib.hid (HW.out.alloc hwz _)⟩
            case measure => simp [intOf]; omega
          · have HC2 : Hid ((⟨S.toArray⟩ : ByteArray) ++ ⟨[b].toArray⟩ = ⟨S2.toArray⟩) := Lib.hid (by rw [Rx.cat, HT.out, HTk.out, hw]; rfl)
            have j0 : ¬ (97 : Int) ≤ (b.toNat : Int) := by omega
            have j1 : ¬ (65 : Int) ≤ (b.toNat : Int) := by omega
            have j2 : (48 : Int) ≤ (b.toNat : Int) := by omega
            have j3 : (b.toNat : Int) ≤ (57 : Int) := by omega
            clear hw HT HTk
            go_wp2_with fail
            go_roundw
            case rel => exact ⟨k + 1, by rw [← HS2.out]; exact congrArg Value.string HC2.out, by rw [← Ht2.out, HA2.out]; try rw [beq_eq_false_iff_ne.2 hbcI], by go_num, by omega, Lib.hid (HW.out.alloc hwz _)⟩
            case measure => simp [intOf]; omega
          · have HC2 : Hid ((⟨S.toArray⟩ : ByteArray) ++ ⟨[92, b].toArray⟩ = ⟨S2.toArray⟩) := Lib.hid (by rw [Rx.cat, HT.out, HTk.out, hw]; rfl)
            have j0 : ¬ (97 : Int) ≤ (b.toNat : Int) := by omega
            have j1 : ¬ (65 : Int) ≤ (b.toNat : Int) := by omega
            have j2 : (48 : Int) ≤ (b.toNat : Int) := by omega
            have j3 : ¬ (b.toNat : Int) ≤ (57 : Int) := by omega
            clear hw HT HTk
            go_wp2_with fail
            go_roundw
            case rel => exact ⟨k + 1, by rw [← HS2.out]; exact congrArg Value.string HC2.out, by rw [← Ht2.out, HA2.out]; try rw [beq_eq_false_iff_ne.2 hbcI], by go_num, by omega, Lib.hid (HW.out.alloc hwz _)⟩
            case measure => simp [intOf]; omega
          · have HC2 : Hid ((⟨S.toArray⟩ : ByteArray) ++ ⟨[b].toArray⟩ = ⟨S2.toArray⟩) := Lib.hid (by rw [Rx.cat, HT.out, HTk.out, hw]; rfl)
            have j0 : ¬ (97 : Int) ≤ (b.toNat : Int) := by omega
            have j1 : (65 : Int) ≤ (b.toNat : Int) := by omega
            have j2 : (b.toNat : Int) ≤ (90 : Int) := by omega
            clear hw HT HTk
            go_wp2_with fail
            go_roundw
            case rel => exact ⟨k + 1, by rw [← HS2.out]; exact congrArg Value.string HC2.out, by rw [← Ht2.out, HA2.out]; try rw [beq_eq_false_iff_ne.2 hbcI], by go_num, by omega, Lib.hid (HW.out.alloc hwz _)⟩
            case measure => simp [intOf]; omega
          · have HC2 : Hid ((⟨S.toArray⟩ : ByteArray) ++ ⟨[92, b].toArray⟩ = ⟨S2.toArray⟩) := Lib.hid (by rw [Rx.cat, HT.out, HTk.out, hw]; rfl)
            have j0 : ¬ (97 : Int) ≤ (b.toNat : Int) := by omega
            have j1 : (65 : Int) ≤ (b.toNat : Int) := by omega
            have j2 : ¬ (b.toNat : Int) ≤ (90 : Int) := by omega
            have j3 : (48 : Int) ≤ (b.toNat : Int) := by omega
            have j4 : ¬ (b.toNat : Int) ≤ (57 : Int) := by omega
            clear hw HT HTk
            go_wp2_with fail
            go_roundw
            case rel => exact ⟨k + 1, by rw [← HS2.out]; exact congrArg Value.string HC2.out, by rw [← Ht2.out, HA2.out]; try rw [beq_eq_false_iff_ne.2 hbcI], by go_num, by omega, Lib.hid (HW.out.alloc hwz _)⟩
            case measure => simp [intOf]; omega
          · have HC2 : Hid ((⟨S.toArray⟩ : ByteArray) ++ ⟨[b].toArray⟩ = ⟨S2.toArray⟩) := Lib.hid (by rw [Rx.cat, HT.out, HTk.out, hw]; rfl)
            have j0 : (97 : Int) ≤ (b.toNat : Int) := by omega
            have j1 : (b.toNat : Int) ≤ (122 : Int) := by omega
            clear hw HT HTk
            go_wp2_with fail
            go_roundw
            case rel => exact ⟨k + 1, by rw [← HS2.out]; exact congrArg Value.string HC2.out, by rw [← Ht2.out, HA2.out]; try rw [beq_eq_false_iff_ne.2 hbcI], by go_num, by omega, Lib.hid (HW.out.alloc hwz _)⟩
            case measure => simp [intOf]; omega
          · have HC2 : Hid ((⟨S.toArray⟩ : ByteArray) ++ ⟨[92, b].toArray⟩ = ⟨S2.toArray⟩) := Lib.hid (by rw [Rx.cat, HT.out, HTk.out, hw]; rfl)
            have j0 : (97 : Int) ≤ (b.toNat : Int) := by omega
            have j1 : ¬ (b.toNat : Int) ≤ (122 : Int) := by omega
            have j2 : (65 : Int) ≤ (b.toNat : Int) := by omega
            have j3 : ¬ (b.toNat : Int) ≤ (90 : Int) := by omega
            have j4 : (48 : Int) ≤ (b.toNat : Int) := by omega
            have j5 : ¬ (b.toNat : Int) ≤ (57 : Int) := by omega
            clear hw HT HTk
            go_wp2_with fail
            go_roundw
            case rel => exact ⟨k + 1, by rw [← HS2.out]; exact congrArg Value.string HC2.out, by rw [← Ht2.out, HA2.out]; try rw [beq_eq_false_iff_ne.2 hbcI], by go_num, by omega, Lib.hid (HW.out.alloc hwz _)⟩
            case measure => simp [intOf]; omega
      · have hbcI : ¬ (b.toNat : Int) = (c.toNat : Int) := fun e => hbc (UInt8.toNat_inj.1 (by omega))
        have HA2 : Hid (t2 = t1) := Lib.hid (by rw [HA.out, beq_eq_false_iff_ne.2 hbc, Bool.or_false])
        clear HA hbc
        cases t1
        · rcases HW7 with ⟨h, hw⟩ | ⟨⟨h, h2⟩, hw⟩ | ⟨⟨h, h2⟩, hw⟩ | ⟨⟨h, h2⟩, hw⟩ | ⟨⟨h, h2⟩, hw⟩ | ⟨⟨h, h2⟩, hw⟩ | ⟨h, hw⟩
          · have HC2 : Hid ((⟨S.toArray⟩ : ByteArray) ++ ⟨[92, b].toArray⟩ = ⟨S2.toArray⟩) := Lib.hid (by rw [Rx.cat, HT.out, HTk.out, hw]; rfl)
            have j0 : ¬ (97 : Int) ≤ (b.toNat : Int) := by omega
            have j1 : ¬ (65 : Int) ≤ (b.toNat : Int) := by omega
            have j2 : ¬ (48 : Int) ≤ (b.toNat : Int) := by omega
            clear hw HT HTk
            go_wp2_with fail
            go_roundw
            case rel => exact ⟨k + 1, by rw [← HS2.out]; exact congrArg Value.string HC2.out, by rw [← Ht2.out, HA2.out]; try rw [beq_eq_false_iff_ne.2 hbcI], by go_num, by omega, Lib.hid (HW.out.alloc hwz _)⟩
            case measure => simp [intOf]; omega
          · have HC2 : Hid ((⟨S.toArray⟩ : ByteArray) ++ ⟨[b].toArray⟩ = ⟨S2.toArray⟩) := Lib.hid (by rw [Rx.cat, HT.out, HTk.out, hw]; rfl)
            have j0 : ¬ (97 : Int) ≤ (b.toNat : Int) := by omega
            have j1 : ¬ (65 : Int) ≤ (b.toNat : Int) := by omega
            have j2 : (48 : Int) ≤ (b.toNat : Int) := by omega
            have j3 : (b.toNat : Int) ≤ (57 : Int) := by omega
            clear hw HT HTk
            go_wp2_with fail
            go_roundw
            case rel => exact ⟨k + 1, by rw [← HS2.out]; exact congrArg Value.string HC2.out, by rw [← Ht2.out, HA2.out]; try rw [beq_eq_false_iff_ne.2 hbcI], by go_num, by omega, Lib.hid (HW.out.alloc hwz _)⟩
            case measure => simp [intOf]; omega
          · have HC2 : Hid ((⟨S.toArray⟩ : ByteArray) ++ ⟨[92, b].toArray⟩ = ⟨S2.toArray⟩) := Lib.hid (by rw [Rx.cat, HT.out, HTk.out, hw]; rfl)
            have j0 : ¬ (97 : Int) ≤ (b.toNat : Int) := by omega
            have j1 : ¬ (65 : Int) ≤ (b.toNat : Int) := by omega
            have j2 : (48 : Int) ≤ (b.toNat : Int) := by omega
            have j3 : ¬ (b.toNat : Int) ≤ (57 : Int) := by omega
            clear hw HT HTk
            go_wp2_with fail
            go_roundw
            case rel => exact ⟨k + 1, by rw [← HS2.out]; exact congrArg Value.string HC2.out, by rw [← Ht2.out, HA2.out]; try rw [beq_eq_false_iff_ne.2 hbcI], by go_num, by omega, Lib.hid (HW.out.alloc hwz _)⟩
            case measure => simp [intOf]; omega
          · have HC2 : Hid ((⟨S.toArray⟩ : ByteArray) ++ ⟨[b].toArray⟩ = ⟨S2.toArray⟩) := Lib.hid (by rw [Rx.cat, HT.out, HTk.out, hw]; rfl)
            have j0 : ¬ (97 : Int) ≤ (b.toNat : Int) := by omega
            have j1 : (65 : Int) ≤ (b.toNat : Int) := by omega
            have j2 : (b.toNat : Int) ≤ (90 : Int) := by omega
            clear hw HT HTk
            go_wp2_with fail
            go_roundw
            case rel => exact ⟨k + 1, by rw [← HS2.out]; exact congrArg Value.string HC2.out, by rw [← Ht2.out, HA2.out]; try rw [beq_eq_false_iff_ne.2 hbcI], by go_num, by omega, Lib.hid (HW.out.alloc hwz _)⟩
            case measure => simp [intOf]; omega
          · have HC2 : Hid ((⟨S.toArray⟩ : ByteArray) ++ ⟨[92, b].toArray⟩ = ⟨S2.toArray⟩) := Lib.hid (by rw [Rx.cat, HT.out, HTk.out, hw]; rfl)
            have j0 : ¬ (97 : Int) ≤ (b.toNat : Int) := by omega
            have j1 : (65 : Int) ≤ (b.toNat : Int) := by omega
            have j2 : ¬ (b.toNat : Int) ≤ (90 : Int) := by omega
            have j3 : (48 : Int) ≤ (b.toNat : Int) := by omega
            have j4 : ¬ (b.toNat : Int) ≤ (57 : Int) := by omega
            clear hw HT HTk
            go_wp2_with fail
            go_roundw
            case rel => exact ⟨k + 1, by rw [← HS2.out]; exact congrArg Value.string HC2.out, by rw [← Ht2.out, HA2.out]; try rw [beq_eq_false_iff_ne.2 hbcI], by go_num, by omega, Lib.hid (HW.out.alloc hwz _)⟩
            case measure => simp [intOf]; omega
          · have HC2 : Hid ((⟨S.toArray⟩ : ByteArray) ++ ⟨[b].toArray⟩ = ⟨S2.toArray⟩) := Lib.hid (by rw [Rx.cat, HT.out, HTk.out, hw]; rfl)
            have j0 : (97 : Int) ≤ (b.toNat : Int) := by omega
            have j1 : (b.toNat : Int) ≤ (122 : Int) := by omega
            clear hw HT HTk
            go_wp2_with fail
            go_roundw
            case rel => exact ⟨k + 1, by rw [← HS2.out]; exact congrArg Value.string HC2.out, by rw [← Ht2.out, HA2.out]; try rw [beq_eq_false_iff_ne.2 hbcI], by go_num, by omega, Lib.hid (HW.out.alloc hwz _)⟩
            case measure => simp [intOf]; omega
          · have HC2 : Hid ((⟨S.toArray⟩ : ByteArray) ++ ⟨[92, b].toArray⟩ = ⟨S2.toArray⟩) := Lib.hid (by rw [Rx.cat, HT.out, HTk.out, hw]; rfl)
            have j0 : (97 : Int) ≤ (b.toNat : Int) := by omega
            have j1 : ¬ (b.toNat : Int) ≤ (122 : Int) := by omega
            have j2 : (65 : Int) ≤ (b.toNat : Int) := by omega
            have j3 : ¬ (b.toNat : Int) ≤ (90 : Int) := by omega
            have j4 : (48 : Int) ≤ (b.toNat : Int) := by omega
            have j5 : ¬ (b.toNat : Int) ≤ (57 : Int) := by omega
            clear hw HT HTk
            go_wp2_with fail
            go_roundw
            case rel => exact ⟨k + 1, by rw [← HS2.out]; exact congrArg Value.string HC2.out, by rw [← Ht2.out, HA2.out]; try rw [beq_eq_false_iff_ne.2 hbcI], by go_num, by omega, Lib.hid (HW.out.alloc hwz _)⟩
            case measure => simp [intOf]; omega
        · rcases HW7 with ⟨h, hw⟩ | ⟨⟨h, h2⟩, hw⟩ | ⟨⟨h, h2⟩, hw⟩ | ⟨⟨h, h2⟩, hw⟩ | ⟨⟨h, h2⟩, hw⟩ | ⟨⟨h, h2⟩, hw⟩ | ⟨h, hw⟩
          · have HC2 : Hid ((⟨S.toArray⟩ : ByteArray) ++ ⟨[92, b].toArray⟩ = ⟨S2.toArray⟩) := Lib.hid (by rw [Rx.cat, HT.out, HTk.out, hw]; rfl)
            have j0 : ¬ (97 : Int) ≤ (b.toNat : Int) := by omega
            have j1 : ¬ (65 : Int) ≤ (b.toNat : Int) := by omega
            have j2 : ¬ (48 : Int) ≤ (b.toNat : Int) := by omega
            clear hw HT HTk
            go_wp2_with fail
            go_roundw
            case rel => exact ⟨k + 1, by rw [← HS2.out]; exact congrArg Value.string HC2.out, by rw [← Ht2.out, HA2.out]; try rw [beq_eq_false_iff_ne.2 hbcI], by go_num, by omega, Lib.hid (HW.out.alloc hwz _)⟩
            case measure => simp [intOf]; omega
          · have HC2 : Hid ((⟨S.toArray⟩ : ByteArray) ++ ⟨[b].toArray⟩ = ⟨S2.toArray⟩) := Lib.hid (by rw [Rx.cat, HT.out, HTk.out, hw]; rfl)
            have j0 : ¬ (97 : Int) ≤ (b.toNat : Int) := by omega
            have j1 : ¬ (65 : Int) ≤ (b.toNat : Int) := by omega
            have j2 : (48 : Int) ≤ (b.toNat : Int) := by omega
            have j3 : (b.toNat : Int) ≤ (57 : Int) := by omega
            clear hw HT HTk
            go_wp2_with fail
            go_roundw
            case rel => exact ⟨k + 1, by rw [← HS2.out]; exact congrArg Value.string HC2.out, by rw [← Ht2.out, HA2.out]; try rw [beq_eq_false_iff_ne.2 hbcI], by go_num, by omega, Lib.hid (HW.out.alloc hwz _)⟩
            case measure => simp [intOf]; omega
          · have HC2 : Hid ((⟨S.toArray⟩ : ByteArray) ++ ⟨[92, b].toArray⟩ = ⟨S2.toArray⟩) := Lib.hid (by rw [Rx.cat, HT.out, HTk.out, hw]; rfl)
            have j0 : ¬ (97 : Int) ≤ (b.toNat : Int) := by omega
            have j1 : ¬ (65 : Int) ≤ (b.toNat : Int) := by omega
            have j2 : (48 : Int) ≤ (b.toNat : Int) := by omega
            have j3 : ¬ (b.toNat : Int) ≤ (57 : Int) := by omega
            clear hw HT HTk
            go_wp2_with fail
            go_roundw
            case rel => exact ⟨k + 1, by rw [← HS2.out]; exact congrArg Value.string HC2.out, by rw [← Ht2.out, HA2.out]; try rw [beq_eq_false_iff_ne.2 hbcI], by go_num, by omega, Lib.hid (HW.out.alloc hwz _)⟩
            case measure => simp [intOf]; omega
          · have HC2 : Hid ((⟨S.toArray⟩ : ByteArray) ++ ⟨[b].toArray⟩ = ⟨S2.toArray⟩) := Lib.hid (by rw [Rx.cat, HT.out, HTk.out, hw]; rfl)
            have j0 : ¬ (97 : Int) ≤ (b.toNat : Int) := by omega
            have j1 : (65 : Int) ≤ (b.toNat : Int) := by omega
            have j2 : (b.toNat : Int) ≤ (90 : Int) := by omega
            clear hw HT HTk
            go_wp2_with fail
            go_roundw
            case rel => exact ⟨k + 1, by rw [← HS2.out]; exact congrArg Value.string HC2.out, by rw [← Ht2.out, HA2.out]; try rw [beq_eq_false_iff_ne.2 hbcI], by go_num, by omega, Lib.hid (HW.out.alloc hwz _)⟩
            case measure => simp [intOf]; omega
          · have HC2 : Hid ((⟨S.toArray⟩ : ByteArray) ++ ⟨[92, b].toArray⟩ = ⟨S2.toArray⟩) := Lib.hid (by rw [Rx.cat, HT.out, HTk.out, hw]; rfl)
            have j0 : ¬ (97 : Int) ≤ (b.toNat : Int) := by omega
            have j1 : (65 : Int) ≤ (b.toNat : Int) := by omega
            have j2 : ¬ (b.toNat : Int) ≤ (90 : Int) := by omega
            have j3 : (48 : Int) ≤ (b.toNat : Int) := by omega
            have j4 : ¬ (b.toNat : Int) ≤ (57 : Int) := by omega
            clear hw HT HTk
            go_wp2_with fail
            go_roundw
            case rel => exact ⟨k + 1, by rw [← HS2.out]; exact congrArg Value.string HC2.out, by rw [← Ht2.out, HA2.out]; try rw [beq_eq_false_iff_ne.2 hbcI], by go_num, by omega, Lib.hid (HW.out.alloc hwz _)⟩
            case measure => simp [intOf]; omega
          · have HC2 : Hid ((⟨S.toArray⟩ : ByteArray) ++ ⟨[b].toArray⟩ = ⟨S2.toArray⟩) := Lib.hid (by rw [Rx.cat, HT.out, HTk.out, hw]; rfl)
            have j0 : (97 : Int) ≤ (b.toNat : Int) := by omega
            have j1 : (b.toNat : Int) ≤ (122 : Int) := by omega
            clear hw HT HTk
            go_wp2_with fail
            go_roundw
            case rel => exact ⟨k + 1, by rw [← HS2.out]; exact congrArg Value.string HC2.out, by rw [← Ht2.out, HA2.out]; try rw [beq_eq_false_iff_ne.2 hbcI], by go_num, by omega, Lib.hid (HW.out.alloc hwz _)⟩
            case measure => simp [intOf]; omega
          · have HC2 : Hid ((⟨S.toArray⟩ : ByteArray) ++ ⟨[92, b].toArray⟩ = ⟨S2.toArray⟩) := Lib.hid (by rw [Rx.cat, HT.out, HTk.out, hw]; rfl)
            have j0 : (97 : Int) ≤ (b.toNat : Int) := by omega
            have j1 : ¬ (b.toNat : Int) ≤ (122 : Int) := by omega
            have j2 : (65 : Int) ≤ (b.toNat : Int) := by omega
            have j3 : ¬ (b.toNat : Int) ≤ (90 : Int) := by omega
            have j4 : (48 : Int) ≤ (b.toNat : Int) := by omega
            have j5 : ¬ (b.toNat : Int) ≤ (57 : Int) := by omega
            clear hw HT HTk
            go_wp2_with fail
            go_roundw
            case rel => exact ⟨k + 1, by rw [← HS2.out]; exact congrArg Value.string HC2.out, by rw [← Ht2.out, HA2.out]; try rw [beq_eq_false_iff_ne.2 hbcI], by go_num, by omega, Lib.hid (HW.out.alloc hwz _)⟩
            case measure => simp [intOf]; omega
    · obtain rfl : k = l.length := by omega
      have htk : l.take l.length = l := List.take_length
      rw [htk]
      obtain ⟨L1, hL1, hl1, hx1⟩ := HB1.out
      obtain ⟨L2, hL2, hl2, hx2⟩ := HB2.out
      have hTl := Rx.toks_len l
      have hc1 : (⟨#[91]⟩ : ByteArray) ++ ⟨(Rx.toks l).toArray⟩ ++ ⟨#[93]⟩ = ⟨(91 :: (Rx.toks l ++ [93])).toArray⟩ := by
        exact (congrArg (· ++ (⟨[93].toArray⟩ : ByteArray)) (Rx.cat [91] (Rx.toks l))).trans (Rx.cat _ _)
      have hc2 : (⟨#[91, 94]⟩ : ByteArray) ++ ⟨(Rx.toks l).toArray⟩ ++ ⟨#[93]⟩ = ⟨(91 :: 94 :: (Rx.toks l ++ [93])).toArray⟩ := by
        exact (congrArg (· ++ (⟨[93].toArray⟩ : ByteArray)) (Rx.cat [91, 94] (Rx.toks l))).trans (Rx.cat _ _)
      have C1 : Hid (∀ W, Calls Try.prog 10 #[.string ((⟨#[91]⟩ : ByteArray) ++ ⟨(Rx.toks l).toArray⟩ ++ ⟨#[93]⟩)] W (Rx.GaveP W (.ok (L1, 0)))) := Lib.hid fun W => by
        have := HCo.out (91 :: (Rx.toks l ++ [93])) W
        rw [hL1] at this
        rw [hc1]
        exact this
      have C2 : Hid (∀ W, Calls Try.prog 10 #[.string ((⟨#[91, 94]⟩ : ByteArray) ++ ⟨(Rx.toks l).toArray⟩ ++ ⟨#[93]⟩)] W (Rx.GaveP W (.ok (L2, 0)))) := Lib.hid fun W => by
        have := HCo.out (91 :: 94 :: (Rx.toks l ++ [93])) W
        rw [hL2] at this
        rw [hc2]
        exact this
      have HX1 := Lib.hid (And.intro hl1 hx1)
      have HX2 := Lib.hid (And.intro hl2 hx2)
      have hS9 : ((Rx.toks l).length : Int) ≤ 40 := by omega
      have hSs : (⟨(Rx.toks l).toArray⟩ : ByteArray).size = (Rx.toks l).length := by show (Rx.toks l).toArray.size = _; simp
      clear hc1 hc2 hL1 hL2 hx1 hx2 htk hTl hl1 hl2
      generalize Rx.toks l = S at *
      generalize (l.any fun x => x == c) = ib at *
      cases ib
      · go_wp2_with first
          | (go_at_call 10; ((with_reducible refine (C1.out _).mono ?_); rintro e w1 hq; obtain ⟨A1, p1, rfl, hr1, hb1⟩ := hq.got; obtain ⟨q1, o1, rfl, hq1, hw1, hv1⟩ := Rx.set_cell hr1 HX1.out.1 HX1.out.2; have HBa := Lib.hid hb1; have hza := hb1.size; have HV1 := Lib.hid hv1; rw [HX1.out.1]; clear hr1 hb1 hq hv1))
          | (go_at_call 10; ((with_reducible refine (C2.out _).mono ?_); rintro e w2 hq; obtain ⟨A2, p2, rfl, hr2, hb2⟩ := hq.got; obtain ⟨q2, o2, rfl, hq2, hw2, hv2⟩ := Rx.set_cell hr2 HX2.out.1 HX2.out.2; have HBb := Lib.hid hb2; have hzb := hb2.size; have hzb' : w1.heap.size < w2.heap.size := (by simp at hzb <;> omega); have v1 : w2.cell? ⟨q1, o1 + 4 + 3, none⟩ = some (.string ⟨P1.toArray⟩) := (hb2.cell (p := ⟨q1, o1 + 7, none⟩) (by simp <;> omega)).trans ((Below.refl w1.heap.size w1).alloc (Nat.le_refl _) _ |>.cell (p := ⟨q1, o1 + 7, none⟩) hq1 |>.trans HV1.out); have v2 : w2.cell? ⟨q2, o2 + 4 + 3, none⟩ = some (.string ⟨P2.toArray⟩) := hv2; have hq1' : q1 < w2.heap.size := Nat.lt_trans hq1 hzb'; have b0 : w2.cell? ⟨w1.heap.size, 0, none⟩ = some (.int .i64 0) := (hb2.cell (p := ⟨w1.heap.size, 0, none⟩) (by simp)).trans (by simp [go_sem]); have b1 : w2.cell? ⟨w1.heap.size, 1, none⟩ = some (.slice (some ⟨q1, o1, none⟩) 4 p1) := (hb2.cell (p := ⟨w1.heap.size, 1, none⟩) (by simp)).trans (by simp [go_sem]); rw [HX2.out.1]; clear hr2 hb2 hq hv2))
          | (go_at_call 7; ((with_reducible refine (HH1.out _).mono ?_); rintro e w3 ⟨rfl, rfl⟩))
          | (go_at_call 7; ((with_reducible refine (HH2.out _).mono ?_); rintro e w3 ⟨rfl, rfl⟩))
          | (go_at_call 9; go_must (refine (HK.out _).mono ?_; rintro e w4 ⟨rfl, hb4⟩; have HB4 := Lib.hid hb4; clear hb4))
        go_ret
        have hz1 : w.heap.size ≤ w1.heap.size := Nat.le_trans hwz hza
        have hz2 : w.heap.size ≤ w2.heap.size := Nat.le_of_lt (Nat.lt_of_le_of_lt hz1 hzb')
        exact ⟨rfl, ((((HW.out.trans (HBa.out.mono hwz)).alloc hz1 _).trans (HBb.out.mono (by simp <;> omega))).alloc hz2 _).trans (HB4.out.mono (by simp <;> omega))⟩
      · go_wp2_with first
          | (go_at_call 10; ((with_reducible refine (C1.out _).mono ?_); rintro e w1 hq; obtain ⟨A1, p1, rfl, hr1, hb1⟩ := hq.got; obtain ⟨q1, o1, rfl, hq1, hw1, hv1⟩ := Rx.set_cell hr1 HX1.out.1 HX1.out.2; have HBa := Lib.hid hb1; have hza := hb1.size; have HV1 := Lib.hid hv1; rw [HX1.out.1]; clear hr1 hb1 hq hv1))
          | (go_at_call 10; ((with_reducible refine (C2.out _).mono ?_); rintro e w2 hq; obtain ⟨A2, p2, rfl, hr2, hb2⟩ := hq.got; obtain ⟨q2, o2, rfl, hq2, hw2, hv2⟩ := Rx.set_cell hr2 HX2.out.1 HX2.out.2; have HBb := Lib.hid hb2; have hzb := hb2.size; have hzb' : w1.heap.size < w2.heap.size := (by simp at hzb <;> omega); have v1 : w2.cell? ⟨q1, o1 + 4 + 3, none⟩ = some (.string ⟨P1.toArray⟩) := (hb2.cell (p := ⟨q1, o1 + 7, none⟩) (by simp <;> omega)).trans ((Below.refl w1.heap.size w1).alloc (Nat.le_refl _) _ |>.cell (p := ⟨q1, o1 + 7, none⟩) hq1 |>.trans HV1.out); have v2 : w2.cell? ⟨q2, o2 + 4 + 3, none⟩ = some (.string ⟨P2.toArray⟩) := hv2; have hq1' : q1 < w2.heap.size := Nat.lt_trans hq1 hzb'; have b0 : w2.cell? ⟨w1.heap.size, 0, none⟩ = some (.int .i64 0) := (hb2.cell (p := ⟨w1.heap.size, 0, none⟩) (by simp)).trans (by simp [go_sem]); have b1 : w2.cell? ⟨w1.heap.size, 1, none⟩ = some (.slice (some ⟨q1, o1, none⟩) 4 p1) := (hb2.cell (p := ⟨w1.heap.size, 1, none⟩) (by simp)).trans (by simp [go_sem]); rw [HX2.out.1]; clear hr2 hb2 hq hv2))
          | (go_at_call 7; ((with_reducible refine (HH1.out _).mono ?_); rintro e w3 ⟨rfl, rfl⟩))
          | (go_at_call 7; ((with_reducible refine (HH2.out _).mono ?_); rintro e w3 ⟨rfl, rfl⟩))
          | (go_at_call 9; go_must (refine (HK.out _).mono ?_; rintro e w4 ⟨rfl, hb4⟩; have HB4 := Lib.hid hb4; clear hb4))
        go_ret
        have hz1 : w.heap.size ≤ w1.heap.size := Nat.le_trans hwz hza
        have hz2 : w.heap.size ≤ w2.heap.size := Nat.le_of_lt (Nat.lt_of_le_of_lt hz1 hzb')
        exact ⟨rfl, ((((HW.out.trans (HBa.out.mono hwz)).alloc hz1 _).trans (HBb.out.mono (by simp <;> omega))).alloc hz2 _).trans (HB4.out.mono (by simp <;> omega))⟩
end Go.Proofs.Ytajijcnfhijanaa
