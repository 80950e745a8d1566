/-
  RcPairs: CONTRACTS: chapter 12, the document's Compile: special, word, the runs of a set.
-/
import Derived.Test.YtelbabgkpflckaaJ8
import Derived.Test.YtelbabgkpflckaaJ9
import Derived.Test.YtelbabgkpflckaaJ10

set_option linter.unusedSimpArgs false
set_option linter.unusedVariables false
namespace Go.Proofs.Ytelbabgkpflckaa
open Go.RowKit
open Me

set_option maxRecDepth 100000 in
set_option maxHeartbeats 4000000 in
theorem refPairs_any {w : World} {s : Rx.St} :
    Calls Try.prog 71 #[.agg (Rx.cel s)] w fun e w' => e = .returned (.string ⟨(Rx.pairs s).toArray⟩) ∧ Below w.heap.size w w' := by
  obtain ⟨i0, hi0, hz0, hz1, hz2⟩ := info_parts byteinfo
  have HI := Lib.hid hi0
  have HZ := Lib.hid (And.intro hz0 (And.intro hz1 hz2))
  clear hi0 hz0 hz1 hz2
  obtain ⟨X, hX⟩ : ∃ X, X = Rx.cel s := ⟨_, rfl⟩
  rw [← hX]
  obtain ⟨w0, hw0⟩ : ∃ w0, w0 = w.alloc (.cells X 125) := ⟨_, rfl⟩
  obtain ⟨b, hb⟩ : ∃ b, b = w.heap.size := ⟨_, rfl⟩
  have HR : Hid (RowAt w0 b 125 (Rx.cel s)) := Lib.hid (by rw [hw0, hb, ← hX]; exact RowAt.new _ _ _)
  have HW0 : Hid (Below w.heap.size w w0) := Lib.hid (by rw [hw0]; exact (Below.refl _ _).alloc (Nat.le_refl _) _)
  have hbl := HR.out.lt
  have hsX : X.size = 256 := by rw [hX]; exact Rx.cel_size _
  have HB0 := Lib.hid hb
  clear hX
  go_enter Try.func71, Try.ntmps71
  go_wp2_with fail
  rw [← hw0, ← hb]
  clear hw0 hb
  go_loopw [3, 4] (fun v c wr => ∃ (k : Nat) (L : List UInt8) (A : Option Addr) (cp : Nat), c = .int .i64 k ∧ k ≤ 256 ∧ v = .slice A L.length cp ∧ L.length ≤ 2 * k ∧ Hid (L = Rx.pairsTo s k) ∧ Hid (OwnB w0.heap.size wr (.slice A L.length cp) L) ∧ Hid (Below w0.heap.size w0 wr)) (fun _ c _ => 256 - (intOf c).toNat)
  case atStart => exact ⟨0, [], none, 0, rfl, by omega, rfl, by simp, Lib.hid rfl, Lib.hid (OwnB.nil _ _), Lib.hid (Below.refl _ _)⟩
  case round =>
    obtain ⟨k, L, A, cp, rfl, hk, rfl, hL, HL, HO, HB⟩ := hrel
    have hws := HB.out.size
    by_cases hgo : k < 256
    · have hkI : (k : Int) < 256 := by omega
      have hk0 : (0 : Int) ≤ (k : Int) := by omega
      have hc : wr.cell? ⟨b, k, none⟩ = some (.bool (s k)) := ((HR.out.below HB.out hbl).cell k).trans (Rx.cel_at _ k hgo)
      have HS : Hid (Rx.pairsTo s (k + 1) = L ++ Rx.pairAt s k) := Lib.hid (by rw [Rx.pairsTo_step, HL.out])
      have hu8 : IntKind.u8.wrap (k : Int) = (k : Int) := by rw [IntKind.wrap_u8]; omega
      cases hsk : s k
      · rw [hsk] at hc
        have HN : Hid (L = Rx.pairsTo s (k + 1)) := Lib.hid (by rw [HS.out]; unfold Rx.pairAt; rw [hsk]; simp)
        clear hsk HS HL
        go_wp2_with fail
        go_roundw
        case rel => exact ⟨k + 1, L, A, cp, by go_num, by omega, rfl, by omega, HN, HO, HB⟩
        case measure => simp [intOf]; omega
      rw [hsk] at hc
      clear HL
      have HSK := Lib.hid hsk
      by_cases h0 : k = 0
      · subst h0
        have hwn : IntKind.i64.wrap ((0 : Int) + 1) = ((1 : Nat) : Int) := by decide
        cases hsn : s (0 + 1)
        ·
          have HP : Hid (Rx.pairAt s 0 = ([UInt8.ofNat 0] ++ [UInt8.ofNat 0])) := Lib.hid ((Rx.pairAt_is hsk true true (by simp) (by rw [hsn]; simp)).trans (by simp))
          have hcn : wr.cell? ⟨b, 0 + 1, none⟩ = some (.bool (s (0 + 1))) := ((HR.out.below HB.out hbl).cell (0 + 1)).trans (Rx.cel_at _ (0 + 1) (by omega))
          rw [hsn] at hcn
          have HSN := Lib.hid hsn
          clear hsk hsn
          go_wp2_with first
            | (at_builtin; (refine wpList_app _ rfl (.tmp 23) (.tmp 26) 69 rfl w0.heap.size 5 i0 (.int .u8 0) 1 1 Try.underlying69 HI.out HZ.out.1 HZ.out.2.1 HZ.out.2.2 rfl (by decide) (.slice A L.length cp) L.length (by8 L) rfl (HO.out.below ((Below.refl _ _).alloc (Nat.le_refl _) _)) (fun b => b = wr.heap.size) (some ⟨wr.heap.size, 0, none⟩) 1 1 [.int .u8 (0 : Int)] rfl rfl (Rd.fresh _ _ _ _ rfl) (by intro u hu; simp at hu; subst hu; rfl) (by unfold maxLen; omega) (by omega) (by simp; omega) ?_; intro v2 w2 hown2 hg2 hat2 hnil2; have HB2 : Hid (Below w0.heap.size w0 w2) := Lib.hid ((HB.out.alloc hws _).grown hg2 (by simp; omega) (fun g e => (own_lt HO.out g e).1)); have hws2 := HB2.out.size; have HO2 := Lib.hid (Rx.own_push (k := 0) (by omega) hown2); clear hown2 hg2 hat2 hnil2; obtain ⟨LL2, hLL2, hlen2⟩ : ∃ LL, LL = L ++ [UInt8.ofNat 0] ∧ LL.length ≤ L.length + 1 := ⟨_, rfl, by simp⟩; rw [← hLL2] at HO2; obtain ⟨A2, c2, rfl, _, _⟩ := Reads.own HO2.out; have HLL2 := Lib.hid hLL2; clear hLL2; have hck2 : w2.cell? ⟨b, 0, none⟩ = some (.bool true) := ((HR.out.below HB2.out hbl).cell 0).trans ((Rx.cel_at _ 0 (by omega)).trans (by rw [HSK.out]))); have hcn2 : w2.cell? ⟨b, 0 + 1, none⟩ = some (.bool (s (0 + 1))) := ((HR.out.below HB2.out hbl).cell (0 + 1)).trans (Rx.cel_at _ (0 + 1) (by omega)); rw [HSN.out] at hcn2)
            | (at_builtin; (refine wpList_app _ rfl (.tmp 42) (.tmp 45) 69 rfl w0.heap.size 5 i0 (.int .u8 0) 1 1 Try.underlying69 HI.out HZ.out.1 HZ.out.2.1 HZ.out.2.2 rfl (by decide) (.slice A2 LL2.length c2) LL2.length (by8 LL2) rfl (HO2.out.below ((Below.refl _ _).alloc (Nat.le_refl _) _)) (fun b => b = w2.heap.size) (some ⟨w2.heap.size, 0, none⟩) 1 1 [.int .u8 (0 : Int)] rfl rfl (Rd.fresh _ _ _ _ rfl) (by intro u hu; simp at hu; subst hu; rfl) (by unfold maxLen; omega) (by omega) (by simp; omega) ?_; intro v3 w3 hown3 hg3 hat3 hnil3; have HB3 : Hid (Below w0.heap.size w0 w3) := Lib.hid ((HB2.out.alloc hws2 _).grown hg3 (by simp; omega) (fun g e => (own_lt HO2.out g e).1)); have hws3 := HB3.out.size; have HO3 := Lib.hid (Rx.own_push (k := 0) (by omega) hown3); clear hown3 hg3 hat3 hnil3; obtain ⟨LL3, hLL3, hlen3⟩ : ∃ LL, LL = LL2 ++ [UInt8.ofNat 0] ∧ LL.length ≤ LL2.length + 1 := ⟨_, rfl, by simp⟩; rw [← hLL3] at HO3; obtain ⟨A3, c3, rfl, _, _⟩ := Reads.own HO3.out; have HLL3 := Lib.hid hLL3; clear hLL3))
          go_roundw
          case rel => exact ⟨1, LL3, A3, c3, by go_num, by omega, rfl, by omega, Lib.hid (by rw [HS.out, HP.out, HLL3.out, HLL2.out]; simp), HO3, HB3⟩
          case measure => simp [intOf]
        ·
          have HP : Hid (Rx.pairAt s 0 = [UInt8.ofNat 0]) := Lib.hid ((Rx.pairAt_is hsk true false (by simp) (by rw [hsn]; simp)).trans (by simp))
          have hcn : wr.cell? ⟨b, 0 + 1, none⟩ = some (.bool (s (0 + 1))) := ((HR.out.below HB.out hbl).cell (0 + 1)).trans (Rx.cel_at _ (0 + 1) (by omega))
          rw [hsn] at hcn
          have HSN := Lib.hid hsn
          clear hsk hsn
          go_wp2_with first
            | (at_builtin; (refine wpList_app _ rfl (.tmp 23) (.tmp 26) 69 rfl w0.heap.size 5 i0 (.int .u8 0) 1 1 Try.underlying69 HI.out HZ.out.1 HZ.out.2.1 HZ.out.2.2 rfl (by decide) (.slice A L.length cp) L.length (by8 L) rfl (HO.out.below ((Below.refl _ _).alloc (Nat.le_refl _) _)) (fun b => b = wr.heap.size) (some ⟨wr.heap.size, 0, none⟩) 1 1 [.int .u8 (0 : Int)] rfl rfl (Rd.fresh _ _ _ _ rfl) (by intro u hu; simp at hu; subst hu; rfl) (by unfold maxLen; omega) (by omega) (by simp; omega) ?_; intro v2 w2 hown2 hg2 hat2 hnil2; have HB2 : Hid (Below w0.heap.size w0 w2) := Lib.hid ((HB.out.alloc hws _).grown hg2 (by simp; omega) (fun g e => (own_lt HO.out g e).1)); have hws2 := HB2.out.size; have HO2 := Lib.hid (Rx.own_push (k := 0) (by omega) hown2); clear hown2 hg2 hat2 hnil2; obtain ⟨LL2, hLL2, hlen2⟩ : ∃ LL, LL = L ++ [UInt8.ofNat 0] ∧ LL.length ≤ L.length + 1 := ⟨_, rfl, by simp⟩; rw [← hLL2] at HO2; obtain ⟨A2, c2, rfl, _, _⟩ := Reads.own HO2.out; have HLL2 := Lib.hid hLL2; clear hLL2; have hck2 : w2.cell? ⟨b, 0, none⟩ = some (.bool true) := ((HR.out.below HB2.out hbl).cell 0).trans ((Rx.cel_at _ 0 (by omega)).trans (by rw [HSK.out]))); have hcn2 : w2.cell? ⟨b, 0 + 1, none⟩ = some (.bool (s (0 + 1))) := ((HR.out.below HB2.out hbl).cell (0 + 1)).trans (Rx.cel_at _ (0 + 1) (by omega)); rw [HSN.out] at hcn2)
          go_roundw
          case rel => exact ⟨1, LL2, A2, c2, by go_num, by omega, rfl, by omega, Lib.hid (by rw [HS.out, HP.out, HLL2.out]), HO2, HB2⟩
          case measure => simp [intOf]
      obtain ⟨j, hj⟩ : ∃ j : Nat, k = j + 1 := ⟨k - 1, by omega⟩
      have hwr : IntKind.i64.wrap ((k : Int) - 1) = (j : Int) := by rw [IntKind.wrap_i64]; omega
      have hj0 : (0 : Int) ≤ (j : Int) := by omega
      have hj256 : (j : Int) < 256 := by omega
      have hk1 : ¬ (k : Int) = 0 := by omega
      have hcp : wr.cell? ⟨b, j, none⟩ = some (.bool (s j)) := ((HR.out.below HB.out hbl).cell j).trans (Rx.cel_at _ j (by omega))
      have hkj : k - 1 = j := by omega
      cases hsp : s j
      · rw [hsp] at hcp
        by_cases h255 : k = 255
        · have h255i : ((k : Int) == 255) = true := by rw [h255]; rfl
          have h255d : decide ((k : Int) = 255) = true := decide_eq_true (by omega)
          have hk255 : k = 255 := h255
          have HK255 := Lib.hid hk255
          have HP : Hid (Rx.pairAt s k = ([UInt8.ofNat k] ++ [UInt8.ofNat k])) := Lib.hid ((Rx.pairAt_is hsk true true (by rw [hkj, hsp]; simp) (by simp [hk255])).trans (by simp))
          clear hsk h255 hk255 hsp hj hkj
          go_wp2_with first
            | (at_builtin; (refine wpList_app _ rfl (.tmp 23) (.tmp 26) 69 rfl w0.heap.size 5 i0 (.int .u8 0) 1 1 Try.underlying69 HI.out HZ.out.1 HZ.out.2.1 HZ.out.2.2 rfl (by decide) (.slice A L.length cp) L.length (by8 L) rfl (HO.out.below ((Below.refl _ _).alloc (Nat.le_refl _) _)) (fun b => b = wr.heap.size) (some ⟨wr.heap.size, 0, none⟩) 1 1 [.int .u8 (k : Int)] rfl rfl (Rd.fresh _ _ _ _ rfl) (by intro u hu; simp at hu; subst hu; rfl) (by unfold maxLen; omega) (by omega) (by simp; omega) ?_; intro v2 w2 hown2 hg2 hat2 hnil2; have HB2 : Hid (Below w0.heap.size w0 w2) := Lib.hid ((HB.out.alloc hws _).grown hg2 (by simp; omega) (fun g e => (own_lt HO.out g e).1)); have hws2 := HB2.out.size; have HO2 := Lib.hid (Rx.own_push hgo hown2); clear hown2 hg2 hat2 hnil2; obtain ⟨LL2, hLL2, hlen2⟩ : ∃ LL, LL = L ++ [UInt8.ofNat k] ∧ LL.length ≤ L.length + 1 := ⟨_, rfl, by simp⟩; rw [← hLL2] at HO2; obtain ⟨A2, c2, rfl, _, _⟩ := Reads.own HO2.out; have HLL2 := Lib.hid hLL2; clear hLL2; have hck2 : w2.cell? ⟨b, k, none⟩ = some (.bool true) := ((HR.out.below HB2.out hbl).cell k).trans ((Rx.cel_at _ k (by omega)).trans (by rw [HSK.out]))))
            | (at_builtin; (refine wpList_app _ rfl (.tmp 42) (.tmp 45) 69 rfl w0.heap.size 5 i0 (.int .u8 0) 1 1 Try.underlying69 HI.out HZ.out.1 HZ.out.2.1 HZ.out.2.2 rfl (by decide) (.slice A2 LL2.length c2) LL2.length (by8 LL2) rfl (HO2.out.below ((Below.refl _ _).alloc (Nat.le_refl _) _)) (fun b => b = w2.heap.size) (some ⟨w2.heap.size, 0, none⟩) 1 1 [.int .u8 (k : Int)] rfl rfl (Rd.fresh _ _ _ _ rfl) (by intro u hu; simp at hu; subst hu; rfl) (by unfold maxLen; omega) (by omega) (by simp; omega) ?_; intro v3 w3 hown3 hg3 hat3 hnil3; have HB3 : Hid (Below w0.heap.size w0 w3) := Lib.hid ((HB2.out.alloc hws2 _).grown hg3 (by simp; omega) (fun g e => (own_lt HO2.out g e).1)); have hws3 := HB3.out.size; have HO3 := Lib.hid (Rx.own_push hgo hown3); clear hown3 hg3 hat3 hnil3; obtain ⟨LL3, hLL3, hlen3⟩ : ∃ LL, LL = LL2 ++ [UInt8.ofNat k] ∧ LL.length ≤ LL2.length + 1 := ⟨_, rfl, by simp⟩; rw [← hLL3] at HO3; obtain ⟨A3, c3, rfl, _, _⟩ := Reads.own HO3.out; have HLL3 := Lib.hid hLL3; clear hLL3))
          go_roundw
          case rel => exact ⟨k + 1, LL3, A3, c3, by go_num, by omega, rfl, by omega, Lib.hid (by rw [HS.out, HP.out, HLL3.out, HLL2.out]; simp), HO3, HB3⟩
          case measure => simp [intOf]; omega
        have hwn : IntKind.i64.wrap ((k : Int) + 1) = ((k + 1 : Nat) : Int) := by rw [IntKind.wrap_i64]; omega
        have hn255 : ¬ (k : Int) = 255 := by omega
        have hn256 : ((k + 1 : Nat) : Int) < 256 := by omega
        cases hsn : s (k + 1)
        ·
          have HP : Hid (Rx.pairAt s k = ([UInt8.ofNat k] ++ [UInt8.ofNat k])) := Lib.hid ((Rx.pairAt_is hsk true true (by rw [hkj, hsp]; simp) (by rw [hsn]; simp)).trans (by simp))
          have hcn : wr.cell? ⟨b, k + 1, none⟩ = some (.bool (s (k + 1))) := ((HR.out.below HB.out hbl).cell (k + 1)).trans (Rx.cel_at _ (k + 1) (by omega))
          rw [hsn] at hcn
          have HSN := Lib.hid hsn
          clear hsk hsn hsp hj hkj
          go_wp2_with first
            | (at_builtin; (refine wpList_app _ rfl (.tmp 23) (.tmp 26) 69 rfl w0.heap.size 5 i0 (.int .u8 0) 1 1 Try.underlying69 HI.out HZ.out.1 HZ.out.2.1 HZ.out.2.2 rfl (by decide) (.slice A L.length cp) L.length (by8 L) rfl (HO.out.below ((Below.refl _ _).alloc (Nat.le_refl _) _)) (fun b => b = wr.heap.size) (some ⟨wr.heap.size, 0, none⟩) 1 1 [.int .u8 (k : Int)] rfl rfl (Rd.fresh _ _ _ _ rfl) (by intro u hu; simp at hu; subst hu; rfl) (by unfold maxLen; omega) (by omega) (by simp; omega) ?_; intro v2 w2 hown2 hg2 hat2 hnil2; have HB2 : Hid (Below w0.heap.size w0 w2) := Lib.hid ((HB.out.alloc hws _).grown hg2 (by simp; omega) (fun g e => (own_lt HO.out g e).1)); have hws2 := HB2.out.size; have HO2 := Lib.hid (Rx.own_push hgo hown2); clear hown2 hg2 hat2 hnil2; obtain ⟨LL2, hLL2, hlen2⟩ : ∃ LL, LL = L ++ [UInt8.ofNat k] ∧ LL.length ≤ L.length + 1 := ⟨_, rfl, by simp⟩; rw [← hLL2] at HO2; obtain ⟨A2, c2, rfl, _, _⟩ := Reads.own HO2.out; have HLL2 := Lib.hid hLL2; clear hLL2; have hck2 : w2.cell? ⟨b, k, none⟩ = some (.bool true) := ((HR.out.below HB2.out hbl).cell k).trans ((Rx.cel_at _ k (by omega)).trans (by rw [HSK.out]))); have hcn2 : w2.cell? ⟨b, k + 1, none⟩ = some (.bool (s (k + 1))) := ((HR.out.below HB2.out hbl).cell (k + 1)).trans (Rx.cel_at _ (k + 1) (by omega)); rw [HSN.out] at hcn2)
            | (at_builtin; (refine wpList_app _ rfl (.tmp 42) (.tmp 45) 69 rfl w0.heap.size 5 i0 (.int .u8 0) 1 1 Try.underlying69 HI.out HZ.out.1 HZ.out.2.1 HZ.out.2.2 rfl (by decide) (.slice A2 LL2.length c2) LL2.length (by8 LL2) rfl (HO2.out.below ((Below.refl _ _).alloc (Nat.le_refl _) _)) (fun b => b = w2.heap.size) (some ⟨w2.heap.size, 0, none⟩) 1 1 [.int .u8 (k : Int)] rfl rfl (Rd.fresh _ _ _ _ rfl) (by intro u hu; simp at hu; subst hu; rfl) (by unfold maxLen; omega) (by omega) (by simp; omega) ?_; intro v3 w3 hown3 hg3 hat3 hnil3; have HB3 : Hid (Below w0.heap.size w0 w3) := Lib.hid ((HB2.out.alloc hws2 _).grown hg3 (by simp; omega) (fun g e => (own_lt HO2.out g e).1)); have hws3 := HB3.out.size; have HO3 := Lib.hid (Rx.own_push hgo hown3); clear hown3 hg3 hat3 hnil3; obtain ⟨LL3, hLL3, hlen3⟩ : ∃ LL, LL = LL2 ++ [UInt8.ofNat k] ∧ LL.length ≤ LL2.length + 1 := ⟨_, rfl, by simp⟩; rw [← hLL3] at HO3; obtain ⟨A3, c3, rfl, _, _⟩ := Reads.own HO3.out; have HLL3 := Lib.hid hLL3; clear hLL3))
          go_roundw
          case rel => exact ⟨k + 1, LL3, A3, c3, by go_num, by omega, rfl, by omega, Lib.hid (by rw [HS.out, HP.out, HLL3.out, HLL2.out]; simp), HO3, HB3⟩
          case measure => simp [intOf]; omega
        ·
          have HP : Hid (Rx.pairAt s k = [UInt8.ofNat k]) := Lib.hid ((Rx.pairAt_is hsk true false (by rw [hkj, hsp]; simp) (by rw [hsn]; simp; omega)).trans (by simp))
          have hcn : wr.cell? ⟨b, k + 1, none⟩ = some (.bool (s (k + 1))) := ((HR.out.below HB.out hbl).cell (k + 1)).trans (Rx.cel_at _ (k + 1) (by omega))
          rw [hsn] at hcn
          have HSN := Lib.hid hsn
          clear hsk hsn hsp hj hkj
          go_wp2_with first
            | (at_builtin; (refine wpList_app _ rfl (.tmp 23) (.tmp 26) 69 rfl w0.heap.size 5 i0 (.int .u8 0) 1 1 Try.underlying69 HI.out HZ.out.1 HZ.out.2.1 HZ.out.2.2 rfl (by decide) (.slice A L.length cp) L.length (by8 L) rfl (HO.out.below ((Below.refl _ _).alloc (Nat.le_refl _) _)) (fun b => b = wr.heap.size) (some ⟨wr.heap.size, 0, none⟩) 1 1 [.int .u8 (k : Int)] rfl rfl (Rd.fresh _ _ _ _ rfl) (by intro u hu; simp at hu; subst hu; rfl) (by unfold maxLen; omega) (by omega) (by simp; omega) ?_; intro v2 w2 hown2 hg2 hat2 hnil2; have HB2 : Hid (Below w0.heap.size w0 w2) := Lib.hid ((HB.out.alloc hws _).grown hg2 (by simp; omega) (fun g e => (own_lt HO.out g e).1)); have hws2 := HB2.out.size; have HO2 := Lib.hid (Rx.own_push hgo hown2); clear hown2 hg2 hat2 hnil2; obtain ⟨LL2, hLL2, hlen2⟩ : ∃ LL, LL = L ++ [UInt8.ofNat k] ∧ LL.length ≤ L.length + 1 := ⟨_, rfl, by simp⟩; rw [← hLL2] at HO2; obtain ⟨A2, c2, rfl, _, _⟩ := Reads.own HO2.out; have HLL2 := Lib.hid hLL2; clear hLL2; have hck2 : w2.cell? ⟨b, k, none⟩ = some (.bool true) := ((HR.out.below HB2.out hbl).cell k).trans ((Rx.cel_at _ k (by omega)).trans (by rw [HSK.out]))); have hcn2 : w2.cell? ⟨b, k + 1, none⟩ = some (.bool (s (k + 1))) := ((HR.out.below HB2.out hbl).cell (k + 1)).trans (Rx.cel_at _ (k + 1) (by omega)); rw [HSN.out] at hcn2)
          go_roundw
          case rel => exact ⟨k + 1, LL2, A2, c2, by go_num, by omega, rfl, by omega, Lib.hid (by rw [HS.out, HP.out, HLL2.out]), HO2, HB2⟩
          case measure => simp [intOf]; omega
      · rw [hsp] at hcp
        by_cases h255 : k = 255
        · have h255i : ((k : Int) == 255) = true := by rw [h255]; rfl
          have h255d : decide ((k : Int) = 255) = true := decide_eq_true (by omega)
          have hk255 : k = 255 := h255
          have HK255 := Lib.hid hk255
          have HP : Hid (Rx.pairAt s k = [UInt8.ofNat k]) := Lib.hid ((Rx.pairAt_is hsk false true (by rw [hkj, hsp]; simp; omega) (by simp [hk255])).trans (by simp))
          clear hsk h255 hk255 hsp hj hkj
          go_wp2_with first
            | (at_builtin; (refine wpList_app _ rfl (.tmp 42) (.tmp 45) 69 rfl w0.heap.size 5 i0 (.int .u8 0) 1 1 Try.underlying69 HI.out HZ.out.1 HZ.out.2.1 HZ.out.2.2 rfl (by decide) (.slice A L.length cp) L.length (by8 L) rfl (HO.out.below ((Below.refl _ _).alloc (Nat.le_refl _) _)) (fun b => b = wr.heap.size) (some ⟨wr.heap.size, 0, none⟩) 1 1 [.int .u8 (k : Int)] rfl rfl (Rd.fresh _ _ _ _ rfl) (by intro u hu; simp at hu; subst hu; rfl) (by unfold maxLen; omega) (by omega) (by simp; omega) ?_; intro v3 w3 hown3 hg3 hat3 hnil3; have HB3 : Hid (Below w0.heap.size w0 w3) := Lib.hid ((HB.out.alloc hws _).grown hg3 (by simp; omega) (fun g e => (own_lt HO.out g e).1)); have hws3 := HB3.out.size; have HO3 := Lib.hid (Rx.own_push hgo hown3); clear hown3 hg3 hat3 hnil3; obtain ⟨LL3, hLL3, hlen3⟩ : ∃ LL, LL = L ++ [UInt8.ofNat k] ∧ LL.length ≤ L.length + 1 := ⟨_, rfl, by simp⟩; rw [← hLL3] at HO3; obtain ⟨A3, c3, rfl, _, _⟩ := Reads.own HO3.out; have HLL3 := Lib.hid hLL3; clear hLL3))
          go_roundw
          case rel => exact ⟨k + 1, LL3, A3, c3, by go_num, by omega, rfl, by omega, Lib.hid (by rw [HS.out, HP.out, HLL3.out]), HO3, HB3⟩
          case measure => simp [intOf]; omega
        have hwn : IntKind.i64.wrap ((k : Int) + 1) = ((k + 1 : Nat) : Int) := by rw [IntKind.wrap_i64]; omega
        have hn255 : ¬ (k : Int) = 255 := by omega
        have hn256 : ((k + 1 : Nat) : Int) < 256 := by omega
        cases hsn : s (k + 1)
        ·
          have HP : Hid (Rx.pairAt s k = [UInt8.ofNat k]) := Lib.hid ((Rx.pairAt_is hsk false true (by rw [hkj, hsp]; simp; omega) (by rw [hsn]; simp)).trans (by simp))
          have hcn : wr.cell? ⟨b, k + 1, none⟩ = some (.bool (s (k + 1))) := ((HR.out.below HB.out hbl).cell (k + 1)).trans (Rx.cel_at _ (k + 1) (by omega))
          rw [hsn] at hcn
          have HSN := Lib.hid hsn
          clear hsk hsn hsp hj hkj
          go_wp2_with first
            | (at_builtin; (refine wpList_app _ rfl (.tmp 42) (.tmp 45) 69 rfl w0.heap.size 5 i0 (.int .u8 0) 1 1 Try.underlying69 HI.out HZ.out.1 HZ.out.2.1 HZ.out.2.2 rfl (by decide) (.slice A L.length cp) L.length (by8 L) rfl (HO.out.below ((Below.refl _ _).alloc (Nat.le_refl _) _)) (fun b => b = wr.heap.size) (some ⟨wr.heap.size, 0, none⟩) 1 1 [.int .u8 (k : Int)] rfl rfl (Rd.fresh _ _ _ _ rfl) (by intro u hu; simp at hu; subst hu; rfl) (by unfold maxLen; omega) (by omega) (by simp; omega) ?_; intro v3 w3 hown3 hg3 hat3 hnil3; have HB3 : Hid (Below w0.heap.size w0 w3) := Lib.hid ((HB.out.alloc hws _).grown hg3 (by simp; omega) (fun g e => (own_lt HO.out g e).1)); have hws3 := HB3.out.size; have HO3 := Lib.hid (Rx.own_push hgo hown3); clear hown3 hg3 hat3 hnil3; obtain ⟨LL3, hLL3, hlen3⟩ : ∃ LL, LL = L ++ [UInt8.ofNat k] ∧ LL.length ≤ L.length + 1 := ⟨_, rfl, by simp⟩; rw [← hLL3] at HO3; obtain ⟨A3, c3, rfl, _, _⟩ := Reads.own HO3.out; have HLL3 := Lib.hid hLL3; clear hLL3))
          go_roundw
          case rel => exact ⟨k + 1, LL3, A3, c3, by go_num, by omega, rfl, by omega, Lib.hid (by rw [HS.out, HP.out, HLL3.out]), HO3, HB3⟩
          case measure => simp [intOf]; omega
        ·
          have HP : Hid (Rx.pairAt s k = []) := Lib.hid ((Rx.pairAt_is hsk false false (by rw [hkj, hsp]; simp; omega) (by rw [hsn]; simp; omega)).trans (by simp))
          have hcn : wr.cell? ⟨b, k + 1, none⟩ = some (.bool (s (k + 1))) := ((HR.out.below HB.out hbl).cell (k + 1)).trans (Rx.cel_at _ (k + 1) (by omega))
          rw [hsn] at hcn
          have HSN := Lib.hid hsn
          clear hsk hsn hsp hj hkj
          go_wp2_with fail
          go_roundw
          case rel => exact ⟨k + 1, L, A, cp, by go_num, by omega, rfl, by omega, Lib.hid (by rw [HS.out, HP.out]; simp), HO, HB⟩
          case measure => simp [intOf]; omega
    · obtain rfl : k = 256 := by omega
      have HN : Hid (L = Rx.pairs s) := Lib.hid HL.out
      have hcv := (Reads.own HO.out).conv
      clear HL
      go_wp2_with fail
      go_ret
      exact ⟨by rw [HN.out]; rfl, HW0.out.trans (HB.out.mono HW0.out.size)⟩
end Go.Proofs.Ytelbabgkpflckaa
