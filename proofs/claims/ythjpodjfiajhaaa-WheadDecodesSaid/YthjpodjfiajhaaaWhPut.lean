/-
  CONTRACTS: numbers as four bytes: the program's put, the document's Four; and back.
-/
import Derived.Test.YthjpodjfiajhaaaWhVal
import Derived.Test.YthjpodjfiajhaaaOwnB
namespace Go.Proofs.Ythjpodjfiajhaaa
open Go.RowKit Go.Sort
open Me

set_option maxHeartbeats 1000000 in
theorem put_any (base : Nat) (L : List UInt8) (v : Value) (ns : List Int) (A : Option Addr) (c : Nat) (G : Nat → Prop) (w : World) (hown : OwnB base w v L) (hrd : Rd w G A (ns.map fun n => .int .i64 n)) (hG : ∀ g, v.ownBlock = some g → ¬ G g)
    (hb : ∀ n ∈ ns, 0 ≤ n ∧ n ≤ 4294967295) (hbase : base ≤ w.heap.size) (hL : L.length ≤ 1048576) (hn : ns.length ≤ 1048576) :
    Calls Try.prog 17 #[v, .slice A ns.length c] w (Laid base w v (L ++ Wh.fours ns)) := by
  obtain ⟨j0, hj0, hy0, hy1, hy2⟩ := info_parts u8info
  have HJ := Lib.hid hj0
  have HY := Lib.hid (And.intro hy0 (And.intro hy1 hy2))
  clear hj0 hy0 hy1 hy2
  have HR := Lib.hid hrd
  have HG := Lib.hid hG
  have HB := Lib.hid hb
  obtain ⟨A0, n0, c0, rfl⟩ := own_slice hown
  have HO := Lib.hid hown
  have hn2 : (ns.length : Int) ≤ 1048576 := by omega
  clear hown hrd hG hb
  go_enter Try.func17, Try.ntmps17
  go_wp2_with fail
  go_loopw [0, 9] (fun u i wr => ∃ (k : Nat) (A' : Option Addr) (n' c' : Nat), k ≤ ns.length ∧ i = .int .i64 k ∧ u = .slice A' n' c' ∧ Hid (OwnB base wr u (L ++ Wh.fours (ns.take k))) ∧ Kp (fun b => (Value.slice A0 n0 c0).ownBlock = some b) w wr ∧ Hid (∀ g, u.ownBlock = some g → (Value.slice A0 n0 c0).ownBlock = some g ∨ w.heap.size ≤ g)) (fun _ i _ => ns.length - (intOf i).toNat)
  case atStart => exact ⟨0, _, _, _, Nat.zero_le _, rfl, rfl, Lib.hid (by simpa [Wh.fours] using HO.out), Kp.refl _ _, Lib.hid fun g h => .inl h⟩
  case round =>
    obtain ⟨k, A', n', c', hk, rfl, rfl, ho, hkp, hfr⟩ := hrel
    by_cases hlt : k < ns.length
    · have hR := HR.out.kp hkp (fun i _ hi he => HG.out i he hi)
      obtain ⟨rb, ro, rfl, hlt2, hg, hcell⟩ := hR.lit k (by simp; omega)
      have hcl := hcell k (.int .i64 ns[k]) (by simp [hlt])
      obtain ⟨b1, b2⟩ := HB.out ns[k] (List.getElem_mem hlt)
      have HF := Lib.hid (Wh.fours_take ns k hlt)
      have hXl : (L ++ Wh.fours (ns.take k)).length ≤ 5242880 := by rw [List.length_append, Wh.fours_len, List.length_take]; omega
      have hksz := hkp.size
      have HKP := Lib.hid hkp
      have HRF : Hid (Rd (wr.alloc (.cells #[.int .u8 (ns[k] / 16777216), .int .u8 ((ns[k] / 65536) % 256), .int .u8 ((ns[k] / 256) % 256), .int .u8 (ns[k] % 256)] 5)) (fun b => b = wr.heap.size) (some ⟨wr.heap.size, 0, none⟩) (by8 (Wh.four ns[k]))) := Lib.hid (by
        rw [by8_four4 b1 b2]; exact Rd.fresh wr [_, _, _, _] _ _ rfl)
      have hfl : (Wh.four ns[k]).length = 4 := rfl
      have HOW : Hid ((wr.alloc (.cells #[.int .u8 (ns[k] / 16777216), .int .u8 ((ns[k] / 65536) % 256), .int .u8 ((ns[k] / 256) % 256), .int .u8 (ns[k] % 256)] 5)).ownsRow base 5 1 (.slice A' n' c') (L ++ Wh.fours (ns.take k)).length (by8 (L ++ Wh.fours (ns.take k)))) := Lib.hid (owns_keep ho.out fun g hg => Below.heap_alloc _ _ _ (own_lt ho.out g hg).2)
      clear hR hcell hkp
      generalize ns[k] = n at *
      have HFL := Lib.hid hfl
      clear hfl
      generalize hX : L ++ Wh.fours (ns.take k) = X at *
      have HX := Lib.hid hX
      clear hX
      go_wp2_with (at_builtin; refine wpList_app _ rfl (.tmp 13) (.tmp 25) 22 rfl base 5 j0 (.int .u8 0) 1 1 Try.underlying22 HJ.out HY.out.1 HY.out.2.1 HY.out.2.2 rfl (by decide) (.slice A' n' c') X.length (by8 X) rfl HOW.out (fun b => b = wr.heap.size) (some ⟨wr.heap.size, 0, none⟩) 4 4 (by8 (Wh.four n)) rfl (by rw [by8_len, HFL.out]) HRF.out (by8_one _) (by unfold maxLen; omega) (by omega) (by simp; omega) ?_; intro v1 w1 hown1 hg1 hat1 hnil1)
      obtain ⟨A1, n1, c1, rfl⟩ := own_slice hown1
      have HO1 := Lib.hid (own_more HFL.out hown1)
      have HG1 := Lib.hid hg1
      have HAT := Lib.hid hat1
      clear hown1 hg1 hat1 hnil1
      go_wp2_with fail
      go_roundw
      case rel =>
        refine ⟨k + 1, _, _, _, by omega, by go_num, rfl, Lib.hid (by rw [HF.out, ← List.append_assoc, HX.out]; exact HO1.out), (HKP.out.alloc _).grown HG1.out (fun g hg => (hfr.out g hg).symm), Lib.hid fun g hg => ?_⟩
        rcases HAT.out with h | h
        · exact hfr.out g (h ▸ hg)
        · rw [h] at hg
          simp at hg
          exact .inr (by omega)
      case measure => simp [intOf]; omega
    · obtain rfl : k = ns.length := by omega
      rw [List.take_length] at ho
      go_wp2_with fail
      go_ret
      exact ⟨_, rfl, ho.out, hkp, hfr.out⟩
end Go.Proofs.Ythjpodjfiajhaaa
