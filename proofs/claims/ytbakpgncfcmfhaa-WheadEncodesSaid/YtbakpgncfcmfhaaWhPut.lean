/-
  CONTRACTS: numbers as four bytes: the program's put, the document's Four; and back.
-/
import Derived.Test.YtbakpgncfcmfhaaWhVal
import Derived.Test.YtbakpgncfcmfhaaMeApp
namespace Go.Proofs.Ytbakpgncfcmfhaa
open Go.RowKit Go.Sort
open Me

theorem u8info : (Try.prog.info? 5).map (fun i => (i.zero, i.size, i.bytes)) = some (some (.int .u8 0), 1, 1) := by kernel_rfl
theorem info_parts {P : Program} {e : TypeId} {z : Value} {a b : Nat} (h : (P.info? e).map (fun i => (i.zero, i.size, i.bytes)) = some (some z, a, b)) : ∃ i, P.info? e = some i ∧ i.zero = some z ∧ i.size = a ∧ i.bytes = b := by
  cases hi : P.info? e with
  | none => rw [hi] at h; cases h
  | some i => rw [hi] at h; simp at h; exact ⟨i, rfl, h.1, h.2.1, h.2.2⟩

namespace Wh
def four (n : Int) : List UInt8 := [UInt8.ofNat ((n / 16777216) % 256).toNat, UInt8.ofNat ((n / 65536) % 256).toNat, UInt8.ofNat ((n / 256) % 256).toNat, UInt8.ofNat (n % 256).toNat]
def fours (ns : List Int) : List UInt8 := ns.flatMap four
theorem fours_len (ns : List Int) : (fours ns).length = 4 * ns.length := by
  induction ns with
  | nil => rfl
  | cons n ns ih => unfold fours at *; simp [List.flatMap_cons, four, ih]; omega
theorem fours_take (ns : List Int) (k : Nat) (h : k < ns.length) : fours (ns.take (k + 1)) = fours (ns.take k) ++ four ns[k] := by
  unfold fours
  rw [List.take_succ_eq_append_getElem h, List.flatMap_append]
  simp
theorem u8of (x : Int) : ((UInt8.ofNat (x % 256).toNat).toNat : Int) = x % 256 := by
  have h1 := Int.emod_nonneg x (by omega : (256 : Int) ≠ 0)
  have h2 := Int.emod_lt_of_pos x (by omega : (0 : Int) < 256)
  rw [UInt8.toNat_ofNat', Nat.mod_eq_of_lt (by omega)]
  omega
theorem by8_four (n : Int) : by8 (four n) = [.int .u8 ((n / 16777216) % 256), .int .u8 ((n / 65536) % 256), .int .u8 ((n / 256) % 256), .int .u8 (n % 256)] := by
  unfold by8 four
  simp only [List.map_cons, List.map_nil, u8of]
end Wh

def OwnB (base : Nat) (w : World) (v : Value) (l : List UInt8) : Prop := w.ownsRow base 5 1 v l.length (by8 l)
/-- What an append leaves. -/
def Laid (base : Nat) (w : World) (v : Value) (l : List UInt8) (e : Ending) (w' : World) : Prop :=
  ∃ v', e = .returned v' ∧ OwnB base w' v' l ∧ Kp (fun b => v.ownBlock = some b) w w' ∧ (∀ g, v'.ownBlock = some g → v.ownBlock = some g ∨ w.heap.size ≤ g)

theorem own_lt {base : Nat} {w : World} {v : Value} {l : List UInt8} (h : OwnB base w v l) : ∀ g, v.ownBlock = some g → base ≤ g ∧ g < w.heap.size := by
  intro g hg
  rcases h.2 with ⟨rfl, _⟩ | ⟨g', cap, cur, rfl, hb, hh, _⟩
  · cases hg
  · have : g' = g := by simpa [Value.ownBlock] using hg
    subst this
    exact ⟨hb, (Array.getElem?_eq_some_iff.1 hh).1⟩

theorem by8_four4 {n : Int} (h1 : 0 ≤ n) (h2 : n ≤ 4294967295) : by8 (Wh.four n) = [.int .u8 (n / 16777216), .int .u8 ((n / 65536) % 256), .int .u8 ((n / 256) % 256), .int .u8 (n % 256)] := by
  rw [Wh.by8_four]
  have : n / 16777216 % 256 = n / 16777216 := Int.emod_eq_of_lt (by omega) (by omega)
  rw [this]
theorem own_slice {base : Nat} {w : World} {v : Value} {e : TypeId} {s n : Nat} {xs : List Value} (h : w.ownsRow base e s v n xs) : ∃ A n c, v = .slice A n c := by
  rcases h.2 with ⟨rfl, _⟩ | ⟨g', cap, cur, rfl, _⟩
  · exact ⟨_, _, _, rfl⟩
  · exact ⟨_, _, _, rfl⟩
theorem own_more {base : Nat} {w : World} {v : Value} {X Y : List UInt8} {m : Nat} (hm : Y.length = m) (h : w.ownsRow base 5 1 v (X.length + m) (by8 X ++ by8 Y)) : OwnB base w v (X ++ Y) := by
  unfold OwnB
  rw [List.length_append, by8_append, hm]
  exact h

set_option maxHeartbeats 1000000 in
theorem put_any (base : Nat) (L : List UInt8) (v : Value) (ns : List Int) (A : Option Addr) (c : Nat) (G : Nat → Prop) (w : World) (hown : OwnB base w v L) (hrd : Rd w G A (ns.map fun n => .int .i64 n)) (hG : ∀ g, v.ownBlock = some g → ¬ G g)
    (hb : ∀ n ∈ ns, 0 ≤ n ∧ n ≤ 4294967295) (hbase : base ≤ w.heap.size) (hL : L.length ≤ 1048576) (hn : ns.length ≤ 1048576) :
    Calls Try.prog 22 #[v, .slice A ns.length c] w (Laid base w v (L ++ Wh.fours ns)) := by
  obtain ⟨j0, hj0, hy0, hy1, hy2⟩ := info_parts u8info
  have HJ := Lib.hid hj0
  have HY := Lib.hid (And.intro hy0 (And.intro hy1 hy2))
  clear hj0 hy0 hy1 hy2
  have HR := Lib.hid hrd
  have HG := Lib.hid hG
  have HB := Lib.hid hb
  obtain ⟨A0, n0, c0, rfl⟩ := own_slice hown
  have HO := Lib.hid hown
  have hn2 : (ns.length : Int) ≤ 1048576 := by omega
  clear hown hrd hG hb
  go_enter Try.func22, Try.ntmps22
  go_wp2_with fail
  go_loopw [0, 9] (fun u i wr => ∃ (k : Nat) (A' : Option Addr) (n' c' : Nat), k ≤ ns.length ∧ i = .int .i64 k ∧ u = .slice A' n' c' ∧ Hid (OwnB base wr u (L ++ Wh.fours (ns.take k))) ∧ Kp (fun b => (Value.slice A0 n0 c0).ownBlock = some b) w wr ∧ Hid (∀ g, u.ownBlock = some g → (Value.slice A0 n0 c0).ownBlock = some g ∨ w.heap.size ≤ g)) (fun _ i _ => ns.length - (intOf i).toNat)
  case atStart => exact ⟨0, _, _, _, Nat.zero_le _, rfl, rfl, Lib.hid (by simpa [Wh.fours] using HO.out), Kp.refl _ _, Lib.hid fun g h => .inl h⟩
  case round =>
    obtain ⟨k, A', n', c', hk, rfl, rfl, ho, hkp, hfr⟩ := hrel
    by_cases hlt : k < ns.length
    · have hR := HR.out.kp hkp (fun i _ hi he => HG.out i he hi)
      obtain ⟨rb, ro, rfl, hlt2, hg, hcell⟩ := hR.lit k (by simp; omega)
      have hcl := hcell k (.int .i64 ns[k]) (by simp [hlt])
      obtain ⟨b1, b2⟩ := HB.out ns[k] (List.getElem_mem hlt)
      have HF := Lib.hid (Wh.fours_take ns k hlt)
      have hXl : (L ++ Wh.fours (ns.take k)).length ≤ 5242880 := by rw [List.length_append, Wh.fours_len, List.length_take]; omega
      have hksz := hkp.size
      have HKP := Lib.hid hkp
      have HRF : Hid (Rd (wr.alloc (.cells #[.int .u8 (ns[k] / 16777216), .int .u8 ((ns[k] / 65536) % 256), .int .u8 ((ns[k] / 256) % 256), .int .u8 (ns[k] % 256)] 5)) (fun b => b = wr.heap.size) (some ⟨wr.heap.size, 0, none⟩) (by8 (Wh.four ns[k]))) := Lib.hid (by
        rw [by8_four4 b1 b2]; exact Rd.fresh wr [_, _, _, _] _ _ rfl)
      have hfl : (Wh.four ns[k]).length = 4 := rfl
      have HOW : Hid ((wr.alloc (.cells #[.int .u8 (ns[k] / 16777216), .int .u8 ((ns[k] / 65536) % 256), .int .u8 ((ns[k] / 256) % 256), .int .u8 (ns[k] % 256)] 5)).ownsRow base 5 1 (.slice A' n' c') (L ++ Wh.fours (ns.take k)).length (by8 (L ++ Wh.fours (ns.take k)))) := Lib.hid (owns_keep ho.out fun g hg => Below.heap_alloc _ _ _ (own_lt ho.out g hg).2)
      clear hR hcell hkp
      generalize ns[k] = n at *
      have HFL := Lib.hid hfl
      clear hfl
      generalize hX : L ++ Wh.fours (ns.take k) = X at *
      have HX := Lib.hid hX
      clear hX
      go_wp2_with (at_builtin; refine wpList_app _ rfl (.tmp 13) (.tmp 25) 25 rfl base 5 j0 (.int .u8 0) 1 1 Try.underlying25 HJ.out HY.out.1 HY.out.2.1 HY.out.2.2 rfl (by decide) (.slice A' n' c') X.length (by8 X) rfl HOW.out (fun b => b = wr.heap.size) (some ⟨wr.heap.size, 0, none⟩) 4 4 (by8 (Wh.four n)) rfl (by rw [by8_len, HFL.out]) HRF.out (by8_one _) (by unfold maxLen; omega) (by omega) (by simp; omega) ?_; intro v1 w1 hown1 hg1 hat1 hnil1)
      obtain ⟨A1, n1, c1, rfl⟩ := own_slice hown1
      have HO1 := Lib.hid (own_more HFL.out hown1)
      have HG1 := Lib.hid hg1
      have HAT := Lib.hid hat1
      clear hown1 hg1 hat1 hnil1
      go_wp2_with fail
      go_roundw
      case rel =>
        refine ⟨k + 1, _, _, _, by omega, by go_num, rfl, Lib.hid (by rw [HF.out, ← List.append_assoc, HX.out]; exact HO1.out), (HKP.out.alloc _).grown HG1.out (fun g hg => (hfr.out g hg).symm), Lib.hid fun g hg => ?_⟩
        rcases HAT.out with h | h
        · exact hfr.out g (h ▸ hg)
        · rw [h] at hg
          simp at hg
          exact .inr (by omega)
      case measure => simp [intOf]; omega
    · obtain rfl : k = ns.length := by omega
      rw [List.take_length] at ho
      go_wp2_with fail
      go_ret
      exact ⟨_, rfl, ho.out, hkp, hfr.out⟩
end Go.Proofs.Ytbakpgncfcmfhaa
