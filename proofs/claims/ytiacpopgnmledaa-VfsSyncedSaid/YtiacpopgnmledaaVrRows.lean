/-
  CONTRACTS: the document's own files: rows of bytes as one; how much there is.
-/
import Derived.Test.YtiacpopgnmledaaVrRef
import Derived.Test.YtiacpopgnmledaaMeApp
namespace Go.Proofs.Ytiacpopgnmledaa
open Go.RowKit
open Me

namespace Vf
def BsC (w : World) (G : Nat → Prop) (b : List UInt8) (cs : List Value) : Prop := ∃ v, cs = [v] ∧ Bs w G v b
theorem BsC.one {w : World} {G : Nat → Prop} : ∀ b cs, BsC w G b cs → cs.length = 1 := by
  rintro b cs ⟨v, rfl, _⟩; rfl
/-- A slice of slices of bytes. -/
def Ps (w : World) (G : Nat → Prop) (v : Value) (l : List (List UInt8)) : Prop := ∃ A c xs, v = .slice A l.length c ∧ l.length ≤ c ∧ c ≤ maxLen ∧ Rd w G A xs ∧ Els (BsC w G) l xs
theorem BsC.keep {w w' : World} {G : Nat → Prop} (hs : w.heap.size ≤ w'.heap.size) (hk : ∀ i, i < w.heap.size → G i → w'.heap[i]? = w.heap[i]?) (b : List UInt8) (cs : List Value) (h : BsC w G b cs) : BsC w' G b cs := by
  obtain ⟨v, e, hb⟩ := h
  exact ⟨v, e, hb.keep hs hk⟩
theorem Ps.keep {w w' : World} {G : Nat → Prop} {v : Value} {l : List (List UInt8)} (h : Ps w G v l) (hs : w.heap.size ≤ w'.heap.size) (hk : ∀ i, i < w.heap.size → G i → w'.heap[i]? = w.heap[i]?) : Ps w' G v l := by
  obtain ⟨A, c, xs, e, h1, h2, h3, h4⟩ := h
  exact ⟨A, c, xs, e, h1, h2, h3.keep hs hk, h4.mono fun b cs hb => hb.keep hs hk⟩
theorem flat_take (l : List (List UInt8)) (k : Nat) (h : k < l.length) : (l.take (k + 1)).flatten = (l.take k).flatten ++ l[k] := by
  rw [List.take_succ_eq_append_getElem h, List.flatten_append]
  simp
theorem flat_le (l : List (List UInt8)) (k : Nat) : (l.take k).flatten.length ≤ l.flatten.length := by
  conv => rhs; rw [← List.take_append_drop k l]
  rw [List.flatten_append, List.length_append]
  omega
/-- What a function that makes bytes hands back. -/
def Made (w : World) (l : List UInt8) (e : Ending) (w' : World) : Prop := ∃ v, e = .returned v ∧ Bs w' (fun i => w.heap.size ≤ i) v l ∧ Below w.heap.size w w'
end Vf

theorem u8info : (Try.prog.info? 5).map (fun i => (i.zero, i.size, i.bytes)) = some (some (.int .u8 0), 1, 1) := by kernel_rfl

set_option maxHeartbeats 800000 in
theorem rows_any (ps : List (List UInt8)) (v : Value) (G : Nat → Prop) (w : World) (hp : Vf.Ps w G v ps) (hl : ps.length ≤ 1048576) (ht : ps.flatten.length ≤ 4294967296) :
    Calls Try.prog 48 #[v] w (Vf.Made w ps.flatten) := by
  obtain ⟨i0, hi0, hz0, hz1, hz2⟩ := info_parts u8info
  have HI := Lib.hid hi0
  have HZ := Lib.hid (And.intro hz0 (And.intro hz1 hz2))
  clear hi0 hz0 hz1 hz2
  obtain ⟨A, c, xs, rfl, hc, hcm, hrd, hels⟩ := hp
  unfold maxLen at hcm
  have HR := Lib.hid hrd
  have HE := Lib.hid hels
  have hl' : (ps.length : Int) ≤ 1048576 := by omega
  clear hrd hels
  go_enter Try.func48, Try.ntmps48
  go_wp2_with fail
  go_loopw [3, 4] (fun b i wr => ∃ (k : Nat) (bv : Value), k ≤ ps.length ∧ i = .int .i64 k ∧ bv = b ∧ Hid (wr.ownsRow w.heap.size 5 1 bv (ps.take k).flatten.length (by8 (ps.take k).flatten)) ∧ Below w.heap.size w wr) (fun _ i _ => ps.length - (intOf i).toNat)
  case atStart =>
    exact ⟨0, _, Nat.zero_le _, rfl, rfl, Lib.hid ⟨by simp [by8], .inr ⟨w.heap.size, 0, #[], rfl, Nat.le_refl _, heap_alloc_new w _, Nat.le_refl _, Nat.zero_le _, rfl, by simp [by8]⟩⟩, (Below.refl _ _).alloc (Nat.le_refl _) _⟩
  case round =>
    obtain ⟨k, bv, hk, rfl, rfl, hown, hbel⟩ := hrel
    by_cases hlt : k < ps.length
    · have hR := HR.out.below hbel
      have hE : Els (Vf.BsC wr G) ps xs := HE.out.mono fun b cs hb => hb.keep hbel.size (fun i hi _ => hbel.block i hi)
      obtain ⟨cs, ⟨v, rfl, hbs⟩, hx⟩ := hE.get Vf.BsC.one k hlt
      have hxl := hE.length Vf.BsC.one
      obtain ⟨ad, rfl, hlt2, hg, hcell⟩ := hR.at_ (k * 1) (by omega)
      have hcl : wr.cell? (ad.add k) = some v := by have := hcell _ _ (hx 0 (by omega)); simpa using this
      obtain ⟨A2, c2, rfl, hc2, hcm2, hrd2⟩ := hbs
      have HRD := Lib.hid hrd2
      have HF := Lib.hid (Vf.flat_take ps k hlt)
      have HL := Lib.hid (Vf.flat_le ps (k + 1))
      clear hR hE hx hxl hcell hrd2
      go_wp2_with (at_builtin; refine wpList_app _ rfl (.tmp 12) (.tmp 16) 40 rfl w.heap.size 5 i0 (.int .u8 0) 1 1 Try.underlying40 HI.out HZ.out.1 HZ.out.2.1 HZ.out.2.2 rfl (by decide) bv _ _ rfl hown.out G A2 (ps[k]).length c2 (by8 ps[k]) rfl (by rw [by8_len]; omega) HRD.out (by8_one _) (by have := HL.out; rw [HF.out, List.length_append] at this; unfold maxLen; omega) (by have := HL.out; rw [HF.out, List.length_append] at this; omega) hbel.size ?_; intro v1 w1 hown1 hg1 hat1 hnil1)
      go_roundw
      case rel =>
        refine ⟨k + 1, v1, by omega, by go_num, rfl, Lib.hid ?_, hbel.grown hg1 hbel.size (fun g hg => (hown.out.lt g hg).1)⟩
        rw [HF.out, by8_append, List.length_append]
        exact hown1
      case measure => simp [intOf]; omega
    · obtain rfl : k = ps.length := by omega
      rw [List.take_length] at hown
      go_wp2_with fail
      go_ret
      exact ⟨bv, rfl, Bs.own hown.out, hbel⟩

end Go.Proofs.Ytiacpopgnmledaa
