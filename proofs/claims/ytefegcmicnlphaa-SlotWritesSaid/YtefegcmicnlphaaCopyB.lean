/-
  BYTES: a copy into a row of the call's own; an append onto an empty slice (`append([]byte{}, b...)`). For every seat.
-/
import Derived.Test.YtefegcmicnlphaaOwnB
import Derived.Laws.CopyRow
namespace Go.Proofs.Ytefegcmicnlphaa
open Go.RowKit Go.Sort
open Me

/-- Bytes written over, from a place on. -/
def ovr (b : List UInt8) (off : Nat) (p : List UInt8) : List UInt8 := b.take off ++ p ++ b.drop (off + p.length)
theorem ovr_len {b : List UInt8} {off : Nat} {p : List UInt8} (h : off + p.length ≤ b.length) : (ovr b off p).length = b.length := by
  unfold ovr
  simp
  omega
theorem take_over {α : Type} (c d p : List α) (n off : Nat) (h : c.take n = d) (hf : off + p.length ≤ n) : (c.take off ++ p ++ c.drop (off + p.length)).take n = d.take off ++ p ++ d.drop (off + p.length) := by
  subst h
  have e : (c.take n).take off = c.take off := by rw [List.take_take, Nat.min_eq_left (by omega)]
  rw [e]
  by_cases hl : off ≤ c.length
  · have h1 : (c.take off ++ p).length = off + p.length := by rw [List.length_append, List.length_take, Nat.min_eq_left hl]
    rw [List.take_append, List.take_of_length_le (by omega), h1, List.drop_take]
  · have h1 : c.drop (off + p.length) = [] := List.drop_eq_nil_of_le (by omega)
    have h2 : (c.take n).drop (off + p.length) = [] := List.drop_eq_nil_of_le (by rw [List.length_take]; omega)
    rw [h1, h2, List.append_nil, List.take_of_length_le]
    rw [List.length_append, List.length_take]
    omega
theorem sizeU8 : (Try.prog.info? 5).map (·.size) = some 1 := by kernel_rfl

theorem copy_own {W : World} {base g n cap : Nat} {D p : List UInt8} (ho : OwnB base W (.slice (some ⟨g, 0, none⟩) n cap) D) (off : Nat) (hp : 0 < p.length) (hfit : off + p.length ≤ D.length) (ty : TypeId) (sp : Option Addr) (sCap : Nat) (G : Nat → Prop)
    (hr : Rd W G sp (by8 p)) (dLen dCap : Nat) (hd : p.length ≤ dLen) :
    ∃ W', (Builtin.copy_ #[30, 30] ty #[.slice (some ⟨g, off, none⟩) dLen dCap, .slice sp p.length sCap]).run Try.prog W = .ok (goInt p.length) W' ∧ OwnB base W' (.slice (some ⟨g, 0, none⟩) n cap) (ovr D off p) ∧ Kp (fun b => b = g) W W' := by
  obtain ⟨hlen, hn | ⟨g', cap', cur, hv, hb, hg, hle, hm, hs, hx⟩⟩ := ho
  · simp at hn
  · injection hv with e1 e2 e3
    injection e1 with e1
    injection e1 with e1
    subst e1 e2 e3
    obtain ⟨ad, rfl, _, _, hc⟩ := hr (by intro e; have := by8_len p; rw [e] at this; simp at this; omega)
    rw [Nat.mul_one] at hx hs
    have hrun := run_copy_row (P := Try.prog) W 30 30 ty 5 g off dLen dCap ad p.length sCap cur 5 (by8 p) Try.underlying30 sizeU8 hg (by rw [by8_len]; exact (Nat.min_eq_left hd).symm) hc (by rw [by8_len]; omega) (by8_one _)
    rw [by8_len] at hrun
    refine ⟨_, hrun, ⟨?_, .inr ⟨g, cap, _, ?_, hb, setRow_heap W g cur _ _ _ hg, ?_, hm, ?_, ?_⟩⟩, ?_⟩
    · rw [by8_len]; simp
    · rw [ovr_len hfit]
    · rw [ovr_len hfit]; exact hle
    · have e1 : cur.toList.length = cur.size := Array.length_toList
      simp [by8_len]
      omega
    · rw [ovr_len hfit, Nat.mul_one, List.toList_toArray, ← by8_len p, take_over cur.toList (by8 D) (by8 p) D.length off hx (by rw [by8_len]; exact hfit)]
      unfold ovr by8
      simp
    · refine ⟨rfl, rfl, rfl, by simp [World.setRow], fun k _ hk => setRow_other W g k _ (fun e => hk e)⟩

theorem app_empty {W : World} (b : Addr) (A : Option Addr) (c : Nat) (L : List UInt8) (t ty : TypeId) (ht : Try.prog.underlying t = some (.slice 5)) (G : Nat → Prop) (hr : Rd W G A (by8 L)) (h0 : 0 < L.length) (hL : L.length ≤ 1048576) (base : Nat) (hb : base ≤ W.heap.size) :
    ∃ cap W', (Builtin.append_ #[t, t] ty #[.slice (some b) 0 0, .slice A L.length c]).run Try.prog W = .ok (.slice (some ⟨W.heap.size, 0, none⟩) L.length cap) W' ∧ OwnB base W' (.slice (some ⟨W.heap.size, 0, none⟩) L.length cap) L ∧ Below W.heap.size W W' := by
  obtain ⟨i, hi, hz, hs, hby⟩ := info_parts u8info
  obtain ⟨ad, rfl, _, _, hc⟩ := hr (by intro e; have := by8_len L; rw [e] at this; simp at this; omega)
  have hrun := run_append_grow (P := Try.prog) W t ty 5 i (.int .u8 0) ht hi hz b 0 0 [] (by simp) (by simp) ad L.length c (by8 L) (by rw [by8_len, hs]; omega) hc (by omega) (by simp; omega) (growslice_fits (by omega) (by rw [hby]; omega))
  simp only [Nat.zero_add] at hrun
  refine ⟨_, _, hrun, ⟨by rw [by8_len]; simp, .inr ⟨W.heap.size, _, _, rfl, hb, heap_alloc_new W.drew _, grownCap_ge W L.length 0 _, grownCap_le_maxLen W L.length 0 _ (by unfold maxLen; omega), ?_, ?_⟩⟩, (by repeat (first | exact Below.refl _ _ | assumption | refine Below.setCell ?_ (by first | (simp; done) | omega | (simp; omega) | (simp at *; omega)) _ | refine Below.alloc ?_ (by first | (simp; done) | omega | (simp; omega) | (simp at *; omega)) _ | refine Below.drew ?_ | (refine Below.trans ?_ (Below.mono (by assumption) (by first | (simp; done) | omega | (simp; omega) | (simp at *; omega)))) | (refine Below.trans ?_ (Below.mono (below_regrown _ _ _) (by first | (simp; done) | omega | (simp; omega) | (simp at *; omega))))))⟩
  · have hge := grownCap_ge W L.length 0 5
    have e1 : (Value.int IntKind.u8 0).cells.size = 1 := rfl
    simp only [Array.size_append, List.size_toArray, size_zeroCells, e1, by8_len, List.length_nil]
    omega
  · rw [Nat.mul_one]
    simp only [Array.toList_append, List.nil_append]
    rw [← by8_len L]
    exact List.take_left
end Go.Proofs.Ytefegcmicnlphaa
