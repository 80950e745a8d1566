/-
  CONTRACTS: bytes.Equal and bytes.HasPrefix over slices that read as lists.
-/
import Derived.Test.YtbakpgncfcmfhaaWhEnc
import Derived.Laws.IdiomStrings
import Derived.Lib.BufferRead
namespace Go.Proofs.Ytbakpgncfcmfhaa
open Go.RowKit Go.Sort
open Me

/-- A slice of bytes in some world, as a list: what a conversion to a string hands back. -/
def Reads (w : World) (v : Value) (l : List UInt8) : Prop := ∃ A c, v = .slice A l.length c ∧ l.length ≤ c ∧ Rd w (fun _ => True) A (by8 l)
theorem Reads.keep {w w' : World} {v : Value} {l : List UInt8} (h : Reads w v l) (hs : w.heap.size ≤ w'.heap.size) (hk : ∀ i, i < w.heap.size → w'.heap[i]? = w.heap[i]?) : Reads w' v l := by
  obtain ⟨A, c, e, hc, hr⟩ := h
  exact ⟨A, c, e, hc, hr.keep hs fun i hi _ => hk i hi⟩
theorem Reads.below {w w' : World} {v : Value} {l : List UInt8} (h : Reads w v l) (b : Below w.heap.size w w') : Reads w' v l := h.keep b.size fun i hi => b.block i hi
theorem Reads.drewN {w : World} {v : Value} {l : List UInt8} (h : Reads w v l) (n : Nat) : Reads (w.drewN n) v l := h
theorem Reads.conv {w : World} {v : Value} {l : List UInt8} (h : Reads w v l) : (convert 25 9 v).run Try.prog w = .ok (.string ⟨l.toArray⟩) w := by
  obtain ⟨A, c, rfl, _, hr⟩ := h
  by_cases hl : l = []
  · subst hl
    cases A with
    | none => exact Lib.run_convert_nil_bytes w _ _ 5 c Try.underlying25 Try.underlying5 Try.underlying9
    | some a => exact run_convert_bytes_back w _ _ 5 a c [] Try.underlying25 Try.underlying5 Try.underlying9 fun j hj => by cases hj
  · obtain ⟨ad, rfl, _, _, hc⟩ := hr (by intro e; apply hl; have := by8_len l; rw [e] at this; exact List.eq_nil_of_length_eq_zero this.symm)
    exact run_convert_bytes_back w _ _ 5 ad c l Try.underlying25 Try.underlying5 Try.underlying9 fun j hj => hc j _ (by8_get l j hj)
theorem Reads.own {w : World} {base : Nat} {v : Value} {l : List UInt8} (h : OwnB base w v l) : Reads w v l := by
  obtain ⟨A, c, e, hc, _, hr⟩ := Bs.own h
  exact ⟨A, c, e, hc, hr.mono fun _ _ _ => trivial⟩
theorem Reads.take {w : World} {A : Option Addr} {l : List UInt8} {c n : Nat} (h : Reads w (.slice A l.length c) l) (hn : n ≤ l.length) : Reads w (.slice A n c) (l.take n) := by
  obtain ⟨A', c', e, hc, hr⟩ := h
  injection e with e1 e2 e3
  subst e1 e3
  refine ⟨A, c, by rw [List.length_take, Nat.min_eq_left hn], by rw [List.length_take]; omega, fun hne => ?_⟩
  obtain ⟨ad, e, h1, h2, h3⟩ := hr (by rintro e; apply hne; unfold by8 at *; rw [List.map_eq_nil_iff] at e; rw [e]; simp)
  refine ⟨ad, e, h1, h2, fun j u hu => h3 j u ?_⟩
  unfold by8 at hu ⊢
  rw [List.map_take, List.getElem?_take] at hu
  split at hu
  · exact hu
  · cases hu

set_option maxHeartbeats 400000 in
theorem equal_any (v v' : Value) (l m : List UInt8) (w : World) (h1 : Reads w v l) (h2 : Reads w v' m) :
    Calls Try.prog 34 #[v, v'] w fun e w' => e = .returned (.bool (decide (l = m))) ∧ w = w' := by
  have c1 := h1.conv
  have c2 := h2.conv
  clear h1 h2
  by_cases hlm : l = m
  · subst hlm
    go_enter Try.func34, Try.ntmps34
    go_wp2
    go_ret
    exact ⟨by simp, rfl⟩
  · have HD := Lib.hid (decide_eq_false hlm)
    have hbe : (l == m) = false := by simp [hlm]
    clear hlm
    go_enter Try.func34, Try.ntmps34
    go_wp2
    go_ret
    exact ⟨by rw [HD.out]; rfl, rfl⟩

set_option maxHeartbeats 400000 in
theorem hasPrefix_any (A A' : Option Addr) (L E : List UInt8) (c c' : Nat) (w : World) (h1 : Reads w (.slice A L.length c) L) (h2 : Reads w (.slice A' E.length c') E) :
    Calls Try.prog 27 #[.slice A L.length c, .slice A' E.length c'] w fun e w' => e = .returned (.bool (decide (E.length ≤ L.length ∧ L.take E.length = E))) ∧ w = w' := by
  have hcl : L.length ≤ c := by
    obtain ⟨_, _, e, hc, _⟩ := h1
    injection e with _ _ e3
    omega
  by_cases hn : E.length ≤ L.length
  · have HE := Lib.hid (equal_any (.slice A E.length c) (.slice A' E.length c') (L.take E.length) E w (h1.take hn) h2)
    have HD : Hid (decide (E.length ≤ L.length ∧ L.take E.length = E) = decide (L.take E.length = E)) := Lib.hid (by simp [hn])
    generalize decide (L.take E.length = E) = r at *
    have hnI : (E.length : Int) ≤ (L.length : Int) := by omega
    have hnc : E.length ≤ c := by omega
    clear h1 h2
    go_enter Try.func27, Try.ntmps27
    go_wp2_with (go_at_call 34; go_must (refine (HE.out).mono ?_; rintro e w' ⟨rfl, rfl⟩))
    go_ret
    exact ⟨by rw [HD.out]; rfl, rfl⟩
  · have HD : Hid (decide (E.length ≤ L.length ∧ L.take E.length = E) = false) := Lib.hid (by simp [hn])
    have hnI : (L.length : Int) < (E.length : Int) := by omega
    clear h1 h2
    go_enter Try.func27, Try.ntmps27
    go_wp2_with fail
    go_ret
    exact ⟨by rw [HD.out]; rfl, rfl⟩
end Go.Proofs.Ytbakpgncfcmfhaa
