/-
  CONTRACTS: chapter 3's law: rows of bytes of the law's own: made with room behind, looked at, spoilt; and Read's answer as a row.
-/
import Derived.Test.YtiacpopgnmledaaVsPlay
import Derived.Deep.RegionLaw
namespace Go.Proofs.Ytiacpopgnmledaa
open Go.RowKit
open Me Vf
namespace Vs
/-- What roomy leaves. -/
def Roomed (w : World) (l : List UInt8) (e : Ending) (w' : World) : Prop := ∃ g cap, e = .returned (.slice (some ⟨g, 0, none⟩) (l.length + 1) cap) ∧ w'.ownsRow w.heap.size 5 1 (.slice (some ⟨g, 0, none⟩) (l.length + 1) cap) (l.length + 1) (by8 (l ++ [171])) ∧ Below w.heap.size w w'
theorem roomed {w w1 w2 w3 : World} {l : List UInt8} {v1 v2 : Value} {g3 cap3 : Nat}
    (ho1 : (w1.alloc (.cells #[.int .u8 171] 5)).ownsRow w.heap.size 5 1 v1 (0 + l.length) ([] ++ by8 l))
    (hg1 : (w.alloc (.cells #[] 5)).grownBy w1 (Value.slice (some ⟨w.heap.size, 0, none⟩) 0 0).ownBlock) (hs1 : w.heap.size ≤ w1.heap.size)
    (ho2 : (w2.alloc (.cells #[.int .u8 171] 5)).ownsRow w.heap.size 5 1 v2 (0 + l.length + 1) ([] ++ by8 l ++ [.int .u8 171]))
    (hg2 : (w1.alloc (.cells #[.int .u8 171] 5)).grownBy w2 v1.ownBlock) (hs2 : w.heap.size ≤ w2.heap.size)
    (ho3 : w3.ownsRow w.heap.size 5 1 (.slice (some ⟨g3, 0, none⟩) (0 + l.length + 1 + 1) cap3) (0 + l.length + 1 + 1) ([] ++ by8 l ++ [.int .u8 171] ++ [.int .u8 171]))
    (hg3 : (w2.alloc (.cells #[.int .u8 171] 5)).grownBy w3 v2.ownBlock) : Roomed w l (.returned (.slice (some ⟨g3, 0, none⟩) (l.length + 1) cap3)) w3 := by
  refine ⟨g3, cap3, rfl, ?_, ?_⟩
  · rw [Nat.zero_add] at ho3
    have := Vp.own_less ho3
    rw [List.nil_append, Nat.mul_one, List.take_left' (by simp [by8_len])] at this
    rw [by8_append]
    exact this
  · exact ((((((Below.refl w.heap.size w).alloc (Nat.le_refl _) _).grown hg1 (by simp) (fun g hg => by simp [Value.ownBlock] at hg; omega)).alloc hs1 _).grown hg2 (by simp; omega) (fun g hg => (ho1.lt g hg).1)).alloc hs2 _).grown hg3 (by simp; omega) (fun g hg => (ho2.lt g hg).1)
theorem row_cell {w : World} {base n : Nat} {e : TypeId} {g cap : Nat} {xs : List Value} (h : w.ownsRow base e 1 (.slice (some ⟨g, 0, none⟩) n cap) n xs) (i : Nat) (u : Value) (hu : xs[i]? = some u) : w.cell? ⟨g, i, none⟩ = some u := by
  have hx : xs ≠ [] := by rintro rfl; simp at hu
  obtain ⟨ad, e, _, _, hc⟩ := (Rd.own h) hx
  obtain rfl := Option.some.inj e
  have := hc i u hu
  rwa [Addr.add_lit, Nat.zero_add] at this
/-- What spoil leaves. -/
def Spoilt (w : World) (g : Nat) (e : Ending) (w' : World) : Prop := e = .returned (.tuple #[]) ∧ Kp (fun b => b = g) w w'
end Vs

set_option maxRecDepth 100000 in
set_option maxHeartbeats 1000000 in
theorem roomy_any (l : List UInt8) (v : Value) (G : Nat → Prop) (w : World) (h : Bs w G v l) (hl : l.length ≤ 1048576) :
    Calls Try.prog 15 #[v] w (Vs.Roomed w l) := by
  obtain ⟨i0, hi0, hz0, hz1, hz2⟩ := info_parts u8info
  have HI := Lib.hid hi0
  have HZ := Lib.hid (And.intro hz0 (And.intro hz1 hz2))
  clear hi0 hz0 hz1 hz2
  obtain ⟨A, c, rfl, hc, hcm, hr⟩ := h
  unfold maxLen at hcm
  have hl' : (l.length : Int) ≤ 1048576 := by omega
  have HR := Lib.hid (hr.keep (w' := w.alloc (.cells #[] 5)) (by simp) (fun b hb _ => Below.heap_alloc w _ b hb))
  clear hr
  go_enter Try.func15, Try.ntmps15
  go_wp2_with (first | (at_builtin; (refine wpList_app _ rfl (.tmp 3) (.tmp 4) 40 rfl w.heap.size 5 i0 (.int .u8 0) 1 1 Try.underlying40 HI.out HZ.out.1 HZ.out.2.1 HZ.out.2.2 rfl (by decide) (.slice (some ⟨w.heap.size, 0, none⟩) 0 0) 0 [] rfl (owns_empty _ _ _ rfl) G A l.length c (by8 l) rfl (by rw [by8_len]; omega) HR.out (by8_one _) (by unfold maxLen; omega) (by omega) (by simp) ?_; intro v1 w1 hown1 hg1 hat1 hnil1; have HO1 := Lib.hid (hown1.alloc (.cells #[.int .u8 171] 5)); have HG1 := Lib.hid hg1; have hs1 : w.heap.size ≤ w1.heap.size := (by have := hg1.size; simp at this; omega); have HF1 := Lib.hid (Rd.fresh w1 [.int .u8 171] 5 w1.heap.size rfl); clear hown1 hg1 hat1 hnil1)) | (at_builtin; (refine wpList_app _ rfl (.tmp 5) (.tmp 6) 40 rfl w.heap.size 5 i0 (.int .u8 0) 1 1 Try.underlying40 HI.out HZ.out.1 HZ.out.2.1 HZ.out.2.2 rfl (by decide) v1 (0 + l.length) _ rfl HO1.out (fun b => b = w1.heap.size) (some ⟨w1.heap.size, 0, none⟩) 1 1 [.int .u8 171] rfl rfl HF1.out (by intro u hu; simp at hu; subst hu; rfl) (by unfold maxLen; omega) (by omega) (by simp; omega) ?_; intro v2 w2 hown2 hg2 hat2 hnil2; have HO2 := Lib.hid (hown2.alloc (.cells #[.int .u8 171] 5)); have HG2 := Lib.hid hg2; have hs2 : w.heap.size ≤ w2.heap.size := (by have := hg2.size; simp at this; omega); have HF2 := Lib.hid (Rd.fresh w2 [.int .u8 171] 5 w2.heap.size rfl); clear hown2 hg2 hat2 hnil2)) | (at_builtin; (refine wpList_app _ rfl (.tmp 7) (.tmp 8) 40 rfl w.heap.size 5 i0 (.int .u8 0) 1 1 Try.underlying40 HI.out HZ.out.1 HZ.out.2.1 HZ.out.2.2 rfl (by decide) v2 (0 + l.length + 1) _ rfl HO2.out (fun b => b = w2.heap.size) (some ⟨w2.heap.size, 0, none⟩) 1 1 [.int .u8 171] rfl rfl HF2.out (by intro u hu; simp at hu; subst hu; rfl) (by unfold maxLen; omega) (by omega) (by simp; omega) ?_; intro v3 w3 hown3 hg3 hat3 hnil3; obtain ⟨g3, cap3, rfl⟩ := owns_form hown3 (by omega); have HO3 := Lib.hid hown3; have HG3 := Lib.hid hg3; have hcap : ((l.length + 1 : Nat) : Int) ≤ (cap3 : Int) := (by obtain ⟨_, _, e, h9, _⟩ := Vp.own_form hown3; injection e with _ _ e3; omega); clear hown3 hg3 hat3 hnil3)))
  go_ret
  exact Vs.roomed HO1.out HG1.out hs1 HO2.out HG2.out hs2 HO3.out HG3.out
end Go.Proofs.Ytiacpopgnmledaa
