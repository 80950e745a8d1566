/-
  CONTRACTS: the document's own files as an object: what it tells.
-/
import Derived.Test.YtiacpopgnmledaaVrDoes
namespace Go.Proofs.Ytiacpopgnmledaa
open Go.RowKit
open Me

namespace Vf
structure Sv where
  room : Int
  now : List Fl
  was : List Fl
  l : List Ac
def used (l : List Fl) : Nat := (l.map (·.b.length)).sum
theorem used_take (l : List Fl) (k : Nat) (h : k < l.length) : used (l.take (k + 1)) = used (l.take k) + l[k].b.length := by
  unfold used
  rw [List.take_succ_eq_append_getElem h, List.map_append, List.sum_append]
  simp
theorem used_le (l : List Fl) (k : Nat) : used (l.take k) ≤ used l := by
  unfold used
  conv => rhs; rw [← List.take_append_drop k l]
  rw [List.map_append, List.sum_append]
  omega
theorem AcC.four {w : World} {G : Nat → Prop} : ∀ a cs, AcC w G a cs → cs.length = 4 := by
  rintro a cs ⟨v, rfl, _⟩; rfl
theorem AcC.keep {w w' : World} {G : Nat → Prop} (hs : w.heap.size ≤ w'.heap.size) (hk : ∀ i, i < w.heap.size → G i → w'.heap[i]? = w.heap[i]?) (a : Ac) (cs : List Value) (h : AcC w G a cs) : AcC w' G a cs := by
  obtain ⟨v, e, hb⟩ := h
  exact ⟨v, e, hb.keep hs hk⟩
theorem AcC.wide {w : World} {G G' : Nat → Prop} (hG : ∀ i, i < w.heap.size → G i → G' i) (a : Ac) (cs : List Value) (h : AcC w G a cs) : AcC w G' a cs := by
  obtain ⟨v, e, hb⟩ := h
  exact ⟨v, e, hb.mono hG⟩
theorem Fs.keep {w w' : World} {G : Nat → Prop} {v : Value} {l : List Fl} (h : Fs w G v l) (hs : w.heap.size ≤ w'.heap.size) (hk : ∀ i, i < w.heap.size → G i → w'.heap[i]? = w.heap[i]?) : Fs w' G v l := by
  obtain ⟨A, c, xs, e, h1, h2, h3, h4⟩ := h
  exact ⟨A, c, xs, e, h1, h2, h3.keep hs hk, h4.mono fun f cs hc => hc.keep hs hk⟩
theorem Fs.wide {w : World} {G G' : Nat → Prop} {v : Value} {l : List Fl} (h : Fs w G v l) (hG : ∀ i, i < w.heap.size → G i → G' i) : Fs w G' v l := by
  obtain ⟨A, c, xs, e, h1, h2, h3, h4⟩ := h
  exact ⟨A, c, xs, e, h1, h2, h3.mono hG, h4.mono fun f cs hc => hc.wide hG⟩
/-- The object at block fs, its row of acts in block lr, all else in blocks of G. -/
structure At (w : World) (G : Nat → Prop) (fs : Nat) (lr : Option Nat) (S : Sv) (nv wv lv : Value) (ys : List Value) : Prop where
  heap : w.heap[fs]? = some (.cells #[.int .i64 S.room, nv, wv, lv] 57 (0, 0))
  now : Fs w G nv S.now
  was : Fs w G wv S.was
  own : w.ownsRow 0 90 4 lv S.l.length ys
  acts : Els (AcC w G) S.l ys
  row : lv.ownBlock = lr
  gfs : ¬ G fs
  glr : ∀ g, lr = some g → ¬ G g ∧ g ≠ fs
  lt : ∀ b, G b → b < w.heap.size
theorem At.cells {w : World} {G : Nat → Prop} {fs : Nat} {lr : Option Nat} {S : Sv} {nv wv lv : Value} {ys : List Value} (h : At w G fs lr S nv wv lv ys) :
    w.cell? ⟨fs, 0, none⟩ = some (.int .i64 S.room) ∧ w.cell? ⟨fs, 1, none⟩ = some nv ∧ w.cell? ⟨fs, 2, none⟩ = some wv ∧ w.cell? ⟨fs, 3, none⟩ = some lv ∧ ∀ i, w.frozen? ⟨fs, i, none⟩ = false := by
  refine ⟨?_, ?_, ?_, ?_, fun i => ?_⟩
  · rw [cell_of_row w fs 0 _ _ _ h.heap]; rfl
  · rw [cell_of_row w fs 1 _ _ _ h.heap]; rfl
  · rw [cell_of_row w fs 2 _ _ _ h.heap]; rfl
  · rw [cell_of_row w fs 3 _ _ _ h.heap]; rfl
  · simp [World.frozen?, h.heap]
theorem At.fsLt {w : World} {G : Nat → Prop} {fs : Nat} {lr : Option Nat} {S : Sv} {nv wv lv : Value} {ys : List Value} (h : At w G fs lr S nv wv lv ys) : fs < w.heap.size := (Array.getElem?_eq_some_iff.1 h.heap).1
end Vf

set_option maxHeartbeats 800000 in
theorem used_any {w : World} {G : Nat → Prop} {fs : Nat} {lr : Option Nat} {S : Vf.Sv} {nv wv lv : Value} {ys : List Value} (h : Vf.At w G fs lr S nv wv lv ys) (hl : S.now.length ≤ 1048576) (hu : Vf.used S.now ≤ 1099511627776) :
    Calls Try.prog 33 #[.pointer (some ⟨fs, 0, none⟩)] w fun e w' => e = .returned (.int .i64 (Vf.used S.now : Int)) ∧ w = w' := by
  obtain ⟨c0, c1, c2, c3, hf⟩ := h.cells
  obtain ⟨A, c, xs, rfl, hc, hcm, hrd, hels⟩ := h.now
  unfold maxLen at hcm
  have HR := Lib.hid hrd
  have HE := Lib.hid hels
  have hl' : (S.now.length : Int) ≤ 1048576 := by omega
  clear hrd hels h c0 c2 c3 hf
  generalize S.now = l at *
  go_enter Try.func33, Try.ntmps33
  go_wp2_with fail
  go_loop [3, 4] (fun n i => ∃ (k : Nat) (x : Int), k ≤ l.length ∧ i = .int .i64 k ∧ n = .int .i64 x ∧ 0 ≤ x ∧ x ≤ 1099511627776 ∧ Hid (x = (Vf.used (l.take k) : Int))) (fun _ i => l.length - (intOf i).toNat)
  case atStart => exact ⟨0, 0, Nat.zero_le _, rfl, rfl, by omega, by omega, Lib.hid rfl⟩
  case round =>
    obtain ⟨k, x, hk, rfl, rfl, x0, x1, hx⟩ := hrel
    by_cases hlt : k < l.length
    · obtain ⟨cs, ⟨bv, rfl, hbs⟩, hxx⟩ := HE.out.get Vf.FlC.two k hlt
      have hxl := HE.out.length Vf.FlC.two
      obtain ⟨rb, ro, rfl, hlt2, hg, hcell⟩ := HR.out.lit (k * 2) (by omega)
      obtain ⟨A2, cc, rfl, hc2, hcm2, hrd2⟩ := hbs
      have hcl2 : w.cell? ⟨rb, ro + k * 2 + 1, none⟩ = some (.slice A2 (l[k].b).length cc) := by have := hcell _ _ (hxx 1 (by omega)); rwa [← Nat.add_assoc] at this
      have hs := Lib.hid (Vf.used_take l k hlt)
      have hle := Vf.used_le l (k + 1)
      have hb : x + (l[k].b).length ≤ 1099511627776 := by have := hs.out; have := hx.out; omega
      clear hxx hxl hcell hrd2 hle
      go_wp2_with fail
      go_round
      case rel => exact ⟨k + 1, _, by omega, by go_num, rfl, by omega, by omega, Lib.hid (by rw [hs.out]; have := hx.out; omega)⟩
      case measure => simp [intOf]; omega
    · obtain rfl : k = l.length := by omega
      rw [List.take_length] at hx
      go_wp2_with fail
      go_ret
      exact ⟨ret_i64 hx.out, rfl⟩

end Go.Proofs.Ytiacpopgnmledaa
