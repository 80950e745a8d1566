/-
  The program's files with rows of the law's own beside them: each call of VfsOwn as a step.
-/
import Derived.Test.YtiacpopgnmledaaVsRow2
import Derived.Test.YtiacpopgnmledaaVsOwnRd
namespace Go.Proofs.Ytiacpopgnmledaa
open Go.RowKit
open Me Vf
namespace Vs
theorem owns_low {w : World} {base base2 : Nat} {e : TypeId} {size n : Nat} {v : Value} {xs : List Value} (h : w.ownsRow base2 e size v n xs) (hb : base ≤ base2) : w.ownsRow base e size v n xs := by
  refine ⟨h.1, ?_⟩
  rcases h.2 with h0 | ⟨g, cap, cur, hv, h1, rest⟩
  · exact .inl h0
  · exact .inr ⟨g, cap, cur, hv, Nat.le_trans hb h1, rest⟩
theorem rd_drop8 {w : World} {G : Nat → Prop} {A : Option Addr} {L : List UInt8} {q cc : Nat} (h : Rd w G A (by8 L)) (hc : L.length ≤ cc) : Rd w G (if cc = q then A else Option.map (fun x => x.add q) A) (by8 (L.drop q)) := by
  by_cases hq : L.length ≤ q
  · rw [List.drop_eq_nil_of_le hq]
    exact Rd.none_ _ _ _
  · rw [if_neg (by omega)]
    intro hn
    obtain ⟨ad, rfl, h2⟩ := h (by rintro e; apply hn; rw [← by8_drop, e]; simp)
    have := (Rd.sub (w := w) (G := G) (ad := ad) (xs := by8 L) (fun _ => ⟨ad, rfl, h2⟩) q (L.length - q))
    rw [by8_drop, List.take_of_length_le (by rw [by8_len, List.length_drop]; omega)] at this
    exact this hn

/-- The files at fs as S says, and the rows of R, all made since w0. -/
structure Fo (w0 w : World) (fs N : Nat) (S : Sv) (R : List (Value × List UInt8)) : Prop where
  below : Below w0.heap.size w0 w
  files : ∃ M, Vp.Pg w M fs N S ∧ (∀ b, M b → w0.heap.size ≤ b ∧ b < w.heap.size) ∧ ∀ r ∈ R, ∀ g, r.1.ownBlock = some g → ¬ M g
  rows : ∀ r ∈ R, w.ownsRow w0.heap.size 5 1 r.1 r.2.length (by8 r.2)
  apart : R.Pairwise fun a b => ∀ g, a.1.ownBlock = some g → b.1.ownBlock ≠ some g
theorem Fo.under {w0 w w' : World} {fs N : Nat} {S : Sv} {R : List (Value × List UInt8)} (h : Fo w0 w fs N S R) (b : Below w.heap.size w w') : Fo w0 w' fs N S R := by
  obtain ⟨h1, ⟨M, h2, h3, h4⟩, h5, h6⟩ := h
  exact ⟨h1.trans (b.mono h1.size), ⟨M, h2.below b, fun x hx => ⟨(h3 x hx).1, Nat.lt_of_lt_of_le (h3 x hx).2 b.size⟩, h4⟩, fun r hr => owns_keep (h5 r hr) (fun g hg => b.block g ((h5 r hr).lt g hg).2), h6⟩
theorem Fo.swap {w0 w : World} {fs N : Nat} {S : Sv} {a b : Value × List UInt8} {R : List (Value × List UInt8)} (h : Fo w0 w fs N S (a :: b :: R)) : Fo w0 w fs N S (b :: a :: R) := by
  obtain ⟨h1, ⟨M, h2, h3, h4⟩, h5, h6⟩ := h
  have hm : ∀ r, r ∈ b :: a :: R → r ∈ a :: b :: R := fun r hr => by
    simp only [List.mem_cons] at hr ⊢
    rcases hr with h | h | h
    · exact .inr (.inl h)
    · exact .inl h
    · exact .inr (.inr h)
  refine ⟨h1, ⟨M, h2, h3, fun r hr => h4 r (hm r hr)⟩, fun r hr => h5 r (hm r hr), ?_⟩
  rw [List.pairwise_cons] at h6
  obtain ⟨p1, p2⟩ := h6
  rw [List.pairwise_cons] at p2
  obtain ⟨p2, p3⟩ := p2
  refine List.pairwise_cons.2 ⟨fun r hr => ?_, List.pairwise_cons.2 ⟨fun r hr => p1 r (List.mem_cons_of_mem _ hr), p3⟩⟩
  rcases List.mem_cons.1 hr with rfl | hr
  · exact fun g hg e => p1 b (List.mem_cons_self ..) g e hg
  · exact p2 r hr
theorem Fo.row {w0 w w' : World} {fs N : Nat} {S : Sv} {R : List (Value × List UInt8)} {v : Value} {l : List UInt8} (h : Fo w0 w fs N S R) (hv : w'.ownsRow w.heap.size 5 1 v l.length (by8 l)) (b : Below w.heap.size w w') : Fo w0 w' fs N S ((v, l) :: R) := by
  have hu := h.under b
  obtain ⟨h1, ⟨M, h2, h3, h4⟩, h5, h6⟩ := h
  obtain ⟨u1, _, u5, _⟩ := hu
  refine ⟨u1, ⟨M, h2.below b, fun x hx => ⟨(h3 x hx).1, Nat.lt_of_lt_of_le (h3 x hx).2 b.size⟩, fun r hr g hg hm => ?_⟩, fun r hr => ?_, List.pairwise_cons.2 ⟨fun r hr g hg e => ?_, h6⟩⟩
  · rcases List.mem_cons.1 hr with rfl | hr
    · have := (hv.lt g hg).1
      have := (h3 g hm).2
      omega
    · exact h4 r hr g hg hm
  · rcases List.mem_cons.1 hr with rfl | hr
    · exact owns_low hv h1.size
    · exact u5 r hr
  · have := (hv.lt g hg).1
    have := ((h5 r hr).lt g e).2
    omega
theorem Fo.spoilt {w0 w w' : World} {fs N : Nat} {S : Sv} {R : List (Value × List UInt8)} {r : Value × List UInt8} (h : Fo w0 w fs N S (r :: R)) (k : Kp (fun b => r.1.ownBlock = some b) w w') : Fo w0 w' fs N S R := by
  obtain ⟨h1, ⟨M, h2, h3, h4⟩, h5, h6⟩ := h
  obtain ⟨p1, p2⟩ := List.pairwise_cons.1 h6
  have hr0 := h5 r (List.mem_cons_self ..)
  refine ⟨h1.trans (k.below h1.size (fun i hi e => by have := (hr0.lt i e).1; omega)), ⟨M, h2.kp k (fun b hb => h4 r (List.mem_cons_self ..) b hb), fun x hx => ⟨(h3 x hx).1, Nat.lt_of_lt_of_le (h3 x hx).2 k.size⟩, fun x hx => h4 x (List.mem_cons_of_mem _ hx)⟩, fun x hx => ?_, p2⟩
  have hx0 := h5 x (List.mem_cons_of_mem _ hx)
  exact owns_keep hx0 (fun g hg => k.block g (hx0.lt g hg).2 (fun e => p1 x hx g e hg))
theorem Fo.act {w0 w W : World} {fs N N' f : Nat} {S S' : Sv} {R : List (Value × List UInt8)} {args : Array Value} {v : Value} (h : Fo w0 w fs N S R) (hW : Below w.heap.size w W)
    (hc : ∀ M, Vp.Pg W M fs N S → (∀ r ∈ R, ∀ g, r.1.ownBlock = some g → ¬ M g) → (∀ b, M b → b < w.heap.size) → Calls Try.prog f args W (Vp.PNext W M fs N' S' v)) : Calls Try.prog f args W fun e w' => e = .returned v ∧ Hid (Fo w0 w' fs N' S' R) := by
  have hu := h.under hW
  obtain ⟨h1, ⟨M, h2, h3, h4⟩, h5, h6⟩ := h
  obtain ⟨u1, _, u5, _⟩ := hu
  refine (hc M (h2.below hW) h4 (fun b hb => (h3 b hb).2)).mono ?_
  rintro e w' ⟨rfl, M', p1, p2, p3⟩
  obtain ⟨M2, q1, q2⟩ := p1.tight
  refine ⟨rfl, Lib.hid ⟨u1.trans (p2.below u1.size (fun i hi hm => by have := (h3 i hm).1; omega)), ⟨M2, q1, fun b hb => ⟨?_, (q2 b hb).2⟩, fun r hr g hg hm => ?_⟩, fun r hr => ?_, h6⟩⟩
  · rcases p3 b (q2 b hb).1 with h | h
    · exact (h3 b h).1
    · exact Nat.le_trans u1.size h
  · rcases p3 g (q2 g hm).1 with h | h
    · exact h4 r hr g hg h
    · have := ((u5 r hr).lt g hg).2
      omega
  · exact owns_keep (u5 r hr) (fun g hg => p2.block g ((u5 r hr).lt g hg).2 (h4 r hr g hg))
/-- A row's bytes without the mark, as a row of rows of one. -/
theorem row_part {w : World} {base g cap : Nat} {l : List UInt8} (h : w.ownsRow base 5 1 (.slice (some ⟨g, 0, none⟩) (l.length + 1) cap) (l ++ [171]).length (by8 (l ++ [171]))) : Bs w (fun b => b = g) (.slice (some ⟨g, 0, none⟩) l.length cap) l ∧ ((l.length + 1 : Nat) : Int) ≤ (cap : Int) := by
  rw [List.length_append] at h
  obtain ⟨_, c, e, hc, hcm⟩ := Vp.own_form h
  injection e with e1 e2 e3
  subst e1 e3
  simp at hc
  refine ⟨⟨_, cap, rfl, by omega, hcm, fun hn => ⟨_, rfl, (h.lt g rfl).2, rfl, fun j u hu => ?_⟩⟩, by omega⟩
  have hj : j < l.length := by
    rcases Nat.lt_or_ge j l.length with h | h
    · exact h
    · rw [List.getElem?_eq_none (by rw [by8_len]; exact h)] at hu; cases hu
  rw [Addr.add_lit, Nat.zero_add, h.cellAt j (by simp; omega), by8_append, List.getElem?_append_left (by rw [by8_len]; exact hj)]
  exact hu
theorem one_row {w : World} {g cap : Nat} {l : List UInt8} (h : Bs w (fun b => b = g) (.slice (some ⟨g, 0, none⟩) l.length cap) l) :
    Vf.Ps (w.alloc (.cells #[.slice (some ⟨g, 0, none⟩) l.length cap] 40)) (fun b => b = g ∨ b = w.heap.size) (.slice (some ⟨w.heap.size, 0, none⟩) 1 1) [l] := by
  have hf := (Rd.fresh w [.slice (some ⟨g, 0, none⟩) l.length cap] 40 w.heap.size rfl).mono (G' := fun b => b = g ∨ b = w.heap.size) (fun i _ hi => .inr hi)
  exact ⟨_, 1, _, rfl, Nat.le_refl _, by unfold maxLen; omega, hf, Els.one ⟨_, rfl, (h.below ((Below.refl _ _).alloc (Nat.le_refl _) _)).mono (fun i _ hi => .inl hi)⟩⟩
end Vs
end Go.Proofs.Ytiacpopgnmledaa
