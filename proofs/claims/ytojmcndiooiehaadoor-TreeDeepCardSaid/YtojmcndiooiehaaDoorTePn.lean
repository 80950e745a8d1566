/-
  CONTRACTS: chapter 15: the program's printer: every node that may be.
-/
import Derived.Test.YtojmcndiooiehaaDoorTePc
namespace Go.Proofs.YtojmcndiooiehaaDoor
open Go.RowKit Go.Sort
open Me

set_option maxRecDepth 100000 in
set_option maxHeartbeats 8000000 in
theorem tnode_call {B r : Nat} {l out : List UInt8} {w : World} (s : List UInt8) (n : Int) (A : Option Addr) (m c : Nat) (h : Tb.Pr B r l w) (hB : B ≤ w.heap.size)
    (hC : ∀ W, Tb.Pw B r l w W → Calls Tryd.prog 18 #[.pointer (some ⟨r, 0, none⟩), .agg #[.int .i64 1, .string ⟨s.toArray⟩, .int .i64 n, .slice A m c]] W fun e w' => e = .returned (.tuple #[]) ∧ Tb.Pw B r (l ++ out) W w') :
    Calls Tryd.prog 12 #[.pointer (some ⟨r, 0, none⟩), .agg #[.int .i64 1, .string ⟨s.toArray⟩, .int .i64 n, .slice A m c]] w fun e w' => e = .returned (.tuple #[]) ∧ Tb.Pw B r (l ++ out) w w' := by
  have hrl := h.lt
  have HP0 := Lib.hid (Tb.Pw.refl h hB)
  have HC := Lib.hid hC
  clear h hC
  go_enter Tryd.func12, Tryd.ntmps12
  go_wp2_with (go_at_call 18; go_must (refine (HC.out _ (HP0.out.alloc _)).mono ?_; rintro e w6 ⟨rfl, hw6⟩; have HW6 := Lib.hid ((HP0.out.alloc _).trans hw6); clear hw6))
  go_end0
  exact ⟨rfl, HW6.out⟩

namespace Te
theorem oks_mem : ∀ (d : Nat) (l : List Nd), oks d l = true → ∀ x ∈ l, ok d x = true
  | _, [], _, x, hx => by cases hx
  | d, y :: r, h, x, hx => by
    rw [oks, Bool.and_eq_true] at h
    rcases List.mem_cons.1 hx with rfl | hx
    · exact h.1
    · exact oks_mem d r h.2 x hx
theorem ok_call {d : Nat} {s : List UInt8} {n : Int} {ks : List Nd} (h : ok d (.mk 1 s n ks) = true) : 0 < d ∧ n = 0 ∧ Lx.identOf s = true ∧ oks (d - 1) ks = true := by
  rw [ok, if_pos rfl] at h
  simpa using h
theorem ok_leaf {d : Nat} {k : Int} {s : List UInt8} {n : Int} {ks : List Nd} (hk : k ≠ 1) (h : ok d (.mk k s n ks) = true) : 0 < d ∧ ks = [] ∧ leafOk k s n = true := by
  rw [ok, if_neg hk] at h
  simpa using h
theorem leaf_kind {k : Int} {s : List UInt8} {n : Int} (h : leafOk k s n = true) : k = 2 ∨ k = 3 ∨ k = 4 ∨ k = 5 := by
  by_cases h2 : k = 2
  · exact .inl h2
  by_cases h3 : k = 3
  · exact .inr (.inl h3)
  by_cases h4 : k = 4
  · exact .inr (.inr (.inl h4))
  by_cases h5 : k = 5
  · exact .inr (.inr (.inr h5))
  unfold leafOk at h
  rw [if_neg h2, if_neg h3, if_neg h4, if_neg h5] at h
  cases h
theorem txt_path (s : List UInt8) (n : Int) (ks : List Nd) : txt (.mk 2 s n ks) = s := by rw [txt, if_neg (by decide), if_pos rfl]
theorem txt_num (s : List UInt8) (n : Int) (ks : List Nd) : txt (.mk 3 s n ks) = Dc.pr true n := by rw [txt, if_neg (by decide), if_neg (by decide), if_pos rfl]
theorem txt_str (s : List UInt8) (n : Int) (ks : List Nd) : txt (.mk 4 s n ks) = quoted s := by rw [txt, if_neg (by decide), if_neg (by decide), if_neg (by decide), if_pos rfl]
theorem txt_bool (s : List UInt8) (n : Int) (ks : List Nd) : txt (.mk 5 s n ks) = bword n := by rw [txt, if_neg (by decide), if_neg (by decide), if_neg (by decide), if_neg (by decide), if_pos rfl]; rfl
end Te

/-- The printer, for every node that may be. -/
theorem tnode_any (B r : Nat) : ∀ (d : Nat) (x : Te.Nd), Te.ok d x = true → Te.NodeC B r x
  | 0, .mk k s n ks, h => by
    rw [Te.ok] at h
    simp at h
  | d + 1, .mk k s n ks, h => by
    intro l w kv hp hB hat hlen
    by_cases hk : k = 1
    · subst hk
      obtain ⟨_, _, _, h4⟩ := Te.ok_call h
      have hX : ∀ x ∈ ks, Te.NodeC B r x := fun x hx => tnode_any B r d x (Te.oks_mem d ks h4 x hx)
      have hat' := hat
      rw [Te.At] at hat'
      obtain ⟨A, c, xs, rfl, _, _⟩ := hat'
      exact tnode_call s n A ks.length c hp hB fun W hW => tpcall_any s n ks _ hX hW.pr (Nat.le_trans hW.base hW.size) (Te.At.keep hW.bel.size (fun _ _ h => h) (fun i _ hg => hW.bel.block i hg) _ _ hat) hlen
    · obtain ⟨_, rfl, hl⟩ := Te.ok_leaf hk h
      rw [Te.At] at hat
      obtain ⟨A, c, xs, rfl, _, _⟩ := hat
      rcases Te.leaf_kind hl with rfl | rfl | rfl | rfl
      · rw [Te.txt_path] at hlen ⊢; exact tnode_path s n A 0 c hp hB hlen
      · rw [Te.txt_num] at hlen ⊢; exact tnode_num s n A 0 c hp hB hlen
      · rw [Te.txt_str] at hlen ⊢; exact tnode_str s n A 0 c hp hB hlen
      · rw [Te.txt_bool] at hlen ⊢; exact tnode_bool s n A 0 c hp hB hlen
end Go.Proofs.YtojmcndiooiehaaDoor
