/-
  TrNew: CONTRACTS: package trie: New.
  GlTree: MEMORY: rows of alternatives in memory (chapter 9), each with what it means; what stands of them when the world goes on.
-/
import Derived.Test.YtfmbbhcjnidcbaaGreatDoorJ22
import Derived.Test.YtfmbbhcjnidcbaaGreatDoorJ9
import Derived.Test.YtfmbbhcjnidcbaaGreatDoorJ6

namespace Go.Proofs.YtfmbbhcjnidcbaaGreatDoor
open Go.RowKit
open Me

namespace Tr
def empty (b : Nat) : Ns := fun q => match q with
  | [] => some ⟨b, none, false⟩
  | _ :: _ => none
theorem empty_snoc (b : Nat) (q : Path) (k : List UInt8) : empty b (q ++ [k]) = none := by cases q <;> rfl
theorem empty_some {b : Nat} {q : Path} {n : Nd} (h : empty b q = some n) : q = [] ∧ n = ⟨b, none, false⟩ := by
  cases q with
  | nil => exact ⟨rfl, (Option.some.inj h).symm⟩
  | cons a r => cases h
theorem empty_tree {w : World} {b : Nat} {T0 : TypeId} {x0 : Value} (h : w.heap[b]? = some (.cells #[.map none, x0] T0 (0, 0))) : Tree w T0 x0 0 (empty b) where
  root := by simp [empty]
  closed q k hf := absurd (empty_snoc b q k) hf
  node q n hn := by obtain ⟨rfl, rfl⟩ := empty_some hn; exact h
  map q n hn := by obtain ⟨rfl, rfl⟩ := empty_some hn; exact .inl ⟨rfl, fun _ => rfl⟩
  inj q q' n n' hn hn' _ := by rw [(empty_some hn).1, (empty_some hn').1]
  injm q q' n n' m hn _ hm _ := by obtain ⟨_, rfl⟩ := empty_some hn; cases hm
  key q k hf := absurd (empty_snoc b q k) hf
theorem empty_of (b : Nat) : Of (empty b) [] := Of.empty (by simp [empty]) rfl fun q hq => by
  cases q with
  | nil => exact absurd rfl hq
  | cons a r => rfl
theorem empty_own {b i : Nat} (h : own (empty b) i) : i = b := by
  obtain ⟨q, n, hn, hi⟩ := h
  obtain ⟨_, rfl⟩ := empty_some hn
  rcases hi with h | h
  · exact h
  · cases h
def newL (l : List (List UInt8)) : List (List UInt8) := l.foldl insV []
theorem insV_len (L : List (List UInt8)) (s : List UInt8) : (insV L s).length ≤ L.length + 1 := by
  unfold insV
  split
  · split
    · omega
    · unfold ins; rw [put_len]; exact Nat.le_refl _
  · omega
theorem mem_insV (L : List (List UInt8)) (s t : List UInt8) : t ∈ insV L s ↔ t ∈ L ∨ (t = s ∧ Nm.is s = true) := by
  unfold insV
  by_cases hi : Nm.is s = true
  · rw [if_pos hi]
    by_cases hs : s ∈ L
    · rw [if_pos hs]
      exact ⟨.inl, fun h => h.elim (fun h => h) fun h => h.1 ▸ hs⟩
    · rw [if_neg hs, mem_ins]
      exact ⟨fun h => h.elim (fun e => .inr ⟨e, hi⟩) .inl, fun h => h.elim .inr fun h => .inl h.1⟩
  · rw [if_neg hi]
    exact ⟨.inl, fun h => h.elim (fun h => h) fun h => absurd h.2 hi⟩
theorem mem_from (l : List (List UInt8)) : ∀ (L : List (List UInt8)) (t : List UInt8), t ∈ l.foldl insV L ↔ t ∈ L ∨ (t ∈ l ∧ Nm.is t = true) := by
  induction l with
  | nil => intro L t; simp
  | cons s r ih =>
    intro L t
    show t ∈ r.foldl insV (insV L s) ↔ _
    rw [ih, mem_insV, List.mem_cons]
    constructor
    · rintro ((h | ⟨rfl, h⟩) | ⟨h1, h2⟩)
      · exact .inl h
      · exact .inr ⟨.inl rfl, h⟩
      · exact .inr ⟨.inr h1, h2⟩
    · rintro (h | ⟨rfl | h1, h2⟩)
      · exact .inl (.inl h)
      · exact .inl (.inr ⟨rfl, h2⟩)
      · exact .inr ⟨h1, h2⟩
theorem mem_newL (l : List (List UInt8)) (t : List UInt8) : t ∈ newL l ↔ t ∈ l ∧ Nm.is t = true := by
  unfold newL; rw [mem_from]; simp
theorem newL_take (l : List (List UInt8)) (k : Nat) (h : k < l.length) : newL (l.take (k + 1)) = insV (newL (l.take k)) l[k] := by
  unfold newL; rw [List.take_succ_eq_append_getElem h, List.foldl_append]; rfl
/-- A Trie of the call's own. -/
def Own_ (w W : World) (b k : Nat) (L : List (List UInt8)) : Prop := ∃ c F, c ≤ 20 * k ∧ At_ W b c F L ∧ (∀ i, own F i → w.heap.size ≤ i) ∧ Below w.heap.size w W
theorem Own_.start (w : World) : Own_ w (w.alloc (.cells #[.map none, .int .i64 0] 50)) w.heap.size 0 (newL []) := by
  have h := heap_alloc_new w (.cells #[.map none, .int .i64 0] 50)
  refine ⟨0, empty w.heap.size, Nat.le_refl _, ⟨empty_tree h, ⟨_, rfl, rfl⟩, empty_of _, List.Pairwise.nil, fun _ h => (by cases h), Nat.zero_le _, Nat.zero_le _⟩, fun i hi => by rw [empty_own hi]; exact Nat.le_refl _, (Below.refl _ _).alloc (Nat.le_refl _) _⟩
theorem Own_.below {w W W' : World} {b k : Nat} {L : List (List UInt8)} (h : Own_ w W b k L) (hb : Below W.heap.size W W') : Own_ w W' b k L := by
  obtain ⟨c, F, h1, h2, h3, h4⟩ := h
  exact ⟨c, F, h1, h2.below hb, h3, h4.trans (hb.mono h4.size)⟩
theorem Own_.step {w W W' : World} {b k : Nat} {L L' : List (List UInt8)} {c : Nat} {F : Ns} (h1 : c ≤ 20 * k) (h3 : ∀ i, own F i → w.heap.size ≤ i) (h4 : Below w.heap.size w W) (h : InsR W b c F L L' W') : Own_ w W' b (k + 1) L' := by
  obtain ⟨c', F', a1, a2, a3, a4⟩ := h
  refine ⟨c', F', by omega, a2, fun i hi => (a4 i hi).elim (h3 i) fun h => Nat.le_trans h4.size h, ?_⟩
  exact h4.trans (a3.below h4.size fun i hi ho => by have := h3 i ho; omega)
end Tr

set_option maxRecDepth 100000 in
set_option maxHeartbeats 1000000 in
theorem New_any (l : List (List UInt8)) (A : Option Addr) (cap : Nat) (w : World) (hr : Rd w (fun _ => True) A (byS l)) (hn : l.length ≤ 10000) (hl : ∀ s ∈ l, s.length ≤ 4294967270) (hm : Mx w) :
    Calls Tryz.prog 5 #[.slice A l.length cap] w fun e w' => e = .returned (.pointer (some ⟨w.heap.size, 0, none⟩)) ∧ Tr.Own_ w w' w.heap.size l.length (Tr.newL l) := by
  have HR := Lib.hid hr
  have HM : Hid (∀ W, Below w.heap.size w W → Mx W) := Lib.hid fun W h => hm.below h
  have HL := Lib.hid hl
  have H0 := Lib.hid (Tr.Own_.start w)
  have hln : (l.length : Int) ≤ 10000 := by omega
  clear hr hm hl
  go_enter Tryz.func5, Tryz.ntmps5
  go_wp2_with fail
  go_loopw [10] (fun i wr => ∃ k : Nat, k ≤ l.length ∧ i = .int .i64 k ∧ Hid (Tr.Own_ w wr w.heap.size k (Tr.newL (l.take k)))) (fun i _ => l.length - (intOf i).toNat)
  case atStart => exact ⟨0, Nat.zero_le _, rfl, by rw [List.take_zero]; exact H0⟩
  case round =>
    obtain ⟨k, hk, rfl, HO⟩ := hrel
    have hk0 : (0 : Int) ≤ (k : Int) := by omega
    by_cases hlt : k < l.length
    · obtain ⟨c, F, h1, h2, h3, h4⟩ := HO.out
      obtain ⟨lb, lo, rfl, hlb, _, hx⟩ := HR.out.lit k (by rw [byS_len]; exact hlt)
      have ec := (h4.cell (p := ⟨lb, lo + k, none⟩) hlb).trans (hx k _ (byS_get l k hlt))
      have hkl : (k : Int) < (l.length : Int) := by omega
      have hlen : ∀ j, j ≤ l.length → (Tr.newL (l.take j)).length ≤ j := by
        intro j
        induction j with
        | zero => intro _; rw [List.take_zero]; exact Nat.le_refl _
        | succ j ih =>
          intro hj
          rw [Tr.newL_take l j (by omega)]
          have := Tr.insV_len (Tr.newL (l.take j)) l[j]
          have := ih (by omega)
          omega
      have hlk := hlen k hk
      have HIn := Lib.hid ((Insert_any h2 (by omega) (by omega) l[k] (HL.out _ (List.getElem_mem hlt)) (HM.out wr h4)).mono fun e w' hp => (⟨hp.1, Tr.Own_.step h1 h3 h4 hp.2⟩ : _ ∧ Tr.Own_ w w' w.heap.size (k + 1) _))
      rw [← Tr.newL_take l k hlt] at HIn
      generalize (if Nm.is l[k] = true then (0 : Int) else 14) = er at *
      clear h1 h2 h3 h4 hx hlen hlk
      generalize l[k] = s at *
      go_wp2_with (go_at_call 6; go_must (refine HIn.out.mono ?_; rintro e w1 ⟨rfl, ho⟩; have HO1 := Lib.hid ho; clear ho))
      go_roundw
      case rel => exact ⟨k + 1, by omega, by go_num, HO1⟩
      case measure => simp [intOf]; omega
    · obtain rfl : k = l.length := by omega
      rw [List.take_length] at HO
      go_wp2
      go_ret
      exact ⟨rfl, HO.out⟩
end Go.Proofs.YtfmbbhcjnidcbaaGreatDoor

namespace Go.Proofs.YtfmbbhcjnidcbaaGreatDoor
open Go.RowKit
open Me

namespace Gl
def lim (n : Nat) : Nat := min n 513
theorem lim_le (n : Nat) : lim n ≤ 513 := Nat.min_le_right _ _
theorem lim_mul (a b : Nat) : lim (lim a * lim b) = lim (a * b) := by
  have key : ∀ x y : Nat, min (min x 513 * y) 513 = min (x * y) 513 := by
    intro x y
    by_cases hx : x ≤ 513
    · rw [Nat.min_eq_left hx]
    · have e : min x 513 = 513 := Nat.min_eq_right (by omega)
      rw [e]
      rcases Nat.eq_zero_or_pos y with rfl | h0
      · rfl
      · have h1 : 513 ≤ 513 * y := Nat.le_mul_of_pos_right _ h0
        have h2 : x ≤ x * y := Nat.le_mul_of_pos_right _ h0
        omega
  unfold lim
  rw [key, Nat.mul_comm, key, Nat.mul_comm]
theorem lim_add (a b : Nat) : lim (lim a + lim b) = lim (a + b) := by unfold lim; omega
theorem lim_id {n : Nat} (h : n ≤ 512) : lim n = n := by unfold lim; omega
theorem lim_gt {n : Nat} (h : 512 < n) : lim n = 513 := by unfold lim; omega

/-- A piece as data, with what it means; a row likewise. -/
structure Pi where
  b : List UInt8
  rs : Value
  k : Nat
  M : List (List UInt8)
structure Ro where
  ps : Value
  k : Nat
  L : List (List UInt8)
def cellP (p : Pi) : List Value := [.string ⟨p.b.toArray⟩, p.rs, .int .i64 p.k]
def cellR (r : Ro) : List Value := [r.ps, .int .i64 r.k]
def cellsP (l : List Pi) : List Value := l.flatMap cellP
def cellsR (l : List Ro) : List Value := l.flatMap cellR
theorem cellsP_len (l : List Pi) : (cellsP l).length = l.length * 3 := by
  induction l with
  | nil => rfl
  | cons p l ih => show (cellP p ++ cellsP l).length = _; rw [List.length_append, ih, List.length_cons]; show 3 + _ = _; omega
theorem cellsR_len (l : List Ro) : (cellsR l).length = l.length * 2 := by
  induction l with
  | nil => rfl
  | cons p l ih => show (cellR p ++ cellsR l).length = _; rw [List.length_append, ih, List.length_cons]; show 2 + _ = _; omega
theorem cellsP_append (l m : List Pi) : cellsP (l ++ m) = cellsP l ++ cellsP m := by unfold cellsP; rw [List.flatMap_append]
theorem cellsR_append (l m : List Ro) : cellsR (l ++ m) = cellsR l ++ cellsR m := by unfold cellsR; rw [List.flatMap_append]
theorem cellsP_get (l : List Pi) (i : Nat) (h : i < l.length) : (cellsP l)[i * 3]? = some (.string ⟨l[i].b.toArray⟩) ∧ (cellsP l)[i * 3 + 1]? = some l[i].rs ∧ (cellsP l)[i * 3 + 2]? = some (.int .i64 l[i].k) := by
  induction l generalizing i with
  | nil => cases h
  | cons p l ih =>
    cases i with
    | zero => exact ⟨rfl, rfl, rfl⟩
    | succ i =>
      have := ih i (by simpa using h)
      refine ⟨?_, ?_, ?_⟩
      · rw [show (i + 1) * 3 = i * 3 + 3 by omega]; exact this.1
      · rw [show (i + 1) * 3 + 1 = i * 3 + 1 + 3 by omega]; exact this.2.1
      · rw [show (i + 1) * 3 + 2 = i * 3 + 2 + 3 by omega]; exact this.2.2
theorem cellsR_get (l : List Ro) (i : Nat) (h : i < l.length) : (cellsR l)[i * 2]? = some l[i].ps ∧ (cellsR l)[i * 2 + 1]? = some (.int .i64 l[i].k) := by
  induction l generalizing i with
  | nil => cases h
  | cons p l ih =>
    cases i with
    | zero => exact ⟨rfl, rfl⟩
    | succ i =>
      have := ih i (by simpa using h)
      refine ⟨?_, ?_⟩
      · rw [show (i + 1) * 2 = i * 2 + 2 by omega]; exact this.1
      · rw [show (i + 1) * 2 + 1 = i * 2 + 1 + 2 by omega]; exact this.2

/-- A piece whose rows, if it has any, are such. -/
def PieceOk (RM : Ro → Prop) (w : World) (G : Nat → Prop) (p : Pi) : Prop :=
  p.k = lim p.M.length ∧ 0 < p.M.length ∧ ((p.rs = .slice none 0 0 ∧ p.M = [p.b]) ∨
    ∃ (rows : List Ro) (A : Option Addr) (c : Nat), p.b = [] ∧ p.rs = .slice A rows.length c ∧ Rd w G A (cellsR rows) ∧ rows.length ≤ 4294967296 ∧ p.M = (rows.map Ro.L).flatten ∧ ∀ r ∈ rows, RM r)
/-- A row of such pieces, so deep. -/
def RowM (w : World) (G : Nat → Prop) : Nat → Ro → Prop
  | 0, _ => False
  | n + 1, r => r.k = lim r.L.length ∧ 0 < r.L.length ∧ ∃ (pcs : List Pi) (A : Option Addr) (c : Nat), r.ps = .slice A pcs.length c ∧ Rd w G A (cellsP pcs) ∧ pcs.length ≤ 8589934592 ∧ r.L = prod (pcs.map Pi.M) ∧ ∀ p ∈ pcs, PieceOk (RowM w G n) w G p
def PieceM (w : World) (G : Nat → Prop) (n : Nat) (p : Pi) : Prop := PieceOk (RowM w G n) w G p
theorem PieceOk.mono {RM RM' : Ro → Prop} {w w' : World} {G G' : Nat → Prop} {p : Pi} (h : PieceOk RM w G p) (hr : ∀ r, RM r → RM' r) (hw : ∀ A xs, Rd w G A xs → Rd w' G' A xs) : PieceOk RM' w' G' p := by
  obtain ⟨h1, h0, h2⟩ := h
  refine ⟨h1, h0, ?_⟩
  rcases h2 with h2 | ⟨rows, A, c, h2, h3, h4, h5, h6, h7⟩
  · exact .inl h2
  · exact .inr ⟨rows, A, c, h2, h3, hw _ _ h4, h5, h6, fun r hr' => hr r (h7 r hr')⟩
theorem RowM.more {w w' : World} {G G' : Nat → Prop} (hw : ∀ A xs, Rd w G A xs → Rd w' G' A xs) {n m : Nat} (hm : n ≤ m) {r : Ro} (h : RowM w G n r) : RowM w' G' m r := by
  induction n generalizing m r with
  | zero => exact h.elim
  | succ n ih =>
    cases m with
    | zero => omega
    | succ m =>
      obtain ⟨h1, h0, pcs, A, c, h2, h3, h4, h5, h6⟩ := h
      exact ⟨h1, h0, pcs, A, c, h2, hw _ _ h3, h4, h5, fun p hp => (h6 p hp).mono (fun r hr => ih (by omega) hr) hw⟩
theorem PieceM.more {w w' : World} {G G' : Nat → Prop} (hw : ∀ A xs, Rd w G A xs → Rd w' G' A xs) {n m : Nat} (hm : n ≤ m) {p : Pi} (h : PieceM w G n p) : PieceM w' G' m p :=
  PieceOk.mono h (fun _ hr => hr.more hw hm) hw
theorem PieceM.text (w : World) (G : Nat → Prop) (n : Nat) (b : List UInt8) : PieceM w G n ⟨b, .slice none 0 0, 1, [b]⟩ := ⟨rfl, Nat.zero_lt_one, .inl ⟨rfl, rfl⟩⟩
theorem RowM.lim {w : World} {G : Nat → Prop} {n : Nat} {r : Ro} (h : RowM w G n r) : r.k = Gl.lim r.L.length ∧ 0 < r.L.length := by
  cases n with
  | zero => exact h.elim
  | succ n => exact ⟨h.1, h.2.1⟩
end Gl
end Go.Proofs.YtfmbbhcjnidcbaaGreatDoor
