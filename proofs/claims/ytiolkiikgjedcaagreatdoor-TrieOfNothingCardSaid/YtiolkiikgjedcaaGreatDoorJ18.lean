/-
  TrNew: CONTRACTS: package trie: New.
  GlGr: PLAIN: choices (chapter 9): which braces match, what a text's choices mean, all that comes out and how many. No program.
  GlTree: MEMORY: rows of alternatives in memory (chapter 9), each with what it means; what stands of them when the world goes on.
-/
import Derived.Test.YtiolkiikgjedcaaGreatDoorJ17
import Derived.Test.YtiolkiikgjedcaaGreatDoorJ2
import Derived.Test.YtiolkiikgjedcaaGreatDoorJ11

namespace Go.Proofs.YtiolkiikgjedcaaGreatDoor
open Go.RowKit
open Me

namespace Tr
def empty (b : Nat) : Ns := fun q => match q with
  | [] => some ⟨b, none, false⟩
  | _ :: _ => none
theorem empty_snoc (b : Nat) (q : Path) (k : List UInt8) : empty b (q ++ [k]) = none := by cases q <;> rfl
theorem empty_some {b : Nat} {q : Path} {n : Nd} (h : empty b q = some n) : q = [] ∧ n = ⟨b, none, false⟩ := by
  cases q with
  | nil => exact ⟨rfl, (Option.some.inj h).symm⟩
  | cons a r => cases h
theorem empty_tree {w : World} {b : Nat} {T0 : TypeId} {x0 : Value} (h : w.heap[b]? = some (.cells #[.map none, x0] T0 (0, 0))) : Tree w T0 x0 0 (empty b) where
  root := by simp [empty]
  closed q k hf := absurd (empty_snoc b q k) hf
  node q n hn := by obtain ⟨rfl, rfl⟩ := empty_some hn; exact h
  map q n hn := by obtain ⟨rfl, rfl⟩ := empty_some hn; exact .inl ⟨rfl, fun _ => rfl⟩
  inj q q' n n' hn hn' _ := by rw [(empty_some hn).1, (empty_some hn').1]
  injm q q' n n' m hn _ hm _ := by obtain ⟨_, rfl⟩ := empty_some hn; cases hm
  key q k hf := absurd (empty_snoc b q k) hf
theorem empty_of (b : Nat) : Of (empty b) [] := Of.empty (by simp [empty]) rfl fun q hq => by
  cases q with
  | nil => exact absurd rfl hq
  | cons a r => rfl
theorem empty_own {b i : Nat} (h : own (empty b) i) : i = b := by
  obtain ⟨q, n, hn, hi⟩ := h
  obtain ⟨_, rfl⟩ := empty_some hn
  rcases hi with h | h
  · exact h
  · cases h
def newL (l : List (List UInt8)) : List (List UInt8) := l.foldl insV []
theorem insV_len (L : List (List UInt8)) (s : List UInt8) : (insV L s).length ≤ L.length + 1 := by
  unfold insV
  split
  · split
    · omega
    · unfold ins; rw [put_len]; exact Nat.le_refl _
  · omega
theorem mem_insV (L : List (List UInt8)) (s t : List UInt8) : t ∈ insV L s ↔ t ∈ L ∨ (t = s ∧ Nm.is s = true) := by
  unfold insV
  by_cases hi : Nm.is s = true
  · rw [if_pos hi]
    by_cases hs : s ∈ L
    · rw [if_pos hs]
      exact ⟨.inl, fun h => h.elim (fun h => h) fun h => h.1 ▸ hs⟩
    · rw [if_neg hs, mem_ins]
      exact ⟨fun h => h.elim (fun e => .inr ⟨e, hi⟩) .inl, fun h => h.elim .inr fun h => .inl h.1⟩
  · rw [if_neg hi]
    exact ⟨.inl, fun h => h.elim (fun h => h) fun h => absurd h.2 hi⟩
theorem mem_from (l : List (List UInt8)) : ∀ (L : List (List UInt8)) (t : List UInt8), t ∈ l.foldl insV L ↔ t ∈ L ∨ (t ∈ l ∧ Nm.is t = true) := by
  induction l with
  | nil => intro L t; simp
  | cons s r ih =>
    intro L t
    show t ∈ r.foldl insV (insV L s) ↔ _
    rw [ih, mem_insV, List.mem_cons]
    constructor
    · rintro ((h | ⟨rfl, h⟩) | ⟨h1, h2⟩)
      · exact .inl h
      · exact .inr ⟨.inl rfl, h⟩
      · exact .inr ⟨.inr h1, h2⟩
    · rintro (h | ⟨rfl | h1, h2⟩)
      · exact .inl (.inl h)
      · exact .inl (.inr ⟨rfl, h2⟩)
      · exact .inr ⟨h1, h2⟩
theorem mem_newL (l : List (List UInt8)) (t : List UInt8) : t ∈ newL l ↔ t ∈ l ∧ Nm.is t = true := by
  unfold newL; rw [mem_from]; simp
theorem newL_take (l : List (List UInt8)) (k : Nat) (h : k < l.length) : newL (l.take (k + 1)) = insV (newL (l.take k)) l[k] := by
  unfold newL; rw [List.take_succ_eq_append_getElem h, List.foldl_append]; rfl
/-- A Trie of the call's own. -/
def Own_ (w W : World) (b k : Nat) (L : List (List UInt8)) : Prop := ∃ c F, c ≤ 20 * k ∧ At_ W b c F L ∧ (∀ i, own F i → w.heap.size ≤ i) ∧ Below w.heap.size w W
theorem Own_.start (w : World) : Own_ w (w.alloc (.cells #[.map none, .int .i64 0] 53)) w.heap.size 0 (newL []) := by
  have h := heap_alloc_new w (.cells #[.map none, .int .i64 0] 53)
  refine ⟨0, empty w.heap.size, Nat.le_refl _, ⟨empty_tree h, ⟨_, rfl, rfl⟩, empty_of _, List.Pairwise.nil, fun _ h => (by cases h), Nat.zero_le _, Nat.zero_le _⟩, fun i hi => by rw [empty_own hi]; exact Nat.le_refl _, (Below.refl _ _).alloc (Nat.le_refl _) _⟩
theorem Own_.below {w W W' : World} {b k : Nat} {L : List (List UInt8)} (h : Own_ w W b k L) (hb : Below W.heap.size W W') : Own_ w W' b k L := by
  obtain ⟨c, F, h1, h2, h3, h4⟩ := h
  exact ⟨c, F, h1, h2.below hb, h3, h4.trans (hb.mono h4.size)⟩
theorem Own_.step {w W W' : World} {b k : Nat} {L L' : List (List UInt8)} {c : Nat} {F : Ns} (h1 : c ≤ 20 * k) (h3 : ∀ i, own F i → w.heap.size ≤ i) (h4 : Below w.heap.size w W) (h : InsR W b c F L L' W') : Own_ w W' b (k + 1) L' := by
  obtain ⟨c', F', a1, a2, a3, a4⟩ := h
  refine ⟨c', F', by omega, a2, fun i hi => (a4 i hi).elim (h3 i) fun h => Nat.le_trans h4.size h, ?_⟩
  exact h4.trans (a3.below h4.size fun i hi ho => by have := h3 i ho; omega)
end Tr

set_option maxRecDepth 100000 in
set_option maxHeartbeats 1000000 in
theorem New_any (l : List (List UInt8)) (A : Option Addr) (cap : Nat) (w : World) (hr : Rd w (fun _ => True) A (byS l)) (hn : l.length ≤ 10000) (hl : ∀ s ∈ l, s.length ≤ 4294967270) (hm : Mx w) :
    Calls Tryz.prog 8 #[.slice A l.length cap] w fun e w' => e = .returned (.pointer (some ⟨w.heap.size, 0, none⟩)) ∧ Tr.Own_ w w' w.heap.size l.length (Tr.newL l) := by
  have HR := Lib.hid hr
  have HM : Hid (∀ W, Below w.heap.size w W → Mx W) := Lib.hid fun W h => hm.below h
  have HL := Lib.hid hl
  have H0 := Lib.hid (Tr.Own_.start w)
  have hln : (l.length : Int) ≤ 10000 := by omega
  clear hr hm hl
  go_enter Tryz.func8, Tryz.ntmps8
  go_wp2_with fail
  go_loopw [10] (fun i wr => ∃ k : Nat, k ≤ l.length ∧ i = .int .i64 k ∧ Hid (Tr.Own_ w wr w.heap.size k (Tr.newL (l.take k)))) (fun i _ => l.length - (intOf i).toNat)
  case atStart => exact ⟨0, Nat.zero_le _, rfl, by rw [List.take_zero]; exact H0⟩
  case round =>
    obtain ⟨k, hk, rfl, HO⟩ := hrel
    have hk0 : (0 : Int) ≤ (k : Int) := by omega
    by_cases hlt : k < l.length
    · obtain ⟨c, F, h1, h2, h3, h4⟩ := HO.out
      obtain ⟨lb, lo, rfl, hlb, _, hx⟩ := HR.out.lit k (by rw [byS_len]; exact hlt)
      have ec := (h4.cell (p := ⟨lb, lo + k, none⟩) hlb).trans (hx k _ (byS_get l k hlt))
      have hkl : (k : Int) < (l.length : Int) := by omega
      have hlen : ∀ j, j ≤ l.length → (Tr.newL (l.take j)).length ≤ j := by
        intro j
        induction j with
        | zero => intro _; rw [List.take_zero]; exact Nat.le_refl _
        | succ j ih =>
          intro hj
          rw [Tr.newL_take l j (by omega)]
          have := Tr.insV_len (Tr.newL (l.take j)) l[j]
          have := ih (by omega)
          omega
      have hlk := hlen k hk
      have HIn := Lib.hid ((Insert_any h2 (by omega) (by omega) l[k] (HL.out _ (List.getElem_mem hlt)) (HM.out wr h4)).mono fun e w' hp => (⟨hp.1, Tr.Own_.step h1 h3 h4 hp.2⟩ : _ ∧ Tr.Own_ w w' w.heap.size (k + 1) _))
      rw [← Tr.newL_take l k hlt] at HIn
      generalize (if Nm.is l[k] = true then (0 : Int) else 14) = er at *
      clear h1 h2 h3 h4 hx hlen hlk
      generalize l[k] = s at *
      go_wp2_with (go_at_call 9; go_must (refine HIn.out.mono ?_; rintro e w1 ⟨rfl, ho⟩; have HO1 := Lib.hid ho; clear ho))
      go_roundw
      case rel => exact ⟨k + 1, by omega, by go_num, HO1⟩
      case measure => simp [intOf]; omega
    · obtain rfl : k = l.length := by omega
      rw [List.take_length] at HO
      go_wp2
      go_ret
      exact ⟨rfl, HO.out⟩
end Go.Proofs.YtiolkiikgjedcaaGreatDoor

namespace Go.Proofs.YtiolkiikgjedcaaGreatDoor
open Go.RowKit

namespace Gl
/-- Neither brace nor comma. -/
def noSp (s : List UInt8) : Bool := s.all fun b => b != 123 && (b != 125 && b != 44)
/-- One of the first behind one of the second. -/
def comb (A B : List (List UInt8)) : List (List UInt8) := A.flatMap fun a => B.map fun b => a ++ b
def prod : List (List (List UInt8)) → List (List UInt8)
  | [] => [[]]
  | M :: r => comb M (prod r)
/-- What a text (false), or the texts of a group (true), mean. -/
inductive Gr : Bool → List UInt8 → List (List UInt8) → Prop
  | plain {p : List UInt8} (h : noSp p = true) : Gr false p [p]
  | group {p g : List UInt8} {M : List (List UInt8)} {r : List UInt8} {R : List (List UInt8)} (h : noSp p = true) (hg : Gr true g M) (hr : Gr false r R) : Gr false (p ++ 123 :: (g ++ 125 :: r)) (comb [p] (comb M R))
  | one {t : List UInt8} {L : List (List UInt8)} (h : Gr false t L) : Gr true t L
  | more {t : List UInt8} {L : List (List UInt8)} {g : List UInt8} {M : List (List UInt8)} (h : Gr false t L) (hg : Gr true g M) : Gr true (t ++ 44 :: g) (L ++ M)

theorem comb_len (A B : List (List UInt8)) : (comb A B).length = A.length * B.length := by
  induction A with
  | nil => show 0 = 0 * _; rw [Nat.zero_mul]
  | cons a A ih =>
    show (B.map _ ++ comb A B).length = _
    rw [List.length_append, List.length_map, ih, List.length_cons, Nat.succ_mul, Nat.add_comm]
theorem comb_unit (B : List (List UInt8)) : comb [[]] B = B := by
  show B.map (fun b => [] ++ b) ++ [] = B
  rw [List.append_nil]
  simp
theorem comb_end (A : List (List UInt8)) : comb A [[]] = A := by
  unfold comb; simp
theorem comb_assoc (A B C : List (List UInt8)) : comb (comb A B) C = comb A (comb B C) := by
  unfold comb
  rw [List.flatMap_assoc]
  congr 1
  funext a
  rw [List.flatMap_map, List.map_flatMap]
  congr 1
  funext b
  rw [List.map_map]
  congr 1
  funext c
  show a ++ b ++ c = a ++ (b ++ c)
  rw [List.append_assoc]
theorem comb_append (A A' B : List (List UInt8)) : comb (A ++ A') B = comb A B ++ comb A' B := by
  unfold comb; rw [List.flatMap_append]
theorem prod_snoc (l : List (List (List UInt8))) (M : List (List UInt8)) : prod (l ++ [M]) = comb (prod l) M := by
  induction l with
  | nil => show comb M [[]] = comb [[]] M; rw [comb_end, comb_unit]
  | cons x l ih => show comb x (prod (l ++ [M])) = comb (comb x (prod l)) M; rw [ih, comb_assoc]
theorem prod_one (M : List (List UInt8)) : prod [M] = M := comb_end M
theorem comb_pre (p : List UInt8) (B : List (List UInt8)) : comb [p] B = B.map fun b => p ++ b := by
  show B.map _ ++ [] = _; rw [List.append_nil]
theorem Gr.pos {b : Bool} {t : List UInt8} {L : List (List UInt8)} (h : Gr b t L) : 0 < L.length := by
  induction h with
  | plain _ => exact Nat.zero_lt_one
  | group _ _ _ ih1 ih2 => rw [comb_len, comb_len]; simpa using Nat.mul_pos ih1 ih2
  | one _ ih => exact ih
  | more _ _ ih1 ih2 => rw [List.length_append]; omega

/-! ## braces -/
def bal : Nat → List UInt8 → Bool
  | n, [] => decide (n = 0)
  | n, b :: r => if b = 123 then bal (n + 1) r else if b = 125 then (if n = 0 then false else bal (n - 1) r) else if b = 44 then (if n = 0 then false else bal n r) else bal n r
theorem noSp_cons {b : UInt8} {r : List UInt8} (h : b ≠ 123 ∧ b ≠ 125 ∧ b ≠ 44) (hr : noSp r = true) : noSp (b :: r) = true := by
  unfold noSp at *
  rw [List.all_cons, hr]
  simp [h.1, h.2.1, h.2.2]
theorem bal_plain {b : UInt8} (h : b ≠ 123 ∧ b ≠ 125 ∧ b ≠ 44) (n : Nat) (r : List UInt8) : bal n (b :: r) = bal n r := by
  rw [bal, if_neg h.1, if_neg h.2.1, if_neg h.2.2]
/-- A balanced rest begins with a text. -/
theorem split_text (m : Nat) : ∀ (s : List UInt8), s.length ≤ m → ∀ n, bal n s = true → ∃ t L s2, s = t ++ s2 ∧ Gr false t L ∧ ((s2 = [] ∧ n = 0) ∨ (∃ s', s2 = 44 :: s' ∧ 0 < n ∧ bal n s' = true) ∨ (∃ s', s2 = 125 :: s' ∧ 0 < n ∧ bal (n - 1) s' = true)) := by
  induction m with
  | zero =>
    intro s hs n h
    obtain rfl := List.eq_nil_of_length_eq_zero (Nat.le_zero.1 hs)
    exact ⟨[], [[]], [], rfl, Gr.plain rfl, .inl ⟨rfl, of_decide_eq_true h⟩⟩
  | succ m ih =>
    -- the texts of a group
    have grp : ∀ (k : Nat) (s : List UInt8), s.length ≤ k → s.length ≤ m → ∀ n, bal (n + 1) s = true → ∃ g M s', s = g ++ 125 :: s' ∧ Gr true g M ∧ bal n s' = true := by
      intro k
      induction k with
      | zero =>
        intro s hs hm n h
        obtain rfl := List.eq_nil_of_length_eq_zero (Nat.le_zero.1 hs)
        have := of_decide_eq_true h
        omega
      | succ k ihk =>
        intro s hs hm n h
        obtain ⟨t, L, s2, rfl, hg, hc⟩ := ih s hm (n + 1) h
        rcases hc with ⟨_, h0⟩ | ⟨s', rfl, _, hb⟩ | ⟨s', rfl, _, hb⟩
        · omega
        · rw [List.length_append, List.length_cons] at hs hm
          obtain ⟨g, M, s'', rfl, hg2, hb2⟩ := ihk s' (by omega) (by omega) n hb
          exact ⟨t ++ 44 :: g, L ++ M, s'', by simp, Gr.more hg hg2, hb2⟩
        · exact ⟨t, L, s', rfl, Gr.one hg, by simpa using hb⟩
    intro s hs n h
    cases s with
    | nil => exact ⟨[], [[]], [], rfl, Gr.plain rfl, .inl ⟨rfl, of_decide_eq_true h⟩⟩
    | cons b r =>
      rw [List.length_cons] at hs
      by_cases h1 : b = 123
      · subst h1
        rw [bal, if_pos rfl] at h
        obtain ⟨g, M, s', rfl, hg, hb⟩ := grp m r (by omega) (by omega) n h
        rw [List.length_append, List.length_cons] at hs
        obtain ⟨t, L, s2, rfl, ht, hc⟩ := ih s' (by omega) n hb
        exact ⟨[] ++ 123 :: (g ++ 125 :: t), comb [[]] (comb M L), s2, by simp, Gr.group rfl hg ht, hc⟩
      by_cases h2 : b = 125
      · subst h2
        rw [bal, if_neg h1, if_pos rfl] at h
        by_cases hn : n = 0
        · rw [if_pos hn] at h; cases h
        rw [if_neg hn] at h
        exact ⟨[], [[]], 125 :: r, rfl, Gr.plain rfl, .inr (.inr ⟨r, rfl, by omega, h⟩)⟩
      by_cases h3 : b = 44
      · subst h3
        rw [bal, if_neg h1, if_neg h2, if_pos rfl] at h
        by_cases hn : n = 0
        · rw [if_pos hn] at h; cases h
        rw [if_neg hn] at h
        exact ⟨[], [[]], 44 :: r, rfl, Gr.plain rfl, .inr (.inl ⟨r, rfl, by omega, h⟩)⟩
      rw [bal_plain ⟨h1, h2, h3⟩] at h
      obtain ⟨t, L, s2, rfl, ht, hc⟩ := ih r (by omega) n h
      have hsp : ∃ L, Gr false (b :: t) L := by
        cases ht with
        | plain hp => exact ⟨_, Gr.plain (noSp_cons ⟨h1, h2, h3⟩ hp)⟩
        | group hp hg hr => exact ⟨_, Gr.group (noSp_cons ⟨h1, h2, h3⟩ hp) hg hr⟩
      obtain ⟨L', hL'⟩ := hsp
      exact ⟨b :: t, L', s2, rfl, hL', hc⟩
theorem parse (s : List UInt8) (h : bal 0 s = true) : ∃ L, Gr false s L := by
  obtain ⟨t, L, s2, rfl, ht, hc⟩ := split_text s.length s (Nat.le_refl _) 0 h
  rcases hc with ⟨rfl, _⟩ | ⟨_, _, h0, _⟩ | ⟨_, _, h0, _⟩
  · exact ⟨L, by rw [List.append_nil]; exact ht⟩
  · omega
  · omega
/-- Such a text is balanced. -/
theorem Gr.bal {b : Bool} {t : List UInt8} {L : List (List UInt8)} (h : Gr b t L) : ∀ n s, (b = true → 0 < n) → Gl.bal n (t ++ s) = Gl.bal n s := by
  induction h with
  | @plain p h =>
    intro n s _
    induction p with
    | nil => rfl
    | cons b r ih =>
      have hb : (b ≠ 123 ∧ b ≠ 125 ∧ b ≠ 44) ∧ noSp r = true := by simpa [noSp] using h
      rw [List.cons_append, bal_plain hb.1, ih hb.2]
  | @group p g M r R h _ _ ih1 ih2 =>
    intro n s _
    have hp : ∀ (x : List UInt8), Gl.bal n (p ++ x) = Gl.bal n x := by
      intro x
      clear ih1 ih2
      induction p with
      | nil => rfl
      | cons b r ih =>
        have hb : (b ≠ 123 ∧ b ≠ 125 ∧ b ≠ 44) ∧ noSp r = true := by simpa [noSp] using h
        rw [List.cons_append, bal_plain hb.1, ih hb.2]
    rw [List.append_assoc, hp]
    show Gl.bal n (123 :: ((g ++ 125 :: r) ++ s)) = _
    rw [Gl.bal, if_pos rfl, List.append_assoc, ih1 (n + 1) _ (fun _ => by omega)]
    show Gl.bal (n + 1) (125 :: (r ++ s)) = _
    rw [Gl.bal, if_neg (by decide), if_pos rfl, if_neg (by omega), Nat.add_sub_cancel, ih2 n s (fun h => by cases h)]
  | one _ ih => intro n s _; exact ih n s (fun h => by cases h)
  | @more t L g M _ _ ih1 ih2 =>
    intro n s h0
    have hn := h0 rfl
    rw [List.append_assoc, ih1 n _ (fun h => by cases h)]
    show Gl.bal n (44 :: (g ++ s)) = _
    rw [Gl.bal, if_neg (by decide), if_neg (by decide), if_pos rfl, if_neg (by omega), ih2 n s (fun _ => hn)]

/-! ## where a group ends -/
def eF : Nat → List UInt8 → List UInt8 → Option (Nat × List (List UInt8))
  | _, _, [] => none
  | n, cur, b :: r => if b = 123 then (eF (n + 1) (cur ++ [b]) r).map fun x => (x.1 + 1, x.2)
      else if b = 125 then (if n = 1 then some (0, [cur]) else (eF (n - 1) (cur ++ [b]) r).map fun x => (x.1 + 1, x.2))
      else if b = 44 ∧ n = 1 then (eF n [] r).map fun x => (x.1 + 1, cur :: x.2)
      else (eF n (cur ++ [b]) r).map fun x => (x.1 + 1, x.2)
theorem eF_add (o : Option (Nat × List (List UInt8))) (i j : Nat) : (o.map fun x => (x.1 + i, x.2)).map (fun x => (x.1 + j, x.2)) = o.map fun x => (x.1 + (i + j), x.2) := by
  cases o with
  | none => rfl
  | some x => show some (x.1 + i + j, x.2) = some (x.1 + (i + j), x.2); rw [Nat.add_assoc]
theorem eF_plain {p : List UInt8} (h : noSp p = true) (n : Nat) (cur s : List UInt8) : eF n cur (p ++ s) = (eF n (cur ++ p) s).map fun x => (x.1 + p.length, x.2) := by
  induction p generalizing cur with
  | nil => rw [List.append_nil]; show eF n cur s = _; cases eF n cur s <;> rfl
  | cons b r ih =>
    have hb : (b ≠ 123 ∧ b ≠ 125 ∧ b ≠ 44) ∧ noSp r = true := by simpa [noSp] using h
    rw [List.cons_append, eF, if_neg hb.1.1, if_neg hb.1.2.1, if_neg (fun e => hb.1.2.2 e.1), ih hb.2, eF_add, List.append_assoc]
    rfl
theorem Gr.ends {b : Bool} {t : List UInt8} {L : List (List UInt8)} (h : Gr b t L) : ∀ n cur s, 1 ≤ n → (b = true → 2 ≤ n) → eF n cur (t ++ s) = (eF n (cur ++ t) s).map fun x => (x.1 + t.length, x.2) := by
  induction h with
  | plain h => intro n cur s _ _; exact eF_plain h n cur s
  | @group p g M r R h _ _ ih1 ih2 =>
    intro n cur s h1 _
    rw [List.append_assoc, eF_plain h]
    show (eF n (cur ++ p) (123 :: ((g ++ 125 :: r) ++ s))).map _ = _
    rw [eF, if_pos rfl, List.append_assoc g, ih1 (n + 1) _ _ (by omega) (fun _ => by omega)]
    show ((((eF (n + 1) _ (125 :: (r ++ s)))).map _).map _).map _ = _
    rw [eF, if_neg (by decide), if_pos rfl, if_neg (by omega), Nat.add_sub_cancel, ih2 n _ s h1 (fun h => by cases h)]
    rw [eF_add, eF_add, eF_add, eF_add]
    have e1 : cur ++ p ++ [123] ++ g ++ [125] ++ r = cur ++ (p ++ 123 :: (g ++ 125 :: r)) := by simp
    have e2 : r.length + (1 + (g.length + (1 + p.length))) = (p ++ 123 :: (g ++ 125 :: r)).length := by simp; omega
    rw [e1]
    have e3 : r.length + 1 + g.length + 1 + p.length = (p ++ 123 :: (g ++ 125 :: r)).length := by simp; omega
    first | rw [e2] | (rw [← e2]; simp only [Nat.add_assoc])
  | one _ ih => intro n cur s h1 _; exact ih n cur s h1 (fun h => by cases h)
  | @more t L g M _ _ ih1 ih2 =>
    intro n cur s h1 h2
    have hn := h2 rfl
    rw [List.append_assoc, ih1 n _ _ h1 (fun h => by cases h)]
    show ((eF n _ (44 :: (g ++ s)))).map _ = _
    rw [eF, if_neg (by decide), if_neg (by decide), if_neg (fun e => by omega), ih2 n _ s h1 (fun _ => hn), eF_add, eF_add]
    have e1 : cur ++ t ++ [44] ++ g = cur ++ (t ++ 44 :: g) := by simp
    have e2 : g.length + (1 + t.length) = (t ++ 44 :: g).length := by simp; omega
    rw [e1]
    first | rw [e2] | (rw [← e2]; simp only [Nat.add_assoc])
/-- A group's texts, and what they mean. -/
theorem Gr.texts {b : Bool} {g : List UInt8} {M : List (List UInt8)} (h : Gr b g M) : ∀ s, ∃ ps : List (List UInt8 × List (List UInt8)), eF 1 [] (g ++ 125 :: s) = some (g.length, ps.map (·.1)) ∧ M = (ps.map (·.2)).flatten ∧ ps ≠ [] ∧ ∀ x ∈ ps, Gr false x.1 x.2 ∧ x.1.length ≤ g.length := by
  have one : ∀ {t : List UInt8} {L : List (List UInt8)}, Gr false t L → ∀ s, ∃ ps : List (List UInt8 × List (List UInt8)), eF 1 [] (t ++ 125 :: s) = some (t.length, ps.map (·.1)) ∧ L = (ps.map (·.2)).flatten ∧ ps ≠ [] ∧ ∀ x ∈ ps, Gr false x.1 x.2 ∧ x.1.length ≤ t.length := by
    intro t L h s
    refine ⟨[(t, L)], ?_, by simp, by simp, ?_⟩
    · rw [h.ends 1 [] _ (Nat.le_refl _) (fun h => by cases h), eF, if_neg (by decide), if_pos rfl, if_pos rfl]
      simp
    · intro x hx
      obtain rfl : x = (t, L) := by simpa using hx
      exact ⟨h, Nat.le_refl _⟩
  induction h with
  | plain h => exact one (Gr.plain h)
  | group h hg hr _ _ => exact one (Gr.group h hg hr)
  | one h _ => exact one h
  | @more t L g M h hg _ ih =>
    intro s
    obtain ⟨ps, h1, h2, h3, h4⟩ := ih s
    refine ⟨(t, L) :: ps, ?_, by rw [h2]; rfl, by simp, ?_⟩
    · rw [List.append_assoc, h.ends 1 [] _ (Nat.le_refl _) (fun h => by cases h)]
      show (eF 1 _ (44 :: (g ++ 125 :: s))).map _ = _
      rw [eF, if_neg (by decide), if_neg (by decide), if_pos ⟨rfl, rfl⟩, h1]
      simp
      omega
    · intro x hx
      rw [List.length_append, List.length_cons]
      rcases List.mem_cons.1 hx with rfl | hx
      · exact ⟨h, by simp⟩
      · have := h4 x hx
        exact ⟨this.1, by omega⟩
end Gl
end Go.Proofs.YtiolkiikgjedcaaGreatDoor

namespace Go.Proofs.YtiolkiikgjedcaaGreatDoor
open Go.RowKit
open Me

namespace Gl
def lim (n : Nat) : Nat := min n 513
theorem lim_le (n : Nat) : lim n ≤ 513 := Nat.min_le_right _ _
theorem lim_mul (a b : Nat) : lim (lim a * lim b) = lim (a * b) := by
  have key : ∀ x y : Nat, min (min x 513 * y) 513 = min (x * y) 513 := by
    intro x y
    by_cases hx : x ≤ 513
    · rw [Nat.min_eq_left hx]
    · have e : min x 513 = 513 := Nat.min_eq_right (by omega)
      rw [e]
      rcases Nat.eq_zero_or_pos y with rfl | h0
      · rfl
      · have h1 : 513 ≤ 513 * y := Nat.le_mul_of_pos_right _ h0
        have h2 : x ≤ x * y := Nat.le_mul_of_pos_right _ h0
        omega
  unfold lim
  rw [key, Nat.mul_comm, key, Nat.mul_comm]
theorem lim_add (a b : Nat) : lim (lim a + lim b) = lim (a + b) := by unfold lim; omega
theorem lim_id {n : Nat} (h : n ≤ 512) : lim n = n := by unfold lim; omega
theorem lim_gt {n : Nat} (h : 512 < n) : lim n = 513 := by unfold lim; omega

/-- A piece as data, with what it means; a row likewise. -/
structure Pi where
  b : List UInt8
  rs : Value
  k : Nat
  M : List (List UInt8)
structure Ro where
  ps : Value
  k : Nat
  L : List (List UInt8)
def cellP (p : Pi) : List Value := [.string ⟨p.b.toArray⟩, p.rs, .int .i64 p.k]
def cellR (r : Ro) : List Value := [r.ps, .int .i64 r.k]
def cellsP (l : List Pi) : List Value := l.flatMap cellP
def cellsR (l : List Ro) : List Value := l.flatMap cellR
theorem cellsP_len (l : List Pi) : (cellsP l).length = l.length * 3 := by
  induction l with
  | nil => rfl
  | cons p l ih => show (cellP p ++ cellsP l).length = _; rw [List.length_append, ih, List.length_cons]; show 3 + _ = _; omega
theorem cellsR_len (l : List Ro) : (cellsR l).length = l.length * 2 := by
  induction l with
  | nil => rfl
  | cons p l ih => show (cellR p ++ cellsR l).length = _; rw [List.length_append, ih, List.length_cons]; show 2 + _ = _; omega
theorem cellsP_append (l m : List Pi) : cellsP (l ++ m) = cellsP l ++ cellsP m := by unfold cellsP; rw [List.flatMap_append]
theorem cellsR_append (l m : List Ro) : cellsR (l ++ m) = cellsR l ++ cellsR m := by unfold cellsR; rw [List.flatMap_append]
theorem cellsP_get (l : List Pi) (i : Nat) (h : i < l.length) : (cellsP l)[i * 3]? = some (.string ⟨l[i].b.toArray⟩) ∧ (cellsP l)[i * 3 + 1]? = some l[i].rs ∧ (cellsP l)[i * 3 + 2]? = some (.int .i64 l[i].k) := by
  induction l generalizing i with
  | nil => cases h
  | cons p l ih =>
    cases i with
    | zero => exact ⟨rfl, rfl, rfl⟩
    | succ i =>
      have := ih i (by simpa using h)
      refine ⟨?_, ?_, ?_⟩
      · rw [show (i + 1) * 3 = i * 3 + 3 by omega]; exact this.1
      · rw [show (i + 1) * 3 + 1 = i * 3 + 1 + 3 by omega]; exact this.2.1
      · rw [show (i + 1) * 3 + 2 = i * 3 + 2 + 3 by omega]; exact this.2.2
theorem cellsR_get (l : List Ro) (i : Nat) (h : i < l.length) : (cellsR l)[i * 2]? = some l[i].ps ∧ (cellsR l)[i * 2 + 1]? = some (.int .i64 l[i].k) := by
  induction l generalizing i with
  | nil => cases h
  | cons p l ih =>
    cases i with
    | zero => exact ⟨rfl, rfl⟩
    | succ i =>
      have := ih i (by simpa using h)
      refine ⟨?_, ?_⟩
      · rw [show (i + 1) * 2 = i * 2 + 2 by omega]; exact this.1
      · rw [show (i + 1) * 2 + 1 = i * 2 + 1 + 2 by omega]; exact this.2

/-- A piece whose rows, if it has any, are such. -/
def PieceOk (RM : Ro → Prop) (w : World) (G : Nat → Prop) (p : Pi) : Prop :=
  p.k = lim p.M.length ∧ 0 < p.M.length ∧ ((p.rs = .slice none 0 0 ∧ p.M = [p.b]) ∨
    ∃ (rows : List Ro) (A : Option Addr) (c : Nat), p.b = [] ∧ p.rs = .slice A rows.length c ∧ Rd w G A (cellsR rows) ∧ rows.length ≤ 4294967296 ∧ p.M = (rows.map Ro.L).flatten ∧ ∀ r ∈ rows, RM r)
/-- A row of such pieces, so deep. -/
def RowM (w : World) (G : Nat → Prop) : Nat → Ro → Prop
  | 0, _ => False
  | n + 1, r => r.k = lim r.L.length ∧ 0 < r.L.length ∧ ∃ (pcs : List Pi) (A : Option Addr) (c : Nat), r.ps = .slice A pcs.length c ∧ Rd w G A (cellsP pcs) ∧ pcs.length ≤ 8589934592 ∧ r.L = prod (pcs.map Pi.M) ∧ ∀ p ∈ pcs, PieceOk (RowM w G n) w G p
def PieceM (w : World) (G : Nat → Prop) (n : Nat) (p : Pi) : Prop := PieceOk (RowM w G n) w G p
theorem PieceOk.mono {RM RM' : Ro → Prop} {w w' : World} {G G' : Nat → Prop} {p : Pi} (h : PieceOk RM w G p) (hr : ∀ r, RM r → RM' r) (hw : ∀ A xs, Rd w G A xs → Rd w' G' A xs) : PieceOk RM' w' G' p := by
  obtain ⟨h1, h0, h2⟩ := h
  refine ⟨h1, h0, ?_⟩
  rcases h2 with h2 | ⟨rows, A, c, h2, h3, h4, h5, h6, h7⟩
  · exact .inl h2
  · exact .inr ⟨rows, A, c, h2, h3, hw _ _ h4, h5, h6, fun r hr' => hr r (h7 r hr')⟩
theorem RowM.more {w w' : World} {G G' : Nat → Prop} (hw : ∀ A xs, Rd w G A xs → Rd w' G' A xs) {n m : Nat} (hm : n ≤ m) {r : Ro} (h : RowM w G n r) : RowM w' G' m r := by
  induction n generalizing m r with
  | zero => exact h.elim
  | succ n ih =>
    cases m with
    | zero => omega
    | succ m =>
      obtain ⟨h1, h0, pcs, A, c, h2, h3, h4, h5, h6⟩ := h
      exact ⟨h1, h0, pcs, A, c, h2, hw _ _ h3, h4, h5, fun p hp => (h6 p hp).mono (fun r hr => ih (by omega) hr) hw⟩
theorem PieceM.more {w w' : World} {G G' : Nat → Prop} (hw : ∀ A xs, Rd w G A xs → Rd w' G' A xs) {n m : Nat} (hm : n ≤ m) {p : Pi} (h : PieceM w G n p) : PieceM w' G' m p :=
  PieceOk.mono h (fun _ hr => hr.more hw hm) hw
theorem PieceM.text (w : World) (G : Nat → Prop) (n : Nat) (b : List UInt8) : PieceM w G n ⟨b, .slice none 0 0, 1, [b]⟩ := ⟨rfl, Nat.zero_lt_one, .inl ⟨rfl, rfl⟩⟩
theorem RowM.lim {w : World} {G : Nat → Prop} {n : Nat} {r : Ro} (h : RowM w G n r) : r.k = Gl.lim r.L.length ∧ 0 < r.L.length := by
  cases n with
  | zero => exact h.elim
  | succ n => exact ⟨h.1, h.2.1⟩
end Gl
end Go.Proofs.YtiolkiikgjedcaaGreatDoor
