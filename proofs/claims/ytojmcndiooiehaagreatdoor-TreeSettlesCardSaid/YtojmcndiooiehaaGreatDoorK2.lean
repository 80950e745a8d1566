/-
  TeBs: PLAIN: chapter 15: what is parsed is a node that may be, and its text is not too long. No program.
  TeLawS: LAW: chapter 15: TreeSettles.
-/
import Derived.Test.YtojmcndiooiehaaGreatDoorK1
import Derived.Test.YtojmcndiooiehaaGreatDoorJ20
import Derived.Test.YtojmcndiooiehaaGreatDoorJ36

set_option linter.unusedSimpArgs false
set_option linter.unusedVariables false
namespace Go.Proofs.YtojmcndiooiehaaGreatDoor
open Go.RowKit

namespace Te
/-- No text of a string has both sorts of quotes. -/
def Qt (l : List Tok) : Prop := ∀ t ∈ l, t.1 = 2 → (t.2.contains 34 && t.2.contains 39) = false
/-- How many bytes a token takes. -/
def bw (t : Tok) : Nat := if t.1 = 1 then t.2.length else if t.1 = 2 then t.2.length + 2 else 1
def bs : List Tok → Nat
  | [] => 0
  | t :: r => bw t + bs r
theorem take_idx (q : UInt8) : ∀ r : List UInt8, (r.take (Lx.idx q r)).contains q = false
  | [] => by simp
  | a :: r => by
    unfold Lx.idx
    rw [List.takeWhile_cons]
    split
    · rename_i h
      have ih := take_idx q r
      unfold Lx.idx at ih
      rw [List.length_cons, List.take_succ_cons, List.contains_cons, ih, Bool.or_false]
      simp at h ⊢
      exact fun e => h e.symm
    · simp
theorem token_q {c : UInt8} {r : List UInt8} {t : Tok} {n : Nat} (h : Lx.token c r = some (t, n)) : (t.1 = 2 → (t.2.contains 34 && t.2.contains 39) = false) ∧ bw t ≤ n + 1 := by
  unfold Lx.token at h
  split at h
  · injection h with h; injection h with h1 h2; subst h1; exact ⟨fun e => absurd e (by decide), by rw [← h2]; decide⟩
  · split at h
    · injection h with h; injection h with h1 h2; subst h1; exact ⟨fun e => absurd e (by decide), by rw [← h2]; decide⟩
    · split at h
      · injection h with h; injection h with h1 h2; subst h1; exact ⟨fun e => absurd e (by decide), by rw [← h2]; decide⟩
      · split at h
        · rename_i hq
          split at h
          · injection h with h; injection h with h1 h2
            subst h1
            refine ⟨fun _ => ?_, ?_⟩
            · have := take_idx c r
              show ((r.take (Lx.idx c r)).contains 34 && (r.take (Lx.idx c r)).contains 39) = false
              rcases hq with rfl | rfl
              · rw [this]; rfl
              · rw [this, Bool.and_false]
            · show (if (2 : Int) = 1 then (r.take (Lx.idx c r)).length else if (2 : Int) = 2 then (r.take (Lx.idx c r)).length + 2 else 1) ≤ _
              rw [if_neg (by decide), if_pos rfl, ← h2]
              have : (r.take (Lx.idx c r)).length ≤ Lx.idx c r := by rw [List.length_take]; omega
              show (r.take (Lx.idx c r)).length + 2 ≤ _
              omega
          · cases h
        · split at h
          · rename_i k hs
            injection h with h; injection h with h1 h2
            subst h1
            refine ⟨fun e => absurd (show (1 : Int) = 2 from e) (by decide), ?_⟩
            unfold bw
            rw [if_pos rfl, ← h2]
            show ((c :: r).take (k + 1)).length ≤ _
            rw [List.length_take]; omega
          · cases h
theorem lexF_q : ∀ (f : Nat) (l : List UInt8) (x : List Tok), Lx.lexF f l = some x → Qt x ∧ bs x ≤ l.length
  | _, [], x, h => by
    rw [Lx.lexF] at h
    have := Option.some.inj h
    subst this
    exact ⟨fun t ht => absurd ht (by simp), Nat.le_refl _⟩
  | 0, _ :: _, x, h => by cases h
  | f + 1, c :: r, x, h => by
    rw [Lx.lexF] at h
    split at h
    · obtain ⟨h1, h2⟩ := lexF_q f r x h
      exact ⟨h1, by simp; omega⟩
    · cases hk : Lx.token c r with
      | none => rw [hk] at h; cases h
      | some p =>
        obtain ⟨t0, n⟩ := p
        rw [hk] at h
        have h : (Lx.lexF f (r.drop n)).map (t0 :: ·) = some x := h
        cases hl : Lx.lexF f (r.drop n) with
        | none => rw [hl] at h; cases h
        | some y =>
          rw [hl] at h
          have := Option.some.inj h
          subst this
          obtain ⟨h1, h2⟩ := lexF_q f _ y hl
          obtain ⟨h3, h4⟩ := token_q hk
          have h5 := (Lx.token_le hk).1
          refine ⟨fun t ht => ?_, ?_⟩
          · rcases List.mem_cons.1 ht with rfl | ht
            · exact h3
            · exact h1 t ht
          · rw [List.length_drop] at h2
            show bw t0 + bs y ≤ r.length + 1
            omega
theorem lex_q {l : List UInt8} {x : List Tok} (h : Lx.lex l = some x) : Qt x ∧ bs x ≤ l.length := lexF_q _ _ _ h
theorem plain_le : ∀ (f k u : Nat) , u < 10 ^ (k + 1) → (Dc.plainGo f u []).length ≤ k + 1
  | 0, k, u, _ => by rw [Dc.plainGo]; exact Nat.zero_le _
  | f + 1, k, u, h => by
    rw [Dc.plainGo]
    split
    · simp
    · rename_i h0
      rw [Dc.plainGo_acc, List.length_append]
      cases k with
      | zero => exfalso; simp at h; omega
      | succ k =>
        have := plain_le f k (u / 10) (by rw [Nat.pow_succ] at h; omega)
        simp; omega
theorem pr_len21 {n : Int} (h : Dc.knownB true n = true) : (Dc.pr true n).length ≤ 21 := by
  have hn := pr_known h
  unfold Dc.pr
  rw [if_pos h]
  unfold Dc.sgn Dc.pbod
  have h1 : (Dc.plain (n.natAbs / 1000000)).length ≤ 13 := plain_le 20 12 _ (by omega)
  have h2 : (Dc.fracText (n.natAbs % 1000000)).length ≤ 7 := by
    unfold Dc.fracText
    split
    · simp
    · have a1 := Dc.trim_len (Dc.six (n.natAbs % 1000000))
      have a2 := Dc.six_len (n := n.natAbs % 1000000) (by omega)
      simp; omega
  split <;> simp <;> omega
theorem pv_known {s : List UInt8} (h : Dc.prOk s = true) : Dc.knownB true (Dc.prV s) = true := by
  unfold Dc.knownB Dc.prV
  rw [if_pos h, Bool.true_and]
  unfold Dc.prOk at h
  rw [Bool.and_eq_true] at h
  have := of_decide_eq_true h.2
  refine decide_eq_true ?_
  split <;> omega
theorem pv_ne {s : List UInt8} (h : Dc.prOk s = true) : 1 ≤ s.length := by
  cases s with
  | nil => exact absurd h (by decide)
  | cons a r => simp
/-- What a word is. -/
theorem word_ok {s : List UInt8} {n : Nd} (d : Nat) (h : word s = some n) : ok (d + 1) n = true ∧ (txt n).length + 1 ≤ 11 * s.length + 11 := by
  unfold word at h
  split at h
  · rename_i hp
    rw [← Option.some.inj h]
    have hk := pv_known hp
    have h0 := pv_ne hp
    refine ⟨?_, ?_⟩
    · rw [ok, if_neg (by decide)]
      unfold Dc.knownB at hk
      rw [Bool.true_and] at hk
      have := of_decide_eq_true hk
      unfold leafOk
      rw [if_neg (by decide), if_pos rfl, decide_eq_true rfl, decide_eq_true this.1, decide_eq_true this.2, decide_eq_true (Nat.succ_pos d)]
      rfl
    · rw [txt3]; have := pr_len21 hk; omega
  · rename_i hp
    split at h
    · rename_i ht
      rw [← Option.some.inj h, ht]
      exact ⟨by rw [ok, decide_eq_true (Nat.succ_pos d)]; rfl, by rw [txt5]; decide⟩
    · rename_i ht
      split at h
      · rename_i hf
        rw [← Option.some.inj h, hf]
        exact ⟨by rw [ok, decide_eq_true (Nat.succ_pos d)]; rfl, by rw [txt5]; decide⟩
      · rename_i hf
        split at h
        · rename_i hq
          rw [← Option.some.inj h]
          refine ⟨?_, by rw [txt2]; omega⟩
          rw [ok, if_neg (by decide), decide_eq_true (Nat.succ_pos d)]
          unfold leafOk
          have hp : Dc.prOk s = false := by simpa using hp
          rw [if_pos rfl, hq, decide_eq_false ht, decide_eq_false hf, hp]
          rfl
        · cases h
/-- The texts within a call, each with a byte behind it. -/
def sl : List Nd → Nat
  | [] => 0
  | x :: r => (txt x).length + 1 + sl r
theorem sl_app (l m : List Nd) : sl (l ++ m) = sl l + sl m := by
  induction l with
  | nil => show sl m = 0 + sl m; omega
  | cons x r ih => show (txt x).length + 1 + sl (r ++ m) = (txt x).length + 1 + sl r + sl m; rw [ih]; omega
theorem txts_sl : ∀ (l : List Nd) (b : Bool), (txts b l).length ≤ sl l
  | [], b => by rw [txts]; exact Nat.zero_le _
  | x :: r, b => by
    have := txts_sl r false
    rw [txts, List.length_append, List.length_append]
    show _ ≤ (txt x).length + 1 + sl r
    cases b
    · show 1 + _ ≤ _; omega
    · show 0 + _ ≤ _; omega
theorem bs_drop {k : Int} (h1 : k ≠ 1) (h2 : k ≠ 2) {l : List Tok} (h : hd k l = true) : bs l = 1 + bs (l.drop 1) := by
  cases l with
  | nil => cases h
  | cons t r =>
    have hk : t.1 = k := of_decide_eq_true h
    show bw t + bs r = 1 + bs r
    unfold bw
    rw [if_neg (by rw [hk]; exact h1), if_neg (by rw [hk]; exact h2)]
theorem oks_app {d : Nat} : ∀ {l m : List Nd}, oks d l = true → oks d m = true → oks d (l ++ m) = true
  | [], _, _, h => h
  | x :: r, m, h, h2 => by
    rw [oks, Bool.and_eq_true] at h
    show oks d (x :: (r ++ m)) = true
    rw [oks, h.1, oks_app h.2 h2]; rfl
theorem Qt.drop {l : List Tok} (h : Qt l) : Qt (l.drop 1) := fun t ht => h t (List.mem_of_mem_drop ht)
theorem expr_sub : ∀ d l n r, expr d l = .ok (n, r) → ∀ t ∈ r, t ∈ l
  | d, l, n, r, e, t, ht => by
    have key : ∀ (E : List Tok → Res), (∀ l n r, E l = .ok (n, r) → ∀ t ∈ r, t ∈ l) → ∀ (s : List UInt8) f acc l n r, kids E s f acc l = .ok (n, r) → ∀ t ∈ r, t ∈ l := by
      intro E hE s f
      induction f with
      | zero => intro acc l n r e; cases e
      | succ f ih =>
        intro acc l n r e t ht
        rw [kids] at e
        cases he : E l with
        | error x => rw [he] at e; cases e
        | ok p =>
          obtain ⟨m, q⟩ := p
          rw [he] at e
          dsimp only at e
          split at e
          · injection e with e; injection e with e1 e2
            rw [← e2] at ht
            exact hE l m q he t (List.mem_of_mem_drop ht)
          · split at e
            · exact hE l m q he t (List.mem_of_mem_drop (ih _ _ n r e t ht))
            · cases e
    induction d generalizing l n r t with
    | zero => cases e
    | succ d ih =>
      cases l with
      | nil => rw [expr] at e; cases e
      | cons x q =>
        rw [expr] at e
        split at e
        · injection e with e; injection e with e1 e2; rw [← e2] at ht; exact List.mem_cons_of_mem _ ht
        · split at e
          · cases e
          · split at e
            · split at e
              · injection e with e; injection e with e1 e2; rw [← e2] at ht
                exact List.mem_cons_of_mem _ (List.mem_of_mem_drop (List.mem_of_mem_drop ht))
              · exact List.mem_cons_of_mem _ (List.mem_of_mem_drop (key (expr d) (fun l n r e t ht => ih l n r e t ht) x.2 _ _ _ n r e t ht))
            · split at e
              · injection e with e; injection e with e1 e2; rw [← e2] at ht; exact List.mem_cons_of_mem _ ht
              · cases e
theorem kids_ok {d : Nat} (h : ∀ l n r, Qt l → expr d l = .ok (n, r) → ok d n = true ∧ (txt n).length + 1 + 11 * bs r ≤ 11 * bs l + 11) (t : List UInt8) :
    ∀ f acc l n r, Qt l → oks d acc = true → kids (expr d) t f acc l = .ok (n, r) → ∃ ks, n = .mk 1 t 0 ks ∧ oks d ks = true ∧ sl ks + 11 * bs r ≤ sl acc + 11 * bs l
  | 0, acc, l, n, r, _, _, e => by cases e
  | f + 1, acc, l, n, r, hq, ha, e => by
    rw [kids] at e
    cases he : expr d l with
    | error x => rw [he] at e; cases e
    | ok p =>
      obtain ⟨m, q⟩ := p
      obtain ⟨h1, h2⟩ := h l m q hq he
      have hqq : Qt q := fun t ht => hq t (expr_sub d l m q he t ht)
      have ho : oks d (acc ++ [m]) = true := oks_app ha (by rw [oks, oks, h1]; rfl)
      have hs : sl (acc ++ [m]) = sl acc + ((txt m).length + 1) := by rw [sl_app]; rfl
      rw [he] at e
      dsimp only at e
      split at e
      · rename_i h4
        injection e with e; injection e with e1 e2
        have := bs_drop (by decide) (by decide) h4
        exact ⟨acc ++ [m], e1.symm, ho, by rw [hs, ← e2]; omega⟩
      · split at e
        · rename_i h5
          have := bs_drop (by decide) (by decide) h5
          obtain ⟨ks, k1, k2, k3⟩ := kids_ok h t f _ _ n r hqq.drop ho e
          exact ⟨ks, k1, k2, by rw [hs] at k3; omega⟩
        · cases e
theorem expr_ok : ∀ d l n r, Qt l → expr d l = .ok (n, r) → ok d n = true ∧ (txt n).length + 1 + 11 * bs r ≤ 11 * bs l + 11
  | 0, l, n, r, _, e => by cases e
  | d + 1, l, n, r, hq, e => by
    cases l with
    | nil => rw [expr] at e; cases e
    | cons t q =>
      rw [expr] at e
      have hq2 : Qt q := fun x hx => hq x (List.mem_cons_of_mem _ hx)
      show _ ∧ _ ≤ 11 * (bw t + bs q) + 11
      split at e
      · rename_i h2
        injection e with e; injection e with e1 e2
        rw [← e1, ← e2]
        refine ⟨?_, ?_⟩
        · have := hq t (by simp) h2
          rw [ok, if_neg (by decide), decide_eq_true (Nat.succ_pos d)]
          unfold leafOk
          rw [if_neg (by decide), if_neg (by decide), if_pos rfl, this]
          rfl
        · rw [txt4]
          have : (quoted t.2).length = t.2.length + 2 := by unfold quoted; split <;> simp
          unfold bw
          rw [if_neg (by rw [h2]; decide), if_pos h2]
          omega
      · split at e
        · cases e
        · rename_i h1
          have h1 : t.1 = 1 := Decidable.not_not.1 h1
          have hb : bw t = t.2.length := by unfold bw; rw [if_pos h1]
          split at e
          · rename_i h3
            rw [Bool.and_eq_true] at h3
            have b3 := bs_drop (by decide) (by decide) h3.2
            split at e
            · rename_i h4
              injection e with e; injection e with e1 e2
              have b4 := bs_drop (by decide) (by decide) h4
              rw [← e1, ← e2]
              refine ⟨by rw [ok, if_pos rfl, decide_eq_true (Nat.succ_pos d), h3.1, oks]; rfl, ?_⟩
              rw [txt, if_pos rfl, txts]
              simp only [List.length_append, List.length_singleton, List.length_nil]
              omega
            · obtain ⟨ks, k1, k2, k3⟩ := kids_ok (expr_ok d) t.2 _ _ _ n r hq2.drop (by rw [oks]) e
              rw [k1]
              refine ⟨?_, ?_⟩
              · rw [ok, if_pos rfl, decide_eq_true (Nat.succ_pos d), h3.1]
                show (true && (true && (true && oks d ks))) = true
                rw [k2]; rfl
              · have := txts_sl ks true
                rw [txt, if_pos rfl]
                simp only [List.length_append, List.length_singleton]
                have k3 : sl ks + 11 * bs r ≤ 0 + 11 * bs (q.drop 1) := k3
                omega
          · split at e
            · rename_i m hm
              injection e with e; injection e with e1 e2
              rw [← e1, ← e2]
              obtain ⟨w1, w2⟩ := word_ok d hm
              exact ⟨w1, by omega⟩
            · cases e
/-- What is parsed may be, and its text is not too long to be parsed again. -/
theorem parse_ok2 {s : List UInt8} {n : Nd} (hs : s.length ≤ 300) (h : parseS s = .ok n) : ok 64 n = true ∧ (txt n).length ≤ 4096 := by
  unfold parseS at h
  rw [if_neg (by omega)] at h
  cases hx : Lx.lex s with
  | none => rw [hx] at h; cases h
  | some x =>
    rw [hx] at h
    have h : parse x = .ok n := h
    obtain ⟨h1, h2⟩ := lex_q hx
    unfold parse at h
    cases he : expr 64 x with
    | error e => rw [he] at h; cases h
    | ok p =>
      obtain ⟨m, r⟩ := p
      rw [he] at h
      have h : (if r = [] then Except.ok m else Except.error (8 : Int)) = .ok n := h
      obtain ⟨h3, h4⟩ := expr_ok 64 x m r h1 he
      split at h
      · injection h with h
        rw [← h]
        exact ⟨h3, by omega⟩
      · cases h
end Te
end Go.Proofs.YtojmcndiooiehaaGreatDoor

namespace Go.Proofs.YtojmcndiooiehaaGreatDoor
open Go.RowKit Go.Sort
open Me

set_option maxRecDepth 100000 in
set_option maxHeartbeats 8000000 in
theorem settles_bad (s : List UInt8) (hs : s.length ≤ 300) {e0 : Int} (hr : Te.parseS s = .error e0) (W : World) :
    Calls Tryz.prog 6 #[.string ⟨s.toArray⟩] W fun e W' => e = .returned (.bool true) ∧ Below W.heap.size W W' := by
  have HP : Hid (∀ w, Calls Tryz.prog 7 #[.string ⟨s.toArray⟩] w fun e w' => e0 ≠ 0 ∧ e = .returned (.tuple #[.agg #[.int .i64 0, .string ⟨#[]⟩, .int .i64 0, .slice none 0 0], .int .i64 e0]) ∧ Below w.heap.size w w') := Lib.hid fun w => (tparse_any s (by omega) w).mono fun e w' h => by
    obtain ⟨⟨k, t, n, ks, v, er, he, hq⟩, hb⟩ := h
    rcases hq with ⟨_, h1, _⟩ | ⟨h1, h2, rfl, rfl, rfl, rfl, rfl⟩
    · rw [hr] at h1; cases h1
    · rw [hr] at h2; injection h2 with h2; rw [h2]; exact ⟨h1, he, hb⟩
  have HR : Hid (∀ w, Calls Tryz.prog 8 #[.string ⟨s.toArray⟩] w fun e w' => e = .returned (.tuple #[.agg #[.int .i64 0, .string ⟨#[]⟩, .int .i64 0, .slice none 0 0], .int .i64 e0]) ∧ Below w.heap.size w w') := Lib.hid fun w => (rparse_any s (by omega) w).mono fun e w' h => by
    obtain ⟨⟨k, t, n, ks, v, er, he, hq⟩, hb⟩ := h
    rcases hq with ⟨_, h1, _⟩ | ⟨h1, h2, rfl, rfl, rfl, rfl, rfl⟩
    · rw [hr] at h1; cases h1
    · rw [hr] at h2; injection h2 with h2; rw [h2]; exact ⟨he, hb⟩
  have HKN := Lib.hid fun w => known15_any w
  have hI : ¬ (300 : Int) < (s.length : Int) := by omega
  clear hr hs
  go_enter Tryz.func6, Tryz.ntmps6
  go_wp2_with fail
  go_at_call 7
  refine (HP.out _).mono ?_
  rintro e w1 ⟨hne, rfl, hb1⟩
  have en : (e0 == 0) = false := by simpa using hne
  have HB1 := Lib.hid hb1
  have hz1 := hb1.size
  clear hb1
  go_wp2_with first
    | (go_at_call 8; go_must (refine (HR.out _).mono ?_; rintro e w2 ⟨rfl, hb2⟩; have HB2 : Hid (Below W.heap.size W w2) := Lib.hid ((HB1.out.alloc hz1 _).trans (hb2.mono (by simp; omega))); have hz2 := HB2.out.size; clear hb2))
    | (go_at_call 10; go_must (refine (HKN.out _).mono ?_; rintro e w4 ⟨rfl, hb4⟩; have HB4 : Hid (Below W.heap.size W w4) := Lib.hid ((HB2.out.alloc hz2 _).trans (hb4.mono (by simp; omega))); clear hb4))
  go_ret
  exact ⟨rfl, HB4.out⟩

set_option maxRecDepth 100000 in
set_option maxHeartbeats 8000000 in
theorem settles_good (s : List UInt8) (hs : s.length ≤ 300) {x : Te.Nd} (hr : Te.parseS s = .ok x) (W : World) :
    Calls Tryz.prog 6 #[.string ⟨s.toArray⟩] W fun e W' => e = .returned (.bool true) ∧ Below W.heap.size W W' := by
  obtain ⟨hok, htl⟩ := Te.parse_ok2 hs hr
  have hback := Te.parse_txt hok htl
  have hwt := Te.nd_wt s hs
  rw [hr] at hwt
  have hwt : Te.wt x ≤ 1048576 := hwt
  have hio : Te.isOk x = true := hok
  have hpr : Te.printS x = Te.txt x := by unfold Te.printS; rw [if_pos hio]
  have HP := Lib.hid fun w => (tparse_any s (by omega) w).mono fun e w' h => And.intro h.1.out h.2
  have HT := Lib.hid fun w => (tparse_any (Te.txt x) (by omega) w).mono fun e w' h => And.intro h.1.out h.2
  rw [hr] at HP
  rw [hback] at HT
  have HS : Hid (∀ (W : World) (G H : Nat → Prop) v u, Te.At W G x v → Te.At W H x u → Calls Tryz.prog 9 #[Te.val x v, Te.val x u] W fun e W' => e = .returned (.bool true) ∧ Below W.heap.size W W') := Lib.hid fun W G H v u h1 h2 => by
    have := rsame_any G H (Te.wt x) x (Nat.le_refl _) hwt x W v u hwt h1 h2
    rw [Te.same_refl] at this
    exact this
  have HPR : Hid (∀ (W : World) (G : Nat → Prop) v, Te.At W G x v → Calls Tryz.prog 12 #[Te.val x v] W fun e W' => e = .returned (.string ⟨(Te.txt x).toArray⟩) ∧ Below W.heap.size W W') := Lib.hid fun W G v h => by
    have := tprint_any x hwt v W h
    rw [hpr] at this
    exact this
  have HIS : Hid (∀ (W : World) (G : Nat → Prop) v, Te.At W G x v → Calls Tryz.prog 14 #[Te.val x v] W fun e W' => e = .returned (.bool true) ∧ Below W.heap.size W W') := Lib.hid fun W G v h => by
    have := tis_any x hwt v W h
    rw [hio] at this
    exact this
  have HKN := Lib.hid fun w => known15_any w
  have hI : ¬ (300 : Int) < (s.length : Int) := by omega
  generalize Te.txt x = T at *
  obtain ⟨k, t, n, ks⟩ := x
  obtain ⟨m, hm⟩ : ∃ m, m = ks.length := ⟨_, rfl⟩
  have HP2 : Hid (∀ w, Calls Tryz.prog 7 #[.string ⟨s.toArray⟩] w fun e w' => ∃ A c, e = .returned (.tuple #[.agg #[.int .i64 k, .string ⟨t.toArray⟩, .int .i64 n, .slice A m c], .int .i64 0]) ∧ Te.At w' (fun i => w.heap.size ≤ i) (.mk k t n ks) (.slice A m c) ∧ Below w.heap.size w w') := Lib.hid fun w => by
    rw [hm]
    exact (HP.out w).mono fun e w' ⟨⟨A, c, h1, h2⟩, h3⟩ => ⟨A, c, h1, h2, h3⟩
  have HT2 : Hid (∀ w, Calls Tryz.prog 7 #[.string ⟨T.toArray⟩] w fun e w' => ∃ A c, e = .returned (.tuple #[.agg #[.int .i64 k, .string ⟨t.toArray⟩, .int .i64 n, .slice A m c], .int .i64 0]) ∧ Te.At w' (fun i => w.heap.size ≤ i) (.mk k t n ks) (.slice A m c) ∧ Below w.heap.size w w') := Lib.hid fun w => by
    rw [hm]
    exact (HT.out w).mono fun e w' ⟨⟨A, c, h1, h2⟩, h3⟩ => ⟨A, c, h1, h2, h3⟩
  have HS2 : Hid (∀ (W : World) (G H : Nat → Prop) A c A' c', Te.At W G (.mk k t n ks) (.slice A m c) → Te.At W H (.mk k t n ks) (.slice A' m c') → Calls Tryz.prog 9 #[.agg #[.int .i64 k, .string ⟨t.toArray⟩, .int .i64 n, .slice A m c], .agg #[.int .i64 k, .string ⟨t.toArray⟩, .int .i64 n, .slice A' m c']] W fun e W' => e = .returned (.bool true) ∧ Below W.heap.size W W') := Lib.hid fun W G H A c A' c' h1 h2 => HS.out W G H _ _ h1 h2
  have HPR2 : Hid (∀ (W : World) (G : Nat → Prop) A c, Te.At W G (.mk k t n ks) (.slice A m c) → Calls Tryz.prog 12 #[.agg #[.int .i64 k, .string ⟨t.toArray⟩, .int .i64 n, .slice A m c]] W fun e W' => e = .returned (.string ⟨T.toArray⟩) ∧ Below W.heap.size W W') := Lib.hid fun W G A c h => HPR.out W G _ h
  have HIS2 : Hid (∀ (W : World) (G : Nat → Prop) A c, Te.At W G (.mk k t n ks) (.slice A m c) → Calls Tryz.prog 14 #[.agg #[.int .i64 k, .string ⟨t.toArray⟩, .int .i64 n, .slice A m c]] W fun e W' => e = .returned (.bool true) ∧ Below W.heap.size W W') := Lib.hid fun W G A c h => HIS.out W G _ h
  clear hr hs hok htl hback hwt hio hpr HP HT HS HPR HIS hm
  generalize Te.Nd.mk k t n ks = nd at *
  go_enter Tryz.func6, Tryz.ntmps6
  go_wp2_with fail
  go_at_call 7
  refine (HP2.out _).mono ?_
  rintro e w1 ⟨A1, c1, rfl, hat1, hb1⟩
  obtain ⟨v1, hv1⟩ : ∃ v1, v1 = w1.alloc (.cells #[.int .i64 k, .string ⟨t.toArray⟩, .int .i64 n, .slice A1 m c1] 24) := ⟨_, rfl⟩
  have HB1 : Hid (Below W.heap.size W v1) := Lib.hid (by rw [hv1]; exact hb1.alloc hb1.size _)
  have HA1 : Hid (Te.At v1 (fun i => W.heap.size ≤ i) nd (.slice A1 m c1)) := Lib.hid (by rw [hv1]; exact hat1.below ((Below.refl _ _).alloc (Nat.le_refl _) _))
  have HR1 : Hid (RowAt v1 w1.heap.size 24 #[.int .i64 k, .string ⟨t.toArray⟩, .int .i64 n, .slice A1 m c1]) := Lib.hid (by rw [hv1]; exact RowAt.new w1 _ _)
  have x0 : v1.cell? ⟨w1.heap.size, 0, none⟩ = some (.int .i64 k) := (HR1.out.cell 0).trans rfl; have y0 : v1.frozen? ⟨w1.heap.size, 0, none⟩ = false := HR1.out.frozen 0; have x1 : v1.cell? ⟨w1.heap.size, 1, none⟩ = some (.string ⟨t.toArray⟩) := (HR1.out.cell 1).trans rfl; have y1 : v1.frozen? ⟨w1.heap.size, 1, none⟩ = false := HR1.out.frozen 1; have x2 : v1.cell? ⟨w1.heap.size, 2, none⟩ = some (.int .i64 n) := (HR1.out.cell 2).trans rfl; have y2 : v1.frozen? ⟨w1.heap.size, 2, none⟩ = false := HR1.out.frozen 2; have x3 : v1.cell? ⟨w1.heap.size, 3, none⟩ = some (.slice A1 m c1) := (HR1.out.cell 3).trans rfl; have y3 : v1.frozen? ⟨w1.heap.size, 3, none⟩ = false := HR1.out.frozen 3
  have hz1 := HB1.out.size
  have l1 := HR1.out.lt
  have hsv1 : v1.heap.size = w1.heap.size + 1 := by rw [hv1]; simp
  clear hb1 hat1
  go_wp2_with fail
  rw [← hv1]
  clear hv1
  go_at_call 12
  refine (HPR2.out _ _ _ _ HA1.out).mono ?_
  rintro e w2 ⟨rfl, hb2⟩
  have HC2 := Lib.hid hb2
  have hz2 := hb2.size
  clear hb2 x0 x1 x2 x3 y0 y1 y2 y3
  go_wp2_with fail
  go_at_call 7
  refine (HT2.out _).mono ?_
  rintro e w3 ⟨A2, c2, rfl, hat3, hb3⟩
  have HCW : Hid (Below v1.heap.size v1 w3) := Lib.hid (HC2.out.trans (hb3.mono HC2.out.size))
  have hz3 := hb3.size
  have hn3 : w1.heap.size < w3.heap.size := by omega
  obtain ⟨v3, hv3⟩ : ∃ v3, v3 = w3.alloc (.cells #[.int .i64 k, .string ⟨t.toArray⟩, .int .i64 n, .slice A2 m c2] 24) := ⟨_, rfl⟩
  have HC3 : Hid (Below v1.heap.size v1 v3) := Lib.hid (by rw [hv3]; exact HCW.out.alloc HCW.out.size _)
  have HB3 : Hid (Below W.heap.size W v3) := Lib.hid (HB1.out.trans (HC3.out.mono hz1))
  have HA13 : Hid (Te.At v3 (fun i => W.heap.size ≤ i) nd (.slice A1 m c1)) := Lib.hid (HA1.out.below HC3.out)
  have HA23 : Hid (Te.At v3 (fun i => w2.heap.size ≤ i) nd (.slice A2 m c2)) := Lib.hid (by rw [hv3]; exact hat3.below ((Below.refl _ _).alloc (Nat.le_refl _) _))
  have HR3 : Hid (RowAt v3 w3.heap.size 24 #[.int .i64 k, .string ⟨t.toArray⟩, .int .i64 n, .slice A2 m c2]) := Lib.hid (by rw [hv3]; exact RowAt.new w3 _ _)
  have HR13 : Hid (RowAt v3 w1.heap.size 24 #[.int .i64 k, .string ⟨t.toArray⟩, .int .i64 n, .slice A1 m c1]) := Lib.hid (HR1.out.below HC3.out l1)
  have HRW := Lib.hid (HR1.out.below HCW.out l1)
  clear hb3 hat3
  have z0 : w3.cell? ⟨w1.heap.size, 0, none⟩ = some (.int .i64 k) := (HRW.out.cell 0).trans rfl; have q0 : w3.frozen? ⟨w1.heap.size, 0, none⟩ = false := HRW.out.frozen 0; have z1 : w3.cell? ⟨w1.heap.size, 1, none⟩ = some (.string ⟨t.toArray⟩) := (HRW.out.cell 1).trans rfl; have q1 : w3.frozen? ⟨w1.heap.size, 1, none⟩ = false := HRW.out.frozen 1; have z2 : w3.cell? ⟨w1.heap.size, 2, none⟩ = some (.int .i64 n) := (HRW.out.cell 2).trans rfl; have q2 : w3.frozen? ⟨w1.heap.size, 2, none⟩ = false := HRW.out.frozen 2; have z3 : w3.cell? ⟨w1.heap.size, 3, none⟩ = some (.slice A1 m c1) := (HRW.out.cell 3).trans rfl; have q3 : w3.frozen? ⟨w1.heap.size, 3, none⟩ = false := HRW.out.frozen 3
  go_wp2_with fail
  rw [← hv3]
  clear hv3 z0 z1 z2 z3 q0 q1 q2 q3
  go_at_call 9
  refine (HS2.out _ _ _ _ _ _ _ HA23.out HA13.out).mono ?_
  rintro e w4 ⟨rfl, hb4⟩
  have HC4 := Lib.hid hb4
  have HR4 := Lib.hid (HR3.out.below hb4 HR3.out.lt)
  clear hb4
  have z0 : w4.cell? ⟨w3.heap.size, 0, none⟩ = some (.int .i64 k) := (HR4.out.cell 0).trans rfl; have q0 : w4.frozen? ⟨w3.heap.size, 0, none⟩ = false := HR4.out.frozen 0; have z1 : w4.cell? ⟨w3.heap.size, 1, none⟩ = some (.string ⟨t.toArray⟩) := (HR4.out.cell 1).trans rfl; have q1 : w4.frozen? ⟨w3.heap.size, 1, none⟩ = false := HR4.out.frozen 1; have z2 : w4.cell? ⟨w3.heap.size, 2, none⟩ = some (.int .i64 n) := (HR4.out.cell 2).trans rfl; have q2 : w4.frozen? ⟨w3.heap.size, 2, none⟩ = false := HR4.out.frozen 2; have z3 : w4.cell? ⟨w3.heap.size, 3, none⟩ = some (.slice A2 m c2) := (HR4.out.cell 3).trans rfl; have q3 : w4.frozen? ⟨w3.heap.size, 3, none⟩ = false := HR4.out.frozen 3
  go_wp2_with fail
  clear z0 z1 z2 z3 q0 q1 q2 q3
  go_at_call 12
  refine (HPR2.out _ _ _ _ (HA23.out.below HC4.out)).mono ?_
  rintro e w5 ⟨rfl, hb5⟩
  have HC5 : Hid (Below v3.heap.size v3 w5) := Lib.hid (HC4.out.trans (hb5.mono HC4.out.size))
  have HR5 := Lib.hid (HR13.out.below HC5.out HR13.out.lt)
  clear hb5
  have z0 : w5.cell? ⟨w1.heap.size, 0, none⟩ = some (.int .i64 k) := (HR5.out.cell 0).trans rfl; have q0 : w5.frozen? ⟨w1.heap.size, 0, none⟩ = false := HR5.out.frozen 0; have z1 : w5.cell? ⟨w1.heap.size, 1, none⟩ = some (.string ⟨t.toArray⟩) := (HR5.out.cell 1).trans rfl; have q1 : w5.frozen? ⟨w1.heap.size, 1, none⟩ = false := HR5.out.frozen 1; have z2 : w5.cell? ⟨w1.heap.size, 2, none⟩ = some (.int .i64 n) := (HR5.out.cell 2).trans rfl; have q2 : w5.frozen? ⟨w1.heap.size, 2, none⟩ = false := HR5.out.frozen 2; have z3 : w5.cell? ⟨w1.heap.size, 3, none⟩ = some (.slice A1 m c1) := (HR5.out.cell 3).trans rfl; have q3 : w5.frozen? ⟨w1.heap.size, 3, none⟩ = false := HR5.out.frozen 3
  go_wp2_with fail
  clear z0 z1 z2 z3 q0 q1 q2 q3
  go_at_call 14
  refine (HIS2.out _ _ _ _ (HA13.out.below HC5.out)).mono ?_
  rintro e w6 ⟨rfl, hb6⟩
  have HB6 : Hid (Below W.heap.size W w6) := Lib.hid (HB3.out.trans ((HC5.out.trans (hb6.mono HC5.out.size)).mono HB3.out.size))
  clear hb6
  go_wp2_with fail
  go_at_call 10
  refine (HKN.out _).mono ?_
  rintro e w7 ⟨rfl, hb7⟩
  have HB7 : Hid (Below W.heap.size W w7) := Lib.hid (HB6.out.trans (hb7.mono HB6.out.size))
  clear hb7
  go_wp2_with fail
  go_ret
  exact ⟨rfl, HB7.out⟩

set_option maxHeartbeats 2000000 in
theorem lawSettles15 (s : List UInt8) (W : World) :
    Calls Tryz.prog 6 #[.string ⟨s.toArray⟩] W fun e W' => e = .returned (.bool true) ∧ Below W.heap.size W W' := by
  by_cases hs : s.length ≤ 300
  · cases hr : Te.parseS s with
    | error e0 => exact settles_bad s hs hr W
    | ok x => exact settles_good s hs hr W
  · have hI : (300 : Int) < (s.length : Int) := by omega
    clear hs
    go_enter Tryz.func6, Tryz.ntmps6
    go_wp2
    go_ret
    exact ⟨rfl, Below.refl _ _⟩
end Go.Proofs.YtojmcndiooiehaaGreatDoor
