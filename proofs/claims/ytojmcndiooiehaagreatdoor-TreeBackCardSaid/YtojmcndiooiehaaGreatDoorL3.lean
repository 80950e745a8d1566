/-
  TeBt: PLAIN: chapter 15: a node that may be, printed and parsed, is it. No program.
  TeLawB: LAW: chapter 15: TreeBack.
-/
import Derived.Test.YtojmcndiooiehaaGreatDoorL2
import Derived.Test.YtojmcndiooiehaaGreatDoorJ20
import Derived.Test.YtojmcndiooiehaaGreatDoorL1
import Derived.Test.YtojmcndiooiehaaGreatDoorJ36

set_option linter.unusedSimpArgs false
set_option linter.unusedVariables false
namespace Go.Proofs.YtojmcndiooiehaaGreatDoor
open Go.RowKit

namespace Te
theorem ok_parts {d : Nat} {k : Int} {s : List UInt8} {n : Int} {ks : List Nd} (h : ok d (.mk k s n ks) = true) : 0 < d ∧ ((k = 1 ∧ n = 0 ∧ Lx.identOf s = true ∧ oks (d - 1) ks = true) ∨ (k ≠ 1 ∧ ks = [] ∧ leafOk k s n = true)) := by
  by_cases hk : k = 1
  · subst hk
    rw [ok, if_pos rfl] at h
    simp at h
    exact ⟨h.1, .inl ⟨rfl, h.2.1, h.2.2.1, h.2.2.2⟩⟩
  · rw [ok, if_neg hk] at h
    simp at h
    exact ⟨h.1, .inr ⟨hk, h.2.1, h.2.2⟩⟩
theorem oks_in : ∀ (d : Nat) (l : List Nd), oks d l = true → ∀ x ∈ l, ok d x = true
  | _, [], _, x, hx => by cases hx
  | d, y :: r, h, x, hx => by
    rw [oks, Bool.and_eq_true] at h
    rcases List.mem_cons.1 hx with rfl | hx
    · exact h.1
    · exact oks_in d r h.2 x hx
/-- What a leaf that may be is. -/
theorem leaf_parts {k : Int} {s : List UInt8} {n : Int} (h : leafOk k s n = true) :
    (k = 2 ∧ n = 0 ∧ pathB s = true ∧ s ≠ trueT ∧ s ≠ falseT ∧ Dc.prOk s = false) ∨ (k = 3 ∧ s = [] ∧ Dc.knownB true n = true) ∨ (k = 4 ∧ n = 0 ∧ (s.contains 34 && s.contains 39) = false) ∨ (k = 5 ∧ s = [] ∧ (n = 0 ∨ n = 1)) := by
  unfold leafOk at h
  split at h
  · rename_i hk
    refine .inl ⟨hk, ?_⟩
    simp only [Bool.and_eq_true, decide_eq_true_eq, Bool.not_eq_true', decide_eq_false_iff_not] at h
    exact ⟨h.1, h.2.1.1.1, h.2.1.1.2, h.2.1.2, h.2.2⟩
  · split at h
    · rename_i hk
      refine .inr (.inl ⟨hk, ?_⟩)
      simp only [Bool.and_eq_true, decide_eq_true_eq] at h
      refine ⟨h.1, ?_⟩
      unfold Dc.knownB
      rw [Bool.true_and]
      exact decide_eq_true h.2
    · split at h
      · rename_i hk
        refine .inr (.inr (.inl ⟨hk, ?_⟩))
        simp only [Bool.and_eq_true, decide_eq_true_eq, Bool.not_eq_true'] at h
        exact h
      · split at h
        · rename_i hk
          refine .inr (.inr (.inr ⟨hk, ?_⟩))
          simp only [Bool.and_eq_true, decide_eq_true_eq, Bool.or_eq_true] at h
          exact h
        · cases h
theorem txt2 (s : List UInt8) (n : Int) (ks : List Nd) : txt (.mk 2 s n ks) = s := by rw [txt, if_neg (by decide), if_pos rfl]
theorem txt3 (s : List UInt8) (n : Int) (ks : List Nd) : txt (.mk 3 s n ks) = Dc.pr true n := by rw [txt, if_neg (by decide), if_neg (by decide), if_pos rfl]
theorem txt4 (s : List UInt8) (n : Int) (ks : List Nd) : txt (.mk 4 s n ks) = quoted s := by rw [txt, if_neg (by decide), if_neg (by decide), if_neg (by decide), if_pos rfl]
theorem txt5 (s : List UInt8) (n : Int) (ks : List Nd) : txt (.mk 5 s n ks) = if n = 1 then trueT else falseT := by rw [txt, if_neg (by decide), if_neg (by decide), if_neg (by decide), if_neg (by decide), if_pos rfl]
theorem toks_word {k : Int} (h1 : k ≠ 1) (h4 : k ≠ 4) (s : List UInt8) (n : Int) (ks : List Nd) : toks (.mk k s n ks) = [(1, txt (.mk k s n ks))] := by rw [toks, if_neg h1, if_neg h4]
theorem toks4 (s : List UInt8) (n : Int) (ks : List Nd) : toks (.mk 4 s n ks) = [(2, s)] := by rw [toks, if_neg (by decide), if_pos rfl]
theorem toks1 (s : List UInt8) (n : Int) (ks : List Nd) : toks (.mk 1 s n ks) = (1, s) :: (3, []) :: (tokss true ks ++ [(4, [])]) := by rw [toks, if_pos rfl]
theorem lex_txt : ∀ (d : Nat) (x : Nd), ok d x = true → Lx.lex (txt x) = some (toks x)
  | 0, .mk k s n ks, h => by rw [ok] at h; simp at h
  | d + 1, .mk k s n ks, h => by
    obtain ⟨_, h⟩ := ok_parts h
    rcases h with ⟨rfl, rfl, hi, hk⟩ | ⟨hk, rfl, hl⟩
    · have e : txt (.mk 1 s 0 ks) = s ++ 40 :: (txts true ks ++ [41]) := by rw [txt, if_pos rfl]; simp
      rw [e, toks1, Lx.lex_app (by decide) _ _ _ _ (Nat.le_refl _) (ident_word hi), lex_open, lex_txts ks true fun x hx => lex_txt d x (oks_in d ks hk x hx)]
      rfl
    · rcases leaf_parts hl with ⟨rfl, rfl, h1, _⟩ | ⟨rfl, rfl, h1⟩ | ⟨rfl, rfl, h1⟩ | ⟨rfl, rfl, h1⟩
      · rw [toks_word (by decide) (by decide), txt2]; exact path_word h1
      · rw [toks_word (by decide) (by decide), txt3]; exact pr_word h1
      · rw [toks4, txt4]; exact str_word h1
      · rw [toks_word (by decide) (by decide), txt5]
        rcases h1 with rfl | rfl
        · rw [if_neg (by decide)]; exact lex_false
        · rw [if_pos rfl]; exact lex_true
/-! ## the tokens as a node -/
theorem hd_toks (x : Nd) (r : List Tok) : hd 4 (toks x ++ r) = false := by
  obtain ⟨k, s, n, ks⟩ := x
  rw [toks]
  split
  · rfl
  · split <;> rfl
theorem word_true0 : word trueT = some (.mk 5 [] 1 []) := by
  have h : Dc.prOk trueT = false := by decide +kernel
  unfold word; rw [if_neg (by rw [h]; decide), if_pos rfl]
theorem word_false0 : word falseT = some (.mk 5 [] 0 []) := by
  have h : Dc.prOk falseT = false := by decide +kernel
  unfold word; rw [if_neg (by rw [h]; decide), if_neg (by decide), if_pos rfl]
theorem kids_toks {d : Nat} (s : List UInt8) (r : List Tok) : ∀ (ks : List Nd) (x : Nd) (acc : List Nd), (∀ y ∈ x :: ks, ∀ q, hd 3 q = false → expr d (toks y ++ q) = .ok (y, q)) →
    kidsA d s acc (tokss true (x :: ks) ++ (4, []) :: r) = .ok (.mk 1 s 0 (acc ++ x :: ks), r)
  | [], x, acc, h => by
    have e : tokss true [x] ++ (4, []) :: r = toks x ++ (4, []) :: r := by rw [tokss, tokss, if_pos rfl]; simp
    rw [e]
    exact kidsA_end (h x (by simp) _ rfl) rfl
  | y :: q, x, acc, h => by
    have e : tokss true (x :: y :: q) ++ (4, []) :: r = toks x ++ ((5, []) :: (tokss true (y :: q) ++ (4, []) :: r)) := by
      rw [tokss, tokss, if_pos rfl, if_neg (by decide), tokss, if_pos rfl]; simp
    rw [e, kidsA_more (h x (by simp) _ rfl) rfl rfl]
    have := kids_toks s r q y (acc ++ [x]) fun z hz => h z (List.mem_cons_of_mem _ hz)
    rw [List.append_assoc] at this
    exact this
theorem expr_toks : ∀ (d : Nat) (x : Nd), ok d x = true → ∀ r, hd 3 r = false → expr d (toks x ++ r) = .ok (x, r)
  | 0, .mk k s n ks, h, r, _ => by rw [ok] at h; simp at h
  | d + 1, .mk k s n ks, h, r, hr => by
    obtain ⟨_, h⟩ := ok_parts h
    rcases h with ⟨rfl, rfl, hi, hk⟩ | ⟨hk, rfl, hl⟩
    · have e : toks (.mk 1 s 0 ks) ++ r = (1, s) :: ((3, []) :: (tokss true ks ++ (4, []) :: r)) := by rw [toks1]; simp
      rw [e]
      cases ks with
      | nil => rw [expr_empty d hi rfl (by rw [tokss]; rfl)]; rw [tokss]; rfl
      | cons x q =>
        have h4 : hd 4 (((3, []) :: (tokss true (x :: q) ++ (4, []) :: r) : List Tok).drop 1) = false := by
          show hd 4 (tokss true (x :: q) ++ (4, []) :: r) = false
          rw [tokss, if_pos rfl]
          simp only [List.nil_append, List.append_assoc]
          exact hd_toks x _
        rw [expr_call d hi rfl h4]
        have := kids_toks s r q x [] fun y hy => expr_toks d y (oks_in d _ hk y hy)
        exact this
    · rcases leaf_parts hl with ⟨rfl, rfl, h1, h2, h3, h4⟩ | ⟨rfl, rfl, h1⟩ | ⟨rfl, rfl, h1⟩ | ⟨rfl, rfl, h1⟩
      · rw [toks_word (by decide) (by decide), txt2]
        show expr (d + 1) ((1, s) :: r) = _
        rw [expr_word d (by rw [hr, Bool.and_false])]
        unfold word
        rw [if_neg (by rw [h4]; decide), if_neg h2, if_neg h3, if_pos h1]
      · rw [toks_word (by decide) (by decide), txt3]
        show expr (d + 1) ((1, Dc.pr true n) :: r) = _
        rw [expr_word d (by rw [hr, Bool.and_false])]
        obtain ⟨p1, p2⟩ := Dc.parse_pr h1
        unfold word
        rw [if_pos p1, p2]
      · rw [toks4]
        exact expr_str d s r
      · rw [toks_word (by decide) (by decide), txt5]
        show expr (d + 1) ((1, if n = 1 then trueT else falseT) :: r) = _
        rw [expr_word d (by rw [hr, Bool.and_false])]
        rcases h1 with rfl | rfl
        · rw [if_neg (by decide), word_false0]
        · rw [if_pos rfl, word_true0]
/-- There and back. -/
theorem parse_txt {x : Nd} (h : ok 64 x = true) (hl : (txt x).length ≤ 4096) : parseS (txt x) = .ok x := by
  unfold parseS
  rw [if_neg (by omega), lex_txt 64 x h]
  have := expr_toks 64 x h [] rfl
  rw [List.append_nil] at this
  unfold parse
  show (match expr 64 (toks x) with | .error e => Except.error e | .ok (n, r) => if r = [] then .ok n else .error 8) = _
  rw [this]
  rfl
end Te
end Go.Proofs.YtojmcndiooiehaaGreatDoor

namespace Go.Proofs.YtojmcndiooiehaaGreatDoor
open Go.RowKit Go.Sort
open Me

set_option maxRecDepth 100000 in
set_option maxHeartbeats 8000000 in
theorem lawBack15 (x : Te.Nd) (v : Value) (W : World) (hat : Te.At W (fun _ => True) x v) (hT : Te.Tl x) :
    Calls Tryz.prog 5 #[Te.val x v] W fun e W' => e = .returned (.bool true) ∧ Below W.heap.size W W' := by
  have HHV := Lib.hid fun (w : World) (hw : Below W.heap.size W w) => heavy_any (fun _ => True) (Te.wt x) x (Nat.le_refl _) hT w v 300 (by decide) (by decide) (hat.below hw)
  have HIS : Hid (Te.wt x ≤ 300 → ∀ w, Below W.heap.size W w → Calls Tryz.prog 15 #[Te.val x v] w fun e w' => e = .returned (.bool (Te.isOk x)) ∧ Below w.heap.size w w') := Lib.hid fun h w hw => ris_any x (by omega) v w (hat.below hw)
  have HPR : Hid (Te.wt x ≤ 300 → Te.isOk x = true → ∀ w, Below W.heap.size W w → Calls Tryz.prog 12 #[Te.val x v] w fun e w' => e = .returned (.string ⟨(Te.txt x).toArray⟩) ∧ Below w.heap.size w w') := Lib.hid fun h hok w hw => by
    have := tprint_any x (by omega) v w (hat.below hw)
    rw [show Te.printS x = Te.txt x by unfold Te.printS; rw [if_pos hok]] at this
    exact this
  have HPA : Hid (Te.wt x ≤ 300 → Te.isOk x = true → ∀ w, Calls Tryz.prog 7 #[.string ⟨(Te.txt x).toArray⟩] w fun e w' => (∃ A c, e = .returned (.tuple #[Te.val x (.slice A x.ks.length c), .int .i64 0]) ∧ Te.At w' (fun i => w.heap.size ≤ i) x (.slice A x.ks.length c)) ∧ Below w.heap.size w w') := Lib.hid fun h hok w => by
    have hl := Te.txt_len x
    have := (tparse_any (Te.txt x) (by omega) w).mono fun e w' h => And.intro h.1.out h.2
    rw [Te.parse_txt hok (by omega)] at this
    exact this
  have HS : Hid (Te.wt x ≤ 300 → ∀ (w : World) (G : Nat → Prop) u, Below W.heap.size W w → Te.At w G x u → Calls Tryz.prog 9 #[Te.val x u, Te.val x v] w fun e W' => e = .returned (.bool true) ∧ Below w.heap.size w W') := Lib.hid fun h w G u hw h1 => by
    have := rsame_any G (fun _ => True) (Te.wt x) x (Nat.le_refl _) (by omega) x w u v (by omega) h1 (hat.below hw)
    rw [Te.same_refl] at this
    exact this
  have HKN := Lib.hid fun w => known15_any w
  generalize Te.isOk x = q at *
  generalize Te.txt x = T at *
  generalize Te.wt x = Wt at *
  obtain ⟨k, t, n, ks⟩ := x
  obtain ⟨A, c, xs, rfl, hz1, hz2⟩ := hat.form
  clear hz1 hz2
  obtain ⟨m, hm⟩ : ∃ m, m = ks.length := ⟨_, rfl⟩
  have HHVn : Hid (∀ w, Below W.heap.size W w → Calls Tryz.prog 11 #[.agg #[.int .i64 k, .string ⟨t.toArray⟩, .int .i64 n, .slice A m c], .int .i64 300] w fun e w' => ∃ r : Int, e = .returned (.int .i64 r) ∧ r ≤ 300 ∧ -281474976710656 ≤ r ∧ (0 ≤ r → r = 300 - (Wt : Int)) ∧ Below w.heap.size w w') := Lib.hid (by rw [hm]; exact HHV.out)
  have HISn : Hid (Wt ≤ 300 → ∀ w, Below W.heap.size W w → Calls Tryz.prog 15 #[.agg #[.int .i64 k, .string ⟨t.toArray⟩, .int .i64 n, .slice A m c]] w fun e w' => e = .returned (.bool q) ∧ Below w.heap.size w w') := Lib.hid (by rw [hm]; exact HIS.out)
  have HPRn : Hid (Wt ≤ 300 → q = true → ∀ w, Below W.heap.size W w → Calls Tryz.prog 12 #[.agg #[.int .i64 k, .string ⟨t.toArray⟩, .int .i64 n, .slice A m c]] w fun e w' => e = .returned (.string ⟨T.toArray⟩) ∧ Below w.heap.size w w') := Lib.hid (by rw [hm]; exact HPR.out)
  have HPAn : Hid (Wt ≤ 300 → q = true → ∀ w, Calls Tryz.prog 7 #[.string ⟨T.toArray⟩] w fun e w' => (∃ A c, e = .returned (.tuple #[.agg #[.int .i64 k, .string ⟨t.toArray⟩, .int .i64 n, .slice A m c], .int .i64 0]) ∧ Te.At w' (fun i => w.heap.size ≤ i) (.mk k t n ks) (.slice A m c)) ∧ Below w.heap.size w w') := Lib.hid (by rw [hm]; exact HPA.out)
  have HSn : Hid (Wt ≤ 300 → ∀ (w : World) (G : Nat → Prop) A' c', Below W.heap.size W w → Te.At w G (.mk k t n ks) (.slice A' m c') → Calls Tryz.prog 9 #[.agg #[.int .i64 k, .string ⟨t.toArray⟩, .int .i64 n, .slice A' m c'], .agg #[.int .i64 k, .string ⟨t.toArray⟩, .int .i64 n, .slice A m c]] w fun e W' => e = .returned (.bool true) ∧ Below w.heap.size w W') := Lib.hid (by rw [hm]; exact fun h w G A' c' h1 h2 => HS.out h w G _ h1 h2)
  clear HHV HIS HPR HPA HS
  show Calls Tryz.prog 5 #[.agg #[.int .i64 k, .string ⟨t.toArray⟩, .int .i64 n, .slice A ks.length c]] W _
  rw [← hm]
  generalize Te.Nd.mk k t n ks = nd at *
  obtain ⟨w0, hw0⟩ : ∃ w0, w0 = W.alloc (.cells #[.int .i64 k, .string ⟨t.toArray⟩, .int .i64 n, .slice A m c] 24) := ⟨_, rfl⟩
  have HB0 : Hid (Below W.heap.size W w0) := Lib.hid (by rw [hw0]; exact (Below.refl W.heap.size W).alloc (Nat.le_refl _) _)
  have HR0 : Hid (RowAt w0 W.heap.size 24 #[.int .i64 k, .string ⟨t.toArray⟩, .int .i64 n, .slice A m c]) := Lib.hid (by rw [hw0]; exact RowAt.new W _ _)
  clear hat hT hm
  go_enter Tryz.func5, Tryz.ntmps5
  go_wp2_with fail
  rw [← hw0]
  clear hw0
  go_at_call 11
  refine (HHVn.out _ HB0.out).mono ?_
  rintro e w1 ⟨r, rfl, hr3, hrl, hre, hb1⟩
  have HB1 : Hid (Below W.heap.size W w1) := Lib.hid (HB0.out.trans (hb1.mono HB0.out.size))
  have HR1 := Lib.hid (HR0.out.below hb1 HR0.out.lt)
  clear hb1
  by_cases hr0 : r < 0
  · go_wp2_with fail
    go_ret
    exact ⟨rfl, HB1.out⟩
  have hwt : Wt ≤ 300 := by have := hre (by omega); omega
  have HIS2 := Lib.hid (HISn.out hwt)
  have x0 : w1.cell? ⟨W.heap.size, 0, none⟩ = some (.int .i64 k) := (HR1.out.cell 0).trans rfl; have y0 : w1.frozen? ⟨W.heap.size, 0, none⟩ = false := HR1.out.frozen 0; have x1 : w1.cell? ⟨W.heap.size, 1, none⟩ = some (.string ⟨t.toArray⟩) := (HR1.out.cell 1).trans rfl; have y1 : w1.frozen? ⟨W.heap.size, 1, none⟩ = false := HR1.out.frozen 1; have x2 : w1.cell? ⟨W.heap.size, 2, none⟩ = some (.int .i64 n) := (HR1.out.cell 2).trans rfl; have y2 : w1.frozen? ⟨W.heap.size, 2, none⟩ = false := HR1.out.frozen 2; have x3 : w1.cell? ⟨W.heap.size, 3, none⟩ = some (.slice A m c) := (HR1.out.cell 3).trans rfl; have y3 : w1.frozen? ⟨W.heap.size, 3, none⟩ = false := HR1.out.frozen 3
  have l1 := HR1.out.lt
  clear hre
  cases q
  · go_wp2_with (go_at_call 15; go_must (refine (HIS2.out _ HB1.out).mono ?_; rintro e w2 ⟨rfl, hb2⟩; have HB2 : Hid (Below W.heap.size W w2) := Lib.hid (HB1.out.trans (hb2.mono HB1.out.size)); clear hb2))
    go_ret
    exact ⟨rfl, HB2.out⟩
  have HPR2 := Lib.hid (HPRn.out hwt rfl)
  have HPA2 := Lib.hid (HPAn.out hwt rfl)
  have HS2 := Lib.hid (HSn.out hwt)
  clear HPRn HPAn HSn HISn HHVn
  go_wp2_with fail
  go_at_call 15
  refine (HIS2.out _ HB1.out).mono ?_
  rintro e w2 ⟨rfl, hb2⟩
  have HB2 : Hid (Below W.heap.size W w2) := Lib.hid (HB1.out.trans (hb2.mono HB1.out.size))
  have HR2 := Lib.hid (HR1.out.below hb2 HR1.out.lt)
  clear hb2 x0 x1 x2 x3 y0 y1 y2 y3
  have x0 : w2.cell? ⟨W.heap.size, 0, none⟩ = some (.int .i64 k) := (HR2.out.cell 0).trans rfl; have y0 : w2.frozen? ⟨W.heap.size, 0, none⟩ = false := HR2.out.frozen 0; have x1 : w2.cell? ⟨W.heap.size, 1, none⟩ = some (.string ⟨t.toArray⟩) := (HR2.out.cell 1).trans rfl; have y1 : w2.frozen? ⟨W.heap.size, 1, none⟩ = false := HR2.out.frozen 1; have x2 : w2.cell? ⟨W.heap.size, 2, none⟩ = some (.int .i64 n) := (HR2.out.cell 2).trans rfl; have y2 : w2.frozen? ⟨W.heap.size, 2, none⟩ = false := HR2.out.frozen 2; have x3 : w2.cell? ⟨W.heap.size, 3, none⟩ = some (.slice A m c) := (HR2.out.cell 3).trans rfl; have y3 : w2.frozen? ⟨W.heap.size, 3, none⟩ = false := HR2.out.frozen 3
  go_wp2_with fail
  go_at_call 12
  refine (HPR2.out _ HB2.out).mono ?_
  rintro e w3 ⟨rfl, hb3⟩
  have HB3 : Hid (Below W.heap.size W w3) := Lib.hid (HB2.out.trans (hb3.mono HB2.out.size))
  have HR3 := Lib.hid (HR2.out.below hb3 HR2.out.lt)
  clear hb3 x0 x1 x2 x3 y0 y1 y2 y3
  go_wp2_with fail
  go_at_call 7
  refine (HPA2.out _).mono ?_
  rintro e w4 ⟨⟨A4, c4, rfl, hat4⟩, hb4⟩
  have HB4 : Hid (Below W.heap.size W w4) := Lib.hid (HB3.out.trans (hb4.mono HB3.out.size))
  have HR4 := Lib.hid (HR3.out.below hb4 HR3.out.lt)
  have HA4 := Lib.hid hat4
  have hz4 := HB4.out.size
  have l4 := HR4.out.lt
  clear hb4 hat4
  have x0 : w4.cell? ⟨W.heap.size, 0, none⟩ = some (.int .i64 k) := (HR4.out.cell 0).trans rfl; have y0 : w4.frozen? ⟨W.heap.size, 0, none⟩ = false := HR4.out.frozen 0; have x1 : w4.cell? ⟨W.heap.size, 1, none⟩ = some (.string ⟨t.toArray⟩) := (HR4.out.cell 1).trans rfl; have y1 : w4.frozen? ⟨W.heap.size, 1, none⟩ = false := HR4.out.frozen 1; have x2 : w4.cell? ⟨W.heap.size, 2, none⟩ = some (.int .i64 n) := (HR4.out.cell 2).trans rfl; have y2 : w4.frozen? ⟨W.heap.size, 2, none⟩ = false := HR4.out.frozen 2; have x3 : w4.cell? ⟨W.heap.size, 3, none⟩ = some (.slice A m c) := (HR4.out.cell 3).trans rfl; have y3 : w4.frozen? ⟨W.heap.size, 3, none⟩ = false := HR4.out.frozen 3
  go_wp2_with first
    | (go_at_call 9; go_must (refine (HS2.out _ _ _ _ (HB4.out.alloc hz4 _) (HA4.out.below ((Below.refl _ _).alloc (Nat.le_refl _) _))).mono ?_; rintro e w5 ⟨rfl, hb5⟩; have HB5 : Hid (Below W.heap.size W w5) := Lib.hid ((HB4.out.alloc hz4 _).trans (hb5.mono (by simp; omega))); clear hb5))
    | (go_at_call 10; go_must (refine (HKN.out _).mono ?_; rintro e w6 ⟨rfl, hb6⟩; have HB6 : Hid (Below W.heap.size W w6) := Lib.hid (HB5.out.trans (hb6.mono HB5.out.size)); clear hb6))
  go_ret
  exact ⟨rfl, HB6.out⟩
end Go.Proofs.YtojmcndiooiehaaGreatDoor
