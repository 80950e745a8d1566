/-
  GlRead: CONTRACTS: chapter 9: the program's readRow and readGroup: what a balanced text's choices are in memory.
-/
import Derived.Test.YtfmbbhcjnidcbaaGreatDoorJ26
import Derived.Test.YtfmbbhcjnidcbaaGreatDoorJ28

namespace Go.Proofs.YtfmbbhcjnidcbaaGreatDoor
open Go.RowKit
open Me

namespace Gl
/-- What may follow a text. -/
def tailOk (s : List UInt8) : Prop := s = [] ∨ ∃ b r, s = b :: r ∧ (b = 44 ∨ b = 125)
theorem fst_noSp {p : List UInt8} (h : noSp p = true) (s : List UInt8) (hs : s = [] ∨ ∃ b r, s = b :: r ∧ ([123, 44, 125] : List UInt8).contains b = true) : fst [123, 44, 125] (p ++ s) = p := by
  induction p with
  | nil =>
    rcases hs with rfl | ⟨b, r, rfl, hb⟩
    · rfl
    · show List.takeWhile _ (b :: r) = []
      rw [List.takeWhile_cons, hb]; rfl
  | cons c p ih =>
    have hc : (c ≠ 123 ∧ c ≠ 125 ∧ c ≠ 44) ∧ noSp p = true := by simpa [noSp] using h
    show List.takeWhile _ (c :: (p ++ s)) = _
    have h1 : (!([123, 44, 125] : List UInt8).contains c) = true := by simp [hc.1.1, hc.1.2.1, hc.1.2.2]
    rw [List.takeWhile_cons, if_pos h1]
    exact congrArg (c :: ·) (ih hc.2)
theorem tail_sp {s : List UInt8} (h : tailOk s) : s = [] ∨ ∃ b r, s = b :: r ∧ ([123, 44, 125] : List UInt8).contains b = true := by
  rcases h with h | ⟨b, r, h, rfl | rfl⟩
  · exact .inl h
  · exact .inr ⟨_, r, h, by decide⟩
  · exact .inr ⟨_, r, h, by decide⟩
theorem prefix_brace (s : List UInt8) : Lib.hasPrefix s [123] = (match s with | [] => false | b :: _ => decide (b = 123)) := by
  cases s with
  | nil => rfl
  | cons b r =>
    show ((123 : UInt8) == b && List.isPrefixOf [] r) = decide (b = 123)
    rw [List.isPrefixOf_nil_left, Bool.and_true]
    by_cases h : b = 123
    · subst h; rfl
    · rw [decide_eq_false h]
      exact beq_eq_false_iff_ne.2 fun e => h e.symm
theorem tail_prefix {s : List UInt8} (h : tailOk s) : Lib.hasPrefix s [123] = false := by
  rw [prefix_brace]
  rcases h with rfl | ⟨b, r, rfl, rfl | rfl⟩ <;> rfl
/-- What lies above N, but for a row's own block. -/
def Abv (N : Nat) (v : Value) : Nat → Prop := fun i => N ≤ i ∧ v.ownBlock ≠ some i
/-- A row under way: the result's box, its own box, its pieces. -/
structure RSv (w0 : World) (w : World) (v : Value) (pcs : List Pi) : Prop where
  below : Below w0.heap.size w0 w
  res : RowAt w w0.heap.size 101 #[.slice none 0 0, .int .i64 0]
  row : RowAt w (w0.heap.size + 1) 101 #[v, .int .i64 (lim (prod (pcs.map Pi.M)).length)]
  own : w.ownsRow (w0.heap.size + 2) 130 3 v pcs.length (cellsP pcs)
  all : ∃ n, ∀ p ∈ pcs, PieceM w (Abv (w0.heap.size + 2) v) n p
theorem abv_keep {w w' : World} {N : Nat} {v : Value} (hb : Below w.heap.size w w') {A : Option Addr} {xs : List Value} (h : Rd w (Abv N v) A xs) : Rd w' (Abv N v) A xs := h.below hb
theorem RSv.on {w0 w w' : World} {v : Value} {pcs : List Pi} (h : RSv w0 w v pcs) (hb : Below w.heap.size w w') : RSv w0 w' v pcs := by
  obtain ⟨h1, h2, h3, h4, n, h5⟩ := h
  exact ⟨h1.trans (hb.mono h1.size), h2.below hb h2.lt, h3.below hb h3.lt, owns_keep h4 fun g hg => hb.block g (World.ownsRow.lt h4 g hg).2, n, fun p hp => (h5 p hp).more (fun A xs => abv_keep hb) (Nat.le_refl _)⟩
theorem RSv.add {w0 w w' : World} {v : Value} {pcs : List Pi} (h : RSv w0 w v pcs) (p : Pi) (m : Nat) (hp : PieceM w (Abv (w0.heap.size + 2) v) m p)
    (hg : Grew w (w0.heap.size + 2) (w0.heap.size + 1) (pcs.length + 1) 101 130 3 v.ownBlock (cellsP pcs ++ [.string ⟨p.b.toArray⟩, p.rs, .int .i64 p.k]) (.int .i64 (lim (lim (prod (pcs.map Pi.M)).length * p.k))) w') : ∃ v', RSv w0 w' v' (pcs ++ [p]) := by
  obtain ⟨h1, h2, h3, h4', n, h4⟩ := h
  obtain ⟨v', lr', g1, g2, g3, g4, g5⟩ := hg
  have hws := h1.size
  have hrl := h3.lt
  have hkeep : ∀ A xs, Rd w (Abv (w0.heap.size + 2) v) A xs → Rd w' (Abv (w0.heap.size + 2) v') A xs := by
    intro A xs hr
    have h1 : Rd w (fun i => Abv (w0.heap.size + 2) v i ∧ Abv (w0.heap.size + 2) v' i) A xs := hr.mono fun i hi h => ⟨h, h.1, by
      rw [g3]
      rcases g5 with e | ⟨b, e, hb2⟩
      · rw [e]; exact h.2
      · rw [e]; intro e2; have := Option.some.inj e2; omega⟩
    refine (h1.kp g4 ?_).mono fun i _ h => h.2
    rintro i hi ⟨⟨h5, h6⟩, _⟩ (rfl | h7)
    · omega
    · exact h6 h7
  refine ⟨v', ⟨h1.trans (g4.below hws ?_), ?_, ?_, ?_, max n m, ?_⟩⟩
  · rintro i hi (rfl | h7)
    · omega
    · have := (World.ownsRow.lt h4' i h7).1; omega
  · refine (g4.block _ h2.lt ?_).trans h2
    rintro (h7 | h7)
    · omega
    · have := (World.ownsRow.lt h4' _ h7).1; omega
  · rw [hp.1, lim_mul] at g1
    rw [List.map_append, List.map_cons, List.map_nil, prod_snoc, comb_len]
    exact g1
  · rw [List.length_append, List.length_singleton, cellsP_append]
    exact g2
  · intro q hq
    rcases List.mem_append.1 hq with hq | hq
    · exact (h4 q hq).more hkeep (Nat.le_max_left _ _)
    · obtain rfl : q = p := by simpa using hq
      exact hp.more hkeep (Nat.le_max_right _ _)
theorem prod_pos (l : List Pi) (h : ∀ p ∈ l, 0 < p.M.length) : 0 < (prod (l.map Pi.M)).length := by
  induction l with
  | nil => exact Nat.zero_lt_one
  | cons p r ih =>
    show 0 < (comb p.M (prod (r.map Pi.M))).length
    rw [comb_len]
    exact Nat.mul_pos (h p (List.mem_cons_self ..)) (ih fun q hq => h q (List.mem_cons_of_mem _ hq))
theorem own_lt {w : World} {base : Nat} {e : TypeId} {size n : Nat} {v : Value} {xs : List Value} (h : w.ownsRow base e size v n xs) {i : Nat} (hi : w.heap.size ≤ i) : v.ownBlock ≠ some i := fun e => by
  have := (World.ownsRow.lt h i e).2
  omega
/-- A group that was read, once it lies in its box too. -/
theorem group_boxed {w0 w2 w4 : World} {v' : Value} {pcs : List Pi} (h : RSv w0 w2 v' pcs) (u0 u1 u2 : Value) {p : Pi} {d : Nat} (hp : PieceM w4 (fun i => w2.heap.size + 1 ≤ i) d p) :
    PieceM (((w4.setCell ⟨w2.heap.size, 0, none⟩ u0).setCell ⟨w2.heap.size, 1, none⟩ u1).setCell ⟨w2.heap.size, 2, none⟩ u2) (Abv (w0.heap.size + 2) v') d p := by
  have hrl := h.row.lt
  refine hp.more (fun A xs hr => ?_) (Nat.le_refl _)
  refine (hr.kp (O := fun i => i = w2.heap.size) ((((Kp.refl (fun i => i = w2.heap.size) w4).setCell ⟨w2.heap.size, 0, none⟩ (.inr rfl) _).setCell ⟨w2.heap.size, 1, none⟩ (.inr rfl) _).setCell ⟨w2.heap.size, 2, none⟩ (.inr rfl) _) ?_).mono fun i _ hi => ?_
  · intro i _ h5 h6
    have h5 : w2.heap.size + 1 ≤ i := h5
    have h6 : i = w2.heap.size := h6
    omega
  · have hi : w2.heap.size + 1 ≤ i := hi
    exact ⟨by omega, own_lt h.own (by omega)⟩
theorem RSv.finish {w0 w : World} {v : Value} {pcs : List Pi} {L : List (List UInt8)} (h : RSv w0 w v pcs) (hL : prod (pcs.map Pi.M) = L) (hl : pcs.length ≤ 8589934592) : ∃ (A : Option Addr) (m c k : Nat), w.cell? ⟨w0.heap.size + 1, 0, none⟩ = some (.slice A m c) ∧ w.cell? ⟨w0.heap.size + 1, 1, none⟩ = some (.int .i64 k) ∧ w0.heap.size < w.heap.size ∧ w.frozen? ⟨w0.heap.size, 0, none⟩ = false ∧ w.frozen? ⟨w0.heap.size, 1, none⟩ = false ∧ w.cell? ⟨w0.heap.size, 0, none⟩ = some (.slice none 0 0) ∧ w.cell? ⟨w0.heap.size, 1, none⟩ = some (.int .i64 0) ∧
    Below w0.heap.size w0 w ∧ Hid ((∃ d, RowM ((w.setCell ⟨w0.heap.size, 0, none⟩ (.slice A m c)).setCell ⟨w0.heap.size, 1, none⟩ (.int .i64 k)) (fun i => w0.heap.size ≤ i) d ⟨.slice A m c, k, L⟩) ∧ ((w.setCell ⟨w0.heap.size, 0, none⟩ (.slice A m c)).setCell ⟨w0.heap.size, 1, none⟩ (.int .i64 k)).cell? ⟨w0.heap.size, 0, none⟩ = some (.slice A m c) ∧ ((w.setCell ⟨w0.heap.size, 0, none⟩ (.slice A m c)).setCell ⟨w0.heap.size, 1, none⟩ (.int .i64 k)).cell? ⟨w0.heap.size, 1, none⟩ = some (.int .i64 k)) := by
  obtain ⟨h1, h2, h3, h4, n, h5⟩ := h
  obtain ⟨A, c, rfl⟩ := own_slice h4
  have hpos : 0 < L.length := by rw [← hL]; exact prod_pos _ fun p hp => (h5 p hp).2.1
  have hkeep : ∀ (u0 u1 : Value) B xs, Rd w (fun i => w0.heap.size + 2 ≤ i) B xs → Rd ((w.setCell ⟨w0.heap.size, 0, none⟩ u0).setCell ⟨w0.heap.size, 1, none⟩ u1) (fun i => w0.heap.size ≤ i) B xs := by
    intro u0 u1 B xs hr
    refine (hr.kp (O := fun i => i = w0.heap.size) (((Kp.refl (fun i => i = w0.heap.size) w).setCell ⟨w0.heap.size, 0, none⟩ (.inr rfl) _).setCell ⟨w0.heap.size, 1, none⟩ (.inr rfl) _) ?_).mono fun i _ h => ?_
    · intro i hi h5 h6
      have h5 : w0.heap.size + 2 ≤ i := h5
      have h6 : i = w0.heap.size := h6
      omega
    · have h : w0.heap.size + 2 ≤ i := h
      show w0.heap.size ≤ i
      omega
  have hset := (h2.set_ 0 (.slice A pcs.length c)).set_ 1 (.int .i64 ((lim L.length : Nat) : Int))
  rw [hL] at h3
  refine ⟨A, pcs.length, c, lim L.length, (h3.cell 0).trans rfl, (h3.cell 1).trans rfl, h2.lt, h2.frozen 0, h2.frozen 1, (h2.cell 0).trans rfl, (h2.cell 1).trans rfl, h1, Lib.hid ⟨⟨n + 1, rfl, hpos, pcs, A, c, rfl, hkeep _ _ _ _ ?_, hl, hL.symm, fun p hp => ?_⟩, (hset.cell 0).trans rfl, (hset.cell 1).trans rfl⟩⟩
  · refine (Rd.own h4).mono fun i _ hi => ?_
    exact (World.ownsRow.lt h4 i hi).1
  · exact PieceOk.mono (h5 p hp) (fun r hr => hr.more (fun B xs hx => hkeep _ _ _ _ (hx.mono fun i _ h => h.1)) (Nat.le_refl _)) (fun B xs hx => hkeep _ _ _ _ (hx.mono fun i _ h => h.1))
theorem RSv.start (w0 : World) : RSv w0 ((w0.alloc (.cells #[.slice none 0 0, .int .i64 0] 101)).alloc (.cells #[.slice none 0 0, .int .i64 1] 101)) (.slice none 0 0) [] := by
  refine ⟨((Below.refl _ _).alloc (Nat.le_refl _) _).alloc (by simp) _, (RowAt.new w0 _ _).alloc _, ?_, ⟨rfl, .inl ⟨rfl, rfl⟩⟩, 0, fun p hp => by cases hp⟩
  have := RowAt.new (w0.alloc (.cells #[.slice none 0 0, .int .i64 0] 101)) #[.slice none 0 0, .int .i64 1] 101
  have e : lim (prod (([] : List Pi).map Pi.M)).length = 1 := rfl
  rw [e]
  simpa using this
end Gl

theorem add_row {w0 w : World} {v : Value} {pcs : List Gl.Pi} (h : Gl.RSv w0 w v pcs) (hl : pcs.length ≤ 8589934590) (b : List UInt8) (A : Option Addr) (m c k : Nat) (M : List (List UInt8)) (d : Nat) (hp : Gl.PieceM w (Gl.Abv (w0.heap.size + 2) v) d ⟨b, .slice A m c, k, M⟩) :
    Calls Tryz.prog 85 #[.pointer (some ⟨w0.heap.size + 1, 0, none⟩), .agg #[.string ⟨b.toArray⟩, .slice A m c, .int .i64 k]] w fun e w' => e = .returned (.tuple #[]) ∧ ∃ v', Gl.RSv w0 w' v' (pcs ++ [⟨b, .slice A m c, k, M⟩]) := by
  have hrl := h.row.lt
  refine (add_any (rs := .slice A m c) (b := b) h.row h.own (by omega) (by omega) (Gl.lim_le _) (by have := hp.1; rw [show k = _ from this]; exact Gl.lim_le _) ⟨A, m, c, rfl⟩).mono ?_
  rintro e w' ⟨rfl, hg⟩
  exact ⟨rfl, h.add ⟨b, .slice A m c, k, M⟩ d hp hg⟩

/-- readRow over a text so long; readGroup over the texts of a group so long. -/
def RowC (n : Nat) : Prop := ∀ (t : List UInt8) (L : List (List UInt8)) (tail : List UInt8), Gl.Gr false t L → t.length ≤ n → Gl.tailOk tail → (t ++ tail).length ≤ 4294967270 → ∀ w : World,
  Calls Tryz.prog 62 #[.string ⟨(t ++ tail).toArray⟩] w fun e w' => ∃ (A : Option Addr) (m c k : Nat), e = .returned (.tuple #[.agg #[.slice A m c, .int .i64 k], .string ⟨tail.toArray⟩]) ∧ (∃ d, Gl.RowM w' (fun i => w.heap.size ≤ i) d ⟨.slice A m c, k, L⟩) ∧ Below w.heap.size w w'
def GroupC (n : Nat) : Prop := ∀ (g : List UInt8) (M : List (List UInt8)) (s : List UInt8), Gl.Gr true g M → g.length ≤ n → (123 :: (g ++ 125 :: s)).length ≤ 4294967270 → ∀ w : World,
  Calls Tryz.prog 87 #[.string ⟨(123 :: (g ++ 125 :: s)).toArray⟩] w fun e w' => ∃ (A : Option Addr) (m c k : Nat), e = .returned (.tuple #[.agg #[.string ⟨#[]⟩, .slice A m c, .int .i64 k], .string ⟨s.toArray⟩]) ∧ (∃ d, Gl.PieceM w' (fun i => w.heap.size ≤ i) d ⟨[], .slice A m c, k, M⟩) ∧ Below w.heap.size w w'

theorem brace_prefix (p : List UInt8) (w : World) :
    Calls Tryz.prog 86 #[.string ⟨p.toArray⟩, .string ⟨#[123]⟩] w fun e w' => e = .returned (.bool (Lib.hasPrefix p [123])) ∧ w' = w := by
  refine (Tryz.strings_HasPrefix ⟨p.toArray⟩ ⟨#[123]⟩ w).mono ?_
  rintro e w' ⟨rfl, hw⟩
  exact ⟨by show Ending.returned (.bool (Lib.hasPrefix p.toArray.toList [123])) = _; rw [List.toList_toArray], hw⟩

set_option maxHeartbeats 2000000 in
theorem readRow_of (n : Nat) (hG : ∀ m, m < n → GroupC m) : RowC n := by
  intro t L tail hgr htn htail hlen w
  have HG := Lib.hid hG
  have HTl := Lib.hid htail
  clear hG htail
  have HB0 := Lib.hid (Gl.RSv.start w)
  have hL0 : Gl.comb (Gl.prod ([].map Gl.Pi.M)) L = L := Gl.comb_unit L
  have HC0 := Lib.hid hL0
  have HGr := Lib.hid hgr
  clear hgr hL0
  go_enter Tryz.func62, Tryz.ntmps62
  go_wp2_with fail
  generalize (w.alloc (.cells #[.slice none 0 0, .int .i64 0] 101)).alloc (.cells #[.slice none 0 0, .int .i64 1] 101) = ws at *
  go_loopw [0] (fun x wr => ∃ (t' : List UInt8) (R : List (List UInt8)) (v : Value) (pcs : List Gl.Pi), x = .string ⟨(t' ++ tail).toArray⟩ ∧ Hid (Gl.Gr false t' R) ∧ Hid (Gl.RSv w wr v pcs) ∧ Hid (Gl.comb (Gl.prod (pcs.map Gl.Pi.M)) R = L) ∧ Hid (t'.length ≤ t.length) ∧ Hid (pcs.length ≤ 2 * (t.length - t'.length))) (fun x _ => Gl.strLen x)
  case atStart => exact ⟨t, L, .slice none 0 0, [], rfl, HGr, HB0, HC0, Lib.hid (Nat.le_refl _), Lib.hid (Nat.zero_le _)⟩
  case round =>
    obtain ⟨t', R, v, pcs, rfl, HGr', HS, HC, HLe, HPl⟩ := hrel
    have hlen' : (t' ++ tail).length ≤ 4294967270 := by
      rw [List.length_append] at *
      have := HLe.out; omega
    have HIx := Lib.hid fun W => index_brace (t' ++ tail) hlen' W
    have hts : (⟨(t' ++ tail).toArray⟩ : ByteArray).size = (t' ++ tail).length := by show (t' ++ tail).toArray.size = _; simp
    have hws := HS.out.below.size
    have hrl := HS.out.row.lt
    cases hgc : HGr'.out with
    | plain hno =>
      have hf := Gl.fst_noSp hno tail (Gl.tail_sp HTl.out)
      have hTp := Lib.hid (Gl.tail_prefix HTl.out)
      have HBp := Lib.hid fun W => brace_prefix tail W
      rw [hTp.out] at HBp
      have htk : (⟨(t' ++ tail).toArray⟩ : ByteArray).extract 0 t'.length = ⟨t'.toArray⟩ := by rw [Gl.takeB]; simp
      have hdk : (⟨(t' ++ tail).toArray⟩ : ByteArray).extract t'.length (t' ++ tail).length = ⟨tail.toArray⟩ := by rw [Gl.dropB]; simp
      have HAd : Hid (∀ W, Below wr.heap.size wr W → Calls Tryz.prog 85 #[.pointer (some ⟨w.heap.size + 1, 0, none⟩), .agg #[.string ⟨t'.toArray⟩, .slice none 0 0, .int .i64 1]] W fun e w' => e = .returned (.tuple #[]) ∧ ∃ v', Gl.RSv w w' v' (pcs ++ [⟨t', .slice none 0 0, 1, [t']⟩])) := Lib.hid fun W hb =>
        add_row (HS.out.on hb) (by have := HPl.out; have := HLe.out; rw [List.length_append] at hlen; omega) t' none 0 0 1 [t'] 0 (Gl.PieceM.text _ _ _ _)
      have HCn : Hid (Gl.prod ((pcs ++ [(⟨t', .slice none 0 0, 1, [t']⟩ : Gl.Pi)]).map Gl.Pi.M) = L) := Lib.hid (by
        rw [List.map_append, List.map_cons, List.map_nil, Gl.prod_snoc]; exact HC.out)
      have HPn : Hid ((pcs ++ [(⟨t', .slice none 0 0, 1, [t']⟩ : Gl.Pi)]).length ≤ 8589934592) := Lib.hid (by
        rw [List.length_append, List.length_singleton]; have := HPl.out; have := HLe.out; rw [List.length_append] at hlen; omega)
      have HEnd : Hid (∀ W, (∃ v', Gl.RSv w W v' (pcs ++ [⟨t', .slice none 0 0, 1, [t']⟩])) → ∃ (A : Option Addr) (m c k : Nat), W.cell? ⟨w.heap.size + 1, 0, none⟩ = some (.slice A m c) ∧ W.cell? ⟨w.heap.size + 1, 1, none⟩ = some (.int .i64 k) ∧ w.heap.size < W.heap.size ∧ W.frozen? ⟨w.heap.size, 0, none⟩ = false ∧ W.frozen? ⟨w.heap.size, 1, none⟩ = false ∧ W.cell? ⟨w.heap.size, 0, none⟩ = some (.slice none 0 0) ∧ W.cell? ⟨w.heap.size, 1, none⟩ = some (.int .i64 0) ∧
          Below w.heap.size w W ∧ Hid ((∃ d, Gl.RowM ((W.setCell ⟨w.heap.size, 0, none⟩ (.slice A m c)).setCell ⟨w.heap.size, 1, none⟩ (.int .i64 k)) (fun i => w.heap.size ≤ i) d ⟨.slice A m c, k, L⟩) ∧ ((W.setCell ⟨w.heap.size, 0, none⟩ (.slice A m c)).setCell ⟨w.heap.size, 1, none⟩ (.int .i64 k)).cell? ⟨w.heap.size, 0, none⟩ = some (.slice A m c) ∧ ((W.setCell ⟨w.heap.size, 0, none⟩ (.slice A m c)).setCell ⟨w.heap.size, 1, none⟩ (.int .i64 k)).cell? ⟨w.heap.size, 1, none⟩ = some (.int .i64 k))) := Lib.hid fun W ⟨v', h⟩ => h.finish HCn.out HPn.out
      rcases HTl.out with hn | ⟨b, r, hn, hb⟩
      · subst hn
        have hix : Gl.ix [123, 44, 125] (t' ++ []) = -1 := by unfold Gl.ix; rw [hf, if_neg (by simp)]
        rw [hix] at HIx
        simp only [List.append_nil] at hlen hlen' HIx hts htk hdk ⊢
        have hpl' : (t'.length : Int) ≤ 4294967270 := by omega
        clear hix hgc hf hdk
        go_wp2_with first
          | (go_at_call 84; go_must (refine (HIx.out _).mono ?_; rintro e w1 ⟨rfl, hb1⟩))
          | (go_at_call 85; go_must (refine (HAd.out _ hb1).mono ?_; rintro e w2 ⟨rfl, hv2⟩; obtain ⟨A, m, c, k, x0, x1, xl, xf0, xf1, xc0, xc1, xb, XR⟩ := HEnd.out _ hv2))
          | (go_at_call 86; go_must (refine (HBp.out _).mono ?_; rintro e w3 ⟨rfl, hw3⟩; rw [hw3]))
        obtain ⟨HRM, r0, r1⟩ := XR.out
        have HBf := (xb.setCell (p := ⟨w.heap.size, 0, none⟩) (Nat.le_refl _) (.slice A m c)).setCell (p := ⟨w.heap.size, 1, none⟩) (Nat.le_refl _) (.int .i64 k)
        have HRM2 := Lib.hid HRM
        clear HRM XR hv2 x0 x1 xc0 xc1 xf0 xf1 xb
        generalize (w2.setCell ⟨w.heap.size, 0, none⟩ (.slice A m c)).setCell ⟨w.heap.size, 1, none⟩ (.int .i64 k) = wz at *
        exact bodyPost_ret (v := .tuple #[.agg #[.slice A m c, .int .i64 k], .string ByteArray.empty]) (by simp [results, Tryz.results62, go_sem, *]) rfl ⟨A, m, c, k, rfl, HRM2.out, HBf⟩
      · have hlt : t'.length < (t' ++ tail).length := by rw [hn]; simp
        have hix : Gl.ix [123, 44, 125] (t' ++ tail) = (t'.length : Int) := by unfold Gl.ix; rw [hf, if_pos hlt]
        rw [hix] at HIx
        have hpl' : (t'.length : Int) ≤ 4294967270 := by omega
        have hneg : ¬ (t'.length : Int) < 0 := by omega
        have hle' : (t'.length : Int) ≤ ((t' ++ tail).length : Int) := by omega
        clear hix hgc hf hb hn hlt
        generalize hT : t' ++ tail = T at *
        clear hT
        go_wp2_with first
          | (go_at_call 84; go_must (refine (HIx.out _).mono ?_; rintro e w1 ⟨rfl, hb1⟩))
          | (go_at_call 85; go_must (refine (HAd.out _ hb1).mono ?_; rintro e w2 ⟨rfl, hv2⟩; obtain ⟨A, m, c, k, x0, x1, xl, xf0, xf1, xc0, xc1, xb, XR⟩ := HEnd.out _ hv2))
          | (go_at_call 86; go_must (refine (HBp.out _).mono ?_; rintro e w3 ⟨rfl, hw3⟩; rw [hw3]))
        obtain ⟨HRM, r0, r1⟩ := XR.out
        have HBf := (xb.setCell (p := ⟨w.heap.size, 0, none⟩) (Nat.le_refl _) (.slice A m c)).setCell (p := ⟨w.heap.size, 1, none⟩) (Nat.le_refl _) (.int .i64 k)
        have HRM2 := Lib.hid HRM
        clear HRM XR hv2 x0 x1 xc0 xc1 xf0 xf1 xb
        generalize (w2.setCell ⟨w.heap.size, 0, none⟩ (.slice A m c)).setCell ⟨w.heap.size, 1, none⟩ (.int .i64 k) = wz at *
        exact bodyPost_ret (v := .tuple #[.agg #[.slice A m c, .int .i64 k], .string ⟨tail.toArray⟩]) (by simp [results, Tryz.results62, go_sem, *]) rfl ⟨A, m, c, k, rfl, HRM2.out, HBf⟩
    | @group p g M r' R' hno hg hr =>
      have hf : Gl.fst [123, 44, 125] ((p ++ 123 :: (g ++ 125 :: r')) ++ tail) = p := by
        rw [List.append_assoc]
        exact Gl.fst_noSp hno _ (.inr ⟨123, (g ++ 125 :: r') ++ tail, rfl, by decide⟩)
      have hle := HLe.out
      have hT2 : (p ++ 123 :: (g ++ 125 :: r')) ++ tail = p ++ 123 :: (g ++ 125 :: (r' ++ tail)) := by simp
      have hl4 : (p ++ 123 :: (g ++ 125 :: r')).length = p.length + g.length + r'.length + 2 := by simp only [List.length_append, List.length_cons]; omega
      have hl5 : (p ++ 123 :: (g ++ 125 :: (r' ++ tail))).length = p.length + (123 :: (g ++ 125 :: (r' ++ tail))).length := List.length_append
      rw [hl4] at hle
      rw [hT2] at hf hlen' HIx hts
      have hlt : p.length < (p ++ 123 :: (g ++ 125 :: (r' ++ tail))).length := by rw [hl5]; simp
      have hix : Gl.ix [123, 44, 125] (p ++ 123 :: (g ++ 125 :: (r' ++ tail))) = (p.length : Int) := by unfold Gl.ix; rw [hf, if_pos hlt]
      rw [hix] at HIx
      have htk : (⟨(p ++ 123 :: (g ++ 125 :: (r' ++ tail))).toArray⟩ : ByteArray).extract 0 p.length = ⟨p.toArray⟩ := by rw [Gl.takeB, List.take_left]
      have hdk : (⟨(p ++ 123 :: (g ++ 125 :: (r' ++ tail))).toArray⟩ : ByteArray).extract p.length (p ++ 123 :: (g ++ 125 :: (r' ++ tail))).length = ⟨(123 :: (g ++ 125 :: (r' ++ tail))).toArray⟩ := by rw [Gl.dropB, List.drop_left]
      have HBp := Lib.hid fun W => brace_prefix (123 :: (g ++ 125 :: (r' ++ tail))) W
      rw [Gl.prefix_brace] at HBp
      have HBp2 : Hid (∀ W : World, Calls Tryz.prog 86 #[.string ⟨(123 :: (g ++ 125 :: (r' ++ tail))).toArray⟩, .string ⟨#[123]⟩] W fun e w' => e = .returned (.bool true) ∧ w' = W) := HBp
      clear HBp
      have hpb : pcs.length ≤ 8589934550 := by have := HPl.out; rw [List.length_append] at hlen; omega
      have HAd : Hid (∀ W, Below wr.heap.size wr W → Calls Tryz.prog 85 #[.pointer (some ⟨w.heap.size + 1, 0, none⟩), .agg #[.string ⟨p.toArray⟩, .slice none 0 0, .int .i64 1]] W fun e w' => e = .returned (.tuple #[]) ∧ ∃ v', Gl.RSv w w' v' (pcs ++ [⟨p, .slice none 0 0, 1, [p]⟩])) := Lib.hid fun W hb =>
        add_row (HS.out.on hb) (by omega) p none 0 0 1 [p] 0 (Gl.PieceM.text _ _ _ _)
      have HGc := Lib.hid (HG.out g.length (by omega) g M (r' ++ tail) hg (Nat.le_refl _) (by omega))
      have HAd2 : Hid (∀ (W : World) (v' : Value) (A : Option Addr) (m c k d : Nat), Gl.RSv w W v' (pcs ++ [⟨p, .slice none 0 0, 1, [p]⟩]) → Gl.PieceM W (Gl.Abv (w.heap.size + 2) v') d ⟨[], .slice A m c, k, M⟩ →
          Calls Tryz.prog 85 #[.pointer (some ⟨w.heap.size + 1, 0, none⟩), .agg #[.string ⟨#[]⟩, .slice A m c, .int .i64 k]] W fun e w' => e = .returned (.tuple #[]) ∧ ∃ v'', Gl.RSv w w' v'' (pcs ++ [⟨p, .slice none 0 0, 1, [p]⟩] ++ [⟨[], .slice A m c, k, M⟩])) := Lib.hid fun W v' A m c k d h hp =>
        add_row h (by rw [List.length_append, List.length_singleton]; omega) [] A m c k M d hp
      have HCn : Hid (∀ (A : Option Addr) (m c k : Nat), Gl.comb (Gl.prod ((pcs ++ [(⟨p, .slice none 0 0, 1, [p]⟩ : Gl.Pi)] ++ [(⟨[], .slice A m c, k, M⟩ : Gl.Pi)]).map Gl.Pi.M)) R' = L) := Lib.hid fun A m c k => by
        rw [← HC.out, List.map_append, List.map_append]
        show Gl.comb (Gl.prod (pcs.map Gl.Pi.M ++ [[p]] ++ [M])) R' = _
        rw [Gl.prod_snoc, Gl.prod_snoc, Gl.comb_assoc, Gl.comb_assoc]
      have HPn : Hid (∀ (A : Option Addr) (m c k : Nat), (pcs ++ [(⟨p, .slice none 0 0, 1, [p]⟩ : Gl.Pi)] ++ [(⟨[], .slice A m c, k, M⟩ : Gl.Pi)]).length ≤ 2 * (t.length - r'.length)) := Lib.hid fun A m c k => by
        rw [List.length_append, List.length_append, List.length_singleton, List.length_singleton]
        have := HPl.out; rw [hl4] at this; omega
      have HRl : Hid (r'.length ≤ t.length) := Lib.hid (by omega)
      have HRm : Hid ((r' ++ tail).length < (p ++ 123 :: (g ++ 125 :: (r' ++ tail))).length) := Lib.hid (by simp; omega)
      have HGr2 := Lib.hid hr
      have hpl' : (p.length : Int) ≤ 4294967270 := by rw [hl5] at hlen'; omega
      have hneg : ¬ (p.length : Int) < 0 := by omega
      have hle' : (p.length : Int) ≤ ((p ++ 123 :: (g ++ 125 :: (r' ++ tail))).length : Int) := by omega
      rw [hT2]
      clear hix hf hlt hT2 hl4 hl5 hle hno hg hr hgc HC HGr' HPl
      generalize hT3 : 123 :: (g ++ 125 :: (r' ++ tail)) = T3 at *
      generalize hT4 : p ++ T3 = T4 at *
      generalize hT5 : r' ++ tail = T5 at *
      clear hT3 hT4
      go_wp2_with first
        | (go_at_call 84; go_must (refine (HIx.out _).mono ?_; rintro e w1 ⟨rfl, hb1⟩))
        | (go_at_call 86; go_must (refine (HBp2.out _).mono ?_; rintro e w3 ⟨rfl, hw3⟩; rw [hw3]))
        | (go_at_call 85; with_reducible refine (HAd.out _ hb1).mono ?_; rintro e w2 ⟨rfl, hv2⟩)
        | (go_at_call 87; go_must (obtain ⟨v', hv2'⟩ := hv2; refine (HGc.out _).mono ?_; rintro e w4 ⟨A, m, c, k, rfl, hpd, hb4⟩; have hRB := (RowAt.new w2 #[.string ⟨#[]⟩, .slice none 0 0, .int .i64 0] 130).below hb4 (by simp); have y0 := (hRB.cell 0).trans (show #[Value.string ⟨#[]⟩, .slice none 0 0, .int .i64 0][0]? = some (.string ⟨#[]⟩) from rfl); have y1 := (hRB.cell 1).trans (show #[Value.string ⟨#[]⟩, .slice none 0 0, .int .i64 0][1]? = some (.slice none 0 0) from rfl); have y2 := (hRB.cell 2).trans (show #[Value.string ⟨#[]⟩, .slice none 0 0, .int .i64 0][2]? = some (.int .i64 0) from rfl); have f0 := hRB.frozen 0; have f1 := hRB.frozen 1; have f2 := hRB.frozen 2; have yl := hRB.lt; have hb24 : Below w2.heap.size w2 w4 := ((Below.refl w2.heap.size w2).alloc (Nat.le_refl _) _).trans (hb4.mono (by simp)); have hbn := ((hb24.setCell (p := ⟨w2.heap.size, 0, none⟩) (Nat.le_refl _) (.string ⟨#[]⟩)).setCell (p := ⟨w2.heap.size, 1, none⟩) (Nat.le_refl _) (.slice A m c)).setCell (p := ⟨w2.heap.size, 2, none⟩) (Nat.le_refl _) (.int .i64 k); have hRS2 := Lib.hid (hv2'.on hbn); obtain ⟨d, hpd⟩ := hpd; have hPM2 := Lib.hid (Gl.group_boxed hv2' (.string ⟨#[]⟩) (.slice A m c) (.int .i64 k) (by simpa using hpd)); clear hRB hb4 hb24 hbn hpd hv2'))
        | (go_at_call 85; go_must (refine (HAd2.out _ _ _ _ _ _ _ hRS2.out hPM2.out).mono ?_; rintro e w5 ⟨rfl, v'', hv5⟩))
      go_roundw
      case rel => exact ⟨r', R', v'', _, by rw [hT5], HGr2, Lib.hid hv5, HCn.out _ _ _ _ |> Lib.hid, HRl, Lib.hid (HPn.out _ _ _ _)⟩
      case measure => rw [Gl.strLen_mk, Gl.strLen_mk]; exact HRm.out
end Go.Proofs.YtfmbbhcjnidcbaaGreatDoor
