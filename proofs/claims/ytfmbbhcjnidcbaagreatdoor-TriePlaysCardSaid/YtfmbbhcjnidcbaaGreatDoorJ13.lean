/-
  GlRMt: CONTRACTS: chapter 9's own answers (ref9): matches, Match.
-/
import Derived.Test.YtfmbbhcjnidcbaaGreatDoorJ11
import Derived.Test.YtfmbbhcjnidcbaaGreatDoorJ12
import Derived.BigQuiet
import Derived.Laws.MakeOwn

namespace Go.Proofs.YtfmbbhcjnidcbaaGreatDoor
open Go.RowKit Go.Sort
open Me

namespace Gl
theorem kgrown (W : World) : (∀ d os b o, b < W.heap.size → (Go.Sort.grow (redrawn W d) os).cell? ⟨b, o, none⟩ = W.cell? ⟨b, o, none⟩) ∧ (∀ d os b o, b < W.heap.size → (Go.Sort.grow (redrawn W d) os).frozen? ⟨b, o, none⟩ = W.frozen? ⟨b, o, none⟩) :=
  ⟨fun d os b o h => (below_regrown W d os).cell (p := ⟨b, o, none⟩) h, fun d os b o h => (below_regrown W d os).frozen (p := ⟨b, o, none⟩) h⟩
/-- A row of bools. -/
def bools (n : Nat) (F : Nat → Bool) : Array Value := ((List.range n).map fun j => Value.bool (F j)).toArray
theorem bools_get (n : Nat) (F : Nat → Bool) (j : Nat) (h : j < n) : (bools n F)[j]? = some (.bool (F j)) := by
  unfold bools; simp [h]
theorem bools_set (n : Nat) (F : Nat → Bool) (k : Nat) (b : Bool) : (bools n F).setIfInBounds k (.bool b) = bools n fun j => if j = k then b else F j := by
  apply Array.ext_getElem?
  intro j
  unfold bools
  rw [List.setIfInBounds_toArray, List.getElem?_toArray, List.getElem?_toArray, List.getElem?_set]
  by_cases hj : k = j
  · subst hj
    by_cases h : k < n
    · simp [h]
    · simp [h]
  · have hj' : ¬ j = k := fun e => hj e.symm
    by_cases h : j < n <;> simp [hj, hj', h]
theorem bools_made (n : Nat) : madeCells #[.bool false] n = bools n fun _ => false := by
  apply Array.ext_getElem?
  intro j
  unfold bools madeCells
  by_cases h : j < n
  · simp [h, Nat.mod_one]
  · simp [h]
theorem bools_eq {n : Nat} {F G : Nat → Bool} (h : ∀ j, j < n → F j = G j) : bools n F = bools n G := by
  unfold bools
  congr 1
  apply List.map_congr_left
  intro j hj
  rw [h j (List.mem_range.1 hj)]
/-- What stands behind one more element. -/
def starV (A : Nat → Bool) : Nat → Bool
  | 0 => A 0
  | j + 1 => A (j + 1) || starV A j
def oneV (e : El) (s : List UInt8) (A : Nat → Bool) : Nat → Bool
  | 0 => false
  | j + 1 => A j && one (s.getD j 0) e
def fill (V : Nat → Bool) (k : Nat) : Nat → Bool := fun j => if j < k then V j else false
theorem fill_put (V : Nat → Bool) (k : Nat) : (fun j => if j = k then V k else fill V k j) = fill V (k + 1) := by
  funext j
  unfold fill
  by_cases h : j = k
  · subst h; rw [if_pos rfl, if_pos (by omega)]
  · rw [if_neg h]
    by_cases h2 : j < k
    · rw [if_pos h2, if_pos (by omega)]
    · rw [if_neg h2, if_neg (by omega)]
theorem fill_keep (V : Nat → Bool) (k : Nat) (h : V k = false) : fill V (k + 1) = fill V k := by
  rw [← fill_put]
  funext j
  by_cases hj : j = k
  · subst hj; rw [if_pos rfl, h]; unfold fill; rw [if_neg (by omega)]
  · rw [if_neg hj]
theorem fill_all (V : Nat → Bool) (n : Nat) : bools n (fill V n) = bools n V := bools_eq fun j hj => by unfold fill; rw [if_pos hj]
theorem starV_iff (A : Nat → Bool) (k : Nat) : starV A k = true ↔ ∃ j, j ≤ k ∧ A j = true := by
  induction k with
  | zero =>
    constructor
    · intro h; exact ⟨0, Nat.le_refl _, h⟩
    · rintro ⟨j, hj, h⟩
      obtain rfl : j = 0 := by omega
      exact h
  | succ k ih =>
    unfold starV
    rw [Bool.or_eq_true, ih]
    constructor
    · rintro (h | ⟨j, hj, h⟩)
      · exact ⟨k + 1, Nat.le_refl _, h⟩
      · exact ⟨j, by omega, h⟩
    · rintro ⟨j, hj, h⟩
      by_cases e : j = k + 1
      · subst e; exact .inl h
      · exact .inr ⟨j, by omega, h⟩
/-- What was read may end where A says, and the rest goes on from there. -/
def Ends (s : List UInt8) (A : Nat → Bool) (ps : List El) : Prop := ∃ k, k ≤ s.length ∧ A k = true ∧ mt ps (s.drop k) = true
theorem Ends.star {s : List UInt8} {A : Nat → Bool} {ps : List El} : Ends s (starV A) ps ↔ Ends s A (.star :: ps) := by
  constructor
  · rintro ⟨k, hk, h1, h2⟩
    obtain ⟨j, hj, h3⟩ := (starV_iff A k).1 h1
    refine ⟨j, by omega, h3, ?_⟩
    rw [mt_star]
    refine (tails_iff _ _).2 ⟨k - j, by rw [List.length_drop]; omega, ?_⟩
    rw [List.drop_drop, show j + (k - j) = k by omega]
    exact h2
  · rintro ⟨j, hj, h1, h2⟩
    rw [mt_star] at h2
    obtain ⟨i, hi, h3⟩ := (tails_iff _ _).1 h2
    rw [List.length_drop] at hi
    rw [List.drop_drop] at h3
    exact ⟨j + i, by omega, (starV_iff A _).2 ⟨j, by omega, h1⟩, h3⟩
theorem Ends.one {s : List UInt8} {A : Nat → Bool} {e : El} (he : isStar e = false) {ps : List El} : Ends s (oneV e s A) ps ↔ Ends s A (e :: ps) := by
  constructor
  · rintro ⟨k, hk, h1, h2⟩
    cases k with
    | zero => cases h1
    | succ k =>
      unfold oneV at h1
      rw [Bool.and_eq_true] at h1
      have hks : k < s.length := by omega
      refine ⟨k, by omega, h1.1, ?_⟩
      rw [List.drop_eq_getElem_cons hks, mt_one he, h2, Bool.and_true]
      have := h1.2
      rwa [List.getD_eq_getElem?_getD, List.getElem?_eq_getElem hks] at this
  · rintro ⟨k, hk, h1, h2⟩
    by_cases hks : k < s.length
    · rw [List.drop_eq_getElem_cons hks, mt_one he, Bool.and_eq_true] at h2
      refine ⟨k + 1, by omega, ?_, h2.2⟩
      show (A k && Gl.one (s.getD k 0) e) = true
      rw [h1, List.getD_eq_getElem?_getD, List.getElem?_eq_getElem hks]
      exact h2.1
    · obtain rfl : k = s.length := by omega
      rw [List.drop_length, mt_end he] at h2
      cases h2
theorem Ends.done {s : List UInt8} {A : Nat → Bool} : Ends s A [] ↔ A s.length = true := by
  constructor
  · rintro ⟨k, hk, h1, h2⟩
    have h3 : (s.drop k).isEmpty = true := h2
    have h4 : s.drop k = [] := by simpa using h3
    have h5 := congrArg List.length h4
    rw [List.length_drop] at h5
    have h0 : ([] : List UInt8).length = 0 := rfl
    obtain rfl : k = s.length := by omega
    exact h1
  · intro h
    exact ⟨s.length, Nat.le_refl _, h, by rw [List.drop_length]; rfl⟩
theorem Ends.start {s : List UInt8} {ps : List El} : Ends s (fun j => if j = 0 then true else false) ps ↔ mt ps s = true := by
  constructor
  · rintro ⟨k, hk, h1, h2⟩
    by_cases h : k = 0
    · subst h; exact h2
    · have h1 : (if k = 0 then true else false) = true := h1
      rw [if_neg h] at h1; cases h1
  · intro h
    exact ⟨0, Nat.zero_le _, rfl, h⟩
theorem gm_simple (p s : List UInt8) : gm p s = (simple p && gm p s) := by
  unfold gm simple
  cases toks none p <;> rfl
theorem eq_of_iff {a b : Bool} (h : a = true ↔ b = true) : a = b := by cases a <;> cases b <;> simp_all
end Gl

/-- A slice of n bools, all false. -/
theorem boolinfo : (Tryz.prog.info? 4).map (fun i => (i.zero, i.size, i.bytes)) = some (some (.bool false), 1, 1) := by kernel_rfl
theorem make_bools (n : Int) (h0 : 0 ≤ n) (h9 : n ≤ 4294967300) (W : World) :
    (Instr.makeSlice 151 (.int .i64 n) (.int .i64 n)).run Tryz.prog W = .ok (.slice (some ⟨W.heap.size, 0, none⟩) n.toNat n.toNat) (W.alloc (.cells (Gl.bools n.toNat fun _ => false) 4)) := by
  obtain ⟨i0, hi, hz0, hz1, hz2⟩ := info_parts boolinfo
  have h := run_make (P := Tryz.prog) W 151 4 i0 _ Tryz.underlying151 hi hz0 .i64 .i64 n n h0 (Int.le_refl _) (by rw [hz2]; omega) (by omega)
  rw [hz1, Nat.mul_one] at h
  rw [h]
  show _ = Result.ok _ (W.alloc (.cells _ _))
  rw [← Gl.bools_made]
  rfl

set_option maxHeartbeats 8000000 in
set_option maxRecDepth 100000 in
theorem refMatches_any (p s : List UInt8) (hp : p.length ≤ 4294967270) (hs : s.length ≤ 4294967270) (hsm : Gl.simple p = true) (w : World) :
    Calls Tryz.prog 77 #[.string ⟨p.toArray⟩, .string ⟨s.toArray⟩] w fun e w' => e = .returned (.bool (Gl.gm p s)) ∧ Below w.heap.size w w' := by
  have hps : (⟨p.toArray⟩ : ByteArray).size = p.length := by show p.toArray.size = _; simp
  have hss : (⟨s.toArray⟩ : ByteArray).size = s.length := by show s.toArray.size = _; simp
  have hs9 : (s.length : Int) ≤ 4294967270 := by omega
  have hs0 : (0 : Int) ≤ (s.length : Int) := by omega
  obtain ⟨ps0, hps0⟩ := Option.isSome_iff_exists.1 (show (Gl.toks none p).isSome = true from hsm)
  have HE0 : Hid (Gl.Ends s (fun j => if j = 0 then true else false) ps0 ↔ Gl.gm p s = true) := Lib.hid (by
    unfold Gl.gm; rw [hps0]; exact Gl.Ends.start)
  have HT0 : Hid (Gl.toks none (p.drop 0) = some ps0) := Lib.hid hps0
  clear hps0 hsm
  generalize Gl.gm p s = R at *
  have hwn : IntKind.i64.wrap ((s.length : Int) + 1) = (s.length : Int) + 1 := IntWalk.i64_in _ (by omega)
  have htn : ((s.length : Int) + 1).toNat = s.length + 1 := by omega
  have hmk : ∀ W : World, (Instr.makeSlice 151 (.int .i64 ((s.length : Int) + 1)) (.int .i64 ((s.length : Int) + 1))).run Tryz.prog W = .ok (.slice (some ⟨W.heap.size, 0, none⟩) (s.length + 1) (s.length + 1)) (W.alloc (.cells (Gl.bools (s.length + 1) fun _ => false) 4)) := fun W => by
    have := make_bools ((s.length : Int) + 1) (by omega) (by omega) W
    rw [htn] at this
    exact this
  have hr0 : RowAt (w.alloc (.cells (Gl.bools (s.length + 1) fun _ => false) 4)) w.heap.size 4 (Gl.bools (s.length + 1) fun _ => false) := RowAt.new _ _ _
  have hf0 := hr0.frozen 0
  have hc0 := (hr0.cell 0).trans (Gl.bools_get (s.length + 1) _ 0 (by omega))
  have HR0 : Hid (RowAt (w.alloc (.cells ((Gl.bools (s.length + 1) fun _ => false).setIfInBounds 0 (.bool true)) 4)) w.heap.size 4 (Gl.bools (s.length + 1) fun j => if j = 0 then true else false)) := Lib.hid (by
    rw [Gl.bools_set]; exact RowAt.new _ _ _)
  have HB0 : Hid (Below w.heap.size w (w.alloc (.cells ((Gl.bools (s.length + 1) fun _ => false).setIfInBounds 0 (.bool true)) 4))) := Lib.hid ((Below.refl _ _).alloc (Nat.le_refl _) _)
  clear hr0
  go_enter Tryz.func77, Tryz.ntmps77
  go_wp2_with fail
  go_loopw [5, 6] (fun u x wr => ∃ (g i : Nat) (A : Nat → Bool) (ps : List Gl.El), u = .slice (some ⟨g, 0, none⟩) (s.length + 1) (s.length + 1) ∧ x = .int .i64 i ∧ i ≤ p.length ∧ Hid (Gl.toks none (p.drop i) = some ps) ∧ Hid (Gl.Ends s A ps ↔ R = true) ∧
      Hid (RowAt wr g 4 (Gl.bools (s.length + 1) A)) ∧ Hid (Below w.heap.size w wr)) (fun _ x _ => p.length - (intOf x).toNat)
  case atStart => exact ⟨w.heap.size, 0, _, ps0, rfl, rfl, Nat.zero_le _, HT0, HE0, HR0, HB0⟩
  case round =>
    obtain ⟨g, i, A, ps, rfl, rfl, hi, HT, HE, HRow, HB⟩ := hrel
    obtain ⟨wo, hwo⟩ : ∃ wo, wo = wr := ⟨_, rfl⟩
    subst hwo
    have hi0 : (0 : Int) ≤ (i : Int) := by omega
    have hi9 : (i : Int) ≤ 4294967270 := by omega
    have hws := HB.out.size
    have gl := HRow.out.lt
    by_cases hlt : i < p.length
    · have hil : (i : Int) < (p.length : Int) := by omega
      rw [List.drop_eq_getElem_cons hlt] at HT
      have hnr : RowAt (wo.alloc (.cells (Gl.bools (s.length + 1) fun _ => false) 4)) wo.heap.size 4 (Gl.bools (s.length + 1) fun _ => false) := RowAt.new _ _ _
      have HNew := Lib.hid hnr
      have HBn : Hid (Below wo.heap.size wo (wo.alloc (.cells (Gl.bools (s.length + 1) fun _ => false) 4))) := Lib.hid ((Below.refl _ _).alloc (Nat.le_refl _) _)
      clear hnr
      have e91 : ((((⟨p.toArray⟩ : ByteArray)[i]'hlt).toNat : Int) == 91) = decide (p[i] = 91) := Gl.byteEq p[i] 91
      have n91 : ((((⟨p.toArray⟩ : ByteArray)[i]'hlt).toNat) == 91) = decide (p[i] = 91) := Gl.byteEqN p[i] 91
      have d91 : ((((⟨p.toArray⟩ : ByteArray)[i]'hlt).toNat : Int) != 91) = !decide (p[i] = 91) := Gl.byteNe p[i] 91
      have e42 : ((((⟨p.toArray⟩ : ByteArray)[i]'hlt).toNat : Int) == 42) = decide (p[i] = 42) := Gl.byteEq p[i] 42
      have n42 : ((((⟨p.toArray⟩ : ByteArray)[i]'hlt).toNat) == 42) = decide (p[i] = 42) := Gl.byteEqN p[i] 42
      have e63 : ((((⟨p.toArray⟩ : ByteArray)[i]'hlt).toNat : Int) == 63) = decide (p[i] = 63) := Gl.byteEq p[i] 63
      have hz0 : (Gl.bools (s.length + 1) fun _ => false) = Gl.bools (s.length + 1) (Gl.fill (fun _ => false) 0) := rfl
      rcases Gl.toks_first HT.out with ⟨b1, p', rfl, HT'⟩ | ⟨b1, p', rfl, HT'⟩ | ⟨b1, h93, p', rfl, HT'⟩ | ⟨b42, b63, b91, p', rfl, HT'⟩
      · have HT2 := Lib.hid HT'
        have HE2 := Lib.hid (Gl.Ends.star.trans HE.out)
        rw [b1] at e91 n91 d91 e42 n42 e63
        rw [show decide ((42 : UInt8) = 91) = false by decide] at e91 n91 d91
        rw [show decide ((42 : UInt8) = 42) = true by decide] at e42 n42
        clear e63 b1 HT HE HT'
        generalize hV : Gl.starV A = V at *
        have HV0 : Hid (V 0 = A 0) := Lib.hid (by rw [← hV]; rfl)
        have HVs : Hid (∀ m, V (m + 1) = (A (m + 1) || V m)) := Lib.hid fun m => by rw [← hV]; rfl
        clear hV
        have HRow1 : Hid (RowAt (wo.alloc (.cells (Gl.bools (s.length + 1) fun _ => false) 4)) g 4 (Gl.bools (s.length + 1) A)) := Lib.hid (HRow.out.alloc _)
        have HNew1 : Hid (RowAt (wo.alloc (.cells (Gl.bools (s.length + 1) fun _ => false) 4)) wo.heap.size 4 (Gl.bools (s.length + 1) (Gl.fill V 0))) := Lib.hid (by
          rw [show Gl.fill V 0 = fun _ => false by funext j; unfold Gl.fill; rw [if_neg (by omega)]]; exact HNew.out)
        clear HNew hz0 HRow
        go_wp2_with fail
        have HRow2 := HRow1
        have HNew2 := HNew1
        have HB2 := HBn
        clear HRow1 HNew1 HBn
        generalize wo.alloc (.cells (Gl.bools (s.length + 1) fun _ => false) 4) = w1 at *
        go_loopw [9] (fun x wr => ∃ k : Nat, k ≤ s.length + 1 ∧ x = .int .i64 k ∧ Hid (RowAt wr wo.heap.size 4 (Gl.bools (s.length + 1) (Gl.fill V k))) ∧ Hid (RowAt wr g 4 (Gl.bools (s.length + 1) A)) ∧ Hid (Below wo.heap.size wo wr)) (fun x _ => s.length + 1 - (intOf x).toNat)
        case atStart => exact ⟨0, Nat.zero_le _, rfl, HNew2, HRow2, HB2⟩
        case round =>
          obtain ⟨k, hk, rfl, HN, HA, HBz⟩ := hrel
          have hk9 : (k : Int) ≤ 4294967271 := by omega
          have gz := HA.out.lt
          have nz := HN.out.lt
          by_cases hkn : k ≤ s.length
          · have hkn' : (k : Int) ≤ (s.length : Int) := by omega
            have ca := (HA.out.cell k).trans (Gl.bools_get (s.length + 1) A k (by omega))
            have fn := HN.out.frozen k
            have cn := (HN.out.cell k).trans (Gl.bools_get (s.length + 1) _ k (by omega))
            have hkb : (k : Int) < (s.length : Int) + 1 := by omega
            have hne : wo.heap.size ≠ g := by omega
            have HSt : Hid (∀ b, V k = b → RowAt (wr.setCell ⟨wo.heap.size, k, none⟩ (.bool b)) wo.heap.size 4 (Gl.bools (s.length + 1) (Gl.fill V (k + 1)))) := Lib.hid fun b hb => by
              have := HN.out.set_ k (.bool b)
              rw [Gl.bools_set, ← hb, Gl.fill_put] at this
              rw [← hb]; exact this
            have HSa : Hid (∀ b : Bool, RowAt (wr.setCell ⟨wo.heap.size, k, none⟩ (.bool b)) g 4 (Gl.bools (s.length + 1) A)) := Lib.hid fun b => HA.out.far (fun e => hne e.symm) _
            have HSb : Hid (∀ b : Bool, Below wo.heap.size wo (wr.setCell ⟨wo.heap.size, k, none⟩ (.bool b))) := Lib.hid fun b => HBz.out.setCell (Nat.le_refl _) _
            by_cases hk0 : k = 0
            · subst hk0
              have HQ : Hid (V 0 = A 0) := HV0
              generalize A 0 = av at *
              have h00 : ¬ (0 : Int) < 0 := by omega
              cases av
              · go_wp2_with fail
                go_roundw
                case rel => exact ⟨0 + 1, by omega, by go_num, Lib.hid (HSt.out _ HQ.out), Lib.hid (HSa.out _), Lib.hid (HSb.out _)⟩
                case measure => first | (simp [intOf]; done) | (simp [intOf]; omega)
              · go_wp2_with fail
                go_roundw
                case rel => exact ⟨0 + 1, by omega, by go_num, Lib.hid (HSt.out _ HQ.out), Lib.hid (HSa.out _), Lib.hid (HSb.out _)⟩
                case measure => first | (simp [intOf]; done) | (simp [intOf]; omega)
            · obtain ⟨m, hkm⟩ : ∃ m, k = m + 1 := ⟨k - 1, by omega⟩
              have cm := (HN.out.cell m).trans (Gl.bools_get (s.length + 1) _ m (by omega))
              rw [show Gl.fill V k m = V m by unfold Gl.fill; rw [if_pos (by omega)]] at cm
              have HQ : Hid (V k = (A k || V m)) := Lib.hid (by have := HVs.out m; rw [← hkm] at this; exact this)
              have hm0 : (0 : Int) < (k : Int) := by omega
              have hm1 : (m : Int) < (s.length : Int) + 1 := by omega
              have hmz : (0 : Int) ≤ (m : Int) := by omega
              have hsub : IntKind.i64.wrap ((k : Int) - 1) = (m : Int) := (IntWalk.i64_in _ (by omega)).trans (by omega)
              have HK := Lib.hid hkm
              clear hkm hk0
              generalize A k = av at *
              generalize V m = vm at *
              cases av
              · cases vm
                · go_wp2_with fail
                  go_roundw
                  case rel => exact ⟨k + 1, by omega, by go_num, Lib.hid (HSt.out _ HQ.out), Lib.hid (HSa.out _), Lib.hid (HSb.out _)⟩
                  case measure => first | (simp [intOf]; done) | (simp [intOf]; omega)
                · go_wp2_with fail
                  go_roundw
                  case rel => exact ⟨k + 1, by omega, by go_num, Lib.hid (HSt.out _ HQ.out), Lib.hid (HSa.out _), Lib.hid (HSb.out _)⟩
                  case measure => first | (simp [intOf]; done) | (simp [intOf]; omega)
              · go_wp2_with fail
                go_roundw
                case rel => exact ⟨k + 1, by omega, by go_num, Lib.hid (HSt.out _ HQ.out), Lib.hid (HSa.out _), Lib.hid (HSb.out _)⟩
                case measure => first | (simp [intOf]; done) | (simp [intOf]; omega)
          · obtain rfl : k = s.length + 1 := by omega
            have hkn' : ¬ (s.length : Int) + 1 ≤ (s.length : Int) := by omega
            have HN2 := Lib.hid (HN.out)
            rw [Gl.fill_all] at HN2
            go_wp2_with fail
            go_roundw
            case rel => exact ⟨wo.heap.size, i + 1, V, p', rfl, by go_num, by omega, HT2, HE2, HN2, Lib.hid (HB.out.trans (HBz.out.mono hws))⟩
            case measure => first | (simp [intOf]; done) | (simp [intOf]; omega)
      · have HT2 := Lib.hid HT'
        have HE2 := Lib.hid ((Gl.Ends.one (e := Gl.El.any) rfl).trans HE.out)
        rw [b1] at e91 n91 d91 e42 n42 e63
        rw [show decide ((63 : UInt8) = 91) = false by decide] at e91 n91 d91
        rw [show decide ((63 : UInt8) = 42) = false by decide] at e42 n42
        rw [show decide ((63 : UInt8) = 63) = true by decide] at e63
        have HOn : Hid (∀ m (h : m < s.length), Gl.one (s.getD m 0) Gl.El.any = true) := Lib.hid fun m h => rfl
        clear b1
        clear HT HE HT'
        generalize hV : Gl.oneV (Gl.El.any) s A = V at *
        have HV0 : Hid (V 0 = false) := Lib.hid (by rw [← hV]; rfl)
        have HVs : Hid (∀ m, V (m + 1) = (A m && Gl.one (s.getD m 0) (Gl.El.any))) := Lib.hid fun m => by rw [← hV]; rfl
        clear hV
        have HRow1 : Hid (RowAt (wo.alloc (.cells (Gl.bools (s.length + 1) fun _ => false) 4)) g 4 (Gl.bools (s.length + 1) A)) := Lib.hid (HRow.out.alloc _)
        have HNew1 : Hid (RowAt (wo.alloc (.cells (Gl.bools (s.length + 1) fun _ => false) 4)) wo.heap.size 4 (Gl.bools (s.length + 1) (Gl.fill V 0))) := Lib.hid (by
          rw [show Gl.fill V 0 = fun _ => false by funext j; unfold Gl.fill; rw [if_neg (by omega)]]; exact HNew.out)
        clear HNew hz0 HRow
        go_wp2_with fail
        have HRow2 := HRow1
        have HNew2 := HNew1
        have HB2 := HBn
        clear HRow1 HNew1 HBn
        generalize wo.alloc (.cells (Gl.bools (s.length + 1) fun _ => false) 4) = w1 at *
        go_loopw [9] (fun x wr => ∃ k : Nat, k ≤ s.length + 1 ∧ x = .int .i64 k ∧ Hid (RowAt wr wo.heap.size 4 (Gl.bools (s.length + 1) (Gl.fill V k))) ∧ Hid (RowAt wr g 4 (Gl.bools (s.length + 1) A)) ∧ Hid (Below wo.heap.size wo wr)) (fun x _ => s.length + 1 - (intOf x).toNat)
        case atStart => exact ⟨0, Nat.zero_le _, rfl, HNew2, HRow2, HB2⟩
        case round =>
          obtain ⟨k, hk, rfl, HN, HA, HBz⟩ := hrel
          have hk9 : (k : Int) ≤ 4294967271 := by omega
          have gz := HA.out.lt
          have nz := HN.out.lt
          by_cases hkn : k ≤ s.length
          · have hkn' : (k : Int) ≤ (s.length : Int) := by omega
            have ca := (HA.out.cell k).trans (Gl.bools_get (s.length + 1) A k (by omega))
            have fn := HN.out.frozen k
            have cn := (HN.out.cell k).trans (Gl.bools_get (s.length + 1) _ k (by omega))
            have hkb : (k : Int) < (s.length : Int) + 1 := by omega
            have hne : wo.heap.size ≠ g := by omega
            have HSt : Hid (∀ b, V k = b → RowAt (wr.setCell ⟨wo.heap.size, k, none⟩ (.bool b)) wo.heap.size 4 (Gl.bools (s.length + 1) (Gl.fill V (k + 1)))) := Lib.hid fun b hb => by
              have := HN.out.set_ k (.bool b)
              rw [Gl.bools_set, ← hb, Gl.fill_put] at this
              rw [← hb]; exact this
            have HSa : Hid (∀ b : Bool, RowAt (wr.setCell ⟨wo.heap.size, k, none⟩ (.bool b)) g 4 (Gl.bools (s.length + 1) A)) := Lib.hid fun b => HA.out.far (fun e => hne e.symm) _
            have HSb : Hid (∀ b : Bool, Below wo.heap.size wo (wr.setCell ⟨wo.heap.size, k, none⟩ (.bool b))) := Lib.hid fun b => HBz.out.setCell (Nat.le_refl _) _
            by_cases hk0 : k = 0
            · subst hk0
              have HQ : Hid (V 0 = false) := HV0
              go_wp2_with fail
              go_roundw
              case rel => exact ⟨0 + 1, by omega, by go_num, Lib.hid (by rw [Gl.fill_keep _ _ HQ.out]; exact HN.out), HA, HBz⟩
              case measure => first | (simp [intOf]; done) | (simp [intOf]; omega)
            · obtain ⟨m, hkm⟩ : ∃ m, k = m + 1 := ⟨k - 1, by omega⟩
              have hms : m < s.length := by omega
              have hms' : (m : Int) < (s.length : Int) := by omega
              have cm := (HA.out.cell m).trans (Gl.bools_get (s.length + 1) A m (by omega))
              have HQ : Hid (V k = (A m && Gl.one (s.getD m 0) (Gl.El.any))) := Lib.hid (by have := HVs.out m; rw [← hkm] at this; exact this)
              have hz1 : ((k : Int) == 0) = false := by simp; omega
              have hm1 : (m : Int) < (s.length : Int) + 1 := by omega
              have hmz : (0 : Int) ≤ (m : Int) := by omega
              have hsub : IntKind.i64.wrap ((k : Int) - 1) = (m : Int) := (IntWalk.i64_in _ (by omega)).trans (by omega)
              have HK := Lib.hid hkm
              clear hkm hk0
              rw [HOn.out m hms] at HQ
              generalize A m = av at *
              cases av
              · have HQ : Hid (V k = false) := HQ
                go_wp2_with fail
                go_roundw
                case rel => exact ⟨k + 1, by omega, by go_num, Lib.hid (by rw [Gl.fill_keep _ _ HQ.out]; exact HN.out), HA, HBz⟩
                case measure => first | (simp [intOf]; done) | (simp [intOf]; omega)
              · have HQ : Hid (V k = true) := HQ
                obtain ⟨kc, kf⟩ := Gl.kgrown wr
                go_wp2_with fail
                refine Qt.wp_region_below_tail_at 39 rfl (by kernel_rfl) (by kernel_rfl) (by kernel_rfl) ?_
                simp only [List.take_succ_cons, List.take_zero]
                repeat (go_big_quiet_step (fail))
                refine wpQuiet_nil ?_
                intro _ hw'
                obtain ⟨⟨dq, osq⟩, hw''⟩ := hw'
                subst hw''
                have hbq := below_regrown wr dq osq
                have HNq := Lib.hid (HN.out.below hbq nz)
                have HAq := Lib.hid (HA.out.below hbq gz)
                have HBq := Lib.hid (HBz.out.trans (hbq.mono HBz.out.size))
                have fq := HNq.out.frozen k
                have cq := (HNq.out.cell k).trans (Gl.bools_get (s.length + 1) _ k (by omega))
                have nzq := HNq.out.lt
                clear hbq kc kf
                generalize grow (redrawn wr dq) osq = wq at *
                go_wp2_with fail
                go_roundw
                case rel =>
                  refine ⟨k + 1, by omega, by go_num, Lib.hid ?_, Lib.hid (HAq.out.far (fun e => hne e.symm) _), Lib.hid (HBq.out.setCell (Nat.le_refl _) _)⟩
                  have := HNq.out.set_ k (.bool true)
                  rw [Gl.bools_set] at this
                  rw [← Gl.fill_put, HQ.out]; exact this
                case measure => first | (simp [intOf]; done) | (simp [intOf]; omega)
          · obtain rfl : k = s.length + 1 := by omega
            have hkn' : ¬ (s.length : Int) + 1 ≤ (s.length : Int) := by omega
            have HN2 := Lib.hid (HN.out)
            rw [Gl.fill_all] at HN2
            go_wp2_with fail
            go_roundw
            case rel => exact ⟨wo.heap.size, i + 1, V, p', rfl, by go_num, by omega, HT2, HE2, HN2, Lib.hid (HB.out.trans (HBz.out.mono hws))⟩
            case measure => first | (simp [intOf]; done) | (simp [intOf]; omega)
      · have HT2 := Lib.hid HT'
        have HE2 := Lib.hid ((Gl.Ends.one (e := Gl.El.cls (Gl.ah (p.drop (i + 1)))) rfl).trans HE.out)
        have HCl := Lib.hid (refClass_any p hp i hlt)
        have hok : Gl.clsOk p i = true := by
          have h1 := Gl.simple_at_cls p i hlt b1
          rw [List.drop_eq_getElem_cons hlt] at h1
          have h2 : Gl.simple (p[i] :: p.drop (i + 1)) = true := by unfold Gl.simple; rw [HT.out]; rfl
          rw [h2] at h1
          cases h : Gl.clsOk p i with
          | true => rfl
          | false => rw [h] at h1; cases h1
        rw [hok, if_pos rfl] at HCl
        have HT2 : Hid (Gl.toks none (p.drop (Gl.clsAt p i + 1)) = some p') := Lib.hid (by rw [← Gl.bh_drop p i h93]; exact HT')
        obtain ⟨hel, _⟩ := Gl.clsAt_has p i h93
        have hge : i + 1 ≤ Gl.clsAt p i := by unfold Gl.clsAt; omega
        have HIn := Lib.hid fun (c : UInt8) W => refIn_any p hp i (Gl.clsAt p i) hge (by omega) c W
        have HOn : Hid (∀ m (h : m < s.length), Gl.one (s.getD m 0) (Gl.El.cls (Gl.ah (p.drop (i + 1)))) = Gl.inR s[m] (Gl.seg p (i + 1) (Gl.clsAt p i))) := Lib.hid fun m h => by
          rw [List.getD_eq_getElem?_getD, List.getElem?_eq_getElem h, ← Gl.cls_seg]; rfl
        rw [b1] at e91 n91 d91 e42 n42 e63
        rw [show decide ((91 : UInt8) = 91) = true by decide] at e91 n91 d91
        rw [show decide ((91 : UInt8) = 42) = false by decide] at e42 n42
        rw [show decide ((91 : UInt8) = 63) = false by decide] at e63
        clear b1 hok h93
        generalize Gl.clsAt p i = en at *
        have hen9 : (en : Int) ≤ 4294967270 := by omega
        clear HT HE HT'
        generalize hV : Gl.oneV (Gl.El.cls (Gl.ah (p.drop (i + 1)))) s A = V at *
        have HV0 : Hid (V 0 = false) := Lib.hid (by rw [← hV]; rfl)
        have HVs : Hid (∀ m, V (m + 1) = (A m && Gl.one (s.getD m 0) (Gl.El.cls (Gl.ah (p.drop (i + 1)))))) := Lib.hid fun m => by rw [← hV]; rfl
        clear hV
        have HRow1 : Hid (RowAt (wo.alloc (.cells (Gl.bools (s.length + 1) fun _ => false) 4)) g 4 (Gl.bools (s.length + 1) A)) := Lib.hid (HRow.out.alloc _)
        have HNew1 : Hid (RowAt (wo.alloc (.cells (Gl.bools (s.length + 1) fun _ => false) 4)) wo.heap.size 4 (Gl.bools (s.length + 1) (Gl.fill V 0))) := Lib.hid (by
          rw [show Gl.fill V 0 = fun _ => false by funext j; unfold Gl.fill; rw [if_neg (by omega)]]; exact HNew.out)
        clear HNew hz0 HRow
        go_wp2_with (go_at_call 76; go_must (refine (HCl.out _).mono ?_; rintro e w1 ⟨rfl, hb1⟩))
        have HRow2 := Lib.hid (HRow1.out.below hb1 HRow1.out.lt)
        have HNew2 := Lib.hid (HNew1.out.below hb1 HNew1.out.lt)
        have HB2 := Lib.hid (HBn.out.trans (hb1.mono HBn.out.size))
        clear hb1 HRow1 HNew1 HBn
        go_loopw [9] (fun x wr => ∃ k : Nat, k ≤ s.length + 1 ∧ x = .int .i64 k ∧ Hid (RowAt wr wo.heap.size 4 (Gl.bools (s.length + 1) (Gl.fill V k))) ∧ Hid (RowAt wr g 4 (Gl.bools (s.length + 1) A)) ∧ Hid (Below wo.heap.size wo wr)) (fun x _ => s.length + 1 - (intOf x).toNat)
        case atStart => exact ⟨0, Nat.zero_le _, rfl, HNew2, HRow2, HB2⟩
        case round =>
          obtain ⟨k, hk, rfl, HN, HA, HBz⟩ := hrel
          have hk9 : (k : Int) ≤ 4294967271 := by omega
          have gz := HA.out.lt
          have nz := HN.out.lt
          by_cases hkn : k ≤ s.length
          · have hkn' : (k : Int) ≤ (s.length : Int) := by omega
            have ca := (HA.out.cell k).trans (Gl.bools_get (s.length + 1) A k (by omega))
            have fn := HN.out.frozen k
            have cn := (HN.out.cell k).trans (Gl.bools_get (s.length + 1) _ k (by omega))
            have hkb : (k : Int) < (s.length : Int) + 1 := by omega
            have hne : wo.heap.size ≠ g := by omega
            have HSt : Hid (∀ b, V k = b → RowAt (wr.setCell ⟨wo.heap.size, k, none⟩ (.bool b)) wo.heap.size 4 (Gl.bools (s.length + 1) (Gl.fill V (k + 1)))) := Lib.hid fun b hb => by
              have := HN.out.set_ k (.bool b)
              rw [Gl.bools_set, ← hb, Gl.fill_put] at this
              rw [← hb]; exact this
            have HSa : Hid (∀ b : Bool, RowAt (wr.setCell ⟨wo.heap.size, k, none⟩ (.bool b)) g 4 (Gl.bools (s.length + 1) A)) := Lib.hid fun b => HA.out.far (fun e => hne e.symm) _
            have HSb : Hid (∀ b : Bool, Below wo.heap.size wo (wr.setCell ⟨wo.heap.size, k, none⟩ (.bool b))) := Lib.hid fun b => HBz.out.setCell (Nat.le_refl _) _
            by_cases hk0 : k = 0
            · subst hk0
              have HQ : Hid (V 0 = false) := HV0
              go_wp2_with fail
              go_roundw
              case rel => exact ⟨0 + 1, by omega, by go_num, Lib.hid (by rw [Gl.fill_keep _ _ HQ.out]; exact HN.out), HA, HBz⟩
              case measure => first | (simp [intOf]; done) | (simp [intOf]; omega)
            · obtain ⟨m, hkm⟩ : ∃ m, k = m + 1 := ⟨k - 1, by omega⟩
              have hms : m < s.length := by omega
              have hms' : (m : Int) < (s.length : Int) := by omega
              have cm := (HA.out.cell m).trans (Gl.bools_get (s.length + 1) A m (by omega))
              have HQ : Hid (V k = (A m && Gl.one (s.getD m 0) (Gl.El.cls (Gl.ah (p.drop (i + 1)))))) := Lib.hid (by have := HVs.out m; rw [← hkm] at this; exact this)
              have hz1 : ((k : Int) == 0) = false := by simp; omega
              have hm1 : (m : Int) < (s.length : Int) + 1 := by omega
              have hmz : (0 : Int) ≤ (m : Int) := by omega
              have hsub : IntKind.i64.wrap ((k : Int) - 1) = (m : Int) := (IntWalk.i64_in _ (by omega)).trans (by omega)
              have HK := Lib.hid hkm
              clear hkm hk0
              rw [HOn.out m hms] at HQ
              generalize A m = av at *
              cases av
              · have HQ : Hid (V k = false) := HQ
                go_wp2_with fail
                go_roundw
                case rel => exact ⟨k + 1, by omega, by go_num, Lib.hid (by rw [Gl.fill_keep _ _ HQ.out]; exact HN.out), HA, HBz⟩
                case measure => first | (simp [intOf]; done) | (simp [intOf]; omega)
              · have HIm : Hid (∀ W, Calls Tryz.prog 109 #[.string ⟨p.toArray⟩, .int .i64 i, .int .i64 en, .int .u8 (((⟨s.toArray⟩ : ByteArray)[m]'hms).toNat : Int)] W fun r w' => r = .returned (.bool (Gl.inR s[m] (Gl.seg p (i + 1) en))) ∧ Below W.heap.size W w') := Lib.hid fun W => HIn.out s[m] W
                have HQ : Hid (V k = Gl.inR s[m] (Gl.seg p (i + 1) en)) := HQ
                generalize Gl.inR s[m] (Gl.seg p (i + 1) en) = ir at *
                cases ir
                · skip
                  obtain ⟨kc, kf⟩ := Gl.kgrown wr
                  go_wp2_with fail
                  refine Qt.wp_region_below_tail_at 39 rfl (by kernel_rfl) (by kernel_rfl) (by kernel_rfl) ?_
                  simp only [List.take_succ_cons, List.take_zero]
                  repeat (go_big_quiet_step ((go_at_call 109; exact Calls.regrown_of (HIm.out _))))
                  refine wpQuiet_nil ?_
                  intro _ hw'
                  obtain ⟨⟨dq, osq⟩, hw''⟩ := hw'
                  subst hw''
                  have hbq := below_regrown wr dq osq
                  have HNq := Lib.hid (HN.out.below hbq nz)
                  have HAq := Lib.hid (HA.out.below hbq gz)
                  have HBq := Lib.hid (HBz.out.trans (hbq.mono HBz.out.size))
                  have fq := HNq.out.frozen k
                  have cq := (HNq.out.cell k).trans (Gl.bools_get (s.length + 1) _ k (by omega))
                  have nzq := HNq.out.lt
                  clear hbq kc kf
                  generalize grow (redrawn wr dq) osq = wq at *
                  go_wp2_with fail
                  go_roundw
                  case rel =>
                    refine ⟨k + 1, by omega, by go_num, Lib.hid ?_, Lib.hid (HAq.out.far (fun e => hne e.symm) _), Lib.hid (HBq.out.setCell (Nat.le_refl _) _)⟩
                    have := HNq.out.set_ k (.bool false)
                    rw [Gl.bools_set] at this
                    rw [← Gl.fill_put, HQ.out]; exact this
                  case measure => first | (simp [intOf]; done) | (simp [intOf]; omega)
                · skip
                  obtain ⟨kc, kf⟩ := Gl.kgrown wr
                  go_wp2_with fail
                  refine Qt.wp_region_below_tail_at 39 rfl (by kernel_rfl) (by kernel_rfl) (by kernel_rfl) ?_
                  simp only [List.take_succ_cons, List.take_zero]
                  repeat (go_big_quiet_step ((go_at_call 109; exact Calls.regrown_of (HIm.out _))))
                  refine wpQuiet_nil ?_
                  intro _ hw'
                  obtain ⟨⟨dq, osq⟩, hw''⟩ := hw'
                  subst hw''
                  have hbq := below_regrown wr dq osq
                  have HNq := Lib.hid (HN.out.below hbq nz)
                  have HAq := Lib.hid (HA.out.below hbq gz)
                  have HBq := Lib.hid (HBz.out.trans (hbq.mono HBz.out.size))
                  have fq := HNq.out.frozen k
                  have cq := (HNq.out.cell k).trans (Gl.bools_get (s.length + 1) _ k (by omega))
                  have nzq := HNq.out.lt
                  clear hbq kc kf
                  generalize grow (redrawn wr dq) osq = wq at *
                  go_wp2_with fail
                  go_roundw
                  case rel =>
                    refine ⟨k + 1, by omega, by go_num, Lib.hid ?_, Lib.hid (HAq.out.far (fun e => hne e.symm) _), Lib.hid (HBq.out.setCell (Nat.le_refl _) _)⟩
                    have := HNq.out.set_ k (.bool true)
                    rw [Gl.bools_set] at this
                    rw [← Gl.fill_put, HQ.out]; exact this
                  case measure => first | (simp [intOf]; done) | (simp [intOf]; omega)
          · obtain rfl : k = s.length + 1 := by omega
            have hkn' : ¬ (s.length : Int) + 1 ≤ (s.length : Int) := by omega
            have HN2 := Lib.hid (HN.out)
            rw [Gl.fill_all] at HN2
            go_wp2_with fail
            go_roundw
            case rel => exact ⟨wo.heap.size, en + 1, V, p', rfl, by go_num, by omega, HT2, HE2, HN2, Lib.hid (HB.out.trans (HBz.out.mono hws))⟩
            case measure => first | (simp [intOf]; done) | (simp [intOf]; omega)
      · have HT2 := Lib.hid HT'
        have HE2 := Lib.hid ((Gl.Ends.one (e := Gl.El.lit p[i]) rfl).trans HE.out)
        rw [decide_eq_false b91] at e91 n91 d91
        rw [decide_eq_false b42] at e42 n42
        rw [decide_eq_false b63] at e63
        have HOn : Hid (∀ m (h : m < s.length), Gl.one (s.getD m 0) (Gl.El.lit p[i]) = decide (p[i] = s[m])) := Lib.hid fun m h => by
          rw [List.getD_eq_getElem?_getD, List.getElem?_eq_getElem h]; rfl
        clear b42 b63 b91
        clear HT HE HT'
        generalize hV : Gl.oneV (Gl.El.lit p[i]) s A = V at *
        have HV0 : Hid (V 0 = false) := Lib.hid (by rw [← hV]; rfl)
        have HVs : Hid (∀ m, V (m + 1) = (A m && Gl.one (s.getD m 0) (Gl.El.lit p[i]))) := Lib.hid fun m => by rw [← hV]; rfl
        clear hV
        have HRow1 : Hid (RowAt (wo.alloc (.cells (Gl.bools (s.length + 1) fun _ => false) 4)) g 4 (Gl.bools (s.length + 1) A)) := Lib.hid (HRow.out.alloc _)
        have HNew1 : Hid (RowAt (wo.alloc (.cells (Gl.bools (s.length + 1) fun _ => false) 4)) wo.heap.size 4 (Gl.bools (s.length + 1) (Gl.fill V 0))) := Lib.hid (by
          rw [show Gl.fill V 0 = fun _ => false by funext j; unfold Gl.fill; rw [if_neg (by omega)]]; exact HNew.out)
        clear HNew hz0 HRow
        go_wp2_with fail
        have HRow2 := HRow1
        have HNew2 := HNew1
        have HB2 := HBn
        clear HRow1 HNew1 HBn
        generalize wo.alloc (.cells (Gl.bools (s.length + 1) fun _ => false) 4) = w1 at *
        go_loopw [9] (fun x wr => ∃ k : Nat, k ≤ s.length + 1 ∧ x = .int .i64 k ∧ Hid (RowAt wr wo.heap.size 4 (Gl.bools (s.length + 1) (Gl.fill V k))) ∧ Hid (RowAt wr g 4 (Gl.bools (s.length + 1) A)) ∧ Hid (Below wo.heap.size wo wr)) (fun x _ => s.length + 1 - (intOf x).toNat)
        case atStart => exact ⟨0, Nat.zero_le _, rfl, HNew2, HRow2, HB2⟩
        case round =>
          obtain ⟨k, hk, rfl, HN, HA, HBz⟩ := hrel
          have hk9 : (k : Int) ≤ 4294967271 := by omega
          have gz := HA.out.lt
          have nz := HN.out.lt
          by_cases hkn : k ≤ s.length
          · have hkn' : (k : Int) ≤ (s.length : Int) := by omega
            have ca := (HA.out.cell k).trans (Gl.bools_get (s.length + 1) A k (by omega))
            have fn := HN.out.frozen k
            have cn := (HN.out.cell k).trans (Gl.bools_get (s.length + 1) _ k (by omega))
            have hkb : (k : Int) < (s.length : Int) + 1 := by omega
            have hne : wo.heap.size ≠ g := by omega
            have HSt : Hid (∀ b, V k = b → RowAt (wr.setCell ⟨wo.heap.size, k, none⟩ (.bool b)) wo.heap.size 4 (Gl.bools (s.length + 1) (Gl.fill V (k + 1)))) := Lib.hid fun b hb => by
              have := HN.out.set_ k (.bool b)
              rw [Gl.bools_set, ← hb, Gl.fill_put] at this
              rw [← hb]; exact this
            have HSa : Hid (∀ b : Bool, RowAt (wr.setCell ⟨wo.heap.size, k, none⟩ (.bool b)) g 4 (Gl.bools (s.length + 1) A)) := Lib.hid fun b => HA.out.far (fun e => hne e.symm) _
            have HSb : Hid (∀ b : Bool, Below wo.heap.size wo (wr.setCell ⟨wo.heap.size, k, none⟩ (.bool b))) := Lib.hid fun b => HBz.out.setCell (Nat.le_refl _) _
            by_cases hk0 : k = 0
            · subst hk0
              have HQ : Hid (V 0 = false) := HV0
              go_wp2_with fail
              go_roundw
              case rel => exact ⟨0 + 1, by omega, by go_num, Lib.hid (by rw [Gl.fill_keep _ _ HQ.out]; exact HN.out), HA, HBz⟩
              case measure => first | (simp [intOf]; done) | (simp [intOf]; omega)
            · obtain ⟨m, hkm⟩ : ∃ m, k = m + 1 := ⟨k - 1, by omega⟩
              have hms : m < s.length := by omega
              have hms' : (m : Int) < (s.length : Int) := by omega
              have cm := (HA.out.cell m).trans (Gl.bools_get (s.length + 1) A m (by omega))
              have HQ : Hid (V k = (A m && Gl.one (s.getD m 0) (Gl.El.lit p[i]))) := Lib.hid (by have := HVs.out m; rw [← hkm] at this; exact this)
              have hz1 : ((k : Int) == 0) = false := by simp; omega
              have hm1 : (m : Int) < (s.length : Int) + 1 := by omega
              have hmz : (0 : Int) ≤ (m : Int) := by omega
              have hsub : IntKind.i64.wrap ((k : Int) - 1) = (m : Int) := (IntWalk.i64_in _ (by omega)).trans (by omega)
              have HK := Lib.hid hkm
              clear hkm hk0
              rw [HOn.out m hms] at HQ
              generalize A m = av at *
              cases av
              · have HQ : Hid (V k = false) := HQ
                go_wp2_with fail
                go_roundw
                case rel => exact ⟨k + 1, by omega, by go_num, Lib.hid (by rw [Gl.fill_keep _ _ HQ.out]; exact HN.out), HA, HBz⟩
                case measure => first | (simp [intOf]; done) | (simp [intOf]; omega)
              · have ee : ((((⟨p.toArray⟩ : ByteArray)[i]'hlt).toNat : Int) == (((⟨s.toArray⟩ : ByteArray)[m]'hms).toNat : Int)) = decide (p[i] = s[m]) := Gl.byteEq p[i] s[m]
                have HQ : Hid (V k = decide (p[i] = s[m])) := HQ
                generalize decide (p[i] = s[m]) = ir at *
                cases ir
                · skip
                  obtain ⟨kc, kf⟩ := Gl.kgrown wr
                  go_wp2_with fail
                  refine Qt.wp_region_below_tail_at 39 rfl (by kernel_rfl) (by kernel_rfl) (by kernel_rfl) ?_
                  simp only [List.take_succ_cons, List.take_zero]
                  repeat (go_big_quiet_step (fail))
                  refine wpQuiet_nil ?_
                  intro _ hw'
                  obtain ⟨⟨dq, osq⟩, hw''⟩ := hw'
                  subst hw''
                  have hbq := below_regrown wr dq osq
                  have HNq := Lib.hid (HN.out.below hbq nz)
                  have HAq := Lib.hid (HA.out.below hbq gz)
                  have HBq := Lib.hid (HBz.out.trans (hbq.mono HBz.out.size))
                  have fq := HNq.out.frozen k
                  have cq := (HNq.out.cell k).trans (Gl.bools_get (s.length + 1) _ k (by omega))
                  have nzq := HNq.out.lt
                  clear hbq kc kf
                  generalize grow (redrawn wr dq) osq = wq at *
                  go_wp2_with fail
                  go_roundw
                  case rel =>
                    refine ⟨k + 1, by omega, by go_num, Lib.hid ?_, Lib.hid (HAq.out.far (fun e => hne e.symm) _), Lib.hid (HBq.out.setCell (Nat.le_refl _) _)⟩
                    have := HNq.out.set_ k (.bool false)
                    rw [Gl.bools_set] at this
                    rw [← Gl.fill_put, HQ.out]; exact this
                  case measure => first | (simp [intOf]; done) | (simp [intOf]; omega)
                · skip
                  obtain ⟨kc, kf⟩ := Gl.kgrown wr
                  go_wp2_with fail
                  refine Qt.wp_region_below_tail_at 39 rfl (by kernel_rfl) (by kernel_rfl) (by kernel_rfl) ?_
                  simp only [List.take_succ_cons, List.take_zero]
                  repeat (go_big_quiet_step (fail))
                  refine wpQuiet_nil ?_
                  intro _ hw'
                  obtain ⟨⟨dq, osq⟩, hw''⟩ := hw'
                  subst hw''
                  have hbq := below_regrown wr dq osq
                  have HNq := Lib.hid (HN.out.below hbq nz)
                  have HAq := Lib.hid (HA.out.below hbq gz)
                  have HBq := Lib.hid (HBz.out.trans (hbq.mono HBz.out.size))
                  have fq := HNq.out.frozen k
                  have cq := (HNq.out.cell k).trans (Gl.bools_get (s.length + 1) _ k (by omega))
                  have nzq := HNq.out.lt
                  clear hbq kc kf
                  generalize grow (redrawn wr dq) osq = wq at *
                  go_wp2_with fail
                  go_roundw
                  case rel =>
                    refine ⟨k + 1, by omega, by go_num, Lib.hid ?_, Lib.hid (HAq.out.far (fun e => hne e.symm) _), Lib.hid (HBq.out.setCell (Nat.le_refl _) _)⟩
                    have := HNq.out.set_ k (.bool true)
                    rw [Gl.bools_set] at this
                    rw [← Gl.fill_put, HQ.out]; exact this
                  case measure => first | (simp [intOf]; done) | (simp [intOf]; omega)
          · obtain rfl : k = s.length + 1 := by omega
            have hkn' : ¬ (s.length : Int) + 1 ≤ (s.length : Int) := by omega
            have HN2 := Lib.hid (HN.out)
            rw [Gl.fill_all] at HN2
            go_wp2_with fail
            go_roundw
            case rel => exact ⟨wo.heap.size, i + 1, V, p', rfl, by go_num, by omega, HT2, HE2, HN2, Lib.hid (HB.out.trans (HBz.out.mono hws))⟩
            case measure => first | (simp [intOf]; done) | (simp [intOf]; omega)
    · obtain rfl : i = p.length := by omega
      rw [List.drop_length] at HT
      have hps := Gl.toks_empty HT.out
      subst hps
      have HQ : Hid (A s.length = R) := Lib.hid (Gl.eq_of_iff (Gl.Ends.done.symm.trans HE.out))
      have ca := (HRow.out.cell s.length).trans (Gl.bools_get (s.length + 1) A s.length (by omega))
      rw [HQ.out] at ca
      have hsl : (s.length : Int) < (s.length : Int) + 1 := by omega
      go_wp2_with fail
      go_ret
      exact ⟨rfl, HB.out⟩

set_option maxHeartbeats 1000000 in
theorem refMatch_any (p s : List UInt8) (hp : p.length ≤ 4294967270) (hs : s.length ≤ 4294967270) (w : World) :
    Calls Tryz.prog 54 #[.string ⟨p.toArray⟩, .string ⟨s.toArray⟩] w fun e w' => e = .returned (.bool (Gl.gm p s)) ∧ Below w.heap.size w w' := by
  have HS := Lib.hid (refSimple_any p hp w)
  cases hsm : Gl.simple p
  · rw [hsm] at HS
    have HQ : Hid (false = Gl.gm p s) := Lib.hid (by rw [Gl.gm_simple, hsm]; rfl)
    generalize Gl.gm p s = R at *
    clear hsm
    go_enter Tryz.func54, Tryz.ntmps54
    go_wp2_with (go_at_call 53; go_must (refine (HS.out).mono ?_; rintro e w1 ⟨rfl, hb1⟩))
    go_ret
    exact ⟨Gl.ret_bool HQ.out, hb1⟩
  · rw [hsm] at HS
    have HMt := Lib.hid fun W => refMatches_any p s hp hs hsm W
    generalize Gl.gm p s = R at *
    clear hsm
    go_enter Tryz.func54, Tryz.ntmps54
    go_wp2_with first
      | (go_at_call 53; go_must (refine (HS.out).mono ?_; rintro e w1 ⟨rfl, hb1⟩))
      | (go_at_call 77; go_must (refine (HMt.out _).mono ?_; rintro e w2 ⟨rfl, hb2⟩))
    go_ret
    exact ⟨rfl, hb1.trans (hb2.mono hb1.size)⟩
end Go.Proofs.YtfmbbhcjnidcbaaGreatDoor
