/-
  CONTRACTS: sums of many values.
-/
import Derived.Test.YtjaclmhfagdfhaaFxOps
import Derived.Test.YtjaclmhfagdfhaaQtTail
namespace Go.Proofs.Ytjaclmhfagdfhaa
open Go.RowKit Go.Sort
open Fx (Vl)

def sum (l : List Vl) : Vl := l.foldl Fx.plus ⟨true, 0⟩
theorem sum_take (l : List Vl) (k : Nat) (h : k < l.length) : sum (l.take (k + 1)) = Fx.plus (sum (l.take k)) l[k] := by
  unfold sum
  rw [List.take_succ_eq_append_getElem h, List.foldl_append]
  rfl

/-- The cells of a row of Vals. -/
structure Vals (w : World) (b off : Nat) (l : List Vl) : Prop where
  lt : b < w.heap.size
  ok : ∀ i (h : i < l.length), w.cell? ⟨b, off + i * 2, none⟩ = some (.bool l[i].ok)
  n : ∀ i (h : i < l.length), w.cell? ⟨b, off + i * 2 + 1, none⟩ = some (.int .i64 l[i].n)

theorem Vals.below {w w' : World} {b off : Nat} {l : List Vl} (h : Vals w b off l) (hb : Below w.heap.size w w') : Vals w' b off l :=
  ⟨Nat.lt_of_lt_of_le h.lt hb.size, fun i hi => (hb.cell (p := ⟨b, off + i * 2, none⟩) h.lt).trans (h.ok i hi), fun i hi => (hb.cell (p := ⟨b, off + i * 2 + 1, none⟩) h.lt).trans (h.n i hi)⟩

/-- What holds at every turn of a sum: of the world; of the result's block r, of the sum's block s. -/
structure AddRel (w wr : World) (r s : Nat) (v : Vl) : Prop where
  below : Below w.heap.size w wr
  r0 : w.heap.size ≤ r
  rs : r < s
  sz : s < wr.heap.size
  rc0 : wr.cell? ⟨r, 0, none⟩ = some (.bool false)
  rc1 : wr.cell? ⟨r, 1, none⟩ = some (.int .i64 0)
  rf0 : wr.frozen? ⟨r, 0, none⟩ = false
  rf1 : wr.frozen? ⟨r, 1, none⟩ = false
  sc0 : wr.cell? ⟨s, 0, none⟩ = some (.bool v.ok)
  sc1 : wr.cell? ⟨s, 1, none⟩ = some (.int .i64 v.n)
  sf0 : wr.frozen? ⟨s, 0, none⟩ = false
  sf1 : wr.frozen? ⟨s, 1, none⟩ = false

theorem AddRel.step {w wr wp : World} {r s : Nat} {v : Vl} (h : AddRel w wr r s v) (hb : Below wr.heap.size wr wp) (ok : Bool) (n : Int) :
    AddRel w ((wp.setCell ⟨s, 0, none⟩ (.bool ok)).setCell ⟨s, 1, none⟩ (.int .i64 n)) r s ⟨ok, n⟩ := by
  have hs1 := h.sz
  have hrs := h.rs
  have hr0 := h.r0
  have hbz := hb.size
  have hc : ∀ b f, b < wr.heap.size → wp.cell? ⟨b, f, none⟩ = wr.cell? ⟨b, f, none⟩ := fun b f hlt => hb.cell (p := ⟨b, f, none⟩) hlt
  have hf : ∀ b f, b < wr.heap.size → wp.frozen? ⟨b, f, none⟩ = wr.frozen? ⟨b, f, none⟩ := fun b f hlt => hb.frozen (p := ⟨b, f, none⟩) hlt
  have hne : r ≠ s := by omega
  have c0 := (hc s 0 hs1).trans h.sc0
  have c1 := (hc s 1 hs1).trans h.sc1
  have d0 := (hc r 0 (by omega)).trans h.rc0
  have d1 := (hc r 1 (by omega)).trans h.rc1
  have f0 := (hf s 0 hs1).trans h.sf0
  have f1 := (hf s 1 hs1).trans h.sf1
  have g0 := (hf r 0 (by omega)).trans h.rf0
  have g1 := (hf r 1 (by omega)).trans h.rf1
  clear hc hf
  refine ⟨?_, hr0, hrs, by simp; omega, ?_, ?_, ?_, ?_, ?_, ?_, ?_, ?_⟩
  · exact Below.setCell (Below.setCell (h.below.trans (hb.mono (by omega))) (by show _ ≤ s; omega) _) (by show _ ≤ s; omega) _
  all_goals simp [go_sem, *]

theorem AddRel.start {w w' : World} {T : TypeId} (hb : Below (w.alloc (.cells #[.bool false, .int .i64 0] T)).heap.size (w.alloc (.cells #[.bool false, .int .i64 0] T)) w') :
    AddRel w (w'.alloc (.cells #[.bool true, .int .i64 0] T)) w.heap.size w'.heap.size ⟨true, 0⟩ := by
  have hz := hb.size
  have hsz : (w.alloc (.cells #[.bool false, .int .i64 0] T)).heap.size = w.heap.size + 1 := by simp
  rw [hsz] at hz
  have hc : ∀ f, w'.cell? ⟨w.heap.size, f, none⟩ = (w.alloc (.cells #[.bool false, .int .i64 0] T)).cell? ⟨w.heap.size, f, none⟩ := fun f => hb.cell (p := ⟨w.heap.size, f, none⟩) (by rw [hsz]; show w.heap.size < _; omega)
  have hf : ∀ f, w'.frozen? ⟨w.heap.size, f, none⟩ = (w.alloc (.cells #[.bool false, .int .i64 0] T)).frozen? ⟨w.heap.size, f, none⟩ := fun f => hb.frozen (p := ⟨w.heap.size, f, none⟩) (by rw [hsz]; show w.heap.size < _; omega)
  have hlt : w.heap.size < w'.heap.size := by omega
  refine ⟨?_, Nat.le_refl _, by omega, by simp, ?_, ?_, ?_, ?_, ?_, ?_, ?_, ?_⟩
  · exact (((Below.refl w.heap.size w).alloc (Nat.le_refl _) _).trans (hb.mono (by omega))).alloc (by omega) _
  all_goals simp [go_sem, *]

set_option maxHeartbeats 1000000 in
theorem add_some (l : List Vl) (hl : l.length ≤ 4611686018427387904) (b off cap : Nat) (w : World) (hv : Vals w b off l) :
    Calls Try.prog 33 #[.slice (some ⟨b, off, none⟩) l.length cap] w fun e w' => e = .returned (.agg #[.bool (sum l).ok, .int .i64 (sum l).n]) ∧ Below w.heap.size w w' := by
  have O0 : Hid (∀ W, Calls Try.prog 46 #[.int .i64 0] W fun e w' => e = .returned (.agg #[.bool true, .int .i64 0]) ∧ Below W.heap.size W w') := Lib.hid fun W => of_any 0 W
  go_enter Try.func33, Try.ntmps33
  go_wp2_with (go_at_call 46; go_must (refine (O0.out _).mono ?_; rintro e w' ⟨rfl, hb⟩; obtain ⟨hc, hf⟩ := bcell hb; (try have hz0 : w.heap.size < w'.heap.size := Nat.lt_of_lt_of_le (by first | assumption | (simp; done) | (simp; omega)) hb.size); (try have hz1 : w.heap.size + 1 < w'.heap.size := Nat.lt_of_lt_of_le (by first | assumption | (simp; done) | (simp; omega)) hb.size); (try have hz2 : w.heap.size + 1 + 1 < w'.heap.size := Nat.lt_of_lt_of_le (by first | assumption | (simp; done) | (simp; omega)) hb.size); have hz := hb.size; (try simp at hz)))
  go_loopw [9] (fun i wr => ∃ k : Nat, k ≤ l.length ∧ i = .int .i64 k ∧ AddRel w wr w.heap.size w'.heap.size (sum (l.take k))) (fun i _ => l.length - (intOf i).toNat)
  case atStart => exact ⟨0, Nat.zero_le _, rfl, AddRel.start hb⟩
  case round =>
    obtain ⟨k, hk, rfl, hR⟩ := hrel
    have hsz := hR.sz
    have rc0 := hR.rc0
    have rc1 := hR.rc1
    have rf0 := hR.rf0
    have rf1 := hR.rf1
    have sc0 := hR.sc0
    have sc1 := hR.sc1
    have sf0 := hR.sf0
    have sf1 := hR.sf1
    by_cases hlt : k < l.length
    · have hvr := hv.below hR.below
      have ec0 := hvr.ok k hlt
      have ec1 := hvr.n k hlt
      have hst := Lib.hid (sum_take l k hlt)
      have HR := Lib.hid hR
      clear hR hvr
      generalize l[k] = ek at *
      generalize sum (l.take k) = sk at *
      obtain ⟨eo, en⟩ := ek
      obtain ⟨so, sn⟩ := sk
      go_wp2_with (go_at_call 47; go_must (refine (plus_any _ _ _ _ _).mono ?_; rintro e w' ⟨rfl, hb⟩; obtain ⟨hc, hf⟩ := bcell hb; (try have hz0 : w.heap.size < w'.heap.size := Nat.lt_of_lt_of_le (by first | assumption | (simp; done) | (simp; omega)) hb.size); (try have hz1 : w.heap.size + 1 < w'.heap.size := Nat.lt_of_lt_of_le (by first | assumption | (simp; done) | (simp; omega)) hb.size); (try have hz2 : w.heap.size + 1 + 1 < w'.heap.size := Nat.lt_of_lt_of_le (by first | assumption | (simp; done) | (simp; omega)) hb.size); have hz := hb.size; (try simp at hz)))
      go_roundw
      case rel =>
        refine ⟨k + 1, by omega, by go_num, ?_⟩
        rw [hst.out]
        exact AddRel.step HR.out (((Below.refl _ _).alloc (Nat.le_refl _) _).trans (hb.mono (by simp))) _ _
      case measure => simp [intOf]; omega
    · obtain rfl : k = l.length := by omega
      have hbb := hR.below
      have hr0 := hR.r0
      rw [List.take_length] at *
      clear hR
      go_wp2
      exact bodyPost_ret (v := (.agg #[.bool (sum l).ok, .int .i64 (sum l).n])) (by simp [results, Try.results33, go_sem, *]) rfl ⟨rfl, (by repeat (first | exact Below.refl _ _ | assumption | refine Below.setCell ?_ (by first | (simp; done) | omega | (simp; omega) | (simp at *; omega)) _ | refine Below.alloc ?_ (by first | (simp; done) | omega | (simp; omega) | (simp at *; omega)) _ | refine Below.drew ?_ | (refine Below.trans ?_ (Below.mono (by assumption) (by first | (simp; done) | omega | (simp; omega) | (simp at *; omega)))) | (refine Below.trans ?_ (Below.mono (below_regrown _ _ _) (by first | (simp; done) | omega | (simp; omega) | (simp at *; omega))))))⟩

set_option maxHeartbeats 1000000 in
theorem add_nil (w : World) :
    Calls Try.prog 33 #[.slice none 0 0] w fun e w' => e = .returned (.agg #[.bool (sum []).ok, .int .i64 (sum []).n]) ∧ Below w.heap.size w w' := by
  have O0 : Hid (∀ W, Calls Try.prog 46 #[.int .i64 0] W fun e w' => e = .returned (.agg #[.bool true, .int .i64 0]) ∧ Below W.heap.size W w') := Lib.hid fun W => of_any 0 W
  go_enter Try.func33, Try.ntmps33
  go_wp2_with (go_at_call 46; go_must (refine (O0.out _).mono ?_; rintro e w' ⟨rfl, hb⟩; obtain ⟨hc, hf⟩ := bcell hb; (try have hz0 : w.heap.size < w'.heap.size := Nat.lt_of_lt_of_le (by first | assumption | (simp; done) | (simp; omega)) hb.size); (try have hz1 : w.heap.size + 1 < w'.heap.size := Nat.lt_of_lt_of_le (by first | assumption | (simp; done) | (simp; omega)) hb.size); (try have hz2 : w.heap.size + 1 + 1 < w'.heap.size := Nat.lt_of_lt_of_le (by first | assumption | (simp; done) | (simp; omega)) hb.size); have hz := hb.size; (try simp at hz)))
  go_loopw [9] (fun i wr => i = .int .i64 0 ∧ AddRel w wr w.heap.size w'.heap.size ⟨true, 0⟩) (fun i _ => 0)
  case atStart => exact ⟨rfl, AddRel.start hb⟩
  case round =>
    obtain ⟨rfl, hR⟩ := hrel
    have hsz := hR.sz
    have rc0 := hR.rc0
    have rc1 := hR.rc1
    have rf0 := hR.rf0
    have rf1 := hR.rf1
    have sc0 := hR.sc0
    have sc1 := hR.sc1
    have hbb := hR.below
    clear hR
    go_wp2
    exact bodyPost_ret (v := .agg #[.bool true, .int .i64 0]) (by simp [results, Try.results33, go_sem, *]) rfl ⟨rfl, (by repeat (first | exact Below.refl _ _ | assumption | refine Below.setCell ?_ (by first | (simp; done) | omega | (simp; omega) | (simp at *; omega)) _ | refine Below.alloc ?_ (by first | (simp; done) | omega | (simp; omega) | (simp at *; omega)) _ | refine Below.drew ?_ | (refine Below.trans ?_ (Below.mono (by assumption) (by first | (simp; done) | omega | (simp; omega) | (simp at *; omega)))) | (refine Below.trans ?_ (Below.mono (below_regrown _ _ _) (by first | (simp; done) | omega | (simp; omega) | (simp at *; omega))))))⟩

set_option maxHeartbeats 2000000 in
theorem refAdd_some (l : List Vl) (hl : l.length ≤ 4611686018427387904) (b off cap : Nat) (w : World) (hv : Vals w b off l) :
    Calls Try.prog 24 #[.slice (some ⟨b, off, none⟩) l.length cap] w fun e w' => e = .returned (.agg #[.bool (sum l).ok, .int .i64 (sum l).n]) ∧ Below w.heap.size w w' := by
  have O0 : Hid (∀ W, Calls Try.prog 38 #[.int .i64 0] W fun e w' => e = .returned (.agg #[.bool true, .int .i64 0]) ∧ Below W.heap.size W w') := Lib.hid fun W => refOf_any 0 W
  go_enter Try.func24, Try.ntmps24
  go_wp2_with (go_at_call 38; go_must (refine (O0.out _).mono ?_; rintro e w' ⟨rfl, hb⟩; obtain ⟨hc, hf⟩ := bcell hb; (try have hz0 : w.heap.size < w'.heap.size := Nat.lt_of_lt_of_le (by first | assumption | (simp; done) | (simp; omega)) hb.size); (try have hz1 : w.heap.size + 1 < w'.heap.size := Nat.lt_of_lt_of_le (by first | assumption | (simp; done) | (simp; omega)) hb.size); (try have hz2 : w.heap.size + 1 + 1 < w'.heap.size := Nat.lt_of_lt_of_le (by first | assumption | (simp; done) | (simp; omega)) hb.size); have hz := hb.size; (try simp at hz)))
  go_loopw [4] (fun i wr => ∃ k : Nat, k ≤ l.length ∧ i = .int .i64 k ∧ AddRel w wr w.heap.size w'.heap.size (sum (l.take k))) (fun i _ => l.length - (intOf i).toNat)
  case atStart => exact ⟨0, Nat.zero_le _, rfl, AddRel.start hb⟩
  case round =>
    obtain ⟨k, hk, rfl, hR⟩ := hrel
    have hsz := hR.sz
    have rc0 := hR.rc0
    have rc1 := hR.rc1
    have rf0 := hR.rf0
    have rf1 := hR.rf1
    have sc0 := hR.sc0
    have sc1 := hR.sc1
    have sf0 := hR.sf0
    have sf1 := hR.sf1
    by_cases hlt : k < l.length
    · have hvr := hv.below hR.below
      have ec0 := hvr.ok k hlt
      have ec1 := hvr.n k hlt
      have hbr := hvr.lt
      have hst := Lib.hid (sum_take l k hlt)
      have HR := Lib.hid hR
      clear hR hvr
      generalize l[k] = ek at *
      generalize sum (l.take k) = sk at *
      obtain ⟨eo, en⟩ := ek
      obtain ⟨so, sn⟩ := sk
      have hkl : (k : Int) < (l.length : Int) := by omega
      go_wp2_with fail
      refine Qt.wp_region_below_tail_at 6 rfl (by kernel_rfl) (by kernel_rfl) (by kernel_rfl) ?_
      simp only [List.take_succ_cons, List.take_zero]
      obtain ⟨kc, kf⟩ := kgrown wr
      repeat (quiet_step ((go_at_call 39; exact Calls.regrown_of (refPlus_any _ _ _ _ _))))
      refine wpQuiet_nil ?_
      intro _ hw'
      obtain ⟨⟨dq, osq⟩, hw''⟩ := hw'
      subst hw''
      go_wp2_with fail
      go_roundw
      case rel =>
        refine ⟨k + 1, by omega, by go_num, ?_⟩
        rw [hst.out]
        exact AddRel.step HR.out (below_regrown wr dq osq) _ _
      case measure => simp [intOf]; omega
    · obtain rfl : k = l.length := by omega
      have hbb := hR.below
      have hr0 := hR.r0
      rw [List.take_length] at *
      clear hR
      go_wp2
      exact bodyPost_ret (v := (.agg #[.bool (sum l).ok, .int .i64 (sum l).n])) (by simp [results, Try.results24, go_sem, *]) rfl ⟨rfl, (by repeat (first | exact Below.refl _ _ | assumption | refine Below.setCell ?_ (by first | (simp; done) | omega | (simp; omega) | (simp at *; omega)) _ | refine Below.alloc ?_ (by first | (simp; done) | omega | (simp; omega) | (simp at *; omega)) _ | refine Below.drew ?_ | (refine Below.trans ?_ (Below.mono (by assumption) (by first | (simp; done) | omega | (simp; omega) | (simp at *; omega)))) | (refine Below.trans ?_ (Below.mono (below_regrown _ _ _) (by first | (simp; done) | omega | (simp; omega) | (simp at *; omega))))))⟩

set_option maxHeartbeats 1000000 in
theorem refAdd_nil (w : World) :
    Calls Try.prog 24 #[.slice none 0 0] w fun e w' => e = .returned (.agg #[.bool (sum []).ok, .int .i64 (sum []).n]) ∧ Below w.heap.size w w' := by
  have O0 : Hid (∀ W, Calls Try.prog 38 #[.int .i64 0] W fun e w' => e = .returned (.agg #[.bool true, .int .i64 0]) ∧ Below W.heap.size W w') := Lib.hid fun W => refOf_any 0 W
  go_enter Try.func24, Try.ntmps24
  go_wp2_with (go_at_call 38; go_must (refine (O0.out _).mono ?_; rintro e w' ⟨rfl, hb⟩; obtain ⟨hc, hf⟩ := bcell hb; (try have hz0 : w.heap.size < w'.heap.size := Nat.lt_of_lt_of_le (by first | assumption | (simp; done) | (simp; omega)) hb.size); (try have hz1 : w.heap.size + 1 < w'.heap.size := Nat.lt_of_lt_of_le (by first | assumption | (simp; done) | (simp; omega)) hb.size); (try have hz2 : w.heap.size + 1 + 1 < w'.heap.size := Nat.lt_of_lt_of_le (by first | assumption | (simp; done) | (simp; omega)) hb.size); have hz := hb.size; (try simp at hz)))
  go_loopw [4] (fun i wr => i = .int .i64 0 ∧ AddRel w wr w.heap.size w'.heap.size ⟨true, 0⟩) (fun i _ => 0)
  case atStart => exact ⟨rfl, AddRel.start hb⟩
  case round =>
    obtain ⟨rfl, hR⟩ := hrel
    have hsz := hR.sz
    have rc0 := hR.rc0
    have rc1 := hR.rc1
    have rf0 := hR.rf0
    have rf1 := hR.rf1
    have sc0 := hR.sc0
    have sc1 := hR.sc1
    have hbb := hR.below
    clear hR
    go_wp2
    exact bodyPost_ret (v := .agg #[.bool true, .int .i64 0]) (by simp [results, Try.results24, go_sem, *]) rfl ⟨rfl, (by repeat (first | exact Below.refl _ _ | assumption | refine Below.setCell ?_ (by first | (simp; done) | omega | (simp; omega) | (simp at *; omega)) _ | refine Below.alloc ?_ (by first | (simp; done) | omega | (simp; omega) | (simp at *; omega)) _ | refine Below.drew ?_ | (refine Below.trans ?_ (Below.mono (by assumption) (by first | (simp; done) | omega | (simp; omega) | (simp at *; omega)))) | (refine Below.trans ?_ (Below.mono (below_regrown _ _ _) (by first | (simp; done) | omega | (simp; omega) | (simp at *; omega))))))⟩
end Go.Proofs.Ytjaclmhfagdfhaa
