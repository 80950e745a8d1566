/-
  CONTRACTS: values as one: agg's together, Of and Put.
-/
import Derived.Test.YtjaclmhfagdfhaaAgKn
import Derived.Test.YtjaclmhfagdfhaaAgEn
import Derived.Test.YtjaclmhfagdfhaaAgCmp
import Derived.Test.YtjaclmhfagdfhaaFxMul
namespace Go.Proofs.Ytjaclmhfagdfhaa
open Go.RowKit Go.Sort
open Fx (Vl)
open Me

theorem vl_eta (v : Vl) : v = ⟨v.ok, v.n⟩ := rfl

set_option maxHeartbeats 2000000 in
theorem together_some (kind : Int) (l : List Vl) (h0 : 0 < l.length) (hl : l.length ≤ 1000000) (b off cap : Nat) (w : World) (hv : Vals w b off l) :
    Calls Try.prog 23 #[.int .i64 kind, .slice (some ⟨b, off, none⟩) l.length cap] w fun e w' => e = .returned (.agg #[.bool (Ag.tg kind l).ok, .int .i64 (Ag.tg kind l).n]) ∧ Below w.heap.size w w' := by
  have HA : Hid (∀ W, Below w.heap.size w W → Calls Try.prog 33 #[.slice (some ⟨b, off, none⟩) l.length cap] W fun e w' => e = .returned (.agg #[.bool (sum l).ok, .int .i64 (sum l).n]) ∧ Below W.heap.size W w') := Lib.hid fun W hb => add_some l (by omega) b off cap W (hv.below hb)
  have hne : ¬ ((l.length : Int) = 0) := by omega
  by_cases h1 : kind = 1
  · subst h1
    have HI : Hid (∀ W, Calls Try.prog 34 #[.int .i64 (l.length : Int)] W fun e w' => e = .returned (.agg #[.bool (Fx.of ((l.length : Int) * 1000000)).ok, .int .i64 (Fx.of ((l.length : Int) * 1000000)).n]) ∧ Below W.heap.size W w') := Lib.hid fun W => int_any _ W
    have HD : Hid (∀ s d W, Calls Try.prog 32 #[(.agg #[.bool s.ok, .int .i64 s.n]), (.agg #[.bool d.ok, .int .i64 d.n])] W fun e w' => e = .returned (.agg #[.bool (Fx.div s d).ok, .int .i64 (Fx.div s d).n]) ∧ Below W.heap.size W w') := Lib.hid fun s d W => div_any s.ok s.n d.ok d.n W
    replace HD := Lib.hid (HD.out (sum l) (Fx.of ((l.length : Int) * 1000000)))
    rw [Ag.tg_1 h0]
    generalize Fx.div (sum l) (Fx.of ((l.length : Int) * 1000000)) = q at *
    generalize Fx.of ((l.length : Int) * 1000000) = d at *
    generalize sum l = s at *
    obtain ⟨qo, qn⟩ := q
    obtain ⟨do_, dn⟩ := d
    obtain ⟨so, sn⟩ := s
    go_enter Try.func23, Try.ntmps23
    go_wp2_with first | (go_at_call 33; (((with_reducible refine (HA.out _ ((Below.refl _ _).alloc (Nat.le_refl _) _)).mono ?_)); rintro e w1 ⟨rfl, hb1⟩; obtain ⟨hc1, hf1⟩ := bcell hb1; (try have hq1w : w.heap.size < w1.heap.size := Nat.lt_of_lt_of_le (by first | assumption | (simp; done) | (simp; omega)) hb1.size); have hs1 := hb1.size; (try simp at hs1))) | (go_at_call 34; (((with_reducible refine (HI.out _).mono ?_)); rintro e w2 ⟨rfl, hb2⟩; obtain ⟨hc2, hf2⟩ := bcell hb2; (try have hq2w : w.heap.size < w2.heap.size := Nat.lt_of_lt_of_le (by first | assumption | (simp; done) | (simp; omega)) hb2.size); (try have hq2w1 : w1.heap.size < w2.heap.size := Nat.lt_of_lt_of_le (by first | assumption | (simp; done) | (simp; omega)) hb2.size); have hs2 := hb2.size; (try simp at hs2))) | (go_at_call 32; (((with_reducible refine (HD.out _).mono ?_)); rintro e w3 ⟨rfl, hb3⟩; obtain ⟨hc3, hf3⟩ := bcell hb3; (try have hq3w : w.heap.size < w3.heap.size := Nat.lt_of_lt_of_le (by first | assumption | (simp; done) | (simp; omega)) hb3.size); (try have hq3w2 : w2.heap.size < w3.heap.size := Nat.lt_of_lt_of_le (by first | assumption | (simp; done) | (simp; omega)) hb3.size); have hs3 := hb3.size; (try simp at hs3)))
    exact bodyPost_ret (v := .agg #[.bool qo, .int .i64 qn]) (by simp [results, Try.results23, go_sem, *]) rfl ⟨rfl, (by repeat (first | exact Below.refl _ _ | assumption | refine Below.setCell ?_ (by first | (simp; done) | omega | (simp; omega) | (simp at *; omega)) _ | refine Below.alloc ?_ (by first | (simp; done) | omega | (simp; omega) | (simp at *; omega)) _ | refine Below.drew ?_ | (refine Below.trans ?_ (Below.mono (by assumption) (by first | (simp; done) | omega | (simp; omega) | (simp at *; omega)))) | (refine Below.trans ?_ (Below.mono (below_regrown _ _ _) (by first | (simp; done) | omega | (simp; omega) | (simp at *; omega))))))⟩
  by_cases h2 : kind = 2
  · subst h2
    rw [Ag.tg_2 h0]
    generalize sum l = s at *
    obtain ⟨so, sn⟩ := s
    go_enter Try.func23, Try.ntmps23
    go_wp2_with (go_at_call 33; (((with_reducible refine (HA.out _ ((Below.refl _ _).alloc (Nat.le_refl _) _)).mono ?_)); rintro e w1 ⟨rfl, hb1⟩; obtain ⟨hc1, hf1⟩ := bcell hb1; (try have hq1w : w.heap.size < w1.heap.size := Nat.lt_of_lt_of_le (by first | assumption | (simp; done) | (simp; omega)) hb1.size); have hs1 := hb1.size; (try simp at hs1)))
    exact bodyPost_ret (v := .agg #[.bool so, .int .i64 sn]) (by simp [results, Try.results23, go_sem, *]) rfl ⟨rfl, (by repeat (first | exact Below.refl _ _ | assumption | refine Below.setCell ?_ (by first | (simp; done) | omega | (simp; omega) | (simp at *; omega)) _ | refine Below.alloc ?_ (by first | (simp; done) | omega | (simp; omega) | (simp at *; omega)) _ | refine Below.drew ?_ | (refine Below.trans ?_ (Below.mono (by assumption) (by first | (simp; done) | omega | (simp; omega) | (simp at *; omega)))) | (refine Below.trans ?_ (Below.mono (below_regrown _ _ _) (by first | (simp; done) | omega | (simp; omega) | (simp at *; omega))))))⟩
  clear HA
  by_cases h3 : kind = 3
  · subst h3
    rw [Ag.tg_3 h0]
    have x0 := hv.ok (l.length - 1) (by omega)
    have x1 := hv.n (l.length - 1) (by omega)
    have hbr := hv.lt
    generalize l[l.length - 1]'(by omega) = e at *
    obtain ⟨eo, en⟩ := e
    clear hv
    generalize l.length = n at *
    obtain ⟨m, rfl⟩ : ∃ m, n = m + 1 := ⟨n - 1, by omega⟩
    simp only [Nat.add_sub_cancel] at x0 x1
    go_enter Try.func23, Try.ntmps23
    go_wp2_with fail
    exact bodyPost_ret (v := .agg #[.bool eo, .int .i64 en]) (by simp [results, Try.results23, go_sem, *]) rfl ⟨rfl, (by repeat (first | exact Below.refl _ _ | assumption | refine Below.setCell ?_ (by first | (simp; done) | omega | (simp; omega) | (simp at *; omega)) _ | refine Below.alloc ?_ (by first | (simp; done) | omega | (simp; omega) | (simp at *; omega)) _ | refine Below.drew ?_ | (refine Below.trans ?_ (Below.mono (by assumption) (by first | (simp; done) | omega | (simp; omega) | (simp at *; omega)))) | (refine Below.trans ?_ (Below.mono (below_regrown _ _ _) (by first | (simp; done) | omega | (simp; omega) | (simp at *; omega))))))⟩
  by_cases h4 : kind = 4
  · subst h4
    have HM : Hid (∀ W, Below w.heap.size w W → Calls Try.prog 35 #[.slice (some ⟨b, off, none⟩) l.length cap, .func (.func 36) #[] #[]] W fun e w' => e = .returned (.agg #[.bool (Ag.mx l).ok, .int .i64 (Ag.mx l).n]) ∧ Below W.heap.size W w') := Lib.hid fun W hb => maxFunc_some l h0 (by omega) b off cap W (hv.below hb)
    rw [Ag.tg_4 h0]
    generalize Ag.mx l = s at *
    obtain ⟨so, sn⟩ := s
    go_enter Try.func23, Try.ntmps23
    go_wp2_with (go_at_call 35; (((with_reducible refine (HM.out _ ((Below.refl _ _).alloc (Nat.le_refl _) _)).mono ?_)); rintro e w1 ⟨rfl, hb1⟩; obtain ⟨hc1, hf1⟩ := bcell hb1; (try have hq1w : w.heap.size < w1.heap.size := Nat.lt_of_lt_of_le (by first | assumption | (simp; done) | (simp; omega)) hb1.size); have hs1 := hb1.size; (try simp at hs1)))
    exact bodyPost_ret (v := .agg #[.bool so, .int .i64 sn]) (by simp [results, Try.results23, go_sem, *]) rfl ⟨rfl, (by repeat (first | exact Below.refl _ _ | assumption | refine Below.setCell ?_ (by first | (simp; done) | omega | (simp; omega) | (simp at *; omega)) _ | refine Below.alloc ?_ (by first | (simp; done) | omega | (simp; omega) | (simp at *; omega)) _ | refine Below.drew ?_ | (refine Below.trans ?_ (Below.mono (by assumption) (by first | (simp; done) | omega | (simp; omega) | (simp at *; omega)))) | (refine Below.trans ?_ (Below.mono (below_regrown _ _ _) (by first | (simp; done) | omega | (simp; omega) | (simp at *; omega))))))⟩
  by_cases h5 : kind = 5
  · subst h5
    have HM : Hid (∀ W, Below w.heap.size w W → Calls Try.prog 37 #[.slice (some ⟨b, off, none⟩) l.length cap, .func (.func 36) #[] #[]] W fun e w' => e = .returned (.agg #[.bool (Ag.mn l).ok, .int .i64 (Ag.mn l).n]) ∧ Below W.heap.size W w') := Lib.hid fun W hb => minFunc_some l h0 (by omega) b off cap W (hv.below hb)
    rw [Ag.tg_5 h0]
    generalize Ag.mn l = s at *
    obtain ⟨so, sn⟩ := s
    go_enter Try.func23, Try.ntmps23
    go_wp2_with (go_at_call 37; (((with_reducible refine (HM.out _ ((Below.refl _ _).alloc (Nat.le_refl _) _)).mono ?_)); rintro e w1 ⟨rfl, hb1⟩; obtain ⟨hc1, hf1⟩ := bcell hb1; (try have hq1w : w.heap.size < w1.heap.size := Nat.lt_of_lt_of_le (by first | assumption | (simp; done) | (simp; omega)) hb1.size); have hs1 := hb1.size; (try simp at hs1)))
    exact bodyPost_ret (v := .agg #[.bool so, .int .i64 sn]) (by simp [results, Try.results23, go_sem, *]) rfl ⟨rfl, (by repeat (first | exact Below.refl _ _ | assumption | refine Below.setCell ?_ (by first | (simp; done) | omega | (simp; omega) | (simp at *; omega)) _ | refine Below.alloc ?_ (by first | (simp; done) | omega | (simp; omega) | (simp at *; omega)) _ | refine Below.drew ?_ | (refine Below.trans ?_ (Below.mono (by assumption) (by first | (simp; done) | omega | (simp; omega) | (simp at *; omega)))) | (refine Below.trans ?_ (Below.mono (below_regrown _ _ _) (by first | (simp; done) | omega | (simp; omega) | (simp at *; omega))))))⟩
  rw [Ag.tg_no h1 h2 h3 h4 h5]
  clear hv
  go_enter Try.func23, Try.ntmps23
  go_wp2_with fail
  exact bodyPost_ret (v := .agg #[.bool false, .int .i64 0]) (by simp [results, Try.results23, go_sem, *]) rfl ⟨rfl, (by repeat (first | exact Below.refl _ _ | assumption | refine Below.setCell ?_ (by first | (simp; done) | omega | (simp; omega) | (simp at *; omega)) _ | refine Below.alloc ?_ (by first | (simp; done) | omega | (simp; omega) | (simp at *; omega)) _ | refine Below.drew ?_ | (refine Below.trans ?_ (Below.mono (by assumption) (by first | (simp; done) | omega | (simp; omega) | (simp at *; omega)))) | (refine Below.trans ?_ (Below.mono (below_regrown _ _ _) (by first | (simp; done) | omega | (simp; omega) | (simp at *; omega))))))⟩

set_option maxHeartbeats 1000000 in
theorem together_zero (kind : Int) (x : Option Addr) (cap : Nat) (w : World) :
    Calls Try.prog 23 #[.int .i64 kind, .slice x 0 cap] w fun e w' => e = .returned (.agg #[.bool (Ag.tg kind []).ok, .int .i64 (Ag.tg kind []).n]) ∧ Below w.heap.size w w' := by
  rw [Ag.tg_nil]
  go_enter Try.func23, Try.ntmps23
  go_wp2_with fail
  exact bodyPost_ret (v := .agg #[.bool false, .int .i64 0]) (by simp [results, Try.results23, go_sem, *]) rfl ⟨rfl, (by repeat (first | exact Below.refl _ _ | assumption | refine Below.setCell ?_ (by first | (simp; done) | omega | (simp; omega) | (simp at *; omega)) _ | refine Below.alloc ?_ (by first | (simp; done) | omega | (simp; omega) | (simp at *; omega)) _ | refine Below.drew ?_ | (refine Below.trans ?_ (Below.mono (by assumption) (by first | (simp; done) | omega | (simp; omega) | (simp at *; omega)))) | (refine Below.trans ?_ (Below.mono (below_regrown _ _ _) (by first | (simp; done) | omega | (simp; omega) | (simp at *; omega))))))⟩
theorem together_v (kind : Int) (l : List Vl) (hl : l.length ≤ 1000000) (v : Value) (w : World) (hv : Sl w v l) :
    Calls Try.prog 23 #[.int .i64 kind, v] w fun e w' => e = .returned (.agg #[.bool (Ag.tg kind l).ok, .int .i64 (Ag.tg kind l).n]) ∧ Below w.heap.size w w' := by
  rcases hv with ⟨rfl, x, cap, rfl⟩ | ⟨h0, b, off, cap, rfl, hv⟩
  · exact together_zero kind x cap w
  · exact together_some kind l h0 hl b off cap w hv

set_option maxHeartbeats 1000000 in
theorem of_v (kind : Int) (l : List Vl) (hl : l.length ≤ 1000000) (v : Value) (w : World) (hv : Sl w v l) :
    Calls Try.prog 8 #[.int .i64 kind, v] w fun e w' => e = .returned (.agg #[.bool (Ag.tg kind (Ag.kn l)).ok, .int .i64 (Ag.tg kind (Ag.kn l)).n]) ∧ Below w.heap.size w w' := by
  have HK : Hid (∀ W, Below w.heap.size w W → Calls Try.prog 11 #[v] W (Knew W (Ag.kn l))) := Lib.hid fun W hb => known_v l hl v W (hv.below hb)
  have hkl : (Ag.kn l).length ≤ 1000000 := Nat.le_trans (Ag.kn_len l) hl
  have HT : Hid (∀ u W, Sl W u (Ag.kn l) → Calls Try.prog 23 #[.int .i64 kind, u] W fun e w' => e = .returned (.agg #[.bool (Ag.tg kind (Ag.kn l)).ok, .int .i64 (Ag.tg kind (Ag.kn l)).n]) ∧ Below W.heap.size W w') := Lib.hid fun u W h => together_v kind _ hkl u W h
  obtain ⟨A, c, rfl⟩ := hv.form
  clear hv
  generalize Ag.tg kind (Ag.kn l) = q at *
  generalize Ag.kn l = m at *
  obtain ⟨qo, qn⟩ := q
  go_enter Try.func8, Try.ntmps8
  go_wp2_with first
    | (go_at_call 11; go_must (refine (HK.out _ (by repeat (first | exact Below.refl _ _ | assumption | refine Below.setCell ?_ (by first | (simp; done) | omega | (simp; omega) | (simp at *; omega)) _ | refine Below.alloc ?_ (by first | (simp; done) | omega | (simp; omega) | (simp at *; omega)) _ | refine Below.drew ?_ | (refine Below.trans ?_ (Below.mono (by assumption) (by first | (simp; done) | omega | (simp; omega) | (simp at *; omega)))) | (refine Below.trans ?_ (Below.mono (below_regrown _ _ _) (by first | (simp; done) | omega | (simp; omega) | (simp at *; omega))))))).mono ?_; rintro e w1 ⟨v1, rfl, ho1, hb1⟩; obtain ⟨hc1, hf1⟩ := bcell hb1; have hq1w : w.heap.size < w1.heap.size := Nat.lt_of_lt_of_le (by simp) hb1.size; obtain ⟨A1, c1, rfl⟩ := ho1.slice; have HS1 := Lib.hid ho1.sl; clear ho1))
    | (go_at_call 23; (((with_reducible refine (HT.out _ _ HS1.out).mono ?_)); rintro e w2 ⟨rfl, hb2⟩; obtain ⟨hc2, hf2⟩ := bcell hb2; (try have hq2w : w.heap.size < w2.heap.size := Nat.lt_of_lt_of_le (by first | assumption | (simp; done) | (simp; omega)) hb2.size); (try have hq2w1 : w1.heap.size < w2.heap.size := Nat.lt_of_lt_of_le (by first | assumption | (simp; done) | (simp; omega)) hb2.size); have hs2 := hb2.size; (try simp at hs2)))
  exact bodyPost_ret (v := .agg #[.bool qo, .int .i64 qn]) (by simp [results, Try.results8, go_sem, *]) rfl ⟨rfl, (by repeat (first | exact Below.refl _ _ | assumption | refine Below.setCell ?_ (by first | (simp; done) | omega | (simp; omega) | (simp at *; omega)) _ | refine Below.alloc ?_ (by first | (simp; done) | omega | (simp; omega) | (simp at *; omega)) _ | refine Below.drew ?_ | (refine Below.trans ?_ (Below.mono (by assumption) (by first | (simp; done) | omega | (simp; omega) | (simp at *; omega)))) | (refine Below.trans ?_ (Below.mono (below_regrown _ _ _) (by first | (simp; done) | omega | (simp; omega) | (simp at *; omega))))))⟩

set_option maxHeartbeats 1000000 in
theorem put_v (kind xff : Int) (l : List Vl) (hl : l.length ≤ 1000000) (v : Value) (w : World) (hv : Sl w v l) :
    Calls Try.prog 14 #[.int .i64 kind, .int .i64 xff, v] w fun e w' => e = .returned (.agg #[.bool (Ag.put kind xff l).ok, .int .i64 (Ag.put kind xff l).n]) ∧ Below w.heap.size w w' := by
  have HK : Hid (∀ W, Below w.heap.size w W → Calls Try.prog 11 #[v] W (Knew W (Ag.kn l))) := Lib.hid fun W hb => known_v l hl v W (hv.below hb)
  have hkl : (Ag.kn l).length ≤ 1000000 := Nat.le_trans (Ag.kn_len l) hl
  have HT : Hid (∀ u W, Sl W u (Ag.kn l) → Calls Try.prog 23 #[.int .i64 kind, u] W fun e w' => e = .returned (.agg #[.bool (Ag.tg kind (Ag.kn l)).ok, .int .i64 (Ag.tg kind (Ag.kn l)).n]) ∧ Below W.heap.size W w') := Lib.hid fun u W h => together_v kind _ hkl u W h
  have HE : Hid (∀ W, Calls Try.prog 16 #[.int .i64 xff, .int .i64 ((Ag.kn l).length : Int), .int .i64 (l.length : Int)] W fun e w' => e = .returned (.bool (Ag.en xff ((Ag.kn l).length : Int) (l.length : Int))) ∧ W = w') := Lib.hid fun W => enough_any _ _ _ W
  have HQ : Hid (Ag.put kind xff l = if Ag.en xff ((Ag.kn l).length : Int) (l.length : Int) = true then Ag.tg kind (Ag.kn l) else Fx.none) := Lib.hid rfl
  obtain ⟨A, c, rfl⟩ := hv.form
  clear hv
  generalize Ag.en xff ((Ag.kn l).length : Int) (l.length : Int) = en at *
  generalize Ag.put kind xff l = p at *
  generalize Ag.tg kind (Ag.kn l) = q at *
  generalize Ag.kn l = m at *
  obtain ⟨qo, qn⟩ := q
  cases en
  · obtain rfl : p = Fx.none := HQ.out
    go_enter Try.func14, Try.ntmps14
    go_wp2_with first
      | (go_at_call 11; go_must (refine (HK.out _ (by repeat (first | exact Below.refl _ _ | assumption | refine Below.setCell ?_ (by first | (simp; done) | omega | (simp; omega) | (simp at *; omega)) _ | refine Below.alloc ?_ (by first | (simp; done) | omega | (simp; omega) | (simp at *; omega)) _ | refine Below.drew ?_ | (refine Below.trans ?_ (Below.mono (by assumption) (by first | (simp; done) | omega | (simp; omega) | (simp at *; omega)))) | (refine Below.trans ?_ (Below.mono (below_regrown _ _ _) (by first | (simp; done) | omega | (simp; omega) | (simp at *; omega))))))).mono ?_; rintro e w1 ⟨v1, rfl, ho1, hb1⟩; obtain ⟨hc1, hf1⟩ := bcell hb1; have hq1w : w.heap.size < w1.heap.size := Nat.lt_of_lt_of_le (by simp) hb1.size; obtain ⟨A1, c1, rfl⟩ := ho1.slice; have HS1 := Lib.hid ho1.sl; clear ho1))
      | (go_at_call 16; go_must (refine (HE.out _).mono ?_; rintro e w' ⟨rfl, rfl⟩))
    exact bodyPost_ret (v := .agg #[.bool false, .int .i64 0]) (by simp [results, Try.results14, go_sem, *]) rfl ⟨rfl, (by repeat (first | exact Below.refl _ _ | assumption | refine Below.setCell ?_ (by first | (simp; done) | omega | (simp; omega) | (simp at *; omega)) _ | refine Below.alloc ?_ (by first | (simp; done) | omega | (simp; omega) | (simp at *; omega)) _ | refine Below.drew ?_ | (refine Below.trans ?_ (Below.mono (by assumption) (by first | (simp; done) | omega | (simp; omega) | (simp at *; omega)))) | (refine Below.trans ?_ (Below.mono (below_regrown _ _ _) (by first | (simp; done) | omega | (simp; omega) | (simp at *; omega))))))⟩
  · obtain rfl : p = ⟨qo, qn⟩ := HQ.out
    go_enter Try.func14, Try.ntmps14
    go_wp2_with first
      | (go_at_call 11; go_must (refine (HK.out _ (by repeat (first | exact Below.refl _ _ | assumption | refine Below.setCell ?_ (by first | (simp; done) | omega | (simp; omega) | (simp at *; omega)) _ | refine Below.alloc ?_ (by first | (simp; done) | omega | (simp; omega) | (simp at *; omega)) _ | refine Below.drew ?_ | (refine Below.trans ?_ (Below.mono (by assumption) (by first | (simp; done) | omega | (simp; omega) | (simp at *; omega)))) | (refine Below.trans ?_ (Below.mono (below_regrown _ _ _) (by first | (simp; done) | omega | (simp; omega) | (simp at *; omega))))))).mono ?_; rintro e w1 ⟨v1, rfl, ho1, hb1⟩; obtain ⟨hc1, hf1⟩ := bcell hb1; have hq1w : w.heap.size < w1.heap.size := Nat.lt_of_lt_of_le (by simp) hb1.size; obtain ⟨A1, c1, rfl⟩ := ho1.slice; have HS1 := Lib.hid ho1.sl; clear ho1))
      | (go_at_call 16; go_must (refine (HE.out _).mono ?_; rintro e w' ⟨rfl, rfl⟩))
      | (go_at_call 23; (((with_reducible refine (HT.out _ _ HS1.out).mono ?_)); rintro e w2 ⟨rfl, hb2⟩; obtain ⟨hc2, hf2⟩ := bcell hb2; (try have hq2w : w.heap.size < w2.heap.size := Nat.lt_of_lt_of_le (by first | assumption | (simp; done) | (simp; omega)) hb2.size); (try have hq2w1 : w1.heap.size < w2.heap.size := Nat.lt_of_lt_of_le (by first | assumption | (simp; done) | (simp; omega)) hb2.size); have hs2 := hb2.size; (try simp at hs2)))
    exact bodyPost_ret (v := .agg #[.bool qo, .int .i64 qn]) (by simp [results, Try.results14, go_sem, *]) rfl ⟨rfl, (by repeat (first | exact Below.refl _ _ | assumption | refine Below.setCell ?_ (by first | (simp; done) | omega | (simp; omega) | (simp at *; omega)) _ | refine Below.alloc ?_ (by first | (simp; done) | omega | (simp; omega) | (simp at *; omega)) _ | refine Below.drew ?_ | (refine Below.trans ?_ (Below.mono (by assumption) (by first | (simp; done) | omega | (simp; omega) | (simp at *; omega)))) | (refine Below.trans ?_ (Below.mono (below_regrown _ _ _) (by first | (simp; done) | omega | (simp; omega) | (simp at *; omega))))))⟩
end Go.Proofs.Ytjaclmhfagdfhaa
