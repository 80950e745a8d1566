/-
  DcRPaPlus: CONTRACTS: the document's own Parse, where the sign is: plus.
-/
import Derived.Test.YtojmcndiooiehaaGreatDoorJ28
import Derived.RegionTactic
import Derived.ChangeAlike

set_option linter.unusedSimpArgs false
set_option linter.unusedVariables false
namespace Go.Proofs.YtojmcndiooiehaaGreatDoor
set_option maxRecDepth 20000
open Go.RowKit

set_option maxHeartbeats 4000000 in
theorem refParse_plus_true (s a b : List UInt8) (p : Nat) (da db okw : Bool) (N f : Int) (hl : s.length ≤ 4294967280)
    (hna : Hid (∀ k (_ : k < p) (h : k < s.length), s[k] ≠ 46))
    (hps : p < s.length) (hat : Hid (s[p] = 46)) (hxa : Hid (s.take p = a)) (hxb : Hid (s.drop (p + 1) = b))
    (HA : Hid (∀ W, Calls Tryz.prog 69 #[.string ⟨a.toArray⟩] W fun e w' => e = .returned (.bool da) ∧ W = w'))
    (HB : Hid (∀ W, Calls Tryz.prog 69 #[.string ⟨b.toArray⟩] W fun e w' => e = .returned (.bool db) ∧ W = w'))
    (HS : Hid (∀ W, Calls Tryz.prog 71 #[.string ⟨a.toArray⟩] W fun e w' => e = .returned (.string ⟨(Dc.strip a).toArray⟩) ∧ W = w'))
    (HW : Hid (∀ W, Calls Tryz.prog 70 #[.string ⟨(Dc.strip a).toArray⟩] W fun e w' => e = .returned (.tuple #[.int .i64 N, .bool okw]) ∧ W = w'))
    (HF : Hid (db = true → ∀ W, Calls Tryz.prog 73 #[.string ⟨b.toArray⟩] W fun e w' => e = .returned (.int .i64 f) ∧ W = w'))
    (n0 : 0 ≤ N) (f0 : 0 ≤ f) (f1 : f ≤ 1000000) (w : World) :
    Calls Tryz.prog 47 #[.string ⟨(43 :: s).toArray⟩] w fun e w' => e = .returned (.tuple #[.agg #[.bool (Dc.rpOk true da db okw N f), .int .i64 (Dc.rpV false true da db okw N f)], .bool (Dc.rpOk true da db okw N f)]) ∧ Below w.heap.size w w' := by
  have hsg1 : ((((⟨(43 :: s).toArray⟩ : ByteArray)[0]'(by simp [ByteArray.size])).toNat : Int) == 45) = false := rfl
  have hsg2 : ((((⟨(43 :: s).toArray⟩ : ByteArray)[0]'(by simp [ByteArray.size])).toNat : Int) == 43) = true := rfl
  have htl : (⟨(43 :: s).toArray⟩ : ByteArray).extract 1 (s.length + 1) = ⟨s.toArray⟩ := tail_mk 43 s
  go_enter Tryz.func47, Tryz.ntmps47
  go_wp2_with fail
  go_loop [5, 6, 7, 8] (fun x y z i => ∃ k : Nat, k ≤ p ∧ k ≤ s.length ∧ i = .int .i64 k ∧ x = .string ⟨s.toArray⟩ ∧ y = .string ⟨[].toArray⟩ ∧ z = .bool false) (fun _ _ _ i => s.length - (intOf i).toNat)
  case atStart => exact ⟨0, Nat.zero_le _, Nat.zero_le _, rfl, rfl, rfl, rfl⟩
  case round =>
    obtain ⟨k, hkp, hk, rfl, rfl, rfl, rfl⟩ := hrel
    by_cases hlt : k < p
    · have hls : k < s.length := by omega
      have hd : (((⟨s.toArray⟩ : ByteArray)[k]'hls).toNat == 46) = false := by
        show (s[k].toNat == 46) = false
        simp
        intro h
        exact hna.out k hlt hls (UInt8.toNat_inj.1 h)
      go_wp2
      go_round
      case rel => exact ⟨k + 1, by omega, by omega, by go_num, rfl, rfl, rfl⟩
      case measure => simp [intOf]; omega
    · obtain rfl : k = p := by omega
      have hat2 : (((⟨s.toArray⟩ : ByteArray)[k]'hps).toNat == 46) = true := by
        show (s[k].toNat == 46) = true
        rw [hat.out]; rfl
      have k0 : (0 : Int) ≤ (k : Int) := by omega
      have hw : IntKind.i64.wrap ((k : Int) + 1) = (k : Int) + 1 := IntWalk.i64_in _ (by omega)
      have hn : ((k : Int) + 1).toNat = k + 1 := by omega
      have hx1 : (⟨s.toArray⟩ : ByteArray).extract 0 k = ⟨a.toArray⟩ := by rw [ext_mk, ← hxa.out]; rfl
      have hx2 : (⟨s.toArray⟩ : ByteArray).extract (k + 1) s.length = ⟨b.toArray⟩ := by rw [ext_from _ _ _ (Nat.le_refl _), hxb.out]
      cases da
      · have HR : Hid (Dc.rpOk true false db okw N f = false ∧ Dc.rpV false true false db okw N f = 0) := Lib.hid (Dc.rp_no rfl)
        go_wp2
        go_quiet (fail)
        go_wp2_with (first | (go_at_call 69; ((with_reducible refine (HA.out _).mono ?_); rintro e w' ⟨rfl, rfl⟩)))
        exact bodyPost_ret (v := .tuple #[.agg #[.bool false, .int .i64 0], .bool false]) (by simp [results, Tryz.results47, go_sem, *]) rfl ⟨by rw [HR.out.1, HR.out.2], (by repeat (first | exact Below.refl _ _ | assumption | refine Below.setCell ?_ (by first | (simp; done) | omega | (simp; omega) | (simp at *; omega)) _ | refine Below.alloc ?_ (by first | (simp; done) | omega | (simp; omega) | (simp at *; omega)) _ | refine Below.drew ?_ | refine below_drewN ?_ _ | (refine Below.trans ?_ (Below.mono (by assumption) (by first | (simp; done) | omega | (simp; omega) | (simp at *; omega)))) | (refine Below.trans ?_ (Below.mono (below_regrown _ _ _) (by first | (simp; done) | omega | (simp; omega) | (simp at *; omega))))))⟩
      · cases db
        · have HR : Hid (Dc.rpOk true true false okw N f = false ∧ Dc.rpV false true true false okw N f = 0) := Lib.hid (Dc.rp_no rfl)
          go_wp2
          go_quiet (fail)
          go_wp2_with (first | (go_at_call 69; ((with_reducible refine (HA.out _).mono ?_); rintro e w' ⟨rfl, rfl⟩)) | (go_at_call 69; ((with_reducible refine (HB.out _).mono ?_); rintro e w' ⟨rfl, rfl⟩)))
          exact bodyPost_ret (v := .tuple #[.agg #[.bool false, .int .i64 0], .bool false]) (by simp [results, Tryz.results47, go_sem, *]) rfl ⟨by rw [HR.out.1, HR.out.2], (by repeat (first | exact Below.refl _ _ | assumption | refine Below.setCell ?_ (by first | (simp; done) | omega | (simp; omega) | (simp at *; omega)) _ | refine Below.alloc ?_ (by first | (simp; done) | omega | (simp; omega) | (simp at *; omega)) _ | refine Below.drew ?_ | refine below_drewN ?_ _ | (refine Below.trans ?_ (Below.mono (by assumption) (by first | (simp; done) | omega | (simp; omega) | (simp at *; omega)))) | (refine Below.trans ?_ (Below.mono (below_regrown _ _ _) (by first | (simp; done) | omega | (simp; omega) | (simp at *; omega))))))⟩
        · have HF2 := Lib.hid (HF.out rfl)
          clear HF
          cases okw
          · have HR : Hid (Dc.rpOk true true true false N f = false ∧ Dc.rpV false true true true false N f = 0) := Lib.hid (Dc.rp_no rfl)
            go_wp2
            go_quiet (fail)
            go_wp2_with (first | (go_at_call 69; ((with_reducible refine (HA.out _).mono ?_); rintro e w' ⟨rfl, rfl⟩)) | (go_at_call 69; ((with_reducible refine (HB.out _).mono ?_); rintro e w' ⟨rfl, rfl⟩)) | (go_at_call 71; ((with_reducible refine (HS.out _).mono ?_); rintro e w' ⟨rfl, rfl⟩)) | (go_at_call 70; ((with_reducible refine (HW.out _).mono ?_); rintro e w' ⟨rfl, rfl⟩)))
            exact bodyPost_ret (v := .tuple #[.agg #[.bool false, .int .i64 0], .bool false]) (by simp [results, Tryz.results47, go_sem, *]) rfl ⟨by rw [HR.out.1, HR.out.2], (by repeat (first | exact Below.refl _ _ | assumption | refine Below.setCell ?_ (by first | (simp; done) | omega | (simp; omega) | (simp at *; omega)) _ | refine Below.alloc ?_ (by first | (simp; done) | omega | (simp; omega) | (simp at *; omega)) _ | refine Below.drew ?_ | refine below_drewN ?_ _ | (refine Below.trans ?_ (Below.mono (by assumption) (by first | (simp; done) | omega | (simp; omega) | (simp at *; omega)))) | (refine Below.trans ?_ (Below.mono (below_regrown _ _ _) (by first | (simp; done) | omega | (simp; omega) | (simp at *; omega))))))⟩
          · by_cases hN : 4611686018427 < N
            · have HR : Hid (Dc.rpOk true true true true N f = false ∧ Dc.rpV false true true true true N f = 0) := Lib.hid (Dc.rp_long hN)
              go_wp2
              go_quiet (fail)
              go_wp2_with (first | (go_at_call 69; ((with_reducible refine (HA.out _).mono ?_); rintro e w' ⟨rfl, rfl⟩)) | (go_at_call 69; ((with_reducible refine (HB.out _).mono ?_); rintro e w' ⟨rfl, rfl⟩)) | (go_at_call 71; ((with_reducible refine (HS.out _).mono ?_); rintro e w' ⟨rfl, rfl⟩)) | (go_at_call 70; ((with_reducible refine (HW.out _).mono ?_); rintro e w' ⟨rfl, rfl⟩)))
              exact bodyPost_ret (v := .tuple #[.agg #[.bool false, .int .i64 0], .bool false]) (by simp [results, Tryz.results47, go_sem, *]) rfl ⟨by rw [HR.out.1, HR.out.2], (by repeat (first | exact Below.refl _ _ | assumption | refine Below.setCell ?_ (by first | (simp; done) | omega | (simp; omega) | (simp at *; omega)) _ | refine Below.alloc ?_ (by first | (simp; done) | omega | (simp; omega) | (simp at *; omega)) _ | refine Below.drew ?_ | refine below_drewN ?_ _ | (refine Below.trans ?_ (Below.mono (by assumption) (by first | (simp; done) | omega | (simp; omega) | (simp at *; omega)))) | (refine Below.trans ?_ (Below.mono (below_regrown _ _ _) (by first | (simp; done) | omega | (simp; omega) | (simp at *; omega))))))⟩
            · have hN' : N ≤ 4611686018427 := by omega
              by_cases hM : 4611686018427387904 < N * 1000000 + f
              · have HR : Hid (Dc.rpOk true true true true N f = false ∧ Dc.rpV false true true true true N f = 0) := Lib.hid (Dc.rp_much hM)
                have HO : Hid (∀ W, Calls Tryz.prog 72 #[.int .i64 (N * 1000000 + f)] W fun e w' => e = .returned (.agg #[.bool false, .int .i64 0]) ∧ Below W.heap.size W w') := by
                  apply Lib.hid; intro W
                  have := refOf_any (N * 1000000 + f) W
                  rw [Fx.of_no (Fx.inR_high hM)] at this
                  exact this
                go_wp2
                go_quiet (fail)
                go_wp2_with (first | (go_at_call 69; ((with_reducible refine (HA.out _).mono ?_); rintro e w' ⟨rfl, rfl⟩)) | (go_at_call 69; ((with_reducible refine (HB.out _).mono ?_); rintro e w' ⟨rfl, rfl⟩)) | (go_at_call 71; ((with_reducible refine (HS.out _).mono ?_); rintro e w' ⟨rfl, rfl⟩)) | (go_at_call 70; ((with_reducible refine (HW.out _).mono ?_); rintro e w' ⟨rfl, rfl⟩)) | (go_at_call 73; ((with_reducible refine (HF2.out _).mono ?_); rintro e w' ⟨rfl, rfl⟩)) | (go_at_call 72; (((with_reducible refine (HO.out _).mono ?_)); rintro e w1 ⟨rfl, hb1⟩; obtain ⟨hc1, hf1⟩ := bcell hb1; have hy0 : w.heap.size < w1.heap.size := Nat.lt_of_lt_of_le (by first | assumption | (simp; done) | (simp; omega)) hb1.size)))
                have c11 : (w1.alloc (.cells #[.bool false, .int .i64 (0)] 83)).cell? ⟨w1.heap.size, 0, none⟩ = some (.bool false) := by go_simp
                have c11' : (w1.alloc (.cells #[.bool false, .int .i64 (0)] 83)).cell? ⟨w1.heap.size, 1, none⟩ = some (.int .i64 (0)) := by go_simp
                have c2 : (w1.alloc (.cells #[.bool false, .int .i64 (0)] 83)).cell? ⟨w.heap.size, 0, none⟩ = some (.bool false) := by go_simp
                have c2' : (w1.alloc (.cells #[.bool false, .int .i64 (0)] 83)).cell? ⟨w.heap.size, 1, none⟩ = some (.int .i64 0) := by go_simp
                have f2 : (w1.alloc (.cells #[.bool false, .int .i64 (0)] 83)).frozen? ⟨w.heap.size, 0, none⟩ = false := by go_simp
                have f2' : (w1.alloc (.cells #[.bool false, .int .i64 (0)] 83)).frozen? ⟨w.heap.size, 1, none⟩ = false := by go_simp
                have hBW : Below w.heap.size w (w1.alloc (.cells #[.bool false, .int .i64 (0)] 83)) := (by repeat (first | exact Below.refl _ _ | assumption | refine Below.setCell ?_ (by first | (simp; done) | omega | (simp; omega) | (simp at *; omega)) _ | refine Below.alloc ?_ (by first | (simp; done) | omega | (simp; omega) | (simp at *; omega)) _ | refine Below.drew ?_ | refine below_drewN ?_ _ | (refine Below.trans ?_ (Below.mono (by assumption) (by first | (simp; done) | omega | (simp; omega) | (simp at *; omega)))) | (refine Below.trans ?_ (Below.mono (below_regrown _ _ _) (by first | (simp; done) | omega | (simp; omega) | (simp at *; omega))))))
                have hne : Hid (w.heap.size < w1.heap.size) := Lib.hid hy0
                generalize w1.alloc (.cells #[.bool false, .int .i64 (0)] 83) = W at *
                generalize hg : w1.heap.size = g11 at *
                clear hg hc1 hf1 hb1 hy0
                have hne' : ¬ w.heap.size = g11 := by have := hne.out; omega
                go_region
                go_wp2
                exact bodyPost_ret (v := .tuple #[.agg #[.bool false, .int .i64 (0)], .bool false]) (by simp [results, Tryz.results47, go_sem, *]) rfl ⟨by rw [HR.out.1, HR.out.2], below_two hBW _ (Nat.le_refl _) _ _⟩
              · have HR : Hid (Dc.rpOk true true true true N f = true ∧ Dc.rpV false true true true true N f = N * 1000000 + f) := Lib.hid (Dc.rp_yes rfl hN' (by omega))
                have HO : Hid (∀ W, Calls Tryz.prog 72 #[.int .i64 (N * 1000000 + f)] W fun e w' => e = .returned (.agg #[.bool true, .int .i64 (N * 1000000 + f)]) ∧ Below W.heap.size W w') := by
                  apply Lib.hid; intro W
                  have := refOf_any (N * 1000000 + f) W
                  rw [Fx.of_yes (Fx.inR_yes (by omega) (by omega))] at this
                  exact this
                go_wp2
                go_quiet (fail)
                go_wp2_with (first | (go_at_call 69; ((with_reducible refine (HA.out _).mono ?_); rintro e w' ⟨rfl, rfl⟩)) | (go_at_call 69; ((with_reducible refine (HB.out _).mono ?_); rintro e w' ⟨rfl, rfl⟩)) | (go_at_call 71; ((with_reducible refine (HS.out _).mono ?_); rintro e w' ⟨rfl, rfl⟩)) | (go_at_call 70; ((with_reducible refine (HW.out _).mono ?_); rintro e w' ⟨rfl, rfl⟩)) | (go_at_call 73; ((with_reducible refine (HF2.out _).mono ?_); rintro e w' ⟨rfl, rfl⟩)) | (go_at_call 72; (((with_reducible refine (HO.out _).mono ?_)); rintro e w1 ⟨rfl, hb1⟩; obtain ⟨hc1, hf1⟩ := bcell hb1; have hy0 : w.heap.size < w1.heap.size := Nat.lt_of_lt_of_le (by first | assumption | (simp; done) | (simp; omega)) hb1.size)))
                have c11 : (w1.alloc (.cells #[.bool true, .int .i64 (N * 1000000 + f)] 83)).cell? ⟨w1.heap.size, 0, none⟩ = some (.bool true) := by go_simp
                have c11' : (w1.alloc (.cells #[.bool true, .int .i64 (N * 1000000 + f)] 83)).cell? ⟨w1.heap.size, 1, none⟩ = some (.int .i64 (N * 1000000 + f)) := by go_simp
                have c2 : (w1.alloc (.cells #[.bool true, .int .i64 (N * 1000000 + f)] 83)).cell? ⟨w.heap.size, 0, none⟩ = some (.bool false) := by go_simp
                have c2' : (w1.alloc (.cells #[.bool true, .int .i64 (N * 1000000 + f)] 83)).cell? ⟨w.heap.size, 1, none⟩ = some (.int .i64 0) := by go_simp
                have f2 : (w1.alloc (.cells #[.bool true, .int .i64 (N * 1000000 + f)] 83)).frozen? ⟨w.heap.size, 0, none⟩ = false := by go_simp
                have f2' : (w1.alloc (.cells #[.bool true, .int .i64 (N * 1000000 + f)] 83)).frozen? ⟨w.heap.size, 1, none⟩ = false := by go_simp
                have hBW : Below w.heap.size w (w1.alloc (.cells #[.bool true, .int .i64 (N * 1000000 + f)] 83)) := (by repeat (first | exact Below.refl _ _ | assumption | refine Below.setCell ?_ (by first | (simp; done) | omega | (simp; omega) | (simp at *; omega)) _ | refine Below.alloc ?_ (by first | (simp; done) | omega | (simp; omega) | (simp at *; omega)) _ | refine Below.drew ?_ | refine below_drewN ?_ _ | (refine Below.trans ?_ (Below.mono (by assumption) (by first | (simp; done) | omega | (simp; omega) | (simp at *; omega)))) | (refine Below.trans ?_ (Below.mono (below_regrown _ _ _) (by first | (simp; done) | omega | (simp; omega) | (simp at *; omega))))))
                have hne : Hid (w.heap.size < w1.heap.size) := Lib.hid hy0
                generalize w1.alloc (.cells #[.bool true, .int .i64 (N * 1000000 + f)] 83) = W at *
                generalize hg : w1.heap.size = g11 at *
                clear hg hc1 hf1 hb1 hy0
                have hne' : ¬ w.heap.size = g11 := by have := hne.out; omega
                go_region
                go_wp2
                exact bodyPost_ret (v := .tuple #[.agg #[.bool true, .int .i64 (N * 1000000 + f)], .bool true]) (by simp [results, Tryz.results47, go_sem, *]) rfl ⟨by rw [HR.out.1, HR.out.2], below_two hBW _ (Nat.le_refl _) _ _⟩

set_option maxHeartbeats 4000000 in
theorem refParse_plus_false (s a b : List UInt8) (p : Nat) (da db okw : Bool) (N f : Int) (hl : s.length ≤ 4294967280)
    (hna : Hid (∀ k (_ : k < p) (h : k < s.length), s[k] ≠ 46))
    (hps : p = s.length) (hxa : Hid (s = a)) (hxb : Hid ([] = b))
    (HA : Hid (∀ W, Calls Tryz.prog 69 #[.string ⟨a.toArray⟩] W fun e w' => e = .returned (.bool da) ∧ W = w'))
    (HS : Hid (∀ W, Calls Tryz.prog 71 #[.string ⟨a.toArray⟩] W fun e w' => e = .returned (.string ⟨(Dc.strip a).toArray⟩) ∧ W = w'))
    (HW : Hid (∀ W, Calls Tryz.prog 70 #[.string ⟨(Dc.strip a).toArray⟩] W fun e w' => e = .returned (.tuple #[.int .i64 N, .bool okw]) ∧ W = w'))
    (HF : Hid (∀ W, Calls Tryz.prog 73 #[.string ⟨b.toArray⟩] W fun e w' => e = .returned (.int .i64 f) ∧ W = w'))
    (n0 : 0 ≤ N) (f0 : 0 ≤ f) (f1 : f ≤ 1000000) (w : World) :
    Calls Tryz.prog 47 #[.string ⟨(43 :: s).toArray⟩] w fun e w' => e = .returned (.tuple #[.agg #[.bool (Dc.rpOk false da db okw N f), .int .i64 (Dc.rpV false false da db okw N f)], .bool (Dc.rpOk false da db okw N f)]) ∧ Below w.heap.size w w' := by
  have hsg1 : ((((⟨(43 :: s).toArray⟩ : ByteArray)[0]'(by simp [ByteArray.size])).toNat : Int) == 45) = false := rfl
  have hsg2 : ((((⟨(43 :: s).toArray⟩ : ByteArray)[0]'(by simp [ByteArray.size])).toNat : Int) == 43) = true := rfl
  have htl : (⟨(43 :: s).toArray⟩ : ByteArray).extract 1 (s.length + 1) = ⟨s.toArray⟩ := tail_mk 43 s
  go_enter Tryz.func47, Tryz.ntmps47
  go_wp2_with fail
  go_loop [5, 6, 7, 8] (fun x y z i => ∃ k : Nat, k ≤ p ∧ k ≤ s.length ∧ i = .int .i64 k ∧ x = .string ⟨s.toArray⟩ ∧ y = .string ⟨[].toArray⟩ ∧ z = .bool false) (fun _ _ _ i => s.length - (intOf i).toNat)
  case atStart => exact ⟨0, Nat.zero_le _, Nat.zero_le _, rfl, rfl, rfl, rfl⟩
  case round =>
    obtain ⟨k, hkp, hk, rfl, rfl, rfl, rfl⟩ := hrel
    by_cases hlt : k < p
    · have hls : k < s.length := by omega
      have hd : (((⟨s.toArray⟩ : ByteArray)[k]'hls).toNat == 46) = false := by
        show (s[k].toNat == 46) = false
        simp
        intro h
        exact hna.out k hlt hls (UInt8.toNat_inj.1 h)
      go_wp2
      go_round
      case rel => exact ⟨k + 1, by omega, by omega, by go_num, rfl, rfl, rfl⟩
      case measure => simp [intOf]; omega
    · obtain rfl : k = p := by omega
      subst hps
      have ha0 := hxa.out
      subst ha0
      have hb0 := hxb.out
      subst hb0
      cases da
      · have HR : Hid (Dc.rpOk false false db okw N f = false ∧ Dc.rpV false false false db okw N f = 0) := Lib.hid (Dc.rp_no rfl)
        go_wp2_with (first | (go_at_call 69; ((with_reducible refine (HA.out _).mono ?_); rintro e w' ⟨rfl, rfl⟩)))
        exact bodyPost_ret (v := .tuple #[.agg #[.bool false, .int .i64 0], .bool false]) (by simp [results, Tryz.results47, go_sem, *]) rfl ⟨by rw [HR.out.1, HR.out.2], (by repeat (first | exact Below.refl _ _ | assumption | refine Below.setCell ?_ (by first | (simp; done) | omega | (simp; omega) | (simp at *; omega)) _ | refine Below.alloc ?_ (by first | (simp; done) | omega | (simp; omega) | (simp at *; omega)) _ | refine Below.drew ?_ | refine below_drewN ?_ _ | (refine Below.trans ?_ (Below.mono (by assumption) (by first | (simp; done) | omega | (simp; omega) | (simp at *; omega)))) | (refine Below.trans ?_ (Below.mono (below_regrown _ _ _) (by first | (simp; done) | omega | (simp; omega) | (simp at *; omega))))))⟩
      · have HF2 := HF
        clear HF
        cases okw
        · have HR : Hid (Dc.rpOk false true db false N f = false ∧ Dc.rpV false false true db false N f = 0) := Lib.hid (Dc.rp_no (by cases db <;> rfl))
          go_wp2_with (first | (go_at_call 69; ((with_reducible refine (HA.out _).mono ?_); rintro e w' ⟨rfl, rfl⟩)) | (go_at_call 71; ((with_reducible refine (HS.out _).mono ?_); rintro e w' ⟨rfl, rfl⟩)) | (go_at_call 70; ((with_reducible refine (HW.out _).mono ?_); rintro e w' ⟨rfl, rfl⟩)))
          exact bodyPost_ret (v := .tuple #[.agg #[.bool false, .int .i64 0], .bool false]) (by simp [results, Tryz.results47, go_sem, *]) rfl ⟨by rw [HR.out.1, HR.out.2], (by repeat (first | exact Below.refl _ _ | assumption | refine Below.setCell ?_ (by first | (simp; done) | omega | (simp; omega) | (simp at *; omega)) _ | refine Below.alloc ?_ (by first | (simp; done) | omega | (simp; omega) | (simp at *; omega)) _ | refine Below.drew ?_ | refine below_drewN ?_ _ | (refine Below.trans ?_ (Below.mono (by assumption) (by first | (simp; done) | omega | (simp; omega) | (simp at *; omega)))) | (refine Below.trans ?_ (Below.mono (below_regrown _ _ _) (by first | (simp; done) | omega | (simp; omega) | (simp at *; omega))))))⟩
        · by_cases hN : 4611686018427 < N
          · have HR : Hid (Dc.rpOk false true db true N f = false ∧ Dc.rpV false false true db true N f = 0) := Lib.hid (Dc.rp_long hN)
            go_wp2_with (first | (go_at_call 69; ((with_reducible refine (HA.out _).mono ?_); rintro e w' ⟨rfl, rfl⟩)) | (go_at_call 71; ((with_reducible refine (HS.out _).mono ?_); rintro e w' ⟨rfl, rfl⟩)) | (go_at_call 70; ((with_reducible refine (HW.out _).mono ?_); rintro e w' ⟨rfl, rfl⟩)))
            exact bodyPost_ret (v := .tuple #[.agg #[.bool false, .int .i64 0], .bool false]) (by simp [results, Tryz.results47, go_sem, *]) rfl ⟨by rw [HR.out.1, HR.out.2], (by repeat (first | exact Below.refl _ _ | assumption | refine Below.setCell ?_ (by first | (simp; done) | omega | (simp; omega) | (simp at *; omega)) _ | refine Below.alloc ?_ (by first | (simp; done) | omega | (simp; omega) | (simp at *; omega)) _ | refine Below.drew ?_ | refine below_drewN ?_ _ | (refine Below.trans ?_ (Below.mono (by assumption) (by first | (simp; done) | omega | (simp; omega) | (simp at *; omega)))) | (refine Below.trans ?_ (Below.mono (below_regrown _ _ _) (by first | (simp; done) | omega | (simp; omega) | (simp at *; omega))))))⟩
          · have hN' : N ≤ 4611686018427 := by omega
            by_cases hM : 4611686018427387904 < N * 1000000 + f
            · have HR : Hid (Dc.rpOk false true db true N f = false ∧ Dc.rpV false false true db true N f = 0) := Lib.hid (Dc.rp_much hM)
              have HO : Hid (∀ W, Calls Tryz.prog 72 #[.int .i64 (N * 1000000 + f)] W fun e w' => e = .returned (.agg #[.bool false, .int .i64 0]) ∧ Below W.heap.size W w') := by
                apply Lib.hid; intro W
                have := refOf_any (N * 1000000 + f) W
                rw [Fx.of_no (Fx.inR_high hM)] at this
                exact this
              go_wp2_with (first | (go_at_call 69; ((with_reducible refine (HA.out _).mono ?_); rintro e w' ⟨rfl, rfl⟩)) | (go_at_call 71; ((with_reducible refine (HS.out _).mono ?_); rintro e w' ⟨rfl, rfl⟩)) | (go_at_call 70; ((with_reducible refine (HW.out _).mono ?_); rintro e w' ⟨rfl, rfl⟩)) | (go_at_call 73; ((with_reducible refine (HF2.out _).mono ?_); rintro e w' ⟨rfl, rfl⟩)) | (go_at_call 72; (((with_reducible refine (HO.out _).mono ?_)); rintro e w1 ⟨rfl, hb1⟩; obtain ⟨hc1, hf1⟩ := bcell hb1; have hy0 : w.heap.size < w1.heap.size := Nat.lt_of_lt_of_le (by first | assumption | (simp; done) | (simp; omega)) hb1.size)))
              have c11 : (w1.alloc (.cells #[.bool false, .int .i64 (0)] 83)).cell? ⟨w1.heap.size, 0, none⟩ = some (.bool false) := by go_simp
              have c11' : (w1.alloc (.cells #[.bool false, .int .i64 (0)] 83)).cell? ⟨w1.heap.size, 1, none⟩ = some (.int .i64 (0)) := by go_simp
              have c2 : (w1.alloc (.cells #[.bool false, .int .i64 (0)] 83)).cell? ⟨w.heap.size, 0, none⟩ = some (.bool false) := by go_simp
              have c2' : (w1.alloc (.cells #[.bool false, .int .i64 (0)] 83)).cell? ⟨w.heap.size, 1, none⟩ = some (.int .i64 0) := by go_simp
              have f2 : (w1.alloc (.cells #[.bool false, .int .i64 (0)] 83)).frozen? ⟨w.heap.size, 0, none⟩ = false := by go_simp
              have f2' : (w1.alloc (.cells #[.bool false, .int .i64 (0)] 83)).frozen? ⟨w.heap.size, 1, none⟩ = false := by go_simp
              have hBW : Below w.heap.size w (w1.alloc (.cells #[.bool false, .int .i64 (0)] 83)) := (by repeat (first | exact Below.refl _ _ | assumption | refine Below.setCell ?_ (by first | (simp; done) | omega | (simp; omega) | (simp at *; omega)) _ | refine Below.alloc ?_ (by first | (simp; done) | omega | (simp; omega) | (simp at *; omega)) _ | refine Below.drew ?_ | refine below_drewN ?_ _ | (refine Below.trans ?_ (Below.mono (by assumption) (by first | (simp; done) | omega | (simp; omega) | (simp at *; omega)))) | (refine Below.trans ?_ (Below.mono (below_regrown _ _ _) (by first | (simp; done) | omega | (simp; omega) | (simp at *; omega))))))
              have hne : Hid (w.heap.size < w1.heap.size) := Lib.hid hy0
              generalize w1.alloc (.cells #[.bool false, .int .i64 (0)] 83) = W at *
              generalize hg : w1.heap.size = g11 at *
              clear hg hc1 hf1 hb1 hy0
              have hne' : ¬ w.heap.size = g11 := by have := hne.out; omega
              go_region
              go_wp2
              exact bodyPost_ret (v := .tuple #[.agg #[.bool false, .int .i64 (0)], .bool false]) (by simp [results, Tryz.results47, go_sem, *]) rfl ⟨by rw [HR.out.1, HR.out.2], below_two hBW _ (Nat.le_refl _) _ _⟩
            · have HR : Hid (Dc.rpOk false true db true N f = true ∧ Dc.rpV false false true db true N f = N * 1000000 + f) := Lib.hid (Dc.rp_yes rfl hN' (by omega))
              have HO : Hid (∀ W, Calls Tryz.prog 72 #[.int .i64 (N * 1000000 + f)] W fun e w' => e = .returned (.agg #[.bool true, .int .i64 (N * 1000000 + f)]) ∧ Below W.heap.size W w') := by
                apply Lib.hid; intro W
                have := refOf_any (N * 1000000 + f) W
                rw [Fx.of_yes (Fx.inR_yes (by omega) (by omega))] at this
                exact this
              go_wp2_with (first | (go_at_call 69; ((with_reducible refine (HA.out _).mono ?_); rintro e w' ⟨rfl, rfl⟩)) | (go_at_call 71; ((with_reducible refine (HS.out _).mono ?_); rintro e w' ⟨rfl, rfl⟩)) | (go_at_call 70; ((with_reducible refine (HW.out _).mono ?_); rintro e w' ⟨rfl, rfl⟩)) | (go_at_call 73; ((with_reducible refine (HF2.out _).mono ?_); rintro e w' ⟨rfl, rfl⟩)) | (go_at_call 72; (((with_reducible refine (HO.out _).mono ?_)); rintro e w1 ⟨rfl, hb1⟩; obtain ⟨hc1, hf1⟩ := bcell hb1; have hy0 : w.heap.size < w1.heap.size := Nat.lt_of_lt_of_le (by first | assumption | (simp; done) | (simp; omega)) hb1.size)))
              have c11 : (w1.alloc (.cells #[.bool true, .int .i64 (N * 1000000 + f)] 83)).cell? ⟨w1.heap.size, 0, none⟩ = some (.bool true) := by go_simp
              have c11' : (w1.alloc (.cells #[.bool true, .int .i64 (N * 1000000 + f)] 83)).cell? ⟨w1.heap.size, 1, none⟩ = some (.int .i64 (N * 1000000 + f)) := by go_simp
              have c2 : (w1.alloc (.cells #[.bool true, .int .i64 (N * 1000000 + f)] 83)).cell? ⟨w.heap.size, 0, none⟩ = some (.bool false) := by go_simp
              have c2' : (w1.alloc (.cells #[.bool true, .int .i64 (N * 1000000 + f)] 83)).cell? ⟨w.heap.size, 1, none⟩ = some (.int .i64 0) := by go_simp
              have f2 : (w1.alloc (.cells #[.bool true, .int .i64 (N * 1000000 + f)] 83)).frozen? ⟨w.heap.size, 0, none⟩ = false := by go_simp
              have f2' : (w1.alloc (.cells #[.bool true, .int .i64 (N * 1000000 + f)] 83)).frozen? ⟨w.heap.size, 1, none⟩ = false := by go_simp
              have hBW : Below w.heap.size w (w1.alloc (.cells #[.bool true, .int .i64 (N * 1000000 + f)] 83)) := (by repeat (first | exact Below.refl _ _ | assumption | refine Below.setCell ?_ (by first | (simp; done) | omega | (simp; omega) | (simp at *; omega)) _ | refine Below.alloc ?_ (by first | (simp; done) | omega | (simp; omega) | (simp at *; omega)) _ | refine Below.drew ?_ | refine below_drewN ?_ _ | (refine Below.trans ?_ (Below.mono (by assumption) (by first | (simp; done) | omega | (simp; omega) | (simp at *; omega)))) | (refine Below.trans ?_ (Below.mono (below_regrown _ _ _) (by first | (simp; done) | omega | (simp; omega) | (simp at *; omega))))))
              have hne : Hid (w.heap.size < w1.heap.size) := Lib.hid hy0
              generalize w1.alloc (.cells #[.bool true, .int .i64 (N * 1000000 + f)] 83) = W at *
              generalize hg : w1.heap.size = g11 at *
              clear hg hc1 hf1 hb1 hy0
              have hne' : ¬ w.heap.size = g11 := by have := hne.out; omega
              go_region
              go_wp2
              exact bodyPost_ret (v := .tuple #[.agg #[.bool true, .int .i64 (N * 1000000 + f)], .bool true]) (by simp [results, Tryz.results47, go_sem, *]) rfl ⟨by rw [HR.out.1, HR.out.2], below_two hBW _ (Nat.le_refl _) _ _⟩

end Go.Proofs.YtojmcndiooiehaaGreatDoor
