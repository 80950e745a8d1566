/-
  LAW: chapter 15: TreeDeep.
-/
import Derived.Test.YtojmcndiooiehaaDoorTeOut
import Derived.Test.YtojmcndiooiehaaDoorTeDep
import Derived.Test.YtojmcndiooiehaaDoorTeSam
import Derived.Test.YtojmcndiooiehaaDoorTeBt
namespace Go.Proofs.YtojmcndiooiehaaDoor
open Go.RowKit Go.Sort
open Me

namespace Te
/-- So many calls within one another, and as a text. -/
def nest : Nat → Nd
  | 0 => .mk 2 [97] 0 []
  | i + 1 => .mk 1 [102] 0 [nest i]
def deepS : Nat → List UInt8
  | 0 => [97]
  | i + 1 => [102, 40] ++ (deepS i ++ [41])
theorem nest_txt : ∀ i, txt (nest i) = deepS i
  | 0 => by rw [nest, txt2]; rfl
  | i + 1 => by
    rw [nest, txt, if_pos rfl, txts, txts, nest_txt i, if_pos rfl, deepS]
    simp
theorem nest_ok : ∀ (i d : Nat), i < d → ok d (nest i) = true
  | 0, d, h => by
    rw [nest, ok, if_neg (by decide), decide_eq_true h]
    decide +kernel
  | i + 1, d, h => by
    rw [nest, ok, if_pos rfl, decide_eq_true (by omega), oks, oks, nest_ok i (d - 1) (by omega)]
    decide +kernel
theorem deep_len : ∀ i, (deepS i).length = 3 * i + 1
  | 0 => rfl
  | i + 1 => by rw [deepS]; simp only [List.length_append, deep_len i]; simp; omega
theorem nest_dep : ∀ i, dep (nest i) = i + 1
  | 0 => by rw [nest, dep, if_neg (by decide)]
  | i + 1 => by rw [nest, dep, if_pos rfl, deps, deps, nest_dep i]; omega
theorem nest_wt : ∀ i, wt (nest i) = 6 * i + 6
  | 0 => by rw [nest, wt, wts]; rfl
  | i + 1 => by rw [nest, wt, wts, wts, nest_wt i]; simp; omega
theorem ident_f : Lx.identOf [102] = true := by decide +kernel
theorem toks_call (i : Nat) : toks (nest (i + 1)) = (1, [102]) :: (3, []) :: (toks (nest i) ++ [(4, [])]) := by
  rw [nest, toks1, tokss, tokss, if_pos rfl]; simp
theorem nest_bad : ∀ (d i : Nat) (r : List Tok), d ≤ i → expr d (toks (nest i) ++ r) = .error 12
  | 0, i, r, _ => expr_deep _
  | d + 1, 0, r, h => by omega
  | d + 1, i + 1, r, h => by
    have e : toks (nest (i + 1)) ++ r = (1, [102]) :: ((3, []) :: (toks (nest i) ++ ((4, []) :: r))) := by rw [toks_call]; simp
    rw [e, expr_call d ident_f rfl (hd_toks (nest i) _)]
    exact kidsA_bad (nest_bad d i _ (by omega))
theorem deep_good {i : Nat} (h : i < 64) : parseS (deepS i) = .ok (nest i) := by
  rw [← nest_txt i]
  exact parse_txt (nest_ok i 64 h) (by rw [nest_txt, deep_len]; omega)
theorem deep_bad {i : Nat} (h : 64 ≤ i) (h2 : i ≤ 100) : parseS (deepS i) = .error 12 := by
  unfold parseS
  rw [if_neg (by rw [deep_len]; omega), ← nest_txt i, lex_txt (i + 1) (nest i) (nest_ok i _ (by omega))]
  have := nest_bad 64 i [] h
  rw [List.append_nil] at this
  show parse (toks (nest i)) = _
  unfold parse
  rw [this]
theorem deep_cat (i : Nat) : (⟨#[102, 40]⟩ : ByteArray) ++ ⟨(deepS i).toArray⟩ = ⟨([102, 40] ++ deepS i).toArray⟩ ∧ (⟨([102, 40] ++ deepS i).toArray⟩ : ByteArray) ++ ⟨#[41]⟩ = ⟨(deepS (i + 1)).toArray⟩ := by
  constructor
  · apply ByteArray.ext; simp
  · rw [deepS]; apply ByteArray.ext; simp
end Te

set_option maxRecDepth 100000 in
set_option maxHeartbeats 8000000 in
theorem lawDeep15 (n : Int) (hn1 : -9223372036854775808 ≤ n) (hn2 : n ≤ 9223372036854775807) (W : World) :
    Calls Tryd.prog 3 #[.int .i64 n] W fun e W' => e = .returned (.bool true) ∧ Below W.heap.size W W' := by
  have HKN := Lib.hid fun w => known15_any w
  by_cases h0 : n < 0
  · go_enter Tryd.func3, Tryd.ntmps3
    go_wp2_with (go_at_call 4; go_must (refine (HKN.out _).mono ?_; rintro e w4 ⟨rfl, hb4⟩; have HB4 := Lib.hid hb4; clear hb4))
    go_ret
    exact ⟨rfl, HB4.out⟩
  by_cases h1 : 100 < n
  · go_enter Tryd.func3, Tryd.ntmps3
    go_wp2_with (go_at_call 4; go_must (refine (HKN.out _).mono ?_; rintro e w4 ⟨rfl, hb4⟩; have HB4 := Lib.hid hb4; clear hb4))
    go_ret
    exact ⟨rfl, HB4.out⟩
  obtain ⟨N, rfl⟩ : ∃ N : Nat, n = (N : Int) := ⟨n.toNat, by omega⟩
  have hN : N ≤ 100 := by omega
  have hN0 : ¬ (N : Int) < 0 := h0
  have hN1 : ¬ (100 : Int) < (N : Int) := h1
  go_enter Tryd.func3, Tryd.ntmps3
  go_wp2_with fail
  go_loopw [3, 4] (fun y x wr => ∃ k : Nat, x = .int .i64 k ∧ y = .string ⟨(Te.deepS k).toArray⟩ ∧ k ≤ N ∧ Hid (W = wr)) (fun _ x _ => N - (intOf x).toNat)
  case atStart => exact ⟨0, rfl, rfl, Nat.zero_le _, Lib.hid rfl⟩
  case round =>
    obtain ⟨k, rfl, rfl, hk, HW⟩ := hrel
    by_cases hlt : k < N
    · obtain ⟨e1, e2⟩ := Te.deep_cat k
      have hl1 := Te.deep_len k
      have hkI : (k : Int) < (N : Int) := by omega
      obtain ⟨T1, hT1⟩ : ∃ T1, T1 = [102, 40] ++ Te.deepS k := ⟨_, rfl⟩
      obtain ⟨T2, hT2⟩ : ∃ T2, T2 = Te.deepS (k + 1) := ⟨_, rfl⟩
      rw [← hT1] at e1 e2
      rw [← hT2] at e2
      have hl2 : T1.length = 3 * k + 3 := by rw [hT1, List.length_append, hl1]; show 2 + (3 * k + 1) = _; omega
      have HT2 := Lib.hid hT2
      generalize Te.deepS k = T0 at *
      have hA1 : ¬ 9223372036854775807 < 2 + T0.length := by omega
      have hA2 : ¬ 9223372036854775807 < T1.length + 1 := by omega
      clear hT1 hT2 hl1 hl2
      go_wp2_with fail
      go_roundw
      case rel => exact ⟨k + 1, by go_num, by rw [HT2.out], by omega, HW⟩
      case measure => simp [intOf]; omega
    · have hke : k = N := by omega
      subst hke
      obtain rfl := HW.out
      have HP := Lib.hid fun w => (tparse_any (Te.deepS k) (by rw [Te.deep_len]; omega) w).mono fun e w' h => And.intro h.1.out h.2
      by_cases h64 : 64 ≤ k
      · have HP2 : Hid (∀ w, Calls Tryd.prog 5 #[.string ⟨(Te.deepS k).toArray⟩] w fun e w' => ∃ A c, e = .returned (.tuple #[.agg #[.int .i64 0, .string ⟨#[]⟩, .int .i64 0, .slice A 0 c], .int .i64 12]) ∧ Te.At w' (fun i => w.heap.size ≤ i) Te.nought (.slice A 0 c) ∧ Below w.heap.size w w') := Lib.hid fun w => by
          have := HP.out w
          rw [Te.deep_bad h64 hN] at this
          exact this.mono fun e w' ⟨⟨A, c, h1, h2⟩, h3⟩ => ⟨A, c, h1, h2, h3⟩
        have HS : Hid (∀ (W : World) (G H : Nat → Prop) A c A' c', Te.At W G Te.nought (.slice A 0 c) → Te.At W H Te.nought (.slice A' 0 c') → Calls Tryd.prog 6 #[.agg #[.int .i64 0, .string ⟨#[]⟩, .int .i64 0, .slice A 0 c], .agg #[.int .i64 0, .string ⟨#[]⟩, .int .i64 0, .slice A' 0 c']] W fun e W' => e = .returned (.bool true) ∧ Below W.heap.size W W') := Lib.hid fun W G H A c A' c' h1 h2 => by
          have hw : Te.wt Te.nought ≤ 1048576 := by rw [Te.wt, Te.wts]; simp
          have := rsame_any G H (Te.wt Te.nought) Te.nought (Nat.le_refl _) hw Te.nought W _ _ hw h1 h2
          rw [Te.same_refl] at this
          exact this
        have h64I : (64 : Int) ≤ (k : Int) := by omega
        generalize Te.deepS k = T at *
        clear HP
        go_wp2_with fail
        go_at_call 5
        refine (HP2.out _).mono ?_
        rintro e w1 ⟨A1, c1, rfl, hat1, hb1⟩
        have HB1 := Lib.hid hb1
        have HA1 := Lib.hid hat1
        have hz1 := hb1.size
        clear hb1 hat1
        go_wp2_with first
          | (go_at_call 6; go_must (refine (HS.out _ _ (fun _ => True) _ _ _ _ (HA1.out.below ((Below.refl _ _).alloc (Nat.le_refl _) _)) (Te.At.zero _ _ _ _ _)).mono ?_; rintro e w3 ⟨rfl, hb3⟩; have HB3 : Hid (Below W.heap.size W w3) := Lib.hid ((HB1.out.alloc hz1 _).trans (hb3.mono (by simp; omega))); clear hb3))
          | (go_at_call 4; go_must (refine (HKN.out _).mono ?_; rintro e w4 ⟨rfl, hb4⟩; have HB4 : Hid (Below W.heap.size W w4) := Lib.hid (HB3.out.trans (hb4.mono HB3.out.size)); clear hb4))
        go_ret
        exact ⟨rfl, HB4.out⟩
      · have hg := Te.deep_good (i := k) (by omega)
        have hdp := Te.nest_dep k
        have hwt := Te.nest_wt k
        rw [hg] at HP
        generalize Te.nest k = x at *
        obtain ⟨xk, xs, xn, xl⟩ := x
        obtain ⟨m, hm⟩ : ∃ m, m = xl.length := ⟨_, rfl⟩
        have HP2 : Hid (∀ w, Calls Tryd.prog 5 #[.string ⟨(Te.deepS k).toArray⟩] w fun e w' => ∃ A c, e = .returned (.tuple #[.agg #[.int .i64 xk, .string ⟨xs.toArray⟩, .int .i64 xn, .slice A m c], .int .i64 0]) ∧ Te.At w' (fun i => w.heap.size ≤ i) (.mk xk xs xn xl) (.slice A m c) ∧ Below w.heap.size w w') := Lib.hid fun w => by
          rw [hm]
          exact (HP.out w).mono fun e w' ⟨⟨A, c, h1, h2⟩, h3⟩ => ⟨A, c, h1, h2, h3⟩
        have HD : Hid (∀ (W : World) (G : Nat → Prop) A c, Te.At W G (.mk xk xs xn xl) (.slice A m c) → Calls Tryd.prog 7 #[.agg #[.int .i64 xk, .string ⟨xs.toArray⟩, .int .i64 xn, .slice A m c]] W fun e W' => e = .returned (.int .i64 ((k : Int) + 1)) ∧ Below W.heap.size W W') := Lib.hid fun W G A c h => by
          have := tdep_any G _ (.mk xk xs xn xl) (Nat.le_refl _) (by omega) W _ h
          rw [hdp] at this
          exact this
        have h64I : ¬ (64 : Int) ≤ (k : Int) := by omega
        have kw : IntKind.i64.wrap ((k : Int) + 1) = (k : Int) + 1 := IntWalk.i64_in _ (by omega)
        generalize Te.Nd.mk xk xs xn xl = nd at *
        generalize Te.deepS k = T at *
        clear HP hm hg hdp hwt
        go_wp2_with fail
        go_at_call 5
        refine (HP2.out _).mono ?_
        rintro e w1 ⟨A1, c1, rfl, hat1, hb1⟩
        have HB1 := Lib.hid hb1
        have HA1 := Lib.hid hat1
        have hz1 := hb1.size
        clear hb1 hat1
        go_wp2_with first
          | (go_at_call 7; go_must (refine (HD.out _ _ _ _ (HA1.out.below ((Below.refl _ _).alloc (Nat.le_refl _) _))).mono ?_; rintro e w3 ⟨rfl, hb3⟩; have HB3 : Hid (Below W.heap.size W w3) := Lib.hid ((HB1.out.alloc hz1 _).trans (hb3.mono (by simp; omega))); clear hb3))
          | (go_at_call 4; go_must (refine (HKN.out _).mono ?_; rintro e w4 ⟨rfl, hb4⟩; have HB4 : Hid (Below W.heap.size W w4) := Lib.hid (HB3.out.trans (hb4.mono HB3.out.size)); clear hb4))
        go_ret
        exact ⟨rfl, HB4.out⟩
end Go.Proofs.YtojmcndiooiehaaDoor
