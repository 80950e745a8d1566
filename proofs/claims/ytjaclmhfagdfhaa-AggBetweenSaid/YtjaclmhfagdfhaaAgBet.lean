/-
  THE PLAIN MATHEMATICS of agg's last two laws: the mean lies between the least and the greatest; in whatever order, the sum, the mean, the greatest and the least are the same.
-/
import Derived.Test.YtjaclmhfagdfhaaAgPure
namespace Go.Proofs.Ytjaclmhfagdfhaa
open Go.RowKit
open Fx (Vl)
namespace Ag

def total (k : List Vl) : Int := match k with | [] => 0 | v :: k => v.n + total k
theorem total_append (k m : List Vl) : total (k ++ m) = total k + total m := by
  induction k with
  | nil => simp [total]
  | cons v k ih => simp only [List.cons_append, total, ih]; omega
theorem total_reverse (k : List Vl) : total k.reverse = total k := by
  induction k with
  | nil => rfl
  | cons v k ih => rw [List.reverse_cons, total_append, ih]; simp only [total]; omega
theorem total_ge (k : List Vl) (a : Int) (h : ∀ v ∈ k, a ≤ v.n) : a * (k.length : Int) ≤ total k := by
  induction k with
  | nil => simp [total]
  | cons v k ih =>
    have h1 := h v List.mem_cons_self
    have h2 := ih fun u hu => h u (List.mem_cons_of_mem _ hu)
    simp only [total, List.length_cons, Int.natCast_add, Int.mul_add, Int.natCast_one, Int.mul_one]
    omega
theorem total_le (k : List Vl) (a : Int) (h : ∀ v ∈ k, v.n ≤ a) : total k ≤ a * (k.length : Int) := by
  induction k with
  | nil => simp [total]
  | cons v k ih =>
    have h1 := h v List.mem_cons_self
    have h2 := ih fun u hu => h u (List.mem_cons_of_mem _ hu)
    simp only [total, List.length_cons, Int.natCast_add, Int.mul_add, Int.natCast_one, Int.mul_one]
    omega

theorem num_eta {v : Vl} (h : Fx.num v = true) : v = ⟨true, v.n⟩ ∧ Fx.inR v.n = true := by
  obtain ⟨o, n⟩ := v
  cases o
  · cases h
  · exact ⟨rfl, h⟩
theorem foldl_none (k : List Vl) : k.foldl Fx.plus Fx.none = Fx.none := by
  induction k with
  | nil => rfl
  | cons v k ih => rw [List.foldl_cons, Fx.plus_no1 (a := Fx.none) rfl, ih]
theorem foldl_cases (k : List Vl) : ∀ s : Vl, (∀ v ∈ k, Fx.num v = true) → Fx.num s = true → k.foldl Fx.plus s = Fx.none ∨ (k.foldl Fx.plus s = ⟨true, s.n + total k⟩ ∧ Fx.inR (s.n + total k) = true) := by
  induction k with
  | nil =>
    intro s _ hs
    obtain ⟨e, hr⟩ := num_eta hs
    right
    simp only [total, Int.add_zero, List.foldl_nil]
    exact ⟨e, hr⟩
  | cons v k ih =>
    intro s hk hs
    rw [List.foldl_cons, Fx.plus_yes hs (hk v List.mem_cons_self)]
    cases hr : Fx.inR (s.n + v.n)
    · rw [Fx.of_no hr]; exact .inl (foldl_none k)
    · rw [Fx.of_yes hr]
      have := ih ⟨true, s.n + v.n⟩ (fun u hu => hk u (List.mem_cons_of_mem _ hu)) (Fx.num_yes hr)
      simp only [total]
      rw [← Int.add_assoc]
      exact this
theorem sum_cases (k : List Vl) (hk : ∀ v ∈ k, Fx.num v = true) : sum k = Fx.none ∨ (sum k = ⟨true, total k⟩ ∧ Fx.inR (total k) = true) := by
  have h := foldl_cases k ⟨true, 0⟩ hk (by rfl)
  simp only [Int.zero_add] at h
  exact h
theorem foldl_small (k : List Vl) : ∀ s : Vl, (∀ v ∈ k, Fx.num v = true ∧ -1125899906842624 ≤ v.n ∧ v.n ≤ 1125899906842624) → Fx.num s = true → ∀ B : Int, -B ≤ s.n → s.n ≤ B → B + (k.length : Int) * 1125899906842624 ≤ 4611686018427387904 → k.foldl Fx.plus s = ⟨true, s.n + total k⟩ := by
  induction k with
  | nil =>
    intro s _ hs B _ _ _
    simp only [total, Int.add_zero, List.foldl_nil]
    exact (num_eta hs).1
  | cons v k ih =>
    intro s hk hs B h1 h2 h3
    obtain ⟨hv, v1, v2⟩ := hk v List.mem_cons_self
    simp only [List.length_cons, Int.natCast_add, Int.natCast_one, Int.add_mul, Int.one_mul] at h3
    have hl : (0 : Int) ≤ (k.length : Int) * 1125899906842624 := by omega
    have hr : Fx.inR (s.n + v.n) = true := Fx.inR_yes (by omega) (by omega)
    rw [List.foldl_cons, Fx.plus_yes hs hv, Fx.of_yes hr]
    have := ih ⟨true, s.n + v.n⟩ (fun u hu => hk u (List.mem_cons_of_mem _ hu)) (Fx.num_yes hr) (B + 1125899906842624) (by show -(B + 1125899906842624) ≤ s.n + v.n; omega) (by show s.n + v.n ≤ B + 1125899906842624; omega) (by omega)
    rw [this]
    simp only [total, Int.add_assoc]
theorem sum_small (k : List Vl) (hk : ∀ v ∈ k, Fx.num v = true ∧ -1125899906842624 ≤ v.n ∧ v.n ≤ 1125899906842624) (hl : k.length ≤ 200) : sum k = ⟨true, total k⟩ := by
  have h := foldl_small k ⟨true, 0⟩ hk (by rfl) 0 (by simp) (by simp) (by omega)
  simp only [Int.zero_add] at h
  exact h

theorem mx_fold (r : List Vl) : ∀ x : Vl, (∀ v ∈ x :: r, v.n ≤ (r.foldl mx1 x).n) ∧ r.foldl mx1 x ∈ x :: r := by
  induction r with
  | nil => intro x; simp
  | cons y r ih =>
    intro x
    rw [List.foldl_cons]
    obtain ⟨h1, h2⟩ := ih (mx1 x y)
    have hx : x.n ≤ (mx1 x y).n ∧ y.n ≤ (mx1 x y).n := by unfold mx1; split <;> omega
    have h0 := h1 (mx1 x y) List.mem_cons_self
    refine ⟨fun v hv => ?_, ?_⟩
    · rcases List.mem_cons.1 hv with rfl | hv
      · omega
      · rcases List.mem_cons.1 hv with rfl | hv
        · omega
        · exact h1 v (List.mem_cons_of_mem _ hv)
    · rcases List.mem_cons.1 h2 with e | h
      · rw [e]; unfold mx1; split
        · exact List.mem_cons_of_mem _ List.mem_cons_self
        · exact List.mem_cons_self
      · exact List.mem_cons_of_mem _ (List.mem_cons_of_mem _ h)
theorem mn_fold (r : List Vl) : ∀ x : Vl, (∀ v ∈ x :: r, (r.foldl mn1 x).n ≤ v.n) ∧ r.foldl mn1 x ∈ x :: r := by
  induction r with
  | nil => intro x; simp
  | cons y r ih =>
    intro x
    rw [List.foldl_cons]
    obtain ⟨h1, h2⟩ := ih (mn1 x y)
    have hx : (mn1 x y).n ≤ x.n ∧ (mn1 x y).n ≤ y.n := by unfold mn1; split <;> omega
    have h0 := h1 (mn1 x y) List.mem_cons_self
    refine ⟨fun v hv => ?_, ?_⟩
    · rcases List.mem_cons.1 hv with rfl | hv
      · omega
      · rcases List.mem_cons.1 hv with rfl | hv
        · omega
        · exact h1 v (List.mem_cons_of_mem _ hv)
    · rcases List.mem_cons.1 h2 with e | h
      · rw [e]; unfold mn1; split
        · exact List.mem_cons_of_mem _ List.mem_cons_self
        · exact List.mem_cons_self
      · exact List.mem_cons_of_mem _ (List.mem_cons_of_mem _ h)
theorem mx_ge {k : List Vl} : ∀ v ∈ k, v.n ≤ (mx k).n := by cases k with | nil => intro v hv; cases hv | cons x r => exact (mx_fold r x).1
theorem mn_le {k : List Vl} : ∀ v ∈ k, (mn k).n ≤ v.n := by cases k with | nil => intro v hv; cases hv | cons x r => exact (mn_fold r x).1
theorem mx_mem {k : List Vl} (h : 0 < k.length) : mx k ∈ k := by cases k with | nil => cases h | cons x r => exact (mx_fold r x).2
theorem mn_mem {k : List Vl} (h : 0 < k.length) : mn k ∈ k := by cases k with | nil => cases h | cons x r => exact (mn_fold r x).2

theorem rnd_le {p d h : Nat} (hd : 0 < d) (hp : p ≤ h * d) : Fx.rnd p d ≤ h := by
  have e := Nat.div_add_mod p d
  have hq : p / d ≤ h := by
    have := Nat.div_le_div_right (c := d) hp
    rwa [Nat.mul_div_cancel _ hd] at this
  unfold Fx.rnd
  split
  · rename_i hr
    have hr0 : 0 < p % d := by omega
    have hlt : d * (p / d) < h * d := by omega
    rw [Nat.mul_comm h d] at hlt
    exact Nat.lt_of_mul_lt_mul_left hlt
  · exact hq
theorem rnd_ge' {p d h : Nat} (hd : 0 < d) (hp : h * d ≤ p) : h ≤ Fx.rnd p d :=
  Nat.le_trans ((Nat.le_div_iff_mul_le hd).2 hp) (Fx.rnd_ge p d)
theorem mag_million : Fx.mag 1000000 = 1000000 := rfl
theorem mean_bd {S lo hi : Int} {n : Nat} (hn : 0 < n) (hok : Fx.mdok S 1000000 ((n : Int) * 1000000) = true) (h1 : lo * (n : Int) ≤ S) (h2 : S ≤ hi * (n : Int)) :
    lo ≤ Fx.mdn S 1000000 ((n : Int) * 1000000) ∧ Fx.mdn S 1000000 ((n : Int) * 1000000) ≤ hi := by
  have hn' : (0 : Int) < (n : Int) := by omega
  have hd : 0 < n * 1000000 := by omega
  have hmd : Fx.mag ((n : Int) * 1000000) = n * 1000000 := by unfold Fx.mag; omega
  have hq : Fx.mdq S 1000000 ((n : Int) * 1000000) = Fx.rnd (Fx.mag S * 1000000) (n * 1000000) := by unfold Fx.mdq; rw [hmd, mag_million]
  have cast : ∀ x : Nat, ∀ y : Int, (x : Int) = y → ∀ s : Nat, ((s : Int) ≤ y * (n : Int) → s * 1000000 ≤ x * (n * 1000000)) ∧ (y * (n : Int) ≤ (s : Int) → x * (n * 1000000) ≤ s * 1000000) := by
    intro x y e s
    have e2 : x * (n * 1000000) = x * n * 1000000 := by rw [Nat.mul_assoc]
    have e3 : y * (n : Int) = ((x * n : Nat) : Int) := by rw [← e, Int.natCast_mul]
    rw [e2, e3]
    generalize x * n = z
    exact ⟨fun h => by omega, fun h => by omega⟩
  by_cases hs : S < 0
  · have hneg : Fx.neg3 S 1000000 ((n : Int) * 1000000) = true := by unfold Fx.neg3; simp [hs]; omega
    rw [Fx.mdn_neg hok hneg, hq]
    have hms : ((Fx.mag S : Nat) : Int) = -S := by unfold Fx.mag; omega
    have hlo : lo < 0 := by
      rcases Int.lt_or_le lo 0 with h | h
      · exact h
      · have := Int.mul_nonneg h (Int.le_of_lt hn'); omega
    constructor
    · have := rnd_le hd ((cast (-lo).toNat (-lo) (by omega) (Fx.mag S)).1 (by rw [hms, Int.neg_mul]; omega))
      omega
    · rcases Int.lt_or_le hi 0 with h | h
      · have := rnd_ge' hd ((cast (-hi).toNat (-hi) (by omega) (Fx.mag S)).2 (by rw [hms, Int.neg_mul]; omega))
        omega
      · omega
  · have hneg : Fx.neg3 S 1000000 ((n : Int) * 1000000) = false := by unfold Fx.neg3; simp; omega
    rw [Fx.mdn_pos hok hneg, hq]
    have hms : ((Fx.mag S : Nat) : Int) = S := by unfold Fx.mag; omega
    have hhi : 0 ≤ hi := by
      rcases Int.lt_or_le hi 0 with h | h
      · have := Int.mul_neg_of_neg_of_pos h hn'; omega
      · exact h
    constructor
    · rcases Int.lt_or_le 0 lo with h | h
      · have := rnd_ge' hd ((cast lo.toNat lo (by omega) (Fx.mag S)).2 (by rw [hms]; exact h1))
        omega
      · omega
    · have := rnd_le hd ((cast hi.toNat hi (by omega) (Fx.mag S)).1 (by rw [hms]; exact h2))
      omega

/-- The mean, where there is one, lies between the least and the greatest. -/
theorem between (k : List Vl) (hk : ∀ v ∈ k, Fx.num v = true) (h0 : 0 < k.length) (hl : k.length ≤ 1000000) :
    tg 1 k = Fx.none ∨ ((mn k).n ≤ (tg 1 k).n ∧ (tg 1 k).n ≤ (mx k).n) := by
  rw [tg_1 h0]
  have hd : Fx.inR ((k.length : Int) * 1000000) = true := Fx.inR_yes (by omega) (by omega)
  rw [Fx.of_yes hd]
  rcases sum_cases k hk with h | ⟨h, hr⟩
  · left; rw [h]; exact Fx.div_no1 rfl
  · rw [h, Fx.div_yes (Fx.num_yes hr) (Fx.num_yes hd)]
    cases hok : Fx.mdok (total k) 1000000 ((k.length : Int) * 1000000)
    · left; exact Fx.mdv_no hok
    · rw [Fx.mdv_yes hok]
      obtain ⟨h1, h2⟩ := mean_bd h0 hok (total_ge k _ mn_le) (total_le k _ mx_ge)
      cases hin : Fx.inR (Fx.mdn (total k) 1000000 ((k.length : Int) * 1000000))
      · left; exact Fx.of_no hin
      · right; rw [Fx.of_yes hin]; exact ⟨h1, h2⟩

theorem vl_ext {a b : Vl} (h1 : a.ok = b.ok) (h2 : a.n = b.n) : a = b := by cases a; cases b; simp at h1 h2; rw [h1, h2]
theorem kn_reverse (l : List Vl) : kn l.reverse = (kn l).reverse := by unfold kn; exact List.filter_reverse
theorem mx_reverse (k : List Vl) (hk : ∀ v ∈ k, Fx.num v = true) (h0 : 0 < k.length) : mx k.reverse = mx k := by
  have m1 := mx_mem h0
  have m2 := List.mem_reverse.1 (mx_mem (k := k.reverse) (by rw [List.length_reverse]; exact h0))
  have g1 := mx_ge (k := k.reverse) _ (List.mem_reverse.2 m1)
  have g2 := mx_ge (k := k) _ m2
  exact vl_ext (by rw [(num_eta (hk _ m1)).1, (num_eta (hk _ m2)).1]) (by omega)
theorem mn_reverse (k : List Vl) (hk : ∀ v ∈ k, Fx.num v = true) (h0 : 0 < k.length) : mn k.reverse = mn k := by
  have m1 := mn_mem h0
  have m2 := List.mem_reverse.1 (mn_mem (k := k.reverse) (by rw [List.length_reverse]; exact h0))
  have g1 := mn_le (k := k.reverse) _ (List.mem_reverse.2 m1)
  have g2 := mn_le (k := k) _ m2
  exact vl_ext (by rw [(num_eta (hk _ m1)).1, (num_eta (hk _ m2)).1]) (by omega)
/-- Turned around. -/
theorem tg_reverse (kind : Int) (l : List Vl) (hl : l.length ≤ 200) (hb : ∀ v ∈ l, -1125899906842624 ≤ v.n ∧ v.n ≤ 1125899906842624) (h3 : kind ≠ 3) : tg kind (kn l.reverse) = tg kind (kn l) := by
  rw [kn_reverse]
  have hk := kn_num l
  have hm : ∀ v ∈ kn l, Fx.num v = true ∧ -1125899906842624 ≤ v.n ∧ v.n ≤ 1125899906842624 := fun v hv => ⟨hk v hv, hb v (kn_mem l v hv)⟩
  have hkl := Nat.le_trans (kn_len l) hl
  generalize kn l = k at *
  by_cases h0 : k.length = 0
  · have e := List.eq_nil_of_length_eq_zero h0
    rw [e]; rfl
  have h0' : 0 < k.length := by omega
  have hr : k.reverse.length = k.length := List.length_reverse
  have hs : sum k.reverse = sum k := by
    rw [sum_small k hm hkl, sum_small k.reverse (fun v hv => hm v (List.mem_reverse.1 hv)) (by rw [hr]; exact hkl), total_reverse]
  by_cases h1 : kind = 1
  · subst h1; rw [tg_1 h0', tg_1 (by rw [hr]; exact h0'), hs, hr]
  by_cases h2 : kind = 2
  · subst h2; rw [tg_2 h0', tg_2 (by rw [hr]; exact h0'), hs]
  by_cases h4 : kind = 4
  · subst h4; rw [tg_4 h0', tg_4 (by rw [hr]; exact h0'), mx_reverse k hk h0']
  by_cases h5 : kind = 5
  · subst h5; rw [tg_5 h0', tg_5 (by rw [hr]; exact h0'), mn_reverse k hk h0']
  rw [tg_no h1 h2 h3 h4 h5, tg_no h1 h2 h3 h4 h5]
end Ag
end Go.Proofs.Ytjaclmhfagdfhaa
