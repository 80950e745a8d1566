/-
  CONTRACTS: chapter 3's law: are acts more than is looked at?
-/
import Derived.Test.YtiacpopgnmledaaVsAct6
namespace Go.Proofs.Ytiacpopgnmledaa
open Go.RowKit
open Me Vf
namespace Vs
def Light (l : List A) : Prop := ∀ k (h : k < l.length), k < 100 → l[k].name.length ≤ 300 ∧ l[k].b.length ≤ 5 ∧ ∀ x ∈ l[k].b, x.length ≤ 3000
theorem flat_light {l : List (List UInt8)} (h1 : l.length ≤ 5) (h2 : ∀ x ∈ l, x.length ≤ 3000) : l.flatten.length ≤ 15000 := by
  have key : ∀ (l : List (List UInt8)), (∀ x ∈ l, x.length ≤ 3000) → l.flatten.length ≤ l.length * 3000 := by
    intro l
    induction l with
    | nil => intro _; simp
    | cons a r ih =>
      intro h
      have h3 := ih (fun x hx => h x (by simp [hx]))
      have h4 := h a (by simp)
      rw [List.flatten_cons, List.length_append, List.length_cons]
      omega
  have := key l h2
  omega
theorem Acts.nth {w : World} {G : Nat → Prop} {v : Value} {l : List A} (h : Acts w G v l) (k : Nat) (hk : k < l.length) :
    ∃ rb ro c A2 c2, v = .slice (some ⟨rb, ro, none⟩) l.length c ∧ l.length ≤ c ∧ c ≤ maxLen ∧ w.cell? ⟨rb, ro + k * 5, none⟩ = some (.int .i64 l[k].kind) ∧ w.cell? ⟨rb, ro + k * 5 + 1, none⟩ = some (.int .i64 l[k].off) ∧ w.cell? ⟨rb, ro + k * 5 + 2, none⟩ = some (.int .i64 l[k].n) ∧
      w.cell? ⟨rb, ro + k * 5 + 3, none⟩ = some (.string ⟨(l[k].name).toArray⟩) ∧ w.cell? ⟨rb, ro + k * 5 + 4, none⟩ = some (.slice A2 (l[k].b).length c2) ∧ Vf.Ps w G (.slice A2 (l[k].b).length c2) l[k].b ∧ i64 l[k].kind ∧ i64 l[k].off ∧ i64 l[k].n ∧ l[k].name.length ≤ maxLen := by
  obtain ⟨A, c, xs, rfl, hc, hcm, hrd, hels⟩ := h
  obtain ⟨cs, ⟨⟨v, rfl, hp⟩, h1, h2, h3, h4⟩, hx⟩ := hels.get ActC.five k hk
  have hxl := hels.length ActC.five
  obtain ⟨rb, ro, rfl, hlt, hg, hcell⟩ := hrd.lit (k * 5) (by omega)
  have hp2 := hp
  obtain ⟨A2, c2, xs2, rfl, _⟩ := hp
  have key : ∀ i u, i < 5 → ([Value.int .i64 l[k].kind, .int .i64 l[k].off, .int .i64 l[k].n, .string ⟨(l[k].name).toArray⟩, .slice A2 (l[k].b).length c2] : List Value)[i]? = some u → w.cell? ⟨rb, ro + k * 5 + i, none⟩ = some u := fun i u hi hu => by
    have := hcell (k * 5 + i) u ((hx i hi).trans hu)
    rwa [← Nat.add_assoc] at this
  exact ⟨rb, ro, c, A2, c2, rfl, hc, hcm, key 0 _ (by omega) rfl, key 1 _ (by omega) rfl, key 2 _ (by omega) rfl, key 3 _ (by omega) rfl, key 4 _ (by omega) rfl, hp2, h1, h2, h3, h4⟩
def Weighed (l : List A) (w : World) (e : Ending) (w' : World) : Prop := (∃ r : Bool, e = .returned (.bool r) ∧ (r = false → Light l)) ∧ w = w'
end Vs

set_option maxRecDepth 100000 in
set_option maxHeartbeats 2000000 in
theorem heavy_any (l : List Vs.A) (v : Value) (G : Nat → Prop) (w : World) (h : Vs.Acts w G v l) :
    Calls Try.prog 6 #[v] w (Vs.Weighed l w) := by
  have H := Lib.hid h
  obtain ⟨A, c, xs, rfl, hc, hcm, _⟩ := h
  unfold maxLen at hcm
  go_enter Try.func6, Try.ntmps6
  go_wp2_with fail
  go_loop [3, 4] (fun n i => ∃ (k : Nat) (x : Int), k ≤ l.length ∧ k ≤ 100 ∧ i = .int .i64 k ∧ n = .int .i64 x ∧ 0 ≤ x ∧ x ≤ 30000 ∧ Hid (∀ j (hj : j < l.length), j < k → l[j].name.length ≤ 300 ∧ l[j].b.length ≤ 5 ∧ ∀ x ∈ l[j].b, x.length ≤ 3000)) (fun _ i => l.length - (intOf i).toNat)
  case atStart => exact ⟨0, 0, Nat.zero_le _, Nat.zero_le _, rfl, rfl, by omega, by omega, Lib.hid (fun j _ h => absurd h (by omega))⟩
  case round =>
    obtain ⟨k, x, hk, hk2, rfl, rfl, x0, x1, hall⟩ := hrel
    by_cases hlt : k < l.length
    · by_cases h100 : k < 100
      · obtain ⟨rb, ro, c', A2, c2, he, _, _, d0, d1, d2, d3, d4, hps, _, _, _, hnl⟩ := H.out.nth k hlt
        injection he with he1 he2 he3
        subst he1 he3
        unfold maxLen at hnl
        have HPS := Lib.hid hps
        obtain ⟨A3, c3, xs2, he, hc2, hcm2, hrd2, hels2⟩ := hps
        injection he with he1 he2 he3
        subst he1 he3
        unfold maxLen at hcm2
        have HR := Lib.hid hrd2
        have HE := Lib.hid hels2
        have HA : Hid (l[k].name.length ≤ 300 → l[k].b.length ≤ 5 → (∀ x ∈ l[k].b, x.length ≤ 3000) → ∀ j (hj : j < l.length), j < k + 1 → l[j].name.length ≤ 300 ∧ l[j].b.length ≤ 5 ∧ ∀ x ∈ l[j].b, x.length ≤ 3000) := Lib.hid fun p1 p2 p3 j hj hjk => by
          by_cases e : j = k
          · subst e; exact ⟨p1, p2, p3⟩
          · exact hall.out j hj (by omega)
        have hk' : (k : Int) < (l.length : Int) := by omega
        have hk3 : (k : Int) < 100 := by omega
        clear hrd2 hels2 d0 d1 d2
        generalize l[k].name = nm at *
        generalize l[k].b = b at *
        by_cases hn : (300 : Int) < (nm.length : Int)
        · go_wp2_with fail
          all_goals
            go_ret
            exact ⟨⟨true, rfl, fun h => by cases h⟩, rfl⟩
        · by_cases hb : (5 : Int) < (b.length : Int)
          · go_wp2_with fail
            all_goals
              go_ret
              exact ⟨⟨true, rfl, fun h => by cases h⟩, rfl⟩
          · have hnn : (nm.length : Int) ≤ 300 := by omega
            have hbb : (b.length : Int) ≤ 5 := by omega
            by_cases hx : (12000 : Int) < x + 20 + (nm.length : Int)
            · go_wp2_with fail
              all_goals
                go_ret
                exact ⟨⟨true, rfl, fun h => by cases h⟩, rfl⟩
            · have hx' : x + 20 + (nm.length : Int) ≤ 12000 := by omega
              go_wp2_with fail
              go_loop [3, 5] (fun n i => ∃ (q : Nat) (y : Int), q ≤ b.length ∧ i = .int .i64 q ∧ n = .int .i64 y ∧ 0 ≤ y ∧ y ≤ 12000 + 3000 * (q : Int) ∧ Hid (∀ j (hj : j < b.length), j < q → b[j].length ≤ 3000)) (fun _ i => b.length - (intOf i).toNat)
              case atStart => exact ⟨0, _, Nat.zero_le _, rfl, rfl, by omega, by omega, Lib.hid (fun j _ h => absurd h (by omega))⟩
              case round =>
                obtain ⟨q, y, hq, rfl, rfl, y0, y1, hin⟩ := hrel
                by_cases hql : q < b.length
                · obtain ⟨cs, ⟨v, rfl, hbs⟩, hxx⟩ := HE.out.get Vf.BsC.one q hql
                  have hxl := HE.out.length Vf.BsC.one
                  obtain ⟨sb, so, rfl, _, _, hcell⟩ := HR.out.lit (q * 1) (by omega)
                  obtain ⟨A4, c4, rfl, _, hcm4, _⟩ := hbs
                  have g0 : w.cell? ⟨sb, so + q, none⟩ = some (.slice A4 (b[q]).length c4) := by have := hcell _ _ (hxx 0 (by omega)); simpa using this
                  have hq5 : (q : Int) ≤ 4 := by omega
                  have hqb : (q : Int) < (b.length : Int) := by omega
                  clear hxx hxl hcell
                  unfold maxLen at hcm4
                  have hM : (b[q].length : Int) ≤ 9223372036854775807 := by
                    have := HPS.out
                    obtain ⟨_, _, xs9, _, _, _, _, he9⟩ := this
                    obtain ⟨cs9, ⟨v9, _, hb9⟩, _⟩ := he9.get Vf.BsC.one q hql
                    obtain ⟨_, c9, _, h9, h10, _⟩ := hb9
                    unfold maxLen at h10
                    omega
                  have HB : Hid (b[q].length ≤ 3000 → ∀ j (hj : j < b.length), j < q + 1 → b[j].length ≤ 3000) := Lib.hid fun p j hj hjq => by
                    by_cases e : j = q
                    · subst e; exact p
                    · exact hin.out j hj (by omega)
                  generalize b[q].length = m at *
                  by_cases hm : (3000 : Int) < (m : Int)
                  · go_wp2_with fail
                    all_goals
                      go_ret
                      exact ⟨⟨true, rfl, fun h => by cases h⟩, rfl⟩
                  · have hm' : (m : Int) ≤ 3000 := by omega
                    go_wp2_with fail
                    go_round
                    case rel => exact ⟨q + 1, _, by omega, by go_num, rfl, by omega, by omega, Lib.hid (HB.out (by omega))⟩
                    case measure => simp [intOf]; omega
                · obtain rfl : q = b.length := by omega
                  go_wp2_with fail
                  go_round
                  case rel => exact ⟨k + 1, y, by omega, by omega, by go_num, rfl, by omega, by omega, Lib.hid (HA.out (by omega) (by omega) (fun x hx => by
                    obtain ⟨j, hj, rfl⟩ := List.getElem_of_mem hx
                    exact hin.out j hj hj))⟩
                  case measure => simp [intOf]; omega
      · obtain rfl : k = 100 := by omega
        have HF : Hid (Vs.Light l) := Lib.hid (fun j hj h => hall.out j hj h)
        go_wp2_with fail
        all_goals
          go_ret
          exact ⟨⟨_, rfl, fun _ => HF.out⟩, rfl⟩
    · obtain rfl : k = l.length := by omega
      have HF : Hid (Vs.Light l) := Lib.hid (fun j hj _ => hall.out j hj hj)
      go_wp2_with fail
      all_goals
        go_ret
        exact ⟨⟨_, rfl, fun _ => HF.out⟩, rfl⟩
end Go.Proofs.Ytiacpopgnmledaa
