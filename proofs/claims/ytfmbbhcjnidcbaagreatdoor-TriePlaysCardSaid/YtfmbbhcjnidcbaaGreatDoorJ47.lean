/-
  GlAll: CONTRACTS: chapter 9: all that a pattern stands for (the document's own).
-/
import Derived.Test.YtfmbbhcjnidcbaaGreatDoorJ46
import Derived.RegionTactic
import Derived.Deep.RegionLaw

namespace Go.Proofs.YtfmbbhcjnidcbaaGreatDoor
open Go.RowKit
open Me

namespace Gl
def AllAsk (m : Nat) : Prop := ∀ (s : List UInt8) (L : List (List UInt8)), s.length ≤ m → s.length ≤ 4294967270 → Gr false s L → ∀ w, Calls Tryz.prog 52 #[.string ⟨s.toArray⟩] w (GaveA w L)
end Gl

set_option maxRecDepth 100000 in
set_option maxHeartbeats 2000000 in
theorem all_plain (s : List UInt8) (hl : s.length ≤ 4294967270) (hp : Gl.noSp s = true) (w : World) :
    Calls Tryz.prog 52 #[.string ⟨s.toArray⟩] w (Gl.GaveA w [s]) := by
  have hs : (⟨s.toArray⟩ : ByteArray).size = s.length := by show s.toArray.size = _; simp
  have HN : Hid (∀ i (h : i < s.length), s[i] ≠ 123) := Lib.hid fun i h e => by
    have := List.all_eq_true.1 hp s[i] (List.getElem_mem h)
    rw [e] at this; simp at this
  have hsl : (s.length : Int) ≤ 4294967270 := by omega
  clear hp
  go_enter Tryz.func52, Tryz.ntmps52
  go_wp2_with fail
  go_loop [4] (fun x => ∃ i : Nat, i ≤ s.length ∧ x = .int .i64 i) (fun x => s.length - (intOf x).toNat)
  case atStart => exact ⟨0, Nat.zero_le _, rfl⟩
  case round =>
    obtain ⟨i, hi, rfl⟩ := hrel
    have hi0 : (0 : Int) ≤ (i : Int) := by omega
    by_cases hlt : i < s.length
    · have hil : (i : Int) < (s.length : Int) := by omega
      have e1 : ((((⟨s.toArray⟩ : ByteArray)[i]'hlt).toNat : Int) == 123) = decide (s[i] = 123) := Gl.byteEq s[i] 123
      have e2 : ((((⟨s.toArray⟩ : ByteArray)[i]'hlt).toNat : Int) != 123) = !decide (s[i] = 123) := Gl.byteNe s[i] 123
      rw [decide_eq_false (HN.out i hlt)] at e1 e2
      go_wp2_with fail
      go_round
      case rel => exact ⟨i + 1, by omega, by go_num⟩
      case measure => simp [intOf]; omega
    · obtain rfl : i = s.length := by omega
      have HO := Lib.hid (OwnS.new w [s] (by simp [maxLen]))
      have HB := Lib.hid ((Below.refl w.heap.size w).alloc (Nat.le_refl _) (.cells (byS [s]).toArray 9))
      go_wp2_with fail
      ((try simp only [Exit.inBlock, Exit.then]); refine bodyPost_ret (results_tmp2 rfl _ _ _) rfl ?_)
      exact Gl.GaveA.yes HB.out (by simp) HO.out

namespace Gl
/-- A group's text, taken apart. -/
structure Grp (s p r : List UInt8) (e : Nat) (ps : List (List UInt8 × List (List UInt8))) (m : Nat) : Prop where
  hp : p.length < s.length
  no : ∀ i (h : i < p.length), ∀ (h2 : i < s.length), s[i] ≠ 123
  at_ : s[p.length] = 123
  ends : ∀ w, Calls Tryz.prog 75 #[.string ⟨s.toArray⟩, .int .i64 p.length] w fun x w' => ∃ v, x = .returned (.tuple #[.int .i64 (e : Int), v]) ∧ OwnS w.heap.size w' v (ps.map (·.1)) ∧ Below w.heap.size w w'
  he : e + 1 ≤ s.length
  rest : s.drop (e + 1) = r
  head : s.take p.length = p
  each : ∀ x ∈ ps, Gr false x.1 x.2 ∧ x.1.length ≤ m
  cnt : ps.length ≤ s.length
theorem Grp.of {p g r : List UInt8} {M : List (List UInt8)} (hp : noSp p = true) (hg : Gr true g M) (hl : (p ++ 123 :: (g ++ 125 :: r)).length ≤ 4294967270) :
    ∃ ps, Grp (p ++ 123 :: (g ++ 125 :: r)) p r (p.length + 1 + g.length) ps g.length ∧ M = (ps.map (·.2)).flatten := by
  obtain ⟨ps, h1, h2, _, h4⟩ := hg.texts r
  have hlen : (p ++ 123 :: (g ++ 125 :: r)).length = p.length + 1 + g.length + 1 + r.length := by simp; omega
  have hd : (p ++ 123 :: (g ++ 125 :: r)).drop (p.length + 1) = g ++ 125 :: r := by
    rw [← List.drop_drop, List.drop_left]; rfl
  have hi : p.length < (p ++ 123 :: (g ++ 125 :: r)).length := by omega
  have hat : (p ++ 123 :: (g ++ 125 :: r))[p.length] = 123 := by simp
  refine ⟨ps, ⟨hi, ?_, hat, fun w => ends_any _ p.length g.length _ hl hi hat (by rw [hd]; exact h1) w, by omega, ?_, by simp, h4, ?_⟩, h2⟩
  · intro i h h2 e
    rw [List.getElem_append_left h] at e
    have := List.all_eq_true.1 hp p[i] (List.getElem_mem h)
    rw [e] at this; simp at this
  · have : p.length + 1 + g.length + 1 = (p.length + 1) + (g.length + 1) := by omega
    rw [this, ← List.drop_drop, hd, ← List.drop_drop, List.drop_left]; rfl
  · have := eF_len _ _ _ _ _ h1
    rw [List.length_map] at this
    simp at this ⊢
    omega
end Gl

set_option maxRecDepth 100000 in
set_option maxHeartbeats 4000000 in
theorem all_group (m : Nat) (IH : Hid (Gl.AllAsk m)) (s p r : List UInt8) (e : Nat) (ps : List (List UInt8 × List (List UInt8))) (gl : Nat) (hG : Gl.Grp s p r e ps gl) (R : List (List UInt8)) (hr : Gl.Gr false r R)
    (hgm : gl ≤ m) (hrm : r.length ≤ m) (hl : s.length ≤ 4294967270) (hgb : gl ≤ 4294967270) (hMp : 0 < ((ps.map (·.2)).flatten).length) (w : World) :
    Calls Tryz.prog 52 #[.string ⟨s.toArray⟩] w (Gl.GaveA w (Gl.acc p ((ps.map (·.2)).flatten) R)) := by
  have hs : (⟨s.toArray⟩ : ByteArray).size = s.length := by show s.toArray.size = _; simp
  obtain ⟨i0, hi0, hz0, hz1, hz2⟩ := info_parts strinfoN
  have HI := Lib.hid hi0
  have HZ := Lib.hid (And.intro hz0 (And.intro hz1 hz2))
  clear hi0 hz0 hz1 hz2
  have hsl : (s.length : Int) ≤ 4294967270 := by omega
  have hps := hG.hp
  have hes := hG.he
  have hcnt : (ps.length : Int) ≤ 4294967270 := by have := hG.cnt; omega
  have HN := Lib.hid hG.no
  have HA : Hid (s[p.length]'hps = 123) := Lib.hid hG.at_
  have HEn := Lib.hid hG.ends
  have hd1 : (⟨s.toArray⟩ : ByteArray).extract (e + 1) s.length = ⟨r.toArray⟩ := by rw [Gl.dropB, hG.rest]
  have hd2 : (⟨s.toArray⟩ : ByteArray).extract 0 p.length = ⟨p.toArray⟩ := by rw [Gl.takeB, hG.head]
  have HEa := Lib.hid hG.each
  have HFl := Lib.hid (Gl.flat_le ps)
  have HFa := Lib.hid (Gl.flat_all ps)
  have HFs := Lib.hid (Gl.flat_succ ps)
  have hrl : r.length ≤ 4294967270 := by
    have h2 : (s.drop (e + 1)).length = r.length := by rw [hG.rest]
    rw [List.length_drop] at h2; omega
  have HRa := Lib.hid (fun W => IH.out r R hrm hrl hr W)
  have HRp := Lib.hid hr.pos
  have HRl := Lib.hid (fun x hx => Nat.le_trans (hr.len x hx) hrl)
  have HEl : Hid (∀ k (h : k < ps.length), (ps[k].1).length ≤ m ∧ (ps[k].1).length ≤ 4294967270) := Lib.hid fun k h => by
    have := (hG.each ps[k] (List.getElem_mem h)).2
    exact ⟨by omega, by omega⟩
  generalize hM : (ps.map (·.2)).flatten = Mall at *
  have HMp := Lib.hid hMp
  clear hG hr hM hMp hgb hgm hrm hrl
  go_enter Tryz.func52, Tryz.ntmps52
  go_wp2_with fail
  go_loop [4] (fun x => ∃ i : Nat, i ≤ p.length ∧ x = .int .i64 i) (fun x => p.length - (intOf x).toNat)
  case atStart => exact ⟨0, Nat.zero_le _, rfl⟩
  case round =>
    obtain ⟨i, hi, rfl⟩ := hrel
    have hi0 : (0 : Int) ≤ (i : Int) := by omega
    have hlt : i < s.length := by omega
    have hil : (i : Int) < (s.length : Int) := by omega
    have e1 : ((((⟨s.toArray⟩ : ByteArray)[i]'hlt).toNat : Int) == 123) = decide (s[i] = 123) := Gl.byteEq s[i] 123
    have e2 : ((((⟨s.toArray⟩ : ByteArray)[i]'hlt).toNat : Int) != 123) = !decide (s[i] = 123) := Gl.byteNe s[i] 123
    by_cases hip : i < p.length
    · rw [decide_eq_false (HN.out i hip hlt)] at e1 e2
      clear HN HA
      go_wp2_with fail
      go_round
      case rel => exact ⟨i + 1, by omega, by go_num⟩
      case measure => simp [intOf]; omega
    obtain rfl : i = p.length := by omega
    rw [decide_eq_true HA.out] at e1 e2
    have hpe : ((p.length : Int) == (s.length : Int)) = false := by simp; omega
    have he0 : (0 : Int) ≤ (e : Int) := by omega
    have he9 : (e : Int) + 1 ≤ (s.length : Int) := by omega
    clear HN HA
    by_cases hR : R.length ≤ 512
    · have HRy : Hid (∀ W, Calls Tryz.prog 52 #[.string ⟨r.toArray⟩] W fun x w' => ∃ v, x = .returned (.tuple #[v, .bool true]) ∧ OwnS W.heap.size w' v R ∧ Below W.heap.size W w') := Lib.hid fun W => (HRa.out W).mono fun x w' h => by
        obtain ⟨v, h1, h2, h3⟩ := h
        rw [decide_eq_true hR] at h1
        rw [if_pos hR] at h2
        exact ⟨v, h1, h2, h3⟩
      clear HRa
      go_wp2_with first
        | (go_at_call 75; go_must (refine (HEn.out _).mono ?_; rintro x w1 ⟨v1, rfl, ho1, hb1⟩; obtain ⟨A1, c1, hv1⟩ := ho1.slice; rw [List.length_map] at hv1; obtain rfl := hv1))
        | (go_at_call 52; go_must (refine (HRy.out _).mono ?_; rintro x w2 ⟨v2, rfl, ho2, hb2⟩; obtain ⟨A2, c2, rfl⟩ := ho2.slice; have hB2 := hb1.trans (hb2.mono hb1.size)))
      have HL : Hid (∀ k (h : k < ps.length), ∃ b o, A1 = some ⟨b, o, none⟩ ∧ b < w2.heap.size ∧ w2.cell? ⟨b, o + k, none⟩ = some (.string ⟨((ps[k]).1).toArray⟩)) := Lib.hid fun k h => by
        have ho1' : w1.ownsRow w.heap.size 9 1 (.slice A1 ps.length c1) ps.length (byS (ps.map (·.1))) := by have h0 := ho1; unfold OwnS at h0; rw [List.length_map] at h0; exact h0
        obtain ⟨b, o, h1, h2, _, h4⟩ := ((Rd.own ho1').below hb2).lit k (by rw [byS_len, List.length_map]; exact h)
        exact ⟨b, o, h1, h2, h4 k _ (by rw [byS_get _ k (by rw [List.length_map]; exact h), List.getElem_map])⟩
      have HR2 : Hid (∀ k (h : k < R.length), ∃ b o, A2 = some ⟨b, o, none⟩ ∧ b < w2.heap.size ∧ w2.cell? ⟨b, o + k, none⟩ = some (.string ⟨(R[k]).toArray⟩)) := Lib.hid fun k h => by
        obtain ⟨b, o, h1, h2, _, h4⟩ := (Rd.own ho2).lit k (by rw [byS_len]; exact h)
        exact ⟨b, o, h1, h2, h4 k _ (byS_get _ k h)⟩
      have hB2' := hB2
      have HB2 := Lib.hid hB2'
      have hsz2 := hB2.size
      clear ho1 ho2 hb1 hb2 hB2 HEn HRy hd1 hpe
      have hpl : (p.length : Int) ≤ (s.length : Int) := by omega
      go_loopw [9, 10] (fun u x wr => ∃ k : Nat, k ≤ ps.length ∧ x = .int .i64 k ∧ (Gl.acc p (Gl.flat ps k) R).length ≤ 512 ∧ Hid (OwnS w2.heap.size wr u (Gl.acc p (Gl.flat ps k) R)) ∧ Hid (Below w2.heap.size w2 wr)) (fun _ x _ => ps.length - (intOf x).toNat)
      case atStart => exact ⟨0, Nat.zero_le _, rfl, by unfold Gl.flat; simp [Gl.acc_nil], Lib.hid (by unfold Gl.flat; simp [Gl.acc_nil]; exact OwnS.nil _ _), Lib.hid (Below.refl _ _)⟩
      case round =>
        obtain ⟨k, hk, rfl, hD5, HO, HB⟩ := hrel
        have hk0 : (0 : Int) ≤ (k : Int) := by omega
        by_cases hkt : k < ps.length
        · obtain ⟨lb, lo, rfl, hlb, hx⟩ := HL.out k hkt
          have ec := (HB.out.cell (p := ⟨lb, lo + k, none⟩) hlb).trans hx
          have hkl : (k : Int) < (ps.length : Int) := by omega
          clear hx
          have HEk := Lib.hid (fun W => IH.out ps[k].1 ps[k].2 (HEl.out k hkt).1 (HEl.out k hkt).2 (HEa.out ps[k] (List.getElem_mem hkt)).1 W)
          have HMx : Hid (∀ x ∈ ps[k].2, x.length ≤ 4294967270) := Lib.hid fun x hx => Nat.le_trans ((HEa.out ps[k] (List.getElem_mem hkt)).1.len x hx) (HEl.out k hkt).2
          have HFk := Lib.hid (HFs.out k hkt)
          have HFk1 := HFl.out (k + 1)
          rw [HFk.out, List.length_append] at HFk1
          have HFle := Lib.hid HFk1
          have hDl := Gl.acc_len p (Gl.flat ps k) R
          have HDl := Lib.hid hDl
          clear HFk1 hDl
          have HApp : Hid (Gl.acc p (Gl.flat ps (k + 1)) R = Gl.acc p (Gl.flat ps k) R ++ Gl.acc p ps[k].2 R) := Lib.hid (by rw [HFk.out, Gl.acc_append])
          have HBw := Lib.hid (HB2.out.trans (HB.out.mono hsz2))
          have hwz := HBw.out.size
          generalize ps[k].1 = t at *
          generalize ps[k].2 = Mk at *
          generalize Gl.acc p (Gl.flat ps k) R = D at *
          generalize hDn : Gl.acc p (Gl.flat ps (k + 1)) R = Dn at *
          replace hDn := Lib.hid hDn
          clear HFk
          generalize Gl.flat ps k = F at *
          obtain ⟨A9, c9, rfl⟩ := HO.out.slice
          have HBig1 : Hid (512 < Mk.length → 512 < (Gl.acc p Mall R).length) := Lib.hid fun h => by
            rw [Gl.acc_len]
            exact Nat.lt_of_lt_of_le (by have := HFle.out; omega) (Nat.le_mul_of_pos_right _ HRp.out)
          have HBig2 : Hid (512 < D.length + Mk.length * R.length → 512 < (Gl.acc p Mall R).length) := Lib.hid fun h => by
            rw [Gl.acc_len]
            have h2 := Nat.mul_le_mul HFle.out (Nat.le_refl R.length)
            rw [Nat.add_mul, ← HDl.out] at h2
            omega
          by_cases hMk : Mk.length ≤ 512
          · have HEy : Hid (∀ W, Calls Tryz.prog 52 #[.string ⟨t.toArray⟩] W fun x w' => ∃ v, x = .returned (.tuple #[v, .bool true]) ∧ OwnS W.heap.size w' v Mk ∧ Below W.heap.size W w') := Lib.hid fun W => (HEk.out W).mono fun x w' h => by
              obtain ⟨v, h1, h2, h3⟩ := h
              rw [decide_eq_true hMk] at h1
              rw [if_pos hMk] at h2
              exact ⟨v, h1, h2, h3⟩
            obtain ⟨P, hP⟩ : ∃ P, P = Mk.length * R.length := ⟨_, rfl⟩
            have hP9 : P ≤ 262144 := by rw [hP]; exact Nat.mul_le_mul hMk hR
            have hmul : IntKind.i64.wrap ((Mk.length : Int) * (R.length : Int)) = (P : Int) := by
              rw [show (Mk.length : Int) * (R.length : Int) = (P : Int) by rw [hP]; exact (Int.natCast_mul _ _).symm]
              exact IntWalk.i64_in _ (by omega)
            rw [← hP] at HBig2
            have HPe := Lib.hid hP
            clear HEk HBig1 hP
            by_cases hb5 : 512 < D.length + P
            · have hb5' : (512 : Int) < (D.length : Int) + (P : Int) := by omega
              have HBg := Lib.hid (HBig2.out hb5)
              clear HBig2 hb5
              go_wp2_with (go_at_call 52; go_must (refine (HEy.out _).mono ?_; rintro x w3 ⟨v3, rfl, ho3, hb3⟩; obtain ⟨A3, c3, rfl⟩ := ho3.slice; have hB3 := HBw.out.trans (hb3.mono hwz)))
              ((try simp only [Exit.inBlock, Exit.then]); refine bodyPost_ret (results_tmp2 rfl _ _ _) rfl ?_)
              exact Gl.GaveA.no hB3 HBg.out
            have hb5' : ¬ (512 : Int) < (D.length : Int) + (P : Int) := by omega
            clear HBig2
            obtain ⟨n0, hn0⟩ : ∃ n0, n0 = wr.heap.size := ⟨_, rfl⟩
            go_wp2_with (go_at_call 52; go_must (refine (HEy.out _).mono ?_; rintro x w3 ⟨v3, rfl, ho3, hb3⟩; obtain ⟨A3, c3, rfl⟩ := ho3.slice))
            obtain ⟨n1, hn1⟩ : ∃ n1, n1 = w3.heap.size := ⟨_, rfl⟩
            have HGa : Hid (Gl.Gath w2 n0 n1 A3 Mk w3 (.slice A9 D.length c9) D) := Lib.hid ⟨HO.out.below hb3, HB.out.trans (hb3.mono HB.out.size), fun b hb => .inl (by rw [hn0]; exact (World.ownsRow.lt HO.out b hb).2), by rw [hn1]; exact Nat.le_refl _, (Rd.own ho3).mono fun i _ e => by rw [hn0, hn1]; exact World.ownsRow.lt ho3 i e⟩
            clear ho3 hb3 hn0 hn1 HEy HO HB HBw hwz ec hmul
            go_loopw [9, 13] (fun u x wr => ∃ j : Nat, j ≤ Mk.length ∧ x = .int .i64 j ∧ Hid (Gl.Gath w2 n0 n1 A3 Mk wr u (D ++ Gl.acc p (Mk.take j) R))) (fun _ x _ => Mk.length - (intOf x).toNat)
            case atStart => exact ⟨0, Nat.zero_le _, rfl, by rw [List.take_zero, Gl.acc_nil, List.append_nil]; exact HGa⟩
            case round =>
              obtain ⟨j, hj, rfl, HG⟩ := hrel
              have hj0 : (0 : Int) ≤ (j : Int) := by omega
              obtain ⟨A4, c4, rfl⟩ := HG.out.own.slice
              by_cases hjt : j < Mk.length
              · have hjl : (j : Int) < (Mk.length : Int) := by omega
                have HT := Lib.hid (Gl.acc_take p Mk R j hjt)
                have hjt' := hjt
                go_wp2_with fail
                go_loopw [9, 14] (fun u x wr => ∃ h : Nat, h ≤ R.length ∧ x = .int .i64 h ∧ Hid (Gl.Gath w2 n0 n1 A3 Mk wr u (D ++ Gl.acc p (Mk.take j) R ++ (R.take h).map fun b => p ++ Mk[j] ++ b))) (fun _ x _ => R.length - (intOf x).toNat)
                case atStart => exact ⟨0, Nat.zero_le _, rfl, by simpa using HG⟩
                case round =>
                  obtain ⟨h, hh, rfl, HH⟩ := hrel
                  have hh0 : (0 : Int) ≤ (h : Int) := by omega
                  obtain ⟨A5, c5, rfl⟩ := HH.out.own.slice
                  by_cases hht : h < R.length
                  · have hhl : (h : Int) < (R.length : Int) := by omega
                    obtain ⟨mb, mo, rfl, hmb, _, hmx⟩ := HH.out.rd.lit j (by rw [byS_len]; exact hjt)
                    have ec1 := hmx j _ (byS_get Mk j hjt)
                    obtain ⟨rb, ro, rfl, hrb, hrx⟩ := HR2.out h hht
                    have ec2 := (HH.out.bel.cell (p := ⟨rb, ro + h, none⟩) hrb).trans hrx
                    clear hmx hrx
                    have hD511 : (D ++ Gl.acc p (Mk.take j) R ++ (R.take h).map fun b => p ++ Mk[j] ++ b).length + 1 ≤ 512 := by
                      have h2 := Nat.mul_le_mul hjt' (Nat.le_refl R.length)
                      rw [← HPe.out, Nat.succ_mul] at h2
                      rw [List.length_append, List.length_append, Gl.acc_len, List.length_map, List.length_take, List.length_take, Nat.min_eq_left hj, Nat.min_eq_left hh]
                      omega
                    have hx9 := HMx.out Mk[j] (List.getElem_mem hjt)
                    have hy9 := HRl.out R[h] (List.getElem_mem hht)
                    obtain ⟨seg, hseg⟩ : ∃ seg, seg = p ++ Mk[j] ++ R[h] := ⟨_, rfl⟩
                    have hcat : (⟨p.toArray⟩ : ByteArray) ++ ⟨(Mk[j]).toArray⟩ ++ ⟨(R[h]).toArray⟩ = ⟨seg.toArray⟩ := by
                      rw [hseg]; apply ByteArray.ext; simp
                    have HPush : Hid ((D ++ Gl.acc p (Mk.take j) R ++ (R.take h).map fun b => p ++ Mk[j] ++ b) ++ [seg] = D ++ Gl.acc p (Mk.take j) R ++ (R.take (h + 1)).map fun b => p ++ Mk[j] ++ b) := Lib.hid (by
                      rw [Gl.map_take _ R h hht, hseg, List.append_assoc])
                    clear hseg HT
                    generalize hDD : (D ++ Gl.acc p (Mk.take j) R ++ (R.take h).map fun b => p ++ Mk[j] ++ b) = DD at *
                    generalize hDE : (D ++ Gl.acc p (Mk.take j) R ++ (R.take (h + 1)).map fun b => p ++ Mk[j] ++ b) = DE at *
                    replace hDE := Lib.hid hDE
                    clear hDD
                    have hpz : (⟨p.toArray⟩ : ByteArray).size = p.length := by show p.toArray.size = _; simp
                    have hxz : (⟨(Mk[j]).toArray⟩ : ByteArray).size = (Mk[j]).length := by show (Mk[j]).toArray.size = _; simp
                    have hyz : (⟨(R[h]).toArray⟩ : ByteArray).size = (R[h]).length := by show (R[h]).toArray.size = _; simp
                    have hpn : p.length ≤ 4294967270 := by omega
                    have hpx : ¬ (9223372036854775807 < p.length + (Mk[j]).length) := by omega
                    have hpxy : ¬ (9223372036854775807 < p.length + (Mk[j]).length + (R[h]).length) := by omega
                    generalize Mk[j] = x at *
                    generalize R[h] = y at *
                    have HO1 : Hid (OwnS w2.heap.size (wr.alloc (.cells #[.string ⟨seg.toArray⟩] 9)) (.slice A5 DD.length c5) DD) := Lib.hid (HH.out.own.below ((Below.refl _ _).alloc (Nat.le_refl _) _))
                    have HFr := Lib.hid (Rd.fresh wr [.string ⟨seg.toArray⟩] 9 wr.heap.size rfl)
                    have hw2r := HH.out.bel.size
                    go_wp2_with fail
                    go_region_law (refine step_app _ rfl (.tmp 88) (.tmp 102) 27 rfl w2.heap.size 9 i0 _ 1 16 Tryz.underlying27 HI.out HZ.out.1 HZ.out.2.1 HZ.out.2.2 rfl (by decide) (.slice A5 DD.length c5) DD.length (byS DD) (by simp [Act.eval]) HO1.out (fun b => b = wr.heap.size) (some ⟨wr.heap.size, 0, none⟩) 1 1 [.string ⟨seg.toArray⟩] (by simp [Act.eval]) (by simp) HFr.out (by intro u hu; simp at hu; subst hu; rfl) (by unfold maxLen; omega) (by omega) (by simp; omega) ?_; intro v2 w4 hown2 hg2 hat2 hnil2; have HO2 := Lib.hid hown2; have HG2 := Lib.hid hg2; have HA2 := Lib.hid hat2; clear hown2 hg2 hat2 hnil2)
                    all_goals
                      have HPn := Lib.hid (HH.out.push (((Below.refl _ _).alloc (Nat.le_refl _) _).drew) HO2.out HG2.out HA2.out)
                      rw [HPush.out] at HPn
                      clear HO2 HG2 HA2 HO1 HFr HPush
                      go_wp2_with fail
                      go_roundw
                      case rel => exact ⟨h + 1, by omega, by go_num, by rw [hDE.out]; exact HPn⟩
                      case measure => simp [intOf]; omega
                  · obtain rfl : h = R.length := by omega
                    rw [List.take_length] at HH
                    have HHn : Hid (Gl.Gath w2 n0 n1 A3 Mk wr (.slice A5 (D ++ Gl.acc p (Mk.take j) R ++ (R.take R.length).map fun b => p ++ Mk[j] ++ b).length c5) (D ++ Gl.acc p (Mk.take (j + 1)) R)) := Lib.hid (by rw [HT.out, ← List.append_assoc]; simpa using HH.out)
                    clear HH HT
                    go_wp2_with fail
                    go_roundw
                    case rel => exact ⟨j + 1, by omega, by go_num, HHn⟩
                    case measure => simp [intOf]; omega
              · obtain rfl : j = Mk.length := by omega
                rw [List.take_length] at HG
                have HDn : Hid (Gl.Gath w2 n0 n1 A3 Mk wr (.slice A4 (D ++ Gl.acc p (Mk.take Mk.length) R).length c4) Dn) := Lib.hid (by rw [HApp.out]; simpa using HG.out)
                have hDl5 : Dn.length ≤ 512 := by rw [HApp.out, List.length_append, Gl.acc_len, ← HPe.out]; omega
                go_wp2_with fail
                go_roundw
                case rel => exact ⟨k + 1, by omega, by go_num, by rw [hDn.out]; exact hDl5, by rw [hDn.out]; exact Lib.hid HDn.out.own, Lib.hid HDn.out.bel⟩
                case measure => simp [intOf]; omega
          · have HBg := Lib.hid (HBig1.out (by omega))
            have HEn1 : Hid (∀ W, Calls Tryz.prog 52 #[.string ⟨t.toArray⟩] W fun x w' => ∃ v, x = .returned (.tuple #[v, .bool false]) ∧ Below W.heap.size W w') := Lib.hid fun W => (HEk.out W).mono fun x w' h => by
              obtain ⟨v, h1, _, h3⟩ := h
              rw [decide_eq_false hMk] at h1
              exact ⟨v, h1, h3⟩
            clear HEk HBig1 HBig2
            go_wp2_with (go_at_call 52; go_must (refine (HEn1.out _).mono ?_; rintro x w3 ⟨v3, rfl, hb3⟩; have hB3 := HBw.out.trans (hb3.mono hwz)))
            ((try simp only [Exit.inBlock, Exit.then]); refine bodyPost_ret (results_tmp2 rfl _ _ _) rfl ?_)
            exact Gl.GaveA.no hB3 HBg.out
        · obtain rfl : k = ps.length := by omega
          rw [HFa.out] at hD5 HO
          go_wp2_with fail
          ((try simp only [Exit.inBlock, Exit.then]); refine bodyPost_ret (results_tmp2 rfl _ _ _) rfl ?_)
          exact Gl.GaveA.yes (HB2.out.trans (HB.out.mono hsz2)) hD5 (HO.out.less hsz2)
    · have HRn : Hid (∀ W, Calls Tryz.prog 52 #[.string ⟨r.toArray⟩] W fun x w' => ∃ v, x = .returned (.tuple #[v, .bool false]) ∧ Below W.heap.size W w') := Lib.hid fun W => (HRa.out W).mono fun x w' h => by
        obtain ⟨v, h1, _, h3⟩ := h
        rw [decide_eq_false hR] at h1
        exact ⟨v, h1, h3⟩
      have HBig : Hid (512 < (Gl.acc p Mall R).length) := Lib.hid (by rw [Gl.acc_len]; exact Nat.lt_of_lt_of_le (by omega) (Nat.le_mul_of_pos_left _ HMp.out))
      clear HRa
      go_wp2_with first
        | (go_at_call 75; go_must (refine (HEn.out _).mono ?_; rintro x w1 ⟨v1, rfl, ho1, hb1⟩; obtain ⟨A1, c1, rfl⟩ := ho1.slice))
        | (go_at_call 52; go_must (refine (HRn.out _).mono ?_; rintro x w2 ⟨v2, rfl, hb2⟩; have hB2 := hb1.trans (hb2.mono hb1.size)))
      ((try simp only [Exit.inBlock, Exit.then]); refine bodyPost_ret (results_tmp2 rfl _ _ _) rfl ?_)
      exact Gl.GaveA.no hB2 HBig.out

theorem all_any (m : Nat) : Gl.AllAsk m := by
  induction m with
  | zero =>
    intro s L hs hl hg w
    cases hg with
    | plain h => exact all_plain s hl h w
    | @group p g M r R h hgg hr =>
      exfalso
      have hlen : (p ++ 123 :: (g ++ 125 :: r)).length = p.length + 1 + g.length + 1 + r.length := by simp; omega
      omega
  | succ m ih =>
    intro s L hs hl hg w
    cases hg with
    | plain h => exact all_plain s hl h w
    | @group p g M r R h hgg hr =>
      have hlen : (p ++ 123 :: (g ++ 125 :: r)).length = p.length + 1 + g.length + 1 + r.length := by simp; omega
      obtain ⟨ps, hG, rfl⟩ := Gl.Grp.of h hgg hl
      exact all_group m (Lib.hid ih) _ p r _ ps g.length hG R hr (by omega) (by omega) hl (by omega) hgg.pos w
end Go.Proofs.YtfmbbhcjnidcbaaGreatDoor
