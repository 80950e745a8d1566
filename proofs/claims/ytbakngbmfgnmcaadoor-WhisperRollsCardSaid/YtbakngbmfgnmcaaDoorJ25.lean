/-
  WsRo: WALK: chapter 7's law of what rolls on.
  WsRoE: WALK: chapter 7's law of what rolls on, its early answers too.
  IvOpen: INTS THAT COME IN, AS DATA: a slice of ints, nil ones too, is a list.
  WhOpen: A HEADER THAT COMES IN, AS DATA: its numbers, its row of archives.
-/
import Derived.Test.YtbakngbmfgnmcaaDoorJ24
import Derived.RegionTactic
import Derived.Deep.Slices
import Derived.ProofKit
import Derived.OpenShut
import Derived.ChangeOld
import Derived.Lib.SmallJoins
import Derived.ChangeArms
import Derived.Test.YtbakngbmfgnmcaaDoorJ3

namespace Go.Proofs.YtbakngbmfgnmcaaDoor
open Go.RowKit Go.Sort
open Fx (Vl)
open Me
open Wp
open Ws

set_option maxRecDepth 100000 in
set_option maxHeartbeats 4000000 in
theorem rolls_main (kind : Int) (m : List Int) (A : Option Addr) (cap : Nat) (w : World) (hg : Gv w) (hr : Rd w (fun _ => True) A (iv m)) (t1 : ¬ kind < 1) (t2 : ¬ 5 < kind) (t3 : ¬ (m.length : Int) < 1) (t4 : ¬ 10 < (m.length : Int)) :
    Calls Tryd.prog 3 #[.int .i64 kind, .slice A m.length cap] w fun e w' => e = .returned (.bool true) ∧ Below w.heap.size w w' := by
  have hm0 : 0 < m.length := by omega
  have hm10 : m.length ≤ 10 := by omega
  have hk1 : 1 ≤ kind := by omega
  have hk5 : kind ≤ 5 := by omega
  obtain ⟨bA, off, rfl, hbA, _, hx⟩ := hr.lit 0 (by rw [iv_len]; exact hm0)
  have HN : Hid (∀ j (h : j < m.length) W, Below w.heap.size w W → W.cell? ⟨bA, off + j, none⟩ = some (.int .i64 m[j])) := Lib.hid fun j h W hb => (hb.cell (p := ⟨bA, off + j, none⟩) hbA).trans (hx j _ (iv_get m j h))
  clear hx hr
  obtain ⟨i0, hi, hz0, hz1, hz2⟩ := info_parts intinfoZ
  have HI := Lib.hid hi
  have HZ := Lib.hid (And.intro hz0 (And.intro hz1 hz2))
  clear hi hz0 hz1 hz2
  -- the header's world
  obtain ⟨X, hX⟩ : ∃ X, X = (w.alloc (.cells #[.int .i64 1, .int .i64 20, .int .i64 10, .int .i64 6] 24)).alloc (.cells #[.int .i64 kind, .int .i64 0, .slice (some ⟨w.heap.size, 0, none⟩) 2 2] 27) := ⟨_, rfl⟩
  have hbX : Below w.heap.size w X := by rw [hX]; exact ((Below.refl _ _).alloc (Nat.le_refl _) _).alloc (by simp) _
  obtain ⟨p, hpw⟩ : ∃ p, p = w.heap.size := ⟨_, rfl⟩
  obtain ⟨q, hqw⟩ : ∃ q, q = w.heap.size + 1 := ⟨_, rfl⟩
  have hrp : RowAt X p 24 #[.int .i64 1, .int .i64 20, .int .i64 10, .int .i64 6] := by rw [hX, hpw]; exact (RowAt.new w _ _).below ((Below.refl _ _).alloc (Nat.le_refl _) _) (by simp)
  have hrq : RowAt X q 27 #[.int .i64 kind, .int .i64 0, .slice (some ⟨p, 0, none⟩) 2 2] := by rw [hX, hqw, hpw]; exact (by simpa using RowAt.new (w.alloc (.cells #[.int .i64 1, .int .i64 20, .int .i64 10, .int .i64 6] 24)) #[.int .i64 kind, .int .i64 0, .slice (some ⟨w.heap.size, 0, none⟩) 2 2] 27)
  have HRP := Lib.hid hrp
  have HRQ := Lib.hid hrq
  have HX := Lib.hid hbX
  have HGX : Hid (Gv X) := Lib.hid (hg.below hbX)
  obtain ⟨hc0, B0, hU0⟩ := Wr.start hk1 hk5
  have HC0 := Lib.hid hc0
  obtain ⟨S1, hS1⟩ : ∃ S1, S1 = (create Kt.s0 [97] (Wr.H kind)).1 := ⟨_, rfl⟩
  rw [← hS1] at hU0
  have HU0 := Lib.hid hU0
  have HCR : Hid (∀ fs W, Kw X fs 0 ⟨65536, [], [], []⟩ W → Calls Tryd.prog 5 #[.pointer (some ⟨fs, 0, none⟩), .string ⟨#[97]⟩, .agg #[.int .i64 kind, .int .i64 0, .slice (some ⟨p, 0, none⟩) 2 2]] W fun e w' => e = .returned (.int .i64 0) ∧ Hid (Kw X fs 1 S1 w')) := Lib.hid fun fs W h => by
    have hp2 := HRP.out.below h.base HRP.out.lt
    have hrow : Row W (some ⟨p, 0, none⟩) (Wr.H kind).l 2 := by
      refine ⟨Nat.le_refl _, fun _ => ⟨_, _, rfl, ⟨hp2.lt, ?_, ?_⟩⟩⟩
      · intro i hi
        match i, hi with
        | 0, _ => exact hp2.cell 0
        | 1, _ => exact hp2.cell 2
      · intro i hi
        match i, hi with
        | 0, _ => exact hp2.cell 1
        | 1, _ => exact hp2.cell 3
    have h1 := h.create (Below.refl _ _) (by decide) [97] (Wr.H kind) (some ⟨p, 0, none⟩) 2 hrow
    rw [show (⟨65536, [], [], []⟩ : Vf.Sv) = Kt.s0 from rfl, HC0.out, ← hS1] at h1
    exact h1
  have HNX : Hid (∀ (j : Nat) (S : Vf.Sv) (B : List UInt8) (n : Int), j < 10 → ∀ mm : List Int, mm.length = j → Wr.Up kind mm S B → Wr.fits40 (mm ++ [n]) → (update S [97] (1000 + (j : Int)) [(1000 + (j : Int), n)]).2 = (1, 0) ∧ ∃ B', Wr.Up kind (mm ++ [n]) (update S [97] (1000 + (j : Int)) [(1000 + (j : Int), n)]).1 B') := Lib.hid fun j S B n hj mm e hu hf => by
    subst e
    exact hu.next hk1 hk5 n hj hf
  have HLS : Hid (∀ (S : Vf.Sv) (B : List UInt8) (x : Int), Wr.Up kind m S B → Ag.put kind 0 (Wr.pv m) = ⟨true, x⟩ → Wr.Rolled kind m x → fetch S.now [97] 1030 995 1005 = (some ⟨1000, 10, [⟨true, x⟩]⟩, 0)) := Lib.hid fun S B x hu hx hr => hu.last hk1 hk5 hm0 hx hr
  have HRL : Hid (Wr.fits40 m → ∃ x, Ag.put kind 0 (Wr.pv m) = ⟨true, x⟩ ∧ Wr.Rolled kind m x) := Lib.hid fun h => Wr.rolled hk1 hk5 m h hm0 hm10
  have HN0 := Lib.hid (new_any X)
  obtain ⟨fs, hfs⟩ : ∃ fs, fs = X.heap.size := ⟨_, rfl⟩
  rw [← hfs] at HN0
  have y0 : X.cell? ⟨q, 0, none⟩ = some (.int .i64 kind) := hrq.cell 0
  have y1 : X.cell? ⟨q, 1, none⟩ = some (.int .i64 0) := hrq.cell 1
  have y2 : X.cell? ⟨q, 2, none⟩ = some (.slice (some ⟨p, 0, none⟩) 2 2) := hrq.cell 2
  clear hbX hrp hrq hg hc0 hU0 hfs hS1
  go_enter Tryd.func3, Tryd.ntmps3
  go_wp2_with fail
  rw [← hX, ← hqw, ← hpw]
  clear hX hqw hpw
  go_wp2_with first
    | (go_at_call 4; (with_reducible refine (HN0.out).mono ?_); rintro e w1 ⟨rfl, h1⟩; have hh1 := HRQ.out.below h1.out.base HRQ.out.lt; have z0 := hh1.cell 0; have z1 := hh1.cell 1; have z2 := hh1.cell 2)
    | (go_at_call 5; (with_reducible refine (HCR.out _ _ h1.out).mono ?_); rintro e w2 ⟨rfl, h2⟩)
  go_loopw [8, 9] (fun v x wr => ∃ (j c : Nat) (S : Vf.Sv) (B : List UInt8), j ≤ m.length ∧ x = .int .i64 j ∧ c ≤ 1 + 27 * j ∧ Hid (Kx X fs c S (fun b => v.ownBlock = some b) wr) ∧ Hid (Wr.Up kind (m.take j) S B) ∧ Hid (OwnZ X.heap.size wr v (m.take j)) ∧ Hid (Wr.fits40 (m.take j))) (fun _ x _ => m.length - (intOf x).toNat)
  case atStart => exact ⟨0, 1, S1, B0, Nat.zero_le _, rfl, by omega, Lib.hid (by have := h2.out.kx; obtain ⟨a, V, b, c, _⟩ := this; exact ⟨a, V, b, c, fun _ h => by cases h⟩), Lib.hid (by rw [List.take_zero]; exact HU0.out), Lib.hid (by rw [List.take_zero]; exact OwnZ.nil _ _), Lib.hid (by rw [List.take_zero]; intro n hn; cases hn)⟩
  case round =>
    obtain ⟨j, c, S, B, hj, rfl, hc, HK, HU, HO, HF⟩ := hrel
    have hbX := HK.out.base
    have hsz := hbX.size
    by_cases hlt : j < m.length
    · have hbw : Below w.heap.size w wr := HX.out.trans (hbX.mono HX.out.size)
      have ec := HN.out j hlt wr hbw
      have hil : (j : Int) < (m.length : Int) := by omega
      have hi0 : (0 : Int) ≤ (j : Int) := by omega
      have HT := Lib.hid (List.take_succ_eq_append_getElem hlt)
      have HNj := Lib.hid (HN.out j hlt)
      have hDl : (m.take j).length = j := by rw [List.length_take]; omega
      generalize m[j] = a at *
      generalize m.take j = D at *
      by_cases d1 : a < -1099511627776
      · go_wp2_with fail
        go_ret
        exact ⟨rfl, hbw⟩
      · by_cases d2 : 1099511627776 < a
        · go_wp2_with fail
          go_ret
          exact ⟨rfl, hbw⟩
        · obtain ⟨Av, cv, rfl⟩ := HO.out.slice
          have HF' : Hid (Wr.fits40 (D ++ [a])) := Lib.hid fun n hn => by
            rcases List.mem_append.1 hn with h | h
            · exact HF.out n h
            · rw [List.mem_singleton.1 h]; omega
          have hnx := HNX.out j S B a (by omega) D hDl HU.out HF'.out
          obtain ⟨e12, B', hU'⟩ := hnx
          have HUp := Lib.hid (HK.out.one HGX.out (1000 + (j : Int)) (1000 + (j : Int)) a (by omega))
          rw [e12] at HUp
          have HU' := Lib.hid hU'
          clear e12 hU'
          generalize (update S [97] (1000 + (j : Int)) [(1000 + (j : Int), a)]).1 = S' at *
          subst hDl
          go_wp2_with first
            | (go_at_call 6; go_must (refine (HUp.out).mono ?_; rintro e w3 ⟨rfl, hk3, hkp3⟩; have hb3 : Hid (Below w.heap.size w w3) := Lib.hid (HX.out.trans (hk3.out.base.mono HX.out.size)); have ec3 := HNj.out w3 hb3.out; have hs3 := hk3.out.base.size; have HO4 : Hid (OwnZ X.heap.size (w3.alloc (.cells #[.int .i64 a] 3)) (.slice Av D.length cv) D) := Lib.hid ((HO.out.kp hkp3.out (fun g hg ho => ho hg)).below ((Below.refl _ _).alloc (Nat.le_refl _) _))))
            | (at_builtin; refine wpList_app _ rfl (.tmp 92) (.tmp 97) 22 rfl X.heap.size 3 i0 (.int .i64 0) 1 8 Tryd.underlying22 HI.out HZ.out.1 HZ.out.2.1 HZ.out.2.2 rfl (by decide) (.slice Av D.length cv) D.length (iv D) rfl HO4.out (fun b => b = w3.heap.size) (some ⟨w3.heap.size, 0, none⟩) 1 1 [.int .i64 a] rfl rfl (Rd.fresh _ _ _ _ rfl) (by intro u hu; simp at hu; subst hu; rfl) (by unfold maxLen; omega) (by omega) (by simp; omega) ?_; intro v2 w4 hown2 hg2 hat2 hnil2)
          have HO5 := Lib.hid (OwnZ.more hown2)
          have hlt4 := HO4.out.lt
          have hkp4 : Kp (fun b => (Value.slice Av D.length cv).ownBlock = some b) w3 w4 := ((Kp.refl _ w3).alloc _).grown hg2 (fun g e => .inr e)
          have hs4 : (w3.alloc (.cells #[.int .i64 a] 3)).heap.size ≤ w4.heap.size := hg2.size
          have HK5 : Hid (Kx X fs (c + 27) S' (fun b => v2.ownBlock = some b) w4) := Lib.hid (hk3.out.wrote hkp4 (fun i hi => ⟨hi, (HO.out.lt i hi).1⟩) (fun i hi => by
            rcases hat2 with h | h
            · exact .inl (h ▸ hi)
            · right
              rw [h] at hi
              injection hi with hi
              subst hi
              have := HO5.out.lt _ h
              refine ⟨by simp, this.2⟩))
          clear hown2 hg2 hat2 hnil2 hkp4 hlt4
          go_wp2_with fail
          go_roundw
          case rel => exact ⟨D.length + 1, c + 27, S', B', by omega, by go_num, by omega, HK5, by rw [HT.out]; exact HU', by rw [HT.out]; exact HO5, by rw [HT.out]; exact HF'⟩
          case measure => simp [intOf]; omega
    · obtain rfl : j = m.length := by omega
      rw [List.take_length] at HU HO HF
      obtain ⟨g, cv, rfl⟩ := HO.out.form hm0
      obtain ⟨x, hx, hRx⟩ := HRL.out HF.out
      have hfe := HLS.out S B x HU.out hx hRx
      have HRx := Lib.hid hRx
      have HFE : Hid (Calls Tryd.prog 7 #[.pointer (some ⟨fs, 0, none⟩), .string ⟨#[97]⟩, .int .i64 1030, .int .i64 995, .int .i64 1005] wr fun e w' => ∃ b off cap, e = .returned (.tuple #[.agg #[.string ⟨#[97]⟩, .int .i64 1000, .int .i64 10, .slice (some ⟨b, off, none⟩) 1 cap, .int .i64 0], .int .i64 0]) ∧ Hid (b < w'.heap.size ∧ ∀ W, Below w'.heap.size w' W → W.cell? ⟨b, off, none⟩ = some (.bool true) ∧ W.cell? ⟨b, off + 1, none⟩ = some (.int .i64 x)) ∧ Hid (Below wr.heap.size wr w')) := Lib.hid (by
        have := HK.out.kw.fetch [97] (by decide) 1030 995 1005
        rw [hfe] at this
        refine this.mono ?_
        rintro e w' ⟨v, rfl, -, h2, h3⟩
        obtain ⟨x, rfl, ho⟩ := h2 _ rfl
        obtain ⟨b, off, cap, rfl, hv⟩ := OwnV.vals ho (by simp)
        refine ⟨b, off, cap, rfl, Lib.hid ⟨hv.lt, fun W hb => ?_⟩, Lib.hid h3⟩
        have hv2 := hv.below hb
        exact ⟨by simpa using hv2.ok 0 (by simp), by simpa using hv2.n 0 (by simp)⟩)
      have HBw : Hid (Below w.heap.size w wr) := Lib.hid (HX.out.trans (hbX.mono HX.out.size))
      clear hx hRx hfe
      go_wp2_with (go_at_call 7; (with_reducible refine (HFE.out).mono ?_); rintro e w5 ⟨b, offv, capv, rfl, hcell, hb5⟩)
      obtain ⟨Y, hY⟩ : ∃ Y, Y = w5.alloc (.cells #[.string ⟨#[97]⟩, .int .i64 1000, .int .i64 10, .slice (some ⟨b, offv, none⟩) 1 capv, .int .i64 0] 39) := ⟨_, rfl⟩
      obtain ⟨sx, hsx⟩ : ∃ sx, sx = w5.heap.size := ⟨_, rfl⟩
      have hbY5 : Below w5.heap.size w5 Y := by rw [hY]; exact (Below.refl _ _).alloc (Nat.le_refl _) _
      have hrs : RowAt Y sx 39 #[.string ⟨#[97]⟩, .int .i64 1000, .int .i64 10, .slice (some ⟨b, offv, none⟩) 1 capv, .int .i64 0] := by rw [hY, hsx]; exact RowAt.new w5 _ _
      have HS : Hid (∀ W, Below Y.heap.size Y W → W.cell? ⟨sx, 3, none⟩ = some (.slice (some ⟨b, offv, none⟩) 1 capv)) := Lib.hid fun W hb => (hrs.below hb hrs.lt).cell 3
      have HV : Hid (∀ j (h : j < m.length) W, Below Y.heap.size Y W → W.cell? ⟨g, j, none⟩ = some (.int .i64 m[j])) := Lib.hid fun j h W hb => ((HO.out.below hb5.out).below (hbY5.trans (hb.mono hbY5.size))).cell j h
      have HXv : Hid (∀ W, Below Y.heap.size Y W → W.cell? ⟨b, offv, none⟩ = some (.bool true) ∧ W.cell? ⟨b, offv + 1, none⟩ = some (.int .i64 x)) := Lib.hid fun W hb => hcell.out.2 W (hbY5.trans (hb.mono hbY5.size))
      have HBY : Hid (Below w.heap.size w Y) := Lib.hid ((HBw.out.trans (hb5.out.mono HBw.out.size)).trans (hbY5.mono (Nat.le_trans HBw.out.size hb5.out.size)))
      have HGY : Hid (Gv Y) := Lib.hid ((HGX.out.below HK.out.base).below (hb5.out.trans (hbY5.mono hb5.out.size)))
      have hgY : g < Y.heap.size := Nat.lt_of_lt_of_le (HO.out.lt g rfl).2 (Nat.le_trans hb5.out.size hbY5.size)
      have hbY : b < Y.heap.size := Nat.lt_of_lt_of_le hcell.out.1 hbY5.size
      have hsY : sx < Y.heap.size := hrs.lt
      rw [← hY, ← hsx]
      clear hY hsx hbY5 hrs hcell hb5 HFE HO HK HU HNX HLS HRL HCR HN0 HC0 HU0 HRP HRQ HBw HN y0 y1 y2 z0 z1 z2 h1 h2 hbX hsz hh1
      have v0 := HV.out 0 hm0 Y (Below.refl _ _)
      obtain ⟨a0, ha0⟩ : ∃ a0, a0 = m[0] := ⟨_, rfl⟩
      have HA0 := Lib.hid ha0
      rw [← ha0] at v0
      clear ha0
      obtain ⟨n, hn⟩ : ∃ n, n = m.length := ⟨_, rfl⟩
      have HNn := Lib.hid hn
      rw [← hn] at hm0 hm10 t3 t4 ⊢
      have hn0 : (0 : Int) < (n : Int) := by omega
      clear hn
      go_region
      all_goals
        go_wp2_with fail
        obtain ⟨wo, rfl⟩ : ∃ wo, wo = wr := ⟨_, rfl⟩
        go_loopw [14, 15, 16, 17] (fun x1 x2 x3 x4 wz => ∃ j : Nat, j ≤ n ∧ x4 = .int .i64 j ∧ x1 = .int .i64 (Wr.tot (m.take j)) ∧ x2 = .int .i64 ((m.take j).foldl min a0) ∧ x3 = .int .i64 ((m.take j).foldl max a0) ∧ Below Y.heap.size Y wz) (fun _ _ _ y _ => n - (intOf y).toNat)
        case atStart => exact ⟨0, Nat.zero_le _, rfl, rfl, rfl, rfl, (Below.refl _ _).drew⟩
        case round =>
          obtain ⟨j, hj, rfl, rfl, rfl, rfl, hbz⟩ := hrel
          by_cases hlt : j < n
          · have hjm : j < m.length := by rw [← HNn.out]; exact hlt
            have ec := HV.out j hjm wr hbz
            have HT1 := Lib.hid (Wr.fold_take (· + ·) 0 m j hjm)
            have HT2 := Lib.hid (Wr.fold_take min a0 m j hjm)
            have HT3 := Lib.hid (Wr.fold_take max a0 m j hjm)
            have hb1 := Wr.tot_bd HF.out (by rw [← HNn.out]; exact hm10) j
            have ha := HF.out _ (List.getElem_mem hjm)
            have hjl : (j : Int) < (n : Int) := by omega
            have hj0 : (0 : Int) ≤ (j : Int) := by omega
            obtain ⟨su, hsu⟩ : ∃ su, su = Wr.tot (m.take j) := ⟨_, rfl⟩
            have hT1' : Wr.tot (m.take (j + 1)) = su + m[j] := by rw [hsu]; exact HT1.out
            have HT1' := Lib.hid hT1'
            rw [← hsu] at hb1 ⊢
            clear hT1' HT1 hsu
            generalize (m.take j).foldl min a0 = lo at *
            generalize (m.take j).foldl max a0 = hi at *
            generalize m[j] = aj at *
            have hadd : IntKind.i64.wrap (su + aj) = su + aj := IntWalk.i64_in _ (by omega)
            go_wp2_with fail
            go_region
            all_goals
              go_wp2_with fail
              go_roundw
              case rel => exact ⟨j + 1, by omega, by go_num, by rw [HT1'.out], by rw [HT2.out], by rw [HT3.out], hbz.drew⟩
              case measure => simp [intOf]; omega
          · obtain rfl : j = n := by omega
            have e1 : m.take j = m := by rw [HNn.out, List.take_length]
            rw [e1]
            have HLO : Hid (m.foldl min a0 = Wr.lo m) := Lib.hid (by rw [HA0.out]; exact Wr.lo_fold (by rw [← HNn.out]; exact hm0))
            have HHI : Hid (m.foldl max a0 = Wr.hi m) := Lib.hid (by rw [HA0.out]; exact Wr.hi_fold (by rw [← HNn.out]; exact hm0))
            rw [HLO.out, HHI.out]
            have hbT := Wr.tot_bd HF.out (by rw [← HNn.out]; exact hm10) j
            rw [e1] at hbT
            have sc := HS.out wr hbz
            obtain ⟨xc0, xc1⟩ := HXv.out wr hbz
            have HZ0 : Hid (Below Y.heap.size Y (wr.alloc (.cells #[.bool true, .int .i64 x] 43))) := Lib.hid (hbz.alloc hbz.size _)
            have HKN : Hid (∀ W, Below Y.heap.size Y W → Calls Tryd.prog 8 #[] W fun e w' => e = .returned (.bool true) ∧ Below W.heap.size W w') := Lib.hid fun W hb => known7_any W (HGY.out.below hb)
            have hsz := hbz.size
            have hr1 := HRx.out.r1
            have hr2 := HRx.out.r2
            have hr3 := HRx.out.r3
            have hr4 := HRx.out.r4
            have hr5 := HRx.out.r5
            have hbd := HRx.out.bd
            rw [← HNn.out] at hr1
            have HR3 := Lib.hid hr3
            have HVl := Lib.hid (fun (h : m.length - 1 < m.length) => HV.out (m.length - 1) h)
            have HNm := Lib.hid (HNn.out)
            clear hr3 e1 HLO HHI HRx HXv HS HF HA0 HV
            generalize Wr.tot m = T at *
            generalize Wr.lo m = lo at *
            generalize Wr.hi m = hi at *
            have hk : kind = 1 ∨ kind = 2 ∨ kind = 3 ∨ kind = 4 ∨ kind = 5 := by omega
            rcases hk with rfl | rfl | rfl | rfl | rfl
            · obtain ⟨q1, q2⟩ := hr1 rfl
              clear hr1 hr2 hr4 hr5
              obtain ⟨P, hP⟩ : ∃ P, P = x * (j : Int) := ⟨_, rfl⟩
              rw [← hP] at q1 q2
              have hPe := hP.symm
              have HPe := Lib.hid hPe
              clear hP hPe
              have hP1 : -10995116277771 ≤ P ∧ P ≤ 10995116277771 := by omega
              have hw1 : IntKind.i64.wrap (x * (j : Int)) = P := by rw [HPe.out]; exact IntWalk.i64_in _ (by omega)
              have hw2 : IntKind.i64.wrap (P - T) = P - T := IntWalk.i64_in _ (by omega)
              have hw3 : IntKind.i64.wrap (2 * (P - T)) = 2 * (P - T) := IntWalk.i64_in _ (by omega)
              have hw4 : IntKind.i64.wrap (-(2 * (P - T))) = -(2 * (P - T)) := IntWalk.i64_in _ (by omega)
              go_wp2_with (go_at_call 8; go_must (refine (HKN.out _ HZ0.out).mono ?_; rintro e w9 ⟨rfl, hb9⟩))
              go_ret
              exact ⟨rfl, HBY.out.trans ((HZ0.out.trans (hb9.mono HZ0.out.size)).mono HBY.out.size)⟩
            · have hx := hr2 rfl
              clear hr1 hr2 hr4 hr5
              subst hx
              go_wp2_with (go_at_call 8; go_must (refine (HKN.out _ HZ0.out).mono ?_; rintro e w9 ⟨rfl, hb9⟩))
              go_ret
              exact ⟨rfl, HBY.out.trans ((HZ0.out.trans (hb9.mono HZ0.out.size)).mono HBY.out.size)⟩
            · clear hr1 hr2 hr4 hr5
              obtain ⟨l, rfl⟩ : ∃ l, j = l + 1 := ⟨j - 1, by omega⟩
              have hml : m.length - 1 = l := by have := HNm.out; omega
              have HVx : Hid (∀ W, Below Y.heap.size Y W → W.cell? ⟨g, l, none⟩ = some (.int .i64 x)) := Lib.hid fun W hb => by
                have hh : m.length - 1 < m.length := by omega
                have h1 := HVl.out hh W hb
                rw [← HR3.out rfl hh, hml] at h1
                exact h1
              have hll : ((l + 1 : Nat) : Int) - 1 = (l : Int) := by omega
              clear HVl HR3
              go_wp2_with fail
              obtain ⟨zq, hzq⟩ : ∃ z, z = wr.heap.size := ⟨_, rfl⟩
              obtain ⟨Z, hZ⟩ : ∃ Z, Z = wr.alloc (.cells #[.bool true, .int .i64 x] 43) := ⟨_, rfl⟩
              have HRZ : Hid (RowAt Z zq 43 #[.bool true, .int .i64 x]) := Lib.hid (by rw [hZ, hzq]; exact RowAt.new wr _ _)
              rw [← hZ] at HZ0 ⊢
              rw [← hzq]
              clear hZ hzq
              have HFV : Hid (∀ W, Below Z.heap.size Z W → W.cell? ⟨zq, 0, none⟩ = some (.bool true) ∧ W.cell? ⟨zq, 1, none⟩ = some (.int .i64 x) ∧ W.cell? ⟨g, l, none⟩ = some (.int .i64 x)) := Lib.hid fun W hb => by
                have h1 := HRZ.out.below hb HRZ.out.lt
                exact ⟨h1.cell 0, h1.cell 1, HVx.out W (HZ0.out.trans (hb.mono HZ0.out.size))⟩
              have HKV : Hid (∀ W, Below Z.heap.size Z W → Calls Tryd.prog 8 #[] W fun e w' => e = .returned (.bool true) ∧ Below W.heap.size W w') := Lib.hid fun W hb => HKN.out W (HZ0.out.trans (hb.mono HZ0.out.size))
              have hw1 : IntKind.i64.wrap (l : Int) = (l : Int) := IntWalk.i64_in _ (by omega)
              have hl0 : (0 : Int) ≤ (l : Int) := by omega
              have hl1 : (l : Int) < ((l + 1 : Nat) : Int) := by omega
              have hl2 : (l : Int) < (l : Int) + 1 := by omega
              have hl3 : (l : Int) + 1 - 1 = (l : Int) := by omega
              clear HVx sc xc0 xc1 v0
              refine Inv.region (fun W W' => Below W.heap.size W W') (fun i v W => match i with
                | 0 => v = .agg #[.bool true, .int .i64 x]
                | 1 => v = .slice (some ⟨g, 0, none⟩) (l + 1) cv
                | 2 => v = .slice (some ⟨g, 0, none⟩) (l + 1) cv
                | 3 => v = .int .i64 ((l + 1 : Nat) : Int)
                | 4 => v = .int .i64 (l : Int)
                | 5 => v = .pointer (some ⟨g, l, none⟩)
                | 6 => v = .int .i64 x
                | 7 => v = .agg #[.bool true, .int .i64 x]
                | 8 => v = .bool true
                | 9 => v = .bool true
                | 10 => v = .bool true
                | 11 => v = .bool true
                | 12 => v = .bool true
                | _ => True) (by kernel_rfl) (by kernel_rfl) (by kernel_rfl) (fun W => Below.refl _ _) (fun a b c h k => h.trans (k.mono h.size)) (fun i v W W' h he => ?stab) ?obls ?fin
              case stab =>
                match i, h with
                | 0, h => exact h
                | 1, h => exact h
                | 2, h => exact h
                | 3, h => exact h
                | 4, h => exact h
                | 5, h => exact h
                | 6, h => exact h
                | 7, h => exact h
                | 8, h => exact h
                | 9, h => exact h
                | 10, h => exact h
                | 11, h => exact h
                | 12, h => exact h
                | _ + 13, h => exact h
              case obls =>
                refine .cons ?_ (.cons ?_ (.cons ?_ (.cons ?_ (.cons ?_ (.cons ?_ (.cons ?_ (.cons ?_ (.cons ?_ (.cons ?_ (.cons ?_ (.cons ?_ (.cons ?_ .nil))))))))))))
                · intro ac wx hE hf hd
                  have hB : Below Z.heap.size Z wx := ⟨hE.os, hE.tape, hE.output, hE.size, hE.block⟩
                  rw [if_pos (Inv.want0 rfl _)]
                  have h18 : ac.eval (.tmp 18) = .pointer (some ⟨zq, 0, none⟩) := hf 18 (by kernel_rfl)
                  clear hf hd
                  obtain ⟨a0, a1, a2⟩ := HFV.out wx hB
                  refine Inv.val (.agg #[.bool true, .int .i64 x]) ?_ rfl rfl (Below.refl _ _)
                  clear hE hB HFV HKV
                  have hcst : ∀ v, ac.eval (.const v) = v := fun _ => rfl
                  generalize ac.eval = ev at *
                  simp [execOp, go_sem, *]
                · intro ac wx hE hf hd
                  have hB : Below Z.heap.size Z wx := ⟨hE.os, hE.tape, hE.output, hE.size, hE.block⟩
                  rw [if_pos (Inv.want0 rfl _)]
                  have h8 : ac.eval (.tmp 8) = .slice (some ⟨g, 0, none⟩) (l + 1) cv := hf 8 (by kernel_rfl)
                  clear hf hd
                  refine Inv.val (.slice (some ⟨g, 0, none⟩) (l + 1) cv) ?_ rfl rfl (Below.refl _ _)
                  clear hE hB
                  generalize ac.eval = ev at *
                  simp [execOp, go_sem, *]
                · intro ac wx hE hf hd
                  have hB : Below Z.heap.size Z wx := ⟨hE.os, hE.tape, hE.output, hE.size, hE.block⟩
                  rw [if_pos (Inv.want0 rfl _)]
                  have h8 : ac.eval (.tmp 8) = .slice (some ⟨g, 0, none⟩) (l + 1) cv := hf 8 (by kernel_rfl)
                  clear hf hd
                  refine Inv.val (.slice (some ⟨g, 0, none⟩) (l + 1) cv) ?_ rfl rfl (Below.refl _ _)
                  clear hE hB
                  generalize ac.eval = ev at *
                  simp [execOp, go_sem, *]
                · intro ac wx hE hf hd
                  have hB : Below Z.heap.size Z wx := ⟨hE.os, hE.tape, hE.output, hE.size, hE.block⟩
                  rw [if_pos (Inv.want0 rfl _)]
                  have h170 := hd 2 _ (by kernel_rfl) rfl
                  change ac.eval (.tmp 170) = .slice (some ⟨g, 0, none⟩) (l + 1) cv at h170
                  clear hf hd
                  refine Inv.val (.int .i64 ((l + 1 : Nat) : Int)) ?_ rfl rfl (Below.refl _ _)
                  clear hE hB HFV HKV
                  have hcst : ∀ v, ac.eval (.const v) = v := fun _ => rfl
                  generalize ac.eval = ev at *
                  simp [go_sem, *]
                · intro ac wx hE hf hd
                  have hB : Below Z.heap.size Z wx := ⟨hE.os, hE.tape, hE.output, hE.size, hE.block⟩
                  rw [if_pos (Inv.want0 rfl _)]
                  have h171 := hd 3 _ (by kernel_rfl) rfl
                  change ac.eval (.tmp 171) = .int .i64 ((l + 1 : Nat) : Int) at h171
                  clear hf hd
                  refine Inv.val (.int .i64 (l : Int)) ?_ rfl rfl (Below.refl _ _)
                  clear hE hB HFV HKV
                  have hcst : ∀ v, ac.eval (.const v) = v := fun _ => rfl
                  generalize ac.eval = ev at *
                  simp [execOp, go_sem, *]
                · intro ac wx hE hf hd
                  have hB : Below Z.heap.size Z wx := ⟨hE.os, hE.tape, hE.output, hE.size, hE.block⟩
                  rw [if_pos (Inv.want0 rfl _)]
                  have h169 := hd 1 _ (by kernel_rfl) rfl
                  change ac.eval (.tmp 169) = .slice (some ⟨g, 0, none⟩) (l + 1) cv at h169
                  have h172 := hd 4 _ (by kernel_rfl) rfl
                  change ac.eval (.tmp 172) = .int .i64 (l : Int) at h172
                  clear hf hd
                  refine Inv.val (.pointer (some ⟨g, l, none⟩)) ?_ rfl rfl (Below.refl _ _)
                  clear hE hB HFV HKV
                  have hcst : ∀ v, ac.eval (.const v) = v := fun _ => rfl
                  generalize ac.eval = ev at *
                  simp [execOp, go_sem, *]
                · intro ac wx hE hf hd
                  have hB : Below Z.heap.size Z wx := ⟨hE.os, hE.tape, hE.output, hE.size, hE.block⟩
                  rw [if_pos (Inv.want0 rfl _)]
                  have h173 := hd 5 _ (by kernel_rfl) rfl
                  change ac.eval (.tmp 173) = .pointer (some ⟨g, l, none⟩) at h173
                  clear hf hd
                  obtain ⟨a0, a1, a2⟩ := HFV.out wx hB
                  refine Inv.val (.int .i64 x) ?_ rfl rfl (Below.refl _ _)
                  clear hE hB HFV HKV
                  have hcst : ∀ v, ac.eval (.const v) = v := fun _ => rfl
                  generalize ac.eval = ev at *
                  simp [execOp, go_sem, *]
                · intro ac wx hE hf hd
                  have hB : Below Z.heap.size Z wx := ⟨hE.os, hE.tape, hE.output, hE.size, hE.block⟩
                  rw [if_pos (Inv.want0 rfl _)]
                  have h174 := hd 6 _ (by kernel_rfl) rfl
                  change ac.eval (.tmp 174) = .int .i64 x at h174
                  clear hf hd
                  refine Inv.val (.agg #[.bool true, .int .i64 x]) ?_ rfl rfl (Below.refl _ _)
                  clear hE hB HFV HKV
                  have hcst : ∀ v, ac.eval (.const v) = v := fun _ => rfl
                  generalize ac.eval = ev at *
                  simp [execOp, go_sem, *]
                · intro ac wx hE hf hd
                  have hB : Below Z.heap.size Z wx := ⟨hE.os, hE.tape, hE.output, hE.size, hE.block⟩
                  rw [if_pos (Inv.want0 rfl _)]
                  have h168 := hd 0 _ (by kernel_rfl) rfl
                  change ac.eval (.tmp 168) = .agg #[.bool true, .int .i64 x] at h168
                  have h175 := hd 7 _ (by kernel_rfl) rfl
                  change ac.eval (.tmp 175) = .agg #[.bool true, .int .i64 x] at h175
                  clear hf hd
                  refine Inv.val (.bool true) ?_ rfl rfl (Below.refl _ _)
                  clear hE hB HFV HKV
                  have hcst : ∀ v, ac.eval (.const v) = v := fun _ => rfl
                  generalize ac.eval = ev at *
                  simp [execOp, go_sem, *]
                · intro ac wx hE hf hd
                  have hB : Below Z.heap.size Z wx := ⟨hE.os, hE.tape, hE.output, hE.size, hE.block⟩
                  rw [if_pos (Inv.want0 rfl _)]
                  have h176 := hd 8 _ (by kernel_rfl) rfl
                  change ac.eval (.tmp 176) = .bool true at h176
                  clear hf hd
                  refine Inv.val (.bool true) ?_ rfl rfl (Below.refl _ _)
                  clear hE hB
                  generalize ac.eval = ev at *
                  simp [execOp, go_sem, *]
                · intro ac wx hE hf hd
                  have hB : Below Z.heap.size Z wx := ⟨hE.os, hE.tape, hE.output, hE.size, hE.block⟩
                  have hg := hd 9 _ (by kernel_rfl) rfl
                  change ac.eval (.tmp 177) = .bool true at hg
                  rw [if_pos (Inv.want (j := 9) (b := true) (d := 177) rfl rfl rfl hg)]
                  clear hf hd
                  refine Inv.go (f := 8) (xs := #[]) ?_ rfl ?_
                  · clear hE hB HFV HKV
                    have hfn : ac.eval (.func 8) = .func (.func 8) #[] #[] := rfl
                    generalize ac.eval = ev at *
                    simp [execOp, go_sem, *]
                  · exact (HKV.out wx hB).mono fun e w' ⟨he, hb⟩ => ⟨_, he, rfl, hb⟩
                · intro ac wx hE hf hd
                  have hB : Below Z.heap.size Z wx := ⟨hE.os, hE.tape, hE.output, hE.size, hE.block⟩
                  rw [if_pos (Inv.want0 rfl _)]
                  have h177 := hd 9 _ (by kernel_rfl) rfl
                  change ac.eval (.tmp 177) = .bool true at h177
                  have h178 := hd 10 _ (by kernel_rfl) rfl
                  change (fun v W => v = .bool true) (ac.eval (.tmp 178)) wx at h178
                  try dsimp only at h178
                  clear hf hd
                  refine Inv.val (.bool true) ?_ rfl rfl (Below.refl _ _)
                  clear hE hB HFV HKV
                  have hcst : ∀ v, ac.eval (.const v) = v := fun _ => rfl
                  generalize ac.eval = ev at *
                  simp [execOp, go_sem, *]
                · intro ac wx hE hf hd
                  have hB : Below Z.heap.size Z wx := ⟨hE.os, hE.tape, hE.output, hE.size, hE.block⟩
                  rw [if_pos (Inv.want0 rfl _)]
                  have h179 := hd 11 _ (by kernel_rfl) rfl
                  change ac.eval (.tmp 179) = .bool true at h179
                  clear hf hd
                  refine Inv.val (.bool true) ?_ rfl rfl (Below.refl _ _)
                  clear hE hB
                  generalize ac.eval = ev at *
                  simp [execOp, go_sem, *]
              case fin =>
                intro ac wx hE ha hall
                have hB : Below Z.heap.size Z wx := ⟨hE.os, hE.tape, hE.output, hE.size, hE.block⟩
                have h168 := hall 0 _ rfl
                change ac.eval (.tmp 168) = .agg #[.bool true, .int .i64 x] at h168
                have h169 := hall 1 _ rfl
                change ac.eval (.tmp 169) = .slice (some ⟨g, 0, none⟩) (l + 1) cv at h169
                have h170 := hall 2 _ rfl
                change ac.eval (.tmp 170) = .slice (some ⟨g, 0, none⟩) (l + 1) cv at h170
                have h171 := hall 3 _ rfl
                change ac.eval (.tmp 171) = .int .i64 ((l + 1 : Nat) : Int) at h171
                have h172 := hall 4 _ rfl
                change ac.eval (.tmp 172) = .int .i64 (l : Int) at h172
                have h173 := hall 5 _ rfl
                change ac.eval (.tmp 173) = .pointer (some ⟨g, l, none⟩) at h173
                have h174 := hall 6 _ rfl
                change ac.eval (.tmp 174) = .int .i64 x at h174
                have h175 := hall 7 _ rfl
                change ac.eval (.tmp 175) = .agg #[.bool true, .int .i64 x] at h175
                have h176 := hall 8 _ rfl
                change ac.eval (.tmp 176) = .bool true at h176
                have h177 := hall 9 _ rfl
                change ac.eval (.tmp 177) = .bool true at h177
                have h178 := hall 10 _ rfl
                change (fun v W => v = .bool true) (ac.eval (.tmp 178)) wx at h178
                try dsimp only at h178
                generalize hv178 : ac.eval (.tmp 178) = v178 at *
                have h179 := hall 11 _ rfl
                change ac.eval (.tmp 179) = .bool true at h179
                have h4 := hall 12 _ rfl
                change ac.eval (.tmp 4) = .bool true at h4
                simp only [List.foldl, Inv.slot, Act.put] at ha
                change ac.tmps.getD 168 undef = _ at h168
                change ac.tmps.getD 169 undef = _ at h169
                change ac.tmps.getD 170 undef = _ at h170
                change ac.tmps.getD 171 undef = _ at h171
                change ac.tmps.getD 172 undef = _ at h172
                change ac.tmps.getD 173 undef = _ at h173
                change ac.tmps.getD 174 undef = _ at h174
                change ac.tmps.getD 175 undef = _ at h175
                change ac.tmps.getD 176 undef = _ at h176
                change ac.tmps.getD 177 undef = _ at h177
                change ac.tmps.getD 178 undef = _ at hv178
                change ac.tmps.getD 179 undef = _ at h179
                change ac.tmps.getD 4 undef = _ at h4
                simp only [h168, h169, h170, h171, h172, h173, h174, h175, h176, h177, hv178, h179, h4, List.setIfInBounds_toArray, List.set_cons_zero, List.set_cons_succ] at ha
                clear h168 h169 h170 h171 h172 h173 h174 h175 h176 h177 hv178 h179 h4 hall hE
                subst ha
                go_wp2_with fail
                go_ret
                exact ⟨rfl, HBY.out.trans ((HZ0.out.trans (Below.mono ⟨hB.os, hB.tape, hB.output, hB.size, hB.block⟩ HZ0.out.size)).mono HBY.out.size)⟩
            · have hx := hr4 rfl
              clear hr1 hr2 hr4 hr5
              subst hx
              go_wp2_with (go_at_call 8; go_must (refine (HKN.out _ HZ0.out).mono ?_; rintro e w9 ⟨rfl, hb9⟩))
              go_ret
              exact ⟨rfl, HBY.out.trans ((HZ0.out.trans (hb9.mono HZ0.out.size)).mono HBY.out.size)⟩
            · have hx := hr5 rfl
              clear hr1 hr2 hr4 hr5
              subst hx
              go_wp2_with (go_at_call 8; go_must (refine (HKN.out _ HZ0.out).mono ?_; rintro e w9 ⟨rfl, hb9⟩))
              go_ret
              exact ⟨rfl, HBY.out.trans ((HZ0.out.trans (hb9.mono HZ0.out.size)).mono HBY.out.size)⟩
end Go.Proofs.YtbakngbmfgnmcaaDoor

namespace Go.Proofs.YtbakngbmfgnmcaaDoor
open Go.RowKit Go.Sort
open Me
open Wp

set_option maxRecDepth 100000 in
set_option maxHeartbeats 4000000 in
theorem lawRolls7 (kind : Int) (m : List Int) (A : Option Addr) (cap : Nat) (w : World) (hg : Gv w) (hr : Rd w (fun _ => True) A (iv m)) :
    Calls Tryd.prog 3 #[.int .i64 kind, .slice A m.length cap] w fun e w' => e = .returned (.bool true) ∧ Below w.heap.size w w' := by
  by_cases t1 : kind < 1
  · clear hr hg
    go_enter Tryd.func3, Tryd.ntmps3
    go_wp2_with fail
    go_ret
    exact ⟨rfl, Below.refl _ _⟩
  by_cases t2 : 5 < kind
  · clear hr hg
    go_enter Tryd.func3, Tryd.ntmps3
    go_wp2_with fail
    go_ret
    exact ⟨rfl, Below.refl _ _⟩
  by_cases t3 : (m.length : Int) < 1
  · clear hr hg
    generalize m.length = n at *
    go_enter Tryd.func3, Tryd.ntmps3
    go_wp2_with fail
    go_ret
    exact ⟨rfl, Below.refl _ _⟩
  by_cases t4 : 10 < (m.length : Int)
  · clear hr hg
    generalize m.length = n at *
    go_enter Tryd.func3, Tryd.ntmps3
    go_wp2_with fail
    go_ret
    exact ⟨rfl, Below.refl _ _⟩
  exact rolls_main kind m A cap w hg hr t1 t2 t3 t4
end Go.Proofs.YtbakngbmfgnmcaaDoor

namespace Go.Proofs.YtbakngbmfgnmcaaDoor
open Go.RowKit Go.Sort
open Me
set_option maxRecDepth 100000
namespace IvOpen
open Go.ChangeShapes Go.WideShapes Go.ChangeAt Go.RowKit Go.Deep Go.Joins
theorem ints {H : Type} {enc : TypeId × Value → H} {w : World} {base : Nat} {spare : Nat → Bool} {held : Bool} {fuel : Nat} {x : Option Addr} {len cap : Nat} {y : DataW H × List MemPlace}
    (h : DataW.trod enc Tryd.prog w base spare held fuel 22 [.slice x len cap] = some y) :
    ∃ l : List Int, len = l.length ∧ Rd w (fun _ => True) x (iv l) ∧ ∀ n ∈ l, -9223372036854775808 ≤ n ∧ n ≤ 9223372036854775807 := by
  rcases Go.ChangeShapes.open_ints Tryd.underlying22 Tryd.underlying3 (by kernel_rfl) h with ⟨hcs, _⟩ | ⟨a, len', cap', zs, hcs, hb, hl, hm, hzl, _, hc, hwf⟩
  · simp at hcs
    obtain ⟨rfl, rfl, rfl⟩ := hcs
    exact ⟨[], rfl, Rd.none_ _ _ _, fun n hn => absurd hn (by simp)⟩
  · simp at hcs
    obtain ⟨rfl, rfl, rfl⟩ := hcs
    have hle : len ≤ zs.length := by rw [hzl]; split <;> omega
    have hll : (zs.take len).length = len := by rw [List.length_take]; omega
    refine ⟨zs.take len, hll.symm, fun hn => ?_, fun n hn => ?_⟩
    · have key : ∀ j u, (iv (zs.take len))[j]? = some u → w.cell? (a.add j) = some u := by
        intro j u hu
        have hj : j < len := by
          have := (List.getElem?_eq_some_iff.1 hu).1
          rw [iv_len, hll] at this
          exact this
        rw [iv_get _ j (by rw [hll]; exact hj)] at hu
        rw [hc j (by omega), ← hu, List.getElem_take]
        simp [show j < zs.length by omega]
      refine ⟨a, rfl, ?_, trivial, key⟩
      have h0 : 0 < len := by
        rcases Nat.eq_zero_or_pos len with e | e
        · exfalso; apply hn; subst e; rfl
        · exact e
      have := World.block_lt_of_cell? w _ (hc 0 (by omega))
      rwa [Me.block_add] at this
    · have := hwf n (List.mem_of_mem_take hn)
      simpa [Lit.wf, IntKind.min, IntKind.max, IntKind.signed, IntKind.bits] using this
theorem intsV {H : Type} {enc : TypeId × Value → H} {w : World} {base : Nat} {spare : Nat → Bool} {held : Bool} {v : Value} {d : DataW H} {p : List MemPlace} {r : Reach} {b0 : Nat}
    (hv : Value.okWide Tryd.prog w r b0 22 v) (h : DataW.Trod enc Tryd.prog w base spare held 22 v d p) : ∃ A c l, v = .slice A (List.length l) c ∧ Rd w (fun _ => True) A (iv l) ∧ ∀ n ∈ l, -9223372036854775808 ≤ n ∧ n ≤ 9223372036854775807 := by
  obtain ⟨a0, len0, cap0, rfl⟩ := okWide_slice Tryd.underlying22 hv
  obtain ⟨fuel, hf⟩ := h
  obtain ⟨l, e, hs⟩ := ints (by simpa [Value.cells] using hf)
  exact ⟨a0, cap0, l, by rw [e], hs⟩
end IvOpen
end Go.Proofs.YtbakngbmfgnmcaaDoor

namespace Go.Proofs.YtbakngbmfgnmcaaDoor
open Go.RowKit Go.Sort
open Wh (At)

set_option maxRecDepth 100000
namespace WhOpen
open Go.ChangeShapes Go.WideShapes Go.ChangeAt Go.RowKit Go.Deep Go.Joins
theorem own : ownKnob Tryd.prog.godebug = none := by kernel_rfl
theorem laidOut : laidOutB Tryd.prog = true := by kernel_rfl
theorem adN (b off j : Nat) : (⟨b, off, none⟩ : Addr).add j = ⟨b, off + j, none⟩ := by simp [Addr.add]

theorem archives {H : Type} {enc : TypeId × Value → H} {w : World} {base : Nat} {spare : Nat → Bool} {held : Bool} {fuel : Nat} {x : Option Addr} {len cap : Nat} {y : DataW H × List MemPlace}
    (h : DataW.trod enc Tryd.prog w base spare held fuel 25 [.slice x len cap] = some y) :
    len ≤ cap ∧ ((x = none ∧ len = 0 ∧ cap = 0) ∨ (∃ a : Addr, x = some a ∧ ∀ i, i < len → ∃ (s c : Int), w.cell? (a.add (i * 2)) = some (.int .i64 s) ∧ w.cell? (a.add (i * 2 + 1)) = some (.int .i64 c))) := by
  rcases open_slice Tryd.underlying25 h with ⟨hcs, _⟩ | ⟨a, len', cap', m, n, D, Pl, hcs, _, hl, _, hm, _, hi⟩
  · simp at hcs
    obtain ⟨rfl, rfl, rfl⟩ := hcs
    exact ⟨Nat.le_refl _, .inl ⟨rfl, rfl, rfl⟩⟩
  · simp at hcs
    obtain ⟨rfl, rfl, rfl⟩ := hcs
    refine ⟨hl, .inr ⟨a, rfl, fun i hil => ?_⟩⟩
    have him : i < m := by rw [hm]; split <;> omega
    obtain ⟨cs', h1, h2⟩ := hi i him
    have hC : Tryd.prog.cellsOf 24 = 2 := by kernel_rfl
    rw [hC] at h1
    obtain ⟨_, hlen, hat⟩ := World.cells?_some h1
    match cs', hlen with
    | [c0, c1], _ =>
      obtain ⟨xs, n', _, _, _, _, hf⟩ := DataW.trod_struct Tryd.underlying24 h2
      have g0 := hf 0 _ rfl
      have g1 := hf 1 _ rfl
      have hn : Tryd.prog.cellsOf 3 = 1 := by kernel_rfl
      have hx2 : xs.length = 2 := by assumption
      have g0' : DataW.trod enc Tryd.prog w base spare held n' 3 [c0] = some (xs[0]'(by omega)) := by
        have e : xs[0]? = some (xs[0]'(by omega)) := List.getElem?_eq_getElem (by omega)
        rw [← e, ← g0]
        show _ = DataW.trod enc Tryd.prog w base spare held n' 3 (List.take (Tryd.prog.cellsOf 3) (List.drop 0 [c0, c1]))
        rw [hn]
        rfl
      have g1' : DataW.trod enc Tryd.prog w base spare held n' 3 [c1] = some (xs[1]'(by omega)) := by
        have e : xs[1]? = some (xs[1]'(by omega)) := List.getElem?_eq_getElem (by omega)
        rw [← e, ← g1]
        show _ = DataW.trod enc Tryd.prog w base spare held n' 3 (List.take (Tryd.prog.cellsOf 3) (List.drop 1 [c0, c1]))
        rw [hn]
        rfl
      obtain ⟨s, e0, _, _⟩ := DataW.trod_int Tryd.underlying3 g0'
      obtain ⟨c, e1, _, _⟩ := DataW.trod_int Tryd.underlying3 g1'
      simp at e0 e1
      subst e0 e1
      refine ⟨s, c, ?_, ?_⟩
      · have := hat 0 (by omega)
        simpa [Addr.add] using this
      · have := hat 1 (by omega)
        rw [Go.Deep.add_add] at this
        simpa using this

theorem listed {w : World} {b off : Nat} {n : Nat} (hc : ∀ i, i < n → ∃ (s c : Int), w.cell? ⟨b, off + i * 2, none⟩ = some (.int .i64 s) ∧ w.cell? ⟨b, off + i * 2 + 1, none⟩ = some (.int .i64 c)) :
    ∃ l : List (Int × Int), l.length = n ∧ ∀ i, i < n → w.cell? ⟨b, off + i * 2, none⟩ = some (.int .i64 (At l i).1) ∧ w.cell? ⟨b, off + i * 2 + 1, none⟩ = some (.int .i64 (At l i).2) := by
  induction n with
  | zero => exact ⟨[], rfl, fun i h => by omega⟩
  | succ m ih =>
    obtain ⟨l, e, hi⟩ := ih fun i h => hc i (by omega)
    obtain ⟨s, c, c0, c1⟩ := hc m (by omega)
    refine ⟨l ++ [(s, c)], by simp [e], fun i h => ?_⟩
    by_cases him : i < m
    · have ea : At (l ++ [(s, c)]) i = At l i := by unfold At; rw [List.getD_eq_getElem?_getD, List.getD_eq_getElem?_getD, List.getElem?_append_left (by omega)]
      rw [ea]; exact hi i him
    · obtain rfl : i = m := by omega
      have ea : At (l ++ [(s, c)]) i = (s, c) := by unfold At; rw [List.getD_eq_getElem?_getD, List.getElem?_append_right (by omega), e]; simp
      rw [ea]; exact ⟨c0, c1⟩

theorem row_of {w : World} {x : Option Addr} {len cap : Nat} (hl : len ≤ cap) (h : (x = none ∧ len = 0 ∧ cap = 0) ∨ (∃ a : Addr, x = some a ∧ ∀ i, i < len → ∃ (s c : Int), w.cell? (a.add (i * 2)) = some (.int .i64 s) ∧ w.cell? (a.add (i * 2 + 1)) = some (.int .i64 c))) :
    ∃ l : List (Int × Int), l.length = len ∧ Row w x l cap := by
  rcases h with ⟨rfl, rfl, rfl⟩ | ⟨a, rfl, hc⟩
  · exact ⟨[], rfl, Nat.le_refl _, fun h => by cases h⟩
  · by_cases h0 : len = 0
    · subst h0; exact ⟨[], rfl, Nat.zero_le _, fun h => by cases h⟩
    · obtain ⟨b, off, spot⟩ := a
      obtain ⟨s0, n0, hk0, _⟩ := hc 0 (by omega)
      have hspot : spot = none := by simpa [Addr.add] using World.cell?_spot hk0
      subst hspot
      obtain ⟨l, e, hi⟩ := listed (w := w) (b := b) (off := off) (n := len) fun i hil => by
        obtain ⟨s, c, c0, c1⟩ := hc i hil
        rw [adN] at c0 c1
        exact ⟨s, c, c0, by rw [Nat.add_assoc]; exact c1⟩
      refine ⟨l, e, by omega, fun _ => ⟨b, off, rfl, World.block_lt_of_cell? w _ (hi 0 (by omega)).1, fun i h => (hi i (by omega)).1, fun i h => (hi i (by omega)).2⟩⟩

/-- A header as it comes in. -/
theorem header {H : Type} {enc : TypeId × Value → H} {w : World} {r : Reach} {b0 base : Nat} {spare : Nat → Bool} {held : Bool} {v : Value} {d : DataW H} {p : List MemPlace}
    (hv : Value.okWide Tryd.prog w r b0 27 v) (h : DataW.Trod enc Tryd.prog w base spare held 27 v d p) :
    ∃ (ag xf : Int) (l : List (Int × Int)) (A : Option Addr) (cap : Nat), v = .agg #[.int .i64 ag, .int .i64 xf, .slice A l.length cap] ∧ Row w A l cap := by
  obtain ⟨v0, v1, v2, y0, y1, y2, n, rfl, _, _, t0, t1, t2⟩ := open_agg3 Tryd.underlying27 (by kernel_rfl) (by kernel_rfl) hv h
  obtain ⟨ag, e0, _, _⟩ := DataW.trod_int Tryd.underlying3 t0
  obtain ⟨xf, e1, _, _⟩ := DataW.trod_int Tryd.underlying3 t1
  simp at e0 e1
  subst e0 e1
  have hs : ∃ a len cap, v2 = .slice a len cap := by
    rcases open_slice Tryd.underlying25 t2 with ⟨hcs, _⟩ | ⟨a, len', cap', m, n, D, Pl, hcs, _⟩
    · simp at hcs; exact ⟨_, _, _, hcs⟩
    · simp at hcs; exact ⟨_, _, _, hcs⟩
  obtain ⟨a, len, cap, rfl⟩ := hs
  obtain ⟨hl, ho⟩ := archives t2
  obtain ⟨l, rfl, hr⟩ := row_of hl ho
  exact ⟨ag, xf, l, a, cap, rfl, hr⟩
end WhOpen
end Go.Proofs.YtbakngbmfgnmcaaDoor
