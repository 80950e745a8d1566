/-
  WhisperTorn: for every header, times, row of points (nil ones too), point and numbers, the law's call returns true and leaves its arguments as they were: after a crash in the midst of an update the file stands, and each slot is an old one, a new one, or one that is not asked for. No condition but the card's own: rowOffsets lies as the program's text lays it.
-/
import Derived.Test.YtljlanhpjpjgaaaGreatDoorJ48
import Derived.Test.YtljlanhpjpjgaaaGreatDoorJ49
import Derived.ProofKit
import Derived.OpenShut
import Derived.ChangeOld
import Derived.Below
import Derived.Lib.SmallJoins
import Derived.Lib.LaidTab
import Derived.ChangeArms
import Derived.ChangeMaps5
import Derived.LaidMore
import Derived.Lay
import Derived.SevenTiedAt
import Derived.Stop.Joined
import Derived.Test.YtljlanhpjpjgaaaGreatDoorTie
import Derived.Test.YtljlanhpjpjgaaaGreatDoorCards
namespace Go.Proofs.YtljlanhpjpjgaaaGreatDoor
open Go.RowKit Go.Sort
open Wp
namespace WsLaid
open Go.ChangeShapes Go.WideShapes Go.ChangeAt Go.RowKit Go.Joins
theorem under3 : Tryz.prog.underlying 166 = some (.array 3 3) := by kernel_rfl
theorem cells3 : Tryz.prog.cellsOf 166 = 3 := by kernel_rfl
theorem cellsI : Tryz.prog.cellsOf 3 = 1 := by kernel_rfl
theorem gRow : Tryz.prog.globalNamed "graticule/whisper.rowOffsets" = some 0 := by kernel_rfl
theorem tRow : (Tryz.prog.globals[0]?).map (·.type) = some 166 := by kernel_rfl
theorem gv {W : World} (h : laidMetH Tryz.prog [("graticule/whisper.rowOffsets", Rows.laid_graticule_whisper_rowOffsets)] W) : Gv W := by
 rw [MakeChecks.laidMetH_plain _ _ _ (by kernel_rfl)] at h
 obtain ⟨ps, ⟨g0, t0, cs0, f0, p0, q0, hg0, ht0, hv0, hd0, _, _⟩, _, _⟩ := h
 obtain rfl := Option.some.inj (gRow.symm.trans hg0)
 obtain rfl := Option.some.inj (tRow.symm.trans ht0)
 have hcs := Lib.cells_of_tab (k := .i64) (zs := [0, 4, 0]) under3 Tryz.underlying3 cellsI cells3 hd0
 have k0 := World.var?_cell hg0 hv0 0
 have k1 := World.var?_cell hg0 hv0 1
 have k2 := World.var?_cell hg0 hv0 2
 have e : cs0 = #[.int .i64 0, .int .i64 4, .int .i64 0] := by
  have : cs0.toList = [.int .i64 0, .int .i64 4, .int .i64 0] := hcs
  cases cs0; simp_all
 subst e
 refine ⟨by simpa using k0, by simpa using k1, by simpa using k2, ?_⟩
 have hc : W.cell? ⟨0, 0, none⟩ = some (.int .i64 0) := by simpa using k0
 unfold World.cell? at hc
 by_cases hl : 0 < W.heap.size
 ·exact hl
 ·rw [Array.getElem?_eq_none (by omega)] at hc
  cases hc
end WsLaid
namespace RowWhisperTorn
open Go.ChangeShapes Go.WideShapes Go.ChangeAt Go.RowKit Go.Joins
set_option maxRecDepth 100000 in
theorem lifted (os : Os) (started : os.Started) (H : Type) (enc : TypeId × Value → H) :
 ReturnsInHanded {} Tryz.checked os 3 .any (fun w args => (Rows.whisperTornSpec.pre enc Tryz.prog Tryz.f3 [] false w args ∧ laidMetH Tryz.prog Rows.whisperTornRow.laid w) ∧ sizedMet enc Tryz.prog Tryz.f3 (OpenSpec.ofChange Rows.whisperTornSpec) false w args)
  (Rows.whisperTornSpec.post enc Tryz.prog Tryz.f3 false true false false) := by
 refine returnsInHanded_of_change_and (C := Tryz.checked) (X := fun w _ => laidMetH Tryz.prog Rows.whisperTornRow.laid w) (fun _ _ _ hh h => h.of_heap hh) WhOpen.own started (by kernel_rfl) Tryz.func3
  (ChangeSpec.witness_shaped (enc := enc) (C := Tryz.checked) (os := os) (X := fun w _ => laidMetH Tryz.prog Rows.whisperTornRow.laid w) false (World.laidAll Tryz.prog os Rows.whisperTornRow.laid) #[.agg #[.int .i64 0, .int .i64 0, .slice none 0 0], .int .i64 0, .slice none 0 0, .agg #[.int .i64 0, .int .i64 0], .int .i64 0, .int .i64 0] 8 (World.laidAll_os _ _ _)
   (World.shaped_of_ZipB (by kernel_rfl) (by kernel_rfl)) (by kernel_rfl) (by kernel_rfl) (by kernel_rfl)
   (by rw [MakeChecks.laidMetH_plain _ _ _ (by kernel_rfl)]; exact laidMet_laidAll _ (by kernel_rfl) (by kernel_rfl))) ?_
 intro W base args ds gs before hval0 hW hx1 hx2 hx3 hx4
 have hval : ∀ (j : Nat) t v, Tryz.f3.params[j]? = some t → args[j]? = some v → Value.okWide Tryz.prog W .any base t v := hval0
 have hgv : Gv W := by first | exact WsLaid.gv hx1 | exact WsLaid.gv hx2 | exact WsLaid.gv hx3 | exact WsLaid.gv hx4
 have hW' := hW
 obtain ⟨p, q, hA0, hV, rfl, hfz, hnd⟩ := hW
 have hA : DataW.TrodAll enc Tryz.prog W 0 (fun _ => true) true Tryz.f3.params.toList args.toList ds p := hA0
 rw [Tryz.params3] at hA hval
 obtain ⟨v0, vs0, d0, ds0, p0, q0, hargs, rfl, rfl, h0, r0⟩ := trodAll_cons hA
 obtain ⟨v1, vs1, d1, ds1, p1, q1, rfl, rfl, rfl, h1, r1⟩ := trodAll_cons r0
 obtain ⟨v2, vs2, d2, ds2, p2, q2, rfl, rfl, rfl, h2, r2⟩ := trodAll_cons r1
 obtain ⟨v3, vs3, d3, ds3, p3, q3, rfl, rfl, rfl, h3, r3⟩ := trodAll_cons r2
 obtain ⟨v4, vs4, d4, ds4, p4, q4, rfl, rfl, rfl, h4, r4⟩ := trodAll_cons r3
 obtain ⟨v5, vs5, d5, ds5, p5, q5, rfl, rfl, rfl, h5, r5⟩ := trodAll_cons r4
 obtain ⟨rfl, rfl, rfl⟩ := trodAll_nil r5
 obtain rfl : args = #[v0, v1, v2, v3, v4, v5] := by cases args; simp_all
 obtain ⟨rfl, rfl⟩ := trodVars_none hV
 have k0 := h0
 have lt0 : ∀ x ∈ p0, x.block < W.heap.size := by obtain ⟨m, hm⟩ := k0; exact DataW.trod_lt m _ _ _ hm
 have k1 := h1
 have lt1 : ∀ x ∈ p1, x.block < W.heap.size := by obtain ⟨m, hm⟩ := k1; exact DataW.trod_lt m _ _ _ hm
 have k2 := h2
 have lt2 : ∀ x ∈ p2, x.block < W.heap.size := by obtain ⟨m, hm⟩ := k2; exact DataW.trod_lt m _ _ _ hm
 have k3 := h3
 have lt3 : ∀ x ∈ p3, x.block < W.heap.size := by obtain ⟨m, hm⟩ := k3; exact DataW.trod_lt m _ _ _ hm
 have k4 := h4
 have lt4 : ∀ x ∈ p4, x.block < W.heap.size := by obtain ⟨m, hm⟩ := k4; exact DataW.trod_lt m _ _ _ hm
 have k5 := h5
 have lt5 : ∀ x ∈ p5, x.block < W.heap.size := by obtain ⟨m, hm⟩ := k5; exact DataW.trod_lt m _ _ _ hm
 obtain ⟨ag, xf, l, A, cap, rfl, hr⟩ := WhOpen.header (hval 0 24 v0 rfl rfl) h0
 obtain ⟨a1, rfl, rfl, rfl, w1⟩ := open_int Tryz.underlying3 (hval 1 3 v1 rfl rfl) h1
 obtain ⟨lp, Ap, capp, rfl, hp⟩ := WsOpen.points (hval 2 25 v2 rfl rfl) h2
 obtain ⟨pa, pn, rfl, ⟨b1, b2⟩, b3, b4⟩ := WsOpen.point (hval 3 27 v3 rfl rfl) h3
 obtain ⟨a4, rfl, rfl, rfl, w4⟩ := open_int Tryz.underlying3 (hval 4 3 v4 rfl rfl) h4
 obtain ⟨a5, rfl, rfl, rfl, w5⟩ := open_int Tryz.underlying3 (hval 5 3 v5 rfl rfl) h5
 clear hA0 hval0
 refine (lawTorn7 ag xf l A cap a1 lp Ap capp pa pn a4 a5 W hgv hr hp).mono fun e W' ⟨he, bel⟩ => ?_
 subst he
 exact ⟨_, rfl, _, _, _, [], _, [], hW', trodAll_mk1 (shut_bool Tryz.underlying4 _), (trodAll_cons_mk (Below.trod WhOpen.laidOut (by kernel_rfl) (of_decide_eq_true (by kernel_rfl)) k0 bel lt0) (trodAll_cons_mk (Below.trod WhOpen.laidOut (by kernel_rfl) (of_decide_eq_true (by kernel_rfl)) k1 bel lt1) (trodAll_cons_mk (Below.trod WhOpen.laidOut (by kernel_rfl) (of_decide_eq_true (by kernel_rfl)) k2 bel lt2) (trodAll_cons_mk (Below.trod WhOpen.laidOut (by kernel_rfl) (of_decide_eq_true (by kernel_rfl)) k3 bel lt3) (trodAll_cons_mk (Below.trod WhOpen.laidOut (by kernel_rfl) (of_decide_eq_true (by kernel_rfl)) k4 bel lt4) (trodAll_cons_mk (Below.trod WhOpen.laidOut (by kernel_rfl) (of_decide_eq_true (by kernel_rfl)) k5 bel lt5) trodAll_mk0)))))), rfl, bel.frame _, fun h => by cases h⟩
end RowWhisperTorn
theorem whisperTorn_holds : Rows.WhisperTornSaid :=
 OpenClaim.holds_of_wide 3 Tryz.f3 rfl rfl rfl rfl rfl rfl rfl ⟨rfl, rfl, rfl, rfl, rfl⟩ rfl rfl rfl rfl rfl (by kernel_rfl) Tryz.func3 (by kernel_rfl)
  (of_decide_eq_true (by kernel_rfl)) (by unfold Func.isWrapper; first | (rw [if_pos (by decide +kernel)]; kernel_rfl) | (rw [if_neg (by decide +kernel)]; exact ⟨rfl, rfl⟩))
  (fun os started H enc _ => RowWhisperTorn.lifted os started H enc)
theorem whisperTorn_card : Rows.WhisperTornCardSaid :=
 Claim7.holds_tied_plain_at .later [] [.data] true Rows.whisperTornCard.stood.harness false whisperTorn_holds (fun _ h => by cases h) (by kernel_rfl) (fun _ h => by cases h) whisperTorn_row_tie rfl ⟨rfl, rfl⟩ (by kernel_rfl) rfl
  (fun f fn hf hfn => by
   obtain rfl : f = 3 := Option.some.inj ((show Tryz.prog.funcNamed Rows.whisperTornRow.func = some 3 by kernel_rfl).symm.trans hf) |>.symm
   obtain rfl : fn = Tryz.f3 := (Option.some.inj (Tryz.func3.symm.trans hfn)).symm
   exact ⟨by kernel_rfl, fun j t ht => by
    rw [Tryz.params3] at ht
    have hm : t ∈ ([24, 3, 25, 27, 3, 3] : List TypeId) := by simpa using Array.mem_of_getElem? ht
    have hall : (([24, 3, 25, 27, 3, 3] : List TypeId).all fun u => !Tryz.prog.wantsStandIn u) = true := by kernel_rfl
    exact (show Tryz.prog.wantsStandIn t = false by simpa using List.all_eq_true.1 hall t hm)⟩)
  (by kernel_rfl)
#print axioms whisperTorn_card
end Go.Proofs.YtljlanhpjpjgaaaGreatDoor
