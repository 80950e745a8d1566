/-
  CONTRACTS: chapter 12: newSearch.
-/
import Derived.Test.YtedppnejkjcplaaPkNewP
namespace Go.Proofs.Ytedppnejkjcplaa
open Go.RowKit Go.Sort
open Me
open Pk

set_option maxRecDepth 100000 in
set_option maxHeartbeats 8000000 in
theorem newSearch_any {W : World} {A : Option Addr} {cp : Nat} {L : List Rx.In} {t : List UInt8} {G : Nat} (hp : Rd W (fun _ => True) A (icells L)) (hL : L.length ≤ 4096) (ht : t.length ≤ 1048576) (hG : G ≤ 2000) :
    Calls Try.prog 30 #[.agg #[.int .i64 (G : Int), .slice A L.length cp], .string ⟨t.toArray⟩] W (Pk.Newed W L t (2 * G + 2)) := by
  have hmk := fun W => mk_ints L.length (by omega) W
  obtain ⟨w, hwd⟩ : ∃ w : Nat, w = 2 * G + 2 := ⟨_, rfl⟩
  have hwr : IntKind.i64.wrap ((2 : Int) * (G : Int)) = 2 * (G : Int) := by rw [IntKind.wrap_i64]; omega
  have hwr2 : IntKind.i64.wrap (2 * (G : Int) + 2) = (w : Int) := by rw [IntKind.wrap_i64]; omega
  have hGI : (0 : Int) ≤ (G : Int) := by omega
  have hGI2 : (G : Int) ≤ 2000 := by omega
  have hwI : (2 : Int) * (G : Int) + 2 = (w : Int) := by omega
  have hw2 : 2 ≤ w := by omega
  have hw4 : w ≤ 4096 := by omega
  rw [← hwd]
  have HP := Lib.hid hp
  have hbase : (W.alloc (.cells #[.int .i64 (G : Int), .slice A L.length cp] 24)).cell? ⟨W.heap.size, 1, none⟩ = some (.slice A L.length cp) := ((RowAt.new W _ _).cell 1).trans rfl
  have HBASE := Lib.hid hbase
  have HB0 : Hid (Below W.heap.size W (W.alloc (.cells #[.int .i64 (G : Int), .slice A L.length cp] 24))) := Lib.hid ((Below.refl _ _).alloc (Nat.le_refl _) _)
  clear hbase hwd hp
  go_enter Try.func30, Try.ntmps30
  go_wp2_with fail
  go_region_law (go_simp; first
    | (go_at_call 44; go_must (refine (Pk.repeat_any (-1) w (by omega) (by omega) (by simp) (by first | exact Pk.cell_new (by simp) | exact (World.cell?_alloc_lt _ _ _ (by simp)).trans (Pk.cell_new (by simp)))).mono ?_; rintro e w1 ⟨v1, rfl, ho1, hb1⟩; obtain ⟨g1, k1, rfl, hg1, hg2⟩ := own_some ho1 (by omega); have p1 : w1.cell? ⟨W.heap.size, 1, none⟩ = some (.slice A L.length cp) := (hb1.cell (p := ⟨W.heap.size, 1, none⟩) (by first | (simp; done) | (simp; omega))).trans (by first | exact (World.cell?_alloc_lt _ _ _ (by first | (simp; done) | (simp; omega))).trans HBASE.out | exact (World.cell?_alloc_lt _ _ _ (by first | (simp; done) | (simp; omega))).trans ((World.cell?_alloc_lt _ _ _ (by first | (simp; done) | (simp; omega))).trans HBASE.out)); have hx1 : W.heap.size < w1.heap.size := Nat.lt_of_lt_of_le (by first | (simp; done) | (simp; omega)) hb1.size; have HX2 := Lib.hid hb1.size; have HG1 := Lib.hid hg1; have HG2 := Lib.hid hg2; have HZ := Lib.hid (Pk.kept_heap hb1); have hbw : Below W.heap.size W w1 := (by refine Pk.chain hb1 ?_; first | exact (HB0.out.alloc (by first | (simp; done) | (simp; omega)) _).drew | exact ((HB0.out.alloc (by first | (simp; done) | (simp; omega)) _).alloc (by first | (simp; done) | (simp; omega)) _).drew | exact HB0.out.alloc (by first | (simp; done) | (simp; omega)) _ | exact (HB0.out.alloc (by first | (simp; done) | (simp; omega)) _).alloc (by first | (simp; done) | (simp; omega)) _); have HBW := Lib.hid hbw; clear hbw; have HO1 := Lib.hid ho1; clear ho1 hb1 hg1 hg2)))
  all_goals
    try go_simp
    try go_wp2_with fail
    go_ret
    have hg1 := HG1.out
    have hg2 := HG2.out
    have hx2 := HX2.out
    try simp at hg1 hx2
    refine Pk.fresh (by first | rfl | (simp; done)) rfl (by first | exact HBW.out | exact HBW.out.alloc (by omega) _) HP.out (by first | exact Pk.hnew (by simp) | exact HZ.out _ _ (Pk.hnew (by simp)) | exact HZ.out _ _ ((Below.heap_alloc _ _ _ (by simp)).trans (Pk.hnew (by simp)))) (by first | omega | (simp; omega) | (simp; done)) (by first | exact HO1.out | exact HO1.out.alloc _) (by first | omega | (simp; omega) | (simp; done)) (by first | omega | (simp; omega)) hw2 hw4 hL ht
end Go.Proofs.Ytedppnejkjcplaa
