/-
  CONTRACTS: chapter 3's law: an act, in both: Read; any act.
-/
import Derived.Test.YtiacpopgnmledaaVsAct1
import Derived.Test.YtiacpopgnmledaaVsAct2
import Derived.Test.YtiacpopgnmledaaVsAct3
import Derived.Test.YtiacpopgnmledaaVsAct4
namespace Go.Proofs.Ytiacpopgnmledaa
open Go.RowKit
open Me Vf
namespace Vs
theorem getD_used (l : List Fl) (i : Nat) : (l.getD i ⟨[], []⟩).b.length ≤ Vf.used l := by
  by_cases h : i < l.length
  · have : l.getD i ⟨[], []⟩ = l[i] := by simp [h]
    rw [this]
    exact used_mem (List.getElem_mem h)
  · have : l.getD i ⟨[], []⟩ = ⟨[], []⟩ := by simp [h]
    rw [this]
    exact Nat.zero_le _
theorem read_len (l : List Fl) (n : List UInt8) (t m : Int) : (Vf.read l n t m).1.length ≤ Vf.used l := by
  unfold Vf.read
  split
  · exact Nat.zero_le _
  · split
    · exact Nat.zero_le _
    · split
      · exact Nat.zero_le _
      · show (((bytesAt l n).drop t.toNat).take m.toNat).length ≤ _
        have := getD_used l (ix l n).toNat
        have h2 : (bytesAt l n).length ≤ Vf.used l := this
        rw [List.length_take, List.length_drop]
        omega
theorem Duo.reads {w W : World} {U : Nat → Prop} {fs xs N c : Nat} {S1 S2 : Sv} (h : Duo w U fs xs N c S1 S2) (hW : Below w.heap.size w W) (n : List UInt8) (t m : Int) (hti : t ≤ 9223372036854775807) (hc : c ≤ 4096) :
    (Calls Try.prog 20 #[.pointer (some ⟨fs, 0, none⟩), .string ⟨n.toArray⟩, .int .i64 t, .int .i64 m] W (Vf.Handed W (Vf.read S1.now n t m))) ∧
    (Calls Try.prog 27 #[.pointer (some ⟨xs, 0, none⟩), .string ⟨n.toArray⟩, .int .i64 t, .int .i64 m] W (Vf.Handed W (Vf.read S2.now n t m))) ∧ (Vf.read S1.now n t m).1.length ≤ 1073741824 := by
  obtain ⟨M, G, lr, nv, wv, lv, ys, h1, h2, h3, h4, _⟩ := h.below hW
  have i3 := h3.last
  have i5 := h3.room1
  have i4 := h4.last
  have i6 := h4.room1
  have hl := read_len S1.now n t m
  exact ⟨pread_any h1 n t m hti, read_any h2 n t m (by omega) (by omega), by omega⟩
end Vs

set_option maxRecDepth 100000 in
set_option maxHeartbeats 4000000 in
theorem act_read {w : World} {U : Nat → Prop} {fs xs N c : Nat} {S1 S2 : Vf.Sv} (h : Vs.Duo w U fs xs N c S1 S2) (a : Vs.A) (v : Value) (hv : ∃ A m c, v = .slice A m c) (hk : a.kind = 6) (hc : c ≤ 4095) (hoff : a.off ≤ 9223372036854775807) :
    Calls Try.prog 9 #[.pointer (some ⟨fs, 0, none⟩), .pointer (some ⟨xs, 0, none⟩), .agg #[.int .i64 6, .int .i64 a.off, .int .i64 a.n, .string ⟨a.name.toArray⟩, v]] w (Vs.Acted w U fs xs N (c + 1) S1 S2 (Vs.step S1 a) (Vs.step S2 a)) := by
  obtain ⟨A, m, cc, rfl⟩ := hv
  have e1 : ∀ S : Vf.Sv, Vs.step S a = S := fun S => by unfold Vs.step; rw [if_neg (by omega), if_neg (by omega), if_neg (by omega), if_neg (by omega), if_neg (by omega)]
  rw [e1, e1]
  obtain ⟨X, hX⟩ : ∃ X : Obj, X = .cells #[.int .i64 6, .int .i64 a.off, .int .i64 a.n, .string ⟨a.name.toArray⟩, .slice A m cc] 34 := ⟨_, rfl⟩
  have hbx : Below w.heap.size w (w.alloc X) := (Below.refl _ _).alloc (Nat.le_refl _) _
  have HE : Hid (S1 = S2 → Vf.read S1.now a.name a.off a.n = Vf.read S2.now a.name a.off a.n) := Lib.hid (fun e => by rw [e])
  have HP := Lib.hid (h.reads hbx a.name a.off a.n hoff (by omega)).1
  have HX : Hid (∀ w1, Below (w.alloc X).heap.size (w.alloc X) w1 → Calls Try.prog 27 #[.pointer (some ⟨xs, 0, none⟩), .string ⟨a.name.toArray⟩, .int .i64 a.off, .int .i64 a.n] w1 (Vf.Handed w1 (Vf.read S2.now a.name a.off a.n))) := Lib.hid fun w1 hb => (h.reads (hbx.trans (hb.mono hbx.size)) a.name a.off a.n hoff (by omega)).2.1
  have HL := Lib.hid (h.reads hbx a.name a.off a.n hoff (by omega)).2.2
  have HEND : Hid (∀ w1, Below w.heap.size w w1 → Vs.DuoNext w U fs xs N (c + 1) S1 S2 w1) := Lib.hid fun w1 hb => Vs.DuoNext.same h (Nat.le_refl _) (Nat.le_succ _) hb
  have HSAME := Lib.hid same_any
  have hnew : (w.alloc X).heap[w.heap.size]? = some X := heap_alloc_new w X
  have HBX : Hid (∀ w1, Below (w.alloc X).heap.size (w.alloc X) w1 → w1.heap[w.heap.size]? = some X) := Lib.hid fun w1 k1 => (k1.block w.heap.size (by simp)).trans hnew
  have hwx : w.heap.size ≤ (w.alloc X).heap.size := by simp
  have HBW := Lib.hid hbx
  subst hX
  have HC : Hid (∀ w1 : World, w1.heap[w.heap.size]? = some (.cells #[.int .i64 6, .int .i64 a.off, .int .i64 a.n, .string ⟨a.name.toArray⟩, .slice A m cc] 34) → w1.cell? ⟨w.heap.size, 1, none⟩ = some (.int .i64 a.off) ∧ w1.cell? ⟨w.heap.size, 2, none⟩ = some (.int .i64 a.n) ∧ w1.cell? ⟨w.heap.size, 3, none⟩ = some (.string ⟨a.name.toArray⟩)) := Lib.hid fun w1 hh => ⟨by rw [cell_of_row w1 _ 1 _ _ _ hh]; rfl, by rw [cell_of_row w1 _ 2 _ _ _ hh]; rfl, by rw [cell_of_row w1 _ 3 _ _ _ hh]; rfl⟩
  have HWX := Lib.hid hwx
  clear h hk e1 hbx hnew hwx
  generalize Vf.read S1.now a.name a.off a.n = z at *
  generalize Vf.read S2.now a.name a.off a.n = y at *
  obtain ⟨z1, z2⟩ := z
  obtain ⟨y1, y2⟩ := y
  by_cases hq : z2 = y2
  · have t1 : (z2 == y2) = true := by simpa using hq
    have HQ := Lib.hid hq
    clear hq
    go_enter Try.func9, Try.ntmps9
    go_wp2_with (first | (go_at_call 20; (with_reducible refine (HP.out).mono ?_); rintro e w1 ⟨v1, rfl, hb1, hl1⟩; obtain ⟨d1, d2, d3⟩ := HC.out w1 (HBX.out w1 hl1); have HB1 := Lib.hid hb1; have HL1 := Lib.hid hl1; obtain ⟨A1, c1, rfl, _⟩ := hb1; clear hl1) | (go_at_call 27; (with_reducible refine (HX.out w1 HL1.out).mono ?_); rintro e w2 ⟨v2, rfl, hb2, hl2⟩; have HB2 := Lib.hid hb2; have HL2 := Lib.hid hl2; obtain ⟨A2, c2, rfl, _⟩ := hb2; have HSA := Lib.hid (HSAME.out z1 y1 _ _ _ _ w2 (HB1.out.below HL2.out) HB2.out (Nat.le_trans HL.out (by omega))); clear hl2) | (go_at_call 21; (with_reducible refine (HSA.out).mono ?_); rintro e w3 ⟨rfl, hl3⟩; have HL3 := Lib.hid hl3; clear hl3))
    all_goals
      go_ret
      exact ⟨_, rfl, fun e => by have := HE.out e; injection this with p1 p2; subst p1; simp, HEND.out _ ((HBW.out.trans (HL1.out.mono HWX.out)).trans ((HL2.out.trans (HL3.out.mono HL2.out.size)).mono (Nat.le_trans HWX.out HL1.out.size)))⟩
  · have t1 : (z2 == y2) = false := by simpa using hq
    have HQ := Lib.hid hq
    clear hq HSAME
    go_enter Try.func9, Try.ntmps9
    go_wp2_with (first | (go_at_call 20; (with_reducible refine (HP.out).mono ?_); rintro e w1 ⟨v1, rfl, hb1, hl1⟩; obtain ⟨d1, d2, d3⟩ := HC.out w1 (HBX.out w1 hl1); have HL1 := Lib.hid hl1; obtain ⟨A1, c1, rfl, _⟩ := hb1; clear hl1) | (go_at_call 27; (with_reducible refine (HX.out w1 HL1.out).mono ?_); rintro e w2 ⟨v2, rfl, hb2, hl2⟩; have HL2 := Lib.hid hl2; obtain ⟨A2, c2, rfl, _⟩ := hb2; clear hl2))
    all_goals
      go_ret
      exact ⟨_, rfl, fun e => by have := HE.out e; injection this with p1 p2; exact absurd p2 HQ.out, HEND.out _ ((HBW.out.trans (HL1.out.mono HWX.out)).trans (HL2.out.mono (Nat.le_trans HWX.out HL1.out.size)))⟩

/-- Any act. -/
theorem act_any {w : World} {U Gq : Nat → Prop} {fs xs N c : Nat} {S1 S2 : Vf.Sv} (h : Vs.Duo w U fs xs N c S1 S2) (a : Vs.A) (v : Value) (hp : Vf.Ps w Gq v a.b) (hGq : ∀ b, Gq b → b < w.heap.size ∧ ¬ U b) (hoff : a.off ≤ 9223372036854775807)
    (hN : N ≤ 4096) (hc : c ≤ 4095) (hl : a.b.length ≤ 1048576) (ht : a.b.flatten.length ≤ 1048576) :
    Calls Try.prog 9 #[.pointer (some ⟨fs, 0, none⟩), .pointer (some ⟨xs, 0, none⟩), .agg #[.int .i64 a.kind, .int .i64 a.off, .int .i64 a.n, .string ⟨a.name.toArray⟩, v]] w (Vs.Acted w U fs xs (N + 2) (c + 1) S1 S2 (Vs.step S1 a) (Vs.step S2 a)) := by
  have hv : ∃ A m c, v = .slice A m c := by
    obtain ⟨A, c, xs, e, _⟩ := hp
    exact ⟨A, _, c, e⟩
  have wide : ∀ {e w'}, Vs.Acted w U fs xs N (c + 1) S1 S2 (Vs.step S1 a) (Vs.step S2 a) e w' → Vs.Acted w U fs xs (N + 2) (c + 1) S1 S2 (Vs.step S1 a) (Vs.step S2 a) e w' := fun ⟨r, h1, h2, U', h3, h4⟩ => ⟨r, h1, h2, U', h3.more (by omega) (Nat.le_refl _), h4⟩
  by_cases k1 : a.kind = 1
  · have := act_create h a v hp hGq k1 hN (by omega) hl ht
    rwa [← k1] at this
  · by_cases k2 : a.kind = 2
    · have := act_write h a v hp hGq k2 hoff hN (by omega) hl ht
      rwa [← k2] at this
    · by_cases k3 : a.kind = 3
      · have := act_remove h a v hv k3 hN (by omega)
        rwa [← k3] at this
      · by_cases k4 : a.kind = 4
        · have := (act_sync h a v hv k4 hc).mono (fun _ _ => wide)
          rwa [← k4] at this
        · by_cases k5 : a.kind = 5
          · have := (act_crash h a v hv k5 hc hN).mono (fun _ _ => wide)
            rwa [← k5] at this
          · by_cases k6 : a.kind = 6
            · have := (act_read h a v hv k6 hc hoff).mono (fun _ _ => wide)
              rwa [← k6] at this
            · exact (act_none h a v hv (fun i h1 h2 e => by omega) hc).mono (fun _ _ => wide)
end Go.Proofs.Ytiacpopgnmledaa
